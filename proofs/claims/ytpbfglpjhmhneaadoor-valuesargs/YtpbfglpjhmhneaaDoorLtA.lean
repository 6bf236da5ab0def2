/- Lists of texts with marks behind their ends: LentTexts; what reads as the same: SameTexts, SameReal. -/
import Derived.Test.YtpbfglpjhmhneaaDoorRvA
import Derived.Test.YtpbfglpjhmhneaaDoorFirst4
namespace Go.Proofs.YtpbfglpjhmhneaaDoor
open Go.RowKit Go.PlainAid

def markS (i : Nat) : ByteArray := ⟨#[35, 1, 0, 0, 47, i.toUInt8, 0, 0]⟩
def marks (n : Nat) : List ByteArray := (List.range n).map markS
theorem marks_len (n : Nat) : (marks n).length = n := by simp [marks]
theorem marks_snoc (n : Nat) : marks (n + 1) = marks n ++ [markS n] := by simp [marks, List.range_succ]
theorem marks_get (n i : Nat) (h : i < (marks n).length) : (marks n)[i] = markS i := by simp [marks]

set_option maxRecDepth 1000000 in
set_option maxHeartbeats 1000000 in
theorem markText_any (i : Nat) (hi : i < 24) (w : World) :
    Calls Tryd.prog 14 #[.int .i64 1, .int .i64 (i : Int)] w fun e w' => e = .returned (.string (markS i)) ∧ Keep [] w w' := by
  have hst : (convert 49 9 (.slice (some ⟨w.heap.size, 0, none⟩) 8 8)).run Tryd.prog (w.alloc (.cells #[.int .u8 35, .int .u8 1, .int .u8 0, .int .u8 0, .int .u8 47, .int .u8 (i : Int), .int .u8 0, .int .u8 0] 5 (0, 0))) = .ok (.string (markS i)) (w.alloc (.cells #[.int .u8 35, .int .u8 1, .int .u8 0, .int .u8 0, .int .u8 47, .int .u8 (i : Int), .int .u8 0, .int .u8 0] 5 (0, 0))) := by
    have e : (i : Int) = ((i.toUInt8).toNat : Int) := by simp; omega
    have hr : Row (w.alloc (.cells #[.int .u8 35, .int .u8 1, .int .u8 0, .int .u8 0, .int .u8 47, .int .u8 (i : Int), .int .u8 0, .int .u8 0] 5 (0, 0))) (.slice (some ⟨w.heap.size, 0, none⟩) 8 8) [35, 1, 0, 0, 47, i.toUInt8, 0, 0] := by
      rw [e]
      exact World.ownsRow_lit w #[.int .u8 35, .int .u8 1, .int .u8 0, .int .u8 0, .int .u8 47, .int .u8 (i.toUInt8.toNat : Int), .int .u8 0, .int .u8 0] 8 (Nat.zero_le _) (by unfold maxLen; omega) rfl
    exact run_str hr.bs
  have hw : IntKind.u8.wrap (i : Int) = (i : Int) := by rw [IntKind.wrap_u8]; omega
  have hd1 : (i : Int) / 256 = 0 := by omega
  have hd2 : (i : Int) / 65536 = 0 := by omega
  go_enter Tryd.func14, Tryd.ntmps14
  go_wp2
  go_ret
  exact ⟨rfl, Keep.alloc1 w _⟩

theorem infoS : (Tryd.prog.info? 9).map (fun i => (i.zero, i.size, i.bytes)) = some (some (.string ByteArray.empty), 1, 16) := by kernel_rfl
def strC (l : List ByteArray) : List Value := l.map fun x => .string x
theorem strC_snoc (l : List ByteArray) (x : ByteArray) : strC (l ++ [x]) = strC l ++ [.string x] := by simp [strC]
/-- a row of texts of one's own -/
abbrev RowS (w : World) (v : Value) (l : List ByteArray) : Prop := RowC w 9 1 v l.length (strC l)
theorem src_str (w : World) (x : ByteArray) : Src Tryd.prog 1 30 (.slice (some ⟨w.heap.size, 0, none⟩) 1 1) 1 [.string x] (w.alloc (.cells #[.string x] 9 (0, 0))) := by
  refine Src.ofSlice _ Tryd.underlying30 ⟨w.heap.size, 0, none⟩ 1 1 [.string x] rfl (fun j u hu => ?_) (fun u hu => ?_)
  · have hj : j = 0 := by
      have := (List.getElem?_eq_some_iff.1 hu).1
      simpa using this
    subst hj
    simp at hu
    subst hu
    simp [Addr.add]
  · simp at hu
    subst hu
    rfl

/-- a row of one's own reads as its texts -/
theorem Ts.ofRow {w : World} {g n cap : Nat} {l : List ByteArray} (h : RowS w (.slice (some ⟨g, 0, none⟩) n cap) l) (hs : ∀ s ∈ l, s.size ≤ 9223372036854775807) (hn : n = l.length) : Ts w (.slice (some ⟨g, 0, none⟩) n cap) l := by
  rcases RowC.cases h with ⟨_, _, h3⟩ | ⟨g', cap', he, h1, h2, _, hc, _⟩
  · simp at h3
  · simp at he
    obtain ⟨rfl, _, rfl⟩ := he
    subst hn
    refine ⟨some ⟨g, 0, none⟩, cap, rfl, h1, h2, hs, fun _ => ⟨g, 0, rfl, fun j hj => ?_⟩⟩
    rw [Nat.zero_add, hc j (by omega)]
    simp [strC, hj]
theorem Ts.front {w : World} {g cap : Nat} {a b : List ByteArray} (h : Ts w (.slice (some ⟨g, 0, none⟩) (a.length + b.length) cap) (a ++ b)) : Ts w (.slice (some ⟨g, 0, none⟩) a.length cap) a := by
  obtain ⟨ao, c, he, h1, h2, h3, h4⟩ := h.ex
  simp at he
  obtain ⟨rfl, rfl⟩ := he
  rw [List.length_append] at h1
  refine ⟨some ⟨g, 0, none⟩, cap, rfl, by omega, h2, fun s hs => h3 s (by simp [hs]), fun hl => ?_⟩
  obtain ⟨b', o, he, hc⟩ := h4 (by simp [hl])
  simp at he
  obtain ⟨rfl, rfl⟩ := he
  refine ⟨g, 0, rfl, fun j hj => ?_⟩
  rw [hc j (by rw [List.length_append]; omega)]
  rw [List.getElem_append_left hj]
theorem Ts.at {w : World} {v : Value} {l : List ByteArray} (h : Ts w v l) (k : Nat) (hk : k < l.length) : ∃ b o cap, v = .slice (some ⟨b, o, none⟩) l.length cap ∧ l.length ≤ cap ∧ cap ≤ 9223372036854775807 ∧ w.cell? ⟨b, o + k, none⟩ = some (.string l[k]) := by
  obtain ⟨ao, cap, rfl, h1, h2, _, h4⟩ := h.ex
  obtain ⟨b, o, rfl, hc⟩ := h4 (by intro e; rw [e] at hk; simp at hk)
  exact ⟨b, o, cap, rfl, h1, h2, hc k hk⟩

set_option maxRecDepth 1000000 in
set_option maxHeartbeats 1000000 in
theorem lentRow_any (v : Value) (l : List ByteArray) (w : World) (h : Ts w v l) (hlen : l.length ≤ 8796093021952) :
    Calls Tryd.prog 28 #[v] w fun e w' => ∃ g cap, e = .returned (.slice (some ⟨g, 0, none⟩) l.length cap) ∧ RowS w' (.slice (some ⟨g, 0, none⟩) (l.length + 24) cap) (l ++ marks 24) ∧ Keep [] w w' ∧ w.heap.size ≤ g := by
  have hT : Hid (Ts w v l) := h
  obtain ⟨ao, cap, rfl, -⟩ := h.ex
  clear h
  go_enter Tryd.func28, Tryd.ntmps28
  go_wp2
  go_loopw [3, 4] (fun z3 z4 wr => ∃ (k : Nat), z4 = .int .i64 (k : Int) ∧ k ≤ l.length ∧ Hid (RowS wr z3 (l.take k) ∧ Keep [] w wr ∧ ∀ x, z3.ownBlock = some x → w.heap.size ≤ x)) (fun _ z4 _ => l.length - (intOf z4).toNat)
  case atStart => exact ⟨0, rfl, Nat.zero_le _, ⟨World.ownsRow_nil _ 0 9 1, Keep.refl _ _, fun x hx => by simp [Value.ownBlock] at hx⟩⟩
  case round =>
    obtain ⟨k, rfl, hk, hI⟩ := hrel
    by_cases hlt : k < l.length
    · have hlti : (k : Int) < (l.length : Int) := by omega
      obtain ⟨bb, oo, cc, he, hcc, hcc2, c0⟩ := (hT.out.keep hI.out.2.1 (Off.nil _)).at k hlt
      simp at he
      obtain ⟨rfl, rfl⟩ := he
      have hd : Hid (l.take (k + 1) = l.take k ++ [l[k]]) := List.take_succ_eq_append_getElem hlt
      generalize l[k] = t at c0 hd
      have hal : Hid (((l.take k).length + 1) * 16 ≤ 140737488355328 ∧ (l.take k).length + 1 ≤ maxLen) := by
        show _ ∧ _
        rw [List.length_take]
        refine ⟨by omega, ?_⟩
        unfold maxLen; omega
      have HS : Hid _ := src_str wr t
      have HR : Hid _ := RowC.keep hI.out.1 (Keep.alloc1 wr (.cells #[.string t] 9 (0, 0))) (Off.nil _)
      go_wp2_with (at_builtin; refine wp_appC infoS rfl rfl (.tmp 12) (.tmp 17) 30 30 rfl Tryd.underlying30 u3 (l.take k).length (strC (l.take k)) rfl HR.out _ 1 [.string t] rfl HS.out hal.out.1 hal.out.2 ?_)
      intro v9 w9 R9 K9 F9 S9 _
      obtain ⟨a9, c9, rfl⟩ := S9
      have hx : Hid (RowS w9 (.slice a9 (k + 1) c9) (l.take (k + 1)) ∧ Keep [] w w9 ∧ ∀ x, (Value.slice a9 (k + 1) c9).ownBlock = some x → w.heap.size ≤ x) := by
        have hsz := hI.out.2.1.size
        refine ⟨?_, ?_, fun x hx => ?_⟩
        · unfold RowS; rw [hd.out, strC_snoc, List.length_append, List.length_take, Nat.min_eq_left (Nat.le_of_lt hlt)]; exact R9
        · exact (hI.out.2.1.alloc _).more K9 (fun x hx => .inr (hI.out.2.2 x (by simpa using hx)))
        · rcases F9 with e | e
          · rw [e] at hx; exact hI.out.2.2 x hx
          · have := (e x hx).1; simp at this; omega
      clear R9 K9 F9 HR HS hI
      go_wp2
      go_roundw
      case rel => exact ⟨k + 1, by go_num, by omega, hx⟩
      case measure => simp [intOf]; omega
    · have hlti : ¬ (k : Int) < (l.length : Int) := by omega
      have hI2 : Hid (RowS wr u3 (l ++ marks 0) ∧ Keep [] w wr ∧ ∀ x, u3.ownBlock = some x → w.heap.size ≤ x) := by
        have := hI.out
        rw [List.take_of_length_le (by omega)] at this
        show _ ∧ _
        rw [show marks 0 = [] from rfl, List.append_nil]
        exact this
      clear hI
      go_wp2
      go_loopw [3, 5] (fun z3 z5 wr => ∃ (j : Nat), z5 = .int .i64 (j : Int) ∧ j ≤ 24 ∧ Hid (RowS wr z3 (l ++ marks j) ∧ Keep [] w wr ∧ ∀ x, z3.ownBlock = some x → w.heap.size ≤ x)) (fun _ z5 _ => 24 - (intOf z5).toNat)
      case atStart => exact ⟨0, rfl, by omega, hI2⟩
      case round =>
        clear hI2
        obtain ⟨j, rfl, hj, hI⟩ := hrel
        by_cases hjl : j < 24
        · have hji : (j : Int) < 24 := by omega
          have HM : Hid (∀ w, Calls Tryd.prog 14 #[.int .i64 1, .int .i64 (j : Int)] w fun e w' => e = .returned (.string (markS j)) ∧ Keep [] w w') := fun w => markText_any j hjl w
          have hal : Hid (((l ++ marks j).length + 1) * 16 ≤ 140737488355328 ∧ (l ++ marks j).length + 1 ≤ maxLen) := by
            show _ ∧ _
            rw [List.length_append, marks_len]
            refine ⟨by omega, ?_⟩
            unfold maxLen; omega
          have hsn : Hid (l ++ marks (j + 1) = (l ++ marks j) ++ [markS j]) := by show _ = _; rw [marks_snoc, List.append_assoc]
          go_wp2_with fail
          refine (HM.out _).mono ?_
          rintro e w1 ⟨rfl, k1⟩
          have HS : Hid _ := src_str w1 (markS j)
          have HR : Hid _ := RowC.keep (RowC.keep hI.out.1 k1 (Off.nil _)) (Keep.alloc1 w1 (.cells #[.string (markS j)] 9 (0, 0))) (Off.nil _)
          have hI1 : Hid (Keep [] w w1 ∧ ∀ x, u3.ownBlock = some x → w.heap.size ≤ x) := ⟨hI.out.2.1.trans' k1, hI.out.2.2⟩
          clear k1 hI HM
          generalize hmk : markS j = mk at HS HR hsn ⊢
          clear hmk
          go_wp2_with (at_builtin; refine wp_appC infoS rfl rfl (.tmp 23) (.tmp 26) 30 30 rfl Tryd.underlying30 u3 (l ++ marks j).length (strC (l ++ marks j)) rfl HR.out _ 1 [.string mk] rfl HS.out hal.out.1 hal.out.2 ?_)
          intro v9 w9 R9 K9 F9 S9 _
          obtain ⟨a9, c9, rfl⟩ := S9
          have hx : Hid (RowS w9 (.slice a9 (l.length + (marks j).length + 1) c9) (l ++ marks (j + 1)) ∧ Keep [] w w9 ∧ ∀ x, (Value.slice a9 (l.length + (marks j).length + 1) c9).ownBlock = some x → w.heap.size ≤ x) := by
            have hsz := hI1.out.1.size
            refine ⟨?_, ?_, fun x hx => ?_⟩
            · have e9 : ((l ++ marks j) ++ [mk]).length = l.length + (marks j).length + 1 := by rw [List.length_append, List.length_append]; rfl
              unfold RowS; rw [hsn.out, strC_snoc, e9]; exact R9
            · exact (hI1.out.1.alloc _).more K9 (fun x hx => .inr (hI1.out.2 x (by simpa using hx)))
            · rcases F9 with e | e
              · rw [e] at hx; exact hI1.out.2 x hx
              · have := (e x hx).1; simp at this; omega
          clear R9 K9 F9 HR HS hI1
          go_wp2
          go_roundw
          case rel => exact ⟨j + 1, by go_num, by omega, hx⟩
          case measure => simp [intOf]; omega
        · have hji : ¬ (j : Int) < 24 := by omega
          have hje : j = 24 := by omega
          subst hje
          obtain ⟨h1, h2, h3⟩ := hI.out
          have hll : (l ++ marks 24).length = l.length + 24 := by rw [List.length_append, marks_len]
          rcases RowC.cases h1 with ⟨h0, -⟩ | ⟨g, cap9, e, hc1, hc2, -⟩
          · rw [hll] at h0; omega
          rw [hll] at e hc1
          have hfin : Hid (RowS wr (.slice (some ⟨g, 0, none⟩) (l.length + 24) cap9) (l ++ marks 24) ∧ Keep [] w wr ∧ w.heap.size ≤ g) := ⟨by rw [← e]; exact h1, h2, h3 g (by rw [e]; rfl)⟩
          subst e
          have hcl : l.length ≤ cap9 := by omega
          clear hI h1 h2 h3
          go_wp2
          go_ret
          exact ⟨g, cap9, rfl, hfin.out⟩

theorem marks_size : ∀ s ∈ marks 24, s.size ≤ 9223372036854775807 := by
  intro s hs
  simp [marks] at hs
  obtain ⟨i, _, rfl⟩ := hs
  show (8 : Nat) ≤ _
  omega
theorem Ts.sizes {w : World} {v : Value} {l : List ByteArray} (h : Ts w v l) : ∀ s ∈ l, s.size ≤ 9223372036854775807 := by
  obtain ⟨ao, cap, rfl, _, _, h3, _⟩ := h.ex
  exact h3
/-- LentTexts: a list of one's own that reads as l, with the marks behind its end -/
theorem lentTexts_any (v : Value) (l : List ByteArray) (w : World) (h : Ts w v l) (hlen : l.length ≤ 8796093021952) :
    Calls Tryd.prog 28 #[v] w fun e w' => ∃ g cap, e = .returned (.slice (some ⟨g, 0, none⟩) l.length cap) ∧ (Ts w' (.slice (some ⟨g, 0, none⟩) (l.length + 24) cap) (l ++ marks 24) ∧ Ts w' (.slice (some ⟨g, 0, none⟩) l.length cap) l) ∧ Keep [] w w' ∧ w.heap.size ≤ g := by
  refine (lentRow_any v l w h hlen).mono ?_
  rintro e w' ⟨g, cap, rfl, hr, hk, hg⟩
  have hll : (l ++ marks 24).length = l.length + 24 := by rw [List.length_append, marks_len]
  have h1 : Ts w' (.slice (some ⟨g, 0, none⟩) (l.length + 24) cap) (l ++ marks 24) := Ts.ofRow hr (fun s hs => by
    rcases List.mem_append.1 hs with hs | hs
    · exact h.sizes s hs
    · exact marks_size s hs) hll.symm
  refine ⟨g, cap, rfl, ⟨h1, ?_⟩, hk, hg⟩
  exact Ts.front (b := marks 24) (by rw [marks_len]; exact h1)

/-- SameTexts of two lists that read as one -/
theorem sameTexts_self (u v : Value) (l : List ByteArray) (w : World) (hu : Ts w u l) (hv : Ts w v l) :
    Calls Tryd.prog 70 #[u, v] w fun e w' => e = .returned (.bool true) ∧ ∃ n, w' = w.drewN n := by
  obtain ⟨ao, ca, rfl, p1, p2, _, p4⟩ := hu.ex
  obtain ⟨bo, cb, rfl, q1, q2, _, q4⟩ := hv.ex
  have HE : Hid ((l ≠ [] → ∃ b o, ao = some ⟨b, o, none⟩ ∧ ∀ j (h : j < l.length), w.cell? ⟨b, o + j, none⟩ = some (.string l[j])) ∧ (l ≠ [] → ∃ g o, bo = some ⟨g, o, none⟩ ∧ ∀ j (h : j < l.length), w.cell? ⟨g, o + j, none⟩ = some (.string l[j]))) := ⟨p4, q4⟩
  have hne : ((l.length : Int) != (l.length : Int)) = false := by simp
  clear p4 q4 hu hv
  go_enter Tryd.func70, Tryd.ntmps70
  go_wp2
  go_loopw [5] (fun iv wr => ∃ k n : Nat, iv = .int .i64 (k : Int) ∧ k ≤ l.length ∧ wr = w.drewN n) (fun iv _ => l.length - (intOf iv).toNat)
  case atStart => exact ⟨0, 0, rfl, Nat.zero_le _, rfl⟩
  case round =>
    obtain ⟨k, n, rfl, hka, rfl⟩ := hrel
    by_cases hk : k < l.length
    · have hki : (k : Int) < (l.length : Int) := by omega
      obtain ⟨g, o, rfl, hc⟩ := HE.out.1 (by intro hz; rw [hz] at hk; simp at hk)
      obtain ⟨g', o', rfl, hc'⟩ := HE.out.2 (by intro hz; rw [hz] at hk; simp at hk)
      have hca := hc k hk
      have hcb := hc' k hk
      have hee : (l[k].toList == l[k].toList) = true := by simp
      clear hc hc' HE
      generalize l[k] = s at hca hcb hee
      go_wp2
      go_quiet (fail)
      go_wp2
      go_roundw
      case rel => exact ⟨k + 1, _, by go_num, by omega, rfl⟩
      case measure => simp [intOf]; omega
    · have hki : ¬ ((k : Int) < (l.length : Int)) := by omega
      clear HE
      go_wp2
      go_ret
      exact ⟨rfl, n, rfl⟩

/-- SameReal of a real and itself -/
theorem sameReal_self (x : Nat) (w : World) : Calls Tryd.prog 45 #[.float .f32 x, .float .f32 x] w fun e w' => e = .returned (.bool true) ∧ w' = w := by
  have hb := run_f32bits x
  have hee : ((x : Int) == (x : Int)) = true := by simp
  go_enter Tryd.func45, Tryd.ntmps45
  go_wp2
  go_ret
  exact ⟨rfl, rfl⟩
end Go.Proofs.YtpbfglpjhmhneaaDoor

