/- What a value holds, and how it is written. -/
import Derived.Test.YtncbanpimfhhbaaGreatDoorDcT
namespace Go.Proofs.YtncbanpimfhhbaaGreatDoor
open Go.RowKit Go.PlainAid Go.Lib

theorem held_2 (x : VD) (h : x.kind = 2) (u : Value) (hu : ∃ a n c, u = .slice a n c) (w : World) : Calls Tryz.prog 58 #[x.val u] w fun e w' => e = .returned (.iface 2 (.int .i64 x.int)) ∧ Keep [] w w' := by
  obtain ⟨a, n, c, rfl⟩ := hu
  have k1 : (x.kind == 1) = false := beq_eq_false_iff_ne.2 (by omega)
  have k2 : (x.kind == 2) = true := beq_iff_eq.2 h
  have k3 : (x.kind == 3) = false := beq_eq_false_iff_ne.2 (by omega)
  have k4 : (x.kind == 4) = false := beq_eq_false_iff_ne.2 (by omega)
  clear h
  go_enter Tryz.func58, Tryz.ntmps58
  go_wp2
  go_ret
  exact ⟨rfl, Keep.alloc1 _ _⟩
theorem held_3 (x : VD) (h : x.kind = 3) (u : Value) (hu : ∃ a n c, u = .slice a n c) (w : World) : Calls Tryz.prog 58 #[x.val u] w fun e w' => e = .returned (.iface 28 (.float .f32 x.real)) ∧ Keep [] w w' := by
  obtain ⟨a, n, c, rfl⟩ := hu
  have k1 : (x.kind == 1) = false := beq_eq_false_iff_ne.2 (by omega)
  have k2 : (x.kind == 2) = false := beq_eq_false_iff_ne.2 (by omega)
  have k3 : (x.kind == 3) = true := beq_iff_eq.2 h
  have k4 : (x.kind == 4) = false := beq_eq_false_iff_ne.2 (by omega)
  clear h
  go_enter Tryz.func58, Tryz.ntmps58
  go_wp2
  go_ret
  exact ⟨rfl, Keep.alloc1 _ _⟩
theorem held_4 (x : VD) (h : x.kind = 4) (u : Value) (hu : ∃ a n c, u = .slice a n c) (w : World) : Calls Tryz.prog 58 #[x.val u] w fun e w' => e = .returned (.iface 9 (.string x.text)) ∧ Keep [] w w' := by
  obtain ⟨a, n, c, rfl⟩ := hu
  have k1 : (x.kind == 1) = false := beq_eq_false_iff_ne.2 (by omega)
  have k2 : (x.kind == 2) = false := beq_eq_false_iff_ne.2 (by omega)
  have k3 : (x.kind == 3) = false := beq_eq_false_iff_ne.2 (by omega)
  have k4 : (x.kind == 4) = true := beq_iff_eq.2 h
  clear h
  go_enter Tryz.func58, Tryz.ntmps58
  go_wp2
  go_ret
  exact ⟨rfl, Keep.alloc1 _ _⟩
theorem held_5 (x : VD) (h : x.kind = 5) (u : Value) (hu : ∃ a n c, u = .slice a n c) (w : World) : Calls Tryz.prog 58 #[x.val u] w fun e w' => e = .returned (.iface 29 u) ∧ Keep [] w w' := by
  obtain ⟨a, n, c, rfl⟩ := hu
  have k1 : (x.kind == 1) = false := beq_eq_false_iff_ne.2 (by omega)
  have k2 : (x.kind == 2) = false := beq_eq_false_iff_ne.2 (by omega)
  have k3 : (x.kind == 3) = false := beq_eq_false_iff_ne.2 (by omega)
  have k4 : (x.kind == 4) = false := beq_eq_false_iff_ne.2 (by omega)
  clear h
  go_enter Tryz.func58, Tryz.ntmps58
  go_wp2
  go_ret
  exact ⟨rfl, Keep.alloc1 _ _⟩

theorem Ts.at' {w : World} {v : Value} {l : List ByteArray} (h : Ts w v l) (k : Nat) (hk : k < l.length) : ∃ b o cap, v = .slice (some ⟨b, o, none⟩) l.length cap ∧ l.length ≤ cap ∧ cap ≤ 9223372036854775807 ∧ w.cell? ⟨b, o + k, none⟩ = some (.string l[k]) := by
  obtain ⟨ao, cap, rfl, h1, h2, _, h4⟩ := h.ex
  obtain ⟨b, o, rfl, hc⟩ := h4 (by intro e; rw [e] at hk; simp at hk)
  exact ⟨b, o, cap, rfl, h1, h2, hc k hk⟩
theorem Ts.keep' {F : List Nat} {w w' : World} {v : Value} {l : List ByteArray} (h : Ts w v l) (k : Keep F w w') (hn : l ≠ [] → Off v F) : Ts w' v l := by
  obtain ⟨ao, cap, rfl, h1, h2, h3, h4⟩ := h.ex
  refine ⟨ao, cap, rfl, h1, h2, h3, fun hl => ?_⟩
  obtain ⟨b, o, rfl, hc⟩ := h4 hl
  exact ⟨b, o, rfl, fun j hj => k.cell' (hc j hj) (hn hl b rfl)⟩
theorem Wrote.trans {w w1 w2 : World} {b o : Nat} {l r r2 : List UInt8} {rb rb1 : Option Nat} (h1 : Keep (b :: rb.toList) w w1) (hn : Newer w w1 rb rb1) (h2 : Wrote w1 w2 b o (l ++ r) r2 rb1) : Wrote w w2 b o l (r ++ r2) rb := by
  obtain ⟨rb2, g1, g2, g3⟩ := h2
  refine ⟨rb2, by rw [← List.append_assoc]; exact g1, h1.trans g2 (fun x hx => .inl hx) (fun x hx => hn.foot x hx), hn.trans g3 h1.size g2.size⟩

set_option maxRecDepth 1000000 in
set_option maxHeartbeats 1600000 in
theorem write_1 (b o : Nat) (l : List UInt8) (rb : Option Nat) (t : Bool) (w : World) (hw : Wr w b o l rb) (hn : l.length ≤ 1000) :
    Calls Tryz.prog 66 #[.pointer (some ⟨b, o, none⟩), .iface 4 (.bool t)] w fun e w' => e = .returned (.tuple #[]) ∧ Wrote w w' b o l ([if t then 1 else 0]) rb := by
  have hC := wByte_any b o l rb (if t then 1 else 0) (by split <;> omega) w hw (by omega)
  have hb := bit_any t
  have e : b2i t = (((if t then 1 else 0 : Nat)) : Int) := by cases t <;> rfl
  have e2 : (if t then 1 else 0 : Nat).toUInt8 = (if t then 1 else 0 : UInt8) := by cases t <;> rfl
  rw [e2, ← e] at hC
  clear e e2
  generalize b2i t = z at *
  generalize ([if t then 1 else 0] : List UInt8) = q at hC ⊢
  have ta4 := ta_4_4
  clear hw hn
  go_enter Tryz.func66, Tryz.ntmps66
  go_wp2_with (first | (go_at_call 100; refine (hb _).mono ?_; rintro e9 w9 ⟨rfl, hw9⟩; obtain rfl := hw9.symm) | (go_at_call 65; refine hC.mono ?_; rintro e9 w9 ⟨rfl, hw9⟩))
  go_end0
  exact ⟨rfl, hw9⟩

set_option maxRecDepth 1000000 in
set_option maxHeartbeats 1600000 in
theorem write_2 (b o : Nat) (l : List UInt8) (rb : Option Nat) (t : Int) (h0 : -9223372036854775808 ≤ t) (h1 : t ≤ 9223372036854775807) (w : World) (hw : Wr w b o l rb) (hn : l.length ≤ 1000) :
    Calls Tryz.prog 66 #[.pointer (some ⟨b, o, none⟩), .iface 2 (.int .i64 t)] w fun e w' => e = .returned (.tuple #[]) ∧ Wrote w w' b o l (uvarint (zigzag t)) rb := by
  have hC := wInt_any b o l rb t h0 h1 w hw (by omega)
  have ta4 := ta_2_4
  have ta2 := ta_2_2
  clear hw hn
  go_enter Tryz.func66, Tryz.ntmps66
  go_wp2_with (first | (go_at_call 101; refine hC.mono ?_; rintro e9 w9 ⟨rfl, hw9⟩))
  go_end0
  exact ⟨rfl, hw9⟩

set_option maxRecDepth 1000000 in
set_option maxHeartbeats 1600000 in
theorem write_3 (b o : Nat) (l : List UInt8) (rb : Option Nat) (t : Nat) (ht : t < 4294967296) (w : World) (hw : Wr w b o l rb) (hn : l.length ≤ 1000) :
    Calls Tryz.prog 66 #[.pointer (some ⟨b, o, none⟩), .iface 28 (.float .f32 t)] w fun e w' => e = .returned (.tuple #[]) ∧ Wrote w w' b o l (four (keyN t)) rb := by
  have hC := wReal_any b o l rb t ht w hw (by omega)
  have ta4 := ta_26_4
  have ta2 := ta_26_2
  have ta26 := ta_26_26
  clear hw hn
  go_enter Tryz.func66, Tryz.ntmps66
  go_wp2_with (first | (go_at_call 102; refine hC.mono ?_; rintro e9 w9 ⟨rfl, hw9⟩))
  go_end0
  exact ⟨rfl, hw9⟩

set_option maxRecDepth 1000000 in
set_option maxHeartbeats 1600000 in
theorem write_4 (b o : Nat) (l : List UInt8) (rb : Option Nat) (t : ByteArray) (ht : t.size ≤ 256) (w : World) (hw : Wr w b o l rb) (hn : l.length ≤ 1000) :
    Calls Tryz.prog 66 #[.pointer (some ⟨b, o, none⟩), .iface 9 (.string t)] w fun e w' => e = .returned (.tuple #[]) ∧ Wrote w w' b o l (textB t) rb := by
  have hC := wText_any b o l rb t w hw (by omega)
  change Calls _ _ _ _ fun e w' => e = .returned (.tuple #[]) ∧ Wrote w w' b o l (textB t) rb at hC
  have ta4 := ta_9_4
  have ta2 := ta_9_2
  have ta26 := ta_9_26
  have ta9 := ta_9_9
  clear hw hn
  go_enter Tryz.func66, Tryz.ntmps66
  go_wp2_with (first | (go_at_call 103; refine hC.mono ?_; rintro e9 w9 ⟨rfl, hw9⟩))
  go_end0
  exact ⟨rfl, hw9⟩

theorem textB_len (s : ByteArray) (h : s.size ≤ 256) : (textB s).length ≤ 266 := by
  have := uvarint_length64 (x := s.size) (by omega)
  have e : s.data.toList.length = s.size := by simp
  unfold textB
  rw [List.length_append, e]
  omega
theorem textsB_len : ∀ (l : List ByteArray), (∀ s ∈ l, s.size ≤ 256) → (textsB l).length ≤ 266 * l.length
  | [], _ => by simp [textsB]
  | s :: l, h => by
    have h1 := textB_len s (h s (by simp))
    have h2 := textsB_len l (fun t ht => h t (by simp [ht]))
    unfold textsB at h2 ⊢
    rw [List.flatMap_cons, List.length_append, List.length_cons]
    omega
theorem textsB_snoc (l : List ByteArray) (s : ByteArray) : textsB (l ++ [s]) = textsB l ++ textB s := by
  unfold textsB; rw [List.flatMap_append]; simp

set_option maxRecDepth 1000000 in
set_option maxHeartbeats 1600000 in
theorem write_5 (b o : Nat) (l : List UInt8) (rb : Option Nat) (u : Value) (ts : List ByteArray) (w : World) (hw : Wr w b o l rb) (hu : Ts w u ts) (hoff : ts ≠ [] → Off u (b :: rb.toList)) (hn : l.length ≤ 1000) (hl : ts.length ≤ 32) (hs : ∀ s ∈ ts, s.size ≤ 256) :
    Calls Tryz.prog 66 #[.pointer (some ⟨b, o, none⟩), .iface 29 u] w fun e w' => e = .returned (.tuple #[]) ∧ Wrote w w' b o l (uvarint ts.length ++ textsB ts) rb := by
  have hC := wUint_any b o l rb ts.length (by omega) w hw (by omega)
  have HU : Hid (∀ w', Keep (b :: rb.toList) w w' → Ts w' u ts) := fun w' k => hu.keep' k hoff
  have hul := uvarint_length64 (x := ts.length) (by omega)
  have HB : Hid (l.length ≤ 1000 ∧ (uvarint ts.length).length ≤ 10 ∧ ∀ s ∈ ts, s.size ≤ 256) := ⟨hn, hul, hs⟩
  obtain ⟨ao, ca, rfl, p1, p2, _, _⟩ := hu.ex
  clear hw hn hs hul hu hoff
  have ta4 := ta_24_4
  have ta2 := ta_24_2
  have ta26 := ta_24_26
  have ta9 := ta_24_9
  have ta24 := ta_24_24
  go_enter Tryz.func66, Tryz.ntmps66
  go_wp2_with (go_at_call 104; refine hC.mono ?_; rintro e9 w1 ⟨rfl, hw9⟩)
  obtain ⟨rb1, h1, h2, h3⟩ := hw9
  have HI : Hid (Wr w1 b o (l ++ (uvarint ts.length ++ textsB (ts.take 0))) rb1 ∧ Keep (b :: rb.toList) w w1 ∧ Newer w w1 rb rb1) := ⟨by simpa [textsB] using h1, h2, h3⟩
  clear h1 h2 h3 hC
  go_loopw [47] (fun iv wr => ∃ k : Nat, iv = .int .i64 (k : Int) ∧ k ≤ ts.length ∧ Hid (∃ rb', Wr wr b o (l ++ (uvarint ts.length ++ textsB (ts.take k))) rb' ∧ Keep (b :: rb.toList) w wr ∧ Newer w wr rb rb')) (fun iv _ => ts.length - (intOf iv).toNat)
  case atStart => exact ⟨0, rfl, Nat.zero_le _, ⟨rb1, HI.out⟩⟩
  case round =>
    clear HI
    obtain ⟨k, rfl, hk, HI⟩ := hrel
    by_cases hlt : k < ts.length
    · have hki : (k : Int) < (ts.length : Int) := by omega
      obtain ⟨rb', j1, j2, j3⟩ := HI.out
      obtain ⟨g, o', c', he, _, _, hca⟩ := (HU.out wr j2).at' k hlt
      simp at he
      obtain ⟨rfl, rfl⟩ := he
      have hlen : (l ++ (uvarint ts.length ++ textsB (ts.take k))).length + 10 + ts[k].size ≤ 140737488355328 := by
        have e1 := textsB_len (ts.take k) (fun s hs => HB.out.2.2 s (List.mem_of_mem_take hs))
        have e2 := HB.out.2.2 ts[k] (List.getElem_mem hlt)
        have e3 := HB.out.1
        have e4 := HB.out.2.1
        rw [List.length_take] at e1
        rw [List.length_append, List.length_append]
        omega
      have hT := wText_any b o _ rb' ts[k] wr j1 hlen
      have HN : Hid (∀ w9, Wrote wr w9 b o (l ++ (uvarint ts.length ++ textsB (ts.take k))) (uvarint ts[k].size ++ ts[k].data.toList) rb' → ∃ rb9, Wr w9 b o (l ++ (uvarint ts.length ++ textsB (ts.take (k + 1)))) rb9 ∧ Keep (b :: rb.toList) w w9 ∧ Newer w w9 rb rb9) := fun w9 h9 => by
        obtain ⟨rb9, g1, g2, g3⟩ := h9
        refine ⟨rb9, ?_, j2.trans g2 (fun x hx => .inl hx) (fun x hx => j3.foot x hx), j3.trans g3 j2.size g2.size⟩
        rw [List.take_succ_eq_append_getElem hlt, textsB_snoc]
        simpa [textB, List.append_assoc] using g1
      clear HI j1 j2 j3 hlen
      generalize ts[k] = s at hca hT HN
      go_wp2_with (go_at_call 103; refine hT.mono ?_; rintro e9 w9 ⟨rfl, h9⟩)
      have HJ : Hid _ := HN.out _ h9
      clear h9 HN hT
      go_roundw
      case rel => exact ⟨k + 1, by go_num, by omega, HJ⟩
      case measure => simp [intOf]; omega
    · have hki : ¬ (k : Int) < (ts.length : Int) := by omega
      have HF : Hid (Wrote w wr b o l (uvarint ts.length ++ textsB ts) rb) := by
        obtain ⟨rb', j1, j2, j3⟩ := HI.out
        rw [List.take_of_length_le (by omega)] at j1
        exact ⟨rb', j1, j2, j3⟩
      clear HI
      go_wp2
      go_end0
      exact ⟨rfl, HF.out⟩
end Go.Proofs.YtncbanpimfhhbaaGreatDoor

