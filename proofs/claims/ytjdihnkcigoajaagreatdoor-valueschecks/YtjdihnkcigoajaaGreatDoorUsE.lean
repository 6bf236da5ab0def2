/- What a value holds, and how it is written. -/
import Derived.Test.YtjdihnkcigoajaaGreatDoorDcT
import Derived.Test.YtjdihnkcigoajaaGreatDoorSameR
import Derived.Test.YtjdihnkcigoajaaGreatDoorPfD

namespace Go.Proofs.YtjdihnkcigoajaaGreatDoor
open Go.RowKit Go.PlainAid Go.Lib

theorem held_2 (x : VD) (h : x.kind = 2) (u : Value) (hu : ∃ a n c, u = .slice a n c) (w : World) : Calls Tryz.prog 17 #[x.val u] w fun e w' => e = .returned (.iface 2 (.int .i64 x.int)) ∧ Keep [] w w' := by
  obtain ⟨a, n, c, rfl⟩ := hu
  have k1 : (x.kind == 1) = false := beq_eq_false_iff_ne.2 (by omega)
  have k2 : (x.kind == 2) = true := beq_iff_eq.2 h
  have k3 : (x.kind == 3) = false := beq_eq_false_iff_ne.2 (by omega)
  have k4 : (x.kind == 4) = false := beq_eq_false_iff_ne.2 (by omega)
  clear h
  go_enter Tryz.func17, Tryz.ntmps17
  go_wp2
  go_ret
  exact ⟨rfl, Keep.alloc1 _ _⟩
theorem held_3 (x : VD) (h : x.kind = 3) (u : Value) (hu : ∃ a n c, u = .slice a n c) (w : World) : Calls Tryz.prog 17 #[x.val u] w fun e w' => e = .returned (.iface 22 (.float .f32 x.real)) ∧ Keep [] w w' := by
  obtain ⟨a, n, c, rfl⟩ := hu
  have k1 : (x.kind == 1) = false := beq_eq_false_iff_ne.2 (by omega)
  have k2 : (x.kind == 2) = false := beq_eq_false_iff_ne.2 (by omega)
  have k3 : (x.kind == 3) = true := beq_iff_eq.2 h
  have k4 : (x.kind == 4) = false := beq_eq_false_iff_ne.2 (by omega)
  clear h
  go_enter Tryz.func17, Tryz.ntmps17
  go_wp2
  go_ret
  exact ⟨rfl, Keep.alloc1 _ _⟩
theorem held_4 (x : VD) (h : x.kind = 4) (u : Value) (hu : ∃ a n c, u = .slice a n c) (w : World) : Calls Tryz.prog 17 #[x.val u] w fun e w' => e = .returned (.iface 9 (.string x.text)) ∧ Keep [] w w' := by
  obtain ⟨a, n, c, rfl⟩ := hu
  have k1 : (x.kind == 1) = false := beq_eq_false_iff_ne.2 (by omega)
  have k2 : (x.kind == 2) = false := beq_eq_false_iff_ne.2 (by omega)
  have k3 : (x.kind == 3) = false := beq_eq_false_iff_ne.2 (by omega)
  have k4 : (x.kind == 4) = true := beq_iff_eq.2 h
  clear h
  go_enter Tryz.func17, Tryz.ntmps17
  go_wp2
  go_ret
  exact ⟨rfl, Keep.alloc1 _ _⟩
theorem held_5 (x : VD) (h : x.kind = 5) (u : Value) (hu : ∃ a n c, u = .slice a n c) (w : World) : Calls Tryz.prog 17 #[x.val u] w fun e w' => e = .returned (.iface 23 u) ∧ Keep [] w w' := by
  obtain ⟨a, n, c, rfl⟩ := hu
  have k1 : (x.kind == 1) = false := beq_eq_false_iff_ne.2 (by omega)
  have k2 : (x.kind == 2) = false := beq_eq_false_iff_ne.2 (by omega)
  have k3 : (x.kind == 3) = false := beq_eq_false_iff_ne.2 (by omega)
  have k4 : (x.kind == 4) = false := beq_eq_false_iff_ne.2 (by omega)
  clear h
  go_enter Tryz.func17, Tryz.ntmps17
  go_wp2
  go_ret
  exact ⟨rfl, Keep.alloc1 _ _⟩

theorem Ts.at' {w : World} {v : Value} {l : List ByteArray} (h : Ts w v l) (k : Nat) (hk : k < l.length) : ∃ b o cap, v = .slice (some ⟨b, o, none⟩) l.length cap ∧ l.length ≤ cap ∧ cap ≤ 9223372036854775807 ∧ w.cell? ⟨b, o + k, none⟩ = some (.string l[k]) := by
  obtain ⟨ao, cap, rfl, h1, h2, _, h4⟩ := h.ex
  obtain ⟨b, o, rfl, hc⟩ := h4 (by intro e; rw [e] at hk; simp at hk)
  exact ⟨b, o, cap, rfl, h1, h2, hc k hk⟩
theorem Ts.keep' {F : List Nat} {w w' : World} {v : Value} {l : List ByteArray} (h : Ts w v l) (k : Keep F w w') (hn : l ≠ [] → Off v F) : Ts w' v l := by
  obtain ⟨ao, cap, rfl, h1, h2, h3, h4⟩ := h.ex
  refine ⟨ao, cap, rfl, h1, h2, h3, fun hl => ?_⟩
  obtain ⟨b, o, rfl, hc⟩ := h4 hl
  exact ⟨b, o, rfl, fun j hj => k.cell' (hc j hj) (hn hl b rfl)⟩
theorem Wrote.trans {w w1 w2 : World} {b o : Nat} {l r r2 : List UInt8} {rb rb1 : Option Nat} (h1 : Keep (b :: rb.toList) w w1) (hn : Newer w w1 rb rb1) (h2 : Wrote w1 w2 b o (l ++ r) r2 rb1) : Wrote w w2 b o l (r ++ r2) rb := by
  obtain ⟨rb2, g1, g2, g3⟩ := h2
  refine ⟨rb2, by rw [← List.append_assoc]; exact g1, h1.trans g2 (fun x hx => .inl hx) (fun x hx => hn.foot x hx), hn.trans g3 h1.size g2.size⟩

set_option maxRecDepth 1000000 in
set_option maxHeartbeats 1600000 in
theorem write_1 (b o : Nat) (l : List UInt8) (rb : Option Nat) (t : Bool) (w : World) (hw : Wr w b o l rb) (hn : l.length ≤ 1000) :
    Calls Tryz.prog 19 #[.pointer (some ⟨b, o, none⟩), .iface 4 (.bool t)] w fun e w' => e = .returned (.tuple #[]) ∧ Wrote w w' b o l ([if t then 1 else 0]) rb := by
  have hC := wByte_any b o l rb (if t then 1 else 0) (by split <;> omega) w hw (by omega)
  have hb := bit_any t
  have e : b2i t = (((if t then 1 else 0 : Nat)) : Int) := by cases t <;> rfl
  have e2 : (if t then 1 else 0 : Nat).toUInt8 = (if t then 1 else 0 : UInt8) := by cases t <;> rfl
  rw [e2, ← e] at hC
  clear e e2
  generalize b2i t = z at *
  generalize ([if t then 1 else 0] : List UInt8) = q at hC ⊢
  have ta4 := ta_4_4
  clear hw hn
  go_enter Tryz.func19, Tryz.ntmps19
  go_wp2_with (first | (go_at_call 39; refine (hb _).mono ?_; rintro e9 w9 ⟨rfl, hw9⟩; obtain rfl := hw9.symm) | (go_at_call 18; refine hC.mono ?_; rintro e9 w9 ⟨rfl, hw9⟩))
  go_end0
  exact ⟨rfl, hw9⟩

set_option maxRecDepth 1000000 in
set_option maxHeartbeats 1600000 in
theorem write_2 (b o : Nat) (l : List UInt8) (rb : Option Nat) (t : Int) (h0 : -9223372036854775808 ≤ t) (h1 : t ≤ 9223372036854775807) (w : World) (hw : Wr w b o l rb) (hn : l.length ≤ 1000) :
    Calls Tryz.prog 19 #[.pointer (some ⟨b, o, none⟩), .iface 2 (.int .i64 t)] w fun e w' => e = .returned (.tuple #[]) ∧ Wrote w w' b o l (uvarint (zigzag t)) rb := by
  have hC := wInt_any b o l rb t h0 h1 w hw (by omega)
  have ta4 := ta_2_4
  have ta2 := ta_2_2
  clear hw hn
  go_enter Tryz.func19, Tryz.ntmps19
  go_wp2_with (first | (go_at_call 40; refine hC.mono ?_; rintro e9 w9 ⟨rfl, hw9⟩))
  go_end0
  exact ⟨rfl, hw9⟩

set_option maxRecDepth 1000000 in
set_option maxHeartbeats 1600000 in
theorem write_3 (b o : Nat) (l : List UInt8) (rb : Option Nat) (t : Nat) (ht : t < 4294967296) (w : World) (hw : Wr w b o l rb) (hn : l.length ≤ 1000) :
    Calls Tryz.prog 19 #[.pointer (some ⟨b, o, none⟩), .iface 22 (.float .f32 t)] w fun e w' => e = .returned (.tuple #[]) ∧ Wrote w w' b o l (four (keyN t)) rb := by
  have hC := wReal_any b o l rb t ht w hw (by omega)
  have ta4 := ta_26_4
  have ta2 := ta_26_2
  have ta26 := ta_26_26
  clear hw hn
  go_enter Tryz.func19, Tryz.ntmps19
  go_wp2_with (first | (go_at_call 41; refine hC.mono ?_; rintro e9 w9 ⟨rfl, hw9⟩))
  go_end0
  exact ⟨rfl, hw9⟩

set_option maxRecDepth 1000000 in
set_option maxHeartbeats 1600000 in
theorem write_4 (b o : Nat) (l : List UInt8) (rb : Option Nat) (t : ByteArray) (ht : t.size ≤ 256) (w : World) (hw : Wr w b o l rb) (hn : l.length ≤ 1000) :
    Calls Tryz.prog 19 #[.pointer (some ⟨b, o, none⟩), .iface 9 (.string t)] w fun e w' => e = .returned (.tuple #[]) ∧ Wrote w w' b o l (vtextB t) rb := by
  have hC := wText_any b o l rb t w hw (by omega)
  change Calls _ _ _ _ fun e w' => e = .returned (.tuple #[]) ∧ Wrote w w' b o l (vtextB t) rb at hC
  have ta4 := ta_9_4
  have ta2 := ta_9_2
  have ta26 := ta_9_26
  have ta9 := ta_9_9
  clear hw hn
  go_enter Tryz.func19, Tryz.ntmps19
  go_wp2_with (first | (go_at_call 42; refine hC.mono ?_; rintro e9 w9 ⟨rfl, hw9⟩))
  go_end0
  exact ⟨rfl, hw9⟩

theorem textB_len (s : ByteArray) (h : s.size ≤ 256) : (vtextB s).length ≤ 266 := by
  have := uvarint_length64 (x := s.size) (by omega)
  have e : s.data.toList.length = s.size := by simp
  unfold vtextB
  rw [List.length_append, e]
  omega
theorem textsB_len : ∀ (l : List ByteArray), (∀ s ∈ l, s.size ≤ 256) → (textsB l).length ≤ 266 * l.length
  | [], _ => by simp [textsB]
  | s :: l, h => by
    have h1 := textB_len s (h s (by simp))
    have h2 := textsB_len l (fun t ht => h t (by simp [ht]))
    unfold textsB at h2 ⊢
    rw [List.flatMap_cons, List.length_append, List.length_cons]
    omega
theorem textsB_snoc (l : List ByteArray) (s : ByteArray) : textsB (l ++ [s]) = textsB l ++ vtextB s := by
  unfold textsB; rw [List.flatMap_append]; simp

set_option maxRecDepth 1000000 in
set_option maxHeartbeats 1600000 in
theorem write_5 (b o : Nat) (l : List UInt8) (rb : Option Nat) (u : Value) (ts : List ByteArray) (w : World) (hw : Wr w b o l rb) (hu : Ts w u ts) (hoff : ts ≠ [] → Off u (b :: rb.toList)) (hn : l.length ≤ 1000) (hl : ts.length ≤ 32) (hs : ∀ s ∈ ts, s.size ≤ 256) :
    Calls Tryz.prog 19 #[.pointer (some ⟨b, o, none⟩), .iface 23 u] w fun e w' => e = .returned (.tuple #[]) ∧ Wrote w w' b o l (uvarint ts.length ++ textsB ts) rb := by
  have hC := wUint_any b o l rb ts.length (by omega) w hw (by omega)
  have HU : Hid (∀ w', Keep (b :: rb.toList) w w' → Ts w' u ts) := fun w' k => hu.keep' k hoff
  have hul := uvarint_length64 (x := ts.length) (by omega)
  have HB : Hid (l.length ≤ 1000 ∧ (uvarint ts.length).length ≤ 10 ∧ ∀ s ∈ ts, s.size ≤ 256) := ⟨hn, hul, hs⟩
  obtain ⟨ao, ca, rfl, p1, p2, _, _⟩ := hu.ex
  clear hw hn hs hul hu hoff
  have ta4 := ta_24_4
  have ta2 := ta_24_2
  have ta26 := ta_24_26
  have ta9 := ta_24_9
  have ta24 := ta_24_24
  go_enter Tryz.func19, Tryz.ntmps19
  go_wp2_with (go_at_call 43; refine hC.mono ?_; rintro e9 w1 ⟨rfl, hw9⟩)
  obtain ⟨rb1, h1, h2, h3⟩ := hw9
  have HI : Hid (Wr w1 b o (l ++ (uvarint ts.length ++ textsB (ts.take 0))) rb1 ∧ Keep (b :: rb.toList) w w1 ∧ Newer w w1 rb rb1) := ⟨by simpa [textsB] using h1, h2, h3⟩
  clear h1 h2 h3 hC
  go_loopw [47] (fun iv wr => ∃ k : Nat, iv = .int .i64 (k : Int) ∧ k ≤ ts.length ∧ Hid (∃ rb', Wr wr b o (l ++ (uvarint ts.length ++ textsB (ts.take k))) rb' ∧ Keep (b :: rb.toList) w wr ∧ Newer w wr rb rb')) (fun iv _ => ts.length - (RowKit.intOf iv).toNat)
  case atStart => exact ⟨0, rfl, Nat.zero_le _, ⟨rb1, HI.out⟩⟩
  case round =>
    clear HI
    obtain ⟨k, rfl, hk, HI⟩ := hrel
    by_cases hlt : k < ts.length
    · have hki : (k : Int) < (ts.length : Int) := by omega
      obtain ⟨rb', j1, j2, j3⟩ := HI.out
      obtain ⟨g, o', c', he, _, _, hca⟩ := (HU.out wr j2).at' k hlt
      simp at he
      obtain ⟨rfl, rfl⟩ := he
      have hlen : (l ++ (uvarint ts.length ++ textsB (ts.take k))).length + 10 + ts[k].size ≤ 140737488355328 := by
        have e1 := textsB_len (ts.take k) (fun s hs => HB.out.2.2 s (List.mem_of_mem_take hs))
        have e2 := HB.out.2.2 ts[k] (List.getElem_mem hlt)
        have e3 := HB.out.1
        have e4 := HB.out.2.1
        rw [List.length_take] at e1
        rw [List.length_append, List.length_append]
        omega
      have hT := wText_any b o _ rb' ts[k] wr j1 hlen
      have HN : Hid (∀ w9, Wrote wr w9 b o (l ++ (uvarint ts.length ++ textsB (ts.take k))) (uvarint ts[k].size ++ ts[k].data.toList) rb' → ∃ rb9, Wr w9 b o (l ++ (uvarint ts.length ++ textsB (ts.take (k + 1)))) rb9 ∧ Keep (b :: rb.toList) w w9 ∧ Newer w w9 rb rb9) := fun w9 h9 => by
        obtain ⟨rb9, g1, g2, g3⟩ := h9
        refine ⟨rb9, ?_, j2.trans g2 (fun x hx => .inl hx) (fun x hx => j3.foot x hx), j3.trans g3 j2.size g2.size⟩
        rw [List.take_succ_eq_append_getElem hlt, textsB_snoc]
        simpa [vtextB, List.append_assoc] using g1
      clear HI j1 j2 j3 hlen
      generalize ts[k] = s at hca hT HN
      go_wp2_with (go_at_call 42; refine hT.mono ?_; rintro e9 w9 ⟨rfl, h9⟩)
      have HJ : Hid _ := HN.out _ h9
      clear h9 HN hT
      go_roundw
      case rel => exact ⟨k + 1, by go_num, by omega, HJ⟩
      case measure => simp [RowKit.intOf]; omega
    · have hki : ¬ (k : Int) < (ts.length : Int) := by omega
      have HF : Hid (Wrote w wr b o l (uvarint ts.length ++ textsB ts) rb) := by
        obtain ⟨rb', j1, j2, j3⟩ := HI.out
        rw [List.take_of_length_le (by omega)] at j1
        exact ⟨rb', j1, j2, j3⟩
      clear HI
      go_wp2
      go_end0
      exact ⟨rfl, HF.out⟩
end Go.Proofs.YtjdihnkcigoajaaGreatDoor


/- Comparing is an order where it can be asked. -/
namespace Go.Proofs.YtjdihnkcigoajaaGreatDoor
open Go.RowKit Go.PlainAid Go.Lib

theorem ord_cmpI : Ord3 cmpI := by
  refine ⟨fun a b => ?_, fun a b => ?_, fun a b => ?_, fun a b c => ?_⟩ <;> unfold cmpI
  · split
    · exact .inl rfl
    · split
      · exact .inr (.inr rfl)
      · exact .inr (.inl rfl)
  · rcases Int.lt_trichotomy a b with h | h | h
    · rw [if_neg (by omega), if_pos h, if_pos h]; rfl
    · subst h; simp
    · rw [if_pos h, if_neg (by omega), if_pos h]
  · split
    · constructor
      · intro h; simp at h
      · intro h; omega
    · split
      · constructor
        · intro h; simp at h
        · intro h; omega
      · constructor
        · intro _; omega
        · intro _; rfl
  · intro h1 h2
    split at h1
    · split at h2
      · rw [if_pos (by omega)]
      · split at h2 <;> simp at h2
    · split at h1 <;> simp at h1

theorem Ord3.le3 {α : Type} {f : α → α → Int} (h : Ord3 f) (a b c : α) (h1 : f a b ≤ 0) (h2 : f b c ≤ 0) : f a c ≤ 0 ∧ ((f a b < 0 ∨ f b c < 0) → f a c < 0) := by
  rcases h.range a b with e1 | e1 | e1
  · rcases h.range b c with e2 | e2 | e2
    · have := h.trans a b c e1 e2; omega
    · rw [← (h.same b c).1 e2]; omega
    · omega
  · have := (h.same a b).1 e1
    subst this
    exact ⟨h2, fun h => by omega⟩
  · omega

theorem cmpI_scale (a b : Int) : cmpI (a * 2 ^ 149) (b * 2 ^ 149) = cmpI a b := by
  have hP : (0 : Int) < 2 ^ 149 := by decide
  unfold cmpI
  rcases Int.lt_trichotomy a b with h | h | h
  · rw [if_pos h, if_pos (Int.mul_lt_mul_of_pos_right h hP)]
  · subst h; simp
  · have := Int.mul_lt_mul_of_pos_right h hP
    rw [if_neg (by omega), if_pos this, if_neg (by omega), if_pos h]

theorem may_kind (p : VD) (h : p.mayB = true) : 1 ≤ p.kind ∧ p.kind ≤ 5 := by
  unfold VD.mayB at h
  simp at h
  exact h.1.1
theorem zero_nan (x : Nat) (h : zeroB x = true) : nanB x = false := by
  unfold zeroB at h
  simp at h
  rcases h with rfl | rfl <;> decide
theorem clear_real (p : VD) (hk : p.kind ≠ 3) : p.clear.real = p.real := by
  unfold VD.clear
  split
  · rfl
  · split
    · rfl
    · split <;> rfl
theorem may_nan (p : VD) (h : p.mayB = true) (hk : p.kind ≠ 3) : nanB p.real = false := by
  apply zero_nan
  unfold VD.mayB at h
  simp only [Bool.and_eq_true] at h
  have h2 := h.1.2
  unfold VD.emptyB at h2
  simp only [Bool.and_eq_true] at h2
  rw [clear_real p hk] at h2
  exact h2.1.1.2

/-- a number's worth -/
def keyZ (p : VD) : Int := if p.kind = 2 then p.int * 2 ^ 149 else svalZ p.real
def numB (p : VD) : Bool := p.kind == 2 || p.kind == 3

theorem cmp_num (a b : VD) (ha : a.mayB = true) (hb : b.mayB = true) (na : numB a = true) (nb : numB b = true) (xa : nanB a.real = false) (xb : nanB b.real = false) : cmpV a b = (cmpI (keyZ a) (keyZ b), true) := by
  unfold cmpV keyZ
  rw [ha, hb, if_neg (by decide)]
  unfold numB at na nb
  simp at na nb
  rcases na with na | na <;> rcases nb with nb | nb
  · rw [if_pos (na.trans nb.symm), if_pos na, if_pos nb]
    rw [cmpI_scale]
    simp [likeV, na]
  · rw [if_neg (by omega), if_neg (by omega), if_pos ⟨na, nb⟩, if_pos na, if_neg (by omega)]
    simp only [cmpXN, xb]
    have := ord_cmpI.anti (svalZ b.real) (a.int * 2 ^ 149)
    rw [this]
    simp
  · rw [if_neg (by omega), if_pos ⟨na, nb⟩, if_neg (by omega), if_pos nb]
    simp [cmpXN, xa]
  · rw [if_pos (na.trans nb.symm), if_neg (by omega), if_neg (by omega)]
    simp [likeV, na, cmpR, xa, xb]

/-- two of one kind that is no number -/
theorem cmp_like (a b : VD) (ha : a.mayB = true) (hb : b.mayB = true) (na : numB a = false) (hk : a.kind = b.kind) :
    cmpV a b = (if a.kind = 1 then cmpI (b2i a.bool) (b2i b.bool) else if a.kind = 4 then cmpT a.text.toList b.text.toList else cmpL a.texts b.texts, true) := by
  unfold cmpV
  rw [ha, hb, if_neg (by decide), if_pos hk]
  unfold numB at na
  simp at na
  unfold likeV
  by_cases h1 : a.kind = 1
  · simp [h1]
  · by_cases h4 : a.kind = 4
    · simp [h4]
    · simp [h1, h4, na.1, na.2]

/-- can they be compared? -/
def canB (a b : VD) : Bool := a.mayB && b.mayB && !(nanB a.real || nanB b.real) && (a.kind == b.kind || numB a && numB b)

theorem cmp_none (a b : VD) (h : canB a b = false) : cmpV a b = (0, false) := by
  unfold cmpV
  cases ha : a.mayB
  · simp
  cases hb : b.mayB
  · simp
  rw [if_neg (by decide)]
  unfold canB at h
  rw [ha, hb] at h
  simp only [Bool.true_and, Bool.and_eq_false_iff, Bool.not_eq_false', Bool.or_eq_true, Bool.or_eq_false_iff] at h
  by_cases hk : a.kind = b.kind
  · rw [if_pos hk]
    have hk' : (a.kind == b.kind) = true := by simpa using hk
    have hn : nanB a.real = true ∨ nanB b.real = true := by
      rcases h with h | h
      · exact h
      · rw [hk'] at h; simp at h
    have h3 : a.kind = 3 := by
      apply Classical.byContradiction
      intro h3
      rcases hn with h | h
      · rw [may_nan a ha h3] at h; cases h
      · rw [may_nan b hb (by omega)] at h; cases h
    have hc : cmpR a.real b.real = (0, false) := by
      unfold cmpR
      rcases hn with h | h <;> simp [h]
    simp [likeV, h3, hc]
  · rw [if_neg hk]
    by_cases h32 : a.kind = 3 ∧ b.kind = 2
    · rw [if_pos h32]
      have hn : nanB a.real = true := by
        rcases h with (h | h) | h
        · exact h
        · rw [may_nan b hb (by omega)] at h; cases h
        · have h2 := h.2
          rcases h2 with h2 | h2 <;> simp [numB, h32.1, h32.2] at h2
      simp [cmpXN, hn]
    · rw [if_neg h32]
      by_cases h23 : a.kind = 2 ∧ b.kind = 3
      · rw [if_pos h23]
        have hn : nanB b.real = true := by
          rcases h with (h | h) | h
          · rw [may_nan a ha (by omega)] at h; cases h
          · exact h
          · have h2 := h.2
            rcases h2 with h2 | h2 <;> simp [numB, h23.1, h23.2] at h2
        simp [cmpXN, hn]
      · rw [if_neg h23]

/-- what is asked of comparing -/
theorem can_parts {a b : VD} (h : canB a b = true) : a.mayB = true ∧ b.mayB = true ∧ nanB a.real = false ∧ nanB b.real = false ∧ ((numB a = true ∧ numB b = true) ∨ (numB a = false ∧ a.kind = b.kind)) := by
  unfold canB at h
  simp only [Bool.and_eq_true, Bool.not_eq_true', Bool.or_eq_false_iff, Bool.or_eq_true, beq_iff_eq] at h
  obtain ⟨⟨⟨h1, h2⟩, h3, h4⟩, h5⟩ := h
  refine ⟨h1, h2, h3, h4, ?_⟩
  rcases h5 with h5 | h5
  · cases hn : numB a
    · exact .inr ⟨rfl, h5⟩
    · refine .inl ⟨rfl, ?_⟩
      unfold numB at hn ⊢
      rw [← h5]; exact hn
  · exact .inl h5
theorem cmp_can (a b : VD) : (cmpV a b).2 = canB a b := by
  cases h : canB a b
  · rw [cmp_none a b h]
  · obtain ⟨h1, h2, h3, h4, h5 | h5⟩ := can_parts h
    · rw [cmp_num a b h1 h2 h5.1 h5.2 h3 h4]
    · rw [cmp_like a b h1 h2 h5.1 h5.2]
theorem cmp_zero (a b : VD) (h : (cmpV a b).2 = false) : (cmpV a b).1 = 0 := by
  rw [cmp_can] at h
  rw [cmp_none a b h]
theorem can_comm (a b : VD) : canB b a = canB a b := by
  unfold canB
  rw [show (b.kind == a.kind) = (a.kind == b.kind) by rw [Bool.eq_iff_iff, beq_iff_eq, beq_iff_eq]; exact eq_comm, Bool.and_comm b.mayB, Bool.or_comm (nanB b.real), Bool.and_comm (numB b)]

theorem ord_texts : Ord3 (lexL cmpT) := ord_lexL ord_cmpT

theorem cmp_range (a b : VD) : (cmpV a b).1 = -1 ∨ (cmpV a b).1 = 0 ∨ (cmpV a b).1 = 1 := by
  cases h : canB a b
  · rw [cmp_none a b h]; exact .inr (.inl rfl)
  · obtain ⟨h1, h2, h3, h4, h5 | h5⟩ := can_parts h
    · rw [cmp_num a b h1 h2 h5.1 h5.2 h3 h4]; exact ord_cmpI.range _ _
    · rw [cmp_like a b h1 h2 h5.1 h5.2]
      simp only []
      split
      · exact ord_cmpI.range _ _
      · split
        · exact ord_cmpT.range _ _
        · exact ord_texts.range _ _
theorem cmp_anti (a b : VD) : (cmpV b a).1 = -(cmpV a b).1 := by
  cases h : canB a b
  · rw [cmp_none a b h, cmp_none b a (by rw [can_comm]; exact h)]; rfl
  · obtain ⟨h1, h2, h3, h4, h5 | h5⟩ := can_parts h
    · rw [cmp_num a b h1 h2 h5.1 h5.2 h3 h4, cmp_num b a h2 h1 h5.2 h5.1 h4 h3]; exact ord_cmpI.anti _ _
    · have h6 : numB b = false := by unfold numB at h5 ⊢; rw [← h5.2]; exact h5.1
      rw [cmp_like a b h1 h2 h5.1 h5.2, cmp_like b a h2 h1 h6 h5.2.symm, ← h5.2]
      simp only []
      split
      · exact ord_cmpI.anti _ _
      · split
        · exact ord_cmpT.anti _ _
        · exact ord_texts.anti _ _
theorem cmp_trans (a b c : VD) (h1 : (cmpV a b).2 = true) (h2 : (cmpV b c).2 = true) : (cmpV a c).2 = true ∧ ((cmpV a b).1 ≤ 0 → (cmpV b c).1 ≤ 0 → (cmpV a c).1 ≤ 0 ∧ (((cmpV a b).1 < 0 ∨ (cmpV b c).1 < 0) → (cmpV a c).1 < 0)) := by
  rw [cmp_can] at h1 h2
  obtain ⟨a1, b1, a2, b2, h5⟩ := can_parts h1
  obtain ⟨_, c1, _, c2, h6⟩ := can_parts h2
  rcases h5 with h5 | h5
  · have hc : numB c = true := by
      rcases h6 with h6 | h6
      · exact h6.2
      · rw [h5.2] at h6; cases h6.1
    rw [cmp_num a b a1 b1 h5.1 h5.2 a2 b2, cmp_num b c b1 c1 h5.2 hc b2 c2, cmp_num a c a1 c1 h5.1 hc a2 c2]
    exact ⟨rfl, fun x y => ord_cmpI.le3 _ _ _ x y⟩
  · have hb : numB b = false := by unfold numB at h5 ⊢; rw [← h5.2]; exact h5.1
    have hk : b.kind = c.kind := by
      rcases h6 with h6 | h6
      · rw [hb] at h6; cases h6.1
      · exact h6.2
    rw [cmp_like a b a1 b1 h5.1 h5.2, cmp_like b c b1 c1 hb hk, cmp_like a c a1 c1 h5.1 (h5.2.trans hk), ← h5.2]
    refine ⟨rfl, ?_⟩
    simp only []
    split
    · exact fun x y => ord_cmpI.le3 _ _ _ x y
    · split
      · exact fun x y => ord_cmpT.le3 _ _ _ x y
      · exact fun x y => ord_texts.le3 _ _ _ x y

theorem same_zero (a b : VD) (h : sameV a b = true) (hn : nanB a.real = false) (hn' : nanB b.real = false) : (cmpV a b).1 = 0 := by
  unfold sameV at h
  simp only [Bool.and_eq_true, decide_eq_true_eq] at h
  obtain ⟨⟨hk, ha, hb⟩, h⟩ := h
  cases hnum : numB a
  · rw [cmp_like a b ha hb hnum hk]
    have h3 : a.kind ≠ 3 := by unfold numB at hnum; simp at hnum; exact hnum.2
    rw [if_neg h3] at h
    simp only [Bool.and_eq_true, beq_iff_eq] at h
    obtain ⟨⟨⟨e1, e2⟩, e3⟩, e4⟩ := h
    simp only []
    split
    · rw [e1]; exact (ord_cmpI.same _ _).2 rfl
    · split
      · rw [e3]; exact (ord_cmpT.same _ _).2 rfl
      · unfold cmpL
        unfold eqL at e4
        rw [beq_iff_eq] at e4
        exact (ord_texts.same _ _).2 e4
  · have hnb : numB b = true := by unfold numB at hnum ⊢; rw [← hk]; exact hnum
    rw [cmp_num a b ha hb hnum hnb hn hn']
    refine (ord_cmpI.same _ _).2 ?_
    unfold keyZ
    rw [← hk]
    by_cases h3 : a.kind = 3
    · rw [if_pos h3] at h
      rw [if_neg (by omega), if_neg (by omega)]
      unfold sameR eqB at h
      simp [hn, hn'] at h
      exact h.1
    · rw [if_neg h3] at h
      simp only [Bool.and_eq_true, beq_iff_eq] at h
      have h2 : a.kind = 2 := by unfold numB at hnum; simp at hnum; omega
      rw [if_pos h2, if_pos h2, h.1.1.2]

end Go.Proofs.YtjdihnkcigoajaaGreatDoor


/- Encode: a value's bytes. -/
namespace Go.Proofs.YtjdihnkcigoajaaGreatDoor
open Go.RowKit Go.PlainAid Go.Lib

theorem may_short (p : VD) (h : p.mayB = true) : p.text.size ≤ 256 ∧ p.texts.length ≤ 32 ∧ ∀ s ∈ p.texts, s.size ≤ 256 := by
  unfold VD.mayB at h
  simp only [Bool.and_eq_true] at h
  have h2 := h.2
  unfold VD.shortB at h2
  simp only [Bool.and_eq_true, decide_eq_true_eq, Bool.not_eq_true'] at h2
  refine ⟨h2.1.1, h2.1.2, fun s hs => ?_⟩
  have h3 := h2.2
  unfold longB at h3
  rw [List.any_eq_false] at h3
  have := h3 s hs
  simp at this
  omega

/-- held and write together: what stands behind the kind is written -/
theorem hw_any (x : VD) (hx : x.Ok) (hm : x.mayB = true) (u : Value) (w : World) (hu : Ts w u x.texts) :
    ∃ T V, (∀ w1, Keep [] w w1 → Calls Tryz.prog 17 #[x.val u] w1 fun e w' => e = .returned (.iface T V) ∧ Keep [] w1 w') ∧
      ∀ (b o : Nat) (l : List UInt8) (rb : Option Nat) (w1 : World), Wr w1 b o l rb → Ts w1 u x.texts → (x.texts ≠ [] → Off u (b :: rb.toList)) → l.length ≤ 1000 →
        Calls Tryz.prog 19 #[.pointer (some ⟨b, o, none⟩), .iface T V] w1 fun e w' => e = .returned (.tuple #[]) ∧ Wrote w1 w' b o l (bodyL x) rb := by
  obtain ⟨h1, h2, h3⟩ := may_short x hm
  have hk := may_kind x hm
  have hc : x.kind = 1 ∨ x.kind = 2 ∨ x.kind = 3 ∨ x.kind = 4 ∨ x.kind = 5 := by omega
  have hs : ∃ a n c, u = .slice a n c := by
    obtain ⟨ao, ca, rfl, _⟩ := hu.ex
    exact ⟨ao, _, ca, rfl⟩
  unfold bodyL
  rcases hc with h | h | h | h | h
  · rw [if_pos h]
    exact ⟨4, _, fun w1 _ => held_1 x h u hs w1, fun b o l rb w1 hw _ _ hn => write_1 b o l rb x.bool w1 hw hn⟩
  · rw [if_neg (by omega), if_pos h]
    exact ⟨2, _, fun w1 _ => held_2 x h u hs w1, fun b o l rb w1 hw _ _ hn => write_2 b o l rb x.int hx.int0 hx.int1 w1 hw hn⟩
  · rw [if_neg (by omega), if_neg (by omega), if_pos h]
    exact ⟨22, _, fun w1 _ => held_3 x h u hs w1, fun b o l rb w1 hw _ _ hn => write_3 b o l rb x.real hx.real1 w1 hw hn⟩
  · rw [if_neg (by omega), if_neg (by omega), if_neg (by omega), if_pos h]
    exact ⟨9, _, fun w1 _ => held_4 x h u hs w1, fun b o l rb w1 hw _ _ hn => write_4 b o l rb x.text h1 w1 hw hn⟩
  · rw [if_neg (by omega), if_neg (by omega), if_neg (by omega), if_neg (by omega)]
    exact ⟨23, u, fun w1 _ => held_5 x h u hs w1, fun b o l rb w1 hw hT ho hn => write_5 b o l rb u x.texts w1 hw hT ho hn h2 h3⟩

theorem body_len (x : VD) (hx : x.Ok) (hm : x.mayB = true) : (bodyL x).length ≤ 8800 := by
  obtain ⟨h1, h2, h3⟩ := may_short x hm
  have e1 := uvarint_length64 (zigzag_lt hx.int0 hx.int1)
  have e2 := uvarint_length64 (x := x.texts.length) (by omega)
  have e3 := textB_len x.text h1
  have e4 := textsB_len x.texts h3
  unfold bodyL
  (repeat' split) <;> (try simp only [List.length_append, List.length_cons, List.length_nil]) <;> (try omega)
  simp [four]

theorem Ts.blt {w : World} {v : Value} {l : List ByteArray} (h : Ts w v l) (hl : l ≠ []) : ∀ k, v.ownBlock = some k → k < w.heap.size := by
  obtain ⟨ao, cap, rfl, _, _, _, h4⟩ := h.ex
  obtain ⟨b, o, rfl, hc⟩ := h4 hl
  intro k hk
  simp [Value.ownBlock] at hk
  subst hk
  have h0 : 0 < l.length := List.length_pos_iff.2 hl
  exact World.block_lt_of_cell? w _ (hc 0 h0)

theorem six_cells {F : List Nat} {w w1 : World} {v0 v1 v2 v3 v4 v5 : Value} {t : TypeId} (k : Keep F (w.alloc (.cells #[v0, v1, v2, v3, v4, v5] t)) w1) (hn : w.heap.size ∉ F) :
    (w1.cell? ⟨w.heap.size, 0, none⟩ = some v0 ∧ w1.cell? ⟨w.heap.size, 1, none⟩ = some v1 ∧ w1.cell? ⟨w.heap.size, 2, none⟩ = some v2 ∧ w1.cell? ⟨w.heap.size, 3, none⟩ = some v3 ∧ w1.cell? ⟨w.heap.size, 4, none⟩ = some v4 ∧ w1.cell? ⟨w.heap.size, 5, none⟩ = some v5) ∧ ∀ j, w1.frozen? ⟨w.heap.size, j, none⟩ = false := by
  refine ⟨⟨k.cell' ?_ hn, k.cell' ?_ hn, k.cell' ?_ hn, k.cell' ?_ hn, k.cell' ?_ hn, k.cell' ?_ hn⟩, fun j => ?_⟩
  case refine_7 => rw [k.frozen (by simp) hn]; simp [go_sem]
  all_goals simp [go_sem]

set_option maxRecDepth 1000000 in
set_option maxHeartbeats 400000 in
theorem encode_yes (x : VD) (hx : x.Ok) (hm : x.mayB = true) (u : Value) (w : World) (hu : Ts w u x.texts) :
    Calls Tryz.prog 7 #[x.val u] w fun e w' => ∃ v, e = .returned (.tuple #[v, .int .i64 0]) ∧ (Row w' v (encL x) ∧ Fresh w w' v ∧ Sl v (encL x).length) ∧ Keep [] w w' := by
  have hk := may_kind x hm
  have hbl := body_len x hx hm
  obtain ⟨T, V, hH, hWr⟩ := hw_any x hx hm u w hu
  have hC := fun w1 (k : Keep [] w w1) => check_yes x hx u w1 (hu.keep k (Off.nil _)) hm
  have HU : Hid (Ts w u x.texts) := hu
  obtain ⟨n, hn⟩ : ∃ n : Nat, x.kind = (n : Int) := ⟨x.kind.toNat, by omega⟩
  have HE : Hid (encL x = [n.toUInt8] ++ bodyL x) := show encL x = [n.toUInt8] ++ bodyL x by unfold encL; rw [hn]; rfl
  have hn5 : n ≤ 5 := by omega
  obtain ⟨ao, ca, rfl, _, _, _, _⟩ := hu.ex
  have HH : Hid _ := hH
  have HWr : Hid _ := hWr
  have HCk : Hid _ := hC
  have HNk : Hid (x.kind = (n : Int)) := hn
  have hni : (n : Int) ≤ 5 := by omega
  have hw8 : IntKind.u8.wrap (n : Int) = (n : Int) := by rw [IntKind.wrap_u8]; omega
  clear hu hk hx hm hH hWr hC hn hn5
  have K0 : Hid (Keep [] w (w.alloc (x.blk (.slice ao x.texts.length ca)))) := Keep.alloc1 w _
  have HB : Hid ((bodyL x).length ≤ 8800) := hbl
  clear hbl
  go_enter Tryz.func7, Tryz.ntmps7
  go_wp2_with fail
  refine (HCk.out _ K0.out).mono ?_
  rintro e9 w1 ⟨rfl, k1⟩
  obtain ⟨⟨c0, c1, c2, c3, c4, c5⟩, _⟩ := six_cells k1 (by simp)
  rw [HNk.out] at c0
  have HK1 : Hid (Keep [] (w.alloc (x.blk (.slice ao x.texts.length ca))) w1) := k1
  clear HCk k1
  have hq : w.heap.size < w1.heap.size := by have := HK1.out.size; simp at this; omega
  have HQ : Hid (w.heap.size < w1.heap.size) := hq
  have kz : Keep [] w1 (w1.alloc (.cells #[.slice none 0 0] 43)) := Keep.alloc1 w1 _
  have d0 := kz.cell' c0 (by simp)
  have HZ : Hid (Wr (w1.alloc (.cells #[.slice none 0 0] 43)) w1.heap.size 0 [] none ∧ Keep [] (w.alloc (x.blk (.slice ao x.texts.length ca))) (w1.alloc (.cells #[.slice none 0 0] 43))) := ⟨Wr.zero _ _ _ (by simp) (by simp), HK1.out.trans' kz⟩
  have hB := wByte_any w1.heap.size 0 [] none n (by omega) _ HZ.out.1 (by simp)
  clear kz c0 c1 c2 c3 c4 c5 HK1
  go_wp2_with fail
  refine hB.mono ?_
  rintro e9 w2 ⟨rfl, rb2, b1, b2, b3⟩
  have K2 : Keep [w1.heap.size] (w.alloc (x.blk (.slice ao x.texts.length ca))) w2 := (HZ.out.2.mono (fun _ h => by cases h)).trans' (by simpa using b2)
  have HK2 : Hid (Keep [] w w2) := K0.out.more K2 (fun y hy => .inr (by simp at hy; omega))
  obtain ⟨⟨c0, c1, c2, c3, c4, c5⟩, _⟩ := six_cells K2 (by simp; omega)
  have HW2 : Hid (Wr w2 w1.heap.size 0 [n.toUInt8] rb2 ∧ (∀ k, rb2 = some k → w1.heap.size ≤ k)) := ⟨by simpa using b1, fun k hk => by
    rcases b3 with h | h
    · rw [h] at hk; cases hk
    · have := (h k hk).1; simp at this; omega⟩
  clear b1 b2 b3 K2 hB d0 HZ hq
  go_wp2_with fail
  refine (HH.out _ HK2.out).mono ?_
  rintro e9 w3 ⟨rfl, k3⟩
  have HK3 : Hid (Keep [] w w3) := HK2.out.trans' k3
  have hW3 := HWr.out w1.heap.size 0 [n.toUInt8] rb2 w3 (HW2.out.1.keep k3 (by simp) (fun _ _ => by simp)) (HU.out.keep HK3.out (Off.nil _)) (fun hne k hk hmem => by
    have h1 := HU.out.blt hne k hk
    have h2 := HQ.out
    rcases List.mem_cons.1 hmem with h | h
    · omega
    · have := HW2.out.2 k (by simpa using h)
      omega) (by simp)
  clear k3 HWr HH HK2 c0 c1 c2 c3 c4 c5
  go_wp2_with fail
  refine hW3.mono ?_
  rintro e9 w4 ⟨rfl, rb4, g1, g2, g3⟩
  have HK4 : Hid (Keep [] w w4) := HK3.out.more g2 (fun y hy => .inr (by
    have h2 := HQ.out
    rcases List.mem_cons.1 hy with h | h
    · omega
    · have := HW2.out.2 y (by simpa using h)
      omega))
  have hY := wBytes_any w1.heap.size 0 ([n.toUInt8] ++ bodyL x) rb4 w4 g1 (by have := HB.out; simp; omega)
  clear g1 g2 g3 hW3 HW2 HK3
  go_wp2_with fail
  refine hY.mono ?_
  rintro e9 w5 ⟨v, rfl, y1, y2, y3, y4⟩
  have HF : Hid ((Row w5 v (encL x) ∧ Fresh w w5 v ∧ Sl v (encL x).length) ∧ Keep [] w w5) := by
    show (Row w5 v (encL x) ∧ Fresh w w5 v ∧ Sl v (encL x).length) ∧ Keep [] w w5
    rw [HE.out]
    exact ⟨⟨y1, y2.earlier HK4.out.size, y4⟩, HK4.out.trans' y3⟩
  obtain ⟨a9, c9, rfl⟩ := y4
  clear y1 y2 y3 hY HK4
  go_wp2
  go_ret2
  exact ⟨_, rfl, HF.out⟩
theorem encode_no (x : VD) (hx : x.Ok) (hm : x.mayB = false) (u : Value) (w : World) (hu : Ts w u x.texts) :
    Calls Tryz.prog 7 #[x.val u] w fun e w' => e = .returned (.tuple #[.slice none 0 0, .int .i64 40]) ∧ Keep [] w w' := by
  have hC := fun w1 (k : Keep [] w w1) => check_no x hx u w1 (hu.keep k (Off.nil _)) hm
  obtain ⟨ao, ca, rfl, _, _, _, _⟩ := hu.ex
  clear hu hx hm
  have K0 : Hid (Keep [] w (w.alloc (x.blk (.slice ao x.texts.length ca)))) := Keep.alloc1 w _
  go_enter Tryz.func7, Tryz.ntmps7
  go_wp2_with fail
  refine (hC _ K0.out).mono ?_
  rintro e1 w1 ⟨rfl, k1⟩
  have HK1 : Hid (Keep [] w w1) := K0.out.trans' k1
  clear k1 hC
  go_wp2
  go_ret2
  exact ⟨rfl, HK1.out⟩
end Go.Proofs.YtjdihnkcigoajaaGreatDoor


/- Doublings and halvings of reals of 64 bits, exact; the way from there to 32 bits. -/
namespace Go.Proofs.YtjdihnkcigoajaaGreatDoor
open Go.RowKit Go.PlainAid Go.Lib

/-- the bits of M * 2^(E - 52), M with 53 digits -/
def wD (M : Nat) (E : Int) : Nat := (E + 1022).toNat * 4503599627370496 + M

theorem dconsts : Ieee.double.binade = 4503599627370496 ∧ Ieee.double.infRung = 9218868437227405312 ∧ Ieee.double.leastPlace = -1074 ∧ Ieee.double.signWeight = 9223372036854775808 := by decide

theorem log2_eq {n k : Nat} (h1 : 2 ^ k ≤ n) (h2 : n < 2 ^ (k + 1)) : n.log2 = k := by
  have h0 : n ≠ 0 := by have := Nat.two_pow_pos k; omega
  have a1 : n.log2 < k + 1 := (Nat.log2_lt h0).2 h2
  have a2 : ¬ n.log2 < k := fun h => by have := (Nat.log2_lt h0).1 h; omega
  omega

theorem cut_exact (s : Bool) (M t L : Nat) (_hM : 0 < M) (hL : (M * 2 ^ t).log2 = L) (ht : t ≤ L + 2) : Ieee.Toward.cut .even s (M * 2 ^ t) t = M := by
  have hp : 0 < 2 ^ t := Nat.two_pow_pos t
  unfold Ieee.Toward.cut
  simp only [Nat.one_shiftLeft, hL]
  rw [Nat.min_eq_left ht, Nat.mul_div_cancel _ hp, Nat.mul_mod_left]
  have h1 : decide (2 ^ t < 2 * 0) = false := by simp
  have h2 : (2 ^ t == 2 * 0) = false := by simp
  rw [h1, h2]
  rfl

theorem nearD (M t : Nat) (E place : Int) (h1 : 4503599627370496 ≤ M) (h2 : M < 9007199254740992) (hE : place + 52 + t = E) (lo : -1022 ≤ E) (hi : E ≤ 1023) : Ieee.double.nearest false (M * 2 ^ t) place = wD M E := by
  obtain ⟨c1, c2, c3, c4⟩ := dconsts
  have hp : 0 < 2 ^ t := Nat.two_pow_pos t
  have hlog : (M * 2 ^ t).log2 = 52 + t := by
    apply log2_eq
    · rw [Nat.pow_add]; exact Nat.mul_le_mul_right _ h1
    · rw [show 52 + t + 1 = 53 + t by omega, Nat.pow_add]; exact Nat.mul_lt_mul_of_pos_right h2 hp
  have hne : M * 2 ^ t ≠ 0 := by
    have := Nat.mul_pos (show 0 < M by omega) hp
    omega
  unfold Ieee.Format.nearest
  rw [if_neg hne]
  simp only [c1, c2, c3, hlog, show Ieee.double.fractionBits = 52 from rfl]
  rw [show max (place + ((52 + t : Nat) : Int) - ((52 : Nat) : Int)) (-1074) = place + t by omega]
  rw [show (place - (place + (t : Int))).toNat = 0 by omega, show (place + (t : Int) - place).toNat = t by omega, Nat.shiftLeft_eq, Nat.pow_zero, Nat.mul_one]
  rw [cut_exact false M t (52 + t) (by omega) hlog (by omega)]
  rw [show (place + (t : Int) - -1074).toNat = (E + 1022).toNat by omega]
  unfold Ieee.Format.word wD
  simp only [Bool.false_eq_true, if_false]
  rw [Nat.min_eq_left]
  have : (E + 1022).toNat ≤ 2045 := by omega
  omega

/-- a small whole number as a real of 64 bits -/
theorem nearS (m : Nat) (h0 : 0 < m) (hm : m < 16777216) : Ieee.double.nearest false m 0 = wD (m * 2 ^ (52 - m.log2)) (m.log2 : Int) ∧ 4503599627370496 ≤ m * 2 ^ (52 - m.log2) ∧ m * 2 ^ (52 - m.log2) < 9007199254740992 ∧ m.log2 ≤ 23 := by
  obtain ⟨c1, c2, c3, c4⟩ := dconsts
  have hlo : 2 ^ m.log2 ≤ m := Nat.log2_self_le (by omega)
  have hhi : m < 2 ^ (m.log2 + 1) := Nat.lt_log2_self
  have hL : m.log2 < 24 := (Nat.log2_lt (by omega)).2 hm
  generalize hl : m.log2 = L at hlo hhi hL
  have k1 : 2 ^ L * 2 ^ (52 - L) ≤ m * 2 ^ (52 - L) := Nat.mul_le_mul_right _ hlo
  rw [← Nat.pow_add, show L + (52 - L) = 52 by omega] at k1
  have k2 : m * 2 ^ (52 - L) < 2 ^ (L + 1) * 2 ^ (52 - L) := Nat.mul_lt_mul_of_pos_right hhi (Nat.two_pow_pos _)
  rw [← Nat.pow_add, show L + 1 + (52 - L) = 53 by omega] at k2
  refine ⟨?_, k1, k2, by omega⟩
  unfold Ieee.Format.nearest
  rw [if_neg (by omega)]
  simp only [c1, c2, c3, hl, show Ieee.double.fractionBits = 52 from rfl]
  rw [show max ((0 : Int) + (L : Int) - ((52 : Nat) : Int)) (-1074) = (L : Int) - 52 by omega]
  rw [show ((0 : Int) - ((L : Int) - 52)).toNat = 52 - L by omega, show (((L : Int) - 52) - 0).toNat = 0 by omega, Nat.shiftLeft_eq]
  have hcut : Ieee.Toward.cut .even false (m * 2 ^ (52 - L)) 0 = m * 2 ^ (52 - L) := by
    unfold Ieee.Toward.cut
    simp [Nat.mod_one]
  rw [hcut, show (((L : Int) - 52) - -1074).toNat = ((L : Int) + 1022).toNat by omega]
  unfold Ieee.Format.word wD
  simp only [Bool.false_eq_true, if_false]
  rw [Nat.min_eq_left]
  have : ((L : Int) + 1022).toNat ≤ 1046 := by omega
  have k3 : m * 2 ^ (52 - L) < 9007199254740992 := k2
  omega

theorem readD (M : Nat) (E : Int) (h1 : 4503599627370496 ≤ M) (h2 : M < 9007199254740992) (lo : -1022 ≤ E) (hi : E ≤ 1023) : Ieee.double.read (wD M E) = .number false M (E - 52) := by
  obtain ⟨c1, c2, c3, c4⟩ := dconsts
  obtain ⟨q, hq⟩ : ∃ q : Nat, (E + 1022).toNat = q := ⟨_, rfl⟩
  have hq2 : q ≤ 2045 := by omega
  unfold wD
  rw [hq]
  unfold Ieee.Format.read
  simp only [c1, c2, c3, c4]
  rw [show (q * 4503599627370496 + M) % 9223372036854775808 = q * 4503599627370496 + M by omega, show (q * 4503599627370496 + M) / 9223372036854775808 % 2 = 0 by omega]
  rw [if_neg (by omega), if_pos (by omega), show (q * 4503599627370496 + M) % 4503599627370496 = M - 4503599627370496 by omega, show (q * 4503599627370496 + M) / 4503599627370496 - 1 = q by omega]
  rw [show 4503599627370496 + (M - 4503599627370496) = M by omega, show (-1074 : Int) + (q : Int) = E - 52 by omega]
  rfl

theorem read2 : Ieee.double.read 4611686018427387904 = .number false 4503599627370496 (-51) := by decide

theorem mul2 (M : Nat) (E : Int) (h1 : 4503599627370496 ≤ M) (h2 : M < 9007199254740992) (lo : -1022 ≤ E) (hi : E ≤ 1022) : Ieee.double.mul (wD M E) 4611686018427387904 = some (wD M (E + 1)) := by
  unfold Ieee.Format.mul
  rw [readD M E h1 h2 lo (by omega), read2]
  simp only [Ieee.Datum.product, Option.map_some, Ieee.Format.write]
  congr 1
  exact nearD M 52 (E + 1) _ h1 h2 (by omega) (by omega) (by omega)

theorem div2 (M : Nat) (E : Int) (h1 : 4503599627370496 ≤ M) (h2 : M < 9007199254740992) (lo : -1021 ≤ E) (hi : E ≤ 1023) : Ieee.double.div (wD M E) 4611686018427387904 = some (wD M (E - 1)) := by
  unfold Ieee.Format.div
  rw [readD M E h1 h2 (by omega) hi, read2]
  have hlM : M.log2 = 52 := log2_eq h1 h2
  have hl2 : (4503599627370496 : Nat).log2 = 52 := by decide
  simp only [Ieee.Datum.quotient, hlM, hl2, show Ieee.double.fractionBits = 52 from rfl]
  rw [if_neg (by decide)]
  simp only [Option.map_some, Ieee.Format.write, Nat.shiftLeft_eq]
  congr 1
  have e1 : M * 2 ^ (52 + 2 + 52 - 52) / 4503599627370496 = M * 4 := by
    rw [show M * 2 ^ (52 + 2 + 52 - 52) = M * 4 * 4503599627370496 by rw [Nat.mul_assoc]]
    exact Nat.mul_div_cancel _ (by omega)
  have e2 : M * 2 ^ (52 + 2 + 52 - 52) % 4503599627370496 = 0 := by
    rw [show M * 2 ^ (52 + 2 + 52 - 52) = M * 4 * 4503599627370496 by rw [Nat.mul_assoc]]
    exact Nat.mul_mod_left _ _
  rw [e1, e2]
  rw [show 2 * (M * 4) + ((0 : Nat) != 0).toNat = M * 2 ^ 3 by simp; omega]
  exact nearD M 3 (E - 1) _ h1 h2 (by omega) (by omega) (by omega)

theorem div0 : Ieee.double.div 0 4611686018427387904 = some 0 := by decide

/-- what a rung of 32 bits is worth, and the way back from 64 bits -/
def atM (n : Nat) : Nat := if n < 8388608 then n else 8388608 + n % 8388608
def atE (n : Nat) : Int := if n < 8388608 then -149 else (n / 8388608 : Nat) - 150

theorem toSingle (n : Nat) (h0 : 0 < n) (hn : n < 2139095040) : Ieee.single.nearest false (atM n * 2 ^ (52 - (atM n).log2)) (((atM n).log2 : Int) + atE n - 52) = n := by
  have e2 : Ieee.single.binade = 8388608 := by decide
  have e3 : Ieee.single.infRung = 2139095040 := by decide
  have e4 : Ieee.single.leastPlace = -149 := by decide
  have hm0 : 0 < atM n := by unfold atM; split <;> omega
  have hm1 : atM n < 16777216 := by unfold atM; split <;> omega
  obtain ⟨_, k1, k2, k3⟩ := nearS (atM n) hm0 hm1
  generalize hL : (atM n).log2 = L at k1 k2 k3
  have hlog : (atM n * 2 ^ (52 - L)).log2 = 52 := log2_eq k1 k2
  unfold Ieee.Format.nearest
  rw [if_neg (by omega)]
  simp only [e2, e3, e4, hlog, show Ieee.single.fractionBits = 23 from rfl]
  by_cases hs : n < 8388608
  · have hE : atE n = -149 := by unfold atE; rw [if_pos hs]
    have hM : atM n = n := by unfold atM; rw [if_pos hs]
    have hL22 : L ≤ 22 := by
      rw [← hL, hM]
      have := (Nat.log2_lt (show n ≠ 0 by omega)).2 (show n < 2 ^ 23 from hs)
      omega
    rw [hE]
    rw [show max ((L : Int) + -149 - 52 + ((52 : Nat) : Int) - ((23 : Nat) : Int)) (-149) = -149 by omega]
    rw [show ((L : Int) + -149 - 52 - -149).toNat = 0 by omega, show ((-149 : Int) - ((L : Int) + -149 - 52)).toNat = 52 - L by omega, Nat.shiftLeft_eq, Nat.pow_zero, Nat.mul_one]
    rw [cut_exact false (atM n) (52 - L) 52 hm0 hlog (by omega), hM]
    unfold Ieee.Format.word
    simp
    omega
  · have hE : atE n = (n / 8388608 : Nat) - 150 := by unfold atE; rw [if_neg hs]
    have hM : atM n = 8388608 + n % 8388608 := by unfold atM; rw [if_neg hs]
    have hL23 : L = 23 := by
      rw [← hL, hM]
      exact log2_eq (by omega) (by omega)
    subst hL23
    rw [hE]
    rw [show max (((23 : Nat) : Int) + (((n / 8388608 : Nat) : Int) - 150) - 52 + ((52 : Nat) : Int) - ((23 : Nat) : Int)) (-149) = ((n / 8388608 : Nat) : Int) - 150 by omega]
    rw [show (((23 : Nat) : Int) + (((n / 8388608 : Nat) : Int) - 150) - 52 - (((n / 8388608 : Nat) : Int) - 150)).toNat = 0 by omega, show ((((n / 8388608 : Nat) : Int) - 150) - (((23 : Nat) : Int) + (((n / 8388608 : Nat) : Int) - 150) - 52)).toNat = 29 by omega, Nat.shiftLeft_eq, Nat.pow_zero, Nat.mul_one]
    rw [cut_exact false (atM n) 29 52 hm0 hlog (by omega), hM]
    rw [show ((((n / 8388608 : Nat) : Int) - 150) - -149).toNat = n / 8388608 - 1 by omega]
    unfold Ieee.Format.word
    simp only [Bool.false_eq_true, if_false]
    rw [Nat.min_eq_left] <;> omega

end Go.Proofs.YtjdihnkcigoajaaGreatDoor




/- The real of a number: the steps from its digits in 64 bits to its 32 bits. -/
namespace Go.Proofs.YtjdihnkcigoajaaGreatDoor
open Go.RowKit Go.PlainAid Go.Lib

/-- the digits of the rung n, k doublings on, in 64 bits -/
def fD (n : Nat) (k : Int) : Nat := if atM n = 0 then 0 else wD (atM n * 2 ^ (52 - (atM n).log2)) (((atM n).log2 : Int) + k)

theorem atM_lt (n : Nat) : atM n < 16777216 := by unfold atM; split <;> omega
theorem atE_lo (n : Nat) : -149 ≤ atE n := by unfold atE; split <;> omega
theorem atE_hi (n : Nat) (h : n < 2139095040) : atE n ≤ 104 := by unfold atE; split <;> omega

theorem fD_start (n : Nat) : floatOfInt .f64 ((atM n : Nat) : Int) = fD n 0 := by
  show Ieee.double.nearest (decide (((atM n : Nat) : Int) < 0)) ((atM n : Nat) : Int).natAbs 0 = _
  rw [show decide (((atM n : Nat) : Int) < 0) = false by simp, Int.natAbs_natCast]
  unfold fD
  by_cases h : atM n = 0
  · rw [if_pos h, h]; decide
  · rw [if_neg h, (nearS (atM n) (by omega) (atM_lt n)).1, Int.add_zero]

theorem fD_mul (n : Nat) (k : Int) (h0 : 0 ≤ k) (h1 : k < 104) : floatBits .mul .f64 (fD n k) 4611686018427387904 = some (fD n (k + 1)) := by
  show Ieee.double.mul _ _ = _
  unfold fD
  by_cases h : atM n = 0
  · rw [if_pos h, if_pos h]; decide
  · rw [if_neg h, if_neg h]
    obtain ⟨_, k1, k2, k3⟩ := nearS (atM n) (by omega) (atM_lt n)
    rw [mul2 _ _ k1 k2 (by omega) (by omega), Int.add_assoc]

theorem fD_div (n : Nat) (k : Int) (h0 : -149 ≤ k) (h1 : k ≤ 104) : floatBits .quo .f64 (fD n k) 4611686018427387904 = some (fD n (k - 1)) := by
  show Ieee.double.div _ _ = _
  unfold fD
  by_cases h : atM n = 0
  · rw [if_pos h, if_pos h]; decide
  · rw [if_neg h, if_neg h]
    obtain ⟨_, k1, k2, k3⟩ := nearS (atM n) (by omega) (atM_lt n)
    rw [div2 _ _ k1 k2 (by omega) (by omega)]
    congr 2
    omega

theorem fD_end (n : Nat) (h : n < 2139095040) : floatToFloatBits .f64 (fD n (atE n)) .f32 = some n := by
  unfold floatToFloatBits
  rw [if_neg (by decide)]
  show (match Ieee.double.read (fD n (atE n)) with | .nan _ _ => none | .infinity s => some (Ieee.single.write (.infinity s)) | .number s m e => if (Ieee.single.read (Ieee.single.write (.number s m e))).isInfinity then none else some (Ieee.single.write (.number s m e))) = _
  unfold fD
  by_cases h0 : atM n = 0
  · have hn : n = 0 := by unfold atM at h0; split at h0 <;> omega
    subst hn
    decide
  · rw [if_neg h0]
    have hn0 : 0 < n := by
      rcases Nat.eq_zero_or_pos n with hz | hz
      · subst hz; exact absurd (by decide) h0
      · exact hz
    obtain ⟨_, k1, k2, k3⟩ := nearS (atM n) (by omega) (atM_lt n)
    have a1 := atE_lo n
    have a2 := atE_hi n h
    rw [readD _ _ k1 k2 (by omega) (by omega)]
    have hw : Ieee.single.write (.number false (atM n * 2 ^ (52 - (atM n).log2)) (((atM n).log2 : Int) + atE n - 52)) = n := toSingle n hn0 h
    simp only [hw]
    obtain ⟨m, up, hr, _⟩ := read_num n (by unfold rungN; omega)
    rw [hr]
    rfl

end Go.Proofs.YtjdihnkcigoajaaGreatDoor




/- A worth cut with two places more, rounded by them: the rung nearest to it. -/
namespace Go.Proofs.YtjdihnkcigoajaaGreatDoor
open Go.RowKit Go.PlainAid

/-- a worth cut at 2^D, its last place told to be odd where something was cut off -/
def unr (X D : Nat) : Nat := if X % 2 ^ D = 0 then X / 2 ^ D else 2 * (X / 2 ^ D / 2) + 1
/-- to the nearest, of two more places -/
def rndU (u : Nat) : Nat := (u + 1 + u / 4 % 2) / 4
/-- one place less -/
def lessU (u : Nat) : Nat := if u % 2 = 0 then u / 2 else 2 * (u / 2 / 2) + 1

theorem cut_parts (X t k : Nat) (_ht : 0 < t) : X / (k * t) = X / t / k ∧ X % (k * t) = (X / t % k) * t + X % t := by
  refine ⟨by rw [Nat.mul_comm k t, Nat.div_div_eq_div_mul], ?_⟩
  have h1 := Nat.mod_mul (x := X) (a := t) (b := k)
  rw [Nat.mul_comm k t, h1, Nat.mul_comm t]
  omega

theorem round_unr (X D : Nat) : rndU (unr X D) = rne X (D + 2) := by
  have ht : 0 < 2 ^ D := Nat.two_pow_pos D
  have e4 : 2 ^ (D + 2) = 4 * 2 ^ D := by rw [Nat.pow_add]; omega
  obtain ⟨h1, h2⟩ := cut_parts X (2 ^ D) 4 ht
  unfold rne rneB rndU unr
  rw [e4, h1, h2]
  have hR : X % 2 ^ D < 2 ^ D := Nat.mod_lt _ ht
  generalize X / 2 ^ D = Z
  generalize X % 2 ^ D = R at *
  generalize 2 ^ D = t at *
  clear h1 h2 e4
  have hz : Z % 4 = 0 ∨ Z % 4 = 1 ∨ Z % 4 = 2 ∨ Z % 4 = 3 := by omega
  by_cases hR0 : R = 0
  · subst hR0
    rw [if_pos rfl]
    rcases hz with h | h | h | h
    · rw [h, show decide (4 * t < 2 * (0 * t + 0)) = false by simp, show (4 * t == 2 * (0 * t + 0)) = false by simp; omega]
      simp; omega
    · rw [h, show decide (4 * t < 2 * (1 * t + 0)) = false by simp; omega, show (4 * t == 2 * (1 * t + 0)) = false by simp; omega]
      simp; omega
    · rw [h, show decide (4 * t < 2 * (2 * t + 0)) = false by simp; omega, show (4 * t == 2 * (2 * t + 0)) = true by simp; omega]
      by_cases ho : Z / 4 % 2 = 1
      · simp [ho]; omega
      · have : Z / 4 % 2 = 0 := by omega
        simp [this]; omega
    · rw [h, show decide (4 * t < 2 * (3 * t + 0)) = true by simp; omega]
      simp; omega
  · rw [if_neg hR0]
    have hy : (2 * (Z / 2) + 1) / 4 = Z / 4 := by omega
    rw [hy]
    rcases hz with h | h | h | h
    · rw [h, show decide (4 * t < 2 * (0 * t + R)) = false by simp; omega, show (4 * t == 2 * (0 * t + R)) = false by simp; omega]
      simp; omega
    · rw [h, show decide (4 * t < 2 * (1 * t + R)) = false by simp; omega, show (4 * t == 2 * (1 * t + R)) = false by simp; omega]
      simp; omega
    · rw [h, show decide (4 * t < 2 * (2 * t + R)) = true by simp; omega]
      simp; omega
    · rw [h, show decide (4 * t < 2 * (3 * t + R)) = true by simp; omega]
      simp; omega

theorem less_unr (X D : Nat) : lessU (unr X D) = unr X (D + 1) := by
  have ht : 0 < 2 ^ D := Nat.two_pow_pos D
  have e4 : 2 ^ (D + 1) = 2 * 2 ^ D := by rw [Nat.pow_add]; omega
  obtain ⟨h1, h2⟩ := cut_parts X (2 ^ D) 2 ht
  unfold lessU unr
  rw [e4, h1, h2]
  have hR : X % 2 ^ D < 2 ^ D := Nat.mod_lt _ ht
  generalize X / 2 ^ D = Z
  generalize X % 2 ^ D = R at *
  generalize 2 ^ D = t at *
  clear h1 h2 e4
  by_cases hR0 : R = 0
  · subst hR0
    rw [if_pos rfl]
    by_cases hz : Z % 2 = 0
    · rw [if_pos hz, hz, if_pos (by simp)]
    · have hz1 : Z % 2 = 1 := by omega
      rw [if_neg hz, hz1, if_neg (by simp; omega)]
  · rw [if_neg hR0, if_neg (by omega), if_neg (by omega)]
    omega

/-- X stands between 2^(D+25) and 2^(D+27), and not near the latter: the rung nearest to it, by two places more -/
theorem rung_unr (X D : Nat) (hD : D ≤ 250) (h1 : 33554432 * 2 ^ D ≤ X) (h2 : 64 * X < 63 * (134217728 * 2 ^ D)) :
    (unr X D < 67108862 → 8388608 ≤ rndU (unr X D) ∧ rndU (unr X D) < 16777216 ∧ (D + 2) * 8388608 + rndU (unr X D) = rndR X) ∧
    (67108862 ≤ unr X D → 8388608 ≤ rndU (lessU (unr X D)) ∧ rndU (lessU (unr X D)) < 16777216 ∧ (D + 3) * 8388608 + rndU (lessU (unr X D)) = rndR X) ∧
    unr X D < 134217728 ∧ 33554432 ≤ unr X D := by
  have ht : 0 < 2 ^ D := Nat.two_pow_pos D
  have p25 : 2 ^ (D + 25) = 33554432 * 2 ^ D := by rw [Nat.pow_add, Nat.mul_comm]
  have p26 : 2 ^ (D + 26) = 67108864 * 2 ^ D := by rw [Nat.pow_add, Nat.mul_comm]
  have p27 : 2 ^ (D + 27) = 134217728 * 2 ^ D := by rw [Nat.pow_add, Nat.mul_comm]
  have p3 : 2 ^ (D + 3) = 8 * 2 ^ D := by rw [Nat.pow_add, Nat.mul_comm]
  have r1 := round_unr X D
  have r2 := less_unr X D
  have r3 := round_unr X (D + 1)
  rw [show D + 1 + 2 = D + 3 by omega] at r3
  have hX : X ≠ 0 := by intro h; rw [h] at h1; omega
  have l25 : ¬ X.log2 < D + 25 := by rw [Nat.log2_lt hX, p25]; omega
  have l27 : X.log2 < D + 27 := by rw [Nat.log2_lt hX, p27]; omega
  have l26 : X.log2 < D + 26 ↔ X < 67108864 * 2 ^ D := by rw [Nat.log2_lt hX, p26]
  have ub : X / 2 ^ D < 134217728 := by
    rw [Nat.div_lt_iff_lt_mul ht]; omega
  have lb : 33554432 ≤ X / 2 ^ D := by
    rw [Nat.le_div_iff_mul_le ht]; omega
  have mb : X / 2 ^ D < 67108864 ↔ X < 67108864 * 2 ^ D := by rw [Nat.div_lt_iff_lt_mul ht]
  have uu : X / 2 ^ D ≤ unr X D ∧ unr X D ≤ 2 * (X / 2 ^ D / 2) + 1 := by
    unfold unr; split <;> omega
  have low := @rnd_low X (by omega)
  have top := @rnd_top X
  have hle := @rne_le X (D + 3)
  have hq : X / 2 ^ (D + 3) = X / 2 ^ D / 8 := by rw [p3]; exact (cut_parts X (2 ^ D) 8 ht).1
  rw [hq] at hle
  have hm8 : 64 * (X / 2 ^ D) < 63 * 134217728 := by
    have h5 : X / 2 ^ D * 2 ^ D ≤ X := Nat.div_mul_le_self _ _
    have h6 : 64 * (X / 2 ^ D) * 2 ^ D < 63 * 134217728 * 2 ^ D := by
      rw [Nat.mul_assoc, Nat.mul_assoc]; omega
    exact Nat.lt_of_mul_lt_mul_right h6
  have hR : rndR X = min ((X.log2 - 23) * 8388608 + rne X (X.log2 - 23)) 2139095040 := rfl
  rw [hR, r2, r3]
  clear p25 p26 p27 p3 hq h1 h2 hR
  generalize X / 2 ^ D = Z at *
  by_cases hc : X.log2 < D + 26
  · have hz := mb.2 (l26.1 hc)
    have hd : X.log2 - 23 = D + 2 := by omega
    rw [hd, ← r1] at low top ⊢
    clear l26 mb l25 l27 hd hc hX ht
    generalize unr X D = u at *
    clear hm8
    refine ⟨fun hu => ?_, fun hu => ?_, by omega, by omega⟩
    · have hm : rndU u < 16777216 := by unfold rndU; omega
      clear r2 r3 top hle
      exact ⟨low, hm, by omega⟩
    · have hb : u = 67108862 ∨ u = 67108863 := by omega
      have e2 : rne X (D + 3) = 8388608 := by
        rw [← r3, ← r2]
        rcases hb with h | h <;> rw [h] <;> decide
      have e1 : rndU u = 16777216 := by
        rcases hb with h | h <;> rw [h] <;> decide
      rw [e2, e1]
      clear r2 r3 top hle low e1 e2 hb r1
      omega
  · have hz : ¬ Z < 67108864 := fun h => hc (l26.2 (mb.1 h))
    have hd : X.log2 - 23 = D + 3 := by omega
    rw [hd] at low top ⊢
    clear l26 mb l25 l27 hd hc hX ht r1 r2 r3
    generalize unr X D = u at *
    generalize rne X (D + 3) = m at *
    clear top
    refine ⟨fun hu => by omega, fun hu => ⟨low, by omega, by omega⟩, by omega, by omega⟩
end Go.Proofs.YtjdihnkcigoajaaGreatDoor



/- The library's scaling where the power of ten is told exactly: what is cut, and its last place. -/
namespace Go.Proofs.YtjdihnkcigoajaaGreatDoor
open Go.RowKit Go.PlainAid

theorem lor_one (v : Nat) : v ||| 1 = 2 * (v / 2) + 1 := by
  have h1 := Nat.two_pow_add_eq_or_of_lt (i := 1) (b := 1) (by decide) (v / 2)
  rw [Nat.pow_one] at h1
  rw [h1]
  by_cases h : v % 2 = 0
  · rw [show 2 * (v / 2) = v by omega]
  · have h2 : v = 2 * (v / 2) + 1 := by omega
    conv => lhs; rw [h2, h1]
    rw [Nat.or_assoc, Nat.or_self]
theorem or_one (v : Nat) (h : v < 18446744073709551616) : bits .or .u64 (v : Int) 1 = ((2 * (v / 2) + 1 : Nat) : Int) := by
  have := u64_or_nat v 1 h (by decide)
  rw [lor_one] at this
  exact this
theorem or_zero (v : Nat) (h : v < 18446744073709551616) : bits .or .u64 (v : Int) 0 = (v : Int) := by
  have := u64_or_nat v 0 h (by decide)
  rw [Nat.or_zero] at this
  exact this
theorem and_one (v : Nat) (h : v < 18446744073709551616) : bits .and .u64 (v : Int) 1 = ((v % 2 : Nat) : Int) := by
  have := u64_and_nat v 1 h (by decide)
  rw [Nat.and_one_is_mod] at this
  exact this

theorem unr_scale (V D k : Nat) : unr (V * 2 ^ k) (D + k) = unr V D := by
  have hk : 0 < 2 ^ k := Nat.two_pow_pos k
  have e1 : V * 2 ^ k / 2 ^ (D + k) = V / 2 ^ D := by rw [Nat.pow_add, Nat.mul_div_mul_right _ _ hk]
  have e2 : V * 2 ^ k % 2 ^ (D + k) = V % 2 ^ D * 2 ^ k := by rw [Nat.pow_add, Nat.mul_mod_mul_right]
  unfold unr
  rw [e1, e2]
  by_cases h : V % 2 ^ D = 0
  · rw [if_pos h, h, Nat.zero_mul, if_pos rfl]
  · rw [if_neg h, if_neg (by have := Nat.mul_pos (Nat.pos_of_ne_zero h) hk; omega)]

theorem unr_101 (T a c : Nat) (ha : a = T / 18446744073709551616) (hc : c = T % 18446744073709551616) :
    unr T 101 = if a % 137438953472 = 0 ∧ c = 0 then a / 137438953472 else 2 * (a / 137438953472 / 2) + 1 := by
  have e : (2 : Nat) ^ 101 = 137438953472 * 18446744073709551616 := by decide
  obtain ⟨h1, h2⟩ := cut_parts T 18446744073709551616 137438953472 (by decide)
  unfold unr
  rw [e, h1, h2, ← ha, ← hc]
  have : a % 137438953472 * 18446744073709551616 + c = 0 ↔ a % 137438953472 = 0 ∧ c = 0 := by omega
  simp only [this]

set_option maxRecDepth 1000000 in
theorem uscale_exact (x hi : Nat) (hx : x < 18446744073709551616) (hh : hi < 18446744073709551616) (h1 : x * hi % 18446744073709551616 ≠ 1) (w : World) :
    Calls Tryz.prog 162 #[.int .u64 (x : Int), .pointer (some ⟨w.heap.size, 0, none⟩)] (w.alloc (.cells #[.int .u64 (hi : Int), .int .u64 0, .int .i64 37] 184)) fun e w' => e = .returned (.int .u64 ((unr (x * hi) 101 : Nat) : Int)) ∧ ∃ n, w' = (w.alloc (.cells #[.int .u64 (hi : Int), .int .u64 0, .int .i64 37] 184)).drewN n := by
  have hm : (x : Int) * (hi : Int) = ((x * hi : Nat) : Int) := (Int.natCast_mul x hi).symm
  have hu := unr_101 (x * hi) _ _ rfl rfl
  have hlt : x * hi / 18446744073709551616 < 18446744073709551616 := by
    rw [Nat.div_lt_iff_lt_mul (by decide)]
    exact Nat.mul_lt_mul_of_lt_of_lt hx hh
  rw [hu]
  generalize hT : x * hi = T at *
  generalize hA : T / 18446744073709551616 = a at *
  generalize hC : T % 18446744073709551616 = c at *
  have ha : (x : Int) * (hi : Int) / 18446744073709551616 = (a : Int) := by rw [hm]; omega
  have hb : (x : Int) * (hi : Int) % 18446744073709551616 = (c : Int) := by rw [hm]; omega
  have hs : bits .and .i64 37 63 = 37 := by decide
  have e37 : (2 : Int) ^ (37 : Int).toNat = 137438953472 := by decide
  have hw : IntKind.u64.wrap ((a : Int) / 2 ^ (37 : Int).toNat * 2 ^ (37 : Int).toNat) = ((a / 137438953472 * 137438953472 : Nat) : Int) := by
    rw [e37, IntKind.wrap_u64]; omega
  have hd : ((a : Int) / 2 ^ (37 : Int).toNat) = ((a / 137438953472 : Nat) : Int) := by rw [e37]; omega
  by_cases h : a % 137438953472 = 0
  · have hne : (IntKind.u64.wrap ((a : Int) / 2 ^ (37 : Int).toNat * 2 ^ (37 : Int).toNat) != (a : Int)) = false := by
      rw [hw]; simp; omega
    have hw2 : IntKind.u64.wrap ((c : Int) - 0) = (c : Int) := by rw [IntKind.wrap_u64]; omega
    have hw3 : IntKind.u64.wrap ((a : Int) - 0) = (a : Int) := by rw [IntKind.wrap_u64]; omega
    by_cases hc : c = 0
    · have hR := uscale_all (x : Int) (hi : Int) 0 37 a c 0 0 0 0 w hs (by decide) (by decide) (by omega) (by omega) (by decide) ha hb (by simp) (by simp) hne (by rw [if_neg (by simp)]) (by rw [hw2, if_neg (by simp; omega)])
      rw [hw3, hd, or_zero _ (by omega)] at hR
      rw [if_pos ⟨h, hc⟩]
      exact hR
    · have hR := uscale_all (x : Int) (hi : Int) 0 37 a c 0 0 0 1 w hs (by decide) (by decide) (by omega) (by omega) (by decide) ha hb (by simp) (by simp) hne (by rw [if_neg (by simp)]) (by rw [hw2, if_pos (by simp; omega)])
      rw [hw3, hd, or_one _ (by omega)] at hR
      rw [if_neg (by omega)]
      exact hR
  · have hne : (IntKind.u64.wrap ((a : Int) / 2 ^ (37 : Int).toNat * 2 ^ (37 : Int).toNat) != (a : Int)) = true := by
      rw [hw]; simp; omega
    have hR := uscale_cut (x : Int) (hi : Int) 0 37 a c w hs (by decide) (by decide) (by omega) (by omega) ha hb hne
    rw [hd, or_one _ (by omega)] at hR
    rw [if_neg (by omega)]
    exact hR
end Go.Proofs.YtjdihnkcigoajaaGreatDoor


