/- The program's textAbove, for every float32 above 0. -/
import Derived.Test.YtfpcpociejefaaaGreatDoorNgA
import Derived.Test.YtfpcpociejefaaaGreatDoorRows
import Derived.Lib.AppendIntMem
namespace Go.Proofs.YtfpcpociejefaaaGreatDoor
open Go.RowKit Go.PlainAid
abbrev powN : String := (Rows.tuplesWritesRow.laid[4]'(by decide)).1
theorem pow_named : Tryz.prog.globalNamed powN = some 2 := by kernel_rfl
/-- the tables, and the whole powers as the library's functions ask for them -/
structure TabV (w : World) : Prop where
 t : TabT w
 p : Lib.TabIs Tryz.prog w powN .u64 Lib.pow10Tab
theorem TabV.below {w w' : World} (h : TabV w) (hb : Below w.heap.size w w') : TabV w' := by
 refine ⟨h.t.below hb, ?_⟩
 have hp := h.p
 have h4 : 2 < w.heap.size := block_lt_of_cell (h.t.u 0 (by decide))
 unfold Lib.TabIs World.var? at hp ⊢
 rw [pow_named] at hp ⊢
 simp only [Option.bind_some] at hp ⊢
 rw [(Keep.ofBelow hb).block 2 h4 (by simp)]
 exact hp
theorem itoa_any (n : Int) (h0 : -9223372036854775808 ≤ n) (h1 : n ≤ 9223372036854775807) (w : World) (htab : Lib.TabIs Tryz.prog w powN .u64 Lib.pow10Tab) : Calls Tryz.prog 126 #[.int .i64 n] w fun e w' => e = .returned (.string ⟨(Lib.itoa n).toArray⟩) ∧ Below w.heap.size w w' := by
 refine (Go.Proofs.Any.strconv_Itoa Tryz.laysM171 n h0 h1 w htab).mono ?_
 rintro e w' ⟨rfl, k, os, rfl⟩
 exact ⟨rfl, Lib.below_grow _ w (Nat.le_refl _) k os⟩
/-- the text of the real of number n, above 0 -/
def textB (n : Nat) : List UInt8 :=
 if exF n < -4 ∨ 8 < exF n then (digs n).take 1 ++ [46] ++ orB ((digs n).drop 1) ++ [101] ++ Lib.itoa (exF n) else plainB (digs n) (exF n)
theorem plainK_any (s : ByteArray) (k : Int) (hs : s.size ≤ 1000) (hk : -1000 ≤ k ∧ k ≤ 1000) (w : World) : Calls Tryz.prog 127 #[.string s, .int .i64 k] w fun e w' => (∃ T : ByteArray, e = .returned (.string T) ∧ T.data.toList = plainB s.data.toList k) ∧ Below w.heap.size w w' := by
 by_cases h : k < 0
 ·obtain ⟨x, rfl⟩ : ∃ x : Nat, k = -((x : Int) + 1) := ⟨(-k - 1).toNat, by omega⟩
  exact plain_neg s x hs (by omega) w
 ·obtain ⟨x, rfl⟩ : ∃ x : Nat, k = (x : Int) := ⟨k.toNat, by omega⟩
  by_cases h2 : s.size ≤ x + 1
  ·exact plain_long s x hs (by omega) h2 w
  ·exact plain_mid s x hs (by omega) w
theorem order_pos (n : Nat) (h1 : 1 ≤ n) (h2 : n < 2139095040) : (FloatKind.f32.format.order n 0 == some Ordering.eq) = false ∧ (FloatKind.f32.format.order n 2139095040 == some Ordering.eq) = false := by
 have r0 : rungN n = n := by unfold rungN; omega
 refine ⟨?_, ?_⟩
 ·show (Ieee.single.order n 0 == some Ordering.eq) = false
  rw [order_any, if_neg (by rw [r0, show rungN 0 = 0 by decide]; omega)]
  have : compare (srungZ n) (srungZ 0) = .gt := by
   have e1 : srungZ n = (n : Int) := by unfold srungZ; rw [r0]; rw [if_neg (by simp; omega)]
   rw [e1, show srungZ 0 = 0 by decide]
   exact Int.compare_eq_gt.2 (by omega)
  rw [this]
  rfl
 ·show (Ieee.single.order n 2139095040 == some Ordering.eq) = false
  rw [order_any, if_neg (by rw [r0, show rungN 2139095040 = 2139095040 by decide]; omega)]
  have : compare (srungZ n) (srungZ 2139095040) = .lt := by
   have e1 : srungZ n = (n : Int) := by unfold srungZ; rw [r0]; rw [if_neg (by simp; omega)]
   rw [e1, show srungZ 2139095040 = 2139095040 by decide]
   exact Int.compare_eq_lt.2 (by omega)
  rw [this]
  rfl
theorem itoa_len_nat : ∀ x, x < 100 → (Lib.itoa ((x : Nat) : Int)).length ≤ 3 := by decide +kernel
theorem itoa_len_neg : ∀ x, x < 100 → (Lib.itoa (-((x : Nat) : Int))).length ≤ 3 := by decide +kernel
theorem itoa_len (E : Int) (h : -100 < E ∧ E < 100) : (Lib.itoa E).length ≤ 3 := by
 by_cases hn : E < 0
 ·obtain ⟨x, rfl⟩ : ∃ x : Nat, E = -(x : Int) := ⟨E.natAbs, by omega⟩
  exact itoa_len_neg x (by omega)
 ·obtain ⟨x, rfl⟩ : ∃ x : Nat, E = (x : Int) := ⟨E.natAbs, by omega⟩
  exact itoa_len_nat x (by omega)
theorem orB_len (l : List UInt8) : (orB l).length ≤ l.length + 1 := by
 unfold orB
 split
 ·rename_i h; rw [h]; decide
 ·omega
set_option maxRecDepth 1000000 in
set_option maxHeartbeats 1000000 in
theorem textAbove_any (n : Nat) (h1 : 1 ≤ n) (h2 : n < 2139095040) (w : World) (hT : TabV w) : Calls Tryz.prog 107 #[.float .f32 n] w fun e w' => (∃ T : ByteArray, e = .returned (.string T) ∧ T.data.toList = textB n) ∧ Below w.heap.size w w' := by
 have hS := shortest_any n h1 h2 w hT.t
 have hI := infinite_any false
 simp only [Bool.false_eq_true, if_false] at hI
 obtain ⟨k1, k2⟩ := order_pos n h1 h2
 have hE := exF_bounds n h1 h2
 have hl := digs_len n h1 h2
 have hb := ndF_le n h1 h2
 have hsz : (⟨(digs n).toArray⟩ : ByteArray).size = (digs n).length := by show (digs n).toArray.size = _; simp
 have hdd : (⟨(digs n).toArray⟩ : ByteArray).data.toList = digs n := by show (digs n).toArray.toList = _; simp
 have HTx : Hid (textB n = if exF n < -4 ∨ 8 < exF n then (digs n).take 1 ++ [46] ++ orB ((digs n).drop 1) ++ [101] ++ Lib.itoa (exF n) else plainB (digs n) (exF n)) := rfl
 have hs1 : 1 ≤ (⟨(digs n).toArray⟩ : ByteArray).size ∧ (⟨(digs n).toArray⟩ : ByteArray).size ≤ 1000 := by rw [hsz]; omega
 have HDD : Hid ((⟨(digs n).toArray⟩ : ByteArray).data.toList = digs n) := hdd
 have HTV : Hid (TabV w) := hT
 generalize (⟨(digs n).toArray⟩ : ByteArray) = s at *
 generalize exF n = k at *
 obtain ⟨s1, s2⟩ := hs1
 have hs1i : (1 : Int) ≤ (s.size : Int) := by omega
 have HP := fun w => plainK_any s k s2 (by omega) w
 have HO := fun w => orNought_any (s.extract 1 s.size) w
 have HIt := fun w => itoa_any k (by omega) (by omega) w
 have hil := itoa_len k hE
 have his : (⟨(Lib.itoa k).toArray⟩ : ByteArray).size ≤ 3 := by show (Lib.itoa k).toArray.size ≤ 3; simpa using hil
 have hid : (⟨(Lib.itoa k).toArray⟩ : ByteArray).data.toList = Lib.itoa k := by show (Lib.itoa k).toArray.toList = _; simp
 have HID : Hid ((⟨(Lib.itoa k).toArray⟩ : ByteArray).data.toList = Lib.itoa k) := hid
 generalize (⟨(Lib.itoa k).toArray⟩ : ByteArray) = it at *
 have HTs : Hid (∀ T : ByteArray, T.data.toList = orB (s.extract 1 s.size).data.toList → T.size ≤ 1001) := fun T h => by
  have h3 : T.data.toList.length = T.size := Array.length_toList
  rw [← h3, h, ba_drop]
  have := orB_len (s.data.toList.drop 1)
  rw [List.length_drop] at this
  have h4 : s.data.toList.length = s.size := Array.length_toList
  omega
 clear hil hid
 obtain ⟨e1, e2⟩ := hE
 clear hl hb hsz hdd h1 h2 hT
 by_cases hA : k < -4
 ·have d1 : decide (k < -4) = true := decide_eq_true hA
  have HX : Hid (textB n = (digs n).take 1 ++ [46] ++ orB ((digs n).drop 1) ++ [101] ++ Lib.itoa k) := by
   show _ = _
   rw [HTx.out, if_pos (by omega)]
  clear HTx HP
  go_enter Tryz.func107, Tryz.ntmps107
  go_wp2_with (first
   | (go_at_call 123; refine (hI _).mono ?_; rintro e9 w9 ⟨rfl, hw9⟩; obtain rfl := hw9.symm)
   | (go_at_call 124; refine hS.mono ?_; rintro e9 w1 ⟨rfl, hb1⟩; have HV1 : Hid (TabV w1.drew ∧ Below w.heap.size w w1.drew) := ⟨(HTV.out.below hb1).below (Keep.refl [] w1).drew.below, hb1.trans ((Keep.refl [] w1).drew.below.mono hb1.size)⟩; clear hb1))
  go_region_with
   (first
   | (go_at_call 125; refine (HO _).mono ?_; rintro e9 w5 ⟨⟨T, rfl, hT2⟩, hw5⟩; obtain rfl := hw5.symm; have HT2 : Hid (T.data.toList = orB (s.extract 1 s.size).data.toList) := hT2; have hTs := HTs.out T hT2; clear hT2)
   | (go_at_call 126; refine (HIt _ HV1.out.1.p).mono ?_; rintro e9 w6 ⟨rfl, hb6⟩; have HB6 : Hid (Below w.heap.size w w6) := HV1.out.2.trans (hb6.mono HV1.out.2.size); clear hb6))
  all_goals
   go_wp2
   go_ret
   exact ⟨⟨_, rfl, by rw [HX.out, ba_app, ba_app, ba_app, ba_app, HT2.out, ba_take, ba_drop, HDD.out, HID.out]⟩, HB6.out⟩
 ·by_cases hB : 8 < k
  ·have d1 : decide (k < -4) = false := decide_eq_false hA
   have d2 : decide (8 < k) = true := decide_eq_true hB
   have HX : Hid (textB n = (digs n).take 1 ++ [46] ++ orB ((digs n).drop 1) ++ [101] ++ Lib.itoa k) := by
    show _ = _
    rw [HTx.out, if_pos (by omega)]
   clear HTx HP
   go_enter Tryz.func107, Tryz.ntmps107
   go_wp2_with (first
    | (go_at_call 123; refine (hI _).mono ?_; rintro e9 w9 ⟨rfl, hw9⟩; obtain rfl := hw9.symm)
    | (go_at_call 124; refine hS.mono ?_; rintro e9 w1 ⟨rfl, hb1⟩; have HV1 : Hid (TabV w1.drew ∧ Below w.heap.size w w1.drew) := ⟨(HTV.out.below hb1).below (Keep.refl [] w1).drew.below, hb1.trans ((Keep.refl [] w1).drew.below.mono hb1.size)⟩; clear hb1))
   go_region_with
    (first
    | (go_at_call 125; refine (HO _).mono ?_; rintro e9 w5 ⟨⟨T, rfl, hT2⟩, hw5⟩; obtain rfl := hw5.symm; have HT2 : Hid (T.data.toList = orB (s.extract 1 s.size).data.toList) := hT2; have hTs := HTs.out T hT2; clear hT2)
    | (go_at_call 126; refine (HIt _ HV1.out.1.p).mono ?_; rintro e9 w6 ⟨rfl, hb6⟩; have HB6 : Hid (Below w.heap.size w w6) := HV1.out.2.trans (hb6.mono HV1.out.2.size); clear hb6))
   all_goals
    go_wp2
    go_ret
    exact ⟨⟨_, rfl, by rw [HX.out, ba_app, ba_app, ba_app, ba_app, HT2.out, ba_take, ba_drop, HDD.out, HID.out]⟩, HB6.out⟩
  ·have d1 : decide (k < -4) = false := decide_eq_false hA
   have d2 : decide (8 < k) = false := decide_eq_false hB
   have HX : Hid (textB n = plainB (digs n) k) := by
    show _ = _
    rw [HTx.out, if_neg (by omega)]
   clear HTx HO HIt HTs his
   go_enter Tryz.func107, Tryz.ntmps107
   go_wp2_with (first
    | (go_at_call 123; refine (hI _).mono ?_; rintro e9 w9 ⟨rfl, hw9⟩; obtain rfl := hw9.symm)
    | (go_at_call 124; refine hS.mono ?_; rintro e9 w1 ⟨rfl, hb1⟩; have HB1 : Hid (Below w.heap.size w w1) := hb1; clear hb1)
    | (go_at_call 127; refine (HP _).mono ?_; rintro e9 w2 ⟨⟨T, rfl, hT2⟩, hb2⟩; have HB2 : Hid (Below w.heap.size w w2) := HB1.out.trans (hb2.mono HB1.out.size); have HT2 : Hid (T.data.toList = plainB s.data.toList k) := hT2; clear hb2 hT2))
   go_ret
   exact ⟨⟨_, rfl, by rw [HX.out, HT2.out, HDD.out]⟩, HB2.out⟩
end Go.Proofs.YtfpcpociejefaaaGreatDoor
