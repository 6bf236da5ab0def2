/- The document's Text.  Way lo, more, below 0. -/
import Derived.Test.YtfpcpociejefaaaGreatDoorNgWgn

namespace Go.Proofs.YtfpcpociejefaaaGreatDoor
open Go.RowKit Go.PlainAid
set_option maxRecDepth 1000000 in
set_option maxHeartbeats 1600000 in
theorem rText_bn (x n m : Nat) (k : Int) (hx : x < 4294967296) (hn : nanB x = false) (hb : belowB x = true) (hr : rungN x = n) (h1 : 1 ≤ n) (h2 : n < 2139095040) (hm : ndF n = m) (hkE : exF n = k) (hk : k < -4) (hm1 : 2 ≤ m) (w : World) :
  Calls Tryz.prog 77 #[.float .f32 x] w fun e w' => (∃ T : ByteArray, e = .returned (.string T) ∧ T.data.toList = 45 :: textB n) ∧ Below w.heap.size w w' := by
 have hN := rIsNan_any x
 have hB := rBelow_any x hx
 have hU := number_any x hx hn
 rw [hr] at hU
 rw [hn] at hN
 rw [hb] at hB
 obtain ⟨L, hL⟩ : ∃ L : Int, k - (m : Int) + 1 = L := ⟨_, rfl⟩
 have hF := fun w => few_text n h1 h2 m L hm (by rw [hkE]; exact hL) w
 have hdl := digs_len n h1 h2
 have hnd := ndF_le n h1 h2
 have hE := exF_bounds n h1 h2
 rw [hm] at hdl hnd
 rw [hkE] at hE
 have hm10 : m ≤ 10 := by omega
 have hm0 : 1 ≤ m := hnd.1
 have hLk : L + (m : Int) - 1 = k := by omega
 have hTB : Hid (textB n = if exF n < -4 ∨ 8 < exF n then (digs n).take 1 ++ [46] ++ orB ((digs n).drop 1) ++ [101] ++ Lib.itoa (exF n) else plainB (digs n) (exF n)) := rfl
 have HKE : Hid (exF n = k) := hkE
 have HDL : Hid ((digs n).length = m) := hdl
 have t0 : ((n : Int) == 2139095040) = false := beq_eq_false_iff_ne.2 (by omega)
 have t1 : ((n : Int) == 0) = false := beq_eq_false_iff_ne.2 (by omega)
 have HS : Hid (∀ T : ByteArray, T.data.toList = digs n → T.size = m) := fun T h => by
  have h3 : T.data.toList.length = T.size := Array.length_toList
  rw [← h3, h]
  exact hdl
 obtain ⟨hE1, hE2⟩ := hE
 have hL1 : -120 ≤ L := by omega
 have hL2 : L ≤ 120 := by omega
 have hmi : (m : Int) ≤ 10 := by omega
 have hm0i : 1 ≤ (m : Int) := by omega
 clear hL hm hkE hnd hdl hn hb hr hx h2
 obtain ⟨a, ha⟩ : ∃ a : Nat, k.natAbs = a := ⟨_, rfl⟩
 have hka : k = -(a : Int) := by omega
 have ha100 : a < 100 := by omega
 have hP := fun w => power_text a ha100 w
 have hmx : max k (-k) = (a : Int) := by omega
 have HP : Hid (∀ T : ByteArray, T.data.toList = decL a (if a < 10 then 1 else 2) → T.size ≤ 2) := fun T h => by
  have h3 : T.data.toList.length = T.size := Array.length_toList
  rw [← h3, h, decL_len]
  split <;> decide
 have HI : Hid (Lib.itoa k = 45 :: decL a (if a < 10 then 1 else 2)) := by
  show _ = _
  rw [hka]
  exact itoa_neg a ha100 (by omega)
 have HX : Hid (textB n = (digs n).take 1 ++ [46] ++ orB ((digs n).drop 1) ++ [101] ++ Lib.itoa k) := by
  show _ = _
  rw [hTB.out, HKE.out, if_pos (by omega)]
 have HA : Hid (k = -(a : Int)) := hka
 clear ha hka hTB
 have HNE : Hid ((digs n).drop 1 ≠ []) := show (digs n).drop 1 ≠ [] from fun h => by
  have := congrArg List.length h
  rw [List.length_drop, HDL.out] at this
  simp at this
  omega
 have HO : Hid (orB ((digs n).drop 1) = (digs n).drop 1) := by
  show _ = _
  unfold orB
  rw [if_neg HNE.out]
 go_enter Tryz.func77, Tryz.ntmps77
 go_wp2_with (first
  | (go_at_call 97; refine (hN _).mono ?_; rintro e9 w9 ⟨rfl, hw9⟩; obtain rfl := hw9.symm)
  | (go_at_call 98; refine (hB _).mono ?_; rintro e9 w9 ⟨rfl, hw9⟩; obtain rfl := hw9.symm)
  | (go_at_call 99; refine (hU _).mono ?_; rintro e9 w9 ⟨rfl, hw9⟩; obtain rfl := hw9.symm)
  | (go_at_call 100; refine (hF _).mono ?_; rintro e9 w1 ⟨q, hq, rfl, hk1⟩; have HQ : Hid _ := hq; clear hq; have HK1 : Hid (Keep [] w w1) := hk1; clear hk1)
  | (go_at_call_of 101 (Value.int IntKind.i64 ((q : Nat) : Int)); refine (HQ.out _).mono ?_; rintro e9 w2 ⟨⟨T, rfl, hT⟩, hb2⟩; have hts := HS.out T hT; have HT : Hid (T.data.toList = digs n) := hT; have HK2 : Hid (Keep [] w w2) := HK1.out.trans' (Keep.ofBelow hb2); clear hb2 hT; have hre : ((T.extract 1 m).toList == []) = false := by rw [Lib.toList_data, ext_drop T 1 m hts, HT.out]; exact beq_eq_false_iff_ne.2 (fun h => HNE.out h))
  | (go_at_call 101; refine (hP _).mono ?_; rintro e9 w3 ⟨⟨U, rfl, hU2⟩, hb3⟩; have hus := HP.out U hU2; have HU : Hid (U.data.toList = decL a (if a < 10 then 1 else 2)) := hU2; have HK3 : Hid (Keep [] w w3) := HK2.out.trans' (Keep.ofBelow hb3); clear hb3 hU2))
 go_ret
 exact ⟨⟨_, rfl, by rw [HX.out, HI.out, HO.out]; simp only [ba_app, ba_take, ext_drop T 1 _ hts, HT.out, HU.out]; rfl⟩, HK3.out.below⟩
end Go.Proofs.YtfpcpociejefaaaGreatDoor

/- The document's Text.  Way hi, one. -/
namespace Go.Proofs.YtfpcpociejefaaaGreatDoor
open Go.RowKit Go.PlainAid
set_option maxRecDepth 1000000 in
set_option maxHeartbeats 1600000 in
theorem rText_cp (x n m : Nat) (k : Int) (hx : x < 4294967296) (hn : nanB x = false) (hb : belowB x = false) (hr : rungN x = n) (h1 : 1 ≤ n) (h2 : n < 2139095040) (hm : ndF n = m) (hkE : exF n = k) (hk : 8 < k) (hm1 : m = 1) (w : World) :
  Calls Tryz.prog 77 #[.float .f32 x] w fun e w' => (∃ T : ByteArray, e = .returned (.string T) ∧ T.data.toList = textB n) ∧ Below w.heap.size w w' := by
 have hN := rIsNan_any x
 have hB := rBelow_any x hx
 have hU := number_any x hx hn
 rw [hr] at hU
 rw [hn] at hN
 rw [hb] at hB
 obtain ⟨L, hL⟩ : ∃ L : Int, k - (m : Int) + 1 = L := ⟨_, rfl⟩
 have hF := fun w => few_text n h1 h2 m L hm (by rw [hkE]; exact hL) w
 have hdl := digs_len n h1 h2
 have hnd := ndF_le n h1 h2
 have hE := exF_bounds n h1 h2
 rw [hm] at hdl hnd
 rw [hkE] at hE
 have hm10 : m ≤ 10 := by omega
 have hm0 : 1 ≤ m := hnd.1
 have hLk : L + (m : Int) - 1 = k := by omega
 have hTB : Hid (textB n = if exF n < -4 ∨ 8 < exF n then (digs n).take 1 ++ [46] ++ orB ((digs n).drop 1) ++ [101] ++ Lib.itoa (exF n) else plainB (digs n) (exF n)) := rfl
 have HKE : Hid (exF n = k) := hkE
 have HDL : Hid ((digs n).length = m) := hdl
 have t0 : ((n : Int) == 2139095040) = false := beq_eq_false_iff_ne.2 (by omega)
 have t1 : ((n : Int) == 0) = false := beq_eq_false_iff_ne.2 (by omega)
 have HS : Hid (∀ T : ByteArray, T.data.toList = digs n → T.size = m) := fun T h => by
  have h3 : T.data.toList.length = T.size := Array.length_toList
  rw [← h3, h]
  exact hdl
 obtain ⟨hE1, hE2⟩ := hE
 have hL1 : -120 ≤ L := by omega
 have hL2 : L ≤ 120 := by omega
 have hmi : (m : Int) ≤ 10 := by omega
 have hm0i : 1 ≤ (m : Int) := by omega
 clear hL hm hkE hnd hdl hn hb hr hx h2
 obtain ⟨a, ha⟩ : ∃ a : Nat, k.natAbs = a := ⟨_, rfl⟩
 have hka : k = (a : Int) := by omega
 have ha100 : a < 100 := by omega
 have hP := fun w => power_text a ha100 w
 have hmx : max k (-k) = (a : Int) := by omega
 have HP : Hid (∀ T : ByteArray, T.data.toList = decL a (if a < 10 then 1 else 2) → T.size ≤ 2) := fun T h => by
  have h3 : T.data.toList.length = T.size := Array.length_toList
  rw [← h3, h, decL_len]
  split <;> decide
 have HI : Hid (Lib.itoa k = decL a (if a < 10 then 1 else 2)) := by
  show _ = _
  rw [hka]
  exact itoa_pos a ha100
 have HX : Hid (textB n = (digs n).take 1 ++ [46] ++ orB ((digs n).drop 1) ++ [101] ++ Lib.itoa k) := by
  show _ = _
  rw [hTB.out, HKE.out, if_pos (by omega)]
 have HA : Hid (k = (a : Int)) := hka
 clear ha hka hTB
 have HNI : Hid ((digs n).drop 1 = []) := List.eq_nil_of_length_eq_zero (by rw [List.length_drop, HDL.out, hm1])
 clear hm1
 have HO : Hid (orB ((digs n).drop 1) = [48]) := by
  show _ = _
  rw [HNI.out]
  rfl
 go_enter Tryz.func77, Tryz.ntmps77
 go_wp2_with (first
  | (go_at_call 97; refine (hN _).mono ?_; rintro e9 w9 ⟨rfl, hw9⟩; obtain rfl := hw9.symm)
  | (go_at_call 98; refine (hB _).mono ?_; rintro e9 w9 ⟨rfl, hw9⟩; obtain rfl := hw9.symm)
  | (go_at_call 99; refine (hU _).mono ?_; rintro e9 w9 ⟨rfl, hw9⟩; obtain rfl := hw9.symm)
  | (go_at_call 100; refine (hF _).mono ?_; rintro e9 w1 ⟨q, hq, rfl, hk1⟩; have HQ : Hid _ := hq; clear hq; have HK1 : Hid (Keep [] w w1) := hk1; clear hk1)
  | (go_at_call_of 101 (Value.int IntKind.i64 ((q : Nat) : Int)); refine (HQ.out _).mono ?_; rintro e9 w2 ⟨⟨T, rfl, hT⟩, hb2⟩; have hts := HS.out T hT; have HT : Hid (T.data.toList = digs n) := hT; have HK2 : Hid (Keep [] w w2) := HK1.out.trans' (Keep.ofBelow hb2); clear hb2 hT; have hre : ((T.extract 1 m).toList == []) = true := by rw [Lib.toList_data, ext_drop T 1 m hts, HT.out]; exact beq_iff_eq.2 HNI.out)
  | (go_at_call 101; refine (hP _).mono ?_; rintro e9 w3 ⟨⟨U, rfl, hU2⟩, hb3⟩; have hus := HP.out U hU2; have HU : Hid (U.data.toList = decL a (if a < 10 then 1 else 2)) := hU2; have HK3 : Hid (Keep [] w w3) := HK2.out.trans' (Keep.ofBelow hb3); clear hb3 hU2))
 go_ret
 exact ⟨⟨_, rfl, by rw [HX.out, HI.out, HO.out]; simp only [ba_app, ba_take, HT.out, HU.out]; rfl⟩, HK3.out.below⟩
end Go.Proofs.YtfpcpociejefaaaGreatDoor
