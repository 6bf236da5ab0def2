/- The document's Text.  Way mid, any. -/
import Derived.Test.YtfpcpociejefaaaGreatDoorNgWgn
import Derived.Test.YtfpcpociejefaaaGreatDoorNgWbp
import Derived.Test.YtfpcpociejefaaaGreatDoorNgWdp
import Derived.Test.YtfpcpociejefaaaGreatDoorNgWcp
import Derived.Test.YtfpcpociejefaaaGreatDoorNgWfp
import Derived.Test.YtfpcpociejefaaaGreatDoorNgWdn
import Derived.Test.YtfpcpociejefaaaGreatDoorDcM5
import Derived.Test.YtfpcpociejefaaaGreatDoorJRefC
import Derived.Test.YtfpcpociejefaaaGreatDoorSaA

namespace Go.Proofs.YtfpcpociejefaaaGreatDoor
open Go.RowKit Go.PlainAid
set_option maxRecDepth 1000000 in
set_option maxHeartbeats 1600000 in
theorem rText_ep (x n m : Nat) (k : Int) (hx : x < 4294967296) (hn : nanB x = false) (hb : belowB x = false) (hr : rungN x = n) (h1 : 1 ≤ n) (h2 : n < 2139095040) (hm : ndF n = m) (hkE : exF n = k) (hk1 : -4 ≤ k) (hk2 : k < 0)  (w : World) :
  Calls Tryz.prog 77 #[.float .f32 x] w fun e w' => (∃ T : ByteArray, e = .returned (.string T) ∧ T.data.toList = textB n) ∧ Below w.heap.size w w' := by
 have hN := rIsNan_any x
 have hB := rBelow_any x hx
 have hU := number_any x hx hn
 rw [hr] at hU
 rw [hn] at hN
 rw [hb] at hB
 obtain ⟨L, hL⟩ : ∃ L : Int, k - (m : Int) + 1 = L := ⟨_, rfl⟩
 have hF := fun w => few_text n h1 h2 m L hm (by rw [hkE]; exact hL) w
 have hdl := digs_len n h1 h2
 have hnd := ndF_le n h1 h2
 have hE := exF_bounds n h1 h2
 rw [hm] at hdl hnd
 rw [hkE] at hE
 have hm10 : m ≤ 10 := by omega
 have hm0 : 1 ≤ m := hnd.1
 have hLk : L + (m : Int) - 1 = k := by omega
 have hTB : Hid (textB n = if exF n < -4 ∨ 8 < exF n then (digs n).take 1 ++ [46] ++ orB ((digs n).drop 1) ++ [101] ++ Lib.itoa (exF n) else plainB (digs n) (exF n)) := rfl
 have HKE : Hid (exF n = k) := hkE
 have HDL : Hid ((digs n).length = m) := hdl
 have t0 : ((n : Int) == 2139095040) = false := beq_eq_false_iff_ne.2 (by omega)
 have t1 : ((n : Int) == 0) = false := beq_eq_false_iff_ne.2 (by omega)
 have HS : Hid (∀ T : ByteArray, T.data.toList = digs n → T.size = m) := fun T h => by
  have h3 : T.data.toList.length = T.size := Array.length_toList
  rw [← h3, h]
  exact hdl
 obtain ⟨hE1, hE2⟩ := hE
 have hL1 : -120 ≤ L := by omega
 have hL2 : L ≤ 120 := by omega
 have hmi : (m : Int) ≤ 10 := by omega
 have hm0i : 1 ≤ (m : Int) := by omega
 clear hL hm hkE hnd hdl hn hb hr hx h2
 obtain ⟨X, hX⟩ : ∃ X : Nat, -k - 1 = (X : Int) := ⟨(-k - 1).toNat, by omega⟩
 have hX3 : (X : Int) ≤ 3 := by omega
 have hP := fun w => noughts_any X (by omega) w
 have HX : Hid (textB n = [48, 46] ++ List.replicate X 48 ++ digs n) := by
  show _ = _
  rw [hTB.out, HKE.out, if_neg (by omega)]
  unfold plainB
  rw [if_pos hk2, show (-k - 1).toNat = X by omega]
 have HZ : Hid (∀ U : ByteArray, U.data.toList = List.replicate X 48 → U.size = X) := fun U h => by
  have h3 : U.data.toList.length = U.size := Array.length_toList
  rw [← h3, h, List.length_replicate]
 clear hTB
 go_enter Tryz.func77, Tryz.ntmps77
 go_wp2_with (first
  | (go_at_call 97; refine (hN _).mono ?_; rintro e9 w9 ⟨rfl, hw9⟩; obtain rfl := hw9.symm)
  | (go_at_call 98; refine (hB _).mono ?_; rintro e9 w9 ⟨rfl, hw9⟩; obtain rfl := hw9.symm)
  | (go_at_call 99; refine (hU _).mono ?_; rintro e9 w9 ⟨rfl, hw9⟩; obtain rfl := hw9.symm)
  | (go_at_call 100; refine (hF _).mono ?_; rintro e9 w1 ⟨q, hq, rfl, hk1⟩; have HQ : Hid _ := hq; clear hq; have HK1 : Hid (Keep [] w w1) := hk1; clear hk1)
  | (go_at_call_of 101 (Value.int IntKind.i64 ((q : Nat) : Int)); refine (HQ.out _).mono ?_; rintro e9 w2 ⟨⟨T, rfl, hT⟩, hb2⟩; have hts := HS.out T hT; have HT : Hid (T.data.toList = digs n) := hT; have HK2 : Hid (Keep [] w w2) := HK1.out.trans' (Keep.ofBelow hb2); clear hb2 hT; skip)
  | (go_at_call 102; refine (hP _).mono ?_; rintro e9 w3 ⟨⟨U, rfl, hU2⟩, hw3⟩; obtain rfl := hw3.symm; have hus := HZ.out U hU2; have HU : Hid (U.data.toList = List.replicate X 48) := hU2; clear hU2))
 go_ret
 exact ⟨⟨_, rfl, by rw [HX.out]; simp only [ba_app, HT.out, HU.out]; rfl⟩, HK2.out.below⟩
end Go.Proofs.YtfpcpociejefaaaGreatDoor

/- The document's Text.  Way pos, long. -/
namespace Go.Proofs.YtfpcpociejefaaaGreatDoor
open Go.RowKit Go.PlainAid
set_option maxRecDepth 1000000 in
set_option maxHeartbeats 1600000 in
theorem rText_gp (x n m : Nat) (k : Int) (hx : x < 4294967296) (hn : nanB x = false) (hb : belowB x = false) (hr : rungN x = n) (h1 : 1 ≤ n) (h2 : n < 2139095040) (hm : ndF n = m) (hkE : exF n = k) (hk1 : 0 ≤ k) (hk2 : k ≤ 8) (hm1 : k + 1 < (m : Int)) (w : World) :
  Calls Tryz.prog 77 #[.float .f32 x] w fun e w' => (∃ T : ByteArray, e = .returned (.string T) ∧ T.data.toList = textB n) ∧ Below w.heap.size w w' := by
 have hN := rIsNan_any x
 have hB := rBelow_any x hx
 have hU := number_any x hx hn
 rw [hr] at hU
 rw [hn] at hN
 rw [hb] at hB
 obtain ⟨L, hL⟩ : ∃ L : Int, k - (m : Int) + 1 = L := ⟨_, rfl⟩
 have hF := fun w => few_text n h1 h2 m L hm (by rw [hkE]; exact hL) w
 have hdl := digs_len n h1 h2
 have hnd := ndF_le n h1 h2
 have hE := exF_bounds n h1 h2
 rw [hm] at hdl hnd
 rw [hkE] at hE
 have hm10 : m ≤ 10 := by omega
 have hm0 : 1 ≤ m := hnd.1
 have hLk : L + (m : Int) - 1 = k := by omega
 have hTB : Hid (textB n = if exF n < -4 ∨ 8 < exF n then (digs n).take 1 ++ [46] ++ orB ((digs n).drop 1) ++ [101] ++ Lib.itoa (exF n) else plainB (digs n) (exF n)) := rfl
 have HKE : Hid (exF n = k) := hkE
 have HDL : Hid ((digs n).length = m) := hdl
 have t0 : ((n : Int) == 2139095040) = false := beq_eq_false_iff_ne.2 (by omega)
 have t1 : ((n : Int) == 0) = false := beq_eq_false_iff_ne.2 (by omega)
 have HS : Hid (∀ T : ByteArray, T.data.toList = digs n → T.size = m) := fun T h => by
  have h3 : T.data.toList.length = T.size := Array.length_toList
  rw [← h3, h]
  exact hdl
 obtain ⟨hE1, hE2⟩ := hE
 have hL1 : -120 ≤ L := by omega
 have hL2 : L ≤ 120 := by omega
 have hmi : (m : Int) ≤ 10 := by omega
 have hm0i : 1 ≤ (m : Int) := by omega
 clear hL hm hkE hnd hdl hn hb hr hx h2
 obtain ⟨K, hK⟩ : ∃ K : Nat, k + 1 = (K : Int) := ⟨(k + 1).toNat, by omega⟩
 have hK1 : (K : Int) ≤ 9 := by omega
 have hK0 : 1 ≤ (K : Int) := by omega
 obtain ⟨c, hc⟩ : ∃ c : Int, (K : Int) - (m : Int) = c := ⟨_, rfl⟩
 have hc0 : c < 0 := by omega
 have hcl : -20 ≤ c := by omega
 have hP : ∀ w, Calls Tryz.prog 102 #[.int .i64 c] w fun e w' => (∃ U : ByteArray, e = .returned (.string U) ∧ U.data.toList = []) ∧ w' = w := fun w => (noughts_neg c hc0 w).mono (by rintro e w' ⟨rfl, rfl⟩; exact ⟨⟨_, rfl, rfl⟩, rfl⟩)
 have HZ : Hid (∀ U : ByteArray, U.data.toList = [] → U.size = 0) := fun U h => by
  have h3 : U.data.toList.length = U.size := Array.length_toList
  rw [← h3, h]
  rfl
 have HZ2 : Hid (∀ T U : ByteArray, T.size = m → U.data.toList = [] → (T ++ U).size = m) := fun T U h1 h2 => by
  rw [ByteArray.size_append, HZ.out U h2]
  omega
 have HX : Hid (textB n = (digs n).take K ++ [46] ++ (digs n).drop K) := by
  show _ = _
  rw [hTB.out, HKE.out, if_neg (by omega)]
  unfold plainB
  rw [if_neg (by omega), HDL.out, if_neg (by omega), show (k + 1).toNat = K by omega]
 have HNE : Hid ((digs n).drop K ≠ []) := show (digs n).drop K ≠ [] from fun h => by
  have := congrArg List.length h
  rw [List.length_drop, HDL.out] at this
  simp at this
  omega
 clear hTB
 go_enter Tryz.func77, Tryz.ntmps77
 go_wp2_with (first
  | (go_at_call 97; refine (hN _).mono ?_; rintro e9 w9 ⟨rfl, hw9⟩; obtain rfl := hw9.symm)
  | (go_at_call 98; refine (hB _).mono ?_; rintro e9 w9 ⟨rfl, hw9⟩; obtain rfl := hw9.symm)
  | (go_at_call 99; refine (hU _).mono ?_; rintro e9 w9 ⟨rfl, hw9⟩; obtain rfl := hw9.symm)
  | (go_at_call 100; refine (hF _).mono ?_; rintro e9 w1 ⟨q, hq, rfl, hk1⟩; have HQ : Hid _ := hq; clear hq; have HK1 : Hid (Keep [] w w1) := hk1; clear hk1)
  | (go_at_call_of 101 (Value.int IntKind.i64 ((q : Nat) : Int)); refine (HQ.out _).mono ?_; rintro e9 w2 ⟨⟨T, rfl, hT⟩, hb2⟩; have hts := HS.out T hT; have HT : Hid (T.data.toList = digs n) := hT; have HK2 : Hid (Keep [] w w2) := HK1.out.trans' (Keep.ofBelow hb2); clear hb2 hT; skip)
  | (go_at_call 102; refine (hP _).mono ?_; rintro e9 w3 ⟨⟨U, rfl, hU2⟩, hw3⟩; obtain rfl := hw3.symm; have htu := HZ2.out T U hts hU2; have HU : Hid (U.data.toList = []) := hU2; have hus : U.size = 0 := HZ.out U hU2; have hre : (((T ++ U).extract K m).toList == []) = false := (by rw [Lib.toList_data, ext_drop (T ++ U) K m htu, ba_app, HT.out, HU.out, List.append_nil]; exact beq_eq_false_iff_ne.2 (fun h => HNE.out h)); clear hU2))
 go_ret
 exact ⟨⟨_, rfl, by rw [HX.out]; simp only [ba_app, ba_take, ext_drop (T ++ U) K _ htu, HT.out, HU.out, List.append_nil]; rfl⟩, HK2.out.below⟩
end Go.Proofs.YtfpcpociejefaaaGreatDoor

/- The document's Text of every float32. -/
namespace Go.Proofs.YtfpcpociejefaaaGreatDoor
open Go.RowKit Go.PlainAid
theorem rText_p (x n : Nat) (hx : x < 4294967296) (hn : nanB x = false) (hb : belowB x = false) (hr : rungN x = n) (h1 : 1 ≤ n) (h2 : n < 2139095040) (w : World) :
  Calls Tryz.prog 77 #[.float .f32 x] w fun e w' => (∃ T : ByteArray, e = .returned (.string T) ∧ T.data.toList = textB n) ∧ Below w.heap.size w w' := by
 have hl := ndF_le n h1 h2
 rcases (show exF n < -4 ∨ -4 ≤ exF n by omega) with h | h
 ·rcases Nat.lt_or_ge (ndF n) 2 with g | g
  ·exact rText_ap x n _ _ hx hn hb hr h1 h2 rfl rfl h (by omega) w
  ·exact rText_bp x n _ _ hx hn hb hr h1 h2 rfl rfl h g w
 ·rcases (show 8 < exF n ∨ exF n ≤ 8 by omega) with h3 | h3
  ·rcases Nat.lt_or_ge (ndF n) 2 with g | g
   ·exact rText_cp x n _ _ hx hn hb hr h1 h2 rfl rfl h3 (by omega) w
   ·exact rText_dp x n _ _ hx hn hb hr h1 h2 rfl rfl h3 g w
  ·rcases (show exF n < 0 ∨ 0 ≤ exF n by omega) with h4 | h4
   ·exact rText_ep x n _ _ hx hn hb hr h1 h2 rfl rfl h h4 w
   ·rcases (show exF n + 1 < (ndF n : Int) ∨ (ndF n : Int) ≤ exF n + 1 by omega) with g | g
    ·exact rText_gp x n _ _ hx hn hb hr h1 h2 rfl rfl h4 h3 g w
    ·exact rText_fp x n _ _ hx hn hb hr h1 h2 rfl rfl h4 h3 g w
set_option maxRecDepth 1000000 in
theorem rText_p0 (x n : Nat) (hx : x < 4294967296) (hn : nanB x = false) (hb : belowB x = false) (hr : rungN x = n) (h : n = 0 ∨ n = 2139095040) (w : World) :
  Calls Tryz.prog 77 #[.float .f32 x] w fun e w' => (∃ T : ByteArray, e = .returned (.string T) ∧ T.data.toList = textU n) ∧ Below w.heap.size w w' := by
 have hN := rIsNan_any x
 have hB := rBelow_any x hx
 have hU := number_any x hx hn
 rw [hr] at hU
 rw [hn] at hN
 rw [hb] at hB
 clear hr hn hb hx
 rcases h with rfl | rfl
 all_goals
  go_enter Tryz.func77, Tryz.ntmps77
  go_wp2_with (first
   | (go_at_call 97; refine (hN _).mono ?_; rintro e9 w9 ⟨rfl, hw9⟩; obtain rfl := hw9.symm)
   | (go_at_call 98; refine (hB _).mono ?_; rintro e9 w9 ⟨rfl, hw9⟩; obtain rfl := hw9.symm)
   | (go_at_call 99; refine (hU _).mono ?_; rintro e9 w9 ⟨rfl, hw9⟩; obtain rfl := hw9.symm))
  go_ret
  exact ⟨⟨_, rfl, rfl⟩, Below.refl _ _⟩
theorem rText_n (x n : Nat) (hx : x < 4294967296) (hn : nanB x = false) (hb : belowB x = true) (hr : rungN x = n) (h1 : 1 ≤ n) (h2 : n < 2139095040) (w : World) :
  Calls Tryz.prog 77 #[.float .f32 x] w fun e w' => (∃ T : ByteArray, e = .returned (.string T) ∧ T.data.toList = 45 :: textB n) ∧ Below w.heap.size w w' := by
 have hl := ndF_le n h1 h2
 rcases (show exF n < -4 ∨ -4 ≤ exF n by omega) with h | h
 ·rcases Nat.lt_or_ge (ndF n) 2 with g | g
  ·exact rText_an x n _ _ hx hn hb hr h1 h2 rfl rfl h (by omega) w
  ·exact rText_bn x n _ _ hx hn hb hr h1 h2 rfl rfl h g w
 ·rcases (show 8 < exF n ∨ exF n ≤ 8 by omega) with h3 | h3
  ·rcases Nat.lt_or_ge (ndF n) 2 with g | g
   ·exact rText_cn x n _ _ hx hn hb hr h1 h2 rfl rfl h3 (by omega) w
   ·exact rText_dn x n _ _ hx hn hb hr h1 h2 rfl rfl h3 g w
  ·rcases (show exF n < 0 ∨ 0 ≤ exF n by omega) with h4 | h4
   ·exact rText_en x n _ _ hx hn hb hr h1 h2 rfl rfl h h4 w
   ·rcases (show exF n + 1 < (ndF n : Int) ∨ (ndF n : Int) ≤ exF n + 1 by omega) with g | g
    ·exact rText_gn x n _ _ hx hn hb hr h1 h2 rfl rfl h4 h3 g w
    ·exact rText_fn x n _ _ hx hn hb hr h1 h2 rfl rfl h4 h3 g w
set_option maxRecDepth 1000000 in
theorem rText_n0 (x n : Nat) (hx : x < 4294967296) (hn : nanB x = false) (hb : belowB x = true) (hr : rungN x = n) (h : n = 0 ∨ n = 2139095040) (w : World) :
  Calls Tryz.prog 77 #[.float .f32 x] w fun e w' => (∃ T : ByteArray, e = .returned (.string T) ∧ T.data.toList = 45 :: textU n) ∧ Below w.heap.size w w' := by
 have hN := rIsNan_any x
 have hB := rBelow_any x hx
 have hU := number_any x hx hn
 rw [hr] at hU
 rw [hn] at hN
 rw [hb] at hB
 clear hr hn hb hx
 rcases h with rfl | rfl
 all_goals
  go_enter Tryz.func77, Tryz.ntmps77
  go_wp2_with (first
   | (go_at_call 97; refine (hN _).mono ?_; rintro e9 w9 ⟨rfl, hw9⟩; obtain rfl := hw9.symm)
   | (go_at_call 98; refine (hB _).mono ?_; rintro e9 w9 ⟨rfl, hw9⟩; obtain rfl := hw9.symm)
   | (go_at_call 99; refine (hU _).mono ?_; rintro e9 w9 ⟨rfl, hw9⟩; obtain rfl := hw9.symm))
  go_ret
  exact ⟨⟨_, rfl, rfl⟩, Below.refl _ _⟩
set_option maxRecDepth 1000000 in
theorem rText_any (x : Nat) (hx : x < 4294967296) (w : World) : Calls Tryz.prog 77 #[.float .f32 x] w fun e w' => (∃ T : ByteArray, e = .returned (.string T) ∧ T.data.toList = textR x) ∧ Below w.heap.size w w' := by
 by_cases hn : nanB x = true
 ·have hN := rIsNan_any x
  have hR : textR x = [110, 97, 110] := by unfold textR; rw [if_pos hn]
  rw [hR]
  rw [hn] at hN
  clear hn hx hR
  go_enter Tryz.func77, Tryz.ntmps77
  go_wp2_with (first
   | (go_at_call 97; refine (hN _).mono ?_; rintro e9 w9 ⟨rfl, hw9⟩; obtain rfl := hw9.symm))
  go_ret
  exact ⟨⟨_, rfl, rfl⟩, Below.refl _ _⟩
 ·have hn0 : nanB x = false := by simpa using hn
  have hle : rungN x ≤ 2139095040 := by
   unfold nanB at hn0
   have := of_decide_eq_false hn0
   unfold rungN
   omega
  have hU : ∀ n, 1 ≤ n → n < 2139095040 → textU n = textB n := fun n h1 h2 => by
   unfold textU
   rw [if_neg (by omega), if_neg (by omega)]
  by_cases hb : belowB x = true
  ·have hx31 : 2147483648 ≤ x := by
    unfold belowB at hb
    simp at hb
    omega
   have hR : textR x = 45 :: textU (rungN x) := by
    unfold textR
    rw [if_neg hn, if_pos hb, show x - 2147483648 = rungN x by unfold rungN; omega]
   rw [hR]
   by_cases h0 : rungN x = 0 ∨ rungN x = 2139095040
   ·exact rText_n0 x _ hx hn0 hb rfl h0 w
   ·rw [hU _ (by omega) (by omega)]
    exact rText_n x _ hx hn0 hb rfl (by omega) (by omega) w
  ·have hb0 : belowB x = false := by simpa using hb
   have hx31 : x < 2147483648 := by
    unfold belowB at hb0
    rw [hn0] at hb0
    simp at hb0
    omega
   have hR : textR x = textU (rungN x) := by
    unfold textR
    rw [if_neg hn, if_neg hb, show rungN x = x by unfold rungN; omega]
   rw [hR]
   by_cases h0 : rungN x = 0 ∨ rungN x = 2139095040
   ·exact rText_p0 x _ hx hn0 hb0 rfl h0 w
   ·rw [hU _ (by omega) (by omega)]
    exact rText_p x _ hx hn0 hb0 rfl (by omega) (by omega) w
end Go.Proofs.YtfpcpociejefaaaGreatDoor

/- The document's Text of a value. -/
namespace Go.Proofs.YtfpcpociejefaaaGreatDoor
open Go.RowKit Go.PlainAid
theorem tail_snoc (sep y : List UInt8) (r : List (List UInt8)) : Lib.joinTail sep (r ++ [y]) = Lib.joinTail sep r ++ sep ++ y := by
 unfold Lib.joinTail
 rw [List.map_append, List.flatten_append]
 simp [List.append_assoc]
theorem join_snoc (sep y : List UInt8) (xs : List (List UInt8)) (h : xs ≠ []) : Lib.join (xs ++ [y]) sep = Lib.join xs sep ++ sep ++ y := by
 cases xs with
 | nil => exact absurd rfl h
 | cons x r => rw [List.cons_append, Lib.join_cons, Lib.join_cons, tail_snoc]; simp [List.append_assoc]
set_option maxRecDepth 1000000 in
set_option maxHeartbeats 400000 in
theorem dText_1 (x : VD) (hx : x.Ok) (hm : x.mayB = true) (hk : x.kind = 1) (u : Value) (w : World) (hu : Ts w u x.texts) :
  Calls Tryz.prog 50 #[x.val u] w fun e w' => e = .returned (.tuple #[.string (ba (litL x)), .int .i64 0]) ∧ Keep [] w w' := by
 have hM := fun w1 (k : Keep [] w w1) => rMay_any x hx u w1 (hu.keep k (Off.nil _))
 rw [hm] at hM
 obtain ⟨ao, ca, rfl, _, _, _, _⟩ := hu.ex
 have HM : Hid _ := hM
 have k1 : (x.kind == 1) = true := beq_iff_eq.2 hk
 have HL : Hid (litL x = if x.bool then [116, 114, 117, 101] else [102, 97, 108, 115, 101]) := by show _ = _; unfold litL; rw [if_pos hk]
 clear hu hm hM hk
 have K0 : Hid (Keep [] w (w.alloc (x.blk (.slice ao x.texts.length ca)))) := Keep.alloc1 w _
 by_cases hb : x.bool = true
 ·have HS : Hid (ba (litL x) = ⟨#[116, 114, 117, 101]⟩) := by show _ = _; rw [HL.out, hb]; rfl
  have HB : Hid (x.bool = true) := hb
  clear hb
  go_enter Tryz.func50, Tryz.ntmps50
  go_wp2_with fail
  refine (HM.out _ K0.out).mono ?_
  rintro e9 w1 ⟨rfl, kk1⟩
  obtain ⟨⟨c0, c1, c2, c3, c4, c5⟩, _⟩ := six_cells kk1 (by simp)
  rw [HB.out] at c1
  have HK1 : Hid (Keep [] w w1) := K0.out.trans' kk1
  clear HM kk1
  go_wp2
  go_ret2
  exact ⟨by rw [HS.out]; rfl, HK1.out⟩
 ·have hb0 : x.bool = false := by simpa using hb
  have HS : Hid (ba (litL x) = ⟨#[102, 97, 108, 115, 101]⟩) := by show _ = _; rw [HL.out, hb0]; rfl
  have HB : Hid (x.bool = false) := hb0
  clear hb hb0
  go_enter Tryz.func50, Tryz.ntmps50
  go_wp2_with fail
  refine (HM.out _ K0.out).mono ?_
  rintro e9 w1 ⟨rfl, kk1⟩
  obtain ⟨⟨c0, c1, c2, c3, c4, c5⟩, _⟩ := six_cells kk1 (by simp)
  rw [HB.out] at c1
  have HK1 : Hid (Keep [] w w1) := K0.out.trans' kk1
  clear HM kk1
  go_wp2
  go_ret2
  exact ⟨by rw [HS.out]; rfl, HK1.out⟩
set_option maxRecDepth 1000000 in
set_option maxHeartbeats 400000 in
theorem dText_2 (x : VD) (hx : x.Ok) (hm : x.mayB = true) (hk : x.kind = 2) (u : Value) (w : World) (hu : Ts w u x.texts) (hT : TabV w) :
  Calls Tryz.prog 50 #[x.val u] w fun e w' => e = .returned (.tuple #[.string (ba (litL x)), .int .i64 0]) ∧ Keep [] w w' := by
 have hM := fun w1 (k : Keep [] w w1) => rMay_any x hx u w1 (hu.keep k (Off.nil _))
 rw [hm] at hM
 obtain ⟨s1, s2, s3⟩ := may_short x hm
 obtain ⟨ao, ca, rfl, _, _, _, _⟩ := hu.ex
 have HM : Hid _ := hM
 have HT : Hid (TabV w) := hT
 have k1 : (x.kind == 1) = false := beq_eq_false_iff_ne.2 (by omega)
 have k2 : (x.kind == 2) = true := beq_iff_eq.2 hk
 obtain ⟨S, hS⟩ : ∃ S, ba (Lib.itoa x.int) = S := ⟨_, rfl⟩
 have e0 : ba (litL x) = S := by rw [← hS]; unfold litL; simp [hk]
 rw [e0]
 have HS : Hid (ba (Lib.itoa x.int) = S) := hS
 clear hS e0
 clear hu hm hM hT hk
 have K0 : Hid (Keep [] w (w.alloc (x.blk (.slice ao x.texts.length ca)))) := Keep.alloc1 w _
 go_enter Tryz.func50, Tryz.ntmps50
 go_wp2_with fail
 refine (HM.out _ K0.out).mono ?_
 rintro e9 w1 ⟨rfl, kk1⟩
 obtain ⟨⟨c0, c1, c2, c3, c4, c5⟩, _⟩ := six_cells kk1 (by simp)
 have HK1 : Hid (Keep [] w w1) := K0.out.trans' kk1
 clear HM kk1
 go_wp2_with fail
 refine ((show Calls _ _ _ _ _ from HS.out ▸ format_any x.int hx.int0 hx.int1 _ (HT.out.keep HK1.out))).mono ?_
 rintro e9 w2 ⟨rfl, k9⟩
 have HK2 : Hid (Keep [] w w2) := HK1.out.trans' k9
 clear k9
 go_wp2
 go_ret2
 exact ⟨rfl, HK2.out⟩
set_option maxRecDepth 1000000 in
set_option maxHeartbeats 400000 in
theorem dText_3 (x : VD) (hx : x.Ok) (hm : x.mayB = true) (hk : x.kind = 3) (u : Value) (w : World) (hu : Ts w u x.texts) (hT : TabV w) :
  Calls Tryz.prog 50 #[x.val u] w fun e w' => e = .returned (.tuple #[.string (ba (litL x)), .int .i64 0]) ∧ Keep [] w w' := by
 have hM := fun w1 (k : Keep [] w w1) => rMay_any x hx u w1 (hu.keep k (Off.nil _))
 rw [hm] at hM
 obtain ⟨s1, s2, s3⟩ := may_short x hm
 obtain ⟨ao, ca, rfl, _, _, _, _⟩ := hu.ex
 have HM : Hid _ := hM
 have HT : Hid (TabV w) := hT
 have k1 : (x.kind == 1) = false := beq_eq_false_iff_ne.2 (by omega)
 have k2 : (x.kind == 2) = false := beq_eq_false_iff_ne.2 (by omega)
 have k3 : (x.kind == 3) = true := beq_iff_eq.2 hk
 obtain ⟨S, hS⟩ : ∃ S, ba (textR x.real) = S := ⟨_, rfl⟩
 have e0 : ba (litL x) = S := by rw [← hS]; unfold litL; simp [hk]
 rw [e0]
 have HS : Hid (ba (textR x.real) = S) := hS
 clear hS e0
 clear hu hm hM hT hk
 have K0 : Hid (Keep [] w (w.alloc (x.blk (.slice ao x.texts.length ca)))) := Keep.alloc1 w _
 go_enter Tryz.func50, Tryz.ntmps50
 go_wp2_with fail
 refine (HM.out _ K0.out).mono ?_
 rintro e9 w1 ⟨rfl, kk1⟩
 obtain ⟨⟨c0, c1, c2, c3, c4, c5⟩, _⟩ := six_cells kk1 (by simp)
 have HK1 : Hid (Keep [] w w1) := K0.out.trans' kk1
 clear HM kk1
 go_wp2_with fail
 refine ((show Calls Tryz.prog 77 #[.float .f32 x.real] w1 (fun e w2 => e = .returned (.string S) ∧ Keep [] w1 w2) from (rText_any x.real hx.real1 w1).mono (fun e w2 h => by obtain ⟨⟨T, he, hT⟩, hb⟩ := h; exact ⟨by rw [he, textR_ba T _ hT, HS.out], Keep.ofBelow hb⟩))).mono ?_
 rintro e9 w2 ⟨rfl, k9⟩
 have HK2 : Hid (Keep [] w w2) := HK1.out.trans' k9
 clear k9
 go_wp2
 go_ret2
 exact ⟨rfl, HK2.out⟩
set_option maxRecDepth 1000000 in
set_option maxHeartbeats 400000 in
theorem dText_4 (x : VD) (hx : x.Ok) (hm : x.mayB = true) (hk : x.kind = 4) (u : Value) (w : World) (hu : Ts w u x.texts) (hT : TabV w) :
  Calls Tryz.prog 50 #[x.val u] w fun e w' => e = .returned (.tuple #[.string (ba (litL x)), .int .i64 0]) ∧ Keep [] w w' := by
 have hM := fun w1 (k : Keep [] w w1) => rMay_any x hx u w1 (hu.keep k (Off.nil _))
 rw [hm] at hM
 obtain ⟨s1, s2, s3⟩ := may_short x hm
 obtain ⟨ao, ca, rfl, _, _, _, _⟩ := hu.ex
 have HM : Hid _ := hM
 have HT : Hid (TabV w) := hT
 have k1 : (x.kind == 1) = false := beq_eq_false_iff_ne.2 (by omega)
 have k2 : (x.kind == 2) = false := beq_eq_false_iff_ne.2 (by omega)
 have k3 : (x.kind == 3) = false := beq_eq_false_iff_ne.2 (by omega)
 have k4 : (x.kind == 4) = true := beq_iff_eq.2 hk
 obtain ⟨S, hS⟩ : ∃ S, ba (quoL x.text.data.toList) = S := ⟨_, rfl⟩
 have e0 : ba (litL x) = S := by rw [← hS]; unfold litL; simp [hk]
 rw [e0]
 have HS : Hid (ba (quoL x.text.data.toList) = S) := hS
 clear hS e0
 clear hu hm hM hT hk
 have K0 : Hid (Keep [] w (w.alloc (x.blk (.slice ao x.texts.length ca)))) := Keep.alloc1 w _
 go_enter Tryz.func50, Tryz.ntmps50
 go_wp2_with fail
 refine (HM.out _ K0.out).mono ?_
 rintro e9 w1 ⟨rfl, kk1⟩
 obtain ⟨⟨c0, c1, c2, c3, c4, c5⟩, _⟩ := six_cells kk1 (by simp)
 have HK1 : Hid (Keep [] w w1) := K0.out.trans' kk1
 clear HM kk1
 go_wp2_with fail
 refine ((show Calls Tryz.prog 78 #[.string x.text] w1 (fun e w2 => e = .returned (.string S) ∧ Keep [] w1 w2) from by have h := rquoted_all x.text.data.toList w1 (by rw [ba_len]; omega); rw [ba_self, HS.out] at h; exact h)).mono ?_
 rintro e9 w2 ⟨rfl, k9⟩
 have HK2 : Hid (Keep [] w w2) := HK1.out.trans' k9
 clear k9
 go_wp2
 go_ret2
 exact ⟨rfl, HK2.out⟩
set_option maxRecDepth 1000000 in
set_option maxHeartbeats 1600000 in
theorem dText_5 (x : VD) (hx : x.Ok) (hm : x.mayB = true) (hk : x.kind = 5) (u : Value) (w : World) (hu : Ts w u x.texts) :
  Calls Tryz.prog 50 #[x.val u] w fun e w' => e = .returned (.tuple #[.string (ba (litL x)), .int .i64 0]) ∧ Keep [] w w' := by
 have hM := fun w1 (k : Keep [] w w1) => rMay_any x hx u w1 (hu.keep k (Off.nil _))
 rw [hm] at hM
 obtain ⟨s1, s2, s3⟩ := may_short x hm
 obtain ⟨ao, ca, rfl, hc1, hc2, _, h4⟩ := hu.ex
 have HM : Hid _ := hM
 have k1 : (x.kind == 1) = false := beq_eq_false_iff_ne.2 (by omega)
 have k2 : (x.kind == 2) = false := beq_eq_false_iff_ne.2 (by omega)
 have k3 : (x.kind == 3) = false := beq_eq_false_iff_ne.2 (by omega)
 have k4 : (x.kind == 4) = false := beq_eq_false_iff_ne.2 (by omega)
 obtain ⟨S, hS⟩ : ∃ S, ba (listL x.texts) = S := ⟨_, rfl⟩
 have e0 : ba (litL x) = S := by rw [← hS]; unfold litL; simp [hk]
 rw [e0]
 have HS : Hid (ba (listL x.texts) = S) := hS
 have HQ : Hid (∀ j (h : j < x.texts.length) (w : World), Calls Tryz.prog 78 #[.string x.texts[j]] w fun e w' => e = .returned (.string (ba (quoL x.texts[j].data.toList))) ∧ Keep [] w w') := fun j h w => by
  have h1 := rquoted_all x.texts[j].data.toList w (by rw [ba_len]; have := s3 x.texts[j] (List.getElem_mem h); omega)
  rw [ba_self] at h1
  exact h1
 have HQL : Hid (∀ j (h : j < x.texts.length), (quoL x.texts[j].data.toList).length ≤ 1026) := fun j h => by
  have h2 := quoL_len x.texts[j].data.toList
  rw [ba_len] at h2
  have := s3 x.texts[j] (List.getElem_mem h)
  omega
 have H4 : Hid (x.texts ≠ [] → ∃ b o, ao = some ⟨b, o, none⟩ ∧ ∀ j (h : j < x.texts.length), w.cell? ⟨b, o + j, none⟩ = some (.string x.texts[j])) := h4
 have hni : (x.texts.length : Int) ≤ 32 := by omega
 have HCA : Hid (x.texts.length ≤ ca ∧ ca ≤ 9223372036854775807) := ⟨hc1, hc2⟩
 clear hu hm hM hk hS e0 s1 s3 h4 hc1 hc2
 have K0 : Hid (Keep [] w (w.alloc (x.blk (.slice ao x.texts.length ca)))) := Keep.alloc1 w _
 go_enter Tryz.func50, Tryz.ntmps50
 go_wp2_with fail
 refine (HM.out _ K0.out).mono ?_
 rintro e9 w1 ⟨rfl, kk1⟩
 obtain ⟨⟨c0, c1, c2, c3, c4, c5⟩, _⟩ := six_cells kk1 (by simp)
 have HK1 : Hid (Keep [] w w1) := K0.out.trans' kk1
 clear HM kk1
 obtain ⟨g, hg⟩ : ∃ g, w.heap.size = g := ⟨_, rfl⟩
 rw [hg] at c0 c1 c2 c3 c4 c5 ⊢
 clear hg
 go_wp2
 have C5 : Hid (w1.cell? ⟨g, 5, none⟩ = some (.slice ao x.texts.length ca)) := c5
 clear c0 c1 c2 c3 c4 c5
 go_loopw [4, 5] (fun sv iv wr => ∃ (R : ByteArray) (k : Nat), sv = .string R ∧ iv = .int .i64 k ∧ k ≤ x.texts.length ∧ R.size ≤ 1 + 1028 * k ∧ Hid (R = ba (91 :: Lib.join ((x.texts.take k).map fun t => quoL t.data.toList) [44, 32])) ∧ Hid (Keep [] w1 wr)) (fun _ iv _ => x.texts.length - (intOf iv).toNat)
 case atStart => exact ⟨_, 0, rfl, rfl, Nat.zero_le _, (by decide), rfl, Keep.refl [] w1⟩
 case round =>
  obtain ⟨R, k, rfl, rfl, hkn, hRs, HR, HKr⟩ := hrel
  have c5 : wr.cell? ⟨g, 5, none⟩ = some (.slice ao x.texts.length ca) := HKr.out.cell' C5.out (by simp)
  by_cases hkt : k < x.texts.length
  ·obtain ⟨b, o, rfl, hc⟩ := H4.out (fun h => by rw [h] at hkt; simp at hkt)
   have m0 : wr.cell? ⟨b, o + k, none⟩ = some (.string x.texts[k]) := (HK1.out.trans' HKr.out).cell' (hc k hkt) (by simp)
   have hA := HQ.out k hkt
   have hql := HQL.out k hkt
   have hki : (k : Int) < (x.texts.length : Int) := by omega
   obtain ⟨q, hq⟩ : ∃ q, quoL x.texts[k].data.toList = q := ⟨_, rfl⟩
   rw [hq] at hA hql
   have hqs : (ba q).size ≤ 1026 := by rw [ba_size]; exact hql
   have hT : (x.texts.take (k + 1)).map (fun t => quoL t.data.toList) = ((x.texts.take k).map fun t => quoL t.data.toList) ++ [q] := by
    rw [List.take_succ_eq_append_getElem hkt, List.map_append, List.map_cons, List.map_nil, hq]
   clear hc H4 HQ HQL hq hql
   generalize x.texts[k] = tk at *
   by_cases hk0 : k = 0
   ·have HN : Hid (R ++ ba q = ba (91 :: Lib.join ((x.texts.take (k + 1)).map fun t => quoL t.data.toList) [44, 32])) := by
     show _ = _
     rw [HR.out, hT, bal_app, hk0]
     simp [Lib.join_nil, Lib.join_one]
    subst hk0
    rw [Nat.add_zero] at m0
    clear hT
    have z3 : (R ++ ba q).size ≤ 1 + 1028 * (0 + 1) := by rw [ByteArray.size_append]; omega
    generalize ba q = Q at *
    have HZ3 : Hid ((R ++ Q).size ≤ 1 + 1028 * (0 + 1)) := z3
    clear z3
    go_wp2_with fail
    refine (hA _).mono ?_
    rintro e9 w9 ⟨rfl, K9⟩
    have HK9 : Hid (Keep [] w1 w9) := HKr.out.trans' K9
    clear K9 m0 hA c5
    go_wp2
    go_roundw
    case rel => exact ⟨_, 1, rfl, by go_num, by omega, HZ3.out, HN, HK9⟩
    case measure => simp [intOf]; omega
   ·have hkp : (0 : Int) < (k : Int) := by omega
    have HN : Hid (R ++ ⟨#[44, 32]⟩ ++ ba q = ba (91 :: Lib.join ((x.texts.take (k + 1)).map fun t => quoL t.data.toList) [44, 32])) := by
     show _ = _
     have hne : ((x.texts.take k).map fun t => quoL t.data.toList) ≠ [] := fun h => by
      have := congrArg List.length h
      rw [List.length_map, List.length_take, List.length_nil] at this
      omega
     rw [HR.out, hT, join_snoc _ _ _ hne, show (⟨#[44, 32]⟩ : ByteArray) = ba [44, 32] from rfl, bal_app, bal_app]
     simp [List.append_assoc]
    clear hT
    have z2 : (⟨#[44, 32]⟩ : ByteArray).size = 2 := rfl
    have z3 : (R ++ ⟨#[44, 32]⟩ ++ ba q).size ≤ 1 + 1028 * (k + 1) := by rw [ByteArray.size_append, ByteArray.size_append, z2]; omega
    have z4 : (R ++ ⟨#[44, 32]⟩).size ≤ 3 + 1028 * k := by rw [ByteArray.size_append, z2]; omega
    generalize ba q = Q at *
    have HZ3 : Hid ((R ++ ⟨#[44, 32]⟩ ++ Q).size ≤ 1 + 1028 * (k + 1)) := z3
    clear z3
    go_wp2_with fail
    refine (hA _).mono ?_
    rintro e9 w9 ⟨rfl, K9⟩
    have HK9 : Hid (Keep [] w1 w9) := HKr.out.trans' K9
    clear K9 m0 hA c5
    go_wp2
    go_roundw
    case rel => exact ⟨_, k + 1, rfl, by go_num, by omega, HZ3.out, HN, HK9⟩
    case measure => simp [intOf]; omega
  ·obtain rfl : k = x.texts.length := by omega
   have HN : Hid (R ++ ⟨#[93]⟩ = S) := by
    show _ = _
    rw [← HS.out, HR.out, List.take_length, show (⟨#[93]⟩ : ByteArray) = ba [93] from rfl, bal_app]
    rfl
   have z2 : (⟨#[93]⟩ : ByteArray).size = 1 := rfl
   have hnn := HN.out
   clear H4 HQ HQL
   go_wp2
   go_ret2
   exact ⟨rfl, HK1.out.trans' HKr.out⟩
theorem dText_yes (x : VD) (hx : x.Ok) (hm : x.mayB = true) (u : Value) (w : World) (hu : Ts w u x.texts) (hT : TabV w) :
  Calls Tryz.prog 50 #[x.val u] w fun e w' => e = .returned (.tuple #[.string (ba (litL x)), .int .i64 0]) ∧ Keep [] w w' := by
 have hk := may_kind x hm
 by_cases c1 : x.kind = 1
 ·exact dText_1 x hx hm c1 u w hu
 ·by_cases c2 : x.kind = 2
  ·exact dText_2 x hx hm c2 u w hu hT
  ·by_cases c3 : x.kind = 3
   ·exact dText_3 x hx hm c3 u w hu hT
   ·by_cases c4 : x.kind = 4
    ·exact dText_4 x hx hm c4 u w hu hT
    ·exact dText_5 x hx hm (by omega) u w hu
end Go.Proofs.YtfpcpociejefaaaGreatDoor
