/- The document's Text.  Way pos, long. -/
import Derived.Test.YtjdihnkcigoajaaGreatDoorNgWap
import Derived.Test.YtjdihnkcigoajaaGreatDoorNgWbp
import Derived.Test.YtjdihnkcigoajaaGreatDoorNgWcp
import Derived.Test.YtjdihnkcigoajaaGreatDoorNgWdp
import Derived.Test.YtjdihnkcigoajaaGreatDoorNgWen
import Derived.Test.YtjdihnkcigoajaaGreatDoorNgWfn

namespace Go.Proofs.YtjdihnkcigoajaaGreatDoor
open Go.RowKit Go.PlainAid

set_option maxRecDepth 1000000 in
set_option maxHeartbeats 1600000 in
theorem rText_gp (x n m : Nat) (k : Int) (hx : x < 4294967296) (hn : nanB x = false) (hb : belowB x = false) (hr : rungN x = n) (h1 : 1 ≤ n) (h2 : n < 2139095040) (hm : ndF n = m) (hkE : exF n = k) (hk1 : 0 ≤ k) (hk2 : k ≤ 8) (hm1 : k + 1 < (m : Int)) (w : World) :
    Calls Tryz.prog 23 #[.float .f32 x] w fun e w' => (∃ T : ByteArray, e = .returned (.string T) ∧ T.data.toList = textB n) ∧ Below w.heap.size w w' := by
  have hN := rIsNan_any x
  have hB := rBelow_any x hx
  have hU := number_any x hx hn
  rw [hr] at hU
  rw [hn] at hN
  rw [hb] at hB
  obtain ⟨L, hL⟩ : ∃ L : Int, k - (m : Int) + 1 = L := ⟨_, rfl⟩
  have hF := fun w => few_text n h1 h2 m L hm (by rw [hkE]; exact hL) w
  have hdl := digs_len n h1 h2
  have hnd := ndF_le n h1 h2
  have hE := exF_bounds n h1 h2
  rw [hm] at hdl hnd
  rw [hkE] at hE
  have hm10 : m ≤ 10 := by omega
  have hm0 : 1 ≤ m := hnd.1
  have hLk : L + (m : Int) - 1 = k := by omega
  have hTB : Hid (textB n = if exF n < -4 ∨ 8 < exF n then (digs n).take 1 ++ [46] ++ orB ((digs n).drop 1) ++ [101] ++ Lib.itoa (exF n) else plainB (digs n) (exF n)) := rfl
  have HKE : Hid (exF n = k) := hkE
  have HDL : Hid ((digs n).length = m) := hdl
  have t0 : ((n : Int) == 2139095040) = false := beq_eq_false_iff_ne.2 (by omega)
  have t1 : ((n : Int) == 0) = false := beq_eq_false_iff_ne.2 (by omega)
  have HS : Hid (∀ T : ByteArray, T.data.toList = digs n → T.size = m) := fun T h => by
    have h3 : T.data.toList.length = T.size := Array.length_toList
    rw [← h3, h]
    exact hdl
  obtain ⟨hE1, hE2⟩ := hE
  have hL1 : -120 ≤ L := by omega
  have hL2 : L ≤ 120 := by omega
  have hmi : (m : Int) ≤ 10 := by omega
  have hm0i : 1 ≤ (m : Int) := by omega
  clear hL hm hkE hnd hdl hn hb hr hx h2
  obtain ⟨K, hK⟩ : ∃ K : Nat, k + 1 = (K : Int) := ⟨(k + 1).toNat, by omega⟩
  have hK1 : (K : Int) ≤ 9 := by omega
  have hK0 : 1 ≤ (K : Int) := by omega
  obtain ⟨c, hc⟩ : ∃ c : Int, (K : Int) - (m : Int) = c := ⟨_, rfl⟩
  have hc0 : c < 0 := by omega
  have hcl : -20 ≤ c := by omega
  have hP : ∀ w, Calls Tryz.prog 52 #[.int .i64 c] w fun e w' => (∃ U : ByteArray, e = .returned (.string U) ∧ U.data.toList = []) ∧ w' = w := fun w => (noughts_neg c hc0 w).mono (by rintro e w' ⟨rfl, rfl⟩; exact ⟨⟨_, rfl, rfl⟩, rfl⟩)
  have HZ : Hid (∀ U : ByteArray, U.data.toList = [] → U.size = 0) := fun U h => by
    have h3 : U.data.toList.length = U.size := Array.length_toList
    rw [← h3, h]
    rfl
  have HZ2 : Hid (∀ T U : ByteArray, T.size = m → U.data.toList = [] → (T ++ U).size = m) := fun T U h1 h2 => by
    rw [ByteArray.size_append, HZ.out U h2]
    omega
  have HX : Hid (textB n = (digs n).take K ++ [46] ++ (digs n).drop K) := by
    show _ = _
    rw [hTB.out, HKE.out, if_neg (by omega)]
    unfold plainB
    rw [if_neg (by omega), HDL.out, if_neg (by omega), show (k + 1).toNat = K by omega]
  have HNE : Hid ((digs n).drop K ≠ []) := show (digs n).drop K ≠ [] from fun h => by
    have := congrArg List.length h
    rw [List.length_drop, HDL.out] at this
    simp at this
    omega
  clear hTB
  go_enter Tryz.func23, Tryz.ntmps23
  go_wp2_with (first
    | (go_at_call 47; refine (hN _).mono ?_; rintro e9 w9 ⟨rfl, hw9⟩; obtain rfl := hw9.symm)
    | (go_at_call 48; refine (hB _).mono ?_; rintro e9 w9 ⟨rfl, hw9⟩; obtain rfl := hw9.symm)
    | (go_at_call 49; refine (hU _).mono ?_; rintro e9 w9 ⟨rfl, hw9⟩; obtain rfl := hw9.symm)
    | (go_at_call 50; refine (hF _).mono ?_; rintro e9 w1 ⟨q, hq, rfl, hk1⟩; have HQ : Hid _ := hq; clear hq; have HK1 : Hid (Keep [] w w1) := hk1; clear hk1)
    | (go_at_call_of 51 (Value.int IntKind.i64 ((q : Nat) : Int)); refine (HQ.out _).mono ?_; rintro e9 w2 ⟨⟨T, rfl, hT⟩, hb2⟩; have hts := HS.out T hT; have HT : Hid (T.data.toList = digs n) := hT; have HK2 : Hid (Keep [] w w2) := HK1.out.trans' (Keep.ofBelow hb2); clear hb2 hT; skip)
    | (go_at_call 52; refine (hP _).mono ?_; rintro e9 w3 ⟨⟨U, rfl, hU2⟩, hw3⟩; obtain rfl := hw3.symm; have htu := HZ2.out T U hts hU2; have HU : Hid (U.data.toList = []) := hU2; have hus : U.size = 0 := HZ.out U hU2; have hre : (((T ++ U).extract K m).toList == []) = false := (by rw [Lib.toList_data, ext_drop (T ++ U) K m htu, ba_app, HT.out, HU.out, List.append_nil]; exact beq_eq_false_iff_ne.2 (fun h => HNE.out h)); clear hU2))
  go_ret
  exact ⟨⟨_, rfl, by rw [HX.out]; simp only [ba_app, ba_take, ext_drop (T ++ U) K _ htu, HT.out, HU.out, List.append_nil]; rfl⟩, HK2.out.below⟩

end Go.Proofs.YtjdihnkcigoajaaGreatDoor


/- The document's Text.  Way pos, long, below 0. -/
namespace Go.Proofs.YtjdihnkcigoajaaGreatDoor
open Go.RowKit Go.PlainAid

set_option maxRecDepth 1000000 in
set_option maxHeartbeats 1600000 in
theorem rText_gn (x n m : Nat) (k : Int) (hx : x < 4294967296) (hn : nanB x = false) (hb : belowB x = true) (hr : rungN x = n) (h1 : 1 ≤ n) (h2 : n < 2139095040) (hm : ndF n = m) (hkE : exF n = k) (hk1 : 0 ≤ k) (hk2 : k ≤ 8) (hm1 : k + 1 < (m : Int)) (w : World) :
    Calls Tryz.prog 23 #[.float .f32 x] w fun e w' => (∃ T : ByteArray, e = .returned (.string T) ∧ T.data.toList = 45 :: textB n) ∧ Below w.heap.size w w' := by
  have hN := rIsNan_any x
  have hB := rBelow_any x hx
  have hU := number_any x hx hn
  rw [hr] at hU
  rw [hn] at hN
  rw [hb] at hB
  obtain ⟨L, hL⟩ : ∃ L : Int, k - (m : Int) + 1 = L := ⟨_, rfl⟩
  have hF := fun w => few_text n h1 h2 m L hm (by rw [hkE]; exact hL) w
  have hdl := digs_len n h1 h2
  have hnd := ndF_le n h1 h2
  have hE := exF_bounds n h1 h2
  rw [hm] at hdl hnd
  rw [hkE] at hE
  have hm10 : m ≤ 10 := by omega
  have hm0 : 1 ≤ m := hnd.1
  have hLk : L + (m : Int) - 1 = k := by omega
  have hTB : Hid (textB n = if exF n < -4 ∨ 8 < exF n then (digs n).take 1 ++ [46] ++ orB ((digs n).drop 1) ++ [101] ++ Lib.itoa (exF n) else plainB (digs n) (exF n)) := rfl
  have HKE : Hid (exF n = k) := hkE
  have HDL : Hid ((digs n).length = m) := hdl
  have t0 : ((n : Int) == 2139095040) = false := beq_eq_false_iff_ne.2 (by omega)
  have t1 : ((n : Int) == 0) = false := beq_eq_false_iff_ne.2 (by omega)
  have HS : Hid (∀ T : ByteArray, T.data.toList = digs n → T.size = m) := fun T h => by
    have h3 : T.data.toList.length = T.size := Array.length_toList
    rw [← h3, h]
    exact hdl
  obtain ⟨hE1, hE2⟩ := hE
  have hL1 : -120 ≤ L := by omega
  have hL2 : L ≤ 120 := by omega
  have hmi : (m : Int) ≤ 10 := by omega
  have hm0i : 1 ≤ (m : Int) := by omega
  clear hL hm hkE hnd hdl hn hb hr hx h2
  obtain ⟨K, hK⟩ : ∃ K : Nat, k + 1 = (K : Int) := ⟨(k + 1).toNat, by omega⟩
  have hK1 : (K : Int) ≤ 9 := by omega
  have hK0 : 1 ≤ (K : Int) := by omega
  obtain ⟨c, hc⟩ : ∃ c : Int, (K : Int) - (m : Int) = c := ⟨_, rfl⟩
  have hc0 : c < 0 := by omega
  have hcl : -20 ≤ c := by omega
  have hP : ∀ w, Calls Tryz.prog 52 #[.int .i64 c] w fun e w' => (∃ U : ByteArray, e = .returned (.string U) ∧ U.data.toList = []) ∧ w' = w := fun w => (noughts_neg c hc0 w).mono (by rintro e w' ⟨rfl, rfl⟩; exact ⟨⟨_, rfl, rfl⟩, rfl⟩)
  have HZ : Hid (∀ U : ByteArray, U.data.toList = [] → U.size = 0) := fun U h => by
    have h3 : U.data.toList.length = U.size := Array.length_toList
    rw [← h3, h]
    rfl
  have HZ2 : Hid (∀ T U : ByteArray, T.size = m → U.data.toList = [] → (T ++ U).size = m) := fun T U h1 h2 => by
    rw [ByteArray.size_append, HZ.out U h2]
    omega
  have HX : Hid (textB n = (digs n).take K ++ [46] ++ (digs n).drop K) := by
    show _ = _
    rw [hTB.out, HKE.out, if_neg (by omega)]
    unfold plainB
    rw [if_neg (by omega), HDL.out, if_neg (by omega), show (k + 1).toNat = K by omega]
  have HNE : Hid ((digs n).drop K ≠ []) := show (digs n).drop K ≠ [] from fun h => by
    have := congrArg List.length h
    rw [List.length_drop, HDL.out] at this
    simp at this
    omega
  clear hTB
  go_enter Tryz.func23, Tryz.ntmps23
  go_wp2_with (first
    | (go_at_call 47; refine (hN _).mono ?_; rintro e9 w9 ⟨rfl, hw9⟩; obtain rfl := hw9.symm)
    | (go_at_call 48; refine (hB _).mono ?_; rintro e9 w9 ⟨rfl, hw9⟩; obtain rfl := hw9.symm)
    | (go_at_call 49; refine (hU _).mono ?_; rintro e9 w9 ⟨rfl, hw9⟩; obtain rfl := hw9.symm)
    | (go_at_call 50; refine (hF _).mono ?_; rintro e9 w1 ⟨q, hq, rfl, hk1⟩; have HQ : Hid _ := hq; clear hq; have HK1 : Hid (Keep [] w w1) := hk1; clear hk1)
    | (go_at_call_of 51 (Value.int IntKind.i64 ((q : Nat) : Int)); refine (HQ.out _).mono ?_; rintro e9 w2 ⟨⟨T, rfl, hT⟩, hb2⟩; have hts := HS.out T hT; have HT : Hid (T.data.toList = digs n) := hT; have HK2 : Hid (Keep [] w w2) := HK1.out.trans' (Keep.ofBelow hb2); clear hb2 hT; skip)
    | (go_at_call 52; refine (hP _).mono ?_; rintro e9 w3 ⟨⟨U, rfl, hU2⟩, hw3⟩; obtain rfl := hw3.symm; have htu := HZ2.out T U hts hU2; have HU : Hid (U.data.toList = []) := hU2; have hus : U.size = 0 := HZ.out U hU2; have hre : (((T ++ U).extract K m).toList == []) = false := (by rw [Lib.toList_data, ext_drop (T ++ U) K m htu, ba_app, HT.out, HU.out, List.append_nil]; exact beq_eq_false_iff_ne.2 (fun h => HNE.out h)); clear hU2))
  go_ret
  exact ⟨⟨_, rfl, by rw [HX.out]; simp only [ba_app, ba_take, ext_drop (T ++ U) K _ htu, HT.out, HU.out, List.append_nil]; rfl⟩, HK2.out.below⟩

end Go.Proofs.YtjdihnkcigoajaaGreatDoor


/- The document's Text of every float32. -/
namespace Go.Proofs.YtjdihnkcigoajaaGreatDoor
open Go.RowKit Go.PlainAid

theorem rText_p (x n : Nat) (hx : x < 4294967296) (hn : nanB x = false) (hb : belowB x = false) (hr : rungN x = n) (h1 : 1 ≤ n) (h2 : n < 2139095040) (w : World) :
    Calls Tryz.prog 23 #[.float .f32 x] w fun e w' => (∃ T : ByteArray, e = .returned (.string T) ∧ T.data.toList = textB n) ∧ Below w.heap.size w w' := by
  have hl := ndF_le n h1 h2
  rcases (show exF n < -4 ∨ -4 ≤ exF n by omega) with h | h
  · rcases Nat.lt_or_ge (ndF n) 2 with g | g
    · exact rText_ap x n _ _ hx hn hb hr h1 h2 rfl rfl h (by omega) w
    · exact rText_bp x n _ _ hx hn hb hr h1 h2 rfl rfl h g w
  · rcases (show 8 < exF n ∨ exF n ≤ 8 by omega) with h3 | h3
    · rcases Nat.lt_or_ge (ndF n) 2 with g | g
      · exact rText_cp x n _ _ hx hn hb hr h1 h2 rfl rfl h3 (by omega) w
      · exact rText_dp x n _ _ hx hn hb hr h1 h2 rfl rfl h3 g w
    · rcases (show exF n < 0 ∨ 0 ≤ exF n by omega) with h4 | h4
      · exact rText_ep x n _ _ hx hn hb hr h1 h2 rfl rfl h h4 w
      · rcases (show exF n + 1 < (ndF n : Int) ∨ (ndF n : Int) ≤ exF n + 1 by omega) with g | g
        · exact rText_gp x n _ _ hx hn hb hr h1 h2 rfl rfl h4 h3 g w
        · exact rText_fp x n _ _ hx hn hb hr h1 h2 rfl rfl h4 h3 g w
set_option maxRecDepth 1000000 in
theorem rText_p0 (x n : Nat) (hx : x < 4294967296) (hn : nanB x = false) (hb : belowB x = false) (hr : rungN x = n) (h : n = 0 ∨ n = 2139095040) (w : World) :
    Calls Tryz.prog 23 #[.float .f32 x] w fun e w' => (∃ T : ByteArray, e = .returned (.string T) ∧ T.data.toList = textU n) ∧ Below w.heap.size w w' := by
  have hN := rIsNan_any x
  have hB := rBelow_any x hx
  have hU := number_any x hx hn
  rw [hr] at hU
  rw [hn] at hN
  rw [hb] at hB
  clear hr hn hb hx
  rcases h with rfl | rfl
  all_goals
    go_enter Tryz.func23, Tryz.ntmps23
    go_wp2_with (first
      | (go_at_call 47; refine (hN _).mono ?_; rintro e9 w9 ⟨rfl, hw9⟩; obtain rfl := hw9.symm)
      | (go_at_call 48; refine (hB _).mono ?_; rintro e9 w9 ⟨rfl, hw9⟩; obtain rfl := hw9.symm)
      | (go_at_call 49; refine (hU _).mono ?_; rintro e9 w9 ⟨rfl, hw9⟩; obtain rfl := hw9.symm))
    go_ret
    exact ⟨⟨_, rfl, rfl⟩, Below.refl _ _⟩
theorem rText_n (x n : Nat) (hx : x < 4294967296) (hn : nanB x = false) (hb : belowB x = true) (hr : rungN x = n) (h1 : 1 ≤ n) (h2 : n < 2139095040) (w : World) :
    Calls Tryz.prog 23 #[.float .f32 x] w fun e w' => (∃ T : ByteArray, e = .returned (.string T) ∧ T.data.toList = 45 :: textB n) ∧ Below w.heap.size w w' := by
  have hl := ndF_le n h1 h2
  rcases (show exF n < -4 ∨ -4 ≤ exF n by omega) with h | h
  · rcases Nat.lt_or_ge (ndF n) 2 with g | g
    · exact rText_an x n _ _ hx hn hb hr h1 h2 rfl rfl h (by omega) w
    · exact rText_bn x n _ _ hx hn hb hr h1 h2 rfl rfl h g w
  · rcases (show 8 < exF n ∨ exF n ≤ 8 by omega) with h3 | h3
    · rcases Nat.lt_or_ge (ndF n) 2 with g | g
      · exact rText_cn x n _ _ hx hn hb hr h1 h2 rfl rfl h3 (by omega) w
      · exact rText_dn x n _ _ hx hn hb hr h1 h2 rfl rfl h3 g w
    · rcases (show exF n < 0 ∨ 0 ≤ exF n by omega) with h4 | h4
      · exact rText_en x n _ _ hx hn hb hr h1 h2 rfl rfl h h4 w
      · rcases (show exF n + 1 < (ndF n : Int) ∨ (ndF n : Int) ≤ exF n + 1 by omega) with g | g
        · exact rText_gn x n _ _ hx hn hb hr h1 h2 rfl rfl h4 h3 g w
        · exact rText_fn x n _ _ hx hn hb hr h1 h2 rfl rfl h4 h3 g w
set_option maxRecDepth 1000000 in
theorem rText_n0 (x n : Nat) (hx : x < 4294967296) (hn : nanB x = false) (hb : belowB x = true) (hr : rungN x = n) (h : n = 0 ∨ n = 2139095040) (w : World) :
    Calls Tryz.prog 23 #[.float .f32 x] w fun e w' => (∃ T : ByteArray, e = .returned (.string T) ∧ T.data.toList = 45 :: textU n) ∧ Below w.heap.size w w' := by
  have hN := rIsNan_any x
  have hB := rBelow_any x hx
  have hU := number_any x hx hn
  rw [hr] at hU
  rw [hn] at hN
  rw [hb] at hB
  clear hr hn hb hx
  rcases h with rfl | rfl
  all_goals
    go_enter Tryz.func23, Tryz.ntmps23
    go_wp2_with (first
      | (go_at_call 47; refine (hN _).mono ?_; rintro e9 w9 ⟨rfl, hw9⟩; obtain rfl := hw9.symm)
      | (go_at_call 48; refine (hB _).mono ?_; rintro e9 w9 ⟨rfl, hw9⟩; obtain rfl := hw9.symm)
      | (go_at_call 49; refine (hU _).mono ?_; rintro e9 w9 ⟨rfl, hw9⟩; obtain rfl := hw9.symm))
    go_ret
    exact ⟨⟨_, rfl, rfl⟩, Below.refl _ _⟩
set_option maxRecDepth 1000000 in
theorem rText_any (x : Nat) (hx : x < 4294967296) (w : World) : Calls Tryz.prog 23 #[.float .f32 x] w fun e w' => (∃ T : ByteArray, e = .returned (.string T) ∧ T.data.toList = textR x) ∧ Below w.heap.size w w' := by
  by_cases hn : nanB x = true
  · have hN := rIsNan_any x
    have hR : textR x = [110, 97, 110] := by unfold textR; rw [if_pos hn]
    rw [hR]
    rw [hn] at hN
    clear hn hx hR
    go_enter Tryz.func23, Tryz.ntmps23
    go_wp2_with (first
      | (go_at_call 47; refine (hN _).mono ?_; rintro e9 w9 ⟨rfl, hw9⟩; obtain rfl := hw9.symm))
    go_ret
    exact ⟨⟨_, rfl, rfl⟩, Below.refl _ _⟩
  · have hn0 : nanB x = false := by simpa using hn
    have hle : rungN x ≤ 2139095040 := by
      unfold nanB at hn0
      have := of_decide_eq_false hn0
      unfold rungN
      omega
    have hU : ∀ n, 1 ≤ n → n < 2139095040 → textU n = textB n := fun n h1 h2 => by
      unfold textU
      rw [if_neg (by omega), if_neg (by omega)]
    by_cases hb : belowB x = true
    · have hx31 : 2147483648 ≤ x := by
        unfold belowB at hb
        simp at hb
        omega
      have hR : textR x = 45 :: textU (rungN x) := by
        unfold textR
        rw [if_neg hn, if_pos hb, show x - 2147483648 = rungN x by unfold rungN; omega]
      rw [hR]
      by_cases h0 : rungN x = 0 ∨ rungN x = 2139095040
      · exact rText_n0 x _ hx hn0 hb rfl h0 w
      · rw [hU _ (by omega) (by omega)]
        exact rText_n x _ hx hn0 hb rfl (by omega) (by omega) w
    · have hb0 : belowB x = false := by simpa using hb
      have hx31 : x < 2147483648 := by
        unfold belowB at hb0
        rw [hn0] at hb0
        simp at hb0
        omega
      have hR : textR x = textU (rungN x) := by
        unfold textR
        rw [if_neg hn, if_neg hb, show rungN x = x by unfold rungN; omega]
      rw [hR]
      by_cases h0 : rungN x = 0 ∨ rungN x = 2139095040
      · exact rText_p0 x _ hx hn0 hb0 rfl h0 w
      · rw [hU _ (by omega) (by omega)]
        exact rText_p x _ hx hn0 hb0 rfl (by omega) (by omega) w
end Go.Proofs.YtjdihnkcigoajaaGreatDoor

