/- RealsWhole: the walk of the statement, for every two whole numbers, where the library's tables lie as they are listed. -/
import Derived.Test.YtnjbdaonmgadaaaGreatDoorLaidT
import Derived.Lib.AppendIntMem
namespace Go.Proofs.YtnjbdaonmgadaaaGreatDoor
open Go.RowKit Go.PlainAid

theorem cmp_val (x : Nat) (n : Int) (h : nanB x = false) : cmpXN x n = (cmpI (svalZ x) (n * (P149 : Nat)), true) := by
  unfold cmpXN
  rw [if_neg (by rw [h]; decide)]
  rfl
theorem whole_law (n m : Int) (hn : -9223372036854775808 ≤ n ∧ n ≤ 9223372036854775807) (hm : -9223372036854775808 ≤ m ∧ m ≤ 9223372036854775807) (w : World) (hX : Tabx w) (hA : TabA w) (hT : Lib.TabIs Tryz.prog w (laidL[8]'(by decide)).1 .u64 Lib.pow10Tab) :
    Calls Tryz.prog 3 #[.int .i64 n, .int .i64 m] w fun e w' => e = .returned (.bool true) ∧ Below w.heap.size w w' := by
  obtain ⟨n1, n2⟩ := hn
  obtain ⟨m1, m2⟩ := hm
  have hW := whole_math n n1 n2
  have hWm := whole_math m m1 m2
  have hC : WhC n m (fromI n) (fromI m) (nextN (fromI n) true) (nextN (fromI n) false) (cmpI (keyN (fromI n)) (keyN (fromI m))) (cmpI (svalZ (fromI n)) (n * (P149 : Nat))) (cmpI (svalZ (nextN (fromI n) true)) (n * (P149 : Nat))) (cmpI (svalZ (nextN (fromI n) false)) (n * (P149 : Nat))) (toI (fromI n)).1 (toI (fromI n)).2 (bl (Lib.itoa n)) (bl (Lib.itoa n ++ [46, 48])) w := by
    refine ⟨awake_any w hX, fun w => fromInt_any n w, fun w => fromInt_any m w, fun w => compare_any _ _ hW.lt hWm.lt w, fun w' hb => ?_, fun w' hb => parse_int n n1 n2 w' (hA.below hb), fun w => ?_, fun w => ?_, fun w => next_any _ hW.lt true w, fun w => ?_, fun w => next_any _ hW.lt false w, fun w => ?_, fun w => toInt_any _ w⟩
    · refine (Any.strconv_FormatInt_10 Tryz.laysM173 n n1 n2 w' (Lib.tabBelow_of_tabIs hT w' hb)).mono ?_
      rintro e w'' ⟨rfl, k, os, rfl⟩
      exact ⟨rfl, Lib.below_grow _ _ (Nat.le_refl _) k os⟩
    · have := realSame_any (fromI n) (fromI n) hW.lt hW.lt w
      rw [same_key _ _ hW.lt hW.lt, decide_eq_true rfl] at this
      exact this
    · have := compareInt_any (fromI n) n n1 n2 w
      rw [cmp_val _ n hW.na] at this
      exact this
    · have := compareInt_any (nextN (fromI n) true) n n1 n2 w
      rw [cmp_val _ n hW.nu] at this
      exact this
    · have := compareInt_any (nextN (fromI n) false) n n1 n2 w
      rw [cmp_val _ n hW.nd] at this
      exact this
  have hp := p149_pos
  have hF : WhF n (cmpI (svalZ (fromI n)) (n * (P149 : Nat))) (cmpI (svalZ (nextN (fromI n) true)) (n * (P149 : Nat))) (cmpI (svalZ (nextN (fromI n) false)) (n * (P149 : Nat))) (toI (fromI n)).1 (toI (fromI n)).2 := by
    refine ⟨?_, fun h1 h2 => ?_, fun h => ?_⟩
    · by_cases h1 : svalZ (fromI n) < n * (P149 : Nat)
      · refine .inl ⟨by unfold cmpI; rw [if_pos h1], ?_⟩
        have h2 := hW.up h1
        unfold cmpI
        rw [if_neg (by omega), if_pos h2]
        decide
      · by_cases h2 : n * (P149 : Nat) < svalZ (fromI n)
        · refine .inr (.inr ⟨by unfold cmpI; rw [if_neg h1, if_pos h2], ?_⟩)
          have h3 := hW.down h2
          unfold cmpI
          rw [if_pos h3]
          decide
        · exact .inr (.inl (by unfold cmpI; rw [if_neg h1, if_neg h2]))
    · have e := toI_small n (fromI n) hW h1 h2
      rw [e]
      refine ⟨rfl, rfl, ?_⟩
      have := hW.small (by omega)
      unfold cmpI
      rw [if_neg (by omega), if_neg (by omega)]
    · rw [toI_cmp n (fromI n) h]
      generalize (toI (fromI n)).1 = k
      unfold cmpI
      by_cases h1 : k < n
      · rw [if_pos h1]; omega
      · rw [if_neg h1]
        by_cases h2 : n < k
        · rw [if_pos h2]; omega
        · rw [if_neg h2]; omega
  have hl : (bl (Lib.itoa n)).size ≤ 20 := by
    rw [bl_size]
    unfold Lib.itoa
    split
    · have := (dec_len n.natAbs (by omega)).2
      simp only [List.length_cons]
      omega
    · have := (dec_len n.toNat (by omega)).2
      omega
  have hS : bl (Lib.itoa n) ++ ⟨#[46, 48]⟩ = bl (Lib.itoa n ++ [46, 48]) := bl_app _ [46, 48]
  rcases Int.lt_trichotomy n m with h | h | h
  · have hk := key_mono n m n1 n2 m1 m2 (by omega)
    refine way_lt n m _ _ _ _ _ _ _ _ _ _ _ _ w hC hF hS hl (by omega) (by omega) ?_
    unfold cmpI
    split
    · decide
    · split
      · omega
      · decide
  · subst h
    refine way_eq n n _ _ _ _ _ _ _ _ _ _ _ _ w hC hF hS hl rfl ?_
    unfold cmpI
    rw [if_neg (by omega), if_neg (by omega)]
  · have hk := key_mono m n m1 m2 n1 n2 (by omega)
    refine way_gt n m _ _ _ _ _ _ _ _ _ _ _ _ w hC hF hS hl (by omega) (by omega) ?_
    unfold cmpI
    rw [if_neg (by omega)]
    split <;> decide
end Go.Proofs.YtnjbdaonmgadaaaGreatDoor
