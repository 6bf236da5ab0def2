/- The document's sum of two reals: what it is worth. -/
import Derived.Test.YthdibaeelbkghaaGreatDoorDoB
import Derived.Test.YthdibaeelbkghaaGreatDoorSumC
namespace Go.Proofs.YthdibaeelbkghaaGreatDoor
open Go.RowKit Go.PlainAid

theorem Big.len0 {w : World} {ao : Option Addr} {n c N K : Nat} (h : Big w (.slice ao n c) N K) : n = 0 ↔ N = 0 := by
  obtain ⟨l, h1, h2, h3, h4, h5⟩ := h
  obtain ⟨ao', cap, he, _⟩ := h1.ex
  simp at he
  obtain ⟨_, hn, _⟩ := he
  rw [hn, ← h4]
  constructor
  · intro hl
    rw [List.eq_nil_of_length_eq_zero hl]; rfl
  · intro hv
    refine Decidable.byContradiction fun hl => ?_
    have hne : l ≠ [] := by intro e; rw [e] at hl; simp at hl
    have h6 := bigV_low l h3 hne
    have h7 : 0 < 1000000000 ^ (l.length - 1) := Nat.pow_pos (by decide)
    omega

theorem pow_at (r : Nat) (h : r ≤ 2139095040) (v : Value) (w : World) (hv : Big w v (atM r) 3) :
    Calls Tryz.prog 28 #[v, .int .i64 2, .int .i64 (atE r + 149)] w fun e w' => ∃ ao n c, e = .returned (.slice ao n c) ∧ Big w' (.slice ao n c) (valN r) 300 ∧ Keep [] w w' := by
  have hb := at_bounds r h
  refine (powers_int v (atM r) 3 (atE r + 149) w hv (by omega) (by omega)).mono ?_
  rintro e w' ⟨v', rfl, ⟨g1, _⟩, g3⟩
  rw [at_worth] at g1
  obtain ⟨ao, n, c, rfl⟩ := g1.sl
  exact ⟨ao, n, c, rfl, g1.mono (by omega), g3⟩
theorem pow_one (w : World) : Calls Tryz.prog 28 #[.slice (some ⟨w.heap.size, 0, none⟩) 1 1, .int .i64 2, .int .i64 149] (w.alloc (.cells #[.int .i64 1] TI)) fun e w' => ∃ ao n c, e = .returned (.slice ao n c) ∧ Big w' (.slice ao n c) (2 ^ 149) 300 ∧ Keep [] (w.alloc (.cells #[.int .i64 1] TI)) w' := by
  refine (powers_int _ 1 1 149 _ (Big.one w) (by omega) (by omega)).mono ?_
  rintro e w' ⟨v', rfl, ⟨g1, _⟩, g3⟩
  rw [Nat.one_mul] at g1
  obtain ⟨ao, n, c, rfl⟩ := g1.sl
  exact ⟨ao, n, c, rfl, g1.mono (by decide), g3⟩

theorem near_sum (z n : Nat) (hl : LowB z (2 ^ 149) n) : nearB z (2 ^ 149) n = rndR z := by
  obtain ⟨V, hV⟩ : ∃ V, z * 2 ^ 149 = V := ⟨_, rfl⟩
  exact near_whole z V (2 ^ 149) z n hV (Nat.two_pow_pos _) hV.symm hl

theorem like_add (a b : Nat) (h1 : rungN a < 2139095040) (h2 : rungN b < 2139095040) (neg : Bool) (z : Nat) (hz : z = (svalZ a + svalZ b).natAbs) (hz0 : z ≠ 0) (hn : neg = decide (svalZ a + svalZ b < 0)) : Like (wordN neg (rndR z)) (doN 7 a b) := by
  have h3 := add_num a b h1 h2
  rw [if_neg (by omega), ← hz, ← hn, word_eq] at h3
  obtain ⟨w1, w2, _, _⟩ := wordN_facts neg _ (rndR_le z)
  exact ⟨w1, .inr (doN_some (op := .add) rfl h3 w2).symm⟩
theorem like_add0 (a b : Nat) (h1 : rungN a < 2139095040) (h2 : rungN b < 2139095040) (hz : svalZ a + svalZ b = 0) : Like (wordN (sgnB a && sgnB b) 0) (doN 7 a b) := by
  have h3 := add_num a b h1 h2
  rw [if_pos hz, hz, word_eq] at h3
  obtain ⟨w1, w2, _, _⟩ := wordN_facts (sgnB a && sgnB b) 0 (by decide)
  exact ⟨w1, .inr (doN_some (op := .add) rfl h3 w2).symm⟩
theorem sval_sgn (x : Nat) : svalZ x = if sgnB x = true then -(valN (rungN x) : Int) else (valN (rungN x) : Int) := by
  unfold svalZ sgnB
  by_cases h : x / 2147483648 % 2 = 1
  · rw [if_pos h, if_pos (by simpa using h)]
  · rw [if_neg h, if_neg (by simpa using h)]
theorem add_same (a b : Nat) (h1 : rungN a < 2139095040) (h2 : rungN b < 2139095040) (hs : sgnB b = sgnB a) (h0 : valN (rungN a) + valN (rungN b) ≠ 0) : Like (wordN (sgnB a) (rndR (valN (rungN a) + valN (rungN b)))) (doN 7 a b) := by
  have ea := sval_sgn a
  have eb := sval_sgn b
  rw [hs] at eb
  cases h : sgnB a
  · rw [h, if_neg (by decide)] at ea eb
    exact like_add a b h1 h2 false _ (by omega) h0 (by rw [eq_comm, decide_eq_false_iff_not]; omega)
  · rw [h, if_pos rfl] at ea eb
    exact like_add a b h1 h2 true _ (by omega) h0 (by rw [eq_comm, decide_eq_true_iff]; omega)
theorem add_same0 (a b : Nat) (h1 : rungN a < 2139095040) (h2 : rungN b < 2139095040) (h0 : valN (rungN a) + valN (rungN b) = 0) : Like (wordN (sgnB a && sgnB b) 0) (doN 7 a b) := by
  have ea := sval_sgn a
  have eb := sval_sgn b
  refine like_add0 a b h1 h2 ?_
  split at ea <;> split at eb <;> omega
theorem add_more (a b : Nat) (h1 : rungN a < 2139095040) (h2 : rungN b < 2139095040) (hs : sgnB b = !sgnB a) (h0 : valN (rungN b) < valN (rungN a)) : Like (wordN (sgnB a) (rndR (valN (rungN a) - valN (rungN b)))) (doN 7 a b) := by
  have ea := sval_sgn a
  have eb := sval_sgn b
  rw [hs] at eb
  cases h : sgnB a
  · rw [h] at ea eb
    rw [if_neg (by decide)] at ea
    rw [if_pos (by decide)] at eb
    exact like_add a b h1 h2 false _ (by omega) (by omega) (by rw [eq_comm, decide_eq_false_iff_not]; omega)
  · rw [h] at ea eb
    rw [if_pos rfl] at ea
    rw [if_neg (by decide)] at eb
    exact like_add a b h1 h2 true _ (by omega) (by omega) (by rw [eq_comm, decide_eq_true_iff]; omega)
theorem add_fewer (a b : Nat) (h1 : rungN a < 2139095040) (h2 : rungN b < 2139095040) (hs : sgnB b = !sgnB a) (h0 : valN (rungN a) < valN (rungN b)) : Like (wordN (!sgnB a) (rndR (valN (rungN b) - valN (rungN a)))) (doN 7 a b) := by
  have ea := sval_sgn a
  have eb := sval_sgn b
  rw [hs] at eb
  cases h : sgnB a
  · rw [h] at ea eb
    rw [if_neg (by decide)] at ea
    rw [if_pos (by decide)] at eb
    exact like_add a b h1 h2 true _ (by omega) (by omega) (by rw [eq_comm, decide_eq_true_iff]; omega)
  · rw [h] at ea eb
    rw [if_pos rfl] at ea
    rw [if_neg (by decide)] at eb
    exact like_add a b h1 h2 false _ (by omega) (by omega) (by rw [eq_comm, decide_eq_false_iff_not]; omega)
theorem add_none (a b : Nat) (h1 : rungN a < 2139095040) (h2 : rungN b < 2139095040) (hs : sgnB b = !sgnB a) (h0 : valN (rungN a) = valN (rungN b)) : Like (wordN (sgnB a && sgnB b) 0) (doN 7 a b) := by
  have ea := sval_sgn a
  have eb := sval_sgn b
  refine like_add0 a b h1 h2 ?_
  rw [hs] at eb
  cases h : sgnB a
  · rw [h] at ea eb
    rw [if_neg (by decide)] at ea
    rw [if_pos (by decide)] at eb
    omega
  · rw [h] at ea eb
    rw [if_pos rfl] at ea
    rw [if_neg (by decide)] at eb
    omega
theorem sum_at (x y : Value) (va vb : Nat) (w : World) (hx : Big w x va 300) (hy : Big w y vb 300) :
    Calls Tryz.prog 29 #[x, y] w fun e w' => ∃ zo zn zc, e = .returned (.slice zo zn zc) ∧ Big w' (.slice zo zn zc) (va + vb) 400 ∧ (zn = 0 ↔ va + vb = 0) ∧ Keep [] w w' := by
  refine (sum_big x y va vb 300 300 w hx hy (by decide) (by decide)).mono ?_
  rintro e w' ⟨v, rfl, ⟨h1, _⟩, h3⟩
  obtain ⟨zo, zn, zc, rfl⟩ := h1.sl
  exact ⟨zo, zn, zc, rfl, h1.mono (by decide), h1.len0, h3⟩
theorem less_at (x y : Value) (va vb : Nat) (w : World) (hx : Big w x va 300) (hy : Big w y vb 300) (h : vb ≤ va) :
    Calls Tryz.prog 31 #[x, y] w fun e w' => ∃ zo zn zc, e = .returned (.slice zo zn zc) ∧ Big w' (.slice zo zn zc) (va - vb) 400 ∧ (zn = 0 ↔ va - vb = 0) ∧ Keep [] w w' := by
  refine (less_big x y va vb 300 300 w hx hy (by decide) h).mono ?_
  rintro e w' ⟨v, rfl, ⟨h1, _⟩, h3⟩
  obtain ⟨zo, zn, zc, rfl⟩ := h1.sl
  exact ⟨zo, zn, zc, rfl, h1.mono (by decide), h1.len0, h3⟩
end Go.Proofs.YthdibaeelbkghaaGreatDoor
