/- Decimal digits: the number that they say, noughts at their end. -/
import Derived.Test.YtnjbdaonmgadaaaGreatDoorRnd
import Derived.Lib.ItoaNum
import Derived.Lib.TrimByte
namespace Go.Proofs.YtnjbdaonmgadaaaGreatDoor
open Go.RowKit Go.PlainAid

/-- the number that digits say -/
def dvL (l : List UInt8) : Nat := l.foldl (fun a c => a * 10 + (c.toNat - 48)) 0
theorem dv_snoc (l : List UInt8) (c : UInt8) : dvL (l ++ [c]) = dvL l * 10 + (c.toNat - 48) := by
  unfold dvL; rw [List.foldl_append]; rfl
theorem dv_dec (u : Nat) : dvL (Lib.decDigits u) = u := by
  induction u using Nat.strongRecOn with
  | _ u ih =>
    rw [Lib.decDigits]
    split
    · rename_i h
      have : (UInt8.ofNat (48 + u)).toNat = 48 + u := by simp; omega
      simp only [dvL, List.foldl_cons, List.foldl_nil, this]; omega
    · rename_i h
      have : (UInt8.ofNat (48 + u % 10)).toNat = 48 + u % 10 := by simp; omega
      rw [dv_snoc, ih (u / 10) (by omega), this]; omega
theorem dec_digit (u : Nat) : ∀ c ∈ Lib.decDigits u, 48 ≤ c.toNat ∧ c.toNat ≤ 57 := by
  induction u using Nat.strongRecOn with
  | _ u ih =>
    intro c hc
    rw [Lib.decDigits] at hc
    split at hc
    · rename_i h
      have : (UInt8.ofNat (48 + u)).toNat = 48 + u := by simp; omega
      rw [List.mem_singleton.1 hc, this]; omega
    · rename_i h
      have : (UInt8.ofNat (48 + u % 10)).toNat = 48 + u % 10 := by simp; omega
      rcases List.mem_append.1 hc with hc | hc
      · exact ih (u / 10) (by omega) c hc
      · rw [List.mem_singleton.1 hc, this]; omega
theorem dec_head (u : Nat) (hu : 0 < u) : ∃ c cs, Lib.decDigits u = c :: cs ∧ 49 ≤ c.toNat := by
  induction u using Nat.strongRecOn with
  | _ u ih =>
    rw [Lib.decDigits]
    split
    · rename_i h
      have : (UInt8.ofNat (48 + u)).toNat = 48 + u := by simp; omega
      exact ⟨_, [], rfl, by rw [this]; omega⟩
    · rename_i h
      obtain ⟨c, cs, e, hc⟩ := ih (u / 10) (by omega) (by omega)
      exact ⟨c, cs ++ [UInt8.ofNat (48 + u % 10)], by rw [e]; rfl, hc⟩
theorem dec_len (u : Nat) (h : u < 10 ^ 19) : 1 ≤ (Lib.decDigits u).length ∧ (Lib.decDigits u).length ≤ 19 := by
  rw [Lib.decDigits_length]
  refine ⟨Lib.nDigits_pos u, ?_⟩
  by_cases h0 : u = 0
  · rw [h0, Lib.nDigits_small (by omega)]; omega
  · have : ∀ (k u : Nat), u < 10 ^ k → 0 < k → Lib.nDigits u ≤ k := by
      intro k
      induction k with
      | zero => intro u _ h; omega
      | succ k ih =>
        intro u hu _
        by_cases h10 : u < 10
        · rw [Lib.nDigits_small h10]; omega
        · rw [Lib.nDigits_big h10]
          rw [Nat.pow_succ] at hu
          have hk : 0 < k := by
            rcases Nat.eq_zero_or_pos k with rfl | h
            · simp at hu; omega
            · exact h
          have := ih (u / 10) (by omega) hk
          omega
    exact this 19 u h (by omega)
/-- digits with no nought at the end, and the noughts behind them -/
theorem cut_noughts (l : List UInt8) : ∃ j, Lib.trimRightB l 48 ++ List.replicate j 48 = l ∧ (Lib.trimRightB l 48).length + j = l.length := by
  have h : ∀ m : List UInt8, ∃ j, List.replicate j 48 ++ m.dropWhile (· == 48) = m := by
    intro m
    induction m with
    | nil => exact ⟨0, rfl⟩
    | cons c m ih =>
      by_cases hc : c = 48
      · obtain ⟨j, hj⟩ := ih
        refine ⟨j + 1, ?_⟩
        rw [hc, List.dropWhile_cons_of_pos (by simp), List.replicate_succ, List.cons_append, hj]
      · exact ⟨0, by rw [List.dropWhile_cons_of_neg (by simpa using hc)]; rfl⟩
  obtain ⟨j, hj⟩ := h l.reverse
  have e : Lib.trimRightB l 48 ++ List.replicate j 48 = l := by
    unfold Lib.trimRightB
    have := congrArg List.reverse hj
    rwa [List.reverse_append, List.reverse_reverse, List.reverse_replicate] at this
  refine ⟨j, e, ?_⟩
  have := congrArg List.length e
  simpa using this
theorem dv_noughts (l : List UInt8) : ∀ j, dvL (l ++ List.replicate j 48) = dvL l * 10 ^ j
  | 0 => by simp
  | j + 1 => by
    rw [List.replicate_succ', ← List.append_assoc, dv_snoc, dv_noughts l j, Nat.pow_succ, Nat.mul_assoc]; simp
theorem dv_lt (l : List UInt8) (h : ∀ c ∈ l, 48 ≤ c.toNat ∧ c.toNat ≤ 57) : dvL l < 10 ^ l.length := by
  suffices ∀ (m : List UInt8) (hm : ∀ c ∈ m, 48 ≤ c.toNat ∧ c.toNat ≤ 57), dvL m.reverse < 10 ^ m.length by
    have := this l.reverse (fun c hc => h c (List.mem_reverse.1 hc))
    simpa using this
  intro m
  induction m with
  | nil => intro _; simp [dvL]
  | cons c m ih =>
    intro hm
    have h1 := ih (fun x hx => hm x (List.mem_cons_of_mem _ hx))
    have h2 := hm c (List.mem_cons_self ..)
    rw [List.reverse_cons, dv_snoc, List.length_cons, Nat.pow_succ]
    omega
theorem trimR_zero (l : List UInt8) : Lib.trimRightB (l ++ [48]) 48 = Lib.trimRightB l 48 := by
  unfold Lib.trimRightB
  rw [List.reverse_append]
  rfl
end Go.Proofs.YtnjbdaonmgadaaaGreatDoor
