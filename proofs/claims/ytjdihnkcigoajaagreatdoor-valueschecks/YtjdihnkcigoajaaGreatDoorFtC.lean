/- The library's ftoa32 in the form e: what it stands on, for every float32 above 0. -/
import Derived.Test.YtjdihnkcigoajaaGreatDoorFtB
import Derived.Test.YtjdihnkcigoajaaGreatDoorWrW
import Derived.Test.YtjdihnkcigoajaaGreatDoorNdG
import Derived.Test.YtjdihnkcigoajaaGreatDoorNdG
namespace Go.Proofs.YtjdihnkcigoajaaGreatDoor
open Go.RowKit Go.PlainAid

theorem and255 : ∀ v, v < 256 → bits .and .i64 ((v : Nat) : Int) 255 = ((v : Nat) : Int) := by decide +kernel
theorem and23 (n : Nat) (h : n < 18446744073709551616) : bits .and .u64 (n : Int) 8388607 = ((n % 8388608 : Nat) : Int) := by
  have := u64_and_nat n 8388607 h (by decide)
  rw [show (8388607 : Nat) = 2 ^ 23 - 1 by decide, Nat.and_two_pow_sub_one_eq_mod] at this
  exact this
theorem or23 (r : Nat) (h : r < 8388608) : bits .or .u64 ((r : Nat) : Int) 8388608 = ((8388608 + r : Nat) : Int) := by
  have h1 := u64_or_nat r 8388608 (by omega) (by decide)
  have h2 := Nat.two_pow_add_eq_or_of_lt (i := 23) (b := r) (by omega) 1
  rw [Nat.or_comm, show (8388608 : Nat) = 2 ^ 23 * 1 by decide, ← h2] at h1
  exact h1

/-- how many noughts a number ends in -/
def tzR : Nat → Nat → Nat
  | 0, _ => 0
  | k + 1, d => if d % 10 = 0 then tzR k (d / 10) + 1 else 0
theorem tzR_ok : ∀ k d, 1 ≤ d → d < 10 ^ (k + 1) → tzR k d ≤ k ∧ (∀ i, i < tzR k d → d / 10 ^ i % 10 = 0) ∧ d / 10 ^ tzR k d % 10 ≠ 0
  | 0, d, h1, h2 => ⟨Nat.le_refl _, fun i hi => absurd hi (Nat.not_lt_zero _), by show d / 10 ^ 0 % 10 ≠ 0; rw [Nat.pow_zero, Nat.div_one]; omega⟩
  | k + 1, d, h1, h2 => by
    unfold tzR
    by_cases h : d % 10 = 0
    · rw [if_pos h]
      rw [Nat.pow_succ] at h2
      obtain ⟨g1, g2, g3⟩ := tzR_ok k (d / 10) (by omega) (by omega)
      refine ⟨by omega, fun i hi => ?_, ?_⟩
      · match i with
        | 0 => rw [Nat.pow_zero, Nat.div_one]; exact h
        | i + 1 =>
          have := g2 i (by omega)
          rw [Nat.div_div_eq_div_mul] at this
          rw [Nat.pow_succ, Nat.mul_comm]
          exact this
      · rw [Nat.div_div_eq_div_mul] at g3
        rw [Nat.pow_succ, Nat.mul_comm]
        exact g3
    · rw [if_neg h]
      exact ⟨by omega, fun i hi => absurd hi (Nat.not_lt_zero _), by rw [Nat.pow_zero, Nat.div_one]; exact h⟩
def tzN (d : Nat) : Nat := tzR (ndN d - 1) d
theorem tzN_ok (d : Nat) (h0 : 1 ≤ d) (h1 : d < 1073741824) : tzN d < ndN d ∧ tzN d < 10 ∧ (∀ i, i < tzN d → d / 10 ^ i % 10 = 0) ∧ d / 10 ^ tzN d % 10 ≠ 0 := by
  obtain ⟨a1, a2, a3, a4⟩ := ndN_ok d h0 h1
  obtain ⟨b1, b2, b3⟩ := tzR_ok (ndN d - 1) d h0 (by rw [show ndN d - 1 + 1 = ndN d by omega]; exact a4)
  unfold tzN
  exact ⟨by omega, by omega, b2, b3⟩
theorem dF_bounds (n : Nat) (h1 : 1 ≤ n) (h2 : n < 2139095040) : 1 ≤ dF n ∧ dF n < 1073741824 := by
  obtain ⟨a1, a2, a3, a4, _⟩ := at_facts n h1 h2
  have hlo : 2 ≤ xlo n ∧ xlo n ≤ 4 * atM n := by unfold xlo; split <;> omega
  have bl := u4_bounds n (xlo n) h1 h2
  have bh := u4_bounds n (4 * atM n + 2) h1 h2
  have bm := u4_bounds n (4 * atM n) h1 h2
  unfold dF shN
  have ho : atM n % 2 < 2 := by omega
  generalize u4 n (xlo n) = ul at *
  generalize u4 n (4 * atM n + 2) = uh at *
  generalize u4 n (4 * atM n) = um at *
  generalize atM n % 2 = o at *
  unfold shD
  split
  · dsimp only; omega
  · split
    · unfold rndU; dsimp only; omega
    · dsimp only; omega
theorem pF_bounds (n : Nat) (h1 : 1 ≤ n) (h2 : n < 2139095040) : -60 ≤ pF n ∧ pF n ≤ 60 := by
  have := (row_of n h1 h2).1.1
  unfold pF
  have : (shN n).2 ≤ 1 := by
    unfold shN shD
    split
    · exact Nat.le_refl _
    · split <;> exact Nat.zero_le _
  omega

/-- the digits as they stand in the buffer -/
def digD (n : Nat) : List UInt8 := (List.range 32).map fun j => if j < ndN (dF n) then Lib.dg (dF n) (ndN (dF n) - 1 - j) else 0
/-- how many of them are told, the power of ten of the first one, and what is written -/
def ndF (n : Nat) : Nat := ndN (dF n) - tzN (dF n)
def exF (n : Nat) : Int := (ndN (dF n) : Int) + pF n - 1
def txtE (n : Nat) : List UInt8 := [(digD n).getD 0 0] ++ fracB (digD n) (ndF n) ++ [101] ++ expB (exF n)

theorem digD_len (n : Nat) : (digD n).length = 32 := by simp [digD]
theorem after_short2 (w0 w w2 : World) (v : Value) (nq k : Nat) (o : Obj) (hrow : Row w v []) (hk : Keep [] w0 w) (hf : Fresh w0 w v) (hU : TabU w) (e : w2 = (((w.drewN nq).alloc (.cells zeros32 142)).alloc o).drewN k) :
    Row w2 v [] ∧ Keep [] w0 w2 ∧ Fresh w0 w2 v ∧ TabU w2 ∧ (∀ j, j < 32 → w2.cell? ⟨w.heap.size, j, none⟩ = some (.int .u8 0) ∧ w2.frozen? ⟨w.heap.size, j, none⟩ = false) ∧ w.heap.size < w2.heap.size ∧ w.heap.size ∉ v.ownBlock.toList := by
  have hK : Keep [] w w2 := by
    rw [e]
    exact (((Keep.refl [] w).drewN nq).alloc _ |>.alloc _).drewN k
  have hs : w.heap.size < w2.heap.size := by
    rw [e]
    show w.heap.size < (((w.drewN nq).alloc (.cells zeros32 142)).alloc o).heap.size
    simp [World.drewN]
    omega
  refine ⟨hrow.keep hK (Off.nil _), hk.more hK (fun _ h => by cases h), hf.later hK.size, fun j hj => hK.cell' (hU j hj) (by simp), ?_, hs, ?_⟩
  · intro j hj
    have hz := zeros_new (w.drewN nq) 142 j hj
    have hK2 : Keep [] ((w.drewN nq).alloc (.cells zeros32 142)) w2 := by
      rw [e]; exact ((Keep.refl [] _).alloc _).drewN k
    have hlt : w.heap.size < ((w.drewN nq).alloc (.cells zeros32 142)).heap.size := by simp [World.drewN]
    exact ⟨(hK2.cell (p := ⟨w.heap.size, j, none⟩) hlt (by simp)).trans hz.1, (hK2.frozen (p := ⟨w.heap.size, j, none⟩) hlt (by simp)).trans hz.2⟩
  · intro hm
    simp at hm
    have := hrow.lt _ hm
    omega
theorem after_set2 (n : Nat) (w0 w2 w3 : World) (v : Value) (b : Nat) (hrow : Row w2 v []) (hk : Keep [] w0 w2) (hf : Fresh w0 w2 v) (hb0 : w0.heap.size ≤ b) (hoff : b ∉ v.ownBlock.toList) (h1 : Keep [b] w2 w3)
    (h2 : ∀ j, j < ndN (dF n) → w3.cell? ⟨b, j, none⟩ = some (.int .u8 ((Lib.dg (dF n) (ndN (dF n) - 1 - j)).toNat : Int))) (h3 : ∀ j, ndN (dF n) ≤ j → j < 32 → w3.cell? ⟨b, j, none⟩ = some (.int .u8 0)) : Fm w0 w3 v [] b 32 (digD n) := by
  have hlen := digD_len n
  have hne : digD n ≠ [] := fun h => by rw [h] at hlen; cases hlen
  refine ⟨hrow.keep h1 (fun k hk hn => ?_), ⟨some ⟨b, 0, none⟩, 32, by rw [hlen], by rw [hlen]; decide, by decide, (by intro h; cases h), fun _ => ⟨b, 0, rfl, fun j hj => ?_⟩⟩, hne, hoff, hk.more h1 (fun x hx => .inr ?_), hf.later h1.size⟩
  · simp at hn; subst hn; exact hoff (by simp [hk])
  · rw [Nat.zero_add]
    rw [hlen] at hj
    have hg : (digD n).getD j 0 = if j < ndN (dF n) then Lib.dg (dF n) (ndN (dF n) - 1 - j) else 0 := by
      unfold digD
      rw [List.getD_eq_getElem?_getD, List.getElem?_map, List.getElem?_range hj]
      rfl
    rw [hg]
    by_cases h8 : j < ndN (dF n)
    · rw [h2 j h8, if_pos h8]
    · rw [h3 j (by omega) hj, if_neg h8]
      rfl
  · simp at hx; subst hx; exact hb0
end Go.Proofs.YtjdihnkcigoajaaGreatDoor

