/- The library's scaling where the power of ten is told exactly: what is cut, and its last place. -/
import Derived.Test.YtnjbdaonmgadaaaGreatDoorPfC
import Derived.Test.YtnjbdaonmgadaaaGreatDoorUnM
namespace Go.Proofs.YtnjbdaonmgadaaaGreatDoor
open Go.RowKit Go.PlainAid

theorem lor_one (v : Nat) : v ||| 1 = 2 * (v / 2) + 1 := by
  have h1 := Nat.two_pow_add_eq_or_of_lt (i := 1) (b := 1) (by decide) (v / 2)
  rw [Nat.pow_one] at h1
  rw [h1]
  by_cases h : v % 2 = 0
  · rw [show 2 * (v / 2) = v by omega]
  · have h2 : v = 2 * (v / 2) + 1 := by omega
    conv => lhs; rw [h2, h1]
    rw [Nat.or_assoc, Nat.or_self]
theorem or_one (v : Nat) (h : v < 18446744073709551616) : bits .or .u64 (v : Int) 1 = ((2 * (v / 2) + 1 : Nat) : Int) := by
  have := u64_or_nat v 1 h (by decide)
  rw [lor_one] at this
  exact this
theorem or_zero (v : Nat) (h : v < 18446744073709551616) : bits .or .u64 (v : Int) 0 = (v : Int) := by
  have := u64_or_nat v 0 h (by decide)
  rw [Nat.or_zero] at this
  exact this
theorem and_one (v : Nat) (h : v < 18446744073709551616) : bits .and .u64 (v : Int) 1 = ((v % 2 : Nat) : Int) := by
  have := u64_and_nat v 1 h (by decide)
  rw [Nat.and_one_is_mod] at this
  exact this

theorem unr_scale (V D k : Nat) : unr (V * 2 ^ k) (D + k) = unr V D := by
  have hk : 0 < 2 ^ k := Nat.two_pow_pos k
  have e1 : V * 2 ^ k / 2 ^ (D + k) = V / 2 ^ D := by rw [Nat.pow_add, Nat.mul_div_mul_right _ _ hk]
  have e2 : V * 2 ^ k % 2 ^ (D + k) = V % 2 ^ D * 2 ^ k := by rw [Nat.pow_add, Nat.mul_mod_mul_right]
  unfold unr
  rw [e1, e2]
  by_cases h : V % 2 ^ D = 0
  · rw [if_pos h, h, Nat.zero_mul, if_pos rfl]
  · rw [if_neg h, if_neg (by have := Nat.mul_pos (Nat.pos_of_ne_zero h) hk; omega)]

theorem unr_101 (T a c : Nat) (ha : a = T / 18446744073709551616) (hc : c = T % 18446744073709551616) :
    unr T 101 = if a % 137438953472 = 0 ∧ c = 0 then a / 137438953472 else 2 * (a / 137438953472 / 2) + 1 := by
  have e : (2 : Nat) ^ 101 = 137438953472 * 18446744073709551616 := by decide
  obtain ⟨h1, h2⟩ := cut_parts T 18446744073709551616 137438953472 (by decide)
  unfold unr
  rw [e, h1, h2, ← ha, ← hc]
  have : a % 137438953472 * 18446744073709551616 + c = 0 ↔ a % 137438953472 = 0 ∧ c = 0 := by omega
  simp only [this]

set_option maxRecDepth 1000000 in
theorem uscale_exact (x hi : Nat) (hx : x < 18446744073709551616) (hh : hi < 18446744073709551616) (h1 : x * hi % 18446744073709551616 ≠ 1) (w : World) :
    Calls Tryz.prog 150 #[.int .u64 (x : Int), .pointer (some ⟨w.heap.size, 0, none⟩)] (w.alloc (.cells #[.int .u64 (hi : Int), .int .u64 0, .int .i64 37] 189)) fun e w' => e = .returned (.int .u64 ((unr (x * hi) 101 : Nat) : Int)) ∧ ∃ n, w' = (w.alloc (.cells #[.int .u64 (hi : Int), .int .u64 0, .int .i64 37] 189)).drewN n := by
  have hm : (x : Int) * (hi : Int) = ((x * hi : Nat) : Int) := (Int.natCast_mul x hi).symm
  have hu := unr_101 (x * hi) _ _ rfl rfl
  have hlt : x * hi / 18446744073709551616 < 18446744073709551616 := by
    rw [Nat.div_lt_iff_lt_mul (by decide)]
    exact Nat.mul_lt_mul_of_lt_of_lt hx hh
  rw [hu]
  generalize hT : x * hi = T at *
  generalize hA : T / 18446744073709551616 = a at *
  generalize hC : T % 18446744073709551616 = c at *
  have ha : (x : Int) * (hi : Int) / 18446744073709551616 = (a : Int) := by rw [hm]; omega
  have hb : (x : Int) * (hi : Int) % 18446744073709551616 = (c : Int) := by rw [hm]; omega
  have hs : bits .and .i64 37 63 = 37 := by decide
  have e37 : (2 : Int) ^ (37 : Int).toNat = 137438953472 := by decide
  have hw : IntKind.u64.wrap ((a : Int) / 2 ^ (37 : Int).toNat * 2 ^ (37 : Int).toNat) = ((a / 137438953472 * 137438953472 : Nat) : Int) := by
    rw [e37, IntKind.wrap_u64]; omega
  have hd : ((a : Int) / 2 ^ (37 : Int).toNat) = ((a / 137438953472 : Nat) : Int) := by rw [e37]; omega
  by_cases h : a % 137438953472 = 0
  · have hne : (IntKind.u64.wrap ((a : Int) / 2 ^ (37 : Int).toNat * 2 ^ (37 : Int).toNat) != (a : Int)) = false := by
      rw [hw]; simp; omega
    have hw2 : IntKind.u64.wrap ((c : Int) - 0) = (c : Int) := by rw [IntKind.wrap_u64]; omega
    have hw3 : IntKind.u64.wrap ((a : Int) - 0) = (a : Int) := by rw [IntKind.wrap_u64]; omega
    by_cases hc : c = 0
    · have hR := uscale_all (x : Int) (hi : Int) 0 37 a c 0 0 0 0 w hs (by decide) (by decide) (by omega) (by omega) (by decide) ha hb (by simp) (by simp) hne (by rw [if_neg (by simp)]) (by rw [hw2, if_neg (by simp; omega)])
      rw [hw3, hd, or_zero _ (by omega)] at hR
      rw [if_pos ⟨h, hc⟩]
      exact hR
    · have hR := uscale_all (x : Int) (hi : Int) 0 37 a c 0 0 0 1 w hs (by decide) (by decide) (by omega) (by omega) (by decide) ha hb (by simp) (by simp) hne (by rw [if_neg (by simp)]) (by rw [hw2, if_pos (by simp; omega)])
      rw [hw3, hd, or_one _ (by omega)] at hR
      rw [if_neg (by omega)]
      exact hR
  · have hne : (IntKind.u64.wrap ((a : Int) / 2 ^ (37 : Int).toNat * 2 ^ (37 : Int).toNat) != (a : Int)) = true := by
      rw [hw]; simp; omega
    have hR := uscale_cut (x : Int) (hi : Int) 0 37 a c w hs (by decide) (by decide) (by omega) (by omega) ha hb hne
    rw [hd, or_one _ (by omega)] at hR
    rw [if_neg (by omega)]
    exact hR
end Go.Proofs.YtnjbdaonmgadaaaGreatDoor
