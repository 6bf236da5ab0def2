/- The library's shortFloat in one, for every float32 above 0: its contract. -/
import Derived.Test.YtnljpbpphdhnpaaGreatDoorFnM
import Derived.Test.YtnljpbpphdhnpaaGreatDoorShF

namespace Go.Proofs.YtnljpbpphdhnpaaGreatDoor
open Go.RowKit Go.PlainAid

/-- the powers of ten from -31 to 45, as they are laid -/
def TabR (w : World) : Prop := ∀ j, j < 77 → w.cell? ⟨15, (317 + j) * 2, none⟩ = some (.int .u64 (hiR j : Int)) ∧ w.cell? ⟨15, (317 + j) * 2 + 1, none⟩ = some (.int .u64 (loR j : Int))
/-- how far a worth's whole number is brought up -/
def upF (n : Nat) : Nat := 63 - (atM n).log2

theorem smax_ok : ∀ n : Nat, n < 254 → 37 - ((n : Int) - 149) - lpR (jN ((n : Int) - 149)) ≤ 40 ∧ 37 - ((n : Int) - 149) - lpR (jS ((n : Int) - 149)) ≤ 40 := by
  decide +kernel
theorem smax (n : Nat) (h1 : 1 ≤ n) (h2 : n < 2139095040) : 37 - atE n - lpR (jF n) ≤ 40 := by
  obtain ⟨a1, a2, _⟩ := at_facts n h1 h2
  obtain ⟨k, hk⟩ : ∃ k : Nat, atE n = (k : Int) - 149 := ⟨(atE n + 149).toNat, by omega⟩
  have := smax_ok k (by omega)
  unfold jF
  rw [hk]
  split
  · exact this.2
  · exact this.1
theorem short_all (n : Nat) (h1 : 1 ≤ n) (h2 : n < 2139095040) (w : World) (hT : TabR w) :
    Calls Tryz.prog 138 #[.int .u64 ((atM n * 2 ^ upF n : Nat) : Int), .int .i64 (atE n - (upF n : Int))] w fun r w' => r = .returned (.tuple #[.int .u64 ((dF n : Nat) : Int), .int .i64 (pF n)]) ∧ ∃ (o : Obj) (k : Nat), w' = (w.alloc o).drewN k := by
  obtain ⟨a1, a2, a3, a4, a5, a6, a7, a8⟩ := at_facts n h1 h2
  obtain ⟨r1, r2⟩ := row_of n h1 h2
  have hj := r1.1
  obtain ⟨c0, c1⟩ := hT (jF n) hj
  have hlp := row_facts (jF n) hj
  have hsk : ∀ X t s : Nat, X < 67108867 → 38 ≤ t → X * 2 ^ t + 4 ≤ 18446744073709551616 → (s : Int) = (t : Int) - 1 - atE n - lpR (jF n) → uscN (X * 2 ^ t) (hiR (jF n)) (loR (jF n)) s = u4 n X := fun X t s hX ht hx hs => usc_any (atE n) (jF n) X s t hX ht hx hs r1
  have hb := u4_bounds n
  have hM4 : 4 * atM n + 2 < 67108867 := by omega
  have hlo : 2 ≤ xlo n ∧ xlo n ≤ 4 * atM n := by unfold xlo; split <;> omega
  have bl := hb (xlo n) h1 h2
  have bh := hb (4 * atM n + 2) h1 h2
  have bm := hb (4 * atM n) h1 h2
  have hs34 := r1.2.2.1
  by_cases hn : 8388608 ≤ n
  · -- 2 to the power 23 or more
    have hM := a5 hn
    have hlog : (atM n).log2 = 23 := by
      have g1 : (atM n).log2 < 24 := (Nat.log2_lt (by omega)).2 (by omega)
      have g2 : 23 ≤ (atM n).log2 := (Nat.le_log2 (by omega)).2 (by omega)
      omega
    have hsF : upF n = 40 := by unfold upF; omega
    rw [hsF]
    obtain ⟨s, hs⟩ : ∃ s : Nat, (s : Int) = 37 - atE n - lpR (jF n) := ⟨(37 - atE n - lpR (jF n)).toNat, by omega⟩
    have hs64 : s < 64 := by
      have := (smax n h1 h2)
      omega
    have hul := hsk (xlo n) 38 s (by omega) (by omega) (by omega) (by omega)
    have huh := hsk (4 * atM n + 2) 38 s hM4 (by omega) (by omega) (by omega)
    have hum := hsk (4 * atM n) 38 s (by omega) (by omega) (by omega) (by omega)
    have p38 : (2 : Nat) ^ 38 = 274877906944 := by decide
    have p40 : (2 : Nat) ^ 40 = 1099511627776 := by decide
    rw [p38] at hul huh hum
    rw [p40]
    have huh2 : uscN (atM n * 1099511627776 + 549755813888) (hiR (jF n)) (loR (jF n)) s = u4 n (4 * atM n + 2) := by
      rw [show atM n * 1099511627776 + 549755813888 = (4 * atM n + 2) * 274877906944 by omega]; exact huh
    have hum2 : uscN (atM n * 1099511627776) (hiR (jF n)) (loR (jF n)) s = u4 n (4 * atM n) := by
      rw [show atM n * 1099511627776 = 4 * atM n * 274877906944 by omega]; exact hum
    unfold dF pF shN
    by_cases hs1 : skw n = true
    · obtain ⟨hM2, hE2⟩ := a7 hs1
      have hx : xlo n = 4 * atM n - 1 := by unfold xlo; rw [if_pos hs1]
      have hjE : ((jF n : Nat) : Int) = 31 - (((atE n - 40 + 40) * 631305 - 261663) / 2097152) := by
        unfold jF jS; rw [if_pos hs1]; omega
      have hul2 : uscN (atM n * 1099511627776 - 274877906944) (hiR (jF n)) (loR (jF n)) s = u4 n (xlo n) := by
        rw [show atM n * 1099511627776 - 274877906944 = xlo n * 274877906944 by omega]; exact hul
      rw [show atM n % 2 = 0 by omega]
      refine (short_S0 (atM n * 1099511627776) (atM n) (atE n - 40) (jF n) s _ _ _ (by omega) (by omega) (by omega) (by omega) (by omega) ⟨by omega, by omega⟩ hjE hj (by omega) hs64 hul2 huh2 hum2 (by omega) (by omega) (by omega) w c0 c1).mono ?_
      rintro e w' ⟨he, k, hw⟩
      exact ⟨he, _, k, hw⟩
    · have hs0 : skw n = false := by simpa using hs1
      have hx : xlo n = 4 * atM n - 2 := by unfold xlo; rw [if_neg hs1]
      have hjE : ((jF n : Nat) : Int) = 31 - ((atE n - 40 + 40) * 78913 / 262144) := by
        unfold jF jN; rw [if_neg hs1]; omega
      have hul2 : uscN (atM n * 1099511627776 - 549755813888) (hiR (jF n)) (loR (jF n)) s = u4 n (xlo n) := by
        rw [show atM n * 1099511627776 - 549755813888 = xlo n * 274877906944 by omega]; exact hul
      by_cases hM3 : atM n = 8388608
      · have hE3 := a8 hs0 hn hM3
        rw [show atM n % 2 = 0 by omega]
        refine (short_L0 (atM n * 1099511627776) (atM n) (atE n - 40) (jF n) s _ _ _ (by omega) (by omega) (by omega) (by omega) (by omega) ⟨by omega, by omega⟩ hjE hj (by omega) hs64 hul2 huh2 hum2 (by omega) (by omega) (by omega) w c0 c1).mono ?_
        rintro e w' ⟨he, k, hw⟩
        exact ⟨he, _, k, hw⟩
      · by_cases ho : atM n % 2 = 0
        · rw [ho]
          refine (short_N0 (atM n * 1099511627776) (atM n) (atE n - 40) (jF n) s _ _ _ (by omega) (by omega) (by omega) (by omega) (by omega) (by omega) hjE hj (by omega) hs64 hul2 huh2 hum2 (by omega) (by omega) (by omega) w c0 c1).mono ?_
          rintro e w' ⟨he, k, hw⟩
          exact ⟨he, _, k, hw⟩
        · have ho1 : atM n % 2 = 1 := by omega
          rw [ho1]
          refine (short_N1 (atM n * 1099511627776) (atM n) (atE n - 40) (jF n) s _ _ _ (by omega) (by omega) (by omega) (by omega) (by omega) (by omega) hjE hj (by omega) hs64 hul2 huh2 hum2 (by omega) (by omega) (by omega) w c0 c1).mono ?_
          rintro e w' ⟨he, k, hw⟩
          exact ⟨he, _, k, hw⟩
  · -- below that
    obtain ⟨hMn, hEn⟩ := a6 (by omega)
    have hs0 : skw n = false := by
      unfold skw
      simp
      omega
    have hx : xlo n = 4 * atM n - 2 := by unfold xlo; rw [hs0]; rfl
    have hj76 : jF n = 76 := by
      unfold jF
      rw [hs0, hEn]
      decide
    have hl1 := Nat.log2_self_le (show atM n ≠ 0 by omega)
    have hl2 : atM n < 2 ^ ((atM n).log2 + 1) := Nat.lt_log2_self
    have hlog : (atM n).log2 < 23 := (Nat.log2_lt (by omega)).2 (by omega)
    obtain ⟨t, ht⟩ : ∃ t, t = upF n - 2 := ⟨_, rfl⟩
    have hz : upF n = t + 2 := by unfold upF at *; omega
    have hz41 : 41 ≤ upF n ∧ upF n ≤ 63 := by unfold upF; omega
    have hlt : (atM n).log2 + (t + 2) = 63 := by unfold upF at *; omega
    have e1 : 2 ^ (t + 2) = 4 * 2 ^ t := by rw [Nat.pow_add]; omega
    have e2 : 2 ^ (t + 2 - 1) = 2 * 2 ^ t := by rw [show t + 2 - 1 = t + 1 by omega, Nat.pow_succ]; omega
    have e3 : 2 ^ (atM n).log2 * 2 ^ (t + 2) = 9223372036854775808 := by
      rw [← Nat.pow_add, hlt]
    have e4 : 2 ^ ((atM n).log2 + 1) * 2 ^ (t + 2) = 18446744073709551616 := by
      rw [Nat.pow_succ, Nat.mul_right_comm, e3]
    have b1 : 9223372036854775808 ≤ atM n * 2 ^ (t + 2) := by
      rw [← e3]
      exact Nat.mul_le_mul_right _ hl1
    have b2 : (atM n + 1) * 2 ^ (t + 2) ≤ 18446744073709551616 := by
      rw [← e4]
      exact Nat.mul_le_mul_right _ hl2
    have b3 : 2 ^ 39 ≤ 2 ^ t := Nat.pow_le_pow_right (by decide) (by omega)
    have p39 : (2 : Nat) ^ 39 = 549755813888 := by decide
    rw [p39] at b3
    rw [Nat.add_mul, Nat.one_mul] at b2
    have hs : ((t - 1 : Nat) : Int) = (t : Int) - 1 - atE n - lpR (jF n) := by
      have : lpR 76 = 149 := by decide
      rw [hj76, this, hEn]
      omega
    have m1 : xlo n * 2 ^ t + 2 * 2 ^ t = atM n * 2 ^ (t + 2) := by
      rw [hx, e1, ← Nat.add_mul, show 4 * atM n - 2 + 2 = 4 * atM n by omega, Nat.mul_comm 4 (atM n), Nat.mul_assoc]
    have m2 : atM n * 2 ^ (t + 2) + 2 * 2 ^ t = (4 * atM n + 2) * 2 ^ t := by
      rw [e1, Nat.add_mul, Nat.mul_comm 4 (atM n), Nat.mul_assoc]
    have m3 : atM n * 2 ^ (t + 2) = 4 * atM n * 2 ^ t := by rw [e1, Nat.mul_comm 4 (atM n), Nat.mul_assoc]
    have hul := hsk (xlo n) t (t - 1) (by omega) (by omega) (by omega) hs
    have huh := hsk (4 * atM n + 2) t (t - 1) hM4 (by omega) (by omega) hs
    have hum := hsk (4 * atM n) t (t - 1) (by omega) (by omega) (by omega) hs
    rw [← m2] at huh
    rw [← m3] at hum
    rw [hj76] at hul huh hum c0 c1
    rw [hz]
    unfold dF pF shN
    rw [hj76]
    have hdiv : atM n * 2 ^ (t + 2) / 2 ^ (t + 2) = atM n := Nat.mul_div_cancel _ (Nat.two_pow_pos _)
    rw [hz] at hz41
    have he : atE n - ((t + 2 : Nat) : Int) = -149 - ((t + 2 : Nat) : Int) := by omega
    rw [he]
    have hpost : (31 : Int) - ((76 : Nat) : Int) = -45 := by decide
    rw [hpost]
    by_cases ho : atM n % 2 = 0
    · rw [ho]
      by_cases hm : atM n * 2 ^ (t + 2) = 9223372036854775808
      · refine (short_V0 (atM n * 2 ^ (t + 2)) (atM n) (t + 2) (xlo n * 2 ^ t) (atM n * 2 ^ (t + 2) + 2 * 2 ^ t) (-149 - ((t + 2 : Nat) : Int)) (t - 1) _ _ _ hz41 rfl hm (by omega) (by omega) (by omega) hdiv ho (by omega) (by omega) (by omega) hul huh hum (by omega) (by omega) (by omega) w c0 c1).mono ?_
        rintro e w' ⟨he, k, hw⟩
        exact ⟨he, _, k, hw⟩
      · refine (short_U0 (atM n * 2 ^ (t + 2)) (atM n) (t + 2) (xlo n * 2 ^ t) (atM n * 2 ^ (t + 2) + 2 * 2 ^ t) (-149 - ((t + 2 : Nat) : Int)) (t - 1) _ _ _ hz41 rfl hm (by omega) (by omega) (by omega) hdiv ho (by omega) (by omega) (by omega) hul huh hum (by omega) (by omega) (by omega) w c0 c1).mono ?_
        rintro e w' ⟨he, k, hw⟩
        exact ⟨he, _, k, hw⟩
    · have ho1 : atM n % 2 = 1 := by omega
      rw [ho1]
      by_cases hm : atM n * 2 ^ (t + 2) = 9223372036854775808
      · refine (short_V1 (atM n * 2 ^ (t + 2)) (atM n) (t + 2) (xlo n * 2 ^ t) (atM n * 2 ^ (t + 2) + 2 * 2 ^ t) (-149 - ((t + 2 : Nat) : Int)) (t - 1) _ _ _ hz41 rfl hm (by omega) (by omega) (by omega) hdiv ho1 (by omega) (by omega) (by omega) hul huh hum (by omega) (by omega) (by omega) w c0 c1).mono ?_
        rintro e w' ⟨he, k, hw⟩
        exact ⟨he, _, k, hw⟩
      · refine (short_U1 (atM n * 2 ^ (t + 2)) (atM n) (t + 2) (xlo n * 2 ^ t) (atM n * 2 ^ (t + 2) + 2 * 2 ^ t) (-149 - ((t + 2 : Nat) : Int)) (t - 1) _ _ _ hz41 rfl hm (by omega) (by omega) (by omega) hdiv ho1 (by omega) (by omega) (by omega) hul huh hum (by omega) (by omega) (by omega) w c0 c1).mono ?_
        rintro e w' ⟨he, k, hw⟩
        exact ⟨he, _, k, hw⟩
end Go.Proofs.YtnljpbpphdhnpaaGreatDoor

/- The library's FormatFloat at the one number that is asked for. -/
namespace Go.Proofs.YtnljpbpphdhnpaaGreatDoor
open Go.RowKit Go.PlainAid

set_option maxRecDepth 1000000 in
theorem run_sbits (x : Nat) (w : World) : (callFunc 133 #[.float .f32 x]).run Tryz.prog w = .ok (.value (.int .u32 (x : Int))) w :=
  (run_callFunc_extern (e := Extern.MathFloatBits.float32bits) Tryz.func133 (by kernel_rfl) (by kernel_rfl) (by kernel_rfl) (by kernel_rfl) _ w).trans rfl

def zeros32 : Array Value := #[.int .u8 0, .int .u8 0, .int .u8 0, .int .u8 0, .int .u8 0, .int .u8 0, .int .u8 0, .int .u8 0, .int .u8 0, .int .u8 0, .int .u8 0, .int .u8 0, .int .u8 0, .int .u8 0, .int .u8 0, .int .u8 0, .int .u8 0, .int .u8 0, .int .u8 0, .int .u8 0, .int .u8 0, .int .u8 0, .int .u8 0, .int .u8 0, .int .u8 0, .int .u8 0, .int .u8 0, .int .u8 0, .int .u8 0, .int .u8 0, .int .u8 0, .int .u8 0]
theorem zeros32_at (j : Nat) (h : j < 32) : zeros32[j]? = some (.int .u8 0) := by
  have e : zeros32 = Array.replicate 32 (.int .u8 0) := rfl
  rw [e, Array.getElem?_replicate, if_pos h]
theorem zeros_new (w : World) (t : TypeId) (j : Nat) (h : j < 32) : (w.alloc (.cells zeros32 t)).cell? ⟨w.heap.size, j, none⟩ = some (.int .u8 0) ∧ (w.alloc (.cells zeros32 t)).frozen? ⟨w.heap.size, j, none⟩ = false := by
  refine ⟨?_, ?_⟩
  · rw [World.cell?_alloc_new, zeros32_at j h]
  · simp [go_sem]

/-- the state behind shortFloat: the digits' block is empty, all that was is as it was -/
theorem after_short (w0 w w2 : World) (v : Value) (nq n : Nat) (hrow : Row w v []) (hk : Keep [] w0 w) (hf : Fresh w0 w v) (hU : w.cell? ⟨4, 7, none⟩ = some (.int .u64 10000000)) (e : w2 = (((w.drewN nq).alloc (.cells zeros32 160)).alloc preW).drewN n) :
    Row w2 v [] ∧ Keep [] w0 w2 ∧ Fresh w0 w2 v ∧ w2.cell? ⟨4, 7, none⟩ = some (.int .u64 10000000) ∧ (∀ j, j < 32 → w2.cell? ⟨w.heap.size, j, none⟩ = some (.int .u8 0) ∧ w2.frozen? ⟨w.heap.size, j, none⟩ = false) ∧ w.heap.size < w2.heap.size ∧ w.heap.size ∉ v.ownBlock.toList := by
  have hK : Keep [] w w2 := by
    rw [e]
    exact (((Keep.refl [] w).drewN nq).alloc _ |>.alloc _).drewN n
  have hs : w.heap.size < w2.heap.size := by
    rw [e]
    show w.heap.size < (((w.drewN nq).alloc (.cells zeros32 160)).alloc preW).heap.size
    simp [World.drewN]
    omega
  refine ⟨hrow.keep hK (Off.nil _), hk.more hK (fun _ h => by cases h), hf.later hK.size, hK.cell' hU (by simp), ?_, hs, ?_⟩
  · intro j hj
    have hz := zeros_new (w.drewN nq) 160 j hj
    have hK2 : Keep [] ((w.drewN nq).alloc (.cells zeros32 160)) w2 := by
      rw [e]; exact ((Keep.refl [] _).alloc _).drewN n
    have hlt : w.heap.size < ((w.drewN nq).alloc (.cells zeros32 160)).heap.size := by simp [World.drewN]
    exact ⟨(hK2.cell (p := ⟨w.heap.size, j, none⟩) hlt (by simp)).trans hz.1, (hK2.frozen (p := ⟨w.heap.size, j, none⟩) hlt (by simp)).trans hz.2⟩
  · intro hm
    simp at hm
    have := hrow.lt _ hm
    omega

def DP : List UInt8 := [49, 54, 55, 55, 55, 50, 49, 54, 0, 0, 0, 0, 0, 0, 0, 0, 0, 0, 0, 0, 0, 0, 0, 0, 0, 0, 0, 0, 0, 0, 0, 0]
theorem after_set (w0 w2 w3 : World) (v : Value) (b : Nat) (hrow : Row w2 v []) (hk : Keep [] w0 w2) (hf : Fresh w0 w2 v) (hlt : b < w2.heap.size) (hb0 : w0.heap.size ≤ b) (hoff : b ∉ v.ownBlock.toList) (h1 : Keep [b] w2 w3)
    (h2 : ∀ j, j < 8 → w3.cell? ⟨b, j, none⟩ = some (.int .u8 ((Lib.dg 16777216 (8 - 1 - j)).toNat : Int))) (h3 : ∀ j, 8 ≤ j → j < 32 → w3.cell? ⟨b, j, none⟩ = some (.int .u8 0)) : Fm w0 w3 v [] b 32 DP := by
  refine ⟨hrow.keep h1 (fun k hk hn => ?_), ⟨some ⟨b, 0, none⟩, 32, rfl, by decide, by decide, (by intro h; cases h), fun _ => ⟨b, 0, rfl, fun j hj => ?_⟩⟩, by decide, hoff, hk.more h1 (fun x hx => .inr ?_), hf.later h1.size⟩
  · simp at hn; subst hn; exact hoff (by simp [hk])
  · rw [Nat.zero_add]
    have hj' : j < 32 := hj
    by_cases h8 : j < 8
    · rw [h2 j h8]
      have : ∀ j, j < 8 → ((Lib.dg 16777216 (8 - 1 - j)).toNat : Int) = ((DP.getD j 0).toNat : Int) := by decide
      rw [this j h8]
    · rw [h3 j (by omega) hj']
      have : ∀ j, j < 32 → 8 ≤ j → (0 : Int) = ((DP.getD j 0).toNat : Int) := by decide
      rw [← this j hj' (by omega)]
  · simp at hx; subst hx; exact hb0

set_option maxRecDepth 1000000 in
set_option maxHeartbeats 2000000 in
theorem ftoa32_p (w0 w : World) (v : Value) (hT : Tabs w) (hU : w.cell? ⟨4, 7, none⟩ = some (.int .u64 10000000)) (hrow : Row w v []) (hk : Keep [] w0 w) (hf : Fresh w0 w v) :
    Calls Tryz.prog 108 #[v, .float .f32 1266679808, .int .u8 101, .int .i64 (-1)] w fun e w' => ∃ v', e = .returned v' ∧ Row w' v' [49, 46, 54, 55, 55, 55, 50, 49, 54, 101, 43, 48, 55] ∧ Keep [] w0 w' := by
  have hb := run_sbits 1266679808
  have e : ((1266679808 : Nat) : Int) = 1266679808 := rfl
  rw [e] at hb; clear e
  have e1 : bits .and .i64 151 255 = 151 := by decide
  have e2 : bits .and .u64 1266679808 8388607 = 0 := by decide
  have e3 : bits .or .u64 0 8388608 = 8388608 := by decide
  have hL := len64_at 8388608 (by decide) (by decide) 24 (by decide)
  have HR : Hid (Row w v [] ∧ Keep [] w0 w ∧ Fresh w0 w v) := ⟨hrow, hk, hf⟩
  have HT : Hid (Tabs w ∧ w.cell? ⟨4, 7, none⟩ = some (.int .u64 10000000)) := ⟨hT, hU⟩
  clear hrow hk hf hT hU
  go_enter Tryz.func108, Tryz.ntmps108
  go_wp2
  go_quiet (fail)
  go_wp2_with (first
    | (go_at_call 129; refine (hL _).mono ?_; rintro e9 w9 ⟨rfl, hw9⟩; obtain rfl := hw9.symm)
    | (go_at_call 138; refine (short_p _ (cell_alloc (X := .cells zeros32 160) (W := w.drewN nq) HT.out.1.hi) (cell_alloc (X := .cells zeros32 160) (W := w.drewN nq) HT.out.1.lo)).mono ?_; rintro e9 w2 ⟨rfl, n9, hw2⟩; have HW : Hid _ := after_short w0 w w2 v nq n9 HR.out.1 HR.out.2.1 HR.out.2.2 HT.out.2 hw2; clear hw2))
  go_region_held3 (fun _ => True) (exact trivial)
    (first
    | (go_at_call 105; refine (numDigits_p w2.drew HW.out.2.2.2.1).mono ?_; rintro e9 w9 ⟨rfl, hw9⟩; obtain rfl := hw9.symm)
    | (go_at_call 139; refine (setDigits_any w.heap.size 8 16777216 0 w2.drew (by decide) (by decide) (by decide) (by decide) (by decide) (by decide) (by decide) HW.out.2.2.2.2.1).mono ?_; rintro e9 w3 ⟨rfl, g1, g2, g3⟩; have HX : Hid _ := after_set w0 w2 w3 v w.heap.size HW.out.1 HW.out.2.1 HW.out.2.2.1 HW.out.2.2.2.2.2.1 HR.out.2.1.size HW.out.2.2.2.2.2.2 ⟨g1.os, g1.tape, g1.output, g1.size, g1.block⟩ g2 g3; clear g1 g2 g3))
  go_wp2_with (first
    | (go_at_call 137; refine (fmtE_any w0 _ v [] w.heap.size 32 DP 8 8 HX.out (by decide) (by decide) (by decide) (by decide) (by decide) (by decide) (by decide)).mono ?_; rintro e9 w4 ⟨v4, rfl, hF4⟩; have HY : Hid _ := hF4; clear hF4))
  go_ret
  exact ⟨_, rfl, HY.out.row, HY.out.keep⟩
end Go.Proofs.YtnljpbpphdhnpaaGreatDoor


