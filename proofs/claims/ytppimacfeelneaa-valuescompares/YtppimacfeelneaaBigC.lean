/- The document's whole numbers of any length: powers of two, and the worth of a float. -/
import Derived.Test.YtppimacfeelneaaBigB
namespace Go.Proofs.Ytppimacfeelneaa
open Go.RowKit Go.PlainAid

set_option maxRecDepth 1000000 in
set_option maxHeartbeats 1600000 in
theorem powers_neg (v : Value) (k : Int) (hk : k ≤ 0) (w : World) : Calls Try.prog 133 #[v, .int .i64 2, .int .i64 k] w fun e w' => e = .returned v ∧ w' = w := by
  have h1 : ¬ (8 : Int) ≤ k := by omega
  have h2 : ¬ (0 : Int) < k := by omega
  go_enter Try.func133, Try.ntmps133
  go_wp2
  refine wp_loop_rounds 1 ?_
  rw [rounds_succ]
  go_wp2
  refine wp_loop_rounds 1 ?_
  rw [rounds_succ]
  go_wp2
  go_ret
  exact ⟨rfl, rfl⟩

structure PowI (w wr : World) (v nv : Value) (N K j : Nat) : Prop where
  big : Big wr nv (N * 2 ^ j) (K + j)
  own : nv = v ∨ Fresh w wr nv
  keep : Keep [] w wr

theorem PowI.next {w wr w1 : World} {v nv n1 : Value} {N K j : Nat} (h : PowI w wr v nv N K j) (d : Nat) (hd : 1 ≤ d) (g : Big w1 n1 (N * 2 ^ j * 2 ^ d) (K + j + 1) ∧ Fresh wr w1 n1) (k : Keep [] wr w1) : PowI w w1 v n1 N K (j + d) := by
  refine ⟨?_, .inr (g.2.earlier h.keep.size), h.keep.trans' k⟩
  rw [Nat.pow_add, ← Nat.mul_assoc]
  exact g.1.mono (by omega)

set_option maxRecDepth 1000000 in
set_option maxHeartbeats 3200000 in
theorem powers_two (v : Value) (N K k : Nat) (w : World) (h : Big w v N K) (hK : K ≤ 1000) (hk : k ≤ 1000) :
    Calls Try.prog 133 #[v, .int .i64 2, .int .i64 (k : Int)] w fun e w' => ∃ v', e = .returned v' ∧ (Big w' v' (N * 2 ^ k) (K + k) ∧ (v' = v ∨ Fresh w w' v')) ∧ Keep [] w w' := by
  have H0 : Hid (Big w v N K) := h
  clear h
  go_enter Try.func133, Try.ntmps133
  go_wp2
  go_loopw [0, 2] (fun nv kv wr => ∃ m : Nat, kv = .int .i64 (m : Int) ∧ m ≤ k ∧ Hid (PowI w wr v nv N K (k - m))) (fun _ kv _ => (intOf kv).toNat)
  case atStart => exact ⟨k, rfl, Nat.le_refl _, (⟨by simpa using H0.out, .inl rfl, Keep.refl _ w⟩ : PowI w w v v N K (k - k))⟩
  case round =>
    obtain ⟨m, rfl, hm, HI⟩ := hrel
    by_cases h8 : 8 ≤ m
    · obtain ⟨j, rfl⟩ : ∃ j, m = j + 8 := ⟨m - 8, by omega⟩
      have hT := times_big u0 _ _ 256 wr HI.out.big (by omega) (by decide) (by decide)
      rw [show ((256 : Nat) : Int) = 256 from rfl] at hT
      have h8i : (8 : Int) ≤ ((j + 8 : Nat) : Int) := by omega
      go_wp2_with (go_at_call 136; refine hT.mono ?_; rintro e9 w9 ⟨v9, rfl, hb9, hk9⟩)
      have HJ : Hid (PowI w w9 v v9 N K (k - j)) := show PowI w w9 v v9 N K (k - j) by
        have := HI.out.next 8 (by decide) hb9 hk9
        rwa [show k - (j + 8) + 8 = k - j by omega] at this
      clear hb9 hk9 hT
      go_roundw
      case rel => exact ⟨j, by go_num, by omega, HJ⟩
      case measure => (simp [intOf]; try omega)
    · have h8i : ¬ (8 : Int) ≤ (m : Int) := by omega
      go_wp2
      clear H0
      go_loopw [0, 7] (fun nv iv wr => ∃ i : Nat, iv = .int .i64 (i : Int) ∧ i ≤ m ∧ Hid (PowI w wr v nv N K (k - m + i))) (fun _ iv _ => m - (intOf iv).toNat)
      case atStart => exact ⟨0, rfl, Nat.zero_le _, HI⟩
      case round =>
        clear HI
        obtain ⟨i, rfl, hi, HI⟩ := hrel
        by_cases hl : i < m
        · have hT := times_big u0 _ _ 2 wr HI.out.big (by omega) (by decide) (by decide)
          rw [show ((2 : Nat) : Int) = 2 from rfl] at hT
          have hli : (i : Int) < (m : Int) := by omega
          go_wp2_with (go_at_call 136; refine hT.mono ?_; rintro e9 w9 ⟨v9, rfl, hb9, hk9⟩)
          have HJ : Hid (PowI w w9 v v9 N K (k - m + (i + 1))) := HI.out.next 1 (by decide) hb9 hk9
          clear hb9 hk9 hT
          go_roundw
          case rel => exact ⟨i + 1, by go_num, by omega, HJ⟩
          case measure => (simp [intOf]; try omega)
        · have hli : ¬ (i : Int) < (m : Int) := by omega
          go_wp2
          go_ret
          have h1 := HI.out
          rw [show k - m + i = k by omega] at h1
          exact ⟨_, rfl, ⟨h1.big, h1.own⟩, h1.keep⟩
end Go.Proofs.Ytppimacfeelneaa

