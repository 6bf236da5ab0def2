/- What is read at the beginning of some bytes: a key. -/
import Derived.Test.YtncbanpimfhhbaaGreatDoorFirst4
import Derived.Deep.QuietTactic
import Derived.BigQuiet
namespace Go.Proofs.YtncbanpimfhhbaaGreatDoor
open Go.RowKit Go.PlainAid Go.Lib

def be4 (l : List UInt8) : Nat := 16777216 * (l.getD 0 0).toNat + 65536 * (l.getD 1 0).toNat + 256 * (l.getD 2 0).toNat + (l.getD 3 0).toNat
def realL (l : List UInt8) : Nat × Nat × Int := if l.length < 4 then (0, 0, 20) else if keyB (be4 l) = true then (unkeyN (be4 l), 4, 0) else (0, 0, 21)

theorem or4 (a b c d : Nat) (ha : a < 256) (hb : b < 256) (hc : c < 256) (hd : d < 256) :
    bits .or .u32 (bits .or .u32 (bits .or .u32 ((a : Int) * 16777216) ((b : Int) * 65536)) ((c : Int) * 256)) (d : Int) = ((16777216 * a + 65536 * b + 256 * c + d : Nat) : Int) := by
  rw [show (a : Int) * 16777216 = ((16777216 * a : Nat) : Int) by omega, show (b : Int) * 65536 = ((65536 * b : Nat) : Int) by omega, show (c : Int) * 256 = ((256 * c : Nat) : Int) by omega]
  have e1 := Nat.two_pow_add_eq_or_of_lt (i := 24) (b := 65536 * b) (by omega) a
  have e2 := Nat.two_pow_add_eq_or_of_lt (i := 16) (b := 256 * c) (by omega) (256 * a + b)
  have e3 := Nat.two_pow_add_eq_or_of_lt (i := 8) (b := d) (by omega) (65536 * a + 256 * b + c)
  rw [show (2 : Nat) ^ 24 = 16777216 by decide] at e1
  rw [show (2 : Nat) ^ 16 = 65536 by decide] at e2
  rw [show (2 : Nat) ^ 8 = 256 by decide] at e3
  rw [u32_or_nat _ _ (by omega) (by omega), ← e1, show 16777216 * a + 65536 * b = 65536 * (256 * a + b) by omega, u32_or_nat _ _ (by omega) (by omega), ← e2,
    show 65536 * (256 * a + b) + 256 * c = 256 * (65536 * a + 256 * b + c) by omega, u32_or_nat _ _ (by omega) (by omega), ← e3]

set_option maxRecDepth 1000000 in
set_option maxHeartbeats 3200000 in
theorem firstReal_any (v : Value) (l : List UInt8) (w : World) (hv : Bs w v l) :
    Calls Tryz.prog 94 #[v] w fun e w1 => ∃ x, e = .returned (.tuple #[x, .int .i64 ((realL l).2.1 : Nat), .int .i64 (realL l).2.2]) ∧ (fun y _ => y = .float .f32 (realL l).1) x w1 ∧ Keep [] w w1 := by
  by_cases h4 : l.length < 4
  · have hq : realL l = (0, 0, 20) := by unfold realL; rw [if_pos h4]
    rw [hq]
    obtain ⟨ao, cap, rfl, _⟩ := hv.ex
    have h4i : (l.length : Int) < 4 := by omega
    clear hq hv
    go_enter Tryz.func94, Tryz.ntmps94
    go_wp2
    refine bodyPost_ret (v := .tuple #[.float .f32 0, .int .i64 0, .int .i64 20]) (by simp [results, Tryz.results94, go_sem]) rfl ⟨_, rfl, rfl, Keep.refl _ _⟩
  · rcases hv.cases with ⟨hl, _⟩ | ⟨_, b, o, cap, rfl, h0, h1, h2, h3⟩
    · rw [hl] at h4; simp at h4
    have h4i : ¬ ((l.length : Int) < 4) := by omega
    have c0 := h3 0 (by omega)
    have c1 := h3 1 (by omega)
    have c2 := h3 2 (by omega)
    have c3 := h3 3 (by omega)
    rw [Nat.add_zero] at c0
    have hq : realL l = if keyB (be4 l) = true then (unkeyN (be4 l), 4, 0) else (0, 0, 21) := by unfold realL; rw [if_neg h4]
    have hbe : be4 l = 16777216 * (l.getD 0 0).toNat + 65536 * (l.getD 1 0).toNat + 256 * (l.getD 2 0).toNat + (l.getD 3 0).toNat := rfl
    have b0 : (l.getD 0 0).toNat < 256 := UInt8.toNat_lt _
    have b1 : (l.getD 1 0).toNat < 256 := UInt8.toNat_lt _
    have b2 : (l.getD 2 0).toNat < 256 := UInt8.toNat_lt _
    have b3 : (l.getD 3 0).toNat < 256 := UInt8.toNat_lt _
    have hor := or4 _ _ _ _ b0 b1 b2 b3
    generalize (l.getD 0 0).toNat = k0 at c0 hbe b0 hor
    generalize (l.getD 1 0).toNat = k1 at c1 hbe b1 hor
    generalize (l.getD 2 0).toNat = k2 at c2 hbe b2 hor
    generalize (l.getD 3 0).toNat = k3 at c3 hbe b3 hor
    rw [← hbe] at hor
    have hk : be4 l < 4294967296 := by omega
    have hF : ∀ n, Calls Tryz.prog 126 #[.int .u32 ((be4 l : Nat) : Int)] (w.drewN n) fun e w' => e = .returned (.tuple #[.float .f32 (unkeyN (be4 l)), .bool (keyB (be4 l))]) ∧ w' = w.drewN n := fun n => fromKey_any _ hk _
    have i0 : (0 : Int) < (l.length : Int) := by omega
    have i1 : (1 : Int) < (l.length : Int) := by omega
    have i2 : (2 : Int) < (l.length : Int) := by omega
    have i3 : (3 : Int) < (l.length : Int) := by omega
    generalize be4 l = B at hor hq hF
    clear hbe h3 hv hk
    cases hkb : keyB B
    · rw [hkb] at hq hF
      have HQ : Hid (realL l = (0, 0, 21)) := hq
      clear hq
      go_enter Tryz.func94, Tryz.ntmps94
      go_wp2
      go_quiet (first | (go_at_call 126; exact Calls.quiet_of_same (hF _)))
      go_wp2
      refine bodyPost_ret (v := .tuple #[.float .f32 0, .int .i64 0, .int .i64 21]) (by simp [results, Tryz.results94, go_sem]) rfl ⟨_, by rw [HQ.out]; rfl, by rw [HQ.out], (Keep.refl _ _).drewN _⟩
    · rw [hkb] at hq hF
      have HQ : Hid (realL l = (unkeyN B, 4, 0)) := hq
      clear hq
      go_enter Tryz.func94, Tryz.ntmps94
      go_wp2
      go_quiet (first | (go_at_call 126; exact Calls.quiet_of_same (hF _)))
      go_wp2
      refine bodyPost_ret (v := .tuple #[.float .f32 (unkeyN B), .int .i64 4, .int .i64 0]) (by simp [results, Tryz.results94, go_sem]) rfl ⟨_, by rw [HQ.out]; rfl, by rw [HQ.out], (Keep.refl _ _).drewN _⟩

theorem realL_size (l : List UInt8) : (realL l).2.1 ≤ l.length := by
  unfold realL
  split
  · simp
  · split
    · simp; omega
    · simp

end Go.Proofs.YtncbanpimfhhbaaGreatDoor


