/- The library's FormatFloat at the one number that is asked for. -/
import Derived.Test.YtnljpbpphdhnpaaGreatDoorShA
namespace Go.Proofs.YtnljpbpphdhnpaaGreatDoor
open Go.RowKit Go.PlainAid

set_option maxRecDepth 1000000 in
theorem run_sbits (x : Nat) (w : World) : (callFunc 133 #[.float .f32 x]).run Tryz.prog w = .ok (.value (.int .u32 (x : Int))) w :=
  (run_callFunc_extern (e := Extern.MathFloatBits.float32bits) Tryz.func133 (by kernel_rfl) (by kernel_rfl) (by kernel_rfl) (by kernel_rfl) _ w).trans rfl

def zeros32 : Array Value := #[.int .u8 0, .int .u8 0, .int .u8 0, .int .u8 0, .int .u8 0, .int .u8 0, .int .u8 0, .int .u8 0, .int .u8 0, .int .u8 0, .int .u8 0, .int .u8 0, .int .u8 0, .int .u8 0, .int .u8 0, .int .u8 0, .int .u8 0, .int .u8 0, .int .u8 0, .int .u8 0, .int .u8 0, .int .u8 0, .int .u8 0, .int .u8 0, .int .u8 0, .int .u8 0, .int .u8 0, .int .u8 0, .int .u8 0, .int .u8 0, .int .u8 0, .int .u8 0]
theorem zeros32_at (j : Nat) (h : j < 32) : zeros32[j]? = some (.int .u8 0) := by
  have e : zeros32 = Array.replicate 32 (.int .u8 0) := rfl
  rw [e, Array.getElem?_replicate, if_pos h]
theorem zeros_new (w : World) (t : TypeId) (j : Nat) (h : j < 32) : (w.alloc (.cells zeros32 t)).cell? ⟨w.heap.size, j, none⟩ = some (.int .u8 0) ∧ (w.alloc (.cells zeros32 t)).frozen? ⟨w.heap.size, j, none⟩ = false := by
  refine ⟨?_, ?_⟩
  · rw [World.cell?_alloc_new, zeros32_at j h]
  · simp [go_sem]

/-- the state behind shortFloat: the digits' block is empty, all that was is as it was -/
theorem after_short (w0 w w2 : World) (v : Value) (nq n : Nat) (hrow : Row w v []) (hk : Keep [] w0 w) (hf : Fresh w0 w v) (hU : w.cell? ⟨4, 7, none⟩ = some (.int .u64 10000000)) (e : w2 = (((w.drewN nq).alloc (.cells zeros32 160)).alloc preW).drewN n) :
    Row w2 v [] ∧ Keep [] w0 w2 ∧ Fresh w0 w2 v ∧ w2.cell? ⟨4, 7, none⟩ = some (.int .u64 10000000) ∧ (∀ j, j < 32 → w2.cell? ⟨w.heap.size, j, none⟩ = some (.int .u8 0) ∧ w2.frozen? ⟨w.heap.size, j, none⟩ = false) ∧ w.heap.size < w2.heap.size ∧ w.heap.size ∉ v.ownBlock.toList := by
  have hK : Keep [] w w2 := by
    rw [e]
    exact (((Keep.refl [] w).drewN nq).alloc _ |>.alloc _).drewN n
  have hs : w.heap.size < w2.heap.size := by
    rw [e]
    show w.heap.size < (((w.drewN nq).alloc (.cells zeros32 160)).alloc preW).heap.size
    simp [World.drewN]
    omega
  refine ⟨hrow.keep hK (Off.nil _), hk.more hK (fun _ h => by cases h), hf.later hK.size, hK.cell' hU (by simp), ?_, hs, ?_⟩
  · intro j hj
    have hz := zeros_new (w.drewN nq) 160 j hj
    have hK2 : Keep [] ((w.drewN nq).alloc (.cells zeros32 160)) w2 := by
      rw [e]; exact ((Keep.refl [] _).alloc _).drewN n
    have hlt : w.heap.size < ((w.drewN nq).alloc (.cells zeros32 160)).heap.size := by simp [World.drewN]
    exact ⟨(hK2.cell (p := ⟨w.heap.size, j, none⟩) hlt (by simp)).trans hz.1, (hK2.frozen (p := ⟨w.heap.size, j, none⟩) hlt (by simp)).trans hz.2⟩
  · intro hm
    simp at hm
    have := hrow.lt _ hm
    omega

def DP : List UInt8 := [49, 54, 55, 55, 55, 50, 49, 54, 0, 0, 0, 0, 0, 0, 0, 0, 0, 0, 0, 0, 0, 0, 0, 0, 0, 0, 0, 0, 0, 0, 0, 0]
theorem after_set (w0 w2 w3 : World) (v : Value) (b : Nat) (hrow : Row w2 v []) (hk : Keep [] w0 w2) (hf : Fresh w0 w2 v) (hlt : b < w2.heap.size) (hb0 : w0.heap.size ≤ b) (hoff : b ∉ v.ownBlock.toList) (h1 : Keep [b] w2 w3)
    (h2 : ∀ j, j < 8 → w3.cell? ⟨b, j, none⟩ = some (.int .u8 ((Lib.dg 16777216 (8 - 1 - j)).toNat : Int))) (h3 : ∀ j, 8 ≤ j → j < 32 → w3.cell? ⟨b, j, none⟩ = some (.int .u8 0)) : Fm w0 w3 v [] b 32 DP := by
  refine ⟨hrow.keep h1 (fun k hk hn => ?_), ⟨some ⟨b, 0, none⟩, 32, rfl, by decide, by decide, (by intro h; cases h), fun _ => ⟨b, 0, rfl, fun j hj => ?_⟩⟩, by decide, hoff, hk.more h1 (fun x hx => .inr ?_), hf.later h1.size⟩
  · simp at hn; subst hn; exact hoff (by simp [hk])
  · rw [Nat.zero_add]
    have hj' : j < 32 := hj
    by_cases h8 : j < 8
    · rw [h2 j h8]
      have : ∀ j, j < 8 → ((Lib.dg 16777216 (8 - 1 - j)).toNat : Int) = ((DP.getD j 0).toNat : Int) := by decide
      rw [this j h8]
    · rw [h3 j (by omega) hj']
      have : ∀ j, j < 32 → 8 ≤ j → (0 : Int) = ((DP.getD j 0).toNat : Int) := by decide
      rw [← this j hj' (by omega)]
  · simp at hx; subst hx; exact hb0

set_option maxRecDepth 1000000 in
set_option maxHeartbeats 2000000 in
theorem ftoa32_p (w0 w : World) (v : Value) (hT : Tabs w) (hU : w.cell? ⟨4, 7, none⟩ = some (.int .u64 10000000)) (hrow : Row w v []) (hk : Keep [] w0 w) (hf : Fresh w0 w v) :
    Calls Tryz.prog 108 #[v, .float .f32 1266679808, .int .u8 101, .int .i64 (-1)] w fun e w' => ∃ v', e = .returned v' ∧ Row w' v' [49, 46, 54, 55, 55, 55, 50, 49, 54, 101, 43, 48, 55] ∧ Keep [] w0 w' := by
  have hb := run_sbits 1266679808
  have e : ((1266679808 : Nat) : Int) = 1266679808 := rfl
  rw [e] at hb; clear e
  have e1 : bits .and .i64 151 255 = 151 := by decide
  have e2 : bits .and .u64 1266679808 8388607 = 0 := by decide
  have e3 : bits .or .u64 0 8388608 = 8388608 := by decide
  have hL := len64_at 8388608 (by decide) (by decide) 24 (by decide)
  have HR : Hid (Row w v [] ∧ Keep [] w0 w ∧ Fresh w0 w v) := ⟨hrow, hk, hf⟩
  have HT : Hid (Tabs w ∧ w.cell? ⟨4, 7, none⟩ = some (.int .u64 10000000)) := ⟨hT, hU⟩
  clear hrow hk hf hT hU
  go_enter Tryz.func108, Tryz.ntmps108
  go_wp2
  go_quiet (fail)
  go_wp2_with (first
    | (go_at_call 129; refine (hL _).mono ?_; rintro e9 w9 ⟨rfl, hw9⟩; obtain rfl := hw9.symm)
    | (go_at_call 138; refine (short_p _ (cell_alloc (X := .cells zeros32 160) (W := w.drewN nq) HT.out.1.hi) (cell_alloc (X := .cells zeros32 160) (W := w.drewN nq) HT.out.1.lo)).mono ?_; rintro e9 w2 ⟨rfl, n9, hw2⟩; have HW : Hid _ := after_short w0 w w2 v nq n9 HR.out.1 HR.out.2.1 HR.out.2.2 HT.out.2 hw2; clear hw2))
  go_region_held3 (fun _ => True) (exact trivial)
    (first
    | (go_at_call 105; refine (numDigits_p w2.drew HW.out.2.2.2.1).mono ?_; rintro e9 w9 ⟨rfl, hw9⟩; obtain rfl := hw9.symm)
    | (go_at_call 139; refine (setDigits_any w.heap.size 8 16777216 0 w2.drew (by decide) (by decide) (by decide) (by decide) (by decide) (by decide) (by decide) HW.out.2.2.2.2.1).mono ?_; rintro e9 w3 ⟨rfl, g1, g2, g3⟩; have HX : Hid _ := after_set w0 w2 w3 v w.heap.size HW.out.1 HW.out.2.1 HW.out.2.2.1 HW.out.2.2.2.2.2.1 HR.out.2.1.size HW.out.2.2.2.2.2.2 ⟨g1.os, g1.tape, g1.output, g1.size, g1.block⟩ g2 g3; clear g1 g2 g3))
  go_wp2_with (first
    | (go_at_call 137; refine (fmtE_any w0 _ v [] w.heap.size 32 DP 8 8 HX.out (by decide) (by decide) (by decide) (by decide) (by decide) (by decide) (by decide)).mono ?_; rintro e9 w4 ⟨v4, rfl, hF4⟩; have HY : Hid _ := hF4; clear hF4))
  go_ret
  exact ⟨_, rfl, HY.out.row, HY.out.keep⟩
end Go.Proofs.YtnljpbpphdhnpaaGreatDoor


