/- Conditions: what kindFault asks of each part (its closure). -/
import Derived.Test.YtplbclokoffgkaaGreatDoorCdW
namespace Go.Proofs.YtplbclokoffgkaaGreatDoor
open Go.RowKit Go.PlainAid

/-- the partKind of the part at i, whatever lies elsewhere -/
def PkAt (w : World) (nm : ByteArray) (vp vx : Value) (x : Pt) (a b R E : Int) : Prop := ∀ w1, Keep [] w w1 → Calls Tryz.prog 20 #[.agg #[.string nm, vp, vx], .agg #[.int .i64 x.kind, .string x.nm, .int .i64 x.vk, .bool false, .int .i64 x.vi, .float .f32 0, .string ⟨#[]⟩, .slice none 0 0], .agg #[.int .i64 a, .int .i64 b]] w1 fun e w' => e = .returned (.tuple #[.int .i64 R, .int .i64 E]) ∧ Keep [] w1 w'

set_option maxRecDepth 1000000 in
set_option maxHeartbeats 3200000 in
theorem kinds_one (nm : ByteArray) (vp vx : Value) (xs : List Pt) (i C B A : Nat) (a b R E : Int) (w : World) (hx : Pp w vx xs) (hi : i < xs.length)
    (c0 : w.cell? ⟨C, 0, none⟩ = some (.string nm)) (c1 : w.cell? ⟨C, 1, none⟩ = some vp) (c2 : w.cell? ⟨C, 2, none⟩ = some vx)
    (hP : PkAt w nm vp vx xs[i] a b R E) (e0 e1 : Int) (d0 : w.cell? ⟨B, 0, none⟩ = some (.int .i64 e0)) (d1 : w.cell? ⟨A, 0, none⟩ = some (.int .i64 e1)) (f0 : w.frozen? ⟨B, 0, none⟩ = false) (f1 : w.frozen? ⟨A, 0, none⟩ = false) (hAB : A ≠ B) :
    Calls Tryz.prog 19 #[.int .i64 (i : Int), .agg #[.int .i64 a, .int .i64 b], .pointer (some ⟨C, 0, none⟩), .pointer (some ⟨B, 0, none⟩), .pointer (some ⟨A, 0, none⟩)] w fun e w' => e = .returned (.int .i64 R) ∧ Keep [B, A] w w' ∧
      w'.cell? ⟨B, 0, none⟩ = some (.int .i64 (if E = 0 then e0 else E)) ∧ w'.cell? ⟨A, 0, none⟩ = some (.int .i64 (if E = 0 then e1 else (i : Int))) ∧ w'.frozen? ⟨B, 0, none⟩ = false ∧ w'.frozen? ⟨A, 0, none⟩ = false := by
  obtain ⟨g, o, ca, rfl, y0, y1, y2, y3, y4, y5, y6, y7⟩ := hx.at i hi
  have hil : (i : Int) < (xs.length : Int) := by omega
  generalize xs[i] = x at y0 y1 y2 y4 hP
  obtain ⟨xk, xn, xv, xi⟩ := x
  simp only at y0 y1 y2 y4
  have HD : Hid (w.cell? ⟨B, 0, none⟩ = some (.int .i64 e0) ∧ w.cell? ⟨A, 0, none⟩ = some (.int .i64 e1) ∧ w.frozen? ⟨B, 0, none⟩ = false ∧ w.frozen? ⟨A, 0, none⟩ = false) := ⟨d0, d1, f0, f1⟩
  have HP : Hid _ := hP ((w.alloc (.cells #[.int .i64 a, .int .i64 b] 69)).drew) (Keep.alloc1 _ _).drew
  have q0 := (Keep.alloc1 w (.cells #[.int .i64 a, .int .i64 b] 69)).cell' y0 (by simp)
  have q1 := (Keep.alloc1 w (.cells #[.int .i64 a, .int .i64 b] 69)).cell' y1 (by simp)
  have q2 := (Keep.alloc1 w (.cells #[.int .i64 a, .int .i64 b] 69)).cell' y2 (by simp)
  have q3 := (Keep.alloc1 w (.cells #[.int .i64 a, .int .i64 b] 69)).cell' y3 (by simp)
  have q4 := (Keep.alloc1 w (.cells #[.int .i64 a, .int .i64 b] 69)).cell' y4 (by simp)
  have q5 := (Keep.alloc1 w (.cells #[.int .i64 a, .int .i64 b] 69)).cell' y5 (by simp)
  have q6 := (Keep.alloc1 w (.cells #[.int .i64 a, .int .i64 b] 69)).cell' y6 (by simp)
  have q7 := (Keep.alloc1 w (.cells #[.int .i64 a, .int .i64 b] 69)).cell' y7 (by simp)
  have r0 := (Keep.alloc1 w (.cells #[.int .i64 a, .int .i64 b] 69)).cell' c0 (by simp)
  have r1 := (Keep.alloc1 w (.cells #[.int .i64 a, .int .i64 b] 69)).cell' c1 (by simp)
  have r2 := (Keep.alloc1 w (.cells #[.int .i64 a, .int .i64 b] 69)).cell' c2 (by simp)
  have s0 : (w.alloc (.cells #[.int .i64 a, .int .i64 b] 69)).cell? ⟨w.heap.size, 0, none⟩ = some (.int .i64 a) := by go_simp
  have s1 : (w.alloc (.cells #[.int .i64 a, .int .i64 b] 69)).cell? ⟨w.heap.size, 1, none⟩ = some (.int .i64 b) := by go_simp
  clear hP hx y0 y1 y2 y3 y4 y5 y6 y7 c0 c1 c2 d0 d1 f0 f1
  go_enter Tryz.func19, Tryz.ntmps19
  go_wp2_with fail
  generalize hW : w.alloc (.cells #[.int .i64 a, .int .i64 b] 69) = W at *
  have HW : Hid (Keep [] w W) := by show Keep [] w W; rw [← hW]; exact Keep.alloc1 _ _
  clear hW
  go_region_with (first | (go_at_call 20; refine Calls.mono HP.out ?_; rintro e9 w9 ⟨rfl, k9⟩))
  all_goals
    have K9 : Keep [] w w9 := (HW.out.drew).trans' k9
    have t0 := K9.cell' HD.out.1 (by simp)
    have t1 := K9.cell' HD.out.2.1 (by simp)
    have g0 := (K9.frozen (block_lt_of_cell HD.out.1) (by simp)).trans HD.out.2.2.1
    have g1 := (K9.frozen (block_lt_of_cell HD.out.2.1) (by simp)).trans HD.out.2.2.2
    have HK : Hid (Keep [] w w9) := K9
    clear K9 k9 HP q0 q1 q2 q3 q4 q5 q6 q7 r0 r1 r2 s0 s1 HD
    by_cases hE : E = 0
    · subst hE
      go_wp2
      go_ret
      exact ⟨rfl, HK.out.mono (by simp), t0, t1, g0, g1⟩
    · have hEb : (E != 0) = true := by simpa using hE
      have HE : Hid (E ≠ 0) := hE
      clear hE
      go_wp2
      go_ret
      refine ⟨rfl, ((HK.out.mono (by simp)).setCell (.inl (by simp)) _).setCell (.inl (by simp)) _, ?_, ?_, ?_, ?_⟩
      · try rw [if_neg HE.out]
        have h1 : (w9.setCell ⟨B, 0, none⟩ (.int .i64 E)).cell? ⟨B, 0, none⟩ = some (.int .i64 E) := by simp [go_sem, t0]
        rw [← h1]
        exact World.cell?_of_block ((Keep.set1 (w9.setCell ⟨B, 0, none⟩ (.int .i64 E)) ⟨A, 0, none⟩ (.int .i64 (i : Int))).block B (by have := block_lt_of_cell t0; simpa [World.setCell] using this) (by simpa using fun e => hAB e.symm))
      · try rw [if_neg HE.out]
        have h2 : (w9.setCell ⟨B, 0, none⟩ (.int .i64 E)).cell? ⟨A, 0, none⟩ = some (.int .i64 e1) := (Keep.set1 w9 ⟨B, 0, none⟩ (.int .i64 E)).cell' t1 (by simpa using hAB)
        simp [go_sem, h2]
      · simp [go_sem, g0]
      · simp [go_sem, g1]
end Go.Proofs.YtplbclokoffgkaaGreatDoor
