/- Conditions: the kind of a part. -/
import Derived.Test.YtplbclokoffgkaaGreatDoorCdU
namespace Go.Proofs.YtplbclokoffgkaaGreatDoor
open Go.RowKit Go.PlainAid

def hasZ (n : Nat) (x y : Int) : Bool := (decide (1 ≤ n) && decide (x = 0)) || (decide (2 ≤ n) && decide (y = 0))
theorem contains_two (x y : Int) (g n : Nat) (w : World) (hn : n ≤ 2) (h0 : w.cell? ⟨g, 0, none⟩ = some (.int .i64 x)) (h1 : w.cell? ⟨g, 1, none⟩ = some (.int .i64 y)) :
    Calls Tryz.prog 39 #[.slice (some ⟨g, 0, none⟩) n 2, .int .i64 0] w fun e w' => e = .returned (.bool (hasZ n x y)) ∧ w' = w := by
  obtain ⟨k, hk⟩ : ∃ k : Int, k = if 1 ≤ n ∧ x = 0 then 0 else if 2 ≤ n ∧ y = 0 then 1 else -1 := ⟨_, rfl⟩
  have hI := index_two 0 x y k g n w hn h0 h1 rfl hk
  have he : hasZ n x y = decide (0 ≤ k) := by
    unfold hasZ
    rw [hk]
    by_cases h2 : 1 ≤ n ∧ x = 0
    · rw [if_pos h2]; simp [h2.1, h2.2]
    · rw [if_neg h2]
      by_cases h3 : 2 ≤ n ∧ y = 0
      · rw [if_pos h3]; simp [h3.1, h3.2]
      · rw [if_neg h3]
        simp only [show decide ((0 : Int) ≤ -1) = false from rfl, Bool.or_eq_false_iff, Bool.and_eq_false_iff, decide_eq_false_iff_not]
        omega
  rw [he]
  clear hk he h0 h1
  by_cases hp : 0 ≤ k
  · rw [decide_eq_true hp]
    go_enter Tryz.func39, Tryz.ntmps39
    go_wp2_with fail
    refine hI.mono ?_
    rintro e9 w9 ⟨rfl, hw9⟩
    obtain rfl := hw9.symm
    clear hw9
    go_wp2
    go_ret
    exact ⟨rfl, rfl⟩
  · rw [decide_eq_false hp]
    go_enter Tryz.func39, Tryz.ntmps39
    go_wp2_with fail
    refine hI.mono ?_
    rintro e9 w9 ⟨rfl, hw9⟩
    obtain rfl := hw9.symm
    clear hw9
    go_wp2
    go_ret
    exact ⟨by simp [hp], rfl⟩

def errK (k e : Int) : Int := if k = 0 then e else 0
/-- the kind of a part that is made of the kinds a and b, and the error -/
def pk (ps : List PD) (x : Pt) (a b : Int) : Int × Int :=
  if x.kind = 1 then (x.vk, errK x.vk 70) else if x.kind = 2 then (pKind ps x.nm, errK (pKind ps x.nm) 71)
  else if hasZ (madeN x.kind).toNat a b = true then (0, 0) else (resK x.kind a b, errK (resK x.kind a b) 70)

set_option maxRecDepth 1000000 in
set_option maxHeartbeats 3200000 in
theorem partKind_leaf (nm : ByteArray) (ps : List PD) (vp vx : Value) (x : Pt) (a b R E : Int) (w : World) (hp : Pm w vp ps) (hx : (x.kind = 1 ∧ R = x.vk ∧ E = errK x.vk 70) ∨ (x.kind = 2 ∧ R = pKind ps x.nm ∧ E = errK (pKind ps x.nm) 71)) :
    Calls Tryz.prog 20 #[.agg #[.string nm, vp, vx], x.val, .agg #[.int .i64 a, .int .i64 b]] w fun e w' => e = .returned (.tuple #[.int .i64 R, .int .i64 E]) ∧ Keep [] w w' := by
  have HK : Hid (Keep [] w (((w.alloc (.cells #[.string nm, vp, vx] 25)).alloc (.cells x.cells 36)).alloc (.cells #[.int .i64 a, .int .i64 b] 69))) := ((Keep.alloc1 _ _).alloc _).alloc _
  have hPK := paramKind_any vp ps x.nm (((w.alloc (.cells #[.string nm, vp, vx] 25)).alloc (.cells x.cells 36)).alloc (.cells #[.int .i64 a, .int .i64 b] 69)) (hp.keep0 HK.out)
  obtain ⟨k, s, vk, vi⟩ := x
  simp only at hx hPK HK ⊢
  clear hp
  rcases hx with ⟨rfl, hR, hE⟩ | ⟨rfl, hR, hE⟩
  · clear hPK
    subst hR
    by_cases hz : R = 0
    · subst hz
      have : E = 70 := hE
      subst this
      clear hE
      go_enter Tryz.func20, Tryz.ntmps20
      go_wp2
      refine bodyPost_ret (v := .tuple #[.int .i64 (0), .int .i64 (70)]) (by simp [results, Tryz.results20, go_sem]) rfl ⟨rfl, HK.out⟩
    · have hzb : (R == 0) = false := by simpa using hz
      have : E = 0 := by rw [hE]; exact if_neg hz
      subst this
      clear hE hz
      go_enter Tryz.func20, Tryz.ntmps20
      go_wp2
      refine bodyPost_ret (v := .tuple #[.int .i64 (R), .int .i64 (0)]) (by simp [results, Tryz.results20, go_sem]) rfl ⟨rfl, HK.out⟩
  · rw [← hR] at hPK hE
    clear hR
    by_cases hz : R = 0
    · subst hz
      have : E = 71 := hE
      subst this
      clear hE
      go_enter Tryz.func20, Tryz.ntmps20
      go_wp2_with fail
      refine hPK.mono ?_
      rintro e9 w9 ⟨rfl, k9⟩
      have HK9 : Hid (Keep [] w w9) := HK.out.trans' k9
      clear k9
      go_wp2
      refine bodyPost_ret (v := .tuple #[.int .i64 (0), .int .i64 (71)]) (by simp [results, Tryz.results20, go_sem]) rfl ⟨rfl, HK9.out⟩
    · have hzb : (R == 0) = false := by simpa using hz
      have : E = 0 := by rw [hE]; exact if_neg hz
      subst this
      clear hE hz
      go_enter Tryz.func20, Tryz.ntmps20
      go_wp2_with fail
      refine hPK.mono ?_
      rintro e9 w9 ⟨rfl, k9⟩
      have HK9 : Hid (Keep [] w w9) := HK.out.trans' k9
      clear k9
      go_wp2
      refine bodyPost_ret (v := .tuple #[.int .i64 (R), .int .i64 (0)]) (by simp [results, Tryz.results20, go_sem]) rfl ⟨rfl, HK9.out⟩
end Go.Proofs.YtplbclokoffgkaaGreatDoor
