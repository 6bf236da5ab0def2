/- Comparing objects and subjects: the program's and the document's. -/
import Derived.Test.YtbflhpafejmelaaLgE
namespace Go.Proofs.Ytbflhpafejmelaa
open Go.RowKit Go.PlainAid

def cmpO (t i t' i' : List UInt8) : Int := if (cmpT t t' != 0) = true then cmpT t t' else cmpT i i'
def cmpS (t i r t' i' r' : List UInt8) : Int := if (cmpO t i t' i' != 0) = true then cmpO t i t' i' else cmpT r r'

set_option maxHeartbeats 400000 in
theorem cmpObj_any (t i t' i' : ByteArray) (w : World) :
    Calls Try.prog 19 #[.agg #[.string t, .string i], .agg #[.string t', .string i']] w fun e w' => e = .returned (.int .i64 (cmpO t.toList i.toList t'.toList i'.toList)) ∧ Keep [] w w' := by
  cases h : (cmpT t.toList t'.toList != 0)
  all_goals
    go_enter Try.func19, Try.ntmps19
    go_wp2_with (go_at_call 20; refine (strCmp_any _ _ _).mono ?_; rintro e w9 ⟨rfl, hw⟩; obtain rfl := hw.symm)
    go_ret
    exact ⟨ret_int (by unfold cmpO; rw [h]; rfl), (Keep.alloc1 w _).alloc _⟩

theorem two3 {w w' : World} {a0 a1 a2 z0 z1 z2 : Value} (k : Keep [] ((w.alloc (.cells #[a0, a1, a2] 25)).alloc (.cells #[z0, z1, z2] 25)) w') :
    (w'.cell? ⟨w.heap.size, 0, none⟩ = some a0 ∧ w'.cell? ⟨w.heap.size, 1, none⟩ = some a1 ∧ w'.cell? ⟨w.heap.size, 2, none⟩ = some a2) ∧ (w'.cell? ⟨w.heap.size + 1, 0, none⟩ = some z0 ∧ w'.cell? ⟨w.heap.size + 1, 1, none⟩ = some z1 ∧ w'.cell? ⟨w.heap.size + 1, 2, none⟩ = some z2) := by
  refine ⟨⟨k.cell' ?_ (by simp), k.cell' ?_ (by simp), k.cell' ?_ (by simp)⟩, ⟨k.cell' ?_ (by simp), k.cell' ?_ (by simp), k.cell' ?_ (by simp)⟩⟩ <;> simp [go_sem]

set_option maxHeartbeats 400000 in
theorem cmpSub_any (t i r t' i' r' : ByteArray) (w : World) :
    Calls Try.prog 21 #[.agg #[.string t, .string i, .string r], .agg #[.string t', .string i', .string r']] w fun e w' => e = .returned (.int .i64 (cmpS t.toList i.toList r.toList t'.toList i'.toList r'.toList)) ∧ Keep [] w w' := by
  cases h : (cmpO t.toList i.toList t'.toList i'.toList != 0)
  all_goals
    go_enter Try.func21, Try.ntmps21
    go_wp2_with (first | (go_at_call 19; refine (cmpObj_any _ _ _ _ _).mono ?_; rintro e w1 ⟨rfl, k1⟩; obtain ⟨⟨c0, c1, c2⟩, ⟨d0, d1, d2⟩⟩ := two3 k1) | (go_at_call 20; refine (strCmp_any _ _ _).mono ?_; rintro e w9 ⟨rfl, hw⟩; obtain rfl := hw.symm))
    go_ret
    exact ⟨ret_int (by unfold cmpS; rw [h]; rfl), ((Keep.alloc1 w _).alloc _).trans' k1⟩

set_option maxHeartbeats 400000 in
theorem refObj_any (t i t' i' : ByteArray) (w : World) (_s1 : t.size ≤ 9223372036854775807) (_s2 : i.size ≤ 9223372036854775807) :
    Calls Try.prog 23 #[.agg #[.string t, .string i], .agg #[.string t', .string i']] w fun e w' => e = .returned (.int .i64 (cmpO t.toList i.toList t'.toList i'.toList)) ∧ Keep [] w w' := by
  cases h : (cmpT t.toList t'.toList == 0)
  all_goals
    go_enter Try.func23, Try.ntmps23
    go_wp2_with (go_at_call 24; refine (rTexts_any _ _ _ ?_).mono ?_; (focus assumption); rintro e w9 ⟨rfl, n, rfl⟩)
    go_ret
    exact ⟨ret_int (by unfold cmpO; rw [bne, h]; rfl), ((Keep.alloc1 w _).alloc _).drewN _⟩

theorem cmpS_a {t i r t' i' r' : List UInt8} (h : (cmpT t t' == 0) = false) : cmpS t i r t' i' r' = cmpT t t' := by
  have h1 : cmpT t t' ≠ 0 := by simpa using h
  simp [cmpS, cmpO, h1]
theorem cmpS_b {t i r t' i' r' : List UInt8} (h : (cmpT t t' == 0) = true) (h2 : (cmpT i i' == 0) = false) : cmpS t i r t' i' r' = cmpT i i' := by
  have h1 : cmpT t t' = 0 := by simpa using h
  have h3 : cmpT i i' ≠ 0 := by simpa using h2
  simp [cmpS, cmpO, h1, h3]
theorem cmpS_c {t i r t' i' r' : List UInt8} (h : (cmpT t t' == 0) = true) (h2 : (cmpT i i' == 0) = true) : cmpS t i r t' i' r' = cmpT r r' := by
  have h1 : cmpT t t' = 0 := by simpa using h
  have h3 : cmpT i i' = 0 := by simpa using h2
  simp [cmpS, cmpO, h1, h3]

set_option maxHeartbeats 400000 in
theorem refSub_any (t i r t' i' r' : ByteArray) (w : World) (_s1 : t.size ≤ 9223372036854775807) (_s2 : i.size ≤ 9223372036854775807) (_s3 : r.size ≤ 9223372036854775807) :
    Calls Try.prog 25 #[.agg #[.string t, .string i, .string r], .agg #[.string t', .string i', .string r']] w fun e w' => e = .returned (.int .i64 (cmpS t.toList i.toList r.toList t'.toList i'.toList r'.toList)) ∧ Keep [] w w' := by
  cases h : (cmpT t.toList t'.toList == 0)
  · go_enter Try.func25, Try.ntmps25
    go_wp2_with (go_at_call 24; refine (rTexts_any _ _ _ ?_).mono ?_; (focus assumption); rintro e w9 ⟨rfl, n, rfl⟩)
    go_ret
    exact ⟨ret_int (cmpS_a h).symm, ((Keep.alloc1 w _).alloc _).drewN _⟩
  cases h2 : (cmpT i.toList i'.toList == 0)
  all_goals
    go_enter Try.func25, Try.ntmps25
    go_wp2_with (go_at_call 24; refine (rTexts_any _ _ _ ?_).mono ?_; (focus assumption); rintro e w9 ⟨rfl, n, rfl⟩)
    go_ret
    exact ⟨ret_int (by first | exact (cmpS_b h h2).symm | exact (cmpS_c h h2).symm), ((Keep.alloc1 w _).alloc _).drewN _⟩

end Go.Proofs.Ytbflhpafejmelaa
