/- For every two objects and every two subjects the statement IdentCompares answers true: both orders are those of the document's answer. -/
import Derived.Test.YtkkbnbcjkjbepabCompP
import Derived.ProofKit
import Derived.OpenShut
import Derived.ShutString
import Derived.ChangeOld
import Derived.SizedLaws
import Derived.Lib.SmallJoins
namespace Go.Proofs.Ytkkbnbcjkjbepab
namespace identComparesDone
open Go.ChangeShapes Go.WideShapes Go.ChangeAt Go.RowKit Go.Joins
open Go.ChangeMaps (open_string shut_string)

theorem own : ownKnob Try.prog.godebug = none := by kernel_rfl
theorem cellsO : Try.prog.cellsOf 23 = 2 := by kernel_rfl
theorem cellsU : Try.prog.cellsOf 25 = 3 := by kernel_rfl

set_option maxRecDepth 100000 in
theorem lifted (os : Os) (started : os.Started) (H : Type) (enc : TypeId × Value → H) :
    ReturnsInHanded {} Try.checked os 3 .any (Rows.identComparesSpec.pre6 enc Try.prog Try.f3 Rows.identComparesRow.domain false) (Rows.identComparesSpec.post enc Try.prog Try.f3 false true false false) := by
  refine returnsInHanded_of_change (C := Try.checked) own started (by kernel_rfl) Try.func3
    (ChangeSpec.witness6 (enc := enc) (C := Try.checked) false ⟨#[], #[.agg #[.string ByteArray.empty, .string ByteArray.empty], .agg #[.string ByteArray.empty, .string ByteArray.empty], .agg #[.string ByteArray.empty, .string ByteArray.empty, .string ByteArray.empty], .agg #[.string ByteArray.empty, .string ByteArray.empty, .string ByteArray.empty]], []⟩ 8 (by kernel_rfl) (by kernel_rfl) (by kernel_rfl) (by kernel_rfl)) ?_
  intro W base args ds gs before hval0 hW _ _
  have hval : ∀ (j : Nat) t v, Try.f3.params[j]? = some t → args[j]? = some v → Value.okWide Try.prog W .any base t v := hval0
  have hW' := hW
  obtain ⟨p, q, hA0, hV, rfl, hfz, hnd⟩ := hW
  have hA : DataW.TrodAll enc Try.prog W 0 (fun _ => true) true Try.f3.params.toList args.toList ds p := hA0
  rw [Try.params3] at hA hval
  obtain ⟨v0, vs0, d0, ds0, p0, q0, hargs, rfl, rfl, h0, r0⟩ := trodAll_cons hA
  obtain ⟨v1, vs1, d1, ds1, p1, q1, rfl, rfl, rfl, h1, r1⟩ := trodAll_cons r0
  obtain ⟨v2, vs2, d2, ds2, p2, q2, rfl, rfl, rfl, h2, r2⟩ := trodAll_cons r1
  obtain ⟨v3, vs3, d3, ds3, p3, q3, rfl, rfl, rfl, h3, r3⟩ := trodAll_cons r2
  obtain ⟨rfl, rfl, rfl⟩ := trodAll_nil r3
  obtain rfl : args = #[v0, v1, v2, v3] := by cases args; simp_all
  obtain ⟨rfl, rfl⟩ := trodVars_none hV
  obtain ⟨c00, c01, y00, y01, m0, rfl, rfl, rfl, hy00, hy01⟩ := open_agg2 Try.underlying23 (by kernel_rfl) cellsO (hval 0 23 v0 rfl rfl) h0
  obtain ⟨a00, e00, rfl, w00⟩ := DataW.trod_string Try.underlying9 hy00
  obtain ⟨a01, e01, rfl, w01⟩ := DataW.trod_string Try.underlying9 hy01
  simp at e00 e01
  subst e00 e01
  obtain ⟨c10, c11, y10, y11, m1, rfl, rfl, rfl, hy10, hy11⟩ := open_agg2 Try.underlying23 (by kernel_rfl) cellsO (hval 1 23 v1 rfl rfl) h1
  obtain ⟨a10, e10, rfl, w10⟩ := DataW.trod_string Try.underlying9 hy10
  obtain ⟨a11, e11, rfl, w11⟩ := DataW.trod_string Try.underlying9 hy11
  simp at e10 e11
  subst e10 e11
  obtain ⟨c20, c21, c22, y20, y21, y22, m2, rfl, rfl, rfl, hy20, hy21, hy22⟩ := open_agg3 Try.underlying25 (by kernel_rfl) cellsU (hval 2 25 v2 rfl rfl) h2
  obtain ⟨a20, e20, rfl, w20⟩ := DataW.trod_string Try.underlying9 hy20
  obtain ⟨a21, e21, rfl, w21⟩ := DataW.trod_string Try.underlying9 hy21
  obtain ⟨a22, e22, rfl, w22⟩ := DataW.trod_string Try.underlying9 hy22
  simp at e20 e21 e22
  subst e20 e21 e22
  obtain ⟨c30, c31, c32, y30, y31, y32, m3, rfl, rfl, rfl, hy30, hy31, hy32⟩ := open_agg3 Try.underlying25 (by kernel_rfl) cellsU (hval 3 25 v3 rfl rfl) h3
  obtain ⟨a30, e30, rfl, w30⟩ := DataW.trod_string Try.underlying9 hy30
  obtain ⟨a31, e31, rfl, w31⟩ := DataW.trod_string Try.underlying9 hy31
  obtain ⟨a32, e32, rfl, w32⟩ := DataW.trod_string Try.underlying9 hy32
  simp at e30 e31 e32
  subst e30 e31 e32
  clear hA0 hval0
  simp only [List.append_nil] at hW'
  refine (compares_any a00 a01 a10 a11 a20 a21 a22 a30 a31 a32 W w00 w01 w20 w21 w22).mono fun e W' ⟨he, bel⟩ => ?_
  subst he
  exact ⟨_, rfl, _, _, _, [], [], [], hW', trodAll_mk1 (shut_bool Try.underlying4 _), (trodAll_cons_mk (shut_agg2 (y0 := (.lit (.string a00.data.toList), [])) (y1 := (.lit (.string a01.data.toList), [])) Try.underlying23 (by kernel_rfl) cellsO ⟨1, by simp [DataW.trod, Try.underlying9, w00]⟩ ⟨1, by simp [DataW.trod, Try.underlying9, w01]⟩) (trodAll_cons_mk (shut_agg2 (y0 := (.lit (.string a10.data.toList), [])) (y1 := (.lit (.string a11.data.toList), [])) Try.underlying23 (by kernel_rfl) cellsO ⟨1, by simp [DataW.trod, Try.underlying9, w10]⟩ ⟨1, by simp [DataW.trod, Try.underlying9, w11]⟩) (trodAll_cons_mk (shut_agg3 (y0 := (.lit (.string a20.data.toList), [])) (y1 := (.lit (.string a21.data.toList), [])) (y2 := (.lit (.string a22.data.toList), [])) Try.underlying25 (by kernel_rfl) cellsU ⟨1, by simp [DataW.trod, Try.underlying9, w20]⟩ ⟨1, by simp [DataW.trod, Try.underlying9, w21]⟩ ⟨1, by simp [DataW.trod, Try.underlying9, w22]⟩) (trodAll_cons_mk (shut_agg3 (y0 := (.lit (.string a30.data.toList), [])) (y1 := (.lit (.string a31.data.toList), [])) (y2 := (.lit (.string a32.data.toList), [])) Try.underlying25 (by kernel_rfl) cellsU ⟨1, by simp [DataW.trod, Try.underlying9, w30]⟩ ⟨1, by simp [DataW.trod, Try.underlying9, w31]⟩ ⟨1, by simp [DataW.trod, Try.underlying9, w32]⟩) trodAll_mk0)))), rfl, bel.frame _, fun h => by cases h⟩

end identComparesDone

theorem identCompares_proved : Rows.IdentComparesSaid :=
  OpenClaim.holds_of_wide 3 Try.f3 rfl rfl rfl rfl rfl rfl rfl ⟨rfl, rfl, rfl, rfl, rfl⟩ rfl rfl rfl rfl rfl (by kernel_rfl) Try.func3 (by kernel_rfl)
    (of_decide_eq_true (by kernel_rfl)) (by unfold Func.isWrapper; first | (rw [if_pos (by decide +kernel)]; kernel_rfl) | (rw [if_neg (by decide +kernel)]; exact ⟨rfl, rfl⟩))
    (fun os started H enc _ => identComparesDone.lifted os started H enc)
#print axioms identCompares_proved
end Go.Proofs.Ytkkbnbcjkjbepab
