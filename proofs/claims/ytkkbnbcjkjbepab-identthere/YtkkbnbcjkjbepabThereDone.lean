/- For every object, every subject and every text the statement IdentThere answers true: what has a text is read of it again, and what is read of a text has that text, objects and subjects alike; a subject has a text just if its Kind is one. -/
import Derived.Test.YtkkbnbcjkjbepabThereA
import Derived.Test.YtkkbnbcjkjbepabThereB
import Derived.ProofKit
import Derived.OpenShut
import Derived.ShutString
import Derived.ChangeOld
import Derived.SizedLaws
import Derived.Lib.SmallJoins
namespace Go.Proofs.Ytkkbnbcjkjbepab
namespace identThereDone
open Go.ChangeShapes Go.WideShapes Go.ChangeAt Go.RowKit Go.Joins
open Go.ChangeMaps (open_string shut_string)

theorem kx_of {s : ByteArray} (hS : subE s.toList = 0) (hE : ¬ objE s.toList = 0) : (kindL (ba (subT s.toList)).toList (ba (subI s.toList)).toList (ba (subR s.toList)).toList == 1) = false := by
  rw [ba_toList, ba_toList, ba_toList, (sub_back hS).2.2]
  simpa using hE
theorem kind_fault {u j r : List UInt8} (h : faultL u j r = 0) : (kindL u j r != 0) = true := by
  unfold kindL
  rw [h]
  simp only [bne_self_eq_false, Bool.false_eq_true, if_false]
  split
  · rfl
  · split <;> rfl
theorem kind_none {u j r : List UInt8} (h : ¬ faultL u j r = 0) : kindL u j r = 0 := by
  unfold kindL
  rw [if_pos (by simpa using h)]
theorem obj_err {t i : List UInt8} (h : objErrL t i = 0) : nameL t = true ∧ idL i = true := by
  unfold objErrL at h
  cases a : nameL t
  · rw [a] at h; simp at h
  cases b : idL i
  · rw [a, b] at h; simp at h
  exact ⟨rfl, rfl⟩

theorem there_any (t i u j r s : ByteArray) (w : World) (hs : s.size ≤ maxLen) :
    Calls Try.prog 4 #[.agg #[.string t, .string i], .agg #[.string u, .string j, .string r], .string s] w fun e w' => e = .returned (.bool true) ∧ Below w.heap.size w w' := by
  by_cases he : objErrL t.toList i.toList = 0
  · obtain ⟨hn, hi⟩ := obj_err he
    by_cases hf : faultL u.toList j.toList r.toList = 0
    · have hk := kind_fault hf
      by_cases hE : objE s.toList = 0
      · exact there_yyo t i u j r s w hn hi _ rfl hf hk hs (ba (objT s.toList)) (ba (objI s.toList)) (ba_toList _).symm (ba_toList _).symm hE
      · by_cases hS : subE s.toList = 0
        · exact there_yys t i u j r s w hn hi _ rfl hf hk hs (ba (subT s.toList)) (ba (subI s.toList)) (ba (subR s.toList)) _ rfl hE (ba_toList _).symm (ba_toList _).symm (ba_toList _).symm hS _ rfl (kx_of hS hE)
        · exact there_yyn t i u j r s w hn hi _ rfl hf hk hs _ rfl hE _ rfl hS
    · have hk := kind_none hf
      by_cases hE : objE s.toList = 0
      · exact there_yno t i u j r s w hn hi _ rfl _ rfl hf hk hs (ba (objT s.toList)) (ba (objI s.toList)) (ba_toList _).symm (ba_toList _).symm hE
      · by_cases hS : subE s.toList = 0
        · exact there_yns t i u j r s w hn hi _ rfl _ rfl hf hk hs (ba (subT s.toList)) (ba (subI s.toList)) (ba (subR s.toList)) _ rfl hE (ba_toList _).symm (ba_toList _).symm (ba_toList _).symm hS _ rfl (kx_of hS hE)
        · exact there_ynn t i u j r s w hn hi _ rfl _ rfl hf hk hs _ rfl hE _ rfl hS
  · by_cases hf : faultL u.toList j.toList r.toList = 0
    · have hk := kind_fault hf
      by_cases hE : objE s.toList = 0
      · exact there_nyo t i u j r s w _ rfl he _ rfl hf hk hs (ba (objT s.toList)) (ba (objI s.toList)) (ba_toList _).symm (ba_toList _).symm hE
      · by_cases hS : subE s.toList = 0
        · exact there_nys t i u j r s w _ rfl he _ rfl hf hk hs (ba (subT s.toList)) (ba (subI s.toList)) (ba (subR s.toList)) _ rfl hE (ba_toList _).symm (ba_toList _).symm (ba_toList _).symm hS _ rfl (kx_of hS hE)
        · exact there_nyn t i u j r s w _ rfl he _ rfl hf hk hs _ rfl hE _ rfl hS
    · have hk := kind_none hf
      by_cases hE : objE s.toList = 0
      · exact there_nno t i u j r s w _ rfl he _ rfl _ rfl hf hk hs (ba (objT s.toList)) (ba (objI s.toList)) (ba_toList _).symm (ba_toList _).symm hE
      · by_cases hS : subE s.toList = 0
        · exact there_nns t i u j r s w _ rfl he _ rfl _ rfl hf hk hs (ba (subT s.toList)) (ba (subI s.toList)) (ba (subR s.toList)) _ rfl hE (ba_toList _).symm (ba_toList _).symm (ba_toList _).symm hS _ rfl (kx_of hS hE)
        · exact there_nnn t i u j r s w _ rfl he _ rfl _ rfl hf hk hs _ rfl hE _ rfl hS

theorem own : ownKnob Try.prog.godebug = none := by kernel_rfl
theorem cellsO : Try.prog.cellsOf 23 = 2 := by kernel_rfl
theorem cellsU : Try.prog.cellsOf 25 = 3 := by kernel_rfl

set_option maxRecDepth 100000 in
theorem lifted (os : Os) (started : os.Started) (H : Type) (enc : TypeId × Value → H) :
    ReturnsInHanded {} Try.checked os 4 .any (Rows.identThereSpec.pre6 enc Try.prog Try.f4 Rows.identThereRow.domain false) (Rows.identThereSpec.post enc Try.prog Try.f4 false true false false) := by
  refine returnsInHanded_of_change (C := Try.checked) own started (by kernel_rfl) Try.func4
    (ChangeSpec.witness6 (enc := enc) (C := Try.checked) false ⟨#[], #[.agg #[.string ByteArray.empty, .string ByteArray.empty], .agg #[.string ByteArray.empty, .string ByteArray.empty, .string ByteArray.empty], .string ByteArray.empty], []⟩ 8 (by kernel_rfl) (by kernel_rfl) (by kernel_rfl) (by kernel_rfl)) ?_
  intro W base args ds gs before hval0 hW _ _
  have hval : ∀ (j : Nat) t v, Try.f4.params[j]? = some t → args[j]? = some v → Value.okWide Try.prog W .any base t v := hval0
  have hW' := hW
  obtain ⟨p, q, hA0, hV, rfl, hfz, hnd⟩ := hW
  have hA : DataW.TrodAll enc Try.prog W 0 (fun _ => true) true Try.f4.params.toList args.toList ds p := hA0
  rw [Try.params4] at hA hval
  obtain ⟨v0, vs0, d0, ds0, p0, q0, hargs, rfl, rfl, h0, r0⟩ := trodAll_cons hA
  obtain ⟨v1, vs1, d1, ds1, p1, q1, rfl, rfl, rfl, h1, r1⟩ := trodAll_cons r0
  obtain ⟨v2, vs2, d2, ds2, p2, q2, rfl, rfl, rfl, h2, r2⟩ := trodAll_cons r1
  obtain ⟨rfl, rfl, rfl⟩ := trodAll_nil r2
  obtain rfl : args = #[v0, v1, v2] := by cases args; simp_all
  obtain ⟨rfl, rfl⟩ := trodVars_none hV
  obtain ⟨c00, c01, y00, y01, m0, rfl, rfl, rfl, hy00, hy01⟩ := open_agg2 Try.underlying23 (by kernel_rfl) cellsO (hval 0 23 v0 rfl rfl) h0
  obtain ⟨a00, e00, rfl, w00⟩ := DataW.trod_string Try.underlying9 hy00
  obtain ⟨a01, e01, rfl, w01⟩ := DataW.trod_string Try.underlying9 hy01
  simp at e00 e01
  subst e00 e01
  obtain ⟨c10, c11, c12, y10, y11, y12, m1, rfl, rfl, rfl, hy10, hy11, hy12⟩ := open_agg3 Try.underlying25 (by kernel_rfl) cellsU (hval 1 25 v1 rfl rfl) h1
  obtain ⟨a10, e10, rfl, w10⟩ := DataW.trod_string Try.underlying9 hy10
  obtain ⟨a11, e11, rfl, w11⟩ := DataW.trod_string Try.underlying9 hy11
  obtain ⟨a12, e12, rfl, w12⟩ := DataW.trod_string Try.underlying9 hy12
  simp at e10 e11 e12
  subst e10 e11 e12
  obtain ⟨a2, rfl, rfl, rfl, w2⟩ := open_string Try.underlying9 (hval 2 9 v2 rfl rfl) h2
  clear hA0 hval0
  simp only [List.append_nil] at hW'
  refine (there_any a00 a01 a10 a11 a12 a2 W w2).mono fun e W' ⟨he, bel⟩ => ?_
  subst he
  exact ⟨_, rfl, _, _, _, [], [], [], hW', trodAll_mk1 (shut_bool Try.underlying4 _), (trodAll_cons_mk (shut_agg2 (y0 := (.lit (.string a00.data.toList), [])) (y1 := (.lit (.string a01.data.toList), [])) Try.underlying23 (by kernel_rfl) cellsO ⟨1, by simp [DataW.trod, Try.underlying9, w00]⟩ ⟨1, by simp [DataW.trod, Try.underlying9, w01]⟩) (trodAll_cons_mk (shut_agg3 (y0 := (.lit (.string a10.data.toList), [])) (y1 := (.lit (.string a11.data.toList), [])) (y2 := (.lit (.string a12.data.toList), [])) Try.underlying25 (by kernel_rfl) cellsU ⟨1, by simp [DataW.trod, Try.underlying9, w10]⟩ ⟨1, by simp [DataW.trod, Try.underlying9, w11]⟩ ⟨1, by simp [DataW.trod, Try.underlying9, w12]⟩) (trodAll_cons_mk (shut_string Try.underlying9 w2) trodAll_mk0))), rfl, bel.frame _, fun h => by cases h⟩

end identThereDone

theorem identThere_proved : Rows.IdentThereSaid :=
  OpenClaim.holds_of_wide 4 Try.f4 rfl rfl rfl rfl rfl rfl rfl ⟨rfl, rfl, rfl, rfl, rfl⟩ rfl rfl rfl rfl rfl (by kernel_rfl) Try.func4 (by kernel_rfl)
    (of_decide_eq_true (by kernel_rfl)) (by unfold Func.isWrapper; first | (rw [if_pos (by decide +kernel)]; kernel_rfl) | (rw [if_neg (by decide +kernel)]; exact ⟨rfl, rfl⟩))
    (fun os started H enc _ => identThereDone.lifted os started H enc)
#print axioms identThere_proved
end Go.Proofs.Ytkkbnbcjkjbepab
