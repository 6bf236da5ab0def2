/- For every three subjects the statement IdentOrder answers true: both comparisons are orders (the one way is the other turned about, alike just if they are the same, and what is not behind goes on so from one to the next), and subjects without a Rel stand as their objects do. -/
import Derived.Test.YtkkbnbcjkjbepabOrderX
import Derived.Test.YtkkbnbcjkjbepabOrdM
import Derived.ProofKit
import Derived.OpenShut
import Derived.ShutString
import Derived.ChangeOld
import Derived.SizedLaws
import Derived.Lib.SmallJoins
namespace Go.Proofs.Ytkkbnbcjkjbepab
namespace identOrderDone
open Go.ChangeShapes Go.WideShapes Go.ChangeAt Go.RowKit Go.Joins
open Go.ChangeMaps (open_string shut_string)

theorem toList_inj {a b : ByteArray} (h : a.toList = b.toList) : a = b := by rw [← toList_ba a, h, toList_ba]
theorem k_of {t i t' i' : List UInt8} {q : Int} (h : cmpO t i t' i' = q) : cmpS t i (⟨#[]⟩ : ByteArray).toList t' i' (⟨#[]⟩ : ByteArray).toList = q := by
  rw [show (⟨#[]⟩ : ByteArray).toList = [] from ByteArray.toList_mk _]
  unfold cmpS
  rw [h]
  by_cases e : q = 0
  · subst e; rfl
  · simp [e]
theorem S_is (t i r t' i' r' : List UInt8) : cmpS t i r t' i' r' = lexI (cmpO t i t' i') (cmpT r r') := rfl
theorem O_is (t i t' i' : List UInt8) : cmpO t i t' i' = lexI (cmpT t t') (cmpT i i') := rfl
theorem q_i {t i r t' i' r' : List UInt8} (h : t ≠ t') : cmpO t i t' i' = cmpS t i r t' i' r' := by
  have e : cmpT t t' ≠ 0 := fun x => h ((ord_cmpT.same _ _).1 x)
  have e2 : cmpO t i t' i' = cmpT t t' := by rw [O_is, lexI_pos _ e]
  rw [S_is, lexI_pos _ (by rw [e2]; exact e)]
theorem q_j {t i r i' r' : List UInt8} (h : i ≠ i') : cmpO t i t i' = cmpS t i r t i' r' := by
  have e : cmpT i i' ≠ 0 := fun x => h ((ord_cmpT.same _ _).1 x)
  have e2 : cmpO t i t i' = cmpT i i' := by rw [O_is, (ord_cmpT.same t t).2 rfl, lexI_zero]
  rw [S_is, lexI_pos _ (by rw [e2]; exact e)]
theorem q_k (t i : List UInt8) : cmpO t i t i = 0 := by rw [O_is, (ord_cmpT.same t t).2 rfl, lexI_zero, (ord_cmpT.same i i).2 rfl]

theorem order_any (a0 a1 a2 b0 b1 b2 c0 c1 c2 : ByteArray) (w : World) :
    Calls Try.prog 8 #[.agg #[.string a0, .string a1, .string a2], .agg #[.string b0, .string b1, .string b2], .agg #[.string c0, .string c1, .string c2]] w fun e w' => e = .returned (.bool true) ∧ Below w.heap.size w w' := by
  have hrg := ord_S.range ((a0.toList, a1.toList), a2.toList) ((b0.toList, b1.toList), b2.toList)
  have hrgy := ord_S.range ((b0.toList, b1.toList), b2.toList) ((c0.toList, c1.toList), c2.toList)
  have han := ord_S.anti ((a0.toList, a1.toList), a2.toList) ((b0.toList, b1.toList), b2.toList)
  have hsm := ord_S.same ((a0.toList, a1.toList), a2.toList) ((b0.toList, b1.toList), b2.toList)
  have hsmy := ord_S.same ((b0.toList, b1.toList), b2.toList) ((c0.toList, c1.toList), c2.toList)
  have htr := ord_S.trans ((a0.toList, a1.toList), a2.toList) ((b0.toList, b1.toList), b2.toList) ((c0.toList, c1.toList), c2.toList)
  simp only at hrg hrgy han hsm hsmy htr
  rcases hrg with hx | hx | hx
  · have hv : cmpS b0.toList b1.toList b2.toList a0.toList a1.toList a2.toList = 1 := by rw [han, hx]; rfl
    have hz : ¬ cmpS b0.toList b1.toList b2.toList c0.toList c1.toList c2.toList ≤ 0 ∨ (cmpS b0.toList b1.toList b2.toList c0.toList c1.toList c2.toList ≤ 0 ∧ cmpS a0.toList a1.toList a2.toList c0.toList c1.toList c2.toList < 0) := by
      rcases hrgy with hy | hy | hy
      · right; rw [hy, htr hx hy]; decide
      · right
        have e := hsmy.1 hy
        injection e with e1 e2
        injection e1 with e3 e4
        rw [hy, ← e2, ← e3, ← e4, hx]; decide
      · left; rw [hy]; decide
    by_cases e0 : a0.toList = b0.toList
    · obtain rfl := toList_inj e0
      by_cases e1 : a1.toList = b1.toList
      · obtain rfl := toList_inj e1
        have e2 : ¬ a2.toList = b2.toList := fun e => by rw [(hsm.2 (by rw [e]))] at hx; exact absurd hx (by decide)
        rcases hz with hz | ⟨hz, hz'⟩
        · exact order_2k a0 a1 a2 b2 c0 c1 c2 _ _ w hx rfl rfl hv (q_k _ _) (k_of (q_k _ _)) e2 hz
        · exact order_3k a0 a1 a2 b2 c0 c1 c2 _ _ w hx rfl rfl hv (q_k _ _) (k_of (q_k _ _)) e2 hz hz'
      · have q := (q_j (r := a2.toList) (r' := b2.toList) e1).trans hx
        rcases hz with hz | ⟨hz, hz'⟩
        · exact order_2j a0 a1 a2 b1 b2 c0 c1 c2 _ _ w hx rfl rfl hv q (k_of q) e1 hz
        · exact order_3j a0 a1 a2 b1 b2 c0 c1 c2 _ _ w hx rfl rfl hv q (k_of q) e1 hz hz'
    · have q := (q_i (i := a1.toList) (i' := b1.toList) (r := a2.toList) (r' := b2.toList) e0).trans hx
      rcases hz with hz | ⟨hz, hz'⟩
      · exact order_2i a0 a1 a2 b0 b1 b2 c0 c1 c2 _ _ w hx rfl rfl hv q (k_of q) e0 hz
      · exact order_3i a0 a1 a2 b0 b1 b2 c0 c1 c2 _ _ w hx rfl rfl hv q (k_of q) e0 hz hz'
  · have e := hsm.1 hx
    injection e with e1 e2
    injection e1 with e3 e4
    obtain rfl := toList_inj e2
    obtain rfl := toList_inj e3
    obtain rfl := toList_inj e4
    rcases hrgy with hy | hy | hy
    · exact order_5 a0 a1 a2 c0 c1 c2 _ _ w hx rfl rfl hx (q_k _ _) (k_of (q_k _ _)) (by rw [hy]; decide) (by rw [hy]; decide)
    · exact order_6 a0 a1 a2 c0 c1 c2 _ _ w hx rfl rfl hx (q_k _ _) (k_of (q_k _ _)) hy hy
    · exact order_4 a0 a1 a2 c0 c1 c2 _ _ w hx rfl rfl hx (q_k _ _) (k_of (q_k _ _)) (by rw [hy]; decide)
  · have hv : cmpS b0.toList b1.toList b2.toList a0.toList a1.toList a2.toList = -1 := by rw [han, hx]
    by_cases e0 : a0.toList = b0.toList
    · obtain rfl := toList_inj e0
      by_cases e1 : a1.toList = b1.toList
      · obtain rfl := toList_inj e1
        have e2 : ¬ a2.toList = b2.toList := fun e => by rw [(hsm.2 (by rw [e]))] at hx; exact absurd hx (by decide)
        exact order_1k a0 a1 a2 b2 c0 c1 c2 _ _ w hx rfl rfl hv (q_k _ _) (k_of (q_k _ _)) e2
      · have q := (q_j (r := a2.toList) (r' := b2.toList) e1).trans hx
        exact order_1j a0 a1 a2 b1 b2 c0 c1 c2 _ _ w hx rfl rfl hv q (k_of q) e1
    · have q := (q_i (i := a1.toList) (i' := b1.toList) (r := a2.toList) (r' := b2.toList) e0).trans hx
      exact order_1i a0 a1 a2 b0 b1 b2 c0 c1 c2 _ _ w hx rfl rfl hv q (k_of q) e0

theorem own : ownKnob Try.prog.godebug = none := by kernel_rfl
theorem cellsU : Try.prog.cellsOf 25 = 3 := by kernel_rfl

set_option maxRecDepth 100000 in
theorem lifted (os : Os) (started : os.Started) (H : Type) (enc : TypeId × Value → H) :
    ReturnsInHanded {} Try.checked os 8 .any (Rows.identOrderSpec.pre6 enc Try.prog Try.f8 Rows.identOrderRow.domain false) (Rows.identOrderSpec.post enc Try.prog Try.f8 false true false false) := by
  refine returnsInHanded_of_change (C := Try.checked) own started (by kernel_rfl) Try.func8
    (ChangeSpec.witness6 (enc := enc) (C := Try.checked) false ⟨#[], #[.agg #[.string ByteArray.empty, .string ByteArray.empty, .string ByteArray.empty], .agg #[.string ByteArray.empty, .string ByteArray.empty, .string ByteArray.empty], .agg #[.string ByteArray.empty, .string ByteArray.empty, .string ByteArray.empty]], []⟩ 8 (by kernel_rfl) (by kernel_rfl) (by kernel_rfl) (by kernel_rfl)) ?_
  intro W base args ds gs before hval0 hW _ _
  have hval : ∀ (j : Nat) t v, Try.f8.params[j]? = some t → args[j]? = some v → Value.okWide Try.prog W .any base t v := hval0
  have hW' := hW
  obtain ⟨p, q, hA0, hV, rfl, hfz, hnd⟩ := hW
  have hA : DataW.TrodAll enc Try.prog W 0 (fun _ => true) true Try.f8.params.toList args.toList ds p := hA0
  rw [Try.params8] at hA hval
  obtain ⟨v0, vs0, d0, ds0, p0, q0, hargs, rfl, rfl, h0, r0⟩ := trodAll_cons hA
  obtain ⟨v1, vs1, d1, ds1, p1, q1, rfl, rfl, rfl, h1, r1⟩ := trodAll_cons r0
  obtain ⟨v2, vs2, d2, ds2, p2, q2, rfl, rfl, rfl, h2, r2⟩ := trodAll_cons r1
  obtain ⟨rfl, rfl, rfl⟩ := trodAll_nil r2
  obtain rfl : args = #[v0, v1, v2] := by cases args; simp_all
  obtain ⟨rfl, rfl⟩ := trodVars_none hV
  obtain ⟨c00, c01, c02, y00, y01, y02, m0, rfl, rfl, rfl, hy00, hy01, hy02⟩ := open_agg3 Try.underlying25 (by kernel_rfl) cellsU (hval 0 25 v0 rfl rfl) h0
  obtain ⟨a00, e00, rfl, w00⟩ := DataW.trod_string Try.underlying9 hy00
  obtain ⟨a01, e01, rfl, w01⟩ := DataW.trod_string Try.underlying9 hy01
  obtain ⟨a02, e02, rfl, w02⟩ := DataW.trod_string Try.underlying9 hy02
  simp at e00 e01 e02
  subst e00 e01 e02
  obtain ⟨c10, c11, c12, y10, y11, y12, m1, rfl, rfl, rfl, hy10, hy11, hy12⟩ := open_agg3 Try.underlying25 (by kernel_rfl) cellsU (hval 1 25 v1 rfl rfl) h1
  obtain ⟨a10, e10, rfl, w10⟩ := DataW.trod_string Try.underlying9 hy10
  obtain ⟨a11, e11, rfl, w11⟩ := DataW.trod_string Try.underlying9 hy11
  obtain ⟨a12, e12, rfl, w12⟩ := DataW.trod_string Try.underlying9 hy12
  simp at e10 e11 e12
  subst e10 e11 e12
  obtain ⟨c20, c21, c22, y20, y21, y22, m2, rfl, rfl, rfl, hy20, hy21, hy22⟩ := open_agg3 Try.underlying25 (by kernel_rfl) cellsU (hval 2 25 v2 rfl rfl) h2
  obtain ⟨a20, e20, rfl, w20⟩ := DataW.trod_string Try.underlying9 hy20
  obtain ⟨a21, e21, rfl, w21⟩ := DataW.trod_string Try.underlying9 hy21
  obtain ⟨a22, e22, rfl, w22⟩ := DataW.trod_string Try.underlying9 hy22
  simp at e20 e21 e22
  subst e20 e21 e22
  clear hA0 hval0
  simp only [List.append_nil] at hW'
  refine (order_any a00 a01 a02 a10 a11 a12 a20 a21 a22 W).mono fun e W' ⟨he, bel⟩ => ?_
  subst he
  exact ⟨_, rfl, _, _, _, [], [], [], hW', trodAll_mk1 (shut_bool Try.underlying4 _), (trodAll_cons_mk (shut_agg3 (y0 := (.lit (.string a00.data.toList), [])) (y1 := (.lit (.string a01.data.toList), [])) (y2 := (.lit (.string a02.data.toList), [])) Try.underlying25 (by kernel_rfl) cellsU ⟨1, by simp [DataW.trod, Try.underlying9, w00]⟩ ⟨1, by simp [DataW.trod, Try.underlying9, w01]⟩ ⟨1, by simp [DataW.trod, Try.underlying9, w02]⟩) (trodAll_cons_mk (shut_agg3 (y0 := (.lit (.string a10.data.toList), [])) (y1 := (.lit (.string a11.data.toList), [])) (y2 := (.lit (.string a12.data.toList), [])) Try.underlying25 (by kernel_rfl) cellsU ⟨1, by simp [DataW.trod, Try.underlying9, w10]⟩ ⟨1, by simp [DataW.trod, Try.underlying9, w11]⟩ ⟨1, by simp [DataW.trod, Try.underlying9, w12]⟩) (trodAll_cons_mk (shut_agg3 (y0 := (.lit (.string a20.data.toList), [])) (y1 := (.lit (.string a21.data.toList), [])) (y2 := (.lit (.string a22.data.toList), [])) Try.underlying25 (by kernel_rfl) cellsU ⟨1, by simp [DataW.trod, Try.underlying9, w20]⟩ ⟨1, by simp [DataW.trod, Try.underlying9, w21]⟩ ⟨1, by simp [DataW.trod, Try.underlying9, w22]⟩) trodAll_mk0))), rfl, bel.frame _, fun h => by cases h⟩

end identOrderDone

theorem identOrder_proved : Rows.IdentOrderSaid :=
  OpenClaim.holds_of_wide 8 Try.f8 rfl rfl rfl rfl rfl rfl rfl ⟨rfl, rfl, rfl, rfl, rfl⟩ rfl rfl rfl rfl rfl (by kernel_rfl) Try.func8 (by kernel_rfl)
    (of_decide_eq_true (by kernel_rfl)) (by unfold Func.isWrapper; first | (rw [if_pos (by decide +kernel)]; kernel_rfl) | (rw [if_neg (by decide +kernel)]; exact ⟨rfl, rfl⟩))
    (fun os started H enc _ => identOrderDone.lifted os started H enc)
#print axioms identOrder_proved
end Go.Proofs.Ytkkbnbcjkjbepab
