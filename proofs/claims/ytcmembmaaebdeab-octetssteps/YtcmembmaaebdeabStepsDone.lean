/- OctetsSteps: for every slice of bytes and every turn the call returns true, and the arguments read as they did. -/
import Derived.Test.YtcmembmaaebdeabStepsB
import Derived.Test.YtcmembmaaebdeabArgW
namespace Go.Proofs.Ytcmembmaaebdeab
namespace octetsStepsDone
open Go.ChangeShapes Go.WideShapes Go.ChangeAt Go.RowKit Go.Joins

theorem own : ownKnob Try.prog.godebug = none := by kernel_rfl
theorem cellsT : Try.prog.cellsOf 24 = 3 := by kernel_rfl

set_option maxRecDepth 100000 in
theorem lifted (os : Os) (started : os.Started) (H : Type) (enc : TypeId × Value → H) :
    ReturnsInHanded {} Try.checked os 3 .any (Rows.octetsStepsSpec.pre6 enc Try.prog Try.f3 Rows.octetsStepsRow.domain false) (Rows.octetsStepsSpec.post enc Try.prog Try.f3 false true false false) := by
  refine returnsInHanded_of_change_sized (C := Try.checked) own started (by kernel_rfl) Try.func3
    (ChangeSpec.witness6 (enc := enc) (C := Try.checked) false ⟨#[], #[.slice none 0 0, .agg #[.int .u8 0, .int .i64 0, .int .u8 0]], []⟩ 8 (by kernel_rfl) (by kernel_rfl) (by kernel_rfl) (by kernel_rfl)) ?_
  intro W base args ds gs before hval0 hW _ hsz0 _
  have hval : ∀ (j : Nat) t v, Try.f3.params[j]? = some t → args[j]? = some v → Value.okWide Try.prog W .any base t v := hval0
  have hsz : (DataW.weightsEach Try.prog (Try.f3.params.toList ++ Rows.octetsStepsSpec.plain.varTypes Try.prog) (ds ++ gs)).all (· ≤ reachBytes) = true := hsz0
  clear hsz0
  have hW' := hW
  obtain ⟨p, q, hA0, hV, rfl, hfz, hnd⟩ := hW
  have hA : DataW.TrodAll enc Try.prog W 0 (fun _ => true) true Try.f3.params.toList args.toList ds p := hA0
  rw [Try.params3] at hA hval hsz
  obtain ⟨v0, v1, d0, d1, p0, p1, rfl, rfl, rfl, h0, h1⟩ := trodAll_two hA
  obtain ⟨rfl, rfl⟩ := trodVars_none hV
  obtain ⟨c0, c1, c2, y0, y1, y2, m, rfl, rfl, rfl, hy0, hy1, hy2⟩ := open_agg3 Try.underlying24 (by kernel_rfl) cellsT (hval 1 24 v1 rfl rfl) h1
  obtain ⟨x0, e0, rfl, w0⟩ := DataW.trod_int underB hy0
  obtain ⟨x1, e1, rfl, w1⟩ := DataW.trod_int Try.underlying3 hy1
  obtain ⟨x2, e2, rfl, w2⟩ := DataW.trod_int underB hy2
  simp at e0 e1 e2
  subst e0 e1 e2
  obtain ⟨a0, len, cap, rfl⟩ := okWide_slice underS (hval 0 22 v0 rfl rfl)
  have h0k := h0
  obtain ⟨fuel, hf⟩ := h0
  clear hA0 hval0
  simp only [List.append_nil] at hW'
  have hlt : ∀ x ∈ p0, x.block < W.heap.size := fun x hx => by simpa using hW'.lt x (by simp [hx])
  have hargs : ∀ (W' : World), Below W.heap.size W W' → DataW.Trod enc Try.prog W' 0 (fun b => decide (b < W.heap.size)) true 22 (.slice a0 len cap) d0 p0 :=
    fun W' hn => Below.trod laidOut (by kernel_rfl) (of_decide_eq_true (by kernel_rfl)) h0k hn hlt
  obtain ⟨l, hB, hll, hd⟩ := open_bytes (by simpa [Value.cells] using hf)
  have hlen : l.length + 1 ≤ 140737488355328 := by
    rcases hd with ⟨_, hc⟩ | ⟨es, sp, rfl, hs, hlc⟩
    · obtain ⟨_, _, he, h1, _⟩ := hB.ex
      simp at he
      omega
    · have := sized_slice hsz (j := 0) (t := 22) (e := 5) rfl rfl underS
      rw [bytesB] at this
      simp only [reachBytes] at this
      omega
  obtain ⟨X, rfl⟩ : ∃ X : UInt8, x0 = (X.toNat : Int) := by
    have : 0 ≤ x0 ∧ x0 ≤ 255 := by simpa [Lit.wf, IntKind.min, IntKind.max, IntKind.signed, IntKind.bits] using w0
    exact ⟨x0.toNat.toUInt8, by simp; omega⟩
  obtain ⟨Y, rfl⟩ : ∃ Y : UInt8, x2 = (Y.toNat : Int) := by
    have : 0 ≤ x2 ∧ x2 ≤ 255 := by simpa [Lit.wf, IntKind.min, IntKind.max, IntKind.signed, IntKind.bits] using w2
    exact ⟨x2.toNat.toUInt8, by simp; omega⟩
  have hr1 : -9223372036854775808 ≤ x1 ∧ x1 ≤ 9223372036854775807 := by simpa [Lit.wf, IntKind.min, IntKind.max, IntKind.signed, IntKind.bits] using w1
  have walk : Calls Try.prog 3 #[.slice a0 len cap, .agg #[.int .u8 (X.toNat : Int), .int .i64 x1, .int .u8 (Y.toNat : Int)]] W fun e w' => e = .returned (.bool true) ∧ Below W.heap.size W w' := by
    rcases hB.cases with ⟨hl, ao, cap', he, _, _⟩ | ⟨_, b, o, cap', he, h0, _, _, _⟩
    · rw [he] at hB ⊢
      exact steps_empty l X Y x1 hr1.1 hr1.2 W ao cap' hl hB hlen
    · rw [he] at hB ⊢
      exact steps_some l X Y x1 hr1.1 hr1.2 W b o cap' h0 hB hlen
  refine walk.mono fun e W' ⟨he, bel⟩ => ?_
  subst he
  exact ⟨_, rfl, _, _, _, [], _, [], hW', trodAll_mk1 (shut_bool Try.underlying4 _),
    trodAll_mk2 (hargs _ bel) (shut_agg3 (y0 := (.lit (.int .u8 (X.toNat : Int)), [])) (y1 := (.lit (.int .i64 x1), [])) (y2 := (.lit (.int .u8 (Y.toNat : Int)), [])) Try.underlying24 (by kernel_rfl) cellsT ⟨1, Go.ChangeShapes.trod_int_mk 0 underB w0⟩ ⟨1, Go.ChangeShapes.trod_int_mk 0 Try.underlying3 w1⟩ ⟨1, Go.ChangeShapes.trod_int_mk 0 underB w2⟩),
    rfl, bel.frame _, fun h => by cases h⟩

end octetsStepsDone

theorem octetsSteps_proved : Rows.OctetsStepsSaid :=
  OpenClaim.holds_of_wide 3 Try.f3 rfl rfl rfl rfl rfl rfl rfl ⟨rfl, rfl, rfl, rfl, rfl⟩ rfl rfl rfl rfl rfl (by kernel_rfl) Try.func3 (by kernel_rfl)
    (of_decide_eq_true (by kernel_rfl)) (by unfold Func.isWrapper; first | (rw [if_pos (by decide +kernel)]; kernel_rfl) | (rw [if_neg (by decide +kernel)]; exact ⟨rfl, rfl⟩))
    (fun os started H enc _ => octetsStepsDone.lifted os started H enc)
#print axioms octetsSteps_proved
end Go.Proofs.Ytcmembmaaebdeab
