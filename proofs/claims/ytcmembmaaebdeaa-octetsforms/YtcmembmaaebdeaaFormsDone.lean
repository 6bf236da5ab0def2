/- OctetsForms: for every slice of bytes and every kind the call returns true, and the arguments read as they did. -/
import Derived.Test.YtcmembmaaebdeaaFormsP
import Derived.Test.YtcmembmaaebdeaaArgW
namespace Go.Proofs.Ytcmembmaaebdeaa
namespace octetsFormsDone
open Go.ChangeShapes Go.WideShapes Go.ChangeAt Go.RowKit Go.Joins

theorem own : ownKnob Try.prog.godebug = none := by kernel_rfl

set_option maxRecDepth 100000 in
theorem lifted (os : Os) (started : os.Started) (H : Type) (enc : TypeId × Value → H) :
    ReturnsInHanded {} Try.checked os 8 .any (Rows.octetsFormsSpec.pre6 enc Try.prog Try.f8 Rows.octetsFormsRow.domain false) (Rows.octetsFormsSpec.post enc Try.prog Try.f8 false true false false) := by
  refine returnsInHanded_of_change_sized (C := Try.checked) own started (by kernel_rfl) Try.func8
    (ChangeSpec.witness6 (enc := enc) (C := Try.checked) false ⟨#[], #[.slice none 0 0, .int .i64 0], []⟩ 8 (by kernel_rfl) (by kernel_rfl) (by kernel_rfl) (by kernel_rfl)) ?_
  intro W base args ds gs before hval0 hW _ hsz0 _
  have hval : ∀ (j : Nat) t v, Try.f8.params[j]? = some t → args[j]? = some v → Value.okWide Try.prog W .any base t v := hval0
  have hsz : (DataW.weightsEach Try.prog (Try.f8.params.toList ++ Rows.octetsFormsSpec.plain.varTypes Try.prog) (ds ++ gs)).all (· ≤ reachBytes) = true := hsz0
  clear hsz0
  have hW' := hW
  obtain ⟨p, q, hA0, hV, rfl, hfz, hnd⟩ := hW
  have hA : DataW.TrodAll enc Try.prog W 0 (fun _ => true) true Try.f8.params.toList args.toList ds p := hA0
  rw [Try.params8] at hA hval hsz
  obtain ⟨v0, v1, d0, d1, p0, p1, rfl, rfl, rfl, h0, h1⟩ := trodAll_two hA
  obtain ⟨rfl, rfl⟩ := trodVars_none hV
  obtain ⟨x1, rfl, rfl, rfl, w1⟩ := open_int Try.underlying3 (hval 1 3 v1 rfl rfl) h1
  obtain ⟨a0, len, cap, rfl⟩ := okWide_slice underS (hval 0 24 v0 rfl rfl)
  have h0k := h0
  obtain ⟨fuel, hf⟩ := h0
  clear hA0 hval0
  simp only [List.append_nil] at hW'
  have hlt : ∀ x ∈ p0, x.block < W.heap.size := fun x hx => by simpa using hW'.lt x (by simp [hx])
  have hargs : ∀ (W' : World), Below W.heap.size W W' → DataW.Trod enc Try.prog W' 0 (fun b => decide (b < W.heap.size)) true 24 (.slice a0 len cap) d0 p0 :=
    fun W' hn => Below.trod laidOut (by kernel_rfl) (of_decide_eq_true (by kernel_rfl)) h0k hn hlt
  obtain ⟨l, hB, hll, hd⟩ := open_bytes (by simpa [Value.cells] using hf)
  have hlen : l.length ≤ 140737488351232 := by
    rcases hd with ⟨_, hc⟩ | ⟨es, sp, rfl, hs, hlc⟩
    · obtain ⟨_, _, he, h1, _⟩ := hB.ex
      simp at he
      omega
    · have := sized_slice hsz (j := 0) (t := 24) (e := 5) rfl rfl underS
      rw [bytesB] at this
      simp only [reachBytes] at this
      omega
  have hr1 : -9223372036854775808 ≤ x1 ∧ x1 ≤ 9223372036854775807 := by simpa [Lit.wf, IntKind.min, IntKind.max, IntKind.signed, IntKind.bits] using w1
  have walk : Calls Try.prog 8 #[.slice a0 len cap, .int .i64 x1] W fun e w' => e = .returned (.bool true) ∧ Below W.heap.size W w' := by
    subst hll
    have hp := pickZ_lt x1 3 (by omega)
    have hp3 : pickZ x1 3 = 0 ∨ pickZ x1 3 = 1 ∨ pickZ x1 3 = 2 := by
      have e : ((3 : Nat) : Int) = 3 := rfl
      rw [e] at hp
      omega
    rcases hp3 with h | h | h
    · exact forms_uint a0 cap l x1 hr1.1 hr1.2 h W hB hlen
    · exact forms_int a0 cap l x1 hr1.1 hr1.2 h W hB hlen
    · exact forms_real a0 cap l x1 hr1.1 hr1.2 h W hB hlen
  refine walk.mono fun e W' ⟨he, bel⟩ => ?_
  subst he
  exact ⟨_, rfl, _, _, _, [], _, [], hW', trodAll_mk1 (shut_bool Try.underlying4 _), trodAll_mk2 (hargs _ bel) (shut_int Try.underlying3 w1), rfl, bel.frame _, fun h => by cases h⟩

end octetsFormsDone

theorem octetsForms_proved : Rows.OctetsFormsSaid :=
  OpenClaim.holds_of_wide 8 Try.f8 rfl rfl rfl rfl rfl rfl rfl ⟨rfl, rfl, rfl, rfl, rfl⟩ rfl rfl rfl rfl rfl (by kernel_rfl) Try.func8 (by kernel_rfl)
    (of_decide_eq_true (by kernel_rfl)) (by unfold Func.isWrapper; first | (rw [if_pos (by decide +kernel)]; kernel_rfl) | (rw [if_neg (by decide +kernel)]; exact ⟨rfl, rfl⟩))
    (fun os started H enc _ => octetsFormsDone.lifted os started H enc)
#print axioms octetsForms_proved
end Go.Proofs.Ytcmembmaaebdeaa
