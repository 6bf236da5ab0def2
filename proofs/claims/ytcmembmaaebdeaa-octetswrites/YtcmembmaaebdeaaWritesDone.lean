/- OctetsWrites: for every list of things to be written the call returns true, and the argument reads as it did. -/
import Derived.Test.YtcmembmaaebdeaaWritesP
namespace Go.Proofs.Ytcmembmaaebdeaa
namespace octetsWritesDone
open Go.ChangeShapes Go.WideShapes Go.ChangeAt Go.RowKit Go.Joins

theorem own : ownKnob Try.prog.godebug = none := by kernel_rfl

theorem mem_all {H : Type} (P : Program) (e : TypeId) (l : List (DataW H)) (y : DataW H) (h : y ∈ l) : ∀ n ∈ y.weights P e, n ∈ DataW.weightsAll P e l := by
  induction l with
  | nil => cases h
  | cons x r ih =>
    intro n hn
    simp only [DataW.weightsAll, List.mem_append]
    rcases List.mem_cons.1 h with rfl | h
    · exact .inl hn
    · exact .inr (ih h n hn)

/-- what a thing weighs -/
theorem put_weight {H : Type} {y : DataW H} {p : PutD} (h : p.datum y) (B : Nat) (hB : ∀ n ∈ y.weights Try.prog TPut, n ≤ B) : p.text.size ≤ B ∧ p.raw.length ≤ B := by
  obtain ⟨d0, d1, d2, d3, d4, d6, rfl, h6⟩ := h
  have e : p.text.data.toList.length = p.text.size := by rw [Array.length_toList]; rfl
  have hw : (DataW.agg [d0, d1, d2, d3, d4, .lit (.string p.text.data.toList), d6]).weights Try.prog TPut = d0.weights Try.prog 3 ++ (d1.weights Try.prog 3 ++ (d2.weights Try.prog 33 ++ (d3.weights Try.prog 2 ++ (d4.weights Try.prog 34 ++ ([p.text.size] ++ (d6.weights Try.prog 24 ++ [])))))) := by
    rw [DataW.weights]
    rw [show Try.prog.underlying TPut = _ from Try.underlying36]
    simp [DataW.weightsEach, DataW.weights]
  rw [hw] at hB
  refine ⟨hB _ (by simp), ?_⟩
  rcases h6 with ⟨h, rfl⟩ | ⟨es, sp, rfl, h⟩
  · rw [h]
    simp
  · have h2 : (es.length + sp.length) * Try.prog.bytesOf TB ≤ B := hB _ (by
      have : (DataW.slice es sp).weights Try.prog 24 = (es.length + sp.length) * Try.prog.bytesOf TB :: (DataW.weightsAll Try.prog TB es ++ DataW.weightsAll Try.prog TB sp) := by
        rw [DataW.weights]
        rw [show Try.prog.underlying 24 = _ from underS]
      rw [this]
      simp)
    rw [bytesB] at h2
    omega

set_option maxRecDepth 100000 in
theorem lifted (os : Os) (started : os.Started) (H : Type) (enc : TypeId × Value → H) :
    ReturnsInHanded {} Try.checked os 3 .any (Rows.octetsWritesSpec.pre6 enc Try.prog Try.f3 Rows.octetsWritesRow.domain false) (Rows.octetsWritesSpec.post enc Try.prog Try.f3 false true false false) := by
  refine returnsInHanded_of_change_sized (C := Try.checked) own started (by kernel_rfl) Try.func3
    (ChangeSpec.witness6 (enc := enc) (C := Try.checked) false ⟨#[], #[.slice none 0 0], []⟩ 8 (by kernel_rfl) (by kernel_rfl) (by kernel_rfl) (by kernel_rfl)) ?_
  intro W base args ds gs before hval0 hW _ hsz0 _
  have hval : ∀ (j : Nat) t v, Try.f3.params[j]? = some t → args[j]? = some v → Value.okWide Try.prog W .any base t v := hval0
  have hsz : (DataW.weightsEach Try.prog (Try.f3.params.toList ++ Rows.octetsWritesSpec.plain.varTypes Try.prog) (ds ++ gs)).all (· ≤ reachBytes) = true := hsz0
  clear hsz0
  have hW' := hW
  obtain ⟨p, q, hA0, hV, rfl, hfz, hnd⟩ := hW
  have hA : DataW.TrodAll enc Try.prog W 0 (fun _ => true) true Try.f3.params.toList args.toList ds p := hA0
  rw [Try.params3] at hA hval hsz
  obtain ⟨v0, vs0, d0, ds0, p0, q0, hargs0, rfl, rfl, h0, r0⟩ := trodAll_cons hA
  obtain ⟨rfl, rfl, rfl⟩ := trodAll_nil r0
  obtain rfl : args = #[v0] := by cases args; simp_all
  obtain ⟨rfl, rfl⟩ := trodVars_none hV
  obtain ⟨a0, len, cap, rfl⟩ := okWide_slice underPs (hval 0 22 v0 rfl rfl)
  have h0k := h0
  obtain ⟨fuel, hf⟩ := h0
  clear hA0 hval0
  simp only [List.append_nil] at hW'
  have hlt : ∀ x ∈ p0, x.block < W.heap.size := fun x hx => by simpa using hW'.lt x (by simp [hx])
  have hargs : ∀ (W' : World), Below W.heap.size W W' → DataW.Trod enc Try.prog W' 0 (fun b => decide (b < W.heap.size)) true 22 (.slice a0 len cap) d0 p0 :=
    fun W' hn => Below.trod laidOut (by kernel_rfl) (of_decide_eq_true (by kernel_rfl)) h0k hn hlt
  obtain ⟨ps, hP, hps, hdp⟩ := open_puts (by simpa [Value.cells] using hf)
  have hs : ∀ p ∈ ps, p.text.size ≤ 140737488355328 ∧ p.raw.length ≤ 140737488355328 := by
    intro p hp
    rcases hdp with ⟨_, h⟩ | ⟨es, sp, rfl, h⟩
    · rw [h] at hp
      cases hp
    · obtain ⟨y, hy, hd⟩ := h p hp
      refine put_weight hd _ (fun n hn => ?_)
      have h1 := mem_all Try.prog TPut es y hy n hn
      have h2 : n ∈ (DataW.slice es sp).weights Try.prog TPs := by
        have : (DataW.slice es sp).weights Try.prog TPs = (es.length + sp.length) * Try.prog.bytesOf TPut :: (DataW.weightsAll Try.prog TPut es ++ DataW.weightsAll Try.prog TPut sp) := by
          rw [DataW.weights]
          rw [show Try.prog.underlying TPs = _ from underPs]
        rw [this]
        simp [h1]
      have h3 := List.all_eq_true.1 hsz n (DataW.weights_mem_each (j := 0) (t := TPs) rfl rfl n h2)
      have h4 : n ≤ reachBytes := by simpa using h3
      simp only [reachBytes] at h4
      omega
  subst hps
  have walk := writes_law a0 cap ps W hP hs
  refine walk.mono fun e W' ⟨he, bel⟩ => ?_
  subst he
  exact ⟨_, rfl, _, _, _, [], _, [], hW', trodAll_mk1 (shut_bool Try.underlying4 _), trodAll_cons_mk (hargs _ bel) trodAll_mk0, rfl, bel.frame _, fun h => by cases h⟩

end octetsWritesDone

theorem octetsWrites_proved : Rows.OctetsWritesSaid :=
  OpenClaim.holds_of_wide 3 Try.f3 rfl rfl rfl rfl rfl rfl rfl ⟨rfl, rfl, rfl, rfl, rfl⟩ rfl rfl rfl rfl rfl (by kernel_rfl) Try.func3 (by kernel_rfl)
    (of_decide_eq_true (by kernel_rfl)) (by unfold Func.isWrapper; first | (rw [if_pos (by decide +kernel)]; kernel_rfl) | (rw [if_neg (by decide +kernel)]; exact ⟨rfl, rfl⟩))
    (fun os started H enc _ => octetsWritesDone.lifted os started H enc)
#print axioms octetsWrites_proved
end Go.Proofs.Ytcmembmaaebdeaa
