/- TokensPrints: for every list of tokens the call returns true, and the list reads as it did; no condition. -/
import Derived.Test.YtmglbcldjhdhkaaTkRs
import Derived.Test.YtmglbcldjhdhkaaTkKp
import Derived.Test.YtmglbcldjhdhkaaTkAw
import Derived.Test.YtmglbcldjhdhkaaTkArg
import Derived.ShutString
namespace Go.Proofs.Ytmglbcldjhdhkaa
section
open Go.RowKit Go.PlainAid

theorem mark_short : ∀ t ∈ markN 24, t.text.length ≤ 140737488351232 := by
  intro t ht
  obtain ⟨i, -, rfl⟩ := List.mem_map.1 ht
  show 8 ≤ _
  omega

set_option maxRecDepth 1000000 in
set_option maxHeartbeats 1000000 in
theorem prints_law (v : Value) (l : List TokD) (w : World) (h : Ts4 w v l) :
    Calls Try.prog 4 #[v] w fun e w' => e = .returned (.bool true) ∧ Keep [] w w' := by
  have hT : Hid (Ts4 w v l) := h
  cases hb : beyondL l with
  | true =>
    have HB : Hid (Calls Try.prog 13 #[v] w fun e w' => e = .returned (.bool true) ∧ w' = w) := by
      have := beyond_any v l w h
      rwa [hb] at this
    go_enter Try.func4, Try.ntmps4
    go_wp2_with (go_at_call 13; refine (HB.out).mono ?_; rintro e w1 ⟨rfl, rfl⟩)
    go_ret
    exact ⟨rfl, Keep.refl _ _⟩
  | false =>
    have HB : Hid (Calls Try.prog 13 #[v] w fun e w' => e = .returned (.bool false) ∧ w' = w) := by
      have := beyond_any v l w h
      rwa [hb] at this
    obtain ⟨htx, hlen⟩ := beyond_ok hb
    have HL : Hid (∀ w v, Ts4 w v l → Calls Try.prog 14 #[v] w fun e w' => ∃ g cap, e = .returned (.slice (some ⟨g, 0, none⟩) l.length cap) ∧ Ts4 w' (.slice (some ⟨g, 0, none⟩) (l.length + 24) cap) (l ++ markN 24) ∧ Ts4 w' (.slice (some ⟨g, 0, none⟩) l.length cap) l ∧ Keep [] w w') := fun w v h => by
      refine (lentT_any v l w h hlen).mono ?_
      rintro e w' ⟨g, cap, rfl, r, k, -⟩
      have hll : (l ++ markN 24).length = l.length + 24 := by rw [List.length_append, mark_len]
      have t1 : Ts4 w' (.slice (some ⟨g, 0, none⟩) (l.length + 24) cap) (l ++ markN 24) := Ts4.ofRow r (fun t ht => by
        rcases List.mem_append.1 ht with ht | ht
        · exact h.txt t ht
        · exact mark_short t ht)
      have t2 : Ts4 w' (.slice (some ⟨g, 0, none⟩) l.length cap) ((l ++ markN 24).take l.length) := Ts4.front (by rw [hll]; exact t1) l.length (by omega)
      rw [List.take_left] at t2
      exact ⟨g, cap, rfl, t1, t2, k⟩
    have HP : Hid (∀ w v, Ts4 w v l → Calls Try.prog 15 #[v] w fun e w' => e = .returned (.tuple #[.string (ba (printL l).1), .int .i64 (printL l).2]) ∧ Keep [] w w') := fun w v h => print_any v l w h
    have HR : Hid (∀ w v, Ts4 w v l → Calls Try.prog 16 #[v] w fun e w' => e = .returned (.tuple #[.string (ba (printL l).1), .int .i64 (printL l).2]) ∧ Keep [] w w') := fun w v h => rprint_any v l w h htx hlen
    have HK : Hid (∀ w v g cap, Ts4 w (.slice (some ⟨g, 0, none⟩) (l.length + 24) cap) (l ++ markN 24) → Ts4 w v l → Calls Try.prog 17 #[.slice (some ⟨g, 0, none⟩) l.length cap, v] w fun e w' => e = .returned (.bool true) ∧ Keep [] w w') := fun w v g cap h1 h2 => keptT_any g 0 cap v l w h1 h2 hlen
    generalize ba (printL l).1 = S at *
    generalize (printL l).2 = E at *
    generalize markN 24 = M at *
    clear h htx hb hlen
    go_enter Try.func4, Try.ntmps4
    go_wp2_with (first | (go_at_call 13; refine (HB.out).mono ?_; rintro e w1 ⟨rfl, rfl⟩) | (go_at_call 14; refine (HL.out _ v hT.out).mono ?_; rintro e w2 ⟨g, cap, rfl, t1, t2, k2⟩) | (go_at_call 15; refine (HP.out w2 _ t2).mono ?_; rintro e w3 ⟨rfl, k3⟩) | (go_at_call 16; refine (HR.out w3 v ((hT.out.keep k2 (Off.nil _)).keep k3 (Off.nil _))).mono ?_; rintro e w4 ⟨rfl, k4⟩) | (go_at_call 17; refine (HK.out w4 v g cap ((t1.keep k3 (Off.nil _)).keep k4 (Off.nil _)) (((hT.out.keep k2 (Off.nil _)).keep k3 (Off.nil _)).keep k4 (Off.nil _))).mono ?_; rintro e w5 ⟨rfl, k5⟩) | (go_at_call 12; refine (awake_any _).mono ?_; rintro e w6 ⟨rfl, k6⟩))
    go_ret
    exact ⟨rfl, (((k2.trans' k3).trans' k4).trans' k5).trans' k6⟩
end
namespace tokensPrintsDone
open Go.ChangeShapes Go.WideShapes Go.ChangeAt Go.RowKit Go.Joins

theorem own : ownKnob Try.prog.godebug = none := by kernel_rfl

set_option maxRecDepth 100000 in
theorem lifted (os : Os) (started : os.Started) (H : Type) (enc : TypeId × Value → H) :
    ReturnsInHanded {} Try.checked os 4 .any (Rows.tokensPrintsSpec.pre6 enc Try.prog Try.f4 Rows.tokensPrintsRow.domain false) (Rows.tokensPrintsSpec.post enc Try.prog Try.f4 false true false false) := by
  refine returnsInHanded_of_change_sized (C := Try.checked) own started (by kernel_rfl) Try.func4
    (ChangeSpec.witness6 (enc := enc) (C := Try.checked) false ⟨#[], #[.slice none 0 0], []⟩ 8 (by kernel_rfl) (by kernel_rfl) (by kernel_rfl) (by kernel_rfl)) ?_
  intro W base args ds gs before hval0 hW _ hsz0 _
  have hval : ∀ (j : Nat) t v, Try.f4.params[j]? = some t → args[j]? = some v → Value.okWide Try.prog W .any base t v := hval0
  have hsz : (DataW.weightsEach Try.prog (Try.f4.params.toList ++ Rows.tokensPrintsSpec.plain.varTypes Try.prog) (ds ++ gs)).all (· ≤ reachBytes) = true := hsz0
  clear hsz0
  have hW' := hW
  obtain ⟨p, q, hA0, hV, rfl, hfz, hnd⟩ := hW
  have hA : DataW.TrodAll enc Try.prog W 0 (fun _ => true) true Try.f4.params.toList args.toList ds p := hA0
  rw [Try.params4] at hA hval hsz
  obtain ⟨v0, vs0, d0, ds0, p0, q0, hargs0, rfl, rfl, h0, r0⟩ := trodAll_cons hA
  obtain ⟨rfl, rfl, rfl⟩ := trodAll_nil r0
  obtain rfl : args = #[v0] := by cases args; simp_all
  obtain ⟨rfl, rfl⟩ := trodVars_none hV
  obtain ⟨a0, len, cap, rfl⟩ := okWide_slice Try.underlying22 (hval 0 22 v0 rfl rfl)
  have h0k := h0
  obtain ⟨fuel, hf⟩ := h0
  clear hA0 hval0
  simp only [List.append_nil] at hW'
  have hlt : ∀ x ∈ p0, x.block < W.heap.size := fun x hx => by simpa using hW'.lt x (by simp [hx])
  have hargs : ∀ (W' : World), Below W.heap.size W W' → DataW.Trod enc Try.prog W' 0 (fun b => decide (b < W.heap.size)) true 22 (.slice a0 len cap) d0 p0 :=
    fun W' hn => Below.trod laidOut (by kernel_rfl) (of_decide_eq_true (by kernel_rfl)) h0k hn hlt
  obtain ⟨l, hT⟩ := open_tokens (v := .slice a0 len cap) (y := (d0, p0)) (by simpa [Value.cells] using hf) (fun n hn => by
    have := List.all_eq_true.1 hsz n (DataW.weights_mem_each (j := 0) (t := 22) rfl rfl n hn)
    simpa using this)
  refine (prints_law _ l W hT).mono fun e W' ⟨he, bel0⟩ => ?_
  have bel := bel0.below
  subst he
  exact ⟨_, rfl, _, _, _, [], _, [], hW', trodAll_mk1 (shut_bool Try.underlying4 _), trodAll_mk1 (hargs _ bel), rfl, bel.frame _, fun h => by cases h⟩

end tokensPrintsDone

theorem tokensPrints_proved : Rows.TokensPrintsSaid :=
  OpenClaim.holds_of_wide 4 Try.f4 rfl rfl rfl rfl rfl rfl rfl ⟨rfl, rfl, rfl, rfl, rfl⟩ rfl rfl rfl rfl rfl (by kernel_rfl) Try.func4 (by kernel_rfl)
    (of_decide_eq_true (by kernel_rfl)) (by unfold Func.isWrapper; first | (rw [if_pos (by decide +kernel)]; kernel_rfl) | (rw [if_neg (by decide +kernel)]; exact ⟨rfl, rfl⟩))
    (fun os started H enc _ => tokensPrintsDone.lifted os started H enc)
#print axioms tokensPrints_proved
end Go.Proofs.Ytmglbcldjhdhkaa
