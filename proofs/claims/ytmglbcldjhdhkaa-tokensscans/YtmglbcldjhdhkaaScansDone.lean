/- TokensScans: for every text the call returns true, and the text reads as it did; no condition. -/
import Derived.Test.YtmglbcldjhdhkaaTkRm
import Derived.Test.YtmglbcldjhdhkaaTkAw
import Derived.Deep.QuietTactic
import Derived.BigQuiet
import Derived.ProofKit
import Derived.OpenShut
import Derived.ShutString
import Derived.ChangeOld
import Derived.SizedLaws
import Derived.Lib.SmallJoins
namespace Go.Proofs.Ytmglbcldjhdhkaa
section
open Go.RowKit Go.PlainAid

set_option maxRecDepth 1000000 in
set_option maxHeartbeats 1000000 in
theorem same_yes (v1 v2 : Value) (x : List TokD) (w : World) (h1 : Ts4 w v1 x) (h2 : Ts4 w v2 x) :
    Calls Try.prog 11 #[v1, v2] w fun e w' => e = .returned (.bool true) ∧ Keep [] w w' := by
  have HT1 : Hid (Ts4 w v1 x) := h1
  have HT2 : Hid (Ts4 w v2 x) := h2
  obtain ⟨a3, c3, rfl, q1, q2, -⟩ := h1.ex
  obtain ⟨a4, c4, rfl, -⟩ := h2.ex
  have hx63 : x.length ≤ 9223372036854775807 := by omega
  clear q1 q2 h1 h2
  go_enter Try.func11, Try.ntmps11
  go_wp2
  go_loopw [5] (fun z wr => ∃ (k : Nat), z = .int .i64 (k : Int) ∧ k ≤ x.length ∧ Hid (Keep [] w wr)) (fun z _ => x.length - (intOf z).toNat)
  case atStart => exact ⟨0, rfl, Nat.zero_le _, Keep.refl _ _⟩
  case round =>
    obtain ⟨k, rfl, hk, hI⟩ := hrel
    by_cases hlt : k < x.length
    · have hlti : (k : Int) < (x.length : Int) := by omega
      obtain ⟨-, b1, o1, rfl, c0, c1, c2, c3'⟩ := (HT1.out.keep hI.out (Off.nil _)).at k hlt
      obtain ⟨-, b2, o2, rfl, d0, d1, d2, d3⟩ := (HT2.out.keep hI.out (Off.nil _)).at k hlt
      have hK : Hid (Keep [] w wr) := hI.out
      generalize x[k].kind = tk at c0 d0
      generalize x[k].text = tt at c1 d1
      generalize x[k].line = tl at c2 d2
      generalize x[k].col = tc at c3' d3
      clear hI
      go_wp2
      go_quiet (fail)
      go_wp2
      go_roundw
      case rel => exact ⟨k + 1, by go_num, by omega, by first | exact hK.out.drewN _ | exact hK.out.drew | exact hK.out⟩
      case measure => simp [intOf]; omega
    · have hlti : ¬ (k : Int) < (x.length : Int) := by omega
      have hK := hI.out
      go_wp2
      go_ret
      exact ⟨rfl, hK⟩

theorem q_len : ∀ (t : List UInt8) (st : Int) (d : UInt8) (acc x : List UInt8), (qGo st d acc t).1 = some x → x.length ≤ acc.length + t.length
  | [], st, d, acc, x, h => by simp [qGo] at h
  | c :: t, st, d, acc, x, h => by
    rw [qGo] at h
    split at h
    · simp at h; rw [← h]; simp
    · split at h
      · simp at h
      · rename_i st' d' acc' hq
        have := q_len t st' d' acc' x (by simpa using h)
        have ha : acc'.length ≤ acc.length + 1 := by
          unfold qStep at hq
          repeat' split at hq
          all_goals first | (cases hq; done) | (simp only [Option.some.injEq, Prod.mk.injEq] at hq; obtain ⟨_, _, rfl⟩ := hq; simp)
        simp
        omega
theorem piece_len (l : List UInt8) : (pieceL l).text.length ≤ l.length := by
  cases l with
  | nil => simp [pieceL]
  | cons c t =>
    rw [pieceL]
    split
    · unfold rowL
      split
      · simp
      · simp only [List.length_take]; omega
    · split
      · unfold numberL endedL
        repeat' split
        all_goals first | (simp; done) | (simp only [List.length_take]; omega)
      · split
        · unfold quotedL
          simp only [List.drop_succ_cons, List.drop_zero]
          cases hq : (qGo 0 0 [] t).1 with
          | none => simp
          | some x =>
            have := q_len t 0 0 [] x hq
            simp at this ⊢
            omega
        · split
          · simp
          · split
            · split
              · rename_i h
                cases t with
                | nil => simp at h
                | cons d t => simp
              · split <;> simp
            · simp
theorem scan_len : ∀ (n : Nat) (l : List UInt8) (p : Nat × Nat) (ts : List TokD), (scanF n l p).1 = some ts → ∀ t ∈ ts, t.text.length ≤ l.length
  | 0, _, _, _, h => by simp [scanF] at h
  | n + 1, l, p, ts, h => by
    rw [scanF] at h
    split at h
    · simp only [Option.some.injEq] at h
      subst h
      intro t ht
      rw [List.mem_singleton.1 ht]
      simp
    · split at h
      · simp at h
      · cases hq : scanF n (l.drop (skipN false l + (pieceL (l.drop (skipN false l))).size)) (adv p (l.take (skipN false l + (pieceL (l.drop (skipN false l))).size))) with
        | mk a b =>
          rw [hq] at h
          cases a with
          | none => simp at h
          | some us =>
            simp only [Option.some.injEq] at h
            subst h
            intro t ht
            rcases List.mem_cons.1 ht with rfl | ht
            · have := piece_len (l.drop (skipN false l))
              rw [List.length_drop] at this
              simp only
              omega
            · have := scan_len n _ _ us (by rw [hq]) t ht
              rw [List.length_drop] at this
              omega
theorem scanT_len (l : List UInt8) : ∀ t ∈ scanT l, t.text.length ≤ 140737488351232 := by
  unfold scanT scanL
  by_cases h : 65536 < l.length
  · rw [if_pos h]; simp
  · rw [if_neg h]
    cases hq : scanF (l.length + 1) l (1, 1) with
    | mk a b =>
      cases a with
      | none => simp
      | some ts =>
        simp only [Option.getD_some]
        intro t ht
        have := scan_len _ l (1, 1) ts (by rw [hq]) t ht
        omega

set_option maxRecDepth 1000000 in
set_option maxHeartbeats 1000000 in
theorem scans_law (s : ByteArray) (w : World) (hs : s.size ≤ 9223372036854775800) :
    Calls Try.prog 3 #[.string s] w fun e w' => e = .returned (.bool true) ∧ Keep [] w w' := by
  have h1 : Hid (∀ w, Calls Try.prog 9 #[.string s] w fun e w' => ∃ v, e = .returned (.tuple #[v, .agg #[.int .i64 (scanL s.toList).2.1, .int .i64 ((scanL s.toList).2.2.1 : Int), .int .i64 ((scanL s.toList).2.2.2 : Int)]]) ∧ Ts4 w' v (scanT s.toList) ∧ Keep [] w w') := fun w => by
    refine (scan_any s w hs).mono ?_
    rintro e w' ⟨v, rfl, r, k, -⟩
    exact ⟨v, rfl, Ts4.ofRow r (scanT_len _), k⟩
  have h2 : Hid (∀ w, Calls Try.prog 10 #[.string s] w fun e w' => ∃ v, e = .returned (.tuple #[v, .agg #[.int .i64 (scanL s.toList).2.1, .int .i64 ((scanL s.toList).2.2.1 : Int), .int .i64 ((scanL s.toList).2.2.2 : Int)]]) ∧ Ts4 w' v (scanT s.toList) ∧ Keep [] w w') := fun w => by
    refine (rscan_any s w hs).mono ?_
    rintro e w' ⟨v, rfl, r, k⟩
    exact ⟨v, rfl, Ts4.ofRow r (scanT_len _), k⟩
  generalize scanT s.toList = T at h1 h2
  generalize (scanL s.toList).2.1 = er at h1 h2
  generalize ((scanL s.toList).2.2.1 : Int) = ln at h1 h2
  generalize ((scanL s.toList).2.2.2 : Int) = cl at h1 h2
  go_enter Try.func3, Try.ntmps3
  go_wp2_with fail
  refine (h1.out w).mono ?_
  rintro e w1 ⟨v1, rfl, t1, k1⟩
  have T1 : Hid (Ts4 (w1.alloc (.cells #[.int .i64 er, .int .i64 ln, .int .i64 cl] 25 (0, 0))) v1 T) := t1.keep (Keep.alloc1 w1 _) (Off.nil _)
  have B1 := heap_alloc_new w1 (.cells #[.int .i64 er, .int .i64 ln, .int .i64 cl] 25 (0, 0))
  have K1 : Hid (Keep [] w (w1.alloc (.cells #[.int .i64 er, .int .i64 ln, .int .i64 cl] 25 (0, 0)))) := k1.alloc _
  clear t1 k1
  go_wp2_with fail
  refine (h2.out _).mono ?_
  rintro e w2 ⟨v2, rfl, t2, k2⟩
  have T2 : Hid (Ts4 (w2.alloc (.cells #[.int .i64 er, .int .i64 ln, .int .i64 cl] 25 (0, 0))) v2 T) := t2.keep (Keep.alloc1 w2 _) (Off.nil _)
  have T1b : Hid (Ts4 (w2.alloc (.cells #[.int .i64 er, .int .i64 ln, .int .i64 cl] 25 (0, 0))) v1 T) := (T1.out.keep k2 (Off.nil _)).keep (Keep.alloc1 w2 _) (Off.nil _)
  have B1b := (Below.heap_alloc w2 (.cells #[.int .i64 er, .int .i64 ln, .int .i64 cl] 25 (0, 0)) w1.heap.size (by have := k2.size; simp at this; omega)).trans ((k2.block w1.heap.size (by simp) (by simp)).trans B1)
  have B2 := heap_alloc_new w2 (.cells #[.int .i64 er, .int .i64 ln, .int .i64 cl] 25 (0, 0))
  have K2 : Hid (Keep [] w (w2.alloc (.cells #[.int .i64 er, .int .i64 ln, .int .i64 cl] 25 (0, 0)))) := (K1.out.trans' k2).alloc _
  clear t2 k2 B1 K1 T1 h1 h2
  go_wp2_with fail
  refine (same_yes v1 v2 T _ T1b.out T2.out).mono ?_
  rintro e w3 ⟨rfl, k3⟩
  obtain ⟨a0, a1, a2, -, -, -⟩ := box3 ((k3.block w1.heap.size (Array.getElem?_eq_some_iff.1 B1b).1 (by simp)).trans B1b)
  obtain ⟨b0, b1, b2, -, -, -⟩ := box3 ((k3.block w2.heap.size (Array.getElem?_eq_some_iff.1 B2).1 (by simp)).trans B2)
  have K3 : Hid (Keep [] w w3) := K2.out.trans' k3
  clear k3 K2 B1b B2 T1b T2
  go_wp2_with (go_at_call 12; refine (awake_any _).mono ?_; rintro e w4 ⟨rfl, k4⟩)
  go_ret
  exact ⟨rfl, K3.out.trans' k4⟩
end
namespace tokensScansDone
open Go.ChangeShapes Go.WideShapes Go.ChangeAt Go.RowKit Go.Joins
open Go.ChangeMaps (open_string shut_string)

theorem own : ownKnob Try.prog.godebug = none := by kernel_rfl

set_option maxRecDepth 100000 in
theorem lifted (os : Os) (started : os.Started) (H : Type) (enc : TypeId × Value → H) :
    ReturnsInHanded {} Try.checked os 3 .any (Rows.tokensScansSpec.pre6 enc Try.prog Try.f3 Rows.tokensScansRow.domain false) (Rows.tokensScansSpec.post enc Try.prog Try.f3 false true false false) := by
  refine returnsInHanded_of_change_sized (C := Try.checked) own started (by kernel_rfl) Try.func3
    (ChangeSpec.witness6 (enc := enc) (C := Try.checked) false ⟨#[], #[.string ByteArray.empty], []⟩ 8 (by kernel_rfl) (by kernel_rfl) (by kernel_rfl) (by kernel_rfl)) ?_
  intro W base args ds gs before hval0 hW _ hsz0 _
  have hval : ∀ (j : Nat) t v, Try.f3.params[j]? = some t → args[j]? = some v → Value.okWide Try.prog W .any base t v := hval0
  have hsz : (DataW.weightsEach Try.prog (Try.f3.params.toList ++ Rows.tokensScansSpec.plain.varTypes Try.prog) (ds ++ gs)).all (· ≤ reachBytes) = true := hsz0
  clear hsz0
  have hW' := hW
  obtain ⟨p, q, hA0, hV, rfl, hfz, hnd⟩ := hW
  have hA : DataW.TrodAll enc Try.prog W 0 (fun _ => true) true Try.f3.params.toList args.toList ds p := hA0
  rw [Try.params3] at hA hval hsz
  obtain ⟨v0, vs0, d0, ds0, p0, q0, hargs, rfl, rfl, h0, r0⟩ := trodAll_cons hA
  obtain ⟨rfl, rfl, rfl⟩ := trodAll_nil r0
  obtain rfl : args = #[v0] := by cases args; simp_all
  obtain ⟨rfl, rfl⟩ := trodVars_none hV
  obtain ⟨a0, rfl, rfl, rfl, w0⟩ := open_string Try.underlying9 (hval 0 9 v0 rfl rfl) h0
  clear hA0 hval0
  simp only [List.append_nil] at hW'
  have hz : a0.size ≤ 140737488351232 := by
    have := sized_string hsz (j := 0) (t := 9) rfl rfl
    simpa [reachBytes] using this
  refine (scans_law a0 W (by omega)).mono fun e W' ⟨he, k0⟩ => ?_
  have bel := k0.below
  subst he
  exact ⟨_, rfl, _, _, _, [], [], [], hW', trodAll_mk1 (shut_bool Try.underlying4 _), (trodAll_cons_mk (shut_string Try.underlying9 w0) trodAll_mk0), rfl, bel.frame _, fun h => by cases h⟩

end tokensScansDone

theorem tokensScans_proved : Rows.TokensScansSaid :=
  OpenClaim.holds_of_wide 3 Try.f3 rfl rfl rfl rfl rfl rfl rfl ⟨rfl, rfl, rfl, rfl, rfl⟩ rfl rfl rfl rfl rfl (by kernel_rfl) Try.func3 (by kernel_rfl)
    (of_decide_eq_true (by kernel_rfl)) (by unfold Func.isWrapper; first | (rw [if_pos (by decide +kernel)]; kernel_rfl) | (rw [if_neg (by decide +kernel)]; exact ⟨rfl, rfl⟩))
    (fun os started H enc _ => tokensScansDone.lifted os started H enc)
#print axioms tokensScans_proved
end Go.Proofs.Ytmglbcldjhdhkaa
