/- TokensScans, walked. -/
import Derived.Test.YtmglbcldjhdhkaaScansP
namespace Go.Proofs.Ytmglbcldjhdhkaa
open Go.RowKit Go.PlainAid

theorem q_len : ∀ (t : List UInt8) (st : Int) (d : UInt8) (acc x : List UInt8), (qGo st d acc t).1 = some x → x.length ≤ acc.length + t.length
  | [], st, d, acc, x, h => by simp [qGo] at h
  | c :: t, st, d, acc, x, h => by
    rw [qGo] at h
    split at h
    · simp at h; rw [← h]; simp
    · split at h
      · simp at h
      · rename_i st' d' acc' hq
        have := q_len t st' d' acc' x (by simpa using h)
        have ha : acc'.length ≤ acc.length + 1 := by
          unfold qStep at hq
          repeat' split at hq
          all_goals first | (cases hq; done) | (simp only [Option.some.injEq, Prod.mk.injEq] at hq; obtain ⟨_, _, rfl⟩ := hq; simp)
        simp
        omega
theorem piece_len (l : List UInt8) : (pieceL l).text.length ≤ l.length := by
  cases l with
  | nil => simp [pieceL]
  | cons c t =>
    rw [pieceL]
    split
    · unfold rowL
      split
      · simp
      · simp only [List.length_take]; omega
    · split
      · unfold numberL endedL
        repeat' split
        all_goals first | (simp; done) | (simp only [List.length_take]; omega)
      · split
        · unfold quotedL
          simp only [List.drop_succ_cons, List.drop_zero]
          cases hq : (qGo 0 0 [] t).1 with
          | none => simp
          | some x =>
            have := q_len t 0 0 [] x hq
            simp at this ⊢
            omega
        · split
          · simp
          · split
            · split
              · rename_i h
                cases t with
                | nil => simp at h
                | cons d t => simp
              · split <;> simp
            · simp
theorem scan_len : ∀ (n : Nat) (l : List UInt8) (p : Nat × Nat) (ts : List TokD), (scanF n l p).1 = some ts → ∀ t ∈ ts, t.text.length ≤ l.length
  | 0, _, _, _, h => by simp [scanF] at h
  | n + 1, l, p, ts, h => by
    rw [scanF] at h
    split at h
    · simp only [Option.some.injEq] at h
      subst h
      intro t ht
      rw [List.mem_singleton.1 ht]
      simp
    · split at h
      · simp at h
      · cases hq : scanF n (l.drop (skipN false l + (pieceL (l.drop (skipN false l))).size)) (adv p (l.take (skipN false l + (pieceL (l.drop (skipN false l))).size))) with
        | mk a b =>
          rw [hq] at h
          cases a with
          | none => simp at h
          | some us =>
            simp only [Option.some.injEq] at h
            subst h
            intro t ht
            rcases List.mem_cons.1 ht with rfl | ht
            · have := piece_len (l.drop (skipN false l))
              rw [List.length_drop] at this
              simp only
              omega
            · have := scan_len n _ _ us (by rw [hq]) t ht
              rw [List.length_drop] at this
              omega
theorem scanT_len (l : List UInt8) : ∀ t ∈ scanT l, t.text.length ≤ 140737488351232 := by
  unfold scanT scanL
  by_cases h : 65536 < l.length
  · rw [if_pos h]; simp
  · rw [if_neg h]
    cases hq : scanF (l.length + 1) l (1, 1) with
    | mk a b =>
      cases a with
      | none => simp
      | some ts =>
        simp only [Option.getD_some]
        intro t ht
        have := scan_len _ l (1, 1) ts (by rw [hq]) t ht
        omega

set_option maxRecDepth 1000000 in
set_option maxHeartbeats 1000000 in
theorem scans_law (s : ByteArray) (w : World) (hs : s.size ≤ 9223372036854775800) :
    Calls Try.prog 3 #[.string s] w fun e w' => e = .returned (.bool true) ∧ Keep [] w w' := by
  have h1 : Hid (∀ w, Calls Try.prog 9 #[.string s] w fun e w' => ∃ v, e = .returned (.tuple #[v, .agg #[.int .i64 (scanL s.toList).2.1, .int .i64 ((scanL s.toList).2.2.1 : Int), .int .i64 ((scanL s.toList).2.2.2 : Int)]]) ∧ Ts4 w' v (scanT s.toList) ∧ Keep [] w w') := fun w => by
    refine (scan_any s w hs).mono ?_
    rintro e w' ⟨v, rfl, r, k, -⟩
    exact ⟨v, rfl, Ts4.ofRow r (scanT_len _), k⟩
  have h2 : Hid (∀ w, Calls Try.prog 10 #[.string s] w fun e w' => ∃ v, e = .returned (.tuple #[v, .agg #[.int .i64 (scanL s.toList).2.1, .int .i64 ((scanL s.toList).2.2.1 : Int), .int .i64 ((scanL s.toList).2.2.2 : Int)]]) ∧ Ts4 w' v (scanT s.toList) ∧ Keep [] w w') := fun w => by
    refine (rscan_any s w hs).mono ?_
    rintro e w' ⟨v, rfl, r, k⟩
    exact ⟨v, rfl, Ts4.ofRow r (scanT_len _), k⟩
  generalize scanT s.toList = T at h1 h2
  generalize (scanL s.toList).2.1 = er at h1 h2
  generalize ((scanL s.toList).2.2.1 : Int) = ln at h1 h2
  generalize ((scanL s.toList).2.2.2 : Int) = cl at h1 h2
  go_enter Try.func3, Try.ntmps3
  go_wp2_with fail
  refine (h1.out w).mono ?_
  rintro e w1 ⟨v1, rfl, t1, k1⟩
  have T1 : Hid (Ts4 (w1.alloc (.cells #[.int .i64 er, .int .i64 ln, .int .i64 cl] 25 (0, 0))) v1 T) := t1.keep (Keep.alloc1 w1 _) (Off.nil _)
  have B1 := heap_alloc_new w1 (.cells #[.int .i64 er, .int .i64 ln, .int .i64 cl] 25 (0, 0))
  have K1 : Hid (Keep [] w (w1.alloc (.cells #[.int .i64 er, .int .i64 ln, .int .i64 cl] 25 (0, 0)))) := k1.alloc _
  clear t1 k1
  go_wp2_with fail
  refine (h2.out _).mono ?_
  rintro e w2 ⟨v2, rfl, t2, k2⟩
  have T2 : Hid (Ts4 (w2.alloc (.cells #[.int .i64 er, .int .i64 ln, .int .i64 cl] 25 (0, 0))) v2 T) := t2.keep (Keep.alloc1 w2 _) (Off.nil _)
  have T1b : Hid (Ts4 (w2.alloc (.cells #[.int .i64 er, .int .i64 ln, .int .i64 cl] 25 (0, 0))) v1 T) := (T1.out.keep k2 (Off.nil _)).keep (Keep.alloc1 w2 _) (Off.nil _)
  have B1b := (Below.heap_alloc w2 (.cells #[.int .i64 er, .int .i64 ln, .int .i64 cl] 25 (0, 0)) w1.heap.size (by have := k2.size; simp at this; omega)).trans ((k2.block w1.heap.size (by simp) (by simp)).trans B1)
  have B2 := heap_alloc_new w2 (.cells #[.int .i64 er, .int .i64 ln, .int .i64 cl] 25 (0, 0))
  have K2 : Hid (Keep [] w (w2.alloc (.cells #[.int .i64 er, .int .i64 ln, .int .i64 cl] 25 (0, 0)))) := (K1.out.trans' k2).alloc _
  clear t2 k2 B1 K1 T1 h1 h2
  go_wp2_with fail
  refine (same_yes v1 v2 T _ T1b.out T2.out).mono ?_
  rintro e w3 ⟨rfl, k3⟩
  obtain ⟨a0, a1, a2, -, -, -⟩ := box3 ((k3.block w1.heap.size (Array.getElem?_eq_some_iff.1 B1b).1 (by simp)).trans B1b)
  obtain ⟨b0, b1, b2, -, -, -⟩ := box3 ((k3.block w2.heap.size (Array.getElem?_eq_some_iff.1 B2).1 (by simp)).trans B2)
  have K3 : Hid (Keep [] w w3) := K2.out.trans' k3
  clear k3 K2 B1b B2 T1b T2
  go_wp2_with (go_at_call 12; refine (awake_any _).mono ?_; rintro e w4 ⟨rfl, k4⟩)
  go_ret
  exact ⟨rfl, K3.out.trans' k4⟩
end Go.Proofs.Ytmglbcldjhdhkaa
