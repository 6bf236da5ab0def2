/- SameTokens; how long the texts of tokens are that are scanned, and how many there are. -/
import Derived.Test.YtmglbcldjhdhkabTkRe
import Derived.Deep.QuietTactic
import Derived.BigQuiet
namespace Go.Proofs.Ytmglbcldjhdhkab
open Go.RowKit Go.PlainAid

set_option maxRecDepth 1000000 in
set_option maxHeartbeats 1000000 in
theorem same_yes (v1 v2 : Value) (x : List TokD) (w : World) (h1 : Ts4 w v1 x) (h2 : Ts4 w v2 x) :
    Calls Try.prog 8 #[v1, v2] w fun e w' => e = .returned (.bool true) ∧ Keep [] w w' := by
  have HT1 : Hid (Ts4 w v1 x) := h1
  have HT2 : Hid (Ts4 w v2 x) := h2
  obtain ⟨a3, c3, rfl, q1, q2, -⟩ := h1.ex
  obtain ⟨a4, c4, rfl, -⟩ := h2.ex
  have hx63 : x.length ≤ 9223372036854775807 := by omega
  clear q1 q2 h1 h2
  go_enter Try.func8, Try.ntmps8
  go_wp2
  go_loopw [5] (fun z wr => ∃ (k : Nat), z = .int .i64 (k : Int) ∧ k ≤ x.length ∧ Hid (Keep [] w wr)) (fun z _ => x.length - (intOf z).toNat)
  case atStart => exact ⟨0, rfl, Nat.zero_le _, Keep.refl _ _⟩
  case round =>
    obtain ⟨k, rfl, hk, hI⟩ := hrel
    by_cases hlt : k < x.length
    · have hlti : (k : Int) < (x.length : Int) := by omega
      obtain ⟨-, b1, o1, rfl, c0, c1, c2, c3'⟩ := (HT1.out.keep hI.out (Off.nil _)).at k hlt
      obtain ⟨-, b2, o2, rfl, d0, d1, d2, d3⟩ := (HT2.out.keep hI.out (Off.nil _)).at k hlt
      have hK : Hid (Keep [] w wr) := hI.out
      generalize x[k].kind = tk at c0 d0
      generalize x[k].text = tt at c1 d1
      generalize x[k].line = tl at c2 d2
      generalize x[k].col = tc at c3' d3
      clear hI
      go_wp2
      go_quiet (fail)
      go_wp2
      go_roundw
      case rel => exact ⟨k + 1, by go_num, by omega, by first | exact hK.out.drewN _ | exact hK.out.drew | exact hK.out⟩
      case measure => simp [intOf]; omega
    · have hlti : ¬ (k : Int) < (x.length : Int) := by omega
      have hK := hI.out
      go_wp2
      go_ret
      exact ⟨rfl, hK⟩

theorem q_len : ∀ (t : List UInt8) (st : Int) (d : UInt8) (acc x : List UInt8), (qGo st d acc t).1 = some x → x.length ≤ acc.length + t.length
  | [], st, d, acc, x, h => by simp [qGo] at h
  | c :: t, st, d, acc, x, h => by
    rw [qGo] at h
    split at h
    · simp at h; rw [← h]; simp
    · split at h
      · simp at h
      · rename_i st' d' acc' hq
        have := q_len t st' d' acc' x (by simpa using h)
        have ha : acc'.length ≤ acc.length + 1 := by
          unfold qStep at hq
          repeat' split at hq
          all_goals first | (cases hq; done) | (simp only [Option.some.injEq, Prod.mk.injEq] at hq; obtain ⟨_, _, rfl⟩ := hq; simp)
        simp
        omega
theorem piece_len (l : List UInt8) : (pieceL l).text.length ≤ l.length := by
  cases l with
  | nil => simp [pieceL]
  | cons c t =>
    rw [pieceL]
    split
    · unfold rowL
      split
      · simp
      · simp only [List.length_take]; omega
    · split
      · unfold numberL endedL
        repeat' split
        all_goals first | (simp; done) | (simp only [List.length_take]; omega)
      · split
        · unfold quotedL
          simp only [List.drop_succ_cons, List.drop_zero]
          cases hq : (qGo 0 0 [] t).1 with
          | none => simp
          | some x =>
            have := q_len t 0 0 [] x hq
            simp at this ⊢
            omega
        · split
          · simp
          · split
            · split
              · rename_i h
                cases t with
                | nil => simp at h
                | cons d t => simp
              · split <;> simp
            · simp
theorem scan_len : ∀ (n : Nat) (l : List UInt8) (p : Nat × Nat) (ts : List TokD), (scanF n l p).1 = some ts → ∀ t ∈ ts, t.text.length ≤ l.length
  | 0, _, _, _, h => by simp [scanF] at h
  | n + 1, l, p, ts, h => by
    rw [scanF] at h
    split at h
    · simp only [Option.some.injEq] at h
      subst h
      intro t ht
      rw [List.mem_singleton.1 ht]
      simp
    · split at h
      · simp at h
      · cases hq : scanF n (l.drop (skipN false l + (pieceL (l.drop (skipN false l))).size)) (adv p (l.take (skipN false l + (pieceL (l.drop (skipN false l))).size))) with
        | mk a b =>
          rw [hq] at h
          cases a with
          | none => simp at h
          | some us =>
            simp only [Option.some.injEq] at h
            subst h
            intro t ht
            rcases List.mem_cons.1 ht with rfl | ht
            · have := piece_len (l.drop (skipN false l))
              rw [List.length_drop] at this
              simp only
              omega
            · have := scan_len n _ _ us (by rw [hq]) t ht
              rw [List.length_drop] at this
              omega
theorem scanT_len (l : List UInt8) : ∀ t ∈ scanT l, t.text.length ≤ 140737488351232 := by
  unfold scanT scanL
  by_cases h : 65536 < l.length
  · rw [if_pos h]; simp
  · rw [if_neg h]
    cases hq : scanF (l.length + 1) l (1, 1) with
    | mk a b =>
      cases a with
      | none => simp
      | some ts =>
        simp only [Option.getD_some]
        intro t ht
        have := scan_len _ l (1, 1) ts (by rw [hq]) t ht
        omega

theorem scanF_many : ∀ (n : Nat) (l : List UInt8) (p : Nat × Nat) (ts : List TokD), (scanF n l p).1 = some ts → ts.length ≤ n
  | 0, _, _, _, h => by simp [scanF] at h
  | n + 1, l, p, ts, h => by
    rw [scanF] at h
    split at h
    · simp only [Option.some.injEq] at h
      subst h
      simp
    · split at h
      · simp at h
      · cases hq : scanF n (l.drop (skipN false l + (pieceL (l.drop (skipN false l))).size)) (adv p (l.take (skipN false l + (pieceL (l.drop (skipN false l))).size))) with
        | mk a b =>
          rw [hq] at h
          cases a with
          | none => simp at h
          | some us =>
            simp only [Option.some.injEq] at h
            subst h
            have := scanF_many n _ _ us (by rw [hq])
            simp
            exact this
theorem scanT_many (l : List UInt8) : (scanT l).length ≤ 65537 := by
  unfold scanT scanL
  by_cases h : 65536 < l.length
  · rw [if_pos h]; simp
  · rw [if_neg h]
    cases hq : scanF (l.length + 1) l (1, 1) with
    | mk a b =>
      cases a with
      | none => simp
      | some ts =>
        simp only [Option.getD_some]
        have := scanF_many _ l (1, 1) ts (by rw [hq])
        omega
end Go.Proofs.Ytmglbcldjhdhkab

