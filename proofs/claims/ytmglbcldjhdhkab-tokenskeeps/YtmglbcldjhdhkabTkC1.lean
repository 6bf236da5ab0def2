/- BeyondTokens, CopyTokens, ahead: what the laws ask of lists of tokens. -/
import Derived.Test.YtmglbcldjhdhkabTkPs
import Derived.Test.YtmglbcldjhdhkabTkX
namespace Go.Proofs.Ytmglbcldjhdhkab
open Go.RowKit Go.PlainAid

def leftL : Int → List TokD → Int
  | x, [] => x
  | x, t :: ts => if x < 0 then x else leftL (x - 8 - t.text.length) ts
def beyondL (l : List TokD) : Bool := decide (leftL 2147483647 l < 0)
theorem leftL_neg : ∀ (l : List TokD) (x : Int), x < 0 → leftL x l = x
  | [], _, _ => rfl
  | _ :: _, _, h => by rw [leftL, if_pos h]
theorem leftL_ok : ∀ (l : List TokD) (x : Int), 0 ≤ leftL x l → 0 ≤ x ∧ (∀ t ∈ l, (t.text.length : Int) ≤ x) ∧ 8 * (l.length : Int) ≤ x
  | [], x, h => by simp [leftL] at h ⊢; exact h
  | t :: ts, x, h => by
    rw [leftL] at h
    split at h
    · omega
    · obtain ⟨h1, h2, h3⟩ := leftL_ok ts _ h
      refine ⟨by omega, ?_, by simp; omega⟩
      intro u hu
      rcases List.mem_cons.1 hu with rfl | hu
      · omega
      · have := h2 u hu; omega
theorem beyond_ok {l : List TokD} (h : beyondL l = false) : (∀ t ∈ l, t.text.length ≤ 2147483647) ∧ l.length ≤ 268435455 := by
  have h0 : ¬ leftL 2147483647 l < 0 := by simpa [beyondL] using h
  obtain ⟨_, h2, h3⟩ := leftL_ok l 2147483647 (by omega)
  exact ⟨fun t ht => by have := h2 t ht; omega, by omega⟩
theorem drop_at {l : List TokD} {k : Nat} (h : k < l.length) : l.drop k = l[k] :: l.drop (k + 1) := List.drop_eq_getElem_cons h

set_option maxRecDepth 1000000 in
set_option maxHeartbeats 1000000 in
theorem copyT_any (v : Value) (l : List TokD) (w : World) (h : Ts4 w v l) (hlen : l.length ≤ 268435455) :
    Calls Try.prog 9 #[v] w fun e w' => ∃ v', e = .returned v' ∧ RowT w' v' l ∧ Keep [] w w' ∧ ∀ x, v'.ownBlock = some x → w.heap.size ≤ x := by
  have hT : Hid (Ts4 w v l) := h
  obtain ⟨ao, cap, rfl, -⟩ := h.ex
  clear h
  go_enter Try.func9, Try.ntmps9
  go_wp2
  go_loopw [3, 4] (fun z3 z4 wr => ∃ (k : Nat), z4 = .int .i64 (k : Int) ∧ k ≤ l.length ∧ Hid (RowT wr z3 (l.take k) ∧ Keep [] w wr ∧ ∀ x, z3.ownBlock = some x → w.heap.size ≤ x)) (fun _ z4 _ => l.length - (intOf z4).toNat)
  case atStart => exact ⟨0, rfl, Nat.zero_le _, ⟨World.ownsRow_nil _ 0 36 4, Keep.refl _ _, fun x hx => by simp [Value.ownBlock] at hx⟩⟩
  case round =>
    obtain ⟨k, rfl, hk, hI⟩ := hrel
    by_cases hlt : k < l.length
    · have hlti : (k : Int) < (l.length : Int) := by omega
      obtain ⟨-, bb, oo, rfl, c0, c1, c2, c3⟩ := (hT.out.keep hI.out.2.1 (Off.nil _)).at k hlt
      have hd : Hid (l.take (k + 1) = l.take k ++ [l[k]]) := List.take_succ_eq_append_getElem hlt
      generalize l[k] = t at c0 c1 c2 c3 hd
      have hal : Hid (((l.take k).length + 1) * 40 ≤ 140737488355328 ∧ (l.take k).length + 1 ≤ maxLen) := by
        show _ ∧ _
        rw [List.length_take]
        refine ⟨by omega, ?_⟩
        unfold maxLen; omega
      have hS := src_tok wr t
      have hR := RowC.keep hI.out.1 (Keep.alloc1 wr (.cells #[.int .i64 t.kind, .string (ba t.text), .int .i64 t.line, .int .i64 t.col] 36 (0, 0))) (Off.nil _)
      have HS : Hid _ := hS
      have HR : Hid _ := hR
      clear hS hR
      go_wp2_with (at_builtin; refine wp_appC infoT rfl rfl (.tmp 11) (.tmp 16) 23 23 rfl Try.underlying23 u3 (l.take k).length (toksC (l.take k)) rfl HR.out _ 1 (tokC t) rfl HS.out hal.out.1 hal.out.2 ?_)
      intro v9 w9 R9 K9 F9 S9 _
      obtain ⟨a9, c9, rfl⟩ := S9
      have hx : Hid (RowT w9 (.slice a9 (k + 1) c9) (l.take (k + 1)) ∧ Keep [] w w9 ∧ ∀ x, (Value.slice a9 (k + 1) c9).ownBlock = some x → w.heap.size ≤ x) := by
        have hsz := hI.out.2.1.size
        refine ⟨?_, ?_, fun x hx => ?_⟩
        · unfold RowT; rw [hd.out, toksC_snoc, List.length_append, List.length_take, Nat.min_eq_left (Nat.le_of_lt hlt)]; exact R9
        · exact (hI.out.2.1.alloc _).more K9 (fun x hx => .inr (hI.out.2.2 x (by simpa using hx)))
        · rcases F9 with e | e
          · rw [e] at hx; exact hI.out.2.2 x hx
          · have := (e x hx).1; simp at this; omega
      clear R9 K9 F9 HR HS hI
      go_wp2
      go_roundw
      case rel => exact ⟨k + 1, by go_num, by omega, hx⟩
      case measure => simp [intOf]; omega
    · have hlti : ¬ (k : Int) < (l.length : Int) := by omega
      have hI2 : Hid (RowT wr u3 l ∧ Keep [] w wr ∧ ∀ x, u3.ownBlock = some x → w.heap.size ≤ x) := by
        have := hI.out
        rwa [List.take_of_length_le (by omega)] at this
      clear hI
      go_wp2
      go_ret
      exact ⟨_, rfl, hI2.out⟩

def aheadL (l : List TokD) : List TokD := match l.getLast? with
  | some t => if t.kind = 7 then l.dropLast else l
  | none => l
theorem ahead_snoc (Q : List TokD) (t : TokD) : aheadL (Q ++ [t]) = if t.kind = 7 then Q else Q ++ [t] := by
  unfold aheadL
  rw [List.getLast?_append]
  simp

end Go.Proofs.Ytmglbcldjhdhkab

