/- BeyondTokens, CopyTokens, ahead: what the laws ask of lists of tokens. -/
import Derived.Test.YtmglbcldjhdhkaaTkPs
import Derived.Test.YtmglbcldjhdhkaaTkX
namespace Go.Proofs.Ytmglbcldjhdhkaa
open Go.RowKit Go.PlainAid

def leftL : Int → List TokD → Int
  | x, [] => x
  | x, t :: ts => if x < 0 then x else leftL (x - 8 - t.text.length) ts
def beyondL (l : List TokD) : Bool := decide (leftL 2147483647 l < 0)
theorem leftL_neg : ∀ (l : List TokD) (x : Int), x < 0 → leftL x l = x
  | [], _, _ => rfl
  | _ :: _, _, h => by rw [leftL, if_pos h]
theorem leftL_ok : ∀ (l : List TokD) (x : Int), 0 ≤ leftL x l → 0 ≤ x ∧ (∀ t ∈ l, (t.text.length : Int) ≤ x) ∧ 8 * (l.length : Int) ≤ x
  | [], x, h => by simp [leftL] at h ⊢; exact h
  | t :: ts, x, h => by
    rw [leftL] at h
    split at h
    · omega
    · obtain ⟨h1, h2, h3⟩ := leftL_ok ts _ h
      refine ⟨by omega, ?_, by simp; omega⟩
      intro u hu
      rcases List.mem_cons.1 hu with rfl | hu
      · omega
      · have := h2 u hu; omega
theorem beyond_ok {l : List TokD} (h : beyondL l = false) : (∀ t ∈ l, t.text.length ≤ 2147483647) ∧ l.length ≤ 268435455 := by
  have h0 : ¬ leftL 2147483647 l < 0 := by simpa [beyondL] using h
  obtain ⟨_, h2, h3⟩ := leftL_ok l 2147483647 (by omega)
  exact ⟨fun t ht => by have := h2 t ht; omega, by omega⟩
theorem drop_at {l : List TokD} {k : Nat} (h : k < l.length) : l.drop k = l[k] :: l.drop (k + 1) := List.drop_eq_getElem_cons h

set_option maxRecDepth 1000000 in
set_option maxHeartbeats 1000000 in
theorem beyond_any (v : Value) (l : List TokD) (w : World) (h : Ts4 w v l) :
    Calls Try.prog 13 #[v] w fun e w' => e = .returned (.bool (beyondL l)) ∧ w' = w := by
  have hT : Hid (Ts4 w v l) := h
  obtain ⟨ao, cap, rfl, h1, h2, -⟩ := h.ex
  have hl : l.length ≤ 9223372036854775807 := by omega
  clear h h1 h2
  go_enter Try.func13, Try.ntmps13
  go_wp2
  go_loopw [3, 4] (fun z3 z4 wr => ∃ (k : Nat) (x : Int), z3 = .int .i64 x ∧ z4 = .int .i64 (k : Int) ∧ k ≤ l.length ∧ -140737488351248 ≤ x ∧ x ≤ 2147483647 ∧ wr = w ∧ Hid (leftL 2147483647 l = leftL x (l.drop k))) (fun _ z4 _ => l.length - (intOf z4).toNat)
  case atStart => exact ⟨0, 2147483647, rfl, rfl, Nat.zero_le _, by omega, by omega, rfl, by show _ = _; rw [List.drop_zero]⟩
  case round =>
    obtain ⟨k, x, rfl, rfl, hk, hx1, hx2, rfl, hI⟩ := hrel
    by_cases hlt : k < l.length
    · have hlti : (k : Int) < (l.length : Int) := by omega
      obtain ⟨-, bb, oo, rfl, c0, c1, c2, c3⟩ := hT.out.at k hlt
      have htx := hT.out.txt l[k] (List.getElem_mem hlt)
      have hd : Hid (l.drop k = l[k] :: l.drop (k + 1)) := drop_at hlt
      generalize l[k] = t at c0 c1 c2 c3 htx hd
      by_cases hn : x < 0
      · have hn2 : ¬ (0 ≤ x) := by omega
        have hB : Hid (beyondL l = true) := by show _ = _; unfold beyondL; rw [hI.out, leftL_neg _ _ hn]; simpa using hn
        go_wp2
        go_ret
        exact ⟨by rw [hB.out]; rfl, rfl⟩
      · have hn2 : 0 ≤ x := by omega
        have hsz : (ba t.text).size = t.text.length := ba_size _
        have hnx : Hid (leftL 2147483647 l = leftL (x - 8 - t.text.length) (l.drop (k + 1))) := by
          show _ = _
          rw [hI.out, hd.out, leftL, if_neg hn]
        clear hI hd
        go_wp2
        go_roundw
        case rel => exact ⟨k + 1, x - 8 - t.text.length, by go_num, by go_num, by omega, by omega, by omega, trivial, hnx⟩
        case measure => simp [intOf]; omega
    · have hlti : ¬ (k : Int) < (l.length : Int) := by omega
      have hB : Hid (beyondL l = decide (x < 0)) := by
        show _ = _
        unfold beyondL
        rw [hI.out, List.drop_of_length_le (by omega)]
        rfl
      by_cases hn : x < 0
      · have hB2 : Hid (beyondL l = true) := by show _ = _; rw [hB.out]; simpa using hn
        clear hI hB
        go_wp2
        go_ret
        exact ⟨by rw [hB2.out]; rfl, rfl⟩
      · have hB2 : Hid (beyondL l = false) := by show _ = _; rw [hB.out]; simpa using hn
        clear hI hB
        go_wp2
        go_ret
        exact ⟨by rw [hB2.out]; rfl, rfl⟩

set_option maxRecDepth 1000000 in
set_option maxHeartbeats 1000000 in
theorem copyT_any (v : Value) (l : List TokD) (w : World) (h : Ts4 w v l) (hlen : l.length ≤ 268435455) :
    Calls Try.prog 19 #[v] w fun e w' => ∃ v', e = .returned v' ∧ RowT w' v' l ∧ Keep [] w w' ∧ ∀ x, v'.ownBlock = some x → w.heap.size ≤ x := by
  have hT : Hid (Ts4 w v l) := h
  obtain ⟨ao, cap, rfl, -⟩ := h.ex
  clear h
  go_enter Try.func19, Try.ntmps19
  go_wp2
  go_loopw [3, 4] (fun z3 z4 wr => ∃ (k : Nat), z4 = .int .i64 (k : Int) ∧ k ≤ l.length ∧ Hid (RowT wr z3 (l.take k) ∧ Keep [] w wr ∧ ∀ x, z3.ownBlock = some x → w.heap.size ≤ x)) (fun _ z4 _ => l.length - (intOf z4).toNat)
  case atStart => exact ⟨0, rfl, Nat.zero_le _, ⟨World.ownsRow_nil _ 0 37 4, Keep.refl _ _, fun x hx => by simp [Value.ownBlock] at hx⟩⟩
  case round =>
    obtain ⟨k, rfl, hk, hI⟩ := hrel
    by_cases hlt : k < l.length
    · have hlti : (k : Int) < (l.length : Int) := by omega
      obtain ⟨-, bb, oo, rfl, c0, c1, c2, c3⟩ := (hT.out.keep hI.out.2.1 (Off.nil _)).at k hlt
      have hd : Hid (l.take (k + 1) = l.take k ++ [l[k]]) := List.take_succ_eq_append_getElem hlt
      generalize l[k] = t at c0 c1 c2 c3 hd
      have hal : Hid (((l.take k).length + 1) * 40 ≤ 140737488355328 ∧ (l.take k).length + 1 ≤ maxLen) := by
        show _ ∧ _
        rw [List.length_take]
        refine ⟨by omega, ?_⟩
        unfold maxLen; omega
      have hS := src_tok wr t
      have hR := RowC.keep hI.out.1 (Keep.alloc1 wr (.cells #[.int .i64 t.kind, .string (ba t.text), .int .i64 t.line, .int .i64 t.col] 37 (0, 0))) (Off.nil _)
      have HS : Hid _ := hS
      have HR : Hid _ := hR
      clear hS hR
      go_wp2_with (at_builtin; refine wp_appC infoT rfl rfl (.tmp 11) (.tmp 16) 22 22 rfl Try.underlying22 u3 (l.take k).length (toksC (l.take k)) rfl HR.out _ 1 (tokC t) rfl HS.out hal.out.1 hal.out.2 ?_)
      intro v9 w9 R9 K9 F9 S9 _
      obtain ⟨a9, c9, rfl⟩ := S9
      have hx : Hid (RowT w9 (.slice a9 (k + 1) c9) (l.take (k + 1)) ∧ Keep [] w w9 ∧ ∀ x, (Value.slice a9 (k + 1) c9).ownBlock = some x → w.heap.size ≤ x) := by
        have hsz := hI.out.2.1.size
        refine ⟨?_, ?_, fun x hx => ?_⟩
        · unfold RowT; rw [hd.out, toksC_snoc, List.length_append, List.length_take, Nat.min_eq_left (Nat.le_of_lt hlt)]; exact R9
        · exact (hI.out.2.1.alloc _).more K9 (fun x hx => .inr (hI.out.2.2 x (by simpa using hx)))
        · rcases F9 with e | e
          · rw [e] at hx; exact hI.out.2.2 x hx
          · have := (e x hx).1; simp at this; omega
      clear R9 K9 F9 HR HS hI
      go_wp2
      go_roundw
      case rel => exact ⟨k + 1, by go_num, by omega, hx⟩
      case measure => simp [intOf]; omega
    · have hlti : ¬ (k : Int) < (l.length : Int) := by omega
      have hI2 : Hid (RowT wr u3 l ∧ Keep [] w wr ∧ ∀ x, u3.ownBlock = some x → w.heap.size ≤ x) := by
        have := hI.out
        rwa [List.take_of_length_le (by omega)] at this
      clear hI
      go_wp2
      go_ret
      exact ⟨_, rfl, hI2.out⟩

def aheadL (l : List TokD) : List TokD := match l.getLast? with
  | some t => if t.kind = 7 then l.dropLast else l
  | none => l
theorem ahead_snoc (Q : List TokD) (t : TokD) : aheadL (Q ++ [t]) = if t.kind = 7 then Q else Q ++ [t] := by
  unfold aheadL
  rw [List.getLast?_append]
  simp

set_option maxRecDepth 1000000 in
set_option maxHeartbeats 1000000 in
theorem ahead_any (v : Value) (l : List TokD) (w : World) (h : Ts4 w v l) :
    Calls Try.prog 21 #[v] w fun e w' => ∃ v', e = .returned v' ∧ Ts4 w v' (aheadL l) ∧ w' = w := by
  have hT : Hid (Ts4 w v l) := h
  obtain ⟨ao, cap, rfl, h1, h2, -⟩ := h.ex
  rcases List.eq_nil_or_concat l with rfl | ⟨Q, t, hl⟩
  · clear h h1 h2
    simp only [List.length_nil] at hT ⊢
    go_enter Try.func21, Try.ntmps21
    go_wp2
    go_ret
    exact ⟨_, rfl, hT.out, rfl⟩
  · rw [List.concat_eq_append] at hl
    have hln : l.length = Q.length + 1 := by rw [hl]; simp
    have hA : Hid (aheadL l = if t.kind = 7 then Q else l) := by show _ = _; rw [hl, ahead_snoc]
    obtain ⟨-, b0, o0, rfl, c0, c1, -, -⟩ := h.at Q.length (by omega)
    have hlt0 : l[Q.length]'(by omega) = t := by simp [hl]
    rw [hlt0] at c0 c1
    have hF : Hid (Ts4 w (.slice (some ⟨b0, o0, none⟩) Q.length cap) Q) := by
      have := h.front Q.length (by omega)
      rwa [hl, List.take_left'] at this
      rfl
    have hn1 : (0 : Int) < (Q.length : Int) + 1 := by omega
    have hq4 : Q.length + 1 ≤ 9223372036854775807 := by omega
    have hcap : Q.length + 1 ≤ cap := by omega
    rw [hln] at hT ⊢
    clear h h1 h2 hlt0 hl hln
    by_cases h7 : t.kind = 7
    · rw [h7] at c0
      rw [if_pos h7] at hA
      go_enter Try.func21, Try.ntmps21
      go_wp2
      go_ret
      exact ⟨_, rfl, by rw [hA.out]; exact hF.out, rfl⟩
    · rw [if_neg h7] at hA
      have hne : (t.kind == 7) = false := by simpa using h7
      go_enter Try.func21, Try.ntmps21
      go_wp2
      go_ret
      exact ⟨_, rfl, by rw [hA.out]; exact hT.out, rfl⟩
end Go.Proofs.Ytmglbcldjhdhkaa
