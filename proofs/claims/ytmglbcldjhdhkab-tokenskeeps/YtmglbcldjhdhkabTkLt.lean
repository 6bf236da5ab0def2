/- markText, LentTokens. -/
import Derived.Test.YtmglbcldjhdhkabTkC1
namespace Go.Proofs.Ytmglbcldjhdhkab
open Go.RowKit Go.PlainAid

def markL (i : Nat) : List UInt8 := [35, 1, 0, 0, 47, i.toUInt8, 0, 0]
def markT (i : Nat) : TokD := ⟨-7, markL i, 0, 0⟩
def markN (n : Nat) : List TokD := (List.range n).map markT

set_option maxRecDepth 1000000 in
set_option maxHeartbeats 1000000 in
theorem markText_any (i : Nat) (hi : i < 24) (w : World) :
    Calls Try.prog 20 #[.int .i64 1, .int .i64 (i : Int)] w fun e w' => e = .returned (.string (ba (markL i))) ∧ Keep [] w w' := by
  have hst : (convert 55 9 (.slice (some ⟨w.heap.size, 0, none⟩) 8 8)).run Try.prog (w.alloc (.cells #[.int .u8 35, .int .u8 1, .int .u8 0, .int .u8 0, .int .u8 47, .int .u8 (i : Int), .int .u8 0, .int .u8 0] 5 (0, 0))) = .ok (.string (ba (markL i))) (w.alloc (.cells #[.int .u8 35, .int .u8 1, .int .u8 0, .int .u8 0, .int .u8 47, .int .u8 (i : Int), .int .u8 0, .int .u8 0] 5 (0, 0))) := by
    have e : (i : Int) = ((i.toUInt8).toNat : Int) := by simp; omega
    have hr : Row (w.alloc (.cells #[.int .u8 35, .int .u8 1, .int .u8 0, .int .u8 0, .int .u8 47, .int .u8 (i : Int), .int .u8 0, .int .u8 0] 5 (0, 0))) (.slice (some ⟨w.heap.size, 0, none⟩) 8 8) (markL i) := by
      rw [e]
      exact World.ownsRow_lit w #[.int .u8 35, .int .u8 1, .int .u8 0, .int .u8 0, .int .u8 47, .int .u8 (i.toUInt8.toNat : Int), .int .u8 0, .int .u8 0] 8 (Nat.zero_le _) (by unfold maxLen; omega) rfl
    exact run_str hr.bs
  have hw : IntKind.u8.wrap (i : Int) = (i : Int) := by rw [IntKind.wrap_u8]; omega
  have hd1 : (i : Int) / 256 = 0 := by omega
  have hd2 : (i : Int) / 65536 = 0 := by omega
  go_enter Try.func20, Try.ntmps20
  go_wp2
  go_ret
  exact ⟨rfl, Keep.alloc1 w _⟩
theorem mark_len (n : Nat) : (markN n).length = n := by simp [markN]
theorem mark_snoc (n : Nat) : markN (n + 1) = markN n ++ [markT n] := by simp [markN, List.range_succ]
theorem mark_get (n i : Nat) (h : i < (markN n).length) : (markN n)[i] = markT i := by simp [markN]

set_option maxRecDepth 1000000 in
set_option maxHeartbeats 1000000 in
theorem lentT_any (v : Value) (l : List TokD) (w : World) (h : Ts4 w v l) (hlen : l.length ≤ 268435455) :
    Calls Try.prog 10 #[v] w fun e w' => ∃ g cap, e = .returned (.slice (some ⟨g, 0, none⟩) l.length cap) ∧ RowT w' (.slice (some ⟨g, 0, none⟩) (l.length + 24) cap) (l ++ markN 24) ∧ Keep [] w w' ∧ w.heap.size ≤ g := by
  have hT : Hid (Ts4 w v l) := h
  obtain ⟨ao, cap, rfl, -⟩ := h.ex
  clear h
  go_enter Try.func10, Try.ntmps10
  go_wp2
  go_loopw [3, 4] (fun z3 z4 wr => ∃ (k : Nat), z4 = .int .i64 (k : Int) ∧ k ≤ l.length ∧ Hid (RowT wr z3 (l.take k) ∧ Keep [] w wr ∧ ∀ x, z3.ownBlock = some x → w.heap.size ≤ x)) (fun _ z4 _ => l.length - (intOf z4).toNat)
  case atStart => exact ⟨0, rfl, Nat.zero_le _, ⟨World.ownsRow_nil _ 0 36 4, Keep.refl _ _, fun x hx => by simp [Value.ownBlock] at hx⟩⟩
  case round =>
    obtain ⟨k, rfl, hk, hI⟩ := hrel
    by_cases hlt : k < l.length
    · have hlti : (k : Int) < (l.length : Int) := by omega
      obtain ⟨-, bb, oo, rfl, c0, c1, c2, c3⟩ := (hT.out.keep hI.out.2.1 (Off.nil _)).at k hlt
      have hd : Hid (l.take (k + 1) = l.take k ++ [l[k]]) := List.take_succ_eq_append_getElem hlt
      generalize l[k] = t at c0 c1 c2 c3 hd
      have hal : Hid (((l.take k).length + 1) * 40 ≤ 140737488355328 ∧ (l.take k).length + 1 ≤ maxLen) := by
        show _ ∧ _
        rw [List.length_take]
        refine ⟨by omega, ?_⟩
        unfold maxLen; omega
      have hS := src_tok wr t
      have hR := RowC.keep hI.out.1 (Keep.alloc1 wr (.cells #[.int .i64 t.kind, .string (ba t.text), .int .i64 t.line, .int .i64 t.col] 36 (0, 0))) (Off.nil _)
      have HS : Hid _ := hS
      have HR : Hid _ := hR
      clear hS hR
      go_wp2_with (at_builtin; refine wp_appC infoT rfl rfl (.tmp 12) (.tmp 17) 23 23 rfl Try.underlying23 u3 (l.take k).length (toksC (l.take k)) rfl HR.out _ 1 (tokC t) rfl HS.out hal.out.1 hal.out.2 ?_)
      intro v9 w9 R9 K9 F9 S9 _
      obtain ⟨a9, c9, rfl⟩ := S9
      have hx : Hid (RowT w9 (.slice a9 (k + 1) c9) (l.take (k + 1)) ∧ Keep [] w w9 ∧ ∀ x, (Value.slice a9 (k + 1) c9).ownBlock = some x → w.heap.size ≤ x) := by
        have hsz := hI.out.2.1.size
        refine ⟨?_, ?_, fun x hx => ?_⟩
        · unfold RowT; rw [hd.out, toksC_snoc, List.length_append, List.length_take, Nat.min_eq_left (Nat.le_of_lt hlt)]; exact R9
        · exact (hI.out.2.1.alloc _).more K9 (fun x hx => .inr (hI.out.2.2 x (by simpa using hx)))
        · rcases F9 with e | e
          · rw [e] at hx; exact hI.out.2.2 x hx
          · have := (e x hx).1; simp at this; omega
      clear R9 K9 F9 HR HS hI
      go_wp2
      go_roundw
      case rel => exact ⟨k + 1, by go_num, by omega, hx⟩
      case measure => simp [intOf]; omega
    · have hlti : ¬ (k : Int) < (l.length : Int) := by omega
      have hI2 : Hid (RowT wr u3 (l ++ markN 0) ∧ Keep [] w wr ∧ ∀ x, u3.ownBlock = some x → w.heap.size ≤ x) := by
        have := hI.out
        rw [List.take_of_length_le (by omega)] at this
        show _ ∧ _
        rw [show markN 0 = [] from rfl, List.append_nil]
        exact this
      clear hI
      go_wp2
      go_loopw [3, 5] (fun z3 z5 wr => ∃ (j : Nat), z5 = .int .i64 (j : Int) ∧ j ≤ 24 ∧ Hid (RowT wr z3 (l ++ markN j) ∧ Keep [] w wr ∧ ∀ x, z3.ownBlock = some x → w.heap.size ≤ x)) (fun _ z5 _ => 24 - (intOf z5).toNat)
      case atStart => exact ⟨0, rfl, by omega, hI2⟩
      case round =>
        clear hI2
        obtain ⟨j, rfl, hj, hI⟩ := hrel
        by_cases hjl : j < 24
        · have hji : (j : Int) < 24 := by omega
          have HM : Hid (∀ w, Calls Try.prog 20 #[.int .i64 1, .int .i64 (j : Int)] w fun e w' => e = .returned (.string (ba (markL j))) ∧ Keep [] w w') := fun w => markText_any j hjl w
          have hal : Hid (((l ++ markN j).length + 1) * 40 ≤ 140737488355328 ∧ (l ++ markN j).length + 1 ≤ maxLen) := by
            show _ ∧ _
            rw [List.length_append, mark_len]
            refine ⟨by omega, ?_⟩
            unfold maxLen; omega
          have hsn : Hid (l ++ markN (j + 1) = (l ++ markN j) ++ [markT j]) := by show _ = _; rw [mark_snoc, List.append_assoc]
          go_wp2_with fail
          refine (HM.out _).mono ?_
          rintro e w1 ⟨rfl, k1⟩
          have HS : Hid _ := src_tok w1 (markT j)
          have HR : Hid _ := RowC.keep (RowC.keep hI.out.1 k1 (Off.nil _)) (Keep.alloc1 w1 (.cells #[.int .i64 (-7), .string (ba (markL j)), .int .i64 0, .int .i64 0] 36 (0, 0))) (Off.nil _)
          have hI1 : Hid (Keep [] w w1 ∧ ∀ x, u3.ownBlock = some x → w.heap.size ≤ x) := ⟨hI.out.2.1.trans' k1, hI.out.2.2⟩
          clear k1 hI HM
          go_wp2_with (at_builtin; refine wp_appC infoT rfl rfl (.tmp 23) (.tmp 27) 23 23 rfl Try.underlying23 u3 (l ++ markN j).length (toksC (l ++ markN j)) rfl HR.out _ 1 (tokC (markT j)) rfl HS.out hal.out.1 hal.out.2 ?_)
          intro v9 w9 R9 K9 F9 S9 _
          obtain ⟨a9, c9, rfl⟩ := S9
          have hx : Hid (RowT w9 (.slice a9 (l.length + (markN j).length + 1) c9) (l ++ markN (j + 1)) ∧ Keep [] w w9 ∧ ∀ x, (Value.slice a9 (l.length + (markN j).length + 1) c9).ownBlock = some x → w.heap.size ≤ x) := by
            have hsz := hI1.out.1.size
            refine ⟨?_, ?_, fun x hx => ?_⟩
            · have e9 : ((l ++ markN j) ++ [markT j]).length = l.length + (markN j).length + 1 := by rw [List.length_append, List.length_append]; rfl
              unfold RowT; rw [hsn.out, toksC_snoc, e9]; exact R9
            · exact (hI1.out.1.alloc _).more K9 (fun x hx => .inr (hI1.out.2 x (by simpa using hx)))
            · rcases F9 with e | e
              · rw [e] at hx; exact hI1.out.2 x hx
              · have := (e x hx).1; simp at this; omega
          clear R9 K9 F9 HR HS hI1
          go_wp2
          go_roundw
          case rel => exact ⟨j + 1, by go_num, by omega, hx⟩
          case measure => simp [intOf]; omega
        · have hji : ¬ (j : Int) < 24 := by omega
          have hje : j = 24 := by omega
          subst hje
          obtain ⟨h1, h2, h3⟩ := hI.out
          have hll : (l ++ markN 24).length = l.length + 24 := by rw [List.length_append, mark_len]
          rcases RowC.cases h1 with ⟨h0, -⟩ | ⟨g, cap9, e, hc1, hc2, -⟩
          · rw [hll] at h0; omega
          rw [hll] at e hc1
          have hfin : Hid (RowT wr (.slice (some ⟨g, 0, none⟩) (l.length + 24) cap9) (l ++ markN 24) ∧ Keep [] w wr ∧ w.heap.size ≤ g) := ⟨by rw [← e]; exact h1, h2, h3 g (by rw [e]; rfl)⟩
          subst e
          have hcl : l.length ≤ cap9 := by omega
          clear hI h1 h2 h3
          go_wp2
          go_ret
          exact ⟨g, cap9, rfl, hfin.out⟩
end Go.Proofs.Ytmglbcldjhdhkab

