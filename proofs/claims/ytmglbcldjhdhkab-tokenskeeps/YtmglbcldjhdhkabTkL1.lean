/- TokensLimits: long texts, many tokens, the words: what they are as plain data, and rows that are written. -/
import Derived.Test.YtmglbcldjhdhkabTkKc
import Derived.Test.YtmglbcldjhdhkabTkAw
import Derived.OwnWalk
namespace Go.Proofs.Ytmglbcldjhdhkab
open Go.RowKit Go.PlainAid

theorem gap_rep : ∀ n, gapOk (List.replicate n 32)
  | 0 => gap_nil
  | n + 1 => by rw [List.replicate_succ]; exact gap_blank (by decide) (gap_rep n)
theorem scan_blank (n : Nat) (h : n ≤ 65536) : scanL (List.replicate n 32) = (some [⟨7, [], 1, ((n + 1 : Nat) : Int)⟩], 0, 0, 0) := by
  have hs := scan_weave [] (List.replicate n 32) (n + 1) (1, 1) (by simp) (by simp) (gap_rep n) trivial
  rw [weave, weaveT, adv_flat _ _ (by intro c hc; rw [(List.mem_replicate.1 hc).2]; decide), List.length_replicate] at hs
  unfold scanL
  rw [List.length_replicate, if_neg (by omega), hs]
  simp [Nat.add_comm]
theorem scan_over (l : List UInt8) (h : 65536 < l.length) : scanL l = (none, 3, 0, 0) := by unfold scanL; rw [if_pos h]
def rowA : List UInt8 := [97, 98, 99, 100, 101, 102, 103, 104, 105, 106, 107, 108, 109, 110, 111, 112, 113, 114, 115, 116, 117, 118, 119, 120, 121, 122, 95, 48, 49, 50, 51, 52]
def rowB : List UInt8 := [97, 98, 99, 100, 101, 102, 103, 104, 105, 106, 107, 108, 109, 110, 111, 112, 113, 114, 115, 116, 117, 118, 119, 120, 121, 122, 95, 48, 49, 50, 51, 52, 53]
theorem scan_rowA : scanL rowA = (some [⟨1, rowA, 1, 1⟩, ⟨7, [], 1, 33⟩], 0, 0, 0) := by kernel_rfl
theorem scan_rowB : scanL rowB = (none, 50, 1, 33) := by kernel_rfl
def wordsL : List (List UInt8) := [[116, 121, 112, 101], [114, 101, 108, 97, 116, 105, 111, 110], [99, 111, 110, 100], [111, 114], [97, 110, 100], [110, 111, 116], [102, 114, 111, 109], [119, 105, 116, 104], [105, 110], [116, 114, 117, 101], [102, 97, 108, 115, 101], [110, 97, 110], [105, 110, 102]]
def word1 (x : List UInt8) : Prop := ∃ a b : TokD, scanL x = (some [a, b], 0, 0, 0) ∧ a.kind = 2
theorem scan_words (k : Nat) (h : k < 13) : word1 (wordsL.getD k []) := by
  have h13 : k = 0 ∨ k = 1 ∨ k = 2 ∨ k = 3 ∨ k = 4 ∨ k = 5 ∨ k = 6 ∨ k = 7 ∨ k = 8 ∨ k = 9 ∨ k = 10 ∨ k = 11 ∨ k = 12 := by omega
  rcases h13 with rfl | rfl | rfl | rfl | rfl | rfl | rfl | rfl | rfl | rfl | rfl | rfl | rfl
  · exact ⟨⟨2, [116, 121, 112, 101], 1, 1⟩, ⟨7, [], 1, 5⟩, by kernel_rfl, rfl⟩
  · exact ⟨⟨2, [114, 101, 108, 97, 116, 105, 111, 110], 1, 1⟩, ⟨7, [], 1, 9⟩, by kernel_rfl, rfl⟩
  · exact ⟨⟨2, [99, 111, 110, 100], 1, 1⟩, ⟨7, [], 1, 5⟩, by kernel_rfl, rfl⟩
  · exact ⟨⟨2, [111, 114], 1, 1⟩, ⟨7, [], 1, 3⟩, by kernel_rfl, rfl⟩
  · exact ⟨⟨2, [97, 110, 100], 1, 1⟩, ⟨7, [], 1, 4⟩, by kernel_rfl, rfl⟩
  · exact ⟨⟨2, [110, 111, 116], 1, 1⟩, ⟨7, [], 1, 4⟩, by kernel_rfl, rfl⟩
  · exact ⟨⟨2, [102, 114, 111, 109], 1, 1⟩, ⟨7, [], 1, 5⟩, by kernel_rfl, rfl⟩
  · exact ⟨⟨2, [119, 105, 116, 104], 1, 1⟩, ⟨7, [], 1, 5⟩, by kernel_rfl, rfl⟩
  · exact ⟨⟨2, [105, 110], 1, 1⟩, ⟨7, [], 1, 3⟩, by kernel_rfl, rfl⟩
  · exact ⟨⟨2, [116, 114, 117, 101], 1, 1⟩, ⟨7, [], 1, 5⟩, by kernel_rfl, rfl⟩
  · exact ⟨⟨2, [102, 97, 108, 115, 101], 1, 1⟩, ⟨7, [], 1, 6⟩, by kernel_rfl, rfl⟩
  · exact ⟨⟨2, [110, 97, 110], 1, 1⟩, ⟨7, [], 1, 4⟩, by kernel_rfl, rfl⟩
  · exact ⟨⟨2, [105, 110, 102], 1, 1⟩, ⟨7, [], 1, 4⟩, by kernel_rfl, rfl⟩
/-- the token that is printed many times -/
def tokA : TokD := ⟨1, [97], 0, 0⟩
def tokAB : TokD := ⟨1, [97, 98], 0, 0⟩
def tok0 : TokD := ⟨0, [], 0, 0⟩
theorem join_rep : ∀ n, (joinL (List.replicate (n + 1) tokA)).length = 2 * n + 1
  | 0 => rfl
  | n + 1 => by
    have := join_rep n
    rw [List.replicate_succ, List.replicate_succ, joinL, ← List.replicate_succ]
    rw [List.length_append, List.length_cons, this]
    show 1 + _ = _
    omega
theorem cut_no (Q : List TokD) (t : TokD) (h : t.kind ≠ 7) : cutE (Q ++ [t]) = Q ++ [t] := by
  rw [cut_last, if_neg]
  simp [endB, h]
theorem rep_snoc (n : Nat) (t : TokD) : List.replicate (n + 1) t = List.replicate n t ++ [t] := List.replicate_succ'
theorem all_rep (n : Nat) : ∀ t ∈ List.replicate n tokA, printB t = true := by
  intro t ht
  rw [(List.mem_replicate.1 ht).2]
  kernel_rfl
theorem print_a : ∃ J, printL (List.replicate 32768 tokA) = (J, 0) ∧ J.length = 65535 := by
  have hc : cutE (List.replicate 32768 tokA) = List.replicate 32768 tokA := by
    rw [rep_snoc 32767]; exact cut_no _ _ (by decide)
  have hl := join_rep 32767
  refine ⟨joinL (List.replicate 32768 tokA), ?_, by rw [hl]⟩
  have := print_ok (l := List.replicate 32768 tokA) (by rw [hc]; exact all_rep _) (by rw [hc, hl]; omega)
  rwa [hc] at this
theorem print_b : printL (List.replicate 32769 tokA) = ([], 3) := by
  have hc : cutE (List.replicate 32769 tokA) = List.replicate 32769 tokA := by
    rw [rep_snoc 32768]; exact cut_no _ _ (by decide)
  exact print_long (by rw [hc]; exact all_rep _) (by rw [hc, join_rep 32768]; omega)
theorem print_c : ∃ J, printL (List.replicate 32767 tokA ++ [tokAB]) = (J, 0) ∧ J.length = 65536 := by
  have hc : cutE (List.replicate 32767 tokA ++ [tokAB]) = List.replicate 32767 tokA ++ [tokAB] := cut_no _ _ (by decide)
  have hl : (joinL (List.replicate 32767 tokA ++ [tokAB])).length = 65536 := by
    rw [join_snoc, if_neg (by intro e; have := congrArg List.length e; rw [List.length_replicate] at this; simp at this), List.length_append, List.length_cons, join_rep 32766]
    rfl
  refine ⟨joinL (List.replicate 32767 tokA ++ [tokAB]), ?_, hl⟩
  have := print_ok (l := List.replicate 32767 tokA ++ [tokAB]) (by
    rw [hc]
    intro t ht
    rcases List.mem_append.1 ht with ht | ht
    · exact all_rep _ t ht
    · rw [List.mem_singleton.1 ht]; kernel_rfl) (by rw [hc, hl]; omega)
  rwa [hc] at this

/-- the first k are b, the others a -/
def fillR {α : Type} (a b : α) (n k : Nat) : List α := List.replicate k b ++ List.replicate (n - k) a
theorem fillR_zero {α : Type} (a b : α) (n : Nat) : fillR a b n 0 = List.replicate n a := by simp [fillR]
theorem fillR_full {α : Type} (a b : α) (n : Nat) : fillR a b n n = List.replicate n b := by simp [fillR]
theorem fillR_len {α : Type} (a b : α) (n k : Nat) (h : k ≤ n) : (fillR a b n k).length = n := by simp [fillR]; omega
theorem fillR_next {α : Type} (a b : α) (n k : Nat) (h : k < n) : (fillR a b n k).set k b = fillR a b n (k + 1) := by
  unfold fillR
  obtain ⟨m, hm⟩ : ∃ m, n - k = m + 1 := ⟨n - k - 1, by omega⟩
  rw [hm, List.set_append_right _ _ (by simp), List.length_replicate, Nat.sub_self, List.replicate_succ, List.set_cons_zero, show n - (k + 1) = m by omega]
  rw [show List.replicate (k + 1) b = List.replicate k b ++ [b] from List.replicate_succ']
  simp
theorem Row.set {w : World} {g cap : Nat} {l : List UInt8} (h : Row w (.slice (some ⟨g, 0, none⟩) l.length cap) l) (i : Nat) (y : UInt8) :
    Row (w.setCell ⟨g, i, none⟩ (.int .u8 (y.toNat : Int))) (.slice (some ⟨g, 0, none⟩) (l.set i y).length cap) (l.set i y) := by
  have h1 := (World.ownsRow.stored h i (.int .u8 (y.toNat : Int))).1
  have h2 : (bv l).set i (.int .u8 (y.toNat : Int)) = bv (l.set i y) := by simp [bv, List.map_set]
  rw [h2] at h1
  rw [List.length_set]
  show World.ownsRow _ _ _ _ _ (l.set i y).length _
  rw [List.length_set]
  exact h1
theorem toks_at (l : List TokD) (j : Nat) : (toksC l)[j]? = (l[j / 4]?).bind fun t => (tokC t)[j % 4]? := by
  by_cases h : j / 4 < l.length
  · rw [List.getElem?_eq_getElem h]
    have := getD_cell l (j / 4) (j % 4) h (by omega)
    rw [show j / 4 * 4 + j % 4 = j by omega] at this
    exact this
  · rw [List.getElem?_eq_none (show (toksC l).length ≤ j by rw [toksC_len]; omega), List.getElem?_eq_none (show l.length ≤ j / 4 by omega)]
    rfl
/-- the j-th cell of the k-th token is another one -/
theorem toks_set (l : List TokD) (k j : Nat) (t : TokD) (u : Value) (hk : k < l.length) (hj : j < 4) (h : ∀ i, i < 4 → (tokC t)[i]? = if i = j then some u else (tokC l[k])[i]?) : (toksC l).set (k * 4 + j) u = toksC (l.set k t) := by
  apply List.ext_getElem?
  intro m
  rw [toks_at, List.getElem?_set, List.getElem?_set, toks_at]
  by_cases e : k * 4 + j = m
  · subst e
    rw [if_pos rfl, if_pos (by rw [toksC_len]; omega), if_pos (by omega), if_pos hk]
    have := h j hj
    rw [if_pos rfl] at this
    simp only [Option.bind_some]
    rw [show (k * 4 + j) % 4 = j by omega, this]
  · rw [if_neg e]
    by_cases e2 : k = m / 4
    · rw [if_pos e2, if_pos hk]
      simp only [Option.bind_some]
      have := h (m % 4) (by omega)
      rw [if_neg (by omega)] at this
      rw [this, ← e2, List.getElem?_eq_getElem hk]
      rfl
    · rw [if_neg e2]
theorem RowT.set1 {w : World} {g cap n : Nat} {l : List TokD} (h : RowC w 36 4 (.slice (some ⟨g, 0, none⟩) n cap) n (toksC l)) (k j : Nat) (t : TokD) (u : Value) (hk : k < l.length) (hj : j < 4) (hu : ∀ i, i < 4 → (tokC t)[i]? = if i = j then some u else (tokC l[k])[i]?) :
    RowC (w.setCell ⟨g, k * 4 + j, none⟩ u) 36 4 (.slice (some ⟨g, 0, none⟩) n cap) n (toksC (l.set k t)) := by
  have h1 := (World.ownsRow.stored h (k * 4 + j) u).1
  rwa [toks_set l k j t u hk hj hu] at h1
theorem made_toks (n : Nat) : (madeCells (Value.agg #[.int .i64 0, .string ByteArray.empty, .int .i64 0, .int .i64 0]).cells (n * 4)).toList = toksC (List.replicate n tok0) := by
  apply List.ext_getElem?
  intro j
  rw [toks_at]
  by_cases h : j < n * 4
  · rw [List.getElem?_replicate, if_pos (by omega)]
    have hm : j % 4 = 0 ∨ j % 4 = 1 ∨ j % 4 = 2 ∨ j % 4 = 3 := by omega
    rcases hm with e | e | e | e <;> simp [madeCells, h, Value.cells, e, tokC, tok0, ba]
    rfl
  · rw [List.getElem?_replicate, if_neg (by omega), List.getElem?_eq_none (by rw [Array.length_toList, size_madeCells]; omega)]
    rfl
theorem made_bytes (n : Nat) : (madeCells (Value.int .u8 0).cells (n * 1)).toList = bv (List.replicate n 0) := by
  rw [Nat.mul_one]
  have := toList_madeCells_one (.int .u8 0) n
  rw [show (Value.int .u8 0).cells = #[.int .u8 0] from rfl, this]
  simp [bv]
/-- all but the first -/
theorem Ts4.tail {w : World} {b o n cap : Nat} {t : TokD} {l : List TokD} (h : Ts4 w (.slice (some ⟨b, o, none⟩) (n + 1) (cap + 1)) (t :: l)) : Ts4 w (.slice (some ⟨b, o + 4, none⟩) n cap) l := by
  obtain ⟨ao, c, e, h1, h2, h3, h4⟩ := h.ex
  simp only [Value.slice.injEq, List.length_cons] at e
  obtain ⟨rfl, e1, rfl⟩ := e
  have e1' : n = l.length := by omega
  subst e1'
  refine ⟨⟨some ⟨b, o + 4, none⟩, cap, rfl, by simp at h1; omega, by omega, (by intro h; cases h), fun _ => ⟨b, o + 4, rfl, fun i hi => ?_⟩⟩, fun u hu => h.txt u (List.mem_cons_of_mem _ hu)⟩
  obtain ⟨b', o', e, hc⟩ := h4 (by simp)
  simp only [Option.some.injEq, Addr.mk.injEq, and_true] at e
  obtain ⟨rfl, rfl⟩ := e
  have := hc (i + 1) (by simpa using hi)
  simp only [List.getElem_cons_succ] at this
  rw [show o + (i + 1) * 4 = o + 4 + i * 4 by omega] at this
  exact this
theorem scan_yes (l : List UInt8) (ts : List TokD) (h : scanL l = (some ts, 0, 0, 0)) (hl : l.length ≤ 65536) (w : World) :
    Calls Try.prog 6 #[.string (ba l)] w fun e w' => ∃ a c, e = .returned (.tuple #[.slice a ts.length c, .agg #[.int .i64 0, .int .i64 0, .int .i64 0]]) ∧ RowT w' (.slice a ts.length c) ts ∧ Keep [] w w' ∧ ∀ x, (Value.slice a ts.length c).ownBlock = some x → w.heap.size ≤ x := by
  have := scan_any (ba l) w (by rw [ba_size]; omega)
  rw [ba_toList, scanT, h] at this
  simp only [Option.getD_some] at this
  refine this.mono ?_
  rintro e w' ⟨v, rfl, h1, h2, h3⟩
  rcases RowC.cases h1 with ⟨h0, _, e⟩ | ⟨g, cap, e, _⟩
  · rw [e] at h1 ⊢
    refine ⟨none, 0, by rw [h0]; rfl, by rw [h0]; exact h1, h2, fun x hx => by simp [Value.ownBlock] at hx⟩
  · rw [e] at h1 h3 ⊢
    exact ⟨some ⟨g, 0, none⟩, cap, rfl, h1, h2, h3⟩
theorem scan_nay (l : List UInt8) (er : Int) (q : Nat × Nat) (h : scanL l = (none, er, q)) (hl : l.length ≤ 9223372036854775800) (w : World) :
    Calls Try.prog 6 #[.string (ba l)] w fun e w' => ∃ a c, e = .returned (.tuple #[.slice a 0 c, .agg #[.int .i64 er, .int .i64 (q.1 : Int), .int .i64 (q.2 : Int)]]) ∧ Keep [] w w' := by
  have := scan_any (ba l) w (by rw [ba_size]; omega)
  rw [ba_toList, scanT, h] at this
  simp only [Option.getD_none] at this
  refine this.mono ?_
  rintro e w' ⟨v, rfl, h1, h2, _⟩
  rcases RowC.cases h1 with ⟨h0, _, e⟩ | ⟨g, cap, e, _⟩
  · rw [e]
    exact ⟨none, 0, rfl, h2⟩
  · rw [e]
    exact ⟨some ⟨g, 0, none⟩, cap, rfl, h2⟩
end Go.Proofs.Ytmglbcldjhdhkab

