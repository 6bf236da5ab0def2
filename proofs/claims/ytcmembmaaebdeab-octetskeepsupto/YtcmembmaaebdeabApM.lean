/- Rows of bytes that lie apart: what is written into one of them leaves the others as they were. -/
import Derived.Test.YtcmembmaaebdeabAnyW
import Derived.Test.YtcmembmaaebdeabOverW
namespace Go.Proofs.Ytcmembmaaebdeab
open Go.RowKit Go.PlainAid Go.Lib

/-- the blocks of n slices -/
def blks (n : Nat) (F : Nat → Value) : List Nat := (List.range n).filterMap fun k => (F k).ownBlock
theorem mem_blks {n : Nat} {F : Nat → Value} {x : Nat} : x ∈ blks n F ↔ ∃ k, k < n ∧ (F k).ownBlock = some x := by
  simp [blks]

/-- one place of a function turned -/
def updF {α : Type} (m : Nat → α) (k : Nat) (x : α) : Nat → α := fun j => if j = k then x else m j
theorem updF_at {α : Type} (m : Nat → α) (k : Nat) (x : α) : updF m k x k = x := by simp [updF]
theorem updF_ne {α : Type} (m : Nat → α) (k : Nat) (x : α) {j : Nat} (h : j ≠ k) : updF m k x j = m j := by simp [updF, h]

/-- n rows of bytes of one's own, apart from one another and from the block b that names them -/
structure Ap (w : World) (b n : Nat) (F : Nat → Value) (m : Nat → List UInt8) : Prop where
  cell : ∀ k, k < n → w.cell? ⟨b, k, none⟩ = some (F k)
  row : ∀ k, k < n → Row w (F k) (m k)
  off : ∀ k, k < n → (F k).ownBlock ≠ some b
  sep : ∀ j k, j < n → k < n → j ≠ k → ∀ x, (F j).ownBlock = some x → (F k).ownBlock ≠ some x

theorem Ap.keep {G : List Nat} {w w' : World} {b n : Nat} {F : Nat → Value} {m : Nat → List UInt8} (h : Ap w b n F m) (K : Keep G w w') (hb : b ∉ G) (hG : ∀ k, k < n → Off (F k) G) : Ap w' b n F m :=
  ⟨fun k hk => K.cell' (h.cell k hk) hb, fun k hk => (h.row k hk).keep K (hG k hk), h.off, h.sep⟩

/-- one of the rows is written, the others stay -/
theorem Ap.turn {w w' : World} {b n : Nat} {F : Nat → Value} {m : Nat → List UInt8} (h : Ap w b n F m) (k : Nat) (hk : k < n) (K : Keep (F k).ownBlock.toList w w') (l : List UInt8) (hr : Row w' (F k) l) : Ap w' b n F (updF m k l) := by
  refine ⟨fun j hj => K.cell' (h.cell j hj) (fun hx => h.off k hk (by simpa using hx)), fun j hj => ?_, h.off, h.sep⟩
  by_cases e : j = k
  · subst e
    rw [updF_at]
    exact hr
  · rw [updF_ne _ _ _ e]
    exact (h.row j hj).keep K (fun x hx hm => h.sep j k hj hk e x hx (by simpa using hm))

theorem Ap.same {w : World} {b n : Nat} {F : Nat → Value} {m m' : Nat → List UInt8} (h : Ap w b n F m) (e : ∀ k, k < n → m' k = m k) : Ap w b n F m' :=
  ⟨h.cell, fun k hk => by rw [e k hk]; exact h.row k hk, h.off, h.sep⟩

/-- a slice of bytes of one's own: nothing, or an address with its cells -/
theorem Row.cases {w : World} {v : Value} {l : List UInt8} (h : Row w v l) : (l = [] ∧ v = .slice none 0 0) ∨
    ∃ g cap, v = .slice (some ⟨g, 0, none⟩) l.length cap ∧ l.length ≤ cap ∧ cap ≤ 9223372036854775807 ∧ g < w.heap.size ∧ (∀ j, j < l.length → w.cell? ⟨g, j, none⟩ = some (.int .u8 ((l.getD j 0).toNat : Int))) ∧ ∀ j, w.frozen? ⟨g, j, none⟩ = false := by
  rcases RowC.cases h with ⟨h0, _, hv⟩ | ⟨g, cap, hv, h1, h2, h3, h4, h5⟩
  · exact .inl ⟨List.eq_nil_of_length_eq_zero h0, hv⟩
  · refine .inr ⟨g, cap, hv, h1, h2, h3, fun j hj => ?_, h5⟩
    rw [h4 j (by omega), bv_get l j hj, List.getD_eq_getElem?_getD, List.getElem?_eq_getElem hj]
    rfl

/-- of two slices of one block, the shorter one reads as it did where the longer one does -/
theorem Row.front {w w2 : World} {u v : Value} {l r : List UInt8} (hu : Row w u l) (hv : Row w v (l ++ r)) (hb : u.ownBlock = v.ownBlock) (h2 : Row w2 v (l ++ r)) : Row w2 u l := by
  rcases hu.2 with ⟨rfl, hz⟩ | ⟨g, cap, cur, rfl, hbg, hg, hnc, hcm, hcs, htake⟩
  · exact ⟨hu.1, .inl ⟨rfl, hz⟩⟩
  · rcases hv.2 with ⟨rfl, _⟩ | ⟨g', cap', cur', rfl, _, hg', hnc', hcm', hcs', htake'⟩
    · simp [Value.ownBlock] at hb
    · simp [Value.ownBlock] at hb
      subst hb
      rw [hg] at hg'
      simp at hg'
      subst hg'
      have hcc : cap = cap' := by omega
      subst hcc
      rcases h2.2 with ⟨h, _⟩ | ⟨g2, cap2, cur2, he, hb2, hg2, hnc2, hcm2, hcs2, htake2⟩
      · simp at h
      · simp at he
        obtain ⟨rfl, rfl⟩ := he
        refine ⟨hu.1, .inr ⟨g, cap, cur2, rfl, Nat.zero_le _, hg2, hnc, hcm, hcs2, ?_⟩⟩
        have h3 := congrArg (List.take (l.length * 1)) htake2
        rw [List.take_take, Nat.min_eq_left (by simp), bv_append, List.take_append_of_le_length (by simp [bv_length])] at h3
        rw [h3]
        exact List.take_of_length_le (by simp [bv_length])

theorem marks_get (k n i : Nat) (h : i < n) : (marks k n).getD i 0 = mkB k i := by
  simp [marks, List.getD_eq_getElem?_getD, h]
theorem marks_app (k n m : Nat) : ∃ r, marks k (n + m) = marks k n ++ r ∧ r.length = m := by
  refine ⟨(marks k (n + m)).drop n, ?_, by simp [marks_len]⟩
  have h : (marks k (n + m)).take n = marks k n := by
    simp [marks, ← List.map_take, List.take_range]
  rw [← h, List.take_append_drop]
theorem take_set (l : List UInt8) (i : Nat) (h : i < l.length) (x : UInt8) : (l.set i x).take (i + 1) = l.take i ++ [x] := by
  rw [List.take_add_one, List.getElem?_eq_getElem (by simpa using h)]
  simp [List.take_set_of_le]

end Go.Proofs.Ytcmembmaaebdeab
