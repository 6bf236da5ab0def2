/- Rows of arguments of one's own: the cells, an append, what is lent. -/
import Derived.Test.YtbflhpafejmelaaSaG
import Derived.Deep.RegionHeld3
namespace Go.Proofs.Ytbflhpafejmelaa
open Go.RowKit Go.PlainAid

abbrev cells7 (p : AD × Value) : List Value := [.string p.1.nm, .int .i64 p.1.val.kind, .bool p.1.val.bool, .int .i64 p.1.val.int, .float .f32 p.1.val.real, .string p.1.val.text, p.2]
theorem flat7_len : ∀ (ps : List (AD × Value)), (ps.flatMap cells7).length = ps.length * 7
  | [] => rfl
  | p :: ps => by rw [List.flatMap_cons, List.length_append, flat7_len ps, List.length_cons]; simp; omega
theorem flat7_get : ∀ (ps : List (AD × Value)) (i c : Nat) (h : i < ps.length), c < 7 → (ps.flatMap cells7)[i * 7 + c]? = (cells7 ps[i])[c]?
  | p :: ps, 0, c, _, hc => by
    rw [List.flatMap_cons, List.getElem?_append_left (by simp; omega)]
    simp
  | p :: ps, i + 1, c, h, hc => by
    rw [List.flatMap_cons, List.getElem?_append_right (by simp; omega)]
    have := flat7_get ps i c (by simpa using h) hc
    rw [show (i + 1) * 7 + c - (cells7 p).length = i * 7 + c by simp; omega, this]
    simp

theorem infoA : (Try.prog.info? 49).map (fun i => (i.zero, i.size, i.bytes)) = some (some (.agg #[.string ByteArray.empty, .int .i64 0, .bool false, .int .i64 0, .float .f32 0, .string ByteArray.empty, .slice none 0 0]), 7, 88) := by kernel_rfl
/-- a row of arguments of one's own -/
abbrev RowP (w : World) (v : Value) (ps : List (AD × Value)) : Prop := RowC w 49 7 v ps.length (ps.flatMap cells7)
abbrev blk7 (x : AD) (u : Value) : Obj := .cells #[.string x.nm, .int .i64 x.val.kind, .bool x.val.bool, .int .i64 x.val.int, .float .f32 x.val.real, .string x.val.text, u] 49 (0, 0)
theorem src_arg (w : World) (x : AD) (ao : Option Addr) (n c : Nat) : Src Try.prog 7 26 (.slice (some ⟨w.heap.size, 0, none⟩) 1 1) 1 (cells7 (x, .slice ao n c)) (w.alloc (blk7 x (.slice ao n c))) := by
  refine Src.ofSlice _ Try.underlying26 ⟨w.heap.size, 0, none⟩ 1 1 (cells7 (x, .slice ao n c)) rfl (fun j u hu => ?_) (fun u hu => ?_)
  · have hj := (List.getElem?_eq_some_iff.1 hu).1
    have hj : j < 7 := by simpa using hj
    rcases (show j = 0 ∨ j = 1 ∨ j = 2 ∨ j = 3 ∨ j = 4 ∨ j = 5 ∨ j = 6 by omega) with rfl | rfl | rfl | rfl | rfl | rfl | rfl <;>
    · simp at hu
      subst hu
      simp [Addr.add]
  · simp at hu
    rcases hu with rfl | rfl | rfl | rfl | rfl | rfl | rfl <;> rfl

/-- the texts of p are lent: they lie at lo or behind, off the row z, with the marks behind their end -/
def UL (w : World) (lo : Nat) (z : Value) (p : AD × Value) : Prop := ∃ g c, p.2 = .slice (some ⟨g, 0, none⟩) p.1.val.texts.length c ∧ Ts w (.slice (some ⟨g, 0, none⟩) (p.1.val.texts.length + 24) c) (p.1.val.texts ++ marks 24) ∧ Ts w (.slice (some ⟨g, 0, none⟩) p.1.val.texts.length c) p.1.val.texts ∧ lo ≤ g ∧ g < w.heap.size ∧ ∀ x, z.ownBlock = some x → g ≠ x
theorem UL.keep {w w' : World} {lo : Nat} {z z' : Value} {p : AD × Value} {F : List Nat} (h : UL w lo z p) (k : Keep F w w') (hF : ∀ x ∈ F, (∃ y, z.ownBlock = some y ∧ x = y) ∨ x < lo ∨ w.heap.size ≤ x) (hz : ∀ x, z'.ownBlock = some x → z.ownBlock = some x ∨ w.heap.size ≤ x) : UL w' lo z' p := by
  obtain ⟨g, c, e, h1, h2, h3, h4, h5⟩ := h
  have hoff : g ∉ F := fun hx => by
    rcases hF g hx with ⟨y, e1, e2⟩ | e1 | e1
    · exact h5 y e1 e2
    · omega
    · omega
  refine ⟨g, c, e, h1.keep k (fun q hq => ?_), h2.keep k (fun q hq => ?_), h3, Nat.lt_of_lt_of_le h4 k.size, fun x hx e1 => ?_⟩
  · simp [Value.ownBlock] at hq; subst hq; exact hoff
  · simp [Value.ownBlock] at hq; subst hq; exact hoff
  · rcases hz x hx with e2 | e2
    · exact h5 x e2 e1
    · omega

/-- a mark as an argument -/
def mkA (i : Nat) : AD × Value := (⟨markS i, ⟨0, false, 0, 0, ByteArray.empty, []⟩⟩, .slice none 0 0)
def mkAs (n : Nat) : List (AD × Value) := (List.range n).map mkA
theorem mkAs_len (n : Nat) : (mkAs n).length = n := by simp [mkAs]
theorem mkAs_snoc (n : Nat) : mkAs (n + 1) = mkAs n ++ [mkA n] := by simp [mkAs, List.range_succ]
theorem mkAs_get (n i : Nat) (h : i < (mkAs n).length) : (mkAs n)[i] = mkA i := by simp [mkAs]

/-- a list of arguments that is lent: at g, with the marks behind its end -/
structure Lg (w : World) (lo g cap : Nat) (l : List AD) : Prop where
  cap1 : l.length + 24 ≤ cap
  cap2 : cap ≤ 9223372036854775807
  lo1 : lo ≤ g
  lt : g < w.heap.size
  arg : ∀ i (h : i < l.length), ∃ g' c, ArgC w g (i * 7) l[i] (.slice (some ⟨g', 0, none⟩) l[i].val.texts.length c) ∧ Ts w (.slice (some ⟨g', 0, none⟩) (l[i].val.texts.length + 24) c) (l[i].val.texts ++ marks 24) ∧ Ts w (.slice (some ⟨g', 0, none⟩) l[i].val.texts.length c) l[i].val.texts ∧ lo ≤ g'
  mks : ∀ j, j < 24 → w.cell? ⟨g, (l.length + j) * 7, none⟩ = some (.string (markS j))
theorem ArgC.keepF {w w' : World} {b o : Nat} {x : AD} {u : Value} {F : List Nat} (h : ArgC w b o x u) (k : Keep F w w') (hn : b ∉ F) : ArgC w' b o x u :=
  ⟨k.cell' h.nm hn, k.cell' h.kind hn, k.cell' h.bool hn, k.cell' h.int hn, k.cell' h.real hn, k.cell' h.text hn, k.cell' h.texts hn⟩
theorem Lg.keep {w w' : World} {lo g cap : Nat} {l : List AD} {F : List Nat} (h : Lg w lo g cap l) (k : Keep F w w') (hF : ∀ x ∈ F, x < lo) : Lg w' lo g cap l := by
  have hg : g ∉ F := fun hx => by have := hF g hx; have := h.lo1; omega
  refine ⟨h.cap1, h.cap2, h.lo1, Nat.lt_of_lt_of_le h.lt k.size, fun i hi => ?_, fun j hj => k.cell' (h.mks j hj) hg⟩
  obtain ⟨g', c, h1, h2, h3, h4⟩ := h.arg i hi
  have hg' : g' ∉ F := fun hx => by have := hF g' hx; omega
  exact ⟨g', c, h1.keepF k hg, h2.keep k (fun q hq => by simp [Value.ownBlock] at hq; subst hq; exact hg'), h3.keep k (fun q hq => by simp [Value.ownBlock] at hq; subst hq; exact hg'), h4⟩
theorem Lg.as {w : World} {lo g cap : Nat} {l : List AD} (h : Lg w lo g cap l) (hok : ∀ x ∈ l, x.val.Ok) : As w (.slice (some ⟨g, 0, none⟩) l.length cap) l := by
  refine ⟨hok, some ⟨g, 0, none⟩, cap, rfl, by have := h.cap1; omega, h.cap2, fun _ => ⟨g, 0, rfl, fun i hi => ?_⟩⟩
  obtain ⟨g', c, h1, h2, h3, h4⟩ := h.arg i hi
  exact ⟨_, by rw [Nat.zero_add]; exact h1, h3⟩
theorem Lg.later {w : World} {lo lo' g cap : Nat} {l : List AD} (h : Lg w lo g cap l) (hl : lo' ≤ lo) : Lg w lo' g cap l :=
  ⟨h.cap1, h.cap2, Nat.le_trans hl h.lo1, h.lt, fun i hi => by obtain ⟨g', c, h1, h2, h3, h4⟩ := h.arg i hi; exact ⟨g', c, h1, h2, h3, Nat.le_trans hl h4⟩, h.mks⟩
/-- a row with the marks behind is lent -/
theorem Lg.ofRow {w : World} {lo g cap : Nat} {ps : List (AD × Value)} {z : Value} (h : RowP w z (ps ++ mkAs 24)) (hz : z = .slice (some ⟨g, 0, none⟩) (ps.length + 24) cap) (hlo : lo ≤ g) (hu : ∀ p ∈ ps, UL w lo z p) : Lg w lo g cap (ps.map (·.1)) := by
  subst hz
  rcases RowC.cases h with ⟨_, _, h3⟩ | ⟨g', cap', he, h1, h2, h3, hc, _⟩
  · simp at h3
  · simp only [Value.slice.injEq, Option.some.injEq, Addr.mk.injEq] at he
    obtain ⟨⟨rfl, _, _⟩, hn, rfl⟩ := he
    rw [List.length_append, mkAs_len] at h1 hc
    have cell : ∀ i (hi : i < (ps ++ mkAs 24).length) c, c < 7 → w.cell? ⟨g, i * 7 + c, none⟩ = (cells7 (ps ++ mkAs 24)[i])[c]? := fun i hi c hcc => by
      rw [List.length_append, mkAs_len] at hi
      rw [hc (i * 7 + c) (by omega), flat7_get _ i c (by rw [List.length_append, mkAs_len]; exact hi) hcc]
    refine ⟨by simpa using h1, h2, hlo, h3, fun i hi => ?_, fun j hj => ?_⟩
    · have hi' : i < ps.length := by simpa using hi
      have he : (ps ++ mkAs 24)[i]'(by rw [List.length_append]; omega) = ps[i] := List.getElem_append_left hi'
      obtain ⟨g', c, e, t1, t2, t3, t4, t5⟩ := hu ps[i] (List.getElem_mem hi')
      have hx : (ps.map (·.1))[i] = ps[i].1 := by simp
      rw [hx]
      have cc : ∀ k, k < 7 → w.cell? ⟨g, i * 7 + k, none⟩ = (cells7 ps[i])[k]? := fun k hk => by
        have := cell i (by rw [List.length_append]; omega) k hk
        rwa [he] at this
      refine ⟨g', c, ⟨by simpa using cc 0 (by omega), by simpa using cc 1 (by omega), by simpa using cc 2 (by omega), by simpa using cc 3 (by omega), by simpa using cc 4 (by omega), by simpa using cc 5 (by omega), by simpa [e] using cc 6 (by omega)⟩, t1, t2, t3⟩
    · have he : (ps ++ mkAs 24)[ps.length + j]'(by rw [List.length_append, mkAs_len]; omega) = mkA j := by
        rw [List.getElem_append_right (by omega)]
        simp [mkAs]
      have := cell (ps.length + j) (by rw [List.length_append, mkAs_len]; omega) 0 (by omega)
      rw [he] at this
      simpa [mkA] using this
end Go.Proofs.Ytbflhpafejmelaa
