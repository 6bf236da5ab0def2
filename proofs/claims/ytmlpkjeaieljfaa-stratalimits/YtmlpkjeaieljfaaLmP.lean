/- StrataLimits: the walk. -/
import Derived.Test.YtmlpkjeaieljfaaCh
import Derived.Test.YtmlpkjeaieljfaaLl
import Derived.Test.YtmlpkjeaieljfaaOa
namespace Go.Proofs.Ytmlpkjeaieljfaa
open Go.RowKit Go.PlainAid

theorem strata_ch (v : Value) (A : List Ar) (w : World) (h : Rd encA 3 w v A) (hc : Chain A) (hl : A.length ≤ 262144) (hg : ∀ a ∈ A, a.g = decide (0 < a.f % 3)) : Calls Try.prog 16 #[.int .i64 4096, v] w fun e w' => ∃ g s, e = .returned (.tuple #[.slice (some ⟨g, 0, none⟩) 4096 4096, .int .i64 0]) ∧ Arr 3 eN w' g 4096 s ∧ (s.getD 0 0 = 2730 ∧ s.getD 4095 0 = 0) ∧ Keep [] w w' := by
  refine (strata_own levels_own 4096 v A w h (fault_small (by omega) hl hc.node)).mono ?_
  rintro e w' ⟨p, ⟨h4, -⟩, ⟨-, v', rfl, g, s, rfl, -, h6, h7, h8⟩ | ⟨h5, -⟩⟩
  · have hu := h7.uniq (hc.least hg)
    refine ⟨g, s, rfl, h6, ⟨?_, ?_⟩, h8⟩
    · exact (hu 0 (by omega)).trans (by decide)
    · exact (hu 4095 (by omega)).trans (by decide)
  · exact absurd (hc.noBad h4) h5
theorem parts_ch (v : Value) (A : List Ar) (w : World) (h : Rd encA 3 w v A) (hc : Chain A) (hl : A.length ≤ 262144) : Calls Try.prog 12 #[.int .i64 4096, v] w fun e w' => ∃ g s, e = .returned (.tuple #[.slice (some ⟨g, 0, none⟩) 4096 4096, .int .i64 0]) ∧ Arr 3 eN w' g 4096 s ∧ (s.getD 0 0 = 4095 ∧ s.getD 4095 0 = 0) ∧ Keep [] w w' := by
  refine (parts_yes 4096 v A w h (fault_small (by omega) hl hc.node)).mono ?_
  rintro e w' ⟨v', rfl, g, p, rfl, -, h3, ⟨h4, -⟩, h5⟩
  exact ⟨g, p, rfl, h3, ⟨hc.parts h4 0 (by omega), hc.parts h4 4095 (by omega)⟩, h5⟩
theorem reach_ch (v u : Value) (A : List Ar) (w : World) (h : Rd encA 3 w v A) (hc : Chain A) (hl : A.length ≤ 262144) (hu : Rd encI 1 w u [4094]) (hb : ∀ x, u.ownBlock = some x → x < w.heap.size) : Calls Try.prog 21 #[.int .i64 4096, v, u] w fun e w' => ∃ a c, e = .returned (.tuple #[.slice a 2 c, .int .i64 0]) ∧ Keep [] w w' := by
  refine (reach_yes 4096 v u A [4094] w h (fault_small (by omega) hl hc.node) hu hb).mono ?_
  intro e w' h1
  unfold RcR at h1
  rw [if_pos (by decide)] at h1
  obtain ⟨v', m, rfl, h2, h3⟩ := h1
  obtain ⟨a, c, e2⟩ := (h2.row.rd encN_len).form'
  rw [hc.reach h3] at e2
  exact ⟨a, c, by rw [e2], h2.keep⟩
theorem ring_ch (v : Value) (A : List Ar) (w : World) (h : Rd encA 3 w v A) (hc : Chain A) (hl : A.length ≤ 262144) : Calls Try.prog 17 #[.int .i64 4096, v] w fun e w' => ∃ a c, e = .returned (.tuple #[.slice a 0 c, .int .i64 0]) ∧ Keep [] w w' := by
  refine (ring_yes 4096 v A w h (fault_small (by omega) hl hc.node)).mono ?_
  rintro e w' ⟨v', rfl, p, ⟨h4, -⟩, h2⟩
  have : (List.range 4096).filter (fun k => decide (((p.getD k 0 : Nat) : Int) = badL p A)) = [] := by
    rw [hc.bad h4, List.filter_eq_nil_iff]
    intro x _
    simp
  rw [this] at h2
  obtain ⟨a, c, e2⟩ := (h2.row.rd encN_len).form'
  exact ⟨a, c, by rw [e2]; rfl, h2.keep⟩

/-- the arcs while they are written -/
structure Fl (w : World) (g M i : Nat) (L : List Ar) (wr : World) : Prop where
  row : Rw 36 encA 3 wr (.slice (some ⟨g, 0, none⟩) M M) L
  len : L.length = M
  at_ : ∀ j, j < i → L[j]? = some (arcAt j)
  keep : Keep [] w wr
  new : w.heap.size ≤ g
theorem Fl.next {w : World} {g M i : Nat} {L : List Ar} {wr : World} (h : Fl w g M i L wr) (hi : i < M) : Fl w g M (i + 1) (L.set i (arcAt i)) (((wr.setCell ⟨g, i * 3, none⟩ (.int .i64 ((arcAt i).f : Int))).setCell ⟨g, i * 3 + 1, none⟩ (.int .i64 ((arcAt i).t : Int))).setCell ⟨g, i * 3 + 2, none⟩ (.bool (arcAt i).g)) := by
  have hl := h.len
  refine ⟨h.row.put3 hl i hi (arcAt i), by rw [List.length_set]; exact hl, fun j hj => ?_, ?_, h.new⟩
  · rw [List.getElem?_set]
    by_cases e : i = j
    · subst e
      rw [if_pos rfl, if_pos (by omega)]
    · rw [if_neg e]; exact h.at_ j (by omega)
  · refine ((h.keep.setCell ?_ _).setCell ?_ _).setCell ?_ _ <;> exact .inr h.new
/-- a piece of a row reads as a piece of its list -/
theorem Fl.piece {w : World} {g M : Nat} {L : List Ar} {wr : World} (h : Fl w g M M L wr) (s n cap : Nat) (hs : s + n ≤ M) (hc : n ≤ cap) (hm : cap ≤ maxLen) : Rd encA 3 wr (.slice (some ⟨g, s * 3, none⟩) n cap) ((List.range n).map fun i => arcAt (s + i)) := by
  have hl := h.len
  rcases h.row.cases encA_len with ⟨e1, e2⟩ | ⟨g', cap', e, h1, h2, h3, h4, _⟩
  · simp at e2
  · simp only [Value.slice.injEq, Option.some.injEq, Addr.mk.injEq] at e
    obtain ⟨⟨rfl, -⟩, -, rfl⟩ := e
    refine ⟨some ⟨g, s * 3, none⟩, cap, by simp, by simpa using hc, hm, (by intro h; cases h), fun _ => ⟨g, s * 3, rfl, h3, fun j hj i hi => ?_⟩⟩
    have hj2 : j < n := by simpa using hj
    have h5 := h4 (s + j) (by omega) i hi
    rw [show s * 3 + j * 3 + i = (s + j) * 3 + i by omega, h5]
    have h6 := h.at_ (s + j) (by omega)
    rw [List.getElem?_eq_getElem (by omega)] at h6
    simp only [Option.some.injEq] at h6
    rw [h6]
    simp
end Go.Proofs.Ytmlpkjeaieljfaa
