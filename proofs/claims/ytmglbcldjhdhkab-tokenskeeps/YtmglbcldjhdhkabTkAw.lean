/- The fixed answers (awake) are as they should be. -/
import Derived.Test.YtmglbcldjhdhkabTkPt
import Derived.Test.YtmglbcldjhdhkabTkX
namespace Go.Proofs.Ytmglbcldjhdhkab
open Go.RowKit Go.PlainAid

/-- tokens in a new block -/
theorem ts_new (w : World) (l : List TokD) (hl : l.length ≤ 9223372036854775807) (ht : ∀ t ∈ l, t.text.length ≤ 140737488351232) : Ts4 (w.alloc (.cells (toksC l).toArray 36 (0, 0))) (.slice (some ⟨w.heap.size, 0, none⟩) l.length l.length) l := by
  refine ⟨⟨some ⟨w.heap.size, 0, none⟩, l.length, rfl, Nat.le_refl _, hl, (by intro h; cases h), fun _ => ⟨w.heap.size, 0, rfl, fun i hi => ?_⟩⟩, ht⟩
  have e := fun j (hj : j < 4) => ((box_cell (heap_alloc_new w (.cells (toksC l).toArray 36 (0, 0))) (i * 4 + j)).1).trans ((List.getElem?_toArray).trans (getD_cell l i j hi hj))
  simp only [Nat.zero_add]
  exact ⟨e 0 (by omega), e 1 (by omega), e 2 (by omega), e 3 (by omega)⟩
def tk5 : List TokD := [⟨1, [97], 1, 1⟩, ⟨6, [60, 61], 1, 3⟩, ⟨4, [49, 46, 53], 1, 6⟩, ⟨5, [74], 2, 1⟩, ⟨7, [], 2, 7⟩]
theorem scan5 : scanL [97, 32, 60, 61, 32, 49, 46, 53, 32, 47, 47, 32, 120, 10, 34, 92, 120, 52, 65, 34] = (some tk5, 0, 0, 0) := by kernel_rfl
theorem print2 : printL [⟨1, [97], 0, 0⟩, ⟨5, [34], 0, 0⟩] = ([97, 32, 34, 92, 34, 34], 0) := by kernel_rfl
theorem row5 {w : World} {v : Value} (h : RowT w v tk5) : ∃ g cap, v = .slice (some ⟨g, 0, none⟩) 5 cap ∧ 5 ≤ cap ∧ w.cell? ⟨g, 5, none⟩ = some (.string ⟨#[60, 61]⟩) ∧
    w.cell? ⟨g, 8, none⟩ = some (.int .i64 4) ∧ w.cell? ⟨g, 9, none⟩ = some (.string ⟨#[49, 46, 53]⟩) ∧ w.cell? ⟨g, 10, none⟩ = some (.int .i64 1) ∧ w.cell? ⟨g, 11, none⟩ = some (.int .i64 6) ∧
    w.cell? ⟨g, 12, none⟩ = some (.int .i64 5) ∧ w.cell? ⟨g, 13, none⟩ = some (.string ⟨#[74]⟩) ∧ w.cell? ⟨g, 14, none⟩ = some (.int .i64 2) ∧ w.cell? ⟨g, 15, none⟩ = some (.int .i64 1) ∧
    w.cell? ⟨g, 16, none⟩ = some (.int .i64 7) ∧ w.cell? ⟨g, 19, none⟩ = some (.int .i64 7) := by
  rcases RowC.cases h with ⟨h0, _⟩ | ⟨g, cap, rfl, h1, h2, _, hc, _⟩
  · cases h0
  · exact ⟨g, cap, rfl, h1, hc 5 (by decide), hc 8 (by decide), hc 9 (by decide), hc 10 (by decide), hc 11 (by decide), hc 12 (by decide), hc 13 (by decide), hc 14 (by decide), hc 15 (by decide), hc 16 (by decide), hc 19 (by decide)⟩

theorem scan_five (w : World) : Calls Try.prog 6 #[.string ⟨#[97, 32, 60, 61, 32, 49, 46, 53, 32, 47, 47, 32, 120, 10, 34, 92, 120, 52, 65, 34]⟩] w fun e w' => ∃ v, e = .returned (.tuple #[v, .agg #[.int .i64 0, .int .i64 0, .int .i64 0]]) ∧ RowT w' v tk5 ∧ Keep [] w w' := by
  have := scan_any (ba [97, 32, 60, 61, 32, 49, 46, 53, 32, 47, 47, 32, 120, 10, 34, 92, 120, 52, 65, 34]) w (by rw [ba_size]; decide)
  rw [ba_toList, scanT, scan5] at this
  refine this.mono ?_
  rintro e w' ⟨v, rfl, h1, h2, _⟩
  exact ⟨v, rfl, h1, h2⟩
theorem print_two (w : World) (v : Value) (h : Ts4 w v [⟨1, [97], 0, 0⟩, ⟨5, [34], 0, 0⟩]) : Calls Try.prog 11 #[v] w fun e w' => e = .returned (.tuple #[.string ⟨#[97, 32, 34, 92, 34, 34]⟩, .int .i64 0]) ∧ Keep [] w w' := by
  have := print_any v _ w h
  rwa [print2] at this
theorem ts_two (w : World) : Ts4 (w.alloc (.cells #[.int .i64 1, .string ⟨#[97]⟩, .int .i64 0, .int .i64 0, .int .i64 5, .string ⟨#[34]⟩, .int .i64 0, .int .i64 0] 36 (0, 0))) (.slice (some ⟨w.heap.size, 0, none⟩) 2 2) [⟨1, [97], 0, 0⟩, ⟨5, [34], 0, 0⟩] :=
  ts_new w [⟨1, [97], 0, 0⟩, ⟨5, [34], 0, 0⟩] (by decide) (by simp)

set_option maxRecDepth 1000000 in
set_option maxHeartbeats 400000 in
theorem awake_any (w : World) : Calls Try.prog 5 #[] w fun e w' => e = .returned (.bool true) ∧ Keep [] w w' := by
  have hS : Hid _ := scan_five
  go_enter Try.func5, Try.ntmps5
  go_wp2_with (go_at_call 6; refine (hS.out w).mono ?_; rintro e w1 ⟨v, rfl, R1, K1⟩)
  have hB0 := (Below.heap_alloc (w1.alloc (.cells #[.int .i64 0, .int .i64 0, .int .i64 0] 26 (0, 0))) (.cells #[.int .i64 1, .string ⟨#[97]⟩, .int .i64 0, .int .i64 0, .int .i64 5, .string ⟨#[34]⟩, .int .i64 0, .int .i64 0] 36 (0, 0)) w1.heap.size (by simp)).trans (heap_alloc_new w1 _)
  have hT := ts_two (w1.alloc (.cells #[.int .i64 0, .int .i64 0, .int .i64 0] 26 (0, 0)))
  have hR := RowC.keep R1 ((Keep.alloc1 w1 (.cells #[.int .i64 0, .int .i64 0, .int .i64 0] 26 (0, 0))).alloc (.cells #[.int .i64 1, .string ⟨#[97]⟩, .int .i64 0, .int .i64 0, .int .i64 5, .string ⟨#[34]⟩, .int .i64 0, .int .i64 0] 36 (0, 0))) (Off.nil _)
  have hK : Hid _ := (K1.alloc (.cells #[.int .i64 0, .int .i64 0, .int .i64 0] 26 (0, 0))).alloc (.cells #[.int .i64 1, .string ⟨#[97]⟩, .int .i64 0, .int .i64 0, .int .i64 5, .string ⟨#[34]⟩, .int .i64 0, .int .i64 0] 36 (0, 0))
  have hs : w1.heap.size < ((w1.alloc (.cells #[.int .i64 0, .int .i64 0, .int .i64 0] 26 (0, 0))).alloc (.cells #[.int .i64 1, .string ⟨#[97]⟩, .int .i64 0, .int .i64 0, .int .i64 5, .string ⟨#[34]⟩, .int .i64 0, .int .i64 0] 36 (0, 0))).heap.size := by simp; omega
  rw [show (w1.alloc (.cells #[.int .i64 0, .int .i64 0, .int .i64 0] 26 (0, 0))).heap.size = w1.heap.size + 1 by simp] at hT
  generalize (w1.alloc (.cells #[.int .i64 0, .int .i64 0, .int .i64 0] 26 (0, 0))).alloc (.cells #[.int .i64 1, .string ⟨#[97]⟩, .int .i64 0, .int .i64 0, .int .i64 5, .string ⟨#[34]⟩, .int .i64 0, .int .i64 0] 36 (0, 0)) = W at *
  refine (print_two W _ hT).mono ?_
  rintro e w2 ⟨rfl, K2⟩
  have hB := (K2.block w1.heap.size hs (by simp)).trans hB0
  have R2 := RowC.keep hR K2 (Off.nil _)
  have hK2 : Hid _ := hK.out.trans' K2
  clear hT hR hs hB0 K2 R1 K1 hK hS
  obtain ⟨s0, s1, s2, _, _, _⟩ := box3 hB
  obtain ⟨g, cap, rfl, hcap, c5, c8, c9, c10, c11, c12, c13, c14, c15, c16, c19⟩ := row5 R2
  clear hB R2
  go_wp2
  go_ret
  exact ⟨rfl, hK2.out⟩
end Go.Proofs.Ytmglbcldjhdhkab

