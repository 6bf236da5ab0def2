/- Rows of arguments whose texts lie elsewhere. -/
import Derived.Test.YtpbfglpjhmhneaaDoorLgC
namespace Go.Proofs.YtpbfglpjhmhneaaDoor
open Go.RowKit Go.PlainAid

/-- the texts of p lie off the row z (or there are none) -/
def UO (w : World) (z : Value) (p : AD × Value) : Prop := Ts w p.2 p.1.val.texts ∧ (p.1.val.texts = [] ∨ ∀ x, p.2.ownBlock = some x → x < w.heap.size ∧ ∀ y, z.ownBlock = some y → x ≠ y)
theorem Ts.empty {w w' : World} {v : Value} (h : Ts w v []) : Ts w' v [] := by
  obtain ⟨ao, cap, rfl, h1, h2, h3, _⟩ := h.ex
  exact ⟨ao, cap, rfl, h1, h2, h3, fun h => absurd rfl h⟩
theorem UO.keep {w w' : World} {z z' : Value} {p : AD × Value} {F : List Nat} (h : UO w z p) (k : Keep F w w') (hF : ∀ x ∈ F, (∃ y, z.ownBlock = some y ∧ x = y) ∨ w.heap.size ≤ x) (hz : ∀ x, z'.ownBlock = some x → z.ownBlock = some x ∨ w.heap.size ≤ x) : UO w' z' p := by
  obtain ⟨h1, h2⟩ := h
  rcases h2 with h2 | h2
  · refine ⟨?_, .inl h2⟩
    rw [h2] at h1 ⊢
    exact h1.empty
  · refine ⟨h1.keep k (fun q hq hx => ?_), .inr (fun x hx => ⟨Nat.lt_of_lt_of_le (h2 x hx).1 k.size, fun y hy e => ?_⟩)⟩
    · obtain ⟨a, b⟩ := h2 q hq
      rcases hF q hx with ⟨y, e1, e2⟩ | e1
      · exact b y e1 e2
      · omega
    · obtain ⟨a, b⟩ := h2 x hx
      rcases hz y hy with e2 | e2
      · exact b y e2 e
      · omega
/-- texts of the old world -/
theorem UO.old {w wr : World} {z u : Value} {x : AD} (h : Ts w u x.val.texts) (k : Keep [] w wr) (hz : ∀ y, z.ownBlock = some y → w.heap.size ≤ y) : UO wr z (x, u) := by
  refine ⟨h.keep k (Off.nil _), ?_⟩
  by_cases hl : x.val.texts = []
  · exact .inl hl
  · refine .inr (fun y hy => ?_)
    obtain ⟨ao, cap, rfl, h1, h2, h3, h4⟩ := h.ex
    obtain ⟨b, o, rfl, hc⟩ := h4 hl
    simp [Value.ownBlock] at hy
    subst hy
    have hlt := World.block_lt_of_cell? _ _ (hc 0 (List.length_pos_iff.2 hl))
    simp only at hlt
    exact ⟨Nat.lt_of_lt_of_le hlt k.size, fun q hq e => by have := hz q hq; omega⟩

/-- what holds while a row is put together -/
structure LiQ (w wr : World) (z : Value) (ps : List (AD × Value)) : Prop where
  row : RowP wr z ps
  kp : Keep [] w wr
  own : ∀ x, z.ownBlock = some x → w.heap.size ≤ x
  ul : ∀ p ∈ ps, UO wr z p
  ok : ∀ p ∈ ps, p.1.val.Ok
theorem LiQ.start (w : World) : LiQ w w (.slice none 0 0) [] := ⟨World.ownsRow_nil _ 0 34 7, Keep.refl _ _, fun x hx => by simp [Value.ownBlock] at hx, fun p hp => (by cases hp), fun p hp => (by cases hp)⟩
theorem LiQ.keep {w wr w' : World} {z : Value} {ps : List (AD × Value)} (h : LiQ w wr z ps) (k : Keep [] wr w') : LiQ w w' z ps :=
  ⟨RowC.keep h.row k (Off.nil _), h.kp.trans' k, h.own, fun p hp => (h.ul p hp).keep k (fun x hx => by cases hx) (fun x hx => .inl hx), h.ok⟩
theorem LiQ.more {w w1 w9 : World} {z z9 : Value} {ps : List (AD × Value)} {p : AD × Value} (h : LiQ w w1 z ps) (hp : UO w1 z p) (hok : p.1.val.Ok) (R9 : RowC w9 34 7 z9 (ps.length + 1) (ps.flatMap cells7 ++ cells7 p)) (K9 : Keep z.ownBlock.toList w1 w9) (F9 : z9.ownBlock = z.ownBlock ∨ Fresh w1 w9 z9) : LiQ w w9 z9 (ps ++ [p]) := by
  have hz : ∀ x, z9.ownBlock = some x → z.ownBlock = some x ∨ w1.heap.size ≤ x := fun x hx => by
    rcases F9 with e | e
    · exact .inl (by rw [← e]; exact hx)
    · exact .inr (e x hx).1
  have hF : ∀ x ∈ z.ownBlock.toList, (∃ y, z.ownBlock = some y ∧ x = y) ∨ w1.heap.size ≤ x := fun x hx => .inl ⟨x, by simpa using hx, rfl⟩
  refine ⟨?_, h.kp.more K9 (fun x hx => .inr (h.own x (by simpa using hx))), fun x hx => ?_, fun r hr => ?_, fun r hr => ?_⟩
  · unfold RowP
    rw [flat_snoc, List.length_append]
    exact R9
  · have := h.kp.size
    rcases hz x hx with e | e
    · exact h.own x e
    · omega
  · rcases List.mem_append.1 hr with hr | hr
    · exact (h.ul r hr).keep K9 hF hz
    · simp at hr
      subst hr
      exact hp.keep K9 hF hz
  · rcases List.mem_append.1 hr with hr | hr
    · exact h.ok r hr
    · simp at hr
      subst hr
      exact hok
/-- a row reads as its arguments -/
theorem LiQ.as {w wr : World} {z : Value} {ps : List (AD × Value)} (h : LiQ w wr z ps) : As wr z (ps.map fun p => p.1) := by
  rcases RowC.cases h.row with ⟨h1, h2, rfl⟩ | ⟨g, cap, rfl, h1, h2, h3, hc, _⟩
  · have hps : ps = [] := List.eq_nil_of_length_eq_zero h1
    subst hps
    exact ⟨by simp, none, 0, rfl, by simp, by omega, fun h => absurd rfl h⟩
  · refine ⟨fun x hx => ?_, some ⟨g, 0, none⟩, cap, by simp, by simpa using h1, h2, fun _ => ⟨g, 0, rfl, fun i hi => ?_⟩⟩
    · obtain ⟨p, hp, rfl⟩ := List.mem_map.1 hx
      exact h.ok p hp
    · have hi' : i < ps.length := by simpa using hi
      have hx : (ps.map fun p => p.1)[i] = ps[i].1 := by simp
      rw [hx, Nat.zero_add]
      have cc : ∀ k, k < 7 → wr.cell? ⟨g, i * 7 + k, none⟩ = (cells7 ps[i])[k]? := fun k hk => by
        rw [hc (i * 7 + k) (by omega), flat7_get _ i k hi' hk]
      exact ⟨ps[i].2, ⟨by simpa using cc 0 (by omega), by simpa using cc 1 (by omega), by simpa using cc 2 (by omega), by simpa using cc 3 (by omega), by simpa using cc 4 (by omega), by simpa using cc 5 (by omega), by simpa using cc 6 (by omega)⟩, (h.ul ps[i] (List.getElem_mem hi')).1⟩
end Go.Proofs.YtpbfglpjhmhneaaDoor
