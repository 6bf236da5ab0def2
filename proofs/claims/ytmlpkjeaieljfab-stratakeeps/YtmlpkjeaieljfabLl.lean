/- What the laws ask besides: between; what is lent reads as what came in. -/
import Derived.Test.YtmlpkjeaieljfabAn
namespace Go.Proofs.Ytmlpkjeaieljfab
open Go.RowKit Go.PlainAid

def AnyB (w : World) (e : Ending) (w' : World) : Prop := ∃ b, e = .returned (.bool b) ∧ w' = w
/-- the beginning of a row reads as the beginning of its list -/
theorem Rd.front {α : Type} {enc : α → List Value} {k : Nat} {w : World} {g o cap : Nat} {l m : List α} (h : Rd enc k w (.slice (some ⟨g, o, none⟩) (l.length + m.length) cap) (l ++ m)) : Rd enc k w (.slice (some ⟨g, o, none⟩) l.length cap) l := by
  obtain ⟨ao, c, e, h1, h2, h3, h4⟩ := h.ex
  simp only [Value.slice.injEq] at e
  obtain ⟨rfl, -, rfl⟩ := e
  rw [List.length_append] at h1
  refine ⟨_, cap, rfl, by omega, h2, (by intro h; cases h), fun hl => ?_⟩
  obtain ⟨b, o', e, hb, hc⟩ := h4 (by intro e; exact hl (List.append_eq_nil_iff.1 e).1)
  simp only [Option.some.injEq, Addr.mk.injEq] at e
  obtain ⟨rfl, rfl, -⟩ := e
  refine ⟨g, o, rfl, hb, fun j hj i hi => ?_⟩
  rw [hc j (by rw [List.length_append]; omega) i hi, List.getElem_append_left hj]
/-- lent arcs -/
structure LtA (w w' : World) (g cap : Nat) (l : List Az) : Prop where
  all : Rd encZ 3 w' (.slice (some ⟨g, 0, none⟩) (l.length + 24) cap) (l ++ marksA 24)
  lt : g < w'.heap.size
  new : w.heap.size ≤ g
theorem LtA.rd {w w' : World} {g cap : Nat} {l : List Az} (h : LtA w w' g cap l) : Rd encZ 3 w' (.slice (some ⟨g, 0, none⟩) l.length cap) l := by
  have := h.all
  rw [show 24 = (marksA 24).length from (marksA_len 24).symm, marksA_len] at this
  exact Rd.front (by rw [marksA_len]; exact this)
theorem LtA.keep {w w' w'' : World} {g cap : Nat} {l : List Az} (h : LtA w w' g cap l) (k : Keep [] w' w'') : LtA w w'' g cap l := ⟨h.all.keep k (Off.nil _), Nat.lt_of_lt_of_le h.lt k.size, h.new⟩
structure LtI (w w' : World) (g cap : Nat) (l : List Int) : Prop where
  all : Rd encI 1 w' (.slice (some ⟨g, 0, none⟩) (l.length + 24) cap) (l ++ marksI 24)
  lt : g < w'.heap.size
  new : w.heap.size ≤ g
theorem LtI.rd {w w' : World} {g cap : Nat} {l : List Int} (h : LtI w w' g cap l) : Rd encI 1 w' (.slice (some ⟨g, 0, none⟩) l.length cap) l := Rd.front (by rw [marksI_len]; exact h.all)
theorem LtI.keep {w w' w'' : World} {g cap : Nat} {l : List Int} (h : LtI w w' g cap l) (k : Keep [] w' w'') : LtI w w'' g cap l := ⟨h.all.keep k (Off.nil _), Nat.lt_of_lt_of_le h.lt k.size, h.new⟩
theorem lentA2 (v : Value) (l : List Az) (w : World) (h : Rd encZ 3 w v l) (hlen : l.length * 24 ≤ 140737488351232) :
    Calls Try.prog 13 #[v] w fun e w' => ∃ g cap, e = .returned (.slice (some ⟨g, 0, none⟩) l.length cap) ∧ LtA w w' g cap l ∧ Keep [] w w' := by
  refine (lentA_any v l w h hlen).mono ?_
  rintro e w' ⟨g, cap, rfl, h1, h2, h3⟩
  exact ⟨g, cap, rfl, ⟨h1.rd encZ_len, h1.lt g rfl, h3⟩, h2⟩
theorem same_yes (u v : Value) (l : List Int) (w : World) (h1 : Rd encI 1 w u l) (h2 : Rd encI 1 w v l) : Calls Try.prog 15 #[u, v] w fun e w' => e = .returned (.bool true) ∧ Keep [] w w' := by
  have := sameInts_any u v l l w h1 h2
  rwa [show decide (l = l) = true from decide_eq_true rfl] at this
/-- an answer, opened -/
theorem AnsR.form {w w' : World} {e : Ending} {r : List Int × Int} (h : AnsR w w' e r) : ∃ a c, e = .returned (.tuple #[.slice a r.1.length c, .int .i64 r.2]) ∧ Rd encI 1 w' (.slice a r.1.length c) r.1 ∧ Keep [] w w' := by
  obtain ⟨v, rfl, h1⟩ := h
  obtain ⟨a, c, rfl⟩ := (h1.row.rd encI_len).form'
  exact ⟨a, c, rfl, h1.row.rd encI_len, h1.keep⟩
end Go.Proofs.Ytmlpkjeaieljfab

