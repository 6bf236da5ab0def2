/- Lists of texts with marks behind their ends: LentTexts; what reads as the same: SameTexts, SameReal. -/
import Derived.Test.YtncbanpimfhhbaaGreatDoorRvC
import Derived.Test.YtncbanpimfhhbaaGreatDoorFirst4
namespace Go.Proofs.YtncbanpimfhhbaaGreatDoor
open Go.RowKit Go.PlainAid

def markS (i : Nat) : ByteArray := ⟨#[35, 1, 0, 0, 47, i.toUInt8, 0, 0]⟩
def marks (n : Nat) : List ByteArray := (List.range n).map markS
theorem marks_len (n : Nat) : (marks n).length = n := by simp [marks]
theorem marks_snoc (n : Nat) : marks (n + 1) = marks n ++ [markS n] := by simp [marks, List.range_succ]
theorem marks_get (n i : Nat) (h : i < (marks n).length) : (marks n)[i] = markS i := by simp [marks]

theorem infoS : (Tryz.prog.info? 9).map (fun i => (i.zero, i.size, i.bytes)) = some (some (.string ByteArray.empty), 1, 16) := by kernel_rfl
def strC (l : List ByteArray) : List Value := l.map fun x => .string x
theorem strC_snoc (l : List ByteArray) (x : ByteArray) : strC (l ++ [x]) = strC l ++ [.string x] := by simp [strC]
/-- a row of texts of one's own -/
abbrev RowS (w : World) (v : Value) (l : List ByteArray) : Prop := RowC w 9 1 v l.length (strC l)
theorem src_str (w : World) (x : ByteArray) : Src Tryz.prog 1 29 (.slice (some ⟨w.heap.size, 0, none⟩) 1 1) 1 [.string x] (w.alloc (.cells #[.string x] 9 (0, 0))) := by
  refine Src.ofSlice _ Tryz.underlying29 ⟨w.heap.size, 0, none⟩ 1 1 [.string x] rfl (fun j u hu => ?_) (fun u hu => ?_)
  · have hj : j = 0 := by
      have := (List.getElem?_eq_some_iff.1 hu).1
      simpa using this
    subst hj
    simp at hu
    subst hu
    simp [Addr.add]
  · simp at hu
    subst hu
    rfl

/-- a row of one's own reads as its texts -/
theorem Ts.ofRow {w : World} {g n cap : Nat} {l : List ByteArray} (h : RowS w (.slice (some ⟨g, 0, none⟩) n cap) l) (hs : ∀ s ∈ l, s.size ≤ 9223372036854775807) (hn : n = l.length) : Ts w (.slice (some ⟨g, 0, none⟩) n cap) l := by
  rcases RowC.cases h with ⟨_, _, h3⟩ | ⟨g', cap', he, h1, h2, _, hc, _⟩
  · simp at h3
  · simp at he
    obtain ⟨rfl, _, rfl⟩ := he
    subst hn
    refine ⟨some ⟨g, 0, none⟩, cap, rfl, h1, h2, hs, fun _ => ⟨g, 0, rfl, fun j hj => ?_⟩⟩
    rw [Nat.zero_add, hc j (by omega)]
    simp [strC, hj]
theorem Ts.front {w : World} {g cap : Nat} {a b : List ByteArray} (h : Ts w (.slice (some ⟨g, 0, none⟩) (a.length + b.length) cap) (a ++ b)) : Ts w (.slice (some ⟨g, 0, none⟩) a.length cap) a := by
  obtain ⟨ao, c, he, h1, h2, h3, h4⟩ := h.ex
  simp at he
  obtain ⟨rfl, rfl⟩ := he
  rw [List.length_append] at h1
  refine ⟨some ⟨g, 0, none⟩, cap, rfl, by omega, h2, fun s hs => h3 s (by simp [hs]), fun hl => ?_⟩
  obtain ⟨b', o, he, hc⟩ := h4 (by simp [hl])
  simp at he
  obtain ⟨rfl, rfl⟩ := he
  refine ⟨g, 0, rfl, fun j hj => ?_⟩
  rw [hc j (by rw [List.length_append]; omega)]
  rw [List.getElem_append_left hj]
theorem Ts.at {w : World} {v : Value} {l : List ByteArray} (h : Ts w v l) (k : Nat) (hk : k < l.length) : ∃ b o cap, v = .slice (some ⟨b, o, none⟩) l.length cap ∧ l.length ≤ cap ∧ cap ≤ 9223372036854775807 ∧ w.cell? ⟨b, o + k, none⟩ = some (.string l[k]) := by
  obtain ⟨ao, cap, rfl, h1, h2, _, h4⟩ := h.ex
  obtain ⟨b, o, rfl, hc⟩ := h4 (by intro e; rw [e] at hk; simp at hk)
  exact ⟨b, o, cap, rfl, h1, h2, hc k hk⟩

theorem marks_size : ∀ s ∈ marks 24, s.size ≤ 9223372036854775807 := by
  intro s hs
  simp [marks] at hs
  obtain ⟨i, _, rfl⟩ := hs
  show (8 : Nat) ≤ _
  omega
theorem Ts.sizes {w : World} {v : Value} {l : List ByteArray} (h : Ts w v l) : ∀ s ∈ l, s.size ≤ 9223372036854775807 := by
  obtain ⟨ao, cap, rfl, _, _, h3, _⟩ := h.ex
  exact h3
end Go.Proofs.YtncbanpimfhhbaaGreatDoor

