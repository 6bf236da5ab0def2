/- What the Writer's parts write, each for every Writer and every input. -/
import Derived.Test.YtplbclokoffgkaaGreatDoorOwn
import Derived.Lib.Varint
import Derived.Lib.Zigzag
namespace Go.Proofs.YtplbclokoffgkaaGreatDoor
open Go.RowKit Go.PlainAid

/-- at b, o lies a Writer that has written l, in the block rb (or in none) -/
structure Wr (w : World) (b o : Nat) (l : List UInt8) (rb : Option Nat) : Prop where
  ex : w.frozen? ⟨b, o, none⟩ = false ∧ rb ≠ some b ∧ ∃ v, w.cell? ⟨b, o, none⟩ = some v ∧ v.ownBlock = rb ∧ Row w v l

/-- the block is the one of before, or a new one -/
def Newer (w w' : World) (rb rb' : Option Nat) : Prop := rb' = rb ∨ ∀ k, rb' = some k → w.heap.size ≤ k ∧ k < w'.heap.size

theorem Newer.refl (w w' : World) (rb : Option Nat) : Newer w w' rb rb := .inl rfl
theorem Newer.trans {a b c : World} {r s t : Option Nat} (h : Newer a b r s) (k : Newer b c s t) (hs : a.heap.size ≤ b.heap.size) (hs2 : b.heap.size ≤ c.heap.size) : Newer a c r t := by
  rcases k with rfl | k
  · rcases h with rfl | h
    · exact .inl rfl
    · exact .inr fun x hx => ⟨(h x hx).1, Nat.lt_of_lt_of_le (h x hx).2 hs2⟩
  · exact .inr fun x hx => ⟨Nat.le_trans hs (k x hx).1, (k x hx).2⟩
theorem Newer.foot {w w' : World} {r s : Option Nat} {b : Nat} (h : Newer w w' r s) : ∀ x ∈ b :: s.toList, x ∈ b :: r.toList ∨ w.heap.size ≤ x := by
  intro x hx
  rcases h with rfl | h
  · exact .inl hx
  · simp at hx
    rcases hx with rfl | hx
    · exact .inl (by simp)
    · exact .inr (h x hx).1

theorem Wr.lt {w : World} {b o : Nat} {l : List UInt8} {rb : Option Nat} (h : Wr w b o l rb) : b < w.heap.size := by
  obtain ⟨_, _, v, hc, _⟩ := h.ex
  exact World.block_lt_of_cell? w _ hc
theorem Wr.ltR {w : World} {b o : Nat} {l : List UInt8} {rb : Option Nat} (h : Wr w b o l rb) : ∀ k, rb = some k → k < w.heap.size := by
  obtain ⟨_, _, v, hc, rfl, hr⟩ := h.ex
  exact hr.lt
theorem Wr.keep {F : List Nat} {w w' : World} {b o : Nat} {l : List UInt8} {rb : Option Nat} (h : Wr w b o l rb) (k : Keep F w w') (hb : b ∉ F) (hr : ∀ x, rb = some x → x ∉ F) : Wr w' b o l rb := by
  obtain ⟨hf, hne, v, hc, rfl, hrow⟩ := h.ex
  exact ⟨(k.frozen (World.block_lt_of_cell? w _ hc) hb).trans hf, hne, v, k.cell' hc hb, rfl, hrow.keep k hr⟩
theorem Wr.zero (w : World) (b o : Nat) (hc : w.cell? ⟨b, o, none⟩ = some (.slice none 0 0)) (hf : w.frozen? ⟨b, o, none⟩ = false) : Wr w b o [] none :=
  ⟨hf, by simp, _, hc, rfl, Row.nil w⟩

theorem stored {w1 : World} {b o : Nat} {v v' : Value} {l : List UInt8} (hc : w1.cell? ⟨b, o, none⟩ = some v) (hf : w1.frozen? ⟨b, o, none⟩ = false) (hr : Row w1 v' l) (hne : v'.ownBlock ≠ some b) :
    Wr (w1.setCell ⟨b, o, none⟩ v') b o l v'.ownBlock := by
  have hk := Keep.set1 w1 ⟨b, o, none⟩ v'
  refine ⟨by rw [World.frozen?_setCell]; exact hf, hne, v', World.cell?_setCell_same w1 _ v' hc, rfl, hr.keep hk ?_⟩
  intro k hk2 hm
  simp at hm
  subst hm
  exact hne hk2

theorem Bs.one (w : World) (c : Nat) (hc : c < 256) : Bs (w.alloc (.cells #[.int .u8 (c : Int)] TB)) (.slice (some ⟨w.heap.size, 0, none⟩) 1 1) [c.toUInt8] := by
  refine ⟨some ⟨w.heap.size, 0, none⟩, 1, rfl, by simp, by simp [maxLen], (by intro h; cases h), fun _ => ⟨w.heap.size, 0, rfl, fun j hj => ?_⟩⟩
  have hj0 : j = 0 := by simpa using hj
  subst hj0
  have h1 : (c.toUInt8).toNat = c := by simp; omega
  simp [h1]

theorem Wr.alloc {w : World} {b o : Nat} {l : List UInt8} {rb : Option Nat} (h : Wr w b o l rb) (x : Obj) : Wr (w.alloc x) b o l rb := h.keep (Keep.alloc1 w x) (by simp) (fun _ _ => by simp)

end Go.Proofs.YtplbclokoffgkaaGreatDoor



