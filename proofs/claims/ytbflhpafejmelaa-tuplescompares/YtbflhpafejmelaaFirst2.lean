/- What is read at the beginning of some bytes, for every slice of bytes: a byte, a number, a turned one, a key, a text, some bytes. -/
import Derived.Test.YtbflhpafejmelaaRdW
import Derived.Laws.BytesString
namespace Go.Proofs.Ytbflhpafejmelaa
open Go.RowKit Go.PlainAid Go.Lib

theorem numG_size : ∀ (l : List UInt8) (i acc : Nat), (numG l i acc).2.2 ≠ 0 ∧ (numG l i acc).2.1 = 0 ∧ (numG l i acc).1 = 0 ∨ (numG l i acc).2.2 = 0 ∧ i < (numG l i acc).2.1 ∧ (numG l i acc).2.1 ≤ i + l.length
  | [], i, acc => .inl ⟨by simp [numG], rfl, rfl⟩
  | c :: r, i, acc => by
    rw [numG]
    split
    · exact .inl ⟨by simp, rfl, rfl⟩
    · split
      · exact .inr ⟨rfl, by simp, by simp⟩
      · rcases numG_size r (i + 1) (acc + c.toNat % 128 * 128 ^ i) with h | ⟨h1, h2, h3⟩
        · exact .inl h
        · exact .inr ⟨h1, by omega, by simp; omega⟩

theorem numG_lt : ∀ (l : List UInt8) (i acc : Nat), i ≤ 9 → acc < 128 ^ i → (numG l i acc).1 < 18446744073709551616 ∧ (numG l i acc).2.1 ≤ 10
  | [], i, acc, _, _ => by simp [numG]
  | c :: r, i, acc, hi, hacc => by
    rw [numG]
    split
    · simp
    · rename_i hE
      split
      · rename_i hD
        exact ⟨step_lt acc c.toNat i hacc hi (by omega), by simp; omega⟩
      · rename_i hD
        exact numG_lt r (i + 1) _ (by omega) (next_lt acc c.toNat i hacc)

theorem numL_size (l : List UInt8) : (numL l).2.1 ≤ l.length := by
  rcases numG_size l 0 0 with ⟨_, h, _⟩ | ⟨_, _, h⟩
  · unfold numL; rw [h]; exact Nat.zero_le _
  · unfold numL; omega
theorem numL_lt (l : List UInt8) : (numL l).1 < 18446744073709551616 := (numG_lt l 0 0 (by omega) (by decide)).1
theorem numL_zero (l : List UInt8) (h : (numL l).2.2 ≠ 0) : (numL l).1 = 0 ∧ (numL l).2.1 = 0 := by
  rcases numG_size l 0 0 with ⟨_, h1, h2⟩ | ⟨h1, _, _⟩
  · exact ⟨h2, h1⟩
  · exact absurd h1 h

def byteL (l : List UInt8) : Nat × Nat × Int := match l with | [] => (0, 0, 20) | c :: _ => (c.toNat, 1, 0)

end Go.Proofs.Ytbflhpafejmelaa



