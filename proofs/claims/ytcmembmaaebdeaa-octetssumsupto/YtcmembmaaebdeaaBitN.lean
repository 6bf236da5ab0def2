/- Bytes are had again of their letters, bit by bit. -/
import Derived.Test.YtcmembmaaebdeaaBitM
namespace Go.Proofs.Ytcmembmaaebdeaa
open Go.RowKit Go.PlainAid Go.Lib

theorem five_bit (l : List UInt8) (j t : Nat) (ht : t < 5) : five l j / 2 ^ (4 - t) % 2 = bitOf l (5 * j + t) := by
  have h0 := bitOf_lt l (5 * j + 0)
  have h1 := bitOf_lt l (5 * j + 1)
  have h2 := bitOf_lt l (5 * j + 2)
  have h3 := bitOf_lt l (5 * j + 3)
  have h4 := bitOf_lt l (5 * j + 4)
  unfold five
  simp only [part]
  have : t = 0 ∨ t = 1 ∨ t = 2 ∨ t = 3 ∨ t = 4 := by omega
  rcases this with rfl | rfl | rfl | rfl | rfl <;> simp only [Nat.reduceSub, Nat.reducePow] <;> omega

theorem nbit_arm (d : List UInt8) (m : Nat) (h : m < 8 * d.length) : nbit (armL d) m = bitOf d m := by
  unfold nbit
  have h1 : m / 5 < (8 * d.length + 4) / 5 := by omega
  have h2 := arm_get d (m / 5) h1
  rw [List.getD_eq_getElem?_getD, h2, Option.getD_some, numD_lt, Nat.mod_eq_of_lt (five_lt _ _), five_bit d (m / 5) (m % 5) (by omega)]
  congr 1
  omega

theorem npart_arm (d : List UInt8) (a : Nat) : ∀ t, a + t ≤ 8 * d.length → npart (armL d) a t = part d a t
  | 0, _ => rfl
  | t + 1, h => by rw [npart, part, npart_arm d a t (by omega), nbit_arm d (a + t) (by omega)]

theorem byte_part (d : List UInt8) (j : Nat) : part d (8 * j) 8 = (d.getD j 0).toNat := by
  have hx := getD_lt d j
  have e : ∀ t, t < 8 → bitOf d (8 * j + t) = (d.getD j 0).toNat / 2 ^ (7 - t) % 2 := by
    intro t ht
    unfold bitOf
    rw [show (8 * j + t) / 8 = j by omega, show (8 * j + t) % 8 = t by omega]
  simp only [part]
  rw [e 0 (by omega), e 1 (by omega), e 2 (by omega), e 3 (by omega), e 4 (by omega), e 5 (by omega), e 6 (by omega), e 7 (by omega)]
  generalize (d.getD j 0).toNat = x at hx
  simp only [Nat.reduceSub, Nat.reducePow, Nat.pow_zero, Nat.div_one]
  omega

theorem dec_arm (d : List UInt8) : decL (armL d) = d := by
  unfold decL
  apply List.ext_getElem
  · simp [armL_len]
    omega
  · intro j h1 h2
    simp only [List.getElem_map, List.getElem_range]
    unfold eight
    rw [npart_arm d (8 * j) 8 (by omega), byte_part, List.getD_eq_getElem?_getD, List.getElem?_eq_getElem h2]
    simp

end Go.Proofs.Ytcmembmaaebdeaa
