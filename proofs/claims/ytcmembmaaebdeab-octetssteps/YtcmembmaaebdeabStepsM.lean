/- Where just one byte is another one, the sum is another one: the reckoning alone. -/
import Derived.Test.YtcmembmaaebdeabSumW
namespace Go.Proofs.Ytcmembmaaebdeab

theorem mul_back (A : Nat) : 14886173955864302971 * (1099511628211 * A % 18446744073709551616) % 18446744073709551616 = A % 18446744073709551616 := by
  rw [Nat.mul_mod, Nat.mod_mod, ← Nat.mul_mod, ← Nat.mul_assoc]
  omega

theorem mul_inj (A B : Nat) (hA : A < 18446744073709551616) (hB : B < 18446744073709551616) (h : 1099511628211 * A % 18446744073709551616 = 1099511628211 * B % 18446744073709551616) : A = B := by
  have h1 := mul_back A
  have h2 := mul_back B
  rw [h, h2, Nat.mod_eq_of_lt hA, Nat.mod_eq_of_lt hB] at h1
  exact h1.symm

theorem xor_lt64 (s : Nat) (x : UInt8) (hs : s < 18446744073709551616) : s ^^^ x.toNat < 18446744073709551616 := by
  have h := Nat.xor_lt_two_pow (n := 64) (x := s) (y := x.toNat) (by simpa using hs) (by have := x.toNat_lt; omega)
  simpa using h

theorem step_inj (s s' : Nat) (x y : UInt8) (hs : s < 18446744073709551616) (hs' : s' < 18446744073709551616) (h : sumStep s x = sumStep s' y) : s ^^^ x.toNat = s' ^^^ y.toNat :=
  mul_inj _ _ (xor_lt64 s x hs) (xor_lt64 s' y hs') h

theorem xor_cancel_right (a b c : Nat) (h : a ^^^ c = b ^^^ c) : a = b := by
  have : (a ^^^ c) ^^^ c = (b ^^^ c) ^^^ c := by rw [h]
  simpa [Nat.xor_assoc] using this
theorem xor_cancel_left (a b c : Nat) (h : c ^^^ a = c ^^^ b) : a = b := by
  rw [Nat.xor_comm c a, Nat.xor_comm c b] at h
  exact xor_cancel_right a b c h

theorem fold_inj : ∀ (r : List UInt8) (s s' : Nat), s < 18446744073709551616 → s' < 18446744073709551616 → r.foldl sumStep s = r.foldl sumStep s' → s = s'
  | [], s, s', _, _, h => h
  | x :: r, s, s', hs, hs', h => by
    rw [List.foldl_cons, List.foldl_cons] at h
    have h1 := fold_inj r (sumStep s x) (sumStep s' x) (sumStep_lt _ _) (sumStep_lt _ _) h
    exact xor_cancel_right _ _ _ (step_inj s s' x x hs hs' h1)

theorem sum_mid (p r : List UInt8) (x y : UInt8) : sumL (p ++ y :: r) = sumL (p ++ x :: r) ↔ x = y := by
  constructor
  · intro h
    unfold sumL at h
    rw [List.foldl_append, List.foldl_append, List.foldl_cons, List.foldl_cons] at h
    have h1 := fold_inj _ _ _ (sumStep_lt _ _) (sumStep_lt _ _) h
    have hS : p.foldl sumStep 14695981039346656037 < 18446744073709551616 := sumL_lt p
    have h2 := xor_cancel_left _ _ _ (step_inj _ _ y x hS hS h1)
    exact (UInt8.toNat_inj.1 h2).symm
  · intro h
    rw [h]

theorem sum_set (l : List UInt8) (i : Nat) (hi : i < l.length) (y : UInt8) : sumL (l.set i y) = sumL l ↔ l.getD i 0 = y := by
  have hx : l.getD i 0 = l[i] := by rw [List.getD_eq_getElem?_getD, List.getElem?_eq_getElem hi]; rfl
  have e1 : l.take i ++ l[i] :: l.drop (i + 1) = l := by rw [← List.drop_eq_getElem_cons hi, List.take_append_drop]
  have e2 : l.set i y = l.take i ++ y :: l.drop (i + 1) := by
    rw [List.set_eq_take_append_cons_drop, if_pos hi]
  have h := sum_mid (l.take i) (l.drop (i + 1)) l[i] y
  rw [e1, ← e2] at h
  rw [hx]
  exact h

end Go.Proofs.Ytcmembmaaebdeab
