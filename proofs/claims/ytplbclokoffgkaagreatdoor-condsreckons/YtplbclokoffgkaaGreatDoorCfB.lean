/- Conditions: what parts come to, as plain data; the stack of those that no part was made of as yet. -/
import Derived.Test.YtplbclokoffgkaaGreatDoorCfR
namespace Go.Proofs.YtplbclokoffgkaaGreatDoor
open Go.RowKit Go.PlainAid

/-- what a part comes to: nothing, a truth, a whole number -/
inductive Wo where
  | no
  | tr (b : Bool)
  | wh (n : Int)
  deriving DecidableEq
def Wo.enc : Wo → Value
  | .no => .nilIface
  | .tr b => .iface 81 (.bool b)
  | .wh n => .iface 105 (.int .i64 n)
theorem Wo.one (x : Wo) : x.enc.oneCell' = true := by cases x <;> rfl
theorem Wo.run_store (P : Program) (w : World) (a : Addr) (x : Wo) (m : Mode) : (Go.store a x.enc m).run P w = Go.stored P w a x.enc m := Go.run_store P w a _ m x.one

/-- how many parts one of the kind is made of -/
def mdN (k : Int) : Nat := (madeN k).toNat
theorem mdN_eq (k : Int) : madeN k = (mdN k : Int) := by
  unfold mdN madeN
  split <;> (try split) <;> rfl
theorem mdN_le (k : Int) : mdN k ≤ 2 := by
  unfold mdN madeN
  split <;> (try split) <;> decide
/-- those that no part was made of as yet, the one furthest ahead on top, when j have come -/
def stkF {α : Type} (z : α) (ks : List Int) (vals : List α) : Nat → List α
  | 0 => []
  | j + 1 => vals.getD (ks.length - 1 - j) z :: (stkF z ks vals j).drop (mdN (ks.getD (ks.length - 1 - j) 0))
/-- what the k-th of m taken off a stack is -/
def popK {α : Type} (z : α) (m : Nat) (s : List α) (k : Nat) : α := if k < m then s.getD k z else z
/-- what is settled when j have come -/
def allF {α : Type} (z : α) (vals : List α) (n j : Nat) : List α := List.replicate (n - j) z ++ vals.drop (n - j)
theorem allF_len {α : Type} (z : α) (vals : List α) (n j : Nat) (h : vals.length = n) : (allF z vals n j).length = n := by simp [allF, h]
theorem allF_set {α : Type} (z : α) (vals : List α) (n j i : Nat) (h : vals.length = n) (hij : i + j + 1 = n) : (allF z vals n j).set i (vals.getD i z) = allF z vals n (j + 1) := by
  have e1 : n - j = i + 1 := by omega
  have e2 : n - (j + 1) = i := by omega
  have hi : i < vals.length := by omega
  simp only [allF, e1, e2]
  rw [List.replicate_succ', List.append_assoc, List.set_append_right _ _ (by simp)]
  simp only [List.length_replicate, Nat.sub_self, List.singleton_append, List.set_cons_zero]
  rw [List.getD_eq_getElem?_getD, List.getElem?_eq_getElem hi, Option.getD_some, ← List.drop_eq_getElem_cons hi]
theorem allF_all {α : Type} (z : α) (vals : List α) (n : Nat) : allF z vals n n = vals := by simp [allF]
theorem allF_zero {α : Type} (z : α) (vals : List α) (n : Nat) (h : vals.length = n) : allF z vals n 0 = List.replicate n z := by simp [allF, ← h]
end Go.Proofs.YtplbclokoffgkaaGreatDoor
