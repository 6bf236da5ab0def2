/- Whole numbers of any length as the document's text keeps them, parts of nine places, the lowest first: what they are worth, and how two of them stand. -/
import Derived.Test.YtppimacfeelneaaOwnI
import Derived.WalkMore
import Derived.BigQuiet
import Derived.Deep.QuietTactic
import Derived.Test.YtppimacfeelneaaFloN
namespace Go.Proofs.Ytppimacfeelneaa
open Go.RowKit Go.PlainAid

theorem app_fresh {w wr w1 : World} {o : Obj} {v v' : Value} (hk : Keep [] w wr) (hf : Fresh w wr v) (h2 : Keep v.ownBlock.toList (wr.alloc o) w1) (h3 : v'.ownBlock = v.ownBlock ∨ Fresh (wr.alloc o) w1 v') :
    Keep [] w w1 ∧ Fresh w w1 v' := by
  have hs := h2.size
  simp at hs
  refine ⟨(hk.alloc o).more h2 (fun x hx => .inr ?_), ?_⟩
  · simp at hx
    exact (hf x hx).1
  · rcases h3 with h3 | h3
    · intro k hk'
      rw [h3] at hk'
      have := hf k hk'
      exact ⟨this.1, by omega⟩
    · exact h3.earlier (by have := hk.size; simp; omega)

def bigV : List Nat → Nat
  | [] => 0
  | x :: l => x + 1000000000 * bigV l
def Lim (l : List Nat) : Prop := ∀ x ∈ l, x < 1000000000
def Nrm (l : List Nat) : Prop := l ≠ [] → l.getD (l.length - 1) 0 ≠ 0

theorem bigV_append (a b : List Nat) : bigV (a ++ b) = bigV a + 1000000000 ^ a.length * bigV b := by
  induction a with
  | nil => simp [bigV]
  | cons x a ih =>
    simp only [List.cons_append, bigV, ih, List.length_cons, Nat.pow_succ]
    rw [Nat.mul_add, Nat.add_assoc, ← Nat.mul_assoc, Nat.mul_comm 1000000000 (1000000000 ^ a.length)]

theorem bigV_lt : ∀ l, Lim l → bigV l < 1000000000 ^ l.length
  | [], _ => by simp [bigV]
  | x :: l, h => by
    have h1 := bigV_lt l (fun y hy => h y (List.mem_cons_of_mem _ hy))
    have h2 := h x (by simp)
    simp only [bigV, List.length_cons, Nat.pow_succ]
    generalize 1000000000 ^ l.length = p at *
    omega

theorem Lim.nil : Lim [] := fun x h => by cases h
theorem Lim.take {l : List Nat} (h : Lim l) (k : Nat) : Lim (l.take k) := fun x hx => h x (List.mem_of_mem_take hx)
theorem Lim.snoc {l : List Nat} (h : Lim l) {x : Nat} (hx : x < 1000000000) : Lim (l ++ [x]) := fun y hy => by
  rcases List.mem_append.1 hy with h1 | h1
  · exact h y h1
  · simp at h1; omega
theorem Lim.get {l : List Nat} (h : Lim l) (j : Nat) : l.getD j 0 < 1000000000 := by
  by_cases hj : j < l.length
  · rw [List.getD_eq_getElem?_getD, List.getElem?_eq_getElem hj]
    exact h _ (List.getElem_mem hj)
  · rw [List.getD_eq_getElem?_getD, List.getElem?_eq_none (by omega)]
    decide
theorem Nrm.nil : Nrm [] := fun h => absurd rfl h
theorem Nrm.snoc {l : List Nat} {x : Nat} (hx : x ≠ 0) : Nrm (l ++ [x]) := fun _ => by simpa using hx

theorem big_split (l : List Nat) (i : Nat) (hi : i < l.length) : bigV l = bigV (l.take i) + 1000000000 ^ i * (l.getD i 0 + 1000000000 * bigV (l.drop (i + 1))) := by
  have h1 := bigV_append (l.take i) (l.drop i)
  rw [List.take_append_drop, List.length_take, Nat.min_eq_left (by omega), List.drop_eq_getElem_cons hi] at h1
  rw [h1, List.getD_eq_getElem?_getD, List.getElem?_eq_getElem hi]
  rfl

theorem big_less (a b : List Nat) (i : Nat) (ha : i < a.length) (hb : i < b.length) (La : Lim a) (hd : a.drop (i + 1) = b.drop (i + 1)) (h : a.getD i 0 < b.getD i 0) : bigV a < bigV b := by
  rw [big_split a i ha, big_split b i hb, hd]
  have h1 := bigV_lt (a.take i) (La.take i)
  rw [List.length_take, Nat.min_eq_left (by omega)] at h1
  generalize bigV (b.drop (i + 1)) = D
  generalize a.getD i 0 = x at *
  generalize b.getD i 0 = y at *
  have h2 : 1000000000 ^ i * (x + 1000000000 * D + 1) ≤ 1000000000 ^ i * (y + 1000000000 * D) := Nat.mul_le_mul_left _ (by omega)
  rw [Nat.mul_succ] at h2
  generalize 1000000000 ^ i * (x + 1000000000 * D) = P at *
  generalize 1000000000 ^ i * (y + 1000000000 * D) = Q at *
  omega

theorem bigV_low (l : List Nat) (hN : Nrm l) (hl : l ≠ []) : 1000000000 ^ (l.length - 1) ≤ bigV l := by
  have h0 : 0 < l.length := List.length_pos_iff.2 hl
  rw [big_split l (l.length - 1) (by omega)]
  have h1 := hN hl
  generalize l.getD (l.length - 1) 0 = x at *
  generalize bigV (l.drop (l.length - 1 + 1)) = D
  have h2 : 1000000000 ^ (l.length - 1) * 1 ≤ 1000000000 ^ (l.length - 1) * (x + 1000000000 * D) := Nat.mul_le_mul_left _ (by omega)
  rw [Nat.mul_one] at h2
  omega

theorem big_shorter (a b : List Nat) (h : a.length < b.length) (La : Lim a) (Nb : Nrm b) : bigV a < bigV b := by
  have h1 := bigV_lt a La
  have h2 := bigV_low b Nb (by intro e; rw [e] at h; simp at h)
  have h3 : 1000000000 ^ a.length ≤ 1000000000 ^ (b.length - 1) := Nat.pow_le_pow_right (by decide) (by omega)
  omega

theorem bigV_none (l : List Nat) (h : ∀ x ∈ l, x = 0) : bigV l = 0 := by
  induction l with
  | nil => rfl
  | cons x l ih =>
    have h1 := ih (fun y hy => h y (List.mem_cons_of_mem _ hy))
    have h2 := h x (by simp)
    simp [bigV, h1, h2]

theorem bigV_cut (l : List Nat) (k : Nat) (hk : k ≤ l.length) (h : ∀ j, k ≤ j → j < l.length → l.getD j 0 = 0) : bigV (l.take k) = bigV l := by
  have h1 := bigV_append (l.take k) (l.drop k)
  rw [List.take_append_drop] at h1
  rw [h1, bigV_none (l.drop k) ?_]
  · simp
  · intro x hx
    obtain ⟨i, hi, rfl⟩ := List.mem_iff_getElem.1 hx
    have hi' : k + i < l.length := by simp at hi; omega
    have := h (k + i) (by omega) hi'
    rw [List.getD_eq_getElem?_getD, List.getElem?_eq_getElem hi'] at this
    simpa using this

theorem Nrm.cut (l : List Nat) (k : Nat) (hk : k ≤ l.length) (h : k = 0 ∨ l.getD (k - 1) 0 ≠ 0) : Nrm (l.take k) := by
  intro hne
  have hl : (l.take k).length = k := by simp; omega
  rw [hl]
  rcases h with rfl | h
  · simp at hne
  · have hk0 : k ≠ 0 := by intro e; subst e; simp at hne
    rw [List.getD_eq_getElem?_getD] at h ⊢
    rw [List.getElem?_take_of_lt (by omega)]
    exact h

theorem cmp_long {a b : List Nat} (h : a.length ≠ b.length) (La : Lim a) (Lb : Lim b) (Na : Nrm a) (Nb : Nrm b) : cmpI (bigV a) (bigV b) = if a.length < b.length then -1 else 1 := by
  unfold cmpI
  by_cases h1 : a.length < b.length
  · have := big_shorter a b h1 La Nb
    rw [if_pos (by omega), if_pos h1]
  · have := big_shorter b a (by omega) Lb Na
    rw [if_neg (by omega), if_pos (by omega), if_neg h1]
end Go.Proofs.Ytppimacfeelneaa

