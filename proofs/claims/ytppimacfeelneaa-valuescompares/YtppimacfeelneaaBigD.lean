/- The document's whole numbers of any length: the mathematics of product. -/
import Derived.Test.YtppimacfeelneaaBigC
import Derived.OwnWalk
namespace Go.Proofs.Ytppimacfeelneaa
open Go.RowKit Go.PlainAid

theorem Rw.set {w : World} {g cap n : Nat} {l : List Nat} (h : Rw w (.slice (some ⟨g, 0, none⟩) n cap) l) (hn : l.length = n) (i : Nat) (y : Nat) :
    Rw (w.setCell ⟨g, i, none⟩ (.int .i64 (y : Int))) (.slice (some ⟨g, 0, none⟩) n cap) (l.set i y) := by
  subst hn
  have h1 := (World.ownsRow.stored h i (.int .i64 (y : Int))).1
  have h2 : (iv l).set i (.int .i64 (y : Int)) = iv (l.set i y) := by simp [iv, List.map_set]
  rw [h2] at h1
  show World.ownsRow _ _ _ _ _ (l.set i y).length _
  rw [List.length_set]
  exact h1

theorem bigV_set (l : List Nat) (p y : Nat) (hp : p < l.length) : bigV (l.set p y) + 1000000000 ^ p * l.getD p 0 = bigV l + 1000000000 ^ p * y := by
  have h1 := big_split l p hp
  have h2 := big_split (l.set p y) p (by simpa using hp)
  have e1 : (l.set p y).take p = l.take p := by rw [List.take_set_of_le (Nat.le_refl _)]
  have e2 : (l.set p y).drop (p + 1) = l.drop (p + 1) := by rw [List.drop_set_of_lt (by omega)]
  have e3 : (l.set p y).getD p 0 = y := by simp [List.getD_eq_getElem?_getD, hp]
  rw [e1, e2, e3] at h2
  rw [h1, h2, Nat.mul_add, Nat.mul_add]
  omega

theorem Lim.set {l : List Nat} (h : Lim l) (p y : Nat) (hy : y < 1000000000) : Lim (l.set p y) := fun x hx => by
  rcases List.mem_or_eq_of_mem_set hx with h1 | h1
  · exact h x h1
  · omega

theorem getD_set_ne (l : List Nat) (p j y : Nat) (h : p ≠ j) : (l.set p y).getD j 0 = l.getD j 0 := by
  simp [List.getD_eq_getElem?_getD, List.getElem?_set_ne h]

structure ProI (w wr : World) (g n : Nat) (out : List Nat) : Prop where
  row : Rw wr (.slice (some ⟨g, 0, none⟩) n n) out
  len : out.length = n
  keep : Keep [] w wr
  new : w.heap.size ≤ g
  lim : Lim out

theorem ProI.drewN {w wr : World} {g n : Nat} {out : List Nat} (h : ProI w wr g n out) (q : Nat) : ProI w (wr.drewN q) g n out :=
  ⟨h.row.keep ((Keep.refl [] wr).drewN q) (Off.nil _), h.len, h.keep.drewN q, h.new, h.lim⟩
theorem ProI.put {w wr : World} {g n : Nat} {out : List Nat} (h : ProI w wr g n out) (p y : Nat) (hy : y < 1000000000) : ProI w (wr.setCell ⟨g, p, none⟩ (.int .i64 (y : Int))) g n (out.set p y) :=
  ⟨h.row.set h.len p y, by rw [List.length_set]; exact h.len, h.keep.setCell (.inr h.new) _, h.new, h.lim.set p y hy⟩
theorem ProI.cell {w wr : World} {g n : Nat} {out : List Nat} (h : ProI w wr g n out) (p : Nat) (hp : p < n) : wr.cell? ⟨g, p, none⟩ = some (.int .i64 ((out.getD p 0 : Nat) : Int)) := by
  have h1 := h.row
  have hl := h.len
  subst hl
  have := World.ownsRow.cellAt h1 p (by omega)
  rw [this, iv_get out p hp, List.getD_eq_getElem?_getD, List.getElem?_eq_getElem hp]
  rfl
theorem ProI.frozen {w wr : World} {g n : Nat} {out : List Nat} (h : ProI w wr g n out) (p : Nat) : wr.frozen? ⟨g, p, none⟩ = false := by
  have h1 := h.row
  have hl := h.len
  subst hl
  exact World.ownsRow.frozenAt h1 p

/-- a row of product under way: i parts of a are done, k parts of b for the next, c is carried -/
structure InI (w wr : World) (g n : Nat) (out out0 : List Nat) (a b : List Nat) (i k c : Nat) : Prop where
  pro : ProI w wr g n out
  val : bigV out + 1000000000 ^ (i + k) * c = bigV out0 + 1000000000 ^ i * (a.getD i 0 * bigV (b.take k))
  zer : ∀ j, i + b.length ≤ j → out.getD j 0 = 0
  low : c < 1000000000

theorem InI.next {w wr : World} {g n : Nat} {out out0 a b : List Nat} {i k c : Nat} (h : InI w wr g n out out0 a b i k c) (La : Lim a) (Lb : Lim b) (hk : k < b.length) (hn : n = a.length + b.length + 1) (hi : i < a.length)
    (X : Nat) (hX : X = out.getD (i + k) 0 + a.getD i 0 * b.getD k 0 + c) (q : Nat) : InI w ((wr.drewN q).setCell ⟨g, i + k, none⟩ (.int .i64 ((X % 1000000000 : Nat) : Int))) g n (out.set (i + k) (X % 1000000000)) out0 a b i (k + 1) (X / 1000000000) := by
  refine ⟨(h.pro.drewN q).put (i + k) _ (by omega), ?_, fun j hj => ?_, ?_⟩
  · have h1 := bigV_set out (i + k) (X % 1000000000) (by have := h.pro.len; omega)
    have h2 := h.val
    rw [bigV_take b k hk, Nat.mul_add (a.getD i 0), Nat.mul_add (1000000000 ^ i)]
    have h3 : 1000000000 ^ i * (a.getD i 0 * (1000000000 ^ k * b.getD k 0)) = 1000000000 ^ (i + k) * (a.getD i 0 * b.getD k 0) := by
      rw [Nat.pow_add, Nat.mul_assoc]
      congr 1
      rw [← Nat.mul_assoc, Nat.mul_comm (a.getD i 0), Nat.mul_assoc]
    have h4 : 1000000000 ^ (i + (k + 1)) * (X / 1000000000) + 1000000000 ^ (i + k) * (X % 1000000000) = 1000000000 ^ (i + k) * X := by
      rw [← Nat.add_assoc, Nat.pow_succ, Nat.mul_assoc, ← Nat.mul_add, Nat.div_add_mod]
    have h5 : 1000000000 ^ (i + k) * X = 1000000000 ^ (i + k) * out.getD (i + k) 0 + 1000000000 ^ (i + k) * (a.getD i 0 * b.getD k 0) + 1000000000 ^ (i + k) * c := by
      rw [hX, Nat.mul_add, Nat.mul_add]
    rw [h3]
    omega
  · rw [getD_set_ne _ _ _ _ (by omega)]
    exact h.zer j hj
  · have h1 := La.get i
    have h2 := Lb.get k
    have h3 := h.pro.lim.get (i + k)
    have h4 := h.low
    have h5 : a.getD i 0 * b.getD k 0 ≤ 999999999 * 999999999 := Nat.mul_le_mul (by omega) (by omega)
    omega

/-- product under way: i parts of a are done -/
structure OutI (w wr : World) (g n : Nat) (out : List Nat) (a b : List Nat) (i : Nat) : Prop where
  pro : ProI w wr g n out
  val : bigV out = bigV (a.take i) * bigV b
  zer : ∀ j, i + b.length ≤ j → out.getD j 0 = 0

theorem OutI.start {w wr : World} {g n : Nat} {out a b : List Nat} {i : Nat} (h : OutI w wr g n out a b i) : InI w wr g n out out a b i 0 0 := ⟨h.pro, by simp [bigV], h.zer, by decide⟩

theorem OutI.next {w w0 wr : World} {g n : Nat} {out out0 a b : List Nat} {i c : Nat} (h0 : OutI w w0 g n out0 a b i) (h : InI w wr g n out out0 a b i b.length c) (hn : n = a.length + b.length + 1) (hi : i < a.length) :
    OutI w (wr.setCell ⟨g, i + b.length, none⟩ (.int .i64 (c : Int))) g n (out.set (i + b.length) c) a b (i + 1) := by
  refine ⟨h.pro.put (i + b.length) c h.low, ?_, fun j hj => ?_⟩
  · have h1 := bigV_set out (i + b.length) c (by have := h.pro.len; omega)
    rw [h.zer _ (Nat.le_refl _), Nat.mul_zero, Nat.add_zero] at h1
    rw [h1, h.val, h0.val, List.take_of_length_le (Nat.le_refl _), bigV_take a i hi, Nat.add_mul, Nat.mul_assoc]
  · rw [getD_set_ne _ _ _ _ (by omega)]
    exact h.zer j (by omega)

theorem zeros_big (n : Nat) : bigV (List.replicate n 0) = 0 := bigV_none _ (fun _ hx => (List.mem_replicate.1 hx).2)
end Go.Proofs.Ytppimacfeelneaa

