/- Doubling a row of digits, from its end on; how many digits come ahead. -/
import Derived.Test.YtnljpbpphdhnpaaGreatDoorDecS
import Derived.Test.YtnljpbpphdhnpaaGreatDoorSdG

namespace Go.Proofs.YtnljpbpphdhnpaaGreatDoor
open Go.RowKit Go.PlainAid

/-- digits from the lowest place on -/
def sR (f : Nat → Nat) : Nat → Nat
  | 0 => 0
  | i + 1 => sR f i + f i * 10 ^ i
theorem pD_rev (f : Nat → Nat) : ∀ L, pD (fun x => f (L - 1 - x)) L = sR f L := by
  intro L
  induction L with
  | zero => rfl
  | succ L ih =>
    have h := pD_split (fun x => f (L + 1 - 1 - x)) 1 L
    rw [Nat.add_comm 1 L] at h
    rw [h]
    have h1 : pD (fun x => f (L + 1 - 1 - x)) 1 = f L := by simp [pD]
    have h2 : pD (fun j => f (L + 1 - 1 - (1 + j))) L = pD (fun x => f (L - 1 - x)) L := pD_congr _ _ _ fun j _ => by rw [show L + 1 - 1 - (1 + j) = L - 1 - j by omega]
    rw [h1, h2, ih]
    show _ = sR f L + f L * 10 ^ L
    omega
/-- the digits of e from the end on, noughts ahead of the first -/
def eR (e : Nat → Nat) (nd i : Nat) : Nat := if i < nd then e (nd - 1 - i) else 0
def tL (e : Nat → Nat) (nd k : Nat) : Nat → Nat
  | 0 => 0
  | i + 1 => (tL e nd k i + eR e nd i * 2 ^ k) / 10
def sL (e : Nat → Nat) (nd k i : Nat) : Nat := tL e nd k i + eR e nd i * 2 ^ k
def rL (e : Nat → Nat) (nd k i : Nat) : Nat := sL e nd k i % 10
theorem tL_succ (e : Nat → Nat) (nd k i : Nat) : tL e nd k (i + 1) = sL e nd k i / 10 := rfl
theorem tL_le (e : Nat → Nat) (nd k : Nat) (he : ∀ j, e j < 10) : ∀ i, tL e nd k i ≤ 2 ^ k := by
  intro i
  induction i with
  | zero => exact Nat.zero_le _
  | succ i ih =>
    rw [tL_succ]
    unfold sL
    have h : eR e nd i ≤ 9 := by
      unfold eR; split
      · have := he (nd - 1 - i); omega
      · omega
    have h2 : eR e nd i * 2 ^ k ≤ 9 * 2 ^ k := Nat.mul_le_mul_right _ h
    omega
theorem tL_inv (e : Nat → Nat) (nd k : Nat) : ∀ i, sR (eR e nd) i * 2 ^ k = tL e nd k i * 10 ^ i + sR (rL e nd k) i := by
  intro i
  induction i with
  | zero => simp [sR, tL]
  | succ i ih =>
    show (sR (eR e nd) i + eR e nd i * 10 ^ i) * 2 ^ k = tL e nd k (i + 1) * 10 ^ (i + 1) + (sR (rL e nd k) i + rL e nd k i * 10 ^ i)
    rw [tL_succ, Nat.add_mul, ih]
    have h : eR e nd i * 2 ^ k + tL e nd k i = sL e nd k i / 10 * 10 + rL e nd k i := by
      unfold rL
      have := Nat.div_add_mod (sL e nd k i) 10
      have h9 : sL e nd k i = tL e nd k i + eR e nd i * 2 ^ k := rfl
      omega
    generalize sL e nd k i / 10 = q at *
    generalize rL e nd k i = r at *
    generalize tL e nd k i = t at *
    have h2 : (eR e nd i * 2 ^ k + t) * 10 ^ i = (q * 10 + r) * 10 ^ i := by rw [h]
    rw [Nat.add_mul, Nat.add_mul] at h2
    have h3 : eR e nd i * 10 ^ i * 2 ^ k = eR e nd i * 2 ^ k * 10 ^ i := by rw [Nat.mul_assoc, Nat.mul_comm (10 ^ i), ← Nat.mul_assoc]
    have h4 : q * 10 ^ (i + 1) = q * 10 * 10 ^ i := by rw [Nat.pow_succ, Nat.mul_assoc, Nat.mul_comm 10]
    rw [h3, h4]
    omega
theorem sR_eR (e : Nat → Nat) (nd : Nat) : ∀ j, sR (eR e nd) (nd + j) = pD e nd := by
  intro j
  induction j with
  | zero =>
    rw [Nat.add_zero, ← pD_rev]
    refine pD_congr _ _ _ fun x hx => ?_
    unfold eR
    rw [if_pos (by omega), show nd - 1 - (nd - 1 - x) = x by omega]
  | succ j ih =>
    show sR (eR e nd) (nd + j) + eR e nd (nd + j) * 10 ^ (nd + j) = _
    rw [ih]
    unfold eR
    rw [if_neg (by omega), Nat.zero_mul, Nat.add_zero]
theorem tL_div (e : Nat → Nat) (nd k j : Nat) : tL e nd k (nd + j) = pD e nd * 2 ^ k / 10 ^ (nd + j) := by
  have h := tL_inv e nd k (nd + j)
  rw [sR_eR] at h
  rw [h]
  have h2 : sR (rL e nd k) (nd + j) < 10 ^ (nd + j) := by
    rw [← pD_rev]
    refine pD_lt _ _ fun x _ => ?_
    exact Nat.mod_lt _ (by decide)
  rw [Nat.add_comm (tL e nd k (nd + j) * _), Nat.add_mul_div_right _ _ (ten_pos _), Nat.div_eq_of_lt h2, Nat.zero_add]
/-- the digits that are written -/
def oL (e : Nat → Nat) (nd k L x : Nat) : Nat := rL e nd k (L - 1 - x)
theorem oL_num (e : Nat → Nat) (nd k j : Nat) (h : tL e nd k (nd + j) = 0) : pD (oL e nd k (nd + j)) (nd + j) = pD e nd * 2 ^ k := by
  have h2 := tL_inv e nd k (nd + j)
  rw [sR_eR, h, Nat.zero_mul, Nat.zero_add] at h2
  rw [h2, ← pD_rev]
  rfl
theorem oL_lt (e : Nat → Nat) (nd k L x : Nat) : oL e nd k L x < 10 := Nat.mod_lt _ (by decide)
theorem first_pos (f : Nat → Nat) (L : Nat) (hf : ∀ j, f j < 10) (h : 10 ^ L ≤ pD f (L + 1)) : 1 ≤ f 0 := by
  have h1 := pD_split f 1 L
  rw [Nat.add_comm 1 L] at h1
  have h2 := pD_lt (fun j => f (1 + j)) L fun j _ => hf _
  have h3 : pD f 1 = f 0 := by simp [pD]
  rw [h3] at h1
  rcases Nat.eq_zero_or_pos (f 0) with h4 | h4
  · rw [h4, Nat.zero_mul] at h1; omega
  · exact h4
/-- of two rows of digits, with the same beginning, the first that differs tells -/
theorem lex_lt (e c : Nat → Nat) (L i : Nat) (hi : i < L) (he : ∀ j, e j < 10) (hs : ∀ j, j < i → e j = c j) (h : e i < c i) : pD e L < pD c L := by
  obtain ⟨t, rfl⟩ : ∃ t, L = i + 1 + t := ⟨L - (i + 1), by omega⟩
  rw [pD_split e (i + 1) t, pD_split c (i + 1) t, pD_succ, pD_succ, pD_congr e c i hs]
  have h2 := pD_lt (fun j => e (i + 1 + j)) t fun j _ => he _
  have h3 : (pD c i * 10 + e i + 1) * 10 ^ t ≤ (pD c i * 10 + c i) * 10 ^ t := Nat.mul_le_mul_right _ (by omega)
  rw [Nat.add_mul (pD c i * 10 + e i) 1, Nat.one_mul] at h3
  omega
/-- how many digits come ahead -/
theorem ahead_is (e : Nat → Nat) (nd k δ len : Nat) (he : ∀ j, e j < 10) (hz : ∀ j, nd ≤ j → e j = 0) (h0 : 1 ≤ e 0) (hn : 0 < nd) (hδ : δ + len = k + 1) (hδ1 : 1 ≤ δ) (c1 : 2 ^ k ≤ 10 ^ δ) (c2 : 10 ^ (δ - 1) ≤ 2 ^ k) :
    (pD e len < 5 ^ k → pD e nd * 2 ^ k < 10 ^ (δ - 1 + nd) ∧ (1 < δ → 10 ^ (δ - 2 + nd) ≤ pD e nd * 2 ^ k)) ∧ (5 ^ k ≤ pD e len → pD e nd * 2 ^ k < 10 ^ (δ + nd) ∧ 10 ^ (δ - 1 + nd) ≤ pD e nd * 2 ^ k) := by
  have hW : pD e (nd + len) = pD e nd * 10 ^ len := pD_zeros e nd len hz
  have hW2 := pD_split e len nd
  rw [Nat.add_comm len nd, hW] at hW2
  have ht := pD_lt (fun j => e (len + j)) nd fun j _ => he _
  have hlt := pD_lt e nd fun j _ => he j
  have hge : 10 ^ (nd - 1) ≤ pD e nd := by
    have := pD_ge e h0 (nd - 1)
    rwa [show nd - 1 + 1 = nd by omega] at this
  have h10 : 5 ^ k * 2 ^ k = 10 ^ (δ - 1) * 10 ^ len := by
    rw [← Nat.mul_pow, ← Nat.pow_add, show δ - 1 + len = k by omega]
  have hcancel : ∀ a b : Nat, a * 10 ^ len < b * 10 ^ len → a < b := fun a b h => Nat.lt_of_mul_lt_mul_right h
  have hcancel2 : ∀ a b : Nat, a * 10 ^ len ≤ b * 10 ^ len → a ≤ b := fun a b h => Nat.le_of_mul_le_mul_right h (ten_pos len)
  refine ⟨fun h => ⟨?_, fun hd => ?_⟩, fun h => ⟨?_, ?_⟩⟩
  · refine hcancel _ _ ?_
    have h1 : (pD e len + 1) * 10 ^ nd ≤ 5 ^ k * 10 ^ nd := Nat.mul_le_mul_right _ h
    rw [Nat.add_mul, Nat.one_mul] at h1
    have h2 : pD e nd * 10 ^ len < 5 ^ k * 10 ^ nd := by omega
    have h3 : pD e nd * 10 ^ len * 2 ^ k < 5 ^ k * 10 ^ nd * 2 ^ k := Nat.mul_lt_mul_of_pos_right h2 (Nat.two_pow_pos k)
    have e1 : pD e nd * 2 ^ k * 10 ^ len = pD e nd * 10 ^ len * 2 ^ k := by rw [Nat.mul_assoc, Nat.mul_comm (2 ^ k), ← Nat.mul_assoc]
    have e2 : 10 ^ (δ - 1 + nd) * 10 ^ len = 5 ^ k * 10 ^ nd * 2 ^ k := by
      rw [Nat.mul_assoc (5 ^ k), Nat.mul_comm (10 ^ nd), ← Nat.mul_assoc, h10, Nat.pow_add, Nat.mul_assoc, Nat.mul_comm (10 ^ nd), ← Nat.mul_assoc]
    rw [e1, e2]; exact h3
  · have h1 : 10 ^ (nd - 1) * 10 ^ (δ - 1) ≤ pD e nd * 2 ^ k := Nat.mul_le_mul hge c2
    rw [← Nat.pow_add, show nd - 1 + (δ - 1) = δ - 2 + nd by omega] at h1
    exact h1
  · have h1 : pD e nd * 2 ^ k < 10 ^ nd * 2 ^ k := Nat.mul_lt_mul_of_pos_right hlt (Nat.two_pow_pos k)
    have h2 : 10 ^ nd * 2 ^ k ≤ 10 ^ nd * 10 ^ δ := Nat.mul_le_mul_left _ c1
    rw [← Nat.pow_add, Nat.add_comm nd δ] at h2
    omega
  · refine hcancel2 _ _ ?_
    have h1 : 5 ^ k * 10 ^ nd ≤ pD e len * 10 ^ nd := Nat.mul_le_mul_right _ h
    have h2 : 5 ^ k * 10 ^ nd ≤ pD e nd * 10 ^ len := by omega
    have h3 : 5 ^ k * 10 ^ nd * 2 ^ k ≤ pD e nd * 10 ^ len * 2 ^ k := Nat.mul_le_mul_right _ h2
    have e1 : pD e nd * 2 ^ k * 10 ^ len = pD e nd * 10 ^ len * 2 ^ k := by rw [Nat.mul_assoc, Nat.mul_comm (2 ^ k), ← Nat.mul_assoc]
    have e2 : 10 ^ (δ - 1 + nd) * 10 ^ len = 5 ^ k * 10 ^ nd * 2 ^ k := by
      rw [Nat.mul_assoc (5 ^ k), Nat.mul_comm (10 ^ nd), ← Nat.mul_assoc, h10, Nat.pow_add, Nat.mul_assoc, Nat.mul_comm (10 ^ nd), ← Nat.mul_assoc]
    rw [e1, e2]; exact h3
end Go.Proofs.YtnljpbpphdhnpaaGreatDoor

/- The library's decimal in memory: its digits, how many, its point, its two marks. -/
namespace Go.Proofs.YtnljpbpphdhnpaaGreatDoor
open Go.RowKit Go.PlainAid

def upD (D : Nat → Int) (i : Nat) (x : Int) : Nat → Int := fun j => if j = i then x else D j
theorem upD_same (D : Nat → Int) (i : Nat) (x : Int) : upD D i x i = x := by simp [upD]
theorem upD_other (D : Nat → Int) (i j : Nat) (x : Int) (h : j ≠ i) : upD D i x j = D j := by simp [upD, h]

structure DecC (w : World) (b : Nat) (D : Nat → Int) (nd dp : Int) (tr : Bool) : Prop where
  dg : ∀ j, j < 800 → w.cell? ⟨b, j, none⟩ = some (.int .u8 (D j))
  nd : w.cell? ⟨b, 800, none⟩ = some (.int .i64 nd)
  dp : w.cell? ⟨b, 801, none⟩ = some (.int .i64 dp)
  ng : w.cell? ⟨b, 802, none⟩ = some (.bool false)
  tr : w.cell? ⟨b, 803, none⟩ = some (.bool tr)
  fz : ∀ j, j < 804 → w.frozen? ⟨b, j, none⟩ = false

variable {w w' : World} {b : Nat} {D : Nat → Int} {nd dp : Int} {tr : Bool}
theorem DecC.lt (h : DecC w b D nd dp tr) : b < w.heap.size := World.block_lt_of_cell? w _ h.nd
theorem DecC.keep {F : List Nat} (h : DecC w b D nd dp tr) (k : Keep F w w') (hn : b ∉ F) : DecC w' b D nd dp tr :=
  ⟨fun j hj => k.cell' (h.dg j hj) hn, k.cell' h.nd hn, k.cell' h.dp hn, k.cell' h.ng hn, k.cell' h.tr hn, fun j hj => (k.frozen (p := ⟨b, j, none⟩) h.lt hn).trans (h.fz j hj)⟩
theorem DecC.drewN (h : DecC w b D nd dp tr) (n : Nat) : DecC (w.drewN n) b D nd dp tr := ⟨h.dg, h.nd, h.dp, h.ng, h.tr, h.fz⟩
theorem ne_cell (b i j : Nat) (h : j ≠ i) : (⟨b, j, none⟩ : Addr) ≠ ⟨b, i, none⟩ := by
  intro e; injection e with _ e2 _; exact h e2
theorem fz_set (w : World) (p q : Addr) (v : Value) : (w.setCell p v).frozen? q = w.frozen? q := World.frozen?_setCell w p q v
theorem DecC.put_d (h : DecC w b D nd dp tr) (i : Nat) (x : Int) (hi : i < 800) : DecC (w.setCell ⟨b, i, none⟩ (.int .u8 x)) b (upD D i x) nd dp tr := by
  refine ⟨fun j hj => ?_, ?_, ?_, ?_, ?_, fun j hj => (fz_set _ _ _ _).trans (h.fz j hj)⟩
  · by_cases e : j = i
    · subst e
      rw [upD_same]
      exact World.cell?_setCell_same _ _ _ (h.dg j hj)
    · rw [upD_other _ _ _ _ e]
      exact (World.cell?_setCell_other _ _ _ _ (ne_cell b i j e).symm).trans (h.dg j hj)
  · exact (World.cell?_setCell_other _ _ _ _ (ne_cell b i 800 (by omega)).symm).trans h.nd
  · exact (World.cell?_setCell_other _ _ _ _ (ne_cell b i 801 (by omega)).symm).trans h.dp
  · exact (World.cell?_setCell_other _ _ _ _ (ne_cell b i 802 (by omega)).symm).trans h.ng
  · exact (World.cell?_setCell_other _ _ _ _ (ne_cell b i 803 (by omega)).symm).trans h.tr
theorem DecC.put_nd (h : DecC w b D nd dp tr) (x : Int) : DecC (w.setCell ⟨b, 800, none⟩ (.int .i64 x)) b D x dp tr :=
  ⟨fun j hj => (World.cell?_setCell_other _ _ _ _ (ne_cell b 800 j (by omega)).symm).trans (h.dg j hj), World.cell?_setCell_same _ _ _ h.nd,
    (World.cell?_setCell_other _ _ _ _ (ne_cell b 800 801 (by omega)).symm).trans h.dp, (World.cell?_setCell_other _ _ _ _ (ne_cell b 800 802 (by omega)).symm).trans h.ng,
    (World.cell?_setCell_other _ _ _ _ (ne_cell b 800 803 (by omega)).symm).trans h.tr, fun j hj => (fz_set _ _ _ _).trans (h.fz j hj)⟩
theorem DecC.put_dp (h : DecC w b D nd dp tr) (x : Int) : DecC (w.setCell ⟨b, 801, none⟩ (.int .i64 x)) b D nd x tr :=
  ⟨fun j hj => (World.cell?_setCell_other _ _ _ _ (ne_cell b 801 j (by omega)).symm).trans (h.dg j hj), (World.cell?_setCell_other _ _ _ _ (ne_cell b 801 800 (by omega)).symm).trans h.nd,
    World.cell?_setCell_same _ _ _ h.dp, (World.cell?_setCell_other _ _ _ _ (ne_cell b 801 802 (by omega)).symm).trans h.ng,
    (World.cell?_setCell_other _ _ _ _ (ne_cell b 801 803 (by omega)).symm).trans h.tr, fun j hj => (fz_set _ _ _ _).trans (h.fz j hj)⟩
theorem DecC.put_ng (h : DecC w b D nd dp tr) : DecC (w.setCell ⟨b, 802, none⟩ (.bool false)) b D nd dp tr :=
  ⟨fun j hj => (World.cell?_setCell_other _ _ _ _ (ne_cell b 802 j (by omega)).symm).trans (h.dg j hj), (World.cell?_setCell_other _ _ _ _ (ne_cell b 802 800 (by omega)).symm).trans h.nd,
    (World.cell?_setCell_other _ _ _ _ (ne_cell b 802 801 (by omega)).symm).trans h.dp, World.cell?_setCell_same _ _ _ h.ng,
    (World.cell?_setCell_other _ _ _ _ (ne_cell b 802 803 (by omega)).symm).trans h.tr, fun j hj => (fz_set _ _ _ _).trans (h.fz j hj)⟩
theorem DecC.put_tr (h : DecC w b D nd dp tr) (x : Bool) : DecC (w.setCell ⟨b, 803, none⟩ (.bool x)) b D nd dp x :=
  ⟨fun j hj => (World.cell?_setCell_other _ _ _ _ (ne_cell b 803 j (by omega)).symm).trans (h.dg j hj), (World.cell?_setCell_other _ _ _ _ (ne_cell b 803 800 (by omega)).symm).trans h.nd,
    (World.cell?_setCell_other _ _ _ _ (ne_cell b 803 801 (by omega)).symm).trans h.dp, (World.cell?_setCell_other _ _ _ _ (ne_cell b 803 802 (by omega)).symm).trans h.ng,
    World.cell?_setCell_same _ _ _ h.tr, fun j hj => (fz_set _ _ _ _).trans (h.fz j hj)⟩

/-- the digits as numbers, noughts behind the last one -/
def eD (D : Nat → Int) (nd : Nat) (j : Nat) : Nat := if j < nd then (D j - 48).toNat else 0
/-- each of the first nd is a digit -/
def DgD (D : Nat → Int) (nd : Nat) : Prop := ∀ j, j < nd → 48 ≤ D j ∧ D j ≤ 57
theorem eD_lt {D : Nat → Int} {nd : Nat} (h : DgD D nd) (j : Nat) : eD D nd j < 10 := by
  unfold eD
  split
  · rename_i hj; have := h j hj; omega
  · decide
theorem eD_val {D : Nat → Int} {nd : Nat} (h : DgD D nd) (j : Nat) (hj : j < nd) : D j = (eD D nd j : Int) + 48 := by
  unfold eD
  rw [if_pos hj]
  have := h j hj
  omega
theorem eD_out (D : Nat → Int) (nd j : Nat) (h : nd ≤ j) : eD D nd j = 0 := by
  unfold eD; rw [if_neg (by omega)]
end Go.Proofs.YtnljpbpphdhnpaaGreatDoor
