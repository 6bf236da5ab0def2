/- Doubling a row of digits, from its end on; how many digits come ahead. -/
import Derived.Test.YtnljpbpphdhnpaaGreatDoorDecS
import Derived.Test.YtnljpbpphdhnpaaGreatDoorBigA
import Derived.Test.YtnljpbpphdhnpaaGreatDoorUsE
import Derived.Test.YtnljpbpphdhnpaaGreatDoorRlA

namespace Go.Proofs.YtnljpbpphdhnpaaGreatDoor
open Go.RowKit Go.PlainAid

/-- digits from the lowest place on -/
def sR (f : Nat → Nat) : Nat → Nat
  | 0 => 0
  | i + 1 => sR f i + f i * 10 ^ i
theorem pD_rev (f : Nat → Nat) : ∀ L, pD (fun x => f (L - 1 - x)) L = sR f L := by
  intro L
  induction L with
  | zero => rfl
  | succ L ih =>
    have h := pD_split (fun x => f (L + 1 - 1 - x)) 1 L
    rw [Nat.add_comm 1 L] at h
    rw [h]
    have h1 : pD (fun x => f (L + 1 - 1 - x)) 1 = f L := by simp [pD]
    have h2 : pD (fun j => f (L + 1 - 1 - (1 + j))) L = pD (fun x => f (L - 1 - x)) L := pD_congr _ _ _ fun j _ => by rw [show L + 1 - 1 - (1 + j) = L - 1 - j by omega]
    rw [h1, h2, ih]
    show _ = sR f L + f L * 10 ^ L
    omega
/-- the digits of e from the end on, noughts ahead of the first -/
def eR (e : Nat → Nat) (nd i : Nat) : Nat := if i < nd then e (nd - 1 - i) else 0
def tL (e : Nat → Nat) (nd k : Nat) : Nat → Nat
  | 0 => 0
  | i + 1 => (tL e nd k i + eR e nd i * 2 ^ k) / 10
def sL (e : Nat → Nat) (nd k i : Nat) : Nat := tL e nd k i + eR e nd i * 2 ^ k
def rL (e : Nat → Nat) (nd k i : Nat) : Nat := sL e nd k i % 10
theorem tL_succ (e : Nat → Nat) (nd k i : Nat) : tL e nd k (i + 1) = sL e nd k i / 10 := rfl
theorem tL_le (e : Nat → Nat) (nd k : Nat) (he : ∀ j, e j < 10) : ∀ i, tL e nd k i ≤ 2 ^ k := by
  intro i
  induction i with
  | zero => exact Nat.zero_le _
  | succ i ih =>
    rw [tL_succ]
    unfold sL
    have h : eR e nd i ≤ 9 := by
      unfold eR; split
      · have := he (nd - 1 - i); omega
      · omega
    have h2 : eR e nd i * 2 ^ k ≤ 9 * 2 ^ k := Nat.mul_le_mul_right _ h
    omega
theorem tL_inv (e : Nat → Nat) (nd k : Nat) : ∀ i, sR (eR e nd) i * 2 ^ k = tL e nd k i * 10 ^ i + sR (rL e nd k) i := by
  intro i
  induction i with
  | zero => simp [sR, tL]
  | succ i ih =>
    show (sR (eR e nd) i + eR e nd i * 10 ^ i) * 2 ^ k = tL e nd k (i + 1) * 10 ^ (i + 1) + (sR (rL e nd k) i + rL e nd k i * 10 ^ i)
    rw [tL_succ, Nat.add_mul, ih]
    have h : eR e nd i * 2 ^ k + tL e nd k i = sL e nd k i / 10 * 10 + rL e nd k i := by
      unfold rL
      have := Nat.div_add_mod (sL e nd k i) 10
      have h9 : sL e nd k i = tL e nd k i + eR e nd i * 2 ^ k := rfl
      omega
    generalize sL e nd k i / 10 = q at *
    generalize rL e nd k i = r at *
    generalize tL e nd k i = t at *
    have h2 : (eR e nd i * 2 ^ k + t) * 10 ^ i = (q * 10 + r) * 10 ^ i := by rw [h]
    rw [Nat.add_mul, Nat.add_mul] at h2
    have h3 : eR e nd i * 10 ^ i * 2 ^ k = eR e nd i * 2 ^ k * 10 ^ i := by rw [Nat.mul_assoc, Nat.mul_comm (10 ^ i), ← Nat.mul_assoc]
    have h4 : q * 10 ^ (i + 1) = q * 10 * 10 ^ i := by rw [Nat.pow_succ, Nat.mul_assoc, Nat.mul_comm 10]
    rw [h3, h4]
    omega
theorem sR_eR (e : Nat → Nat) (nd : Nat) : ∀ j, sR (eR e nd) (nd + j) = pD e nd := by
  intro j
  induction j with
  | zero =>
    rw [Nat.add_zero, ← pD_rev]
    refine pD_congr _ _ _ fun x hx => ?_
    unfold eR
    rw [if_pos (by omega), show nd - 1 - (nd - 1 - x) = x by omega]
  | succ j ih =>
    show sR (eR e nd) (nd + j) + eR e nd (nd + j) * 10 ^ (nd + j) = _
    rw [ih]
    unfold eR
    rw [if_neg (by omega), Nat.zero_mul, Nat.add_zero]
theorem tL_div (e : Nat → Nat) (nd k j : Nat) : tL e nd k (nd + j) = pD e nd * 2 ^ k / 10 ^ (nd + j) := by
  have h := tL_inv e nd k (nd + j)
  rw [sR_eR] at h
  rw [h]
  have h2 : sR (rL e nd k) (nd + j) < 10 ^ (nd + j) := by
    rw [← pD_rev]
    refine pD_lt _ _ fun x _ => ?_
    exact Nat.mod_lt _ (by decide)
  rw [Nat.add_comm (tL e nd k (nd + j) * _), Nat.add_mul_div_right _ _ (ten_pos _), Nat.div_eq_of_lt h2, Nat.zero_add]
/-- the digits that are written -/
def oL (e : Nat → Nat) (nd k L x : Nat) : Nat := rL e nd k (L - 1 - x)
theorem oL_num (e : Nat → Nat) (nd k j : Nat) (h : tL e nd k (nd + j) = 0) : pD (oL e nd k (nd + j)) (nd + j) = pD e nd * 2 ^ k := by
  have h2 := tL_inv e nd k (nd + j)
  rw [sR_eR, h, Nat.zero_mul, Nat.zero_add] at h2
  rw [h2, ← pD_rev]
  rfl
theorem oL_lt (e : Nat → Nat) (nd k L x : Nat) : oL e nd k L x < 10 := Nat.mod_lt _ (by decide)
theorem first_pos (f : Nat → Nat) (L : Nat) (hf : ∀ j, f j < 10) (h : 10 ^ L ≤ pD f (L + 1)) : 1 ≤ f 0 := by
  have h1 := pD_split f 1 L
  rw [Nat.add_comm 1 L] at h1
  have h2 := pD_lt (fun j => f (1 + j)) L fun j _ => hf _
  have h3 : pD f 1 = f 0 := by simp [pD]
  rw [h3] at h1
  rcases Nat.eq_zero_or_pos (f 0) with h4 | h4
  · rw [h4, Nat.zero_mul] at h1; omega
  · exact h4
/-- of two rows of digits, with the same beginning, the first that differs tells -/
theorem lex_lt (e c : Nat → Nat) (L i : Nat) (hi : i < L) (he : ∀ j, e j < 10) (hs : ∀ j, j < i → e j = c j) (h : e i < c i) : pD e L < pD c L := by
  obtain ⟨t, rfl⟩ : ∃ t, L = i + 1 + t := ⟨L - (i + 1), by omega⟩
  rw [pD_split e (i + 1) t, pD_split c (i + 1) t, pD_succ, pD_succ, pD_congr e c i hs]
  have h2 := pD_lt (fun j => e (i + 1 + j)) t fun j _ => he _
  have h3 : (pD c i * 10 + e i + 1) * 10 ^ t ≤ (pD c i * 10 + c i) * 10 ^ t := Nat.mul_le_mul_right _ (by omega)
  rw [Nat.add_mul (pD c i * 10 + e i) 1, Nat.one_mul] at h3
  omega
/-- how many digits come ahead -/
theorem ahead_is (e : Nat → Nat) (nd k δ len : Nat) (he : ∀ j, e j < 10) (hz : ∀ j, nd ≤ j → e j = 0) (h0 : 1 ≤ e 0) (hn : 0 < nd) (hδ : δ + len = k + 1) (hδ1 : 1 ≤ δ) (c1 : 2 ^ k ≤ 10 ^ δ) (c2 : 10 ^ (δ - 1) ≤ 2 ^ k) :
    (pD e len < 5 ^ k → pD e nd * 2 ^ k < 10 ^ (δ - 1 + nd) ∧ (1 < δ → 10 ^ (δ - 2 + nd) ≤ pD e nd * 2 ^ k)) ∧ (5 ^ k ≤ pD e len → pD e nd * 2 ^ k < 10 ^ (δ + nd) ∧ 10 ^ (δ - 1 + nd) ≤ pD e nd * 2 ^ k) := by
  have hW : pD e (nd + len) = pD e nd * 10 ^ len := pD_zeros e nd len hz
  have hW2 := pD_split e len nd
  rw [Nat.add_comm len nd, hW] at hW2
  have ht := pD_lt (fun j => e (len + j)) nd fun j _ => he _
  have hlt := pD_lt e nd fun j _ => he j
  have hge : 10 ^ (nd - 1) ≤ pD e nd := by
    have := pD_ge e h0 (nd - 1)
    rwa [show nd - 1 + 1 = nd by omega] at this
  have h10 : 5 ^ k * 2 ^ k = 10 ^ (δ - 1) * 10 ^ len := by
    rw [← Nat.mul_pow, ← Nat.pow_add, show δ - 1 + len = k by omega]
  have hcancel : ∀ a b : Nat, a * 10 ^ len < b * 10 ^ len → a < b := fun a b h => Nat.lt_of_mul_lt_mul_right h
  have hcancel2 : ∀ a b : Nat, a * 10 ^ len ≤ b * 10 ^ len → a ≤ b := fun a b h => Nat.le_of_mul_le_mul_right h (ten_pos len)
  refine ⟨fun h => ⟨?_, fun hd => ?_⟩, fun h => ⟨?_, ?_⟩⟩
  · refine hcancel _ _ ?_
    have h1 : (pD e len + 1) * 10 ^ nd ≤ 5 ^ k * 10 ^ nd := Nat.mul_le_mul_right _ h
    rw [Nat.add_mul, Nat.one_mul] at h1
    have h2 : pD e nd * 10 ^ len < 5 ^ k * 10 ^ nd := by omega
    have h3 : pD e nd * 10 ^ len * 2 ^ k < 5 ^ k * 10 ^ nd * 2 ^ k := Nat.mul_lt_mul_of_pos_right h2 (Nat.two_pow_pos k)
    have e1 : pD e nd * 2 ^ k * 10 ^ len = pD e nd * 10 ^ len * 2 ^ k := by rw [Nat.mul_assoc, Nat.mul_comm (2 ^ k), ← Nat.mul_assoc]
    have e2 : 10 ^ (δ - 1 + nd) * 10 ^ len = 5 ^ k * 10 ^ nd * 2 ^ k := by
      rw [Nat.mul_assoc (5 ^ k), Nat.mul_comm (10 ^ nd), ← Nat.mul_assoc, h10, Nat.pow_add, Nat.mul_assoc, Nat.mul_comm (10 ^ nd), ← Nat.mul_assoc]
    rw [e1, e2]; exact h3
  · have h1 : 10 ^ (nd - 1) * 10 ^ (δ - 1) ≤ pD e nd * 2 ^ k := Nat.mul_le_mul hge c2
    rw [← Nat.pow_add, show nd - 1 + (δ - 1) = δ - 2 + nd by omega] at h1
    exact h1
  · have h1 : pD e nd * 2 ^ k < 10 ^ nd * 2 ^ k := Nat.mul_lt_mul_of_pos_right hlt (Nat.two_pow_pos k)
    have h2 : 10 ^ nd * 2 ^ k ≤ 10 ^ nd * 10 ^ δ := Nat.mul_le_mul_left _ c1
    rw [← Nat.pow_add, Nat.add_comm nd δ] at h2
    omega
  · refine hcancel2 _ _ ?_
    have h1 : 5 ^ k * 10 ^ nd ≤ pD e len * 10 ^ nd := Nat.mul_le_mul_right _ h
    have h2 : 5 ^ k * 10 ^ nd ≤ pD e nd * 10 ^ len := by omega
    have h3 : 5 ^ k * 10 ^ nd * 2 ^ k ≤ pD e nd * 10 ^ len * 2 ^ k := Nat.mul_le_mul_right _ h2
    have e1 : pD e nd * 2 ^ k * 10 ^ len = pD e nd * 10 ^ len * 2 ^ k := by rw [Nat.mul_assoc, Nat.mul_comm (2 ^ k), ← Nat.mul_assoc]
    have e2 : 10 ^ (δ - 1 + nd) * 10 ^ len = 5 ^ k * 10 ^ nd * 2 ^ k := by
      rw [Nat.mul_assoc (5 ^ k), Nat.mul_comm (10 ^ nd), ← Nat.mul_assoc, h10, Nat.pow_add, Nat.mul_assoc, Nat.mul_comm (10 ^ nd), ← Nat.mul_assoc]
    rw [e1, e2]; exact h3
end Go.Proofs.YtnljpbpphdhnpaaGreatDoor

/- The library's decimal in memory: its digits, how many, its point, its two marks. -/
namespace Go.Proofs.YtnljpbpphdhnpaaGreatDoor
open Go.RowKit Go.PlainAid

def upD (D : Nat → Int) (i : Nat) (x : Int) : Nat → Int := fun j => if j = i then x else D j
theorem upD_same (D : Nat → Int) (i : Nat) (x : Int) : upD D i x i = x := by simp [upD]
theorem upD_other (D : Nat → Int) (i j : Nat) (x : Int) (h : j ≠ i) : upD D i x j = D j := by simp [upD, h]

structure DecC (w : World) (b : Nat) (D : Nat → Int) (nd dp : Int) (tr : Bool) : Prop where
  dg : ∀ j, j < 800 → w.cell? ⟨b, j, none⟩ = some (.int .u8 (D j))
  nd : w.cell? ⟨b, 800, none⟩ = some (.int .i64 nd)
  dp : w.cell? ⟨b, 801, none⟩ = some (.int .i64 dp)
  ng : w.cell? ⟨b, 802, none⟩ = some (.bool false)
  tr : w.cell? ⟨b, 803, none⟩ = some (.bool tr)
  fz : ∀ j, j < 804 → w.frozen? ⟨b, j, none⟩ = false

variable {w w' : World} {b : Nat} {D : Nat → Int} {nd dp : Int} {tr : Bool}
theorem DecC.lt (h : DecC w b D nd dp tr) : b < w.heap.size := World.block_lt_of_cell? w _ h.nd
theorem DecC.keep {F : List Nat} (h : DecC w b D nd dp tr) (k : Keep F w w') (hn : b ∉ F) : DecC w' b D nd dp tr :=
  ⟨fun j hj => k.cell' (h.dg j hj) hn, k.cell' h.nd hn, k.cell' h.dp hn, k.cell' h.ng hn, k.cell' h.tr hn, fun j hj => (k.frozen (p := ⟨b, j, none⟩) h.lt hn).trans (h.fz j hj)⟩
theorem DecC.drewN (h : DecC w b D nd dp tr) (n : Nat) : DecC (w.drewN n) b D nd dp tr := ⟨h.dg, h.nd, h.dp, h.ng, h.tr, h.fz⟩
theorem ne_cell (b i j : Nat) (h : j ≠ i) : (⟨b, j, none⟩ : Addr) ≠ ⟨b, i, none⟩ := by
  intro e; injection e with _ e2 _; exact h e2
theorem fz_set (w : World) (p q : Addr) (v : Value) : (w.setCell p v).frozen? q = w.frozen? q := World.frozen?_setCell w p q v
theorem DecC.put_d (h : DecC w b D nd dp tr) (i : Nat) (x : Int) (hi : i < 800) : DecC (w.setCell ⟨b, i, none⟩ (.int .u8 x)) b (upD D i x) nd dp tr := by
  refine ⟨fun j hj => ?_, ?_, ?_, ?_, ?_, fun j hj => (fz_set _ _ _ _).trans (h.fz j hj)⟩
  · by_cases e : j = i
    · subst e
      rw [upD_same]
      exact World.cell?_setCell_same _ _ _ (h.dg j hj)
    · rw [upD_other _ _ _ _ e]
      exact (World.cell?_setCell_other _ _ _ _ (ne_cell b i j e).symm).trans (h.dg j hj)
  · exact (World.cell?_setCell_other _ _ _ _ (ne_cell b i 800 (by omega)).symm).trans h.nd
  · exact (World.cell?_setCell_other _ _ _ _ (ne_cell b i 801 (by omega)).symm).trans h.dp
  · exact (World.cell?_setCell_other _ _ _ _ (ne_cell b i 802 (by omega)).symm).trans h.ng
  · exact (World.cell?_setCell_other _ _ _ _ (ne_cell b i 803 (by omega)).symm).trans h.tr
theorem DecC.put_nd (h : DecC w b D nd dp tr) (x : Int) : DecC (w.setCell ⟨b, 800, none⟩ (.int .i64 x)) b D x dp tr :=
  ⟨fun j hj => (World.cell?_setCell_other _ _ _ _ (ne_cell b 800 j (by omega)).symm).trans (h.dg j hj), World.cell?_setCell_same _ _ _ h.nd,
    (World.cell?_setCell_other _ _ _ _ (ne_cell b 800 801 (by omega)).symm).trans h.dp, (World.cell?_setCell_other _ _ _ _ (ne_cell b 800 802 (by omega)).symm).trans h.ng,
    (World.cell?_setCell_other _ _ _ _ (ne_cell b 800 803 (by omega)).symm).trans h.tr, fun j hj => (fz_set _ _ _ _).trans (h.fz j hj)⟩
theorem DecC.put_dp (h : DecC w b D nd dp tr) (x : Int) : DecC (w.setCell ⟨b, 801, none⟩ (.int .i64 x)) b D nd x tr :=
  ⟨fun j hj => (World.cell?_setCell_other _ _ _ _ (ne_cell b 801 j (by omega)).symm).trans (h.dg j hj), (World.cell?_setCell_other _ _ _ _ (ne_cell b 801 800 (by omega)).symm).trans h.nd,
    World.cell?_setCell_same _ _ _ h.dp, (World.cell?_setCell_other _ _ _ _ (ne_cell b 801 802 (by omega)).symm).trans h.ng,
    (World.cell?_setCell_other _ _ _ _ (ne_cell b 801 803 (by omega)).symm).trans h.tr, fun j hj => (fz_set _ _ _ _).trans (h.fz j hj)⟩
theorem DecC.put_ng (h : DecC w b D nd dp tr) : DecC (w.setCell ⟨b, 802, none⟩ (.bool false)) b D nd dp tr :=
  ⟨fun j hj => (World.cell?_setCell_other _ _ _ _ (ne_cell b 802 j (by omega)).symm).trans (h.dg j hj), (World.cell?_setCell_other _ _ _ _ (ne_cell b 802 800 (by omega)).symm).trans h.nd,
    (World.cell?_setCell_other _ _ _ _ (ne_cell b 802 801 (by omega)).symm).trans h.dp, World.cell?_setCell_same _ _ _ h.ng,
    (World.cell?_setCell_other _ _ _ _ (ne_cell b 802 803 (by omega)).symm).trans h.tr, fun j hj => (fz_set _ _ _ _).trans (h.fz j hj)⟩
theorem DecC.put_tr (h : DecC w b D nd dp tr) (x : Bool) : DecC (w.setCell ⟨b, 803, none⟩ (.bool x)) b D nd dp x :=
  ⟨fun j hj => (World.cell?_setCell_other _ _ _ _ (ne_cell b 803 j (by omega)).symm).trans (h.dg j hj), (World.cell?_setCell_other _ _ _ _ (ne_cell b 803 800 (by omega)).symm).trans h.nd,
    (World.cell?_setCell_other _ _ _ _ (ne_cell b 803 801 (by omega)).symm).trans h.dp, (World.cell?_setCell_other _ _ _ _ (ne_cell b 803 802 (by omega)).symm).trans h.ng,
    World.cell?_setCell_same _ _ _ h.tr, fun j hj => (fz_set _ _ _ _).trans (h.fz j hj)⟩

/-- the digits as numbers, noughts behind the last one -/
def eD (D : Nat → Int) (nd : Nat) (j : Nat) : Nat := if j < nd then (D j - 48).toNat else 0
/-- each of the first nd is a digit -/
def DgD (D : Nat → Int) (nd : Nat) : Prop := ∀ j, j < nd → 48 ≤ D j ∧ D j ≤ 57
theorem eD_lt {D : Nat → Int} {nd : Nat} (h : DgD D nd) (j : Nat) : eD D nd j < 10 := by
  unfold eD
  split
  · rename_i hj; have := h j hj; omega
  · decide
theorem eD_val {D : Nat → Int} {nd : Nat} (h : DgD D nd) (j : Nat) (hj : j < nd) : D j = (eD D nd j : Int) + 48 := by
  unfold eD
  rw [if_pos hj]
  have := h j hj
  omega
theorem eD_out (D : Nat → Int) (nd j : Nat) (h : nd ≤ j) : eD D nd j = 0 := by
  unfold eD; rw [if_neg (by omega)]
end Go.Proofs.YtnljpbpphdhnpaaGreatDoor

/- The library's parseFloat32 for numbers times a power of ten that is told exactly: its parts. -/
namespace Go.Proofs.YtnljpbpphdhnpaaGreatDoor
open Go.RowKit Go.PlainAid

theorem bitLen_log (d : Nat) (h0 : 0 < d) (h : d < 2 ^ 64) : Lib.bitLen d = d.log2 + 1 := by
  induction d using Nat.strongRecOn with
  | _ d ih =>
    rw [Lib.bitLen_half d (by omega) h, Nat.log2_def]
    by_cases h1 : 2 ≤ d
    · rw [if_pos h1, ih (d / 2) (by omega) (by omega) (by omega)]; omega
    · rw [if_neg h1, show d / 2 = 0 by omega]; rfl
/-- the places of ten to the power p, less one -/
def lpP (p : Nat) : Nat := p * 108853 / 32768
/-- ten to the power p, its first place at 2^63 -/
def hiP (p : Nat) : Nat := 10 ^ p * 2 ^ (63 - lpP p)
theorem lp_facts : ∀ p, p < 19 → lpP p ≤ 59 ∧ 2 ^ lpP p ≤ 10 ^ p ∧ 100 * 10 ^ p < 98 * 2 ^ (lpP p + 1) ∧ hiP p < 18446744073709551616 := by decide

set_option maxRecDepth 1000000 in
theorem log2_any (p : Nat) (h : p ≤ 18) (w : World) : Calls Tryz.prog 172 #[.int .i64 (p : Int)] w fun e w' => e = .returned (.int .i64 ((lpP p : Nat) : Int)) ∧ w' = w := by
  have e : ((p : Int) * 108853) / 2 ^ 15 = ((lpP p : Nat) : Int) := by unfold lpP; omega
  go_enter Tryz.func172, Tryz.ntmps172
  go_wp2
  go_ret
  exact ⟨by simp [← e], rfl⟩
set_option maxRecDepth 1000000 in
set_option maxHeartbeats 400000 in
theorem round_any (u q r : Int) (h : 0 ≤ u ∧ u < 1073741824) (e1 : bits .and .u64 (u / 4) 1 = q) (hq : 0 ≤ q ∧ q ≤ 1) (e2 : (u + 1 + q) / 4 = r) (w : World) : Calls Tryz.prog 177 #[.int .u64 u] w fun e w' => e = .returned (.int .u64 r) ∧ w' = w := by
  obtain ⟨h0, h1⟩ := h
  obtain ⟨q0, q1⟩ := hq
  have E2 : Hid ((u + 1 + q) / 4 = r) := e2
  clear e2
  go_enter Tryz.func177, Tryz.ntmps177
  go_wp2
  go_ret
  exact ⟨by simp [← E2.out], rfl⟩
end Go.Proofs.YtnljpbpphdhnpaaGreatDoor


/- The library's parseFloat32 for numbers times a power of ten that is told exactly. -/
namespace Go.Proofs.YtnljpbpphdhnpaaGreatDoor
open Go.RowKit Go.PlainAid

theorem round_nat (u : Nat) (h : u < 1073741824) (w : World) : Calls Tryz.prog 177 #[.int .u64 (u : Int)] w fun e w' => e = .returned (.int .u64 ((rndU u : Nat) : Int)) ∧ w' = w := by
  have e1 : bits .and .u64 ((u : Int) / 4) 1 = ((u / 4 % 2 : Nat) : Int) := by
    rw [show (u : Int) / 4 = ((u / 4 : Nat) : Int) by omega]; exact and_one _ (by omega)
  exact round_any u _ _ (by omega) e1 (by omega) (by unfold rndU; omega) w

theorem and23Q (m : Nat) (h : 8388608 ≤ m) (h2 : m < 16777216) : m &&& 8388608 = 8388608 := by
  have h3 : m &&& 2 ^ 23 = 2 ^ 23 := by
    apply Nat.eq_of_testBit_eq
    intro i
    rw [Nat.testBit_and, Nat.testBit_two_pow]
    by_cases hi : 23 = i
    · subst hi
      rw [Nat.testBit_eq_decide_div_mod_eq]
      simp
      omega
    · simp [hi]
  simpa using h3
theorem and23_bits (m : Nat) (h : 8388608 ≤ m) (h2 : m < 16777216) : bits .and .u32 (m : Int) 8388608 = 8388608 := by
  have := u32_and_nat m 8388608 (by omega) (by decide)
  rw [and23Q m h h2] at this
  exact this
theorem andNot23_bits (m : Nat) (h : 8388608 ≤ m) (h2 : m < 16777216) : bits .andNot .u32 (m : Int) 8388608 = ((m - 8388608 : Nat) : Int) := by
  have h1 := u32_andNot_nat m 8388608 (by omega) (by decide)
  have e : ((8388608 : Nat) : Int) = 8388608 := rfl
  rw [e] at h1
  rw [h1, show 4294967295 - 8388608 = 4286578687 from rfl]
  have h4 : m &&& 4286578687 = m - 8388608 := by
    have h5 : m = 8388608 ||| (m - 8388608) := by
      have := Nat.two_pow_add_eq_or_of_lt (i := 23) (b := m - 8388608) (by omega) 1
      simp at this
      omega
    have h6 : (8388608 : Nat) &&& 4286578687 = 0 := by decide
    have h7 : (m - 8388608) &&& 4286578687 = m - 8388608 := by
      have e1 : (m - 8388608) &&& 8388607 = m - 8388608 := by
        rw [show (8388607 : Nat) = 2 ^ 23 - 1 by decide, Nat.and_two_pow_sub_one_eq_mod]; omega
      have e2 : (8388607 : Nat) &&& 4286578687 = 8388607 := by decide
      conv => lhs; rw [← e1, Nat.and_assoc, e2]
      exact e1
    conv => lhs; rw [h5, Nat.and_or_distrib_right, h6, h7]
    simp
  rw [h4]
theorem or23_bits (f k : Nat) (h : f < 8388608) (hk : k < 512) : bits .or .u32 (f : Int) ((k * 8388608 : Nat) : Int) = ((f + k * 8388608 : Nat) : Int) := by
  have h1 := u32_or_nat f (k * 8388608) (by omega) (by omega)
  rw [h1]
  have h2 := Nat.two_pow_add_eq_or_of_lt (i := 23) (b := f) (by omega) k
  rw [Nat.or_comm, show k * 8388608 = 2 ^ 23 * k by omega, ← h2]
  congr 1
  omega

set_option maxRecDepth 1000000 in
set_option maxHeartbeats 400000 in
theorem pack_raw (m E f K : Int) (zn : Nat) (e1 : bits .and .u32 m 8388608 = 8388608) (e2 : bits .andNot .u32 m 8388608 = f) (e3 : bits .or .u32 f K = (zn : Int)) (hE : -150 ≤ E ∧ E < 105) (hK : IntKind.u32.wrap ((150 + E) * 8388608) = K) (w : World) :
    Calls Tryz.prog 190 #[.int .u32 m, .int .i64 E] w fun e w' => e = .returned (.tuple #[.float .f32 zn, .nilIface]) ∧ w' = w := by
  have hF := run_sfrom zn
  obtain ⟨hE0, hE1⟩ := hE
  go_enter Tryz.func190, Tryz.ntmps190
  go_wp2
  go_ret2
  exact ⟨rfl, rfl⟩
theorem pack_any (m : Nat) (E : Int) (k : Nat) (h1 : 8388608 ≤ m) (h2 : m < 16777216) (hk : 150 + E = (k : Int)) (hk2 : k < 255) (w : World) :
    Calls Tryz.prog 190 #[.int .u32 (m : Int), .int .i64 E] w fun e w' => e = .returned (.tuple #[.float .f32 (m - 8388608 + k * 8388608), .nilIface]) ∧ w' = w :=
  pack_raw (m : Int) E _ _ (m - 8388608 + k * 8388608) (and23_bits m h1 h2) (andNot23_bits m h1 h2) (or23_bits (m - 8388608) k (by omega) (by omega)) (by omega) (by rw [hk, IntKind.wrap_u32]; omega) w
end Go.Proofs.YtnljpbpphdhnpaaGreatDoor


/- Whole numbers as reals and back: the program's FromInt and ToInt. -/
namespace Go.Proofs.YtnljpbpphdhnpaaGreatDoor
open Go.RowKit Go.PlainAid

def fromI (n : Int) : Nat := if decide (n < 0) then rndR (n.natAbs * 2 ^ 149) + 2147483648 else rndR (n.natAbs * 2 ^ 149)

theorem fromI_float (n : Int) : floatOfInt .f32 n = fromI n := by
  have h1 : floatOfInt .f32 n = Ieee.single.nearest (decide (n < 0)) n.natAbs 0 := rfl
  have h2 := nearest_rnd (decide (n < 0)) n.natAbs 149
  rw [show (-149 : Int) + ((149 : Nat) : Int) = 0 from rfl] at h2
  rw [h1, h2]
  have e1 : Ieee.single.signWeight = 2147483648 := by decide
  unfold fromI
  generalize rndR (n.natAbs * 2 ^ 149) = r
  generalize decide (n < 0) = b
  unfold Ieee.Format.word
  rw [e1]
  cases b
  · rw [if_neg (by decide), if_neg (by decide)]
  · rw [if_pos rfl, if_pos rfl]; exact Nat.add_comm _ _

theorem fromI_lt (n : Int) : fromI n < 4294967296 := by
  have h := rndR_le (n.natAbs * 2 ^ 149)
  unfold fromI
  generalize rndR (n.natAbs * 2 ^ 149) = r at *
  split <;> omega

/-- the worth, if it is a whole number of 64 bits -/
def toI (x : Nat) : Int × Bool := if rungN x < 2139095040 ∧ svalZ x = wholeZ x * 2 ^ 149 ∧ -9223372036854775808 ≤ wholeZ x ∧ wholeZ x ≤ 9223372036854775807 then (wholeZ x, true) else (0, false)

theorem order_nanQ (x y : Nat) (h : nanB x = true) (o : Ordering) : (FloatKind.f32.format.order x y == some o) = false := by
  show (Ieee.single.order x y == some o) = _
  rw [order_any, if_pos (.inl (by simpa [nanB, rungN] using h))]
  rfl

end Go.Proofs.YtnljpbpphdhnpaaGreatDoor


/- A whole number as the nearest real: its neighbours, its order, what it is as a whole number again. -/
namespace Go.Proofs.YtnljpbpphdhnpaaGreatDoor
open Go.RowKit Go.PlainAid

theorem valN_at (d m : Nat) (h1 : 8388608 ≤ m) (h2 : m ≤ 16777216) : valN (d * 8388608 + m) = m * 2 ^ d := by
  unfold valN
  rw [if_neg (by omega)]
  by_cases h : m = 16777216
  · rw [h, show (d * 8388608 + 16777216) % 8388608 = 0 by omega, show (d * 8388608 + 16777216) / 8388608 - 1 = d + 1 by omega, Nat.pow_succ, Nat.mul_comm (2 ^ d) 2, ← Nat.mul_assoc]
  · rw [show (d * 8388608 + m) % 8388608 = m - 8388608 by omega, show (d * 8388608 + m) / 8388608 - 1 = d by omega, show 8388608 + (m - 8388608) = m by omega]

/-- between the rung ahead and the one behind the nearest -/
theorem near_all (X : Nat) (h : 23 ≤ X.log2) (hinf : rndR X < 2139095040) :
    (valN (rndR X) < X → X < valN (rndR X + 1)) ∧ (X < valN (rndR X) → valN (rndR X - 1) < X) ∧ (X % 2 ^ (X.log2 - 23) = 0 → valN (rndR X) = X) := by
  have hX : X ≠ 0 := by intro e; rw [e] at h; exact absurd h (by decide)
  have low := @rnd_low X h
  have top := @rnd_top X
  have e : rndR X = (X.log2 - 23) * 8388608 + rne X (X.log2 - 23) := by
    unfold rndR at hinf ⊢; omega
  have hL : X < 2 ^ (X.log2 + 1) := Nat.lt_log2_self
  have hq : X / 2 ^ (X.log2 - 23) < 16777216 := by
    rw [Nat.div_lt_iff_lt_mul (Nat.two_pow_pos _), show (16777216 : Nat) = 2 ^ 24 by decide, ← Nat.pow_add, show 24 + (X.log2 - 23) = X.log2 + 1 by omega]
    exact hL
  have hz : 8388608 ≤ X / 2 ^ (X.log2 - 23) := by
    rw [Nat.le_div_iff_mul_le (Nat.two_pow_pos _), show (8388608 : Nat) = 2 ^ 23 by decide, ← Nat.pow_add, show 23 + (X.log2 - 23) = X.log2 by omega]
    exact Nat.log2_self_le hX
  have hm : rne X (X.log2 - 23) = X / 2 ^ (X.log2 - 23) + (rneB X (X.log2 - 23)).toNat := rfl
  have hdm := Nat.div_add_mod X (2 ^ (X.log2 - 23))
  have hR : X % 2 ^ (X.log2 - 23) < 2 ^ (X.log2 - 23) := Nat.mod_lt _ (Nat.two_pow_pos _)
  have hb : (rneB X (X.log2 - 23)) = true → 0 < X % 2 ^ (X.log2 - 23) := by
    unfold rneB
    simp only [Bool.or_eq_true, decide_eq_true_eq, Bool.and_eq_true, beq_iff_eq]
    have := Nat.two_pow_pos (X.log2 - 23)
    rintro (h | ⟨h, _⟩) <;> omega
  rw [e]
  clear hL h hinf e
  generalize X.log2 - 23 = d at *
  rw [valN_at d _ low top]
  generalize rne X d = m at *
  generalize rneB X d = b at *
  generalize hZ : X / 2 ^ d = Z at *
  generalize hRR : X % 2 ^ d = R at *
  generalize ht : 2 ^ d = t at *
  refine ⟨fun h => ?_, fun h => ?_, fun h => ?_⟩
  · rw [show d * 8388608 + m + 1 = d * 8388608 + (m + 1) by omega]
    have hbf : b = false := by
      cases b
      · rfl
      · simp at hm
        rw [hm, Nat.add_mul, Nat.one_mul, Nat.mul_comm] at h
        omega
    rw [hbf] at hm
    simp at hm
    rw [hm, valN_at d (Z + 1) (by omega) (by omega), ht, Nat.add_mul, Nat.one_mul, Nat.mul_comm Z t]
    omega
  · have hbt : b = true := by
      cases b
      · simp at hm
        rw [hm, Nat.mul_comm] at h
        omega
      · rfl
    have hR0 := hb hbt
    rw [hbt] at hm
    simp at hm
    rw [hm, show d * 8388608 + (Z + 1) - 1 = d * 8388608 + Z by omega, valN_at d Z (by omega) (by omega), ht, Nat.mul_comm Z t]
    omega
  · have hbf : b = false := by
      cases b
      · rfl
      · have := hb rfl; omega
    rw [hbf] at hm
    simp at hm
    rw [hm, Nat.mul_comm]
    omega

/-- the worth of 1 -/
def P149 : Nat := 2 ^ 149
theorem rnd_big : rndR (9223372036854775808 * P149) = 1593835520 := by decide
theorem p149_pos : 0 < P149 := by decide

/-- a whole number that isn't 0 and its rung -/
theorem near_whole (N : Nat) (h0 : 0 < N) (h1 : N ≤ 9223372036854775808) :
    0 < rndR (N * P149) ∧ rndR (N * P149) ≤ 1593835520 ∧ (valN (rndR (N * P149)) < N * P149 → N * P149 < valN (rndR (N * P149) + 1)) ∧ (N * P149 < valN (rndR (N * P149)) → valN (rndR (N * P149) - 1) < N * P149) ∧ (N ≤ 16777216 → valN (rndR (N * P149)) = N * P149) := by
  have hpos : 0 < N * P149 := Nat.mul_pos h0 p149_pos
  have hl : (N * P149).log2 = N.log2 + 149 := log2_scale N 149 h0
  have hb : rndR (N * P149) ≤ 1593835520 := by
    rw [← rnd_big]; exact rndR_mono (Nat.mul_le_mul_right _ h1)
  obtain ⟨a1, a2, a3⟩ := near_all (N * P149) (by omega) (by omega)
  refine ⟨rndR_pos hpos, hb, a1, a2, fun h => a3 ?_⟩
  rw [hl]
  have h3 : N < 2 ^ (N.log2 + 1) := Nat.lt_log2_self
  have h4 : 2 ^ N.log2 ≤ N := Nat.log2_self_le (by omega)
  by_cases hN : N = 16777216
  · rw [hN]; decide
  · have h5 : N.log2 < 24 := by rw [Nat.log2_lt (by omega)]; omega
    have e : P149 = 2 ^ (149 - (N.log2 + 149 - 23)) * 2 ^ (N.log2 + 149 - 23) := by
      unfold P149
      rw [← Nat.pow_add]; congr 1; omega
    rw [e, ← Nat.mul_assoc]
    exact Nat.mul_mod_left _ _
theorem fromI_p (n : Int) : fromI n = if n < 0 then rndR (n.natAbs * P149) + 2147483648 else rndR (n.natAbs * P149) := by
  unfold fromI P149
  by_cases h : n < 0
  · rw [if_pos h, if_pos (decide_eq_true h)]
  · rw [if_neg h, if_neg (by simpa using h)]
theorem sval_pos (r : Nat) (h : r < 2147483648) : svalZ r = (valN r : Int) := by
  unfold svalZ rungN
  rw [if_neg (by omega), Nat.mod_eq_of_lt h]
theorem sval_neg (r : Nat) (h : r < 2147483648) : svalZ (r + 2147483648) = -(valN r : Int) := by
  unfold svalZ rungN
  rw [if_pos (by omega), show (r + 2147483648) % 2147483648 = r by omega]
theorem nan_pos (r : Nat) (h : r ≤ 2139095040) : nanB r = false := by unfold nanB; simp; omega
theorem nan_neg (r : Nat) (h : r ≤ 2139095040) : nanB (r + 2147483648) = false := by unfold nanB; simp; omega
theorem key_pos (r : Nat) (h : r ≤ 2139095040) : keyN r = r + 2147483648 := by
  unfold keyN; rw [nan_pos r h, if_neg (by simp), if_neg (by omega)]
theorem key_neg (r : Nat) (h : r ≤ 2139095040) : keyN (r + 2147483648) = 2147483647 - r := by
  unfold keyN; rw [nan_neg r h, if_neg (by simp), if_pos (by omega)]; omega
theorem from_pos (r : Nat) (h : r ≤ 2139095040) : fromN (r + 2147483648) = r := by
  have e : bitsK (r + 2147483648) = r := by unfold bitsK; rw [if_pos (by omega)]; omega
  unfold fromN; rw [e, nan_pos r h, if_neg (by simp)]
theorem from_neg (r : Nat) (h : r ≤ 2139095040) : fromN (2147483647 - r) = r + 2147483648 := by
  have e : bitsK (2147483647 - r) = r + 2147483648 := by unfold bitsK; rw [if_neg (by omega)]; omega
  unfold fromN; rw [e, nan_neg r h, if_neg (by simp)]
theorem up_pos (r : Nat) (h : r < 2139095040) : nextN r true = r + 1 := by
  unfold nextN
  rw [if_pos rfl, key_pos r (by omega), show r + 2147483648 + 1 = (r + 1) + 2147483648 by omega, from_pos _ (by omega)]
theorem down_pos (r : Nat) (h0 : 0 < r) (h : r < 2139095040) : nextN r false = r - 1 := by
  unfold nextN
  rw [if_neg (by simp), key_pos r (by omega), if_neg (by omega), if_neg (by omega), show r + 2147483648 - 1 = (r - 1) + 2147483648 by omega, from_pos _ (by omega)]
theorem up_neg (r : Nat) (h0 : 0 < r) (h : r < 2139095040) : nextN (r + 2147483648) true = r - 1 + 2147483648 := by
  unfold nextN
  rw [if_pos rfl, key_neg r (by omega), show 2147483647 - r + 1 = 2147483647 - (r - 1) by omega, from_neg _ (by omega)]
theorem down_neg (r : Nat) (h : r < 2139095040) : nextN (r + 2147483648) false = r + 1 + 2147483648 := by
  unfold nextN
  rw [if_neg (by simp), key_neg r (by omega), if_neg (by omega), if_neg (by omega), show 2147483647 - r - 1 = 2147483647 - (r + 1) by omega, from_neg _ (by omega)]
theorem up_zero : nextN 0 true = 1 := by decide
theorem down_zero : nextN 0 false = 2147483648 := by decide

/-- what the statement on whole numbers asks of one -/
structure WhA (n : Int) (x : Nat) : Prop where
  lt : x < 4294967296
  na : nanB x = false
  nu : nanB (nextN x true) = false
  nd : nanB (nextN x false) = false
  lu : nextN x true < 4294967296
  ld : nextN x false < 4294967296
  up : svalZ x < n * (P149 : Nat) → n * (P149 : Nat) < svalZ (nextN x true)
  down : n * (P149 : Nat) < svalZ x → svalZ (nextN x false) < n * (P149 : Nat)
  small : n.natAbs ≤ 16777216 → svalZ x = n * (P149 : Nat)
  rung : rungN x < 2139095040
theorem whole_math (n : Int) (h1 : -9223372036854775808 ≤ n) (h2 : n ≤ 9223372036854775807) : WhA n (fromI n) := by
  rw [fromI_p]
  by_cases h0 : n = 0
  · subst h0
    rw [if_neg (by omega), show (0 : Int).natAbs * P149 = 0 by simp, rndR_zero]
    exact ⟨by decide, by decide, by decide, by decide, by decide, by decide, fun h => absurd h (by decide), fun h => absurd h (by decide), fun _ => by decide, by decide⟩
  · obtain ⟨a1, a2, a3, a4, a5⟩ := near_whole n.natAbs (by omega) (by omega)
    generalize hr : rndR (n.natAbs * P149) = r at *
    by_cases hn : n < 0
    · have en : n * (P149 : Nat) = -((n.natAbs * P149 : Nat) : Int) := by
        rw [Int.natCast_mul, show ((n.natAbs : Nat) : Int) = -n by omega, Int.neg_mul, Int.neg_neg]
      rw [if_pos hn]
      refine ⟨by omega, nan_neg r (by omega), by rw [up_neg r a1 (by omega)]; exact nan_neg _ (by omega), by rw [down_neg r (by omega)]; exact nan_neg _ (by omega), by rw [up_neg r a1 (by omega)]; omega, by rw [down_neg r (by omega)]; omega, fun h => ?_, fun h => ?_, fun h => ?_, by unfold rungN; omega⟩
      · rw [en, up_neg r a1 (by omega), sval_neg _ (by omega)]
        rw [en, sval_neg r (by omega)] at h
        have := a4 (by omega)
        omega
      · rw [en, down_neg r (by omega), sval_neg _ (by omega)]
        rw [en, sval_neg r (by omega)] at h
        have := a3 (by omega)
        omega
      · rw [en, sval_neg r (by omega), a5 h]
    · have en : n * (P149 : Nat) = ((n.natAbs * P149 : Nat) : Int) := by
        rw [Int.natCast_mul, show ((n.natAbs : Nat) : Int) = n by omega]
      rw [if_neg hn]
      refine ⟨by omega, nan_pos r (by omega), by rw [up_pos r (by omega)]; exact nan_pos _ (by omega), by rw [down_pos r a1 (by omega)]; exact nan_pos _ (by omega), by rw [up_pos r (by omega)]; omega, by rw [down_pos r a1 (by omega)]; omega, fun h => ?_, fun h => ?_, fun h => ?_, by unfold rungN; omega⟩
      · rw [en, up_pos r (by omega), sval_pos _ (by omega)]
        rw [en, sval_pos r (by omega)] at h
        have := a3 (by omega)
        omega
      · rw [en, down_pos r a1 (by omega), sval_pos _ (by omega)]
        rw [en, sval_pos r (by omega)] at h
        have := a4 (by omega)
        omega
      · rw [en, sval_pos r (by omega), a5 h]

theorem key_fromI (n : Int) (h1 : -9223372036854775808 ≤ n) (h2 : n ≤ 9223372036854775807) : ((keyN (fromI n) : Nat) : Int) = if n < 0 then 2147483647 - (rndR (n.natAbs * P149) : Int) else 2147483648 + (rndR (n.natAbs * P149) : Int) := by
  have hr : rndR (n.natAbs * P149) ≤ 1593835520 := by
    rw [← rnd_big]; exact rndR_mono (Nat.mul_le_mul_right _ (by omega))
  rw [fromI_p]
  generalize rndR (n.natAbs * P149) = r at *
  unfold keyN
  by_cases hn : n < 0
  · rw [if_pos hn, if_pos hn, nan_neg r (by omega), if_neg (by simp), if_pos (by omega)]; omega
  · rw [if_neg hn, if_neg hn, nan_pos r (by omega), if_neg (by simp), if_neg (by omega)]; omega
theorem key_mono (n m : Int) (h1 : -9223372036854775808 ≤ n) (h2 : n ≤ 9223372036854775807) (h3 : -9223372036854775808 ≤ m) (h4 : m ≤ 9223372036854775807) (h : n ≤ m) : (keyN (fromI n) : Int) ≤ keyN (fromI m) := by
  rw [key_fromI n h1 h2, key_fromI m h3 h4]
  by_cases hn : n < 0
  · by_cases hm : m < 0
    · have := rndR_mono (Nat.mul_le_mul_right P149 (show m.natAbs ≤ n.natAbs by omega))
      rw [if_pos hn, if_pos hm]; omega
    · rw [if_pos hn, if_neg hm]; omega
  · have := rndR_mono (Nat.mul_le_mul_right P149 (show n.natAbs ≤ m.natAbs by omega))
    rw [if_neg hn, if_neg (show ¬ m < 0 by omega)]; omega
/-- what it is as a whole number -/
theorem toI_small (n : Int) (x : Nat) (h : WhA n x) (h1 : -16777216 ≤ n) (h2 : n ≤ 16777216) : toI x = (n, true) := by
  have e := h.small (by omega)
  have hp := p149_pos
  have hw : wholeZ x = n := by
    have e2 : wholeZ x = if x / 2147483648 % 2 = 1 then -((valN (rungN x) / P149 : Nat) : Int) else ((valN (rungN x) / P149 : Nat) : Int) := rfl
    rw [e2]
    unfold svalZ at e
    generalize valN (rungN x) = v at *
    generalize P149 = p at *
    have hv : v = n.natAbs * p := by
      have e3 : ((v : Nat) : Int).natAbs = (n * (p : Int)).natAbs := by
        rw [← e]; split <;> simp
      rw [Int.natAbs_mul] at e3
      simpa using e3
    rw [hv, Nat.mul_div_cancel _ hp]
    rw [hv] at e
    split
    · rename_i hs
      rw [if_pos hs] at e
      have : (-(n.natAbs : Int)) * (p : Int) = n * (p : Int) := by rw [← e, Int.natCast_mul, Int.neg_mul]
      exact Int.eq_of_mul_eq_mul_right (by omega) this
    · rename_i hs
      rw [if_neg hs] at e
      have : ((n.natAbs : Nat) : Int) * (p : Int) = n * (p : Int) := by rw [← e, Int.natCast_mul]
      exact Int.eq_of_mul_eq_mul_right (by omega) this
  unfold toI
  rw [if_pos]
  · rw [hw]
  · rw [hw]
    exact ⟨h.rung, e, by omega, by omega⟩
theorem cmpI_mul (k n : Int) (p : Nat) (hp : 0 < p) : cmpI (k * p) (n * p) = cmpI k n := by
  have h1 : k * (p : Int) < n * p ↔ k < n := Int.mul_lt_mul_right (by omega)
  have h2 : n * (p : Int) < k * p ↔ n < k := Int.mul_lt_mul_right (by omega)
  unfold cmpI
  simp only [h1, h2]
/-- c, whole and k go together -/
theorem toI_cmp (n : Int) (x : Nat) (h : (toI x).2 = true) : cmpI (svalZ x) (n * (P149 : Nat)) = cmpI (toI x).1 n := by
  unfold toI at h ⊢
  split at h
  · rename_i hh
    rw [if_pos hh]
    have : svalZ x = wholeZ x * ((P149 : Nat) : Int) := hh.2.1
    rw [this]
    exact cmpI_mul _ _ _ p149_pos
  · cases h
end Go.Proofs.YtnljpbpphdhnpaaGreatDoor

