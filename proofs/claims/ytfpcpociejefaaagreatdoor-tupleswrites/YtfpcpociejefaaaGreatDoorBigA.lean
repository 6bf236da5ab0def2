/- A Reader in memory: what it has left and its error; what is asked of it without reading. -/
import Derived.Test.YtfpcpociejefaaaGreatDoorWMeth
import Derived.Test.YtfpcpociejefaaaGreatDoorOwnI
import Derived.WalkMore

namespace Go.Proofs.YtfpcpociejefaaaGreatDoor
open Go.RowKit Go.PlainAid Go.Lib
/-- at b, o lies a Reader that has l left, in the block rb (or in none), and the error e -/
structure Rd (w : World) (b o : Nat) (l : List UInt8) (e : Int) (rb : Option Nat) : Prop where
 f0 : w.frozen? ⟨b, o, none⟩ = false
 f1 : w.frozen? ⟨b, o + 1, none⟩ = false
 ne : rb ≠ some b
 lt : ∀ k, rb = some k → k < w.heap.size
 err : w.cell? ⟨b, o + 1, none⟩ = some (.int .i64 e)
 rest : (l = [] ∧ rb = none ∧ w.cell? ⟨b, o, none⟩ = some (.slice none 0 0)) ∨
  (∃ b2 o2 cap, rb = some b2 ∧ w.cell? ⟨b, o, none⟩ = some (.slice (some ⟨b2, o2, none⟩) l.length cap) ∧ l.length ≤ cap ∧ cap ≤ 9223372036854775807 ∧
   ∀ j, j < l.length → w.cell? ⟨b2, o2 + j, none⟩ = some (.int .u8 ((l.getD j 0).toNat : Int)))
theorem Rd.blt {w : World} {b o : Nat} {l : List UInt8} {e : Int} {rb : Option Nat} (h : Rd w b o l e rb) : b < w.heap.size := World.block_lt_of_cell? w _ h.err
theorem Rd.keep {F : List Nat} {w w' : World} {b o : Nat} {l : List UInt8} {e : Int} {rb : Option Nat} (h : Rd w b o l e rb) (k : Keep F w w') (hb : b ∉ F) (hr : ∀ x, rb = some x → x ∉ F) : Rd w' b o l e rb := by
 refine ⟨(k.frozen (p := ⟨b, o, none⟩) h.blt hb).trans h.f0, (k.frozen (p := ⟨b, o + 1, none⟩) h.blt hb).trans h.f1, h.ne, fun x hx => Nat.lt_of_lt_of_le (h.lt x hx) k.size, k.cell' h.err hb, ?_⟩
 rcases h.rest with ⟨h1, h2, h3⟩ | ⟨b2, o2, cap, h1, h2, h3, h4, h5⟩
 ·exact .inl ⟨h1, h2, k.cell' h3 hb⟩
 ·exact .inr ⟨b2, o2, cap, h1, k.cell' h2 hb, h3, h4, fun j hj => k.cell' (h5 j hj) (hr b2 h1)⟩
theorem Rd.len {w : World} {b o : Nat} {l : List UInt8} {e : Int} {rb : Option Nat} (h : Rd w b o l e rb) : l.length ≤ 9223372036854775807 := by
 rcases h.rest with ⟨h1, _⟩ | ⟨b2, o2, cap, h1, h2, h3, h4, h5⟩
 ·rw [h1]; simp
 ·omega
/-- the Reader goes on: n bytes are read, and its error is er -/
theorem Rd.stored {w w1 : World} {b o : Nat} {l : List UInt8} {e : Int} {rb : Option Nat} (h : Rd w b o l e rb) (k : Keep [] w w1) (l' : List UInt8) (er : Int) (v : Value)
  (hv : (l' = [] ∧ rb = none ∧ v = .slice none 0 0) ∨ (∃ b2 o2 cap, rb = some b2 ∧ v = .slice (some ⟨b2, o2, none⟩) l'.length cap ∧ l'.length ≤ cap ∧ cap ≤ 9223372036854775807 ∧
   ∀ j, j < l'.length → w.cell? ⟨b2, o2 + j, none⟩ = some (.int .u8 ((l'.getD j 0).toNat : Int)))) :
  Rd ((w1.setCell ⟨b, o, none⟩ v).setCell ⟨b, o + 1, none⟩ (.int .i64 er)) b o l' er rb ∧ Keep [b] w1 ((w1.setCell ⟨b, o, none⟩ v).setCell ⟨b, o + 1, none⟩ (.int .i64 er)) := by
 have h1 := h.keep k (by simp) (fun _ _ => by simp)
 have K : Keep [b] w1 ((w1.setCell ⟨b, o, none⟩ v).setCell ⟨b, o + 1, none⟩ (.int .i64 er)) :=
  ((Keep.refl [b] w1).setCell (p := ⟨b, o, none⟩) (.inl (by simp)) v).setCell (p := ⟨b, o + 1, none⟩) (.inl (by simp)) _
 refine ⟨⟨?_, ?_, h1.ne, fun x hx => Nat.lt_of_lt_of_le (h1.lt x hx) K.size, ?_, ?_⟩, K⟩
 ·rw [World.frozen?_setCell, World.frozen?_setCell]; exact h1.f0
 ·rw [World.frozen?_setCell, World.frozen?_setCell]; exact h1.f1
 ·have h9 : (w1.setCell ⟨b, o, none⟩ v).cell? ⟨b, o + 1, none⟩ = some (.int .i64 e) := by
   rw [World.cell?_setCell_other _ _ _ _ (by simp)]
   exact h1.err
  exact World.cell?_setCell_same _ _ _ h9
 ·have hself : ∃ u, w1.cell? ⟨b, o, none⟩ = some u := by
   rcases h1.rest with ⟨_, _, h3⟩ | ⟨b2, o2, cap, _, h3, _⟩
   ·exact ⟨_, h3⟩
   ·exact ⟨_, h3⟩
  obtain ⟨u, hu⟩ := hself
  have hc : ((w1.setCell ⟨b, o, none⟩ v).setCell ⟨b, o + 1, none⟩ (.int .i64 er)).cell? ⟨b, o, none⟩ = some v := by
   rw [World.cell?_setCell_other _ _ _ _ (by simp)]
   exact World.cell?_setCell_same _ _ _ hu
  rcases hv with ⟨h2, h3, rfl⟩ | ⟨b2, o2, cap, h2, rfl, h4, h5, h6⟩
  ·exact .inl ⟨h2, h3, hc⟩
  ·refine .inr ⟨b2, o2, cap, h2, hc, h4, h5, fun j hj => ?_⟩
   have hne : b2 ∉ [b] := by
    intro hm
    simp at hm
    subst hm
    exact h.ne h2
   exact K.cell' (k.cell' (h6 j hj) (by simp)) hne
end Go.Proofs.YtfpcpociejefaaaGreatDoor

/- Whole numbers of any length as the document's text keeps them, parts of nine places, the lowest first: what they are worth, and how two of them stand. -/
namespace Go.Proofs.YtfpcpociejefaaaGreatDoor
open Go.RowKit Go.PlainAid
def bigV : List Nat → Nat
 | [] => 0
 | x :: l => x + 1000000000 * bigV l
def Lim (l : List Nat) : Prop := ∀ x ∈ l, x < 1000000000
def Nrm (l : List Nat) : Prop := l ≠ [] → l.getD (l.length - 1) 0 ≠ 0
theorem bigV_append (a b : List Nat) : bigV (a ++ b) = bigV a + 1000000000 ^ a.length * bigV b := by
 induction a with
 | nil => simp [bigV]
 | cons x a ih =>
  simp only [List.cons_append, bigV, ih, List.length_cons, Nat.pow_succ]
  rw [Nat.mul_add, Nat.add_assoc, ← Nat.mul_assoc, Nat.mul_comm 1000000000 (1000000000 ^ a.length)]
theorem bigV_lt : ∀ l, Lim l → bigV l < 1000000000 ^ l.length
 | [], _ => by simp [bigV]
 | x :: l, h => by
  have h1 := bigV_lt l (fun y hy => h y (List.mem_cons_of_mem _ hy))
  have h2 := h x (by simp)
  simp only [bigV, List.length_cons, Nat.pow_succ]
  generalize 1000000000 ^ l.length = p at *
  omega
theorem Lim.nil : Lim [] := fun x h => by cases h
theorem Lim.take {l : List Nat} (h : Lim l) (k : Nat) : Lim (l.take k) := fun x hx => h x (List.mem_of_mem_take hx)
theorem Lim.snoc {l : List Nat} (h : Lim l) {x : Nat} (hx : x < 1000000000) : Lim (l ++ [x]) := fun y hy => by
 rcases List.mem_append.1 hy with h1 | h1
 ·exact h y h1
 ·simp at h1; omega
theorem Lim.get {l : List Nat} (h : Lim l) (j : Nat) : l.getD j 0 < 1000000000 := by
 by_cases hj : j < l.length
 ·rw [List.getD_eq_getElem?_getD, List.getElem?_eq_getElem hj]
  exact h _ (List.getElem_mem hj)
 ·rw [List.getD_eq_getElem?_getD, List.getElem?_eq_none (by omega)]
  decide
theorem Nrm.nil : Nrm [] := fun h => absurd rfl h
theorem Nrm.snoc {l : List Nat} {x : Nat} (hx : x ≠ 0) : Nrm (l ++ [x]) := fun _ => by simpa using hx
theorem big_split (l : List Nat) (i : Nat) (hi : i < l.length) : bigV l = bigV (l.take i) + 1000000000 ^ i * (l.getD i 0 + 1000000000 * bigV (l.drop (i + 1))) := by
 have h1 := bigV_append (l.take i) (l.drop i)
 rw [List.take_append_drop, List.length_take, Nat.min_eq_left (by omega), List.drop_eq_getElem_cons hi] at h1
 rw [h1, List.getD_eq_getElem?_getD, List.getElem?_eq_getElem hi]
 rfl
theorem big_less (a b : List Nat) (i : Nat) (ha : i < a.length) (hb : i < b.length) (La : Lim a) (hd : a.drop (i + 1) = b.drop (i + 1)) (h : a.getD i 0 < b.getD i 0) : bigV a < bigV b := by
 rw [big_split a i ha, big_split b i hb, hd]
 have h1 := bigV_lt (a.take i) (La.take i)
 rw [List.length_take, Nat.min_eq_left (by omega)] at h1
 generalize bigV (b.drop (i + 1)) = D
 generalize a.getD i 0 = x at *
 generalize b.getD i 0 = y at *
 have h2 : 1000000000 ^ i * (x + 1000000000 * D + 1) ≤ 1000000000 ^ i * (y + 1000000000 * D) := Nat.mul_le_mul_left _ (by omega)
 rw [Nat.mul_succ] at h2
 generalize 1000000000 ^ i * (x + 1000000000 * D) = P at *
 generalize 1000000000 ^ i * (y + 1000000000 * D) = Q at *
 omega
theorem bigV_low (l : List Nat) (hN : Nrm l) (hl : l ≠ []) : 1000000000 ^ (l.length - 1) ≤ bigV l := by
 have h0 : 0 < l.length := List.length_pos_iff.2 hl
 rw [big_split l (l.length - 1) (by omega)]
 have h1 := hN hl
 generalize l.getD (l.length - 1) 0 = x at *
 generalize bigV (l.drop (l.length - 1 + 1)) = D
 have h2 : 1000000000 ^ (l.length - 1) * 1 ≤ 1000000000 ^ (l.length - 1) * (x + 1000000000 * D) := Nat.mul_le_mul_left _ (by omega)
 rw [Nat.mul_one] at h2
 omega
theorem big_shorter (a b : List Nat) (h : a.length < b.length) (La : Lim a) (Nb : Nrm b) : bigV a < bigV b := by
 have h1 := bigV_lt a La
 have h2 := bigV_low b Nb (by intro e; rw [e] at h; simp at h)
 have h3 : 1000000000 ^ a.length ≤ 1000000000 ^ (b.length - 1) := Nat.pow_le_pow_right (by decide) (by omega)
 omega
theorem bigV_none (l : List Nat) (h : ∀ x ∈ l, x = 0) : bigV l = 0 := by
 induction l with
 | nil => rfl
 | cons x l ih =>
  have h1 := ih (fun y hy => h y (List.mem_cons_of_mem _ hy))
  have h2 := h x (by simp)
  simp [bigV, h1, h2]
theorem bigV_cut (l : List Nat) (k : Nat) (hk : k ≤ l.length) (h : ∀ j, k ≤ j → j < l.length → l.getD j 0 = 0) : bigV (l.take k) = bigV l := by
 have h1 := bigV_append (l.take k) (l.drop k)
 rw [List.take_append_drop] at h1
 rw [h1, bigV_none (l.drop k) ?_]
 ·simp
 ·intro x hx
  obtain ⟨i, hi, rfl⟩ := List.mem_iff_getElem.1 hx
  have hi' : k + i < l.length := by simp at hi; omega
  have := h (k + i) (by omega) hi'
  rw [List.getD_eq_getElem?_getD, List.getElem?_eq_getElem hi'] at this
  simpa using this
theorem Nrm.cut (l : List Nat) (k : Nat) (hk : k ≤ l.length) (h : k = 0 ∨ l.getD (k - 1) 0 ≠ 0) : Nrm (l.take k) := by
 intro hne
 have hl : (l.take k).length = k := by simp; omega
 rw [hl]
 rcases h with rfl | h
 ·simp at hne
 ·have hk0 : k ≠ 0 := by intro e; subst e; simp at hne
  rw [List.getD_eq_getElem?_getD] at h ⊢
  rw [List.getElem?_take_of_lt (by omega)]
  exact h
theorem cmp_long {a b : List Nat} (h : a.length ≠ b.length) (La : Lim a) (Lb : Lim b) (Na : Nrm a) (Nb : Nrm b) : cmpI (bigV a) (bigV b) = if a.length < b.length then -1 else 1 := by
 unfold cmpI
 by_cases h1 : a.length < b.length
 ·have := big_shorter a b h1 La Nb
  rw [if_pos (by omega), if_pos h1]
 ·have := big_shorter b a (by omega) Lb Na
  rw [if_neg (by omega), if_pos (by omega), if_neg h1]
end Go.Proofs.YtfpcpociejefaaaGreatDoor

/- The document's whole numbers of any length: plain, and compare. -/
namespace Go.Proofs.YtfpcpociejefaaaGreatDoor
open Go.RowKit Go.PlainAid
/-- what plain answers: l without the noughts at its end -/
def Cut (w : World) (v v' : Value) (l : List Nat) : Prop := ∃ k, k ≤ l.length ∧ Is w v' (l.take k) ∧ Nrm (l.take k) ∧ bigV (l.take k) = bigV l ∧ v'.ownBlock = v.ownBlock
set_option maxRecDepth 1000000 in
set_option maxHeartbeats 1600000 in
theorem plain_any (v : Value) (l : List Nat) (w : World) (h : Is w v l) : Calls Tryz.prog 150 #[v] w fun e w' => ∃ v', e = .returned v' ∧ Cut w v v' l ∧ w' = w := by
 rcases h.cases with ⟨rfl, ao, cap, rfl, hc1, hc2⟩ | ⟨hl, b, o, cap, rfl, hp, hc1, hc2, hcell⟩
 ·have HC : Hid (Is w (.slice ao 0 cap) []) := h
  clear h
  cases ao with
  | none =>
   obtain rfl := hc2 rfl
   go_enter Tryz.func150, Tryz.ntmps150
   go_wp2
   refine wp_loop_rounds 1 ?_
   rw [rounds_succ]
   go_wp2
   go_ret
   exact ⟨_, rfl, ⟨0, Nat.le_refl _, HC.out, Nrm.nil, rfl, rfl⟩, rfl⟩
  | some a =>
   clear hc2
   go_enter Tryz.func150, Tryz.ntmps150
   go_wp2
   refine wp_loop_rounds 1 ?_
   rw [rounds_succ]
   go_wp2
   go_ret
   exact ⟨_, rfl, ⟨0, Nat.le_refl _, HC.out, Nrm.nil, rfl, rfl⟩, rfl⟩
 ·have HC : Hid (Is w (.slice (some ⟨b, o, none⟩) l.length cap) l) := h
  have HL : Hid (∀ j, j < l.length → w.cell? ⟨b, o + j, none⟩ = some (.int .i64 ((l.getD j 0 : Nat) : Int))) := hcell
  clear h hcell
  go_enter Tryz.func150, Tryz.ntmps150
  go_wp2
  go_loop [3] (fun kv => ∃ k : Nat, kv = .int .i64 (k : Int) ∧ k ≤ l.length ∧ Hid (∀ j, k ≤ j → j < l.length → l.getD j 0 = 0)) (fun kv => (intOf kv).toNat)
  case atStart => exact ⟨l.length, rfl, Nat.le_refl _, (fun j h1 h2 => by omega : ∀ j, l.length ≤ j → j < l.length → l.getD j 0 = 0)⟩
  case round =>
   obtain ⟨k, rfl, hk, hz⟩ := hrel
   have hkc : (k : Int) ≤ (cap : Int) := by omega
   by_cases h0 : k = 0
   ·subst h0
    go_wp2
    go_ret
    exact ⟨_, rfl, ⟨0, Nat.zero_le _, Is.take 0 (Nat.zero_le _) HC.out, Nrm.nil, bigV_cut l 0 (Nat.zero_le _) hz.out, rfl⟩, rfl⟩
   ·obtain ⟨m, rfl⟩ : ∃ m, k = m + 1 := ⟨k - 1, by omega⟩
    have hm : w.cell? ⟨b, o + m, none⟩ = some (.int .i64 ((l.getD m 0 : Nat) : Int)) := HL.out m (by omega)
    have hml : m < l.length := by omega
    by_cases h9 : l.getD m 0 = 0
    ·rw [h9] at hm
     have HZ : Hid (∀ j, m ≤ j → j < l.length → l.getD j 0 = 0) := fun j h1 h2 => by
      by_cases e : j = m
      ·rw [e]; exact h9
      ·exact hz.out j (by omega) h2
     clear h9 hz h0
     go_wp2
     go_round
     case rel => exact ⟨m, by go_num, by omega, HZ⟩
     case measure => (simp [intOf]; try omega)
    ·have HN : Hid (Nrm (l.take (m + 1))) := Nrm.cut l (m + 1) hk (.inr (by simpa using h9))
     have t1 : (((l.getD m 0 : Nat) : Int) == 0) = false := by simpa using h9
     clear h9 h0
     generalize ((l.getD m 0 : Nat) : Int) = c at hm t1
     go_wp2
     go_ret
     exact ⟨_, rfl, ⟨m + 1, hk, Is.take (m + 1) hk HC.out, HN.out, bigV_cut l (m + 1) hk hz.out, rfl⟩, rfl⟩
set_option maxRecDepth 1000000 in
set_option maxHeartbeats 1600000 in
theorem compare_big (u v : Value) (a b : List Nat) (w : World) (hu : Is w u a) (hv : Is w v b) (La : Lim a) (Lb : Lim b) (Na : Nrm a) (Nb : Nrm b) :
  Calls Tryz.prog 135 #[u, v] w fun e w' => e = .returned (.int .i64 (cmpI (bigV a) (bigV b))) ∧ ∃ n, w' = w.drewN n := by
 obtain ⟨ao, ca, rfl, p1, p2, _, p4⟩ := hu.ex
 obtain ⟨bo, cb, rfl, q1, q2, _, q4⟩ := hv.ex
 simp only [maxLen] at p2 q2
 clear hu hv
 by_cases hl : a.length = b.length
 ·have HE : Hid ((a ≠ [] → ∃ b o, ao = some ⟨b, o, none⟩ ∧ ∀ j, j < a.length → w.cell? ⟨b, o + j, none⟩ = some (.int .i64 ((a.getD j 0 : Nat) : Int))) ∧ (b ≠ [] → ∃ g o, bo = some ⟨g, o, none⟩ ∧ ∀ j, j < b.length → w.cell? ⟨g, o + j, none⟩ = some (.int .i64 ((b.getD j 0 : Nat) : Int)))) := ⟨p4, q4⟩
  have HL : Hid (a.length = b.length) := hl
  have HLim : Hid (Lim a ∧ Lim b) := ⟨La, Lb⟩
  have hne : ((a.length : Int) != (b.length : Int)) = false := by simp; omega
  clear p4 q4
  rw [← hl] at q1 hne ⊢
  clear hl
  have ha1 : (a.length : Int) ≤ 9223372036854775807 := by omega
  go_enter Tryz.func135, Tryz.ntmps135
  go_wp2
  go_loopw [5] (fun iv wr => ∃ k n : Nat, iv = .int .i64 ((k : Int) - 1) ∧ k ≤ a.length ∧ Hid (a.drop k = b.drop k) ∧ wr = w.drewN n) (fun iv _ => (intOf iv + 1).toNat)
  case atStart => exact ⟨a.length, 0, rfl, Nat.le_refl _, (by rw [List.drop_length, HL.out, List.drop_length] : a.drop a.length = b.drop a.length), rfl⟩
  case round =>
   obtain ⟨k, n, rfl, hka, hall, rfl⟩ := hrel
   by_cases h0 : k = 0
   ·subst h0
    have HQ : Hid (cmpI (bigV a) (bigV b) = 0) := show cmpI (bigV a) (bigV b) = 0 by
     have := hall.out
     simp at this
     rw [this]; unfold cmpI; rw [if_neg (by omega), if_neg (by omega)]
    rw [show ((0 : Nat) : Int) - 1 = -1 from rfl]
    go_wp2
    go_ret
    exact ⟨by rw [HQ.out]; rfl, _, rfl⟩
   ·obtain ⟨m, rfl⟩ : ∃ m, k = m + 1 := ⟨k - 1, by omega⟩
    have hma : m < a.length := by omega
    have hmb : m < b.length := by have := HL.out; omega
    obtain ⟨g, o, rfl, hc⟩ := HE.out.1 (by intro hz; rw [hz] at hma; simp at hma)
    obtain ⟨g', o', rfl, hc'⟩ := HE.out.2 (by intro hz; rw [hz] at hmb; simp at hmb)
    have hca := hc m hma
    have hcb := hc' m hmb
    have hmi : (m : Int) < (a.length : Int) := by omega
    rw [show ((m + 1 : Nat) : Int) - 1 = (m : Int) by omega]
    rcases Nat.lt_trichotomy (a.getD m 0) (b.getD m 0) with he | he | he
    ·have HQ : Hid (cmpI (bigV a) (bigV b) = -1) := show cmpI (bigV a) (bigV b) = -1 by
      have := big_less a b m hma hmb HLim.out.1 hall.out he
      unfold cmpI; rw [if_pos (by omega)]
     have hlt : ((a.getD m 0 : Nat) : Int) < ((b.getD m 0 : Nat) : Int) := by omega
     clear hall hc hc' he HE h0
     generalize ((a.getD m 0 : Nat) : Int) = x at hca hlt
     generalize ((b.getD m 0 : Nat) : Int) = y at hcb hlt
     go_wp2
     go_quiet (fail)
     go_wp2
     go_ret
     exact ⟨by rw [HQ.out]; rfl, _, drewN_drewN _ _ _⟩
    ·have HA : Hid (a.drop m = b.drop m) := show a.drop m = b.drop m by
      rw [List.drop_eq_getElem_cons hma, List.drop_eq_getElem_cons hmb, hall.out]
      rw [List.getD_eq_getElem?_getD, List.getD_eq_getElem?_getD, List.getElem?_eq_getElem hma, List.getElem?_eq_getElem hmb] at he
      simp at he
      rw [he]
     have hx : ((a.getD m 0 : Nat) : Int) = ((b.getD m 0 : Nat) : Int) := by omega
     rw [← hx] at hcb
     have t1 : ¬ ((a.getD m 0 : Nat) : Int) < ((a.getD m 0 : Nat) : Int) := by omega
     clear hall hc hc' he HE h0 hx
     generalize ((a.getD m 0 : Nat) : Int) = x at hca hcb t1
     go_wp2
     go_quiet (fail)
     go_wp2
     go_quiet (fail)
     go_wp2
     go_roundw
     case rel => exact ⟨m, _, by go_num, by omega, HA, rfl⟩
     case measure => (simp [intOf]; try omega)
    ·have HQ : Hid (cmpI (bigV a) (bigV b) = 1) := show cmpI (bigV a) (bigV b) = 1 by
      have := big_less b a m hmb hma HLim.out.2 hall.out.symm he
      unfold cmpI; rw [if_neg (by omega), if_pos (by omega)]
     have hlt : ((b.getD m 0 : Nat) : Int) < ((a.getD m 0 : Nat) : Int) := by omega
     have t1 : ¬ ((a.getD m 0 : Nat) : Int) < ((b.getD m 0 : Nat) : Int) := by omega
     clear hall hc hc' he HE h0
     generalize ((a.getD m 0 : Nat) : Int) = x at hca hlt t1
     generalize ((b.getD m 0 : Nat) : Int) = y at hcb hlt t1
     go_wp2
     go_quiet (fail)
     go_wp2
     go_quiet (fail)
     go_wp2
     go_ret
     exact ⟨by rw [HQ.out]; rfl, _, by rw [drewN_drewN, drewN_drewN]⟩
 ·have HQ : Hid (cmpI (bigV a) (bigV b) = if a.length < b.length then -1 else 1) := cmp_long hl La Lb Na Nb
  have hne : ((a.length : Int) != (b.length : Int)) = true := by simp; omega
  clear p4 q4
  generalize cmpI (bigV a) (bigV b) = z at *
  by_cases h1 : a.length < b.length
  ·have HQ2 : Hid (z = -1) := show z = -1 by rw [HQ.out, if_pos h1]
   have h2 : (a.length : Int) < (b.length : Int) := by omega
   clear HQ hl h1
   go_enter Tryz.func135, Tryz.ntmps135
   go_wp2
   go_ret
   exact ⟨by rw [HQ2.out]; rfl, 0, rfl⟩
  ·have HQ2 : Hid (z = 1) := show z = 1 by rw [HQ.out, if_neg h1]
   have h2 : ¬ (a.length : Int) < (b.length : Int) := by omega
   clear HQ hl h1
   go_enter Tryz.func135, Tryz.ntmps135
   go_wp2
   go_ret
   exact ⟨by rw [HQ2.out]; rfl, 0, rfl⟩
end Go.Proofs.YtfpcpociejefaaaGreatDoor
