/- Whole numbers of any length as the document's text keeps them, parts of nine places, the lowest first: what they are worth, and how two of them stand. -/
import Derived.Test.YtnljpbpphdhnpaaGreatDoorOwnI
import Derived.WalkMore

namespace Go.Proofs.YtnljpbpphdhnpaaGreatDoor
open Go.RowKit Go.PlainAid

def bigV : List Nat → Nat
  | [] => 0
  | x :: l => x + 1000000000 * bigV l
def Lim (l : List Nat) : Prop := ∀ x ∈ l, x < 1000000000
def Nrm (l : List Nat) : Prop := l ≠ [] → l.getD (l.length - 1) 0 ≠ 0

theorem bigV_append (a b : List Nat) : bigV (a ++ b) = bigV a + 1000000000 ^ a.length * bigV b := by
  induction a with
  | nil => simp [bigV]
  | cons x a ih =>
    simp only [List.cons_append, bigV, ih, List.length_cons, Nat.pow_succ]
    rw [Nat.mul_add, Nat.add_assoc, ← Nat.mul_assoc, Nat.mul_comm 1000000000 (1000000000 ^ a.length)]

theorem bigV_lt : ∀ l, Lim l → bigV l < 1000000000 ^ l.length
  | [], _ => by simp [bigV]
  | x :: l, h => by
    have h1 := bigV_lt l (fun y hy => h y (List.mem_cons_of_mem _ hy))
    have h2 := h x (by simp)
    simp only [bigV, List.length_cons, Nat.pow_succ]
    generalize 1000000000 ^ l.length = p at *
    omega

theorem Lim.nil : Lim [] := fun x h => by cases h
theorem Lim.take {l : List Nat} (h : Lim l) (k : Nat) : Lim (l.take k) := fun x hx => h x (List.mem_of_mem_take hx)
theorem Lim.snoc {l : List Nat} (h : Lim l) {x : Nat} (hx : x < 1000000000) : Lim (l ++ [x]) := fun y hy => by
  rcases List.mem_append.1 hy with h1 | h1
  · exact h y h1
  · simp at h1; omega
theorem Lim.get {l : List Nat} (h : Lim l) (j : Nat) : l.getD j 0 < 1000000000 := by
  by_cases hj : j < l.length
  · rw [List.getD_eq_getElem?_getD, List.getElem?_eq_getElem hj]
    exact h _ (List.getElem_mem hj)
  · rw [List.getD_eq_getElem?_getD, List.getElem?_eq_none (by omega)]
    decide
theorem Nrm.nil : Nrm [] := fun h => absurd rfl h
theorem Nrm.snoc {l : List Nat} {x : Nat} (hx : x ≠ 0) : Nrm (l ++ [x]) := fun _ => by simpa using hx

theorem big_split (l : List Nat) (i : Nat) (hi : i < l.length) : bigV l = bigV (l.take i) + 1000000000 ^ i * (l.getD i 0 + 1000000000 * bigV (l.drop (i + 1))) := by
  have h1 := bigV_append (l.take i) (l.drop i)
  rw [List.take_append_drop, List.length_take, Nat.min_eq_left (by omega), List.drop_eq_getElem_cons hi] at h1
  rw [h1, List.getD_eq_getElem?_getD, List.getElem?_eq_getElem hi]
  rfl

theorem big_less (a b : List Nat) (i : Nat) (ha : i < a.length) (hb : i < b.length) (La : Lim a) (hd : a.drop (i + 1) = b.drop (i + 1)) (h : a.getD i 0 < b.getD i 0) : bigV a < bigV b := by
  rw [big_split a i ha, big_split b i hb, hd]
  have h1 := bigV_lt (a.take i) (La.take i)
  rw [List.length_take, Nat.min_eq_left (by omega)] at h1
  generalize bigV (b.drop (i + 1)) = D
  generalize a.getD i 0 = x at *
  generalize b.getD i 0 = y at *
  have h2 : 1000000000 ^ i * (x + 1000000000 * D + 1) ≤ 1000000000 ^ i * (y + 1000000000 * D) := Nat.mul_le_mul_left _ (by omega)
  rw [Nat.mul_succ] at h2
  generalize 1000000000 ^ i * (x + 1000000000 * D) = P at *
  generalize 1000000000 ^ i * (y + 1000000000 * D) = Q at *
  omega

theorem bigV_low (l : List Nat) (hN : Nrm l) (hl : l ≠ []) : 1000000000 ^ (l.length - 1) ≤ bigV l := by
  have h0 : 0 < l.length := List.length_pos_iff.2 hl
  rw [big_split l (l.length - 1) (by omega)]
  have h1 := hN hl
  generalize l.getD (l.length - 1) 0 = x at *
  generalize bigV (l.drop (l.length - 1 + 1)) = D
  have h2 : 1000000000 ^ (l.length - 1) * 1 ≤ 1000000000 ^ (l.length - 1) * (x + 1000000000 * D) := Nat.mul_le_mul_left _ (by omega)
  rw [Nat.mul_one] at h2
  omega

theorem big_shorter (a b : List Nat) (h : a.length < b.length) (La : Lim a) (Nb : Nrm b) : bigV a < bigV b := by
  have h1 := bigV_lt a La
  have h2 := bigV_low b Nb (by intro e; rw [e] at h; simp at h)
  have h3 : 1000000000 ^ a.length ≤ 1000000000 ^ (b.length - 1) := Nat.pow_le_pow_right (by decide) (by omega)
  omega

theorem bigV_none (l : List Nat) (h : ∀ x ∈ l, x = 0) : bigV l = 0 := by
  induction l with
  | nil => rfl
  | cons x l ih =>
    have h1 := ih (fun y hy => h y (List.mem_cons_of_mem _ hy))
    have h2 := h x (by simp)
    simp [bigV, h1, h2]

theorem bigV_cut (l : List Nat) (k : Nat) (hk : k ≤ l.length) (h : ∀ j, k ≤ j → j < l.length → l.getD j 0 = 0) : bigV (l.take k) = bigV l := by
  have h1 := bigV_append (l.take k) (l.drop k)
  rw [List.take_append_drop] at h1
  rw [h1, bigV_none (l.drop k) ?_]
  · simp
  · intro x hx
    obtain ⟨i, hi, rfl⟩ := List.mem_iff_getElem.1 hx
    have hi' : k + i < l.length := by simp at hi; omega
    have := h (k + i) (by omega) hi'
    rw [List.getD_eq_getElem?_getD, List.getElem?_eq_getElem hi'] at this
    simpa using this

theorem Nrm.cut (l : List Nat) (k : Nat) (hk : k ≤ l.length) (h : k = 0 ∨ l.getD (k - 1) 0 ≠ 0) : Nrm (l.take k) := by
  intro hne
  have hl : (l.take k).length = k := by simp; omega
  rw [hl]
  rcases h with rfl | h
  · simp at hne
  · have hk0 : k ≠ 0 := by intro e; subst e; simp at hne
    rw [List.getD_eq_getElem?_getD] at h ⊢
    rw [List.getElem?_take_of_lt (by omega)]
    exact h

theorem cmp_long {a b : List Nat} (h : a.length ≠ b.length) (La : Lim a) (Lb : Lim b) (Na : Nrm a) (Nb : Nrm b) : cmpI (bigV a) (bigV b) = if a.length < b.length then -1 else 1 := by
  unfold cmpI
  by_cases h1 : a.length < b.length
  · have := big_shorter a b h1 La Nb
    rw [if_pos (by omega), if_pos h1]
  · have := big_shorter b a (by omega) Lb Na
    rw [if_neg (by omega), if_pos (by omega), if_neg h1]
end Go.Proofs.YtnljpbpphdhnpaaGreatDoor


/- The document's whole numbers of any length: plain, and compare. -/
namespace Go.Proofs.YtnljpbpphdhnpaaGreatDoor
open Go.RowKit Go.PlainAid

/-- what plain answers: l without the noughts at its end -/
def Cut (w : World) (v v' : Value) (l : List Nat) : Prop := ∃ k, k ≤ l.length ∧ Is w v' (l.take k) ∧ Nrm (l.take k) ∧ bigV (l.take k) = bigV l ∧ v'.ownBlock = v.ownBlock

set_option maxRecDepth 1000000 in
set_option maxHeartbeats 1600000 in
theorem plain_any (v : Value) (l : List Nat) (w : World) (h : Is w v l) : Calls Tryz.prog 83 #[v] w fun e w' => ∃ v', e = .returned v' ∧ Cut w v v' l ∧ w' = w := by
  rcases h.cases with ⟨rfl, ao, cap, rfl, hc1, hc2⟩ | ⟨hl, b, o, cap, rfl, hp, hc1, hc2, hcell⟩
  · have HC : Hid (Is w (.slice ao 0 cap) []) := h
    clear h
    cases ao with
    | none =>
      obtain rfl := hc2 rfl
      go_enter Tryz.func83, Tryz.ntmps83
      go_wp2
      refine wp_loop_rounds 1 ?_
      rw [rounds_succ]
      go_wp2
      go_ret
      exact ⟨_, rfl, ⟨0, Nat.le_refl _, HC.out, Nrm.nil, rfl, rfl⟩, rfl⟩
    | some a =>
      clear hc2
      go_enter Tryz.func83, Tryz.ntmps83
      go_wp2
      refine wp_loop_rounds 1 ?_
      rw [rounds_succ]
      go_wp2
      go_ret
      exact ⟨_, rfl, ⟨0, Nat.le_refl _, HC.out, Nrm.nil, rfl, rfl⟩, rfl⟩
  · have HC : Hid (Is w (.slice (some ⟨b, o, none⟩) l.length cap) l) := h
    have HL : Hid (∀ j, j < l.length → w.cell? ⟨b, o + j, none⟩ = some (.int .i64 ((l.getD j 0 : Nat) : Int))) := hcell
    clear h hcell
    go_enter Tryz.func83, Tryz.ntmps83
    go_wp2
    go_loop [3] (fun kv => ∃ k : Nat, kv = .int .i64 (k : Int) ∧ k ≤ l.length ∧ Hid (∀ j, k ≤ j → j < l.length → l.getD j 0 = 0)) (fun kv => (intOf kv).toNat)
    case atStart => exact ⟨l.length, rfl, Nat.le_refl _, (fun j h1 h2 => by omega : ∀ j, l.length ≤ j → j < l.length → l.getD j 0 = 0)⟩
    case round =>
      obtain ⟨k, rfl, hk, hz⟩ := hrel
      have hkc : (k : Int) ≤ (cap : Int) := by omega
      by_cases h0 : k = 0
      · subst h0
        go_wp2
        go_ret
        exact ⟨_, rfl, ⟨0, Nat.zero_le _, Is.take 0 (Nat.zero_le _) HC.out, Nrm.nil, bigV_cut l 0 (Nat.zero_le _) hz.out, rfl⟩, rfl⟩
      · obtain ⟨m, rfl⟩ : ∃ m, k = m + 1 := ⟨k - 1, by omega⟩
        have hm : w.cell? ⟨b, o + m, none⟩ = some (.int .i64 ((l.getD m 0 : Nat) : Int)) := HL.out m (by omega)
        have hml : m < l.length := by omega
        by_cases h9 : l.getD m 0 = 0
        · rw [h9] at hm
          have HZ : Hid (∀ j, m ≤ j → j < l.length → l.getD j 0 = 0) := fun j h1 h2 => by
            by_cases e : j = m
            · rw [e]; exact h9
            · exact hz.out j (by omega) h2
          clear h9 hz h0
          go_wp2
          go_round
          case rel => exact ⟨m, by go_num, by omega, HZ⟩
          case measure => (simp [intOf]; try omega)
        · have HN : Hid (Nrm (l.take (m + 1))) := Nrm.cut l (m + 1) hk (.inr (by simpa using h9))
          have t1 : (((l.getD m 0 : Nat) : Int) == 0) = false := by simpa using h9
          clear h9 h0
          generalize ((l.getD m 0 : Nat) : Int) = c at hm t1
          go_wp2
          go_ret
          exact ⟨_, rfl, ⟨m + 1, hk, Is.take (m + 1) hk HC.out, HN.out, bigV_cut l (m + 1) hk hz.out, rfl⟩, rfl⟩

set_option maxRecDepth 1000000 in
set_option maxHeartbeats 1600000 in
theorem compare_big (u v : Value) (a b : List Nat) (w : World) (hu : Is w u a) (hv : Is w v b) (La : Lim a) (Lb : Lim b) (Na : Nrm a) (Nb : Nrm b) :
    Calls Tryz.prog 65 #[u, v] w fun e w' => e = .returned (.int .i64 (cmpI (bigV a) (bigV b))) ∧ ∃ n, w' = w.drewN n := by
  obtain ⟨ao, ca, rfl, p1, p2, _, p4⟩ := hu.ex
  obtain ⟨bo, cb, rfl, q1, q2, _, q4⟩ := hv.ex
  simp only [maxLen] at p2 q2
  clear hu hv
  by_cases hl : a.length = b.length
  · have HE : Hid ((a ≠ [] → ∃ b o, ao = some ⟨b, o, none⟩ ∧ ∀ j, j < a.length → w.cell? ⟨b, o + j, none⟩ = some (.int .i64 ((a.getD j 0 : Nat) : Int))) ∧ (b ≠ [] → ∃ g o, bo = some ⟨g, o, none⟩ ∧ ∀ j, j < b.length → w.cell? ⟨g, o + j, none⟩ = some (.int .i64 ((b.getD j 0 : Nat) : Int)))) := ⟨p4, q4⟩
    have HL : Hid (a.length = b.length) := hl
    have HLim : Hid (Lim a ∧ Lim b) := ⟨La, Lb⟩
    have hne : ((a.length : Int) != (b.length : Int)) = false := by simp; omega
    clear p4 q4
    rw [← hl] at q1 hne ⊢
    clear hl
    have ha1 : (a.length : Int) ≤ 9223372036854775807 := by omega
    go_enter Tryz.func65, Tryz.ntmps65
    go_wp2
    go_loopw [5] (fun iv wr => ∃ k n : Nat, iv = .int .i64 ((k : Int) - 1) ∧ k ≤ a.length ∧ Hid (a.drop k = b.drop k) ∧ wr = w.drewN n) (fun iv _ => (intOf iv + 1).toNat)
    case atStart => exact ⟨a.length, 0, rfl, Nat.le_refl _, (by rw [List.drop_length, HL.out, List.drop_length] : a.drop a.length = b.drop a.length), rfl⟩
    case round =>
      obtain ⟨k, n, rfl, hka, hall, rfl⟩ := hrel
      by_cases h0 : k = 0
      · subst h0
        have HQ : Hid (cmpI (bigV a) (bigV b) = 0) := show cmpI (bigV a) (bigV b) = 0 by
          have := hall.out
          simp at this
          rw [this]; unfold cmpI; rw [if_neg (by omega), if_neg (by omega)]
        rw [show ((0 : Nat) : Int) - 1 = -1 from rfl]
        go_wp2
        go_ret
        exact ⟨by rw [HQ.out]; rfl, _, rfl⟩
      · obtain ⟨m, rfl⟩ : ∃ m, k = m + 1 := ⟨k - 1, by omega⟩
        have hma : m < a.length := by omega
        have hmb : m < b.length := by have := HL.out; omega
        obtain ⟨g, o, rfl, hc⟩ := HE.out.1 (by intro hz; rw [hz] at hma; simp at hma)
        obtain ⟨g', o', rfl, hc'⟩ := HE.out.2 (by intro hz; rw [hz] at hmb; simp at hmb)
        have hca := hc m hma
        have hcb := hc' m hmb
        have hmi : (m : Int) < (a.length : Int) := by omega
        rw [show ((m + 1 : Nat) : Int) - 1 = (m : Int) by omega]
        rcases Nat.lt_trichotomy (a.getD m 0) (b.getD m 0) with he | he | he
        · have HQ : Hid (cmpI (bigV a) (bigV b) = -1) := show cmpI (bigV a) (bigV b) = -1 by
            have := big_less a b m hma hmb HLim.out.1 hall.out he
            unfold cmpI; rw [if_pos (by omega)]
          have hlt : ((a.getD m 0 : Nat) : Int) < ((b.getD m 0 : Nat) : Int) := by omega
          clear hall hc hc' he HE h0
          generalize ((a.getD m 0 : Nat) : Int) = x at hca hlt
          generalize ((b.getD m 0 : Nat) : Int) = y at hcb hlt
          go_wp2
          go_quiet (fail)
          go_wp2
          go_ret
          exact ⟨by rw [HQ.out]; rfl, _, drewN_drewN _ _ _⟩
        · have HA : Hid (a.drop m = b.drop m) := show a.drop m = b.drop m by
            rw [List.drop_eq_getElem_cons hma, List.drop_eq_getElem_cons hmb, hall.out]
            rw [List.getD_eq_getElem?_getD, List.getD_eq_getElem?_getD, List.getElem?_eq_getElem hma, List.getElem?_eq_getElem hmb] at he
            simp at he
            rw [he]
          have hx : ((a.getD m 0 : Nat) : Int) = ((b.getD m 0 : Nat) : Int) := by omega
          rw [← hx] at hcb
          have t1 : ¬ ((a.getD m 0 : Nat) : Int) < ((a.getD m 0 : Nat) : Int) := by omega
          clear hall hc hc' he HE h0 hx
          generalize ((a.getD m 0 : Nat) : Int) = x at hca hcb t1
          go_wp2
          go_quiet (fail)
          go_wp2
          go_quiet (fail)
          go_wp2
          go_roundw
          case rel => exact ⟨m, _, by go_num, by omega, HA, rfl⟩
          case measure => (simp [intOf]; try omega)
        · have HQ : Hid (cmpI (bigV a) (bigV b) = 1) := show cmpI (bigV a) (bigV b) = 1 by
            have := big_less b a m hmb hma HLim.out.2 hall.out.symm he
            unfold cmpI; rw [if_neg (by omega), if_pos (by omega)]
          have hlt : ((b.getD m 0 : Nat) : Int) < ((a.getD m 0 : Nat) : Int) := by omega
          have t1 : ¬ ((a.getD m 0 : Nat) : Int) < ((b.getD m 0 : Nat) : Int) := by omega
          clear hall hc hc' he HE h0
          generalize ((a.getD m 0 : Nat) : Int) = x at hca hlt t1
          generalize ((b.getD m 0 : Nat) : Int) = y at hcb hlt t1
          go_wp2
          go_quiet (fail)
          go_wp2
          go_quiet (fail)
          go_wp2
          go_ret
          exact ⟨by rw [HQ.out]; rfl, _, by rw [drewN_drewN, drewN_drewN]⟩
  · have HQ : Hid (cmpI (bigV a) (bigV b) = if a.length < b.length then -1 else 1) := cmp_long hl La Lb Na Nb
    have hne : ((a.length : Int) != (b.length : Int)) = true := by simp; omega
    clear p4 q4
    generalize cmpI (bigV a) (bigV b) = z at *
    by_cases h1 : a.length < b.length
    · have HQ2 : Hid (z = -1) := show z = -1 by rw [HQ.out, if_pos h1]
      have h2 : (a.length : Int) < (b.length : Int) := by omega
      clear HQ hl h1
      go_enter Tryz.func65, Tryz.ntmps65
      go_wp2
      go_ret
      exact ⟨by rw [HQ2.out]; rfl, 0, rfl⟩
    · have HQ2 : Hid (z = 1) := show z = 1 by rw [HQ.out, if_neg h1]
      have h2 : ¬ (a.length : Int) < (b.length : Int) := by omega
      clear HQ hl h1
      go_enter Tryz.func65, Tryz.ntmps65
      go_wp2
      go_ret
      exact ⟨by rw [HQ2.out]; rfl, 0, rfl⟩
end Go.Proofs.YtnljpbpphdhnpaaGreatDoor


/- The document's whole numbers of any length: number, times, powers. -/
namespace Go.Proofs.YtnljpbpphdhnpaaGreatDoor
open Go.RowKit Go.PlainAid

/-- v reads as the number N, in at most K parts -/
def Big (w : World) (v : Value) (N K : Nat) : Prop := ∃ l, Is w v l ∧ Lim l ∧ Nrm l ∧ bigV l = N ∧ l.length ≤ K
theorem Big.keep {F : List Nat} {w w' : World} {v : Value} {N K : Nat} (h : Big w v N K) (k : Keep F w w') (hn : Off v F) : Big w' v N K := by
  obtain ⟨l, h1, h2⟩ := h
  exact ⟨l, h1.keep k hn, h2⟩
theorem Big.mono {w : World} {v : Value} {N K L : Nat} (h : Big w v N K) (hk : K ≤ L) : Big w v N L := by
  obtain ⟨l, h1, h2, h3, h4, h5⟩ := h
  exact ⟨l, h1, h2, h3, h4, by omega⟩

/-- how number's loop stands: l is laid, y is left of X -/
structure NumI (w wr : World) (n : Value) (l : List Nat) (y X : Nat) : Prop where
  row : Rw wr n l
  fresh : Fresh w wr n
  keep : Keep [] w wr
  lim : Lim l
  val : bigV l + 1000000000 ^ l.length * y = X
  nrm : y = 0 → Nrm l

theorem NumI.len {w wr : World} {n : Value} {l : List Nat} {y X : Nat} (h : NumI w wr n l y X) (hX : X < 18446744073709551616) : l.length ≤ 3 ∧ (y ≠ 0 → l.length ≤ 2) := by
  have key : ∀ j, 1000000000 ^ j ≤ X → j ≤ 2 := fun j hj => by
    refine Decidable.byContradiction fun hn => ?_
    have : 1000000000 ^ 3 ≤ 1000000000 ^ j := Nat.pow_le_pow_right (by decide) (by omega)
    omega
  have hv := h.val
  by_cases hy : y = 0
  · refine ⟨?_, fun h => absurd hy h⟩
    by_cases hl : l = []
    · rw [hl]; simp
    · have := bigV_low l (h.nrm hy) hl
      have := key (l.length - 1) (by rw [hy] at hv; omega)
      omega
  · have h1 : 1000000000 ^ l.length * 1 ≤ 1000000000 ^ l.length * y := Nat.mul_le_mul_left _ (by omega)
    have := key l.length (by omega)
    exact ⟨by omega, fun _ => this⟩

theorem NumI.next {w wr w1 : World} {n n' : Value} {l : List Nat} {y X : Nat} (h : NumI w wr n l y X) (hy : 0 < y) (g1 : Rw w1 n' (l ++ [y % 1000000000])) (hk : Keep [] w w1) (hf : Fresh w w1 n') : NumI w w1 n' (l ++ [y % 1000000000]) (y / 1000000000) X := by
  refine ⟨g1, hf, hk, h.lim.snoc (by omega), ?_, fun hz => Nrm.snoc (by omega)⟩
  have hv := h.val
  rw [bigV_append]
  simp only [bigV, List.length_append, List.length_cons, List.length_nil, Nat.pow_succ, Nat.mul_zero, Nat.add_zero, Nat.zero_add]
  rw [Nat.add_assoc, Nat.mul_assoc, ← Nat.mul_add, Nat.mod_add_div]
  exact hv

set_option maxRecDepth 1000000 in
set_option maxHeartbeats 1600000 in
theorem number_big (X : Nat) (hX : X < 18446744073709551616) (w : World) : Calls Tryz.prog 67 #[.int .u64 (X : Int)] w fun e w' => ∃ v, e = .returned v ∧ Big w' v X 3 ∧ Fresh w w' v ∧ Keep [] w w' := by
  go_enter Tryz.func67, Tryz.ntmps67
  go_wp2
  go_loopw [0, 3] (fun xv n wr => ∃ (y : Nat) (l : List Nat), xv = .int .u64 (y : Int) ∧ y ≤ X ∧ Hid (NumI w wr n l y X)) (fun xv _ _ => (intOf xv).toNat)
  case atStart => exact ⟨X, [], rfl, Nat.le_refl _, (⟨Rw.nil w, Fresh.nil w w, Keep.refl _ w, Lim.nil, by simp [bigV], fun _ => Nrm.nil⟩ : NumI w w _ [] X X)⟩
  case round =>
    obtain ⟨y, l, rfl, hyX, HI⟩ := hrel
    by_cases h0 : y = 0
    · subst h0
      go_wp2
      go_ret
      exact ⟨_, rfl, ⟨l, HI.out.row.bs, HI.out.lim, HI.out.nrm rfl, by simpa using HI.out.val, (HI.out.len hX).1⟩, HI.out.fresh, HI.out.keep⟩
    · have hy : (0 : Int) < (y : Int) := by omega
      have hr := HI.out.row.keep (Keep.alloc1 wr (.cells #[.int .i64 ((y % 1000000000 : Nat) : Int)] TI)) (Off.nil _)
      have hs := (Is.one wr (y % 1000000000)).src
      have he : ((y % 1000000000 : Nat) : Int) = (y : Int) % 1000000000 := by omega
      rw [he] at hs hr
      have HB : Hid (l.length + [y % 1000000000].length ≤ 1000000000) := show l.length + [y % 1000000000].length ≤ 1000000000 by have := (HI.out.len hX).1; simp; omega
      have hb1 : (y : Int) ≤ 18446744073709551615 := by omega
      clear he
      go_wp2_with (at_builtin; refine wp_appI rfl (.tmp 6) (.tmp 10) 55 55 rfl underN _ l rfl hr _ [y % 1000000000] rfl hs HB.out ?_)
      intro v' w1 g1 g2 g3 g4
      have HA := app_fresh HI.out.keep HI.out.fresh g2 g3
      have HJ : Hid (NumI w w1 v' (l ++ [y % 1000000000]) (y / 1000000000) X) := HI.out.next (by omega) g1 HA.1 HA.2
      clear g1 g2 g3 g4 HA hr hs
      go_wp2
      go_roundw
      case rel => exact ⟨y / 1000000000, _, by go_num, by omega, HJ⟩
      case measure => (simp [intOf]; try omega)

/-- how times' loop stands: i parts are done, the carry is c -/
structure TimI (w wr : World) (ov : Value) (l out : List Nat) (i c k : Nat) : Prop where
  row : Rw wr ov out
  fresh : Fresh w wr ov
  keep : Keep [] w wr
  lim : Lim out
  val : bigV out + 1000000000 ^ i * c = bigV (l.take i) * k
  len : out.length = i
  low : c < k

theorem bigV_snoc (l : List Nat) (x : Nat) : bigV (l ++ [x]) = bigV l + 1000000000 ^ l.length * x := by
  rw [bigV_append]; simp [bigV]
theorem bigV_take (l : List Nat) (i : Nat) (hi : i < l.length) : bigV (l.take (i + 1)) = bigV (l.take i) + 1000000000 ^ i * l.getD i 0 := by
  rw [List.take_succ_eq_append_getElem hi, bigV_snoc, List.length_take, Nat.min_eq_left (by omega), List.getD_eq_getElem?_getD, List.getElem?_eq_getElem hi]
  rfl

theorem TimI.next {w wr w1 : World} {n n' : Value} {l out : List Nat} {i c k : Nat} (h : TimI w wr n l out i c k) (L : Lim l) (hi : i < l.length) (g1 : Rw w1 n' (out ++ [(l.getD i 0 * k + c) % 1000000000])) (hk : Keep [] w w1) (hf : Fresh w w1 n') :
    TimI w w1 n' l (out ++ [(l.getD i 0 * k + c) % 1000000000]) (i + 1) ((l.getD i 0 * k + c) / 1000000000) k := by
  have h1 := L.get i
  have h2 : l.getD i 0 * k + c < 1000000000 * k := by
    have := h.low
    have h3 : (l.getD i 0 + 1) * k ≤ 1000000000 * k := Nat.mul_le_mul_right _ (by omega)
    rw [Nat.succ_mul] at h3
    omega
  refine ⟨g1, hf, hk, h.lim.snoc (by omega), ?_, by simp [h.len], by omega⟩
  rw [bigV_snoc, h.len, bigV_take l i hi, Nat.pow_succ, Nat.add_mul, ← h.val, Nat.add_assoc, Nat.mul_assoc, ← Nat.mul_add, Nat.mod_add_div, Nat.mul_add, Nat.mul_assoc]
  omega

/-- how times stands at its end: the carry c is left to be laid -/
structure FinI (w wr : World) (ov : Value) (out : List Nat) (c L X : Nat) : Prop where
  row : Rw wr ov out
  fresh : Fresh w wr ov
  keep : Keep [] w wr
  lim : Lim out
  val : bigV out + 1000000000 ^ out.length * c = X
  len : out.length + (if c = 0 then 0 else 1) ≤ L + 1
  low : c < 1000000000
theorem TimI.fin {w wr : World} {n : Value} {l out : List Nat} {i c k : Nat} (h : TimI w wr n l out i c k) (hk9 : k ≤ 1000000000) (hi : i = l.length) : FinI w wr n out c l.length (bigV l * k) := by
  subst hi
  have hv := h.val
  rw [List.take_of_length_le (Nat.le_refl _)] at hv
  refine ⟨h.row, h.fresh, h.keep, h.lim, by rw [h.len]; exact hv, ?_, by have := h.low; omega⟩
  have := h.len
  split <;> omega
theorem FinI.next {w wr w1 : World} {n n' : Value} {out : List Nat} {c L X : Nat} (h : FinI w wr n out c L X) (hc : 0 < c) (g1 : Rw w1 n' (out ++ [c % 1000000000])) (hk : Keep [] w w1) (hf : Fresh w w1 n') : FinI w w1 n' (out ++ [c % 1000000000]) (c / 1000000000) L X := by
  have h1 := h.low
  have h2 := h.len
  rw [if_neg (by omega)] at h2
  refine ⟨g1, hf, hk, h.lim.snoc (by omega), ?_, by rw [if_pos (by omega)]; simp; omega, by omega⟩
  rw [bigV_snoc, Nat.mod_eq_of_lt h1, Nat.div_eq_of_lt h1, Nat.mul_zero, Nat.add_zero]
  exact h.val

theorem cut_big {w w' : World} {v v' : Value} {out : List Nat} {N K : Nat} (hc : Cut w' v v' out) (hL : Lim out) (hv : bigV out = N) (hn : out.length ≤ K) (hf : Fresh w w' v) : Big w' v' N K ∧ Fresh w w' v' := by
  obtain ⟨k, h1, h2, h3, h4, h5⟩ := hc
  refine ⟨⟨_, h2, hL.take k, h3, by rw [h4, hv], by simp; omega⟩, ?_⟩
  intro j hj
  rw [h5] at hj
  exact hf j hj

set_option maxRecDepth 1000000 in
set_option maxHeartbeats 3200000 in
theorem times_any (v : Value) (l : List Nat) (k : Nat) (w : World) (h : Is w v l) (L : Lim l) (hl : l.length ≤ 100000) (hk1 : 1 ≤ k) (hk2 : k ≤ 1000000000) :
    Calls Tryz.prog 82 #[v, .int .i64 (k : Int)] w fun e w' => ∃ v', e = .returned v' ∧ (Big w' v' (bigV l * k) (l.length + 1) ∧ Fresh w w' v') ∧ Keep [] w w' := by
  obtain ⟨ao, cap, rfl, hc1, hc2, _, hc4⟩ := h.ex
  have HC : Hid (l ≠ [] → ∃ b o, ao = some ⟨b, o, none⟩ ∧ ∀ j, j < l.length → w.cell? ⟨b, o + j, none⟩ = some (.int .i64 ((l.getD j 0 : Nat) : Int))) := hc4
  have HL : Hid (Lim l) := L
  clear hc4 h L
  simp only [maxLen] at hc2
  go_enter Tryz.func82, Tryz.ntmps82
  go_wp2
  go_loopw [5, 6, 7] (fun ov cv iv wr => ∃ (i c : Nat) (out : List Nat), cv = .int .i64 (c : Int) ∧ iv = .int .i64 (i : Int) ∧ i ≤ l.length ∧ Hid (TimI w wr ov l out i c k)) (fun _ _ iv _ => l.length - (intOf iv).toNat)
  case atStart => exact ⟨0, 0, [], rfl, rfl, Nat.zero_le _, (⟨Rw.nil w, Fresh.nil w w, Keep.refl _ w, Lim.nil, by simp [bigV], rfl, by omega⟩ : TimI w w _ l [] 0 0 k)⟩
  case round =>
    obtain ⟨i, c, out, rfl, rfl, hil, HI⟩ := hrel
    have hck : c < k := HI.out.low
    by_cases hi : i < l.length
    · obtain ⟨b, o, rfl, hcell⟩ := HC.out (by intro hz; rw [hz] at hi; simp at hi)
      have hcw : wr.cell? ⟨b, o + i, none⟩ = some (.int .i64 ((l.getD i 0 : Nat) : Int)) := HI.out.keep.cell' (hcell i hi) (by simp)
      have hii : (i : Int) < (l.length : Int) := by omega
      have hlg := HL.out.get i
      have HN : Hid (∀ {w1 n'}, Rw w1 n' (out ++ [(l.getD i 0 * k + c) % 1000000000]) → Keep [] w w1 → Fresh w w1 n' → TimI w w1 n' l (out ++ [(l.getD i 0 * k + c) % 1000000000]) (i + 1) ((l.getD i 0 * k + c) / 1000000000) k) := fun a b c => HI.out.next HL.out hi a b c
      have HB : Hid (out.length + [(l.getD i 0 * k + c) % 1000000000].length ≤ 1000000000) := show out.length + [(l.getD i 0 * k + c) % 1000000000].length ≤ 1000000000 by have := HI.out.len; simp; omega
      clear hcell
      generalize l.getD i 0 = x at *
      have hp1 : x * k ≤ 999999999 * 1000000000 := Nat.mul_le_mul (by omega) hk2
      have hr := HI.out.row.keep (Keep.alloc1 wr (.cells #[.int .i64 (((x * k + c) % 1000000000 : Nat) : Int)] TI)) (Off.nil _)
      have hs := (Is.one wr ((x * k + c) % 1000000000)).src
      have he : (((x * k + c) % 1000000000 : Nat) : Int) = ((x : Int) * (k : Int) + (c : Int)) % 1000000000 := by
        rw [← Int.natCast_mul]; omega
      rw [he] at hs hr
      have q1 : (0 : Int) ≤ (x : Int) * (k : Int) := by rw [← Int.natCast_mul]; omega
      have q2 : (x : Int) * (k : Int) ≤ 999999999000000000 := by rw [← Int.natCast_mul]; omega
      have q3 : (c : Int) < 1000000000 := by omega
      have hd : (((x * k + c) / 1000000000 : Nat) : Int) = ((x : Int) * (k : Int) + (c : Int)) / 1000000000 := by
        rw [← Int.natCast_mul]; omega
      have HD : Hid ((((x * k + c) / 1000000000 : Nat) : Int) = ((x : Int) * (k : Int) + (c : Int)) / 1000000000) := hd
      generalize hpg : (x : Int) * (k : Int) = p at *
      have HPG : Hid ((x : Int) * (k : Int) = p) := hpg
      clear he hd hp1
      go_wp2_with (at_builtin; refine wp_appI rfl (.tmp 23) (.tmp 26) 55 55 rfl underN _ out rfl hr _ [(x * k + c) % 1000000000] rfl hs HB.out ?_)
      intro v' w1 g1 g2 g3 g4
      have HA := app_fresh HI.out.keep HI.out.fresh g2 g3
      have HJ : Hid (TimI w w1 v' l (out ++ [(x * k + c) % 1000000000]) (i + 1) ((x * k + c) / 1000000000) k) := HN.out g1 HA.1 HA.2
      clear g1 g2 g3 g4 HA hr hs hpg
      go_wp2
      go_roundw
      case rel => exact ⟨i + 1, (x * k + c) / 1000000000, _, by rw [HD.out], by go_num, by omega, HJ⟩
      case measure => (simp [intOf]; try omega)
    · have hii : ¬ (i : Int) < (l.length : Int) := by omega
      have hlen : i = l.length := by omega
      have HF : Hid (FinI w wr u5 out c l.length (bigV l * k)) := HI.out.fin hk2 hlen
      clear HI HC HL hlen hck
      go_wp2
      go_loopw [5, 6] (fun ov cv wr => ∃ (c : Nat) (out : List Nat), cv = .int .i64 (c : Int) ∧ Hid (FinI w wr ov out c l.length (bigV l * k))) (fun _ cv _ => (intOf cv).toNat)
      case atStart => exact ⟨c, out, rfl, HF⟩
      case round =>
        clear HF
        obtain ⟨y, out2, rfl, HI⟩ := hrel
        by_cases h0 : y = 0
        · subst h0
          have hP := plain_any u5 out2 wr HI.out.row.bs
          go_wp2_with (go_at_call 83; refine hP.mono ?_; rintro e9 w9 ⟨v9, rfl, hc9, hw9⟩; obtain rfl := hw9.symm)
          go_ret
          exact ⟨_, rfl, cut_big hc9 HI.out.lim (by simpa using HI.out.val) (by simpa using HI.out.len) HI.out.fresh, HI.out.keep⟩
        · have hy : (0 : Int) < (y : Int) := by omega
          have hb1 : (y : Int) ≤ 9223372036854775807 := by have := HI.out.low; omega
          have hr := HI.out.row.keep (Keep.alloc1 wr (.cells #[.int .i64 ((y % 1000000000 : Nat) : Int)] TI)) (Off.nil _)
          have hs := (Is.one wr (y % 1000000000)).src
          have he : ((y % 1000000000 : Nat) : Int) = (y : Int) % 1000000000 := by omega
          rw [he] at hs hr
          have HB : Hid (out2.length + [y % 1000000000].length ≤ 1000000000) := show out2.length + [y % 1000000000].length ≤ 1000000000 by have := HI.out.len; simp; omega
          have hm : Hid (y / 1000000000 < y) := show y / 1000000000 < y by omega
          clear he
          go_wp2_with (at_builtin; refine wp_appI rfl (.tmp 32) (.tmp 35) 55 55 rfl underN _ out2 rfl hr _ [y % 1000000000] rfl hs HB.out ?_)
          intro v' w1 g1 g2 g3 g4
          have HA := app_fresh HI.out.keep HI.out.fresh g2 g3
          have HJ : Hid (FinI w w1 v' (out2 ++ [y % 1000000000]) (y / 1000000000) l.length (bigV l * k)) := HI.out.next (by omega) g1 HA.1 HA.2
          clear g1 g2 g3 g4 HA hr hs
          go_wp2
          go_roundw
          case rel => exact ⟨y / 1000000000, _, by go_num, HJ⟩
          case measure => (simp [intOf]; try omega)

theorem times_big (v : Value) (N K k : Nat) (w : World) (h : Big w v N K) (hK : K ≤ 100000) (hk1 : 1 ≤ k) (hk2 : k ≤ 1000000000) :
    Calls Tryz.prog 82 #[v, .int .i64 (k : Int)] w fun e w' => ∃ v', e = .returned v' ∧ (Big w' v' (N * k) (K + 1) ∧ Fresh w w' v') ∧ Keep [] w w' := by
  obtain ⟨l, h1, h2, h3, rfl, h5⟩ := h
  refine (times_any v l k w h1 h2 (by omega) hk1 hk2).mono ?_
  rintro e w' ⟨v', he, ⟨g1, g2⟩, g3⟩
  exact ⟨v', he, ⟨g1.mono (by omega), g2⟩, g3⟩
end Go.Proofs.YtnljpbpphdhnpaaGreatDoor

