/- The document's whole numbers of any length: plain, and compare. -/
import Derived.Test.YtppimacfeelneaaBigM
import Derived.Test.YtppimacfeelneaaSameV
namespace Go.Proofs.Ytppimacfeelneaa
open Go.RowKit Go.PlainAid

/-- what plain answers: l without the noughts at its end -/
def Cut (w : World) (v v' : Value) (l : List Nat) : Prop := ∃ k, k ≤ l.length ∧ Is w v' (l.take k) ∧ Nrm (l.take k) ∧ bigV (l.take k) = bigV l ∧ v'.ownBlock = v.ownBlock

set_option maxRecDepth 1000000 in
set_option maxHeartbeats 1600000 in
theorem plain_any (v : Value) (l : List Nat) (w : World) (h : Is w v l) : Calls Try.prog 134 #[v] w fun e w' => ∃ v', e = .returned v' ∧ Cut w v v' l ∧ w' = w := by
  rcases h.cases with ⟨rfl, ao, cap, rfl, hc1, hc2⟩ | ⟨hl, b, o, cap, rfl, hp, hc1, hc2, hcell⟩
  · have HC : Hid (Is w (.slice ao 0 cap) []) := h
    clear h
    cases ao with
    | none =>
      obtain rfl := hc2 rfl
      go_enter Try.func134, Try.ntmps134
      go_wp2
      refine wp_loop_rounds 1 ?_
      rw [rounds_succ]
      go_wp2
      go_ret
      exact ⟨_, rfl, ⟨0, Nat.le_refl _, HC.out, Nrm.nil, rfl, rfl⟩, rfl⟩
    | some a =>
      clear hc2
      go_enter Try.func134, Try.ntmps134
      go_wp2
      refine wp_loop_rounds 1 ?_
      rw [rounds_succ]
      go_wp2
      go_ret
      exact ⟨_, rfl, ⟨0, Nat.le_refl _, HC.out, Nrm.nil, rfl, rfl⟩, rfl⟩
  · have HC : Hid (Is w (.slice (some ⟨b, o, none⟩) l.length cap) l) := h
    have HL : Hid (∀ j, j < l.length → w.cell? ⟨b, o + j, none⟩ = some (.int .i64 ((l.getD j 0 : Nat) : Int))) := hcell
    clear h hcell
    go_enter Try.func134, Try.ntmps134
    go_wp2
    go_loop [3] (fun kv => ∃ k : Nat, kv = .int .i64 (k : Int) ∧ k ≤ l.length ∧ Hid (∀ j, k ≤ j → j < l.length → l.getD j 0 = 0)) (fun kv => (intOf kv).toNat)
    case atStart => exact ⟨l.length, rfl, Nat.le_refl _, (fun j h1 h2 => by omega : ∀ j, l.length ≤ j → j < l.length → l.getD j 0 = 0)⟩
    case round =>
      obtain ⟨k, rfl, hk, hz⟩ := hrel
      have hkc : (k : Int) ≤ (cap : Int) := by omega
      by_cases h0 : k = 0
      · subst h0
        go_wp2
        go_ret
        exact ⟨_, rfl, ⟨0, Nat.zero_le _, Is.take 0 (Nat.zero_le _) HC.out, Nrm.nil, bigV_cut l 0 (Nat.zero_le _) hz.out, rfl⟩, rfl⟩
      · obtain ⟨m, rfl⟩ : ∃ m, k = m + 1 := ⟨k - 1, by omega⟩
        have hm : w.cell? ⟨b, o + m, none⟩ = some (.int .i64 ((l.getD m 0 : Nat) : Int)) := HL.out m (by omega)
        have hml : m < l.length := by omega
        by_cases h9 : l.getD m 0 = 0
        · rw [h9] at hm
          have HZ : Hid (∀ j, m ≤ j → j < l.length → l.getD j 0 = 0) := fun j h1 h2 => by
            by_cases e : j = m
            · rw [e]; exact h9
            · exact hz.out j (by omega) h2
          clear h9 hz h0
          go_wp2
          go_round
          case rel => exact ⟨m, by go_num, by omega, HZ⟩
          case measure => (simp [intOf]; try omega)
        · have HN : Hid (Nrm (l.take (m + 1))) := Nrm.cut l (m + 1) hk (.inr (by simpa using h9))
          have t1 : (((l.getD m 0 : Nat) : Int) == 0) = false := by simpa using h9
          clear h9 h0
          generalize ((l.getD m 0 : Nat) : Int) = c at hm t1
          go_wp2
          go_ret
          exact ⟨_, rfl, ⟨m + 1, hk, Is.take (m + 1) hk HC.out, HN.out, bigV_cut l (m + 1) hk hz.out, rfl⟩, rfl⟩

set_option maxRecDepth 1000000 in
set_option maxHeartbeats 1600000 in
theorem compare_big (u v : Value) (a b : List Nat) (w : World) (hu : Is w u a) (hv : Is w v b) (La : Lim a) (Lb : Lim b) (Na : Nrm a) (Nb : Nrm b) :
    Calls Try.prog 119 #[u, v] w fun e w' => e = .returned (.int .i64 (cmpI (bigV a) (bigV b))) ∧ ∃ n, w' = w.drewN n := by
  obtain ⟨ao, ca, rfl, p1, p2, _, p4⟩ := hu.ex
  obtain ⟨bo, cb, rfl, q1, q2, _, q4⟩ := hv.ex
  simp only [maxLen] at p2 q2
  clear hu hv
  by_cases hl : a.length = b.length
  · have HE : Hid ((a ≠ [] → ∃ b o, ao = some ⟨b, o, none⟩ ∧ ∀ j, j < a.length → w.cell? ⟨b, o + j, none⟩ = some (.int .i64 ((a.getD j 0 : Nat) : Int))) ∧ (b ≠ [] → ∃ g o, bo = some ⟨g, o, none⟩ ∧ ∀ j, j < b.length → w.cell? ⟨g, o + j, none⟩ = some (.int .i64 ((b.getD j 0 : Nat) : Int)))) := ⟨p4, q4⟩
    have HL : Hid (a.length = b.length) := hl
    have HLim : Hid (Lim a ∧ Lim b) := ⟨La, Lb⟩
    have hne : ((a.length : Int) != (b.length : Int)) = false := by simp; omega
    clear p4 q4
    rw [← hl] at q1 hne ⊢
    clear hl
    have ha1 : (a.length : Int) ≤ 9223372036854775807 := by omega
    go_enter Try.func119, Try.ntmps119
    go_wp2
    go_loopw [5] (fun iv wr => ∃ k n : Nat, iv = .int .i64 ((k : Int) - 1) ∧ k ≤ a.length ∧ Hid (a.drop k = b.drop k) ∧ wr = w.drewN n) (fun iv _ => (intOf iv + 1).toNat)
    case atStart => exact ⟨a.length, 0, rfl, Nat.le_refl _, (by rw [List.drop_length, HL.out, List.drop_length] : a.drop a.length = b.drop a.length), rfl⟩
    case round =>
      obtain ⟨k, n, rfl, hka, hall, rfl⟩ := hrel
      by_cases h0 : k = 0
      · subst h0
        have HQ : Hid (cmpI (bigV a) (bigV b) = 0) := show cmpI (bigV a) (bigV b) = 0 by
          have := hall.out
          simp at this
          rw [this]; unfold cmpI; rw [if_neg (by omega), if_neg (by omega)]
        rw [show ((0 : Nat) : Int) - 1 = -1 from rfl]
        go_wp2
        go_ret
        exact ⟨by rw [HQ.out]; rfl, _, rfl⟩
      · obtain ⟨m, rfl⟩ : ∃ m, k = m + 1 := ⟨k - 1, by omega⟩
        have hma : m < a.length := by omega
        have hmb : m < b.length := by have := HL.out; omega
        obtain ⟨g, o, rfl, hc⟩ := HE.out.1 (by intro hz; rw [hz] at hma; simp at hma)
        obtain ⟨g', o', rfl, hc'⟩ := HE.out.2 (by intro hz; rw [hz] at hmb; simp at hmb)
        have hca := hc m hma
        have hcb := hc' m hmb
        have hmi : (m : Int) < (a.length : Int) := by omega
        rw [show ((m + 1 : Nat) : Int) - 1 = (m : Int) by omega]
        rcases Nat.lt_trichotomy (a.getD m 0) (b.getD m 0) with he | he | he
        · have HQ : Hid (cmpI (bigV a) (bigV b) = -1) := show cmpI (bigV a) (bigV b) = -1 by
            have := big_less a b m hma hmb HLim.out.1 hall.out he
            unfold cmpI; rw [if_pos (by omega)]
          have hlt : ((a.getD m 0 : Nat) : Int) < ((b.getD m 0 : Nat) : Int) := by omega
          clear hall hc hc' he HE h0
          generalize ((a.getD m 0 : Nat) : Int) = x at hca hlt
          generalize ((b.getD m 0 : Nat) : Int) = y at hcb hlt
          go_wp2
          go_quiet (fail)
          go_wp2
          go_ret
          exact ⟨by rw [HQ.out]; rfl, _, drewN_drewN _ _ _⟩
        · have HA : Hid (a.drop m = b.drop m) := show a.drop m = b.drop m by
            rw [List.drop_eq_getElem_cons hma, List.drop_eq_getElem_cons hmb, hall.out]
            rw [List.getD_eq_getElem?_getD, List.getD_eq_getElem?_getD, List.getElem?_eq_getElem hma, List.getElem?_eq_getElem hmb] at he
            simp at he
            rw [he]
          have hx : ((a.getD m 0 : Nat) : Int) = ((b.getD m 0 : Nat) : Int) := by omega
          rw [← hx] at hcb
          have t1 : ¬ ((a.getD m 0 : Nat) : Int) < ((a.getD m 0 : Nat) : Int) := by omega
          clear hall hc hc' he HE h0 hx
          generalize ((a.getD m 0 : Nat) : Int) = x at hca hcb t1
          go_wp2
          go_quiet (fail)
          go_wp2
          go_quiet (fail)
          go_wp2
          go_roundw
          case rel => exact ⟨m, _, by go_num, by omega, HA, rfl⟩
          case measure => (simp [intOf]; try omega)
        · have HQ : Hid (cmpI (bigV a) (bigV b) = 1) := show cmpI (bigV a) (bigV b) = 1 by
            have := big_less b a m hmb hma HLim.out.2 hall.out.symm he
            unfold cmpI; rw [if_neg (by omega), if_pos (by omega)]
          have hlt : ((b.getD m 0 : Nat) : Int) < ((a.getD m 0 : Nat) : Int) := by omega
          have t1 : ¬ ((a.getD m 0 : Nat) : Int) < ((b.getD m 0 : Nat) : Int) := by omega
          clear hall hc hc' he HE h0
          generalize ((a.getD m 0 : Nat) : Int) = x at hca hlt t1
          generalize ((b.getD m 0 : Nat) : Int) = y at hcb hlt t1
          go_wp2
          go_quiet (fail)
          go_wp2
          go_quiet (fail)
          go_wp2
          go_ret
          exact ⟨by rw [HQ.out]; rfl, _, by rw [drewN_drewN, drewN_drewN]⟩
  · have HQ : Hid (cmpI (bigV a) (bigV b) = if a.length < b.length then -1 else 1) := cmp_long hl La Lb Na Nb
    have hne : ((a.length : Int) != (b.length : Int)) = true := by simp; omega
    clear p4 q4
    generalize cmpI (bigV a) (bigV b) = z at *
    by_cases h1 : a.length < b.length
    · have HQ2 : Hid (z = -1) := show z = -1 by rw [HQ.out, if_pos h1]
      have h2 : (a.length : Int) < (b.length : Int) := by omega
      clear HQ hl h1
      go_enter Try.func119, Try.ntmps119
      go_wp2
      go_ret
      exact ⟨by rw [HQ2.out]; rfl, 0, rfl⟩
    · have HQ2 : Hid (z = 1) := show z = 1 by rw [HQ.out, if_neg h1]
      have h2 : ¬ (a.length : Int) < (b.length : Int) := by omega
      clear HQ hl h1
      go_enter Try.func119, Try.ntmps119
      go_wp2
      go_ret
      exact ⟨by rw [HQ2.out]; rfl, 0, rfl⟩
end Go.Proofs.Ytppimacfeelneaa

