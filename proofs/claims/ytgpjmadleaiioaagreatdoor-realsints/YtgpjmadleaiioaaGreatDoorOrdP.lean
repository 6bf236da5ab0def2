/- The order of reals: the statement's walk, for every three reals. -/
import Derived.Test.YtgpjmadleaiioaaGreatDoorLaidT
namespace Go.Proofs.YtgpjmadleaiioaaGreatDoor
open Go.RowKit Go.PlainAid

theorem key_up (x : Nat) (h : x < 4294967296) : nextN x true < 4294967296 ∧ keyN (nextN x true) = if keyN x < 4286578688 then keyN x + 1 else 4290772992 := by
  have h1 := key_top x h
  have h2 := key_bot x h
  unfold nextN
  simp only [if_true]
  refine ⟨fromN_lt _ (by omega), ?_⟩
  rw [key_from _ (by omega)]
  split <;> split <;> omega
theorem key_down (x : Nat) (h : x < 4294967296) : nextN x false < 4294967296 ∧ keyN (nextN x false) = if keyN x = 4290772992 then 4286578688 else if keyN x = 8388607 then 8388607 else keyN x - 1 := by
  have h1 := key_top x h
  have h2 := key_bot x h
  have h3 : keyN x = 4290772992 ∨ keyN x ≤ 4286578688 := by
    cases hn : nanB x
    · right; exact (key_low x hn h).2
    · left; exact key_nan x hn
  unfold nextN
  simp only [Bool.false_eq_true, if_false]
  by_cases e1 : keyN x = 4290772992
  · rw [if_pos e1, if_pos e1]; decide
  · rw [if_neg e1, if_neg e1]
    by_cases e2 : keyN x = 8388607
    · rw [if_pos e2, if_pos e2]; exact ⟨h, e2⟩
    · rw [if_neg e2, if_neg e2]
      refine ⟨fromN_lt _ (by omega), ?_⟩
      rw [key_from _ (by omega), if_pos (by omega)]
theorem key_range (x : Nat) (h : x < 4294967296) : keyN x = 4290772992 ∨ (8388607 ≤ keyN x ∧ keyN x ≤ 4286578688) := by
  cases hn : nanB x
  · right; exact key_low x hn h
  · left; exact key_nan x hn
theorem back_same (a : Nat) (h : a < 4294967296) : fromN (keyN a) < 4294967296 ∧ sameR (fromN (keyN a)) a = true := by
  have hl := keyN_lt a h
  have hf := fromN_lt _ hl
  refine ⟨hf, ?_⟩
  rw [same_key _ _ hf h, key_from _ hl]
  have := key_range a h
  simp only [decide_eq_true_eq]
  split <;> omega
theorem cmpI_lt {a b : Int} (h : a < b) : cmpI a b = -1 := by unfold cmpI; rw [if_pos h]
theorem cmpI_gt {a b : Int} (h : b < a) : cmpI a b = 1 := by unfold cmpI; rw [if_neg (by omega), if_pos h]
theorem cmpI_eq {a b : Int} (h : a = b) : cmpI a b = 0 := by unfold cmpI; rw [if_neg (by omega), if_neg (by omega)]
theorem cmpI_le {a b : Int} (h : a ≤ b) : ¬ (0 < cmpI a b) := by unfold cmpI; split; omega; split <;> omega
theorem cmpI_ge {a b : Int} (h : b ≤ a) : ¬ (cmpI a b < 0) := by unfold cmpI; split; omega; split <;> omega

set_option maxRecDepth 1000000 in
set_option maxHeartbeats 4000000 in
theorem order_walk (a b c : Nat) (ha : a < 4294967296) (hb : b < 4294967296) (hc : c < 4294967296) (w : World) (hT : Tabx w) :
    Calls Tryz.prog 7 #[.float .f32 a, .float .f32 b, .float .f32 c] w fun e w' => e = .returned (.bool true) ∧ Below w.heap.size w w' := by
  have hW := awake_any w hT
  obtain ⟨hu, ku⟩ := key_up a ha
  obtain ⟨hd, kd⟩ := key_down a ha
  obtain ⟨hf, hs2⟩ := back_same a ha
  have hAB := compare_any a b ha hb
  have hBC := compare_any b c hb hc
  have hAC := compare_any a c ha hc
  have hBA := compare_any b a hb ha
  have hS := realSame_any a b ha hb
  have hKa := key_any a ha
  have hKb := key_any b hb
  have hFK := fromKey_any (keyN a) (keyN_lt a ha)
  have hS2 := realSame_any (fromN (keyN a)) a hf ha
  have hU := next_any a ha true
  have hD := next_any a ha false
  have hAU := compare_any a (nextN a true) ha hu
  have hDA := compare_any (nextN a false) a hd ha
  have hUB := compare_any (nextN a true) b hu hb
  have hDB := compare_any (nextN a false) b hd hb
  rw [hs2] at hS2
  rw [same_key a b ha hb] at hS
  have ra := key_range a ha
  have rb := key_range b hb
  have rc := key_range c hc
  clear hs2 hf
  generalize nextN a true = up at *
  generalize nextN a false = dn at *
  generalize fromN (keyN a) = fa at *
  generalize keyN up = kup at *
  generalize keyN dn = kdn at *
  generalize keyN a = ka at *
  generalize keyN b = kb at *
  generalize keyN c = kc at *
  clear ha hb hc hu hd hT
  rcases Nat.lt_trichotomy ka kb with hlt | heq | hgt
  · by_cases hbc : kb ≤ kc
    · skip
      have dS : decide (ka = kb) = false := by simp; omega
      rw [dS] at hS
      rw [cmpI_lt (by omega)] at hAB
      rw [cmpI_gt (by omega)] at hBA
      rw [cmpI_lt (by rw [ku]; split <;> omega)] at hAU
      have pDA : ¬ (0 < cmpI (kdn : Int) ka) := cmpI_le (by rw [kd]; split; omega; split <;> omega)
      have pUB : ¬ (0 < cmpI (kup : Int) kb) := cmpI_le (by rw [ku]; split <;> omega)
      have hlti : (ka : Int) < (kb : Int) := by omega
      rw [cmpI_lt (by omega)] at hAC
      have pBC : ¬ (0 < cmpI (kb : Int) kc) := cmpI_le (by omega)
      generalize cmpI (kb : Int) kc = y at *
      clear hbc
      clear ra rb rc ku kd hlt hDB
      generalize cmpI (kdn : Int) ka = da at *
      generalize cmpI (kup : Int) kb = ub at *
      go_enter Tryz.func7, Tryz.ntmps7
      go_wp2_with fail
      refine hW.mono ?_
      rintro e9 w1 ⟨rfl, hb1⟩
      have HB : Hid (Below w.heap.size w w1) := hb1
      clear hb1 hW
      go_wp2_with fail
      refine (hAB _).mono ?_
      rintro e9 w2 ⟨rfl, hw9⟩
      obtain rfl := hw9.symm
      clear hw9
      go_wp2_with fail
      refine (hBC _).mono ?_
      rintro e9 w3 ⟨rfl, hw9⟩
      obtain rfl := hw9.symm
      clear hw9
      go_wp2_with fail
      refine (hAC _).mono ?_
      rintro e9 w4 ⟨rfl, hw9⟩
      obtain rfl := hw9.symm
      clear hw9
      go_wp2_with fail
      refine (hBA _).mono ?_
      rintro e9 w5 ⟨rfl, hw9⟩
      obtain rfl := hw9.symm
      clear hw9
      go_wp2_with fail
      refine (hS _).mono ?_
      rintro e9 w6 ⟨rfl, hw9⟩
      obtain rfl := hw9.symm
      clear hw9
      go_wp2_with fail
      refine (hKa _).mono ?_
      rintro e9 w7 ⟨rfl, hw9⟩
      obtain rfl := hw9.symm
      clear hw9
      go_wp2_with fail
      refine (hKb _).mono ?_
      rintro e9 w8 ⟨rfl, hw9⟩
      obtain rfl := hw9.symm
      clear hw9
      go_wp2_with fail
      refine (hFK _).mono ?_
      rintro e9 w9 ⟨rfl, hw9⟩
      obtain rfl := hw9.symm
      clear hw9
      go_wp2_with fail
      refine (hS2 _).mono ?_
      rintro e9 w10 ⟨rfl, hw9⟩
      obtain rfl := hw9.symm
      clear hw9
      go_wp2_with fail
      refine (hU _).mono ?_
      rintro e9 w11 ⟨rfl, hw9⟩
      obtain rfl := hw9.symm
      clear hw9
      go_wp2_with fail
      refine (hD _).mono ?_
      rintro e9 w12 ⟨rfl, hw9⟩
      obtain rfl := hw9.symm
      clear hw9
      go_wp2_with fail
      refine (hAU _).mono ?_
      rintro e9 w13 ⟨rfl, hw9⟩
      obtain rfl := hw9.symm
      clear hw9
      go_wp2_with fail
      refine (hDA _).mono ?_
      rintro e9 w14 ⟨rfl, hw9⟩
      obtain rfl := hw9.symm
      clear hw9
      go_wp2_with fail
      refine (hUB _).mono ?_
      rintro e9 w15 ⟨rfl, hw9⟩
      obtain rfl := hw9.symm
      clear hw9
      go_wp2_with fail
      refine (hAU _).mono ?_
      rintro e9 w16 ⟨rfl, hw9⟩
      obtain rfl := hw9.symm
      clear hw9
      go_wp2
      go_ret
      exact ⟨rfl, HB.out⟩
    · skip
      have dS : decide (ka = kb) = false := by simp; omega
      rw [dS] at hS
      rw [cmpI_lt (by omega)] at hAB
      rw [cmpI_gt (by omega)] at hBA
      rw [cmpI_lt (by rw [ku]; split <;> omega)] at hAU
      have pDA : ¬ (0 < cmpI (kdn : Int) ka) := cmpI_le (by rw [kd]; split; omega; split <;> omega)
      have pUB : ¬ (0 < cmpI (kup : Int) kb) := cmpI_le (by rw [ku]; split <;> omega)
      have hlti : (ka : Int) < (kb : Int) := by omega
      rw [cmpI_gt (by omega)] at hBC
      generalize cmpI (ka : Int) kc = z at *
      clear hbc
      clear ra rb rc ku kd hlt hDB
      generalize cmpI (kdn : Int) ka = da at *
      generalize cmpI (kup : Int) kb = ub at *
      go_enter Tryz.func7, Tryz.ntmps7
      go_wp2_with fail
      refine hW.mono ?_
      rintro e9 w1 ⟨rfl, hb1⟩
      have HB : Hid (Below w.heap.size w w1) := hb1
      clear hb1 hW
      go_wp2_with fail
      refine (hAB _).mono ?_
      rintro e9 w2 ⟨rfl, hw9⟩
      obtain rfl := hw9.symm
      clear hw9
      go_wp2_with fail
      refine (hBC _).mono ?_
      rintro e9 w3 ⟨rfl, hw9⟩
      obtain rfl := hw9.symm
      clear hw9
      go_wp2_with fail
      refine (hAC _).mono ?_
      rintro e9 w4 ⟨rfl, hw9⟩
      obtain rfl := hw9.symm
      clear hw9
      go_wp2_with fail
      refine (hBA _).mono ?_
      rintro e9 w5 ⟨rfl, hw9⟩
      obtain rfl := hw9.symm
      clear hw9
      go_wp2_with fail
      refine (hS _).mono ?_
      rintro e9 w6 ⟨rfl, hw9⟩
      obtain rfl := hw9.symm
      clear hw9
      go_wp2_with fail
      refine (hKa _).mono ?_
      rintro e9 w7 ⟨rfl, hw9⟩
      obtain rfl := hw9.symm
      clear hw9
      go_wp2_with fail
      refine (hKb _).mono ?_
      rintro e9 w8 ⟨rfl, hw9⟩
      obtain rfl := hw9.symm
      clear hw9
      go_wp2_with fail
      refine (hFK _).mono ?_
      rintro e9 w9 ⟨rfl, hw9⟩
      obtain rfl := hw9.symm
      clear hw9
      go_wp2_with fail
      refine (hS2 _).mono ?_
      rintro e9 w10 ⟨rfl, hw9⟩
      obtain rfl := hw9.symm
      clear hw9
      go_wp2_with fail
      refine (hU _).mono ?_
      rintro e9 w11 ⟨rfl, hw9⟩
      obtain rfl := hw9.symm
      clear hw9
      go_wp2_with fail
      refine (hD _).mono ?_
      rintro e9 w12 ⟨rfl, hw9⟩
      obtain rfl := hw9.symm
      clear hw9
      go_wp2_with fail
      refine (hAU _).mono ?_
      rintro e9 w13 ⟨rfl, hw9⟩
      obtain rfl := hw9.symm
      clear hw9
      go_wp2_with fail
      refine (hDA _).mono ?_
      rintro e9 w14 ⟨rfl, hw9⟩
      obtain rfl := hw9.symm
      clear hw9
      go_wp2_with fail
      refine (hUB _).mono ?_
      rintro e9 w15 ⟨rfl, hw9⟩
      obtain rfl := hw9.symm
      clear hw9
      go_wp2_with fail
      refine (hAU _).mono ?_
      rintro e9 w16 ⟨rfl, hw9⟩
      obtain rfl := hw9.symm
      clear hw9
      go_wp2
      go_ret
      exact ⟨rfl, HB.out⟩
  · subst heq
    have dS : decide (ka = ka) = true := by simp
    rw [dS] at hS
    rw [cmpI_eq rfl] at hAB hBA
    have pAU : ¬ (0 < cmpI (ka : Int) kup) := cmpI_le (by rw [ku]; split <;> omega)
    have pDA : ¬ (0 < cmpI (kdn : Int) ka) := cmpI_le (by rw [kd]; split; omega; split <;> omega)
    clear ra rb rc ku kd hDB hUB
    generalize cmpI (kdn : Int) ka = da at *
    generalize cmpI (ka : Int) kup = au at *
    generalize cmpI (ka : Int) kc = y at *
    by_cases hy : y ≤ 0
    · skip
      have hy2 : ¬ (0 < y) := by omega
      go_enter Tryz.func7, Tryz.ntmps7
      go_wp2_with fail
      refine hW.mono ?_
      rintro e9 w1 ⟨rfl, hb1⟩
      have HB : Hid (Below w.heap.size w w1) := hb1
      clear hb1 hW
      go_wp2_with fail
      refine (hAB _).mono ?_
      rintro e9 w2 ⟨rfl, hw9⟩
      obtain rfl := hw9.symm
      clear hw9
      go_wp2_with fail
      refine (hBC _).mono ?_
      rintro e9 w3 ⟨rfl, hw9⟩
      obtain rfl := hw9.symm
      clear hw9
      go_wp2_with fail
      refine (hAC _).mono ?_
      rintro e9 w4 ⟨rfl, hw9⟩
      obtain rfl := hw9.symm
      clear hw9
      go_wp2_with fail
      refine (hBA _).mono ?_
      rintro e9 w5 ⟨rfl, hw9⟩
      obtain rfl := hw9.symm
      clear hw9
      go_wp2_with fail
      refine (hS _).mono ?_
      rintro e9 w6 ⟨rfl, hw9⟩
      obtain rfl := hw9.symm
      clear hw9
      go_wp2_with fail
      refine (hKa _).mono ?_
      rintro e9 w7 ⟨rfl, hw9⟩
      obtain rfl := hw9.symm
      clear hw9
      go_wp2_with fail
      refine (hKb _).mono ?_
      rintro e9 w8 ⟨rfl, hw9⟩
      obtain rfl := hw9.symm
      clear hw9
      go_wp2_with fail
      refine (hFK _).mono ?_
      rintro e9 w9 ⟨rfl, hw9⟩
      obtain rfl := hw9.symm
      clear hw9
      go_wp2_with fail
      refine (hS2 _).mono ?_
      rintro e9 w10 ⟨rfl, hw9⟩
      obtain rfl := hw9.symm
      clear hw9
      go_wp2_with fail
      refine (hU _).mono ?_
      rintro e9 w11 ⟨rfl, hw9⟩
      obtain rfl := hw9.symm
      clear hw9
      go_wp2_with fail
      refine (hD _).mono ?_
      rintro e9 w12 ⟨rfl, hw9⟩
      obtain rfl := hw9.symm
      clear hw9
      go_wp2_with fail
      refine (hAU _).mono ?_
      rintro e9 w13 ⟨rfl, hw9⟩
      obtain rfl := hw9.symm
      clear hw9
      go_wp2_with fail
      refine (hDA _).mono ?_
      rintro e9 w14 ⟨rfl, hw9⟩
      obtain rfl := hw9.symm
      clear hw9
      go_wp2
      go_ret
      exact ⟨rfl, HB.out⟩
    · skip
      have hy2 : 0 < y := by omega
      go_enter Tryz.func7, Tryz.ntmps7
      go_wp2_with fail
      refine hW.mono ?_
      rintro e9 w1 ⟨rfl, hb1⟩
      have HB : Hid (Below w.heap.size w w1) := hb1
      clear hb1 hW
      go_wp2_with fail
      refine (hAB _).mono ?_
      rintro e9 w2 ⟨rfl, hw9⟩
      obtain rfl := hw9.symm
      clear hw9
      go_wp2_with fail
      refine (hBC _).mono ?_
      rintro e9 w3 ⟨rfl, hw9⟩
      obtain rfl := hw9.symm
      clear hw9
      go_wp2_with fail
      refine (hAC _).mono ?_
      rintro e9 w4 ⟨rfl, hw9⟩
      obtain rfl := hw9.symm
      clear hw9
      go_wp2_with fail
      refine (hBA _).mono ?_
      rintro e9 w5 ⟨rfl, hw9⟩
      obtain rfl := hw9.symm
      clear hw9
      go_wp2_with fail
      refine (hS _).mono ?_
      rintro e9 w6 ⟨rfl, hw9⟩
      obtain rfl := hw9.symm
      clear hw9
      go_wp2_with fail
      refine (hKa _).mono ?_
      rintro e9 w7 ⟨rfl, hw9⟩
      obtain rfl := hw9.symm
      clear hw9
      go_wp2_with fail
      refine (hKb _).mono ?_
      rintro e9 w8 ⟨rfl, hw9⟩
      obtain rfl := hw9.symm
      clear hw9
      go_wp2_with fail
      refine (hFK _).mono ?_
      rintro e9 w9 ⟨rfl, hw9⟩
      obtain rfl := hw9.symm
      clear hw9
      go_wp2_with fail
      refine (hS2 _).mono ?_
      rintro e9 w10 ⟨rfl, hw9⟩
      obtain rfl := hw9.symm
      clear hw9
      go_wp2_with fail
      refine (hU _).mono ?_
      rintro e9 w11 ⟨rfl, hw9⟩
      obtain rfl := hw9.symm
      clear hw9
      go_wp2_with fail
      refine (hD _).mono ?_
      rintro e9 w12 ⟨rfl, hw9⟩
      obtain rfl := hw9.symm
      clear hw9
      go_wp2_with fail
      refine (hAU _).mono ?_
      rintro e9 w13 ⟨rfl, hw9⟩
      obtain rfl := hw9.symm
      clear hw9
      go_wp2_with fail
      refine (hDA _).mono ?_
      rintro e9 w14 ⟨rfl, hw9⟩
      obtain rfl := hw9.symm
      clear hw9
      go_wp2
      go_ret
      exact ⟨rfl, HB.out⟩
  · have dS : decide (ka = kb) = false := by simp; omega
    rw [dS] at hS
    rw [cmpI_gt (by omega)] at hAB
    rw [cmpI_lt (by omega)] at hBA
    have pAU : ¬ (0 < cmpI (ka : Int) kup) := cmpI_le (by rw [ku]; split <;> omega)
    rw [cmpI_lt (by rw [kd]; split; omega; split <;> omega)] at hDA
    have pDB : ¬ (cmpI (kdn : Int) kb < 0) := cmpI_ge (by rw [kd]; split; omega; split <;> omega)
    have hgti : (kb : Int) < (ka : Int) := by omega
    have hnlt : ¬ (ka : Int) < (kb : Int) := by omega
    clear ra rb rc ku kd hUB hgt
    generalize cmpI (ka : Int) kup = au at *
    generalize cmpI (kdn : Int) kb = db at *
    generalize cmpI (ka : Int) kc = z at *
    generalize cmpI (kb : Int) kc = y at *
    go_enter Tryz.func7, Tryz.ntmps7
    go_wp2_with fail
    refine hW.mono ?_
    rintro e9 w1 ⟨rfl, hb1⟩
    have HB : Hid (Below w.heap.size w w1) := hb1
    clear hb1 hW
    go_wp2_with fail
    refine (hAB _).mono ?_
    rintro e9 w2 ⟨rfl, hw9⟩
    obtain rfl := hw9.symm
    clear hw9
    go_wp2_with fail
    refine (hBC _).mono ?_
    rintro e9 w3 ⟨rfl, hw9⟩
    obtain rfl := hw9.symm
    clear hw9
    go_wp2_with fail
    refine (hAC _).mono ?_
    rintro e9 w4 ⟨rfl, hw9⟩
    obtain rfl := hw9.symm
    clear hw9
    go_wp2_with fail
    refine (hBA _).mono ?_
    rintro e9 w5 ⟨rfl, hw9⟩
    obtain rfl := hw9.symm
    clear hw9
    go_wp2_with fail
    refine (hS _).mono ?_
    rintro e9 w6 ⟨rfl, hw9⟩
    obtain rfl := hw9.symm
    clear hw9
    go_wp2_with fail
    refine (hKa _).mono ?_
    rintro e9 w7 ⟨rfl, hw9⟩
    obtain rfl := hw9.symm
    clear hw9
    go_wp2_with fail
    refine (hKb _).mono ?_
    rintro e9 w8 ⟨rfl, hw9⟩
    obtain rfl := hw9.symm
    clear hw9
    go_wp2_with fail
    refine (hFK _).mono ?_
    rintro e9 w9 ⟨rfl, hw9⟩
    obtain rfl := hw9.symm
    clear hw9
    go_wp2_with fail
    refine (hS2 _).mono ?_
    rintro e9 w10 ⟨rfl, hw9⟩
    obtain rfl := hw9.symm
    clear hw9
    go_wp2_with fail
    refine (hU _).mono ?_
    rintro e9 w11 ⟨rfl, hw9⟩
    obtain rfl := hw9.symm
    clear hw9
    go_wp2_with fail
    refine (hD _).mono ?_
    rintro e9 w12 ⟨rfl, hw9⟩
    obtain rfl := hw9.symm
    clear hw9
    go_wp2_with fail
    refine (hAU _).mono ?_
    rintro e9 w13 ⟨rfl, hw9⟩
    obtain rfl := hw9.symm
    clear hw9
    go_wp2_with fail
    refine (hDA _).mono ?_
    rintro e9 w14 ⟨rfl, hw9⟩
    obtain rfl := hw9.symm
    clear hw9
    go_wp2_with fail
    refine (hDB _).mono ?_
    rintro e9 w15 ⟨rfl, hw9⟩
    obtain rfl := hw9.symm
    clear hw9
    go_wp2_with fail
    refine (hDA _).mono ?_
    rintro e9 w16 ⟨rfl, hw9⟩
    obtain rfl := hw9.symm
    clear hw9
    go_wp2
    go_ret
    exact ⟨rfl, HB.out⟩
end Go.Proofs.YtgpjmadleaiioaaGreatDoor
