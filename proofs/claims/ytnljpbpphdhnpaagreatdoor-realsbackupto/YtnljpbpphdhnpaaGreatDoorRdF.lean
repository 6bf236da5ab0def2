/- What the library reads of a text that is digits about a point, an e and digits: told by how its run goes, byte by byte. -/
import Derived.Test.YtnljpbpphdhnpaaGreatDoorRlA
import Derived.Handy
import Derived.WalkMore
namespace Go.Proofs.YtnljpbpphdhnpaaGreatDoor
open Go.RowKit Go.PlainAid

theorem lower_any (c : Int) (w : World) : Calls Tryz.prog 169 #[.int .u8 c] w fun e w' => e = .returned (.int .u8 (bits .or .u8 c 32)) ∧ w' = w := by
  go_enter Tryz.func169, Tryz.ntmps169
  go_wp2
  go_ret
  exact ⟨rfl, rfl⟩

/-- how the run over the digits and the point goes -/
def RunD (s : ByteArray) (a : Nat) (M nd dp : Nat → Int) (sd : Nat → Bool) : Prop :=
  ∀ k, k < a → (bt s k = 46 ∧ sd k = false ∧ M (k + 1) = M k ∧ nd (k + 1) = nd k ∧ dp (k + 1) = nd k ∧ sd (k + 1) = true) ∨
    (48 ≤ bt s k ∧ bt s k ≤ 57 ∧ (bt s k = 48 → nd k ≠ 0) ∧ 0 ≤ nd k ∧ nd k < 19 ∧ 0 ≤ M k ∧ M k * 10 + 9 ≤ 18446744073709551615 ∧ M (k + 1) = M k * 10 + (bt s k - 48) ∧ nd (k + 1) = nd k + 1 ∧ dp (k + 1) = dp k ∧ sd (k + 1) = sd k)
/-- how the run over the power's digits goes -/
def RunE (s : ByteArray) (a n : Nat) (E : Nat → Int) : Prop :=
  ∀ k, a ≤ k → k < n → 48 ≤ bt s k ∧ bt s k ≤ 57 ∧ 0 ≤ E k ∧ E k < 10000 ∧ E (k + 1) = E k * 10 + bt s k - 48

set_option maxRecDepth 1000000 in
set_option maxHeartbeats 4000000 in
theorem readFloat_any (s : ByteArray) (a : Nat) (M nd dp : Nat → Int) (sd : Nat → Bool) (E : Nat → Int) (w : World)
    (hs : s.size ≤ 1000) (hrun : RunD s a M nd dp sd) (h0 : M 0 = 0 ∧ nd 0 = 0 ∧ dp 0 = 0 ∧ sd 0 = false)
    (h2 : 2 ≤ a) (hd0 : 49 ≤ bt s 0 ∧ bt s 0 ≤ 57) (hfin : sd a = true ∧ 0 < nd a ∧ M a ≠ 0 ∧ 0 ≤ dp a ∧ dp a ≤ 100 ∧ nd a ≤ 100) (hea : bt s a = 101)
    (hn : a + 1 < s.size) (hE : RunE s (a + 1) s.size E) (hE0 : E (a + 1) = 0) (hEn : 0 ≤ E s.size ∧ E s.size ≤ 100) :
    Calls Tryz.prog 153 #[.string s] w fun e w' => e = .returned (.tuple #[.int .u64 (M a), .int .i64 (dp a + E s.size - nd a), .bool false, .bool false, .bool false, .int .i64 (s.size : Nat), .bool true]) ∧ w' = w := by
  have HG : Hid (∀ i (h : i < s.size), ((s[i]'h).toNat : Int) = bt s i) := get_bt s
  have HR : Hid (RunD s a M nd dp sd) := hrun
  have HE : Hid (RunE s (a + 1) s.size E) := hE
  have HF : Hid (sd a = true ∧ 0 < nd a ∧ M a ≠ 0 ∧ 0 ≤ dp a ∧ dp a ≤ 100 ∧ nd a ≤ 100) := hfin
  have HEN : Hid (0 ≤ E s.size ∧ E s.size ≤ 100) := hEn
  have HE0 : Hid (E (a + 1) = 0) := hE0
  have HEA : Hid (bt s a = 101) := hea
  have H0 : Hid (M 0 = 0 ∧ nd 0 = 0 ∧ dp 0 = 0 ∧ sd 0 = false) := h0
  have hz : 0 < s.size := by omega
  have g0 : ((s[0]'hz).toNat : Int) = bt s 0 := HG.out 0 hz
  generalize bt s 0 = c0 at g0 hd0
  have t1 : (c0 == 43) = false := by simp; omega
  have t2 : (c0 == 45) = false := by simp; omega
  have t3 : (c0 == 48) = false := by simp; omega
  have tn : ¬ s = ByteArray.empty := by intro e; rw [e] at hz; exact absurd hz (by decide)
  have tn2 : (2 : Int) < (s.size : Int) := by omega
  clear hrun hE hfin hEn hE0 hea h0
  go_enter Tryz.func153, Tryz.ntmps153
  go_wp2
  go_step3
  go_wp2
  go_step3
  go_wp2
  clear t1 t2 t3 g0 hd0 tn tn2
  go_loop [2, 5, 7, 9, 13, 14, 15, 16, 17] (fun m tr i un sw sg n1 n2 d => ∃ k : Nat, k ≤ a ∧ i = .int .i64 k ∧ tr = .bool false ∧ un = .bool false ∧ m = .int .u64 (M k) ∧ sw = .bool (sd k) ∧ sg = .bool (decide (0 < nd k)) ∧ n1 = .int .i64 (nd k) ∧ n2 = .int .i64 (nd k) ∧ d = .int .i64 (dp k)) (fun _ _ i _ _ _ _ _ _ => a - (intOf i).toNat)
  case atStart =>
    obtain ⟨z1, z2, z3, z4⟩ := H0.out
    exact ⟨0, Nat.zero_le _, rfl, rfl, rfl, by rw [z1], by rw [z4], by rw [z2]; rfl, by rw [z2], by rw [z2], by rw [z3]⟩
  case round =>
    obtain ⟨k, hk, rfl, rfl, rfl, rfl, rfl, rfl, rfl, rfl, rfl⟩ := hrel
    have hks : k < s.size := by omega
    have hki : (k : Int) < (s.size : Int) := by omega
    have gk : ((s[k]'hks).toNat : Int) = bt s k := HG.out k hks
    by_cases hlt : k < a
    · rcases HR.out k hlt with ⟨q1, q2, q3, q4, q5, q6⟩ | ⟨q1, q2, q3, q4, q5, q6, q7, q8, q9, q10, q11⟩
      · rw [q1] at gk
        have hsd : sd k = false := q2
        have H1 : Hid (M (k + 1) = M k ∧ nd (k + 1) = nd k ∧ dp (k + 1) = nd k ∧ sd (k + 1) = true) := ⟨q3, q4, q5, q6⟩
        clear q1 q2 q3 q4 q5 q6
        generalize M k = mk at *
        generalize nd k = nk at *
        generalize dp k = dk at *
        generalize sd k = sk at *
        subst hsd
        go_wp2
        go_round
        case rel =>
          obtain ⟨e1, e2, e3, e4⟩ := H1.out
          exact ⟨k + 1, by omega, by go_num, rfl, rfl, by rw [e1], by rw [e4], by rw [e2], by rw [e2], by rw [e2], by rw [e3]⟩
        case measure => simp [intOf]; omega
      · have H1 : Hid (M (k + 1) = M k * 10 + (bt s k - 48) ∧ nd (k + 1) = nd k + 1 ∧ dp (k + 1) = dp k ∧ sd (k + 1) = sd k) := ⟨q8, q9, q10, q11⟩
        have t1 : (bt s k == 95) = false := by simp; omega
        have t2 : (bt s k == 46) = false := by simp; omega
        have t3 : (bt s k == 48 && nd k == 0) = false := by
          rw [Bool.and_eq_false_iff]
          by_cases e : bt s k = 48
          · right; simpa using q3 e
          · left; simpa using e
        have t4' : 0 < nd k + 1 := by omega
        have t4 : Hid (0 < nd k + 1) := t4'
        clear t4'
        clear q8 q9 q10 q11
        generalize M k = mk at *
        generalize nd k = nk at *
        generalize dp k = dk at *
        generalize sd k = sk at *
        generalize bt s k = c at *
        have q6' : mk * 10 ≤ 18446744073709551615 := by omega
        by_cases hc : c = 48
        · have t5 : (c == 48) = true := by simpa using hc
          have t6 : (nk == 0) = false := by simpa using q3 hc
          clear q3 t3
          go_wp2
          go_round
          case rel =>
            obtain ⟨e1, e2, e3, e4⟩ := H1.out
            exact ⟨k + 1, by omega, by go_num, rfl, rfl, by rw [e1, hc]; simp, by rw [e4], by rw [e2]; simp; exact t4.out, by rw [e2], by rw [e2], by rw [e3]⟩
          case measure => simp [intOf]; omega
        · have t5 : (c == 48) = false := by simpa using hc
          clear q3 t3
          go_wp2
          go_round
          case rel =>
            obtain ⟨e1, e2, e3, e4⟩ := H1.out
            exact ⟨k + 1, by omega, by go_num, rfl, rfl, by rw [e1], by rw [e4], by rw [e2]; simp; exact t4.out, by rw [e2], by rw [e2], by rw [e3]⟩
          case measure => simp [intOf]; omega
    · obtain rfl : k = a := by omega
      rw [HEA.out] at gk
      have hL : ∀ w, Calls Tryz.prog 169 #[.int .u8 101] w fun e w' => e = .returned (.int .u8 101) ∧ w' = w := fun w => lower_any 101 w
      obtain ⟨f1, f2, f3, f4, f5, f6⟩ := HF.out
      have hks1 : k + 1 < s.size := hn
      have hki1 : (k : Int) + 1 < (s.size : Int) := by omega
      have gk1 : ((s[k + 1]'hks1).toNat : Int) = bt s (k + 1) := HG.out (k + 1) hks1
      obtain ⟨r1, r2, _, _, _⟩ := HE.out (k + 1) (Nat.le_refl _) hks1
      have t1 : (bt s (k + 1) == 43) = false := by simp; omega
      have t2 : (bt s (k + 1) == 45) = false := by simp; omega
      have t7 : ¬ (s.size : Int) ≤ (k : Int) + 1 := by omega
      have HM : Hid (M k ≠ 0) := f3
      clear f3 hk hlt
      generalize bt s (k + 1) = c1 at *
      have HK : ∀ {p q r : Int}, M k = p → nd k = q → dp k = r → Hid (M k = p ∧ nd k = q ∧ dp k = r) := fun a b c => ⟨a, b, c⟩
      generalize hmk : M k = mk at *
      generalize hnk : nd k = nk at *
      generalize hdk : dp k = dk at *
      have HK2 : Hid (M k = mk ∧ nd k = nk ∧ dp k = dk) := ⟨hmk, hnk, hdk⟩
      clear hmk hnk hdk HK
      generalize sd k = sk at *
      subst f1
      have hdec : decide (0 < nk) = true := by simpa using f2
      rw [hdec]
      go_wp2_with (first | (go_at_call 169; refine (hL _).mono ?_; rintro e9 w9 ⟨rfl, hw9⟩; obtain rfl := hw9.symm))
      clear gk gk1 t1 t2 t7 r1 r2 hL hki1 hki
      go_loop [7, 9, 20] (fun i un ev => ∃ j : Nat, k + 1 ≤ j ∧ j ≤ s.size ∧ i = .int .i64 j ∧ un = .bool false ∧ ev = .int .i64 (E j)) (fun i _ _ => s.size - (intOf i).toNat)
      case atStart => exact ⟨k + 1, Nat.le_refl _, by omega, by go_num, rfl, by rw [HE0.out]⟩
      case round =>
        obtain ⟨j, hj1, hj2, rfl, rfl, rfl⟩ := hrel
        by_cases hjl : j < s.size
        · have hji : (j : Int) < (s.size : Int) := by omega
          have gj : ((s[j]'hjl).toNat : Int) = bt s j := HG.out j hjl
          obtain ⟨r1, r2, r3, r4, r5⟩ := HE.out j hj1 hjl
          have H1 : Hid (E (j + 1) = E j * 10 + bt s j - 48) := r5
          clear r5
          have t1 : (bt s j == 95) = false := by simp; omega
          generalize bt s j = c at *
          generalize E j = ej at *
          go_wp2
          go_round
          case rel => exact ⟨j + 1, by omega, by omega, by go_num, rfl, by rw [H1.out]⟩
          case measure => simp [intOf]; omega
        · obtain rfl : j = s.size := by omega
          obtain ⟨g1, g2⟩ := HEN.out
          have hm0 : (mk != 0) = true := by simpa using HM.out
          generalize hen : E s.size = en at *
          have HK3 : Hid (E s.size = en) := hen
          clear HM hj1 hj2 hjl hen
          go_wp2
          go_returns
          obtain ⟨y1, y2, y3⟩ := HK2.out
          exact ⟨by rw [y1, y2, y3, HK3.out], rfl⟩
end Go.Proofs.YtnljpbpphdhnpaaGreatDoor


