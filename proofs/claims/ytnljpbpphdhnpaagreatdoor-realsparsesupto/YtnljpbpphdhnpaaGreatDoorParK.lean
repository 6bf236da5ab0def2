/- The document's cut of a text of a real (ParI). -/
import Derived.Test.YtnljpbpphdhnpaaGreatDoorParL
import Derived.Deep.QuietTactic
import Derived.BigQuiet
import Derived.Test.YtnljpbpphdhnpaaGreatDoorParE
import Derived.Test.YtnljpbpphdhnpaaGreatDoorParG
import Derived.Test.YtnljpbpphdhnpaaGreatDoorParH

namespace Go.Proofs.YtnljpbpphdhnpaaGreatDoor
open Go.RowKit Go.PlainAid

set_option maxRecDepth 1000000 in
set_option maxHeartbeats 1000000 in
theorem parts_n5p (s : ByteArray) (a k0 : Nat) (p : Nat) (F : Nat → Int)  (w : World) (hs : s.size ≤ 1000000000) (ha : 0 < a) (hA : ∀ j, j < a → 48 ≤ bt s j ∧ bt s j ≤ 57) (hD : bt s a = 46) (hB : ∀ j, a + 1 ≤ j → j < k0 → 48 ≤ bt s j ∧ bt s j ≤ 57) (hk : a + 1 ≤ k0) (hk3 : a + 1 < k0) (h101 : Hid (bt s k0 = 101)) (h45 : Hid (bt s (k0 + 1) ≠ 45)) (hxp : k0 + 1 ≤ p) (hxs : k0 + 1 < s.size) (HC : Hid (∀ j, k0 + 1 ≤ j → j < p → 48 ≤ bt s j ∧ bt s j ≤ 57)) (F0 : Hid (F (k0 + 1) = 0)) (FS : Hid (∀ j, k0 + 1 ≤ j → j < p → F (j + 1) = min (10 * F j + (bt s j - 48)) 1099511627776)) (FB : Hid (∀ j, 0 ≤ F j ∧ F j ≤ 1099511627776)) (hp : p < s.size) (hn : Hid (¬ (48 ≤ bt s p ∧ bt s p ≤ 57))) :
    Calls Tryz.prog 33 #[.string s] w fun e w' => e = .returned (.tuple #[.string ⟨#[]⟩, .int .i64 0, .bool false]) ∧ ∃ n, w' = w.drewN n := by
  have HG : Hid (∀ i (h : i < s.size), ((s[i]'h).toNat : Int) = bt s i) := get_bt s
  have HA : Hid (∀ j, j < a → 48 ≤ bt s j ∧ bt s j ≤ 57) := hA
  have HB : Hid (∀ j, a + 1 ≤ j → j < k0 → 48 ≤ bt s j ∧ bt s j ≤ 57) := hB
  have HD : Hid (bt s a = 46) := hD
  clear hA hB hD
  go_enter Tryz.func33, Tryz.ntmps33
  go_wp2
  go_loop [5] (fun i => ∃ j : Nat, j ≤ a ∧ i = .int .i64 j) (fun i => a - (intOf i).toNat)
  case atStart => exact ⟨0, Nat.zero_le _, rfl⟩
  case round =>
    obtain ⟨j, hj, rfl⟩ := hrel
    by_cases hja : j < a
    · have hjs : j < s.size := by omega
      have hji : (j : Int) < (s.size : Int) := by omega
      have gj : ((s[j]'hjs).toNat : Int) = bt s j := HG.out j hjs
      obtain ⟨r1, r2⟩ := HA.out j hja
      generalize bt s j = c at *
      go_wp2
      go_round
      case rel => exact ⟨j + 1, by omega, by go_num⟩
      case measure => simp [intOf]; omega
    · obtain rfl : a = j := by omega
      clear hj hja
      have has : a < s.size := by omega
      have hai : (a : Int) < (s.size : Int) := by omega
      have ga : ((s[a]'has).toNat : Int) = 46 := (HG.out a has).trans HD.out
      have hane : ((a : Int) == 0) = false := by rw [beq_eq_false_iff_ne]; omega
      have hane2 : ((a : Int) == (s.size : Int)) = false := by rw [beq_eq_false_iff_ne]; omega
      go_wp2
      go_loop [6] (fun i => ∃ j : Nat, j ≤ k0 ∧ a + 1 ≤ j ∧ i = .int .i64 j) (fun i => k0 - (intOf i).toNat)
      case atStart => exact ⟨a + 1, by omega, Nat.le_refl _, by go_num⟩
      case round =>
        obtain ⟨j, hj, haj, rfl⟩ := hrel
        by_cases hja : j < k0
        · have hjs : j < s.size := by omega
          have hji : (j : Int) < (s.size : Int) := by omega
          have gj : ((s[j]'hjs).toNat : Int) = bt s j := HG.out j hjs
          obtain ⟨r1, r2⟩ := HB.out j haj hja
          generalize bt s j = c at *
          go_wp2
          go_round
          case rel => exact ⟨j + 1, by omega, by omega, by go_num⟩
          case measure => simp [intOf]; omega
        · obtain rfl : k0 = j := by omega
          clear hj hja haj
          have q1 : (a : Int) ≤ (s.size : Int) := by omega
          have q2 : (a : Int) + 1 ≤ (k0 : Int) := by omega
          have q3 : (k0 : Int) ≤ (s.size : Int) := by omega
          have q4 : ¬ (k0 : Int) = (a : Int) + 1 := by omega
          have q5 : ((k0 : Int) == (a : Int) + 1) = false := by rw [beq_eq_false_iff_ne]; exact q4
          have qk : k0 < s.size := by omega
          have qki : (k0 : Int) < (s.size : Int) := by omega
          have qkn : ((k0 : Int) == (s.size : Int)) = false := by rw [beq_eq_false_iff_ne]; omega
          have gk : ((s[k0]'qk).toNat : Int) = 101 := (HG.out k0 qk).trans h101.out
          clear h101
          have q6 : (k0 : Int) + 1 < (s.size : Int) := by omega
          have q6n : k0 + 1 < s.size := by omega
          have g1 : ((s[k0 + 1]'q6n).toNat : Int) = bt s (k0 + 1) := HG.out (k0 + 1) q6n
          have g2 : (bt s (k0 + 1) == 45) = false := by rw [beq_eq_false_iff_ne]; exact h45.out
          clear h45
          have q7 : ((k0 : Int) + 1 == (s.size : Int)) = false := by rw [beq_eq_false_iff_ne]; omega
          go_wp2_with fail
          go_quiet (fail)
          go_wp2
          go_loop [6, 9] (fun i n => ∃ j : Nat, k0 + 1 ≤ j ∧ j ≤ p ∧ i = .int .i64 j ∧ n = .int .i64 (F j)) (fun i _ => p - (intOf i).toNat)
          case atStart => exact ⟨k0 + 1, Nat.le_refl _, by omega, by go_num, by rw [F0.out]⟩
          case round =>
            obtain ⟨j, hxj, hj, rfl, rfl⟩ := hrel
            by_cases hjp : j < p
            · have hjs : j < s.size := by omega
              have hji : (j : Int) < (s.size : Int) := by omega
              have gj : ((s[j]'hjs).toNat : Int) = bt s j := HG.out j hjs
              obtain ⟨r1, r2⟩ := HC.out j hxj hjp
              obtain ⟨b1, b2⟩ := FB.out j
              have H1 : Hid (F (j + 1) = min (10 * F j + (bt s j - 48)) 1099511627776) := FS.out j hxj hjp
              generalize bt s j = c at *
              generalize F j = n at *
              go_wp2
              go_round
              case rel => exact ⟨j + 1, by omega, by omega, by go_num, by rw [H1.out]; simp only [Value.int.injEq, true_and]; omega⟩
              case measure => simp [intOf]; omega
            · obtain rfl : p = j := by omega
              clear hj hjp hxj
              obtain ⟨b1, b2⟩ := FB.out p
              clear FS F0 FB
              generalize F p = n at *
              have q8 : (p : Int) < (s.size : Int) := by omega
              have q8n : p < s.size := by omega
              have gp : ((s[p]'q8n).toNat : Int) = bt s p := HG.out p q8n
              have HN := hn.out
              clear hn
              generalize bt s p = c at *
              by_cases h48 : c < 48
              · clear HN
                go_wp2
                refine bodyPost_ret (v := .tuple #[.string ⟨#[]⟩, .int .i64 0, .bool false]) (by simp [results, Tryz.results33, go_sem]) rfl ⟨rfl, _, rfl⟩
              · have h57 : 57 < c := by omega
                clear HN
                go_wp2
                refine bodyPost_ret (v := .tuple #[.string ⟨#[]⟩, .int .i64 0, .bool false]) (by simp [results, Tryz.results33, go_sem]) rfl ⟨rfl, _, rfl⟩
set_option maxRecDepth 1000000 in
set_option maxHeartbeats 1000000 in
theorem parts_n5m (s : ByteArray) (a k0 : Nat) (p : Nat) (F : Nat → Int)  (w : World) (hs : s.size ≤ 1000000000) (ha : 0 < a) (hA : ∀ j, j < a → 48 ≤ bt s j ∧ bt s j ≤ 57) (hD : bt s a = 46) (hB : ∀ j, a + 1 ≤ j → j < k0 → 48 ≤ bt s j ∧ bt s j ≤ 57) (hk : a + 1 ≤ k0) (hk3 : a + 1 < k0) (h101 : Hid (bt s k0 = 101)) (h45 : Hid (bt s (k0 + 1) = 45)) (hxp : k0 + 2 ≤ p) (hxs : k0 + 2 < s.size) (HC : Hid (∀ j, k0 + 2 ≤ j → j < p → 48 ≤ bt s j ∧ bt s j ≤ 57)) (F0 : Hid (F (k0 + 2) = 0)) (FS : Hid (∀ j, k0 + 2 ≤ j → j < p → F (j + 1) = min (10 * F j + (bt s j - 48)) 1099511627776)) (FB : Hid (∀ j, 0 ≤ F j ∧ F j ≤ 1099511627776)) (hp : p < s.size) (hn : Hid (¬ (48 ≤ bt s p ∧ bt s p ≤ 57))) :
    Calls Tryz.prog 33 #[.string s] w fun e w' => e = .returned (.tuple #[.string ⟨#[]⟩, .int .i64 0, .bool false]) ∧ ∃ n, w' = w.drewN n := by
  have HG : Hid (∀ i (h : i < s.size), ((s[i]'h).toNat : Int) = bt s i) := get_bt s
  have HA : Hid (∀ j, j < a → 48 ≤ bt s j ∧ bt s j ≤ 57) := hA
  have HB : Hid (∀ j, a + 1 ≤ j → j < k0 → 48 ≤ bt s j ∧ bt s j ≤ 57) := hB
  have HD : Hid (bt s a = 46) := hD
  clear hA hB hD
  go_enter Tryz.func33, Tryz.ntmps33
  go_wp2
  go_loop [5] (fun i => ∃ j : Nat, j ≤ a ∧ i = .int .i64 j) (fun i => a - (intOf i).toNat)
  case atStart => exact ⟨0, Nat.zero_le _, rfl⟩
  case round =>
    obtain ⟨j, hj, rfl⟩ := hrel
    by_cases hja : j < a
    · have hjs : j < s.size := by omega
      have hji : (j : Int) < (s.size : Int) := by omega
      have gj : ((s[j]'hjs).toNat : Int) = bt s j := HG.out j hjs
      obtain ⟨r1, r2⟩ := HA.out j hja
      generalize bt s j = c at *
      go_wp2
      go_round
      case rel => exact ⟨j + 1, by omega, by go_num⟩
      case measure => simp [intOf]; omega
    · obtain rfl : a = j := by omega
      clear hj hja
      have has : a < s.size := by omega
      have hai : (a : Int) < (s.size : Int) := by omega
      have ga : ((s[a]'has).toNat : Int) = 46 := (HG.out a has).trans HD.out
      have hane : ((a : Int) == 0) = false := by rw [beq_eq_false_iff_ne]; omega
      have hane2 : ((a : Int) == (s.size : Int)) = false := by rw [beq_eq_false_iff_ne]; omega
      go_wp2
      go_loop [6] (fun i => ∃ j : Nat, j ≤ k0 ∧ a + 1 ≤ j ∧ i = .int .i64 j) (fun i => k0 - (intOf i).toNat)
      case atStart => exact ⟨a + 1, by omega, Nat.le_refl _, by go_num⟩
      case round =>
        obtain ⟨j, hj, haj, rfl⟩ := hrel
        by_cases hja : j < k0
        · have hjs : j < s.size := by omega
          have hji : (j : Int) < (s.size : Int) := by omega
          have gj : ((s[j]'hjs).toNat : Int) = bt s j := HG.out j hjs
          obtain ⟨r1, r2⟩ := HB.out j haj hja
          generalize bt s j = c at *
          go_wp2
          go_round
          case rel => exact ⟨j + 1, by omega, by omega, by go_num⟩
          case measure => simp [intOf]; omega
        · obtain rfl : k0 = j := by omega
          clear hj hja haj
          have q1 : (a : Int) ≤ (s.size : Int) := by omega
          have q2 : (a : Int) + 1 ≤ (k0 : Int) := by omega
          have q3 : (k0 : Int) ≤ (s.size : Int) := by omega
          have q4 : ¬ (k0 : Int) = (a : Int) + 1 := by omega
          have q5 : ((k0 : Int) == (a : Int) + 1) = false := by rw [beq_eq_false_iff_ne]; exact q4
          have qk : k0 < s.size := by omega
          have qki : (k0 : Int) < (s.size : Int) := by omega
          have qkn : ((k0 : Int) == (s.size : Int)) = false := by rw [beq_eq_false_iff_ne]; omega
          have gk : ((s[k0]'qk).toNat : Int) = 101 := (HG.out k0 qk).trans h101.out
          clear h101
          have q6 : (k0 : Int) + 1 < (s.size : Int) := by omega
          have q6n : k0 + 1 < s.size := by omega
          have g1 : ((s[k0 + 1]'q6n).toNat : Int) = 45 := (HG.out (k0 + 1) q6n).trans h45.out
          clear h45
          have q7 : ((k0 : Int) + 1 + 1 == (s.size : Int)) = false := by rw [beq_eq_false_iff_ne]; omega
          go_wp2_with fail
          go_quiet (fail)
          go_wp2
          go_loop [6, 9] (fun i n => ∃ j : Nat, k0 + 2 ≤ j ∧ j ≤ p ∧ i = .int .i64 j ∧ n = .int .i64 (F j)) (fun i _ => p - (intOf i).toNat)
          case atStart => exact ⟨k0 + 2, Nat.le_refl _, by omega, by go_num, by rw [F0.out]⟩
          case round =>
            obtain ⟨j, hxj, hj, rfl, rfl⟩ := hrel
            by_cases hjp : j < p
            · have hjs : j < s.size := by omega
              have hji : (j : Int) < (s.size : Int) := by omega
              have gj : ((s[j]'hjs).toNat : Int) = bt s j := HG.out j hjs
              obtain ⟨r1, r2⟩ := HC.out j hxj hjp
              obtain ⟨b1, b2⟩ := FB.out j
              have H1 : Hid (F (j + 1) = min (10 * F j + (bt s j - 48)) 1099511627776) := FS.out j hxj hjp
              generalize bt s j = c at *
              generalize F j = n at *
              go_wp2
              go_round
              case rel => exact ⟨j + 1, by omega, by omega, by go_num, by rw [H1.out]; simp only [Value.int.injEq, true_and]; omega⟩
              case measure => simp [intOf]; omega
            · obtain rfl : p = j := by omega
              clear hj hjp hxj
              obtain ⟨b1, b2⟩ := FB.out p
              clear FS F0 FB
              generalize F p = n at *
              have q8 : (p : Int) < (s.size : Int) := by omega
              have q8n : p < s.size := by omega
              have gp : ((s[p]'q8n).toNat : Int) = bt s p := HG.out p q8n
              have HN := hn.out
              clear hn
              generalize bt s p = c at *
              by_cases h48 : c < 48
              · clear HN
                go_wp2
                refine bodyPost_ret (v := .tuple #[.string ⟨#[]⟩, .int .i64 0, .bool false]) (by simp [results, Tryz.results33, go_sem]) rfl ⟨rfl, _, rfl⟩
              · have h57 : 57 < c := by omega
                clear HN
                go_wp2
                refine bodyPost_ret (v := .tuple #[.string ⟨#[]⟩, .int .i64 0, .bool false]) (by simp [results, Tryz.results33, go_sem]) rfl ⟨rfl, _, rfl⟩
end Go.Proofs.YtnljpbpphdhnpaaGreatDoor

/- The document's parts of any text. -/
namespace Go.Proofs.YtnljpbpphdhnpaaGreatDoor
open Go.RowKit Go.PlainAid

def partsNo (l : List UInt8) (w : World) : Prop := Calls Tryz.prog 33 #[.string (bl l)] w fun e w' => e = .returned (.tuple #[.string ⟨#[]⟩, .int .i64 0, .bool false]) ∧ ∃ n, w' = w.drewN n
theorem pos_of (l : List UInt8) (h : l ≠ []) : 0 < l.length := List.length_pos_iff.2 h
theorem no_45 (X r : List UInt8) (A : List UInt8) (k : Nat) (hk : A.length = k) (c : UInt8) (t : List UInt8) (h : X ++ r = c :: t) (hc : c ≠ 45) : bt (bl (A ++ (X ++ r))) k ≠ 45 := by
  subst hk
  rw [h, bt_at]
  intro e
  exact hc (UInt8.toNat_inj.1 (by show c.toNat = 45; omega))
theorem tail_fact (W P t : List UInt8) : W ++ 46 :: (P ++ 101 :: t) = (W ++ 46 :: (P ++ [101])) ++ t ∧ (W ++ 46 :: (P ++ [101])).length = W.length + 1 + P.length + 1 := by
  constructor
  · simp
  · simp; omega
theorem tail_fact2 (W P t : List UInt8) : W ++ 46 :: (P ++ 101 :: 45 :: t) = (W ++ 46 :: (P ++ [101, 45])) ++ t ∧ (W ++ 46 :: (P ++ [101, 45])).length = W.length + 1 + P.length + 2 := by
  constructor
  · simp
  · simp; omega
theorem bt_101 (W P t : List UInt8) : bt (bl (W ++ 46 :: (P ++ 101 :: t))) (W.length + 1 + P.length) = 101 := by
  have e : W ++ 46 :: (P ++ 101 :: t) = (W ++ 46 :: P) ++ 101 :: t := by simp
  have := bt_at (W ++ 46 :: P) 101 t
  rw [e]
  rw [show (W ++ 46 :: P).length = W.length + 1 + P.length by simp; omega] at this
  exact this
theorem bt_45 (W P t : List UInt8) : bt (bl (W ++ 46 :: (P ++ 101 :: 45 :: t))) (W.length + 1 + P.length + 1) = 45 := by
  have := bt_at (W ++ 46 :: (P ++ [101])) 45 t
  rw [← (tail_fact W P (45 :: t)).1, (tail_fact W P t).2] at this
  exact this
theorem size_e (W P t : List UInt8) : (bl (W ++ 46 :: (P ++ 101 :: t))).size = W.length + 1 + P.length + 1 + t.length := by
  rw [bl_size]; simp; omega
/-- the document's parts of a text that is none -/
theorem parts_no (l : List UInt8) (hl : l.length ≤ 1000000000) (h : okL l = false) (w : World) : partsNo l w := by
  obtain ⟨A, r, rfl, hA, hr⟩ := spanD l
  unfold partsNo
  rcases hr with rfl | ⟨c, r1, rfl, hc⟩
  · rw [List.append_nil] at hl ⊢
    by_cases hA0 : A = []
    · subst hA0; exact parts_empty w
    · refine parts_n1a (bl A) A.length w (by rw [bl_size]; exact hl) (by rw [bl_size]; exact Nat.le_refl _) (fun j hj => ?_) (bl_size A).symm (pos_of A hA0)
      have := bt_left A [] hA j hj
      rwa [List.append_nil] at this
  by_cases hA0 : A = []
  · subst hA0
    rw [List.nil_append] at hl ⊢
    refine parts_n1z (bl (c :: r1)) w (by rw [bl_size]; exact hl) (by rw [bl_size]; simp) ?_
    rw [bt_head]
    omega
  have hAp := pos_of A hA0
  have hlA : (A ++ c :: r1).length = A.length + 1 + r1.length := by simp; omega
  by_cases hc46 : c = 46
  · subst hc46
    obtain ⟨B, r2, rfl, hB, hr2⟩ := spanD r1
    obtain ⟨s1, s2, s3, s4⟩ := sh A B r2 hA hB
    clear hlA
    by_cases hB0 : B = []
    · subst hB0
      simp only [List.nil_append, List.length_nil] at *
      rcases hr2 with rfl | ⟨d, r3, rfl, hd⟩
      · exact parts_n2a _ A.length w (by rw [bl_size]; exact hl) hAp s2 s1 (by rw [bl_size]; simp)
      · refine parts_n2b _ A.length w (by rw [bl_size]; exact hl) hAp s2 s1 (by rw [bl_size]; simp) ?_
        have e := bt_at (A ++ [46]) d r3
        rw [shape_len, List.append_assoc, List.singleton_append] at e
        show ¬ _
        rw [e]
        omega
    have hBp := pos_of B hB0
    rcases hr2 with rfl | ⟨d, r3, rfl, hd⟩
    · exfalso
      rw [List.append_nil, ok_0 A B hA hA0 hB hB0] at h
      cases h
    have hlen : (bl (A ++ 46 :: (B ++ d :: r3))).size = A.length + 1 + B.length + 1 + r3.length := by rw [bl_size]; simp; omega
    have hs : (bl (A ++ 46 :: (B ++ d :: r3))).size ≤ 1000000000 := by rw [bl_size]; exact hl
    have hat : bt (bl (A ++ 46 :: (B ++ d :: r3))) (A.length + 1 + B.length) = (d.toNat : Int) := by
      have := bt_at (A ++ 46 :: B) d r3
      rw [show A ++ 46 :: (B ++ d :: r3) = (A ++ 46 :: B) ++ d :: r3 by simp]
      rw [show (A ++ 46 :: B).length = A.length + 1 + B.length by simp; omega] at this
      exact this
    by_cases hd101 : d = 101
    · subst hd101
      by_cases hr30 : r3 = []
      · subst hr30
        exact parts_n4a _ A.length (A.length + 1 + B.length) w hs hAp s1 s2 s3 (by omega) (by omega) (by omega) (bt_101 A B []) (by rw [hlen]; simp)
      by_cases hm : minL r3 = true
      · have e3 := min_form r3 hm
        rw [e3] at hlen hs s1 s2 s3 h ⊢
        generalize offL r3 = r4 at *
        by_cases hr4 : r4 = []
        · subst hr4
          exact parts_n4b _ A.length (A.length + 1 + B.length) w hs hAp s1 s2 s3 (by omega) (by omega) (by omega) (bt_101 A B _) (by rw [hlen]; simp) (bt_45 A B [])
        obtain ⟨X, r5, rfl, hX, hr5⟩ := spanD r4
        rcases hr5 with rfl | ⟨x, r6, rfl, hx⟩
        · exfalso
          rw [List.append_nil] at h hr4
          rw [ok_e A B (45 :: X) hA hA0 hB hB0 (by rw [(off_min X).2]; exact hX) (by rw [(off_min X).2]; exact hr4)] at h
          cases h
        · obtain ⟨f1, f2⟩ := tail_fact2 A B (X ++ x :: r6)
          have hlen2 : (bl (A ++ 46 :: (B ++ 101 :: 45 :: (X ++ x :: r6)))).size = A.length + 1 + B.length + 2 + X.length + 1 + r6.length := by rw [hlen]; simp; omega
          refine parts_n5m _ A.length (A.length + 1 + B.length) (A.length + 1 + B.length + 2 + X.length) (fun j => satL (X.take (j - (A.length + 1 + B.length + 2)))) w hs hAp s1 s2 s3 (by omega) (by omega) (bt_101 A B _) (bt_45 A B _) (by omega) (by omega) ?_ ?_ ?_ (fun j => sat_bound X hX _) (by omega) ?_
          · intro j h1 h2
            rw [f1]
            exact bt_mid _ X _ hX j (by omega) (by omega)
          · show satL _ = 0
            rw [Nat.sub_self]; rfl
          · intro j h1 h2
            rw [f1]
            exact sat_step _ X _ _ j f2 h1 h2
          · show ¬ _
            have := bt_at (A ++ 46 :: (B ++ [101, 45]) ++ X) x r6
            rw [List.length_append, f2, List.append_assoc, ← f1] at this
            rw [this]
            omega
      · have hm2 : minL r3 = false := by simpa using hm
        have h45 : bt (bl (A ++ 46 :: (B ++ 101 :: r3))) (A.length + 1 + B.length + 1) ≠ 45 := by
          cases r3 with
          | nil => exact absurd rfl hr30
          | cons y r3 =>
            have hy : y ≠ 45 := by unfold minL at hm2; simpa using hm2
            obtain ⟨f1, f2⟩ := tail_fact A B (y :: r3)
            rw [f1]
            exact no_45 [] (y :: r3) _ _ f2 y r3 rfl hy
        have hofs : offL r3 = r3 := by unfold offL; rw [hm2]; simp
        obtain ⟨X, r5, rfl, hX, hr5⟩ := spanD r3
        rcases hr5 with rfl | ⟨x, r6, rfl, hx⟩
        · exfalso
          rw [List.append_nil] at h hr30 hofs
          rw [ok_e A B X hA hA0 hB hB0 (by rw [hofs]; exact hX) (by rw [hofs]; exact hr30)] at h
          cases h
        · obtain ⟨f1, f2⟩ := tail_fact A B (X ++ x :: r6)
          have hlen2 : (bl (A ++ 46 :: (B ++ 101 :: (X ++ x :: r6)))).size = A.length + 1 + B.length + 1 + X.length + 1 + r6.length := by rw [hlen]; simp; omega
          refine parts_n5p _ A.length (A.length + 1 + B.length) (A.length + 1 + B.length + 1 + X.length) (fun j => satL (X.take (j - (A.length + 1 + B.length + 1)))) w hs hAp s1 s2 s3 (by omega) (by omega) (bt_101 A B _) h45 (by omega) (by omega) ?_ ?_ ?_ (fun j => sat_bound X hX _) (by omega) ?_
          · intro j h1 h2
            rw [f1]
            exact bt_mid _ X _ hX j (by omega) (by omega)
          · show satL _ = 0
            rw [Nat.sub_self]; rfl
          · intro j h1 h2
            rw [f1]
            exact sat_step _ X _ _ j f2 h1 h2
          · show ¬ _
            have := bt_at (A ++ 46 :: (B ++ [101]) ++ X) x r6
            rw [List.length_append, f2, List.append_assoc, ← f1] at this
            rw [this]
            omega
    · refine parts_n3 _ A.length (A.length + 1 + B.length) w hs hAp s1 s2 s3 (by omega) (by omega) (by omega) (by omega) ?_ ?_
      · show ¬ _
        rw [hat]; omega
      · show _ ≠ _
        rw [hat]
        intro e
        exact hd101 (UInt8.toNat_inj.1 (by show d.toNat = 101; omega))
  · refine parts_n1b _ A.length w (by rw [bl_size]; exact hl) (fun j hj => bt_left A _ hA j hj) hAp (by rw [bl_size, hlA]; omega) ?_ ?_
    · show ¬ _
      rw [bt_at]; omega
    · show _ ≠ _
      rw [bt_at]
      intro e
      exact hc46 (UInt8.toNat_inj.1 (by show c.toNat = 46; omega))
/-- of a text that is one -/
theorem parts_yes (l : List UInt8) (hl : l.length ≤ 1000000000) (h : okL l = true) (w : World) : Calls Tryz.prog 33 #[.string (bl l)] w fun e w' => e = .returned (.tuple #[.string (bl (WL l ++ PL l)), .int .i64 (eL l), .bool true]) ∧ ∃ n, w' = w.drewN n := by
  obtain ⟨hW, hW0, hP, hP0, hf⟩ := okL_form l h
  have hWp := pos_of _ hW0
  have hPp := pos_of _ hP0
  rcases hf with ⟨hn, hf⟩ | ⟨_, hX, hX0, ⟨hm, hf⟩ | ⟨hm, hf⟩⟩
  · have he : eL l = (((WL l).length : Nat) : Int) + 1 - (((WL l).length + 1 + (PL l).length : Nat) : Int) := by
      unfold eL XL
      rw [(hd_none l 101 hn).2]
      have : satL (offL []) = 0 := rfl
      rw [this]
      simp
      omega
    rw [he]
    generalize WL l = W at *
    generalize PL l = P at *
    subst hf
    obtain ⟨s1, s2, s3, s4⟩ := sh W P [] hW hP
    rw [List.append_nil] at s1 s2 s3 s4
    have hlen : (W ++ 46 :: P).length = W.length + 1 + P.length := by simp; omega
    rw [← s4]
    exact parts_ok0 _ W.length (W.length + 1 + P.length) w (by rw [bl_size]; exact hl) hWp s1 s2 s3 (by omega) (by omega) (by rw [bl_size, hlen])
  · have hXp := pos_of _ hX0
    have he : eL l = satL (XL l) - ((((WL l).length + 1 + (PL l).length : Nat) : Int) - (((WL l).length : Nat) : Int) - 1) := by
      unfold eL
      rw [hm, if_neg (by decide)]
      omega
    rw [he]
    generalize WL l = W at *
    generalize PL l = P at *
    generalize XL l = X at *
    subst hf
    obtain ⟨s1, s2, s3, s4⟩ := sh W P (101 :: X) hW hP
    rw [← s4]
    have hlen := size_e W P X
    obtain ⟨f1, f2⟩ := tail_fact W P (X ++ [])
    rw [List.append_nil] at f1
    refine parts_okp _ W.length (W.length + 1 + P.length) (W.length + 1 + P.length + 1 + X.length) (fun j => satL (X.take (j - (W.length + 1 + P.length + 1)))) _ w (by rw [bl_size]; exact hl) hWp s1 s2 s3 (by omega) (by omega) (bt_101 W P X) ?_ (by omega) (by omega) ?_ ?_ ?_ (fun j => sat_bound X hX _) ?_ hlen.symm
    · show _ ≠ _
      have := bt_left X [] hX 0 hXp
      have h2 := bt_right (W ++ 46 :: (P ++ [101])) X 0
      rw [f2, ← f1, Nat.add_zero] at h2
      rw [List.append_nil] at this
      omega
    · intro j h1 h2
      rw [f1]
      have := bt_mid (W ++ 46 :: (P ++ [101])) X [] hX j (by omega) (by omega)
      rwa [List.append_nil] at this
    · show satL _ = 0
      rw [Nat.sub_self]; rfl
    · intro j h1 h2
      have := sat_step (W ++ 46 :: (P ++ [101])) X [] _ j f2 h1 h2
      rw [List.append_nil, ← f1] at this
      exact this
    · show satL _ = _
      rw [show W.length + 1 + P.length + 1 + X.length - (W.length + 1 + P.length + 1) = X.length by omega, List.take_length]
  · have hXp := pos_of _ hX0
    have he : eL l = -satL (XL l) - ((((WL l).length + 1 + (PL l).length : Nat) : Int) - (((WL l).length : Nat) : Int) - 1) := by
      unfold eL
      rw [hm, if_pos rfl]
      omega
    rw [he]
    generalize WL l = W at *
    generalize PL l = P at *
    generalize XL l = X at *
    subst hf
    obtain ⟨s1, s2, s3, s4⟩ := sh W P (101 :: 45 :: X) hW hP
    rw [← s4]
    have hlen := size_e W P (45 :: X)
    rw [List.length_cons] at hlen
    obtain ⟨f1, f2⟩ := tail_fact2 W P (X ++ [])
    rw [List.append_nil] at f1
    refine parts_okm _ W.length (W.length + 1 + P.length) (W.length + 1 + P.length + 2 + X.length) (fun j => satL (X.take (j - (W.length + 1 + P.length + 2)))) _ w (by rw [bl_size]; exact hl) hWp s1 s2 s3 (by omega) (by omega) (bt_101 W P _) (bt_45 W P X) (by omega) (by omega) ?_ ?_ ?_ (fun j => sat_bound X hX _) ?_ (by omega)
    · intro j h1 h2
      rw [f1]
      have := bt_mid (W ++ 46 :: (P ++ [101, 45])) X [] hX j (by omega) (by omega)
      rwa [List.append_nil] at this
    · show satL _ = 0
      rw [Nat.sub_self]; rfl
    · intro j h1 h2
      have := sat_step (W ++ 46 :: (P ++ [101, 45])) X [] _ j f2 h1 h2
      rw [List.append_nil, ← f1] at this
      exact this
    · show satL _ = _
      rw [show W.length + 1 + P.length + 2 + X.length - (W.length + 1 + P.length + 2) = X.length by omega, List.take_length]
end Go.Proofs.YtnljpbpphdhnpaaGreatDoor
