/- The document's Parse, its ways. -/
import Derived.Test.YtnljpbpphdhnpaaGreatDoorParE
import Derived.Test.YtnljpbpphdhnpaaGreatDoorParK
import Derived.Test.YtnljpbpphdhnpaaGreatDoorUzS
import Derived.Test.YtnljpbpphdhnpaaGreatDoorParL
import Derived.Test.YtnljpbpphdhnpaaGreatDoorRlA

namespace Go.Proofs.YtnljpbpphdhnpaaGreatDoor
open Go.RowKit Go.PlainAid

set_option maxRecDepth 1000000 in
theorem pr_inf_false (s : ByteArray) (w : World) (t1 : (s.toList == [110, 97, 110]) = false) (t2 : (s.toList == [105, 110, 102]) = true) :
    Calls Tryz.prog 10 #[.string s] w fun e w' => e = .returned (.tuple #[.float .f32 2139095040, .int .i64 0]) ∧ w' = w := by
  have hF := float_over false 2139095040 (Nat.le_refl _)
  rw [show ((2139095040 : Nat) : Int) = 2139095040 from rfl] at hF
  simp only [Bool.false_eq_true, if_false] at hF
  go_enter Tryz.func10, Tryz.ntmps10
  go_wp2_with fail
  refine (hF _).mono ?_
  rintro e9 w9 ⟨rfl, hw9⟩
  obtain rfl := hw9.symm
  clear hw9
  go_wp2
  refine bodyPost_ret (v := .tuple #[.float .f32 2139095040, .int .i64 0]) (by simp [results, Tryz.results10, go_sem]) rfl ⟨rfl, rfl⟩
set_option maxRecDepth 1000000 in
set_option maxHeartbeats 1600000 in
theorem pr_no_false (s b all : ByteArray) (E : Int) (w : World) (t1 : (s.toList == [110, 97, 110]) = false) (t2 : (s.toList == [105, 110, 102]) = false) (t3 : (s.toList == [45, 105, 110, 102]) = false) (h0 : 0 < s.size) (g0 : bt s 0 ≠ 45) (hb : s = b) (h33 : ∀ w, Calls Tryz.prog 33 #[.string b] w fun e w' => e = .returned (.tuple #[.string all, .int .i64 E, .bool false]) ∧ ∃ n, w' = w.drewN n) :
    Calls Tryz.prog 10 #[.string s] w fun e w' => e = .returned (.tuple #[.float .f32 0, .int .i64 30]) ∧ Keep [] w w' := by
  have h0i : (0 : Int) < (s.size : Int) := by omega
  have gs : ((s[0]'h0).toNat : Int) = bt s 0 := get_bt s 0 h0
  have g45 : (bt s 0 == 45) = false := by rw [beq_eq_false_iff_ne]; exact g0
  clear g0
  generalize bt s 0 = c at *
  subst hb
  go_enter Tryz.func10, Tryz.ntmps10
  go_wp2_with fail
  refine (h33 _).mono ?_
  rintro e9 w9 ⟨rfl, n9, hw9⟩
  have K9 : Hid (Keep [] w w9) := show Keep [] w w9 by rw [hw9]; exact (Keep.refl [] w).drewN n9
  clear hw9
  go_wp2
  refine bodyPost_ret (v := .tuple #[.float .f32 0, .int .i64 30]) (by simp [results, Tryz.results10, go_sem]) rfl ⟨rfl, K9.out⟩
set_option maxRecDepth 1000000 in
set_option maxHeartbeats 1600000 in
theorem pr_over_false (s b all : ByteArray) (E : Int) (w : World) (t1 : (s.toList == [110, 97, 110]) = false) (t2 : (s.toList == [105, 110, 102]) = false) (t3 : (s.toList == [45, 105, 110, 102]) = false) (h0 : 0 < s.size) (g0 : bt s 0 ≠ 45) (hb : s = b) (h33 : ∀ w, Calls Tryz.prog 33 #[.string b] w fun e w' => e = .returned (.tuple #[.string all, .int .i64 E, .bool true]) ∧ ∃ n, w' = w.drewN n) (h34 : ∀ w, Calls Tryz.prog 34 #[.string all, .int .i64 E] w fun r w' => r = .returned (.tuple #[.agg #[.slice none 0 0, .slice none 0 0], .bool false]) ∧ Keep [] w w') :
    Calls Tryz.prog 10 #[.string s] w fun e w' => e = .returned (.tuple #[.float .f32 0, .int .i64 30]) ∧ Keep [] w w' := by
  have h0i : (0 : Int) < (s.size : Int) := by omega
  have gs : ((s[0]'h0).toNat : Int) = bt s 0 := get_bt s 0 h0
  have g45 : (bt s 0 == 45) = false := by rw [beq_eq_false_iff_ne]; exact g0
  clear g0
  generalize bt s 0 = c at *
  subst hb
  go_enter Tryz.func10, Tryz.ntmps10
  go_wp2_with fail
  refine (h33 _).mono ?_
  rintro e9 w9 ⟨rfl, n9, hw9⟩
  have K9 : Hid (Keep [] w w9) := show Keep [] w w9 by rw [hw9]; exact (Keep.refl [] w).drewN n9
  clear hw9
  go_wp2_with fail
  refine (h34 _).mono ?_
  rintro e9 w8 ⟨rfl, hk8⟩
  have K8 : Hid (Keep [] w (w8.alloc (Obj.cells #[.slice none 0 0, .slice none 0 0] 57))) := (K9.out.trans' hk8).alloc _
  clear hk8
  go_wp2
  refine bodyPost_ret (v := .tuple #[.float .f32 0, .int .i64 30]) (by simp [results, Tryz.results10, go_sem]) rfl ⟨rfl, K8.out⟩
set_option maxRecDepth 1000000 in
set_option maxHeartbeats 1600000 in
theorem pr_near_no_false (A B N : Nat) (s b all : ByteArray) (E : Int) (w : World) (t1 : (s.toList == [110, 97, 110]) = false) (t2 : (s.toList == [105, 110, 102]) = false) (t3 : (s.toList == [45, 105, 110, 102]) = false) (h0 : 0 < s.size) (g0 : bt s 0 ≠ 45) (hb : s = b) (h33 : ∀ w, Calls Tryz.prog 33 #[.string b] w fun e w' => e = .returned (.tuple #[.string all, .int .i64 E, .bool true]) ∧ ∃ n, w' = w.drewN n) (h34 : ∀ w, Calls Tryz.prog 34 #[.string all, .int .i64 E] w fun r w' => (∃ va vb, r = .returned (.tuple #[.agg #[va, vb], .bool true]) ∧ (Big w' va A 1000 ∧ Big w' vb B 1000)) ∧ Keep [] w w') (hB : 0 < B) (hN0 : nrst A B = N) (hN : N = 2139095040) :
    Calls Tryz.prog 10 #[.string s] w fun e w' => e = .returned (.tuple #[.float .f32 0, .int .i64 30]) ∧ Keep [] w w' := by
  have h0i : (0 : Int) < (s.size : Int) := by omega
  have gs : ((s[0]'h0).toNat : Int) = bt s 0 := get_bt s 0 h0
  have g45 : (bt s 0 == 45) = false := by rw [beq_eq_false_iff_ne]; exact g0
  clear g0
  generalize bt s 0 = c at *
  subst hb
  go_enter Tryz.func10, Tryz.ntmps10
  go_wp2_with fail
  refine (h33 _).mono ?_
  rintro e9 w9 ⟨rfl, n9, hw9⟩
  have K9 : Hid (Keep [] w w9) := show Keep [] w w9 by rw [hw9]; exact (Keep.refl [] w).drewN n9
  clear hw9
  go_wp2_with fail
  refine (h34 _).mono ?_
  rintro e9 w8 ⟨⟨va, vb, rfl, hva, hvb⟩, hk8⟩
  have K8 : Hid (Keep [] w (w8.alloc (Obj.cells #[va, vb] 57))) := (K9.out.trans' hk8).alloc _
  have hA8 := nearest_any va vb A B 1000 1000 (w8.alloc (Obj.cells #[va, vb] 57)) (hva.keep (Keep.alloc1 w8 _) (Off.nil _)) (hvb.keep (Keep.alloc1 w8 _) (Off.nil _)) (by decide) (by decide)
  obtain ⟨ao, na, ca, rfl⟩ := hva.sl
  obtain ⟨bo, nb, cb, rfl⟩ := hvb.sl
  clear hk8 hva hvb
  go_wp2_with fail
  refine hA8.mono ?_
  rintro e9 w7 ⟨n, hn, rfl, hk7⟩
  rw [(nrst_of A B n hB hn).trans hN0]
  have K7 : Hid (Keep [] w w7) := K8.out.trans' hk7
  clear hk7 hn hA8
  subst hN
  go_wp2
  refine bodyPost_ret (v := .tuple #[.float .f32 0, .int .i64 30]) (by simp [results, Tryz.results10, go_sem]) rfl ⟨rfl, K7.out⟩
set_option maxRecDepth 1000000 in
set_option maxHeartbeats 1600000 in
theorem pr_near_yes_false (A B N : Nat) (s b all : ByteArray) (E : Int) (w : World) (t1 : (s.toList == [110, 97, 110]) = false) (t2 : (s.toList == [105, 110, 102]) = false) (t3 : (s.toList == [45, 105, 110, 102]) = false) (h0 : 0 < s.size) (g0 : bt s 0 ≠ 45) (hb : s = b) (h33 : ∀ w, Calls Tryz.prog 33 #[.string b] w fun e w' => e = .returned (.tuple #[.string all, .int .i64 E, .bool true]) ∧ ∃ n, w' = w.drewN n) (h34 : ∀ w, Calls Tryz.prog 34 #[.string all, .int .i64 E] w fun r w' => (∃ va vb, r = .returned (.tuple #[.agg #[va, vb], .bool true]) ∧ (Big w' va A 1000 ∧ Big w' vb B 1000)) ∧ Keep [] w w') (hB : 0 < B) (hN0 : nrst A B = N) (hN : N < 2139095040) :
    Calls Tryz.prog 10 #[.string s] w fun e w' => e = .returned (.tuple #[.float .f32 N, .int .i64 0]) ∧ Keep [] w w' := by
  have h0i : (0 : Int) < (s.size : Int) := by omega
  have gs : ((s[0]'h0).toNat : Int) = bt s 0 := get_bt s 0 h0
  have g45 : (bt s 0 == 45) = false := by rw [beq_eq_false_iff_ne]; exact g0
  clear g0
  generalize bt s 0 = c at *
  subst hb
  go_enter Tryz.func10, Tryz.ntmps10
  go_wp2_with fail
  refine (h33 _).mono ?_
  rintro e9 w9 ⟨rfl, n9, hw9⟩
  have K9 : Hid (Keep [] w w9) := show Keep [] w w9 by rw [hw9]; exact (Keep.refl [] w).drewN n9
  clear hw9
  go_wp2_with fail
  refine (h34 _).mono ?_
  rintro e9 w8 ⟨⟨va, vb, rfl, hva, hvb⟩, hk8⟩
  have K8 : Hid (Keep [] w (w8.alloc (Obj.cells #[va, vb] 57))) := (K9.out.trans' hk8).alloc _
  have hA8 := nearest_any va vb A B 1000 1000 (w8.alloc (Obj.cells #[va, vb] 57)) (hva.keep (Keep.alloc1 w8 _) (Off.nil _)) (hvb.keep (Keep.alloc1 w8 _) (Off.nil _)) (by decide) (by decide)
  obtain ⟨ao, na, ca, rfl⟩ := hva.sl
  obtain ⟨bo, nb, cb, rfl⟩ := hvb.sl
  clear hk8 hva hvb
  go_wp2_with fail
  refine hA8.mono ?_
  rintro e9 w7 ⟨n, hn, rfl, hk7⟩
  rw [(nrst_of A B n hB hn).trans hN0]
  have K7 : Hid (Keep [] w w7) := K8.out.trans' hk7
  clear hk7 hn hA8
  have hF := float_any false N (by omega) w7
  simp only [Bool.false_eq_true, if_false] at hF
  have hNb : ((N : Int) == 2139095040) = false := by rw [beq_eq_false_iff_ne]; omega
  go_wp2_with fail
  refine hF.mono ?_
  rintro e9 w6 ⟨rfl, hw6⟩
  obtain rfl := hw6.symm
  clear hw6
  go_wp2
  refine bodyPost_ret (v := .tuple #[.float .f32 N, .int .i64 0]) (by simp [results, Tryz.results10, go_sem]) rfl ⟨rfl, K7.out⟩
set_option maxRecDepth 1000000 in
theorem pr_inf_true (s : ByteArray) (w : World) (t1 : (s.toList == [110, 97, 110]) = false) (t2 : (s.toList == [105, 110, 102]) = false) (t3 : (s.toList == [45, 105, 110, 102]) = true) :
    Calls Tryz.prog 10 #[.string s] w fun e w' => e = .returned (.tuple #[.float .f32 4286578688, .int .i64 0]) ∧ w' = w := by
  have hF := float_over true 2139095040 (Nat.le_refl _)
  rw [show ((2139095040 : Nat) : Int) = 2139095040 from rfl] at hF
  simp only [if_true] at hF
  go_enter Tryz.func10, Tryz.ntmps10
  go_wp2_with fail
  refine (hF _).mono ?_
  rintro e9 w9 ⟨rfl, hw9⟩
  obtain rfl := hw9.symm
  clear hw9
  go_wp2
  refine bodyPost_ret (v := .tuple #[.float .f32 4286578688, .int .i64 0]) (by simp [results, Tryz.results10, go_sem]) rfl ⟨rfl, rfl⟩
set_option maxRecDepth 1000000 in
set_option maxHeartbeats 1600000 in
theorem pr_no_true (s b all : ByteArray) (E : Int) (w : World) (t1 : (s.toList == [110, 97, 110]) = false) (t2 : (s.toList == [105, 110, 102]) = false) (t3 : (s.toList == [45, 105, 110, 102]) = false) (h0 : 0 < s.size) (g0 : bt s 0 = 45) (hb : s.extract 1 s.size = b) (h33 : ∀ w, Calls Tryz.prog 33 #[.string b] w fun e w' => e = .returned (.tuple #[.string all, .int .i64 E, .bool false]) ∧ ∃ n, w' = w.drewN n) :
    Calls Tryz.prog 10 #[.string s] w fun e w' => e = .returned (.tuple #[.float .f32 0, .int .i64 30]) ∧ Keep [] w w' := by
  have h0i : (0 : Int) < (s.size : Int) := by omega
  have h1i : (1 : Int) ≤ (s.size : Int) := by omega
  have gs : ((s[0]'h0).toNat : Int) = 45 := (get_bt s 0 h0).trans g0
  go_enter Tryz.func10, Tryz.ntmps10
  go_wp2_with fail
  refine (h33 _).mono ?_
  rintro e9 w9 ⟨rfl, n9, hw9⟩
  have K9 : Hid (Keep [] w w9) := show Keep [] w w9 by rw [hw9]; exact (Keep.refl [] w).drewN n9
  clear hw9
  go_wp2
  refine bodyPost_ret (v := .tuple #[.float .f32 0, .int .i64 30]) (by simp [results, Tryz.results10, go_sem]) rfl ⟨rfl, K9.out⟩
set_option maxRecDepth 1000000 in
set_option maxHeartbeats 1600000 in
theorem pr_over_true (s b all : ByteArray) (E : Int) (w : World) (t1 : (s.toList == [110, 97, 110]) = false) (t2 : (s.toList == [105, 110, 102]) = false) (t3 : (s.toList == [45, 105, 110, 102]) = false) (h0 : 0 < s.size) (g0 : bt s 0 = 45) (hb : s.extract 1 s.size = b) (h33 : ∀ w, Calls Tryz.prog 33 #[.string b] w fun e w' => e = .returned (.tuple #[.string all, .int .i64 E, .bool true]) ∧ ∃ n, w' = w.drewN n) (h34 : ∀ w, Calls Tryz.prog 34 #[.string all, .int .i64 E] w fun r w' => r = .returned (.tuple #[.agg #[.slice none 0 0, .slice none 0 0], .bool false]) ∧ Keep [] w w') :
    Calls Tryz.prog 10 #[.string s] w fun e w' => e = .returned (.tuple #[.float .f32 0, .int .i64 30]) ∧ Keep [] w w' := by
  have h0i : (0 : Int) < (s.size : Int) := by omega
  have h1i : (1 : Int) ≤ (s.size : Int) := by omega
  have gs : ((s[0]'h0).toNat : Int) = 45 := (get_bt s 0 h0).trans g0
  go_enter Tryz.func10, Tryz.ntmps10
  go_wp2_with fail
  refine (h33 _).mono ?_
  rintro e9 w9 ⟨rfl, n9, hw9⟩
  have K9 : Hid (Keep [] w w9) := show Keep [] w w9 by rw [hw9]; exact (Keep.refl [] w).drewN n9
  clear hw9
  go_wp2_with fail
  refine (h34 _).mono ?_
  rintro e9 w8 ⟨rfl, hk8⟩
  have K8 : Hid (Keep [] w (w8.alloc (Obj.cells #[.slice none 0 0, .slice none 0 0] 57))) := (K9.out.trans' hk8).alloc _
  clear hk8
  go_wp2
  refine bodyPost_ret (v := .tuple #[.float .f32 0, .int .i64 30]) (by simp [results, Tryz.results10, go_sem]) rfl ⟨rfl, K8.out⟩
set_option maxRecDepth 1000000 in
set_option maxHeartbeats 1600000 in
theorem pr_near_no_true (A B N : Nat) (s b all : ByteArray) (E : Int) (w : World) (t1 : (s.toList == [110, 97, 110]) = false) (t2 : (s.toList == [105, 110, 102]) = false) (t3 : (s.toList == [45, 105, 110, 102]) = false) (h0 : 0 < s.size) (g0 : bt s 0 = 45) (hb : s.extract 1 s.size = b) (h33 : ∀ w, Calls Tryz.prog 33 #[.string b] w fun e w' => e = .returned (.tuple #[.string all, .int .i64 E, .bool true]) ∧ ∃ n, w' = w.drewN n) (h34 : ∀ w, Calls Tryz.prog 34 #[.string all, .int .i64 E] w fun r w' => (∃ va vb, r = .returned (.tuple #[.agg #[va, vb], .bool true]) ∧ (Big w' va A 1000 ∧ Big w' vb B 1000)) ∧ Keep [] w w') (hB : 0 < B) (hN0 : nrst A B = N) (hN : N = 2139095040) :
    Calls Tryz.prog 10 #[.string s] w fun e w' => e = .returned (.tuple #[.float .f32 0, .int .i64 30]) ∧ Keep [] w w' := by
  have h0i : (0 : Int) < (s.size : Int) := by omega
  have h1i : (1 : Int) ≤ (s.size : Int) := by omega
  have gs : ((s[0]'h0).toNat : Int) = 45 := (get_bt s 0 h0).trans g0
  go_enter Tryz.func10, Tryz.ntmps10
  go_wp2_with fail
  refine (h33 _).mono ?_
  rintro e9 w9 ⟨rfl, n9, hw9⟩
  have K9 : Hid (Keep [] w w9) := show Keep [] w w9 by rw [hw9]; exact (Keep.refl [] w).drewN n9
  clear hw9
  go_wp2_with fail
  refine (h34 _).mono ?_
  rintro e9 w8 ⟨⟨va, vb, rfl, hva, hvb⟩, hk8⟩
  have K8 : Hid (Keep [] w (w8.alloc (Obj.cells #[va, vb] 57))) := (K9.out.trans' hk8).alloc _
  have hA8 := nearest_any va vb A B 1000 1000 (w8.alloc (Obj.cells #[va, vb] 57)) (hva.keep (Keep.alloc1 w8 _) (Off.nil _)) (hvb.keep (Keep.alloc1 w8 _) (Off.nil _)) (by decide) (by decide)
  obtain ⟨ao, na, ca, rfl⟩ := hva.sl
  obtain ⟨bo, nb, cb, rfl⟩ := hvb.sl
  clear hk8 hva hvb
  go_wp2_with fail
  refine hA8.mono ?_
  rintro e9 w7 ⟨n, hn, rfl, hk7⟩
  rw [(nrst_of A B n hB hn).trans hN0]
  have K7 : Hid (Keep [] w w7) := K8.out.trans' hk7
  clear hk7 hn hA8
  subst hN
  go_wp2
  refine bodyPost_ret (v := .tuple #[.float .f32 0, .int .i64 30]) (by simp [results, Tryz.results10, go_sem]) rfl ⟨rfl, K7.out⟩
set_option maxRecDepth 1000000 in
set_option maxHeartbeats 1600000 in
theorem pr_near_yes_true (A B N : Nat) (s b all : ByteArray) (E : Int) (w : World) (t1 : (s.toList == [110, 97, 110]) = false) (t2 : (s.toList == [105, 110, 102]) = false) (t3 : (s.toList == [45, 105, 110, 102]) = false) (h0 : 0 < s.size) (g0 : bt s 0 = 45) (hb : s.extract 1 s.size = b) (h33 : ∀ w, Calls Tryz.prog 33 #[.string b] w fun e w' => e = .returned (.tuple #[.string all, .int .i64 E, .bool true]) ∧ ∃ n, w' = w.drewN n) (h34 : ∀ w, Calls Tryz.prog 34 #[.string all, .int .i64 E] w fun r w' => (∃ va vb, r = .returned (.tuple #[.agg #[va, vb], .bool true]) ∧ (Big w' va A 1000 ∧ Big w' vb B 1000)) ∧ Keep [] w w') (hB : 0 < B) (hN0 : nrst A B = N) (hN : N < 2139095040) :
    Calls Tryz.prog 10 #[.string s] w fun e w' => e = .returned (.tuple #[.float .f32 (N + 2147483648), .int .i64 0]) ∧ Keep [] w w' := by
  have h0i : (0 : Int) < (s.size : Int) := by omega
  have h1i : (1 : Int) ≤ (s.size : Int) := by omega
  have gs : ((s[0]'h0).toNat : Int) = 45 := (get_bt s 0 h0).trans g0
  go_enter Tryz.func10, Tryz.ntmps10
  go_wp2_with fail
  refine (h33 _).mono ?_
  rintro e9 w9 ⟨rfl, n9, hw9⟩
  have K9 : Hid (Keep [] w w9) := show Keep [] w w9 by rw [hw9]; exact (Keep.refl [] w).drewN n9
  clear hw9
  go_wp2_with fail
  refine (h34 _).mono ?_
  rintro e9 w8 ⟨⟨va, vb, rfl, hva, hvb⟩, hk8⟩
  have K8 : Hid (Keep [] w (w8.alloc (Obj.cells #[va, vb] 57))) := (K9.out.trans' hk8).alloc _
  have hA8 := nearest_any va vb A B 1000 1000 (w8.alloc (Obj.cells #[va, vb] 57)) (hva.keep (Keep.alloc1 w8 _) (Off.nil _)) (hvb.keep (Keep.alloc1 w8 _) (Off.nil _)) (by decide) (by decide)
  obtain ⟨ao, na, ca, rfl⟩ := hva.sl
  obtain ⟨bo, nb, cb, rfl⟩ := hvb.sl
  clear hk8 hva hvb
  go_wp2_with fail
  refine hA8.mono ?_
  rintro e9 w7 ⟨n, hn, rfl, hk7⟩
  rw [(nrst_of A B n hB hn).trans hN0]
  have K7 : Hid (Keep [] w w7) := K8.out.trans' hk7
  clear hk7 hn hA8
  have hF := float_any true N (by omega) w7
  simp only [if_true] at hF
  have hNb : ((N : Int) == 2139095040) = false := by rw [beq_eq_false_iff_ne]; omega
  go_wp2_with fail
  refine hF.mono ?_
  rintro e9 w6 ⟨rfl, hw6⟩
  obtain rfl := hw6.symm
  clear hw6
  go_wp2
  refine bodyPost_ret (v := .tuple #[.float .f32 (N + 2147483648), .int .i64 0]) (by simp [results, Tryz.results10, go_sem]) rfl ⟨rfl, K7.out⟩
end Go.Proofs.YtnljpbpphdhnpaaGreatDoor

/- The document's number of a text and the program's have one nearest real. -/
namespace Go.Proofs.YtnljpbpphdhnpaaGreatDoor
open Go.RowKit Go.PlainAid

theorem nrst_mono (A B A' B' : Nat) (hB : 0 < B) (hB' : 0 < B') (h : A * B' ≤ A' * B) : nrst A B ≤ nrst A' B' :=
  near_mono A B A' B' _ _ hB hB' h (nrst_low A B) (nrst_low A' B')
theorem nrst_eq (A B A' B' : Nat) (hB : 0 < B) (hB' : 0 < B') (h : A * B' = A' * B) : nrst A B = nrst A' B' :=
  Nat.le_antisymm (nrst_mono A B A' B' hB hB' (Nat.le_of_eq h)) (nrst_mono A' B' A B hB' hB (Nat.le_of_eq h.symm))
theorem dbl (A : Nat) : A * 2 ^ 150 = 2 * (A * 2 ^ 149) := by
  show A * 2 ^ (149 + 1) = _
  rw [Nat.pow_succ, ← Nat.mul_assoc, Nat.mul_comm]
theorem nrst_tiny (A B : Nat) (h : A * 2 ^ 150 < B) : nrst A B = 0 := by
  have v0 : valN 0 = 0 := by decide
  have v1 : valN 1 = 1 := by decide
  have hB : 0 < B := Nat.lt_of_le_of_lt (Nat.zero_le _) h
  rw [dbl] at h
  have hl : LowB A B 0 := by
    refine ⟨by decide, by rw [v0]; simp, .inr ?_⟩
    rw [v1]
    generalize A * 2 ^ 149 = X at *
    omega
  rw [← nrst_of A B 0 hB hl]
  unfold nearB upB
  rw [v0, v1, if_neg (by decide), if_neg]
  simp only [Bool.or_eq_true, Bool.and_eq_true, decide_eq_true_eq]
  generalize A * 2 ^ 149 = X at *
  omega
theorem nrst_huge (A B : Nat) (hB : 0 < B) (h : 2 ^ 128 * B ≤ A) : nrst A B = 2139095040 := by
  have v : valN 2139095040 = 2 ^ 128 * 2 ^ 149 := by decide
  have hl : LowB A B 2139095040 := by
    refine ⟨Nat.le_refl _, ?_, .inl rfl⟩
    rw [v]
    calc 2 ^ 128 * 2 ^ 149 * B = 2 ^ 128 * B * 2 ^ 149 := by rw [Nat.mul_right_comm]
      _ ≤ A * 2 ^ 149 := Nat.mul_le_mul_right _ h
  rw [← nrst_of A B _ hB hl]
  unfold nearB
  rw [if_pos rfl]
theorem upB_same (X X' s s' m : Nat) (h1 : s ≤ X ↔ s' ≤ X') (h2 : X ≤ s ↔ X' ≤ s') : upB X s m = upB X' s' m := by
  unfold upB
  rw [show decide (s < X) = decide (s' < X') from decide_eq_decide.2 (by omega), show decide (X = s) = decide (X' = s') from decide_eq_decide.2 (by omega)]
/-- what is compared alike has one nearest real -/
theorem nrst_cmp (A B A' B' : Nat) (hB : 0 < B) (hB' : 0 < B') (h1 : ∀ N, N * B ≤ A * 2 ^ 150 ↔ N * B' ≤ A' * 2 ^ 150) (h2 : ∀ N, A * 2 ^ 150 ≤ N * B ↔ A' * 2 ^ 150 ≤ N * B') : nrst A B = nrst A' B' := by
  simp only [dbl] at h1 h2
  obtain ⟨g1, g2, g3⟩ := nrst_low A B
  generalize Classical.choose (low_ex A B) = m at *
  have p1 := h1 (2 * valN m)
  have q1 := h1 (valN m + valN (m + 1))
  have q2 := h2 (valN m + valN (m + 1))
  have p3 := h1 (2 * valN (m + 1))
  rw [Nat.mul_assoc, Nat.mul_assoc] at p1 p3
  have hl : LowB A B m := ⟨g1, g2, g3⟩
  have hl' : LowB A' B' m := by
    refine ⟨g1, ?_, ?_⟩
    · have := p1.1 (Nat.mul_le_mul_left 2 g2)
      exact Nat.le_of_mul_le_mul_left this (by decide)
    · rcases g3 with g3 | g3
      · exact .inl g3
      · right
        refine Nat.lt_of_not_le fun h => ?_
        have := Nat.le_of_mul_le_mul_left (p3.2 (Nat.mul_le_mul_left 2 h)) (show 0 < 2 by decide)
        exact absurd g3 (Nat.not_lt.2 this)
  rw [← nrst_of A B m hB hl, ← nrst_of A' B' m hB' hl']
  unfold nearB
  by_cases hm : m = 2139095040
  · rw [if_pos hm, if_pos hm]
  · rw [if_neg hm, if_neg hm]
    have hu : upB (2 * (A * 2 ^ 149)) ((valN m + valN (m + 1)) * B) m = upB (2 * (A' * 2 ^ 149)) ((valN m + valN (m + 1)) * B') m := upB_same _ _ _ _ m q1 q2
    rw [hu]
/-- noughts at the end say nothing -/
theorem scale10 (d j : Nat) (e : Int) : nrst (d * 10 ^ j * 10 ^ e.toNat) (10 ^ (-e).toNat) = nrst (d * 10 ^ (e + j).toNat) (10 ^ (-(e + j)).toNat) := by
  refine nrst_eq _ _ _ _ (ten_pos _) (ten_pos _) ?_
  rw [Nat.mul_assoc, Nat.mul_assoc, Nat.mul_assoc]
  congr 1
  rw [← Nat.pow_add, ← Nat.pow_add, ← Nat.pow_add]
  congr 1
  omega
/-- a digit more for what is left -/
theorem near_more (f d r u : Nat) (hr : 0 < r) (hr2 : r < 10 ^ d) (hu : 150 ≤ u) : nrst (f * 10 ^ d + r) (10 ^ (d + u)) = nrst (f * 10 + 1) (10 ^ (u + 1)) := by
  obtain ⟨v, rfl⟩ : ∃ v, u = v + 150 := ⟨u - 150, by omega⟩
  have h10 : (10 : Nat) ^ (v + 150) = 5 ^ 150 * 10 ^ v * 2 ^ 150 := by
    rw [Nat.pow_add, show (10 : Nat) ^ 150 = 5 ^ 150 * 2 ^ 150 by decide, ← Nat.mul_assoc, Nat.mul_comm (10 ^ v)]
  have k1 : ∀ N, N * 10 ^ (d + (v + 150)) = N * (5 ^ 150 * 10 ^ v) * 10 ^ d * 2 ^ 150 := fun N => by
    rw [Nat.pow_add, h10, Nat.mul_comm (10 ^ d), ← Nat.mul_assoc, Nat.mul_right_comm _ (10 ^ d), ← Nat.mul_assoc]
  have k2 : ∀ N, N * 10 ^ (v + 150 + 1) = N * (5 ^ 150 * 10 ^ v) * 10 * 2 ^ 150 := fun N => by
    rw [Nat.pow_succ, h10, ← Nat.mul_assoc, ← Nat.mul_assoc, Nat.mul_right_comm _ (2 ^ 150)]
  have hp : 0 < 2 ^ 150 := by decide
  refine nrst_cmp _ _ _ _ (ten_pos _) (ten_pos _) (fun N => ?_) fun N => ?_
  · rw [k1, k2]
    generalize N * (5 ^ 150 * 10 ^ v) = M
    rw [Nat.mul_le_mul_right_iff hp, Nat.mul_le_mul_right_iff hp]
    constructor
    · intro h
      have : M ≤ f := by
        refine Nat.lt_succ_iff.1 (Nat.lt_of_mul_lt_mul_right (a := 10 ^ d) ?_)
        rw [Nat.succ_mul]; omega
      omega
    · intro h
      have : M ≤ f := by omega
      have := Nat.mul_le_mul_right (10 ^ d) this
      omega
  · rw [k1, k2]
    generalize N * (5 ^ 150 * 10 ^ v) = M
    rw [Nat.mul_le_mul_right_iff hp, Nat.mul_le_mul_right_iff hp]
    constructor
    · intro h
      have : f < M := Nat.lt_of_mul_lt_mul_right (a := 10 ^ d) (by omega)
      omega
    · intro h
      have : f + 1 ≤ M := by omega
      have := Nat.mul_le_mul_right (10 ^ d) this
      rw [Nat.succ_mul] at this
      omega
end Go.Proofs.YtnljpbpphdhnpaaGreatDoor

/- The document's number of any text is the program's. -/
namespace Go.Proofs.YtnljpbpphdhnpaaGreatDoor
open Go.RowKit Go.PlainAid

theorem ke (l : List UInt8) (hl : l.length ≤ 1000000000) (h : okL l = true) : (kL l + 1 = ((FL l).length : Int) + eL l) ∨ (1000 < kL l ∧ 1000 < ((FL l).length : Int) + eL l) ∨ (kL l < -1000 ∧ ((FL l).length : Int) + eL l < -1000) := by
  obtain ⟨l1, l2, l3, l4, l5⟩ := lens l
  have hX := XL_dig l h
  obtain ⟨⟨f1, f2⟩, f3, f4⟩ := far_dv _ hX
  have hs := sat_dv _ hX
  have hF : (FL l).length ≤ (WL l ++ PL l).length := trimL_len (WL l ++ PL l) 48
  rw [List.length_append] at hF
  unfold kL eL kfL
  rw [List.length_append, hs]
  generalize dvL (XL l) = d at *
  generalize farL (XL l) = f at *
  clear hs hX h
  by_cases hm : minL (tlL l 101) = true
  · rw [if_pos hm, if_pos hm]
    by_cases hf : f < 1099511627776
    · have := f3 hf; left; omega
    · have := f4 (by omega); right; right; omega
  · rw [if_neg hm, if_neg hm]
    by_cases hf : f < 1099511627776
    · have := f3 hf; left; omega
    · have := f4 (by omega); right; left; omega
theorem dv_cons (c : UInt8) (t : List UInt8) : dvL (c :: t) = (c.toNat - 48) * 10 ^ t.length + dvL t := by
  have := dv_app [c] t
  rw [List.singleton_append] at this
  rw [this]
  congr 2
  unfold dvL
  simp
theorem dv_low (c : UInt8) (t : List UInt8) (h : 49 ≤ c.toNat) : 10 ^ t.length ≤ dvL (c :: t) := by
  rw [dv_cons]
  have : 1 * 10 ^ t.length ≤ (c.toNat - 48) * 10 ^ t.length := Nat.mul_le_mul_right _ (by omega)
  omega
theorem dv_any (r : List UInt8) (h : Dig r) : ((r.any fun c => c != 48) = true → 0 < dvL r) ∧ ((r.any fun c => c != 48) = false → dvL r = 0) := by
  induction r with
  | nil => exact ⟨fun h => by simp at h, fun _ => rfl⟩
  | cons c r ih =>
    obtain ⟨i1, i2⟩ := ih fun x hx => h x (List.mem_cons_of_mem _ hx)
    have hc := h c (List.mem_cons_self ..)
    rw [List.any_cons, dv_cons]
    by_cases e : c = 48
    · subst e
      have e2 : ((48 : UInt8) != 48) = false := rfl
      rw [e2, Bool.false_or]
      have e3 : (48 : UInt8).toNat - 48 = 0 := rfl
      rw [e3, Nat.zero_mul, Nat.zero_add]
      exact ⟨i1, i2⟩
    · have e2 : (c != 48) = true := by simpa using e
      rw [e2, Bool.true_or]
      refine ⟨fun _ => ?_, fun h => by cases h⟩
      have hn : c.toNat ≠ 48 := fun e3 => e (UInt8.toNat_inj.1 e3)
      have : 1 * 10 ^ r.length ≤ (c.toNat - 48) * 10 ^ r.length := Nat.mul_le_mul_right _ (by omega)
      have := ten_pos r.length
      omega
/-- the digits that count begin as the others do -/
theorem saidS_form (c : UInt8) (t : List UInt8) (e : Int) (h : Dig (c :: t)) : ∃ t', (saidS (c :: t) e).1 = c :: t' ∧ Dig (c :: t') ∧ (saidS (c :: t) e).2 = ((c :: t).length : Int) + e - 1 - (t'.length : Int) := by
  have ht : ∀ n, Dig (t.take n) := fun n x hx => h x (List.mem_cons_of_mem _ (List.mem_of_mem_take hx))
  have hc := h c (List.mem_cons_self ..)
  have hcons : ∀ s, Dig s → Dig (c :: s) := fun s hs x hx => by
    rcases List.mem_cons.1 hx with rfl | hx
    · exact hc
    · exact hs x hx
  unfold saidS
  by_cases h1 : (c :: t).length ≤ 200
  · rw [if_pos h1]
    exact ⟨t, rfl, h, by simp; omega⟩
  · rw [if_neg h1]
    have hl : (t.take 199).length = 199 := by rw [List.length_take]; rw [List.length_cons] at h1; omega
    by_cases h2 : moreB (c :: t) = true
    · rw [if_pos h2]
      refine ⟨t.take 199 ++ [49], rfl, hcons _ fun x hx => ?_, ?_⟩
      · rcases List.mem_append.1 hx with hx | hx
        · exact ht 199 x hx
        · rw [List.mem_singleton.1 hx]; decide
      · rw [List.length_append, hl, List.length_singleton]
        show e + ((c :: t).length : Int) - 200 - 1 = ((c :: t).length : Int) + e - 1 - ((199 + 1 : Nat) : Int)
        omega
    · rw [if_neg h2]
      refine ⟨t.take 199, rfl, hcons _ (ht 199), ?_⟩
      rw [hl]
      show e + ((c :: t).length : Int) - 200 = ((c :: t).length : Int) + e - 1 - ((199 : Nat) : Int)
      omega
theorem tiny_S (S : List UInt8) (q : Nat) (k : Int) (h : Dig S) (hq : S.length = q + 1) (hk : k < -46) : nrst (dvL S * 10 ^ (k - q).toNat) (10 ^ (-(k - q)).toNat) = 0 := by
  have hlt := dv_lt S h
  rw [hq] at hlt
  obtain ⟨n, hn⟩ : ∃ n, (-(k - q)).toNat = (q + 1) + 46 + n := ⟨(-(k - q)).toNat - ((q + 1) + 46), by omega⟩
  rw [hn, show (k - q).toNat = 0 by omega, Nat.pow_zero, Nat.mul_one]
  refine nrst_tiny _ _ ?_
  have h1 : dvL S * 2 ^ 150 < 10 ^ (q + 1) * 2 ^ 150 := (Nat.mul_lt_mul_right (by decide)).2 hlt
  have h2 : 10 ^ (q + 1) * 2 ^ 150 ≤ 10 ^ (q + 1) * 10 ^ 46 := Nat.mul_le_mul_left _ (by decide)
  rw [← Nat.pow_add] at h2
  have h3 : 10 ^ (q + 1 + 46) * 1 ≤ 10 ^ (q + 1 + 46) * 10 ^ n := Nat.mul_le_mul_left _ (ten_pos n)
  rw [← Nat.pow_add, Nat.mul_one] at h3
  exact Nat.lt_of_lt_of_le h1 (Nat.le_trans h2 h3)
theorem huge_S (S : List UInt8) (q : Nat) (k : Int) (h : 10 ^ q ≤ dvL S) (hk : 38 < k) : nrst (dvL S * 10 ^ (k - q).toNat) (10 ^ (-(k - q)).toNat) = 2139095040 := by
  refine nrst_huge _ _ (ten_pos _) ?_
  have h1 : 10 ^ q * 10 ^ (k - q).toNat ≤ dvL S * 10 ^ (k - q).toNat := Nat.mul_le_mul_right _ h
  obtain ⟨n, hn⟩ : ∃ n, q + (k - q).toNat = 39 + n + (-(k - q)).toNat := ⟨q + (k - q).toNat - 39 - (-(k - q)).toNat, by omega⟩
  rw [← Nat.pow_add, hn, Nat.pow_add] at h1
  have h2 : 10 ^ 39 * 1 ≤ 10 ^ 39 * 10 ^ n := Nat.mul_le_mul_left _ (ten_pos n)
  rw [← Nat.pow_add, Nat.mul_one] at h2
  have h3 : (2 : Nat) ^ 128 ≤ 10 ^ (39 + n) := Nat.le_trans (by decide) h2
  exact Nat.le_trans (Nat.mul_le_mul_right _ h3) h1
/-- what counts has the nearest real of all -/
theorem same_S (F : List UInt8) (e : Int) (h : Dig F) (he : (F.length : Int) + e ≤ 50) : nrst (dvL (saidS F e).1 * 10 ^ (saidS F e).2.toNat) (10 ^ (-(saidS F e).2).toNat) = nrst (dvL F * 10 ^ e.toNat) (10 ^ (-e).toNat) := by
  unfold saidS
  by_cases h1 : F.length ≤ 200
  · rw [if_pos h1]
  · rw [if_neg h1]
    obtain ⟨d, hd⟩ : ∃ d, F.length = 200 + d := ⟨F.length - 200, by omega⟩
    have hdr : (F.drop 200).length = d := by rw [List.length_drop]; omega
    have hF : dvL F = dvL (F.take 200) * 10 ^ d + dvL (F.drop 200) := by
      have := dv_app (F.take 200) (F.drop 200)
      rwa [List.take_append_drop, hdr] at this
    have hDd : Dig (F.drop 200) := fun x hx => h x (List.mem_of_mem_drop hx)
    obtain ⟨a1, a2⟩ := dv_any _ hDd
    have hlt := dv_lt _ hDd
    rw [hdr] at hlt
    rw [hF]
    generalize hf : dvL (F.take 200) = f at *
    generalize dvL (F.drop 200) = r at *
    by_cases h2 : moreB F = true
    · rw [if_pos h2]
      have hr := a1 h2
      obtain ⟨u, hu⟩ : ∃ u : Nat, e = -((d + u : Nat) : Int) := ⟨(-e).toNat - d, by omega⟩
      have hx : e + (F.length : Int) - 200 - 1 = -((u + 1 : Nat) : Int) := by omega
      show nrst (dvL (F.take 200 ++ [49]) * 10 ^ (e + (F.length : Int) - 200 - 1).toNat) (10 ^ (-(e + (F.length : Int) - 200 - 1)).toNat) = _
      rw [hx, hu, dv_snoc, hf]
      have n1 : (-((u + 1 : Nat) : Int)).toNat = 0 := by omega
      have n2 : (-((d + u : Nat) : Int)).toNat = 0 := by omega
      rw [n1, n2, Int.neg_neg, Int.neg_neg, Int.toNat_natCast, Int.toNat_natCast, Nat.pow_zero, Nat.mul_one, Nat.mul_one, near_more f d r u hr hlt (by omega)]
      rfl
    · rw [if_neg h2]
      have hr : r = 0 := a2 (by unfold moreB at h2; simpa using h2)
      rw [hr, Nat.add_zero, scale10]
      show nrst (dvL (F.take 200) * 10 ^ (e + (F.length : Int) - 200).toNat) (10 ^ (-(e + (F.length : Int) - 200)).toNat) = _
      rw [hf, show e + (F.length : Int) - 200 = e + (d : Int) by omega]
/-- the document's number of a text -/
noncomputable def valR (l : List UInt8) : Option Nat :=
  if okL l = true then
    if 100 < ((FL l).length : Int) + eL l ∧ FL l ≠ [] then none
    else if FL l = [] ∨ ((FL l).length : Int) + eL l < -100 then some 0
    else if nrst (dvL (saidS (FL l) (eL l)).1 * 10 ^ (saidS (FL l) (eL l)).2.toNat) (10 ^ (-(saidS (FL l) (eL l)).2).toNat) < 2139095040 then some (nrst (dvL (saidS (FL l) (eL l)).1 * 10 ^ (saidS (FL l) (eL l)).2.toNat) (10 ^ (-(saidS (FL l) (eL l)).2).toNat)) else none
  else none
theorem FL_dig (l : List UInt8) (h : okL l = true) : Dig (FL l) := by
  obtain ⟨w1, _, p1, _, _⟩ := okL_form l h
  intro x hx
  have hx2 : x ∈ WL l ++ PL l := (List.dropWhile_sublist _).subset hx
  rcases List.mem_append.1 hx2 with hx2 | hx2
  · exact w1 x hx2
  · exact p1 x hx2
theorem val_same (l : List UInt8) (hl : l.length ≤ 1000000000) : valR l = valP l := by
  unfold valR valP
  by_cases hok : okL l = true
  · rw [if_pos hok, if_pos hok]
    have hke := ke l hl hok
    have hdF := FL_dig l hok
    obtain ⟨j, hj, hjl⟩ := cut_noughts (FL l)
    rw [show Lib.trimRightB (FL l) 48 = TL l from rfl] at hj hjl
    obtain ⟨z, _, hF⟩ := span48 (WL l ++ PL l)
    rw [show Lib.trimLeftB (WL l ++ PL l) 48 = FL l from rfl] at hF
    generalize eL l = e at *
    generalize kL l = k at *
    generalize FL l = F at *
    generalize TL l = T at *
    clear hok hl
    rcases hF with hF | ⟨c, t, hF, hc⟩
    · subst hF
      have hT : T = [] := List.length_eq_zero_iff.1 (by rw [List.length_nil] at hjl; omega)
      rw [if_neg (by simp), if_pos (.inl rfl)]
      unfold rowV
      rw [if_pos (.inl hT)]
    · have hF0 : F ≠ [] := by rw [hF]; simp
      have hc49 : 49 ≤ c.toNat := by
        have h1 := hdF c (by rw [hF]; exact List.mem_cons_self ..)
        have h2 : c.toNat ≠ 48 := fun e3 => hc (UInt8.toNat_inj.1 e3)
        omega
      have hT0 : T ≠ [] := by
        intro hT
        rw [hT, hF, List.nil_append] at hj
        cases j with
        | zero => simp at hj
        | succ j =>
          rw [List.replicate_succ] at hj
          exact hc (List.cons.inj hj).1.symm
      have hTp : 0 < T.length := List.length_pos_iff.2 hT0
      unfold rowV
      have hno : ∀ p : Prop, ¬ p → ¬ (F = [] ∨ p) := fun p hp h => by rcases h with h | h; exact hF0 h; exact hp h
      have hno2 : ∀ p : Prop, ¬ p → ¬ (T = [] ∨ p) := fun p hp h => by rcases h with h | h; exact hT0 h; exact hp h
      by_cases hhi : 100 < (F.length : Int) + e
      · rw [if_pos ⟨hhi, hF0⟩, if_neg (hno2 _ (by omega)), if_pos (by omega)]
      · rw [if_neg (fun h => hhi h.1)]
        by_cases hlo : (F.length : Int) + e < -100
        · rw [if_pos (.inr hlo), if_pos (.inr (by omega))]
        · rw [if_neg (hno _ hlo)]
          have hk : k + 1 = (F.length : Int) + e := by omega
          obtain ⟨t', s1, s2, s3⟩ := saidS_form c t e (by rw [← hF]; exact hdF)
          rw [← hF] at s1 s3
          have hx : (saidS F e).2 = k - (t'.length : Int) := by omega
          by_cases h46 : k < -46
          · rw [s1, hx, tiny_S (c :: t') t'.length k s2 rfl h46, if_pos (show 0 < 2139095040 by decide), if_pos (.inr h46)]
          · rw [if_neg (hno2 _ h46)]
            by_cases h38 : 38 < k
            · rw [s1, hx, huge_S (c :: t') t'.length k (dv_low c t' hc49) h38, if_neg (show ¬ 2139095040 < 2139095040 by decide), if_pos h38]
            · rw [if_neg h38, same_S F e hdF (by omega)]
              have hdv : dvL F = dvL T * 10 ^ j := by rw [← hj, dv_noughts]
              rw [hdv, scale10]
              have e1 : e + (j : Int) = k - ((T.length - 1 : Nat) : Int) := by omega
              have e2 : -(k - ((T.length - 1 : Nat) : Int)) = ((T.length - 1 : Nat) : Int) - k := by omega
              rw [e1, e2]
  · rw [if_neg hok, if_neg hok]
end Go.Proofs.YtnljpbpphdhnpaaGreatDoor

/- What is reckoned with two reals: the program's Do, for every kind and every two reals. -/
namespace Go.Proofs.YtnljpbpphdhnpaaGreatDoor
open Go.RowKit Go.PlainAid

theorem nan_aux (p q : Nat) (hp : p < 2) (hq : q < 8388607) : 2139095040 < (p * 2147483648 + 2139095040 + 1 + q) % 2147483648 ∧ p * 2147483648 + 2139095040 + 1 + q < 4294967296 := by
  have : p = 0 ∨ p = 1 := by omega
  rcases this with rfl | rfl <;> omega
theorem cut_nan (x y t : Nat) : nanB (Question.cut (.nanBits .f32 x y) t) = true ∧ Question.cut (.nanBits .f32 x y) t < 4294967296 := by
  unfold nanB
  simp only [Question.cut, Nat.reducePow, Nat.reduceSub]
  obtain ⟨h1, h2⟩ := nan_aux (t % 2) (t / 2 % 8388607) (Nat.mod_lt _ (by decide)) (Nat.mod_lt _ (by decide))
  exact ⟨decide_eq_true h1, h2⟩
/-- an operation that has no answer draws one that is no number -/
theorem run_nan (op : BinOp) (x y : Nat) (h : floatBits op .f32 x y = none) (ho : op = .add ∨ op = .sub ∨ op = .mul ∨ op = .quo) :
    ∃ r : World → Nat, (∀ w, nanB (r w) = true ∧ r w < 4294967296) ∧ ∀ w, (binOp op 22 (.float .f32 x) (.float .f32 y)).run Tryz.prog w = .ok (.float .f32 (r w)) w.drew := by
  refine ⟨fun w => Question.cut (.nanBits .f32 x y) (w.tape w.drawn (.nanBits .f32 x y)), fun w => ?_, fun w => ?_⟩
  · exact cut_nan x y _
  · rcases ho with rfl | rfl | rfl | rfl
    all_goals
      have h' := h
      simp only [floatBits] at h'
      simp [binOp, Op.floatArith, h', Question.forced, go_sem]

def opK (k : Int) : Option BinOp := if k = 5 then some .mul else if k = 6 then some .quo else if k = 7 then some .add else if k = 8 then some .sub else none
def doN (k : Int) (a b : Nat) : Nat := match opK k with
  | none => 2143289344
  | some op => match floatBits op .f32 a b with
    | none => 2143289344
    | some r => if nanB r then 2143289344 else r

set_option maxRecDepth 100000 in
set_option maxHeartbeats 1600000 in
theorem do_any (k : Int) (a b : Nat) (w : World) : Calls Tryz.prog 24 #[.int .i64 k, .float .f32 a, .float .f32 b] w fun e w' => e = .returned (.float .f32 (doN k a b)) ∧ ∃ n, w' = w.drewN n := by
  have hV := nan_any
  have hNN : ∀ w, Calls Tryz.prog 14 #[.float .f32 2143289344] w fun e w' => e = .returned (.bool true) ∧ w' = w := fun w => isNan_any 2143289344 w
  have hd : doN k a b = match opK k with
    | none => 2143289344
    | some op => match floatBits op .f32 a b with
      | none => 2143289344
      | some r => if nanB r then 2143289344 else r := rfl
  by_cases h5 : k = 5
  · subst h5
    have ho : opK 5 = some .mul := rfl
    rw [ho] at hd
    simp only [] at hd
    cases hf : floatBits .mul .f32 a b with
    | none =>
      obtain ⟨r, hr1, hr2⟩ := run_nan .mul a b hf (by simp)
      rw [hf] at hd
      rw [hd]
      have hN := fun w => isNan_any (r w)
      go_enter Tryz.func24, Tryz.ntmps24
      go_wp2_with (first | (go_at_call 26; refine (hV _).mono ?_; rintro e9 w9 ⟨rfl, hw9⟩; obtain rfl := hw9.symm) | (go_at_call 14; refine (hN _ _).mono ?_; rintro e9 w9 ⟨rfl, hw9⟩; obtain rfl := hw9.symm; rw [(hr1 _).1]))
      go_ret
      exact ⟨rfl, 1, rfl⟩
    | some z =>
      have hr := fun w => run_float_arith (P := Tryz.prog) w .mul 22 .f32 a b z hf
      rw [hf] at hd
      simp only [] at hd
      have hN := isNan_any z
      rw [hd]
      cases hz : nanB z <;> rw [hz] at hN
      all_goals
        simp only [Bool.false_eq_true, if_false, if_true]
        go_enter Tryz.func24, Tryz.ntmps24
        go_wp2_with (first | (go_at_call 26; refine (hV _).mono ?_; rintro e9 w9 ⟨rfl, hw9⟩; obtain rfl := hw9.symm) | (go_at_call 14; refine (hN _).mono ?_; rintro e9 w9 ⟨rfl, hw9⟩; obtain rfl := hw9.symm))
        go_ret
        exact ⟨rfl, 0, rfl⟩
  have t5 : (k == 5) = false := by simpa using h5
  by_cases h6 : k = 6
  · subst h6
    have ho : opK 6 = some .quo := rfl
    rw [ho] at hd
    simp only [] at hd
    cases hf : floatBits .quo .f32 a b with
    | none =>
      obtain ⟨r, hr1, hr2⟩ := run_nan .quo a b hf (by simp)
      rw [hf] at hd
      rw [hd]
      have hN := fun w => isNan_any (r w)
      go_enter Tryz.func24, Tryz.ntmps24
      go_wp2_with (first | (go_at_call 26; refine (hV _).mono ?_; rintro e9 w9 ⟨rfl, hw9⟩; obtain rfl := hw9.symm) | (go_at_call 14; refine (hN _ _).mono ?_; rintro e9 w9 ⟨rfl, hw9⟩; obtain rfl := hw9.symm; rw [(hr1 _).1]))
      go_ret
      exact ⟨rfl, 1, rfl⟩
    | some z =>
      have hr := fun w => run_float_arith (P := Tryz.prog) w .quo 22 .f32 a b z hf
      rw [hf] at hd
      simp only [] at hd
      have hN := isNan_any z
      rw [hd]
      cases hz : nanB z <;> rw [hz] at hN
      all_goals
        simp only [Bool.false_eq_true, if_false, if_true]
        go_enter Tryz.func24, Tryz.ntmps24
        go_wp2_with (first | (go_at_call 26; refine (hV _).mono ?_; rintro e9 w9 ⟨rfl, hw9⟩; obtain rfl := hw9.symm) | (go_at_call 14; refine (hN _).mono ?_; rintro e9 w9 ⟨rfl, hw9⟩; obtain rfl := hw9.symm))
        go_ret
        exact ⟨rfl, 0, rfl⟩
  have t6 : (k == 6) = false := by simpa using h6
  by_cases h7 : k = 7
  · subst h7
    have ho : opK 7 = some .add := rfl
    rw [ho] at hd
    simp only [] at hd
    cases hf : floatBits .add .f32 a b with
    | none =>
      obtain ⟨r, hr1, hr2⟩ := run_nan .add a b hf (by simp)
      rw [hf] at hd
      rw [hd]
      have hN := fun w => isNan_any (r w)
      go_enter Tryz.func24, Tryz.ntmps24
      go_wp2_with (first | (go_at_call 26; refine (hV _).mono ?_; rintro e9 w9 ⟨rfl, hw9⟩; obtain rfl := hw9.symm) | (go_at_call 14; refine (hN _ _).mono ?_; rintro e9 w9 ⟨rfl, hw9⟩; obtain rfl := hw9.symm; rw [(hr1 _).1]))
      go_ret
      exact ⟨rfl, 1, rfl⟩
    | some z =>
      have hr := fun w => run_float_arith (P := Tryz.prog) w .add 22 .f32 a b z hf
      rw [hf] at hd
      simp only [] at hd
      have hN := isNan_any z
      rw [hd]
      cases hz : nanB z <;> rw [hz] at hN
      all_goals
        simp only [Bool.false_eq_true, if_false, if_true]
        go_enter Tryz.func24, Tryz.ntmps24
        go_wp2_with (first | (go_at_call 26; refine (hV _).mono ?_; rintro e9 w9 ⟨rfl, hw9⟩; obtain rfl := hw9.symm) | (go_at_call 14; refine (hN _).mono ?_; rintro e9 w9 ⟨rfl, hw9⟩; obtain rfl := hw9.symm))
        go_ret
        exact ⟨rfl, 0, rfl⟩
  have t7 : (k == 7) = false := by simpa using h7
  by_cases h8 : k = 8
  · subst h8
    have ho : opK 8 = some .sub := rfl
    rw [ho] at hd
    simp only [] at hd
    cases hf : floatBits .sub .f32 a b with
    | none =>
      obtain ⟨r, hr1, hr2⟩ := run_nan .sub a b hf (by simp)
      rw [hf] at hd
      rw [hd]
      have hN := fun w => isNan_any (r w)
      go_enter Tryz.func24, Tryz.ntmps24
      go_wp2_with (first | (go_at_call 26; refine (hV _).mono ?_; rintro e9 w9 ⟨rfl, hw9⟩; obtain rfl := hw9.symm) | (go_at_call 14; refine (hN _ _).mono ?_; rintro e9 w9 ⟨rfl, hw9⟩; obtain rfl := hw9.symm; rw [(hr1 _).1]))
      go_ret
      exact ⟨rfl, 1, rfl⟩
    | some z =>
      have hr := fun w => run_float_arith (P := Tryz.prog) w .sub 22 .f32 a b z hf
      rw [hf] at hd
      simp only [] at hd
      have hN := isNan_any z
      rw [hd]
      cases hz : nanB z <;> rw [hz] at hN
      all_goals
        simp only [Bool.false_eq_true, if_false, if_true]
        go_enter Tryz.func24, Tryz.ntmps24
        go_wp2_with (first | (go_at_call 26; refine (hV _).mono ?_; rintro e9 w9 ⟨rfl, hw9⟩; obtain rfl := hw9.symm) | (go_at_call 14; refine (hN _).mono ?_; rintro e9 w9 ⟨rfl, hw9⟩; obtain rfl := hw9.symm))
        go_ret
        exact ⟨rfl, 0, rfl⟩
  have t8 : (k == 8) = false := by simpa using h8
  have ho : opK k = none := by unfold opK; rw [if_neg h5, if_neg h6, if_neg h7, if_neg h8]
  rw [ho] at hd
  rw [hd]
  clear hd ho h5 h6 h7 h8
  go_enter Tryz.func24, Tryz.ntmps24
  go_wp2_with (first | (go_at_call 26; refine (hV _).mono ?_; rintro e9 w9 ⟨rfl, hw9⟩; obtain rfl := hw9.symm) | (go_at_call 14; refine (hNN _).mono ?_; rintro e9 w9 ⟨rfl, hw9⟩; obtain rfl := hw9.symm))
  go_ret
  exact ⟨rfl, 0, rfl⟩
end Go.Proofs.YtnljpbpphdhnpaaGreatDoor



/- The document's Parse of any text. -/
namespace Go.Proofs.YtnljpbpphdhnpaaGreatDoor
open Go.RowKit Go.PlainAid

theorem eL_bound (l : List UInt8) (hl : l.length ≤ 1000000000) (h : okL l = true) : -2000000000000 ≤ eL l ∧ eL l ≤ 2000000000000 := by
  obtain ⟨l1, l2, l3, l4, l5⟩ := lens l
  have hs := sat_dv _ (XL_dig l h)
  unfold eL
  rw [hs]
  generalize dvL (XL l) = d
  split <;> omega
set_option maxRecDepth 1000000 in
theorem pr_empty (w : World) : Calls Tryz.prog 10 #[.string ⟨#[]⟩] w fun e w' => e = .returned (.tuple #[.float .f32 0, .int .i64 30]) ∧ Keep [] w w' := by
  have h33 := parts_empty
  go_enter Tryz.func10, Tryz.ntmps10
  go_wp2_with fail
  refine (h33 _).mono ?_
  rintro e9 w9 ⟨rfl, n9, hw9⟩
  have K9 : Hid (Keep [] w w9) := show Keep [] w w9 by rw [hw9]; exact (Keep.refl [] w).drewN n9
  clear hw9
  go_wp2
  refine bodyPost_ret (v := .tuple #[.float .f32 0, .int .i64 30]) (by simp [results, Tryz.results10, go_sem]) rfl ⟨rfl, K9.out⟩
set_option maxRecDepth 1000000 in
theorem nan_31 (w : World) : Calls Tryz.prog 31 #[] w fun e w' => ∃ x, e = .returned (.float .f32 x) ∧ (nanB x = true ∧ x < 4294967296) ∧ Keep [] w w' := by
  obtain ⟨r, hr1, hr2⟩ := run_nan .quo 0 0 (by decide) (by simp)
  go_enter Tryz.func31, Tryz.ntmps31
  go_wp2
  go_ret
  exact ⟨_, rfl, hr1 _, (Keep.refl [] w).drew⟩
set_option maxRecDepth 1000000 in
theorem ref_nan (w : World) : Calls Tryz.prog 10 #[.string (bl [110, 97, 110])] w fun e w' => ∃ x, e = .returned (.tuple #[.float .f32 x, .int .i64 0]) ∧ (nanB x = true ∧ x < 4294967296) ∧ Keep [] w w' := by
  have t1 : ((bl [110, 97, 110]).toList == [110, 97, 110]) = true := by rw [bl_eqs]; decide
  generalize bl [110, 97, 110] = s at *
  go_enter Tryz.func10, Tryz.ntmps10
  go_wp2_with fail
  refine (nan_31 _).mono ?_
  rintro e9 w9 ⟨x, rfl, hx, hk⟩
  have HX : Hid ((nanB x = true ∧ x < 4294967296) ∧ Keep [] w w9) := ⟨hx, hk⟩
  clear hx hk
  go_wp2
  refine bodyPost_ret (v := .tuple #[.float .f32 x, .int .i64 0]) (by simp [results, Tryz.results10, go_sem]) rfl ⟨x, rfl, HX.out⟩
theorem ref_tail_false (l m : List UInt8) (hm : m.length ≤ 1000000000) (w : World) (t1 : ((bl l).toList == [110, 97, 110]) = false) (t2 : ((bl l).toList == [105, 110, 102]) = false) (t3 : ((bl l).toList == [45, 105, 110, 102]) = false) (h0 : 0 < (bl l).size) (g0 : bt (bl l) 0 ≠ 45) (hb : bl l = bl m) :
    Calls Tryz.prog 10 #[.string (bl l)] w fun e w' => e = .returned (match valR m with | some R => .tuple #[.float .f32 R, .int .i64 0] | none => .tuple #[.float .f32 0, .int .i64 30]) ∧ Keep [] w w' := by
  by_cases hok : okL m = true
  · have h33 := fun w => parts_yes m hm hok w
    have hbd := eL_bound m hm hok
    have hF := okL_form m hok
    have hA : Dig (WL m ++ PL m) := fun x hx => by
      rcases List.mem_append.1 hx with hx | hx
      · exact hF.1 x hx
      · exact hF.2.2.1 x hx
    have hAl : (WL m ++ PL m).length ≤ 2000000000 := by
      obtain ⟨l1, l2, l3, l4, l5⟩ := lens m
      rw [List.length_append]; omega
    have h34 := fun w => said_any (WL m ++ PL m) hA hAl (eL m) hbd w
    rw [show Lib.trimLeftB (WL m ++ PL m) 48 = FL m from rfl] at h34
    have hv : valR m = if 100 < ((FL m).length : Int) + eL m ∧ FL m ≠ [] then none
      else if FL m = [] ∨ ((FL m).length : Int) + eL m < -100 then some 0
      else if nrst (dvL (saidS (FL m) (eL m)).1 * 10 ^ (saidS (FL m) (eL m)).2.toNat) (10 ^ (-(saidS (FL m) (eL m)).2).toNat) < 2139095040 then some (nrst (dvL (saidS (FL m) (eL m)).1 * 10 ^ (saidS (FL m) (eL m)).2.toNat) (10 ^ (-(saidS (FL m) (eL m)).2).toNat)) else none := by
      unfold valR; rw [if_pos hok]
    rw [hv]
    clear hv hF hA hAl hbd
    by_cases hov : 100 < ((FL m).length : Int) + eL m ∧ FL m ≠ []
    · simp only [if_pos hov] at h34 ⊢
      exact pr_over_false _ _ _ _ w t1 t2 t3 h0 g0 hb h33 h34
    · simp only [if_neg hov] at h34 ⊢
      by_cases hlo : FL m = [] ∨ ((FL m).length : Int) + eL m < -100
      · simp only [if_pos hlo] at h34 ⊢
        exact pr_near_yes_false 0 1 0 _ _ _ _ w t1 t2 t3 h0 g0 hb h33 h34 (by decide) (nrst_tiny 0 1 (by decide)) (by decide)
      · simp only [if_neg hlo] at h34 ⊢
        have hle := nrst_le (dvL (saidS (FL m) (eL m)).1 * 10 ^ (saidS (FL m) (eL m)).2.toNat) (10 ^ (-(saidS (FL m) (eL m)).2).toNat)
        by_cases hN : nrst (dvL (saidS (FL m) (eL m)).1 * 10 ^ (saidS (FL m) (eL m)).2.toNat) (10 ^ (-(saidS (FL m) (eL m)).2).toNat) < 2139095040
        · simp only [if_pos hN]
          exact pr_near_yes_false _ _ _ _ _ _ _ w t1 t2 t3 h0 g0 hb h33 h34 (ten_pos _) rfl hN
        · simp only [if_neg hN]
          exact pr_near_no_false _ _ _ _ _ _ _ w t1 t2 t3 h0 g0 hb h33 h34 (ten_pos _) rfl (by omega)
  · have hok2 : okL m = false := by simpa using hok
    have hv : valR m = none := by unfold valR; rw [if_neg hok]
    rw [hv]
    exact pr_no_false _ _ _ _ w t1 t2 t3 h0 g0 hb fun w => parts_no m hm hok2 w
theorem ref_tail_true (l m : List UInt8) (hm : m.length ≤ 1000000000) (w : World) (t1 : ((bl l).toList == [110, 97, 110]) = false) (t2 : ((bl l).toList == [105, 110, 102]) = false) (t3 : ((bl l).toList == [45, 105, 110, 102]) = false) (h0 : 0 < (bl l).size) (g0 : bt (bl l) 0 = 45) (hb : (bl l).extract 1 (bl l).size = bl m) :
    Calls Tryz.prog 10 #[.string (bl l)] w fun e w' => e = .returned (match valR m with | some R => .tuple #[.float .f32 (R + 2147483648), .int .i64 0] | none => .tuple #[.float .f32 0, .int .i64 30]) ∧ Keep [] w w' := by
  by_cases hok : okL m = true
  · have h33 := fun w => parts_yes m hm hok w
    have hbd := eL_bound m hm hok
    have hF := okL_form m hok
    have hA : Dig (WL m ++ PL m) := fun x hx => by
      rcases List.mem_append.1 hx with hx | hx
      · exact hF.1 x hx
      · exact hF.2.2.1 x hx
    have hAl : (WL m ++ PL m).length ≤ 2000000000 := by
      obtain ⟨l1, l2, l3, l4, l5⟩ := lens m
      rw [List.length_append]; omega
    have h34 := fun w => said_any (WL m ++ PL m) hA hAl (eL m) hbd w
    rw [show Lib.trimLeftB (WL m ++ PL m) 48 = FL m from rfl] at h34
    have hv : valR m = if 100 < ((FL m).length : Int) + eL m ∧ FL m ≠ [] then none
      else if FL m = [] ∨ ((FL m).length : Int) + eL m < -100 then some 0
      else if nrst (dvL (saidS (FL m) (eL m)).1 * 10 ^ (saidS (FL m) (eL m)).2.toNat) (10 ^ (-(saidS (FL m) (eL m)).2).toNat) < 2139095040 then some (nrst (dvL (saidS (FL m) (eL m)).1 * 10 ^ (saidS (FL m) (eL m)).2.toNat) (10 ^ (-(saidS (FL m) (eL m)).2).toNat)) else none := by
      unfold valR; rw [if_pos hok]
    rw [hv]
    clear hv hF hA hAl hbd
    by_cases hov : 100 < ((FL m).length : Int) + eL m ∧ FL m ≠ []
    · simp only [if_pos hov] at h34 ⊢
      exact pr_over_true _ _ _ _ w t1 t2 t3 h0 g0 hb h33 h34
    · simp only [if_neg hov] at h34 ⊢
      by_cases hlo : FL m = [] ∨ ((FL m).length : Int) + eL m < -100
      · simp only [if_pos hlo] at h34 ⊢
        exact pr_near_yes_true 0 1 0 _ _ _ _ w t1 t2 t3 h0 g0 hb h33 h34 (by decide) (nrst_tiny 0 1 (by decide)) (by decide)
      · simp only [if_neg hlo] at h34 ⊢
        have hle := nrst_le (dvL (saidS (FL m) (eL m)).1 * 10 ^ (saidS (FL m) (eL m)).2.toNat) (10 ^ (-(saidS (FL m) (eL m)).2).toNat)
        by_cases hN : nrst (dvL (saidS (FL m) (eL m)).1 * 10 ^ (saidS (FL m) (eL m)).2.toNat) (10 ^ (-(saidS (FL m) (eL m)).2).toNat) < 2139095040
        · simp only [if_pos hN]
          exact pr_near_yes_true _ _ _ _ _ _ _ w t1 t2 t3 h0 g0 hb h33 h34 (ten_pos _) rfl hN
        · simp only [if_neg hN]
          exact pr_near_no_true _ _ _ _ _ _ _ w t1 t2 t3 h0 g0 hb h33 h34 (ten_pos _) rfl (by omega)
  · have hok2 : okL m = false := by simpa using hok
    have hv : valR m = none := by unfold valR; rw [if_neg hok]
    rw [hv]
    exact pr_no_true _ _ _ _ w t1 t2 t3 h0 g0 hb fun w => parts_no m hm hok2 w
theorem ref_any (l : List UInt8) (hl : l.length ≤ 1000000000) (hn : l ≠ [110, 97, 110]) (w : World) :
    Calls Tryz.prog 10 #[.string (bl l)] w fun e w' => e = .returned (match parseP l with | some R => .tuple #[.float .f32 R, .int .i64 0] | none => .tuple #[.float .f32 0, .int .i64 30]) ∧ Keep [] w w' := by
  have t1 : ((bl l).toList == [110, 97, 110]) = false := by rw [bl_eqs, decide_eq_false hn]
  have hlo := off_len l
  by_cases hi : offL l = [105, 110, 102]
  · have e : parseP l = some (if minL l = true then 4286578688 else 2139095040) := by unfold parseP; rw [if_neg hn, if_pos hi]
    rw [e]
    cases hm : minL l with
    | true =>
      have h2 := min_form l hm
      rw [hi] at h2
      refine (pr_inf_true (bl l) w t1 (by rw [bl_eqs, h2]; decide) (by rw [bl_eqs, h2]; decide)).mono ?_
      rintro r w' ⟨rfl, rfl⟩
      exact ⟨rfl, Keep.refl _ _⟩
    | false =>
      have h2 : offL l = l := by unfold offL; rw [hm]; simp
      rw [h2] at hi
      refine (pr_inf_false (bl l) w t1 (by rw [bl_eqs, hi]; decide)).mono ?_
      rintro r w' ⟨rfl, rfl⟩
      exact ⟨rfl, Keep.refl _ _⟩
  · have e : parseP l = match valP (offL l) with | some R => some (if minL l = true then R + 2147483648 else R) | none => none := by unfold parseP; rw [if_neg hn, if_neg hi]; cases valP (offL l) <;> rfl
    rw [e, ← val_same (offL l) (by omega)]
    clear e
    by_cases he : l = []
    · subst he
      have hv : valR (offL []) = none := rfl
      rw [hv]
      exact pr_empty w
    have hp : 0 < l.length := List.length_pos_iff.2 he
    cases hm : minL l with
    | true =>
      have h2 := min_form l hm
      have t2 : ((bl l).toList == [105, 110, 102]) = false := by
        rw [bl_eqs, decide_eq_false]
        intro h3
        rw [h3] at hm
        cases hm
      have t3 : ((bl l).toList == [45, 105, 110, 102]) = false := by
        rw [bl_eqs, decide_eq_false]
        intro h3
        rw [h3] at hi
        exact hi rfl
      have hb : (bl l).extract 1 (bl l).size = bl (offL l) := by
        have := ext_right [45] (offL l) 1 rfl
        rw [List.singleton_append, ← h2] at this
        exact this
      have g0 : bt (bl l) 0 = 45 := by
        have := bt_head 45 (offL l)
        rw [← h2] at this
        exact this
      refine (ref_tail_true l (offL l) (by omega) w t1 t2 t3 (by rw [bl_size]; exact hp) g0 hb).mono ?_
      rintro r w' ⟨rfl, hk⟩
      refine ⟨?_, hk⟩
      cases valR (offL l) <;> rfl
    | false =>
      have h2 : offL l = l := by unfold offL; rw [hm]; simp
      rw [h2] at hi ⊢
      have t2 : ((bl l).toList == [105, 110, 102]) = false := by rw [bl_eqs, decide_eq_false hi]
      have t3 : ((bl l).toList == [45, 105, 110, 102]) = false := by
        rw [bl_eqs, decide_eq_false]
        intro h3
        rw [h3] at hm
        cases hm
      have g0 : bt (bl l) 0 ≠ 45 := by
        cases l with
        | nil => exact absurd rfl he
        | cons c l =>
          rw [bt_head]
          intro h3
          have : c = 45 := UInt8.toNat_inj.1 (by show c.toNat = 45; omega)
          rw [this] at hm
          cases hm
      refine (ref_tail_false l l (by omega) w t1 t2 t3 (by rw [bl_size]; exact hp) g0 rfl).mono ?_
      rintro r w' ⟨rfl, hk⟩
      refine ⟨?_, hk⟩
      cases valR l <;> rfl
end Go.Proofs.YtnljpbpphdhnpaaGreatDoor
