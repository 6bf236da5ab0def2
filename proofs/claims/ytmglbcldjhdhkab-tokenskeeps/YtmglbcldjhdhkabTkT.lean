/- Marks, the steps of a number and its end. -/
import Derived.Test.YtmglbcldjhdhkabTkS
namespace Go.Proofs.Ytmglbcldjhdhkab
open Go.RowKit Go.PlainAid

theorem new_kept {w w1 : World} {O : Obj} {F : List Nat} (k : Keep F (w.alloc O) w1) (hF : w.heap.size ∉ F) : w1.heap[w.heap.size]? = some O :=
  (k.block w.heap.size (by simp) hF).trans (heap_alloc_new w O)
theorem box_cell {w : World} {b : Nat} {A : Array Value} {T : TypeId} (h : w.heap[b]? = some (.cells A T (0, 0))) (j : Nat) : w.cell? ⟨b, j, none⟩ = A[j]? ∧ w.frozen? ⟨b, j, none⟩ = false := by
  constructor
  · simp [World.cell?, h]
  · simp [World.frozen?, h]
theorem box3 {w : World} {b : Nat} {x y z : Value} {T : TypeId} (h : w.heap[b]? = some (.cells #[x, y, z] T (0, 0))) :
    w.cell? ⟨b, 0, none⟩ = some x ∧ w.cell? ⟨b, 1, none⟩ = some y ∧ w.cell? ⟨b, 2, none⟩ = some z ∧ w.frozen? ⟨b, 0, none⟩ = false ∧ w.frozen? ⟨b, 1, none⟩ = false ∧ w.frozen? ⟨b, 2, none⟩ = false :=
  ⟨(box_cell h 0).1, (box_cell h 1).1, (box_cell h 2).1, (box_cell h 0).2, (box_cell h 1).2, (box_cell h 2).2⟩
/-- a box of one's own, made ahead of a call and written behind it -/
theorem keep_box {w w1 : World} {O : Obj} (k : Keep [] (w.alloc O) w1) (u v x : Value) {a b c : Nat} : Keep [] w (((w1.setCell ⟨w.heap.size, a, none⟩ u).setCell ⟨w.heap.size, b, none⟩ v).setCell ⟨w.heap.size, c, none⟩ x) :=
  ((((Keep.alloc1 w O).trans' k).setCell (.inr (Nat.le_refl _)) u).setCell (.inr (Nat.le_refl _)) v).setCell (.inr (Nat.le_refl _)) x

theorem mark_any (s : ByteArray) (n : Nat) (hn : n ≤ s.size) (w : World) :
    Calls Try.prog 33 #[.string s, .int .i64 (n : Int)] w fun e w' => e = .returned (.agg #[.int .i64 6, .string (ba (s.toList.take n)), .int .i64 (n : Int)]) ∧ Keep [] w w' := by
  rw [← ext_take]
  go_enter Try.func33, Try.ntmps33
  go_wp2
  refine bodyPost_ret (v := .agg #[.int .i64 6, .string (s.extract 0 n), .int .i64 n]) (by simp [results, Try.results33, go_sem]) rfl ⟨rfl, Keep.alloc1 w _⟩

set_option maxHeartbeats 1000000 in
theorem step_any (st c : Int) (w : World) :
    Calls Try.prog 39 #[.int .i64 st, .int .i32 c] w fun e w' => e = .returned (.int .i64 (stepI st c)) ∧ w' = w := by
  have hd : Hid ((classI c == 3) = digitB c) := by
    show _ = _
    unfold classI
    cases h1 : smallB c
    · cases h2 : digitB c
      · simp only [Bool.false_eq_true, if_false]
        repeat' split
        all_goals rfl
      · simp
    · have : digitB c = false := by simp [smallB] at h1; simp [digitB]; omega
      simp [this]
  have HS : Hid (stepI st c = stepI st c) := rfl
  generalize hz : stepI st c = z at HS ⊢
  have hz' : Hid (stepI st c = z) := hz
  clear hz HS
  cases k : (classI c == 3)
  · have hd' : digitB c = false := by rw [← hd.out, k]
    by_cases c1 : c = 46 ∧ st = 1
    · obtain ⟨rfl, rfl⟩ := c1
      clear hd hd'
      go_enter Try.func39, Try.ntmps39
      go_wp2_with (go_at_call 27; refine (class_any _ _).mono ?_; rintro e w' ⟨rfl, rfl⟩)
      go_ret
      exact ⟨by rw [← hz'.out]; rfl, rfl⟩
    by_cases c2 : c = 101 ∧ st = 3
    · obtain ⟨rfl, rfl⟩ := c2
      clear hd hd'
      go_enter Try.func39, Try.ntmps39
      go_wp2_with (go_at_call 27; refine (class_any _ _).mono ?_; rintro e w' ⟨rfl, rfl⟩)
      go_ret
      exact ⟨by rw [← hz'.out]; rfl, rfl⟩
    by_cases c3 : c = 45 ∧ st = 4
    · obtain ⟨rfl, rfl⟩ := c3
      clear hd hd'
      go_enter Try.func39, Try.ntmps39
      go_wp2_with (go_at_call 27; refine (class_any _ _).mono ?_; rintro e w' ⟨rfl, rfl⟩)
      go_ret
      exact ⟨by rw [← hz'.out]; rfl, rfl⟩
    have hz0 : z = 0 := by rw [← hz'.out]; simp [stepI, hd', c1, c2, c3]
    subst hz0
    clear hd hd' hz'
    have d1 : ((c == 46) && (st == 1)) = false := by simpa using c1
    have d2 : ((c == 101) && (st == 3)) = false := by simpa using c2
    have d3 : ((c == 45) && (st == 4)) = false := by simpa using c3
    clear c1 c2 c3
    cases e1 : (c == 46) <;> cases e2 : (c == 101) <;> cases e3 : (c == 45)
    all_goals
      simp only [e1, e2, e3, Bool.true_and, Bool.false_and] at d1 d2 d3
      first
      | (exfalso; simp at e1 e2 e3; omega)
      | (go_enter Try.func39, Try.ntmps39
         go_wp2_with (go_at_call 27; refine (class_any _ _).mono ?_; rintro e w' ⟨rfl, rfl⟩)
         go_ret
         exact ⟨rfl, rfl⟩)
  · have hd' : digitB c = true := by rw [← hd.out, k]
    have hz2 : Hid (z = if st = 2 then 3 else if st = 4 ∨ st = 5 then 6 else st) := by show _ = _; rw [← hz'.out]; simp [stepI, hd']
    clear hd hd' hz'
    by_cases s2 : st = 2
    · subst s2
      go_enter Try.func39, Try.ntmps39
      go_wp2_with (go_at_call 27; refine (class_any _ _).mono ?_; rintro e w' ⟨rfl, rfl⟩)
      go_ret
      exact ⟨by rw [hz2.out]; rfl, rfl⟩
    by_cases s4 : st = 4
    · subst s4
      go_enter Try.func39, Try.ntmps39
      go_wp2_with (go_at_call 27; refine (class_any _ _).mono ?_; rintro e w' ⟨rfl, rfl⟩)
      go_ret
      exact ⟨by rw [hz2.out]; rfl, rfl⟩
    by_cases s5 : st = 5
    · subst s5
      go_enter Try.func39, Try.ntmps39
      go_wp2_with (go_at_call 27; refine (class_any _ _).mono ?_; rintro e w' ⟨rfl, rfl⟩)
      go_ret
      exact ⟨by rw [hz2.out]; rfl, rfl⟩
    have t2 : (st == 2) = false := by simpa using s2
    have t4 : (st == 4) = false := by simpa using s4
    have t5 : (st == 5) = false := by simpa using s5
    have hz3 : Hid (z = st) := by show _ = _; rw [hz2.out]; simp [s2, s4, s5]
    clear hz2 s2 s4 s5
    go_enter Try.func39, Try.ntmps39
    go_wp2_with (go_at_call 27; refine (class_any _ _).mono ?_; rintro e w' ⟨rfl, rfl⟩)
    go_ret
    exact ⟨by rw [hz3.out]; rfl, rfl⟩

set_option maxHeartbeats 1000000 in
theorem ended_any (s : ByteArray) (n : Nat) (st : Int) (hn : n ≤ s.size) (w : World) :
    Calls Try.prog 40 #[.string s, .int .i64 (n : Int), .int .i64 st] w fun e w' => e = .returned (.agg #[.int .i64 (endedL s.toList n st).kind, .string (ba (endedL s.toList n st).text), .int .i64 ((endedL s.toList n st).size : Int)]) ∧ Keep [] w w' := by
  by_cases s1 : st = 1
  · subst s1
    have he : endedL s.toList n 1 = ⟨3, s.toList.take n, n⟩ := rfl
    rw [he]
    simp only
    rw [← ext_take]
    go_enter Try.func40, Try.ntmps40
    go_wp2
    refine bodyPost_ret (v := .agg #[.int .i64 3, .string (s.extract 0 n), .int .i64 n]) (by simp [results, Try.results40, go_sem]) rfl ⟨rfl, Keep.alloc1 w _⟩
  by_cases s3 : st = 3 ∨ st = 6
  · have he : endedL s.toList n st = ⟨4, s.toList.take n, n⟩ := by simp [endedL, s1, s3]
    rw [he]
    simp only
    rw [← ext_take]
    clear he s1
    rcases s3 with rfl | rfl
    all_goals
      go_enter Try.func40, Try.ntmps40
      go_wp2
      refine bodyPost_ret (v := .agg #[.int .i64 4, .string (s.extract 0 n), .int .i64 n]) (by simp [results, Try.results40, go_sem]) rfl ⟨rfl, Keep.alloc1 w _⟩
  · have he : endedL s.toList n st = ⟨0, [], n⟩ := by simp [endedL, s1, s3]
    rw [he]
    simp only
    have t1 : (st == 1) = false := by simpa using s1
    have t3 : (st == 3) = false := by simp; omega
    have t6 : (st == 6) = false := by simp; omega
    clear he s1 s3
    go_enter Try.func40, Try.ntmps40
    go_wp2_with (go_at_call 29; refine (refused_any _ _).mono ?_; rintro e w1 ⟨rfl, k1⟩; obtain ⟨c0, c1, c2, f0, f1, f2⟩ := box3 (new_kept k1 (by simp)))
    refine bodyPost_ret (v := .agg #[.int .i64 0, .string (ba []), .int .i64 n]) (by simp [results, Try.results40, go_sem, c0, c1, c2]) rfl ⟨rfl, keep_box k1 _ _ _⟩
end Go.Proofs.Ytmglbcldjhdhkab

