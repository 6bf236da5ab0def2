/- The document's Reader, the other methods: turned numbers, reals, texts, raw bytes, the end. -/
import Derived.Test.YtcmembmaaebdeaaReadM
import Derived.Test.YtcmembmaaebdeaaRefW
namespace Go.Proofs.Ytcmembmaaebdeaa
open Go.RowKit Go.PlainAid Go.Lib

set_option maxHeartbeats 1600000 in
theorem refBack_any (u : Nat) (hu : u < 18446744073709551616) (w : World) : Calls Try.prog 87 #[.int .u64 (u : Int)] w fun e w' => e = .returned (.int .i64 (unzig u)) ∧ w' = w := by
  by_cases h : u % 2 = 0
  · have hz : unzig u = (u : Int) / 2 := by unfold unzig; rw [if_pos h]; omega
    rw [hz]
    have t : ((u : Int) % 2 == 0) = true := by simp only [beq_iff_eq]; omega
    have t2 : ((u : Int).tmod 2 == 0) = true := by rw [show (u : Int).tmod 2 = ((u % 2 : Nat) : Int) from rfl, h]; rfl
    go_enter Try.func87, Try.ntmps87
    go_wp2
    go_ret
    exact ⟨rfl, rfl⟩
  · have hz : unzig u = -((u : Int) / 2) - 1 := by unfold unzig; rw [if_neg h]; omega
    rw [hz]
    have t : ((u : Int) % 2 == 0) = false := by simp only [beq_eq_false_iff_ne]; omega
    have t2 : ((u : Int).tmod 2 == 0) = false := by rw [show (u : Int).tmod 2 = ((u % 2 : Nat) : Int) from rfl]; simp only [beq_eq_false_iff_ne]; omega
    go_enter Try.func87, Try.ntmps87
    go_wp2
    go_ret
    exact ⟨rfl, rfl⟩

set_option maxHeartbeats 1600000 in
theorem rfInt_any (M d : Nat) (l : List UInt8) (e : Int) (w : World) (hr : RefR w M d l e) (hl : l.length ≤ 140737488355328) :
    Calls Try.prog 55 #[.pointer (some ⟨d, 0, none⟩)] w fun x w' => x = .returned (.int .i64 (rdOf 0 l e (turnL l)).1) ∧ RefR w' M d (rdOf 0 l e (turnL l)).2.1 (rdOf 0 l e (turnL l)).2.2 ∧ Keep [d] w w' := by
  have hU := rfUint_any M d l e w hr hl
  have hx : (rdOf 0 l e (numL l)).1 < 18446744073709551616 := by
    unfold rdOf
    split
    · exact numL_lt l
    · simp
  have ht : (rdOf 0 l e (turnL l)).1 = unzig (rdOf 0 l e (numL l)).1 ∧ (rdOf 0 l e (turnL l)).2 = (rdOf 0 l e (numL l)).2 := by
    unfold rdOf turnL
    split
    · exact ⟨rfl, rfl⟩
    · exact ⟨by simp [unzig], rfl⟩
  rw [ht.1, ht.2]
  generalize rdOf 0 l e (numL l) = R at hU hx ⊢
  obtain ⟨u, l2, e2⟩ := R
  simp only at hU hx ⊢
  have hB := fun w => refBack_any u hx w
  clear ht
  go_enter Try.func55, Try.ntmps55
  go_wp2_with (first
    | (go_at_call 54; refine hU.mono ?_; rintro e8 w8 ⟨rfl, R8, K8⟩)
    | (go_at_call 87; refine (hB _).mono ?_; rintro e9 w9 ⟨rfl, hw9⟩; obtain rfl := hw9.symm))
  go_ret
  exact ⟨rfl, R8, K8⟩

set_option maxHeartbeats 1600000 in
theorem rfEnd_any (M d : Nat) (l : List UInt8) (e : Int) (w : World) (hr : RefR w M d l e) :
    Calls Try.prog 24 #[.pointer (some ⟨d, 0, none⟩)] w fun x w' => x = .returned (.int .i64 (endE l e)) ∧ w' = w := by
  have herr := hr.err
  obtain ⟨v, h1, h2, h3⟩ := hr.b
  obtain ⟨ao, cap, rfl, hlc, hcm, _, _⟩ := h2.ex
  clear hr h2 h3
  by_cases he : e = 0
  · subst he
    by_cases hl : l = []
    · subst hl
      have hz : endE [] 0 = 0 := rfl
      rw [hz]
      have t : ¬ ((0 : Int) < (([] : List UInt8).length : Int)) := by simp
      go_enter Try.func24, Try.ntmps24
      go_wp2
      go_ret
      exact ⟨rfl, rfl⟩
    · have hz : endE l 0 = 23 := by unfold endE; rw [if_pos rfl, if_neg hl]
      rw [hz]
      have hp := List.length_pos_iff.2 hl
      have t : (0 : Int) < (l.length : Int) := by omega
      go_enter Try.func24, Try.ntmps24
      go_wp2
      go_ret
      exact ⟨rfl, rfl⟩
  · have hz : endE l e = e := by unfold endE; rw [if_neg he]
    rw [hz]
    have hne : (e == 0) = false := by simpa using he
    go_enter Try.func24, Try.ntmps24
    go_wp2
    go_ret
    exact ⟨rfl, rfl⟩

set_option maxRecDepth 1000000 in
set_option maxHeartbeats 3200000 in
theorem rfRaw_any (M d : Nat) (l : List UInt8) (e : Int) (n : Int) (hn0 : -9223372036854775808 ≤ n) (hn1 : n ≤ 9223372036854775807) (w : World) (hr : RefR w M d l e) (hl : l.length ≤ 140737488355328) :
    Calls Try.prog 58 #[.pointer (some ⟨d, 0, none⟩), .int .i64 n] w fun x w' => ∃ y, x = .returned y ∧ Row w' y (rdOf [] l e (rawL l n)).1 ∧ Fresh w w' y ∧ RefR w' M d (rdOf [] l e (rawL l n)).2.1 (rdOf [] l e (rawL l n)).2.2 ∧ Keep [d] w w' := by
  have herr := hr.err
  obtain ⟨v, h1, h2, h3⟩ := hr.b
  obtain ⟨ao, cap, rfl, hlc, hcm, _, _⟩ := h2.ex
  have HR : Hid (RefR w M d l e) := hr
  clear hr h2 h3
  by_cases he : e = 0
  · subst he
    rw [rdOf_pos]
    unfold rawL
    by_cases hneg : n < 0
    · rw [if_pos hneg, List.drop_zero]
      go_enter Try.func58, Try.ntmps58
      go_wp2_with (first | (go_at_call 84; refine (refuse_any M d l 0 2 _ HR.out).mono ?_; rintro e9 w9 ⟨rfl, R9, K9⟩))
      go_ret
      exact ⟨_, rfl, Row.nil _, Fresh.nil _ _, R9, K9⟩
    · rw [if_neg hneg]
      by_cases hgt : (l.length : Int) < n
      · rw [if_pos hgt, List.drop_zero]
        go_enter Try.func58, Try.ntmps58
        go_wp2_with (first | (go_at_call 84; refine (refuse_any M d l 0 20 _ HR.out).mono ?_; rintro e9 w9 ⟨rfl, R9, K9⟩))
        go_ret
        exact ⟨_, rfl, Row.nil _, Fresh.nil _ _, R9, K9⟩
      · rw [if_neg hgt]
        obtain ⟨m, rfl⟩ : ∃ m : Nat, n = (m : Int) := ⟨n.toNat, by omega⟩
        rw [Int.toNat_natCast]
        have hT := take_any M d m l 0 w HR.out (by omega) hl
        go_enter Try.func58, Try.ntmps58
        go_wp2_with (first | (go_at_call 85; refine hT.mono ?_; rintro e9 w9 ⟨v9, rfl, R9, F9, S9, K9⟩))
        go_ret
        exact ⟨_, rfl, R9, F9, S9, K9⟩
  · rw [rdOf_neg _ _ _ _ he]
    have hne : (e != 0) = true := by simpa using he
    go_enter Try.func58, Try.ntmps58
    go_wp2
    go_ret
    exact ⟨_, rfl, Row.nil _, Fresh.nil _ _, HR.out.refl⟩

end Go.Proofs.Ytcmembmaaebdeaa
