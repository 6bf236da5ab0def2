/- The walk through a tree. -/
import Derived.RangeFuncNested
import Derived.RangeFuncBound
import Derived.RangeFuncCalls
import Derived.RangeFuncLeaves
import Derived.Shelf.Abstract
import Derived.Shelf.RegionOpen
import Derived.OwnWalkIn
import Derived.TacticsInMore
import Derived.LoopNIn
import Derived.LoopIn
import Derived.Test.YtkelhglflpdpeaaTo

namespace Go.Proofs.Ytkelhglflpdpeaa
open Go.RowKit Go.PlainAid Go.Shelf
attribute [local go_sem] Oper.semAt_some

theorem roomN {F : Fence} (hd : F.depth = none) (k : Nat) : F.room k := fun d h => by rw [hd] at h; cases h
theorem roundAny {F : Fence} (hd : F.depth = none) {m m' : Nat} {P : Program} {l : Nat} {f : FuncId} {tmps : Array Value} {assign body : Code} {w : World} {R : Ending → World → Prop}
    (h : RoundIn F m P l f tmps assign body w R) : RoundIn F m' P l f tmps assign body w R := ⟨h.1, fun c cs _ => h.2 c cs (roomN hd _)⟩
theorem yieldAny {F : Fence} (hd : F.depth = none) {m : Nat} (m' : Nat) {P : Program} {l : Nat} {args : Array Value} {W : World} {R : Ending → World → Prop} (h : YieldAt F m P l args W R) : YieldAt F m' P l args W R := by
  obtain ⟨fn, tmps, assign, body, hy, hR⟩ := h
  exact ⟨fn, tmps, assign, body, hy, roundAny hd hR⟩

/-- what is left of a tree's list behind the first s -/
theorem drop_left {l r : List Pr} {y : Pr} {s : Int} (h : s < (l.length : Int)) : (l ++ y :: r).drop s.toNat = l.drop s.toNat ++ y :: r.drop (s - l.length - 1).toNat := by
  rw [List.drop_append_of_le_length (by omega), show (s - l.length - 1).toNat = 0 by omega]; rfl
theorem drop_mid {l r : List Pr} {y : Pr} {s : Int} (h : s = (l.length : Int)) : (l ++ y :: r).drop s.toNat = y :: r.drop (s - l.length - 1).toNat := by
  rw [h, Int.toNat_natCast, List.drop_left, show ((l.length : Int) - l.length - 1).toNat = 0 by omega]; rfl
theorem drop_right {l r : List Pr} {y : Pr} {s : Int} (h : (l.length : Int) < s) : (l ++ y :: r).drop s.toNat = r.drop (s - l.length - 1).toNat := by
  obtain ⟨j, rfl⟩ : ∃ j : Nat, s = ((l.length + (j + 1) : Nat) : Int) := ⟨(s - l.length - 1).toNat, by omega⟩
  rw [Int.toNat_natCast, List.drop_length_add_append, show (((l.length + (j + 1) : Nat) : Int) - l.length - 1).toNat = j by omega]; rfl

set_option maxRecDepth 100000 in
set_option maxHeartbeats 800000 in
theorem show_in (F : Fence) (hd : F.depth = none) (h53 : F.fn 53) (h69 : F.fn 69) (hro : F.round = none) (hcount : ∀ (n : Nat) (p : Option Addr) (T : TT) (W : World), IsT W p T → CallsIn F n Try.prog 53 #[.pointer p] W fun e w' => e = .returned (.int .i64 (T.list.length : Int)) ∧ W = w') (l M : Nat) (J Jx : List Pr → World → Prop)
    (hY : ∀ m pre x W, J pre W → pre.length < M → YieldAt F m Try.prog l #[vP x] W fun e W' =>
      (e = .returned (.bool true) ∧ J (pre ++ [x]) W' ∧ KT W W') ∨ (e = .returned (.bool false) ∧ Jx (pre ++ [x]) W')) (T : TT) :
    ∀ (n : Nat) (p : Option Addr) (s : Int) (pre : List Pr) (W : World), IsT W p T → J pre W → pre.length + (T.list.drop s.toNat).length ≤ M → T.list.length ≤ 1152921504606846976 → s ≤ 9223372036854775807 → -1152921504606846977 ≤ s - T.list.length →
      CallsIn F n Try.prog 69 #[.pointer p, .int .i64 s, .func (.yield l) #[] #[]] W fun e W' => (e = .returned (.bool true) ∧ J (pre ++ T.list.drop s.toNat) W' ∧ KT W W') ∨ (e = .returned (.bool false) ∧ ∃ q, q <+: T.list.drop s.toNat ∧ Jx (pre ++ q) W') := by
  induction T with
  | leaf =>
    intro n p s pre W ht hJ _ _ _ _
    obtain rfl : p = none := ht
    refine callsIn_of_wp Try.func69 rfl h69 ?_ hro
    simp only [Try.ntmps69, List.size_toArray, List.length_cons, List.length_nil, Nat.reduceAdd, Nat.reduceSub, Array.replicate_succ, Array.replicate_zero, List.push_toArray, List.append_toArray, List.nil_append, List.cons_append]
    gi_wp2
    go_ret
    exact .inl ⟨rfl, by simpa [TT.list] using hJ, KT.refl _⟩
  | node A y B ihA ihB =>
    intro n p s pre W ht hJ hN hL hs2 hs3
    have HLen : (TT.node A y B).list.length = A.list.length + B.list.length + 1 := by simp [TT.list]; omega
    obtain ⟨b, pl, pr, rfl, hbb, hA, hB⟩ := ht
    obtain ⟨r0, r1, r2, r3, r4⟩ := node_cells hbb
    have hdd : ∀ k : Nat, (F.depth.isSome = true → 1 ≤ k) := fun k h => by rw [hd] at h; cases h
    rw [HLen] at hL hs3
    have e4 : ((A.list.length + B.list.length + 1 : Nat) : Int) = (A.list.length : Int) + (B.list.length : Int) + 1 := by omega
    rw [e4] at r4
    have a0 : (0 : Int) ≤ (A.list.length : Int) := by omega
    have b0 : (0 : Int) ≤ (B.list.length : Int) := by omega
    have hsz : (A.list.length : Int) + (B.list.length : Int) + 1 ≤ 1152921504606846976 := by omega
    have hcA : CallsIn F (n - 1) Try.prog 53 #[.pointer pl] W fun e w' => e = .returned (.int .i64 (A.list.length : Int)) ∧ W = w' := hcount (n - 1) pl A W hA
    by_cases hge : (A.list.length : Int) + (B.list.length : Int) + 1 ≤ s
    · have hd0 : (TT.node A y B).list.drop s.toNat = [] := List.drop_eq_nil_of_le (by rw [HLen]; omega)
      have HD : Hid (type_of% hd0) := hd0
      have HJ : Hid (J pre W) := hJ
      clear ihA ihB hA hB hbb hd0 hN hL hJ e4 hcA
      refine callsIn_of_wp Try.func69 rfl h69 ?_ hro
      simp only [Try.ntmps69, List.size_toArray, List.length_cons, List.length_nil, Nat.reduceAdd, Nat.reduceSub, Array.replicate_succ, Array.replicate_zero, List.push_toArray, List.append_toArray, List.nil_append, List.cons_append]
      gi_wp2
      go_ret
      exact .inl ⟨rfl, by rw [HD.out, List.append_nil]; exact HJ.out, KT.refl _⟩
    by_cases hlt : s < (A.list.length : Int)
    · have hdr : (TT.node A y B).list.drop s.toNat = A.list.drop s.toNat ++ y :: B.list.drop (s - A.list.length - 1).toNat := drop_left hlt
      rw [hdr] at hN ⊢
      simp only [List.length_append, List.length_cons] at hN
      obtain ⟨R, HRD⟩ : ∃ R : Ending → World → Prop, Hid (R = fun e W' => (e = .returned (.bool true) ∧ J (pre ++ (A.list.drop s.toNat ++ y :: B.list.drop (s - A.list.length - 1).toNat)) W' ∧ KT W W') ∨ (e = .returned (.bool false) ∧ ∃ q, q <+: A.list.drop s.toNat ++ y :: B.list.drop (s - A.list.length - 1).toNat ∧ Jx (pre ++ q) W')) := ⟨_, show _ = _ from rfl⟩
      have hr2 : ∀ W2, KT W W2 → J (pre ++ A.list.drop s.toNat ++ [y]) W2 → Hid (∀ z, z = s - (A.list.length : Int) - 1 → CallsIn F (n - 1) Try.prog 69 #[.pointer pr, .int .i64 z, .func (.yield l) #[] #[]] W2 fun e W' => ∃ c, e = .returned (.bool c) ∧ R e W') := fun W2 k2 hJ2 => by
        rintro z rfl
        rw [HRD.out]
        refine (ihB (n - 1) pr (s - A.list.length - 1) _ W2 (hB.kt k2) hJ2 (by simp only [List.length_append, List.length_cons, List.length_nil]; omega) (by omega) (by omega) (by omega)).mono ?_
        rintro e W' (⟨he, hj, k⟩ | ⟨he, q, ⟨t, ht⟩, hx⟩)
        · exact ⟨true, he, .inl ⟨he, by simpa [List.append_assoc] using hj, k2.trans k⟩⟩
        · exact ⟨false, he, .inr ⟨he, A.list.drop s.toNat ++ y :: q, ⟨t, by rw [← ht]; simp⟩, by simpa [List.append_assoc] using hx⟩⟩
      have hy2 : ∀ W1, J (pre ++ A.list.drop s.toNat) W1 → KT W W1 → YieldAt F (n - 1) Try.prog l #[vP y] W1 fun e W2 =>
          (e = .returned (.bool true) ∧ W2.cell? ⟨b, 3, none⟩ = some (.pointer pr) ∧ Hid (∀ z, z = s - (A.list.length : Int) - 1 → CallsIn F (n - 1) Try.prog 69 #[.pointer pr, .int .i64 z, .func (.yield l) #[] #[]] W2 fun e W' => ∃ c, e = .returned (.bool c) ∧ R e W')) ∨
          (e = .returned (.bool false) ∧ R (.returned (.bool false)) W2) := fun W1 hJ1 hb1 =>
        YieldAt.mono (hY (n - 1) _ y W1 hJ1 (by simp only [List.length_append]; omega)) fun e W2 h => h.elim
          (fun ⟨he, hj, hb2⟩ => .inl ⟨he, (node_cells ((hb1.trans hb2) _ _ hbb)).2.2.2.1, hr2 W2 (hb1.trans hb2) hj⟩)
          (fun ⟨he, hx⟩ => .inr ⟨he, by rw [HRD.out]; exact .inr ⟨rfl, A.list.drop s.toNat ++ [y], ⟨B.list.drop (s - A.list.length - 1).toNat, by simp⟩, by simpa [List.append_assoc] using hx⟩⟩)
      have ih1 := (ihA (n - 1) pl s pre W hA hJ (by omega) (by omega) (by omega) (by omega)).mono (R' := fun e W1 =>
          (e = .returned (.bool true) ∧ W1.cell? ⟨b, 0, none⟩ = some (.int .i64 y.k) ∧ W1.cell? ⟨b, 1, none⟩ = some (.int .i64 y.m) ∧ YieldAt F (n - 1) Try.prog l #[vP y] W1 fun e W2 =>
          (e = .returned (.bool true) ∧ W2.cell? ⟨b, 3, none⟩ = some (.pointer pr) ∧ Hid (∀ z, z = s - (A.list.length : Int) - 1 → CallsIn F (n - 1) Try.prog 69 #[.pointer pr, .int .i64 z, .func (.yield l) #[] #[]] W2 fun e W' => ∃ c, e = .returned (.bool c) ∧ R e W')) ∨
          (e = .returned (.bool false) ∧ R (.returned (.bool false)) W2)) ∨
          (e = .returned (.bool false) ∧ R (.returned (.bool false)) W1))
        (fun e W1 h => h.elim (fun ⟨he, hj, k1⟩ => .inl ⟨he, (node_cells (k1 _ _ hbb)).1, (node_cells (k1 _ _ hbb)).2.1, hy2 W1 hj k1⟩) (fun ⟨he, q, hq, hx⟩ => .inr ⟨he, by rw [HRD.out]; exact .inr ⟨rfl, q, hq.trans (by simp), hx⟩⟩))
      have hsA : s ≤ (A.list.length : Int) := by omega
      have hlow : -2305843009213693954 ≤ s := by omega
      have hup : (A.list.length : Int) ≤ 1152921504606846976 := by omega
      rw [← HRD.out]
      clear hy2 hr2 ihA ihB hA hB hbb hN hL hJ e4 hdr hY hcount HLen hs3 hsz b0 HRD
      generalize (A.list.length : Int) = a at *
      have HW : Hid (IntKind.i64.wrap (IntKind.i64.wrap (s - a) - 1) = s - a - 1 ∧ IntKind.i64.wrap (s - a - 1) = s - a - 1) := ⟨by rw [wrap_ok (s - a) (by omega) (by omega), wrap_ok _ (by omega) (by omega)], wrap_ok _ (by omega) (by omega)⟩
      refine callsIn_of_wp Try.func69 rfl h69 ?_ hro
      simp only [Try.ntmps69, List.size_toArray, List.length_cons, List.length_nil, Nat.reduceAdd, Nat.reduceSub, Array.replicate_succ, Array.replicate_zero, List.push_toArray, List.append_toArray, List.nil_append, List.cons_append]
      gi_wp2_with (first
        | ((try refine ⟨hdd _, ?_⟩); gi_at_call 53; refine hcA.mono ?_; clear hcA; rintro e w2 ⟨rfl, rfl⟩)
        | ((try refine ⟨hdd _, ?_⟩); gi_at_call 69; refine ih1.mono ?_; clear ih1; rintro e W1 (⟨rfl, c0', c1', fn, tmps, assign, body, hy, hR⟩ | ⟨rfl, hx1⟩))
        | ((try refine ⟨hdd _, ?_⟩); refine hR.mono ?_; clear hR; rintro e W2 (⟨rfl, c3', hr2⟩ | ⟨rfl, hx2⟩))
        | ((try refine ⟨hdd _, ?_⟩); gi_at_call 69; refine (hr2.out _ (by first | rfl | exact HW.out.1 | exact HW.out.2)).mono ?_; clear hr2; rintro e W3 ⟨c3, rfl, hx3⟩))
      all_goals (first | exact hx3 | exact hx2 | exact hx1)
    by_cases heq : s = (A.list.length : Int)
    · have hdr : (TT.node A y B).list.drop s.toNat = y :: B.list.drop (s - A.list.length - 1).toNat := drop_mid heq
      rw [hdr] at hN ⊢
      simp only [List.length_cons] at hN
      obtain ⟨R, HRD⟩ : ∃ R : Ending → World → Prop, Hid (R = fun e W' => (e = .returned (.bool true) ∧ J (pre ++ (y :: B.list.drop (s - A.list.length - 1).toNat)) W' ∧ KT W W') ∨ (e = .returned (.bool false) ∧ ∃ q, q <+: y :: B.list.drop (s - A.list.length - 1).toNat ∧ Jx (pre ++ q) W')) := ⟨_, show _ = _ from rfl⟩
      have hr2 : ∀ W2, KT W W2 → J (pre ++ [y]) W2 → Hid (∀ z, z = s - (A.list.length : Int) - 1 → CallsIn F (n - 1) Try.prog 69 #[.pointer pr, .int .i64 z, .func (.yield l) #[] #[]] W2 fun e W' => ∃ c, e = .returned (.bool c) ∧ R e W') := fun W2 k2 hJ2 => by
        rintro z rfl
        rw [HRD.out]
        refine (ihB (n - 1) pr (s - A.list.length - 1) _ W2 (hB.kt k2) hJ2 (by simp only [List.length_append, List.length_cons, List.length_nil]; omega) (by omega) (by omega) (by omega)).mono ?_
        rintro e W' (⟨he, hj, k⟩ | ⟨he, q, ⟨t, ht⟩, hx⟩)
        · exact ⟨true, he, .inl ⟨he, by simpa [List.append_assoc] using hj, k2.trans k⟩⟩
        · exact ⟨false, he, .inr ⟨he, y :: q, ⟨t, by rw [← ht]; simp⟩, by simpa [List.append_assoc] using hx⟩⟩
      have hy2 : YieldAt F (n - 1) Try.prog l #[vP y] W fun e W2 =>
          (e = .returned (.bool true) ∧ W2.cell? ⟨b, 3, none⟩ = some (.pointer pr) ∧ Hid (∀ z, z = s - (A.list.length : Int) - 1 → CallsIn F (n - 1) Try.prog 69 #[.pointer pr, .int .i64 z, .func (.yield l) #[] #[]] W2 fun e W' => ∃ c, e = .returned (.bool c) ∧ R e W')) ∨
          (e = .returned (.bool false) ∧ R (.returned (.bool false)) W2) :=
        YieldAt.mono (hY (n - 1) _ y W hJ (by omega)) fun e W2 h => h.elim
          (fun ⟨he, hj, hb2⟩ => .inl ⟨he, (node_cells (hb2 _ _ hbb)).2.2.2.1, hr2 W2 hb2 hj⟩)
          (fun ⟨he, hx⟩ => .inr ⟨he, by rw [HRD.out]; exact .inr ⟨rfl, [y], ⟨B.list.drop (s - A.list.length - 1).toNat, by simp⟩, hx⟩⟩)
      obtain ⟨fn, tmps, assign, body, hy, hR⟩ := hy2
      have hup : (A.list.length : Int) ≤ 1152921504606846976 := by omega
      rw [← HRD.out]
      clear hr2 ihA ihB hA hB hbb hN hL hJ e4 hdr hY hcount HLen hs3 hsz HRD hlt hge
      generalize (A.list.length : Int) = a at *
      subst heq
      have hge : s < s + (B.list.length : Int) + 1 := by omega
      have HW : Hid (IntKind.i64.wrap (IntKind.i64.wrap (s - s) - 1) = s - s - 1 ∧ IntKind.i64.wrap (s - s - 1) = s - s - 1 ∧ (-1 : Int) = s - s - 1) := ⟨by rw [wrap_ok (s - s) (by omega) (by omega), wrap_ok _ (by omega) (by omega)], wrap_ok _ (by omega) (by omega), by omega⟩
      refine callsIn_of_wp Try.func69 rfl h69 ?_ hro
      simp only [Try.ntmps69, List.size_toArray, List.length_cons, List.length_nil, Nat.reduceAdd, Nat.reduceSub, Array.replicate_succ, Array.replicate_zero, List.push_toArray, List.append_toArray, List.nil_append, List.cons_append]
      gi_wp2_with (first
        | ((try refine ⟨hdd _, ?_⟩); gi_at_call 53; refine hcA.mono ?_; clear hcA; rintro e w2 ⟨rfl, rfl⟩)
        | ((try refine ⟨hdd _, ?_⟩); refine hR.mono ?_; clear hR; rintro e W2 (⟨rfl, c3', hr2⟩ | ⟨rfl, hx2⟩))
        | ((try refine ⟨hdd _, ?_⟩); gi_at_call 69; refine (hr2.out _ (by first | rfl | exact HW.out.1 | exact HW.out.2.1 | exact HW.out.2.2)).mono ?_; clear hr2; rintro e W3 ⟨c3, rfl, hx3⟩))
      all_goals (first | exact hx3 | exact hx2)
    · have hgt : (A.list.length : Int) < s := by omega
      have hdr : (TT.node A y B).list.drop s.toNat = B.list.drop (s - A.list.length - 1).toNat := drop_right hgt
      rw [hdr] at hN ⊢
      obtain ⟨R, HRD⟩ : ∃ R : Ending → World → Prop, Hid (R = fun e W' => (e = .returned (.bool true) ∧ J (pre ++ B.list.drop (s - A.list.length - 1).toNat) W' ∧ KT W W') ∨ (e = .returned (.bool false) ∧ ∃ q, q <+: B.list.drop (s - A.list.length - 1).toNat ∧ Jx (pre ++ q) W')) := ⟨_, show _ = _ from rfl⟩
      have hr2 : Hid (∀ z, z = s - (A.list.length : Int) - 1 → CallsIn F (n - 1) Try.prog 69 #[.pointer pr, .int .i64 z, .func (.yield l) #[] #[]] W fun e W' => ∃ c, e = .returned (.bool c) ∧ R e W') := by
        rintro z rfl
        rw [HRD.out]
        refine (ihB (n - 1) pr (s - A.list.length - 1) _ W hB hJ (by omega) (by omega) (by omega) (by omega)).mono ?_
        rintro e W' (⟨he, hj, k⟩ | ⟨he, q, hq, hx⟩)
        · exact ⟨true, he, .inl ⟨he, hj, k⟩⟩
        · exact ⟨false, he, .inr ⟨he, q, hq, hx⟩⟩
      have hup : (A.list.length : Int) ≤ 1152921504606846976 := by omega
      rw [← HRD.out]
      clear ihA ihB hA hB hbb hN hL hJ e4 hdr hY hcount HLen hs3 hsz b0 HRD hlt heq
      generalize (A.list.length : Int) = a at *
      have hlt2 : a ≤ s := by omega
      have HW : Hid (IntKind.i64.wrap (IntKind.i64.wrap (s - a) - 1) = s - a - 1 ∧ IntKind.i64.wrap (s - a - 1) = s - a - 1) := ⟨by rw [wrap_ok (s - a) (by omega) (by omega), wrap_ok _ (by omega) (by omega)], wrap_ok _ (by omega) (by omega)⟩
      refine callsIn_of_wp Try.func69 rfl h69 ?_ hro
      simp only [Try.ntmps69, List.size_toArray, List.length_cons, List.length_nil, Nat.reduceAdd, Nat.reduceSub, Array.replicate_succ, Array.replicate_zero, List.push_toArray, List.append_toArray, List.nil_append, List.cons_append]
      gi_wp2_with (first
        | ((try refine ⟨hdd _, ?_⟩); gi_at_call 53; refine hcA.mono ?_; clear hcA; rintro e w2 ⟨rfl, rfl⟩)
        | ((try refine ⟨hdd _, ?_⟩); gi_at_call 69; refine (hr2.out _ (by first | rfl | exact HW.out.1 | exact HW.out.2)).mono ?_; clear hr2; rintro e W3 ⟨c3, rfl, hx3⟩))
      refine ⟨fun _ h => (by cases h), ?_⟩
      gi_wp2_with (first
        | ((try refine ⟨hdd _, ?_⟩); gi_at_call 69; refine (hr2.out _ (by first | rfl | exact HW.out.1 | exact HW.out.2)).mono ?_; clear hr2; rintro e W3 ⟨c3, rfl, hx3⟩))
      all_goals (first | exact hx3 | trace_state)

end Go.Proofs.Ytkelhglflpdpeaa
