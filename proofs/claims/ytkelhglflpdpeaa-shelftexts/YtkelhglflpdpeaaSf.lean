/- The walk through a tree of texts. -/
import Derived.Test.YtkelhglflpdpeaaSe
import Derived.Test.YtkelhglflpdpeaaTq

namespace Go.Proofs.Ytkelhglflpdpeaa
open Go.RowKit Go.PlainAid Go.Shelf
attribute [local go_sem] Oper.semAt_some

/-- what is left of a tree's list behind the first s -/
theorem sdrop_left {l r : List St} {y : St} {s : Int} (h : s < (l.length : Int)) : (l ++ y :: r).drop s.toNat = l.drop s.toNat ++ y :: r.drop (s - l.length - 1).toNat := by
  rw [List.drop_append_of_le_length (by omega), show (s - l.length - 1).toNat = 0 by omega]; rfl
theorem sdrop_mid {l r : List St} {y : St} {s : Int} (h : s = (l.length : Int)) : (l ++ y :: r).drop s.toNat = y :: r.drop (s - l.length - 1).toNat := by
  rw [h, Int.toNat_natCast, List.drop_left, show ((l.length : Int) - l.length - 1).toNat = 0 by omega]; rfl
theorem sdrop_right {l r : List St} {y : St} {s : Int} (h : (l.length : Int) < s) : (l ++ y :: r).drop s.toNat = r.drop (s - l.length - 1).toNat := by
  obtain ⟨j, rfl⟩ : ∃ j : Nat, s = ((l.length + (j + 1) : Nat) : Int) := ⟨(s - l.length - 1).toNat, by omega⟩
  rw [Int.toNat_natCast, List.drop_length_add_append, show (((l.length + (j + 1) : Nat) : Int) - l.length - 1).toNat = j by omega]; rfl

set_option maxRecDepth 100000 in
set_option maxHeartbeats 800000 in
theorem sshow_in (F : Fence) (hd : F.depth = none) (h53 : F.fn 63) (h69 : F.fn 76) (hro : F.round = none) (hcount : ∀ (n : Nat) (p : Option Addr) (T : TS) (W : World), IsS W p T → CallsIn F n Try.prog 63 #[.pointer p] W fun e w' => e = .returned (.int .i64 (T.list.length : Int)) ∧ W = w') (l M : Nat) (J Jx : List St → World → Prop)
    (hY : ∀ m pre x W, J pre W → pre.length < M → YieldAt F m Try.prog l #[vT x] W fun e W' =>
      (e = .returned (.bool true) ∧ J (pre ++ [x]) W' ∧ KS W W') ∨ (e = .returned (.bool false) ∧ Jx (pre ++ [x]) W')) (T : TS) :
    ∀ (n : Nat) (p : Option Addr) (s : Int) (pre : List St) (W : World), IsS W p T → J pre W → pre.length + (T.list.drop s.toNat).length ≤ M → T.list.length ≤ 1152921504606846976 → s ≤ 9223372036854775807 → -1152921504606846977 ≤ s - T.list.length →
      CallsIn F n Try.prog 76 #[.pointer p, .int .i64 s, .func (.yield l) #[] #[]] W fun e W' => (e = .returned (.bool true) ∧ J (pre ++ T.list.drop s.toNat) W' ∧ KS W W') ∨ (e = .returned (.bool false) ∧ ∃ q, q <+: T.list.drop s.toNat ∧ Jx (pre ++ q) W') := by
  induction T with
  | leaf =>
    intro n p s pre W ht hJ _ _ _ _
    obtain rfl : p = none := ht
    refine callsIn_of_wp Try.func76 rfl h69 ?_ hro
    simp only [Try.ntmps76, List.size_toArray, List.length_cons, List.length_nil, Nat.reduceAdd, Nat.reduceSub, Array.replicate_succ, Array.replicate_zero, List.push_toArray, List.append_toArray, List.nil_append, List.cons_append]
    gi_wp2
    go_ret
    exact .inl ⟨rfl, by simpa [TS.list] using hJ, KS.refl _⟩
  | node A y B ihA ihB =>
    intro n p s pre W ht hJ hN hL hs2 hs3
    have HLen : (TS.node A y B).list.length = A.list.length + B.list.length + 1 := by simp [TS.list]; omega
    obtain ⟨b, pl, pr, rfl, hbb, hA, hB⟩ := ht
    obtain ⟨r0, r1, r2, r4⟩ := nodeS_cells hbb
    have hdd : ∀ k : Nat, (F.depth.isSome = true → 1 ≤ k) := fun k h => by rw [hd] at h; cases h
    rw [HLen] at hL hs3
    have e4 : ((A.list.length + B.list.length + 1 : Nat) : Int) = (A.list.length : Int) + (B.list.length : Int) + 1 := by omega
    rw [e4] at r4
    have a0 : (0 : Int) ≤ (A.list.length : Int) := by omega
    have b0 : (0 : Int) ≤ (B.list.length : Int) := by omega
    have hsz : (A.list.length : Int) + (B.list.length : Int) + 1 ≤ 1152921504606846976 := by omega
    have hcA : CallsIn F (n - 1) Try.prog 63 #[.pointer pl] W fun e w' => e = .returned (.int .i64 (A.list.length : Int)) ∧ W = w' := hcount (n - 1) pl A W hA
    by_cases hge : (A.list.length : Int) + (B.list.length : Int) + 1 ≤ s
    · have hd0 : (TS.node A y B).list.drop s.toNat = [] := List.drop_eq_nil_of_le (by rw [HLen]; omega)
      have HD : Hid (type_of% hd0) := hd0
      have HJ : Hid (J pre W) := hJ
      clear ihA ihB hA hB hbb hd0 hN hL hJ e4 hcA
      refine callsIn_of_wp Try.func76 rfl h69 ?_ hro
      simp only [Try.ntmps76, List.size_toArray, List.length_cons, List.length_nil, Nat.reduceAdd, Nat.reduceSub, Array.replicate_succ, Array.replicate_zero, List.push_toArray, List.append_toArray, List.nil_append, List.cons_append]
      gi_wp2
      go_ret
      exact .inl ⟨rfl, by rw [HD.out, List.append_nil]; exact HJ.out, KS.refl _⟩
    by_cases hlt : s < (A.list.length : Int)
    · have hdr : (TS.node A y B).list.drop s.toNat = A.list.drop s.toNat ++ y :: B.list.drop (s - A.list.length - 1).toNat := sdrop_left hlt
      rw [hdr] at hN ⊢
      simp only [List.length_append, List.length_cons] at hN
      obtain ⟨R, HRD⟩ : ∃ R : Ending → World → Prop, Hid (R = fun e W' => (e = .returned (.bool true) ∧ J (pre ++ (A.list.drop s.toNat ++ y :: B.list.drop (s - A.list.length - 1).toNat)) W' ∧ KS W W') ∨ (e = .returned (.bool false) ∧ ∃ q, q <+: A.list.drop s.toNat ++ y :: B.list.drop (s - A.list.length - 1).toNat ∧ Jx (pre ++ q) W')) := ⟨_, show _ = _ from rfl⟩
      have hr2 : ∀ W2, KS W W2 → J (pre ++ A.list.drop s.toNat ++ [y]) W2 → Hid (∀ z, z = s - (A.list.length : Int) - 1 → CallsIn F (n - 1) Try.prog 76 #[.pointer pr, .int .i64 z, .func (.yield l) #[] #[]] W2 fun e W' => ∃ c, e = .returned (.bool c) ∧ R e W') := fun W2 k2 hJ2 => by
        rintro z rfl
        rw [HRD.out]
        refine (ihB (n - 1) pr (s - A.list.length - 1) _ W2 (hB.kt k2) hJ2 (by simp only [List.length_append, List.length_cons, List.length_nil]; omega) (by omega) (by omega) (by omega)).mono ?_
        rintro e W' (⟨he, hj, k⟩ | ⟨he, q, ⟨t, ht⟩, hx⟩)
        · exact ⟨true, he, .inl ⟨he, by simpa [List.append_assoc] using hj, k2.trans k⟩⟩
        · exact ⟨false, he, .inr ⟨he, A.list.drop s.toNat ++ y :: q, ⟨t, by rw [← ht]; simp⟩, by simpa [List.append_assoc] using hx⟩⟩
      have hy2 : ∀ W1, J (pre ++ A.list.drop s.toNat) W1 → KS W W1 → YieldAt F (n - 1) Try.prog l #[vT y] W1 fun e W2 =>
          (e = .returned (.bool true) ∧ W2.cell? ⟨b, 2, none⟩ = some (.pointer pr) ∧ Hid (∀ z, z = s - (A.list.length : Int) - 1 → CallsIn F (n - 1) Try.prog 76 #[.pointer pr, .int .i64 z, .func (.yield l) #[] #[]] W2 fun e W' => ∃ c, e = .returned (.bool c) ∧ R e W')) ∨
          (e = .returned (.bool false) ∧ R (.returned (.bool false)) W2) := fun W1 hJ1 hb1 =>
        YieldAt.mono (hY (n - 1) _ y W1 hJ1 (by simp only [List.length_append]; omega)) fun e W2 h => h.elim
          (fun ⟨he, hj, hb2⟩ => .inl ⟨he, (nodeS_cells ((hb1.trans hb2) _ _ hbb)).2.2.1, hr2 W2 (hb1.trans hb2) hj⟩)
          (fun ⟨he, hx⟩ => .inr ⟨he, by rw [HRD.out]; exact .inr ⟨rfl, A.list.drop s.toNat ++ [y], ⟨B.list.drop (s - A.list.length - 1).toNat, by simp⟩, by simpa [List.append_assoc] using hx⟩⟩)
      have ih1 := (ihA (n - 1) pl s pre W hA hJ (by omega) (by omega) (by omega) (by omega)).mono (R' := fun e W1 =>
          (e = .returned (.bool true) ∧ W1.cell? ⟨b, 0, none⟩ = some (.string y) ∧ YieldAt F (n - 1) Try.prog l #[vT y] W1 fun e W2 =>
          (e = .returned (.bool true) ∧ W2.cell? ⟨b, 2, none⟩ = some (.pointer pr) ∧ Hid (∀ z, z = s - (A.list.length : Int) - 1 → CallsIn F (n - 1) Try.prog 76 #[.pointer pr, .int .i64 z, .func (.yield l) #[] #[]] W2 fun e W' => ∃ c, e = .returned (.bool c) ∧ R e W')) ∨
          (e = .returned (.bool false) ∧ R (.returned (.bool false)) W2)) ∨
          (e = .returned (.bool false) ∧ R (.returned (.bool false)) W1))
        (fun e W1 h => h.elim (fun ⟨he, hj, k1⟩ => .inl ⟨he, (nodeS_cells (k1 _ _ hbb)).1, hy2 W1 hj k1⟩) (fun ⟨he, q, hq, hx⟩ => .inr ⟨he, by rw [HRD.out]; exact .inr ⟨rfl, q, hq.trans (by simp), hx⟩⟩))
      have hsA : s ≤ (A.list.length : Int) := by omega
      have hlow : -2305843009213693954 ≤ s := by omega
      have hup : (A.list.length : Int) ≤ 1152921504606846976 := by omega
      rw [← HRD.out]
      clear hy2 hr2 ihA ihB hA hB hbb hN hL hJ e4 hdr hY hcount HLen hs3 hsz b0 HRD
      generalize (A.list.length : Int) = a at *
      have HW : Hid (IntKind.i64.wrap (IntKind.i64.wrap (s - a) - 1) = s - a - 1 ∧ IntKind.i64.wrap (s - a - 1) = s - a - 1) := ⟨by rw [wrap_ok (s - a) (by omega) (by omega), wrap_ok _ (by omega) (by omega)], wrap_ok _ (by omega) (by omega)⟩
      refine callsIn_of_wp Try.func76 rfl h69 ?_ hro
      simp only [Try.ntmps76, List.size_toArray, List.length_cons, List.length_nil, Nat.reduceAdd, Nat.reduceSub, Array.replicate_succ, Array.replicate_zero, List.push_toArray, List.append_toArray, List.nil_append, List.cons_append]
      gi_wp2_with (first
        | ((try refine ⟨hdd _, ?_⟩); gi_at_call 63; refine hcA.mono ?_; clear hcA; rintro e w2 ⟨rfl, rfl⟩)
        | ((try refine ⟨hdd _, ?_⟩); gi_at_call 76; refine ih1.mono ?_; clear ih1; rintro e W1 (⟨rfl, c0', fn, tmps, assign, body, hy, hR⟩ | ⟨rfl, hx1⟩))
        | ((try refine ⟨hdd _, ?_⟩); refine hR.mono ?_; clear hR; rintro e W2 (⟨rfl, c3', hr2⟩ | ⟨rfl, hx2⟩))
        | ((try refine ⟨hdd _, ?_⟩); gi_at_call 76; refine (hr2.out _ (by first | rfl | exact HW.out.1 | exact HW.out.2)).mono ?_; clear hr2; rintro e W3 ⟨c3, rfl, hx3⟩))
      all_goals (first | exact hx3 | exact hx2 | exact hx1)
    by_cases heq : s = (A.list.length : Int)
    · have hdr : (TS.node A y B).list.drop s.toNat = y :: B.list.drop (s - A.list.length - 1).toNat := sdrop_mid heq
      rw [hdr] at hN ⊢
      simp only [List.length_cons] at hN
      obtain ⟨R, HRD⟩ : ∃ R : Ending → World → Prop, Hid (R = fun e W' => (e = .returned (.bool true) ∧ J (pre ++ (y :: B.list.drop (s - A.list.length - 1).toNat)) W' ∧ KS W W') ∨ (e = .returned (.bool false) ∧ ∃ q, q <+: y :: B.list.drop (s - A.list.length - 1).toNat ∧ Jx (pre ++ q) W')) := ⟨_, show _ = _ from rfl⟩
      have hr2 : ∀ W2, KS W W2 → J (pre ++ [y]) W2 → Hid (∀ z, z = s - (A.list.length : Int) - 1 → CallsIn F (n - 1) Try.prog 76 #[.pointer pr, .int .i64 z, .func (.yield l) #[] #[]] W2 fun e W' => ∃ c, e = .returned (.bool c) ∧ R e W') := fun W2 k2 hJ2 => by
        rintro z rfl
        rw [HRD.out]
        refine (ihB (n - 1) pr (s - A.list.length - 1) _ W2 (hB.kt k2) hJ2 (by simp only [List.length_append, List.length_cons, List.length_nil]; omega) (by omega) (by omega) (by omega)).mono ?_
        rintro e W' (⟨he, hj, k⟩ | ⟨he, q, ⟨t, ht⟩, hx⟩)
        · exact ⟨true, he, .inl ⟨he, by simpa [List.append_assoc] using hj, k2.trans k⟩⟩
        · exact ⟨false, he, .inr ⟨he, y :: q, ⟨t, by rw [← ht]; simp⟩, by simpa [List.append_assoc] using hx⟩⟩
      have hy2 : YieldAt F (n - 1) Try.prog l #[vT y] W fun e W2 =>
          (e = .returned (.bool true) ∧ W2.cell? ⟨b, 2, none⟩ = some (.pointer pr) ∧ Hid (∀ z, z = s - (A.list.length : Int) - 1 → CallsIn F (n - 1) Try.prog 76 #[.pointer pr, .int .i64 z, .func (.yield l) #[] #[]] W2 fun e W' => ∃ c, e = .returned (.bool c) ∧ R e W')) ∨
          (e = .returned (.bool false) ∧ R (.returned (.bool false)) W2) :=
        YieldAt.mono (hY (n - 1) _ y W hJ (by omega)) fun e W2 h => h.elim
          (fun ⟨he, hj, hb2⟩ => .inl ⟨he, (nodeS_cells (hb2 _ _ hbb)).2.2.1, hr2 W2 hb2 hj⟩)
          (fun ⟨he, hx⟩ => .inr ⟨he, by rw [HRD.out]; exact .inr ⟨rfl, [y], ⟨B.list.drop (s - A.list.length - 1).toNat, by simp⟩, hx⟩⟩)
      obtain ⟨fn, tmps, assign, body, hy, hR⟩ := hy2
      have hup : (A.list.length : Int) ≤ 1152921504606846976 := by omega
      rw [← HRD.out]
      clear hr2 ihA ihB hA hB hbb hN hL hJ e4 hdr hY hcount HLen hs3 hsz HRD hlt hge
      generalize (A.list.length : Int) = a at *
      subst heq
      have hge : s < s + (B.list.length : Int) + 1 := by omega
      have HW : Hid (IntKind.i64.wrap (IntKind.i64.wrap (s - s) - 1) = s - s - 1 ∧ IntKind.i64.wrap (s - s - 1) = s - s - 1 ∧ (-1 : Int) = s - s - 1) := ⟨by rw [wrap_ok (s - s) (by omega) (by omega), wrap_ok _ (by omega) (by omega)], wrap_ok _ (by omega) (by omega), by omega⟩
      refine callsIn_of_wp Try.func76 rfl h69 ?_ hro
      simp only [Try.ntmps76, List.size_toArray, List.length_cons, List.length_nil, Nat.reduceAdd, Nat.reduceSub, Array.replicate_succ, Array.replicate_zero, List.push_toArray, List.append_toArray, List.nil_append, List.cons_append]
      gi_wp2_with (first
        | ((try refine ⟨hdd _, ?_⟩); gi_at_call 63; refine hcA.mono ?_; clear hcA; rintro e w2 ⟨rfl, rfl⟩)
        | ((try refine ⟨hdd _, ?_⟩); refine hR.mono ?_; clear hR; rintro e W2 (⟨rfl, c3', hr2⟩ | ⟨rfl, hx2⟩))
        | ((try refine ⟨hdd _, ?_⟩); gi_at_call 76; refine (hr2.out _ (by first | rfl | exact HW.out.1 | exact HW.out.2.1 | exact HW.out.2.2)).mono ?_; clear hr2; rintro e W3 ⟨c3, rfl, hx3⟩))
      all_goals (first | exact hx3 | exact hx2)
    · have hgt : (A.list.length : Int) < s := by omega
      have hdr : (TS.node A y B).list.drop s.toNat = B.list.drop (s - A.list.length - 1).toNat := sdrop_right hgt
      rw [hdr] at hN ⊢
      obtain ⟨R, HRD⟩ : ∃ R : Ending → World → Prop, Hid (R = fun e W' => (e = .returned (.bool true) ∧ J (pre ++ B.list.drop (s - A.list.length - 1).toNat) W' ∧ KS W W') ∨ (e = .returned (.bool false) ∧ ∃ q, q <+: B.list.drop (s - A.list.length - 1).toNat ∧ Jx (pre ++ q) W')) := ⟨_, show _ = _ from rfl⟩
      have hr2 : Hid (∀ z, z = s - (A.list.length : Int) - 1 → CallsIn F (n - 1) Try.prog 76 #[.pointer pr, .int .i64 z, .func (.yield l) #[] #[]] W fun e W' => ∃ c, e = .returned (.bool c) ∧ R e W') := by
        rintro z rfl
        rw [HRD.out]
        refine (ihB (n - 1) pr (s - A.list.length - 1) _ W hB hJ (by omega) (by omega) (by omega) (by omega)).mono ?_
        rintro e W' (⟨he, hj, k⟩ | ⟨he, q, hq, hx⟩)
        · exact ⟨true, he, .inl ⟨he, hj, k⟩⟩
        · exact ⟨false, he, .inr ⟨he, q, hq, hx⟩⟩
      have hup : (A.list.length : Int) ≤ 1152921504606846976 := by omega
      rw [← HRD.out]
      clear ihA ihB hA hB hbb hN hL hJ e4 hdr hY hcount HLen hs3 hsz b0 HRD hlt heq
      generalize (A.list.length : Int) = a at *
      have hlt2 : a ≤ s := by omega
      have HW : Hid (IntKind.i64.wrap (IntKind.i64.wrap (s - a) - 1) = s - a - 1 ∧ IntKind.i64.wrap (s - a - 1) = s - a - 1) := ⟨by rw [wrap_ok (s - a) (by omega) (by omega), wrap_ok _ (by omega) (by omega)], wrap_ok _ (by omega) (by omega)⟩
      refine callsIn_of_wp Try.func76 rfl h69 ?_ hro
      simp only [Try.ntmps76, List.size_toArray, List.length_cons, List.length_nil, Nat.reduceAdd, Nat.reduceSub, Array.replicate_succ, Array.replicate_zero, List.push_toArray, List.append_toArray, List.nil_append, List.cons_append]
      gi_wp2_with (first
        | ((try refine ⟨hdd _, ?_⟩); gi_at_call 63; refine hcA.mono ?_; clear hcA; rintro e w2 ⟨rfl, rfl⟩)
        | ((try refine ⟨hdd _, ?_⟩); gi_at_call 76; refine (hr2.out _ (by first | rfl | exact HW.out.1 | exact HW.out.2)).mono ?_; clear hr2; rintro e W3 ⟨c3, rfl, hx3⟩))
      refine ⟨fun _ h => (by cases h), ?_⟩
      gi_wp2_with (first
        | ((try refine ⟨hdd _, ?_⟩); gi_at_call 76; refine (hr2.out _ (by first | rfl | exact HW.out.1 | exact HW.out.2)).mono ?_; clear hr2; rintro e W3 ⟨c3, rfl, hx3⟩))
      all_goals (first | exact hx3 | trace_state)

theorem sfrom_any (p : Option Addr) (s : Int) (w : World) : Calls Try.prog 61 #[.pointer p, .int .i64 s] w fun e w' =>
    e = .returned (.func (.func 75) #[] #[.pointer (some ⟨w.heap.size, 0, none⟩), .pointer (some ⟨w.heap.size + 1, 0, none⟩)]) ∧ w' = (w.alloc (.cells #[.pointer p] 93)).alloc (.cells #[.int .i64 s] 3) := by
  go_enter Try.func61, Try.ntmps61
  go_wp2
  go_ret
  exact ⟨rfl, rfl⟩

set_option maxHeartbeats 1000000 in
theorem sfrom1_in (F : Fence) (hd : F.depth = none) (n : Nat) (h53 : F.fn 63) (h68 : F.fn 75) (h69 : F.fn 76) (hro : F.round = none) (hcount : ∀ (n : Nat) (p : Option Addr) (T : TS) (W : World), IsS W p T → CallsIn F n Try.prog 63 #[.pointer p] W fun e w' => e = .returned (.int .i64 (T.list.length : Int)) ∧ W = w')
    (l B1 B2 : Nat) (p : Option Addr) (s : Nat) (T : TS) (J Jx : List St → World → Prop) (hTl : T.list.length ≤ 1152921504606846976) (hsl : s ≤ 9223372036854775807)
    (hY : ∀ pre x W, J pre W → pre.length < (T.list.drop s).length → YieldAt F (n - 1) Try.prog l #[vT x] W fun e W' =>
      (e = .returned (.bool true) ∧ J (pre ++ [x]) W' ∧ KS W W') ∨ (e = .returned (.bool false) ∧ Jx (pre ++ [x]) W'))
    (W : World) (hB1 : W.cell? ⟨B1, 0, none⟩ = some (.pointer p)) (hB2 : W.cell? ⟨B2, 0, none⟩ = some (.int .i64 (s : Int))) (hT : IsS W p T) (h0 : J [] W) :
    CallsIn F n Try.prog 75 #[.func (.yield l) #[] #[], .pointer (some ⟨B1, 0, none⟩), .pointer (some ⟨B2, 0, none⟩)] W fun e W' => (∃ v, e = .returned v) ∧
      ((∃ ys, ys = T.list.drop s ∧ J ys W') ∨ (∃ pre, pre <+: T.list.drop s ∧ Jx pre W')) := by
  have hdd : ∀ k : Nat, (F.depth.isSome = true → 1 ≤ k) := fun k h => by rw [hd] at h; cases h
  have hp := sshow_in F hd h53 h69 hro hcount l (T.list.drop s).length J Jx (fun m pre x W hj hl => yieldAny hd m (hY pre x W hj hl)) T (n - 1) p (s : Int) [] W hT h0 (by simp) hTl (by omega) (by omega)
  rw [Int.toNat_natCast] at hp
  clear hY hT h0 hcount hTl hsl
  refine callsIn_of_wp Try.func75 rfl h68 ?_ hro
  simp only [Try.ntmps75, List.size_toArray, List.length_cons, List.length_nil, Nat.reduceAdd, Nat.reduceSub, Array.replicate_succ, Array.replicate_zero, List.push_toArray, List.append_toArray, List.nil_append, List.cons_append]
  gi_wp2_with ((try refine ⟨hdd _, ?_⟩); gi_at_call 76; refine hp.mono ?_; clear hp; rintro e W1 (⟨rfl, hJ1, _⟩ | ⟨rfl, q, hq, hx⟩))
  · go_end0
    exact ⟨⟨_, rfl⟩, .inl ⟨_, rfl, by simpa using hJ1⟩⟩
  · go_end0
    exact ⟨⟨_, rfl⟩, .inr ⟨q, hq, by simpa using hx⟩⟩

/-- a sequence that tells l -/
structure SqS (w : World) (B1 B2 : Nat) (l : List St) : Prop where
  ex : ∃ p s T, w.heap[B1]? = some (.cells #[.pointer p] 93 (0, 0)) ∧ w.heap[B2]? = some (.cells #[.int .i64 ((s : Nat) : Int)] 3 (0, 0)) ∧ IsS w p T ∧ l = T.list.drop s ∧ T.list.length ≤ 1152921504606846976 ∧ s ≤ 9223372036854775807
abbrev vSs (B1 B2 : Nat) : Value := .func (.func 75) #[] #[.pointer (some ⟨B1, 0, none⟩), .pointer (some ⟨B2, 0, none⟩)]
theorem SqS.keep {F : List Nat} {w w' : World} {B1 B2 : Nat} {l : List St} (h : SqS w B1 B2 l) (k : Keep F w w') (kt : KS w w') (h1 : B1 ∉ F) (h2 : B2 ∉ F) : SqS w' B1 B2 l := by
  obtain ⟨p, s, T, a, b, c, d⟩ := h.ex
  exact ⟨p, s, T, (k.block _ (Array.getElem?_eq_some_iff.1 a).1 h1).trans a, (k.block _ (Array.getElem?_eq_some_iff.1 b).1 h2).trans b, c.kt kt, d⟩
theorem SqS.keep0 {w w' : World} {B1 B2 : Nat} {l : List St} (h : SqS w B1 B2 l) (k : Keep [] w w') : SqS w' B1 B2 l := h.keep k k.ks0 (by simp) (by simp)
theorem SqS.len {w : World} {B1 B2 : Nat} {l : List St} (h : SqS w B1 B2 l) : l.length ≤ 1152921504606846976 := by
  obtain ⟨p, s, T, a, b, c, d, e, f⟩ := h.ex
  rw [d]; simp; omega
theorem SqS.lt {w : World} {B1 B2 : Nat} {l : List St} (h : SqS w B1 B2 l) : B1 < w.heap.size ∧ B2 < w.heap.size := by
  obtain ⟨p, s, T, a, b, c, d⟩ := h.ex
  exact ⟨(Array.getElem?_eq_some_iff.1 a).1, (Array.getElem?_eq_some_iff.1 b).1⟩
theorem SqS.of_from {p : Option Addr} {T : TS} {w : World} (s : Nat) (h : IsS w p T) (hl : T.list.length ≤ 1152921504606846976) (hs : s ≤ 9223372036854775807) :
    SqS ((w.alloc (.cells #[.pointer p] 93)).alloc (.cells #[.int .i64 (s : Int)] 3)) w.heap.size (w.heap.size + 1) (T.list.drop s) := by
  refine ⟨p, s, T, ?_, ?_, h.keep ((Keep.alloc1 _ _).alloc _), rfl, hl, hs⟩
  · exact (Below.heap_alloc _ _ _ (by simp)).trans (heap_alloc_new w _)
  · have := heap_alloc_new (w.alloc (.cells #[.pointer p] 93)) (.cells #[.int .i64 (s : Int)] 3)
    rwa [World.size_alloc] at this

theorem SqS.stops {w : World} {B1 B2 : Nat} {l : List St} (h : SqS w B1 B2 l) (n : Nat) :
    SeqStopsK Fence.wide n Try.prog 75 #[.pointer (some ⟨B1, 0, none⟩), .pointer (some ⟨B2, 0, none⟩)] (fun x : St => #[vT x]) KS (fun ys => ys = l) (fun pre => pre <+: l) l.length w := fun l9 J Jx W hW _ _ hY h0 => by
  obtain ⟨p, s, T, a, b, c, d, e1, e2⟩ := (h.keep0 (Keep.ofBelow hW)).ex
  subst d
  refine sfrom1_in Fence.wide rfl n trivial trivial trivial rfl (fun n p T W hT => callsIn_wide.2 ((scount_any p T W hT).mono (fun e w' h => ⟨h.1, h.2.symm⟩))) l9 B1 B2 p s T J Jx e1 e2 hY W ?_ ?_ c h0
  · unfold World.cell?; rw [a]; rfl
  · unfold World.cell?; rw [b]; rfl


end Go.Proofs.Ytkelhglflpdpeaa
