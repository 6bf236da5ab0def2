/- TokensThere, walked. -/
import Derived.Test.YtmglbcldjhdhkaaTkKc
import Derived.Test.YtmglbcldjhdhkaaTkC3
import Derived.Deep.QuietTactic
import Derived.BigQuiet
namespace Go.Proofs.Ytmglbcldjhdhkaa
open Go.RowKit Go.PlainAid

theorem RowS.at {w : World} {a : Option Addr} {n c : Nat} {l : List (List UInt8)} (h : RowS w (.slice a n c) l) (i : Nat) (hi : i < l.length) : ∃ g, a = some ⟨g, 0, none⟩ ∧ w.cell? ⟨g, i, none⟩ = some (.string (ba l[i])) := by
  rcases RowC.cases h with ⟨h0, _⟩ | ⟨g, cap, e, _, _, _, hc, _⟩
  · omega
  · simp only [Value.slice.injEq] at e
    obtain ⟨rfl, rfl, rfl⟩ := e
    refine ⟨g, rfl, ?_⟩
    rw [hc i (by omega)]
    simp [strC, List.getElem?_eq_getElem hi]
theorem RowS.slice {w : World} {v : Value} {l : List (List UInt8)} (h : RowS w v l) : ∃ a c, v = .slice a l.length c := by
  rcases RowC.cases h with ⟨h0, _, e⟩ | ⟨g, cap, e, _, _, _, hc, _⟩
  · exact ⟨none, 0, by rw [e, h0]⟩
  · exact ⟨_, _, e⟩
/-- what the scan of a printed text tells -/
theorem scan_line (P : List TokD) (hall : ∀ t ∈ P, printB t = true) (hj : (joinL P).length ≤ 65536) (htx : ∀ t ∈ P, t.text.length ≤ 2147483647) (w : World) :
    Calls Try.prog 9 #[.string (ba (joinL P))] w fun e w' => ∃ a c, e = .returned (.tuple #[.slice a (P.length + 1) c, .agg #[.int .i64 0, .int .i64 0, .int .i64 0]]) ∧ Ts4 w' (.slice a (P.length + 1) c) (lineT 1 true P) ∧ Keep [] w w' := by
  have h := scan_any (ba (joinL P)) w (by rw [ba_size]; omega)
  rw [ba_toList, scanT, scan_join P hall hj] at h
  simp only [Option.getD_some] at h
  refine h.mono ?_
  rintro e w' ⟨v, rfl, r, k, -⟩
  have ht : ∀ t ∈ lineT 1 true P, t.text.length ≤ 140737488351232 := by
    obtain ⟨Q, h1, h2, h3⟩ := line_app P 1 true
    rw [h1]
    intro t ht
    rcases List.mem_append.1 ht with ht | ht
    · obtain ⟨i, hi, rfl⟩ := List.getElem_of_mem ht
      have := sameKT.at h3 i hi (by omega)
      rw [← this.2]
      have := htx P[i] (List.getElem_mem (by omega))
      omega
    · rw [List.mem_singleton.1 ht]; simp
  have T := Ts4.ofRow r ht
  obtain ⟨a, c, e, _⟩ := T.ex
  rw [line_len] at e
  subst e
  exact ⟨a, c, rfl, T, k⟩
theorem line_get {w : World} {a : Option Addr} {n c : Nat} {P : List TokD} (h : Ts4 w (.slice a n c) (lineT 1 true P)) (i : Nat) (hi : i < P.length) : ∃ b o, a = some ⟨b, o, none⟩ ∧ w.cell? ⟨b, o + i * 4 + 2, none⟩ = some (.int .i64 1) ∧ w.cell? ⟨b, o + i * 4 + 3, none⟩ = some (.int .i64 (colC P i : Int)) := by
  have hl : i < (lineT 1 true P).length := by rw [line_len]; omega
  obtain ⟨_, b, o, e, _, _, c2, c3⟩ := h.at i hl
  have h1 := line_at P 1 true i hi
  rw [List.getElem?_eq_getElem hl, Option.some.injEq] at h1
  rw [h1] at c2 c3
  rw [colF_C P i hi] at c3
  exact ⟨b, o, e, c2, c3⟩
theorem line_last {w : World} {a : Option Addr} {n c : Nat} {P : List TokD} (h : Ts4 w (.slice a n c) (lineT 1 true P)) : ∃ b o, a = some ⟨b, o, none⟩ ∧ w.cell? ⟨b, o + P.length * 4, none⟩ = some (.int .i64 7) ∧ w.cell? ⟨b, o + P.length * 4 + 1, none⟩ = some (.string ⟨#[]⟩) ∧ w.cell? ⟨b, o + P.length * 4 + 2, none⟩ = some (.int .i64 1) ∧ w.cell? ⟨b, o + P.length * 4 + 3, none⟩ = some (.int .i64 ((joinL P).length + 1 : Nat)) := by
  have hl : P.length < (lineT 1 true P).length := by rw [line_len]; omega
  obtain ⟨_, b, o, e, c0, c1, c2, c3⟩ := h.at P.length hl
  have h1 := line_end P 1 true
  rw [List.getElem?_eq_getElem hl, Option.some.injEq, weave_join] at h1
  rw [h1] at c0 c1 c2 c3
  refine ⟨b, o, e, c0, c1, c2, ?_⟩
  rw [c3, Nat.add_comm]

set_option maxRecDepth 1000000 in
set_option maxHeartbeats 4000000 in
theorem there_law (v : Value) (l : List TokD) (w : World) (h : Ts4 w v l) :
    Calls Try.prog 6 #[v] w fun e w' => e = .returned (.bool true) ∧ Keep [] w w' := by
  have hT : Hid (Ts4 w v l) := h
  cases hb : beyondL l with
  | true =>
    have HB : Hid (Calls Try.prog 13 #[v] w fun e w' => e = .returned (.bool true) ∧ w' = w) := by
      have := beyond_any v l w h
      rwa [hb] at this
    go_enter Try.func6, Try.ntmps6
    go_wp2_with (go_at_call 13; refine (HB.out).mono ?_; rintro e w1 ⟨rfl, rfl⟩)
    go_ret
    exact ⟨rfl, Keep.refl _ _⟩
  | false =>
    have HB : Hid (Calls Try.prog 13 #[v] w fun e w' => e = .returned (.bool false) ∧ w' = w) := by
      have := beyond_any v l w h
      rwa [hb] at this
    obtain ⟨htx, hlen⟩ := beyond_ok hb
    have HTX : Hid _ := htx
    clear h htx hb
    rcases print_cases l with hp | hp | ⟨hp, hall, hj⟩
    · have HP : Hid (∀ w v, Ts4 w v l → Calls Try.prog 15 #[v] w fun e w' => e = .returned (.tuple #[.string ⟨#[]⟩, .int .i64 50]) ∧ Keep [] w w') := fun w v h => by
        have := print_any v l w h
        rwa [hp] at this
      clear hp
      go_enter Try.func6, Try.ntmps6
      go_wp2_with (first | (go_at_call 13; refine (HB.out).mono ?_; rintro e w1 ⟨rfl, rfl⟩) | (go_at_call 12; refine (awake_any _).mono ?_; rintro e w2 ⟨rfl, k2⟩) | (go_at_call 19; refine (copyT_any v l w2 (hT.out.keep k2 (Off.nil _)) hlen).mono ?_; rintro e w3 ⟨v3, rfl, r3, k3, -⟩) | (go_at_call 15; refine (HP.out w3 v3 (Ts4.ofRow r3 hT.out.txt)).mono ?_; rintro e w4 ⟨rfl, k4⟩))
      go_ret
      exact ⟨rfl, (k2.trans' k3).trans' k4⟩
    · have HP : Hid (∀ w v, Ts4 w v l → Calls Try.prog 15 #[v] w fun e w' => e = .returned (.tuple #[.string ⟨#[]⟩, .int .i64 3]) ∧ Keep [] w w') := fun w v h => by
        have := print_any v l w h
        rwa [hp] at this
      clear hp
      go_enter Try.func6, Try.ntmps6
      go_wp2_with (first | (go_at_call 13; refine (HB.out).mono ?_; rintro e w1 ⟨rfl, rfl⟩) | (go_at_call 12; refine (awake_any _).mono ?_; rintro e w2 ⟨rfl, k2⟩) | (go_at_call 19; refine (copyT_any v l w2 (hT.out.keep k2 (Off.nil _)) hlen).mono ?_; rintro e w3 ⟨v3, rfl, r3, k3, -⟩) | (go_at_call 15; refine (HP.out w3 v3 (Ts4.ofRow r3 hT.out.txt)).mono ?_; rintro e w4 ⟨rfl, k4⟩))
      go_ret
      exact ⟨rfl, (k2.trans' k3).trans' k4⟩
    · have hA := ahead_cut l hall
      have hsub : ∀ t ∈ cutE l, t ∈ l := by
        intro t ht
        unfold cutE at ht
        split at ht
        · split at ht
          · exact (List.dropLast_sublist l).subset ht
          · exact ht
        · exact ht
      have hPl : (cutE l).length ≤ l.length := by
        unfold cutE
        split
        · split
          · simp
          · exact Nat.le_refl _
        · exact Nat.le_refl _
      have HTP : Hid (∀ t ∈ cutE l, t.text.length ≤ 2147483647) := fun t ht => HTX.out t (hsub t ht)
      have HP : Hid (∀ w v, Ts4 w v l → Calls Try.prog 15 #[v] w fun e w' => e = .returned (.tuple #[.string (ba (joinL (cutE l))), .int .i64 0]) ∧ Keep [] w w') := fun w v h => by
        have := print_any v l w h
        rwa [hp] at this
      have HA : Hid (∀ w v, Ts4 w v l → Calls Try.prog 21 #[v] w fun e w' => ∃ v', e = .returned v' ∧ Ts4 w v' (cutE l) ∧ w' = w) := fun w v h => by
        have := ahead_any v l w h
        rwa [hA] at this
      have HK : Hid (∀ w v a, Ts4 w v l → Ts4 w a (lineT 1 true (cutE l)) → Calls Try.prog 22 #[a, v] w fun e w' => e = .returned (.bool true) ∧ Keep [] w w') := fun w v a h h2 => alike_yes a v _ l w h2 h (by rw [hA]; exact line_same _)
      generalize cutE l = P at *
      have hPn : P.length ≤ 268435455 := by omega
      have HS : Hid (∀ w, Calls Try.prog 9 #[.string (ba (joinL P))] w fun e w' => ∃ a c, e = .returned (.tuple #[.slice a (P.length + 1) c, .agg #[.int .i64 0, .int .i64 0, .int .i64 0]]) ∧ Ts4 w' (.slice a (P.length + 1) c) (lineT 1 true P) ∧ Keep [] w w') := scan_line P hall hj HTP.out
      have HQ : Hid (∀ w v, Ts4 w v P → Calls Try.prog 20 #[v] w fun e w' => ∃ a c, e = .returned (.tuple #[.slice a P.length c, .bool true]) ∧ RowS w' (.slice a P.length c) (P.map oneL) ∧ Keep [] w w') := fun w v h => by
        refine (pieces_any v P w h hall (fun t ht => Nat.le_trans (one_join P t ht) hj) hPn).mono ?_
        rintro e w' ⟨v', rfl, r, k, -⟩
        obtain ⟨a, c, rfl⟩ := r.slice
        rw [List.length_map] at r ⊢
        exact ⟨a, c, rfl, r, k⟩
      have Hall : Hid _ := hall
      have hJs : (ba (joinL P)).size = (joinL P).length := ba_size _
      clear hp hall hA hsub hPl HTP
      go_enter Try.func6, Try.ntmps6
      go_wp2_with (first | (go_at_call 13; refine (HB.out).mono ?_; rintro e w1 ⟨rfl, rfl⟩) | (go_at_call 12; refine (awake_any _).mono ?_; rintro e w2 ⟨rfl, k2⟩) | (go_at_call 19; refine (copyT_any v l w2 (hT.out.keep k2 (Off.nil _)) (by omega)).mono ?_; rintro e w3 ⟨v3, rfl, r3, k3, -⟩) | (go_at_call 15; refine (HP.out w3 v3 (Ts4.ofRow r3 hT.out.txt)).mono ?_; rintro e w4 ⟨rfl, k4⟩) | (go_at_call 9; refine (HS.out w4).mono ?_; rintro e w5 ⟨am, cm, rfl, T5, k5⟩))
      have hK5 : Hid (Keep [] w1 (w5.alloc (.cells #[.int .i64 0, .int .i64 0, .int .i64 0] 25 (0, 0)))) := (((k2.trans' k3).trans' k4).trans' k5).alloc _
      have hM5 : Hid (Ts4 (w5.alloc (.cells #[.int .i64 0, .int .i64 0, .int .i64 0] 25 (0, 0))) (.slice am (P.length + 1) cm) (lineT 1 true P)) := T5.keep (Keep.alloc1 w5 _) (Off.nil _)
      have hS5 : (w5.alloc (.cells #[.int .i64 0, .int .i64 0, .int .i64 0] 25 (0, 0))).heap[w5.heap.size]? = some (.cells #[.int .i64 0, .int .i64 0, .int .i64 0] 25 (0, 0)) := heap_alloc_new w5 _
      clear k2 k3 k4 k5 r3 T5 HB HP HS HTX
      generalize w5.alloc (.cells #[.int .i64 0, .int .i64 0, .int .i64 0] 25 (0, 0)) = W5 at *
      generalize w5.heap.size = sp at *
      refine (HA.out W5 v (hT.out.keep hK5.out (Off.nil _))).mono ?_
      rintro e w6 ⟨v6, rfl, T6, rfl⟩
      go_wp2_with fail
      refine (HQ.out _ v6 T6).mono ?_
      rintro e w7 ⟨a7, c7, rfl, R7, k7⟩
      have hR7 : Hid _ := R7
      have hM7 : Hid _ := hM5.out.keep k7 (Off.nil _)
      have hT7 : Hid _ := (hT.out.keep hK5.out (Off.nil _)).keep k7 (Off.nil _)
      have hK7 : Hid (Keep [] w1 w7) := hK5.out.trans' k7
      have hS7 := (k7.block sp (Array.getElem?_eq_some_iff.1 hS5).1 (by simp)).trans hS5
      obtain ⟨s0, s1, s2, -, -, -⟩ := box3 hS7
      have hm0 : ((P.length : Int) + 1 == 0) = false := by simp; omega
      clear R7 k7 hM5 hK5 hS5 T6 HA HQ hT
      go_wp2_with fail
      refine (HK.out w7 v _ hT7.out hM7.out).mono ?_
      rintro e w8 ⟨rfl, k8⟩
      have hR8 : Hid (RowS w8 (.slice a7 P.length c7) (P.map oneL)) := RowC.keep hR7.out k8 (Off.nil _)
      have hM8 : Hid _ := hM7.out.keep k8 (Off.nil _)
      have hK8 : Hid (Keep [] w1 w8) := hK7.out.trans' k8
      clear k8 hR7 hM7 hK7 hT7 HK s0 s1 s2 hS7
      go_wp2
      clear hm0
      go_loopw [9, 10] (fun z9 z10 wr => ∃ (k : Nat), z9 = .int .i64 (colC P k : Int) ∧ z10 = .int .i64 (k : Int) ∧ k ≤ P.length ∧ Hid (Keep [] w8 wr)) (fun _ z10 _ => P.length - (intOf z10).toNat)
      case atStart => exact ⟨0, by rw [col_zero]; rfl, rfl, Nat.zero_le _, Keep.refl _ _⟩
      case round =>
        obtain ⟨k, rfl, rfl, hk, hI⟩ := hrel
        by_cases hlt : k < P.length
        · have hlti : (k : Int) < (P.length : Int) := by omega
          obtain ⟨A, C, e1, e2, e3⟩ := join_split P k hlt
          obtain ⟨mb, mo, rfl, m2, m3⟩ := line_get (hM8.out.keep hI.out (Off.nil _)) k hlt
          obtain ⟨g7, rfl, c7'⟩ := RowS.at (RowC.keep hR8.out hI.out (Off.nil _)) k (by rw [List.length_map]; exact hlt)
          rw [List.getElem_map] at c7'
          have hnx : Hid _ := col_next P k hlt
          rw [← e2] at hnx m3 ⊢
          have hJl : (joinL P).length = A.length + ((oneL P[k]).length + C.length) := by rw [e1]; simp
          have hext : (ba (joinL P)).extract A.length (A.length + (oneL P[k]).length) = ba (oneL P[k]) := by
            have := ba_mid A (oneL P[k]) C
            rwa [← e1] at this
          have hC32 : ∀ (h : k + 1 < P.length), ∃ h2 : A.length + (oneL P[k]).length < (ba (joinL P)).size, (((ba (joinL P))[A.length + (oneL P[k]).length]'h2).toNat : Int) = 32 := fun h => by
            obtain ⟨C', hC⟩ := e3 h
            have h2 : A.length + (oneL P[k]).length < (ba (joinL P)).size := by rw [hJs, hJl, hC]; simp
            refine ⟨h2, ?_⟩
            rw [get_bt _ _ h2]
            obtain ⟨c, hc, hb⟩ := bt_drop (ba (joinL P)) (A.length + (oneL P[k]).length) h2
            rw [hb]
            rw [ba_toList, e1, hC, ← List.append_assoc, List.drop_left' (by simp)] at hc
            simp only [List.cons.injEq] at hc
            rw [← hc.1]
            rfl
          have hxs : (ba (oneL P[k])).size = (oneL P[k]).length := ba_size _
          have hK9 : Hid (Keep [] w8 wr) := hI.out
          generalize C.length = cl at hJl
          clear e1 e2 e3 hI
          generalize oneL P[k] = x at *
          generalize A.length = n at *
          have hbd : n + x.length ≤ 65536 := by omega
          have hw1 : IntKind.i64.wrap (n : Int) = (n : Int) := by rw [IntKind.wrap_i64]; omega
          have hw2 : IntKind.i64.wrap ((n : Int) + (x.length : Int)) = (n : Int) + (x.length : Int) := by rw [IntKind.wrap_i64]; omega
          have hle : decide (((joinL P).length : Int) < (n : Int) + (x.length : Int)) = false := by simp; omega
          have hle2 : ((n : Int) + (x.length : Int)) ≤ ((joinL P).length : Int) := by omega
          have hle3 : n + x.length ≤ (joinL P).length := by omega
          clear hJl
          by_cases hm : k + 1 < P.length
          · have hmi : (k : Int) + 1 < (P.length : Int) := by omega
            obtain ⟨h2, h32⟩ := hC32 hm
            have hlt2 : ((n : Int) + (x.length : Int)) < ((joinL P).length : Int) := by rw [hJs] at h2; omega
            rw [if_pos hm] at hnx
            clear hC32
            go_wp2
            go_quiet (fail)
            go_wp2
            go_roundw
            case rel => exact ⟨k + 1, by rw [hnx.out]; go_num, by go_num, by omega, by first | exact hK9.out.drewN _ | exact hK9.out.drew⟩
            case measure => simp [intOf]; omega
          · have hmi : ¬ (k : Int) + 1 < (P.length : Int) := by omega
            rw [if_neg hm] at hnx
            clear hC32
            go_wp2
            go_quiet (fail)
            go_wp2
            go_roundw
            case rel => exact ⟨k + 1, by rw [hnx.out]; go_num, by go_num, by omega, by first | exact hK9.out.drewN _ | exact hK9.out.drew⟩
            case measure => simp [intOf]; omega
        · have hlti : ¬ (k : Int) < (P.length : Int) := by omega
          have hke : k = P.length := by omega
          subst hke
          rw [col_end]
          obtain ⟨mb, mo, rfl, m0, m1, m2, m3⟩ := line_last (hM8.out.keep hI.out (Off.nil _))
          have hKf : Hid (Keep [] w1 wr) := hK8.out.trans' hI.out
          clear hI hM8 hR8 hK8
          go_wp2
          go_ret
          exact ⟨rfl, hKf.out.alloc _⟩
end Go.Proofs.Ytmglbcldjhdhkaa
