/- TokensBegins: for every two texts the call returns true, and the texts read as they did; no condition. -/
import Derived.Test.YtmglbcldjhdhkabTkRe
import Derived.Test.YtmglbcldjhdhkabTkBg
import Derived.Test.YtmglbcldjhdhkabTkAw
import Derived.Deep.QuietTactic
import Derived.BigQuiet
import Derived.ProofKit
import Derived.OpenShut
import Derived.ShutString
import Derived.ChangeOld
import Derived.SizedLaws
import Derived.Lib.SmallJoins
namespace Go.Proofs.Ytmglbcldjhdhkab
section
open Go.RowKit Go.PlainAid

theorem scanF_ne : ∀ (n : Nat) (l : List UInt8) (p : Nat × Nat) (ts : List TokD), (scanF n l p).1 = some ts → ts ≠ []
  | 0, _, _, _, h => by simp [scanF] at h
  | n + 1, l, p, ts, h => by
    rw [scanF] at h
    split at h
    · simp only [Option.some.injEq] at h
      subst h
      simp
    · split at h
      · simp at h
      · cases hq : scanF n (l.drop (skipN false l + (pieceL (l.drop (skipN false l))).size)) (adv p (l.take (skipN false l + (pieceL (l.drop (skipN false l))).size))) with
        | mk a b =>
          rw [hq] at h
          cases a with
          | none => simp at h
          | some us =>
            simp only [Option.some.injEq] at h
            subst h
            simp
theorem scan_ne {l : List UInt8} {ts : List TokD} (h : scanL l = (some ts, 0, 0, 0)) : 0 < ts.length := by
  unfold scanL at h
  split at h
  · simp at h
  · cases hq : scanF (l.length + 1) l (1, 1) with
    | mk a b =>
      rw [hq] at h
      cases a with
      | none => simp at h
      | some us =>
        simp only [Prod.mk.injEq, Option.some.injEq, and_true] at h
        subst h
        exact List.length_pos_iff.2 (scanF_ne _ _ _ us (by rw [hq]))
theorem adv_next (p : Nat × Nat) (l : List UInt8) (c : UInt8) : adv p (l ++ [c]) = adv1 (adv p l) c := by simp [adv]
theorem adv_most : ∀ (l : List UInt8) (p : Nat × Nat), (adv p l).1 ≤ p.1 + l.length ∧ (adv p l).2 ≤ p.2 + l.length + 1
  | [], p => by simp [adv]
  | c :: l, p => by
    have h := adv_most l (adv1 p c)
    have h1 : ((adv1 p c).1 ≤ p.1 + 1 ∧ (adv1 p c).2 ≤ p.2 + 1) ∨ ((adv1 p c).2 = 1 ∧ (adv1 p c).1 ≤ p.1 + 1) := by
      unfold adv1
      split
      · exact .inr ⟨rfl, by simp⟩
      · exact .inl ⟨by simp, by simp⟩
    rw [show adv p (c :: l) = adv (adv1 p c) l from rfl, List.length_cons]
    omega
theorem ba_take (a : List UInt8) (k : Nat) (h : k ≤ a.length) : (ba a).extract 0 k = ba (a.take k) := by
  have := ba_mid [] (a.take k) (a.drop k)
  rw [List.nil_append, List.take_append_drop, List.length_take, Nat.min_eq_left h] at this
  simpa using this
theorem ba_app9 (x y : List UInt8) : ba x ++ ba y = ba (x ++ y) := ba_of (by
  rw [ByteArray.toList_eq]
  simp [ba])
/-- two spots of one's own -/
structure Sp (w W : World) (b4 b6 : Nat) (o4 o6 : Obj) : Prop where
  h4 : W.heap[b4]? = some o4
  h6 : W.heap[b6]? = some o6
  keep : Keep [] w W
  g6 : w.heap.size ≤ b6
  ne : b4 ≠ b6
theorem Sp.call {w W W' : World} {b4 b6 : Nat} {o4 o6 : Obj} (h : Sp w W b4 b6 o4 o6) (k : Keep [] W W') : Sp w W' b4 b6 o4 o6 :=
  ⟨(k.block _ (Array.getElem?_eq_some_iff.1 h.h4).1 (by simp)).trans h.h4, (k.block _ (Array.getElem?_eq_some_iff.1 h.h6).1 (by simp)).trans h.h6, h.keep.trans' k, h.g6, h.ne⟩
theorem Sp.set6 {w W : World} {b4 b6 : Nat} {x y z : Value} {T : TypeId} {o4 : Obj} (h : Sp w W b4 b6 o4 (.cells #[x, y, z] T (0, 0))) (x' y' z' : Value) :
    Sp w (((W.setCell ⟨b6, 0, none⟩ x').setCell ⟨b6, 1, none⟩ y').setCell ⟨b6, 2, none⟩ z') b4 b6 o4 (.cells #[x', y', z'] T (0, 0)) := by
  have kk : Keep [b6] W (((W.setCell ⟨b6, 0, none⟩ x').setCell ⟨b6, 1, none⟩ y').setCell ⟨b6, 2, none⟩ z') := ((Keep.set1 W ⟨b6, 0, none⟩ x').trans' (Keep.set1 _ ⟨b6, 1, none⟩ y')).trans' (Keep.set1 _ ⟨b6, 2, none⟩ z')
  have h1 := heap_setCell_same W b6 0 _ T x' h.h6
  have h2 := heap_setCell_same _ b6 1 _ T y' h1
  have h3 := heap_setCell_same _ b6 2 _ T z' h2
  refine ⟨(kk.block _ (Array.getElem?_eq_some_iff.1 h.h4).1 (by simpa using h.ne)).trans h.h4, ?_, h.keep.more kk (by intro x hx; simp at hx; subst hx; exact .inr h.g6), h.g6, h.ne⟩
  simpa using h3

set_option maxRecDepth 1000000 in
set_option maxHeartbeats 1000000 in
theorem begins_ok (a : List UInt8) (t : ByteArray) (w : World) (ts : List TokD) (hsc : scanL a = (some ts, 0, 0, 0)) (ha : a.length ≤ 65536) :
    Calls Try.prog 3 #[.string (ba a), .string t] w fun e w' => e = .returned (.bool true) ∧ Keep [] w w' := by
  have HS1 : Hid (∀ w, Calls Try.prog 6 #[.string (ba a)] w fun e w' => ∃ a0 c0, e = .returned (.tuple #[.slice a0 ts.length c0, .agg #[.int .i64 0, .int .i64 0, .int .i64 0]]) ∧ Keep [] w w') := fun w => by
    refine (scan_yes a ts hsc ha w).mono ?_
    rintro e w' ⟨a0, c0, rfl, -, k, -⟩
    exact ⟨a0, c0, rfl, k⟩
  have hn := scan_ne hsc
  generalize ts.length = n at HS1 hn
  have hni : (0 : Int) < (n : Int) := by omega
  clear hsc
  go_enter Try.func3, Try.ntmps3
  go_wp2_with (first | (go_at_call 5; refine (awake_any _).mono ?_; rintro e w1 ⟨rfl, k1⟩) | (go_at_call 6; refine (HS1.out _).mono ?_; rintro e w2 ⟨a0, c0, rfl, k2⟩))
  go_ret
  exact ⟨rfl, (k1.trans' k2).alloc _⟩

set_option maxRecDepth 1000000 in
set_option maxHeartbeats 1000000 in
theorem begins_long (a : List UInt8) (t : ByteArray) (w : World) (ha : 65536 < a.length) (ha2 : a.length ≤ 140737488351232) :
    Calls Try.prog 3 #[.string (ba a), .string t] w fun e w' => e = .returned (.bool true) ∧ Keep [] w w' := by
  have HS1 : Hid (∀ w, Calls Try.prog 6 #[.string (ba a)] w fun e w' => ∃ a0 c0, e = .returned (.tuple #[.slice a0 0 c0, .agg #[.int .i64 3, .int .i64 0, .int .i64 0]]) ∧ Keep [] w w') := fun w =>
    scan_nay a 3 (0, 0) (scan_over a ha) (by omega) w
  have hza : (ba a).size = a.length := ba_size a
  have hni : (65536 : Int) < (a.length : Int) := by omega
  go_enter Try.func3, Try.ntmps3
  go_wp2_with (first | (go_at_call 5; refine (awake_any _).mono ?_; rintro e w1 ⟨rfl, k1⟩) | (go_at_call 6; refine (HS1.out _).mono ?_; rintro e w2 ⟨a0, c0, rfl, k2⟩))
  go_ret
  exact ⟨rfl, (k1.trans' k2).alloc _⟩

set_option maxRecDepth 1000000 in
set_option maxHeartbeats 4000000 in
theorem begins_bad (a b : List UInt8) (w : World) (ha : a.length ≤ 65536) (hb : b.length ≤ 140737488351232) (hbad : (runM ⟨0, 0⟩ a).1 < a.length ∨ finM (runM ⟨0, 0⟩ a).2 ≠ []) :
    Calls Try.prog 3 #[.string (ba a), .string (ba b)] w fun e w' => e = .returned (.bool true) ∧ Keep [] w w' := by
  have hsc := scan_bad ha hbad
  have htk := run_take a ⟨0, 0⟩
  have href := run_refuse a ⟨0, 0⟩ b
  have hKl := run_len a ⟨0, 0⟩
  obtain ⟨K, hK⟩ : ∃ K, (runM ⟨0, 0⟩ a).1 = K := ⟨_, rfl⟩
  obtain ⟨m, hm⟩ : ∃ m, (runM ⟨0, 0⟩ a).2 = m := ⟨_, rfl⟩
  rw [hK] at hsc htk href hKl
  have hkt : (a.take K).length = K := by rw [List.length_take]; omega
  -- the end that is put behind
  have HF : Hid (∀ w, Calls Try.prog 7 #[.string (ba (a.take K))] w fun e w' => e = .returned (.string (ba (finM m))) ∧ Keep [] w w') := fun w => by
    have := finish_any (ba (a.take K)) w (by rw [ba_size, hkt]; omega)
    rw [ba_toList, htk, hm] at this
    exact this
  obtain ⟨X, hX⟩ : ∃ X, a.take K ++ finM m = X := ⟨_, rfl⟩
  have hcat : ba (a.take K) ++ ba (finM m) = ba X := by rw [ba_app9, hX]
  have hfl : (finM m).length ≤ 3 := by
    unfold finM
    repeat' split
    all_goals simp
  have hXl : X.length ≤ 65539 := by rw [← hX, List.length_append, hkt]; omega
  have hXr : (runM ⟨0, 0⟩ X).1 = X.length ∧ finM (runM ⟨0, 0⟩ X).2 = [] := by
    have h1 := run_more (a.take K) (finM m) ⟨0, 0⟩ (by rw [htk, hK, hkt])
    have h2 := run_fin m
    rw [htk, hm, hX, hkt] at h1
    rw [h1]
    refine ⟨?_, h2.2⟩
    rw [← hX, List.length_append, hkt, h2.1]
  have HX1 : Hid (X.length ≤ 65536 → ∃ n, 0 < n ∧ ∀ w, Calls Try.prog 6 #[.string (ba X)] w fun e w' => ∃ a0 c0, e = .returned (.tuple #[.slice a0 n c0, .agg #[.int .i64 0, .int .i64 0, .int .i64 0]]) ∧ Keep [] w w') := fun hl => by
    obtain ⟨ts, hts⟩ := scan_ok hl hXr.1 hXr.2
    refine ⟨ts.length, scan_ne hts, fun w => (scan_yes X ts hts hl w).mono ?_⟩
    rintro e w' ⟨a0, c0, rfl, -, k, -⟩
    exact ⟨a0, c0, rfl, k⟩
  have HX2 : Hid (65536 < X.length → ∀ w, Calls Try.prog 6 #[.string (ba X)] w fun e w' => ∃ a0 c0, e = .returned (.tuple #[.slice a0 0 c0, .agg #[.int .i64 3, .int .i64 0, .int .i64 0]]) ∧ Keep [] w w') := fun hl w =>
    scan_nay X 3 (0, 0) (scan_over X hl) (by omega) w
  obtain ⟨Y, hY⟩ : ∃ Y, a.take (K + 1) ++ b = Y := ⟨_, rfl⟩
  have hcat2 : ba (a.take (K + 1)) ++ ba b = ba Y := by rw [ba_app9, hY]
  have hext : (ba a).extract 0 K = ba (a.take K) := ba_take a K hKl
  have hext2 : K < a.length → (ba a).extract 0 (K + 1) = ba (a.take (K + 1)) := fun h => ba_take a (K + 1) h
  obtain ⟨q, hq⟩ : ∃ q, adv (1, 1) (a.take K) = q := ⟨_, rfl⟩
  obtain ⟨q1, q2⟩ := q
  have HS1 : Hid (∀ w, Calls Try.prog 6 #[.string (ba a)] w fun e w' => ∃ a0 c0, e = .returned (.tuple #[.slice a0 0 c0, .agg #[.int .i64 50, .int .i64 (q1 : Int), .int .i64 (q2 : Int)]]) ∧ Keep [] w w') := fun w =>
    scan_nay a 50 (q1, q2) (by rw [hsc, hq]) (by omega) w
  have HY : Hid (K < a.length → K + 1 + b.length ≤ 65536 → ∀ w, Calls Try.prog 6 #[.string (ba Y)] w fun e w' => ∃ a0 c0, e = .returned (.tuple #[.slice a0 0 c0, .agg #[.int .i64 50, .int .i64 (q1 : Int), .int .i64 (q2 : Int)]]) ∧ Keep [] w w') := fun h1 h2 w => by
    have hYl : Y.length = K + 1 + b.length := by rw [← hY, List.length_append, List.length_take]; omega
    have hYr : runM ⟨0, 0⟩ Y = runM ⟨0, 0⟩ a := by rw [← hY]; exact href h1
    have hYt : Y.take K = a.take K := by
      rw [← hY, List.take_append_of_le_length (by rw [List.length_take]; omega), List.take_take, Nat.min_eq_left (by omega)]
    have hs := scan_bad (l := Y) (by omega) (.inl (by rw [hYr, hK]; omega))
    rw [hYr, hK, hYt, hq] at hs
    exact scan_nay Y 50 (q1, q2) hs (by omega) w
  have HB : Hid (∀ k, k < K → ∃ c : UInt8, a.take (k + 1) = a.take k ++ [c] ∧ (∃ h : k < (ba a).size, (((ba a)[k]'h).toNat : Int) = (c.toNat : Int)) ∧ befP (adv (1, 1) (a.take k)) (q1, q2)) := fun k hk => by
    have hks : k < (ba a).size := by rw [ba_size]; omega
    obtain ⟨c, hc, hb2⟩ := bt_drop (ba a) k hks
    refine ⟨c, ?_, ⟨hks, (get_bt (ba a) k hks).trans hb2⟩, by rw [← hq]; exact bef_take a k K hk hKl⟩
    rw [ba_toList] at hc
    rw [List.take_add, hc]
    rfl
  have HM : Hid (∀ k, k ≤ K → (adv (1, 1) (a.take k)).1 ≤ 65537 ∧ (adv (1, 1) (a.take k)).2 ≤ 65538) := fun k hk => by
    have := adv_most (a.take k) (1, 1)
    rw [List.length_take] at this
    simp only at this
    omega
  have HQ : Hid (adv (1, 1) (a.take K) = (q1, q2)) := hq
  have hza : (ba a).size = a.length := ba_size a
  have hzb : (ba b).size = b.length := ba_size b
  have hzx : (ba X).size = X.length := ba_size X
  have hzk : (ba (a.take K)).size = K := by rw [ba_size, hkt]
  have hzf : (ba (finM m)).size ≤ 3 := by rw [ba_size]; exact hfl
  have hov : ¬ 9223372036854775807 < K + (ba (finM m)).size := by omega
  have hKf : Hid (K = a.length ∨ K < a.length) := by show _ ∨ _; omega
  clear hsc htk href hK hm hX hXr hY hq hkt hbad hfl
  go_enter Try.func3, Try.ntmps3
  go_wp2_with (first | (go_at_call 5; refine (awake_any _).mono ?_; rintro e w1 ⟨rfl, k1⟩) | fail)
  refine (HS1.out _).mono ?_
  rintro e w2 ⟨a0, c0, rfl, k2⟩
  have hB : (w2.alloc (.cells #[.int .i64 50, .int .i64 (q1 : Int), .int .i64 (q2 : Int)] 26 (0, 0))).heap[w2.heap.size]? = some (.cells #[.int .i64 50, .int .i64 (q1 : Int), .int .i64 (q2 : Int)] 26 (0, 0)) := heap_alloc_new w2 _
  have hKW : Hid (Keep [] w (w2.alloc (.cells #[.int .i64 50, .int .i64 (q1 : Int), .int .i64 (q2 : Int)] 26 (0, 0)))) := (k1.trans' k2).alloc _
  have hai : ¬ (65536 : Int) < (a.length : Int) := by omega
  go_wp2
  generalize w2.alloc (.cells #[.int .i64 50, .int .i64 (q1 : Int), .int .i64 (q2 : Int)] 26 (0, 0)) = W at *
  generalize w2.heap.size = sp at *
  obtain ⟨s0, s1, s2, -, -, -⟩ := box3 hB
  clear k1 k2 HS1
  go_loopw [7, 8, 9] (fun z7 z8 z9 wr => ∃ (k : Nat), z7 = .int .i64 (k : Int) ∧ z8 = .int .i64 ((adv (1, 1) (a.take k)).1 : Int) ∧ z9 = .int .i64 ((adv (1, 1) (a.take k)).2 : Int) ∧ k ≤ K ∧ wr = W) (fun z7 _ _ _ => K - (intOf z7).toNat)
  case atStart => exact ⟨0, rfl, rfl, rfl, Nat.zero_le _, rfl⟩
  case round =>
    obtain ⟨k, rfl, rfl, rfl, hk, rfl⟩ := hrel
    by_cases hlt : k < K
    · obtain ⟨c, hc, ⟨hks, hg⟩, hbf⟩ := HB.out k hlt
      have hm1 := HM.out k hk
      have hnx : Hid (adv (1, 1) (a.take (k + 1)) = adv1 (adv (1, 1) (a.take k)) c) := by show _ = _; rw [hc, adv_next]
      generalize adv (1, 1) (a.take k) = p at *
      obtain ⟨p1, p2⟩ := p
      simp only at hm1
      have hki : (k : Int) < (a.length : Int) := by omega
      unfold befP at hbf
      simp only at hbf
      clear hc HX1 HX2 HY HF HB HM HQ hKf
      rcases hbf with hbf | ⟨hbe, hbf⟩
      · have hbi : (p1 : Int) < (q1 : Int) := by omega
        by_cases h10 : c = 10
        · subst h10
          have hgi : ((((ba a)[k]'hks).toNat : Int) == 10) = true := by rw [hg]; rfl
          go_wp2
          go_roundw
          case rel => exact ⟨k + 1, by go_num, by rw [hnx.out]; go_num, by rw [hnx.out]; go_num, by omega, trivial⟩
          case measure => simp [intOf]; omega
        · have hgi : ((((ba a)[k]'hks).toNat : Int) == 10) = false := by
            rw [hg]
            have : c.toNat ≠ 10 := fun e => h10 (UInt8.toNat_inj.1 e)
            simp
            omega
          have hnx2 : Hid (adv (1, 1) (a.take (k + 1)) = (p1, p2 + 1)) := by show _ = _; rw [hnx.out]; unfold adv1; rw [if_neg h10]
          go_wp2
          go_roundw
          case rel => exact ⟨k + 1, by go_num, by rw [hnx2.out], by rw [hnx2.out]; go_num, by omega, trivial⟩
          case measure => simp [intOf]; omega
      · subst hbe
        have hbi : (p2 : Int) < (q2 : Int) := by omega
        by_cases h10 : c = 10
        · subst h10
          have hgi : ((((ba a)[k]'hks).toNat : Int) == 10) = true := by rw [hg]; rfl
          go_wp2
          go_roundw
          case rel => exact ⟨k + 1, by go_num, by rw [hnx.out]; go_num, by rw [hnx.out]; go_num, by omega, trivial⟩
          case measure => simp [intOf]; omega
        · have hgi : ((((ba a)[k]'hks).toNat : Int) == 10) = false := by
            rw [hg]
            have : c.toNat ≠ 10 := fun e => h10 (UInt8.toNat_inj.1 e)
            simp
            omega
          have hnx2 : Hid (adv (1, 1) (a.take (k + 1)) = (p1, p2 + 1)) := by show _ = _; rw [hnx.out]; unfold adv1; rw [if_neg h10]
          go_wp2
          go_roundw
          case rel => exact ⟨k + 1, by go_num, by rw [hnx2.out], by rw [hnx2.out]; go_num, by omega, trivial⟩
          case measure => simp [intOf]; omega
    · have hke : k = K := by omega
      subst hke
      rw [HQ.out]
      clear HB HM HQ
      rcases hKf.out with hKe | hKe
      · by_cases hXb : X.length ≤ 65536
        · have hki : ¬ (k : Int) < (a.length : Int) := by omega
          have hkn : ((k : Int) == (a.length : Int)) = true := by simp; omega
          clear hKe hKf
          obtain ⟨n, hn, HX⟩ := HX1.out hXb
          have hnn : ((n : Int) == 0) = false := by simp; omega
          have hXi : (X.length : Int) ≤ 65536 := by omega
          have HXh : Hid _ := HX
          clear HX HX1 HX2 hext2 HY
          go_wp2_with fail
          go_region_law (go_simp; refine (HF.out _).mono ?_; rintro e w4 ⟨rfl, k4⟩)
          go_wp2_with fail
          refine (HXh.out _).mono ?_
          rintro e w5 ⟨a5, c5, rfl, k5⟩
          have hSp : Hid (Sp w (w5.alloc (.cells #[.int .i64 0, .int .i64 0, .int .i64 0] 26 (0, 0))) sp w5.heap.size (.cells #[.int .i64 50, .int .i64 (q1 : Int), .int .i64 (q2 : Int)] 26 (0, 0)) (.cells #[.int .i64 0, .int .i64 0, .int .i64 0] 26 (0, 0))) := by
            have k9 := ((Keep.refl [] wr).drew.trans' k4).trans' k5
            have h4 := (k9.block sp (Array.getElem?_eq_some_iff.1 hB).1 (by simp)).trans hB
            have hlt4 := (Array.getElem?_eq_some_iff.1 h4).1
            exact ⟨(Below.heap_alloc w5 _ _ hlt4).trans h4, heap_alloc_new w5 _, (hKW.out.trans' k9).alloc _, (hKW.out.trans' k9).size, by omega⟩
          clear k4 k5 HXh HF hB s0 s1 s2 hKW
          go_wp2
          go_ret
          exact ⟨rfl, hSp.out.keep⟩
        · have hki : ¬ (k : Int) < (a.length : Int) := by omega
          have hkn : ((k : Int) == (a.length : Int)) = true := by simp; omega
          clear hKe hKf
          have HX := HX2.out (by omega)
          have hXi : ¬ (X.length : Int) ≤ 65536 := by omega
          have HXh : Hid _ := HX
          clear HX HX1 HX2 hext2 HY
          go_wp2_with fail
          go_region_law (go_simp; refine (HF.out _).mono ?_; rintro e w4 ⟨rfl, k4⟩)
          go_wp2_with fail
          refine (HXh.out _).mono ?_
          rintro e w5 ⟨a5, c5, rfl, k5⟩
          have hSp : Hid (Sp w (w5.alloc (.cells #[.int .i64 3, .int .i64 0, .int .i64 0] 26 (0, 0))) sp w5.heap.size (.cells #[.int .i64 50, .int .i64 (q1 : Int), .int .i64 (q2 : Int)] 26 (0, 0)) (.cells #[.int .i64 3, .int .i64 0, .int .i64 0] 26 (0, 0))) := by
            have k9 := ((Keep.refl [] wr).drew.trans' k4).trans' k5
            have h4 := (k9.block sp (Array.getElem?_eq_some_iff.1 hB).1 (by simp)).trans hB
            have hlt4 := (Array.getElem?_eq_some_iff.1 h4).1
            exact ⟨(Below.heap_alloc w5 _ _ hlt4).trans h4, heap_alloc_new w5 _, (hKW.out.trans' k9).alloc _, (hKW.out.trans' k9).size, by omega⟩
          clear k4 k5 HXh HF hB s0 s1 s2 hKW
          go_wp2
          go_ret
          exact ⟨rfl, hSp.out.keep⟩
      · by_cases hXb : X.length ≤ 65536
        · have hki : (k : Int) < (a.length : Int) := by omega
          have hkn : ((k : Int) == (a.length : Int)) = false := by simp; omega
          have hext3 := hext2 hKe
          have hzk1 : (ba (a.take (k + 1))).size = k + 1 := by rw [ba_size, List.length_take]; omega
          clear hKf
          obtain ⟨n, hn, HX⟩ := HX1.out hXb
          have hnn : ((n : Int) == 0) = false := by simp; omega
          have hXi : (X.length : Int) ≤ 65536 := by omega
          have HXh : Hid _ := HX
          clear HX HX1 HX2 hext2
          go_wp2_with fail
          go_region_law (go_simp; refine (HF.out _).mono ?_; rintro e w4 ⟨rfl, k4⟩)
          go_wp2_with fail
          refine (HXh.out _).mono ?_
          rintro e w5 ⟨a5, c5, rfl, k5⟩
          have hSp : Hid (Sp w (w5.alloc (.cells #[.int .i64 0, .int .i64 0, .int .i64 0] 26 (0, 0))) sp w5.heap.size (.cells #[.int .i64 50, .int .i64 (q1 : Int), .int .i64 (q2 : Int)] 26 (0, 0)) (.cells #[.int .i64 0, .int .i64 0, .int .i64 0] 26 (0, 0))) := by
            have k9 := ((Keep.refl [] wr).drew.trans' k4).trans' k5
            have h4 := (k9.block sp (Array.getElem?_eq_some_iff.1 hB).1 (by simp)).trans hB
            have hlt4 := (Array.getElem?_eq_some_iff.1 h4).1
            exact ⟨(Below.heap_alloc w5 _ _ hlt4).trans h4, heap_alloc_new w5 _, (hKW.out.trans' k9).alloc _, (hKW.out.trans' k9).size, by omega⟩
          clear k4 k5 HXh HF hB s0 s1 s2 hKW
          by_cases hbt : k + 1 + b.length ≤ 65536
          · have hbi : ¬ (65536 : Int) < (k : Int) + 1 + (b.length : Int) := by omega
            have HY3 : Hid _ := HY.out hKe hbt
            have hov2 : ¬ 9223372036854775807 < k + 1 + b.length := by omega
            clear HY
            go_wp2_with fail
            generalize w5.alloc (.cells #[.int .i64 0, .int .i64 0, .int .i64 0] 26 (0, 0)) = W6 at *
            generalize w5.heap.size = b6 at *
            refine (HY3.out _).mono ?_
            rintro e w7 ⟨a7, c7, rfl, k7⟩
            have hS7 := hSp.out.call k7
            have hS8 := hS7.set6 (.int .i64 50) (.int .i64 (q1 : Int)) (.int .i64 (q2 : Int))
            obtain ⟨f0, f1, f2, g0, g1, g2⟩ := box3 hS7.h6
            obtain ⟨r0, r1, r2, -, -, -⟩ := box3 hS8.h6
            obtain ⟨t0, t1, t2, -, -, -⟩ := box3 hS8.h4
            have hKf8 : Hid _ := hS8.keep
            clear hS7 hS8 hSp k7 HY3
            go_wp2
            go_ret
            exact ⟨rfl, hKf8.out⟩
          · have hbi : (65536 : Int) < (k : Int) + 1 + (b.length : Int) := by omega
            clear HY
            go_wp2
            go_ret
            exact ⟨rfl, hSp.out.keep⟩
        · have hki : (k : Int) < (a.length : Int) := by omega
          have hkn : ((k : Int) == (a.length : Int)) = false := by simp; omega
          have hext3 := hext2 hKe
          have hzk1 : (ba (a.take (k + 1))).size = k + 1 := by rw [ba_size, List.length_take]; omega
          clear hKf
          have HX := HX2.out (by omega)
          have hXi : ¬ (X.length : Int) ≤ 65536 := by omega
          have HXh : Hid _ := HX
          clear HX HX1 HX2 hext2
          go_wp2_with fail
          go_region_law (go_simp; refine (HF.out _).mono ?_; rintro e w4 ⟨rfl, k4⟩)
          go_wp2_with fail
          refine (HXh.out _).mono ?_
          rintro e w5 ⟨a5, c5, rfl, k5⟩
          have hSp : Hid (Sp w (w5.alloc (.cells #[.int .i64 3, .int .i64 0, .int .i64 0] 26 (0, 0))) sp w5.heap.size (.cells #[.int .i64 50, .int .i64 (q1 : Int), .int .i64 (q2 : Int)] 26 (0, 0)) (.cells #[.int .i64 3, .int .i64 0, .int .i64 0] 26 (0, 0))) := by
            have k9 := ((Keep.refl [] wr).drew.trans' k4).trans' k5
            have h4 := (k9.block sp (Array.getElem?_eq_some_iff.1 hB).1 (by simp)).trans hB
            have hlt4 := (Array.getElem?_eq_some_iff.1 h4).1
            exact ⟨(Below.heap_alloc w5 _ _ hlt4).trans h4, heap_alloc_new w5 _, (hKW.out.trans' k9).alloc _, (hKW.out.trans' k9).size, by omega⟩
          clear k4 k5 HXh HF hB s0 s1 s2 hKW
          by_cases hbt : k + 1 + b.length ≤ 65536
          · have hbi : ¬ (65536 : Int) < (k : Int) + 1 + (b.length : Int) := by omega
            have HY3 : Hid _ := HY.out hKe hbt
            have hov2 : ¬ 9223372036854775807 < k + 1 + b.length := by omega
            clear HY
            go_wp2_with fail
            generalize w5.alloc (.cells #[.int .i64 3, .int .i64 0, .int .i64 0] 26 (0, 0)) = W6 at *
            generalize w5.heap.size = b6 at *
            refine (HY3.out _).mono ?_
            rintro e w7 ⟨a7, c7, rfl, k7⟩
            have hS7 := hSp.out.call k7
            have hS8 := hS7.set6 (.int .i64 50) (.int .i64 (q1 : Int)) (.int .i64 (q2 : Int))
            obtain ⟨f0, f1, f2, g0, g1, g2⟩ := box3 hS7.h6
            obtain ⟨r0, r1, r2, -, -, -⟩ := box3 hS8.h6
            obtain ⟨t0, t1, t2, -, -, -⟩ := box3 hS8.h4
            have hKf8 : Hid _ := hS8.keep
            clear hS7 hS8 hSp k7 HY3
            go_wp2
            go_ret
            exact ⟨rfl, hKf8.out⟩
          · have hbi : (65536 : Int) < (k : Int) + 1 + (b.length : Int) := by omega
            clear HY
            go_wp2
            go_ret
            exact ⟨rfl, hSp.out.keep⟩
end
end Go.Proofs.Ytmglbcldjhdhkab
