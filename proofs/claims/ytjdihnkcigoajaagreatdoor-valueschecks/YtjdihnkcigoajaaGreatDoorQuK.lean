/- The document's Text of a value. -/
import Derived.Test.YtjdihnkcigoajaaGreatDoorQuI
import Derived.Test.YtjdihnkcigoajaaGreatDoorQuG
import Derived.Test.YtjdihnkcigoajaaGreatDoorNgM
import Derived.Test.YtjdihnkcigoajaaGreatDoorNgX

namespace Go.Proofs.YtjdihnkcigoajaaGreatDoor
open Go.RowKit Go.PlainAid

theorem tail_snoc (sep y : List UInt8) (r : List (List UInt8)) : Lib.joinTail sep (r ++ [y]) = Lib.joinTail sep r ++ sep ++ y := by
  unfold Lib.joinTail
  rw [List.map_append, List.flatten_append]
  simp [List.append_assoc]
theorem join_snoc (sep y : List UInt8) (xs : List (List UInt8)) (h : xs ≠ []) : Lib.join (xs ++ [y]) sep = Lib.join xs sep ++ sep ++ y := by
  cases xs with
  | nil => exact absurd rfl h
  | cons x r => rw [List.cons_append, Lib.join_cons, Lib.join_cons, tail_snoc]; simp [List.append_assoc]
set_option maxRecDepth 1000000 in
set_option maxHeartbeats 400000 in
theorem dText_1 (x : VD) (hx : x.Ok) (hm : x.mayB = true) (hk : x.kind = 1) (u : Value) (w : World) (hu : Ts w u x.texts) :
    Calls Tryz.prog 8 #[x.val u] w fun e w' => e = .returned (.tuple #[.string (ba (litL x)), .int .i64 0]) ∧ Keep [] w w' := by
  have hM := fun w1 (k : Keep [] w w1) => rMay_any x hx u w1 (hu.keep k (Off.nil _))
  rw [hm] at hM
  obtain ⟨ao, ca, rfl, _, _, _, _⟩ := hu.ex
  have HM : Hid _ := hM
  have k1 : (x.kind == 1) = true := beq_iff_eq.2 hk
  have HL : Hid (litL x = if x.bool then [116, 114, 117, 101] else [102, 97, 108, 115, 101]) := by show _ = _; unfold litL; rw [if_pos hk]
  clear hu hm hM hk
  have K0 : Hid (Keep [] w (w.alloc (x.blk (.slice ao x.texts.length ca)))) := Keep.alloc1 w _
  by_cases hb : x.bool = true
  · have HS : Hid (ba (litL x) = ⟨#[116, 114, 117, 101]⟩) := by show _ = _; rw [HL.out, hb]; rfl
    have HB : Hid (x.bool = true) := hb
    clear hb
    go_enter Tryz.func8, Tryz.ntmps8
    go_wp2_with fail
    refine (HM.out _ K0.out).mono ?_
    rintro e9 w1 ⟨rfl, kk1⟩
    obtain ⟨⟨c0, c1, c2, c3, c4, c5⟩, _⟩ := six_cells kk1 (by simp)
    rw [HB.out] at c1
    have HK1 : Hid (Keep [] w w1) := K0.out.trans' kk1
    clear HM kk1
    go_wp2
    go_ret2
    exact ⟨by rw [HS.out]; rfl, HK1.out⟩
  · have hb0 : x.bool = false := by simpa using hb
    have HS : Hid (ba (litL x) = ⟨#[102, 97, 108, 115, 101]⟩) := by show _ = _; rw [HL.out, hb0]; rfl
    have HB : Hid (x.bool = false) := hb0
    clear hb hb0
    go_enter Tryz.func8, Tryz.ntmps8
    go_wp2_with fail
    refine (HM.out _ K0.out).mono ?_
    rintro e9 w1 ⟨rfl, kk1⟩
    obtain ⟨⟨c0, c1, c2, c3, c4, c5⟩, _⟩ := six_cells kk1 (by simp)
    rw [HB.out] at c1
    have HK1 : Hid (Keep [] w w1) := K0.out.trans' kk1
    clear HM kk1
    go_wp2
    go_ret2
    exact ⟨by rw [HS.out]; rfl, HK1.out⟩
set_option maxRecDepth 1000000 in
set_option maxHeartbeats 400000 in
theorem dText_2 (x : VD) (hx : x.Ok) (hm : x.mayB = true) (hk : x.kind = 2) (u : Value) (w : World) (hu : Ts w u x.texts) (hT : TabV w) :
    Calls Tryz.prog 8 #[x.val u] w fun e w' => e = .returned (.tuple #[.string (ba (litL x)), .int .i64 0]) ∧ Keep [] w w' := by
  have hM := fun w1 (k : Keep [] w w1) => rMay_any x hx u w1 (hu.keep k (Off.nil _))
  rw [hm] at hM
  obtain ⟨s1, s2, s3⟩ := may_short x hm
  obtain ⟨ao, ca, rfl, _, _, _, _⟩ := hu.ex
  have HM : Hid _ := hM
  have HT : Hid (TabV w) := hT
  have k1 : (x.kind == 1) = false := beq_eq_false_iff_ne.2 (by omega)
  have k2 : (x.kind == 2) = true := beq_iff_eq.2 hk
  obtain ⟨S, hS⟩ : ∃ S, ba (Lib.itoa x.int) = S := ⟨_, rfl⟩
  have e0 : ba (litL x) = S := by rw [← hS]; unfold litL; simp [hk]
  rw [e0]
  have HS : Hid (ba (Lib.itoa x.int) = S) := hS
  clear hS e0
  clear hu hm hM hT hk
  have K0 : Hid (Keep [] w (w.alloc (x.blk (.slice ao x.texts.length ca)))) := Keep.alloc1 w _
  go_enter Tryz.func8, Tryz.ntmps8
  go_wp2_with fail
  refine (HM.out _ K0.out).mono ?_
  rintro e9 w1 ⟨rfl, kk1⟩
  obtain ⟨⟨c0, c1, c2, c3, c4, c5⟩, _⟩ := six_cells kk1 (by simp)
  have HK1 : Hid (Keep [] w w1) := K0.out.trans' kk1
  clear HM kk1
  go_wp2_with fail
  refine ((show Calls _ _ _ _ _ from HS.out ▸ format_any x.int hx.int0 hx.int1 _ (HT.out.keep HK1.out))).mono ?_
  rintro e9 w2 ⟨rfl, k9⟩
  have HK2 : Hid (Keep [] w w2) := HK1.out.trans' k9
  clear k9
  go_wp2
  go_ret2
  exact ⟨rfl, HK2.out⟩
set_option maxRecDepth 1000000 in
set_option maxHeartbeats 400000 in
theorem dText_3 (x : VD) (hx : x.Ok) (hm : x.mayB = true) (hk : x.kind = 3) (u : Value) (w : World) (hu : Ts w u x.texts) (hT : TabV w) :
    Calls Tryz.prog 8 #[x.val u] w fun e w' => e = .returned (.tuple #[.string (ba (litL x)), .int .i64 0]) ∧ Keep [] w w' := by
  have hM := fun w1 (k : Keep [] w w1) => rMay_any x hx u w1 (hu.keep k (Off.nil _))
  rw [hm] at hM
  obtain ⟨s1, s2, s3⟩ := may_short x hm
  obtain ⟨ao, ca, rfl, _, _, _, _⟩ := hu.ex
  have HM : Hid _ := hM
  have HT : Hid (TabV w) := hT
  have k1 : (x.kind == 1) = false := beq_eq_false_iff_ne.2 (by omega)
  have k2 : (x.kind == 2) = false := beq_eq_false_iff_ne.2 (by omega)
  have k3 : (x.kind == 3) = true := beq_iff_eq.2 hk
  obtain ⟨S, hS⟩ : ∃ S, ba (textR x.real) = S := ⟨_, rfl⟩
  have e0 : ba (litL x) = S := by rw [← hS]; unfold litL; simp [hk]
  rw [e0]
  have HS : Hid (ba (textR x.real) = S) := hS
  clear hS e0
  clear hu hm hM hT hk
  have K0 : Hid (Keep [] w (w.alloc (x.blk (.slice ao x.texts.length ca)))) := Keep.alloc1 w _
  go_enter Tryz.func8, Tryz.ntmps8
  go_wp2_with fail
  refine (HM.out _ K0.out).mono ?_
  rintro e9 w1 ⟨rfl, kk1⟩
  obtain ⟨⟨c0, c1, c2, c3, c4, c5⟩, _⟩ := six_cells kk1 (by simp)
  have HK1 : Hid (Keep [] w w1) := K0.out.trans' kk1
  clear HM kk1
  go_wp2_with fail
  refine ((show Calls Tryz.prog 23 #[.float .f32 x.real] w1 (fun e w2 => e = .returned (.string S) ∧ Keep [] w1 w2) from (rText_any x.real hx.real1 w1).mono (fun e w2 h => by obtain ⟨⟨T, he, hT⟩, hb⟩ := h; exact ⟨by rw [he, textR_ba T _ hT, HS.out], Keep.ofBelow hb⟩))).mono ?_
  rintro e9 w2 ⟨rfl, k9⟩
  have HK2 : Hid (Keep [] w w2) := HK1.out.trans' k9
  clear k9
  go_wp2
  go_ret2
  exact ⟨rfl, HK2.out⟩
set_option maxRecDepth 1000000 in
set_option maxHeartbeats 400000 in
theorem dText_4 (x : VD) (hx : x.Ok) (hm : x.mayB = true) (hk : x.kind = 4) (u : Value) (w : World) (hu : Ts w u x.texts) (hT : TabV w) :
    Calls Tryz.prog 8 #[x.val u] w fun e w' => e = .returned (.tuple #[.string (ba (litL x)), .int .i64 0]) ∧ Keep [] w w' := by
  have hM := fun w1 (k : Keep [] w w1) => rMay_any x hx u w1 (hu.keep k (Off.nil _))
  rw [hm] at hM
  obtain ⟨s1, s2, s3⟩ := may_short x hm
  obtain ⟨ao, ca, rfl, _, _, _, _⟩ := hu.ex
  have HM : Hid _ := hM
  have HT : Hid (TabV w) := hT
  have k1 : (x.kind == 1) = false := beq_eq_false_iff_ne.2 (by omega)
  have k2 : (x.kind == 2) = false := beq_eq_false_iff_ne.2 (by omega)
  have k3 : (x.kind == 3) = false := beq_eq_false_iff_ne.2 (by omega)
  have k4 : (x.kind == 4) = true := beq_iff_eq.2 hk
  obtain ⟨S, hS⟩ : ∃ S, ba (quoL x.text.data.toList) = S := ⟨_, rfl⟩
  have e0 : ba (litL x) = S := by rw [← hS]; unfold litL; simp [hk]
  rw [e0]
  have HS : Hid (ba (quoL x.text.data.toList) = S) := hS
  clear hS e0
  clear hu hm hM hT hk
  have K0 : Hid (Keep [] w (w.alloc (x.blk (.slice ao x.texts.length ca)))) := Keep.alloc1 w _
  go_enter Tryz.func8, Tryz.ntmps8
  go_wp2_with fail
  refine (HM.out _ K0.out).mono ?_
  rintro e9 w1 ⟨rfl, kk1⟩
  obtain ⟨⟨c0, c1, c2, c3, c4, c5⟩, _⟩ := six_cells kk1 (by simp)
  have HK1 : Hid (Keep [] w w1) := K0.out.trans' kk1
  clear HM kk1
  go_wp2_with fail
  refine ((show Calls Tryz.prog 24 #[.string x.text] w1 (fun e w2 => e = .returned (.string S) ∧ Keep [] w1 w2) from by have h := rquoted_all x.text.data.toList w1 (by rw [ba_len]; omega); rw [ba_self, HS.out] at h; exact h)).mono ?_
  rintro e9 w2 ⟨rfl, k9⟩
  have HK2 : Hid (Keep [] w w2) := HK1.out.trans' k9
  clear k9
  go_wp2
  go_ret2
  exact ⟨rfl, HK2.out⟩
set_option maxRecDepth 1000000 in
set_option maxHeartbeats 400000 in
theorem dText_no (x : VD) (hx : x.Ok) (hm : x.mayB = false) (u : Value) (w : World) (hu : Ts w u x.texts) :
    Calls Tryz.prog 8 #[x.val u] w fun e w' => e = .returned (.tuple #[.string ⟨#[]⟩, .int .i64 40]) ∧ Keep [] w w' := by
  have hM := fun w1 (k : Keep [] w w1) => rMay_any x hx u w1 (hu.keep k (Off.nil _))
  rw [hm] at hM
  obtain ⟨ao, ca, rfl, _, _, _, _⟩ := hu.ex
  have HM : Hid _ := hM
  clear hu hm hM
  have K0 : Hid (Keep [] w (w.alloc (x.blk (.slice ao x.texts.length ca)))) := Keep.alloc1 w _
  go_enter Tryz.func8, Tryz.ntmps8
  go_wp2_with fail
  refine (HM.out _ K0.out).mono ?_
  rintro e9 w1 ⟨rfl, kk1⟩
  have HK1 : Hid (Keep [] w w1) := K0.out.trans' kk1
  clear HM kk1
  go_wp2
  go_ret2
  exact ⟨rfl, HK1.out⟩

set_option maxRecDepth 1000000 in
set_option maxHeartbeats 1600000 in
theorem dText_5 (x : VD) (hx : x.Ok) (hm : x.mayB = true) (hk : x.kind = 5) (u : Value) (w : World) (hu : Ts w u x.texts) :
    Calls Tryz.prog 8 #[x.val u] w fun e w' => e = .returned (.tuple #[.string (ba (litL x)), .int .i64 0]) ∧ Keep [] w w' := by
  have hM := fun w1 (k : Keep [] w w1) => rMay_any x hx u w1 (hu.keep k (Off.nil _))
  rw [hm] at hM
  obtain ⟨s1, s2, s3⟩ := may_short x hm
  obtain ⟨ao, ca, rfl, hc1, hc2, _, h4⟩ := hu.ex
  have HM : Hid _ := hM
  have k1 : (x.kind == 1) = false := beq_eq_false_iff_ne.2 (by omega)
  have k2 : (x.kind == 2) = false := beq_eq_false_iff_ne.2 (by omega)
  have k3 : (x.kind == 3) = false := beq_eq_false_iff_ne.2 (by omega)
  have k4 : (x.kind == 4) = false := beq_eq_false_iff_ne.2 (by omega)
  obtain ⟨S, hS⟩ : ∃ S, ba (listL x.texts) = S := ⟨_, rfl⟩
  have e0 : ba (litL x) = S := by rw [← hS]; unfold litL; simp [hk]
  rw [e0]
  have HS : Hid (ba (listL x.texts) = S) := hS
  have HQ : Hid (∀ j (h : j < x.texts.length) (w : World), Calls Tryz.prog 24 #[.string x.texts[j]] w fun e w' => e = .returned (.string (ba (quoL x.texts[j].data.toList))) ∧ Keep [] w w') := fun j h w => by
    have h1 := rquoted_all x.texts[j].data.toList w (by rw [ba_len]; have := s3 x.texts[j] (List.getElem_mem h); omega)
    rw [ba_self] at h1
    exact h1
  have HQL : Hid (∀ j (h : j < x.texts.length), (quoL x.texts[j].data.toList).length ≤ 1026) := fun j h => by
    have h2 := quoL_len x.texts[j].data.toList
    rw [ba_len] at h2
    have := s3 x.texts[j] (List.getElem_mem h)
    omega
  have H4 : Hid (x.texts ≠ [] → ∃ b o, ao = some ⟨b, o, none⟩ ∧ ∀ j (h : j < x.texts.length), w.cell? ⟨b, o + j, none⟩ = some (.string x.texts[j])) := h4
  have hni : (x.texts.length : Int) ≤ 32 := by omega
  have HCA : Hid (x.texts.length ≤ ca ∧ ca ≤ 9223372036854775807) := ⟨hc1, hc2⟩
  clear hu hm hM hk hS e0 s1 s3 h4 hc1 hc2
  have K0 : Hid (Keep [] w (w.alloc (x.blk (.slice ao x.texts.length ca)))) := Keep.alloc1 w _
  go_enter Tryz.func8, Tryz.ntmps8
  go_wp2_with fail
  refine (HM.out _ K0.out).mono ?_
  rintro e9 w1 ⟨rfl, kk1⟩
  obtain ⟨⟨c0, c1, c2, c3, c4, c5⟩, _⟩ := six_cells kk1 (by simp)
  have HK1 : Hid (Keep [] w w1) := K0.out.trans' kk1
  clear HM kk1
  obtain ⟨g, hg⟩ : ∃ g, w.heap.size = g := ⟨_, rfl⟩
  rw [hg] at c0 c1 c2 c3 c4 c5 ⊢
  clear hg
  go_wp2
  have C5 : Hid (w1.cell? ⟨g, 5, none⟩ = some (.slice ao x.texts.length ca)) := c5
  clear c0 c1 c2 c3 c4 c5
  go_loopw [4, 5] (fun sv iv wr => ∃ (R : ByteArray) (k : Nat), sv = .string R ∧ iv = .int .i64 k ∧ k ≤ x.texts.length ∧ R.size ≤ 1 + 1028 * k ∧ Hid (R = ba (91 :: Lib.join ((x.texts.take k).map fun t => quoL t.data.toList) [44, 32])) ∧ Hid (Keep [] w1 wr)) (fun _ iv _ => x.texts.length - (intOf iv).toNat)
  case atStart => exact ⟨_, 0, rfl, rfl, Nat.zero_le _, (by decide), rfl, Keep.refl [] w1⟩
  case round =>
    obtain ⟨R, k, rfl, rfl, hkn, hRs, HR, HKr⟩ := hrel
    have c5 : wr.cell? ⟨g, 5, none⟩ = some (.slice ao x.texts.length ca) := HKr.out.cell' C5.out (by simp)
    by_cases hkt : k < x.texts.length
    · obtain ⟨b, o, rfl, hc⟩ := H4.out (fun h => by rw [h] at hkt; simp at hkt)
      have m0 : wr.cell? ⟨b, o + k, none⟩ = some (.string x.texts[k]) := (HK1.out.trans' HKr.out).cell' (hc k hkt) (by simp)
      have hA := HQ.out k hkt
      have hql := HQL.out k hkt
      have hki : (k : Int) < (x.texts.length : Int) := by omega
      obtain ⟨q, hq⟩ : ∃ q, quoL x.texts[k].data.toList = q := ⟨_, rfl⟩
      rw [hq] at hA hql
      have hqs : (ba q).size ≤ 1026 := by rw [ba_size]; exact hql
      have hT : (x.texts.take (k + 1)).map (fun t => quoL t.data.toList) = ((x.texts.take k).map fun t => quoL t.data.toList) ++ [q] := by
        rw [List.take_succ_eq_append_getElem hkt, List.map_append, List.map_cons, List.map_nil, hq]
      clear hc H4 HQ HQL hq hql
      generalize x.texts[k] = tk at *
      by_cases hk0 : k = 0
      · have HN : Hid (R ++ ba q = ba (91 :: Lib.join ((x.texts.take (k + 1)).map fun t => quoL t.data.toList) [44, 32])) := by
          show _ = _
          rw [HR.out, hT, bal_app, hk0]
          simp [Lib.join_nil, Lib.join_one]
        subst hk0
        rw [Nat.add_zero] at m0
        clear hT
        have z3 : (R ++ ba q).size ≤ 1 + 1028 * (0 + 1) := by rw [ByteArray.size_append]; omega
        generalize ba q = Q at *
        have HZ3 : Hid ((R ++ Q).size ≤ 1 + 1028 * (0 + 1)) := z3
        clear z3
        go_wp2_with fail
        refine (hA _).mono ?_
        rintro e9 w9 ⟨rfl, K9⟩
        have HK9 : Hid (Keep [] w1 w9) := HKr.out.trans' K9
        clear K9 m0 hA c5
        go_wp2
        go_roundw
        case rel => exact ⟨_, 1, rfl, by go_num, by omega, HZ3.out, HN, HK9⟩
        case measure => simp [intOf]; omega
      · have hkp : (0 : Int) < (k : Int) := by omega
        have HN : Hid (R ++ ⟨#[44, 32]⟩ ++ ba q = ba (91 :: Lib.join ((x.texts.take (k + 1)).map fun t => quoL t.data.toList) [44, 32])) := by
          show _ = _
          have hne : ((x.texts.take k).map fun t => quoL t.data.toList) ≠ [] := fun h => by
            have := congrArg List.length h
            rw [List.length_map, List.length_take, List.length_nil] at this
            omega
          rw [HR.out, hT, join_snoc _ _ _ hne, show (⟨#[44, 32]⟩ : ByteArray) = ba [44, 32] from rfl, bal_app, bal_app]
          simp [List.append_assoc]
        clear hT
        have z2 : (⟨#[44, 32]⟩ : ByteArray).size = 2 := rfl
        have z3 : (R ++ ⟨#[44, 32]⟩ ++ ba q).size ≤ 1 + 1028 * (k + 1) := by rw [ByteArray.size_append, ByteArray.size_append, z2]; omega
        have z4 : (R ++ ⟨#[44, 32]⟩).size ≤ 3 + 1028 * k := by rw [ByteArray.size_append, z2]; omega
        generalize ba q = Q at *
        have HZ3 : Hid ((R ++ ⟨#[44, 32]⟩ ++ Q).size ≤ 1 + 1028 * (k + 1)) := z3
        clear z3
        go_wp2_with fail
        refine (hA _).mono ?_
        rintro e9 w9 ⟨rfl, K9⟩
        have HK9 : Hid (Keep [] w1 w9) := HKr.out.trans' K9
        clear K9 m0 hA c5
        go_wp2
        go_roundw
        case rel => exact ⟨_, k + 1, rfl, by go_num, by omega, HZ3.out, HN, HK9⟩
        case measure => simp [intOf]; omega
    · obtain rfl : k = x.texts.length := by omega
      have HN : Hid (R ++ ⟨#[93]⟩ = S) := by
        show _ = _
        rw [← HS.out, HR.out, List.take_length, show (⟨#[93]⟩ : ByteArray) = ba [93] from rfl, bal_app]
        rfl
      have z2 : (⟨#[93]⟩ : ByteArray).size = 1 := rfl
      have hnn := HN.out
      clear H4 HQ HQL
      go_wp2
      go_ret2
      exact ⟨rfl, HK1.out.trans' HKr.out⟩

theorem dText_yes (x : VD) (hx : x.Ok) (hm : x.mayB = true) (u : Value) (w : World) (hu : Ts w u x.texts) (hT : TabV w) :
    Calls Tryz.prog 8 #[x.val u] w fun e w' => e = .returned (.tuple #[.string (ba (litL x)), .int .i64 0]) ∧ Keep [] w w' := by
  have hk := may_kind x hm
  by_cases c1 : x.kind = 1
  · exact dText_1 x hx hm c1 u w hu
  · by_cases c2 : x.kind = 2
    · exact dText_2 x hx hm c2 u w hu hT
    · by_cases c3 : x.kind = 3
      · exact dText_3 x hx hm c3 u w hu hT
      · by_cases c4 : x.kind = 4
        · exact dText_4 x hx hm c4 u w hu hT
        · exact dText_5 x hx hm (by omega) u w hu
end Go.Proofs.YtjdihnkcigoajaaGreatDoor

/- SameBytes; the document's Check. -/
namespace Go.Proofs.YtjdihnkcigoajaaGreatDoor
open Go.RowKit Go.PlainAid

theorem eq_of_getD (l r : List UInt8) (h : l.length = r.length) (hh : ∀ j, j < l.length → l.getD j 0 = r.getD j 0) : l = r := by
  apply List.ext_getElem h
  intro j h1 h2
  have := hh j h1
  rw [List.getD_eq_getElem?_getD, List.getD_eq_getElem?_getD, List.getElem?_eq_getElem h1, List.getElem?_eq_getElem h2] at this
  exact this

set_option maxRecDepth 1000000 in
set_option maxHeartbeats 3200000 in
theorem sameBytes_any (u v : Value) (l r : List UInt8) (w : World) (hu : Bs w u l) (hv : Bs w v r) :
    Calls Tryz.prog 11 #[u, v] w fun e w' => e = .returned (.bool (l == r)) ∧ ∃ n, w' = w.drewN n := by
  obtain ⟨au, cu, hue, _, _, _, _⟩ := hu.ex
  obtain ⟨av, cv, hve, _, _, _, _⟩ := hv.ex
  by_cases hlen : l.length = r.length
  · rcases hu.cases with ⟨rfl, ao, cap, rfl, _, _⟩ | ⟨_, b, o, cap, rfl, h0, h1, h2, h3⟩
    · have hr : r = [] := List.eq_nil_of_length_eq_zero (by simpa using hlen.symm)
      subst hr
      subst hve
      clear hu hv hue hlen
      go_enter Tryz.func11, Tryz.ntmps11
      go_wp2
      go_loop [5] (fun iv => iv = .int .i64 0) (fun _ => 0)
      case atStart => rfl
      case round =>
        obtain rfl := hrel
        go_wp2
        go_ret
        exact ⟨rfl, 0, rfl⟩
    · rcases hv.cases with ⟨hr0, _⟩ | ⟨_, b', o', cap', hv2, g0, g1, g2, g3⟩
      · rw [hr0, List.length_nil] at hlen
        omega
      rw [← hlen] at hv2 g3 g1
      have HL : Hid (l.length = r.length) := hlen
      clear hu hv hue hve hlen
      subst hv2
      go_enter Tryz.func11, Tryz.ntmps11
      go_wp2
      go_loopw [5] (fun iv wr => ∃ i : Nat, iv = .int .i64 (i : Int) ∧ i ≤ l.length ∧ (∀ j, j < i → l.getD j 0 = r.getD j 0) ∧ ∃ n, wr = w.drewN n) (fun iv _ => l.length - (RowKit.intOf iv).toNat)
      case atStart => exact ⟨0, rfl, Nat.zero_le _, fun j hj => by omega, 0, rfl⟩
      case round =>
        obtain ⟨i, rfl, hi, hall, nn, rfl⟩ := hrel
        by_cases hil : i < l.length
        · have c1 := h3 i hil
          have c2 := g3 i hil
          have hili : (i : Int) < (l.length : Int) := by omega
          by_cases hx : l.getD i 0 = r.getD i 0
          · have HALL : Hid (∀ j, j < i + 1 → l.getD j 0 = r.getD j 0) := by
              intro j hj
              by_cases hji : j = i
              · rw [hji]; exact hx
              · exact hall j (by omega)
            rw [hx] at c1
            generalize (r.getD i 0).toNat = c at c1 c2
            clear hall h3 g3 hx
            go_wp2
            go_quiet (fail)
            go_wp2
            go_roundw
            case rel => exact ⟨i + 1, by go_num, by omega, HALL.out, _, rfl⟩
            case measure => simp [RowKit.intOf]; omega
          · have hne : (((l.getD i 0).toNat : Int) == ((r.getD i 0).toNat : Int)) = false := by
              simp only [beq_eq_false_iff_ne]
              intro h
              exact hx (UInt8.toNat_inj.1 (by omega))
            have HF : Hid ((l == r) = false) := by
              show (l == r) = false
              simp only [beq_eq_false_iff_ne]
              intro h
              rw [h] at hx
              exact hx rfl
            generalize (l.getD i 0).toNat = c1' at c1 hne
            generalize (r.getD i 0).toNat = c2' at c2 hne
            clear hall h3 g3 hx
            go_wp2
            go_quiet (fail)
            go_wp2
            go_ret
            exact ⟨by rw [HF.out]; rfl, _, drewN_drewN _ _ _⟩
        · have hili : ¬ ((i : Int) < (l.length : Int)) := by omega
          have HT : Hid ((l == r) = true) := by
            show (l == r) = true
            simp only [beq_iff_eq]
            exact eq_of_getD l r HL.out (fun j hj => hall j (by omega))
          clear hall h3 g3
          go_wp2
          go_ret
          exact ⟨by rw [HT.out]; rfl, nn, rfl⟩
  · have hne : ((l.length : Int) != (r.length : Int)) = true := by simp; omega
    have HF : Hid ((l == r) = false) := by
      show (l == r) = false
      simp only [beq_eq_false_iff_ne]
      intro h
      exact hlen (by rw [h])
    subst hue
    subst hve
    clear hu hv
    go_enter Tryz.func11, Tryz.ntmps11
    go_wp2
    go_ret
    exact ⟨by rw [HF.out]; rfl, 0, rfl⟩

def pickZ (x n : Int) : Int := if n < 1 then 0 else x % n


set_option maxRecDepth 1000000 in
theorem dCheck_any (x : VD) (hx : x.Ok) (u : Value) (w : World) (hu : Ts w u x.texts) :
    Calls Tryz.prog 10 #[x.val u] w fun e w' => e = .returned (.int .i64 (if x.mayB then 0 else 40)) ∧ Keep [] w w' := by
  have hM := fun w1 (k : Keep [] w w1) => rMay_any x hx u w1 (hu.keep k (Off.nil _))
  obtain ⟨ao, ca, rfl, _, _, _, _⟩ := hu.ex
  have HM : Hid _ := hM
  have K0 : Hid (Keep [] w (w.alloc (x.blk (.slice ao x.texts.length ca)))) := Keep.alloc1 w _
  clear hu hM
  cases hb : x.mayB
  all_goals
    have HM2 : Hid (∀ w1, Keep [] w w1 → Calls Tryz.prog 21 #[x.val (.slice ao x.texts.length ca)] w1 fun e w' => e = .returned (.bool x.mayB) ∧ Keep [] w1 w') := HM.out
    rw [hb] at HM2
    clear hb HM
    go_enter Tryz.func10, Tryz.ntmps10
    go_wp2_with fail
    refine (HM2.out _ K0.out).mono ?_
    rintro e9 w1 ⟨rfl, k1⟩
    have HK1 : Hid (Keep [] w w1) := K0.out.trans' k1
    clear HM2 k1
    go_wp2
    go_ret
    exact ⟨rfl, HK1.out⟩
end Go.Proofs.YtjdihnkcigoajaaGreatDoor
