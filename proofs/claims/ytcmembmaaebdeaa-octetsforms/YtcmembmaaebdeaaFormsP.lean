/- What is read as a number is just the bytes that are written of it: OctetsForms answers true for every input. -/
import Derived.Test.YtcmembmaaebdeaaRMeth2
import Derived.Test.YtcmembmaaebdeaaFormsM
import Derived.Test.YtcmembmaaebdeaaAwakeW
import Derived.Test.YtcmembmaaebdeaaHelpW
import Derived.Deep.RegionHeld3
namespace Go.Proofs.Ytcmembmaaebdeaa
open Go.RowKit Go.PlainAid Go.Lib

theorem turnL_size (l : List UInt8) : (turnL l).2.1 ≤ l.length := numL_size l
theorem keep_start0 (w : World) : Keep [] w w.drew := (Keep.refl _ _).drew
theorem bytes_held (b o : Nat) (l : List UInt8) (rb : Option Nat) (w0 w : World) (hw : Wr w0 b o l rb) (k : Keep [] w0 w) (hn : l.length ≤ 140737488355328) :
    Calls Try.prog 17 #[.pointer (some ⟨b, o, none⟩)] w fun e w' => ∃ v', e = .returned v' ∧ Row w' v' l ∧ Fresh w w' v' ∧ Keep [] w w' ∧ Sl v' l.length := wBytes_any b o l rb w (hw.keep k (by simp) (fun _ _ => by simp)) hn
theorem same_held (u v : Value) (l r : List UInt8) (w0 w1 w : World) (hu : Row w1 u l) (k1 : Keep [] w1 w) (hv : Bs w0 v r) (k : Keep [] w0 w) :
    Calls Try.prog 16 #[u, v] w fun e w' => e = .returned (.bool (l == r)) ∧ Keep [] w w' := by
  refine (same_any u v l r w (hu.bs.keep k1 (Off.nil _)) (hv.keep k (Off.nil _))).mono ?_
  rintro e w9 ⟨rfl, n, rfl⟩
  exact ⟨rfl, (Keep.refl _ _).drewN n⟩

set_option maxRecDepth 1000000 in
set_option maxHeartbeats 12800000 in
theorem forms_uint (ao : Option Addr) (cap : Nat) (l : List UInt8) (kind : Int) (hk0 : -9223372036854775808 ≤ kind) (hk1 : kind ≤ 9223372036854775807) (hP : pickZ kind 3 = 0) (w : World) (hv : Bs w (.slice ao l.length cap) l) (hln : l.length ≤ 140737488351232) :
    Calls Try.prog 8 #[.slice ao l.length cap, .int .i64 kind] w fun e w' => e = .returned (.bool true) ∧ Below w.heap.size w w' := by
  have hl0 : l.length ≤ 140737488355328 := by omega
  have hcap : l.length ≤ cap ∧ cap ≤ 9223372036854775807 := by
    obtain ⟨ao', cap', he, h1, h2, _⟩ := hv.ex
    simp at he
    obtain ⟨_, rfl⟩ := he
    simp only [maxLen] at h2
    omega
  go_enter Try.func8, Try.ntmps8
  go_wp2_with fail
  refine (awake_any w).mono ?_
  rintro e1 w1 ⟨rfl, K1⟩
  go_wp2_with fail
  refine (copy_any _ l w1 (hv.keep K1 (Off.nil _)) hl0).mono ?_
  rintro e2 w2 ⟨v2, rfl, R2, F2, K2⟩
  have K2' := K1.trans' K2
  have C2 := R2.bs
  clear R2 F2 K1 K2
  go_wp2_with fail
  refine (Read_any v2 l w2 C2 hl0).mono ?_
  rintro e3 w3 ⟨b, rb, rfl, D3, hb3, hr3, K3⟩
  have K3' := K2'.trans' K3
  have hbn : w.heap.size ≤ b := Nat.le_trans K2'.size hb3
  have hblt := D3.blt
  have D4 := D3.alloc (.cells #[.slice none 0 0] 28)
  have K4 : Keep [] w (w3.alloc (.cells #[.slice none 0 0] 28)) := K3'.alloc _
  have W4 : Wr (w3.alloc (.cells #[.slice none 0 0] 28)) w3.heap.size 0 [] none := Wr.zero _ _ _ (by simp) (by simp)
  have hgn : w.heap.size ≤ w3.heap.size := K3'.size
  have hrl : ∀ k, rb = some k → k < w3.heap.size := D3.lt
  have hg4 : w3.heap.size < (w3.alloc (.cells #[.slice none 0 0] 28)).heap.size := by simp
  clear C2 K2' K3 hb3 hr3 D3 K3'
  go_wp2_with fail
  have hPk := pick_any kind 3 hk0 hk1 (by omega) (w3.alloc (.cells #[.slice none 0 0] 28))
  rw [hP] at hPk
  refine hPk.mono ?_
  rintro e5 w5 ⟨rfl, hw5⟩
  subst hw5
  clear hPk
  generalize w3.heap.size = g at hgn hrl W4 hblt hg4 ⊢
  generalize w3.alloc (.cells #[.slice none 0 0] 28) = w4 at D4 K4 W4 hg4 ⊢
  have hread := rUint_any b 0 l 0 rb w4 D4
  rw [rdOf_pos] at hread
  have hsz := numL_size l
  have hback := numL_back l
  have herr := numL_err l
  have hzero : (numL l).2.2 ≠ 0 → (numL l).2.1 = 0 := fun h => (numL_zero l h).2
  have hxr := numL_lt l
  generalize numL l = R at hread hsz hback herr hzero hxr
  obtain ⟨x, n, er⟩ := R
  simp only at hread hsz hback herr hzero hxr
  clear D4
  go_wp2_with fail
  refine hread.mono ?_
  rintro e6 w6 ⟨rfl, D6, K6⟩
  have hgb : g ≠ b := by omega
  have W6 := W4.keep K6 (by simp; omega) (fun _ h => by cases h)
  have K6' : Keep [] w w6 := K4.more K6 (by intro z hz; simp at hz; subst hz; exact .inr hbn)
  have hg6 : g < w6.heap.size := Nat.lt_of_lt_of_le hg4 K6.size
  clear hread W4 K4 K6 hg4
  go_wp2_with fail
  refine (wUint_any g 0 [] none x hxr w6 W6 (by simp)).mono ?_
  rintro e7 w7 ⟨rfl, r7, W7, K7, N7⟩
  have K7' : Keep [] w w7 := K6'.more K7 (by intro z hz; simp at hz; subst hz; exact .inr hgn)
  have D7 := D6.keep K7 (by simp; omega) (fun z hz => by have := hrl z hz; simp; omega)
  rw [List.nil_append] at W7
  clear W6 K7 N7 K6' D6
  go_wp2_with fail
  refine (err_any b 0 _ er rb w7 D7).mono ?_
  rintro e8 w8 ⟨rfl, hw8⟩
  obtain rfl := hw8.symm
  by_cases her : er = 0
  · subst her
    obtain ⟨hbk, hn0⟩ := hback rfl
    rw [hbk] at W7
    have hleft := left_any b 0 _ 0 rb w7 D7
    have hdl : ((l.drop n).length : Int) = (l.length : Int) - (n : Int) := by rw [List.length_drop]; omega
    rw [hdl] at hleft
    have HB7 : Hid (Bs w7 (.slice ao l.length cap) l) := hv.keep K7' (Off.nil _)
    have HK7 : Hid (Keep [] w w7) := K7'
    have HW7 : Hid (Wr w7 g 0 (l.take n) r7) := W7
    have HT : Hid ((l.take n).length ≤ 140737488355328) := by
      show (l.take n).length ≤ 140737488355328
      simp; omega
    have HD : Hid (Bs w7 (.slice ao n cap) (l.take n)) := HB7.out.take n hsz
    obtain ⟨bb, oo, hao⟩ : ∃ bb oo, ao = some ⟨bb, oo, none⟩ := by
      obtain ⟨ao', cap', he, _, _, _, h4⟩ := hv.ex
      obtain ⟨bb, oo, hao, _⟩ := h4 (by intro hz; rw [hz] at hsz; simp at hsz; omega)
      simp at he
      exact ⟨bb, oo, he.1.trans hao⟩
    have hni : (0 : Int) < (n : Int) := by omega
    have hnc : (n : Int) ≤ (cap : Int) := by omega
    have hn00 : (0 : Int) ≤ (n : Int) := by omega
    have hnl : (n : Int) ≤ (l.length : Int) := by omega
    have hss : (l.length : Int) - ((l.length : Int) - (n : Int)) = (n : Int) := by omega
    clear hback herr hzero hxr hdl D7 W7 K7' hbk hv
    subst hao
    go_wp2_with fail
    refine hleft.mono ?_
    rintro e9 w9 ⟨rfl, hw9⟩
    obtain rfl := hw9.symm
    clear hleft
    go_wp2
    go_region_held3 (fun w' => Keep [] w7 w')
      (first | exact keep_start0 _ | exact Keep.trans' (by assumption) (by assumption))
      (first
        | (go_at_call 17; refine (bytes_held g 0 (l.take n) r7 w7 _ HW7.out (by assumption) HT.out).mono ?_; rintro e10 w10 ⟨v10, rfl, R10, F10, K10, S10⟩)
        | (go_at_call 16; refine (same_held _ _ _ _ w7 _ _ R10 (by first | assumption | exact Keep.refl _ _ | exact (Keep.refl _ _).drew) HD.out (by assumption)).mono ?_; rintro e11 w11 ⟨rfl, K11⟩))
    all_goals
      rename_i hH
      have HH : Hid (Below w.heap.size w _) := (HK7.out.trans' hH).below
      clear hH
      go_wp2
      go_ret
      exact ⟨rfl, HH.out⟩
  · have hn0 := hzero her
    subst hn0
    rw [List.drop_zero] at D7
    have HK : Hid (Below w.heap.size w w7) := K7'.below
    rcases herr with h | h | ⟨h, h10⟩
    · exact absurd h her
    · subst h
      have hE := err_any b 0 l 21 rb w7 D7
      have hL := left_any b 0 l 21 rb w7 D7
      clear hback hzero hxr her D7 W7 K7' hv
      go_wp2_with (first | (go_at_call 21; refine hE.mono ?_; rintro e9 w9 ⟨rfl, hw9⟩; obtain rfl := hw9.symm) | (go_at_call 22; refine hL.mono ?_; rintro e9 w9 ⟨rfl, hw9⟩; obtain rfl := hw9.symm))
      go_ret
      exact ⟨rfl, HK.out⟩
    · subst h
      have hE := err_any b 0 l 20 rb w7 D7
      have hL := left_any b 0 l 20 rb w7 D7
      have h10i : (l.length : Int) < 10 := by omega
      clear hback hzero hxr her D7 W7 K7' hv
      go_wp2_with (first | (go_at_call 21; refine hE.mono ?_; rintro e9 w9 ⟨rfl, hw9⟩; obtain rfl := hw9.symm) | (go_at_call 22; refine hL.mono ?_; rintro e9 w9 ⟨rfl, hw9⟩; obtain rfl := hw9.symm))
      go_ret
      exact ⟨rfl, HK.out⟩

set_option maxRecDepth 1000000 in
set_option maxHeartbeats 12800000 in
theorem forms_int (ao : Option Addr) (cap : Nat) (l : List UInt8) (kind : Int) (hk0 : -9223372036854775808 ≤ kind) (hk1 : kind ≤ 9223372036854775807) (hP : pickZ kind 3 = 1) (w : World) (hv : Bs w (.slice ao l.length cap) l) (hln : l.length ≤ 140737488351232) :
    Calls Try.prog 8 #[.slice ao l.length cap, .int .i64 kind] w fun e w' => e = .returned (.bool true) ∧ Below w.heap.size w w' := by
  have hl0 : l.length ≤ 140737488355328 := by omega
  have hcap : l.length ≤ cap ∧ cap ≤ 9223372036854775807 := by
    obtain ⟨ao', cap', he, h1, h2, _⟩ := hv.ex
    simp at he
    obtain ⟨_, rfl⟩ := he
    simp only [maxLen] at h2
    omega
  go_enter Try.func8, Try.ntmps8
  go_wp2_with fail
  refine (awake_any w).mono ?_
  rintro e1 w1 ⟨rfl, K1⟩
  go_wp2_with fail
  refine (copy_any _ l w1 (hv.keep K1 (Off.nil _)) hl0).mono ?_
  rintro e2 w2 ⟨v2, rfl, R2, F2, K2⟩
  have K2' := K1.trans' K2
  have C2 := R2.bs
  clear R2 F2 K1 K2
  go_wp2_with fail
  refine (Read_any v2 l w2 C2 hl0).mono ?_
  rintro e3 w3 ⟨b, rb, rfl, D3, hb3, hr3, K3⟩
  have K3' := K2'.trans' K3
  have hbn : w.heap.size ≤ b := Nat.le_trans K2'.size hb3
  have hblt := D3.blt
  have D4 := D3.alloc (.cells #[.slice none 0 0] 28)
  have K4 : Keep [] w (w3.alloc (.cells #[.slice none 0 0] 28)) := K3'.alloc _
  have W4 : Wr (w3.alloc (.cells #[.slice none 0 0] 28)) w3.heap.size 0 [] none := Wr.zero _ _ _ (by simp) (by simp)
  have hgn : w.heap.size ≤ w3.heap.size := K3'.size
  have hrl : ∀ k, rb = some k → k < w3.heap.size := D3.lt
  have hg4 : w3.heap.size < (w3.alloc (.cells #[.slice none 0 0] 28)).heap.size := by simp
  clear C2 K2' K3 hb3 hr3 D3 K3'
  go_wp2_with fail
  have hPk := pick_any kind 3 hk0 hk1 (by omega) (w3.alloc (.cells #[.slice none 0 0] 28))
  rw [hP] at hPk
  refine hPk.mono ?_
  rintro e5 w5 ⟨rfl, hw5⟩
  subst hw5
  clear hPk
  generalize w3.heap.size = g at hgn hrl W4 hblt hg4 ⊢
  generalize w3.alloc (.cells #[.slice none 0 0] 28) = w4 at D4 K4 W4 hg4 ⊢
  have hread := rInt_any b 0 l 0 rb w4 D4
  rw [rdOf_pos] at hread
  have hsz := turnL_size l
  have hback : (turnL l).2.2 = 0 → uvarint (zigzag (turnL l).1) = l.take (turnL l).2.1 ∧ 0 < (turnL l).2.1 := by
    intro h
    have := numL_back l h
    show uvarint (zigzag (unzig (numL l).1)) = l.take (numL l).2.1 ∧ 0 < (numL l).2.1
    rw [zig_unzig]
    exact this
  have herr : (turnL l).2.2 = 0 ∨ (turnL l).2.2 = 21 ∨ ((turnL l).2.2 = 20 ∧ l.length < 10) := numL_err l
  have hzero : (turnL l).2.2 ≠ 0 → (turnL l).2.1 = 0 := fun h => (numL_zero l h).2
  have hxr : -9223372036854775808 ≤ (turnL l).1 ∧ (turnL l).1 ≤ 9223372036854775807 := unzig_range _ (numL_lt l)
  generalize turnL l = R at hread hsz hback herr hzero hxr
  obtain ⟨x, n, er⟩ := R
  simp only at hread hsz hback herr hzero hxr
  clear D4
  go_wp2_with fail
  refine hread.mono ?_
  rintro e6 w6 ⟨rfl, D6, K6⟩
  have hgb : g ≠ b := by omega
  have W6 := W4.keep K6 (by simp; omega) (fun _ h => by cases h)
  have K6' : Keep [] w w6 := K4.more K6 (by intro z hz; simp at hz; subst hz; exact .inr hbn)
  have hg6 : g < w6.heap.size := Nat.lt_of_lt_of_le hg4 K6.size
  clear hread W4 K4 K6 hg4
  go_wp2_with fail
  refine (wInt_any g 0 [] none x hxr.1 hxr.2 w6 W6 (by simp)).mono ?_
  rintro e7 w7 ⟨rfl, r7, W7, K7, N7⟩
  have K7' : Keep [] w w7 := K6'.more K7 (by intro z hz; simp at hz; subst hz; exact .inr hgn)
  have D7 := D6.keep K7 (by simp; omega) (fun z hz => by have := hrl z hz; simp; omega)
  rw [List.nil_append] at W7
  clear W6 K7 N7 K6' D6
  go_wp2_with fail
  refine (err_any b 0 _ er rb w7 D7).mono ?_
  rintro e8 w8 ⟨rfl, hw8⟩
  obtain rfl := hw8.symm
  by_cases her : er = 0
  · subst her
    obtain ⟨hbk, hn0⟩ := hback rfl
    rw [hbk] at W7
    have hleft := left_any b 0 _ 0 rb w7 D7
    have hdl : ((l.drop n).length : Int) = (l.length : Int) - (n : Int) := by rw [List.length_drop]; omega
    rw [hdl] at hleft
    have HB7 : Hid (Bs w7 (.slice ao l.length cap) l) := hv.keep K7' (Off.nil _)
    have HK7 : Hid (Keep [] w w7) := K7'
    have HW7 : Hid (Wr w7 g 0 (l.take n) r7) := W7
    have HT : Hid ((l.take n).length ≤ 140737488355328) := by
      show (l.take n).length ≤ 140737488355328
      simp; omega
    have HD : Hid (Bs w7 (.slice ao n cap) (l.take n)) := HB7.out.take n hsz
    obtain ⟨bb, oo, hao⟩ : ∃ bb oo, ao = some ⟨bb, oo, none⟩ := by
      obtain ⟨ao', cap', he, _, _, _, h4⟩ := hv.ex
      obtain ⟨bb, oo, hao, _⟩ := h4 (by intro hz; rw [hz] at hsz; simp at hsz; omega)
      simp at he
      exact ⟨bb, oo, he.1.trans hao⟩
    have hni : (0 : Int) < (n : Int) := by omega
    have hnc : (n : Int) ≤ (cap : Int) := by omega
    have hn00 : (0 : Int) ≤ (n : Int) := by omega
    have hnl : (n : Int) ≤ (l.length : Int) := by omega
    have hss : (l.length : Int) - ((l.length : Int) - (n : Int)) = (n : Int) := by omega
    clear hback herr hzero hxr hdl D7 W7 K7' hbk hv
    subst hao
    go_wp2_with fail
    refine hleft.mono ?_
    rintro e9 w9 ⟨rfl, hw9⟩
    obtain rfl := hw9.symm
    clear hleft
    go_wp2
    go_region_held3 (fun w' => Keep [] w7 w')
      (first | exact keep_start0 _ | exact Keep.trans' (by assumption) (by assumption))
      (first
        | (go_at_call 17; refine (bytes_held g 0 (l.take n) r7 w7 _ HW7.out (by assumption) HT.out).mono ?_; rintro e10 w10 ⟨v10, rfl, R10, F10, K10, S10⟩)
        | (go_at_call 16; refine (same_held _ _ _ _ w7 _ _ R10 (by first | assumption | exact Keep.refl _ _ | exact (Keep.refl _ _).drew) HD.out (by assumption)).mono ?_; rintro e11 w11 ⟨rfl, K11⟩))
    all_goals
      rename_i hH
      have HH : Hid (Below w.heap.size w _) := (HK7.out.trans' hH).below
      clear hH
      go_wp2
      go_ret
      exact ⟨rfl, HH.out⟩
  · have hn0 := hzero her
    subst hn0
    rw [List.drop_zero] at D7
    have HK : Hid (Below w.heap.size w w7) := K7'.below
    rcases herr with h | h | ⟨h, h10⟩
    · exact absurd h her
    · subst h
      have hE := err_any b 0 l 21 rb w7 D7
      have hL := left_any b 0 l 21 rb w7 D7
      clear hback hzero hxr her D7 W7 K7' hv
      go_wp2_with (first | (go_at_call 21; refine hE.mono ?_; rintro e9 w9 ⟨rfl, hw9⟩; obtain rfl := hw9.symm) | (go_at_call 22; refine hL.mono ?_; rintro e9 w9 ⟨rfl, hw9⟩; obtain rfl := hw9.symm))
      go_ret
      exact ⟨rfl, HK.out⟩
    · subst h
      have hE := err_any b 0 l 20 rb w7 D7
      have hL := left_any b 0 l 20 rb w7 D7
      have h10i : (l.length : Int) < 10 := by omega
      clear hback hzero hxr her D7 W7 K7' hv
      go_wp2_with (first | (go_at_call 21; refine hE.mono ?_; rintro e9 w9 ⟨rfl, hw9⟩; obtain rfl := hw9.symm) | (go_at_call 22; refine hL.mono ?_; rintro e9 w9 ⟨rfl, hw9⟩; obtain rfl := hw9.symm))
      go_ret
      exact ⟨rfl, HK.out⟩

set_option maxRecDepth 1000000 in
set_option maxHeartbeats 12800000 in
theorem forms_real (ao : Option Addr) (cap : Nat) (l : List UInt8) (kind : Int) (hk0 : -9223372036854775808 ≤ kind) (hk1 : kind ≤ 9223372036854775807) (hP : pickZ kind 3 = 2) (w : World) (hv : Bs w (.slice ao l.length cap) l) (hln : l.length ≤ 140737488351232) :
    Calls Try.prog 8 #[.slice ao l.length cap, .int .i64 kind] w fun e w' => e = .returned (.bool true) ∧ Below w.heap.size w w' := by
  have hl0 : l.length ≤ 140737488355328 := by omega
  have hcap : l.length ≤ cap ∧ cap ≤ 9223372036854775807 := by
    obtain ⟨ao', cap', he, h1, h2, _⟩ := hv.ex
    simp at he
    obtain ⟨_, rfl⟩ := he
    simp only [maxLen] at h2
    omega
  go_enter Try.func8, Try.ntmps8
  go_wp2_with fail
  refine (awake_any w).mono ?_
  rintro e1 w1 ⟨rfl, K1⟩
  go_wp2_with fail
  refine (copy_any _ l w1 (hv.keep K1 (Off.nil _)) hl0).mono ?_
  rintro e2 w2 ⟨v2, rfl, R2, F2, K2⟩
  have K2' := K1.trans' K2
  have C2 := R2.bs
  clear R2 F2 K1 K2
  go_wp2_with fail
  refine (Read_any v2 l w2 C2 hl0).mono ?_
  rintro e3 w3 ⟨b, rb, rfl, D3, hb3, hr3, K3⟩
  have K3' := K2'.trans' K3
  have hbn : w.heap.size ≤ b := Nat.le_trans K2'.size hb3
  have hblt := D3.blt
  have D4 := D3.alloc (.cells #[.slice none 0 0] 28)
  have K4 : Keep [] w (w3.alloc (.cells #[.slice none 0 0] 28)) := K3'.alloc _
  have W4 : Wr (w3.alloc (.cells #[.slice none 0 0] 28)) w3.heap.size 0 [] none := Wr.zero _ _ _ (by simp) (by simp)
  have hgn : w.heap.size ≤ w3.heap.size := K3'.size
  have hrl : ∀ k, rb = some k → k < w3.heap.size := D3.lt
  have hg4 : w3.heap.size < (w3.alloc (.cells #[.slice none 0 0] 28)).heap.size := by simp
  clear C2 K2' K3 hb3 hr3 D3 K3'
  go_wp2_with fail
  have hPk := pick_any kind 3 hk0 hk1 (by omega) (w3.alloc (.cells #[.slice none 0 0] 28))
  rw [hP] at hPk
  refine hPk.mono ?_
  rintro e5 w5 ⟨rfl, hw5⟩
  subst hw5
  clear hPk
  generalize w3.heap.size = g at hgn hrl W4 hblt hg4 ⊢
  generalize w3.alloc (.cells #[.slice none 0 0] 28) = w4 at D4 K4 W4 hg4 ⊢
  have hread := rReal_any b 0 l 0 rb w4 D4
  rw [rdOf_pos] at hread
  have hsz := realL_size l
  have hback := realL_back l
  have herr := realL_err l
  have hzero : (realL l).2.2 ≠ 0 → (realL l).2.1 = 0 := realL_zero l
  have hxr := realL_lt l
  generalize realL l = R at hread hsz hback herr hzero hxr
  obtain ⟨x, n, er⟩ := R
  simp only at hread hsz hback herr hzero hxr
  clear D4
  go_wp2_with fail
  refine hread.mono ?_
  rintro e6 w6 ⟨rfl, D6, K6⟩
  have hgb : g ≠ b := by omega
  have W6 := W4.keep K6 (by simp; omega) (fun _ h => by cases h)
  have K6' : Keep [] w w6 := K4.more K6 (by intro z hz; simp at hz; subst hz; exact .inr hbn)
  have hg6 : g < w6.heap.size := Nat.lt_of_lt_of_le hg4 K6.size
  clear hread W4 K4 K6 hg4
  go_wp2_with fail
  refine (wReal_any g 0 [] none x hxr w6 W6 (by simp)).mono ?_
  rintro e7 w7 ⟨rfl, r7, W7, K7, N7⟩
  have K7' : Keep [] w w7 := K6'.more K7 (by intro z hz; simp at hz; subst hz; exact .inr hgn)
  have D7 := D6.keep K7 (by simp; omega) (fun z hz => by have := hrl z hz; simp; omega)
  rw [List.nil_append] at W7
  clear W6 K7 N7 K6' D6
  go_wp2_with fail
  refine (err_any b 0 _ er rb w7 D7).mono ?_
  rintro e8 w8 ⟨rfl, hw8⟩
  obtain rfl := hw8.symm
  by_cases her : er = 0
  · subst her
    obtain ⟨hbk, hn0⟩ := hback rfl
    rw [hbk] at W7
    have hleft := left_any b 0 _ 0 rb w7 D7
    have hdl : ((l.drop n).length : Int) = (l.length : Int) - (n : Int) := by rw [List.length_drop]; omega
    rw [hdl] at hleft
    have HB7 : Hid (Bs w7 (.slice ao l.length cap) l) := hv.keep K7' (Off.nil _)
    have HK7 : Hid (Keep [] w w7) := K7'
    have HW7 : Hid (Wr w7 g 0 (l.take n) r7) := W7
    have HT : Hid ((l.take n).length ≤ 140737488355328) := by
      show (l.take n).length ≤ 140737488355328
      simp; omega
    have HD : Hid (Bs w7 (.slice ao n cap) (l.take n)) := HB7.out.take n hsz
    obtain ⟨bb, oo, hao⟩ : ∃ bb oo, ao = some ⟨bb, oo, none⟩ := by
      obtain ⟨ao', cap', he, _, _, _, h4⟩ := hv.ex
      obtain ⟨bb, oo, hao, _⟩ := h4 (by intro hz; rw [hz] at hsz; simp at hsz; omega)
      simp at he
      exact ⟨bb, oo, he.1.trans hao⟩
    have hni : (0 : Int) < (n : Int) := by omega
    have hnc : (n : Int) ≤ (cap : Int) := by omega
    have hn00 : (0 : Int) ≤ (n : Int) := by omega
    have hnl : (n : Int) ≤ (l.length : Int) := by omega
    have hss : (l.length : Int) - ((l.length : Int) - (n : Int)) = (n : Int) := by omega
    clear hback herr hzero hxr hdl D7 W7 K7' hbk hv
    subst hao
    go_wp2_with fail
    refine hleft.mono ?_
    rintro e9 w9 ⟨rfl, hw9⟩
    obtain rfl := hw9.symm
    clear hleft
    go_wp2
    go_region_held3 (fun w' => Keep [] w7 w')
      (first | exact keep_start0 _ | exact Keep.trans' (by assumption) (by assumption))
      (first
        | (go_at_call 17; refine (bytes_held g 0 (l.take n) r7 w7 _ HW7.out (by assumption) HT.out).mono ?_; rintro e10 w10 ⟨v10, rfl, R10, F10, K10, S10⟩)
        | (go_at_call 16; refine (same_held _ _ _ _ w7 _ _ R10 (by first | assumption | exact Keep.refl _ _ | exact (Keep.refl _ _).drew) HD.out (by assumption)).mono ?_; rintro e11 w11 ⟨rfl, K11⟩))
    all_goals
      rename_i hH
      have HH : Hid (Below w.heap.size w _) := (HK7.out.trans' hH).below
      clear hH
      go_wp2
      go_ret
      exact ⟨rfl, HH.out⟩
  · have hn0 := hzero her
    subst hn0
    rw [List.drop_zero] at D7
    have HK : Hid (Below w.heap.size w w7) := K7'.below
    rcases herr with h | h | ⟨h, h10⟩
    · exact absurd h her
    · subst h
      have hE := err_any b 0 l 21 rb w7 D7
      have hL := left_any b 0 l 21 rb w7 D7
      clear hback hzero hxr her D7 W7 K7' hv
      go_wp2_with (first | (go_at_call 21; refine hE.mono ?_; rintro e9 w9 ⟨rfl, hw9⟩; obtain rfl := hw9.symm) | (go_at_call 22; refine hL.mono ?_; rintro e9 w9 ⟨rfl, hw9⟩; obtain rfl := hw9.symm))
      go_ret
      exact ⟨rfl, HK.out⟩
    · subst h
      have hE := err_any b 0 l 20 rb w7 D7
      have hL := left_any b 0 l 20 rb w7 D7
      have h10i : (l.length : Int) < 10 := by omega
      clear hback hzero hxr her D7 W7 K7' hv
      go_wp2_with (first | (go_at_call 21; refine hE.mono ?_; rintro e9 w9 ⟨rfl, hw9⟩; obtain rfl := hw9.symm) | (go_at_call 22; refine hL.mono ?_; rintro e9 w9 ⟨rfl, hw9⟩; obtain rfl := hw9.symm))
      go_ret
      exact ⟨rfl, HK.out⟩

end Go.Proofs.Ytcmembmaaebdeaa
