/- The walk of IdentThere, some of its ways. -/
import Derived.Test.YtkkbnbcjkjbepabThereH
namespace Go.Proofs.Ytkkbnbcjkjbepab
open Go.RowKit Go.PlainAid

set_option maxHeartbeats 1000000 in
theorem there_ynn (t i u j r s : ByteArray) (w : World) (hn : nameL t.toList = true) (hi : idL i.toList = true) (k : Int) (hk : Hid (kindL u.toList j.toList r.toList = k)) (zf : Int) (hf : Hid (faultL u.toList j.toList r.toList = zf)) (hf0 : ¬ zf = 0) (hk0 : k = 0) (hs : s.size ≤ maxLen) (zo : Int) (hE : Hid (objE s.toList = zo)) (hE0 : ¬ zo = 0) (zs : Int) (hS : Hid (subE s.toList = zs)) (hS0 : ¬ zs = 0) :
    Calls Try.prog 4 #[.agg #[.string t, .string i], .agg #[.string u, .string j, .string r], .string s] w fun e w' => e = .returned (.bool true) ∧ Below w.heap.size w w' := by
  subst hk0
  go_enter Try.func4, Try.ntmps4
  go_wp2_with fail
  refine (objText_ok t i _ hn hi).mono ?_
  rintro e w1 ⟨rfl, hb1⟩
  have K1 : Hid (Below w.heap.size w w1) := below_start hb1
  obtain ⟨m0, m1, m2, m3, m4⟩ := five t i u j r w w1 hb1
  clear hb1
  go_wp2_with fail
  refine (subText_bad u j r _ zf hf.out hf0).mono ?_
  rintro e w2 ⟨rfl, hb2⟩
  have K2 : Hid (Below w.heap.size w w2) := below_next K1.out hb2
  replace m0 := cell_next hb2 m0
  replace m1 := cell_next hb2 m1
  replace m2 := cell_next hb2 m2
  replace m3 := cell_next hb2 m3
  replace m4 := cell_next hb2 m4
  clear hb2 K1
  go_wp2_with fail
  refine (awake_any _).mono ?_
  rintro e w3 ⟨rfl, hb3⟩
  have K3 : Hid (Below w.heap.size w w3) := below_next K2.out hb3
  replace m0 := cell_next hb3 m0
  replace m1 := cell_next hb3 m1
  replace m2 := cell_next hb3 m2
  replace m3 := cell_next hb3 m3
  replace m4 := cell_next hb3 m4
  clear hb3 K2
  go_wp2_with fail
  refine (kind_at u j r 0 hk.out _).mono ?_
  rintro e w4 ⟨rfl, hb4⟩
  have K4 : Hid (Below w.heap.size w w4) := below_next K3.out hb4
  replace m0 := cell_next hb4 m0
  replace m1 := cell_next hb4 m1
  replace m2 := cell_next hb4 m2
  replace m3 := cell_next hb4 m3
  replace m4 := cell_next hb4 m4
  clear hb4 K3
  go_wp2_with fail
  refine (object_mid_ok t i _ (obj_small t i hn hi) (name_no58 hn) hn hi).mono ?_
  rintro e w5 ⟨rfl, hb5⟩
  have K5 : Hid (Below w.heap.size w w5) := below_next K4.out hb5
  replace m0 := cell_next hb5 m0
  replace m1 := cell_next hb5 m1
  replace m2 := cell_next hb5 m2
  replace m3 := cell_next hb5 m3
  replace m4 := cell_next hb5 m4
  clear hb5 K4
  have q0 := lt_of_cells m0
  have q1 := lt_of_cells m2
  go_wp2_with fail
  refine (object_of _ hs (objT_bad (l := s.toList) (by rw [hE.out]; exact hE0)).1 (objT_bad (l := s.toList) (by rw [hE.out]; exact hE0)).2 hE.out).mono ?_
  rintro e w6 ⟨rfl, hb6⟩
  have K6 : Hid (Below w.heap.size w w6) := below_step K5.out hb6
  clear hb6 K5 m0 m1 m2 m3 m4 q0 q1
  go_wp2_with fail
  refine (subject_of _ hs (subT_bad (l := s.toList) (by rw [hS.out]; exact hS0)).1 (subT_bad (l := s.toList) (by rw [hS.out]; exact hS0)).2.1 (subT_bad (l := s.toList) (by rw [hS.out]; exact hS0)).2.2 hS.out).mono ?_
  rintro e w7 ⟨rfl, hb7⟩
  have K7 : Hid (Below w.heap.size w w7) := below_step K6.out hb7
  clear hb7 K6
  go_wp2
  go_ret
  exact ⟨rfl, below_last K7.out⟩

set_option maxHeartbeats 1000000 in
theorem there_yno (t i u j r s : ByteArray) (w : World) (hn : nameL t.toList = true) (hi : idL i.toList = true) (k : Int) (hk : Hid (kindL u.toList j.toList r.toList = k)) (zf : Int) (hf : Hid (faultL u.toList j.toList r.toList = zf)) (hf0 : ¬ zf = 0) (hk0 : k = 0) (hs : s.size ≤ maxLen) (p0 p1 : ByteArray) (hT : Hid (objT s.toList = p0.toList)) (hI : Hid (objI s.toList = p1.toList)) (hE : Hid (objE s.toList = 0)) :
    Calls Try.prog 4 #[.agg #[.string t, .string i], .agg #[.string u, .string j, .string r], .string s] w fun e w' => e = .returned (.bool true) ∧ Below w.heap.size w w' := by
  subst hk0
  go_enter Try.func4, Try.ntmps4
  go_wp2_with fail
  refine (objText_ok t i _ hn hi).mono ?_
  rintro e w1 ⟨rfl, hb1⟩
  have K1 : Hid (Below w.heap.size w w1) := below_start hb1
  obtain ⟨m0, m1, m2, m3, m4⟩ := five t i u j r w w1 hb1
  clear hb1
  go_wp2_with fail
  refine (subText_bad u j r _ zf hf.out hf0).mono ?_
  rintro e w2 ⟨rfl, hb2⟩
  have K2 : Hid (Below w.heap.size w w2) := below_next K1.out hb2
  replace m0 := cell_next hb2 m0
  replace m1 := cell_next hb2 m1
  replace m2 := cell_next hb2 m2
  replace m3 := cell_next hb2 m3
  replace m4 := cell_next hb2 m4
  clear hb2 K1
  go_wp2_with fail
  refine (awake_any _).mono ?_
  rintro e w3 ⟨rfl, hb3⟩
  have K3 : Hid (Below w.heap.size w w3) := below_next K2.out hb3
  replace m0 := cell_next hb3 m0
  replace m1 := cell_next hb3 m1
  replace m2 := cell_next hb3 m2
  replace m3 := cell_next hb3 m3
  replace m4 := cell_next hb3 m4
  clear hb3 K2
  go_wp2_with fail
  refine (kind_at u j r 0 hk.out _).mono ?_
  rintro e w4 ⟨rfl, hb4⟩
  have K4 : Hid (Below w.heap.size w w4) := below_next K3.out hb4
  replace m0 := cell_next hb4 m0
  replace m1 := cell_next hb4 m1
  replace m2 := cell_next hb4 m2
  replace m3 := cell_next hb4 m3
  replace m4 := cell_next hb4 m4
  clear hb4 K3
  go_wp2_with fail
  refine (object_mid_ok t i _ (obj_small t i hn hi) (name_no58 hn) hn hi).mono ?_
  rintro e w5 ⟨rfl, hb5⟩
  have K5 : Hid (Below w.heap.size w w5) := below_next K4.out hb5
  replace m0 := cell_next hb5 m0
  replace m1 := cell_next hb5 m1
  replace m2 := cell_next hb5 m2
  replace m3 := cell_next hb5 m3
  replace m4 := cell_next hb5 m4
  clear hb5 K4
  have q0 := lt_of_cells m0
  have q1 := lt_of_cells m2
  go_wp2_with fail
  refine (object_of _ hs hT.out hI.out hE.out).mono ?_
  rintro e w6 ⟨rfl, hb6⟩
  have K6 : Hid (Below w.heap.size w w6) := below_step K5.out hb6
  clear hb6 K5 m0 m1 m2 m3 m4 q0 q1
  go_wp2_with fail
  refine (subject_of (x := p0) (y := p1) (q := ⟨#[]⟩) _ hs (by rw [(obj_sub hE.out).2.1]; exact hT.out) (by rw [(obj_sub hE.out).2.2.1]; exact hI.out) (by rw [(obj_sub hE.out).2.2.2, sep0]) (obj_sub hE.out).1).mono ?_
  rintro e w7 ⟨rfl, hb7⟩
  have K7 : Hid (Below w.heap.size w w7) := below_step K6.out hb7
  have g0 : w7.cell? ⟨w6.heap.size, 0, none⟩ = some (.string p0) := keep_box hb7 0
  have g1 : w7.cell? ⟨w6.heap.size, 1, none⟩ = some (.string p1) := keep_box hb7 1
  have q2 : w6.heap.size < w7.heap.size := size_box hb7
  clear hb7 K6
  go_wp2_with fail
  refine (objText_is p0 p1 s _ (by rw [← hT.out]; exact (obj_back hE.out).2.1) (by rw [← hI.out]; exact (obj_back hE.out).2.2) (by rw [← hT.out, ← hI.out]; exact (obj_back hE.out).1)).mono ?_
  rintro e w8 ⟨rfl, hb8⟩
  have K8 : Hid (Below w.heap.size w w8) := below_step K7.out hb8
  replace g0 := cell_step hb8 g0
  replace g1 := cell_step hb8 g1
  have d0 : w8.cell? ⟨w7.heap.size, 0, none⟩ = some (.string p0) := keep_box hb8 0
  have d1 : w8.cell? ⟨w7.heap.size, 1, none⟩ = some (.string p1) := keep_box hb8 1
  have d2 : w8.cell? ⟨w7.heap.size, 2, none⟩ = some (.string ⟨#[]⟩) := keep_box hb8 2
  clear hb8 K7 q2
  go_wp2_with fail
  refine (subText_is p0 p1 ⟨#[]⟩ s _ (by have h := (sub_back (obj_sub hE.out).1).1; rw [(obj_sub hE.out).2.1, (obj_sub hE.out).2.2.1, (obj_sub hE.out).2.2.2, hT.out, hI.out] at h; rw [sep0]; exact h) (by have h := (sub_back (obj_sub hE.out).1).2.1; rw [(obj_sub hE.out).2.1, (obj_sub hE.out).2.2.1, (obj_sub hE.out).2.2.2, hT.out, hI.out] at h; rw [sep0]; exact h)).mono ?_
  rintro e w9 ⟨rfl, hb9⟩
  have K9 : Hid (Below w.heap.size w w9) := below_next K8.out hb9
  replace d0 := cell_next hb9 d0
  replace d1 := cell_next hb9 d1
  replace d2 := cell_next hb9 d2
  clear hb9 K8 g0 g1
  go_wp2_with fail
  refine (kind_at p0 p1 ⟨#[]⟩ 1 (kind_obj hE.out hT.out hI.out) _).mono ?_
  rintro e w10 ⟨rfl, hb10⟩
  have K10 : Hid (Below w.heap.size w w10) := below_next K9.out hb10
  clear hb10 K9 d0 d1 d2
  go_wp2
  go_ret
  exact ⟨rfl, K10.out⟩

set_option maxHeartbeats 1000000 in
theorem there_yns (t i u j r s : ByteArray) (w : World) (hn : nameL t.toList = true) (hi : idL i.toList = true) (k : Int) (hk : Hid (kindL u.toList j.toList r.toList = k)) (zf : Int) (hf : Hid (faultL u.toList j.toList r.toList = zf)) (hf0 : ¬ zf = 0) (hk0 : k = 0) (hs : s.size ≤ maxLen) (x0 x1 x2 : ByteArray) (zo : Int) (hE : Hid (objE s.toList = zo)) (hE0 : ¬ zo = 0) (hT : Hid (subT s.toList = x0.toList)) (hI : Hid (subI s.toList = x1.toList)) (hR : Hid (subR s.toList = x2.toList)) (hS : Hid (subE s.toList = 0)) (kx : Int) (hkx : Hid (kindL x0.toList x1.toList x2.toList = kx)) (hkx1 : (kx == 1) = false) :
    Calls Try.prog 4 #[.agg #[.string t, .string i], .agg #[.string u, .string j, .string r], .string s] w fun e w' => e = .returned (.bool true) ∧ Below w.heap.size w w' := by
  subst hk0
  go_enter Try.func4, Try.ntmps4
  go_wp2_with fail
  refine (objText_ok t i _ hn hi).mono ?_
  rintro e w1 ⟨rfl, hb1⟩
  have K1 : Hid (Below w.heap.size w w1) := below_start hb1
  obtain ⟨m0, m1, m2, m3, m4⟩ := five t i u j r w w1 hb1
  clear hb1
  go_wp2_with fail
  refine (subText_bad u j r _ zf hf.out hf0).mono ?_
  rintro e w2 ⟨rfl, hb2⟩
  have K2 : Hid (Below w.heap.size w w2) := below_next K1.out hb2
  replace m0 := cell_next hb2 m0
  replace m1 := cell_next hb2 m1
  replace m2 := cell_next hb2 m2
  replace m3 := cell_next hb2 m3
  replace m4 := cell_next hb2 m4
  clear hb2 K1
  go_wp2_with fail
  refine (awake_any _).mono ?_
  rintro e w3 ⟨rfl, hb3⟩
  have K3 : Hid (Below w.heap.size w w3) := below_next K2.out hb3
  replace m0 := cell_next hb3 m0
  replace m1 := cell_next hb3 m1
  replace m2 := cell_next hb3 m2
  replace m3 := cell_next hb3 m3
  replace m4 := cell_next hb3 m4
  clear hb3 K2
  go_wp2_with fail
  refine (kind_at u j r 0 hk.out _).mono ?_
  rintro e w4 ⟨rfl, hb4⟩
  have K4 : Hid (Below w.heap.size w w4) := below_next K3.out hb4
  replace m0 := cell_next hb4 m0
  replace m1 := cell_next hb4 m1
  replace m2 := cell_next hb4 m2
  replace m3 := cell_next hb4 m3
  replace m4 := cell_next hb4 m4
  clear hb4 K3
  go_wp2_with fail
  refine (object_mid_ok t i _ (obj_small t i hn hi) (name_no58 hn) hn hi).mono ?_
  rintro e w5 ⟨rfl, hb5⟩
  have K5 : Hid (Below w.heap.size w w5) := below_next K4.out hb5
  replace m0 := cell_next hb5 m0
  replace m1 := cell_next hb5 m1
  replace m2 := cell_next hb5 m2
  replace m3 := cell_next hb5 m3
  replace m4 := cell_next hb5 m4
  clear hb5 K4
  have q0 := lt_of_cells m0
  have q1 := lt_of_cells m2
  go_wp2_with fail
  refine (object_of _ hs (objT_bad (l := s.toList) (by rw [hE.out]; exact hE0)).1 (objT_bad (l := s.toList) (by rw [hE.out]; exact hE0)).2 hE.out).mono ?_
  rintro e w6 ⟨rfl, hb6⟩
  have K6 : Hid (Below w.heap.size w w6) := below_step K5.out hb6
  clear hb6 K5 m0 m1 m2 m3 m4 q0 q1
  go_wp2_with fail
  refine (subject_of _ hs hT.out hI.out hR.out hS.out).mono ?_
  rintro e w7 ⟨rfl, hb7⟩
  have K7 : Hid (Below w.heap.size w w7) := below_step K6.out hb7
  clear hb7 K6
  go_wp2_with fail
  refine (subText_is x0 x1 x2 s _ (by have h := (sub_back hS.out).1; rw [hT.out, hI.out, hR.out] at h; exact h) (by have h := (sub_back hS.out).2.1; rw [hT.out, hI.out, hR.out] at h; exact h)).mono ?_
  rintro e w8 ⟨rfl, hb8⟩
  have K8 : Hid (Below w.heap.size w w8) := below_step K7.out hb8
  have d0 : w8.cell? ⟨w7.heap.size, 0, none⟩ = some (.string x0) := keep_box hb8 0
  have d1 : w8.cell? ⟨w7.heap.size, 1, none⟩ = some (.string x1) := keep_box hb8 1
  have d2 : w8.cell? ⟨w7.heap.size, 2, none⟩ = some (.string x2) := keep_box hb8 2
  clear hb8 K7
  go_wp2_with fail
  refine (kind_at x0 x1 x2 kx hkx.out _).mono ?_
  rintro e w9 ⟨rfl, hb9⟩
  have K9 : Hid (Below w.heap.size w w9) := below_next K8.out hb9
  clear hb9 K8 d0 d1 d2
  go_wp2
  go_ret
  exact ⟨rfl, K9.out⟩

set_option maxHeartbeats 1000000 in
theorem there_yyn (t i u j r s : ByteArray) (w : World) (hn : nameL t.toList = true) (hi : idL i.toList = true) (k : Int) (hk : Hid (kindL u.toList j.toList r.toList = k)) (hf : Hid (faultL u.toList j.toList r.toList = 0)) (hk0 : (k != 0) = true) (hs : s.size ≤ maxLen) (zo : Int) (hE : Hid (objE s.toList = zo)) (hE0 : ¬ zo = 0) (zs : Int) (hS : Hid (subE s.toList = zs)) (hS0 : ¬ zs = 0) :
    Calls Try.prog 4 #[.agg #[.string t, .string i], .agg #[.string u, .string j, .string r], .string s] w fun e w' => e = .returned (.bool true) ∧ Below w.heap.size w w' := by
  go_enter Try.func4, Try.ntmps4
  go_wp2_with fail
  refine (objText_ok t i _ hn hi).mono ?_
  rintro e w1 ⟨rfl, hb1⟩
  have K1 : Hid (Below w.heap.size w w1) := below_start hb1
  obtain ⟨m0, m1, m2, m3, m4⟩ := five t i u j r w w1 hb1
  clear hb1
  go_wp2_with fail
  refine (subText_ok u j r _ hf.out).mono ?_
  rintro e w2 ⟨rfl, hb2⟩
  have K2 : Hid (Below w.heap.size w w2) := below_next K1.out hb2
  replace m0 := cell_next hb2 m0
  replace m1 := cell_next hb2 m1
  replace m2 := cell_next hb2 m2
  replace m3 := cell_next hb2 m3
  replace m4 := cell_next hb2 m4
  clear hb2 K1
  go_wp2_with fail
  refine (awake_any _).mono ?_
  rintro e w3 ⟨rfl, hb3⟩
  have K3 : Hid (Below w.heap.size w w3) := below_next K2.out hb3
  replace m0 := cell_next hb3 m0
  replace m1 := cell_next hb3 m1
  replace m2 := cell_next hb3 m2
  replace m3 := cell_next hb3 m3
  replace m4 := cell_next hb3 m4
  clear hb3 K2
  go_wp2_with fail
  refine (kind_at u j r k hk.out _).mono ?_
  rintro e w4 ⟨rfl, hb4⟩
  have K4 : Hid (Below w.heap.size w w4) := below_next K3.out hb4
  replace m0 := cell_next hb4 m0
  replace m1 := cell_next hb4 m1
  replace m2 := cell_next hb4 m2
  replace m3 := cell_next hb4 m3
  replace m4 := cell_next hb4 m4
  clear hb4 K3
  go_wp2_with fail
  refine (object_mid_ok t i _ (obj_small t i hn hi) (name_no58 hn) hn hi).mono ?_
  rintro e w5 ⟨rfl, hb5⟩
  have K5 : Hid (Below w.heap.size w w5) := below_next K4.out hb5
  replace m0 := cell_next hb5 m0
  replace m1 := cell_next hb5 m1
  replace m2 := cell_next hb5 m2
  replace m3 := cell_next hb5 m3
  replace m4 := cell_next hb5 m4
  clear hb5 K4
  have q0 := lt_of_cells m0
  have q1 := lt_of_cells m2
  go_wp2_with fail
  refine (subject_there u j r _ hf.out).mono ?_
  rintro e w6 ⟨rfl, hb6⟩
  have K6 : Hid (Below w.heap.size w w6) := below_step K5.out hb6
  replace m0 := cell_step hb6 m0
  replace m1 := cell_step hb6 m1
  replace m2 := cell_step hb6 m2
  replace m3 := cell_step hb6 m3
  replace m4 := cell_step hb6 m4
  clear hb6 K5
  clear q0 q1
  have q0 := lt_of_cells m0
  have q1 := lt_of_cells m2
  go_wp2_with fail
  refine (object_of _ hs (objT_bad (l := s.toList) (by rw [hE.out]; exact hE0)).1 (objT_bad (l := s.toList) (by rw [hE.out]; exact hE0)).2 hE.out).mono ?_
  rintro e w7 ⟨rfl, hb7⟩
  have K7 : Hid (Below w.heap.size w w7) := below_step K6.out hb7
  clear hb7 K6 m0 m1 m2 m3 m4 q0 q1
  go_wp2_with fail
  refine (subject_of _ hs (subT_bad (l := s.toList) (by rw [hS.out]; exact hS0)).1 (subT_bad (l := s.toList) (by rw [hS.out]; exact hS0)).2.1 (subT_bad (l := s.toList) (by rw [hS.out]; exact hS0)).2.2 hS.out).mono ?_
  rintro e w8 ⟨rfl, hb8⟩
  have K8 : Hid (Below w.heap.size w w8) := below_step K7.out hb8
  clear hb8 K7
  go_wp2
  go_ret
  exact ⟨rfl, below_last K8.out⟩

set_option maxHeartbeats 1000000 in
theorem there_yyo (t i u j r s : ByteArray) (w : World) (hn : nameL t.toList = true) (hi : idL i.toList = true) (k : Int) (hk : Hid (kindL u.toList j.toList r.toList = k)) (hf : Hid (faultL u.toList j.toList r.toList = 0)) (hk0 : (k != 0) = true) (hs : s.size ≤ maxLen) (p0 p1 : ByteArray) (hT : Hid (objT s.toList = p0.toList)) (hI : Hid (objI s.toList = p1.toList)) (hE : Hid (objE s.toList = 0)) :
    Calls Try.prog 4 #[.agg #[.string t, .string i], .agg #[.string u, .string j, .string r], .string s] w fun e w' => e = .returned (.bool true) ∧ Below w.heap.size w w' := by
  go_enter Try.func4, Try.ntmps4
  go_wp2_with fail
  refine (objText_ok t i _ hn hi).mono ?_
  rintro e w1 ⟨rfl, hb1⟩
  have K1 : Hid (Below w.heap.size w w1) := below_start hb1
  obtain ⟨m0, m1, m2, m3, m4⟩ := five t i u j r w w1 hb1
  clear hb1
  go_wp2_with fail
  refine (subText_ok u j r _ hf.out).mono ?_
  rintro e w2 ⟨rfl, hb2⟩
  have K2 : Hid (Below w.heap.size w w2) := below_next K1.out hb2
  replace m0 := cell_next hb2 m0
  replace m1 := cell_next hb2 m1
  replace m2 := cell_next hb2 m2
  replace m3 := cell_next hb2 m3
  replace m4 := cell_next hb2 m4
  clear hb2 K1
  go_wp2_with fail
  refine (awake_any _).mono ?_
  rintro e w3 ⟨rfl, hb3⟩
  have K3 : Hid (Below w.heap.size w w3) := below_next K2.out hb3
  replace m0 := cell_next hb3 m0
  replace m1 := cell_next hb3 m1
  replace m2 := cell_next hb3 m2
  replace m3 := cell_next hb3 m3
  replace m4 := cell_next hb3 m4
  clear hb3 K2
  go_wp2_with fail
  refine (kind_at u j r k hk.out _).mono ?_
  rintro e w4 ⟨rfl, hb4⟩
  have K4 : Hid (Below w.heap.size w w4) := below_next K3.out hb4
  replace m0 := cell_next hb4 m0
  replace m1 := cell_next hb4 m1
  replace m2 := cell_next hb4 m2
  replace m3 := cell_next hb4 m3
  replace m4 := cell_next hb4 m4
  clear hb4 K3
  go_wp2_with fail
  refine (object_mid_ok t i _ (obj_small t i hn hi) (name_no58 hn) hn hi).mono ?_
  rintro e w5 ⟨rfl, hb5⟩
  have K5 : Hid (Below w.heap.size w w5) := below_next K4.out hb5
  replace m0 := cell_next hb5 m0
  replace m1 := cell_next hb5 m1
  replace m2 := cell_next hb5 m2
  replace m3 := cell_next hb5 m3
  replace m4 := cell_next hb5 m4
  clear hb5 K4
  have q0 := lt_of_cells m0
  have q1 := lt_of_cells m2
  go_wp2_with fail
  refine (subject_there u j r _ hf.out).mono ?_
  rintro e w6 ⟨rfl, hb6⟩
  have K6 : Hid (Below w.heap.size w w6) := below_step K5.out hb6
  replace m0 := cell_step hb6 m0
  replace m1 := cell_step hb6 m1
  replace m2 := cell_step hb6 m2
  replace m3 := cell_step hb6 m3
  replace m4 := cell_step hb6 m4
  clear hb6 K5
  clear q0 q1
  have q0 := lt_of_cells m0
  have q1 := lt_of_cells m2
  go_wp2_with fail
  refine (object_of _ hs hT.out hI.out hE.out).mono ?_
  rintro e w7 ⟨rfl, hb7⟩
  have K7 : Hid (Below w.heap.size w w7) := below_step K6.out hb7
  clear hb7 K6 m0 m1 m2 m3 m4 q0 q1
  go_wp2_with fail
  refine (subject_of (x := p0) (y := p1) (q := ⟨#[]⟩) _ hs (by rw [(obj_sub hE.out).2.1]; exact hT.out) (by rw [(obj_sub hE.out).2.2.1]; exact hI.out) (by rw [(obj_sub hE.out).2.2.2, sep0]) (obj_sub hE.out).1).mono ?_
  rintro e w8 ⟨rfl, hb8⟩
  have K8 : Hid (Below w.heap.size w w8) := below_step K7.out hb8
  have g0 : w8.cell? ⟨w7.heap.size, 0, none⟩ = some (.string p0) := keep_box hb8 0
  have g1 : w8.cell? ⟨w7.heap.size, 1, none⟩ = some (.string p1) := keep_box hb8 1
  have q2 : w7.heap.size < w8.heap.size := size_box hb8
  clear hb8 K7
  go_wp2_with fail
  refine (objText_is p0 p1 s _ (by rw [← hT.out]; exact (obj_back hE.out).2.1) (by rw [← hI.out]; exact (obj_back hE.out).2.2) (by rw [← hT.out, ← hI.out]; exact (obj_back hE.out).1)).mono ?_
  rintro e w9 ⟨rfl, hb9⟩
  have K9 : Hid (Below w.heap.size w w9) := below_step K8.out hb9
  replace g0 := cell_step hb9 g0
  replace g1 := cell_step hb9 g1
  have d0 : w9.cell? ⟨w8.heap.size, 0, none⟩ = some (.string p0) := keep_box hb9 0
  have d1 : w9.cell? ⟨w8.heap.size, 1, none⟩ = some (.string p1) := keep_box hb9 1
  have d2 : w9.cell? ⟨w8.heap.size, 2, none⟩ = some (.string ⟨#[]⟩) := keep_box hb9 2
  clear hb9 K8 q2
  go_wp2_with fail
  refine (subText_is p0 p1 ⟨#[]⟩ s _ (by have h := (sub_back (obj_sub hE.out).1).1; rw [(obj_sub hE.out).2.1, (obj_sub hE.out).2.2.1, (obj_sub hE.out).2.2.2, hT.out, hI.out] at h; rw [sep0]; exact h) (by have h := (sub_back (obj_sub hE.out).1).2.1; rw [(obj_sub hE.out).2.1, (obj_sub hE.out).2.2.1, (obj_sub hE.out).2.2.2, hT.out, hI.out] at h; rw [sep0]; exact h)).mono ?_
  rintro e w10 ⟨rfl, hb10⟩
  have K10 : Hid (Below w.heap.size w w10) := below_next K9.out hb10
  replace d0 := cell_next hb10 d0
  replace d1 := cell_next hb10 d1
  replace d2 := cell_next hb10 d2
  clear hb10 K9 g0 g1
  go_wp2_with fail
  refine (kind_at p0 p1 ⟨#[]⟩ 1 (kind_obj hE.out hT.out hI.out) _).mono ?_
  rintro e w11 ⟨rfl, hb11⟩
  have K11 : Hid (Below w.heap.size w w11) := below_next K10.out hb11
  clear hb11 K10 d0 d1 d2
  go_wp2
  go_ret
  exact ⟨rfl, K11.out⟩

set_option maxHeartbeats 1000000 in
theorem there_yys (t i u j r s : ByteArray) (w : World) (hn : nameL t.toList = true) (hi : idL i.toList = true) (k : Int) (hk : Hid (kindL u.toList j.toList r.toList = k)) (hf : Hid (faultL u.toList j.toList r.toList = 0)) (hk0 : (k != 0) = true) (hs : s.size ≤ maxLen) (x0 x1 x2 : ByteArray) (zo : Int) (hE : Hid (objE s.toList = zo)) (hE0 : ¬ zo = 0) (hT : Hid (subT s.toList = x0.toList)) (hI : Hid (subI s.toList = x1.toList)) (hR : Hid (subR s.toList = x2.toList)) (hS : Hid (subE s.toList = 0)) (kx : Int) (hkx : Hid (kindL x0.toList x1.toList x2.toList = kx)) (hkx1 : (kx == 1) = false) :
    Calls Try.prog 4 #[.agg #[.string t, .string i], .agg #[.string u, .string j, .string r], .string s] w fun e w' => e = .returned (.bool true) ∧ Below w.heap.size w w' := by
  go_enter Try.func4, Try.ntmps4
  go_wp2_with fail
  refine (objText_ok t i _ hn hi).mono ?_
  rintro e w1 ⟨rfl, hb1⟩
  have K1 : Hid (Below w.heap.size w w1) := below_start hb1
  obtain ⟨m0, m1, m2, m3, m4⟩ := five t i u j r w w1 hb1
  clear hb1
  go_wp2_with fail
  refine (subText_ok u j r _ hf.out).mono ?_
  rintro e w2 ⟨rfl, hb2⟩
  have K2 : Hid (Below w.heap.size w w2) := below_next K1.out hb2
  replace m0 := cell_next hb2 m0
  replace m1 := cell_next hb2 m1
  replace m2 := cell_next hb2 m2
  replace m3 := cell_next hb2 m3
  replace m4 := cell_next hb2 m4
  clear hb2 K1
  go_wp2_with fail
  refine (awake_any _).mono ?_
  rintro e w3 ⟨rfl, hb3⟩
  have K3 : Hid (Below w.heap.size w w3) := below_next K2.out hb3
  replace m0 := cell_next hb3 m0
  replace m1 := cell_next hb3 m1
  replace m2 := cell_next hb3 m2
  replace m3 := cell_next hb3 m3
  replace m4 := cell_next hb3 m4
  clear hb3 K2
  go_wp2_with fail
  refine (kind_at u j r k hk.out _).mono ?_
  rintro e w4 ⟨rfl, hb4⟩
  have K4 : Hid (Below w.heap.size w w4) := below_next K3.out hb4
  replace m0 := cell_next hb4 m0
  replace m1 := cell_next hb4 m1
  replace m2 := cell_next hb4 m2
  replace m3 := cell_next hb4 m3
  replace m4 := cell_next hb4 m4
  clear hb4 K3
  go_wp2_with fail
  refine (object_mid_ok t i _ (obj_small t i hn hi) (name_no58 hn) hn hi).mono ?_
  rintro e w5 ⟨rfl, hb5⟩
  have K5 : Hid (Below w.heap.size w w5) := below_next K4.out hb5
  replace m0 := cell_next hb5 m0
  replace m1 := cell_next hb5 m1
  replace m2 := cell_next hb5 m2
  replace m3 := cell_next hb5 m3
  replace m4 := cell_next hb5 m4
  clear hb5 K4
  have q0 := lt_of_cells m0
  have q1 := lt_of_cells m2
  go_wp2_with fail
  refine (subject_there u j r _ hf.out).mono ?_
  rintro e w6 ⟨rfl, hb6⟩
  have K6 : Hid (Below w.heap.size w w6) := below_step K5.out hb6
  replace m0 := cell_step hb6 m0
  replace m1 := cell_step hb6 m1
  replace m2 := cell_step hb6 m2
  replace m3 := cell_step hb6 m3
  replace m4 := cell_step hb6 m4
  clear hb6 K5
  clear q0 q1
  have q0 := lt_of_cells m0
  have q1 := lt_of_cells m2
  go_wp2_with fail
  refine (object_of _ hs (objT_bad (l := s.toList) (by rw [hE.out]; exact hE0)).1 (objT_bad (l := s.toList) (by rw [hE.out]; exact hE0)).2 hE.out).mono ?_
  rintro e w7 ⟨rfl, hb7⟩
  have K7 : Hid (Below w.heap.size w w7) := below_step K6.out hb7
  clear hb7 K6 m0 m1 m2 m3 m4 q0 q1
  go_wp2_with fail
  refine (subject_of _ hs hT.out hI.out hR.out hS.out).mono ?_
  rintro e w8 ⟨rfl, hb8⟩
  have K8 : Hid (Below w.heap.size w w8) := below_step K7.out hb8
  clear hb8 K7
  go_wp2_with fail
  refine (subText_is x0 x1 x2 s _ (by have h := (sub_back hS.out).1; rw [hT.out, hI.out, hR.out] at h; exact h) (by have h := (sub_back hS.out).2.1; rw [hT.out, hI.out, hR.out] at h; exact h)).mono ?_
  rintro e w9 ⟨rfl, hb9⟩
  have K9 : Hid (Below w.heap.size w w9) := below_step K8.out hb9
  have d0 : w9.cell? ⟨w8.heap.size, 0, none⟩ = some (.string x0) := keep_box hb9 0
  have d1 : w9.cell? ⟨w8.heap.size, 1, none⟩ = some (.string x1) := keep_box hb9 1
  have d2 : w9.cell? ⟨w8.heap.size, 2, none⟩ = some (.string x2) := keep_box hb9 2
  clear hb9 K8
  go_wp2_with fail
  refine (kind_at x0 x1 x2 kx hkx.out _).mono ?_
  rintro e w10 ⟨rfl, hb10⟩
  have K10 : Hid (Below w.heap.size w w10) := below_next K9.out hb10
  clear hb10 K9 d0 d1 d2
  go_wp2
  go_ret
  exact ⟨rfl, K10.out⟩

end Go.Proofs.Ytkkbnbcjkjbepab
