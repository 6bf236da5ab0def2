/- What Kind, Object, Subject and the texts of the document's answer answer, for every input, where its table of words lies in memory. -/
import Derived.Test.YtkkbnbcjkjbepaaDoorRefB
namespace Go.Proofs.YtkkbnbcjkjbepaaDoor
open Go.RowKit Go.PlainAid

theorem id_not_star {l : List UInt8} (h : idL l = true) : (l == [42]) = false := by
  cases e : (l == [42])
  · rfl
  · simp at e; subst e; exact absurd h (by decide)
theorem star_not_id {l : List UInt8} (h : (l == [42]) = true) : idL l = false := by
  simp at h; subst h; decide

set_option maxHeartbeats 400000 in
theorem rkind_any (u j r : ByteArray) (w : World) (hW : Words w) :
    Calls Tryd.prog 13 #[.agg #[.string u, .string j, .string r]] w fun e w' => e = .returned (.int .i64 (kindL u.toList j.toList r.toList)) ∧ Below w.heap.size w w' := by
  cases h1 : nameL u.toList
  · go_enter Tryd.func13, Tryd.ntmps13
    go_wp2_with (first | (go_at_call 9; refine (rname_any _ _ (by first | exact hW | exact hW.alloc | exact hW.alloc.drewN)).mono ?_; rintro e w9 ⟨rfl, hw⟩; obtain rfl := hw.symm) | (go_at_call 11; refine (rid_any _ _).mono ?_; rintro e w9 ⟨rfl, hw⟩; obtain rfl := hw.symm))
    go_ret
    exact ⟨ret_int (by simp [kindL, faultL, h1]), (Below.refl _ _).alloc (Nat.le_refl _) _⟩
  cases h2 : r.toList.isEmpty
  · cases h3 : idL j.toList
    · go_enter Tryd.func13, Tryd.ntmps13
      go_wp2_with (first | (go_at_call 9; refine (rname_any _ _ (by first | exact hW | exact hW.alloc | exact hW.alloc.drewN)).mono ?_; rintro e w9 ⟨rfl, hw⟩; obtain rfl := hw.symm) | (go_at_call 11; refine (rid_any _ _).mono ?_; rintro e w9 ⟨rfl, hw⟩; obtain rfl := hw.symm))
      go_ret
      exact ⟨ret_int (by simp [kindL, faultL, h1, h2, h3]), (Below.refl _ _).alloc (Nat.le_refl _) _⟩
    have h4 := id_not_star h3
    cases h5 : nameL r.toList
    · go_enter Tryd.func13, Tryd.ntmps13
      go_wp2_with (first | (go_at_call 9; refine (rname_any _ _ (by first | exact hW | exact hW.alloc | exact hW.alloc.drewN)).mono ?_; rintro e w9 ⟨rfl, hw⟩; obtain rfl := hw.symm) | (go_at_call 11; refine (rid_any _ _).mono ?_; rintro e w9 ⟨rfl, hw⟩; obtain rfl := hw.symm))
      go_ret
      exact ⟨ret_int (by simp [kindL, faultL, h1, h2, h3, h5]), (Below.refl _ _).alloc (Nat.le_refl _) _⟩
    · go_enter Tryd.func13, Tryd.ntmps13
      go_wp2_with (first | (go_at_call 9; refine (rname_any _ _ (by first | exact hW | exact hW.alloc | exact hW.alloc.drewN)).mono ?_; rintro e w9 ⟨rfl, hw⟩; obtain rfl := hw.symm) | (go_at_call 11; refine (rid_any _ _).mono ?_; rintro e w9 ⟨rfl, hw⟩; obtain rfl := hw.symm))
      go_ret
      exact ⟨ret_int (by simp [kindL, faultL, h1, h2, h3, h4, h5]), (Below.refl _ _).alloc (Nat.le_refl _) _⟩
  · cases h3 : idL j.toList
    · cases h4 : (j.toList == [42])
      · go_enter Tryd.func13, Tryd.ntmps13
        go_wp2_with (first | (go_at_call 9; refine (rname_any _ _ (by first | exact hW | exact hW.alloc | exact hW.alloc.drewN)).mono ?_; rintro e w9 ⟨rfl, hw⟩; obtain rfl := hw.symm) | (go_at_call 11; refine (rid_any _ _).mono ?_; rintro e w9 ⟨rfl, hw⟩; obtain rfl := hw.symm))
        go_ret
        exact ⟨ret_int (by simp [kindL, faultL, h1, h3, h4]), (Below.refl _ _).alloc (Nat.le_refl _) _⟩
      · go_enter Tryd.func13, Tryd.ntmps13
        go_wp2_with (first | (go_at_call 9; refine (rname_any _ _ (by first | exact hW | exact hW.alloc | exact hW.alloc.drewN)).mono ?_; rintro e w9 ⟨rfl, hw⟩; obtain rfl := hw.symm) | (go_at_call 11; refine (rid_any _ _).mono ?_; rintro e w9 ⟨rfl, hw⟩; obtain rfl := hw.symm))
        go_ret
        exact ⟨ret_int (by simp [kindL, faultL, h1, h2, h4]), (Below.refl _ _).alloc (Nat.le_refl _) _⟩
    have h4 := id_not_star h3
    go_enter Tryd.func13, Tryd.ntmps13
    go_wp2_with (first | (go_at_call 9; refine (rname_any _ _ (by first | exact hW | exact hW.alloc | exact hW.alloc.drewN)).mono ?_; rintro e w9 ⟨rfl, hw⟩; obtain rfl := hw.symm) | (go_at_call 11; refine (rid_any _ _).mono ?_; rintro e w9 ⟨rfl, hw⟩; obtain rfl := hw.symm))
    go_ret
    exact ⟨ret_int (by simp [kindL, faultL, h1, h2, h3, h4]), (Below.refl _ _).alloc (Nat.le_refl _) _⟩

set_option maxHeartbeats 400000 in
theorem robjText_any (t i : ByteArray) (w : World) (hW : Words w) :
    Calls Tryd.prog 19 #[.agg #[.string t, .string i]] w fun e w' => e = .returned (.tuple #[.string (ba (objTextL t.toList i.toList)), .int .i64 (objErrL t.toList i.toList)]) ∧ Below w.heap.size w w' := by
  cases h1 : nameL t.toList
  · go_enter Tryd.func19, Tryd.ntmps19
    go_wp2_with (first | (go_at_call 9; refine (rname_any _ _ (by first | exact hW | exact hW.alloc | exact hW.alloc.drewN)).mono ?_; rintro e w9 ⟨rfl, hw⟩; obtain rfl := hw.symm) | (go_at_call 11; refine (rid_any _ _).mono ?_; rintro e w9 ⟨rfl, hw⟩; obtain rfl := hw.symm))
    go_ret2
    exact ⟨ret_si (by simp [objTextL, h1]; rfl) (by simp [objErrL, h1]), (Below.refl _ _).alloc (Nat.le_refl _) _⟩
  cases h2 : idL i.toList
  · go_enter Tryd.func19, Tryd.ntmps19
    go_wp2_with (first | (go_at_call 9; refine (rname_any _ _ (by first | exact hW | exact hW.alloc | exact hW.alloc.drewN)).mono ?_; rintro e w9 ⟨rfl, hw⟩; obtain rfl := hw.symm) | (go_at_call 11; refine (rid_any _ _).mono ?_; rintro e w9 ⟨rfl, hw⟩; obtain rfl := hw.symm))
    go_ret2
    exact ⟨ret_si (by simp [objTextL, h2]; rfl) (by simp [objErrL, h1, h2]), (Below.refl _ _).alloc (Nat.le_refl _) _⟩
  have l1 := name_len h1
  have l2 := id_len h2
  rw [toList_len] at l1 l2
  go_enter Tryd.func19, Tryd.ntmps19
  go_wp2_with (first | (go_at_call 9; refine (rname_any _ _ (by first | exact hW | exact hW.alloc | exact hW.alloc.drewN)).mono ?_; rintro e w9 ⟨rfl, hw⟩; obtain rfl := hw.symm) | (go_at_call 11; refine (rid_any _ _).mono ?_; rintro e w9 ⟨rfl, hw⟩; obtain rfl := hw.symm))
  go_ret2
  exact ⟨ret_si (ba_of (by simp [objTextL, h1, h2, toList_app])) (by simp [objErrL, h1, h2]), (Below.refl _ _).alloc (Nat.le_refl _) _⟩

set_option maxHeartbeats 400000 in
theorem rsubText_any (t i r : ByteArray) (w : World) (hW : Words w) :
    Calls Tryd.prog 21 #[.agg #[.string t, .string i, .string r]] w fun e w' => e = .returned (.tuple #[.string (ba (subTextL t.toList i.toList r.toList)), .int .i64 (faultL t.toList i.toList r.toList)]) ∧ Below w.heap.size w w' := by
  cases h1 : nameL t.toList
  · have HF : Hid (faultL t.toList i.toList r.toList = 10) := (by show _ = _; simp [faultL, h1])
    go_enter Tryd.func21, Tryd.ntmps21
    go_wp2_with (first | (go_at_call 9; refine (rname_any _ _ (by first | exact hW | exact hW.alloc | exact hW.alloc.drewN)).mono ?_; rintro e w9 ⟨rfl, hw⟩; obtain rfl := hw.symm) | (go_at_call 11; refine (rid_any _ _).mono ?_; rintro e w9 ⟨rfl, hw⟩; obtain rfl := hw.symm))
    go_ret2
    exact ⟨ret_si (by rw [subTextL, if_pos (by rw [HF.out]; decide)]; rfl) HF.out.symm, (Below.refl _ _).alloc (Nat.le_refl _) _⟩
  cases h2 : r.toList.isEmpty
  · cases h3 : idL i.toList
    · cases h4 : (i.toList == [42])
      all_goals
        have HF : Hid (faultL t.toList i.toList r.toList = 11) := (by show _ = _; simp [faultL, h1, h2, h3])
        go_enter Tryd.func21, Tryd.ntmps21
        go_wp2_with (first | (go_at_call 9; refine (rname_any _ _ (by first | exact hW | exact hW.alloc | exact hW.alloc.drewN)).mono ?_; rintro e w9 ⟨rfl, hw⟩; obtain rfl := hw.symm) | (go_at_call 11; refine (rid_any _ _).mono ?_; rintro e w9 ⟨rfl, hw⟩; obtain rfl := hw.symm))
        go_ret2
        exact ⟨ret_si (by rw [subTextL, if_pos (by rw [HF.out]; decide)]; rfl) HF.out.symm, (Below.refl _ _).alloc (Nat.le_refl _) _⟩
    have h4 := id_not_star h3
    cases h5 : nameL r.toList
    · have HF : Hid (faultL t.toList i.toList r.toList = 10) := (by show _ = _; simp [faultL, h1, h2, h3, h5])
      go_enter Tryd.func21, Tryd.ntmps21
      go_wp2_with (first | (go_at_call 9; refine (rname_any _ _ (by first | exact hW | exact hW.alloc | exact hW.alloc.drewN)).mono ?_; rintro e w9 ⟨rfl, hw⟩; obtain rfl := hw.symm) | (go_at_call 11; refine (rid_any _ _).mono ?_; rintro e w9 ⟨rfl, hw⟩; obtain rfl := hw.symm))
      go_ret2
      exact ⟨ret_si (by rw [subTextL, if_pos (by rw [HF.out]; decide)]; rfl) HF.out.symm, (Below.refl _ _).alloc (Nat.le_refl _) _⟩
    · have HF : Hid (faultL t.toList i.toList r.toList = 0) := (by show _ = _; simp [faultL, h1, h2, h3, h5])
      obtain ⟨n1, l2, l3⟩ := fault_ok (t := t.toList) (i := i.toList) (r := r.toList) (by rw [HF.out]; rfl)
      have l1 := (name_len n1).2
      rw [toList_len] at l1 l2 l3
      clear n1
      go_enter Tryd.func21, Tryd.ntmps21
      go_wp2_with (first | (go_at_call 9; refine (rname_any _ _ (by first | exact hW | exact hW.alloc | exact hW.alloc.drewN)).mono ?_; rintro e w9 ⟨rfl, hw⟩; obtain rfl := hw.symm) | (go_at_call 11; refine (rid_any _ _).mono ?_; rintro e w9 ⟨rfl, hw⟩; obtain rfl := hw.symm))
      go_ret2
      exact ⟨ret_si (ba_of (by rw [subTextL, if_neg (by rw [HF.out]; decide)]; simp [h2, toList_app])) HF.out.symm, (Below.refl _ _).alloc (Nat.le_refl _) _⟩
  · cases h4 : (i.toList == [42])
    · cases h3 : idL i.toList
      · have HF : Hid (faultL t.toList i.toList r.toList = 11) := (by show _ = _; simp [faultL, h1, h3, h4])
        go_enter Tryd.func21, Tryd.ntmps21
        go_wp2_with (first | (go_at_call 9; refine (rname_any _ _ (by first | exact hW | exact hW.alloc | exact hW.alloc.drewN)).mono ?_; rintro e w9 ⟨rfl, hw⟩; obtain rfl := hw.symm) | (go_at_call 11; refine (rid_any _ _).mono ?_; rintro e w9 ⟨rfl, hw⟩; obtain rfl := hw.symm))
        go_ret2
        exact ⟨ret_si (by rw [subTextL, if_pos (by rw [HF.out]; decide)]; rfl) HF.out.symm, (Below.refl _ _).alloc (Nat.le_refl _) _⟩
      · have HF : Hid (faultL t.toList i.toList r.toList = 0) := (by show _ = _; simp [faultL, h1, h2, h3])
        obtain ⟨n1, l2, l3⟩ := fault_ok (t := t.toList) (i := i.toList) (r := r.toList) (by rw [HF.out]; rfl)
        have l1 := (name_len n1).2
        rw [toList_len] at l1 l2 l3
        clear n1
        go_enter Tryd.func21, Tryd.ntmps21
        go_wp2_with (first | (go_at_call 9; refine (rname_any _ _ (by first | exact hW | exact hW.alloc | exact hW.alloc.drewN)).mono ?_; rintro e w9 ⟨rfl, hw⟩; obtain rfl := hw.symm) | (go_at_call 11; refine (rid_any _ _).mono ?_; rintro e w9 ⟨rfl, hw⟩; obtain rfl := hw.symm))
        go_ret2
        exact ⟨ret_si (ba_of (by rw [subTextL, if_neg (by rw [HF.out]; decide)]; simp [h2, toList_app])) HF.out.symm, (Below.refl _ _).alloc (Nat.le_refl _) _⟩
    · have h3 := star_not_id h4
      have HF : Hid (faultL t.toList i.toList r.toList = 0) := (by show _ = _; simp [faultL, h1, h2, h4])
      obtain ⟨n1, l2, l3⟩ := fault_ok (t := t.toList) (i := i.toList) (r := r.toList) (by rw [HF.out]; rfl)
      have l1 := (name_len n1).2
      rw [toList_len] at l1 l2 l3
      clear n1
      go_enter Tryd.func21, Tryd.ntmps21
      go_wp2_with (first | (go_at_call 9; refine (rname_any _ _ (by first | exact hW | exact hW.alloc | exact hW.alloc.drewN)).mono ?_; rintro e w9 ⟨rfl, hw⟩; obtain rfl := hw.symm) | (go_at_call 11; refine (rid_any _ _).mono ?_; rintro e w9 ⟨rfl, hw⟩; obtain rfl := hw.symm))
      go_ret2
      exact ⟨ret_si (ba_of (by rw [subTextL, if_neg (by rw [HF.out]; decide)]; simp [h2, toList_app])) HF.out.symm, (Below.refl _ _).alloc (Nat.le_refl _) _⟩

end Go.Proofs.YtkkbnbcjkjbepaaDoor
