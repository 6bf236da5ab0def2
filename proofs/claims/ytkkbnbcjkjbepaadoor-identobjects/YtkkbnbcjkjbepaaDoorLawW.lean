/- The walks of the five statements that hold package ident against the document's answer, where its table of words lies in memory. -/
import Derived.Test.YtkkbnbcjkjbepaaDoorRefD
import Derived.Deep.RegionHeld3
namespace Go.Proofs.YtkkbnbcjkjbepaaDoor
open Go.RowKit Go.PlainAid

theorem size_box {w w' : World} {X : Obj} (hb : Below (w.alloc X).heap.size (w.alloc X) w') : w.heap.size < w'.heap.size := by
  have := hb.size; simp at this; omega
theorem keep_box {w w' : World} {C : Array Value} {t : TypeId} (hb : Below (w.alloc (.cells C t)).heap.size (w.alloc (.cells C t)) w') (o : Nat) : w'.cell? ⟨w.heap.size, o, none⟩ = C[o]? := by
  rw [hb.cell (p := ⟨w.heap.size, o, none⟩) (by simp), World.cell?_alloc_new]
theorem below_step {w W W' : World} {X : Obj} (h : Below w.heap.size w W) (hb : Below (W.alloc X).heap.size (W.alloc X) W') : Below w.heap.size w W' := h.trans ((below_box hb).mono h.size)
theorem below_next {w W W' : World} (h : Below w.heap.size w W) (hb : Below W.heap.size W W') : Below w.heap.size w W' := h.trans (hb.mono h.size)
theorem below_last {w W : World} {X : Obj} (h : Below w.heap.size w W) : Below w.heap.size w (W.alloc X) := h.alloc h.size _
theorem below_start {w W : World} {X Y : Obj} (hb : Below ((w.alloc X).alloc Y).heap.size ((w.alloc X).alloc Y) W) : Below w.heap.size w W :=
  (((Below.refl _ _).alloc (Nat.le_refl _) _).alloc (by simp) _).trans (hb.mono (by simp; omega))
theorem keep_start {W : World} : (∀ b o, b < W.heap.size → W.drew.cell? ⟨b, o, none⟩ = W.cell? ⟨b, o, none⟩) ∧ Below W.heap.size W W.drew := ⟨fun _ _ _ => rfl, (Below.refl _ _).drew⟩
theorem keep_next {W wi wj : World} (hb : Below wi.heap.size wi wj) (h : (∀ b o, b < W.heap.size → wi.cell? ⟨b, o, none⟩ = W.cell? ⟨b, o, none⟩) ∧ Below W.heap.size W wi) : (∀ b o, b < W.heap.size → wj.cell? ⟨b, o, none⟩ = W.cell? ⟨b, o, none⟩) ∧ Below W.heap.size W wj := by
  have hB := h.2.trans (hb.mono h.2.size)
  exact ⟨fun b o hlt => hB.cell (p := ⟨b, o, none⟩) hlt, hB⟩

set_option maxHeartbeats 400000 in
theorem names_walk (s : ByteArray) (w : World) (hW : Words w) :
    Calls Tryd.prog 3 #[.string s] w fun e w' => e = .returned (.bool true) ∧ Below w.heap.size w w' := by
  go_enter Tryd.func3, Tryd.ntmps3
  go_wp2_with (first | (go_at_call 8; refine (name_any _ _).mono ?_; rintro e w9 ⟨rfl, hw⟩; obtain rfl := hw.symm) | (go_at_call 9; refine (rname_any _ _ hW).mono ?_; rintro e w9 ⟨rfl, hw⟩; obtain rfl := hw.symm) | (go_at_call 10; refine (id_any _ _).mono ?_; rintro e w9 ⟨rfl, hw⟩; obtain rfl := hw.symm) | (go_at_call 11; refine (rid_any _ _).mono ?_; rintro e w9 ⟨rfl, hw⟩; obtain rfl := hw.symm))
  go_ret
  exact ⟨rfl, Below.refl _ _⟩

set_option maxHeartbeats 400000 in
theorem kinds_walk (u j r : ByteArray) (w : World) (hW : Words w) :
    Calls Tryd.prog 4 #[.agg #[.string u, .string j, .string r]] w fun e w' => e = .returned (.bool true) ∧ Below w.heap.size w w' := by
  have hW1 : Words (w.alloc (.cells #[.string u, .string j, .string r] 24)) := hW.alloc
  go_enter Tryd.func4, Tryd.ntmps4
  go_wp2
  go_region_held3 (fun w' => (∀ b o, b < (w.alloc (.cells #[.string u, .string j, .string r] 24)).heap.size → w'.cell? ⟨b, o, none⟩ = (w.alloc (.cells #[.string u, .string j, .string r] 24)).cell? ⟨b, o, none⟩) ∧ Below (w.alloc (.cells #[.string u, .string j, .string r] 24)).heap.size (w.alloc (.cells #[.string u, .string j, .string r] 24)) w')
    (first | exact keep_start | exact keep_next (by assumption) (by assumption))
    (first | (go_at_call 12; refine (kind_any _ _ _ _).mono ?_; rintro e w1 ⟨rfl, hb⟩) | (go_at_call 13; refine (rkind_any _ _ _ _ (hW1.below (And.right (by assumption)))).mono ?_; rintro e w1 ⟨rfl, hb⟩))
  all_goals go_wp2
  all_goals go_ret
  all_goals rename_i hH
  all_goals exact ⟨rfl, below_box hH.2⟩

set_option maxHeartbeats 400000 in
theorem objects_walk (s : ByteArray) (w : World) (hs : s.size ≤ maxLen) (hW : Words w) :
    Calls Tryd.prog 5 #[.string s] w fun e w' => e = .returned (.bool true) ∧ Below w.heap.size w w' := by
  go_enter Tryd.func5, Tryd.ntmps5
  go_wp2_with fail
  refine (object_any s _ hs).mono ?_
  rintro e w1 ⟨rfl, hb1⟩
  have hW1 := hW.below hb1
  go_wp2_with fail
  refine (robject_any s _ hs hW1.alloc).mono ?_
  rintro e w2 ⟨rfl, hb2⟩
  have q := size_box hb2
  have c0 : w2.cell? ⟨w1.heap.size, 0, none⟩ = some (.string (ba (objT s.toList))) := keep_box hb2 0
  have c1 : w2.cell? ⟨w1.heap.size, 1, none⟩ = some (.string (ba (objI s.toList))) := keep_box hb2 1
  have K : Hid (Below w.heap.size w w2) := below_step hb1 hb2
  clear hb1 hb2
  go_wp2
  go_ret
  exact ⟨rfl, below_last K.out⟩

set_option maxHeartbeats 400000 in
theorem subjects_walk (s : ByteArray) (w : World) (hs : s.size ≤ maxLen) (hW : Words w) :
    Calls Tryd.prog 6 #[.string s] w fun e w' => e = .returned (.bool true) ∧ Below w.heap.size w w' := by
  go_enter Tryd.func6, Tryd.ntmps6
  go_wp2_with fail
  refine (subject_any s _ hs).mono ?_
  rintro e w1 ⟨rfl, hb1⟩
  have hW1 := hW.below hb1
  go_wp2_with fail
  refine (rsubject_any s _ hs hW1.alloc).mono ?_
  rintro e w2 ⟨rfl, hb2⟩
  have q := size_box hb2
  have c0 : w2.cell? ⟨w1.heap.size, 0, none⟩ = some (.string (ba (subT s.toList))) := keep_box hb2 0
  have c1 : w2.cell? ⟨w1.heap.size, 1, none⟩ = some (.string (ba (subI s.toList))) := keep_box hb2 1
  have c2 : w2.cell? ⟨w1.heap.size, 2, none⟩ = some (.string (ba (subR s.toList))) := keep_box hb2 2
  have K : Hid (Below w.heap.size w w2) := below_step hb1 hb2
  clear hb1 hb2
  go_wp2
  go_ret
  exact ⟨rfl, below_last K.out⟩

theorem five (t i u j r : ByteArray) (w wi : World) (hB : Below ((w.alloc (.cells #[.string t, .string i] 28)).alloc (.cells #[.string u, .string j, .string r] 24)).heap.size ((w.alloc (.cells #[.string t, .string i] 28)).alloc (.cells #[.string u, .string j, .string r] 24)) wi) :
    wi.cell? ⟨w.heap.size, 0, none⟩ = some (.string t) ∧ wi.cell? ⟨w.heap.size, 1, none⟩ = some (.string i) ∧
    wi.cell? ⟨w.heap.size + 1, 0, none⟩ = some (.string u) ∧ wi.cell? ⟨w.heap.size + 1, 1, none⟩ = some (.string j) ∧ wi.cell? ⟨w.heap.size + 1, 2, none⟩ = some (.string r) := by
  have h : ∀ b o, b < w.heap.size + 2 → wi.cell? ⟨b, o, none⟩ = ((w.alloc (.cells #[.string t, .string i] 28)).alloc (.cells #[.string u, .string j, .string r] 24)).cell? ⟨b, o, none⟩ := fun b o hlt => hB.cell (p := ⟨b, o, none⟩) (by simp; omega)
  refine ⟨?_, ?_, ?_, ?_, ?_⟩
  all_goals
    rw [h _ _ (by omega)]
    simp [go_sem]
theorem cell_next {W w' : World} {b o : Nat} {v : Value} (hb : Below W.heap.size W w') (h : W.cell? ⟨b, o, none⟩ = some v) : w'.cell? ⟨b, o, none⟩ = some v := by
  rw [hb.cell (p := ⟨b, o, none⟩) (World.block_lt_of_cell? W _ h)]; exact h

set_option maxHeartbeats 400000 in
theorem texts_walk (t i u j r : ByteArray) (w : World) (hW : Words w) :
    Calls Tryd.prog 7 #[.agg #[.string t, .string i], .agg #[.string u, .string j, .string r]] w fun e w' => e = .returned (.bool true) ∧ Below w.heap.size w w' := by
  go_enter Tryd.func7, Tryd.ntmps7
  go_wp2_with fail
  refine (objText_any t i _).mono ?_
  rintro e w1 ⟨rfl, hb1⟩
  have K1 : Hid (Below w.heap.size w w1) := below_start hb1
  obtain ⟨m0, m1, m2, m3, m4⟩ := five t i u j r w w1 hb1
  clear hb1
  go_wp2_with fail
  refine (robjText_any t i _ (hW.below K1.out)).mono ?_
  rintro e w2 ⟨rfl, hb2⟩
  have K2 : Hid (Below w.heap.size w w2) := below_next K1.out hb2
  replace m2 := cell_next hb2 m2
  replace m3 := cell_next hb2 m3
  replace m4 := cell_next hb2 m4
  clear hb2 K1 m0 m1
  go_wp2_with fail
  refine (subText_any u j r _).mono ?_
  rintro e w3 ⟨rfl, hb3⟩
  have K3 : Hid (Below w.heap.size w w3) := below_next K2.out hb3
  replace m2 := cell_next hb3 m2
  replace m3 := cell_next hb3 m3
  replace m4 := cell_next hb3 m4
  clear hb3 K2
  go_wp2_with fail
  refine (rsubText_any u j r _ (hW.below K3.out)).mono ?_
  rintro e w4 ⟨rfl, hb4⟩
  have K4 : Hid (Below w.heap.size w w4) := below_next K3.out hb4
  clear hb4 K3 m2 m3 m4
  go_wp2
  go_ret
  exact ⟨rfl, K4.out⟩
end Go.Proofs.YtkkbnbcjkjbepaaDoor
