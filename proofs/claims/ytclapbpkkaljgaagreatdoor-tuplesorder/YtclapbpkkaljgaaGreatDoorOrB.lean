/- One text is read as its tuple. -/
import Derived.Test.YtclapbpkkaljgaaGreatDoorOwn
import Derived.Test.YtclapbpkkaljgaaGreatDoorSubW
import Derived.Test.YtclapbpkkaljgaaGreatDoorShelf
import Derived.Deep.RegionHeld3
namespace Go.Proofs.YtclapbpkkaljgaaGreatDoor
open Go.RowKit Go.PlainAid

abbrev b1 (x : UInt8) : ByteArray := ⟨#[x]⟩
/-- the tuple d:1#r@u:a -/
abbrev T0 : Value := .agg #[.string (b1 100), .string (b1 49), .string (b1 114), .string (b1 117), .string (b1 97), .string ⟨#[]⟩, .string ⟨#[]⟩, .slice none 0 0]
theorem tl (l : List UInt8) : (⟨l.toArray⟩ : ByteArray).toList = l := by rw [ByteArray.toList_eq]

theorem object_d1 (w : World) : Calls Tryz.prog 33 #[.string ⟨#[100, 58, 49]⟩] w fun e w' => e = .returned (.tuple #[.agg #[.string (b1 100), .string (b1 49)], .int .i64 0]) ∧ Keep [] w w' := by
  have h := Idt.object_any ⟨#[100, 58, 49]⟩ w (by decide)
  rw [tl [100, 58, 49]] at h
  refine h.mono ?_
  rintro e w' ⟨rfl, hb⟩
  exact ⟨rfl, Keep.ofBelow hb⟩
theorem subject_ua (w : World) : Calls Tryz.prog 34 #[.string ⟨#[117, 58, 97]⟩] w fun e w' => e = .returned (.tuple #[.agg #[.string (b1 117), .string (b1 97), .string ⟨#[]⟩], .int .i64 0]) ∧ Keep [] w w' := by
  have h := Idt.subject_any ⟨#[117, 58, 97]⟩ w (by decide)
  rw [tl [117, 58, 97]] at h
  refine h.mono ?_
  rintro e w' ⟨rfl, hb⟩
  exact ⟨rfl, Keep.ofBelow hb⟩
theorem kind_ua (w : World) : Calls Tryz.prog 38 #[.agg #[.string (b1 117), .string (b1 97), .string ⟨#[]⟩]] w fun e w' => e = .returned (.int .i64 1) ∧ Keep [] w w' := by
  have h := Idt.kind_any ⟨#[117]⟩ ⟨#[97]⟩ ⟨#[]⟩ w
  rw [tl [117], tl [97], tl []] at h
  refine h.mono ?_
  rintro e w' ⟨rfl, hb⟩
  exact ⟨rfl, Keep.ofBelow hb⟩
theorem name_b1 (c : UInt8) (h : Idt.nameL [c] = true) (w : World) : Calls Tryz.prog 35 #[.string (b1 c)] w fun e w' => e = .returned (.bool true) ∧ w' = w := by
  have h2 := Idt.name_any ⟨#[c]⟩ w
  rw [tl [c], h] at h2
  exact h2
theorem id_b1 (c : UInt8) (h : Idt.idL [c] = true) (w : World) : Calls Tryz.prog 37 #[.string (b1 c)] w fun e w' => e = .returned (.bool true) ∧ w' = w := by
  have h2 := Idt.id_any ⟨#[c]⟩ w
  rw [tl [c], h] at h2
  exact h2

/-- where bytealg.MaxLen lies: some int -/
def MaxL (w : World) : Prop := ∃ m : Int, w.cell? ⟨0, 0, none⟩ = some (.int .i64 m)
theorem MaxL.keep {w w' : World} (h : MaxL w) (k : Keep [] w w') : MaxL w' := by
  obtain ⟨m, h⟩ := h
  exact ⟨m, k.cell' h (by simp)⟩
theorem cut_any (s sep : ByteArray) (w : World) (hs : s.size < 4294967281) (h : MaxL w) :
    Calls Tryz.prog 20 #[.string s, .string sep] w fun e w' => e = .returned (.tuple #[.string ⟨(Lib.cut s.data.toList sep.data.toList).1.toArray⟩, .string ⟨(Lib.cut s.data.toList sep.data.toList).2.1.toArray⟩, .bool (Lib.cut s.data.toList sep.data.toList).2.2]) ∧ Keep [] w w' := by
  obtain ⟨m, hm⟩ := h
  have hc := Any.strings_Cut Tryz.cutS s sep m w hs hm
  change Calls Tryz.prog 20 _ _ _ at hc
  refine hc.mono ?_
  rintro e w' ⟨rfl, n, rfl⟩
  exact ⟨rfl, (Keep.refl _ _).drewN n⟩
abbrev S0 : ByteArray := ⟨#[100, 58, 49, 35, 114, 64, 117, 58, 97]⟩
theorem cut_with (w : World) (h : MaxL w) : Calls Tryz.prog 20 #[.string S0, .string ⟨#[32, 119, 105, 116, 104, 32]⟩] w fun e w' => e = .returned (.tuple #[.string S0, .string ⟨#[]⟩, .bool false]) ∧ Keep [] w w' := cut_any _ _ w (by decide) h
theorem cut_hash (w : World) (h : MaxL w) : Calls Tryz.prog 20 #[.string S0, .string ⟨#[35]⟩] w fun e w' => e = .returned (.tuple #[.string ⟨#[100, 58, 49]⟩, .string ⟨#[114, 64, 117, 58, 97]⟩, .bool true]) ∧ Keep [] w w' := cut_any _ _ w (by decide) h
theorem cut_at (w : World) (h : MaxL w) : Calls Tryz.prog 20 #[.string ⟨#[114, 64, 117, 58, 97]⟩, .string ⟨#[64]⟩] w fun e w' => e = .returned (.tuple #[.string (b1 114), .string ⟨#[117, 58, 97]⟩, .bool true]) ∧ Keep [] w w' := cut_any _ _ w (by decide) h

set_option maxRecDepth 1000000 in
theorem args_nil (w : World) : Calls Tryz.prog 61 #[.slice none 0 0] w fun e w' => e = .returned (.int .i64 0) ∧ Keep [] w w' := by
  go_enter Tryz.func61, Tryz.ntmps61
  go_wp2
  go_loopw [10] (fun iv wr => iv = .int .i64 0 ∧ Hid (Keep [] w wr)) (fun _ _ => 0)
  case atStart => exact ⟨rfl, Keep.refl _ _⟩
  case round =>
    obtain ⟨rfl, HK⟩ := hrel
    go_wp2
    go_ret
    exact ⟨rfl, HK.out⟩

theorem eight {w w' : World} {v0 v1 v2 v3 v4 v5 v6 v7 : Value} {t : TypeId} (k : Keep [] (w.alloc (.cells #[v0, v1, v2, v3, v4, v5, v6, v7] t)) w') :
    w'.cell? ⟨w.heap.size, 0, none⟩ = some v0 ∧ w'.cell? ⟨w.heap.size, 1, none⟩ = some v1 ∧ w'.cell? ⟨w.heap.size, 2, none⟩ = some v2 ∧ w'.cell? ⟨w.heap.size, 3, none⟩ = some v3 ∧ w'.cell? ⟨w.heap.size, 4, none⟩ = some v4 ∧ w'.cell? ⟨w.heap.size, 5, none⟩ = some v5 ∧ w'.cell? ⟨w.heap.size, 6, none⟩ = some v6 ∧ w'.cell? ⟨w.heap.size, 7, none⟩ = some v7 := by
  refine ⟨k.cell' ?_ (by simp), k.cell' ?_ (by simp), k.cell' ?_ (by simp), k.cell' ?_ (by simp), k.cell' ?_ (by simp), k.cell' ?_ (by simp), k.cell' ?_ (by simp), k.cell' ?_ (by simp)⟩ <;> simp [go_sem]

set_option maxRecDepth 1000000 in
theorem argsMayBe_T0 (w : World) : Calls Tryz.prog 39 #[T0] w fun e w' => e = .returned (.bool true) ∧ Keep [] w w' := by
  go_enter Tryz.func39, Tryz.ntmps39
  go_wp2_with fail
  refine (args_nil _).mono ?_
  rintro e9 w1 ⟨rfl, k1⟩
  obtain ⟨c0, c1, c2, c3, c4, c5, c6, c7⟩ := eight k1
  have HK : Hid (Keep [] w w1) := (Keep.alloc1 w _).trans' k1
  clear k1
  go_wp2
  go_ret
  exact ⟨rfl, HK.out⟩

set_option maxRecDepth 1000000 in
set_option maxHeartbeats 1600000 in
theorem mayBe_T0 (w : World) : Calls Tryz.prog 23 #[T0] w fun e w' => e = .returned (.bool true) ∧ Keep [] w w' := by
  have hN := fun w1 => name_b1 100 (by decide) w1
  have hI := fun w1 => id_b1 49 (by decide) w1
  have hN2 := fun w1 => name_b1 114 (by decide) w1
  have hK := kind_ua
  have hA := argsMayBe_T0
  go_enter Tryz.func23, Tryz.ntmps23
  go_wp2_with fail
  refine (hN _).mono ?_
  rintro e9 w1 ⟨rfl, hw⟩
  obtain rfl := hw.symm
  clear hw
  go_wp2_with fail
  refine (hI _).mono ?_
  rintro e9 w1 ⟨rfl, hw⟩
  obtain rfl := hw.symm
  clear hw
  go_wp2_with fail
  refine (hK _).mono ?_
  rintro e9 w1 ⟨rfl, k1⟩
  obtain ⟨c0, c1, c2, c3, c4, c5, c6, c7⟩ := eight k1
  have HK : Hid (Keep [] w w1) := (Keep.alloc1 w _).trans' k1
  clear k1
  go_wp2_with fail
  refine (hN2 _).mono ?_
  rintro e9 w2 ⟨rfl, hw⟩
  obtain rfl := hw.symm
  clear hw
  go_wp2_with fail
  refine (hA _).mono ?_
  rintro e9 w2 ⟨rfl, k2⟩
  have HK2 : Hid (Keep [] w w2) := HK.out.trans' k2
  clear k2 c0 c1 c2 c3 c4 c5 c6 c7 HK
  go_wp2
  go_ret
  exact ⟨rfl, HK2.out⟩

/-- a tuple's box -/
structure P8 (w : World) (b : Nat) (v0 v1 v2 v3 v4 v5 v6 v7 : Value) : Prop where
  c0 : w.cell? ⟨b, 0, none⟩ = some v0
  c1 : w.cell? ⟨b, 1, none⟩ = some v1
  c2 : w.cell? ⟨b, 2, none⟩ = some v2
  c3 : w.cell? ⟨b, 3, none⟩ = some v3
  c4 : w.cell? ⟨b, 4, none⟩ = some v4
  c5 : w.cell? ⟨b, 5, none⟩ = some v5
  c6 : w.cell? ⟨b, 6, none⟩ = some v6
  c7 : w.cell? ⟨b, 7, none⟩ = some v7
  fz : ∀ j, w.frozen? ⟨b, j, none⟩ = false
theorem P8.lt {w : World} {b : Nat} {v0 v1 v2 v3 v4 v5 v6 v7 : Value} (h : P8 w b v0 v1 v2 v3 v4 v5 v6 v7) : b < w.heap.size := World.block_lt_of_cell? w _ h.c0
theorem P8.keep {F : List Nat} {w w' : World} {b : Nat} {v0 v1 v2 v3 v4 v5 v6 v7 : Value} (h : P8 w b v0 v1 v2 v3 v4 v5 v6 v7) (k : Keep F w w') (hb : b ∉ F) : P8 w' b v0 v1 v2 v3 v4 v5 v6 v7 :=
  ⟨k.cell' h.c0 hb, k.cell' h.c1 hb, k.cell' h.c2 hb, k.cell' h.c3 hb, k.cell' h.c4 hb, k.cell' h.c5 hb, k.cell' h.c6 hb, k.cell' h.c7 hb, fun j => (k.frozen h.lt hb).trans (h.fz j)⟩
theorem P8.first {w w' : World} {v0 v1 v2 v3 v4 v5 v6 v7 : Value} {t : TypeId} (k : Keep [] (w.alloc (.cells #[v0, v1, v2, v3, v4, v5, v6, v7] t)) w') : P8 w' w.heap.size v0 v1 v2 v3 v4 v5 v6 v7 := by
  obtain ⟨c0, c1, c2, c3, c4, c5, c6, c7⟩ := eight k
  exact ⟨c0, c1, c2, c3, c4, c5, c6, c7, fun j => (k.frozen (by simp) (by simp)).trans (by simp)⟩
theorem P8.set2 {w : World} {b : Nat} {v0 v1 v2 v3 v4 v5 v6 v7 : Value} (x0 x1 : Value) (h : P8 w b v0 v1 v2 v3 v4 v5 v6 v7) : P8 ((w.setCell ⟨b, 0, none⟩ x0).setCell ⟨b, 1, none⟩ x1) b x0 x1 v2 v3 v4 v5 v6 v7 := by
  refine ⟨?_, ?_, ?_, ?_, ?_, ?_, ?_, ?_, ?_⟩
  · rw [World.cell?_setCell_other _ _ _ _ (by simp)]; exact World.cell?_setCell_same _ _ _ (by exact h.c0)
  · exact World.cell?_setCell_same _ _ _ (by rw [World.cell?_setCell_other _ _ _ _ (by simp)]; exact h.c1)
  · rw [World.cell?_setCell_other _ _ _ _ (by simp), World.cell?_setCell_other _ _ _ _ (by simp)]; exact h.c2
  · rw [World.cell?_setCell_other _ _ _ _ (by simp), World.cell?_setCell_other _ _ _ _ (by simp)]; exact h.c3
  · rw [World.cell?_setCell_other _ _ _ _ (by simp), World.cell?_setCell_other _ _ _ _ (by simp)]; exact h.c4
  · rw [World.cell?_setCell_other _ _ _ _ (by simp), World.cell?_setCell_other _ _ _ _ (by simp)]; exact h.c5
  · rw [World.cell?_setCell_other _ _ _ _ (by simp), World.cell?_setCell_other _ _ _ _ (by simp)]; exact h.c6
  · rw [World.cell?_setCell_other _ _ _ _ (by simp), World.cell?_setCell_other _ _ _ _ (by simp)]; exact h.c7
  · intro j
    simp [h.fz j]
theorem P8.set3 {w : World} {b : Nat} {v0 v1 v2 v3 v4 v5 v6 v7 : Value} (x0 x1 x2 : Value) (h : P8 w b v0 v1 v2 v3 v4 v5 v6 v7) : P8 (((w.setCell ⟨b, 3, none⟩ x0).setCell ⟨b, 4, none⟩ x1).setCell ⟨b, 5, none⟩ x2) b v0 v1 v2 x0 x1 x2 v6 v7 := by
  refine ⟨?_, ?_, ?_, ?_, ?_, ?_, ?_, ?_, ?_⟩
  · rw [World.cell?_setCell_other _ _ _ _ (by simp), World.cell?_setCell_other _ _ _ _ (by simp), World.cell?_setCell_other _ _ _ _ (by simp)]; exact h.c0
  · rw [World.cell?_setCell_other _ _ _ _ (by simp), World.cell?_setCell_other _ _ _ _ (by simp), World.cell?_setCell_other _ _ _ _ (by simp)]; exact h.c1
  · rw [World.cell?_setCell_other _ _ _ _ (by simp), World.cell?_setCell_other _ _ _ _ (by simp), World.cell?_setCell_other _ _ _ _ (by simp)]; exact h.c2
  · rw [World.cell?_setCell_other _ _ _ _ (by simp), World.cell?_setCell_other _ _ _ _ (by simp)]; exact World.cell?_setCell_same _ _ _ (by exact h.c3)
  · rw [World.cell?_setCell_other _ _ _ _ (by simp)]; exact World.cell?_setCell_same _ _ _ (by rw [World.cell?_setCell_other _ _ _ _ (by simp)]; exact h.c4)
  · exact World.cell?_setCell_same _ _ _ (by rw [World.cell?_setCell_other _ _ _ _ (by simp), World.cell?_setCell_other _ _ _ _ (by simp)]; exact h.c5)
  · rw [World.cell?_setCell_other _ _ _ _ (by simp), World.cell?_setCell_other _ _ _ _ (by simp), World.cell?_setCell_other _ _ _ _ (by simp)]; exact h.c6
  · rw [World.cell?_setCell_other _ _ _ _ (by simp), World.cell?_setCell_other _ _ _ _ (by simp), World.cell?_setCell_other _ _ _ _ (by simp)]; exact h.c7
  · intro j
    simp [h.fz j]
theorem P8.set8 {w : World} {b : Nat} {v0 v1 v2 v3 v4 v5 v6 v7 : Value} (x0 x1 x2 x3 x4 x5 x6 x7 : Value) (h : P8 w b v0 v1 v2 v3 v4 v5 v6 v7) : P8 ((((((((w.setCell ⟨b, 0, none⟩ x0).setCell ⟨b, 1, none⟩ x1).setCell ⟨b, 2, none⟩ x2).setCell ⟨b, 3, none⟩ x3).setCell ⟨b, 4, none⟩ x4).setCell ⟨b, 5, none⟩ x5).setCell ⟨b, 6, none⟩ x6).setCell ⟨b, 7, none⟩ x7) b x0 x1 x2 x3 x4 x5 x6 x7 := by
  refine ⟨?_, ?_, ?_, ?_, ?_, ?_, ?_, ?_, ?_⟩
  · rw [World.cell?_setCell_other _ _ _ _ (by simp), World.cell?_setCell_other _ _ _ _ (by simp), World.cell?_setCell_other _ _ _ _ (by simp), World.cell?_setCell_other _ _ _ _ (by simp), World.cell?_setCell_other _ _ _ _ (by simp), World.cell?_setCell_other _ _ _ _ (by simp), World.cell?_setCell_other _ _ _ _ (by simp)]; exact World.cell?_setCell_same _ _ _ (by exact h.c0)
  · rw [World.cell?_setCell_other _ _ _ _ (by simp), World.cell?_setCell_other _ _ _ _ (by simp), World.cell?_setCell_other _ _ _ _ (by simp), World.cell?_setCell_other _ _ _ _ (by simp), World.cell?_setCell_other _ _ _ _ (by simp), World.cell?_setCell_other _ _ _ _ (by simp)]; exact World.cell?_setCell_same _ _ _ (by rw [World.cell?_setCell_other _ _ _ _ (by simp)]; exact h.c1)
  · rw [World.cell?_setCell_other _ _ _ _ (by simp), World.cell?_setCell_other _ _ _ _ (by simp), World.cell?_setCell_other _ _ _ _ (by simp), World.cell?_setCell_other _ _ _ _ (by simp), World.cell?_setCell_other _ _ _ _ (by simp)]; exact World.cell?_setCell_same _ _ _ (by rw [World.cell?_setCell_other _ _ _ _ (by simp), World.cell?_setCell_other _ _ _ _ (by simp)]; exact h.c2)
  · rw [World.cell?_setCell_other _ _ _ _ (by simp), World.cell?_setCell_other _ _ _ _ (by simp), World.cell?_setCell_other _ _ _ _ (by simp), World.cell?_setCell_other _ _ _ _ (by simp)]; exact World.cell?_setCell_same _ _ _ (by rw [World.cell?_setCell_other _ _ _ _ (by simp), World.cell?_setCell_other _ _ _ _ (by simp), World.cell?_setCell_other _ _ _ _ (by simp)]; exact h.c3)
  · rw [World.cell?_setCell_other _ _ _ _ (by simp), World.cell?_setCell_other _ _ _ _ (by simp), World.cell?_setCell_other _ _ _ _ (by simp)]; exact World.cell?_setCell_same _ _ _ (by rw [World.cell?_setCell_other _ _ _ _ (by simp), World.cell?_setCell_other _ _ _ _ (by simp), World.cell?_setCell_other _ _ _ _ (by simp), World.cell?_setCell_other _ _ _ _ (by simp)]; exact h.c4)
  · rw [World.cell?_setCell_other _ _ _ _ (by simp), World.cell?_setCell_other _ _ _ _ (by simp)]; exact World.cell?_setCell_same _ _ _ (by rw [World.cell?_setCell_other _ _ _ _ (by simp), World.cell?_setCell_other _ _ _ _ (by simp), World.cell?_setCell_other _ _ _ _ (by simp), World.cell?_setCell_other _ _ _ _ (by simp), World.cell?_setCell_other _ _ _ _ (by simp)]; exact h.c5)
  · rw [World.cell?_setCell_other _ _ _ _ (by simp)]; exact World.cell?_setCell_same _ _ _ (by rw [World.cell?_setCell_other _ _ _ _ (by simp), World.cell?_setCell_other _ _ _ _ (by simp), World.cell?_setCell_other _ _ _ _ (by simp), World.cell?_setCell_other _ _ _ _ (by simp), World.cell?_setCell_other _ _ _ _ (by simp), World.cell?_setCell_other _ _ _ _ (by simp)]; exact h.c6)
  · exact World.cell?_setCell_same _ _ _ (by rw [World.cell?_setCell_other _ _ _ _ (by simp), World.cell?_setCell_other _ _ _ _ (by simp), World.cell?_setCell_other _ _ _ _ (by simp), World.cell?_setCell_other _ _ _ _ (by simp), World.cell?_setCell_other _ _ _ _ (by simp), World.cell?_setCell_other _ _ _ _ (by simp), World.cell?_setCell_other _ _ _ _ (by simp)]; exact h.c7)
  · intro j
    simp [h.fz j]

set_option maxRecDepth 1000000 in
set_option maxHeartbeats 3200000 in
theorem parseKey_S0 (w : World) (h : MaxL w) : Calls Tryz.prog 21 #[.string S0] w fun e w' => e = .returned T0 ∧ Keep [] w w' := by
  have hH := fun w1 (k : Keep [] w w1) => cut_hash w1 (h.keep k)
  have hT := fun w1 (k : Keep [] w w1) => cut_at w1 (h.keep k)
  have hO := object_d1
  have hS := subject_ua
  clear h
  go_enter Tryz.func21, Tryz.ntmps21
  go_wp2_with fail
  refine (hH _ (Keep.alloc1 w _)).mono ?_
  rintro e9 w1 ⟨rfl, k1⟩
  have HK1 : Hid (Keep [] w w1) := (Keep.alloc1 w _).trans' k1
  have HR1 : Hid _ := P8.first k1
  clear k1
  go_wp2_with fail
  refine (hT _ HK1.out).mono ?_
  rintro e9 w2 ⟨rfl, k2⟩
  have HK2 : Hid (Keep [] w w2) := HK1.out.trans' k2
  have HR2 : Hid _ := HR1.out.keep k2 (by simp)
  clear k2 HK1 HR1
  go_wp2_with fail
  refine (hO _).mono ?_
  rintro e9 w3 ⟨rfl, k3⟩
  have HK3 : Hid (Keep [] w w3) := (HK2.out.alloc _).trans' k3
  have HQ3 : Hid _ := P8.first k3
  have HR3 : Hid _ := (HR2.out.keep (Keep.alloc1 _ _) (by simp)).keep k3 (by simp)
  have HNE : Hid (w.heap.size < w2.heap.size) := HR2.out.lt
  obtain ⟨q, HQ⟩ : ∃ q, Hid (q = w2.heap.size) := ⟨_, show _ = _ from rfl⟩
  have hq := HQ.out
  rw [← hq] at HQ3 HNE ⊢
  clear hq k3 HK2 HR2
  obtain ⟨c0, c1, c2, c3, c4, c5, c6, c7, cz⟩ := HQ3.out
  go_wp2_with fail
  refine (hS _).mono ?_
  rintro e9 w4 ⟨rfl, k4⟩
  have HQ4 : Hid _ := (HQ3.out.set2 _ _).keep k4 (by simp)
  have KS4 : Keep [q] w3 ((w3.setCell ⟨q, 0, none⟩ (.string (b1 100))).setCell ⟨q, 1, none⟩ (.string (b1 49))) := ((Keep.refl [q] w3).setCell (p := ⟨q, 0, none⟩) (.inl (by simp)) _).setCell (p := ⟨q, 1, none⟩) (.inl (by simp)) _
  have HR4 : Hid _ := (HR3.out.keep KS4 (by have := HNE.out; simp; omega)).keep k4 (by simp)
  have HK4 : Hid (Keep [] w w4) := (HK3.out.more KS4 (fun x hx => .inr (by have := HNE.out; simp at hx; omega))).trans' k4
  clear k4 KS4 HQ3 HR3 HK3 c0 c1 c2 c3 c4 c5 c6 c7 cz
  obtain ⟨c0, c1, c2, c3, c4, c5, c6, c7, cz⟩ := HQ4.out
  obtain ⟨d0, d1, d2, d3, d4, d5, d6, d7, dz⟩ := HR4.out
  have hne1 : ¬ q = w.heap.size := by have := HNE.out; omega
  have hne2 : ¬ w.heap.size = q := by have := HNE.out; omega
  go_wp2
  have KS5 : Keep [q] w4 (((w4.setCell ⟨q, 3, none⟩ (.string (b1 117))).setCell ⟨q, 4, none⟩ (.string (b1 97))).setCell ⟨q, 5, none⟩ (.string ⟨#[]⟩)) := (((Keep.refl [q] w4).setCell (p := ⟨q, 3, none⟩) (.inl (by simp)) _).setCell (p := ⟨q, 4, none⟩) (.inl (by simp)) _).setCell (p := ⟨q, 5, none⟩) (.inl (by simp)) _
  have hW := (HR4.out.keep KS5 (by have := HNE.out; simp; omega)).set8 (.string (b1 100)) (.string (b1 49)) (.string (b1 114)) (.string (b1 117)) (.string (b1 97)) (.string ⟨#[]⟩) (.string ⟨#[]⟩) (.slice none 0 0)
  have KS6 : Keep [w.heap.size] (((w4.setCell ⟨q, 3, none⟩ (.string (b1 117))).setCell ⟨q, 4, none⟩ (.string (b1 97))).setCell ⟨q, 5, none⟩ (.string ⟨#[]⟩)) (((((((((((w4.setCell ⟨q, 3, none⟩ (.string (b1 117))).setCell ⟨q, 4, none⟩ (.string (b1 97))).setCell ⟨q, 5, none⟩ (.string ⟨#[]⟩)).setCell ⟨w.heap.size, 0, none⟩ (.string (b1 100))).setCell ⟨w.heap.size, 1, none⟩ (.string (b1 49))).setCell ⟨w.heap.size, 2, none⟩ (.string (b1 114))).setCell ⟨w.heap.size, 3, none⟩ (.string (b1 117))).setCell ⟨w.heap.size, 4, none⟩ (.string (b1 97))).setCell ⟨w.heap.size, 5, none⟩ (.string ⟨#[]⟩)).setCell ⟨w.heap.size, 6, none⟩ (.string ⟨#[]⟩)).setCell ⟨w.heap.size, 7, none⟩ (.slice none 0 0)) := (((((((((Keep.refl [w.heap.size] (((w4.setCell ⟨q, 3, none⟩ (.string (b1 117))).setCell ⟨q, 4, none⟩ (.string (b1 97))).setCell ⟨q, 5, none⟩ (.string ⟨#[]⟩))).setCell (p := ⟨w.heap.size, 0, none⟩) (.inl (by simp)) _).setCell (p := ⟨w.heap.size, 1, none⟩) (.inl (by simp)) _).setCell (p := ⟨w.heap.size, 2, none⟩) (.inl (by simp)) _).setCell (p := ⟨w.heap.size, 3, none⟩) (.inl (by simp)) _).setCell (p := ⟨w.heap.size, 4, none⟩) (.inl (by simp)) _).setCell (p := ⟨w.heap.size, 5, none⟩) (.inl (by simp)) _).setCell (p := ⟨w.heap.size, 6, none⟩) (.inl (by simp)) _).setCell (p := ⟨w.heap.size, 7, none⟩) (.inl (by simp)) _)
  have HKF : Keep [] w (((((((((((w4.setCell ⟨q, 3, none⟩ (.string (b1 117))).setCell ⟨q, 4, none⟩ (.string (b1 97))).setCell ⟨q, 5, none⟩ (.string ⟨#[]⟩)).setCell ⟨w.heap.size, 0, none⟩ (.string (b1 100))).setCell ⟨w.heap.size, 1, none⟩ (.string (b1 49))).setCell ⟨w.heap.size, 2, none⟩ (.string (b1 114))).setCell ⟨w.heap.size, 3, none⟩ (.string (b1 117))).setCell ⟨w.heap.size, 4, none⟩ (.string (b1 97))).setCell ⟨w.heap.size, 5, none⟩ (.string ⟨#[]⟩)).setCell ⟨w.heap.size, 6, none⟩ (.string ⟨#[]⟩)).setCell ⟨w.heap.size, 7, none⟩ (.slice none 0 0)) := (HK4.out.more KS5 (fun x hx => .inr (by have := HNE.out; simp at hx; omega))).more KS6 (fun x hx => .inr (by simp at hx; omega))
  clear KS5 KS6
  generalize (((((((((((w4.setCell ⟨q, 3, none⟩ (.string (b1 117))).setCell ⟨q, 4, none⟩ (.string (b1 97))).setCell ⟨q, 5, none⟩ (.string ⟨#[]⟩)).setCell ⟨w.heap.size, 0, none⟩ (.string (b1 100))).setCell ⟨w.heap.size, 1, none⟩ (.string (b1 49))).setCell ⟨w.heap.size, 2, none⟩ (.string (b1 114))).setCell ⟨w.heap.size, 3, none⟩ (.string (b1 117))).setCell ⟨w.heap.size, 4, none⟩ (.string (b1 97))).setCell ⟨w.heap.size, 5, none⟩ (.string ⟨#[]⟩)).setCell ⟨w.heap.size, 6, none⟩ (.string ⟨#[]⟩)).setCell ⟨w.heap.size, 7, none⟩ (.slice none 0 0)) = WW at hW HKF ⊢
  obtain ⟨r0, r1, r2, r3, r4, r5, r6, r7, _⟩ := hW
  refine bodyPost_ret (v := T0) (by simp [results, Tryz.results21, go_sem, r0, r1, r2, r3, r4, r5, r6, r7]) rfl ⟨rfl, HKF⟩

set_option maxRecDepth 1000000 in
set_option maxHeartbeats 3200000 in
theorem parse_S0 (w : World) (h : MaxL w) : Calls Tryz.prog 16 #[.string S0] w fun e w' => e = .returned (.tuple #[T0, .int .i64 0]) ∧ Keep [] w w' := by
  have hH := fun w1 (k : Keep [] w w1) => cut_with w1 (h.keep k)
  have hP := fun w1 (k : Keep [] w w1) => parseKey_S0 w1 (h.keep k)
  have hM := mayBe_T0
  clear h
  go_enter Tryz.func16, Tryz.ntmps16
  go_wp2_with fail
  refine (hH _ (Keep.alloc1 w _)).mono ?_
  rintro e9 w1 ⟨rfl, k1⟩
  have HK1 : Hid (Keep [] w w1) := (Keep.alloc1 w _).trans' k1
  have HR1 : Hid _ := P8.first k1
  clear k1
  go_wp2_with fail
  refine (hP _ HK1.out).mono ?_
  rintro e9 w2 ⟨rfl, k2⟩
  have HK2 : Hid (Keep [] w w2) := HK1.out.trans' k2
  have HR2 : Hid _ := HR1.out.keep k2 (by simp)
  clear k2 HK1 HR1
  go_wp2_with fail
  refine (hM _).mono ?_
  rintro e9 w3 ⟨rfl, k3⟩
  have HK3 : Hid (Keep [] w w3) := (HK2.out.alloc _).trans' k3
  have HQ3 : Hid _ := P8.first k3
  have HR3 : Hid _ := (HR2.out.keep (Keep.alloc1 _ _) (by simp)).keep k3 (by simp)
  have HNE : Hid (w.heap.size < w2.heap.size) := HR2.out.lt
  obtain ⟨q, HQ⟩ : ∃ q, Hid (q = w2.heap.size) := ⟨_, show _ = _ from rfl⟩
  have hq := HQ.out
  rw [← hq] at HQ3 HNE ⊢
  clear hq k3 HK2 HR2
  obtain ⟨c0, c1, c2, c3, c4, c5, c6, c7, cz⟩ := HQ3.out
  obtain ⟨d0, d1, d2, d3, d4, d5, d6, d7, dz⟩ := HR3.out
  have hne1 : ¬ q = w.heap.size := by have := HNE.out; omega
  have hne2 : ¬ w.heap.size = q := by have := HNE.out; omega
  go_wp2
  have hW := HR3.out.set8 (.string (b1 100)) (.string (b1 49)) (.string (b1 114)) (.string (b1 117)) (.string (b1 97)) (.string ⟨#[]⟩) (.string ⟨#[]⟩) (.slice none 0 0)
  have KS6 : Keep [w.heap.size] w3 ((((((((w3.setCell ⟨w.heap.size, 0, none⟩ (.string (b1 100))).setCell ⟨w.heap.size, 1, none⟩ (.string (b1 49))).setCell ⟨w.heap.size, 2, none⟩ (.string (b1 114))).setCell ⟨w.heap.size, 3, none⟩ (.string (b1 117))).setCell ⟨w.heap.size, 4, none⟩ (.string (b1 97))).setCell ⟨w.heap.size, 5, none⟩ (.string ⟨#[]⟩)).setCell ⟨w.heap.size, 6, none⟩ (.string ⟨#[]⟩)).setCell ⟨w.heap.size, 7, none⟩ (.slice none 0 0)) := (((((((((Keep.refl [w.heap.size] w3).setCell (p := ⟨w.heap.size, 0, none⟩) (.inl (by simp)) _).setCell (p := ⟨w.heap.size, 1, none⟩) (.inl (by simp)) _).setCell (p := ⟨w.heap.size, 2, none⟩) (.inl (by simp)) _).setCell (p := ⟨w.heap.size, 3, none⟩) (.inl (by simp)) _).setCell (p := ⟨w.heap.size, 4, none⟩) (.inl (by simp)) _).setCell (p := ⟨w.heap.size, 5, none⟩) (.inl (by simp)) _).setCell (p := ⟨w.heap.size, 6, none⟩) (.inl (by simp)) _).setCell (p := ⟨w.heap.size, 7, none⟩) (.inl (by simp)) _)
  have HKF : Keep [] w ((((((((w3.setCell ⟨w.heap.size, 0, none⟩ (.string (b1 100))).setCell ⟨w.heap.size, 1, none⟩ (.string (b1 49))).setCell ⟨w.heap.size, 2, none⟩ (.string (b1 114))).setCell ⟨w.heap.size, 3, none⟩ (.string (b1 117))).setCell ⟨w.heap.size, 4, none⟩ (.string (b1 97))).setCell ⟨w.heap.size, 5, none⟩ (.string ⟨#[]⟩)).setCell ⟨w.heap.size, 6, none⟩ (.string ⟨#[]⟩)).setCell ⟨w.heap.size, 7, none⟩ (.slice none 0 0)) := HK3.out.more KS6 (fun x hx => .inr (by simp at hx; omega))
  clear KS6
  generalize ((((((((w3.setCell ⟨w.heap.size, 0, none⟩ (.string (b1 100))).setCell ⟨w.heap.size, 1, none⟩ (.string (b1 49))).setCell ⟨w.heap.size, 2, none⟩ (.string (b1 114))).setCell ⟨w.heap.size, 3, none⟩ (.string (b1 117))).setCell ⟨w.heap.size, 4, none⟩ (.string (b1 97))).setCell ⟨w.heap.size, 5, none⟩ (.string ⟨#[]⟩)).setCell ⟨w.heap.size, 6, none⟩ (.string ⟨#[]⟩)).setCell ⟨w.heap.size, 7, none⟩ (.slice none 0 0)) = WW at hW HKF ⊢
  obtain ⟨r0, r1, r2, r3, r4, r5, r6, r7, _⟩ := hW
  refine bodyPost_ret (v := .tuple #[T0, .int .i64 0]) (by simp [results, Tryz.results16, go_sem, r0, r1, r2, r3, r4, r5, r6, r7]) rfl ⟨rfl, HKF⟩
end Go.Proofs.YtclapbpkkaljgaaGreatDoor
