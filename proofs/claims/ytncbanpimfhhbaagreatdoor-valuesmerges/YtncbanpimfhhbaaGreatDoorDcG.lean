/- read: the value that stands there, or any. -/
import Derived.Test.YtncbanpimfhhbaaGreatDoorDcD
import Derived.Test.YtncbanpimfhhbaaGreatDoorDcC
import Derived.Test.YtncbanpimfhhbaaGreatDoorLtD

namespace Go.Proofs.YtncbanpimfhhbaaGreatDoor
open Go.RowKit Go.PlainAid Go.Lib

set_option maxRecDepth 1000000 in
set_option maxHeartbeats 800000 in
theorem read_0 (b : Nat) (rb : Option Nat) (l l1 : List UInt8) (e1 : Int) (n : Nat) (hn : 5 < n ∨ n = 0) (hn2 : n < 256) (w : World) (hr : Rd w b 0 l 0 rb) (hk : rdOf 0 l 0 (byteL l) = (n, l1, e1)) :
    Calls Tryz.prog 30 #[.pointer (some ⟨b, 0, none⟩)] w fun e w' => ∃ u, e = .returned ((⟨(n : Int), false, 0, 0, ⟨#[]⟩, []⟩ : VD).val u) ∧ Ts w' u (⟨(n : Int), false, 0, 0, ⟨#[]⟩, []⟩ : VD).texts ∧ (∀ k, u.ownBlock = some k → w.heap.size ≤ k) ∧ Keep [b] w w' := by
  have hb := hr.blt
  have k0 := Keep.alloc1 w (.cells #[.int .i64 0, .bool false, .int .i64 0, .float .f32 0, .string ⟨#[]⟩, .slice none 0 0] 31)
  have hB := rByte_any b 0 l 0 rb _ (hr.keep k0 (by simp) (fun _ _ => by simp))
  rw [hk] at hB
  simp only [] at hB
  have t1 : ((n : Int) == 1) = false := beq_eq_false_iff_ne.2 (by omega)
  have t2 : ((n : Int) == 2) = false := beq_eq_false_iff_ne.2 (by omega)
  have t3 : ((n : Int) == 3) = false := beq_eq_false_iff_ne.2 (by omega)
  have t4 : ((n : Int) == 4) = false := beq_eq_false_iff_ne.2 (by omega)
  have t5 : ((n : Int) == 5) = false := beq_eq_false_iff_ne.2 (by omega)
  have hni : (n : Int) < 256 := by omega
  clear hn hn2
  have HB : Hid (b < w.heap.size) := hb
  have hsf := store_f32
  simp only [Go.stored] at hsf
  clear hk hr hb
  go_enter Tryz.func30, Tryz.ntmps30
  go_wp2_with fail
  refine hB.mono ?_
  rintro e9 w1 ⟨rfl, r1, k1⟩
  have hz : w.heap.size < w1.heap.size := by have := k1.size; simp at this; omega
  have KX : Keep [b] (w.alloc (.cells #[.int .i64 0, .bool false, .int .i64 0, .float .f32 0, .string ⟨#[]⟩, .slice none 0 0] 31)) (w1.alloc (.cells #[.int .i64 (n : Int), .bool false, .int .i64 0, .float .f32 0, .string ⟨#[]⟩, .slice none 0 0] 31)) := k1.alloc _
  obtain ⟨⟨d0, d1, d2, d3, d4, d5⟩, hf0⟩ := six_cells KX (by have := HB.out; simp; omega)
  have g0 := hf0 0
  have g1 := hf0 1
  have g2 := hf0 2
  have g3 := hf0 3
  have g4 := hf0 4
  have g5 := hf0 5
  have HK2 : Hid (Keep [b] w (w1.alloc (.cells #[.int .i64 (n : Int), .bool false, .int .i64 0, .float .f32 0, .string ⟨#[]⟩, .slice none 0 0] 31))) := ((Keep.alloc1 w _).mono (fun _ h => by cases h)).trans' KX
  clear k1 hB KX k0 hf0 r1
  have HZ : Hid (w.heap.size < w1.heap.size) := hz
  clear hz
  obtain ⟨q0, HQ0⟩ : ∃ q, Hid (q = w.heap.size) := ⟨_, rfl⟩
  have e0 := HQ0.out
  rw [← e0] at d0 d1 d2 d3 d4 d5 g0 g1 g2 g3 g4 g5 ⊢
  clear e0
  go_wp2
  have hW := six_set (w := (w1.alloc (.cells #[.int .i64 (n : Int), .bool false, .int .i64 0, .float .f32 0, .string ⟨#[]⟩, .slice none 0 0] 31))) (b := q0) (v0 := .int .i64 (n : Int)) (v1 := .bool false) (v2 := .int .i64 0) (v3 := .float .f32 0) (v4 := .string ⟨#[]⟩) (v5 := .slice none 0 0) d0 d1 d2 d3 d4 d5
  have KS : Keep [q0] (w1.alloc (.cells #[.int .i64 (n : Int), .bool false, .int .i64 0, .float .f32 0, .string ⟨#[]⟩, .slice none 0 0] 31)) (((((((w1.alloc (.cells #[.int .i64 (n : Int), .bool false, .int .i64 0, .float .f32 0, .string ⟨#[]⟩, .slice none 0 0] 31)).setCell ⟨q0, 0, none⟩ (.int .i64 (n : Int))).setCell ⟨q0, 1, none⟩ (.bool false)).setCell ⟨q0, 2, none⟩ (.int .i64 0)).setCell ⟨q0, 3, none⟩ (.float .f32 0)).setCell ⟨q0, 4, none⟩ (.string ⟨#[]⟩)).setCell ⟨q0, 5, none⟩ (.slice none 0 0)) := (((((((Keep.refl [q0] (w1.alloc (.cells #[.int .i64 (n : Int), .bool false, .int .i64 0, .float .f32 0, .string ⟨#[]⟩, .slice none 0 0] 31))).setCell (p := ⟨q0, 0, none⟩) (.inl (by simp)) _).setCell (p := ⟨q0, 1, none⟩) (.inl (by simp)) _).setCell (p := ⟨q0, 2, none⟩) (.inl (by simp)) _).setCell (p := ⟨q0, 3, none⟩) (.inl (by simp)) _).setCell (p := ⟨q0, 4, none⟩) (.inl (by simp)) _).setCell (p := ⟨q0, 5, none⟩) (.inl (by simp)) _)
  generalize (((((((w1.alloc (.cells #[.int .i64 (n : Int), .bool false, .int .i64 0, .float .f32 0, .string ⟨#[]⟩, .slice none 0 0] 31)).setCell ⟨q0, 0, none⟩ (.int .i64 (n : Int))).setCell ⟨q0, 1, none⟩ (.bool false)).setCell ⟨q0, 2, none⟩ (.int .i64 0)).setCell ⟨q0, 3, none⟩ (.float .f32 0)).setCell ⟨q0, 4, none⟩ (.string ⟨#[]⟩)).setCell ⟨q0, 5, none⟩ (.slice none 0 0)) = W at hW KS ⊢
  obtain ⟨r0, r1, r2, r3, r4, r5⟩ := hW
  refine bodyPost_ret (v := .agg #[.int .i64 (n : Int), .bool false, .int .i64 0, .float .f32 0, .string ⟨#[]⟩, .slice none 0 0]) (by simp [results, Tryz.results30, go_sem, r0, r1, r2, r3, r4, r5]) rfl ?_
  exact ⟨.slice none 0 0, rfl, Ts.nil _, (fun k h => by simp [Value.ownBlock] at h), HK2.out.more KS (fun x hx => .inr (by have h1 := HQ0.out; simp at hx; omega))⟩

end Go.Proofs.YtncbanpimfhhbaaGreatDoor


/- read: the value that stands there, or any. -/
namespace Go.Proofs.YtncbanpimfhhbaaGreatDoor
open Go.RowKit Go.PlainAid Go.Lib

set_option maxRecDepth 1000000 in
set_option maxHeartbeats 800000 in
theorem read_1 (b : Nat) (rb : Option Nat) (l l1 : List UInt8) (e1 : Int) (w : World) (hr : Rd w b 0 l 0 rb) (hk : rdOf 0 l 0 (byteL l) = (1, l1, e1)) :
    Calls Tryz.prog 30 #[.pointer (some ⟨b, 0, none⟩)] w fun e w' => ∃ u, e = .returned ((⟨1, ((rdOf 0 l1 e1 (byteL l1)).1 : Int) != 0, 0, 0, ⟨#[]⟩, []⟩ : VD).val u) ∧ Ts w' u (⟨1, ((rdOf 0 l1 e1 (byteL l1)).1 : Int) != 0, 0, 0, ⟨#[]⟩, []⟩ : VD).texts ∧ (∀ k, u.ownBlock = some k → w.heap.size ≤ k) ∧ Keep [b] w w' := by
  obtain ⟨y, hy⟩ : ∃ y, y = (rdOf 0 l1 e1 (byteL l1)).1 := ⟨_, rfl⟩
  rw [← hy]
  have hb := hr.blt
  have k0 := Keep.alloc1 w (.cells #[.int .i64 0, .bool false, .int .i64 0, .float .f32 0, .string ⟨#[]⟩, .slice none 0 0] 31)
  have hB := rByte_any b 0 l 0 rb _ (hr.keep k0 (by simp) (fun _ _ => by simp))
  rw [hk] at hB
  simp only [] at hB
  rw [show ((1 : Nat) : Int) = 1 from rfl] at hB
  have HB : Hid (b < w.heap.size) := hb
  have hsf := store_f32
  simp only [Go.stored] at hsf
  clear hk hr hb
  go_enter Tryz.func30, Tryz.ntmps30
  go_wp2_with fail
  refine hB.mono ?_
  rintro e9 w1 ⟨rfl, r1, k1⟩
  have hz : w.heap.size < w1.heap.size := by have := k1.size; simp at this; omega
  have KX : Keep [b] (w.alloc (.cells #[.int .i64 0, .bool false, .int .i64 0, .float .f32 0, .string ⟨#[]⟩, .slice none 0 0] 31)) (w1.alloc (.cells #[.int .i64 1, .bool false, .int .i64 0, .float .f32 0, .string ⟨#[]⟩, .slice none 0 0] 31)) := k1.alloc _
  have hC := rByte_any b 0 l1 e1 rb _ (r1.keep (Keep.alloc1 w1 (.cells #[.int .i64 1, .bool false, .int .i64 0, .float .f32 0, .string ⟨#[]⟩, .slice none 0 0] 31)) (by simp) (fun _ _ => by simp))
  rw [← hy] at hC
  clear hy
  have HKX : Hid _ := KX
  have HZ : Hid (w.heap.size < w1.heap.size) := hz
  clear r1 k1 hB KX k0 hz
  go_wp2_with fail
  refine hC.mono ?_
  rintro e9 w2 ⟨rfl, _, k2⟩
  obtain ⟨⟨c0, c1, c2, c3, c4, c5⟩, hf3⟩ := six_cells k2 (by have := HB.out; have := HZ.out; simp; omega)
  obtain ⟨⟨d0, d1, d2, d3, d4, d5⟩, hf0⟩ := six_cells (HKX.out.trans' k2) (by have := HB.out; simp; omega)
  have f3 := hf3 1
  have g0 := hf0 0
  have g1 := hf0 1
  have g2 := hf0 2
  have g3 := hf0 3
  have g4 := hf0 4
  have g5 := hf0 5
  have HK2 : Hid (Keep [b] w w2) := ((Keep.alloc1 w _).mono (fun _ h => by cases h)).trans' (HKX.out.trans' k2)
  clear k2 hC hf0 hf3 HKX
  obtain ⟨q0, HQ0⟩ : ∃ q, Hid (q = w.heap.size) := ⟨_, rfl⟩
  obtain ⟨q3, HQ3⟩ : ∃ q, Hid (q = w1.heap.size) := ⟨_, rfl⟩
  have e0 := HQ0.out
  have e3 := HQ3.out
  rw [← e3] at c0 c1 c2 c3 c4 c5 f3 ⊢
  rw [← e0] at d0 d1 d2 d3 d4 d5 g0 g1 g2 g3 g4 g5 ⊢
  clear e0 e3
  have hn1 : ¬ q0 = q3 := by have h1 := HQ0.out; have h2 := HQ3.out; have := HZ.out; omega
  have hn2 : ¬ q3 = q0 := fun h => hn1 h.symm
  go_wp2
  have hne : q0 < q3 := by rw [HQ0.out, HQ3.out]; exact HZ.out
  have hW := six_set (w := w2.setCell ⟨q3, 1, none⟩ (.bool ((y : Int) != 0))) (b := q0) (v0 := .int .i64 1) (v1 := .bool ((y : Int) != 0)) (v2 := .int .i64 0) (v3 := .float .f32 0) (v4 := .string ⟨#[]⟩) (v5 := .slice none 0 0)
    (by rw [World.cell?_setCell_other _ _ _ _ (by simp <;> omega)]; exact d0) (by rw [World.cell?_setCell_other _ _ _ _ (by simp <;> omega)]; exact d1) (by rw [World.cell?_setCell_other _ _ _ _ (by simp <;> omega)]; exact d2) (by rw [World.cell?_setCell_other _ _ _ _ (by simp <;> omega)]; exact d3) (by rw [World.cell?_setCell_other _ _ _ _ (by simp <;> omega)]; exact d4) (by rw [World.cell?_setCell_other _ _ _ _ (by simp <;> omega)]; exact d5)
  have KS : Keep [q0, q3] w2 (((((((w2.setCell ⟨q3, 1, none⟩ (.bool ((y : Int) != 0))).setCell ⟨q0, 0, none⟩ (.int .i64 1)).setCell ⟨q0, 1, none⟩ (.bool ((y : Int) != 0))).setCell ⟨q0, 2, none⟩ (.int .i64 0)).setCell ⟨q0, 3, none⟩ (.float .f32 0)).setCell ⟨q0, 4, none⟩ (.string ⟨#[]⟩)).setCell ⟨q0, 5, none⟩ (.slice none 0 0)) := ((((((((Keep.refl [q0, q3] w2).setCell (p := ⟨q3, 1, none⟩) (.inl (by simp)) _).setCell (p := ⟨q0, 0, none⟩) (.inl (by simp)) _).setCell (p := ⟨q0, 1, none⟩) (.inl (by simp)) _).setCell (p := ⟨q0, 2, none⟩) (.inl (by simp)) _).setCell (p := ⟨q0, 3, none⟩) (.inl (by simp)) _).setCell (p := ⟨q0, 4, none⟩) (.inl (by simp)) _).setCell (p := ⟨q0, 5, none⟩) (.inl (by simp)) _)
  generalize (((((((w2.setCell ⟨q3, 1, none⟩ (.bool ((y : Int) != 0))).setCell ⟨q0, 0, none⟩ (.int .i64 1)).setCell ⟨q0, 1, none⟩ (.bool ((y : Int) != 0))).setCell ⟨q0, 2, none⟩ (.int .i64 0)).setCell ⟨q0, 3, none⟩ (.float .f32 0)).setCell ⟨q0, 4, none⟩ (.string ⟨#[]⟩)).setCell ⟨q0, 5, none⟩ (.slice none 0 0)) = W at hW KS ⊢
  obtain ⟨r0, r1, r2, r3, r4, r5⟩ := hW
  refine bodyPost_ret (v := .agg #[.int .i64 1, .bool ((y : Int) != 0), .int .i64 0, .float .f32 0, .string ⟨#[]⟩, .slice none 0 0]) (by simp [results, Tryz.results30, go_sem, r0, r1, r2, r3, r4, r5]) rfl ?_
  have hkp : Keep [b] w W := HK2.out.more KS (fun x hx => .inr (by have h1 := HQ0.out; have h2 := HQ3.out; have := HZ.out; simp at hx; omega))
  exact ⟨.slice none 0 0, rfl, Ts.nil _, (fun k h => by simp [Value.ownBlock] at h), hkp⟩

end Go.Proofs.YtncbanpimfhhbaaGreatDoor


/- read: the value that stands there, or any. -/
namespace Go.Proofs.YtncbanpimfhhbaaGreatDoor
open Go.RowKit Go.PlainAid Go.Lib

set_option maxRecDepth 1000000 in
set_option maxHeartbeats 800000 in
theorem read_2 (b : Nat) (rb : Option Nat) (l l1 : List UInt8) (e1 : Int) (w : World) (hr : Rd w b 0 l 0 rb) (hk : rdOf 0 l 0 (byteL l) = (2, l1, e1)) :
    Calls Tryz.prog 30 #[.pointer (some ⟨b, 0, none⟩)] w fun e w' => ∃ u, e = .returned ((⟨2, false, (rdOf 0 l1 e1 (turnL l1)).1, 0, ⟨#[]⟩, []⟩ : VD).val u) ∧ Ts w' u (⟨2, false, (rdOf 0 l1 e1 (turnL l1)).1, 0, ⟨#[]⟩, []⟩ : VD).texts ∧ (∀ k, u.ownBlock = some k → w.heap.size ≤ k) ∧ Keep [b] w w' := by
  obtain ⟨y, hy⟩ : ∃ y, y = (rdOf 0 l1 e1 (turnL l1)).1 := ⟨_, rfl⟩
  rw [← hy]
  have hb := hr.blt
  have k0 := Keep.alloc1 w (.cells #[.int .i64 0, .bool false, .int .i64 0, .float .f32 0, .string ⟨#[]⟩, .slice none 0 0] 31)
  have hB := rByte_any b 0 l 0 rb _ (hr.keep k0 (by simp) (fun _ _ => by simp))
  rw [hk] at hB
  simp only [] at hB
  rw [show ((2 : Nat) : Int) = 2 from rfl] at hB
  have HB : Hid (b < w.heap.size) := hb
  have hsf := store_f32
  simp only [Go.stored] at hsf
  clear hk hr hb
  go_enter Tryz.func30, Tryz.ntmps30
  go_wp2_with fail
  refine hB.mono ?_
  rintro e9 w1 ⟨rfl, r1, k1⟩
  have hz : w.heap.size < w1.heap.size := by have := k1.size; simp at this; omega
  have KX : Keep [b] (w.alloc (.cells #[.int .i64 0, .bool false, .int .i64 0, .float .f32 0, .string ⟨#[]⟩, .slice none 0 0] 31)) (w1.alloc (.cells #[.int .i64 2, .bool false, .int .i64 0, .float .f32 0, .string ⟨#[]⟩, .slice none 0 0] 31)) := k1.alloc _
  have hC := rInt_any b 0 l1 e1 rb _ (r1.keep (Keep.alloc1 w1 (.cells #[.int .i64 2, .bool false, .int .i64 0, .float .f32 0, .string ⟨#[]⟩, .slice none 0 0] 31)) (by simp) (fun _ _ => by simp))
  rw [← hy] at hC
  clear hy
  have HKX : Hid _ := KX
  have HZ : Hid (w.heap.size < w1.heap.size) := hz
  clear r1 k1 hB KX k0 hz
  go_wp2_with fail
  refine hC.mono ?_
  rintro e9 w2 ⟨rfl, _, k2⟩
  obtain ⟨⟨c0, c1, c2, c3, c4, c5⟩, hf3⟩ := six_cells k2 (by have := HB.out; have := HZ.out; simp; omega)
  obtain ⟨⟨d0, d1, d2, d3, d4, d5⟩, hf0⟩ := six_cells (HKX.out.trans' k2) (by have := HB.out; simp; omega)
  have f3 := hf3 2
  have g0 := hf0 0
  have g1 := hf0 1
  have g2 := hf0 2
  have g3 := hf0 3
  have g4 := hf0 4
  have g5 := hf0 5
  have HK2 : Hid (Keep [b] w w2) := ((Keep.alloc1 w _).mono (fun _ h => by cases h)).trans' (HKX.out.trans' k2)
  clear k2 hC hf0 hf3 HKX
  obtain ⟨q0, HQ0⟩ : ∃ q, Hid (q = w.heap.size) := ⟨_, rfl⟩
  obtain ⟨q3, HQ3⟩ : ∃ q, Hid (q = w1.heap.size) := ⟨_, rfl⟩
  have e0 := HQ0.out
  have e3 := HQ3.out
  rw [← e3] at c0 c1 c2 c3 c4 c5 f3 ⊢
  rw [← e0] at d0 d1 d2 d3 d4 d5 g0 g1 g2 g3 g4 g5 ⊢
  clear e0 e3
  have hn1 : ¬ q0 = q3 := by have h1 := HQ0.out; have h2 := HQ3.out; have := HZ.out; omega
  have hn2 : ¬ q3 = q0 := fun h => hn1 h.symm
  go_wp2
  have hne : q0 < q3 := by rw [HQ0.out, HQ3.out]; exact HZ.out
  have hW := six_set (w := w2.setCell ⟨q3, 2, none⟩ (.int .i64 y)) (b := q0) (v0 := .int .i64 2) (v1 := .bool false) (v2 := .int .i64 y) (v3 := .float .f32 0) (v4 := .string ⟨#[]⟩) (v5 := .slice none 0 0)
    (by rw [World.cell?_setCell_other _ _ _ _ (by simp <;> omega)]; exact d0) (by rw [World.cell?_setCell_other _ _ _ _ (by simp <;> omega)]; exact d1) (by rw [World.cell?_setCell_other _ _ _ _ (by simp <;> omega)]; exact d2) (by rw [World.cell?_setCell_other _ _ _ _ (by simp <;> omega)]; exact d3) (by rw [World.cell?_setCell_other _ _ _ _ (by simp <;> omega)]; exact d4) (by rw [World.cell?_setCell_other _ _ _ _ (by simp <;> omega)]; exact d5)
  have KS : Keep [q0, q3] w2 (((((((w2.setCell ⟨q3, 2, none⟩ (.int .i64 y)).setCell ⟨q0, 0, none⟩ (.int .i64 2)).setCell ⟨q0, 1, none⟩ (.bool false)).setCell ⟨q0, 2, none⟩ (.int .i64 y)).setCell ⟨q0, 3, none⟩ (.float .f32 0)).setCell ⟨q0, 4, none⟩ (.string ⟨#[]⟩)).setCell ⟨q0, 5, none⟩ (.slice none 0 0)) := ((((((((Keep.refl [q0, q3] w2).setCell (p := ⟨q3, 2, none⟩) (.inl (by simp)) _).setCell (p := ⟨q0, 0, none⟩) (.inl (by simp)) _).setCell (p := ⟨q0, 1, none⟩) (.inl (by simp)) _).setCell (p := ⟨q0, 2, none⟩) (.inl (by simp)) _).setCell (p := ⟨q0, 3, none⟩) (.inl (by simp)) _).setCell (p := ⟨q0, 4, none⟩) (.inl (by simp)) _).setCell (p := ⟨q0, 5, none⟩) (.inl (by simp)) _)
  generalize (((((((w2.setCell ⟨q3, 2, none⟩ (.int .i64 y)).setCell ⟨q0, 0, none⟩ (.int .i64 2)).setCell ⟨q0, 1, none⟩ (.bool false)).setCell ⟨q0, 2, none⟩ (.int .i64 y)).setCell ⟨q0, 3, none⟩ (.float .f32 0)).setCell ⟨q0, 4, none⟩ (.string ⟨#[]⟩)).setCell ⟨q0, 5, none⟩ (.slice none 0 0)) = W at hW KS ⊢
  obtain ⟨r0, r1, r2, r3, r4, r5⟩ := hW
  refine bodyPost_ret (v := .agg #[.int .i64 2, .bool false, .int .i64 y, .float .f32 0, .string ⟨#[]⟩, .slice none 0 0]) (by simp [results, Tryz.results30, go_sem, r0, r1, r2, r3, r4, r5]) rfl ?_
  have hkp : Keep [b] w W := HK2.out.more KS (fun x hx => .inr (by have h1 := HQ0.out; have h2 := HQ3.out; have := HZ.out; simp at hx; omega))
  exact ⟨.slice none 0 0, rfl, Ts.nil _, (fun k h => by simp [Value.ownBlock] at h), hkp⟩

end Go.Proofs.YtncbanpimfhhbaaGreatDoor


/- read: the value that stands there, or any. -/
namespace Go.Proofs.YtncbanpimfhhbaaGreatDoor
open Go.RowKit Go.PlainAid Go.Lib

set_option maxRecDepth 1000000 in
set_option maxHeartbeats 800000 in
theorem read_3 (b : Nat) (rb : Option Nat) (l l1 : List UInt8) (e1 : Int) (w : World) (hr : Rd w b 0 l 0 rb) (hk : rdOf 0 l 0 (byteL l) = (3, l1, e1)) :
    Calls Tryz.prog 30 #[.pointer (some ⟨b, 0, none⟩)] w fun e w' => ∃ u, e = .returned ((⟨3, false, 0, (rdOf 0 l1 e1 (realL l1)).1, ⟨#[]⟩, []⟩ : VD).val u) ∧ Ts w' u (⟨3, false, 0, (rdOf 0 l1 e1 (realL l1)).1, ⟨#[]⟩, []⟩ : VD).texts ∧ (∀ k, u.ownBlock = some k → w.heap.size ≤ k) ∧ Keep [b] w w' := by
  obtain ⟨y, hy⟩ : ∃ y, y = (rdOf 0 l1 e1 (realL l1)).1 := ⟨_, rfl⟩
  rw [← hy]
  have hb := hr.blt
  have k0 := Keep.alloc1 w (.cells #[.int .i64 0, .bool false, .int .i64 0, .float .f32 0, .string ⟨#[]⟩, .slice none 0 0] 31)
  have hB := rByte_any b 0 l 0 rb _ (hr.keep k0 (by simp) (fun _ _ => by simp))
  rw [hk] at hB
  simp only [] at hB
  rw [show ((3 : Nat) : Int) = 3 from rfl] at hB
  have HB : Hid (b < w.heap.size) := hb
  have hsf := store_f32
  simp only [Go.stored] at hsf
  clear hk hr hb
  go_enter Tryz.func30, Tryz.ntmps30
  go_wp2_with fail
  refine hB.mono ?_
  rintro e9 w1 ⟨rfl, r1, k1⟩
  have hz : w.heap.size < w1.heap.size := by have := k1.size; simp at this; omega
  have KX : Keep [b] (w.alloc (.cells #[.int .i64 0, .bool false, .int .i64 0, .float .f32 0, .string ⟨#[]⟩, .slice none 0 0] 31)) (w1.alloc (.cells #[.int .i64 3, .bool false, .int .i64 0, .float .f32 0, .string ⟨#[]⟩, .slice none 0 0] 31)) := k1.alloc _
  have hC := rReal_any b 0 l1 e1 rb _ (r1.keep (Keep.alloc1 w1 (.cells #[.int .i64 3, .bool false, .int .i64 0, .float .f32 0, .string ⟨#[]⟩, .slice none 0 0] 31)) (by simp) (fun _ _ => by simp))
  rw [← hy] at hC
  clear hy
  have HKX : Hid _ := KX
  have HZ : Hid (w.heap.size < w1.heap.size) := hz
  clear r1 k1 hB KX k0 hz
  go_wp2_with fail
  refine hC.mono ?_
  rintro e9 w2 ⟨rfl, _, k2⟩
  obtain ⟨⟨c0, c1, c2, c3, c4, c5⟩, hf3⟩ := six_cells k2 (by have := HB.out; have := HZ.out; simp; omega)
  obtain ⟨⟨d0, d1, d2, d3, d4, d5⟩, hf0⟩ := six_cells (HKX.out.trans' k2) (by have := HB.out; simp; omega)
  have f3 := hf3 3
  have g0 := hf0 0
  have g1 := hf0 1
  have g2 := hf0 2
  have g3 := hf0 3
  have g4 := hf0 4
  have g5 := hf0 5
  have HK2 : Hid (Keep [b] w w2) := ((Keep.alloc1 w _).mono (fun _ h => by cases h)).trans' (HKX.out.trans' k2)
  clear k2 hC hf0 hf3 HKX
  obtain ⟨q0, HQ0⟩ : ∃ q, Hid (q = w.heap.size) := ⟨_, rfl⟩
  obtain ⟨q3, HQ3⟩ : ∃ q, Hid (q = w1.heap.size) := ⟨_, rfl⟩
  have e0 := HQ0.out
  have e3 := HQ3.out
  rw [← e3] at c0 c1 c2 c3 c4 c5 f3 ⊢
  rw [← e0] at d0 d1 d2 d3 d4 d5 g0 g1 g2 g3 g4 g5 ⊢
  clear e0 e3
  have hn1 : ¬ q0 = q3 := by have h1 := HQ0.out; have h2 := HQ3.out; have := HZ.out; omega
  have hn2 : ¬ q3 = q0 := fun h => hn1 h.symm
  go_wp2
  have hne : q0 < q3 := by rw [HQ0.out, HQ3.out]; exact HZ.out
  have hW := six_set (w := w2.setCell ⟨q3, 3, none⟩ (.float .f32 y)) (b := q0) (v0 := .int .i64 3) (v1 := .bool false) (v2 := .int .i64 0) (v3 := .float .f32 y) (v4 := .string ⟨#[]⟩) (v5 := .slice none 0 0)
    (by rw [World.cell?_setCell_other _ _ _ _ (by simp <;> omega)]; exact d0) (by rw [World.cell?_setCell_other _ _ _ _ (by simp <;> omega)]; exact d1) (by rw [World.cell?_setCell_other _ _ _ _ (by simp <;> omega)]; exact d2) (by rw [World.cell?_setCell_other _ _ _ _ (by simp <;> omega)]; exact d3) (by rw [World.cell?_setCell_other _ _ _ _ (by simp <;> omega)]; exact d4) (by rw [World.cell?_setCell_other _ _ _ _ (by simp <;> omega)]; exact d5)
  have KS : Keep [q0, q3] w2 (((((((w2.setCell ⟨q3, 3, none⟩ (.float .f32 y)).setCell ⟨q0, 0, none⟩ (.int .i64 3)).setCell ⟨q0, 1, none⟩ (.bool false)).setCell ⟨q0, 2, none⟩ (.int .i64 0)).setCell ⟨q0, 3, none⟩ (.float .f32 y)).setCell ⟨q0, 4, none⟩ (.string ⟨#[]⟩)).setCell ⟨q0, 5, none⟩ (.slice none 0 0)) := ((((((((Keep.refl [q0, q3] w2).setCell (p := ⟨q3, 3, none⟩) (.inl (by simp)) _).setCell (p := ⟨q0, 0, none⟩) (.inl (by simp)) _).setCell (p := ⟨q0, 1, none⟩) (.inl (by simp)) _).setCell (p := ⟨q0, 2, none⟩) (.inl (by simp)) _).setCell (p := ⟨q0, 3, none⟩) (.inl (by simp)) _).setCell (p := ⟨q0, 4, none⟩) (.inl (by simp)) _).setCell (p := ⟨q0, 5, none⟩) (.inl (by simp)) _)
  generalize (((((((w2.setCell ⟨q3, 3, none⟩ (.float .f32 y)).setCell ⟨q0, 0, none⟩ (.int .i64 3)).setCell ⟨q0, 1, none⟩ (.bool false)).setCell ⟨q0, 2, none⟩ (.int .i64 0)).setCell ⟨q0, 3, none⟩ (.float .f32 y)).setCell ⟨q0, 4, none⟩ (.string ⟨#[]⟩)).setCell ⟨q0, 5, none⟩ (.slice none 0 0)) = W at hW KS ⊢
  obtain ⟨r0, r1, r2, r3, r4, r5⟩ := hW
  refine bodyPost_ret (v := .agg #[.int .i64 3, .bool false, .int .i64 0, .float .f32 y, .string ⟨#[]⟩, .slice none 0 0]) (by simp [results, Tryz.results30, go_sem, r0, r1, r2, r3, r4, r5]) rfl ?_
  have hkp : Keep [b] w W := HK2.out.more KS (fun x hx => .inr (by have h1 := HQ0.out; have h2 := HQ3.out; have := HZ.out; simp at hx; omega))
  exact ⟨.slice none 0 0, rfl, Ts.nil _, (fun k h => by simp [Value.ownBlock] at h), hkp⟩

end Go.Proofs.YtncbanpimfhhbaaGreatDoor


/- read: the value that stands there, or any. -/
namespace Go.Proofs.YtncbanpimfhhbaaGreatDoor
open Go.RowKit Go.PlainAid Go.Lib

set_option maxRecDepth 1000000 in
set_option maxHeartbeats 800000 in
theorem read_4 (b : Nat) (rb : Option Nat) (l l1 : List UInt8) (e1 : Int) (w : World) (hr : Rd w b 0 l 0 rb) (hk : rdOf 0 l 0 (byteL l) = (4, l1, e1)) :
    Calls Tryz.prog 30 #[.pointer (some ⟨b, 0, none⟩)] w fun e w' => ∃ u, e = .returned ((⟨4, false, 0, 0, ⟨(rdOf [] l1 e1 (textL l1 256)).1.toArray⟩, []⟩ : VD).val u) ∧ Ts w' u (⟨4, false, 0, 0, ⟨(rdOf [] l1 e1 (textL l1 256)).1.toArray⟩, []⟩ : VD).texts ∧ (∀ k, u.ownBlock = some k → w.heap.size ≤ k) ∧ Keep [b] w w' := by
  obtain ⟨y, hy⟩ : ∃ y, y = (⟨(rdOf [] l1 e1 (textL l1 256)).1.toArray⟩ : ByteArray) := ⟨_, rfl⟩
  rw [← hy]
  have hb := hr.blt
  have k0 := Keep.alloc1 w (.cells #[.int .i64 0, .bool false, .int .i64 0, .float .f32 0, .string ⟨#[]⟩, .slice none 0 0] 31)
  have hB := rByte_any b 0 l 0 rb _ (hr.keep k0 (by simp) (fun _ _ => by simp))
  rw [hk] at hB
  simp only [] at hB
  rw [show ((4 : Nat) : Int) = 4 from rfl] at hB
  have HB : Hid (b < w.heap.size) := hb
  have hsf := store_f32
  simp only [Go.stored] at hsf
  clear hk hr hb
  go_enter Tryz.func30, Tryz.ntmps30
  go_wp2_with fail
  refine hB.mono ?_
  rintro e9 w1 ⟨rfl, r1, k1⟩
  have hz : w.heap.size < w1.heap.size := by have := k1.size; simp at this; omega
  have KX : Keep [b] (w.alloc (.cells #[.int .i64 0, .bool false, .int .i64 0, .float .f32 0, .string ⟨#[]⟩, .slice none 0 0] 31)) (w1.alloc (.cells #[.int .i64 4, .bool false, .int .i64 0, .float .f32 0, .string ⟨#[]⟩, .slice none 0 0] 31)) := k1.alloc _
  have hC := rText_any b 0 l1 e1 rb 256 (by omega) _ (r1.keep (Keep.alloc1 w1 (.cells #[.int .i64 4, .bool false, .int .i64 0, .float .f32 0, .string ⟨#[]⟩, .slice none 0 0] 31)) (by simp) (fun _ _ => by simp))
  rw [← hy] at hC
  clear hy
  have HKX : Hid _ := KX
  have HZ : Hid (w.heap.size < w1.heap.size) := hz
  clear r1 k1 hB KX k0 hz
  go_wp2_with fail
  refine hC.mono ?_
  rintro e9 w2 ⟨rfl, _, k2⟩
  obtain ⟨⟨c0, c1, c2, c3, c4, c5⟩, hf3⟩ := six_cells k2 (by have := HB.out; have := HZ.out; simp; omega)
  obtain ⟨⟨d0, d1, d2, d3, d4, d5⟩, hf0⟩ := six_cells (HKX.out.trans' k2) (by have := HB.out; simp; omega)
  have f3 := hf3 4
  have g0 := hf0 0
  have g1 := hf0 1
  have g2 := hf0 2
  have g3 := hf0 3
  have g4 := hf0 4
  have g5 := hf0 5
  have HK2 : Hid (Keep [b] w w2) := ((Keep.alloc1 w _).mono (fun _ h => by cases h)).trans' (HKX.out.trans' k2)
  clear k2 hC hf0 hf3 HKX
  obtain ⟨q0, HQ0⟩ : ∃ q, Hid (q = w.heap.size) := ⟨_, rfl⟩
  obtain ⟨q3, HQ3⟩ : ∃ q, Hid (q = w1.heap.size) := ⟨_, rfl⟩
  have e0 := HQ0.out
  have e3 := HQ3.out
  rw [← e3] at c0 c1 c2 c3 c4 c5 f3 ⊢
  rw [← e0] at d0 d1 d2 d3 d4 d5 g0 g1 g2 g3 g4 g5 ⊢
  clear e0 e3
  have hn1 : ¬ q0 = q3 := by have h1 := HQ0.out; have h2 := HQ3.out; have := HZ.out; omega
  have hn2 : ¬ q3 = q0 := fun h => hn1 h.symm
  go_wp2
  have hne : q0 < q3 := by rw [HQ0.out, HQ3.out]; exact HZ.out
  have hW := six_set (w := w2.setCell ⟨q3, 4, none⟩ (.string y)) (b := q0) (v0 := .int .i64 4) (v1 := .bool false) (v2 := .int .i64 0) (v3 := .float .f32 0) (v4 := .string y) (v5 := .slice none 0 0)
    (by rw [World.cell?_setCell_other _ _ _ _ (by simp <;> omega)]; exact d0) (by rw [World.cell?_setCell_other _ _ _ _ (by simp <;> omega)]; exact d1) (by rw [World.cell?_setCell_other _ _ _ _ (by simp <;> omega)]; exact d2) (by rw [World.cell?_setCell_other _ _ _ _ (by simp <;> omega)]; exact d3) (by rw [World.cell?_setCell_other _ _ _ _ (by simp <;> omega)]; exact d4) (by rw [World.cell?_setCell_other _ _ _ _ (by simp <;> omega)]; exact d5)
  have KS : Keep [q0, q3] w2 (((((((w2.setCell ⟨q3, 4, none⟩ (.string y)).setCell ⟨q0, 0, none⟩ (.int .i64 4)).setCell ⟨q0, 1, none⟩ (.bool false)).setCell ⟨q0, 2, none⟩ (.int .i64 0)).setCell ⟨q0, 3, none⟩ (.float .f32 0)).setCell ⟨q0, 4, none⟩ (.string y)).setCell ⟨q0, 5, none⟩ (.slice none 0 0)) := ((((((((Keep.refl [q0, q3] w2).setCell (p := ⟨q3, 4, none⟩) (.inl (by simp)) _).setCell (p := ⟨q0, 0, none⟩) (.inl (by simp)) _).setCell (p := ⟨q0, 1, none⟩) (.inl (by simp)) _).setCell (p := ⟨q0, 2, none⟩) (.inl (by simp)) _).setCell (p := ⟨q0, 3, none⟩) (.inl (by simp)) _).setCell (p := ⟨q0, 4, none⟩) (.inl (by simp)) _).setCell (p := ⟨q0, 5, none⟩) (.inl (by simp)) _)
  generalize (((((((w2.setCell ⟨q3, 4, none⟩ (.string y)).setCell ⟨q0, 0, none⟩ (.int .i64 4)).setCell ⟨q0, 1, none⟩ (.bool false)).setCell ⟨q0, 2, none⟩ (.int .i64 0)).setCell ⟨q0, 3, none⟩ (.float .f32 0)).setCell ⟨q0, 4, none⟩ (.string y)).setCell ⟨q0, 5, none⟩ (.slice none 0 0)) = W at hW KS ⊢
  obtain ⟨r0, r1, r2, r3, r4, r5⟩ := hW
  refine bodyPost_ret (v := .agg #[.int .i64 4, .bool false, .int .i64 0, .float .f32 0, .string y, .slice none 0 0]) (by simp [results, Tryz.results30, go_sem, r0, r1, r2, r3, r4, r5]) rfl ?_
  have hkp : Keep [b] w W := HK2.out.more KS (fun x hx => .inr (by have h1 := HQ0.out; have h2 := HQ3.out; have := HZ.out; simp at hx; omega))
  exact ⟨.slice none 0 0, rfl, Ts.nil _, (fun k h => by simp [Value.ownBlock] at h), hkp⟩

end Go.Proofs.YtncbanpimfhhbaaGreatDoor


/- read: the value that stands there, or any. -/
namespace Go.Proofs.YtncbanpimfhhbaaGreatDoor
open Go.RowKit Go.PlainAid Go.Lib

set_option maxRecDepth 1000000 in
set_option maxHeartbeats 800000 in
theorem read_5 (b : Nat) (rb : Option Nat) (l l1 : List UInt8) (e1 : Int) (w : World) (hr : Rd w b 0 l 0 rb) (hk : rdOf 0 l 0 (byteL l) = (5, l1, e1)) :
    Calls Tryz.prog 30 #[.pointer (some ⟨b, 0, none⟩)] w fun e w' => ∃ u, e = .returned ((⟨5, false, 0, 0, ⟨#[]⟩, readL l1 e1⟩ : VD).val u) ∧ Ts w' u (⟨5, false, 0, 0, ⟨#[]⟩, readL l1 e1⟩ : VD).texts ∧ (∀ k, u.ownBlock = some k → w.heap.size ≤ k) ∧ Keep [b] w w' := by
  obtain ⟨y, hy⟩ : ∃ y, y = readL l1 e1 := ⟨_, rfl⟩
  rw [← hy]
  have hb := hr.blt
  have k0 := Keep.alloc1 w (.cells #[.int .i64 0, .bool false, .int .i64 0, .float .f32 0, .string ⟨#[]⟩, .slice none 0 0] 31)
  have hB := rByte_any b 0 l 0 rb _ (hr.keep k0 (by simp) (fun _ _ => by simp))
  rw [hk] at hB
  simp only [] at hB
  rw [show ((5 : Nat) : Int) = 5 from rfl] at hB
  have HB : Hid (b < w.heap.size) := hb
  have hsf := store_f32
  simp only [Go.stored] at hsf
  clear hk hr hb
  go_enter Tryz.func30, Tryz.ntmps30
  go_wp2_with fail
  refine hB.mono ?_
  rintro e9 w1 ⟨rfl, r1, k1⟩
  have hz : w.heap.size < w1.heap.size := by have := k1.size; simp at this; omega
  have KX : Keep [b] (w.alloc (.cells #[.int .i64 0, .bool false, .int .i64 0, .float .f32 0, .string ⟨#[]⟩, .slice none 0 0] 31)) (w1.alloc (.cells #[.int .i64 5, .bool false, .int .i64 0, .float .f32 0, .string ⟨#[]⟩, .slice none 0 0] 31)) := k1.alloc _
  have hC := readTexts_any b 0 l1 e1 rb _ (r1.keep (Keep.alloc1 w1 (.cells #[.int .i64 5, .bool false, .int .i64 0, .float .f32 0, .string ⟨#[]⟩, .slice none 0 0] 31)) (by simp) (fun _ _ => by simp))
  rw [← hy] at hC
  clear hy
  have HKX : Hid _ := KX
  have HZ : Hid (w.heap.size < w1.heap.size) := hz
  clear r1 k1 hB KX k0 hz
  go_wp2_with fail
  refine hC.mono ?_
  rintro e9 w2 ⟨vy, rfl, ⟨ty, sy⟩, k2, oy⟩
  obtain ⟨ay, ny, cy, rfl⟩ := sy
  obtain ⟨⟨c0, c1, c2, c3, c4, c5⟩, hf3⟩ := six_cells k2 (by have := HB.out; have := HZ.out; simp; omega)
  obtain ⟨⟨d0, d1, d2, d3, d4, d5⟩, hf0⟩ := six_cells (HKX.out.trans' k2) (by have := HB.out; simp; omega)
  have f3 := hf3 5
  have g0 := hf0 0
  have g1 := hf0 1
  have g2 := hf0 2
  have g3 := hf0 3
  have g4 := hf0 4
  have g5 := hf0 5
  have HK2 : Hid (Keep [b] w w2) := ((Keep.alloc1 w _).mono (fun _ h => by cases h)).trans' (HKX.out.trans' k2)
  have HTY : Hid (Ts w2 (.slice ay ny cy) y ∧ (∀ k, (Value.slice ay ny cy).ownBlock = some k → (w1.alloc (.cells #[.int .i64 5, .bool false, .int .i64 0, .float .f32 0, .string ⟨#[]⟩, .slice none 0 0] 31)).heap.size ≤ k)) := ⟨ty, oy⟩
  clear ty oy
  clear k2 hC hf0 hf3 HKX
  obtain ⟨q0, HQ0⟩ : ∃ q, Hid (q = w.heap.size) := ⟨_, rfl⟩
  obtain ⟨q3, HQ3⟩ : ∃ q, Hid (q = w1.heap.size) := ⟨_, rfl⟩
  have e0 := HQ0.out
  have e3 := HQ3.out
  rw [← e3] at c0 c1 c2 c3 c4 c5 f3 ⊢
  rw [← e0] at d0 d1 d2 d3 d4 d5 g0 g1 g2 g3 g4 g5 ⊢
  clear e0 e3
  have hn1 : ¬ q0 = q3 := by have h1 := HQ0.out; have h2 := HQ3.out; have := HZ.out; omega
  have hn2 : ¬ q3 = q0 := fun h => hn1 h.symm
  go_wp2
  have hne : q0 < q3 := by rw [HQ0.out, HQ3.out]; exact HZ.out
  have hW := six_set (w := w2.setCell ⟨q3, 5, none⟩ (.slice ay ny cy)) (b := q0) (v0 := .int .i64 5) (v1 := .bool false) (v2 := .int .i64 0) (v3 := .float .f32 0) (v4 := .string ⟨#[]⟩) (v5 := .slice ay ny cy)
    (by rw [World.cell?_setCell_other _ _ _ _ (by simp <;> omega)]; exact d0) (by rw [World.cell?_setCell_other _ _ _ _ (by simp <;> omega)]; exact d1) (by rw [World.cell?_setCell_other _ _ _ _ (by simp <;> omega)]; exact d2) (by rw [World.cell?_setCell_other _ _ _ _ (by simp <;> omega)]; exact d3) (by rw [World.cell?_setCell_other _ _ _ _ (by simp <;> omega)]; exact d4) (by rw [World.cell?_setCell_other _ _ _ _ (by simp <;> omega)]; exact d5)
  have KS : Keep [q0, q3] w2 (((((((w2.setCell ⟨q3, 5, none⟩ (.slice ay ny cy)).setCell ⟨q0, 0, none⟩ (.int .i64 5)).setCell ⟨q0, 1, none⟩ (.bool false)).setCell ⟨q0, 2, none⟩ (.int .i64 0)).setCell ⟨q0, 3, none⟩ (.float .f32 0)).setCell ⟨q0, 4, none⟩ (.string ⟨#[]⟩)).setCell ⟨q0, 5, none⟩ (.slice ay ny cy)) := ((((((((Keep.refl [q0, q3] w2).setCell (p := ⟨q3, 5, none⟩) (.inl (by simp)) _).setCell (p := ⟨q0, 0, none⟩) (.inl (by simp)) _).setCell (p := ⟨q0, 1, none⟩) (.inl (by simp)) _).setCell (p := ⟨q0, 2, none⟩) (.inl (by simp)) _).setCell (p := ⟨q0, 3, none⟩) (.inl (by simp)) _).setCell (p := ⟨q0, 4, none⟩) (.inl (by simp)) _).setCell (p := ⟨q0, 5, none⟩) (.inl (by simp)) _)
  generalize (((((((w2.setCell ⟨q3, 5, none⟩ (.slice ay ny cy)).setCell ⟨q0, 0, none⟩ (.int .i64 5)).setCell ⟨q0, 1, none⟩ (.bool false)).setCell ⟨q0, 2, none⟩ (.int .i64 0)).setCell ⟨q0, 3, none⟩ (.float .f32 0)).setCell ⟨q0, 4, none⟩ (.string ⟨#[]⟩)).setCell ⟨q0, 5, none⟩ (.slice ay ny cy)) = W at hW KS ⊢
  obtain ⟨r0, r1, r2, r3, r4, r5⟩ := hW
  refine bodyPost_ret (v := .agg #[.int .i64 5, .bool false, .int .i64 0, .float .f32 0, .string ⟨#[]⟩, .slice ay ny cy]) (by simp [results, Tryz.results30, go_sem, r0, r1, r2, r3, r4, r5]) rfl ?_
  have hkp : Keep [b] w W := HK2.out.more KS (fun x hx => .inr (by have h1 := HQ0.out; have h2 := HQ3.out; have := HZ.out; simp at hx; omega))
  refine ⟨.slice ay ny cy, rfl, HTY.out.1.keep KS (fun k hk hm => ?_), (fun k hk => by have h1 := HTY.out.2 k hk; have h4 := HZ.out; simp at h1; omega), hkp⟩
  have h1 := HTY.out.2 k hk
  have h2 := HQ0.out
  have h3 := HQ3.out
  have h4 := HZ.out
  simp at h1 hm
  omega

end Go.Proofs.YtncbanpimfhhbaaGreatDoor


/- Decode: the value whose bytes they are, if there is one. -/
namespace Go.Proofs.YtncbanpimfhhbaaGreatDoor
open Go.RowKit Go.PlainAid Go.Lib

/-- what read reads of bytes -/
def readV (l : List UInt8) : VD :=
  let r := rdOf 0 l 0 (byteL l)
  if r.1 = 1 then ⟨1, ((rdOf 0 r.2.1 r.2.2 (byteL r.2.1)).1 : Int) != 0, 0, 0, ⟨#[]⟩, []⟩
  else if r.1 = 2 then ⟨2, false, (rdOf 0 r.2.1 r.2.2 (turnL r.2.1)).1, 0, ⟨#[]⟩, []⟩
  else if r.1 = 3 then ⟨3, false, 0, (rdOf 0 r.2.1 r.2.2 (realL r.2.1)).1, ⟨#[]⟩, []⟩
  else if r.1 = 4 then ⟨4, false, 0, 0, ⟨(rdOf [] r.2.1 r.2.2 (textL r.2.1 256)).1.toArray⟩, []⟩
  else if r.1 = 5 then ⟨5, false, 0, 0, ⟨#[]⟩, readL r.2.1 r.2.2⟩
  else ⟨(r.1 : Int), false, 0, 0, ⟨#[]⟩, []⟩
theorem byteL_lt (l : List UInt8) : (byteL l).1 < 256 := by
  cases l with
  | nil => simp [byteL]
  | cons c r => simp [byteL]; exact c.toNat_lt
theorem rd_byte (l : List UInt8) (e : Int) : (rdOf 0 l e (byteL l)).1 < 256 := by
  unfold rdOf
  split
  · exact byteL_lt l
  · simp
theorem read_any (b : Nat) (rb : Option Nat) (l : List UInt8) (w : World) (hr : Rd w b 0 l 0 rb) :
    Calls Tryz.prog 30 #[.pointer (some ⟨b, 0, none⟩)] w fun e w' => ∃ u, e = .returned ((readV l).val u) ∧ Ts w' u (readV l).texts ∧ (∀ k, u.ownBlock = some k → w.heap.size ≤ k) ∧ Keep [b] w w' := by
  have hlt := rd_byte l 0
  obtain ⟨n, l1, e1, hk⟩ : ∃ n l1 e1, rdOf 0 l 0 (byteL l) = (n, l1, e1) := ⟨_, _, _, rfl⟩
  have hv : readV l = (if n = 1 then ⟨1, ((rdOf 0 l1 e1 (byteL l1)).1 : Int) != 0, 0, 0, ⟨#[]⟩, []⟩
    else if n = 2 then ⟨2, false, (rdOf 0 l1 e1 (turnL l1)).1, 0, ⟨#[]⟩, []⟩
    else if n = 3 then ⟨3, false, 0, (rdOf 0 l1 e1 (realL l1)).1, ⟨#[]⟩, []⟩
    else if n = 4 then ⟨4, false, 0, 0, ⟨(rdOf [] l1 e1 (textL l1 256)).1.toArray⟩, []⟩
    else if n = 5 then ⟨5, false, 0, 0, ⟨#[]⟩, readL l1 e1⟩
    else ⟨(n : Int), false, 0, 0, ⟨#[]⟩, []⟩) := by unfold readV; rw [hk]
  rw [hk] at hlt
  simp only [] at hlt
  rw [hv]
  by_cases h1 : n = 1
  · subst h1; rw [if_pos rfl]; exact read_1 b rb l l1 e1 w hr hk
  rw [if_neg h1]
  by_cases h2 : n = 2
  · subst h2; rw [if_pos rfl]; exact read_2 b rb l l1 e1 w hr hk
  rw [if_neg h2]
  by_cases h3 : n = 3
  · subst h3; rw [if_pos rfl]; exact read_3 b rb l l1 e1 w hr hk
  rw [if_neg h3]
  by_cases h4 : n = 4
  · subst h4; rw [if_pos rfl]; exact read_4 b rb l l1 e1 w hr hk
  rw [if_neg h4]
  by_cases h5 : n = 5
  · subst h5; rw [if_pos rfl]; exact read_5 b rb l l1 e1 w hr hk
  rw [if_neg h5]
  exact read_0 b rb l l1 e1 n (by omega) hlt w hr hk

theorem readV_ok (l : List UInt8) : (readV l).Ok := by
  have hlt := rd_byte l 0
  unfold readV
  generalize rdOf 0 l 0 (byteL l) = r at *
  obtain ⟨n, l1, e1⟩ := r
  simp only [] at hlt ⊢
  have ht := unzig_range (numL l1).1 (numL_lt l1)
  have hr := realL_lt l1
  have hx := rd_short l1 e1
  have hint : -9223372036854775808 ≤ (rdOf 0 l1 e1 (turnL l1)).1 ∧ (rdOf 0 l1 e1 (turnL l1)).1 ≤ 9223372036854775807 := by
    unfold rdOf
    split
    · exact ht
    · exact ⟨by simp, by simp⟩
  have hreal : (rdOf 0 l1 e1 (realL l1)).1 < 4294967296 := by
    unfold rdOf
    split
    · exact hr
    · simp
  have hsz : (⟨(rdOf [] l1 e1 (textL l1 256)).1.toArray⟩ : ByteArray).size ≤ 9223372036854775807 := by
    show (rdOf [] l1 e1 (textL l1 256)).1.toArray.size ≤ _
    simp only [List.size_toArray]
    omega
  have h0 : (⟨#[]⟩ : ByteArray).size ≤ 9223372036854775807 := Nat.zero_le _
  (repeat' split) <;> refine ⟨?_, ?_, ?_, ?_, ?_, ?_⟩ <;> simp only [] <;> first | omega | exact hint.1 | exact hint.2 | exact hreal | exact hsz | exact h0
end Go.Proofs.YtncbanpimfhhbaaGreatDoor


/- Decode: what it says of any bytes. -/
namespace Go.Proofs.YtncbanpimfhhbaaGreatDoor
open Go.RowKit Go.PlainAid Go.Lib

/-- are they the bytes of what is read of them? -/
def isB (x : VD) (l : List UInt8) : Bool := x.mayB && (encL x == l)
abbrev zeroW : Value := .agg #[.int .i64 0, .bool false, .int .i64 0, .float .f32 0, .string ⟨#[]⟩, .slice none 0 0]

set_option maxRecDepth 1000000 in
set_option maxHeartbeats 1600000 in
theorem decode_any (v : Value) (l : List UInt8) (w : World) (hv : Bs w v l) (hln : l.length ≤ 140737488355328) :
    Calls Tryz.prog 15 #[v] w fun e w' => ((isB (readV l) l = true ∧ ∃ u, e = .returned (.tuple #[(readV l).val u, .int .i64 0]) ∧ Ts w' u (readV l).texts) ∨ (isB (readV l) l = false ∧ e = .returned (.tuple #[zeroW, .int .i64 42]))) ∧ Keep [] w w' := by
  have hok := readV_ok l
  have hF := read_any
  have k0 := Keep.alloc1 w (.cells #[.int .i64 0, .bool false, .int .i64 0, .float .f32 0, .string ⟨#[]⟩, .slice none 0 0] 31)
  have hsf := store_f32
  simp only [Go.stored] at hsf
  have HV : Hid (Bs w v l) := hv
  have HOK : Hid (readV l).Ok := hok
  have HF : Hid (∀ (b : Nat) (rb : Option Nat) (w : World), Rd w b 0 l 0 rb → Calls Tryz.prog 30 #[.pointer (some ⟨b, 0, none⟩)] w fun e w' => ∃ u, e = .returned ((readV l).val u) ∧ Ts w' u (readV l).texts ∧ (∀ k, u.ownBlock = some k → w.heap.size ≤ k) ∧ Keep [b] w w') := fun b rb w hr => hF b rb l w hr
  generalize readV l = x at *
  have hR := Read_any v l _ (hv.keep k0 (Off.nil _)) hln
  have HK0 : Hid _ := k0
  clear hok hF hv hln k0
  go_enter Tryz.func15, Tryz.ntmps15
  go_wp2_with fail
  refine hR.mono ?_
  rintro e1 w1 ⟨b, rb, rfl, hR1, hb, hrb, k1⟩
  have hbs : w.heap.size + 1 ≤ b := by simpa using hb
  have HB : Hid (w.heap.size + 1 ≤ b) := hbs
  have HR : Hid (Rd w1 b 0 l 0 rb) := hR1
  have HK1 : Hid (Keep [] (w.alloc (.cells #[.int .i64 0, .bool false, .int .i64 0, .float .f32 0, .string ⟨#[]⟩, .slice none 0 0] 31)) w1) := k1
  clear hR1 hrb k1 hb hR hbs
  go_wp2_with fail
  refine (HF.out b rb w1 HR.out).mono ?_
  rintro e2 w2 ⟨u, rfl, hu, hub, k2⟩
  have HK2 : Hid (Keep [b] (w.alloc (.cells #[.int .i64 0, .bool false, .int .i64 0, .float .f32 0, .string ⟨#[]⟩, .slice none 0 0] 31)) w2) := (HK1.out.mono (fun _ h => by cases h)).trans' k2
  have HU : Hid (Ts w2 u x.texts) := hu
  have HUB : Hid (∀ k, u.ownBlock = some k → w1.heap.size ≤ k) := hub
  have HS1 : Hid (w.heap.size + 1 ≤ w1.heap.size) := by have := HK1.out.size; simp at this; exact this
  obtain ⟨ao, ca, hue, _, _, _, _⟩ := hu.ex
  subst hue
  have hz : w.heap.size < w2.heap.size := by have := HK2.out.size; simp at this; omega
  have HZ : Hid (w.heap.size < w2.heap.size) := hz
  clear k2 HR HK1 hu hz hub
  have HX : Hid (x.Ok) := HOK.out
  by_cases hm : x.mayB = true
  · have hE := fun (W : World) (h : Ts W (.slice ao x.texts.length ca) x.texts) => encode_yes x HX.out hm (.slice ao x.texts.length ca) W h
    have HE : Hid (∀ (W : World) (h : Ts W (.slice ao x.texts.length ca) x.texts), Calls Tryz.prog 32 #[x.val (.slice ao x.texts.length ca)] W fun e w' => ∃ v, e = .returned (.tuple #[v, .int .i64 0]) ∧ (Row w' v (encL x) ∧ Fresh W w' v ∧ Sl v (encL x).length) ∧ Keep [] W w') := hE
    have HM : Hid (x.mayB = true) := hm
    clear hE hm
    go_wp2_with fail
    refine (HE.out _ (HU.out.keep (Keep.alloc1 w2 _) (Off.nil _))).mono ?_
    rintro e3 w3 ⟨v3, rfl, ⟨hr3, hf3, hs3⟩, k3⟩
    have HK3 : Hid (Keep [b] (w.alloc (.cells #[.int .i64 0, .bool false, .int .i64 0, .float .f32 0, .string ⟨#[]⟩, .slice none 0 0] 31)) w3) := (HK2.out.alloc _).trans' (k3.mono (fun _ h => by cases h))
    have HU3 : Hid (Ts w3 (.slice ao x.texts.length ca) x.texts) := (HU.out.keep (Keep.alloc1 w2 _) (Off.nil _)).keep k3 (Off.nil _)
    have hw3 : Keep [] w w3 := HK0.out.trans HK3.out (fun _ h => by cases h) (fun y hy => .inr (by have := HB.out; simp at hy; omega))
    have HW3 : Hid (Keep [] w w3) := hw3
    obtain ⟨⟨c0, c1, c2, c3, c4, c5⟩, hfz⟩ := six_cells HK3.out (by have := HB.out; simp; omega)
    obtain ⟨⟨d0, d1, d2, d3, d4, d5⟩, _⟩ := six_cells k3 (by simp)
    have hq := equal_any v3 v (encL x) l w3 hr3.bs (HV.out.keep hw3 (Off.nil _))
    obtain ⟨a3, ca3, rfl⟩ := hs3
    have f0 := hfz 0
    have f1 := hfz 1
    have f2 := hfz 2
    have f3 := hfz 3
    have f4 := hfz 4
    have f5 := hfz 5
    have hz3 : w.heap.size < w3.heap.size := by have := HK3.out.size; simp at this; omega
    clear k3 hfz HK2 HK3 hr3 hf3 hw3 HE
    have hib : isB x l = (encL x == l) := by unfold isB; rw [HM.out]; simp
    clear HM
    cases hzz : (encL x == l)
    · rw [hzz] at hq hib
      have HIB : Hid (isB x l = false) := hib
      clear hib hzz d0 d1 d2 d3 d4 d5
      go_wp2_with fail
      refine hq.mono ?_
      rintro e4 w4 ⟨rfl, rfl⟩
      clear hq
      go_wp2
      refine bodyPost_ret (v := .tuple #[zeroW, .int .i64 42]) (by simp [results, Tryz.results15, go_sem, c0, c1, c2, c3, c4, c5]) rfl ⟨.inr ⟨HIB.out, rfl⟩, ?_⟩
      exact (((((HW3.out.setCell (.inr (Nat.le_refl _)) _).setCell (.inr (Nat.le_refl _)) _).setCell (.inr (Nat.le_refl _)) _).setCell (.inr (Nat.le_refl _)) _).setCell (.inr (Nat.le_refl _)) _).setCell (.inr (Nat.le_refl _)) _
    · rw [hzz] at hq hib
      have HIB : Hid (isB x l = true) := hib
      clear hib hzz
      go_wp2_with fail
      refine hq.mono ?_
      rintro e4 w4 ⟨rfl, rfl⟩
      clear hq
      go_wp2
      refine bodyPost_ret (v := .tuple #[x.val (.slice ao x.texts.length ca), .int .i64 0]) (by simp [results, Tryz.results15, go_sem, c0, c1, c2, c3, c4, c5]) rfl ⟨.inl ⟨HIB.out, _, rfl, ?_⟩, ?_⟩
      · refine HU3.out.keep (F := [w.heap.size]) ?_ (fun k hk hm => ?_)
        · exact (((((((Keep.refl [w.heap.size] w4).setCell (.inl (by simp)) _).setCell (.inl (by simp)) _).setCell (.inl (by simp)) _).setCell (.inl (by simp)) _).setCell (.inl (by simp)) _).setCell (.inl (by simp)) _)
        · have h1 := HUB.out k hk
          have h2 := HS1.out
          simp at hm
          omega
      exact (((((HW3.out.setCell (.inr (Nat.le_refl _)) _).setCell (.inr (Nat.le_refl _)) _).setCell (.inr (Nat.le_refl _)) _).setCell (.inr (Nat.le_refl _)) _).setCell (.inr (Nat.le_refl _)) _).setCell (.inr (Nat.le_refl _)) _
  · have hm' : x.mayB = false := by simpa using hm
    have hE := fun (W : World) (h : Ts W (.slice ao x.texts.length ca) x.texts) => encode_no x HX.out hm' (.slice ao x.texts.length ca) W h
    have HE : Hid (∀ (W : World) (h : Ts W (.slice ao x.texts.length ca) x.texts), Calls Tryz.prog 32 #[x.val (.slice ao x.texts.length ca)] W fun e w' => e = .returned (.tuple #[.slice none 0 0, .int .i64 40]) ∧ Keep [] W w') := hE
    have hib : isB x l = false := by unfold isB; rw [hm']; simp
    have HIB : Hid (isB x l = false) := hib
    clear hE hm hm' hib
    go_wp2_with fail
    refine (HE.out _ (HU.out.keep (Keep.alloc1 w2 _) (Off.nil _))).mono ?_
    rintro e3 w3 ⟨rfl, k3⟩
    have HK3 : Hid (Keep [b] (w.alloc (.cells #[.int .i64 0, .bool false, .int .i64 0, .float .f32 0, .string ⟨#[]⟩, .slice none 0 0] 31)) w3) := (HK2.out.alloc _).trans' (k3.mono (fun _ h => by cases h))
    obtain ⟨⟨c0, c1, c2, c3, c4, c5⟩, hfz⟩ := six_cells HK3.out (by have := HB.out; simp; omega)
    have f0 := hfz 0
    have f1 := hfz 1
    have f2 := hfz 2
    have f3 := hfz 3
    have f4 := hfz 4
    have f5 := hfz 5
    have hz3 : w.heap.size < w3.heap.size := by have := HK3.out.size; simp at this; omega
    have HK : Hid (Keep [] w w3) := HK0.out.trans HK3.out (fun _ h => by cases h) (fun x hx => .inr (by have := HB.out; simp at hx; omega))
    clear k3 hfz HK2 HK3 HE
    go_wp2
    refine bodyPost_ret (v := .tuple #[zeroW, .int .i64 42]) (by simp [results, Tryz.results15, go_sem, c0, c1, c2, c3, c4, c5]) rfl ⟨.inr ⟨HIB.out, rfl⟩, ?_⟩
    exact (((((HK.out.setCell (.inr (Nat.le_refl _)) _).setCell (.inr (Nat.le_refl _)) _).setCell (.inr (Nat.le_refl _)) _).setCell (.inr (Nat.le_refl _)) _).setCell (.inr (Nat.le_refl _)) _).setCell (.inr (Nat.le_refl _)) _
end Go.Proofs.YtncbanpimfhhbaaGreatDoor

