/- Nothing is no value's bytes. -/
import Derived.Test.YtppimacfeelneaaCmpA
import Derived.Test.YtppimacfeelneaaRMeth
namespace Go.Proofs.Ytppimacfeelneaa
open Go.RowKit Go.PlainAid Go.Lib

abbrev zeroV : Value := .agg #[.int .i64 0, .bool false, .int .i64 0, .float .f32 0, .string ⟨#[]⟩, .slice none 0 0]
def zeroD : VD := ⟨0, false, 0, 0, ⟨#[]⟩, []⟩
theorem zeroD_ok : zeroD.Ok := ⟨by decide, by decide, by decide, by decide, by decide, Nat.zero_le _⟩
theorem zeroD_no : zeroD.mayB = false := by decide

theorem six_cells {F : List Nat} {w w1 : World} {v0 v1 v2 v3 v4 v5 : Value} {t : TypeId} (k : Keep F (w.alloc (.cells #[v0, v1, v2, v3, v4, v5] t)) w1) (hn : w.heap.size ∉ F) :
    (w1.cell? ⟨w.heap.size, 0, none⟩ = some v0 ∧ w1.cell? ⟨w.heap.size, 1, none⟩ = some v1 ∧ w1.cell? ⟨w.heap.size, 2, none⟩ = some v2 ∧ w1.cell? ⟨w.heap.size, 3, none⟩ = some v3 ∧ w1.cell? ⟨w.heap.size, 4, none⟩ = some v4 ∧ w1.cell? ⟨w.heap.size, 5, none⟩ = some v5) ∧ ∀ j, w1.frozen? ⟨w.heap.size, j, none⟩ = false := by
  refine ⟨⟨k.cell' ?_ hn, k.cell' ?_ hn, k.cell' ?_ hn, k.cell' ?_ hn, k.cell' ?_ hn, k.cell' ?_ hn⟩, fun j => ?_⟩
  case refine_7 => rw [k.frozen (by simp) hn]; simp [go_sem]
  all_goals simp [go_sem]

set_option maxRecDepth 100000 in
set_option maxHeartbeats 3200000 in
theorem read_nil (b : Nat) (rb : Option Nat) (w : World) (hr : Rd w b 0 [] 0 rb) :
    Calls Try.prog 27 #[.pointer (some ⟨b, 0, none⟩)] w fun e w' => e = .returned zeroV ∧ Keep [b] w w' := by
  have hb := hr.blt
  have k0 := Keep.alloc1 w (.cells #[.int .i64 0, .bool false, .int .i64 0, .float .f32 0, .string ⟨#[]⟩, .slice none 0 0] 28)
  have hB := rByte_any b 0 [] 0 rb _ (hr.keep k0 (by simp) (fun _ _ => by simp))
  rw [show (rdOf 0 [] 0 (byteL [])).1 = 0 from rfl] at hB
  have hsf := store_f32
  simp only [Go.stored] at hsf
  go_enter Try.func27, Try.ntmps27
  go_wp2_with fail
  refine hB.mono ?_
  rintro e1 w1 ⟨rfl, _, k1⟩
  obtain ⟨⟨c0, c1, c2, c3, c4, c5⟩, hfz⟩ := six_cells k1 (by simp; omega)
  have f0 := hfz 0
  have f1 := hfz 1
  have f2 := hfz 2
  have f3 := hfz 3
  have f4 := hfz 4
  have f5 := hfz 5
  have hz : w.heap.size < w1.heap.size := by have := k1.size; simp at this; omega
  have HK : Hid (Keep [b] w w1) := ((k0.mono (fun _ h => by cases h)).trans' k1)
  clear k1 k0 hB hr hfz
  go_wp2
  refine bodyPost_ret (v := zeroV) (by simp [results, Try.results27, go_sem, hz, c0, c1, c2, c3, c4, c5]) rfl ⟨rfl, ?_⟩
  exact ((((((HK.out.setCell (.inr (Nat.le_refl _)) _).setCell (.inr (Nat.le_refl _)) _).setCell (.inr (Nat.le_refl _)) _).setCell (.inr (Nat.le_refl _)) _).setCell (.inr (Nat.le_refl _)) _).setCell (.inr (Nat.le_refl _)) _).alloc _

set_option maxRecDepth 100000 in
theorem encode_zero (w : World) : Calls Try.prog 29 #[zeroV] w fun e w' => e = .returned (.tuple #[.slice none 0 0, .int .i64 40]) ∧ Keep [] w w' := by
  have hC := check_no zeroD zeroD_ok (.slice none 0 0) (w.alloc (zeroD.blk (.slice none 0 0))) (Ts.nil _) zeroD_no
  have HK : Hid (Keep [] w (w.alloc (zeroD.blk (.slice none 0 0)))) := Keep.alloc1 w _
  simp only [zeroD, VD.val, VD.blk] at hC HK
  go_enter Try.func29, Try.ntmps29
  go_wp2_with fail
  refine hC.mono ?_
  rintro e1 w1 ⟨rfl, k1⟩
  have HK1 : Hid (Keep [] w w1) := HK.out.trans' k1
  clear k1 hC
  go_wp2
  go_ret2
  exact ⟨rfl, HK1.out⟩

set_option maxRecDepth 100000 in
set_option maxHeartbeats 3200000 in
theorem decode_nil (w : World) : Calls Try.prog 10 #[.slice none 0 0] w fun e w' => e = .returned (.tuple #[zeroV, .int .i64 42]) ∧ Keep [] w w' := by
  have k0 := Keep.alloc1 w (.cells #[.int .i64 0, .bool false, .int .i64 0, .float .f32 0, .string ⟨#[]⟩, .slice none 0 0] 28)
  have hsf := store_f32
  simp only [Go.stored] at hsf
  go_enter Try.func10, Try.ntmps10
  go_wp2_with fail
  refine (Read_any (.slice none 0 0) [] _ (Bs.nil _) (by simp)).mono ?_
  rintro e1 w1 ⟨b, rb, rfl, hR, hb, hrb, k1⟩
  have hbs : w.heap.size + 1 ≤ b := by simpa using hb
  have HR : Hid (Rd w1 b 0 [] 0 rb) := hR
  have HK1 : Hid (Keep [] (w.alloc (.cells #[.int .i64 0, .bool false, .int .i64 0, .float .f32 0, .string ⟨#[]⟩, .slice none 0 0] 28)) w1) := k1
  clear hR hrb k1 hb
  go_wp2_with fail
  refine (read_nil b rb w1 HR.out).mono ?_
  rintro e2 w2 ⟨rfl, k2⟩
  have HK2 : Hid (Keep [b] (w.alloc (.cells #[.int .i64 0, .bool false, .int .i64 0, .float .f32 0, .string ⟨#[]⟩, .slice none 0 0] 28)) w2) := (HK1.out.mono (fun _ h => by cases h)).trans' k2
  clear k2 HR HK1
  obtain ⟨⟨c0, c1, c2, c3, c4, c5⟩, hfz⟩ := six_cells HK2.out (by simp; omega)
  have hz : w.heap.size < w2.heap.size := by have := HK2.out.size; simp at this; omega
  clear c0 c1 c2 c3 c4 c5 hfz
  go_wp2_with fail
  refine (encode_zero _).mono ?_
  rintro e3 w3 ⟨rfl, k3⟩
  have HK3 : Hid (Keep [b] (w.alloc (.cells #[.int .i64 0, .bool false, .int .i64 0, .float .f32 0, .string ⟨#[]⟩, .slice none 0 0] 28)) w3) := (HK2.out.alloc _).trans' (k3.mono (fun _ h => by cases h))
  obtain ⟨⟨c0, c1, c2, c3, c4, c5⟩, hfz⟩ := six_cells HK3.out (by simp; omega)
  have f0 := hfz 0
  have f1 := hfz 1
  have f2 := hfz 2
  have f3 := hfz 3
  have f4 := hfz 4
  have f5 := hfz 5
  have hz3 : w.heap.size < w3.heap.size := by have := HK3.out.size; simp at this; omega
  have HK : Hid (Keep [] w w3) := k0.trans HK3.out (fun _ h => by cases h) (fun x hx => .inr (by simp at hx; omega))
  clear k3 k0 hfz HK2 HK3 hz
  go_wp2
  refine bodyPost_ret (v := .tuple #[zeroV, .int .i64 42]) (by simp [results, Try.results10, go_sem, c0, c1, c2, c3, c4, c5]) rfl ⟨rfl, ?_⟩
  exact (((((HK.out.setCell (.inr (Nat.le_refl _)) _).setCell (.inr (Nat.le_refl _)) _).setCell (.inr (Nat.le_refl _)) _).setCell (.inr (Nat.le_refl _)) _).setCell (.inr (Nat.le_refl _)) _).setCell (.inr (Nat.le_refl _)) _

end Go.Proofs.Ytppimacfeelneaa
