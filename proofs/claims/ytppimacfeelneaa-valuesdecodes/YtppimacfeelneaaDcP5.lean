/- The document's first: the value that the bytes can be. -/
import Derived.Test.YtppimacfeelneaaDcK
import Derived.Test.YtppimacfeelneaaDcL
import Derived.Test.YtppimacfeelneaaDcC
import Derived.Test.YtppimacfeelneaaLtC
import Derived.Deep.RegionWith
import Derived.Deep.QuietTactic
import Derived.Deep.RegionHeld3

namespace Go.Proofs.Ytppimacfeelneaa
open Go.RowKit Go.PlainAid Go.Lib

/-- what belongs to another kind is none -/
structure Shaped (y : VD) : Prop where
  bool : y.kind = 1 ∨ y.bool = false
  int : y.kind = 2 ∨ y.int = 0
  real : y.kind = 3 ∨ y.real = 0
  text : y.kind = 4 ∨ y.text = ⟨#[]⟩
  texts : y.kind = 5 ∨ y.texts = []
/-- what first says of bytes, two at least -/
structure FstB (l : List UInt8) (y : VD) : Prop where
  kind : y.kind = ((l.getD 0 0).toNat : Int)
  shaped : Shaped y
  ok : y.Ok
  b1 : y.kind = 1 → y.bool = ((l.getD 1 0).toNat == 1)
  b2 : y.kind = 2 → ∀ x r, x < 18446744073709551616 → l.drop 1 = uvarint x ++ r → y.int = unzig x
  b3 : y.kind = 3 → l.length = 5 → RealK (be4 (l.drop 1)) y.real
  b4 : y.kind = 4 → ∀ (t : ByteArray) r, t.size ≤ 256 → l.drop 1 = textB t ++ r → y.text = t
  b5 : y.kind = 5 → ∀ tl r, TxsAt l 1 tl r → y.texts = tl
def FstA (l : List UInt8) (w : World) (e : Ending) (w' : World) : Prop := ∃ (y : VD) (u : Value), e = .returned (y.val u) ∧ Ts w' u y.texts ∧ (∀ k, u.ownBlock = some k → w.heap.size ≤ k) ∧ Keep [] w w' ∧ FstB l y
end Go.Proofs.Ytppimacfeelneaa

/- first: a piece. -/
namespace Go.Proofs.Ytppimacfeelneaa
open Go.RowKit Go.PlainAid Go.Lib

set_option maxRecDepth 1000000 in
set_option maxHeartbeats 1600000 in
theorem first_0 (v : Value) (l : List UInt8) (hln : l.length ≤ 10000) (h2 : 2 ≤ l.length) (n : Nat) (hn : 5 < n ∨ n = 0) (hK : (l.getD 0 0).toNat = n) (w : World) (hv : Bs w v l) :
    Calls Try.prog 47 #[v] w fun e w' => FstA l w e w' := by
  have hl0 : l ≠ [] := by intro h; rw [h] at h2; simp at h2
  have kA : Keep [] w (w.alloc (.cells #[.int .i64 0, .bool false, .int .i64 0, .float .f32 0, .string ⟨#[]⟩, .slice none 0 0] 28)) := Keep.alloc1 w _
  have kB : Keep [] (w.alloc (.cells #[.int .i64 0, .bool false, .int .i64 0, .float .f32 0, .string ⟨#[]⟩, .slice none 0 0] 28)) ((w.alloc (.cells #[.int .i64 0, .bool false, .int .i64 0, .float .f32 0, .string ⟨#[]⟩, .slice none 0 0] 28)).alloc (.cells #[.int .i64 (n : Int), .bool false, .int .i64 0, .float .f32 0, .string ⟨#[]⟩, .slice none 0 0] 28)) := Keep.alloc1 _ _
  have hV : Bs ((w.alloc (.cells #[.int .i64 0, .bool false, .int .i64 0, .float .f32 0, .string ⟨#[]⟩, .slice none 0 0] 28)).alloc (.cells #[.int .i64 (n : Int), .bool false, .int .i64 0, .float .f32 0, .string ⟨#[]⟩, .slice none 0 0] 28)) v l := (hv.keep kA (Off.nil _)).keep kB (Off.nil _)
  have HKW : Hid (Keep [] w ((w.alloc (.cells #[.int .i64 0, .bool false, .int .i64 0, .float .f32 0, .string ⟨#[]⟩, .slice none 0 0] 28)).alloc (.cells #[.int .i64 (n : Int), .bool false, .int .i64 0, .float .f32 0, .string ⟨#[]⟩, .slice none 0 0] 28)) ∧ Keep [] (w.alloc (.cells #[.int .i64 0, .bool false, .int .i64 0, .float .f32 0, .string ⟨#[]⟩, .slice none 0 0] 28)) ((w.alloc (.cells #[.int .i64 0, .bool false, .int .i64 0, .float .f32 0, .string ⟨#[]⟩, .slice none 0 0] 28)).alloc (.cells #[.int .i64 (n : Int), .bool false, .int .i64 0, .float .f32 0, .string ⟨#[]⟩, .slice none 0 0] 28))) := ⟨kA.trans' kB, kB⟩
  rcases hv.cases with ⟨h, _⟩ | ⟨_, b, o, cap, rfl, _, hlc, hcap, hc⟩
  · exact absurd h hl0
  have a0 := hc 0 (by omega)
  rw [hK, Nat.add_zero] at a0
  have a1 := hc 1 (by omega)
  have a0A := kA.cell' a0 (by simp)
  have a0B := kB.cell' a0A (by simp)
  have a1B := kB.cell' (kA.cell' a1 (by simp)) (by simp)
  have t0 : ¬ ((l.length : Int) < 2) := by omega
  have HK : Hid ((l.getD 0 0).toNat = n) := hK
  have t1 : ((n : Int) == 1) = false := beq_eq_false_iff_ne.2 (by omega)
  have t2 : ((n : Int) == 2) = false := beq_eq_false_iff_ne.2 (by omega)
  have t3 : ((n : Int) == 3) = false := beq_eq_false_iff_ne.2 (by omega)
  have t4 : ((n : Int) == 4) = false := beq_eq_false_iff_ne.2 (by omega)
  have t5 : ((n : Int) == 5) = false := beq_eq_false_iff_ne.2 (by omega)
  have hn256 : n < 256 := by rw [← HK.out]; exact (l.getD 0 0).toNat_lt
  have hni : (n : Int) < 256 := by omega
  have HNN : Hid (5 < n ∨ n = 0) := hn
  clear hn
  have hsf := store_f32
  simp only [Go.stored] at hsf
  clear hc hV hv kA kB a0 a1 hK hl0
  go_enter Try.func47, Try.ntmps47
  go_wp2
  have hN := HNN.out
  refine bodyPost_ret (v := .agg #[.int .i64 (n : Int), .bool false, .int .i64 0, .float .f32 0, .string ⟨#[]⟩, .slice none 0 0]) (by simp [results, Try.results47, go_sem]) rfl ?_
  exact ⟨⟨(n : Int), false, 0, 0, ⟨#[]⟩, []⟩, .slice none 0 0, rfl, Ts.nil _, (fun k h => by simp [Value.ownBlock] at h), (Keep.alloc1 w _).alloc _, ⟨by rw [HK.out], ⟨.inr rfl, .inr rfl, .inr rfl, .inr rfl, .inr rfl⟩, ⟨by simp only []; omega, by simp only []; omega, by simp, by simp, by simp, Nat.zero_le _⟩, (fun h => by simp only [] at h; omega), (fun h => by simp only [] at h; omega), (fun h => by simp only [] at h; omega), (fun h => by simp only [] at h; omega), (fun h => by simp only [] at h; omega)⟩⟩
end Go.Proofs.Ytppimacfeelneaa

/- first: a piece. -/
namespace Go.Proofs.Ytppimacfeelneaa
open Go.RowKit Go.PlainAid Go.Lib

set_option maxRecDepth 1000000 in
set_option maxHeartbeats 1600000 in
theorem first_1 (v : Value) (l : List UInt8) (hln : l.length ≤ 10000) (h2 : 2 ≤ l.length) (hK : (l.getD 0 0).toNat = 1) (w : World) (hv : Bs w v l) :
    Calls Try.prog 47 #[v] w fun e w' => FstA l w e w' := by
  have hl0 : l ≠ [] := by intro h; rw [h] at h2; simp at h2
  have kA : Keep [] w (w.alloc (.cells #[.int .i64 0, .bool false, .int .i64 0, .float .f32 0, .string ⟨#[]⟩, .slice none 0 0] 28)) := Keep.alloc1 w _
  have kB : Keep [] (w.alloc (.cells #[.int .i64 0, .bool false, .int .i64 0, .float .f32 0, .string ⟨#[]⟩, .slice none 0 0] 28)) ((w.alloc (.cells #[.int .i64 0, .bool false, .int .i64 0, .float .f32 0, .string ⟨#[]⟩, .slice none 0 0] 28)).alloc (.cells #[.int .i64 1, .bool false, .int .i64 0, .float .f32 0, .string ⟨#[]⟩, .slice none 0 0] 28)) := Keep.alloc1 _ _
  have hV : Bs ((w.alloc (.cells #[.int .i64 0, .bool false, .int .i64 0, .float .f32 0, .string ⟨#[]⟩, .slice none 0 0] 28)).alloc (.cells #[.int .i64 1, .bool false, .int .i64 0, .float .f32 0, .string ⟨#[]⟩, .slice none 0 0] 28)) v l := (hv.keep kA (Off.nil _)).keep kB (Off.nil _)
  have HKW : Hid (Keep [] w ((w.alloc (.cells #[.int .i64 0, .bool false, .int .i64 0, .float .f32 0, .string ⟨#[]⟩, .slice none 0 0] 28)).alloc (.cells #[.int .i64 1, .bool false, .int .i64 0, .float .f32 0, .string ⟨#[]⟩, .slice none 0 0] 28)) ∧ Keep [] (w.alloc (.cells #[.int .i64 0, .bool false, .int .i64 0, .float .f32 0, .string ⟨#[]⟩, .slice none 0 0] 28)) ((w.alloc (.cells #[.int .i64 0, .bool false, .int .i64 0, .float .f32 0, .string ⟨#[]⟩, .slice none 0 0] 28)).alloc (.cells #[.int .i64 1, .bool false, .int .i64 0, .float .f32 0, .string ⟨#[]⟩, .slice none 0 0] 28))) := ⟨kA.trans' kB, kB⟩
  rcases hv.cases with ⟨h, _⟩ | ⟨_, b, o, cap, rfl, _, hlc, hcap, hc⟩
  · exact absurd h hl0
  have a0 := hc 0 (by omega)
  rw [hK, Nat.add_zero] at a0
  have a1 := hc 1 (by omega)
  have a0A := kA.cell' a0 (by simp)
  have a0B := kB.cell' a0A (by simp)
  have a1B := kB.cell' (kA.cell' a1 (by simp)) (by simp)
  have t0 : ¬ ((l.length : Int) < 2) := by omega
  have HK : Hid ((l.getD 0 0).toNat = 1) := hK
  have hsf := store_f32
  simp only [Go.stored] at hsf
  clear hc hV hv kA kB a0 a1 hK hl0
  have HY : Hid ((((l.getD 1 0).toNat : Int) == 1) = ((l.getD 1 0).toNat == 1)) := show _ = _ by
    generalize (l.getD 1 0).toNat = m
    by_cases h : m = 1
    · subst h; rfl
    · rw [beq_eq_false_iff_ne.2 (by omega), beq_eq_false_iff_ne.2 h]
  obtain ⟨y, hy⟩ : ∃ y : Int, y = ((l.getD 1 0).toNat : Int) := ⟨_, rfl⟩
  rw [← hy] at HY a1B
  have hy0 : 0 ≤ y ∧ y < 256 := by have := (l.getD 1 0).toNat_lt; omega
  clear hy
  go_enter Try.func47, Try.ntmps47
  go_wp2
  refine bodyPost_ret (v := .agg #[.int .i64 1, .bool (y == 1), .int .i64 0, .float .f32 0, .string ⟨#[]⟩, .slice none 0 0]) (by simp [results, Try.results47, go_sem]) rfl ?_
  exact ⟨⟨1, y == 1, 0, 0, ⟨#[]⟩, []⟩, .slice none 0 0, rfl, Ts.nil _, (fun k h => by simp [Value.ownBlock] at h), (Keep.alloc1 w _).alloc _, ⟨by rw [HK.out]; rfl, ⟨.inl rfl, .inr rfl, .inr rfl, .inr rfl, .inr rfl⟩, ⟨by simp, by simp, by simp, by simp, by simp, Nat.zero_le _⟩, (fun _ => HY.out), (fun h => by simp at h), (fun h => by simp at h), (fun h => by simp at h), (fun h => by simp at h)⟩⟩
end Go.Proofs.Ytppimacfeelneaa

/- first: a piece. -/
namespace Go.Proofs.Ytppimacfeelneaa
open Go.RowKit Go.PlainAid Go.Lib

set_option maxRecDepth 1000000 in
set_option maxHeartbeats 1600000 in
theorem first_2 (v : Value) (l : List UInt8) (hln : l.length ≤ 10000) (h2 : 2 ≤ l.length) (hK : (l.getD 0 0).toNat = 2) (w : World) (hv : Bs w v l) :
    Calls Try.prog 47 #[v] w fun e w' => FstA l w e w' := by
  have hl0 : l ≠ [] := by intro h; rw [h] at h2; simp at h2
  have kA : Keep [] w (w.alloc (.cells #[.int .i64 0, .bool false, .int .i64 0, .float .f32 0, .string ⟨#[]⟩, .slice none 0 0] 28)) := Keep.alloc1 w _
  have kB : Keep [] (w.alloc (.cells #[.int .i64 0, .bool false, .int .i64 0, .float .f32 0, .string ⟨#[]⟩, .slice none 0 0] 28)) ((w.alloc (.cells #[.int .i64 0, .bool false, .int .i64 0, .float .f32 0, .string ⟨#[]⟩, .slice none 0 0] 28)).alloc (.cells #[.int .i64 2, .bool false, .int .i64 0, .float .f32 0, .string ⟨#[]⟩, .slice none 0 0] 28)) := Keep.alloc1 _ _
  have hV : Bs ((w.alloc (.cells #[.int .i64 0, .bool false, .int .i64 0, .float .f32 0, .string ⟨#[]⟩, .slice none 0 0] 28)).alloc (.cells #[.int .i64 2, .bool false, .int .i64 0, .float .f32 0, .string ⟨#[]⟩, .slice none 0 0] 28)) v l := (hv.keep kA (Off.nil _)).keep kB (Off.nil _)
  have hX := dNumber_any v l hln 1 (by omega) ((w.alloc (.cells #[.int .i64 0, .bool false, .int .i64 0, .float .f32 0, .string ⟨#[]⟩, .slice none 0 0] 28)).alloc (.cells #[.int .i64 2, .bool false, .int .i64 0, .float .f32 0, .string ⟨#[]⟩, .slice none 0 0] 28)) hV
  have HKW : Hid (Keep [] w ((w.alloc (.cells #[.int .i64 0, .bool false, .int .i64 0, .float .f32 0, .string ⟨#[]⟩, .slice none 0 0] 28)).alloc (.cells #[.int .i64 2, .bool false, .int .i64 0, .float .f32 0, .string ⟨#[]⟩, .slice none 0 0] 28)) ∧ Keep [] (w.alloc (.cells #[.int .i64 0, .bool false, .int .i64 0, .float .f32 0, .string ⟨#[]⟩, .slice none 0 0] 28)) ((w.alloc (.cells #[.int .i64 0, .bool false, .int .i64 0, .float .f32 0, .string ⟨#[]⟩, .slice none 0 0] 28)).alloc (.cells #[.int .i64 2, .bool false, .int .i64 0, .float .f32 0, .string ⟨#[]⟩, .slice none 0 0] 28))) := ⟨kA.trans' kB, kB⟩
  rcases hv.cases with ⟨h, _⟩ | ⟨_, b, o, cap, rfl, _, hlc, hcap, hc⟩
  · exact absurd h hl0
  have a0 := hc 0 (by omega)
  rw [hK, Nat.add_zero] at a0
  have a1 := hc 1 (by omega)
  have a0A := kA.cell' a0 (by simp)
  have a0B := kB.cell' a0A (by simp)
  have a1B := kB.cell' (kA.cell' a1 (by simp)) (by simp)
  have t0 : ¬ ((l.length : Int) < 2) := by omega
  have HK : Hid ((l.getD 0 0).toNat = 2) := hK
  have hsf := store_f32
  simp only [Go.stored] at hsf
  clear hc hV hv kA kB a0 a1 hK hl0
  go_enter Try.func47, Try.ntmps47
  go_wp2_with fail
  refine hX.mono ?_
  rintro e9 w2 ⟨⟨y, q, ok, rfl, hy, _, hall⟩, hw2⟩
  have k2 : Keep [] ((w.alloc (.cells #[.int .i64 0, .bool false, .int .i64 0, .float .f32 0, .string ⟨#[]⟩, .slice none 0 0] 28)).alloc (.cells #[.int .i64 2, .bool false, .int .i64 0, .float .f32 0, .string ⟨#[]⟩, .slice none 0 0] 28)) w2 := by rw [hw2]; exact Keep.refl _ _
  have HALL : Hid (∀ x r, x < 18446744073709551616 → l.drop 1 = uvarint x ++ r → y = x) := fun x r h1 h2 => (hall x r h1 h2).1
  clear hw2 hX hall
  obtain ⟨⟨c0, c1, c2, c3, c4, c5⟩, hf3⟩ := six_cells k2 (by simp)
  obtain ⟨⟨d0, d1, d2, d3, d4, d5⟩, hf0⟩ := six_cells (HKW.out.2.trans' k2) (by simp)
  rw [show (w.alloc (.cells #[.int .i64 0, .bool false, .int .i64 0, .float .f32 0, .string ⟨#[]⟩, .slice none 0 0] 28)).heap.size = w.heap.size + 1 by simp] at c0 c1 c2 c3 c4 c5
  have f3 := hf3 2
  rw [show (w.alloc (.cells #[.int .i64 0, .bool false, .int .i64 0, .float .f32 0, .string ⟨#[]⟩, .slice none 0 0] 28)).heap.size = w.heap.size + 1 by simp] at f3
  have g0 := hf0 0
  have g1 := hf0 1
  have g2 := hf0 2
  have g3 := hf0 3
  have g4 := hf0 4
  have g5 := hf0 5
  have HK2 : Hid (Keep [] w w2) := HKW.out.1.trans' k2
  clear k2 hf0 hf3 HKW a0A a0B a1B
  obtain ⟨q0, HQ0⟩ : ∃ q, Hid (q = w.heap.size) := ⟨_, rfl⟩
  obtain ⟨q3, HQ3⟩ : ∃ q, Hid (q = w.heap.size + 1) := ⟨_, rfl⟩
  have e0 := HQ0.out
  have e3 := HQ3.out
  rw [← e3] at c0 c1 c2 c3 c4 c5 f3 ⊢
  rw [← e0] at d0 d1 d2 d3 d4 d5 g0 g1 g2 g3 g4 g5 ⊢
  clear e0 e3
  have hn1 : ¬ q0 = q3 := by have h1 := HQ0.out; have h2 := HQ3.out; omega
  have hn2 : ¬ q3 = q0 := fun h => hn1 h.symm
  by_cases hev : y % 2 = 0
  · obtain ⟨m, rfl⟩ : ∃ m, y = 2 * m := ⟨y / 2, by omega⟩
    have hm : m ≤ 9223372036854775807 := by omega
    have e2 : (((2 * m) : Nat) : Int) / 2 = (m : Int) := by omega
    have e3 : (((2 * m) : Nat) : Int) % 2 = 0 := by omega
    simp only [Int.natCast_mul, Int.cast_ofNat_Int] at e2 e3
    go_wp2
    have hW := six_set (w := (w2.setCell ⟨q3, 2, none⟩ (.int .i64 (m : Int)))) (b := q0) (v0 := .int .i64 2) (v1 := .bool false) (v2 := .int .i64 (m : Int)) (v3 := .float .f32 0) (v4 := .string ⟨#[]⟩) (v5 := .slice none 0 0)
      (by rw [World.cell?_setCell_other _ _ _ _ (by simp <;> omega)]; exact d0) (by rw [World.cell?_setCell_other _ _ _ _ (by simp <;> omega)]; exact d1) (by rw [World.cell?_setCell_other _ _ _ _ (by simp <;> omega)]; exact d2) (by rw [World.cell?_setCell_other _ _ _ _ (by simp <;> omega)]; exact d3) (by rw [World.cell?_setCell_other _ _ _ _ (by simp <;> omega)]; exact d4) (by rw [World.cell?_setCell_other _ _ _ _ (by simp <;> omega)]; exact d5)
    have KS : Keep [q0, q3] w2 (((((((w2.setCell ⟨q3, 2, none⟩ (.int .i64 (m : Int))).setCell ⟨q0, 0, none⟩ (.int .i64 2)).setCell ⟨q0, 1, none⟩ (.bool false)).setCell ⟨q0, 2, none⟩ (.int .i64 (m : Int))).setCell ⟨q0, 3, none⟩ (.float .f32 0)).setCell ⟨q0, 4, none⟩ (.string ⟨#[]⟩)).setCell ⟨q0, 5, none⟩ (.slice none 0 0)) := ((((((((Keep.refl [q0, q3] w2).setCell (p := ⟨q3, 2, none⟩) (.inl (by simp)) _).setCell (p := ⟨q0, 0, none⟩) (.inl (by simp)) _).setCell (p := ⟨q0, 1, none⟩) (.inl (by simp)) _).setCell (p := ⟨q0, 2, none⟩) (.inl (by simp)) _).setCell (p := ⟨q0, 3, none⟩) (.inl (by simp)) _).setCell (p := ⟨q0, 4, none⟩) (.inl (by simp)) _).setCell (p := ⟨q0, 5, none⟩) (.inl (by simp)) _)
    generalize (((((((w2.setCell ⟨q3, 2, none⟩ (.int .i64 (m : Int))).setCell ⟨q0, 0, none⟩ (.int .i64 2)).setCell ⟨q0, 1, none⟩ (.bool false)).setCell ⟨q0, 2, none⟩ (.int .i64 (m : Int))).setCell ⟨q0, 3, none⟩ (.float .f32 0)).setCell ⟨q0, 4, none⟩ (.string ⟨#[]⟩)).setCell ⟨q0, 5, none⟩ (.slice none 0 0)) = W at hW KS ⊢
    obtain ⟨r0, r1, r2, r3, r4, r5⟩ := hW
    refine bodyPost_ret (v := .agg #[.int .i64 2, .bool false, .int .i64 (m : Int), .float .f32 0, .string ⟨#[]⟩, .slice none 0 0]) (by simp [results, Try.results47, go_sem, r0, r1, r2, r3, r4, r5]) rfl ?_
    have hkp : Keep [] w W := HK2.out.more KS (fun x hx => .inr (by have h1 := HQ0.out; have h2 := HQ3.out; simp at hx; omega))
    refine ⟨⟨2, false, (m : Int), 0, ⟨#[]⟩, []⟩, .slice none 0 0, rfl, Ts.nil _, (fun k h => by simp [Value.ownBlock] at h), hkp, ?_⟩
    exact ⟨by rw [HK.out]; rfl, ⟨.inr rfl, .inl rfl, .inr rfl, .inr rfl, .inr rfl⟩, ⟨by simp, by simp, by simp only []; omega, by simp only []; omega, by simp, Nat.zero_le _⟩, (fun h => by simp at h), (fun _ x r hx hd => by have h9 := HALL.out x r hx hd; rw [← h9]; unfold unzig; rw [if_pos (by omega)]; simp only []; omega), (fun h => by simp at h), (fun h => by simp at h), (fun h => by simp at h)⟩
  · obtain ⟨m, rfl⟩ : ∃ m, y = 2 * m + 1 := ⟨y / 2, by omega⟩
    have hm : m ≤ 9223372036854775807 := by omega
    have e2 : (((2 * m + 1) : Nat) : Int) / 2 = (m : Int) := by omega
    have e3 : (((2 * m + 1) : Nat) : Int) % 2 = 1 := by omega
    simp only [Int.natCast_add, Int.natCast_mul, Int.cast_ofNat_Int] at e2 e3
    go_wp2
    have hW := six_set (w := ((w2.setCell ⟨q3, 2, none⟩ (.int .i64 (m : Int))).setCell ⟨q3, 2, none⟩ (.int .i64 (-(m : Int) - 1)))) (b := q0) (v0 := .int .i64 2) (v1 := .bool false) (v2 := .int .i64 (-(m : Int) - 1)) (v3 := .float .f32 0) (v4 := .string ⟨#[]⟩) (v5 := .slice none 0 0)
      (by rw [World.cell?_setCell_other _ _ _ _ (by simp <;> omega), World.cell?_setCell_other _ _ _ _ (by simp <;> omega)]; exact d0) (by rw [World.cell?_setCell_other _ _ _ _ (by simp <;> omega), World.cell?_setCell_other _ _ _ _ (by simp <;> omega)]; exact d1) (by rw [World.cell?_setCell_other _ _ _ _ (by simp <;> omega), World.cell?_setCell_other _ _ _ _ (by simp <;> omega)]; exact d2) (by rw [World.cell?_setCell_other _ _ _ _ (by simp <;> omega), World.cell?_setCell_other _ _ _ _ (by simp <;> omega)]; exact d3) (by rw [World.cell?_setCell_other _ _ _ _ (by simp <;> omega), World.cell?_setCell_other _ _ _ _ (by simp <;> omega)]; exact d4) (by rw [World.cell?_setCell_other _ _ _ _ (by simp <;> omega), World.cell?_setCell_other _ _ _ _ (by simp <;> omega)]; exact d5)
    have KS : Keep [q0, q3] w2 ((((((((w2.setCell ⟨q3, 2, none⟩ (.int .i64 (m : Int))).setCell ⟨q3, 2, none⟩ (.int .i64 (-(m : Int) - 1))).setCell ⟨q0, 0, none⟩ (.int .i64 2)).setCell ⟨q0, 1, none⟩ (.bool false)).setCell ⟨q0, 2, none⟩ (.int .i64 (-(m : Int) - 1))).setCell ⟨q0, 3, none⟩ (.float .f32 0)).setCell ⟨q0, 4, none⟩ (.string ⟨#[]⟩)).setCell ⟨q0, 5, none⟩ (.slice none 0 0)) := (((((((((Keep.refl [q0, q3] w2).setCell (p := ⟨q3, 2, none⟩) (.inl (by simp)) _).setCell (p := ⟨q3, 2, none⟩) (.inl (by simp)) _).setCell (p := ⟨q0, 0, none⟩) (.inl (by simp)) _).setCell (p := ⟨q0, 1, none⟩) (.inl (by simp)) _).setCell (p := ⟨q0, 2, none⟩) (.inl (by simp)) _).setCell (p := ⟨q0, 3, none⟩) (.inl (by simp)) _).setCell (p := ⟨q0, 4, none⟩) (.inl (by simp)) _).setCell (p := ⟨q0, 5, none⟩) (.inl (by simp)) _)
    generalize ((((((((w2.setCell ⟨q3, 2, none⟩ (.int .i64 (m : Int))).setCell ⟨q3, 2, none⟩ (.int .i64 (-(m : Int) - 1))).setCell ⟨q0, 0, none⟩ (.int .i64 2)).setCell ⟨q0, 1, none⟩ (.bool false)).setCell ⟨q0, 2, none⟩ (.int .i64 (-(m : Int) - 1))).setCell ⟨q0, 3, none⟩ (.float .f32 0)).setCell ⟨q0, 4, none⟩ (.string ⟨#[]⟩)).setCell ⟨q0, 5, none⟩ (.slice none 0 0)) = W at hW KS ⊢
    obtain ⟨r0, r1, r2, r3, r4, r5⟩ := hW
    refine bodyPost_ret (v := .agg #[.int .i64 2, .bool false, .int .i64 (-(m : Int) - 1), .float .f32 0, .string ⟨#[]⟩, .slice none 0 0]) (by simp [results, Try.results47, go_sem, r0, r1, r2, r3, r4, r5]) rfl ?_
    have hkp : Keep [] w W := HK2.out.more KS (fun x hx => .inr (by have h1 := HQ0.out; have h2 := HQ3.out; simp at hx; omega))
    refine ⟨⟨2, false, -(m : Int) - 1, 0, ⟨#[]⟩, []⟩, .slice none 0 0, rfl, Ts.nil _, (fun k h => by simp [Value.ownBlock] at h), hkp, ?_⟩
    exact ⟨by rw [HK.out]; rfl, ⟨.inr rfl, .inl rfl, .inr rfl, .inr rfl, .inr rfl⟩, ⟨by simp, by simp, by simp only []; omega, by simp only []; omega, by simp, Nat.zero_le _⟩, (fun h => by simp at h), (fun _ x r hx hd => by have h9 := HALL.out x r hx hd; rw [← h9]; unfold unzig; rw [if_neg (by omega)]; simp only []; omega), (fun h => by simp at h), (fun h => by simp at h), (fun h => by simp at h)⟩
end Go.Proofs.Ytppimacfeelneaa

/- first: a piece. -/
namespace Go.Proofs.Ytppimacfeelneaa
open Go.RowKit Go.PlainAid Go.Lib

set_option maxRecDepth 1000000 in
set_option maxHeartbeats 1600000 in
theorem first_3n (v : Value) (l : List UInt8) (hln : l.length ≤ 10000) (h2 : 2 ≤ l.length) (hK : (l.getD 0 0).toNat = 3) (h5 : l.length ≠ 5) (w : World) (hv : Bs w v l) :
    Calls Try.prog 47 #[v] w fun e w' => FstA l w e w' := by
  have hl0 : l ≠ [] := by intro h; rw [h] at h2; simp at h2
  have kA : Keep [] w (w.alloc (.cells #[.int .i64 0, .bool false, .int .i64 0, .float .f32 0, .string ⟨#[]⟩, .slice none 0 0] 28)) := Keep.alloc1 w _
  have kB : Keep [] (w.alloc (.cells #[.int .i64 0, .bool false, .int .i64 0, .float .f32 0, .string ⟨#[]⟩, .slice none 0 0] 28)) ((w.alloc (.cells #[.int .i64 0, .bool false, .int .i64 0, .float .f32 0, .string ⟨#[]⟩, .slice none 0 0] 28)).alloc (.cells #[.int .i64 3, .bool false, .int .i64 0, .float .f32 0, .string ⟨#[]⟩, .slice none 0 0] 28)) := Keep.alloc1 _ _
  have hV : Bs ((w.alloc (.cells #[.int .i64 0, .bool false, .int .i64 0, .float .f32 0, .string ⟨#[]⟩, .slice none 0 0] 28)).alloc (.cells #[.int .i64 3, .bool false, .int .i64 0, .float .f32 0, .string ⟨#[]⟩, .slice none 0 0] 28)) v l := (hv.keep kA (Off.nil _)).keep kB (Off.nil _)
  have HKW : Hid (Keep [] w ((w.alloc (.cells #[.int .i64 0, .bool false, .int .i64 0, .float .f32 0, .string ⟨#[]⟩, .slice none 0 0] 28)).alloc (.cells #[.int .i64 3, .bool false, .int .i64 0, .float .f32 0, .string ⟨#[]⟩, .slice none 0 0] 28)) ∧ Keep [] (w.alloc (.cells #[.int .i64 0, .bool false, .int .i64 0, .float .f32 0, .string ⟨#[]⟩, .slice none 0 0] 28)) ((w.alloc (.cells #[.int .i64 0, .bool false, .int .i64 0, .float .f32 0, .string ⟨#[]⟩, .slice none 0 0] 28)).alloc (.cells #[.int .i64 3, .bool false, .int .i64 0, .float .f32 0, .string ⟨#[]⟩, .slice none 0 0] 28))) := ⟨kA.trans' kB, kB⟩
  rcases hv.cases with ⟨h, _⟩ | ⟨_, b, o, cap, rfl, _, hlc, hcap, hc⟩
  · exact absurd h hl0
  have a0 := hc 0 (by omega)
  rw [hK, Nat.add_zero] at a0
  have a1 := hc 1 (by omega)
  have a0A := kA.cell' a0 (by simp)
  have a0B := kB.cell' a0A (by simp)
  have a1B := kB.cell' (kA.cell' a1 (by simp)) (by simp)
  have t0 : ¬ ((l.length : Int) < 2) := by omega
  have HK : Hid ((l.getD 0 0).toNat = 3) := hK
  have hsf := store_f32
  simp only [Go.stored] at hsf
  clear hc hV hv kA kB a0 a1 hK hl0
  have t5 : ((l.length : Int) == 5) = false := beq_eq_false_iff_ne.2 (by omega)
  have H5 : Hid (l.length ≠ 5) := h5
  clear h5
  go_enter Try.func47, Try.ntmps47
  go_wp2
  refine bodyPost_ret (v := .agg #[.int .i64 3, .bool false, .int .i64 0, .float .f32 0, .string ⟨#[]⟩, .slice none 0 0]) (by simp [results, Try.results47, go_sem]) rfl ?_
  exact ⟨⟨3, false, 0, 0, ⟨#[]⟩, []⟩, .slice none 0 0, rfl, Ts.nil _, (fun k h => by simp [Value.ownBlock] at h), (Keep.alloc1 w _).alloc _, ⟨by rw [HK.out]; rfl, ⟨.inr rfl, .inr rfl, .inl rfl, .inr rfl, .inr rfl⟩, ⟨by simp, by simp, by simp, by simp, by simp, Nat.zero_le _⟩, (fun h => by simp at h), (fun h => by simp at h), (fun _ h => absurd h H5.out), (fun h => by simp at h), (fun h => by simp at h)⟩⟩

end Go.Proofs.Ytppimacfeelneaa

/- first: a real. -/
namespace Go.Proofs.Ytppimacfeelneaa
open Go.RowKit Go.PlainAid Go.Lib

set_option maxRecDepth 1000000 in
set_option maxHeartbeats 6400000 in
theorem first_3y (v : Value) (l : List UInt8) (_hln : l.length ≤ 10000) (h2 : 2 ≤ l.length) (hK : (l.getD 0 0).toNat = 3) (h5 : l.length = 5) (w : World) (hv : Bs w v l) :
    Calls Try.prog 47 #[v] w fun e w' => FstA l w e w' := by
  have hl0 : l ≠ [] := by intro h; rw [h] at h2; simp at h2
  have kA : Keep [] w (w.alloc (.cells #[.int .i64 0, .bool false, .int .i64 0, .float .f32 0, .string ⟨#[]⟩, .slice none 0 0] 28)) := Keep.alloc1 w _
  have kB : Keep [] (w.alloc (.cells #[.int .i64 0, .bool false, .int .i64 0, .float .f32 0, .string ⟨#[]⟩, .slice none 0 0] 28)) ((w.alloc (.cells #[.int .i64 0, .bool false, .int .i64 0, .float .f32 0, .string ⟨#[]⟩, .slice none 0 0] 28)).alloc (.cells #[.int .i64 3, .bool false, .int .i64 0, .float .f32 0, .string ⟨#[]⟩, .slice none 0 0] 28)) := Keep.alloc1 _ _
  have hV : Bs ((w.alloc (.cells #[.int .i64 0, .bool false, .int .i64 0, .float .f32 0, .string ⟨#[]⟩, .slice none 0 0] 28)).alloc (.cells #[.int .i64 3, .bool false, .int .i64 0, .float .f32 0, .string ⟨#[]⟩, .slice none 0 0] 28)) v l := (hv.keep kA (Off.nil _)).keep kB (Off.nil _)
  have HKW : Hid (Keep [] w ((w.alloc (.cells #[.int .i64 0, .bool false, .int .i64 0, .float .f32 0, .string ⟨#[]⟩, .slice none 0 0] 28)).alloc (.cells #[.int .i64 3, .bool false, .int .i64 0, .float .f32 0, .string ⟨#[]⟩, .slice none 0 0] 28)) ∧ Keep [] (w.alloc (.cells #[.int .i64 0, .bool false, .int .i64 0, .float .f32 0, .string ⟨#[]⟩, .slice none 0 0] 28)) ((w.alloc (.cells #[.int .i64 0, .bool false, .int .i64 0, .float .f32 0, .string ⟨#[]⟩, .slice none 0 0] 28)).alloc (.cells #[.int .i64 3, .bool false, .int .i64 0, .float .f32 0, .string ⟨#[]⟩, .slice none 0 0] 28))) := ⟨kA.trans' kB, kB⟩
  rcases hv.cases with ⟨h, _⟩ | ⟨_, b, o, cap, rfl, _, hlc, hcap, hc⟩
  · exact absurd h hl0
  have a0 := hc 0 (by omega)
  rw [hK, Nat.add_zero] at a0
  have a1 := hc 1 (by omega)
  have a0A := kA.cell' a0 (by simp)
  have a0B := kB.cell' a0A (by simp)
  have a1B := kB.cell' (kA.cell' a1 (by simp)) (by simp)
  have t0 : ¬ ((l.length : Int) < 2) := by omega
  have HK : Hid ((l.getD 0 0).toNat = 3) := hK
  have a2B := kB.cell' (kA.cell' (hc 2 (by omega)) (by simp)) (by simp)
  have a3B := kB.cell' (kA.cell' (hc 3 (by omega)) (by simp)) (by simp)
  have a4B := kB.cell' (kA.cell' (hc 4 (by omega)) (by simp)) (by simp)
  have hb0 : b < w.heap.size := hv.lt hl0 b rfl
  have HB0 : Hid (b < w.heap.size) := hb0
  clear hb0
  have hsf := store_f32
  simp only [Go.stored] at hsf
  clear hc hV hv kA kB a0 a1 hK hl0
  have hbe : be4 (l.drop 1) = 16777216 * (l.getD 1 0).toNat + 65536 * (l.getD 2 0).toNat + 256 * (l.getD 3 0).toNat + (l.getD 4 0).toNat := by
    unfold be4
    simp [List.getD_eq_getElem?_getD]
  have b0 : (l.getD 1 0).toNat < 256 := UInt8.toNat_lt _
  have b1 : (l.getD 2 0).toNat < 256 := UInt8.toNat_lt _
  have b2 : (l.getD 3 0).toNat < 256 := UInt8.toNat_lt _
  have b3 : (l.getD 4 0).toNat < 256 := UInt8.toNat_lt _
  have hor := or4 _ _ _ _ b0 b1 b2 b3
  generalize (l.getD 1 0).toNat = k1 at a1B hbe b0 hor
  generalize (l.getD 2 0).toNat = k2 at a2B hbe b1 hor
  generalize (l.getD 3 0).toNat = k3 at a3B hbe b2 hor
  generalize (l.getD 4 0).toNat = k4 at a4B hbe b3 hor
  rw [← hbe] at hor
  have hk : be4 (l.drop 1) < 4294967296 := by omega
  have hF := dFromKey_any (be4 (l.drop 1)) hk
  obtain ⟨B, hB⟩ : ∃ B, B = be4 (l.drop 1) := ⟨_, rfl⟩
  rw [← hB] at hor hF
  have HB : Hid (B = be4 (l.drop 1)) := hB
  clear hbe hk hB
  rw [h5]
  rw [h5] at hlc t0
  clear h2 h5
  go_enter Try.func47, Try.ntmps47
  go_wp2
  obtain ⟨w2, hw2⟩ : ∃ w2, w2 = ((w.alloc (.cells #[.int .i64 0, .bool false, .int .i64 0, .float .f32 0, .string ⟨#[]⟩, .slice none 0 0] 28)).alloc (.cells #[.int .i64 3, .bool false, .int .i64 0, .float .f32 0, .string ⟨#[]⟩, .slice none 0 0] 28)) := ⟨_, rfl⟩
  have k2 : Keep [] ((w.alloc (.cells #[.int .i64 0, .bool false, .int .i64 0, .float .f32 0, .string ⟨#[]⟩, .slice none 0 0] 28)).alloc (.cells #[.int .i64 3, .bool false, .int .i64 0, .float .f32 0, .string ⟨#[]⟩, .slice none 0 0] 28)) w2 := by rw [hw2]; exact Keep.refl _ _
  rw [← hw2] at a1B a2B a3B a4B
  rw [← hw2]
  clear hw2
  obtain ⟨⟨c0, c1, c2, c3, c4, c5⟩, hf3⟩ := six_cells k2 (by simp)
  obtain ⟨⟨d0, d1, d2, d3, d4, d5⟩, hf0⟩ := six_cells (HKW.out.2.trans' k2) (by simp)
  rw [show (w.alloc (.cells #[.int .i64 0, .bool false, .int .i64 0, .float .f32 0, .string ⟨#[]⟩, .slice none 0 0] 28)).heap.size = w.heap.size + 1 by simp] at c0 c1 c2 c3 c4 c5
  have f3 := hf3 3
  rw [show (w.alloc (.cells #[.int .i64 0, .bool false, .int .i64 0, .float .f32 0, .string ⟨#[]⟩, .slice none 0 0] 28)).heap.size = w.heap.size + 1 by simp] at f3
  have g0 := hf0 0
  have g1 := hf0 1
  have g2 := hf0 2
  have g3 := hf0 3
  have g4 := hf0 4
  have g5 := hf0 5
  have HK2 : Hid (Keep [] w w2) := HKW.out.1.trans' k2
  clear k2 hf0 hf3 HKW a0A a0B
  obtain ⟨q0, HQ0⟩ : ∃ q, Hid (q = w.heap.size) := ⟨_, rfl⟩
  obtain ⟨q3, HQ3⟩ : ∃ q, Hid (q = w.heap.size + 1) := ⟨_, rfl⟩
  have e0 := HQ0.out
  have e3 := HQ3.out
  rw [← e3] at c0 c1 c2 c3 c4 c5 f3 ⊢
  rw [← e0] at d0 d1 d2 d3 d4 d5 g0 g1 g2 g3 g4 g5 ⊢
  clear e0 e3
  have hn1 : ¬ q0 = q3 := by have h1 := HQ0.out; have h2 := HQ3.out; omega
  have hn2 : ¬ q3 = q0 := fun h => hn1 h.symm
  have HF : Hid _ := hF
  have HOR : Hid (bits .or .u32 (bits .or .u32 (bits .or .u32 (IntKind.u32.wrap (IntKind.u32.wrap (k1 : Int) * 16777216)) (IntKind.u32.wrap (IntKind.u32.wrap (k2 : Int) * 65536))) (IntKind.u32.wrap (IntKind.u32.wrap (k3 : Int) * 256))) (IntKind.u32.wrap (k4 : Int)) = (B : Int)) := show _ = _ by
    rw [← hor]
    simp only [IntKind.wrap_u32]
    rw [show (k1 : Int) % 4294967296 * 16777216 % 4294967296 = (k1 : Int) * 16777216 by omega, show (k2 : Int) % 4294967296 * 65536 % 4294967296 = (k2 : Int) * 65536 by omega, show (k3 : Int) % 4294967296 * 256 % 4294967296 = (k3 : Int) * 256 by omega, show (k4 : Int) % 4294967296 = (k4 : Int) by omega]
  clear hor
  have HS : Hid (w2.cell? ⟨b, o + 1, none⟩ = some (.int .u8 (k1 : Int)) ∧ w2.cell? ⟨b, o + 2, none⟩ = some (.int .u8 (k2 : Int)) ∧ w2.cell? ⟨b, o + 3, none⟩ = some (.int .u8 (k3 : Int)) ∧ w2.cell? ⟨b, o + 4, none⟩ = some (.int .u8 (k4 : Int))) := ⟨a1B, a2B, a3B, a4B⟩
  have hbq : b < q3 := by have h1 := HB0.out; have h2 := HQ3.out; omega
  clear hF
  refine wp_region_held_drew (S := (fun w' => (w'.cell? ⟨b, o + 1, none⟩ = some (.int .u8 (k1 : Int)) ∧ w'.cell? ⟨b, o + 2, none⟩ = some (.int .u8 (k2 : Int)) ∧ w'.cell? ⟨b, o + 3, none⟩ = some (.int .u8 (k3 : Int)) ∧ w'.cell? ⟨b, o + 4, none⟩ = some (.int .u8 (k4 : Int))))) (by kernel_rfl) (HS.out) (fun hHeld => ?_)
  try dsimp only at hHeld
  refine wpAnyH_take (i := 0) (oi := { dst := some 54, op := Go.Op.move (Go.Operand.tmp 0), type := 30, pos := "ref.go:390", after := #[], guard := none }) (v := ?_) rfl (by kernel_rfl) (by kernel_rfl) (by kernel_rfl) (fun _ _ _ h => h) (Or.inl ⟨by rfl, ?_⟩) (by assumption) ?_
  rotate_left
  · intro w7 hSw
    try dsimp only at hSw
    first | (go_simp; done) | (go_simp; with_reducible rfl)
  try simp only [Act.put, List.setIfInBounds_toArray, List.set_cons_zero, List.set_cons_succ]
  refine wpAnyH_take (i := 1) (oi := { dst := some 55, op := Go.Op.indexAddr 30 (Go.Operand.tmp 54) (Go.Operand.const (Go.Value.int Go.IntKind.i64 1)), type := 0, pos := "ref.go:390", after := #[{ on := 0, ground := Go.Ground.data }], guard := none }) (v := ?_) rfl (by kernel_rfl) (by kernel_rfl) (by kernel_rfl) (fun _ _ _ h => h) (Or.inl ⟨by rfl, ?_⟩) (by assumption) ?_
  rotate_left
  · intro w7 hSw
    try dsimp only at hSw
    first | (go_simp; done) | (go_simp; with_reducible rfl)
  try simp only [Act.put, List.setIfInBounds_toArray, List.set_cons_zero, List.set_cons_succ]
  refine wpAnyH_take (i := 2) (oi := { dst := some 56, op := Go.Op.load 5 (Go.Operand.tmp 55), type := 5, pos := "ref.go:390", after := #[{ on := 1, ground := Go.Ground.data }], guard := none }) (v := ?_) rfl (by kernel_rfl) (by kernel_rfl) (by kernel_rfl) (fun _ _ _ h => h) (Or.inl ⟨by rfl, ?_⟩) (by assumption) ?_
  rotate_left
  · intro w7 hSw
    try dsimp only at hSw
    first | (go_simp; done) | (go_simp; with_reducible rfl)
  try simp only [Act.put, List.setIfInBounds_toArray, List.set_cons_zero, List.set_cons_succ]
  refine wpAnyH_take (i := 3) (oi := { dst := some 57, op := Go.Op.convert 5 93 (Go.Operand.tmp 56), type := 93, pos := "ref.go:390", after := #[{ on := 2, ground := Go.Ground.data }], guard := none }) (v := ?_) rfl (by kernel_rfl) (by kernel_rfl) (by kernel_rfl) (fun _ _ _ h => h) (Or.inl ⟨by rfl, ?_⟩) (by assumption) ?_
  rotate_left
  · intro w7 hSw
    try dsimp only at hSw
    first | (go_simp; done) | (go_simp; with_reducible rfl)
  try simp only [Act.put, List.setIfInBounds_toArray, List.set_cons_zero, List.set_cons_succ]
  refine wpAnyH_take (i := 4) (oi := { dst := some 58, op := Go.Op.binOp Go.BinOp.shl 93 (Go.Operand.tmp 57) (Go.Operand.const (Go.Value.int Go.IntKind.u64 24)) 102, type := 93, pos := "ref.go:390", after := #[{ on := 3, ground := Go.Ground.data }], guard := none }) (v := ?_) rfl (by kernel_rfl) (by kernel_rfl) (by kernel_rfl) (fun _ _ _ h => h) (Or.inl ⟨by rfl, ?_⟩) (by assumption) ?_
  rotate_left
  · intro w7 hSw
    try dsimp only at hSw
    first | (go_simp; done) | (go_simp; with_reducible rfl)
  try simp only [Act.put, List.setIfInBounds_toArray, List.set_cons_zero, List.set_cons_succ]
  refine wpAnyH_take (i := 5) (oi := { dst := some 59, op := Go.Op.move (Go.Operand.tmp 0), type := 30, pos := "ref.go:390", after := #[], guard := none }) (v := ?_) rfl (by kernel_rfl) (by kernel_rfl) (by kernel_rfl) (fun _ _ _ h => h) (Or.inl ⟨by rfl, ?_⟩) (by assumption) ?_
  rotate_left
  · intro w7 hSw
    try dsimp only at hSw
    first | (go_simp; done) | (go_simp; with_reducible rfl)
  try simp only [Act.put, List.setIfInBounds_toArray, List.set_cons_zero, List.set_cons_succ]
  refine wpAnyH_take (i := 6) (oi := { dst := some 60, op := Go.Op.indexAddr 30 (Go.Operand.tmp 59) (Go.Operand.const (Go.Value.int Go.IntKind.i64 2)), type := 0, pos := "ref.go:390", after := #[{ on := 5, ground := Go.Ground.data }], guard := none }) (v := ?_) rfl (by kernel_rfl) (by kernel_rfl) (by kernel_rfl) (fun _ _ _ h => h) (Or.inl ⟨by rfl, ?_⟩) (by assumption) ?_
  rotate_left
  · intro w7 hSw
    try dsimp only at hSw
    first | (go_simp; done) | (go_simp; with_reducible rfl)
  try simp only [Act.put, List.setIfInBounds_toArray, List.set_cons_zero, List.set_cons_succ]
  refine wpAnyH_take (i := 7) (oi := { dst := some 61, op := Go.Op.load 5 (Go.Operand.tmp 60), type := 5, pos := "ref.go:390", after := #[{ on := 6, ground := Go.Ground.data }], guard := none }) (v := ?_) rfl (by kernel_rfl) (by kernel_rfl) (by kernel_rfl) (fun _ _ _ h => h) (Or.inl ⟨by rfl, ?_⟩) (by assumption) ?_
  rotate_left
  · intro w7 hSw
    try dsimp only at hSw
    first | (go_simp; done) | (go_simp; with_reducible rfl)
  try simp only [Act.put, List.setIfInBounds_toArray, List.set_cons_zero, List.set_cons_succ]
  refine wpAnyH_take (i := 8) (oi := { dst := some 62, op := Go.Op.convert 5 93 (Go.Operand.tmp 61), type := 93, pos := "ref.go:390", after := #[{ on := 7, ground := Go.Ground.data }], guard := none }) (v := ?_) rfl (by kernel_rfl) (by kernel_rfl) (by kernel_rfl) (fun _ _ _ h => h) (Or.inl ⟨by rfl, ?_⟩) (by assumption) ?_
  rotate_left
  · intro w7 hSw
    try dsimp only at hSw
    first | (go_simp; done) | (go_simp; with_reducible rfl)
  try simp only [Act.put, List.setIfInBounds_toArray, List.set_cons_zero, List.set_cons_succ]
  refine wpAnyH_take (i := 9) (oi := { dst := some 63, op := Go.Op.binOp Go.BinOp.shl 93 (Go.Operand.tmp 62) (Go.Operand.const (Go.Value.int Go.IntKind.u64 16)) 102, type := 93, pos := "ref.go:390", after := #[{ on := 8, ground := Go.Ground.data }], guard := none }) (v := ?_) rfl (by kernel_rfl) (by kernel_rfl) (by kernel_rfl) (fun _ _ _ h => h) (Or.inl ⟨by rfl, ?_⟩) (by assumption) ?_
  rotate_left
  · intro w7 hSw
    try dsimp only at hSw
    first | (go_simp; done) | (go_simp; with_reducible rfl)
  try simp only [Act.put, List.setIfInBounds_toArray, List.set_cons_zero, List.set_cons_succ]
  refine wpAnyH_take (i := 10) (oi := { dst := some 64, op := Go.Op.binOp Go.BinOp.or 93 (Go.Operand.tmp 58) (Go.Operand.tmp 63) 93, type := 93, pos := "ref.go:390", after := #[{ on := 4, ground := Go.Ground.data }, { on := 9, ground := Go.Ground.data }], guard := none }) (v := ?_) rfl (by kernel_rfl) (by kernel_rfl) (by kernel_rfl) (fun _ _ _ h => h) (Or.inl ⟨by rfl, ?_⟩) (by assumption) ?_
  rotate_left
  · intro w7 hSw
    try dsimp only at hSw
    first | (go_simp; done) | (go_simp; with_reducible rfl)
  try simp only [Act.put, List.setIfInBounds_toArray, List.set_cons_zero, List.set_cons_succ]
  refine wpAnyH_take (i := 11) (oi := { dst := some 65, op := Go.Op.move (Go.Operand.tmp 0), type := 30, pos := "ref.go:390", after := #[], guard := none }) (v := ?_) rfl (by kernel_rfl) (by kernel_rfl) (by kernel_rfl) (fun _ _ _ h => h) (Or.inl ⟨by rfl, ?_⟩) (by assumption) ?_
  rotate_left
  · intro w7 hSw
    try dsimp only at hSw
    first | (go_simp; done) | (go_simp; with_reducible rfl)
  try simp only [Act.put, List.setIfInBounds_toArray, List.set_cons_zero, List.set_cons_succ]
  refine wpAnyH_take (i := 12) (oi := { dst := some 66, op := Go.Op.indexAddr 30 (Go.Operand.tmp 65) (Go.Operand.const (Go.Value.int Go.IntKind.i64 3)), type := 0, pos := "ref.go:390", after := #[{ on := 11, ground := Go.Ground.data }], guard := none }) (v := ?_) rfl (by kernel_rfl) (by kernel_rfl) (by kernel_rfl) (fun _ _ _ h => h) (Or.inl ⟨by rfl, ?_⟩) (by assumption) ?_
  rotate_left
  · intro w7 hSw
    try dsimp only at hSw
    first | (go_simp; done) | (go_simp; with_reducible rfl)
  try simp only [Act.put, List.setIfInBounds_toArray, List.set_cons_zero, List.set_cons_succ]
  refine wpAnyH_take (i := 13) (oi := { dst := some 67, op := Go.Op.load 5 (Go.Operand.tmp 66), type := 5, pos := "ref.go:390", after := #[{ on := 12, ground := Go.Ground.data }], guard := none }) (v := ?_) rfl (by kernel_rfl) (by kernel_rfl) (by kernel_rfl) (fun _ _ _ h => h) (Or.inl ⟨by rfl, ?_⟩) (by assumption) ?_
  rotate_left
  · intro w7 hSw
    try dsimp only at hSw
    first | (go_simp; done) | (go_simp; with_reducible rfl)
  try simp only [Act.put, List.setIfInBounds_toArray, List.set_cons_zero, List.set_cons_succ]
  refine wpAnyH_take (i := 14) (oi := { dst := some 68, op := Go.Op.convert 5 93 (Go.Operand.tmp 67), type := 93, pos := "ref.go:390", after := #[{ on := 13, ground := Go.Ground.data }], guard := none }) (v := ?_) rfl (by kernel_rfl) (by kernel_rfl) (by kernel_rfl) (fun _ _ _ h => h) (Or.inl ⟨by rfl, ?_⟩) (by assumption) ?_
  rotate_left
  · intro w7 hSw
    try dsimp only at hSw
    first | (go_simp; done) | (go_simp; with_reducible rfl)
  try simp only [Act.put, List.setIfInBounds_toArray, List.set_cons_zero, List.set_cons_succ]
  refine wpAnyH_take (i := 15) (oi := { dst := some 69, op := Go.Op.binOp Go.BinOp.shl 93 (Go.Operand.tmp 68) (Go.Operand.const (Go.Value.int Go.IntKind.u64 8)) 102, type := 93, pos := "ref.go:390", after := #[{ on := 14, ground := Go.Ground.data }], guard := none }) (v := ?_) rfl (by kernel_rfl) (by kernel_rfl) (by kernel_rfl) (fun _ _ _ h => h) (Or.inl ⟨by rfl, ?_⟩) (by assumption) ?_
  rotate_left
  · intro w7 hSw
    try dsimp only at hSw
    first | (go_simp; done) | (go_simp; with_reducible rfl)
  try simp only [Act.put, List.setIfInBounds_toArray, List.set_cons_zero, List.set_cons_succ]
  refine wpAnyH_take (i := 16) (oi := { dst := some 70, op := Go.Op.binOp Go.BinOp.or 93 (Go.Operand.tmp 64) (Go.Operand.tmp 69) 93, type := 93, pos := "ref.go:390", after := #[{ on := 10, ground := Go.Ground.data }, { on := 15, ground := Go.Ground.data }], guard := none }) (v := ?_) rfl (by kernel_rfl) (by kernel_rfl) (by kernel_rfl) (fun _ _ _ h => h) (Or.inl ⟨by rfl, ?_⟩) (by assumption) ?_
  rotate_left
  · intro w7 hSw
    try dsimp only at hSw
    first | (go_simp; done) | (go_simp; with_reducible rfl)
  try simp only [Act.put, List.setIfInBounds_toArray, List.set_cons_zero, List.set_cons_succ]
  refine wpAnyH_take (i := 17) (oi := { dst := some 71, op := Go.Op.move (Go.Operand.tmp 0), type := 30, pos := "ref.go:390", after := #[], guard := none }) (v := ?_) rfl (by kernel_rfl) (by kernel_rfl) (by kernel_rfl) (fun _ _ _ h => h) (Or.inl ⟨by rfl, ?_⟩) (by assumption) ?_
  rotate_left
  · intro w7 hSw
    try dsimp only at hSw
    first | (go_simp; done) | (go_simp; with_reducible rfl)
  try simp only [Act.put, List.setIfInBounds_toArray, List.set_cons_zero, List.set_cons_succ]
  refine wpAnyH_take (i := 18) (oi := { dst := some 72, op := Go.Op.indexAddr 30 (Go.Operand.tmp 71) (Go.Operand.const (Go.Value.int Go.IntKind.i64 4)), type := 0, pos := "ref.go:390", after := #[{ on := 17, ground := Go.Ground.data }], guard := none }) (v := ?_) rfl (by kernel_rfl) (by kernel_rfl) (by kernel_rfl) (fun _ _ _ h => h) (Or.inl ⟨by rfl, ?_⟩) (by assumption) ?_
  rotate_left
  · intro w7 hSw
    try dsimp only at hSw
    first | (go_simp; done) | (go_simp; with_reducible rfl)
  try simp only [Act.put, List.setIfInBounds_toArray, List.set_cons_zero, List.set_cons_succ]
  refine wpAnyH_take (i := 19) (oi := { dst := some 73, op := Go.Op.load 5 (Go.Operand.tmp 72), type := 5, pos := "ref.go:390", after := #[{ on := 18, ground := Go.Ground.data }], guard := none }) (v := ?_) rfl (by kernel_rfl) (by kernel_rfl) (by kernel_rfl) (fun _ _ _ h => h) (Or.inl ⟨by rfl, ?_⟩) (by assumption) ?_
  rotate_left
  · intro w7 hSw
    try dsimp only at hSw
    first | (go_simp; done) | (go_simp; with_reducible rfl)
  try simp only [Act.put, List.setIfInBounds_toArray, List.set_cons_zero, List.set_cons_succ]
  refine wpAnyH_take (i := 20) (oi := { dst := some 74, op := Go.Op.convert 5 93 (Go.Operand.tmp 73), type := 93, pos := "ref.go:390", after := #[{ on := 19, ground := Go.Ground.data }], guard := none }) (v := ?_) rfl (by kernel_rfl) (by kernel_rfl) (by kernel_rfl) (fun _ _ _ h => h) (Or.inl ⟨by rfl, ?_⟩) (by assumption) ?_
  rotate_left
  · intro w7 hSw
    try dsimp only at hSw
    first | (go_simp; done) | (go_simp; with_reducible rfl)
  try simp only [Act.put, List.setIfInBounds_toArray, List.set_cons_zero, List.set_cons_succ]
  refine wpAnyH_take (i := 21) (oi := { dst := some 75, op := Go.Op.binOp Go.BinOp.or 93 (Go.Operand.tmp 70) (Go.Operand.tmp 74) 93, type := 93, pos := "ref.go:390", after := #[{ on := 16, ground := Go.Ground.data }, { on := 20, ground := Go.Ground.data }], guard := none }) (v := ?_) rfl (by kernel_rfl) (by kernel_rfl) (by kernel_rfl) (fun _ _ _ h => h) (Or.inl ⟨by rfl, ?_⟩) (by assumption) ?_
  rotate_left
  · intro w7 hSw
    try dsimp only at hSw
    first | (go_simp; done) | (go_simp; with_reducible rfl)
  try simp only [Act.put, List.setIfInBounds_toArray, List.set_cons_zero, List.set_cons_succ]
  refine wpAnyH_ready (rs := [22]) (by kernel_rfl) (by simp) ?_
  refine AllReadyH.cons (o := { dst := some 76, op := Go.Op.call { callee := Go.Callee.value (Go.Operand.func 88), args := #[Go.Operand.tmp 75], argTypes := #[93] }, type := 26, pos := "ref.go:390", after := #[{ on := 21, ground := Go.Ground.data }], guard := none }) rfl (fun K hK => ?_) AllReadyH.nil
  go_simp
  (go_at_call 88; rw [HOR.out]; refine (HF.out _).mono ?_; rintro e9 w9 ⟨y, rfl, hy, n9, rfl⟩)
  go_wp2_with fail
  refine hK.out _ _ (HS.out) (fun hHeld2 => ?_)
  try dsimp only at hHeld2
  clear hK hHeld
  have hHeld := hHeld2
  clear hHeld2
  try simp only [Act.put, List.setIfInBounds_toArray, List.set_cons_zero, List.set_cons_succ]
  refine wpAnyH_take (i := 23) (oi := { dst := some 77, op := Go.Op.fieldAddr 28 (Go.Operand.tmp 3) 3, type := 0, pos := "ref.go:390", after := #[{ on := 0, ground := Go.Ground.phase }, { on := 1, ground := Go.Ground.phase }, { on := 2, ground := Go.Ground.phase }, { on := 3, ground := Go.Ground.phase }, { on := 4, ground := Go.Ground.phase }, { on := 5, ground := Go.Ground.phase }, { on := 6, ground := Go.Ground.phase }, { on := 7, ground := Go.Ground.phase }, { on := 8, ground := Go.Ground.phase }, { on := 9, ground := Go.Ground.phase }, { on := 10, ground := Go.Ground.phase }, { on := 11, ground := Go.Ground.phase }, { on := 12, ground := Go.Ground.phase }, { on := 13, ground := Go.Ground.phase }, { on := 14, ground := Go.Ground.phase }, { on := 15, ground := Go.Ground.phase }, { on := 16, ground := Go.Ground.phase }, { on := 17, ground := Go.Ground.phase }, { on := 18, ground := Go.Ground.phase }, { on := 19, ground := Go.Ground.phase }, { on := 20, ground := Go.Ground.phase }, { on := 21, ground := Go.Ground.phase }, { on := 22, ground := Go.Ground.phase }], guard := none }) (v := ?_) rfl (by kernel_rfl) (by kernel_rfl) (by kernel_rfl) (fun _ _ _ h => h) (Or.inl ⟨by rfl, ?_⟩) (by assumption) ?_
  rotate_left
  · intro w7 hSw
    try dsimp only at hSw
    first | (go_simp; done) | (go_simp; with_reducible rfl)
  try simp only [Act.put, List.setIfInBounds_toArray, List.set_cons_zero, List.set_cons_succ]
  have HY : Hid (RealK B y) := hy
  clear hy
  refine wpAnyH_ready (rs := [24]) (by kernel_rfl) (by simp) ?_
  refine AllReadyH.cons (o := { dst := none, op := Go.Op.store 26 (Go.Operand.tmp 77) (Go.Operand.tmp 76), type := 0, pos := "ref.go:390", after := #[{ on := 23, ground := Go.Ground.data }, { on := 22, ground := Go.Ground.data }, { on := 22, ground := Go.Ground.chain }, { on := 0, ground := Go.Ground.phase }, { on := 1, ground := Go.Ground.phase }, { on := 2, ground := Go.Ground.phase }, { on := 3, ground := Go.Ground.phase }, { on := 4, ground := Go.Ground.phase }, { on := 5, ground := Go.Ground.phase }, { on := 6, ground := Go.Ground.phase }, { on := 7, ground := Go.Ground.phase }, { on := 8, ground := Go.Ground.phase }, { on := 9, ground := Go.Ground.phase }, { on := 10, ground := Go.Ground.phase }, { on := 11, ground := Go.Ground.phase }, { on := 12, ground := Go.Ground.phase }, { on := 13, ground := Go.Ground.phase }, { on := 14, ground := Go.Ground.phase }, { on := 15, ground := Go.Ground.phase }, { on := 16, ground := Go.Ground.phase }, { on := 17, ground := Go.Ground.phase }, { on := 18, ground := Go.Ground.phase }, { on := 19, ground := Go.Ground.phase }, { on := 20, ground := Go.Ground.phase }, { on := 21, ground := Go.Ground.phase }, { on := 22, ground := Go.Ground.phase }], guard := none }) rfl (fun K hK => ?_) AllReadyH.nil
  go_simp
  refine hK.out _ _ ?_ (fun _ => ?_)
  · refine ⟨?_, ?_, ?_, ?_⟩
    · rw [World.cell?_setCell_other _ _ _ _ (by simp <;> omega)]; exact HS.out.1
    · rw [World.cell?_setCell_other _ _ _ _ (by simp <;> omega)]; exact HS.out.2.1
    · rw [World.cell?_setCell_other _ _ _ _ (by simp <;> omega)]; exact HS.out.2.2.1
    · rw [World.cell?_setCell_other _ _ _ _ (by simp <;> omega)]; exact HS.out.2.2.2
  try simp only [Act.put, List.setIfInBounds_toArray, List.set_cons_zero, List.set_cons_succ]
  refine wpAnyH_done (by kernel_rfl) ?_ _
  go_wp2
  generalize IntKind.u32.wrap (IntKind.u32.wrap (k1 : Int) * 16777216) = s1
  generalize IntKind.u32.wrap (IntKind.u32.wrap (k2 : Int) * 65536) = s2
  generalize IntKind.u32.wrap (IntKind.u32.wrap (k3 : Int) * 256) = s3
  generalize bits .or .u32 s1 s2 = s4
  generalize bits .or .u32 s4 s3 = s5
  generalize bits .or .u32 s5 (IntKind.u32.wrap (k4 : Int)) = s6
  clear HF HS hsf HB0
  have hW := six_set (w := ((w2.drewN (1 + n9)).setCell ⟨q3, 3, none⟩ (.float .f32 y))) (b := q0) (v0 := .int .i64 3) (v1 := .bool false) (v2 := .int .i64 0) (v3 := .float .f32 y) (v4 := .string ⟨#[]⟩) (v5 := .slice none 0 0)
    (by rw [World.cell?_setCell_other _ _ _ _ (by simp <;> omega)]; exact d0) (by rw [World.cell?_setCell_other _ _ _ _ (by simp <;> omega)]; exact d1) (by rw [World.cell?_setCell_other _ _ _ _ (by simp <;> omega)]; exact d2) (by rw [World.cell?_setCell_other _ _ _ _ (by simp <;> omega)]; exact d3) (by rw [World.cell?_setCell_other _ _ _ _ (by simp <;> omega)]; exact d4) (by rw [World.cell?_setCell_other _ _ _ _ (by simp <;> omega)]; exact d5)
  have KS : Keep [q0, q3] w2 ((((((((w2.drewN (1 + n9)).setCell ⟨q3, 3, none⟩ (.float .f32 y)).setCell ⟨q0, 0, none⟩ (.int .i64 3)).setCell ⟨q0, 1, none⟩ (.bool false)).setCell ⟨q0, 2, none⟩ (.int .i64 0)).setCell ⟨q0, 3, none⟩ (.float .f32 y)).setCell ⟨q0, 4, none⟩ (.string ⟨#[]⟩)).setCell ⟨q0, 5, none⟩ (.slice none 0 0)) := (((((((((Keep.refl [q0, q3] w2).drewN (1 + n9)).setCell (p := ⟨q3, 3, none⟩) (.inl (by simp)) _).setCell (p := ⟨q0, 0, none⟩) (.inl (by simp)) _).setCell (p := ⟨q0, 1, none⟩) (.inl (by simp)) _).setCell (p := ⟨q0, 2, none⟩) (.inl (by simp)) _).setCell (p := ⟨q0, 3, none⟩) (.inl (by simp)) _).setCell (p := ⟨q0, 4, none⟩) (.inl (by simp)) _).setCell (p := ⟨q0, 5, none⟩) (.inl (by simp)) _)
  generalize ((((((((w2.drewN (1 + n9)).setCell ⟨q3, 3, none⟩ (.float .f32 y)).setCell ⟨q0, 0, none⟩ (.int .i64 3)).setCell ⟨q0, 1, none⟩ (.bool false)).setCell ⟨q0, 2, none⟩ (.int .i64 0)).setCell ⟨q0, 3, none⟩ (.float .f32 y)).setCell ⟨q0, 4, none⟩ (.string ⟨#[]⟩)).setCell ⟨q0, 5, none⟩ (.slice none 0 0)) = W at hW KS ⊢
  obtain ⟨r0, r1, r2, r3, r4, r5⟩ := hW
  refine bodyPost_ret (v := .agg #[.int .i64 3, .bool false, .int .i64 0, .float .f32 y, .string ⟨#[]⟩, .slice none 0 0]) (by simp [results, Try.results47, go_sem, r0, r1, r2, r3, r4, r5]) rfl ?_
  have hkp : Keep [] w W := HK2.out.more KS (fun x hx => .inr (by have h1 := HQ0.out; have h2 := HQ3.out; simp at hx; omega))
  refine ⟨⟨3, false, 0, y, ⟨#[]⟩, []⟩, .slice none 0 0, rfl, Ts.nil _, (fun k h => by simp [Value.ownBlock] at h), hkp, ?_⟩
  exact ⟨by rw [HK.out]; rfl, ⟨.inr rfl, .inr rfl, .inl rfl, .inr rfl, .inr rfl⟩, ⟨by simp, by simp, by simp, by simp, HY.out.1, Nat.zero_le _⟩, (fun h => by simp at h), (fun h => by simp at h), (fun _ _ => by rw [← HB.out]; exact HY.out), (fun h => by simp at h), (fun h => by simp at h)⟩
end Go.Proofs.Ytppimacfeelneaa

/- first: a piece. -/
namespace Go.Proofs.Ytppimacfeelneaa
open Go.RowKit Go.PlainAid Go.Lib

set_option maxRecDepth 1000000 in
set_option maxHeartbeats 1600000 in
theorem first_4 (v : Value) (l : List UInt8) (hln : l.length ≤ 10000) (h2 : 2 ≤ l.length) (hK : (l.getD 0 0).toNat = 4) (w : World) (hv : Bs w v l) :
    Calls Try.prog 47 #[v] w fun e w' => FstA l w e w' := by
  have hl0 : l ≠ [] := by intro h; rw [h] at h2; simp at h2
  have kA : Keep [] w (w.alloc (.cells #[.int .i64 0, .bool false, .int .i64 0, .float .f32 0, .string ⟨#[]⟩, .slice none 0 0] 28)) := Keep.alloc1 w _
  have kB : Keep [] (w.alloc (.cells #[.int .i64 0, .bool false, .int .i64 0, .float .f32 0, .string ⟨#[]⟩, .slice none 0 0] 28)) ((w.alloc (.cells #[.int .i64 0, .bool false, .int .i64 0, .float .f32 0, .string ⟨#[]⟩, .slice none 0 0] 28)).alloc (.cells #[.int .i64 4, .bool false, .int .i64 0, .float .f32 0, .string ⟨#[]⟩, .slice none 0 0] 28)) := Keep.alloc1 _ _
  have hV : Bs ((w.alloc (.cells #[.int .i64 0, .bool false, .int .i64 0, .float .f32 0, .string ⟨#[]⟩, .slice none 0 0] 28)).alloc (.cells #[.int .i64 4, .bool false, .int .i64 0, .float .f32 0, .string ⟨#[]⟩, .slice none 0 0] 28)) v l := (hv.keep kA (Off.nil _)).keep kB (Off.nil _)
  have hX := dText_any v l hln hl0 1 (by omega) ((w.alloc (.cells #[.int .i64 0, .bool false, .int .i64 0, .float .f32 0, .string ⟨#[]⟩, .slice none 0 0] 28)).alloc (.cells #[.int .i64 4, .bool false, .int .i64 0, .float .f32 0, .string ⟨#[]⟩, .slice none 0 0] 28)) hV
  have HKW : Hid (Keep [] w ((w.alloc (.cells #[.int .i64 0, .bool false, .int .i64 0, .float .f32 0, .string ⟨#[]⟩, .slice none 0 0] 28)).alloc (.cells #[.int .i64 4, .bool false, .int .i64 0, .float .f32 0, .string ⟨#[]⟩, .slice none 0 0] 28)) ∧ Keep [] (w.alloc (.cells #[.int .i64 0, .bool false, .int .i64 0, .float .f32 0, .string ⟨#[]⟩, .slice none 0 0] 28)) ((w.alloc (.cells #[.int .i64 0, .bool false, .int .i64 0, .float .f32 0, .string ⟨#[]⟩, .slice none 0 0] 28)).alloc (.cells #[.int .i64 4, .bool false, .int .i64 0, .float .f32 0, .string ⟨#[]⟩, .slice none 0 0] 28))) := ⟨kA.trans' kB, kB⟩
  rcases hv.cases with ⟨h, _⟩ | ⟨_, b, o, cap, rfl, _, hlc, hcap, hc⟩
  · exact absurd h hl0
  have a0 := hc 0 (by omega)
  rw [hK, Nat.add_zero] at a0
  have a1 := hc 1 (by omega)
  have a0A := kA.cell' a0 (by simp)
  have a0B := kB.cell' a0A (by simp)
  have a1B := kB.cell' (kA.cell' a1 (by simp)) (by simp)
  have t0 : ¬ ((l.length : Int) < 2) := by omega
  have HK : Hid ((l.getD 0 0).toNat = 4) := hK
  have hsf := store_f32
  simp only [Go.stored] at hsf
  clear hc hV hv kA kB a0 a1 hK hl0
  go_enter Try.func47, Try.ntmps47
  go_wp2_with fail
  refine hX.mono ?_
  rintro e9 w2 ⟨⟨y, q, ok, rfl, hy, _, hall⟩, hw2⟩
  have k2 : Keep [] ((w.alloc (.cells #[.int .i64 0, .bool false, .int .i64 0, .float .f32 0, .string ⟨#[]⟩, .slice none 0 0] 28)).alloc (.cells #[.int .i64 4, .bool false, .int .i64 0, .float .f32 0, .string ⟨#[]⟩, .slice none 0 0] 28)) w2 := by rw [hw2]; exact Keep.refl _ _
  have HALL : Hid (y.size ≤ 256 ∧ ∀ (t : ByteArray) r, t.size ≤ 256 → l.drop 1 = textB t ++ r → y = t) := ⟨hy, fun t r h1 h2 => (hall t r h1 h2).1⟩
  clear hw2 hX hall hy
  obtain ⟨⟨c0, c1, c2, c3, c4, c5⟩, hf3⟩ := six_cells k2 (by simp)
  obtain ⟨⟨d0, d1, d2, d3, d4, d5⟩, hf0⟩ := six_cells (HKW.out.2.trans' k2) (by simp)
  rw [show (w.alloc (.cells #[.int .i64 0, .bool false, .int .i64 0, .float .f32 0, .string ⟨#[]⟩, .slice none 0 0] 28)).heap.size = w.heap.size + 1 by simp] at c0 c1 c2 c3 c4 c5
  have f3 := hf3 4
  rw [show (w.alloc (.cells #[.int .i64 0, .bool false, .int .i64 0, .float .f32 0, .string ⟨#[]⟩, .slice none 0 0] 28)).heap.size = w.heap.size + 1 by simp] at f3
  have g0 := hf0 0
  have g1 := hf0 1
  have g2 := hf0 2
  have g3 := hf0 3
  have g4 := hf0 4
  have g5 := hf0 5
  have HK2 : Hid (Keep [] w w2) := HKW.out.1.trans' k2
  clear k2 hf0 hf3 HKW a0A a0B a1B
  obtain ⟨q0, HQ0⟩ : ∃ q, Hid (q = w.heap.size) := ⟨_, rfl⟩
  obtain ⟨q3, HQ3⟩ : ∃ q, Hid (q = w.heap.size + 1) := ⟨_, rfl⟩
  have e0 := HQ0.out
  have e3 := HQ3.out
  rw [← e3] at c0 c1 c2 c3 c4 c5 f3 ⊢
  rw [← e0] at d0 d1 d2 d3 d4 d5 g0 g1 g2 g3 g4 g5 ⊢
  clear e0 e3
  have hn1 : ¬ q0 = q3 := by have h1 := HQ0.out; have h2 := HQ3.out; omega
  have hn2 : ¬ q3 = q0 := fun h => hn1 h.symm
  go_wp2
  have hW := six_set (w := (w2.setCell ⟨q3, 4, none⟩ (.string y))) (b := q0) (v0 := .int .i64 4) (v1 := .bool false) (v2 := .int .i64 0) (v3 := .float .f32 0) (v4 := .string y) (v5 := .slice none 0 0)
    (by rw [World.cell?_setCell_other _ _ _ _ (by simp <;> omega)]; exact d0) (by rw [World.cell?_setCell_other _ _ _ _ (by simp <;> omega)]; exact d1) (by rw [World.cell?_setCell_other _ _ _ _ (by simp <;> omega)]; exact d2) (by rw [World.cell?_setCell_other _ _ _ _ (by simp <;> omega)]; exact d3) (by rw [World.cell?_setCell_other _ _ _ _ (by simp <;> omega)]; exact d4) (by rw [World.cell?_setCell_other _ _ _ _ (by simp <;> omega)]; exact d5)
  have KS : Keep [q0, q3] w2 (((((((w2.setCell ⟨q3, 4, none⟩ (.string y)).setCell ⟨q0, 0, none⟩ (.int .i64 4)).setCell ⟨q0, 1, none⟩ (.bool false)).setCell ⟨q0, 2, none⟩ (.int .i64 0)).setCell ⟨q0, 3, none⟩ (.float .f32 0)).setCell ⟨q0, 4, none⟩ (.string y)).setCell ⟨q0, 5, none⟩ (.slice none 0 0)) := ((((((((Keep.refl [q0, q3] w2).setCell (p := ⟨q3, 4, none⟩) (.inl (by simp)) _).setCell (p := ⟨q0, 0, none⟩) (.inl (by simp)) _).setCell (p := ⟨q0, 1, none⟩) (.inl (by simp)) _).setCell (p := ⟨q0, 2, none⟩) (.inl (by simp)) _).setCell (p := ⟨q0, 3, none⟩) (.inl (by simp)) _).setCell (p := ⟨q0, 4, none⟩) (.inl (by simp)) _).setCell (p := ⟨q0, 5, none⟩) (.inl (by simp)) _)
  generalize (((((((w2.setCell ⟨q3, 4, none⟩ (.string y)).setCell ⟨q0, 0, none⟩ (.int .i64 4)).setCell ⟨q0, 1, none⟩ (.bool false)).setCell ⟨q0, 2, none⟩ (.int .i64 0)).setCell ⟨q0, 3, none⟩ (.float .f32 0)).setCell ⟨q0, 4, none⟩ (.string y)).setCell ⟨q0, 5, none⟩ (.slice none 0 0)) = W at hW KS ⊢
  obtain ⟨r0, r1, r2, r3, r4, r5⟩ := hW
  refine bodyPost_ret (v := .agg #[.int .i64 4, .bool false, .int .i64 0, .float .f32 0, .string y, .slice none 0 0]) (by simp [results, Try.results47, go_sem, r0, r1, r2, r3, r4, r5]) rfl ?_
  have hkp : Keep [] w W := HK2.out.more KS (fun x hx => .inr (by have h1 := HQ0.out; have h2 := HQ3.out; simp at hx; omega))
  refine ⟨⟨4, false, 0, 0, y, []⟩, .slice none 0 0, rfl, Ts.nil _, (fun k h => by simp [Value.ownBlock] at h), hkp, ?_⟩
  exact ⟨by rw [HK.out]; rfl, ⟨.inr rfl, .inr rfl, .inr rfl, .inl rfl, .inr rfl⟩, ⟨by simp, by simp, by simp, by simp, by simp, by have := HALL.out.1; show y.size ≤ _; omega⟩, (fun h => by simp at h), (fun h => by simp at h), (fun h => by simp at h), (fun _ => HALL.out.2), (fun h => by simp at h)⟩
end Go.Proofs.Ytppimacfeelneaa

/- first: a piece. -/
namespace Go.Proofs.Ytppimacfeelneaa
open Go.RowKit Go.PlainAid Go.Lib

set_option maxRecDepth 1000000 in
set_option maxHeartbeats 1600000 in
theorem first_5 (v : Value) (l : List UInt8) (hln : l.length ≤ 10000) (h2 : 2 ≤ l.length) (hK : (l.getD 0 0).toNat = 5) (w : World) (hv : Bs w v l) :
    Calls Try.prog 47 #[v] w fun e w' => FstA l w e w' := by
  have hl0 : l ≠ [] := by intro h; rw [h] at h2; simp at h2
  have kA : Keep [] w (w.alloc (.cells #[.int .i64 0, .bool false, .int .i64 0, .float .f32 0, .string ⟨#[]⟩, .slice none 0 0] 28)) := Keep.alloc1 w _
  have kB : Keep [] (w.alloc (.cells #[.int .i64 0, .bool false, .int .i64 0, .float .f32 0, .string ⟨#[]⟩, .slice none 0 0] 28)) ((w.alloc (.cells #[.int .i64 0, .bool false, .int .i64 0, .float .f32 0, .string ⟨#[]⟩, .slice none 0 0] 28)).alloc (.cells #[.int .i64 5, .bool false, .int .i64 0, .float .f32 0, .string ⟨#[]⟩, .slice none 0 0] 28)) := Keep.alloc1 _ _
  have hV : Bs ((w.alloc (.cells #[.int .i64 0, .bool false, .int .i64 0, .float .f32 0, .string ⟨#[]⟩, .slice none 0 0] 28)).alloc (.cells #[.int .i64 5, .bool false, .int .i64 0, .float .f32 0, .string ⟨#[]⟩, .slice none 0 0] 28)) v l := (hv.keep kA (Off.nil _)).keep kB (Off.nil _)
  have hX := dTexts_any v l hln hl0 1 (by omega) ((w.alloc (.cells #[.int .i64 0, .bool false, .int .i64 0, .float .f32 0, .string ⟨#[]⟩, .slice none 0 0] 28)).alloc (.cells #[.int .i64 5, .bool false, .int .i64 0, .float .f32 0, .string ⟨#[]⟩, .slice none 0 0] 28)) hV
  have HKW : Hid (Keep [] w ((w.alloc (.cells #[.int .i64 0, .bool false, .int .i64 0, .float .f32 0, .string ⟨#[]⟩, .slice none 0 0] 28)).alloc (.cells #[.int .i64 5, .bool false, .int .i64 0, .float .f32 0, .string ⟨#[]⟩, .slice none 0 0] 28)) ∧ Keep [] (w.alloc (.cells #[.int .i64 0, .bool false, .int .i64 0, .float .f32 0, .string ⟨#[]⟩, .slice none 0 0] 28)) ((w.alloc (.cells #[.int .i64 0, .bool false, .int .i64 0, .float .f32 0, .string ⟨#[]⟩, .slice none 0 0] 28)).alloc (.cells #[.int .i64 5, .bool false, .int .i64 0, .float .f32 0, .string ⟨#[]⟩, .slice none 0 0] 28))) := ⟨kA.trans' kB, kB⟩
  rcases hv.cases with ⟨h, _⟩ | ⟨_, b, o, cap, rfl, _, hlc, hcap, hc⟩
  · exact absurd h hl0
  have a0 := hc 0 (by omega)
  rw [hK, Nat.add_zero] at a0
  have a1 := hc 1 (by omega)
  have a0A := kA.cell' a0 (by simp)
  have a0B := kB.cell' a0A (by simp)
  have a1B := kB.cell' (kA.cell' a1 (by simp)) (by simp)
  have t0 : ¬ ((l.length : Int) < 2) := by omega
  have HK : Hid ((l.getD 0 0).toNat = 5) := hK
  have hsf := store_f32
  simp only [Go.stored] at hsf
  clear hc hV hv kA kB a0 a1 hK hl0
  go_enter Try.func47, Try.ntmps47
  go_wp2_with fail
  refine hX.mono ?_
  rintro e9 w2 ⟨vy, ts, rfl, hts, hy1, hy2, hy3, k2, hall⟩
  obtain ⟨ay, cy, rfl, _, _, _, _⟩ := hts.ex
  have HTY : Hid (Ts w2 (.slice ay ts.length cy) ts ∧ ∀ k, (Value.slice ay ts.length cy).ownBlock = some k → w.heap.size + 2 ≤ k) := ⟨hts, fun k hk => by have := hy3 k hk; simp at this; omega⟩
  have HALL : Hid (∀ tl r, TxsAt l 1 tl r → ts = tl) := hall
  clear hX hall hts hy1 hy2 hy3
  obtain ⟨⟨c0, c1, c2, c3, c4, c5⟩, hf3⟩ := six_cells k2 (by simp)
  obtain ⟨⟨d0, d1, d2, d3, d4, d5⟩, hf0⟩ := six_cells (HKW.out.2.trans' k2) (by simp)
  rw [show (w.alloc (.cells #[.int .i64 0, .bool false, .int .i64 0, .float .f32 0, .string ⟨#[]⟩, .slice none 0 0] 28)).heap.size = w.heap.size + 1 by simp] at c0 c1 c2 c3 c4 c5
  have f3 := hf3 5
  rw [show (w.alloc (.cells #[.int .i64 0, .bool false, .int .i64 0, .float .f32 0, .string ⟨#[]⟩, .slice none 0 0] 28)).heap.size = w.heap.size + 1 by simp] at f3
  have g0 := hf0 0
  have g1 := hf0 1
  have g2 := hf0 2
  have g3 := hf0 3
  have g4 := hf0 4
  have g5 := hf0 5
  have HK2 : Hid (Keep [] w w2) := HKW.out.1.trans' k2
  clear k2 hf0 hf3 HKW a0A a0B a1B
  obtain ⟨q0, HQ0⟩ : ∃ q, Hid (q = w.heap.size) := ⟨_, rfl⟩
  obtain ⟨q3, HQ3⟩ : ∃ q, Hid (q = w.heap.size + 1) := ⟨_, rfl⟩
  have e0 := HQ0.out
  have e3 := HQ3.out
  rw [← e3] at c0 c1 c2 c3 c4 c5 f3 ⊢
  rw [← e0] at d0 d1 d2 d3 d4 d5 g0 g1 g2 g3 g4 g5 ⊢
  clear e0 e3
  have hn1 : ¬ q0 = q3 := by have h1 := HQ0.out; have h2 := HQ3.out; omega
  have hn2 : ¬ q3 = q0 := fun h => hn1 h.symm
  go_wp2
  have hW := six_set (w := (w2.setCell ⟨q3, 5, none⟩ (.slice ay ts.length cy))) (b := q0) (v0 := .int .i64 5) (v1 := .bool false) (v2 := .int .i64 0) (v3 := .float .f32 0) (v4 := .string ⟨#[]⟩) (v5 := .slice ay ts.length cy)
    (by rw [World.cell?_setCell_other _ _ _ _ (by simp <;> omega)]; exact d0) (by rw [World.cell?_setCell_other _ _ _ _ (by simp <;> omega)]; exact d1) (by rw [World.cell?_setCell_other _ _ _ _ (by simp <;> omega)]; exact d2) (by rw [World.cell?_setCell_other _ _ _ _ (by simp <;> omega)]; exact d3) (by rw [World.cell?_setCell_other _ _ _ _ (by simp <;> omega)]; exact d4) (by rw [World.cell?_setCell_other _ _ _ _ (by simp <;> omega)]; exact d5)
  have KS : Keep [q0, q3] w2 (((((((w2.setCell ⟨q3, 5, none⟩ (.slice ay ts.length cy)).setCell ⟨q0, 0, none⟩ (.int .i64 5)).setCell ⟨q0, 1, none⟩ (.bool false)).setCell ⟨q0, 2, none⟩ (.int .i64 0)).setCell ⟨q0, 3, none⟩ (.float .f32 0)).setCell ⟨q0, 4, none⟩ (.string ⟨#[]⟩)).setCell ⟨q0, 5, none⟩ (.slice ay ts.length cy)) := ((((((((Keep.refl [q0, q3] w2).setCell (p := ⟨q3, 5, none⟩) (.inl (by simp)) _).setCell (p := ⟨q0, 0, none⟩) (.inl (by simp)) _).setCell (p := ⟨q0, 1, none⟩) (.inl (by simp)) _).setCell (p := ⟨q0, 2, none⟩) (.inl (by simp)) _).setCell (p := ⟨q0, 3, none⟩) (.inl (by simp)) _).setCell (p := ⟨q0, 4, none⟩) (.inl (by simp)) _).setCell (p := ⟨q0, 5, none⟩) (.inl (by simp)) _)
  generalize (((((((w2.setCell ⟨q3, 5, none⟩ (.slice ay ts.length cy)).setCell ⟨q0, 0, none⟩ (.int .i64 5)).setCell ⟨q0, 1, none⟩ (.bool false)).setCell ⟨q0, 2, none⟩ (.int .i64 0)).setCell ⟨q0, 3, none⟩ (.float .f32 0)).setCell ⟨q0, 4, none⟩ (.string ⟨#[]⟩)).setCell ⟨q0, 5, none⟩ (.slice ay ts.length cy)) = W at hW KS ⊢
  obtain ⟨r0, r1, r2, r3, r4, r5⟩ := hW
  refine bodyPost_ret (v := .agg #[.int .i64 5, .bool false, .int .i64 0, .float .f32 0, .string ⟨#[]⟩, .slice ay ts.length cy]) (by simp [results, Try.results47, go_sem, r0, r1, r2, r3, r4, r5]) rfl ?_
  have hkp : Keep [] w W := HK2.out.more KS (fun x hx => .inr (by have h1 := HQ0.out; have h2 := HQ3.out; simp at hx; omega))
  refine ⟨⟨5, false, 0, 0, ⟨#[]⟩, ts⟩, .slice ay ts.length cy, rfl, HTY.out.1.keep KS (fun k hk hm => ?_), (fun k hk => by have h1 := HTY.out.2 k hk; omega), hkp, ?_⟩
  · have h1 := HTY.out.2 k hk
    have h2 := HQ0.out
    have h3 := HQ3.out
    simp at hm
    omega
  exact ⟨by rw [HK.out]; rfl, ⟨.inr rfl, .inr rfl, .inr rfl, .inr rfl, .inl rfl⟩, ⟨by simp, by simp, by simp, by simp, by simp, Nat.zero_le _⟩, (fun h => by simp at h), (fun h => by simp at h), (fun h => by simp at h), (fun h => by simp at h), (fun _ => HALL.out)⟩
end Go.Proofs.Ytppimacfeelneaa
