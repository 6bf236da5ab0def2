/- The statements' own small function awake answers true. -/
import Derived.Test.YtkkbnbcjkjbepabSubW
namespace Go.Proofs.Ytkkbnbcjkjbepab
open Go.RowKit Go.PlainAid

theorem size_box {w w' : World} {X : Obj} (hb : Below (w.alloc X).heap.size (w.alloc X) w') : w.heap.size < w'.heap.size := by
  have := hb.size; simp at this; omega
theorem keep_box {w w' : World} {C : Array Value} {t : TypeId} (hb : Below (w.alloc (.cells C t)).heap.size (w.alloc (.cells C t)) w') (o : Nat) : w'.cell? ⟨w.heap.size, o, none⟩ = C[o]? := by
  rw [hb.cell (p := ⟨w.heap.size, o, none⟩) (by simp), World.cell?_alloc_new]
theorem keep_more {w w' : World} {X : Obj} (hb : Below (w.alloc X).heap.size (w.alloc X) w') {b o : Nat} (h : b < w.heap.size) : w'.cell? ⟨b, o, none⟩ = w.cell? ⟨b, o, none⟩ := by
  rw [hb.cell (p := ⟨b, o, none⟩) (by simp; omega)]
  exact World.cell?_alloc_past _ _ _ h

theorem lit1 : subT [117, 115, 101, 114, 58, 97, 110, 110] = [117, 115, 101, 114] ∧ subI [117, 115, 101, 114, 58, 97, 110, 110] = [97, 110, 110] ∧ subR [117, 115, 101, 114, 58, 97, 110, 110] = [] ∧ subE [117, 115, 101, 114, 58, 97, 110, 110] = 0 := by decide +kernel
theorem lit2 : subT [117, 115, 101, 114, 58, 42] = [117, 115, 101, 114] ∧ subI [117, 115, 101, 114, 58, 42] = [42] ∧ subR [117, 115, 101, 114, 58, 42] = [] ∧ subE [117, 115, 101, 114, 58, 42] = 0 := by decide +kernel
theorem lit3 : subT [116, 101, 97, 109, 58, 120, 35, 109, 101, 109, 98, 101, 114] = [116, 101, 97, 109] ∧ subI [116, 101, 97, 109, 58, 120, 35, 109, 101, 109, 98, 101, 114] = [120] ∧ subR [116, 101, 97, 109, 58, 120, 35, 109, 101, 109, 98, 101, 114] = [109, 101, 109, 98, 101, 114] ∧ subE [116, 101, 97, 109, 58, 120, 35, 109, 101, 109, 98, 101, 114] = 0 := by decide +kernel

theorem subject_lit (l a b c : List UInt8) (w : World) (hl : l.length ≤ 100) (h : subT l = a ∧ subI l = b ∧ subR l = c ∧ subE l = 0) :
    Calls Try.prog 18 #[.string ⟨l.toArray⟩] w fun e w' => e = .returned (.tuple #[.agg #[.string ⟨a.toArray⟩, .string ⟨b.toArray⟩, .string ⟨c.toArray⟩], .int .i64 0]) ∧ Below w.heap.size w w' := by
  obtain ⟨rfl, rfl, rfl, h4⟩ := h
  have := subject_any ⟨l.toArray⟩ w (by unfold maxLen; simp [ByteArray.size]; omega)
  rw [ByteArray.toList_mk, h4] at this
  exact this

set_option maxHeartbeats 400000 in
theorem awake_any (w : World) : Calls Try.prog 15 #[] w fun e w' => e = .returned (.bool true) ∧ Below w.heap.size w w' := by
  go_enter Try.func15, Try.ntmps15
  go_wp2_with fail
  refine (subject_lit [117, 115, 101, 114, 58, 97, 110, 110] _ _ _ _ (by decide) lit1).mono ?_
  rintro e w1 ⟨rfl, hb1⟩
  go_wp2_with fail
  refine (subject_lit [117, 115, 101, 114, 58, 42] _ _ _ _ (by decide) lit2).mono ?_
  rintro e w2 ⟨rfl, hb2⟩
  go_wp2_with fail
  refine (subject_lit [116, 101, 97, 109, 58, 120, 35, 109, 101, 109, 98, 101, 114] _ _ _ _ (by decide) lit3).mono ?_
  rintro e w3 ⟨rfl, hb3⟩
  have hz2 : w1.heap.size < w2.heap.size := size_box hb2
  have hz3 : w2.heap.size < w3.heap.size := size_box hb3
  have lt1 : w1.heap.size < w3.heap.size := by omega
  have q1 : ∀ o, w3.cell? ⟨w1.heap.size, o, none⟩ = #[Value.string ⟨#[117, 115, 101, 114]⟩, .string ⟨#[97, 110, 110]⟩, .string ⟨#[]⟩][o]? := fun o => by
    rw [keep_more hb3 hz2]; exact keep_box hb2 o
  have q2 : ∀ o, w3.cell? ⟨w2.heap.size, o, none⟩ = #[Value.string ⟨#[117, 115, 101, 114]⟩, .string ⟨#[42]⟩, .string ⟨#[]⟩][o]? := fun o => keep_box hb3 o
  have hb : Below w.heap.size w w3 := hb1.trans ((below_box hb2).mono hb1.size |>.trans ((below_box hb3).mono (by have := hb1.size; omega)))
  clear hb1 hb2 hb3
  go_wp2
  go_ret
  exact ⟨rfl, hb.alloc hb.size _⟩
end Go.Proofs.Ytkkbnbcjkjbepab
