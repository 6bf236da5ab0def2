/- What the comparing functions of package ident, and those of the document's answer, answer for every objects and subjects. -/
import Derived.Test.YtkkbnbcjkjbepabKindW
import Derived.Lib.Bytealg
namespace Go.Proofs.Ytkkbnbcjkjbepab
open Go.RowKit Go.PlainAid

def cmpT (a b : List UInt8) : Int := Lib.compareBytes a b
def cmpO (t i t' i' : List UInt8) : Int := if (cmpT t t' != 0) = true then cmpT t t' else cmpT i i'
def cmpS (t i r t' i' r' : List UInt8) : Int := if (cmpO t i t' i' != 0) = true then cmpO t i t' i' else cmpT r r'

set_option maxHeartbeats 400000 in
set_option maxRecDepth 100000 in
theorem cmpString_any (a b : ByteArray) (w : World) :
    Calls Try.prog 31 #[.string a, .string b] w fun e w' => e = .returned (.int .i64 (cmpT a.toList b.toList)) ∧ w' = w := by
  go_enter Try.func31, Try.ntmps31
  go_wp2
  rw [run_callFunc_extern Try.func34 (by kernel_rfl) (by kernel_rfl) (by kernel_rfl) (e := Extern.BytealgCompare.compare) (by kernel_rfl), Lib.run_compareString]
  simp only [Result.andThen]
  rw [Oper.upon_value]
  go_wp2
  go_ret
  exact ⟨ret_int (by unfold cmpT; rw [ByteArray.toList_eq, ByteArray.toList_eq]), rfl⟩

set_option maxHeartbeats 400000 in
theorem cmp_any (a b : ByteArray) (w : World) :
    Calls Try.prog 23 #[.string a, .string b] w fun e w' => e = .returned (.int .i64 (cmpT a.toList b.toList)) ∧ w' = w := by
  go_enter Try.func23, Try.ntmps23
  go_wp2_with (go_at_call 31; refine (cmpString_any _ _ _).mono ?_; rintro e w9 ⟨rfl, hw⟩; obtain rfl := hw.symm)
  go_ret
  exact ⟨rfl, rfl⟩

theorem below_two {w : World} {X Y : Obj} : Below w.heap.size w ((w.alloc X).alloc Y) := ((Below.refl _ _).alloc (Nat.le_refl _) _).alloc (by simp) _

set_option maxHeartbeats 400000 in
theorem cmpObj_any (t i t' i' : ByteArray) (w : World) :
    Calls Try.prog 9 #[.agg #[.string t, .string i], .agg #[.string t', .string i']] w fun e w' => e = .returned (.int .i64 (cmpO t.toList i.toList t'.toList i'.toList)) ∧ Below w.heap.size w w' := by
  cases h : (cmpT t.toList t'.toList != 0)
  all_goals
    go_enter Try.func9, Try.ntmps9
    go_wp2_with (go_at_call 23; refine (cmp_any _ _ _).mono ?_; rintro e w9 ⟨rfl, hw⟩; obtain rfl := hw.symm)
    go_ret
    exact ⟨ret_int (by unfold cmpO; rw [h]; rfl), below_two⟩

set_option maxHeartbeats 400000 in
theorem cmpSub_any (t i r t' i' r' : ByteArray) (w : World) :
    Calls Try.prog 11 #[.agg #[.string t, .string i, .string r], .agg #[.string t', .string i', .string r']] w fun e w' => e = .returned (.int .i64 (cmpS t.toList i.toList r.toList t'.toList i'.toList r'.toList)) ∧ Below w.heap.size w w' := by
  cases h : (cmpO t.toList i.toList t'.toList i'.toList != 0)
  all_goals
    go_enter Try.func11, Try.ntmps11
    go_wp2_with (first | (go_at_call 9; refine (cmpObj_any _ _ _ _ _).mono ?_; rintro e w1 ⟨rfl, hb⟩; obtain ⟨hc, hf⟩ := bcell hb) | (go_at_call 23; refine (cmp_any _ _ _).mono ?_; rintro e w9 ⟨rfl, hw⟩; obtain rfl := hw.symm))
    go_ret
    exact ⟨ret_int (by unfold cmpS; rw [h]; rfl), below_two.trans (hb.mono (by simp; omega))⟩
end Go.Proofs.Ytkkbnbcjkjbepab
