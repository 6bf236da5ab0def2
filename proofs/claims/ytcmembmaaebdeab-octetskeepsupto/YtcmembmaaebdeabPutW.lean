/- One thing is written: the program's write puts its bytes behind what is there; into a Writer that isn't there nothing is written. -/
import Derived.Test.YtcmembmaaebdeabPutM
namespace Go.Proofs.Ytcmembmaaebdeab
open Go.RowKit Go.PlainAid Go.Lib

/-- the thing as a value; u: its bytes' own slice -/
abbrev PutD.val (p : PutD) (u : Value) : Value := .agg #[.int .i64 p.on, .int .i64 p.kind, .int .u64 (p.uint : Int), .int .i64 p.int, .float .f32 p.real, .string p.text, u]
abbrev PutD.blk (p : PutD) (u : Value) : Obj := .cells #[.int .i64 p.on, .int .i64 p.kind, .int .u64 (p.uint : Int), .int .i64 p.int, .float .f32 p.real, .string p.text, u] 47

set_option maxRecDepth 1000000 in
set_option maxHeartbeats 6400000 in
theorem write_any (b o : Nat) (l : List UInt8) (rb : Option Nat) (p : PutD) (hp : p.Ok) (u r : Value) (w : World) (hw : Wr w b o l rb) (hr : Bs w r p.raw) (hn : l.length + p.bulk ≤ 140737488355328) :
    Calls Try.prog 14 #[.pointer (some ⟨b, o, none⟩), p.val u, r] w fun e w' => e = .returned (.tuple #[]) ∧ Wrote w w' b o l p.bytes rb := by
  have hP := pick_any p.kind 6 hp.kind0 hp.kind1 (by omega) (w.alloc (p.blk u))
  rw [p.k_eq] at hP
  have K0 := Keep.alloc1 w (p.blk u)
  have W0 := hw.keep K0 (by simp) (fun _ _ => by simp)
  have R0 := hr.keep K0 (Off.nil _)
  have hk := p.k_lt
  have hc : p.k = 0 ∨ p.k = 1 ∨ p.k = 2 ∨ p.k = 3 ∨ p.k = 4 ∨ p.k = 5 := by omega
  unfold PutD.bulk at hn
  have hbl : p.bytes = p.bytes := rfl
  conv at hbl => rhs; unfold PutD.bytes
  rcases hc with e | e | e | e | e | e <;> simp only [e, reduceIte, Nat.reduceEqDiff] at hbl hP <;> rw [hbl] <;> clear hbl
  · have hC := wByte_any b o l rb (p.uint % 256) (by omega) _ W0 (by omega)
    have HK : Hid (Keep [] w (w.alloc (p.blk u))) := K0
    clear W0 R0 hw hr K0
    go_enter Try.func14, Try.ntmps14
    go_wp2_with fail
    refine hP.mono ?_
    rintro e1 w1 ⟨rfl, hw1⟩
    obtain rfl := hw1.symm
    clear hP
    go_wp2_with fail
    refine hC.mono ?_
    rintro e2 w2 ⟨rfl, h2⟩
    have HW : Hid (Wrote w w2 b o l _ rb) := Wrote.after h2 HK.out
    clear h2 hC
    go_wp2
    go_end0
    exact ⟨rfl, HW.out⟩
  · have hC := wUint_any b o l rb p.uint hp.uint1 _ W0 (by omega)
    have HK : Hid (Keep [] w (w.alloc (p.blk u))) := K0
    clear W0 R0 hw hr K0
    go_enter Try.func14, Try.ntmps14
    go_wp2_with fail
    refine hP.mono ?_
    rintro e1 w1 ⟨rfl, hw1⟩
    obtain rfl := hw1.symm
    clear hP
    go_wp2_with fail
    refine hC.mono ?_
    rintro e2 w2 ⟨rfl, h2⟩
    have HW : Hid (Wrote w w2 b o l _ rb) := Wrote.after h2 HK.out
    clear h2 hC
    go_wp2
    go_end0
    exact ⟨rfl, HW.out⟩
  · have hC := wInt_any b o l rb p.int hp.int0 hp.int1 _ W0 (by omega)
    have HK : Hid (Keep [] w (w.alloc (p.blk u))) := K0
    clear W0 R0 hw hr K0
    go_enter Try.func14, Try.ntmps14
    go_wp2_with fail
    refine hP.mono ?_
    rintro e1 w1 ⟨rfl, hw1⟩
    obtain rfl := hw1.symm
    clear hP
    go_wp2_with fail
    refine hC.mono ?_
    rintro e2 w2 ⟨rfl, h2⟩
    have HW : Hid (Wrote w w2 b o l _ rb) := Wrote.after h2 HK.out
    clear h2 hC
    go_wp2
    go_end0
    exact ⟨rfl, HW.out⟩
  · have hC := wReal_any b o l rb p.real hp.real1 _ W0 (by omega)
    have HK : Hid (Keep [] w (w.alloc (p.blk u))) := K0
    clear W0 R0 hw hr K0
    go_enter Try.func14, Try.ntmps14
    go_wp2_with fail
    refine hP.mono ?_
    rintro e1 w1 ⟨rfl, hw1⟩
    obtain rfl := hw1.symm
    clear hP
    go_wp2_with fail
    refine hC.mono ?_
    rintro e2 w2 ⟨rfl, h2⟩
    have HW : Hid (Wrote w w2 b o l _ rb) := Wrote.after h2 HK.out
    clear h2 hC
    go_wp2
    go_end0
    exact ⟨rfl, HW.out⟩
  · have hC := wText_any b o l rb p.text _ W0 (by omega)
    have HK : Hid (Keep [] w (w.alloc (p.blk u))) := K0
    clear W0 R0 hw hr K0
    go_enter Try.func14, Try.ntmps14
    go_wp2_with fail
    refine hP.mono ?_
    rintro e1 w1 ⟨rfl, hw1⟩
    obtain rfl := hw1.symm
    clear hP
    go_wp2_with fail
    refine hC.mono ?_
    rintro e2 w2 ⟨rfl, h2⟩
    have HW : Hid (Wrote w w2 b o l _ rb) := Wrote.after h2 HK.out
    clear h2 hC
    go_wp2
    go_end0
    exact ⟨rfl, HW.out⟩
  · have hC := wRaw_any b o l p.raw rb r _ W0 R0 (by omega)
    have HK : Hid (Keep [] w (w.alloc (p.blk u))) := K0
    clear W0 R0 hw hr K0
    go_enter Try.func14, Try.ntmps14
    go_wp2_with fail
    refine hP.mono ?_
    rintro e1 w1 ⟨rfl, hw1⟩
    obtain rfl := hw1.symm
    clear hP
    go_wp2_with fail
    refine hC.mono ?_
    rintro e2 w2 ⟨rfl, h2⟩
    have HW : Hid (Wrote w w2 b o l _ rb) := Wrote.after h2 HK.out
    clear h2 hC
    go_wp2
    go_end0
    exact ⟨rfl, HW.out⟩

end Go.Proofs.Ytcmembmaaebdeab
