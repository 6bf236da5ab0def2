/- What each read of a Reader answers and leaves, for every Reader and every input. -/
import Derived.Test.YtncbanpimfhhbaaGreatDoorFirst4
import Derived.Test.YtncbanpimfhhbaaGreatDoorReadA
import Derived.Test.YtncbanpimfhhbaaGreatDoorReadB
namespace Go.Proofs.YtncbanpimfhhbaaGreatDoor
open Go.RowKit Go.PlainAid Go.Lib

/-- a read: behind an error nothing; else what r says: the answer, how much is read, the error -/
def rdOf {α : Type} (z : α) (l : List UInt8) (e : Int) (r : α × Nat × Int) : α × List UInt8 × Int := if e = 0 then (r.1, l.drop r.2.1, r.2.2) else (z, l, e)

theorem rdOf_pos {α : Type} (z : α) (l : List UInt8) (r : α × Nat × Int) : rdOf z l 0 r = (r.1, l.drop r.2.1, r.2.2) := by unfold rdOf; rw [if_pos rfl]
theorem rdOf_neg {α : Type} (z : α) (l : List UInt8) (e : Int) (r : α × Nat × Int) (h : e ≠ 0) : rdOf z l e r = (z, l, e) := by unfold rdOf; rw [if_neg h]

theorem byteL_size (l : List UInt8) : (byteL l).2.1 ≤ l.length := by cases l <;> simp [byteL]

theorem same_keep {f : Nat} {args : Array Value} {w : World} {x : Value} {n : Nat} {er : Int} {X : Value} (hx : x = .tuple #[X, .int .i64 (n : Int), .int .i64 er])
    (h : Calls Tryz.prog f args w fun e w' => e = .returned x ∧ w' = w) :
    Calls Tryz.prog f args w fun e w1 => ∃ x, e = .returned (.tuple #[x, .int .i64 (n : Int), .int .i64 er]) ∧ (fun y _ => y = X) x w1 ∧ Keep [] w w1 := by
  refine h.mono ?_
  rintro e w' ⟨rfl, rfl⟩
  exact ⟨X, by rw [hx], rfl, Keep.refl _ _⟩

set_option maxHeartbeats 1600000 in
theorem rByte_any (b o : Nat) (l : List UInt8) (e : Int) (rb : Option Nat) (w : World) (hr : Rd w b o l e rb) :
    Calls Tryz.prog 59 #[.pointer (some ⟨b, o, none⟩)] w fun x w' => x = .returned (.int .u8 ((rdOf 0 l e (byteL l)).1 : Nat)) ∧ Rd w' b o (rdOf 0 l e (byteL l)).2.1 (rdOf 0 l e (byteL l)).2.2 rb ∧ Keep [b] w w' := by
  by_cases he : e = 0
  · subst he
    have h := read59_any b o l rb w hr (byteL l).2.1 (byteL l).2.2 (byteL_size l) _ (fun v hv => same_keep rfl (firstByte_any v l w hv))
    rw [rdOf_pos]
    generalize byteL l = R at h ⊢
    obtain ⟨x, n, er⟩ := R
    simp only at h ⊢
    go_enter Tryz.func59, Tryz.ntmps59
    go_wp2_with fail
    refine h.mono ?_
    rintro e9 w9 ⟨y, rfl, w1, rfl, k1, k2, h9⟩
    have HH : Hid (Rd w9 b o (l.drop n) er rb ∧ Keep [b] w w9) := ⟨h9, k1.trans k2 (fun _ h => by cases h) (fun _ h => .inl h)⟩
    clear h9 k1 k2 h
    go_wp2
    go_ret
    exact ⟨rfl, HH.out⟩
  · rw [rdOf_neg _ _ _ _ he]
    have h := read59_err b o l e rb w hr he (.func (.func 90) #[] #[])
    go_enter Tryz.func59, Tryz.ntmps59
    go_wp2_with fail
    refine h.mono ?_
    rintro e9 w9 ⟨rfl, hw9⟩
    obtain rfl := hw9.symm
    have HR : Hid (Rd w b o l e rb) := hr
    clear h hr
    go_wp2
    go_ret
    exact ⟨rfl, HR.out, Keep.refl _ _⟩

set_option maxHeartbeats 1600000 in
theorem rUint_any (b o : Nat) (l : List UInt8) (e : Int) (rb : Option Nat) (w : World) (hr : Rd w b o l e rb) :
    Calls Tryz.prog 98 #[.pointer (some ⟨b, o, none⟩)] w fun x w' => x = .returned (.int .u64 ((rdOf 0 l e (numL l)).1 : Nat)) ∧ Rd w' b o (rdOf 0 l e (numL l)).2.1 (rdOf 0 l e (numL l)).2.2 rb ∧ Keep [b] w w' := by
  by_cases he : e = 0
  · subst he
    have h := read61_any b o l rb w hr (numL l).2.1 (numL l).2.2 (numL_size l) _ (fun v hv => same_keep rfl (oshort_any v l w hv))
    rw [rdOf_pos]
    generalize numL l = R at h ⊢
    obtain ⟨x, n, er⟩ := R
    simp only at h ⊢
    go_enter Tryz.func98, Tryz.ntmps98
    go_wp2_with fail
    refine h.mono ?_
    rintro e9 w9 ⟨y, rfl, w1, rfl, k1, k2, h9⟩
    have HH : Hid (Rd w9 b o (l.drop n) er rb ∧ Keep [b] w w9) := ⟨h9, k1.trans k2 (fun _ h => by cases h) (fun _ h => .inl h)⟩
    clear h9 k1 k2 h
    go_wp2
    go_ret
    exact ⟨rfl, HH.out⟩
  · rw [rdOf_neg _ _ _ _ he]
    have h := read61_err b o l e rb w hr he (.func (.func 124) #[] #[])
    go_enter Tryz.func98, Tryz.ntmps98
    go_wp2_with fail
    refine h.mono ?_
    rintro e9 w9 ⟨rfl, hw9⟩
    obtain rfl := hw9.symm
    have HR : Hid (Rd w b o l e rb) := hr
    clear h hr
    go_wp2
    go_ret
    exact ⟨rfl, HR.out, Keep.refl _ _⟩

def turnL (l : List UInt8) : Int × Nat × Int := (unzig (numL l).1, (numL l).2.1, (numL l).2.2)

set_option maxHeartbeats 1600000 in
theorem rInt_any (b o : Nat) (l : List UInt8) (e : Int) (rb : Option Nat) (w : World) (hr : Rd w b o l e rb) :
    Calls Tryz.prog 60 #[.pointer (some ⟨b, o, none⟩)] w fun x w' => x = .returned (.int .i64 (rdOf 0 l e (turnL l)).1) ∧ Rd w' b o (rdOf 0 l e (turnL l)).2.1 (rdOf 0 l e (turnL l)).2.2 rb ∧ Keep [b] w w' := by
  by_cases he : e = 0
  · subst he
    have h := read63_any b o l rb w hr (turnL l).2.1 (turnL l).2.2 (numL_size l) _ (fun v hv => same_keep (X := .int .i64 (turnL l).1) rfl (firstTurned_any v l w hv))
    rw [rdOf_pos]
    generalize turnL l = R at h ⊢
    obtain ⟨x, n, er⟩ := R
    simp only at h ⊢
    go_enter Tryz.func60, Tryz.ntmps60
    go_wp2_with fail
    refine h.mono ?_
    rintro e9 w9 ⟨y, rfl, w1, rfl, k1, k2, h9⟩
    have HH : Hid (Rd w9 b o (l.drop n) er rb ∧ Keep [b] w w9) := ⟨h9, k1.trans k2 (fun _ h => by cases h) (fun _ h => .inl h)⟩
    clear h9 k1 k2 h
    go_wp2
    go_ret
    exact ⟨rfl, HH.out⟩
  · rw [rdOf_neg _ _ _ _ he]
    have h := read63_err b o l e rb w hr he (.func (.func 92) #[] #[])
    go_enter Tryz.func60, Tryz.ntmps60
    go_wp2_with fail
    refine h.mono ?_
    rintro e9 w9 ⟨rfl, hw9⟩
    obtain rfl := hw9.symm
    have HR : Hid (Rd w b o l e rb) := hr
    clear h hr
    go_wp2
    go_ret
    exact ⟨rfl, HR.out, Keep.refl _ _⟩

theorem Rd.alloc {w : World} {b o : Nat} {l : List UInt8} {e : Int} {rb : Option Nat} (h : Rd w b o l e rb) (x : Obj) : Rd (w.alloc x) b o l e rb := h.keep (Keep.alloc1 w x) (by simp) (fun _ _ => by simp)

set_option maxHeartbeats 1600000 in
theorem rText_any (b o : Nat) (l : List UInt8) (e : Int) (rb : Option Nat) (most : Int) (hm : most ≤ 9223372036854775807) (w : World) (hr : Rd w b o l e rb) :
    Calls Tryz.prog 62 #[.pointer (some ⟨b, o, none⟩), .int .i64 most] w fun x w' => x = .returned (.string ⟨(rdOf [] l e (textL l most)).1.toArray⟩) ∧ Rd w' b o (rdOf [] l e (textL l most)).2.1 (rdOf [] l e (textL l most)).2.2 rb ∧ Keep [b] w w' := by
  have K0 := Keep.alloc1 w (.cells #[.int .i64 most] 3)
  have hr1 := hr.alloc (.cells #[.int .i64 most] 3)
  have hg : (w.alloc (.cells #[.int .i64 most] 3)).cell? ⟨w.heap.size, 0, none⟩ = some (.int .i64 most) := by simp
  by_cases he : e = 0
  · subst he
    have h := read67_any b o l rb _ hr1 (.pointer (some ⟨w.heap.size, 0, none⟩)) (textL l most).2.1 (textL l most).2.2 (textL_size l most) _ (fun v hv => same_keep rfl (text1_any v l most hm w.heap.size _ hv hg))
    rw [rdOf_pos]
    generalize textL l most = R at h ⊢
    obtain ⟨x, n, er⟩ := R
    simp only at h ⊢
    clear hg hr hr1
    go_enter Tryz.func62, Tryz.ntmps62
    go_wp2_with fail
    refine h.mono ?_
    rintro e9 w9 ⟨y, rfl, w1, rfl, k1, k2, h9⟩
    have HH : Hid (Rd w9 b o (l.drop n) er rb ∧ Keep [b] w w9) := ⟨h9, (K0.trans' k1).trans k2 (fun _ h => by cases h) (fun _ h => .inl h)⟩
    clear h9 k1 k2 h
    go_wp2
    go_ret
    exact ⟨rfl, HH.out⟩
  · rw [rdOf_neg _ _ _ _ he]
    have h := read67_err b o l e rb _ hr1 he (.func (.func 96) #[] #[.pointer (some ⟨w.heap.size, 0, none⟩)])
    clear hg
    have HR : Hid (Rd (w.alloc (.cells #[.int .i64 most] 3)) b o l e rb) := hr1
    have HK : Hid (Keep [b] w (w.alloc (.cells #[.int .i64 most] 3))) := K0.mono (fun _ h => by cases h)
    go_enter Tryz.func62, Tryz.ntmps62
    go_wp2_with fail
    refine h.mono ?_
    rintro e9 w9 ⟨rfl, rfl⟩
    clear h hr hr1
    go_wp2
    go_ret
    exact ⟨rfl, HR.out, HK.out⟩

end Go.Proofs.YtncbanpimfhhbaaGreatDoor


