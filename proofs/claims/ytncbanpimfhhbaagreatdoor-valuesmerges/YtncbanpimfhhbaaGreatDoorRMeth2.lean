/- What a read of a real number answers and leaves, for every Reader. -/
import Derived.Test.YtncbanpimfhhbaaGreatDoorRMeth
import Derived.Test.YtncbanpimfhhbaaGreatDoorFirst5
namespace Go.Proofs.YtncbanpimfhhbaaGreatDoor
open Go.RowKit Go.PlainAid Go.Lib

set_option maxHeartbeats 1600000 in
theorem rReal_any (b o : Nat) (l : List UInt8) (e : Int) (rb : Option Nat) (w : World) (hr : Rd w b o l e rb) :
    Calls Tryz.prog 61 #[.pointer (some ⟨b, o, none⟩)] w fun x w' => x = .returned (.float .f32 (rdOf 0 l e (realL l)).1) ∧ Rd w' b o (rdOf 0 l e (realL l)).2.1 (rdOf 0 l e (realL l)).2.2 rb ∧ Keep [b] w w' := by
  by_cases he : e = 0
  · subst he
    have h := read65_any b o l rb w hr (realL l).2.1 (realL l).2.2 (realL_size l) _ (fun v hv => firstReal_any v l w hv)
    rw [rdOf_pos]
    generalize realL l = R at h ⊢
    obtain ⟨x, n, er⟩ := R
    simp only at h ⊢
    go_enter Tryz.func61, Tryz.ntmps61
    go_wp2_with fail
    refine h.mono ?_
    rintro e9 w9 ⟨y, rfl, w1, rfl, k1, k2, h9⟩
    have HH : Hid (Rd w9 b o (l.drop n) er rb ∧ Keep [b] w w9) := ⟨h9, k1.trans k2 (fun _ h => by cases h) (fun _ h => .inl h)⟩
    clear h9 k1 k2 h
    go_wp2
    go_ret
    exact ⟨rfl, HH.out⟩
  · rw [rdOf_neg _ _ _ _ he]
    have h := read65_err b o l e rb w hr he (.func (.func 94) #[] #[])
    go_enter Tryz.func61, Tryz.ntmps61
    go_wp2_with fail
    refine h.mono ?_
    rintro e9 w9 ⟨rfl, hw9⟩
    obtain rfl := hw9.symm
    have HR : Hid (Rd w b o l e rb) := hr
    clear h hr
    go_wp2
    go_ret
    exact ⟨rfl, HR.out, Keep.refl _ _⟩

end Go.Proofs.YtncbanpimfhhbaaGreatDoor


