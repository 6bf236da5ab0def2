/- What fault, Kind, ObjectText and SubjectText of package ident answer, for every object and subject. -/
import Derived.Test.YtclapbpkkaljgaaGreatDoorCutW
namespace Go.Proofs.YtclapbpkkaljgaaGreatDoor.Idt
open Go.RowKit Go.PlainAid

def faultL (t i r : List UInt8) : Int :=
  if nameL t = false then 10 else if (i == [42]) = true ∧ r.isEmpty = true then 0 else if idL i = false then 11 else if r.isEmpty = false ∧ nameL r = false then 10 else 0

set_option maxHeartbeats 400000 in
theorem fault_any (t i r : ByteArray) (w : World) :
    Calls Tryz.prog 60 #[.agg #[.string t, .string i, .string r]] w fun e w' => e = .returned (.int .i64 (faultL t.toList i.toList r.toList)) ∧ Below w.heap.size w w' := by
  cases h1 : nameL t.toList
  · go_enter Tryz.func60, Tryz.ntmps60
    go_wp2_with (first | (go_at_call 35; refine (name_any _ _).mono ?_; rintro e w' ⟨rfl, rfl⟩) | (go_at_call 37; refine (id_any _ _).mono ?_; rintro e w' ⟨rfl, rfl⟩))
    go_ret
    exact ⟨by simp [faultL, h1], (Below.refl _ _).alloc (Nat.le_refl _) _⟩
  cases h2 : (i.toList == [42])
  · cases h3 : r.toList.isEmpty
    · cases h4 : idL i.toList
      · go_enter Tryz.func60, Tryz.ntmps60
        go_wp2_with (first | (go_at_call 35; refine (name_any _ _).mono ?_; rintro e w' ⟨rfl, rfl⟩) | (go_at_call 37; refine (id_any _ _).mono ?_; rintro e w' ⟨rfl, rfl⟩))
        go_ret
        exact ⟨by simp [faultL, *], (Below.refl _ _).alloc (Nat.le_refl _) _⟩
      · cases h5 : nameL r.toList
        all_goals
          go_enter Tryz.func60, Tryz.ntmps60
          go_wp2_with (first | (go_at_call 35; refine (name_any _ _).mono ?_; rintro e w' ⟨rfl, rfl⟩) | (go_at_call 37; refine (id_any _ _).mono ?_; rintro e w' ⟨rfl, rfl⟩))
          go_ret
          exact ⟨by simp [faultL, *], (Below.refl _ _).alloc (Nat.le_refl _) _⟩
    · cases h4 : idL i.toList
      all_goals
        go_enter Tryz.func60, Tryz.ntmps60
        go_wp2_with (first | (go_at_call 35; refine (name_any _ _).mono ?_; rintro e w' ⟨rfl, rfl⟩) | (go_at_call 37; refine (id_any _ _).mono ?_; rintro e w' ⟨rfl, rfl⟩))
        go_ret
        exact ⟨by simp [faultL, *], (Below.refl _ _).alloc (Nat.le_refl _) _⟩
  · cases h3 : r.toList.isEmpty
    · cases h4 : idL i.toList
      · go_enter Tryz.func60, Tryz.ntmps60
        go_wp2_with (first | (go_at_call 35; refine (name_any _ _).mono ?_; rintro e w' ⟨rfl, rfl⟩) | (go_at_call 37; refine (id_any _ _).mono ?_; rintro e w' ⟨rfl, rfl⟩))
        go_ret
        exact ⟨by simp [faultL, *], (Below.refl _ _).alloc (Nat.le_refl _) _⟩
      · cases h5 : nameL r.toList
        all_goals
          go_enter Tryz.func60, Tryz.ntmps60
          go_wp2_with (first | (go_at_call 35; refine (name_any _ _).mono ?_; rintro e w' ⟨rfl, rfl⟩) | (go_at_call 37; refine (id_any _ _).mono ?_; rintro e w' ⟨rfl, rfl⟩))
          go_ret
          exact ⟨by simp [faultL, *], (Below.refl _ _).alloc (Nat.le_refl _) _⟩
    · go_enter Tryz.func60, Tryz.ntmps60
      go_wp2_with (first | (go_at_call 35; refine (name_any _ _).mono ?_; rintro e w' ⟨rfl, rfl⟩) | (go_at_call 37; refine (id_any _ _).mono ?_; rintro e w' ⟨rfl, rfl⟩))
      go_ret
      exact ⟨by simp [faultL, *], (Below.refl _ _).alloc (Nat.le_refl _) _⟩
end Go.Proofs.YtclapbpkkaljgaaGreatDoor.Idt

