/- The walk of IdentCompares. -/
import Derived.Test.YtkkbnbcjkjbepabRefW
import Derived.Deep.RegionHeld3
namespace Go.Proofs.Ytkkbnbcjkjbepab
open Go.RowKit Go.PlainAid

theorem keep_start {W : World} : (∀ b o, b < W.heap.size → W.drew.cell? ⟨b, o, none⟩ = W.cell? ⟨b, o, none⟩) ∧ Below W.heap.size W W.drew := ⟨fun _ _ _ => rfl, (Below.refl _ _).drew⟩
theorem keep_next {W wi wj : World} (hb : Below wi.heap.size wi wj) (h : (∀ b o, b < W.heap.size → wi.cell? ⟨b, o, none⟩ = W.cell? ⟨b, o, none⟩) ∧ Below W.heap.size W wi) : (∀ b o, b < W.heap.size → wj.cell? ⟨b, o, none⟩ = W.cell? ⟨b, o, none⟩) ∧ Below W.heap.size W wj := by
  have hB := h.2.trans (hb.mono h.2.size)
  exact ⟨fun b o hlt => hB.cell (p := ⟨b, o, none⟩) hlt, hB⟩
theorem below_four {w W : World} {A B C D : Obj} (h : Below ((((w.alloc A).alloc B).alloc C).alloc D).heap.size ((((w.alloc A).alloc B).alloc C).alloc D) W) : Below w.heap.size w W :=
  ((below_two.alloc (by simp; omega) _).alloc (by simp; omega) _).trans (h.mono (by simp; omega))

set_option maxHeartbeats 1000000 in
theorem compares_any (t i t' i' u j r u' j' r' : ByteArray) (w : World) (s1 : t.size ≤ maxLen) (s2 : i.size ≤ maxLen) (s3 : u.size ≤ maxLen) (s4 : j.size ≤ maxLen) (s5 : r.size ≤ maxLen) :
    Calls Try.prog 3 #[.agg #[.string t, .string i], .agg #[.string t', .string i'], .agg #[.string u, .string j, .string r], .agg #[.string u', .string j', .string r']] w fun e w' => e = .returned (.bool true) ∧ Below w.heap.size w w' := by
  go_enter Try.func3, Try.ntmps3
  go_wp2
  go_region_held3 (fun w' => (∀ b o, b < ((((w.alloc (.cells #[.string t, .string i] 23)).alloc (.cells #[.string t', .string i'] 23)).alloc (.cells #[.string u, .string j, .string r] 25)).alloc (.cells #[.string u', .string j', .string r'] 25)).heap.size → w'.cell? ⟨b, o, none⟩ = ((((w.alloc (.cells #[.string t, .string i] 23)).alloc (.cells #[.string t', .string i'] 23)).alloc (.cells #[.string u, .string j, .string r] 25)).alloc (.cells #[.string u', .string j', .string r'] 25)).cell? ⟨b, o, none⟩) ∧ Below ((((w.alloc (.cells #[.string t, .string i] 23)).alloc (.cells #[.string t', .string i'] 23)).alloc (.cells #[.string u, .string j, .string r] 25)).alloc (.cells #[.string u', .string j', .string r'] 25)).heap.size ((((w.alloc (.cells #[.string t, .string i] 23)).alloc (.cells #[.string t', .string i'] 23)).alloc (.cells #[.string u, .string j, .string r] 25)).alloc (.cells #[.string u', .string j', .string r'] 25)) w')
    (first | exact keep_start | exact keep_next (by assumption) (by assumption))
    (first | (go_at_call 9; refine (cmpObj_any _ _ _ _ _).mono ?_; rintro e w1 ⟨rfl, hb⟩) | (go_at_call 10; refine (refObj_any _ _ _ _ _ s1 s2).mono ?_; rintro e w1 ⟨rfl, hb⟩) | (go_at_call 11; refine (cmpSub_any _ _ _ _ _ _ _).mono ?_; rintro e w1 ⟨rfl, hb⟩) | (go_at_call 12; refine (refSub_any _ _ _ _ _ _ _ s3 s4 s5).mono ?_; rintro e w1 ⟨rfl, hb⟩))
  all_goals go_wp2
  all_goals go_ret
  rename_i hH
  exact ⟨rfl, below_four hH.2⟩
end Go.Proofs.Ytkkbnbcjkjbepab
