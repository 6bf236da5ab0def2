/- The document's Lets; the walk of TuplesLets. -/
import Derived.Test.YtbflhpafejmelaaLgE
import Derived.Test.YtbflhpafejmelaaFilG
namespace Go.Proofs.Ytbflhpafejmelaa
open Go.RowKit Go.PlainAid

set_option maxRecDepth 1000000 in
theorem field_any (a b : ByteArray) (w : World) : Calls Try.prog 28 #[.string a, .string b] w fun e w' => e = .returned (.bool (okB a b)) ∧ w' = w := by
  cases h1 : (a.toList == ([] : List UInt8))
  · cases h2 : (a.toList == b.toList)
    all_goals
      go_enter Try.func28, Try.ntmps28
      go_wp2
      go_ret
      exact ⟨ret_bool (by simp [okB, h1, h2]), rfl⟩
  · go_enter Try.func28, Try.ntmps28
    go_wp2
    go_ret
    exact ⟨ret_bool (by simp [okB, h1]), rfl⟩
theorem field_said {a b : ByteArray} {r : Bool} (h : okB a b = r) (w : World) : Calls Try.prog 28 #[.string a, .string b] w fun e w' => e = .returned (.bool r) ∧ w' = w := by
  rw [← h]
  exact field_any a b w

set_option maxRecDepth 1000000 in
set_option maxHeartbeats 6400000 in
theorem rLets_any (x y : K7) (u : Value) (w : World) : Calls Try.prog 15 #[x.fil, y.tup u] w fun e w' => e = .returned (.bool (letsB x y)) ∧ Keep [] w w' := by
  obtain ⟨a, b, c, d, e, f, g⟩ := x
  obtain ⟨a', b', c', d', e', f', g'⟩ := y
  cases ha : okB a a'
  · have F0 := fun w => field_said ha w
    have HB : Hid (letsB ⟨a, b, c, d, e, f, g⟩ ⟨a', b', c', d', e', f', g'⟩ = false) := by
      show _ = _
      simp [letsB, ha]
    clear ha
    rw [HB.out]
    go_enter Try.func15, Try.ntmps15
    go_wp2_with fail
    refine (F0 _).mono ?_
    rintro e9 w9 ⟨rfl, hw⟩
    obtain rfl := hw.symm
    clear hw
    go_wp2
    go_ret
    exact ⟨rfl, (Keep.alloc1 w _).alloc _⟩
  cases hb : okB b b'
  · have F0 := fun w => field_said ha w
    have F1 := fun w => field_said hb w
    have HB : Hid (letsB ⟨a, b, c, d, e, f, g⟩ ⟨a', b', c', d', e', f', g'⟩ = false) := by
      show _ = _
      simp [letsB, ha, hb]
    clear ha hb
    rw [HB.out]
    go_enter Try.func15, Try.ntmps15
    go_wp2_with fail
    refine (F0 _).mono ?_
    rintro e9 w9 ⟨rfl, hw⟩
    obtain rfl := hw.symm
    clear hw
    go_wp2_with fail
    refine (F1 _).mono ?_
    rintro e9 w9 ⟨rfl, hw⟩
    obtain rfl := hw.symm
    clear hw
    go_wp2
    go_ret
    exact ⟨rfl, (Keep.alloc1 w _).alloc _⟩
  cases hc : okB c c'
  · have F0 := fun w => field_said ha w
    have F1 := fun w => field_said hb w
    have F2 := fun w => field_said hc w
    have HB : Hid (letsB ⟨a, b, c, d, e, f, g⟩ ⟨a', b', c', d', e', f', g'⟩ = false) := by
      show _ = _
      simp [letsB, ha, hb, hc]
    clear ha hb hc
    rw [HB.out]
    go_enter Try.func15, Try.ntmps15
    go_wp2_with fail
    refine (F0 _).mono ?_
    rintro e9 w9 ⟨rfl, hw⟩
    obtain rfl := hw.symm
    clear hw
    go_wp2_with fail
    refine (F1 _).mono ?_
    rintro e9 w9 ⟨rfl, hw⟩
    obtain rfl := hw.symm
    clear hw
    go_wp2_with fail
    refine (F2 _).mono ?_
    rintro e9 w9 ⟨rfl, hw⟩
    obtain rfl := hw.symm
    clear hw
    go_wp2
    go_ret
    exact ⟨rfl, (Keep.alloc1 w _).alloc _⟩
  cases hg : okB g g'
  · have F0 := fun w => field_said ha w
    have F1 := fun w => field_said hb w
    have F2 := fun w => field_said hc w
    have F3 := fun w => field_said hg w
    have HB : Hid (letsB ⟨a, b, c, d, e, f, g⟩ ⟨a', b', c', d', e', f', g'⟩ = false) := by
      show _ = _
      simp [letsB, ha, hb, hc, hg]
    clear ha hb hc hg
    rw [HB.out]
    go_enter Try.func15, Try.ntmps15
    go_wp2_with fail
    refine (F0 _).mono ?_
    rintro e9 w9 ⟨rfl, hw⟩
    obtain rfl := hw.symm
    clear hw
    go_wp2_with fail
    refine (F1 _).mono ?_
    rintro e9 w9 ⟨rfl, hw⟩
    obtain rfl := hw.symm
    clear hw
    go_wp2_with fail
    refine (F2 _).mono ?_
    rintro e9 w9 ⟨rfl, hw⟩
    obtain rfl := hw.symm
    clear hw
    go_wp2_with fail
    refine (F3 _).mono ?_
    rintro e9 w9 ⟨rfl, hw⟩
    obtain rfl := hw.symm
    clear hw
    go_wp2
    go_ret
    exact ⟨rfl, (Keep.alloc1 w _).alloc _⟩
  cases hd : okB d d'
  · have F0 := fun w => field_said ha w
    have F1 := fun w => field_said hb w
    have F2 := fun w => field_said hc w
    have F3 := fun w => field_said hg w
    have F4 := fun w => field_said hd w
    have HB : Hid (letsB ⟨a, b, c, d, e, f, g⟩ ⟨a', b', c', d', e', f', g'⟩ = false) := by
      show _ = _
      simp [letsB, ha, hb, hc, hg, hd]
    clear ha hb hc hg hd
    rw [HB.out]
    go_enter Try.func15, Try.ntmps15
    go_wp2_with fail
    refine (F0 _).mono ?_
    rintro e9 w9 ⟨rfl, hw⟩
    obtain rfl := hw.symm
    clear hw
    go_wp2_with fail
    refine (F1 _).mono ?_
    rintro e9 w9 ⟨rfl, hw⟩
    obtain rfl := hw.symm
    clear hw
    go_wp2_with fail
    refine (F2 _).mono ?_
    rintro e9 w9 ⟨rfl, hw⟩
    obtain rfl := hw.symm
    clear hw
    go_wp2_with fail
    refine (F3 _).mono ?_
    rintro e9 w9 ⟨rfl, hw⟩
    obtain rfl := hw.symm
    clear hw
    go_wp2_with fail
    refine (F4 _).mono ?_
    rintro e9 w9 ⟨rfl, hw⟩
    obtain rfl := hw.symm
    clear hw
    go_wp2
    go_ret
    exact ⟨rfl, (Keep.alloc1 w _).alloc _⟩
  cases he : okB e e'
  · have F0 := fun w => field_said ha w
    have F1 := fun w => field_said hb w
    have F2 := fun w => field_said hc w
    have F3 := fun w => field_said hg w
    have F4 := fun w => field_said hd w
    have F5 := fun w => field_said he w
    have HB : Hid (letsB ⟨a, b, c, d, e, f, g⟩ ⟨a', b', c', d', e', f', g'⟩ = false) := by
      show _ = _
      simp [letsB, ha, hb, hc, hg, hd, he]
    clear ha hb hc hg hd he
    rw [HB.out]
    go_enter Try.func15, Try.ntmps15
    go_wp2_with fail
    refine (F0 _).mono ?_
    rintro e9 w9 ⟨rfl, hw⟩
    obtain rfl := hw.symm
    clear hw
    go_wp2_with fail
    refine (F1 _).mono ?_
    rintro e9 w9 ⟨rfl, hw⟩
    obtain rfl := hw.symm
    clear hw
    go_wp2_with fail
    refine (F2 _).mono ?_
    rintro e9 w9 ⟨rfl, hw⟩
    obtain rfl := hw.symm
    clear hw
    go_wp2_with fail
    refine (F3 _).mono ?_
    rintro e9 w9 ⟨rfl, hw⟩
    obtain rfl := hw.symm
    clear hw
    go_wp2_with fail
    refine (F4 _).mono ?_
    rintro e9 w9 ⟨rfl, hw⟩
    obtain rfl := hw.symm
    clear hw
    go_wp2_with fail
    refine (F5 _).mono ?_
    rintro e9 w9 ⟨rfl, hw⟩
    obtain rfl := hw.symm
    clear hw
    go_wp2
    go_ret
    exact ⟨rfl, (Keep.alloc1 w _).alloc _⟩
  cases hf : okB f f'
  · have F0 := fun w => field_said ha w
    have F1 := fun w => field_said hb w
    have F2 := fun w => field_said hc w
    have F3 := fun w => field_said hg w
    have F4 := fun w => field_said hd w
    have F5 := fun w => field_said he w
    have F6 := fun w => field_said hf w
    have HB : Hid (letsB ⟨a, b, c, d, e, f, g⟩ ⟨a', b', c', d', e', f', g'⟩ = false) := by
      show _ = _
      simp [letsB, ha, hb, hc, hg, hd, he, hf]
    clear ha hb hc hg hd he hf
    rw [HB.out]
    go_enter Try.func15, Try.ntmps15
    go_wp2_with fail
    refine (F0 _).mono ?_
    rintro e9 w9 ⟨rfl, hw⟩
    obtain rfl := hw.symm
    clear hw
    go_wp2_with fail
    refine (F1 _).mono ?_
    rintro e9 w9 ⟨rfl, hw⟩
    obtain rfl := hw.symm
    clear hw
    go_wp2_with fail
    refine (F2 _).mono ?_
    rintro e9 w9 ⟨rfl, hw⟩
    obtain rfl := hw.symm
    clear hw
    go_wp2_with fail
    refine (F3 _).mono ?_
    rintro e9 w9 ⟨rfl, hw⟩
    obtain rfl := hw.symm
    clear hw
    go_wp2_with fail
    refine (F4 _).mono ?_
    rintro e9 w9 ⟨rfl, hw⟩
    obtain rfl := hw.symm
    clear hw
    go_wp2_with fail
    refine (F5 _).mono ?_
    rintro e9 w9 ⟨rfl, hw⟩
    obtain rfl := hw.symm
    clear hw
    go_wp2_with fail
    refine (F6 _).mono ?_
    rintro e9 w9 ⟨rfl, hw⟩
    obtain rfl := hw.symm
    clear hw
    go_wp2
    go_ret
    exact ⟨rfl, (Keep.alloc1 w _).alloc _⟩
  have F0 := fun w => field_said ha w
  have F1 := fun w => field_said hb w
  have F2 := fun w => field_said hc w
  have F3 := fun w => field_said hg w
  have F4 := fun w => field_said hd w
  have F5 := fun w => field_said he w
  have F6 := fun w => field_said hf w
  have HB : Hid (letsB ⟨a, b, c, d, e, f, g⟩ ⟨a', b', c', d', e', f', g'⟩ = true) := by
    show _ = _
    simp [letsB, ha, hb, hc, hg, hd, he, hf]
  clear ha hb hc hg hd he hf
  rw [HB.out]
  go_enter Try.func15, Try.ntmps15
  go_wp2_with fail
  refine (F0 _).mono ?_
  rintro e9 w9 ⟨rfl, hw⟩
  obtain rfl := hw.symm
  clear hw
  go_wp2_with fail
  refine (F1 _).mono ?_
  rintro e9 w9 ⟨rfl, hw⟩
  obtain rfl := hw.symm
  clear hw
  go_wp2_with fail
  refine (F2 _).mono ?_
  rintro e9 w9 ⟨rfl, hw⟩
  obtain rfl := hw.symm
  clear hw
  go_wp2_with fail
  refine (F3 _).mono ?_
  rintro e9 w9 ⟨rfl, hw⟩
  obtain rfl := hw.symm
  clear hw
  go_wp2_with fail
  refine (F4 _).mono ?_
  rintro e9 w9 ⟨rfl, hw⟩
  obtain rfl := hw.symm
  clear hw
  go_wp2_with fail
  refine (F5 _).mono ?_
  rintro e9 w9 ⟨rfl, hw⟩
  obtain rfl := hw.symm
  clear hw
  go_wp2_with fail
  refine (F6 _).mono ?_
  rintro e9 w9 ⟨rfl, hw⟩
  obtain rfl := hw.symm
  clear hw
  go_wp2
  go_ret
  exact ⟨rfl, (Keep.alloc1 w _).alloc _⟩
end Go.Proofs.Ytbflhpafejmelaa
