/- A sheet: its text; whether it is too long. -/
import Derived.Test.YtplbclokoffgkaaGreatDoorCdO
import Derived.Lib.UnsafeStr

namespace Go.Proofs.YtplbclokoffgkaaGreatDoor
open Go.RowKit Go.PlainAid

theorem Keep.freeze {F : List Nat} {a w : World} (h : Keep F a w) {p : Addr} (hp : p.block ∈ F ∨ a.heap.size ≤ p.block) (n : Nat) : Keep F a (w.freeze p n) := by
  have k1 : Keep [p.block] w (w.freeze p n) := by
    refine ⟨?_, ?_, ?_, ?_, ?_⟩
    · unfold World.freeze; split <;> rfl
    · unfold World.freeze; split <;> rfl
    · unfold World.freeze; split <;> rfl
    · unfold World.freeze; split <;> simp
    · intro k hk hn
      simp at hn
      unfold World.freeze
      split
      · rfl
      · simp only [Array.getElem?_modify]
        rw [if_neg (fun e => hn e.symm)]
  exact h.more k1 (fun x hx => by simp at hx; subst hx; exact hp)

set_option maxRecDepth 1000000 in
set_option maxHeartbeats 3200000 in
theorem string_any (b : Nat) (l : List UInt8) (p v : Value) (w : World) (h : Bd (b + 1) w b l p v) :
    Calls Tryz.prog 59 #[.pointer (some ⟨b, 0, none⟩)] w fun e w' => (∃ s, e = .returned (.string s)) ∧ Keep v.ownBlock.toList w w' := by
  have hbx : w.drew.heap[b]? = some (.cells #[p, v] 91 (0, 0)) := h.box
  obtain ⟨c0, c1, f0, f1⟩ := box2 hbx
  have hrow := h.row
  have hUN : ∀ (w : World) (q : Option Addr), (Builtin.unsafeString_ #[163, 3] 9 #[.pointer q, .int .i64 0]).run Tryz.prog w = .ok (.string .empty) w := fun w q => Lib.run_unsafeString_none w 163 3 9 q
  rcases hrow.2 with ⟨rfl, hz⟩ | ⟨g, cap, cur, rfl, _, hg, hnc, hcm, hcs, htake⟩
  · have hSD : (Builtin.unsafeSliceData_ #[87] 163 #[.slice none 0 0]).run Tryz.prog w.drew = .ok (.pointer none) w.drew := rfl
    clear h hrow hbx
    go_enter Tryz.func59, Tryz.ntmps59
    go_wp2
    go_region
    all_goals (go_wp2; go_ret; exact ⟨⟨_, rfl⟩, (Keep.refl _ _).drew⟩)
  · have hg' : w.drew.heap[g]? = some (.cells cur TB (0, 0)) := hg
    by_cases hl0 : l = []
    · subst hl0
      by_cases hc0 : cap = 0
      · subst hc0
        have hSD : (Builtin.unsafeSliceData_ #[87] 163 #[.slice (some ⟨g, 0, none⟩) 0 0]).run Tryz.prog w.drew = .ok (.pointer (some ⟨w.drew.heap.size, 0, none⟩)) (w.drew.alloc (.view ⟨g, 0, none⟩ TB)) :=
          Lib.run_unsafeSliceData_zero w.drew _ _ TB Tryz.underlying163 ⟨g, 0, none⟩ 0 (TB, cur.size) (by simp [World.shape?, hg'])
        have c1' : (w.alloc (.view ⟨g, 0, none⟩ TB)).cell? ⟨b, 1, none⟩ = some (.slice (some ⟨g, 0, none⟩) 0 0) := (Keep.alloc1 w _).cell' (box2 h.box).2.1 (by simp)
        clear h hrow hbx
        go_enter Tryz.func59, Tryz.ntmps59
        go_wp2
        go_region
        all_goals (go_wp2; go_ret; exact ⟨⟨_, rfl⟩, (Keep.refl _ _).drew.alloc _⟩)
      · have hSD : (Builtin.unsafeSliceData_ #[87] 163 #[.slice (some ⟨g, 0, none⟩) 0 cap]).run Tryz.prog w.drew = .ok (.pointer (some ⟨g, 0, none⟩)) w.drew := Lib.run_unsafeSliceData_row _ _ _ _ _ _ hc0
        clear h hrow hbx
        go_enter Tryz.func59, Tryz.ntmps59
        go_wp2
        go_region
        all_goals (go_wp2; go_ret; exact ⟨⟨_, rfl⟩, (Keep.refl _ _).drew⟩)
    · have hlen : l.length ≠ 0 := by simpa using hl0
      have hSD : (Builtin.unsafeSliceData_ #[87] 163 #[.slice (some ⟨g, 0, none⟩) l.length cap]).run Tryz.prog w.drew = .ok (.pointer (some ⟨g, 0, none⟩)) w.drew := Lib.run_unsafeSliceData_row _ _ _ _ _ _ (by omega)
      have hUS : (Builtin.unsafeString_ #[163, 3] 9 #[.pointer (some ⟨g, 0, none⟩), .int .i64 (l.length : Int)]).run Tryz.prog w.drew = .ok (.string ⟨l.toArray⟩) (w.drew.freeze ⟨g, 0, none⟩ l.length) := by
        refine Lib.run_unsafeString_row w.drew 163 3 9 TB Tryz.underlying163 (by kernel_rfl) g cur.size (by simp [World.shape?, hg']) l hl0 (by omega) (by unfold maxLen at hcm; omega) ?_
        intro j x hx
        have := World.ownsRow.cells hrow (g := g) rfl j (.int .u8 x.toNat) (by simp [bv, hx])
        exact this
      clear h hbx hUN
      go_enter Tryz.func59, Tryz.ntmps59
      go_wp2
      go_region
      all_goals (go_wp2; go_ret; exact ⟨⟨_, rfl⟩, (Keep.refl _ _).drew.freeze (.inl (by simp [Value.ownBlock])) _⟩)
end Go.Proofs.YtplbclokoffgkaaGreatDoor

/- A sheet: a condition is written into it. -/
namespace Go.Proofs.YtplbclokoffgkaaGreatDoor
open Go.RowKit Go.PlainAid

/-- whole: some text, and no error -/
theorem whole_any (b n : Nat) (v : Value) (w : World) (h : Bn w b n v) (hn : n ≤ 65536) :
    Calls Tryz.prog 35 #[.pointer (some ⟨b, 0, none⟩)] w fun e w' => (∃ s, e = .returned (.tuple #[.string s, .int .i64 0])) ∧ Keep v.ownBlock.toList w w' := by
  have hL := long_any b n v w h hn
  obtain ⟨l, p, h1, _⟩ := h
  have hS := string_any b l p v w h1
  clear h1
  go_enter Tryz.func35, Tryz.ntmps35
  go_wp2_with fail
  refine hL.mono ?_
  rintro e9 w9 ⟨rfl, hw9⟩
  obtain rfl := hw9.symm
  clear hw9
  go_wp2_with fail
  refine hS.mono ?_
  rintro e9 w9 ⟨⟨s, rfl⟩, k9⟩
  have HK : Hid (Keep v.ownBlock.toList w w9) := k9
  clear k9
  go_wp2
  refine bodyPost_ret (v := .tuple #[.string s, .int .i64 0]) (by simp [results, Tryz.results35, go_sem]) rfl ⟨⟨s, rfl⟩, HK.out⟩

theorem comma_any (b n i : Nat) (v : Value) (w : World) (h : Bn w b n v) (hn : n + 256 ≤ 65536) :
    Calls Tryz.prog 56 #[.pointer (some ⟨b, 0, none⟩), .int .i64 (i : Int)] w fun e w' => e = .returned (.tuple #[]) ∧ ∃ v', Bn w' b (n + 256) v' ∧ Wd b v v' w w' := by
  by_cases h0 : i = 0
  · subst h0
    have HB : Hid (Bn w b n v) := h
    clear h
    go_enter Tryz.func56, Tryz.ntmps56
    go_wp2
    go_end0
    exact ⟨rfl, v, HB.out.mono (by omega), Wd.refl _ _ _⟩
  · have hi : (0 : Int) < (i : Int) := by omega
    have hP := put_at w.heap.size b n v [⟨#[44, 32]⟩] #[.string ⟨#[44, 32]⟩] 1 w rfl h rfl (by intro j hj; match j with | 0 => rfl | j + 1 => exact absurd hj (by simp)) (by intro x hx; simp at hx; subst hx; show 2 ≤ 256; omega) hn
    clear h
    go_enter Tryz.func56, Tryz.ntmps56
    go_wp2_with fail
    refine hP.mono ?_
    rintro e9 w9 ⟨rfl, v9, b9, d9⟩
    have HR : Hid (Bn w9 b (n + 256) v9 ∧ Wd b v v9 w w9) := ⟨b9, d9⟩
    clear b9 d9
    go_wp2
    go_end0
    exact ⟨rfl, v9, HR.out⟩

theorem sexpr_any (lv : Value) (l : List Pt) (r : Int) (c b n : Nat) (v : Value) (w : World) (hp : Cl 87 (fun p => #[p, lv, .int .i64 0]) lv l r c) (h : Bn w b n v) (h2 : Pp w lv l) (h3 : Tb w) (h4 : Lo b lv) (h5 : 15 ≤ b) (hn : n + c ≤ 65536) :
    Calls Tryz.prog 57 #[.pointer (some ⟨b, 0, none⟩), lv] w fun e w' => e = .returned (.tuple #[]) ∧ ∃ v', Bn w' b (n + c) v' ∧ Wd b v v' w w' := by
  have hL := long_any b n v w h (by omega)
  have hP := hp b n v w h h2 h3 h4 h5 hn
  clear h h2 h3 h4 h5 hn hp
  dsimp only at hP
  go_enter Tryz.func57, Tryz.ntmps57
  go_wp2_with fail
  refine hL.mono ?_
  rintro e9 w9 ⟨rfl, hw9⟩
  obtain rfl := hw9.symm
  clear hw9
  go_wp2_with fail
  refine hP.mono ?_
  rintro e9 w9 ⟨rfl, v9, b9, d9⟩
  have HR : Hid (Bn w9 b (n + c) v9 ∧ Wd b v v9 w w9) := ⟨b9, d9⟩
  clear b9 d9
  go_wp2
  go_end0
  exact ⟨rfl, v9, HR.out⟩
end Go.Proofs.YtplbclokoffgkaaGreatDoor
