/- A sheet: a condition is written into it. -/
import Derived.Test.YtplbclokoffgkaaGreatDoorCdP
namespace Go.Proofs.YtplbclokoffgkaaGreatDoor
open Go.RowKit Go.PlainAid

/-- whole: some text, and no error -/
theorem whole_any (b n : Nat) (v : Value) (w : World) (h : Bn w b n v) (hn : n ≤ 65536) :
    Calls Tryz.prog 35 #[.pointer (some ⟨b, 0, none⟩)] w fun e w' => (∃ s, e = .returned (.tuple #[.string s, .int .i64 0])) ∧ Keep v.ownBlock.toList w w' := by
  have hL := long_any b n v w h hn
  obtain ⟨l, p, h1, _⟩ := h
  have hS := string_any b l p v w h1
  clear h1
  go_enter Tryz.func35, Tryz.ntmps35
  go_wp2_with fail
  refine hL.mono ?_
  rintro e9 w9 ⟨rfl, hw9⟩
  obtain rfl := hw9.symm
  clear hw9
  go_wp2_with fail
  refine hS.mono ?_
  rintro e9 w9 ⟨⟨s, rfl⟩, k9⟩
  have HK : Hid (Keep v.ownBlock.toList w w9) := k9
  clear k9
  go_wp2
  refine bodyPost_ret (v := .tuple #[.string s, .int .i64 0]) (by simp [results, Tryz.results35, go_sem]) rfl ⟨⟨s, rfl⟩, HK.out⟩

theorem comma_any (b n i : Nat) (v : Value) (w : World) (h : Bn w b n v) (hn : n + 256 ≤ 65536) :
    Calls Tryz.prog 56 #[.pointer (some ⟨b, 0, none⟩), .int .i64 (i : Int)] w fun e w' => e = .returned (.tuple #[]) ∧ ∃ v', Bn w' b (n + 256) v' ∧ Wd b v v' w w' := by
  by_cases h0 : i = 0
  · subst h0
    have HB : Hid (Bn w b n v) := h
    clear h
    go_enter Tryz.func56, Tryz.ntmps56
    go_wp2
    go_end0
    exact ⟨rfl, v, HB.out.mono (by omega), Wd.refl _ _ _⟩
  · have hi : (0 : Int) < (i : Int) := by omega
    have hP := put_at w.heap.size b n v [⟨#[44, 32]⟩] #[.string ⟨#[44, 32]⟩] 1 w rfl h rfl (by intro j hj; match j with | 0 => rfl | j + 1 => exact absurd hj (by simp)) (by intro x hx; simp at hx; subst hx; show 2 ≤ 256; omega) hn
    clear h
    go_enter Tryz.func56, Tryz.ntmps56
    go_wp2_with fail
    refine hP.mono ?_
    rintro e9 w9 ⟨rfl, v9, b9, d9⟩
    have HR : Hid (Bn w9 b (n + 256) v9 ∧ Wd b v v9 w w9) := ⟨b9, d9⟩
    clear b9 d9
    go_wp2
    go_end0
    exact ⟨rfl, v9, HR.out⟩

theorem sexpr_any (lv : Value) (l : List Pt) (r : Int) (c b n : Nat) (v : Value) (w : World) (hp : Cl 87 (fun p => #[p, lv, .int .i64 0]) lv l r c) (h : Bn w b n v) (h2 : Pp w lv l) (h3 : Tb w) (h4 : Lo b lv) (h5 : 15 ≤ b) (hn : n + c ≤ 65536) :
    Calls Tryz.prog 57 #[.pointer (some ⟨b, 0, none⟩), lv] w fun e w' => e = .returned (.tuple #[]) ∧ ∃ v', Bn w' b (n + c) v' ∧ Wd b v v' w w' := by
  have hL := long_any b n v w h (by omega)
  have hP := hp b n v w h h2 h3 h4 h5 hn
  clear h h2 h3 h4 h5 hn hp
  dsimp only at hP
  go_enter Tryz.func57, Tryz.ntmps57
  go_wp2_with fail
  refine hL.mono ?_
  rintro e9 w9 ⟨rfl, hw9⟩
  obtain rfl := hw9.symm
  clear hw9
  go_wp2_with fail
  refine hP.mono ?_
  rintro e9 w9 ⟨rfl, v9, b9, d9⟩
  have HR : Hid (Bn w9 b (n + c) v9 ∧ Wd b v v9 w w9) := ⟨b9, d9⟩
  clear b9 d9
  go_wp2
  go_end0
  exact ⟨rfl, v9, HR.out⟩
end Go.Proofs.YtplbclokoffgkaaGreatDoor
