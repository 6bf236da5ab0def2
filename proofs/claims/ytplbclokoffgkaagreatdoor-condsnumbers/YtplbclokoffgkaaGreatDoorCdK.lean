/- A sheet: what is put apart, the first and the second part of one. -/
import Derived.Test.YtplbclokoffgkaaGreatDoorCdJ
namespace Go.Proofs.YtplbclokoffgkaaGreatDoor
open Go.RowKit Go.PlainAid

theorem put_new (b n : Nat) (v : Value) (ps : List ByteArray) (cs : Array Value) (k : Nat) (w : World) (h : Bn w b n v) (hk : ps.length = k) (hcs : ∀ j (h : j < ps.length), cs[j]? = some (.string ps[j])) (hs : ∀ s ∈ ps, s.size ≤ 256) (hn : n + k * 256 ≤ 65536) :
    Calls Tryz.prog 54 #[.pointer (some ⟨b, 0, none⟩), .slice (some ⟨w.heap.size, 0, none⟩) k k] (w.alloc (.cells cs 9)) fun e w' => e = .returned (.tuple #[]) ∧ ∃ v', Bn w' b (n + k * 256) v' ∧ Wd b v v' w w' := by
  subst hk
  have hT : Ts (w.alloc (.cells cs 9)) (.slice (some ⟨w.heap.size, 0, none⟩) ps.length ps.length) ps := by
    refine ⟨_, _, rfl, Nat.le_refl _, by omega, fun s h => by have := hs s h; omega, fun _ => ⟨w.heap.size, 0, rfl, fun j hj => ?_⟩⟩
    rw [World.cell?_alloc_at cs 9 w.heap.size (0 + j) rfl, Nat.zero_add]
    exact hcs j hj
  have hO : Off (.slice (some ⟨w.heap.size, 0, none⟩) ps.length ps.length) (b :: v.ownBlock.toList) := by
    intro x hx hm
    simp [Value.ownBlock] at hx
    subst hx
    simp at hm
    rcases hm with e | e
    · have := h.lt; omega
    · have := (h.rowlt _ e).2; omega
  refine (put_any b n v _ ps _ (h.alloc _) hT hO hs hn).mono ?_
  rintro e w' ⟨rfl, v', h1, h2⟩
  exact ⟨rfl, v', h1, h2.alloc⟩

/-- a value's memory lies below b -/
def Lo (b : Nat) (u : Value) : Prop := ∀ k, u.ownBlock = some k → k < b
theorem Pp.keep {F : List Nat} {w w' : World} {v : Value} {l : List Pt} (h : Pp w v l) (k : Keep F w w') (hn : Off v F) : Pp w' v l := by
  obtain ⟨ao, cap, rfl, h1, h2, h3⟩ := h.ex
  refine ⟨ao, cap, rfl, h1, h2, fun hl => ?_⟩
  obtain ⟨b, o, rfl, hc⟩ := h3 hl
  refine ⟨b, o, rfl, fun i hi => ?_⟩
  obtain ⟨c0, c1, c2, c3, c4, c5, c6, c7⟩ := hc i hi
  have hb := hn b rfl
  exact ⟨k.cell' c0 hb, k.cell' c1 hb, k.cell' c2 hb, k.cell' c3 hb, k.cell' c4 hb, k.cell' c5 hb, k.cell' c6 hb, k.cell' c7 hb⟩
theorem Bn.low {w : World} {b n : Nat} {v : Value} (h : Bn w b n v) {x : Nat} (hx : x < b) : x ∉ (b :: v.ownBlock.toList) := by
  intro hm
  simp at hm
  rcases hm with e | e
  · omega
  · have := (h.rowlt _ e).1; omega
theorem Lo.off {w : World} {b n : Nat} {v u : Value} (h : Lo b u) (hb : Bn w b n v) : Off u (b :: v.ownBlock.toList) := fun k hk => hb.low (h k hk)

/-- a call that writes a part of the expression l at lv into a sheet: it answers r, and puts at most c bytes -/
def Cl (f : Nat) (mk : Value → Array Value) (lv : Value) (l : List Pt) (r : Int) (c : Nat) : Prop :=
  ∀ (b n : Nat) (v : Value) (w : World), Bn w b n v → Pp w lv l → Tb w → Lo b lv → 15 ≤ b → n + c ≤ 65536 →
    Calls Tryz.prog f (mk (.pointer (some ⟨b, 0, none⟩))) w fun e w' => e = .returned (.int .i64 r) ∧ ∃ v', Bn w' b (n + c) v' ∧ Wd b v v' w w'
theorem Cl.more {f : Nat} {mk : Value → Array Value} {lv : Value} {l : List Pt} {r : Int} {c d : Nat} (h : Cl f mk lv l r c) (hd : c ≤ d) : Cl f mk lv l r d := by
  intro b n v w h1 h2 h3 h4 h5 h6
  refine (h b n v w h1 h2 h3 h4 h5 (by omega)).mono ?_
  rintro e w' ⟨rfl, v', h7, h8⟩
  exact ⟨rfl, v', h7.mono (by omega), h8⟩

set_option maxRecDepth 1000000 in
set_option maxHeartbeats 1600000 in
theorem apart_of (lv : Value) (l : List Pt) (i : Int) (r : Int) (c : Nat) (y : Bool) (h : Cl 87 (fun p => #[p, lv, .int .i64 i]) lv l r c) : Cl 146 (fun p => #[p, .bool y, lv, .int .i64 i]) lv l r (c + 512) := by
  cases y
  · refine Cl.more (c := c) ?_ (by omega)
    intro b n v w h1 h2 h3 h4 h5 h6
    have hP := h b n v w h1 h2 h3 h4 h5 h6
    clear h h1 h2 h3 h4 h5 h6
    dsimp only at hP ⊢
    go_enter Tryz.func146, Tryz.ntmps146
    go_wp2_with fail
    refine hP.mono ?_
    rintro e9 w9 ⟨rfl, v9, b9, d9⟩
    have HR : Hid (Bn w9 b (n + c) v9 ∧ Wd b v v9 w w9) := ⟨b9, d9⟩
    clear b9 d9
    go_wp2
    go_ret
    exact ⟨rfl, v9, HR.out⟩
  · intro b n v w h1 h2 h3 h4 h5 h6
    have HV : Hid (Bn w b n v ∧ Pp w lv l ∧ Tb w ∧ Lo b lv ∧ 15 ≤ b ∧ n + (c + 512) ≤ 65536) := ⟨h1, h2, h3, h4, h5, h6⟩
    clear h1 h2 h3 h4 h5 h6
    dsimp only
    go_enter Tryz.func146, Tryz.ntmps146
    go_wp2_with fail
    refine (put_new b n v [⟨#[40]⟩] #[.string ⟨#[40]⟩] 1 w HV.out.1 rfl (fun j hj => by simp at hj; subst hj; rfl) (fun s hs => by simp at hs; subst hs; decide) (by have := HV.out.2.2.2.2.2; omega)).mono ?_
    rintro e9 w9 ⟨rfl, v9, b9, d9⟩
    have hP := h b (n + 1 * 256) v9 w9 b9 (HV.out.2.1.keep d9.keep (HV.out.2.2.2.1.off HV.out.1)) (HV.out.2.2.1.keep d9.keep (fun x hx => HV.out.1.low (by have := HV.out.2.2.2.2.1; omega))) HV.out.2.2.2.1 HV.out.2.2.2.2.1 (by have := HV.out.2.2.2.2.2; omega)
    have HD : Hid (Wd b v v9 w w9) := d9
    clear b9 d9
    dsimp only at hP
    go_wp2_with fail
    refine hP.mono ?_
    rintro e8 w8 ⟨rfl, v8, b8, d8⟩
    have HR : Hid (Bn w8 b (n + 1 * 256 + c) v8 ∧ Wd b v v8 w w8) := ⟨b8, HD.out.trans d8⟩
    clear b8 d8 hP HD
    go_wp2_with fail
    refine (put_new b (n + 1 * 256 + c) v8 [⟨#[41]⟩] #[.string ⟨#[41]⟩] 1 w8 HR.out.1 rfl (fun j hj => by simp at hj; subst hj; rfl) (fun s hs => by simp at hs; subst hs; decide) (by have := HV.out.2.2.2.2.2; omega)).mono ?_
    rintro e7 w7 ⟨rfl, v7, b7, d7⟩
    have HR7 : Hid (Bn w7 b (n + (c + 512)) v7 ∧ Wd b v v7 w w7) := ⟨b7.mono (by omega), HR.out.2.trans d7⟩
    clear b7 d7
    go_wp2
    go_ret
    exact ⟨rfl, v7, HR7.out⟩

theorem takesMinus_any (p : Pt) (hv : p.vk ≠ 3) (w : World) : Calls Tryz.prog 145 #[p.val] w fun e w' => e = .returned (.bool (decide (p.vk = 2) && decide (0 ≤ p.vi))) ∧ Keep [] w w' := by
  obtain ⟨k, s, vk, vi⟩ := p
  have hsf := store_f32
  simp only [Go.stored] at hsf
  simp only at hv ⊢
  have h3 : (vk == 3) = false := by simpa using hv
  by_cases h2 : vk = 2
  · subst h2
    by_cases h0 : 0 ≤ vi
    · rw [decide_eq_true h0]
      go_enter Tryz.func145, Tryz.ntmps145
      go_wp2
      go_ret
      exact ⟨rfl, (Keep.alloc1 _ _).alloc _⟩
    · rw [decide_eq_false h0]
      go_enter Tryz.func145, Tryz.ntmps145
      go_wp2
      go_ret
      exact ⟨rfl, (Keep.alloc1 _ _).alloc _⟩
  · have hb : (vk == 2) = false := by simpa using h2
    rw [decide_eq_false h2]
    go_enter Tryz.func145, Tryz.ntmps145
    go_wp2
    go_ret
    exact ⟨rfl, (Keep.alloc1 _ _).alloc _⟩
end Go.Proofs.YtplbclokoffgkaaGreatDoor
