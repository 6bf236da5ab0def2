/- The document's machine: begin, text, digits. -/
import Derived.Test.YtmglbcldjhdhkabTkRa
namespace Go.Proofs.Ytmglbcldjhdhkab
open Go.RowKit Go.PlainAid

/-- a machine at b -/
def Mb (w : World) (b : Nat) (m : Mc) : Prop := w.heap[b]? = some (.cells #[.int .i64 m.st, .int .i64 m.n] 49 (0, 0))
theorem Mb.cells {w : World} {b : Nat} {m : Mc} (h : Mb w b m) : w.cell? ⟨b, 0, none⟩ = some (.int .i64 m.st) ∧ w.cell? ⟨b, 1, none⟩ = some (.int .i64 m.n) ∧ w.frozen? ⟨b, 0, none⟩ = false ∧ w.frozen? ⟨b, 1, none⟩ = false := box2 h
theorem Mb.set0 {w : World} {b : Nat} {m : Mc} (h : Mb w b m) (s : Int) : Mb (w.setCell ⟨b, 0, none⟩ (.int .i64 s)) b ⟨s, m.n⟩ := heap_setCell_same w b 0 _ 49 _ h
theorem Mb.set1 {w : World} {b : Nat} {m : Mc} (h : Mb w b m) (n : Int) : Mb (w.setCell ⟨b, 1, none⟩ (.int .i64 n)) b ⟨m.st, n⟩ := heap_setCell_same w b 1 _ 49 _ h
theorem Mb.keep {w w' : World} {b : Nat} {m : Mc} (h : Mb w b m) (k : Keep [] w w') : Mb w' b m := (k.block b (Array.getElem?_eq_some_iff.1 h).1 (by simp)).trans h
/-- what a method leaves behind -/
structure Mk (o : Option Mc) (b : Nat) (w w' : World) : Prop where
  ex : ∃ m', Mb w' b m' ∧ ∀ x, o = some x → m' = x
  keep : Keep [b] w w'
theorem Mk.of {o : Option Mc} {b : Nat} {w w' : World} {m : Mc} (h : Mb w' b m) (e : ∀ x, o = some x → m = x) (k : Keep [b] w w') : Mk o b w w' := ⟨⟨m, h, e⟩, k⟩
theorem k0 (w : World) (b o : Nat) (u : Value) : Keep [b] w (w.setCell ⟨b, o, none⟩ u) := Keep.set1 w ⟨b, o, none⟩ u
theorem mark_tab : ∀ a : Fin 256, a.val ≠ 47 → a.val ≠ 61 → a.val ≠ 60 → a.val ≠ 62 → marksL.any (· == [a.val.toUInt8]) = oneMark a.val.toUInt8 := by decide +kernel

set_option maxRecDepth 1000000 in
set_option maxHeartbeats 4000000 in
theorem rbegin_any (b : Nat) (m : Mc) (c : UInt8) (w : World) (h : Mb w b m) :
    Calls Try.prog 42 #[.pointer (some ⟨b, 0, none⟩), .int .u8 (c.toNat : Int)] w fun e w' => e = .returned (.bool (begM c).isSome) ∧ Mk (begM c) b w w' := by
  have h1 := h.set0 0
  have h2 := h1.set1 1
  have K2 : Hid (Keep [b] w ((w.setCell ⟨b, 0, none⟩ (.int .i64 0)).setCell ⟨b, 1, none⟩ (.int .i64 1))) := (k0 w b 0 _).trans' (k0 _ b 1 _)
  have H2 : Hid (Mb ((w.setCell ⟨b, 0, none⟩ (.int .i64 0)).setCell ⟨b, 1, none⟩ (.int .i64 1)) b ⟨0, 1⟩) := h2
  obtain ⟨c0, c1, f0, f1⟩ := h.cells
  obtain ⟨p0, p1, q0, q1⟩ := h1.cells
  obtain ⟨d0, d1, g0, g1⟩ := h2.cells
  have hS : Hid (∀ w, Calls Try.prog 52 #[.int .u8 (c.toNat : Int)] w fun e w' => e = .returned (.bool (smallB (c.toNat : Int))) ∧ w' = w) := rsmall_any _
  have hD : Hid (∀ w, Calls Try.prog 53 #[.int .u8 (c.toNat : Int)] w fun e w' => e = .returned (.bool (digitB (c.toNat : Int))) ∧ w' = w) := rdigit_any _
  have hB : Hid (∀ w, Calls Try.prog 54 #[.int .u8 (c.toNat : Int)] w fun e w' => e = .returned (.bool (blankB (c.toNat : Int))) ∧ w' = w) := rblank_any _
  have hcl : c.toNat < 256 := c.toNat_lt
  have eqc : ∀ (k : UInt8), ((c.toNat : Int) == (k.toNat : Int)) = decide (c = k) := fun k => by
    by_cases e : c = k
    · subst e; simp
    · have : ¬ ((c.toNat : Int) = (k.toNat : Int)) := fun e2 => e (by apply UInt8.toNat_inj.1; omega)
      simp [e, this]
  have e34 := eqc 34
  have e47 := eqc 47
  have e61 := eqc 61
  have e60 := eqc 60
  have e62 := eqc 62
  have e33 := eqc 33
  change ((c.toNat : Int) == 34) = _ at e34
  change ((c.toNat : Int) == 47) = _ at e47
  change ((c.toNat : Int) == 61) = _ at e61
  change ((c.toNat : Int) == 60) = _ at e60
  change ((c.toNat : Int) == 62) = _ at e62
  change ((c.toNat : Int) == 33) = _ at e33
  have fin : Hid (∀ s, Mb (((w.setCell ⟨b, 0, none⟩ (.int .i64 0)).setCell ⟨b, 1, none⟩ (.int .i64 1)).setCell ⟨b, 0, none⟩ (.int .i64 s)) b ⟨s, 1⟩ ∧ Keep [b] w (((w.setCell ⟨b, 0, none⟩ (.int .i64 0)).setCell ⟨b, 1, none⟩ (.int .i64 1)).setCell ⟨b, 0, none⟩ (.int .i64 s))) := fun s => ⟨h2.set0 s, K2.out.trans' (k0 _ b 0 _)⟩
  unfold begM
  clear h h1 h2 eqc
  cases hs : smallB (c.toNat : Int)
  rotate_left
  · rw [if_pos rfl]
    rw [hs] at hS
    go_enter Try.func42, Try.ntmps42
    go_wp2_with (go_at_call 52; refine (hS.out _).mono ?_; rintro e w' ⟨rfl, rfl⟩)
    go_ret
    exact ⟨rfl, Mk.of (fin.out 3).1 (by intro x hx; simpa using hx) (fin.out 3).2⟩
  rw [if_neg (by simp)]
  rw [hs] at hS
  cases hd : digitB (c.toNat : Int)
  rotate_left
  · rw [if_pos rfl]
    rw [hd] at hD
    go_enter Try.func42, Try.ntmps42
    go_wp2_with (first | (go_at_call 52; refine (hS.out _).mono ?_; rintro e w' ⟨rfl, rfl⟩) | (go_at_call 53; refine (hD.out _).mono ?_; rintro e w' ⟨rfl, rfl⟩))
    go_ret
    exact ⟨rfl, Mk.of (fin.out 4).1 (by intro x hx; simpa using hx) (fin.out 4).2⟩
  rw [if_neg (by simp)]
  rw [hd] at hD
  by_cases a34 : c = 34
  · rw [if_pos a34]
    rw [decide_eq_true a34] at e34
    clear a34
    go_enter Try.func42, Try.ntmps42
    go_wp2_with (first | (go_at_call 52; refine (hS.out _).mono ?_; rintro e w' ⟨rfl, rfl⟩) | (go_at_call 53; refine (hD.out _).mono ?_; rintro e w' ⟨rfl, rfl⟩))
    go_ret
    exact ⟨rfl, Mk.of (fin.out 10).1 (by intro x hx; simpa using hx) (fin.out 10).2⟩
  rw [if_neg a34]
  rw [decide_eq_false a34] at e34
  by_cases a47 : c = 47
  · rw [if_pos a47]
    rw [decide_eq_true a47] at e47
    clear a47 a34
    go_enter Try.func42, Try.ntmps42
    go_wp2_with (first | (go_at_call 52; refine (hS.out _).mono ?_; rintro e w' ⟨rfl, rfl⟩) | (go_at_call 53; refine (hD.out _).mono ?_; rintro e w' ⟨rfl, rfl⟩))
    go_ret
    exact ⟨rfl, Mk.of (fin.out 1).1 (by intro x hx; simpa using hx) (fin.out 1).2⟩
  rw [if_neg a47]
  rw [decide_eq_false a47] at e47
  by_cases asm : c = 61 ∨ c = 60 ∨ c = 62
  · rw [if_pos asm]
    by_cases a61 : c = 61
    · rw [decide_eq_true a61] at e61
      clear a61 a34 a47 asm
      go_enter Try.func42, Try.ntmps42
      go_wp2_with (first | (go_at_call 52; refine (hS.out _).mono ?_; rintro e w' ⟨rfl, rfl⟩) | (go_at_call 53; refine (hD.out _).mono ?_; rintro e w' ⟨rfl, rfl⟩))
      go_ret
      exact ⟨rfl, Mk.of (fin.out 14).1 (by intro x hx; simpa using hx) (fin.out 14).2⟩
    · rw [decide_eq_false a61] at e61
      by_cases a60 : c = 60
      · rw [decide_eq_true a60] at e60
        clear a61 a34 a47 asm a60
        go_enter Try.func42, Try.ntmps42
        go_wp2_with (first | (go_at_call 52; refine (hS.out _).mono ?_; rintro e w' ⟨rfl, rfl⟩) | (go_at_call 53; refine (hD.out _).mono ?_; rintro e w' ⟨rfl, rfl⟩))
        go_ret
        exact ⟨rfl, Mk.of (fin.out 14).1 (by intro x hx; simpa using hx) (fin.out 14).2⟩
      · rw [decide_eq_false a60] at e60
        have a62 : c = 62 := by rcases asm with e | e | e; exact absurd e a61; exact absurd e a60; exact e
        rw [decide_eq_true a62] at e62
        clear a61 a34 a47 asm a60 a62
        go_enter Try.func42, Try.ntmps42
        go_wp2_with (first | (go_at_call 52; refine (hS.out _).mono ?_; rintro e w' ⟨rfl, rfl⟩) | (go_at_call 53; refine (hD.out _).mono ?_; rintro e w' ⟨rfl, rfl⟩))
        go_ret
        exact ⟨rfl, Mk.of (fin.out 14).1 (by intro x hx; simpa using hx) (fin.out 14).2⟩
  rw [if_neg asm]
  have a61 : c ≠ 61 := fun e => asm (.inl e)
  have a60 : c ≠ 60 := fun e => asm (.inr (.inl e))
  have a62 : c ≠ 62 := fun e => asm (.inr (.inr e))
  rw [decide_eq_false a61] at e61
  rw [decide_eq_false a60] at e60
  rw [decide_eq_false a62] at e62
  by_cases a33 : c = 33
  · rw [if_pos a33]
    rw [decide_eq_true a33] at e33
    clear a61 a34 a47 asm a60 a62 a33
    go_enter Try.func42, Try.ntmps42
    go_wp2_with (first | (go_at_call 52; refine (hS.out _).mono ?_; rintro e w' ⟨rfl, rfl⟩) | (go_at_call 53; refine (hD.out _).mono ?_; rintro e w' ⟨rfl, rfl⟩))
    go_ret
    exact ⟨rfl, Mk.of (fin.out 15).1 (by intro x hx; simpa using hx) (fin.out 15).2⟩
  rw [if_neg a33]
  rw [decide_eq_false a33] at e33
  have hmk : Hid (marksL.any (· == [c]) = oneMark c) := by
    have := mark_tab ⟨c.toNat, hcl⟩ (fun e => a47 (UInt8.toNat_inj.1 e)) (fun e => a61 (UInt8.toNat_inj.1 e)) (fun e => a60 (UInt8.toNat_inj.1 e)) (fun e => a62 (UInt8.toNat_inj.1 e))
    have e : c.toNat.toUInt8 = c := by apply UInt8.toNat_inj.1; simp
    simp only [e] at this
    exact this
  clear a61 a34 a47 asm a60 a62 a33
  cases hbl : blankB (c.toNat : Int)
  rotate_left
  · rw [Bool.true_or, if_pos rfl]
    rw [hbl] at hB
    go_enter Try.func42, Try.ntmps42
    go_wp2_with (first | (go_at_call 52; refine (hS.out _).mono ?_; rintro e w' ⟨rfl, rfl⟩) | (go_at_call 53; refine (hD.out _).mono ?_; rintro e w' ⟨rfl, rfl⟩) | (go_at_call 54; refine (hB.out _).mono ?_; rintro e w' ⟨rfl, rfl⟩))
    go_ret
    exact ⟨rfl, Mk.of H2.out (by intro x hx; simpa using hx) K2.out⟩
  rw [Bool.false_or]
  rw [hbl] at hB
  have hst : ∀ w : World, (convert 55 9 (.slice (some ⟨w.heap.size, 0, none⟩) 1 1)).run Try.prog (w.alloc (.cells #[.int .u8 (c.toNat : Int)] 5 (0, 0))) = .ok (.string (ba [c])) (w.alloc (.cells #[.int .u8 (c.toNat : Int)] 5 (0, 0))) := fun w => run_str (Bs.one w c)
  have hst2 := hst ((w.setCell ⟨b, 0, none⟩ (.int .i64 0)).setCell ⟨b, 1, none⟩ (.int .i64 1))
  have hsz : ((w.setCell ⟨b, 0, none⟩ (.int .i64 0)).setCell ⟨b, 1, none⟩ (.int .i64 1)).heap.size = w.heap.size := by simp [World.setCell]
  rw [hsz] at hst2
  have hM : Hid (∀ w, Calls Try.prog 55 #[.string (ba [c])] w fun e w' => e = .returned (.bool (oneMark c)) ∧ Keep [] w w') := fun w => by
    have := mark_in (ba [c]) w
    rwa [ba_toList, hmk.out] at this
  clear hst hmk
  cases ho : oneMark c
  all_goals
    rw [ho] at hM
    go_enter Try.func42, Try.ntmps42
    go_wp2_with (first | (go_at_call 52; refine (hS.out _).mono ?_; rintro e w' ⟨rfl, rfl⟩) | (go_at_call 53; refine (hD.out _).mono ?_; rintro e w' ⟨rfl, rfl⟩) | (go_at_call 54; refine (hB.out _).mono ?_; rintro e w' ⟨rfl, rfl⟩) | (go_at_call 55; refine (hM.out _).mono ?_; rintro e w3 ⟨rfl, k3⟩))
    go_ret
    refine ⟨rfl, Mk.of (H2.out.keep ((Keep.alloc1 _ _).trans' k3)) (by intro x hx; first | (cases hx; rfl) | cases hx) ((K2.out.alloc _).more k3 (by simp))⟩
end Go.Proofs.Ytmglbcldjhdhkab

