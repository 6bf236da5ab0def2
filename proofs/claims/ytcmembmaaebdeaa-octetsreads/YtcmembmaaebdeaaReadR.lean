/- The document's own Reader: what it has left, its error; what refusing and taking make of it. -/
import Derived.Test.YtcmembmaaebdeaaRMeth2
import Derived.Test.YtcmembmaaebdeaaHelpW
namespace Go.Proofs.Ytcmembmaaebdeaa
open Go.RowKit Go.PlainAid Go.Lib

/-- at d lies the document's Reader: l is left, e its error; its bytes lie below M -/
structure RefR (w : World) (M d : Nat) (l : List UInt8) (e : Int) : Prop where
  f0 : w.frozen? ⟨d, 0, none⟩ = false
  f1 : w.frozen? ⟨d, 1, none⟩ = false
  err : w.cell? ⟨d, 1, none⟩ = some (.int .i64 e)
  md : M ≤ d
  b : ∃ v, w.cell? ⟨d, 0, none⟩ = some v ∧ Bs w v l ∧ (l ≠ [] → ∀ k, v.ownBlock = some k → k < M)

theorem RefR.dlt {w : World} {M d : Nat} {l : List UInt8} {e : Int} (h : RefR w M d l e) : d < w.heap.size := World.block_lt_of_cell? w _ h.err

theorem Bs.keepOff {F : List Nat} {w w' : World} {v : Value} {l : List UInt8} (h : Bs w v l) (k : Keep F w w') (hn : l ≠ [] → Off v F) : Bs w' v l := by
  obtain ⟨ao, cap, rfl, h1, h2, h3, h4⟩ := h.ex
  refine ⟨ao, cap, rfl, h1, h2, h3, fun hl => ?_⟩
  obtain ⟨b, o, rfl, hc⟩ := h4 hl
  exact ⟨b, o, rfl, fun j hj => k.cell' (hc j hj) (hn hl b rfl)⟩

theorem RefR.keep {F : List Nat} {w w' : World} {M d : Nat} {l : List UInt8} {e : Int} (h : RefR w M d l e) (k : Keep F w w') (hF : ∀ x ∈ F, M ≤ x ∧ x ≠ d) : RefR w' M d l e := by
  have hd : d ∉ F := fun hm => (hF d hm).2 rfl
  obtain ⟨v, h1, h2, h3⟩ := h.b
  refine ⟨(k.frozen (p := ⟨d, 0, none⟩) h.dlt hd).trans h.f0, (k.frozen (p := ⟨d, 1, none⟩) h.dlt hd).trans h.f1, k.cell' h.err hd, h.md, v, k.cell' h1 hd, h2.keepOff k (fun hl x hx hm => ?_), h3⟩
  have h4 := h3 hl x hx
  have h5 := (hF x hm).1
  omega

set_option maxHeartbeats 800000 in
theorem refuse_any (M d : Nat) (l : List UInt8) (e e' : Int) (w : World) (hr : RefR w M d l e) :
    Calls Try.prog 84 #[.pointer (some ⟨d, 0, none⟩), .int .i64 e'] w fun x w' => x = .returned (.tuple #[]) ∧ RefR w' M d l e' ∧ Keep [d] w w' := by
  have hc := hr.err
  have hf := hr.f1
  have HK : Hid (Keep [d] w (w.setCell ⟨d, 1, none⟩ (.int .i64 e'))) := Keep.set1 w ⟨d, 1, none⟩ _
  have HR : Hid (RefR (w.setCell ⟨d, 1, none⟩ (.int .i64 e')) M d l e') := by
    obtain ⟨v, h1, h2, h3⟩ := hr.b
    have hmd := hr.md
    refine ⟨by rw [World.frozen?_setCell]; exact hr.f0, by rw [World.frozen?_setCell]; exact hr.f1, World.cell?_setCell_same w _ _ hr.err, hmd, v, by rw [World.cell?_setCell_other _ _ _ _ (by simp)]; exact h1, h2.keepOff HK.out (fun hl x hx hm => ?_), h3⟩
    have := h3 hl x hx
    simp at hm
    omega
  clear hr
  go_enter Try.func84, Try.ntmps84
  go_wp2
  go_end0
  exact ⟨rfl, HR.out, HK.out⟩

theorem take_news {w w9 : World} {o : Obj} {v9 : Value} (k : Keep (Value.slice (some ⟨w.heap.size, 0, none⟩) 0 0).ownBlock.toList (w.alloc o) w9) (f : v9.ownBlock = (Value.slice (some ⟨w.heap.size, 0, none⟩) 0 0).ownBlock ∨ Fresh (w.alloc o) w9 v9) :
    Keep [] w w9 ∧ Fresh w w9 v9 := by
  have hs := k.size
  simp at hs
  refine ⟨(Keep.alloc1 w o).more k (fun x hx => .inr ?_), fun x hx => ?_⟩
  · simp [Value.ownBlock] at hx
    omega
  · rcases f with f | f
    · rw [f] at hx
      simp [Value.ownBlock] at hx
      omega
    · have := f x hx
      simp at this
      omega

theorem RefR.stored {w w9 : World} {M d : Nat} {l l2 : List UInt8} {e : Int} {v2 : Value} (h : RefR w M d l e) (k : Keep [] w w9) (hb : Bs w9 v2 l2) (hm : l2 ≠ [] → ∀ x, v2.ownBlock = some x → x < M) :
    RefR (w9.setCell ⟨d, 0, none⟩ v2) M d l2 e ∧ Keep [d] w (w9.setCell ⟨d, 0, none⟩ v2) := by
  have h9 := h.keep k (fun _ hx => by cases hx)
  obtain ⟨v, h1, _, _⟩ := h9.b
  have k2 := Keep.set1 w9 ⟨d, 0, none⟩ v2
  refine ⟨⟨by rw [World.frozen?_setCell]; exact h9.f0, by rw [World.frozen?_setCell]; exact h9.f1, by rw [World.cell?_setCell_other _ _ _ _ (by simp)]; exact h9.err, h.md, v2, World.cell?_setCell_same w9 _ _ h1, hb.keepOff k2 (fun hl x hx hx2 => ?_), hm⟩, k.trans k2 (fun _ hx => by cases hx) (fun x hx => .inl hx)⟩
  have h4 := hm hl x hx
  have h5 := h.md
  simp at hx2
  omega

theorem Bs.drop {w : World} {b o : Nat} {l : List UInt8} {cap : Nat} (n : Nat) (hn : n ≤ l.length) (h : Bs w (.slice (some ⟨b, o, none⟩) l.length cap) l) : Bs w (.slice (some ⟨b, o + n, none⟩) (l.length - n) (cap - n)) (l.drop n) := by
  obtain ⟨ao, c, he, h1, h2, h3, h4⟩ := h.ex
  simp at he
  obtain ⟨rfl, rfl⟩ := he
  refine ⟨some ⟨b, o + n, none⟩, cap - n, by simp, by simp; omega, by simp only [maxLen] at h2 ⊢; omega, (by intro h; cases h), fun hl => ⟨b, o + n, rfl, fun j hj => ?_⟩⟩
  obtain ⟨b', o', hbo, hc⟩ := h4 (by intro hz; rw [hz] at hl; simp at hl)
  simp at hbo
  obtain ⟨rfl, rfl⟩ := hbo
  have := hc (n + j) (by simp at hj; omega)
  rw [Nat.add_assoc, this]
  simp [List.getD_eq_getElem?_getD]

set_option maxRecDepth 1000000 in
set_option maxHeartbeats 3200000 in
theorem take_any (M d n : Nat) (l : List UInt8) (e : Int) (w : World) (hr : RefR w M d l e) (hn : n ≤ l.length) (hl : l.length ≤ 140737488355328) :
    Calls Try.prog 85 #[.pointer (some ⟨d, 0, none⟩), .int .i64 (n : Int)] w fun x w' => ∃ v, x = .returned v ∧ Row w' v (l.take n) ∧ Fresh w w' v ∧ RefR w' M d (l.drop n) e ∧ Keep [d] w w' := by
  obtain ⟨v, h1, h2, h3⟩ := hr.b
  have hf0 := hr.f0
  have hR0 := Row.empty w
  have hdl := hr.dlt
  have HR : Hid (RefR w M d l e) := hr
  rcases h2.cases with ⟨rfl, ao, cap, rfl, hcm, hao⟩ | ⟨hne, b, o, cap, rfl, hl0, hlc, hcm, hcell⟩
  · have hn0 : n = 0 := by simpa using hn
    subst hn0
    clear hr h2 hn
    cases ao with
    | none =>
      have hc0 := hao rfl
      subst hc0
      have hsrc := (Bs.nil (w.alloc (.cells #[] TB))).src
      go_enter Try.func85, Try.ntmps85
      go_wp2_with (at_builtin; refine wp_app rfl (.tmp 6) (.tmp 12) 24 24 rfl underS _ [] rfl hR0 _ [] rfl hsrc (by simp) ?_)
      intro v9 w9 g1 g2 g3 g4
      obtain ⟨K9, F9⟩ := take_news g2 g3
      have hc9 := K9.cell' h1 (by simp)
      have hf9 := (K9.frozen (p := ⟨d, 0, none⟩) hdl (by simp)).trans hf0
      obtain ⟨a9, c9, rfl⟩ := g4
      have HX : Hid (Row w9 (.slice a9 0 c9) [] ∧ Fresh w w9 (.slice a9 0 c9) ∧ Keep [] w w9) := ⟨g1, F9, K9⟩
      clear g1 g2 g3 K9 F9 hsrc hR0
      go_wp2
      go_ret
      obtain ⟨r1, r2⟩ := HR.out.stored HX.out.2.2 (Bs.nil w9) (fun h => absurd rfl h)
      exact ⟨_, rfl, HX.out.1.keep (Keep.set1 w9 ⟨d, 0, none⟩ _) (fun x hx hm => by have := (HX.out.2.1 x hx).1; simp at hm; omega), HX.out.2.1.later (by simp [World.setCell]), r1, r2⟩
    | some a =>
      have hsrc := (Bs.empty (w.alloc (.cells #[] TB)) a cap (by simp only [maxLen]; omega)).src
      go_enter Try.func85, Try.ntmps85
      go_wp2_with (at_builtin; refine wp_app rfl (.tmp 6) (.tmp 12) 24 24 rfl underS _ [] rfl hR0 _ [] rfl hsrc (by simp) ?_)
      intro v9 w9 g1 g2 g3 g4
      obtain ⟨K9, F9⟩ := take_news g2 g3
      have hc9 := K9.cell' h1 (by simp)
      have hf9 := (K9.frozen (p := ⟨d, 0, none⟩) hdl (by simp)).trans hf0
      obtain ⟨a9, c9, rfl⟩ := g4
      have HX : Hid (Row w9 (.slice a9 0 c9) [] ∧ Fresh w w9 (.slice a9 0 c9) ∧ Keep [] w w9) := ⟨g1, F9, K9⟩
      clear g1 g2 g3 K9 F9 hsrc hR0
      go_wp2
      go_ret
      obtain ⟨r1, r2⟩ := HR.out.stored HX.out.2.2 (Bs.empty w9 a cap (by simp only [maxLen]; omega)) (fun h => absurd rfl h)
      exact ⟨_, rfl, HX.out.1.keep (Keep.set1 w9 ⟨d, 0, none⟩ _) (fun x hx hm => by have := (HX.out.2.1 x hx).1; simp at hm; omega), HX.out.2.1.later (by simp [World.setCell]), r1, r2⟩
  · have hn0 : (0 : Int) ≤ (n : Int) := by omega
    have hn1 : (n : Int) ≤ (cap : Int) := by omega
    have hn2 : (n : Int) ≤ (l.length : Int) := by omega
    have hsrc := ((h2.take n hn).keep (Keep.alloc1 w (.cells #[] TB)) (Off.nil _)).src
    have HB : Hid (([] : List UInt8).length + (l.take n).length ≤ 140737488355328) := by
      show ([] : List UInt8).length + (l.take n).length ≤ 140737488355328
      simp; omega
    have hnl : (l.take n).length = n := by simp; omega
    generalize l.take n = r at hsrc HB hnl
    have HB2 : Hid (Bs w (.slice (some ⟨b, o, none⟩) l.length cap) l) := h2
    clear hr h2 hcell
    go_enter Try.func85, Try.ntmps85
    go_wp2_with (at_builtin; refine wp_app rfl (.tmp 6) (.tmp 12) 24 24 rfl underS _ [] rfl hR0 _ r rfl hsrc HB.out ?_)
    intro v9 w9 g1 g2 g3 g4
    obtain ⟨K9, F9⟩ := take_news g2 g3
    have hc9 := K9.cell' h1 (by simp)
    have hf9 := (K9.frozen (p := ⟨d, 0, none⟩) hdl (by simp)).trans hf0
    obtain ⟨a9, c9, rfl⟩ := g4
    have HX : Hid (Row w9 _ r ∧ Fresh w w9 _ ∧ Keep [] w w9) := ⟨g1, F9, K9⟩
    clear g1 g2 g3 K9 F9 hsrc hR0
    go_wp2
    all_goals go_ret
    · have hd0 : l.drop n = [] := List.drop_eq_nil_of_le (by omega)
      have hl0' : l.length - n = 0 := by omega
      rw [hl0', hd0]
      obtain ⟨r1, r2⟩ := HR.out.stored HX.out.2.2 (Bs.empty w9 ⟨b, o, none⟩ 0 (by simp [maxLen])) (fun h => absurd rfl h)
      exact ⟨_, rfl, HX.out.1.keep (Keep.set1 w9 ⟨d, 0, none⟩ _) (fun x hx hm => by have := (HX.out.2.1 x hx).1; simp at hm; omega), HX.out.2.1.later (by simp [World.setCell]), r1, r2⟩
    · obtain ⟨r1, r2⟩ := HR.out.stored HX.out.2.2 ((HB2.out.keep HX.out.2.2 (Off.nil _)).drop n hn) (fun _ x hx => h3 hne x (by simpa [Value.ownBlock] using hx))
      exact ⟨_, rfl, HX.out.1.keep (Keep.set1 w9 ⟨d, 0, none⟩ _) (fun x hx hm => by have := (HX.out.2.1 x hx).1; simp at hm; omega), HX.out.2.1.later (by simp [World.setCell]), r1, r2⟩

end Go.Proofs.Ytcmembmaaebdeaa
