/- A Reader in memory: what it has left and its error; what is asked of it without reading. -/
import Derived.Test.YtclapbpkkaljgaaGreatDoorFirstW
namespace Go.Proofs.YtclapbpkkaljgaaGreatDoor
open Go.RowKit Go.PlainAid Go.Lib

/-- at b, o lies a Reader that has l left, in the block rb (or in none), and the error e -/
structure Rd (w : World) (b o : Nat) (l : List UInt8) (e : Int) (rb : Option Nat) : Prop where
  f0 : w.frozen? ⟨b, o, none⟩ = false
  f1 : w.frozen? ⟨b, o + 1, none⟩ = false
  ne : rb ≠ some b
  lt : ∀ k, rb = some k → k < w.heap.size
  err : w.cell? ⟨b, o + 1, none⟩ = some (.int .i64 e)
  rest : (l = [] ∧ rb = none ∧ w.cell? ⟨b, o, none⟩ = some (.slice none 0 0)) ∨
    (∃ b2 o2 cap, rb = some b2 ∧ w.cell? ⟨b, o, none⟩ = some (.slice (some ⟨b2, o2, none⟩) l.length cap) ∧ l.length ≤ cap ∧ cap ≤ 9223372036854775807 ∧
      ∀ j, j < l.length → w.cell? ⟨b2, o2 + j, none⟩ = some (.int .u8 ((l.getD j 0).toNat : Int)))

theorem Rd.blt {w : World} {b o : Nat} {l : List UInt8} {e : Int} {rb : Option Nat} (h : Rd w b o l e rb) : b < w.heap.size := World.block_lt_of_cell? w _ h.err

theorem Rd.keep {F : List Nat} {w w' : World} {b o : Nat} {l : List UInt8} {e : Int} {rb : Option Nat} (h : Rd w b o l e rb) (k : Keep F w w') (hb : b ∉ F) (hr : ∀ x, rb = some x → x ∉ F) : Rd w' b o l e rb := by
  refine ⟨(k.frozen (p := ⟨b, o, none⟩) h.blt hb).trans h.f0, (k.frozen (p := ⟨b, o + 1, none⟩) h.blt hb).trans h.f1, h.ne, fun x hx => Nat.lt_of_lt_of_le (h.lt x hx) k.size, k.cell' h.err hb, ?_⟩
  rcases h.rest with ⟨h1, h2, h3⟩ | ⟨b2, o2, cap, h1, h2, h3, h4, h5⟩
  · exact .inl ⟨h1, h2, k.cell' h3 hb⟩
  · exact .inr ⟨b2, o2, cap, h1, k.cell' h2 hb, h3, h4, fun j hj => k.cell' (h5 j hj) (hr b2 h1)⟩

theorem Rd.len {w : World} {b o : Nat} {l : List UInt8} {e : Int} {rb : Option Nat} (h : Rd w b o l e rb) : l.length ≤ 9223372036854775807 := by
  rcases h.rest with ⟨h1, _⟩ | ⟨b2, o2, cap, h1, h2, h3, h4, h5⟩
  · rw [h1]; simp
  · omega

/-- the Reader goes on: n bytes are read, and its error is er -/
theorem Rd.stored {w w1 : World} {b o : Nat} {l : List UInt8} {e : Int} {rb : Option Nat} (h : Rd w b o l e rb) (k : Keep [] w w1) (l' : List UInt8) (er : Int) (v : Value)
    (hv : (l' = [] ∧ rb = none ∧ v = .slice none 0 0) ∨ (∃ b2 o2 cap, rb = some b2 ∧ v = .slice (some ⟨b2, o2, none⟩) l'.length cap ∧ l'.length ≤ cap ∧ cap ≤ 9223372036854775807 ∧
      ∀ j, j < l'.length → w.cell? ⟨b2, o2 + j, none⟩ = some (.int .u8 ((l'.getD j 0).toNat : Int)))) :
    Rd ((w1.setCell ⟨b, o, none⟩ v).setCell ⟨b, o + 1, none⟩ (.int .i64 er)) b o l' er rb ∧ Keep [b] w1 ((w1.setCell ⟨b, o, none⟩ v).setCell ⟨b, o + 1, none⟩ (.int .i64 er)) := by
  have h1 := h.keep k (by simp) (fun _ _ => by simp)
  have K : Keep [b] w1 ((w1.setCell ⟨b, o, none⟩ v).setCell ⟨b, o + 1, none⟩ (.int .i64 er)) :=
    ((Keep.refl [b] w1).setCell (p := ⟨b, o, none⟩) (.inl (by simp)) v).setCell (p := ⟨b, o + 1, none⟩) (.inl (by simp)) _
  refine ⟨⟨?_, ?_, h1.ne, fun x hx => Nat.lt_of_lt_of_le (h1.lt x hx) K.size, ?_, ?_⟩, K⟩
  · rw [World.frozen?_setCell, World.frozen?_setCell]; exact h1.f0
  · rw [World.frozen?_setCell, World.frozen?_setCell]; exact h1.f1
  · have h9 : (w1.setCell ⟨b, o, none⟩ v).cell? ⟨b, o + 1, none⟩ = some (.int .i64 e) := by
      rw [World.cell?_setCell_other _ _ _ _ (by simp)]
      exact h1.err
    exact World.cell?_setCell_same _ _ _ h9
  · have hself : ∃ u, w1.cell? ⟨b, o, none⟩ = some u := by
      rcases h1.rest with ⟨_, _, h3⟩ | ⟨b2, o2, cap, _, h3, _⟩
      · exact ⟨_, h3⟩
      · exact ⟨_, h3⟩
    obtain ⟨u, hu⟩ := hself
    have hc : ((w1.setCell ⟨b, o, none⟩ v).setCell ⟨b, o + 1, none⟩ (.int .i64 er)).cell? ⟨b, o, none⟩ = some v := by
      rw [World.cell?_setCell_other _ _ _ _ (by simp)]
      exact World.cell?_setCell_same _ _ _ hu
    rcases hv with ⟨h2, h3, rfl⟩ | ⟨b2, o2, cap, h2, rfl, h4, h5, h6⟩
    · exact .inl ⟨h2, h3, hc⟩
    · refine .inr ⟨b2, o2, cap, h2, hc, h4, h5, fun j hj => ?_⟩
      have hne : b2 ∉ [b] := by
        intro hm
        simp at hm
        subst hm
        exact h.ne h2
      exact K.cell' (k.cell' (h6 j hj) (by simp)) hne

set_option maxHeartbeats 800000 in
theorem err_any (b o : Nat) (l : List UInt8) (e : Int) (rb : Option Nat) (w : World) (hr : Rd w b o l e rb) :
    Calls Tryz.prog 47 #[.pointer (some ⟨b, o, none⟩)] w fun x w' => x = .returned (.int .i64 e) ∧ w' = w := by
  have h1 := hr.err
  go_enter Tryz.func47, Tryz.ntmps47
  go_wp2
  go_ret
  exact ⟨rfl, rfl⟩

set_option maxHeartbeats 800000 in
theorem err_none (w : World) : Calls Tryz.prog 47 #[.pointer none] w fun x w' => x = .returned (.int .i64 1) ∧ w' = w := by
  go_enter Tryz.func47, Tryz.ntmps47
  go_wp2
  go_ret
  exact ⟨rfl, rfl⟩

def endE (l : List UInt8) (e : Int) : Int := if e = 0 then (if l = [] then 0 else 23) else e

/-- a new Reader of the bytes l -/
theorem Rd.made {w : World} {v : Value} {l : List UInt8} (h : Row w v l) :
    Rd (w.alloc (.cells #[v, .int .i64 0] 74)) w.heap.size 0 l 0 v.ownBlock := by
  have K := Keep.alloc1 w (.cells #[v, .int .i64 0] 74)
  refine ⟨by simp, by simp, fun hx => ?_, fun k hk => ?_, by simp, ?_⟩
  · have := h.lt _ hx
    omega
  · have := h.lt k hk
    simp
    omega
  · rcases h.2 with ⟨rfl, h0⟩ | ⟨g, cap, cur, rfl, _, hg, hnc, hcm, _, _⟩
    · exact .inl ⟨List.eq_nil_of_length_eq_zero h0, rfl, by simp⟩
    · refine .inr ⟨g, 0, cap, rfl, by simp, hnc, by simpa [maxLen] using hcm, fun j hj => ?_⟩
      have hb := h.bs
      obtain ⟨ao, cap', he, _, _, _, h4⟩ := hb.ex
      obtain ⟨b, o, rfl, hc⟩ := h4 (by intro hl; rw [hl] at hj; simp at hj)
      simp at he
      obtain ⟨⟨rfl, rfl⟩, _⟩ := he
      exact K.cell' (hc j hj) (by simp)

set_option maxHeartbeats 800000 in
theorem Read_any (v : Value) (l : List UInt8) (w : World) (hv : Bs w v l) (hn : l.length ≤ 140737488355328) :
    Calls Tryz.prog 24 #[v] w fun e w' => ∃ b rb, e = .returned (.pointer (some ⟨b, 0, none⟩)) ∧ Rd w' b 0 l 0 rb ∧ w.heap.size ≤ b ∧ (∀ k, rb = some k → w.heap.size ≤ k) ∧ Keep [] w w' := by
  go_enter Tryz.func24, Tryz.ntmps24
  go_wp2_with fail
  refine (clone_any v l w hv hn).mono ?_
  rintro e w9 ⟨v9, rfl, h1, h2, h3, h4⟩
  have HM : Hid (Rd (w9.alloc (.cells #[v9, .int .i64 0] 74)) w9.heap.size 0 l 0 v9.ownBlock) := Rd.made h1
  have HS : Hid (w.heap.size ≤ w9.heap.size) := h3.size
  have HF : Hid (∀ k, v9.ownBlock = some k → w.heap.size ≤ k) := fun k hk => (h2 k hk).1
  have HK : Hid (Keep [] w (w9.alloc (.cells #[v9, .int .i64 0] 74))) := h3.alloc _
  obtain ⟨a8, c8, hv9⟩ := h4
  clear h1 h2 h3 hv
  subst hv9
  go_wp2
  go_ret
  exact ⟨_, _, rfl, HM.out, HS.out, HF.out, HK.out⟩

end Go.Proofs.YtclapbpkkaljgaaGreatDoor


