/- The document's worth of a float, and how a number stands to it. -/
import Derived.Test.YtppimacfeelneaaBigE
import Derived.Handy
namespace Go.Proofs.Ytppimacfeelneaa
open Go.RowKit Go.PlainAid

theorem powers_int (v : Value) (N K : Nat) (k : Int) (w : World) (h : Big w v N K) (hK : K ≤ 1000) (hk : k ≤ 1000) :
    Calls Try.prog 133 #[v, .int .i64 2, .int .i64 k] w fun e w' => ∃ v', e = .returned v' ∧ (Big w' v' (N * 2 ^ k.toNat) (K + k.toNat) ∧ (v' = v ∨ Fresh w w' v')) ∧ Keep [] w w' := by
  by_cases h0 : k ≤ 0
  · refine (powers_neg v k h0 w).mono ?_
    rintro e w' ⟨rfl, rfl⟩
    rw [show k.toNat = 0 by omega]
    exact ⟨v, rfl, ⟨by simpa using h, .inl rfl⟩, Keep.refl _ _⟩
  · have hc := powers_two v N K k.toNat w h hK (by omega)
    rw [show ((k.toNat : Nat) : Int) = k by omega] at hc
    refine hc.mono ?_
    exact fun _ _ h => h

theorem Big.one (w : World) : Big (w.alloc (.cells #[.int .i64 1] TI)) (.slice (some ⟨w.heap.size, 0, none⟩) 1 1) 1 1 :=
  ⟨[1], Is.one w 1, fun x hx => by simp at hx; omega, fun _ => by decide, rfl, by simp⟩

theorem Big.sl {w : World} {v : Value} {N K : Nat} (h : Big w v N K) : ∃ a n c, v = .slice a n c := by
  obtain ⟨l, hl, _⟩ := h
  obtain ⟨ao, cap, he, _⟩ := hl.ex
  exact ⟨ao, _, cap, he⟩
theorem Fresh.off1 {w w' : World} {o : Obj} {v : Value} (h : Fresh (w.alloc o) w' v) : Off v [w.heap.size] := fun k hk hn => by
  have := (h k hk).1
  simp at this hn
  omega

set_option maxRecDepth 1000000 in
set_option maxHeartbeats 3200000 in
theorem worth_any (m : Nat) (e : Int) (hm : m < 18446744073709551616) (he1 : -500 ≤ e) (he2 : e ≤ 500) (w : World) :
    Calls Try.prog 118 #[.int .u64 (m : Int), .int .i64 e] w fun r w' => ∃ va vb, r = .returned (.agg #[va, vb]) ∧ (Big w' va (m * 2 ^ e.toNat) 1000 ∧ Big w' vb (2 ^ (-e).toNat) 1000) ∧ Keep [] w w' := by
  go_enter Try.func118, Try.ntmps118
  go_wp2_with fail
  refine (number_big m hm _).mono ?_
  rintro e9 w1 ⟨v1, rfl, hb1, hf1, hk1⟩
  go_wp2_with fail
  refine (powers_int v1 m 3 e _ hb1 (by omega) (by omega)).mono ?_
  rintro e9 w2 ⟨va, rfl, ⟨hba, hoa⟩, hka⟩
  go_wp2_with fail
  refine (powers_int _ 1 1 (-e) _ (Big.one w2) (by omega) (by omega)).mono ?_
  rintro e9 w3 ⟨vb, rfl, ⟨hbb, hob⟩, hkb⟩
  have K1 : Keep [] (w.alloc (Obj.cells #[Value.slice none 0 0, Value.slice none 0 0] 100)) w2 := hk1.trans' hka
  have K2 : Keep [] (w.alloc (Obj.cells #[Value.slice none 0 0, Value.slice none 0 0] 100)) w3 := (K1.alloc _).trans' hkb
  have K3 : Keep [] w2 w3 := (Keep.alloc1 w2 _).trans' hkb
  have s1 := hk1.size
  have s2 := hka.size
  simp at s1
  have HA : Hid (Big w3 va (m * 2 ^ e.toNat) 1000 ∧ Off va [w.heap.size]) := ⟨(hba.keep K3 (Off.nil _)).mono (by omega), by
    rcases hoa with rfl | h
    · exact hf1.off1
    · exact (h.earlier (w0 := w.alloc (Obj.cells #[Value.slice none 0 0, Value.slice none 0 0] 100)) (by simpa using s1)).off1⟩
  have HBb : Hid (Big w3 vb (2 ^ (-e).toNat) 1000 ∧ Off vb [w.heap.size]) := ⟨by rw [Nat.one_mul] at hbb; exact hbb.mono (by omega), by
    rcases hob with rfl | h
    · intro k hk hn
      simp [Value.ownBlock] at hk hn
      omega
    · intro k hk hn
      have := (h k hk).1
      simp at this hn
      omega⟩
  have HK : Hid (Keep [] w w3) := (show Keep [] w w3 from ((Keep.alloc1 w _).trans' K2))
  have hc0 : w3.cell? ⟨w.heap.size, 0, none⟩ = some (.slice none 0 0) := K2.cell' (by simp) (by simp)
  have hc1 : w3.cell? ⟨w.heap.size, 1, none⟩ = some (.slice none 0 0) := K2.cell' (by simp) (by simp)
  have hf0 : w3.frozen? ⟨w.heap.size, 0, none⟩ = false := (K2.frozen (by simp) (by simp)).trans (by simp)
  have hf9 : w3.frozen? ⟨w.heap.size, 1, none⟩ = false := (K2.frozen (by simp) (by simp)).trans (by simp)
  obtain ⟨ao, na, ca, rfl⟩ := hba.sl
  obtain ⟨bo, nb, cb, rfl⟩ := hbb.sl
  clear hb1 hf1 hk1 hba hoa hka hbb hob hkb K1 K2 K3 s1 s2
  have HG : Hid (w.heap.size ≤ w.heap.size) := Nat.le_refl _
  generalize hgg : w.heap.size = g at *
  have HG : Hid (w.heap.size ≤ g) := show w.heap.size ≤ g by omega
  clear hgg
  have hd1 : (w3.setCell ⟨g, 0, none⟩ (.slice ao na ca)).cell? ⟨g, 1, none⟩ = some (.slice none 0 0) := by rw [World.cell?_setCell_other _ _ _ _ (by simp)]; exact hc1
  have d1 : ((w3.setCell ⟨g, 0, none⟩ (.slice ao na ca)).setCell ⟨g, 1, none⟩ (.slice bo nb cb)).cell? ⟨g, 1, none⟩ = some (.slice bo nb cb) := World.cell?_setCell_same _ _ _ hd1
  have d0 : ((w3.setCell ⟨g, 0, none⟩ (.slice ao na ca)).setCell ⟨g, 1, none⟩ (.slice bo nb cb)).cell? ⟨g, 0, none⟩ = some (.slice ao na ca) := by
    rw [World.cell?_setCell_other _ _ _ _ (by simp)]; exact World.cell?_setCell_same _ _ _ hc0
  have KS : Keep [g] w3 ((w3.setCell ⟨g, 0, none⟩ (.slice ao na ca)).setCell ⟨g, 1, none⟩ (.slice bo nb cb)) := ((Keep.refl [g] w3).setCell (p := ⟨g, 0, none⟩) (.inl (by simp)) _).setCell (p := ⟨g, 1, none⟩) (.inl (by simp)) _
  have HR : Hid ((Big ((w3.setCell ⟨g, 0, none⟩ (.slice ao na ca)).setCell ⟨g, 1, none⟩ (.slice bo nb cb)) (.slice ao na ca) (m * 2 ^ e.toNat) 1000 ∧ Big ((w3.setCell ⟨g, 0, none⟩ (.slice ao na ca)).setCell ⟨g, 1, none⟩ (.slice bo nb cb)) (.slice bo nb cb) (2 ^ (-e).toNat) 1000) ∧ Keep [] w ((w3.setCell ⟨g, 0, none⟩ (.slice ao na ca)).setCell ⟨g, 1, none⟩ (.slice bo nb cb))) :=
    ⟨⟨HA.out.1.keep KS HA.out.2, HBb.out.1.keep KS HBb.out.2⟩, HK.out.more KS (by intro x hx; simp at hx; subst hx; exact .inr HG.out)⟩
  clear KS HA HBb HK hd1
  go_wp2
  generalize ((w3.setCell ⟨g, 0, none⟩ (.slice ao na ca)).setCell ⟨g, 1, none⟩ (.slice bo nb cb)) = W at d0 d1 HR ⊢
  refine bodyPost_ret (v := .agg #[.slice ao na ca, .slice bo nb cb]) (by simp [results, Try.results118, go_sem, d0, d1]) rfl ?_
  exact ⟨_, _, rfl, HR.out⟩
end Go.Proofs.Ytppimacfeelneaa

