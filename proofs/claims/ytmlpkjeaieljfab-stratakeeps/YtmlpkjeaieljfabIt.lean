/- A list gone through from behind: slices.Backward. -/
import Derived.Test.YtmlpkjeaieljfabSr
import Derived.RangeFuncNested
import Derived.RangeFuncBound
import Derived.RangeFuncCalls
import Derived.RangeFuncLeaves
import Derived.Shelf.Abstract
import Derived.Shelf.RegionOpen
import Derived.OwnWalkIn
import Derived.TacticsInMore
import Derived.LoopNIn
import Derived.LoopIn
namespace Go.Proofs.Ytmlpkjeaieljfab
open Go.RowKit Go.PlainAid Go.Sort Go.Shelf
attribute [local go_sem] Oper.semAt_some

theorem backward_any (ao : Option Addr) (n cap : Nat) (w : World) : Calls Try.prog 49 #[.slice ao n cap] w fun e w' => e = .returned (.func (.func 74) #[] #[.pointer (some ⟨w.heap.size, 0, none⟩)]) ∧ w' = w.alloc (.cells #[.slice ao n cap] 28) := by
  have hmf : ∀ (fn : Fn) (first cap : Array Value) (w : World), (Instr.makeFunc fn first cap).run Try.prog w = .ok (.func fn first cap) w := fun _ _ _ _ => rfl
  go_enter Try.func49, Try.ntmps49
  go_wp2
  go_ret
  exact ⟨rfl, rfl⟩

/-- a place and what stands there -/
abbrev Pl (nn : Nat) : Type := { p : Nat × Nat // p.2 < nn }
def encs2 (nn : Nat) (p : Pl nn) : Array Value := #[.int .i64 (p.1.1 : Int), .int .i64 (p.1.2 : Int)]
/-- the places from behind -/
def backP (D : List Nat) : List (Nat × Nat) := (List.range D.length).map fun j => (D.length - 1 - j, D.getD (D.length - 1 - j) 0)
theorem backP_lt {nn : Nat} {D : List Nat} (h : ∀ k ∈ D, k < nn) : ∀ p ∈ backP D, p.2 < nn := by
  intro p hp
  obtain ⟨j, hj, rfl⟩ := List.mem_map.1 hp
  have hj' : j < D.length := by simpa using hj
  refine h _ ?_
  rw [List.getD_eq_getElem?_getD, List.getElem?_eq_getElem (by omega)]
  exact List.getElem_mem _
def backL (nn : Nat) (D : List Nat) (h : ∀ k ∈ D, k < nn) : List (Pl nn) := (backP D).pmap Subtype.mk (backP_lt h)
theorem backL_len (nn : Nat) (D : List Nat) (h : ∀ k ∈ D, k < nn) : (backL nn D h).length = D.length := by simp [backL, backP]
theorem backL_get (nn : Nat) (D : List Nat) (h : ∀ k ∈ D, k < nn) (j : Nat) (hj : j < (backL nn D h).length) : ((backL nn D h)[j]).1 = (D.length - 1 - j, D.getD (D.length - 1 - j) 0) := by
  simp [backL, backP]

/-- what the list's walk reads lies as it lay -/
def KpD (bb : Nat) (u : Value) (W W' : World) : Prop := ∀ k, k = bb ∨ u.ownBlock = some k → W'.heap[k]? = W.heap[k]?
theorem KpD.trans {bb : Nat} {u : Value} {A B C : World} (h : KpD bb u A B) (k : KpD bb u B C) : KpD bb u A C := fun i hi => (k i hi).trans (h i hi)
theorem KpD.rd {bb : Nat} {u : Value} {W W' : World} {D : List Nat} (h : KpD bb u W W') (hs : W.heap.size ≤ W'.heap.size) (hr : Rd encN 1 W u D) : Rd encN 1 W' u D := by
  obtain ⟨ao, cap, rfl, h1, h2, h3, h4⟩ := hr.ex
  refine ⟨ao, cap, rfl, h1, h2, h3, fun hl => ?_⟩
  obtain ⟨b, o, rfl, hb, hc⟩ := h4 hl
  refine ⟨b, o, rfl, Nat.lt_of_lt_of_le hb hs, fun j hj i hi => ?_⟩
  rw [← hc j hj i hi]
  exact World.cell?_of_block (w := W) (h b (.inr rfl))
theorem KpD.box {bb : Nat} {u : Value} {W W' : World} (h : KpD bb u W W') (hb : W.cell? ⟨bb, 0, none⟩ = some u) : W'.cell? ⟨bb, 0, none⟩ = some u := (World.cell?_of_block (w := W) (h bb (.inl rfl))).trans hb

/-- what the walk needs in a world -/
structure Bk (bb : Nat) (u : Value) (D : List Nat) (W : World) : Prop where
  box : W.cell? ⟨bb, 0, none⟩ = some u
  rd : Rd encN 1 W u D

set_option maxRecDepth 1000000 in
set_option maxHeartbeats 2000000 in
theorem back_stops (nn n : Nat) (hn : 1 ≤ n) (bb : Nat) (ao : Option Addr) (cap : Nat) (D : List Nat) (hD : ∀ k ∈ D, k < nn) (w : World) (hk : Bk bb (.slice ao D.length cap) D w) (hlen : D.length ≤ 100000) :
    SeqStopsK Fence.wide n Try.prog 74 #[.pointer (some ⟨bb, 0, none⟩)] (encs2 nn) (fun W W' => KpD bb (.slice ao D.length cap) W W' ∧ W.heap.size ≤ W'.heap.size) (fun ys => ys = backL nn D hD) (fun pre => pre <+: backL nn D hD) D.length w := fun l J Jx W hW _ _ hY h0 => by
  refine callsIn_of_wp Try.func74 rfl trivial ?_ rfl
  simp only [Try.ntmps74, List.size_toArray, List.length_cons, List.length_nil, Nat.reduceAdd, Nat.reduceSub, Array.replicate_succ, Array.replicate_zero, List.push_toArray, List.append_toArray, List.nil_append, List.cons_append]
  have HB : Hid (Bk bb (.slice ao D.length cap) D W) := by
    have kk := Keep.ofBelow hW
    exact ⟨kk.cell' hk.box (by simp), hk.rd.keep kk (Off.nil _)⟩
  have HY : Hid (∀ (pre : List (Pl nn)) (x : Pl nn) (W1 : World), J pre W1 → pre.length < D.length → YieldAt Fence.wide (n - 1) Try.prog l (encs2 nn x) W1 fun e W' => (e = .returned (.bool true) ∧ J (pre ++ [x]) W' ∧ KpD bb (.slice ao D.length cap) W1 W' ∧ W1.heap.size ≤ W'.heap.size) ∨ (e = .returned (.bool false) ∧ Jx (pre ++ [x]) W')) := hY
  have H0 : Hid (J ((backL nn D hD).take 0) W) := by show J _ W; simpa using h0
  have c0 := HB.out.box
  clear hY h0 hk hW
  gi_wp2
  gi_loopw [3] (fun iv wr => ∃ (j : Nat) (z : Int), iv = .int .i64 z ∧ j ≤ D.length ∧ z = (D.length : Int) - 1 - (j : Int) ∧ Hid (Bk bb (.slice ao D.length cap) D wr) ∧ Hid (J ((backL nn D hD).take j) wr)) (fun iv _ => (intOf iv + 1).toNat)
  case atStart => exact ⟨0, _, rfl, Nat.zero_le _, by omega, HB, H0⟩
  case round =>
    clear HB H0 c0
    obtain ⟨j, z, rfl, hj, hz, HB, HJ⟩ := hrel
    by_cases hlt : j < D.length
    · obtain ⟨i, hi⟩ : ∃ i : Nat, i = D.length - 1 - j := ⟨_, rfl⟩
      obtain rfl : z = (i : Int) := by omega
      have HZ : Hid (i = D.length - 1 - j) := hi
      have hil : i < D.length := by omega
      have hii : (i : Int) < (D.length : Int) := by omega
      obtain ⟨b, o, c, he, hb, hc⟩ := HB.out.rd.at i hil
      simp at he
      obtain ⟨rfl, rfl⟩ := he
      have hbl := backL_len nn D hD
      have hjl : j < (backL nn D hD).length := by omega
      have hg := backL_get nn D hD j hjl
      obtain ⟨x, hx⟩ : ∃ x : Nat, x = D.getD i 0 := ⟨_, rfl⟩
      have c1 : wr.cell? ⟨b, o + i, none⟩ = some (.int .i64 (x : Int)) := by
        have h := hc 0 (by omega)
        rw [hx, List.getD_eq_getElem?_getD, List.getElem?_eq_getElem hil]
        simpa [encN, eN] using h
      have c0 := HB.out.box
      obtain ⟨fn, tmps, assign, body, hy, hR⟩ := HY.out _ ((backL nn D hD)[j]) wr HJ.out (by rw [List.length_take]; omega)
      have e2 : encs2 nn ((backL nn D hD)[j]) = #[.int .i64 (i : Int), .int .i64 (x : Int)] := by
        unfold encs2
        rw [hg, hx, hi]
      rw [e2] at hy
      have HT : Hid ((backL nn D hD).take j ++ [(backL nn D hD)[j]] = (backL nn D hD).take (j + 1)) := (List.take_succ_eq_append_getElem hjl).symm
      clear hc hg e2 hx hi hz
      gi_wp2
      refine hR.mono ?_
      rintro e W3 (⟨rfl, hJ3, hk3, hs3⟩ | ⟨rfl, hJx3⟩)
      · have H3 : Hid (Bk bb (.slice (some ⟨b, o, none⟩) D.length cap) D W3) := ⟨hk3.box HB.out.box, hk3.rd hs3 HB.out.rd⟩
        have HJ3 : Hid (J ((backL nn D hD).take (j + 1)) W3) := by rw [← HT.out]; exact hJ3
        clear hJ3 hk3 hs3 hy hR
        gi_wp2
        go_roundw
        case rel => exact ⟨j + 1, _, rfl, by omega, by have := HZ.out; omega, H3, HJ3⟩
        case measure => (simp [intOf]; try omega)
      · have HX : Hid (Jx ((backL nn D hD).take (j + 1)) W3) := by rw [← HT.out]; exact hJx3
        clear hJx3 hy hR
        gi_wp2
        refine bodyPost_ret (results_none rfl _ _ _) rfl ?_
        exact ⟨⟨_, rfl⟩, .inr ⟨_, List.take_prefix _ _, HX.out⟩⟩
    · obtain rfl : j = D.length := by omega
      obtain rfl : z = -1 := by omega
      clear HY
      gi_wp2
      go_end0
      refine ⟨⟨_, rfl⟩, .inl ⟨_, rfl, ?_⟩⟩
      have := HJ.out
      rwa [List.take_of_length_le (by rw [backL_len]; exact Nat.le_refl _)] at this
end Go.Proofs.Ytmlpkjeaieljfab

