/- Conditions: an expression gone through from behind: slices.Backward, and a range over it. -/
import Derived.Test.YtplbclokoffgkaaGreatDoorCdZ
import Derived.Test.YtplbclokoffgkaaGreatDoorCdX
import Derived.RangeFuncNested
import Derived.RangeFuncBound
import Derived.RangeFuncCalls
import Derived.RangeFuncLeaves
import Derived.Shelf.Abstract
import Derived.Shelf.RegionOpen
import Derived.OwnWalkIn
import Derived.TacticsInMore
import Derived.LoopNIn
import Derived.LoopIn
namespace Go.Proofs.YtplbclokoffgkaaGreatDoor
open Go.RowKit Go.PlainAid Go.Shelf
attribute [local go_sem] Oper.semAt_some

theorem heap_alloc_new' (w : World) (o : Obj) : (w.alloc o).heap[w.heap.size]? = some o := World.alloc_heap_new w o

theorem backward_any (ao : Option Addr) (n cap : Nat) (w : World) : Calls Tryz.prog 37 #[.slice ao n cap] w fun e w' => e = .returned (.func (.func 60) #[] #[.pointer (some ⟨w.heap.size, 0, none⟩)]) ∧ w' = w.alloc (.cells #[.slice ao n cap] 23) := by
  have hmf : ∀ (fn : Fn) (first cap : Array Value) (w : World), (Instr.makeFunc fn first cap).run Tryz.prog w = .ok (.func fn first cap) w := fun _ _ _ _ => rfl
  go_enter Tryz.func37, Tryz.ntmps37
  go_wp2
  go_ret
  exact ⟨rfl, rfl⟩

/-- what lies at these blocks is as it was -/
def Fz (Z : List Nat) (W W' : World) : Prop := W.heap.size ≤ W'.heap.size ∧ ∀ k ∈ Z, W'.heap[k]? = W.heap[k]?
theorem Fz.trans {Z : List Nat} {A B C : World} (h : Fz Z A B) (k : Fz Z B C) : Fz Z A C := ⟨Nat.le_trans h.1 k.1, fun i hi => (k.2 i hi).trans (h.2 i hi)⟩
theorem Fz.sub {Z Y : List Nat} {A B : World} (h : Fz Z A B) (hs : ∀ x ∈ Y, x ∈ Z) : Fz Y A B := ⟨h.1, fun i hi => h.2 i (hs i hi)⟩
theorem Fz.cell {Z : List Nat} {W W' : World} (h : Fz Z W W') {p : Addr} (hp : p.block ∈ Z) : W'.cell? p = W.cell? p := World.cell?_of_block (w := W) (h.2 p.block hp)
theorem Keep.fz {F Z : List Nat} {W W' : World} (h : Keep F W W') (hZ : ∀ x ∈ Z, x < W.heap.size ∧ x ∉ F) : Fz Z W W' := ⟨h.size, fun k hk => h.block k (hZ k hk).1 (hZ k hk).2⟩
theorem Pp.fz {Z : List Nat} {w w' : World} {v : Value} {l : List Pt} (h : Pp w v l) (k : Fz Z w w') (hv : ∀ b, v.ownBlock = some b → b ∈ Z) : Pp w' v l := by
  obtain ⟨ao, cap, rfl, h1, h2, h3⟩ := h.ex
  refine ⟨ao, cap, rfl, h1, h2, fun hl => ?_⟩
  obtain ⟨b, o, rfl, hc⟩ := h3 hl
  have hb : b ∈ Z := hv b rfl
  refine ⟨b, o, rfl, fun i hi => ?_⟩
  have e : ∀ j, w'.cell? ⟨b, j, none⟩ = w.cell? ⟨b, j, none⟩ := fun j => k.cell hb
  simp only [e]
  exact hc i hi

/-- what the walk from behind reads -/
structure Bk (bb : Nat) (v : Value) (l : List Pt) (W : World) : Prop where
  box : W.cell? ⟨bb, 0, none⟩ = some v
  rd : Pp W v l
theorem Bk.fz {Z : List Nat} {bb : Nat} {v : Value} {l : List Pt} {W W' : World} (h : Bk bb v l W) (k : Fz Z W W') (hb : bb ∈ Z) (hv : ∀ b, v.ownBlock = some b → b ∈ Z) : Bk bb v l W' := ⟨(k.cell hb).trans h.box, h.rd.fz k hv⟩

set_option maxRecDepth 1000000 in
set_option maxHeartbeats 2000000 in
theorem back_run (bb : Nat) (ao : Option Addr) (cap : Nat) (xs : List Pt) (Z : List Nat) (hZ : bb ∈ Z) (hZv : ∀ b, (Value.slice ao xs.length cap).ownBlock = some b → b ∈ Z) (l : Nat) (J : Nat → World → Prop) (W : World) (hk : Bk bb (.slice ao xs.length cap) xs W) (hlen : xs.length ≤ 100000)
    (hY : ∀ j i W1, i + j + 1 = xs.length → (hi : i < xs.length) → J j W1 → YieldAt Fence.wide 4 Tryz.prog l #[.int .i64 (i : Int), xs[i].val] W1 fun e W' => e = .returned (.bool true) ∧ J (j + 1) W' ∧ Fz Z W1 W')
    (h0 : J 0 W) :
    CallsIn Fence.wide 5 Tryz.prog 60 (#[.func (.yield l) #[] #[]] ++ #[.pointer (some ⟨bb, 0, none⟩)]) W fun e W' => (∃ v, e = .returned v) ∧ J xs.length W' := by
  refine callsIn_of_wp Tryz.func60 rfl trivial ?_ rfl
  simp only [Tryz.ntmps60, List.size_toArray, List.length_cons, List.length_nil, Nat.reduceAdd, Nat.reduceSub, Array.replicate_succ, Array.replicate_zero, List.push_toArray, List.append_toArray, List.nil_append, List.cons_append]
  have HB : Hid (Bk bb (.slice ao xs.length cap) xs W) := hk
  have HY : Hid (∀ j i W1, i + j + 1 = xs.length → (hi : i < xs.length) → J j W1 → YieldAt Fence.wide 4 Tryz.prog l #[.int .i64 (i : Int), xs[i].val] W1 fun e W' => e = .returned (.bool true) ∧ J (j + 1) W' ∧ Fz Z W1 W') := hY
  have H0 : Hid (J 0 W) := h0
  have HZ : Hid (bb ∈ Z ∧ ∀ b, (Value.slice ao xs.length cap).ownBlock = some b → b ∈ Z) := ⟨hZ, hZv⟩
  have c0 := HB.out.box
  clear hY h0 hk hZ hZv
  gi_wp2
  gi_loopw [3] (fun iv wr => ∃ (j : Nat) (z : Int), iv = .int .i64 z ∧ j ≤ xs.length ∧ z = (xs.length : Int) - 1 - (j : Int) ∧ Hid (Bk bb (.slice ao xs.length cap) xs wr) ∧ Hid (J j wr)) (fun iv _ => (intOf iv + 1).toNat)
  case atStart => exact ⟨0, _, rfl, Nat.zero_le _, by omega, HB, H0⟩
  case round =>
    clear HB H0 c0
    obtain ⟨j, z, rfl, hj, hz, HB, HJ⟩ := hrel
    by_cases hlt : j < xs.length
    · obtain ⟨i, hi⟩ : ∃ i : Nat, i = xs.length - 1 - j := ⟨_, rfl⟩
      obtain rfl : z = (i : Int) := by omega
      have HI : Hid (i + j + 1 = xs.length) := by show _ = _; omega
      have hil : i < xs.length := by omega
      have hii : (i : Int) < (xs.length : Int) := by omega
      obtain ⟨b, o, c, he, y0, y1, y2, y3, y4, y5, y6, y7⟩ := HB.out.rd.at i hil
      simp at he
      obtain ⟨rfl, rfl⟩ := he
      have c0 := HB.out.box
      obtain ⟨fn, tmps, assign, body, hy, hR⟩ := HY.out j i wr HI.out hil HJ.out
      clear hi hz
      generalize xs[i] = x at *
      obtain ⟨xk, xn, xv, xi⟩ := x
      simp only [Pt.val, Pt.cells] at y0 y1 y2 y4 hy
      gi_wp2
      refine hR.mono ?_
      rintro e W3 ⟨rfl, hJ3, hk3⟩
      have H3 : Hid (Bk bb (.slice (some ⟨b, o, none⟩) xs.length cap) xs W3) := HB.out.fz hk3 HZ.out.1 HZ.out.2
      have HJ3 : Hid (J (j + 1) W3) := hJ3
      clear hJ3 hk3 hy hR y0 y1 y2 y3 y4 y5 y6 y7
      gi_wp2
      go_roundw
      case rel => exact ⟨j + 1, _, rfl, by omega, by have := HI.out; omega, H3, HJ3⟩
      case measure => (simp [intOf]; try omega)
    · obtain rfl : j = xs.length := by omega
      obtain rfl : z = -1 := by omega
      clear HY
      gi_wp2
      go_end0
      exact ⟨⟨_, rfl⟩, HJ.out⟩

/-- the loop's record -/
abbrev recd (fn : FuncId) (tmps : Array Value) (ps : Array Tmp) (assign body : Code) (D : Nat) (s : LoopState) (j : Option Code) : Loop := { state := s, pending := j, fn := fn, tmps := tmps, params := ps, assign := assign, body := body, defers := D }

/-- a range over an expression from behind, whose body goes on each time -/
theorem range_back {g : Operand} {ps : Array Tmp} {assign body : Code} {Q : Exit → Act → World → Prop} {a : Act} {w : World} {bb : Nat} {ao : Option Addr} {cap : Nat} {xs : List Pt}
    (hg : a.eval g = .func (.func 60) #[] #[.pointer (some ⟨bb, 0, none⟩)]) (hps : ps.size = 2) (hbk : Bk bb (.slice ao xs.length cap) xs w) (hlen : xs.length ≤ 100000) (hv : ∀ b, (Value.slice ao xs.length cap).ownBlock = some b → b < w.heap.size)
    (Z : List Nat) (hZ : Z = [w.heap.size + 1, w.heap.size, bb] ++ (Value.slice ao xs.length cap).ownBlock.toList)
    (I : Nat → World → Prop) (hIp : ∀ j W o, I j W → (∃ o', W.heap[w.heap.size + 1]? = some o' ∧ o'.isCells = false) → I j (W.putObj (w.heap.size + 1) o))
    (h0 : ∀ o o', I 0 ((w.alloc o).alloc o'))
    (fr : Nat → Pt → World → Act) (nw : Pt → World → World) (hnw : ∀ x W, Keep [] W (nw x W)) (hIn : ∀ j x W, I j W → I j (nw x W))
    (hassign : ∀ (l i : Nat) (x : Pt) (W : World) (K : Act → World → Prop), K (fr i x W) (nw x W) → assign.wpIn (Fence.wide.inRound l) 4 Tryz.prog (Exit.then K (fun _ _ _ => False)) { tmps := (ps.zip #[.int .i64 (i : Int), x.val]).foldl (fun t (p, v) => t.setIfInBounds p v) a.tmps, defers := [] } W)
    (hbody : ∀ (j i : Nat) (W W0 : World), i + j + 1 = xs.length → (hi : i < xs.length) → I j W → Keep [w.heap.size + 1] (nw xs[i] W0) W → w.heap.size + 2 ≤ W0.heap.size → body.wpIn (Fence.wide.inRound (w.heap.size + 1)) 4 Tryz.prog (fun e _ W' => e = .normal ∧ I (j + 1) W' ∧ Fz Z W W') (fr i xs[i] W0) W)
    (hdone : ∀ W, I xs.length W → W.heap[w.heap.size]? = some (.deferred (some [])) → Q .normal { a with defers := { target := .collected w.heap.size, args := #[] } :: a.defers } W) :
    (Code.rangeFunc g ps assign body).wp Tryz.prog Q a w := by
  have hbl : bb < w.heap.size := block_lt_of_cell hbk.box
  refine (wpIn_wide (n := 6)).1 (wpIn_rangeFunc (fun fn _ => ?_))
  let R := recd fn a.tmps ps assign body w.heap.size
  let W1 := (w.alloc (.deferred (some []))).alloc (.loop (R .ready none))
  have e1 : W1.heap[w.heap.size + 1]? = some (.loop (R .ready none)) := by
    have := heap_alloc_new' (w.alloc (.deferred (some []))) (.loop (R .ready none))
    rwa [World.size_alloc] at this
  have e0 : W1.heap[w.heap.size]? = some (.deferred (some [])) := (Below.heap_alloc _ _ _ (by simp)).trans (heap_alloc_new' w _)
  have k1 : Keep [] w W1 := (Keep.alloc1 _ _).alloc _
  have hZm : ∀ b, (Value.slice ao xs.length cap).ownBlock = some b → b ∈ Z := fun b hb => by rw [hZ, hb]; simp
  have hZl : ∀ x ∈ Z, x ≠ w.heap.size + 1 → x ≠ w.heap.size → x < w.heap.size := fun x hx h1 h2 => by
    rw [hZ] at hx
    simp at hx
    rcases hx with h | h | h | h
    · exact absurd h h1
    · exact absurd h h2
    · omega
    · exact hv x h
  refine ⟨w.heap.size + 1, [{ target := .collected w.heap.size, args := #[] }], W1, { target := .fn (.func 60) #[.pointer (some ⟨bb, 0, none⟩)], args := #[.func (.yield (w.heap.size + 1)) #[] #[]] }, W1, 60, #[.func (.yield (w.heap.size + 1)) #[] #[]] ++ #[.pointer (some ⟨bb, 0, none⟩)], W1, run_enterLoop_outer _ _ _ _ _, ?_, fun _ _ => trivial, ?_, (fun h => by cases h), ?_⟩
  · simp only [resolve, hg]
    simp [go_sem]
  · skip
    simp [invoke, go_sem]
  have bk1 : Bk bb (.slice ao xs.length cap) xs W1 := ⟨k1.cell' hbk.box (by simp), hbk.rd.keep0 k1⟩
  have hZ' : ∀ x ∈ Z, x = w.heap.size + 1 ∨ x ≠ w.heap.size + 1 := fun x _ => by omega
  refine (back_run bb ao cap xs (Z.filter (· ≠ w.heap.size + 1)) (by rw [hZ]; simp; omega) (fun b hb => by have := hv b hb; simp; exact ⟨hZm b hb, by omega⟩) (w.heap.size + 1) (fun j W => I j W ∧ W.heap[w.heap.size + 1]? = some (.loop (R .ready none)) ∧ W.heap[w.heap.size]? = some (.deferred (some []))) W1 bk1 hlen ?_ ⟨h0 _ _, e1, e0⟩).mono ?_
  · rintro j i W hij hi ⟨hI, hr, hd⟩
    refine ⟨fn, _, assign, body, run_yield (args := #[.int .i64 (i : Int), xs[i].val]) hr (by simp [R, hps]), roundIn_of_wpIn trivial (hassign _ i xs[i] W _ ?_)⟩
    have hlt := (Array.getElem?_eq_some_iff.1 hr).1
    have ka := hnw xs[i] W
    have ra := (ka.block _ hlt (by simp)).trans hr
    have da := (ka.block _ (by omega) (by simp)).trans hd
    have hIa := hIn j xs[i] W hI
    refine ⟨_, run_beginRound ra rfl, ?_⟩
    have ib := hIp j _ (.loop { R .ready none with state := .busy }) hIa ⟨_, ra, rfl⟩
    have rb : ((nw xs[i] W).putObj (w.heap.size + 1) (.loop { R .ready none with state := .busy })).heap[w.heap.size + 1]? = some (.loop { R .ready none with state := .busy }) := World.putObj_heap_same (Array.getElem?_eq_some_iff.1 ra).1
    have db : ((nw xs[i] W).putObj (w.heap.size + 1) (.loop { R .ready none with state := .busy })).heap[w.heap.size]? = some (.deferred (some [])) := (World.putObj_heap_other (by omega)).trans da
    have kb : Keep [w.heap.size + 1] (nw xs[i] W) ((nw xs[i] W).putObj (w.heap.size + 1) (.loop { R .ready none with state := .busy })) := Keep.grown (grownBy_putObj' _ _ _)
    refine wpIn_mono (hbody j i _ W hij hi ib kb (by omega)) ?_
    rintro e a3 W3 ⟨rfl, hI3, f3⟩
    have r3 := (f3.2 (w.heap.size + 1) (by rw [hZ]; simp)).trans rb
    have d3 := (f3.2 w.heap.size (by rw [hZ]; simp)).trans db
    refine ⟨_, _, run_endRound none r3, rfl, ⟨hIp _ _ _ hI3 ⟨_, r3, rfl⟩, World.putObj_heap_same (Array.getElem?_eq_some_iff.1 r3).1, (World.putObj_heap_other (by omega)).trans d3⟩, ?_, fun x hx => ?_⟩
    · have h1 := ka.size
      have h2 := kb.size
      have h3 := f3.1
      show W.heap.size ≤ (W3.putObj _ _).heap.size
      simp only [World.putObj] at *
      simp at *
      omega
    · have hx' := List.mem_filter.1 hx
      have hne : x ≠ w.heap.size + 1 := by simpa using hx'.2
      have hxl : x < W.heap.size := by
        by_cases h : x = w.heap.size
        · omega
        · have := hZl x hx'.1 hne h
          omega
      rw [World.putObj_heap_other hne, f3.2 x hx'.1, World.putObj_heap_other hne]
      exact ka.block x hxl (by simp)
  · rintro e W2 ⟨⟨v, rfl⟩, hI, hr, hd⟩
    exact ⟨none, _, run_endLoop hr (by simp [R]), hdone _ (hIp _ _ _ hI ⟨_, hr, rfl⟩) ((World.putObj_heap_other (by omega)).trans hd)⟩
end Go.Proofs.YtplbclokoffgkaaGreatDoor
