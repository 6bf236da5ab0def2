/- A quoted text that is being read: its three parts in memory, and what its methods do. -/
import Derived.Test.YtmglbcldjhdhkabTkN
namespace Go.Proofs.Ytmglbcldjhdhkab
open Go.RowKit Go.PlainAid

/-- all below B but the block b is as it was -/
structure Kp (B b : Nat) (w w' : World) : Prop where
  os : w'.os = w.os
  tape : w'.tape = w.tape
  output : w'.output = w.output
  size : w.heap.size ≤ w'.heap.size
  block : ∀ k, k < B → k ≠ b → w'.heap[k]? = w.heap[k]?
theorem Kp.trans {B b : Nat} {x y z : World} (h : Kp B b x y) (k : Kp B b y z) : Kp B b x z :=
  ⟨k.os.trans h.os, k.tape.trans h.tape, k.output.trans h.output, Nat.le_trans h.size k.size, fun i h1 h2 => (k.block i h1 h2).trans (h.block i h1 h2)⟩
theorem Kp.refl (B b : Nat) (w : World) : Kp B b w w := ⟨rfl, rfl, rfl, Nat.le_refl _, fun _ _ _ => rfl⟩
theorem Kp.ofKeep {F : List Nat} {B b : Nat} {w w' : World} (h : Keep F w w') (hB : B ≤ w.heap.size) (hF : ∀ x ∈ F, x = b ∨ B ≤ x) : Kp B b w w' :=
  ⟨h.os, h.tape, h.output, h.size, fun k h1 h2 => h.block k (by omega) (fun hm => by rcases hF k hm with e | e; exact h2 e; omega)⟩
theorem Kp.set {B b : Nat} (w : World) (p : Addr) (u : Value) (hp : p.block = b) : Kp B b w (w.setCell p u) :=
  ⟨rfl, rfl, rfl, by simp [World.setCell], fun k _ h => Below.heap_setCell _ _ _ _ (by rw [hp]; exact h)⟩

structure Uq (B : Nat) (w : World) (b : Nat) (st : Int) (d : UInt8) (out : List UInt8) (v : Value) : Prop where
  box : w.heap[b]? = some (.cells #[.int .i64 st, v, .int .u8 (d.toNat : Int)] 78 (0, 0))
  row : Row w v out
  far : ∀ k, v.ownBlock = some k → B ≤ k
theorem Uq.state {B : Nat} {w : World} {b : Nat} {st : Int} {d : UInt8} {out : List UInt8} {v : Value} (h : Uq B w b st d out v) (hb : b < B) (st' : Int) : Uq B (w.setCell ⟨b, 0, none⟩ (.int .i64 st')) b st' d out v :=
  ⟨heap_setCell_same w b 0 _ 78 _ h.box, h.row.keep (Keep.set1 w _ _) (fun k hk hm => by have := h.far k hk; simp at hm; omega), h.far⟩
theorem Uq.digit {B : Nat} {w : World} {b : Nat} {st : Int} {d : UInt8} {out : List UInt8} {v : Value} (h : Uq B w b st d out v) (hb : b < B) (d' : UInt8) : Uq B (w.setCell ⟨b, 2, none⟩ (.int .u8 (d'.toNat : Int))) b st d' out v :=
  ⟨heap_setCell_same w b 2 _ 78 _ h.box, h.row.keep (Keep.set1 w _ _) (fun k hk hm => by have := h.far k hk; simp at hm; omega), h.far⟩
/-- another row is put in its place -/
theorem Uq.put {B : Nat} {w w1 : World} {b : Nat} {st : Int} {d : UInt8} {out : List UInt8} {v : Value} (h : Uq B w b st d out v) (hb : b < B) (hB : B ≤ w.heap.size) {v' : Value} {out' : List UInt8} (h1 : Row w1 v' out') (h2 : Keep v.ownBlock.toList w w1) (h3 : v'.ownBlock = v.ownBlock ∨ Fresh w w1 v') :
    Uq B (w1.setCell ⟨b, 1, none⟩ v') b st d out' v' ∧ Kp B b w (w1.setCell ⟨b, 1, none⟩ v') := by
  have hbw : b ∉ v.ownBlock.toList := by
    intro hm
    have := h.far b (by simpa using hm)
    omega
  have hbox := (h2.block b (by omega) hbw).trans h.box
  have far : ∀ k, v'.ownBlock = some k → B ≤ k := fun k hk => by
    rcases h3 with h3 | h3
    · exact h.far k (by rw [← h3]; exact hk)
    · have := (h3 k hk).1; omega
  refine ⟨⟨heap_setCell_same w1 b 1 _ 78 _ hbox, h1.keep (Keep.set1 w1 _ _) (fun k hk hm => by have := far k hk; simp at hm; omega), far⟩, ?_⟩
  refine (Kp.ofKeep h2 hB (fun x hx => .inr (h.far x (by simpa using hx)))).trans (Kp.set w1 _ _ rfl)
theorem Uq.lt {B : Nat} {w : World} {b : Nat} {st : Int} {d : UInt8} {out : List UInt8} {v : Value} (h : Uq B w b st d out v) : b < w.heap.size := (Array.getElem?_eq_some_iff.1 h.box).1
theorem Uq.alloc {B : Nat} {w : World} {b : Nat} {st : Int} {d : UInt8} {out : List UInt8} {v : Value} (h : Uq B w b st d out v) (O : Obj) : Uq B (w.alloc O) b st d out v :=
  ⟨(Below.heap_alloc w O _ h.lt).trans h.box, h.row.keep (Keep.alloc1 w O) (Off.nil _), h.far⟩

theorem Bs.one (w : World) (x : UInt8) : Bs (w.alloc (.cells #[.int .u8 (x.toNat : Int)] 5)) (.slice (some ⟨w.heap.size, 0, none⟩) 1 1) [x] := by
  refine ⟨some ⟨w.heap.size, 0, none⟩, 1, rfl, by simp, by simp [maxLen], (by intro h; cases h), fun _ => ⟨_, 0, rfl, fun j hj => ?_⟩⟩
  simp at hj
  subst hj
  exact (box_cell (heap_alloc_new w _) 0).1

set_option maxHeartbeats 1000000 in
theorem mean_any (B b : Nat) (st : Int) (d x : UInt8) (out : List UInt8) (v : Value) (w : World) (hb : b < B) (hB : B ≤ w.heap.size) (hu : Uq B w b st d out v) (hn : out.length + 1 ≤ 140737488355328) :
    Calls Try.prog 51 #[.pointer (some ⟨b, 0, none⟩), .int .u8 (x.toNat : Int)] w fun e w' => e = .returned (.tuple #[]) ∧ ∃ v', Uq B w' b 0 d (out ++ [x]) v' ∧ Kp B b w w' := by
  obtain ⟨c0, c1, c2, f0, f1, f2⟩ := box3 hu.box
  have hA := hu.alloc (.cells #[.int .u8 (x.toNat : Int)] 5)
  go_enter Try.func51, Try.ntmps51
  go_wp2_with (at_builtin; refine wp_app rfl (.tmp 8) (.tmp 10) 55 55 rfl underS v out rfl hA.row _ [x] rfl (Bs.one w x).src hn ?_)
  intro v' w1 h1 h2 h3 h4
  obtain ⟨a9, c9, rfl⟩ := h4
  obtain ⟨U1, K1⟩ := hA.put hb (by simp; omega) h1 h2 h3
  obtain ⟨g0, g1, g2, e0, e1, e2⟩ := box3 ((h2.block b (by simp; have := hu.lt; omega) (by intro hm; have := hu.far b (by simpa using hm); omega)).trans hA.box)
  obtain ⟨m0, m1, m2, n0, n1, n2⟩ := box3 U1.box
  have HU : Hid _ := U1.state hb 0
  have HK : Hid _ := K1
  clear U1 K1 hA h1 h2 h3 hu c0 c1 c2 f0 f1 f2
  go_wp2
  go_end0
  exact ⟨rfl, _, HU.out, ((Kp.ofKeep (Keep.alloc1 w _) hB (by simp)).trans HK.out).trans (Kp.set _ _ _ rfl)⟩
end Go.Proofs.Ytmglbcldjhdhkab

