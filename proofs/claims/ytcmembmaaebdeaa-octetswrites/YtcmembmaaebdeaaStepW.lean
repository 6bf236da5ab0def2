/- An append to bytes of one's own, as one step of a region whose order is left open. -/
import Derived.Test.YtcmembmaaebdeaaHelpW
import Derived.Deep.RegionHeld3
namespace Go.Proofs.Ytcmembmaaebdeaa
open Go.RowKit Go.PlainAid Go.Lib

theorem step_app {ops : Array Oper} {o : Oper} {a : Act} {w : World} {K : Act → World → Prop} {Q : Exit → Act → World → Prop} {E : Prop} (hg : o.guard = none) (s x : Operand) (t tx : TypeId)
    (ho : o.op = .call { callee := .builtin .append, args := #[s, x], argTypes := #[t, tx] }) (ht : Try.prog.underlying t = some (.slice TB))
    (v : Value) (l : List UInt8) (hv : a.eval s = v) (hown : Row w v l) (u : Value) (r : List UInt8) (hu : a.eval x = u) (hs : Src Try.prog 1 tx u r.length (bv r) w)
    (hbytes : l.length + r.length ≤ 140737488355328)
    (h : ∀ v' w', Row w' v' (l ++ r) → Keep v.ownBlock.toList w w' → (v'.ownBlock = v.ownBlock ∨ Fresh w w' v') → Sl v' (l.length + r.length) → K (a.put o.dst v') w') :
    if Region.wanted o (yielded ops a.tmps) = true then Oper.wp Try.prog o a w K Q else E := by
  have hw : Region.wanted o (yielded ops a.tmps) = true := by simp [Region.wanted, hg]
  rw [if_pos hw]
  obtain ⟨v', w', hr, h1, h2, h3, h4⟩ := run_app w t tx o.type ht v l hown u r hs hbytes
  unfold Oper.wp execOp
  simp only [ho, resolve, invoke, builtin, Sem.run_bind, Sem.run_pure, Result.andThen_ok, List.map_toArray, List.map_cons, List.map_nil, hv, hu, hr]
  exact h v' w' h1 h2 h3 h4

/-- a cell of before stays, and nothing but news is written: how a region hands this on -/
theorem held_start {w : World} {p : Addr} {u : Value} (hc : w.cell? p = some u) : w.drew.cell? p = some u ∧ Keep [] w w.drew := ⟨by simpa using hc, (Keep.refl _ _).drew⟩
theorem held_call {w w1 w2 : World} {p : Addr} {u : Value} (h : w1.cell? p = some u ∧ Keep [] w w1) (k : Keep [] w1 w2) : w2.cell? p = some u ∧ Keep [] w w2 := ⟨k.cell' h.1 (by simp), h.2.trans' k⟩
theorem held_alloc {w w1 : World} {p : Addr} {u : Value} (h : w1.cell? p = some u ∧ Keep [] w w1) (o : Obj) : (w1.alloc o).cell? p = some u ∧ Keep [] w (w1.alloc o) := held_call h (Keep.alloc1 w1 o)

end Go.Proofs.Ytcmembmaaebdeaa
