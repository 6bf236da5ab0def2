/- Print's ground: the last token, the loops' relations, the answer. -/
import Derived.Test.YtmglbcldjhdhkabTkPr
namespace Go.Proofs.Ytmglbcldjhdhkab
open Go.RowKit Go.PlainAid

theorem cut_last (Q : List TokD) (t : TokD) : cutE (Q ++ [t]) = if endB t then Q else Q ++ [t] := by
  unfold cutE
  rw [List.getLast?_append]
  simp
theorem cut_nil : cutE ([] : List TokD) = [] := rfl
/-- the i-th token's cells -/
theorem Ts4.at {w : World} {ao : Option Addr} {n cap : Nat} {l : List TokD} (h : Ts4 w (.slice ao n cap) l) (i : Nat) (hi : i < l.length) :
    n = l.length ∧ ∃ b o, ao = some ⟨b, o, none⟩ ∧ w.cell? ⟨b, o + i * 4, none⟩ = some (.int .i64 (l[i]).kind) ∧ w.cell? ⟨b, o + i * 4 + 1, none⟩ = some (.string (ba (l[i]).text)) ∧ w.cell? ⟨b, o + i * 4 + 2, none⟩ = some (.int .i64 (l[i]).line) ∧ w.cell? ⟨b, o + i * 4 + 3, none⟩ = some (.int .i64 (l[i]).col) := by
  obtain ⟨ao2, cap2, e, h1, h2, h3, h4⟩ := h.ex
  simp only [Value.slice.injEq] at e
  obtain ⟨rfl, rfl, rfl⟩ := e
  obtain ⟨b, o, rfl, hc⟩ := h4 (by intro e; subst e; simp at hi)
  exact ⟨rfl, b, o, rfl, hc i hi⟩
theorem join_next (P : List TokD) (k : Nat) (h : k < P.length) : joinL (P.take (k + 1)) = if k = 0 then oneL P[k] else joinL (P.take k) ++ 32 :: oneL P[k] := by
  rw [List.take_succ_eq_append_getElem h, join_snoc]
  by_cases h0 : k = 0
  · subst h0; simp
  · rw [if_neg h0, if_neg]
    intro e
    have := congrArg List.length e
    rw [List.length_take, List.length_nil] at this
    omega
/-- where the second loop stands -/
structure Pw (w wr : World) (b : Nat) (P : List TokD) (k : Nat) : Prop where
  ex : ∃ p v, Bd (b + 1) wr b (joinL (P.take k)) p v
  keep : Keep [] w wr
  hb : w.heap.size ≤ b
  hB : b + 1 ≤ wr.heap.size
  len : (joinL (P.take k)).length ≤ 262146
theorem Pw.start {w wr : World} (P : List TokD) (k : Keep [] w wr) : Pw w (wr.alloc (.cells #[.pointer none, .slice none 0 0] 57 (0, 0))) wr.heap.size P 0 := by
  refine ⟨⟨.pointer none, .slice none 0 0, ?_⟩, k.alloc _, k.size, by simp, by simp [joinL]⟩
  refine ⟨heap_alloc_new wr _, .inl rfl, ?_, fun x hx => by simp [Value.ownBlock] at hx⟩
  exact World.ownsRow_nil _ 0 5 1
theorem Pw.next {w wr w' : World} {b : Nat} {P : List TokD} {k : Nat} {l l' : List UInt8} {p v p' v' : Value} (h : Pw w wr b P k) (W : World) (kW : Keep [] wr W) (hv : Bd (b + 1) W b l p v) (h1 : Bd (b + 1) w' b l' p' v') (h2 : Wd b v v' W w') (e : l' = joinL (P.take (k + 1))) (hl : l'.length ≤ 262146) : Pw w w' b P (k + 1) := by
  subst e
  refine ⟨⟨p', v', h1⟩, ?_, h.hb, ?_, hl⟩
  · refine (h.keep.trans' kW).more h2.keep (fun x hx => .inr ?_)
    have := h.hb
    simp at hx
    rcases hx with rfl | hx
    · exact this
    · have := hv.far x hx; omega
  · have := h.hB; have := kW.size; have := h2.keep.size; omega
theorem print_no {l : List TokD} {t : TokD} (h : t ∈ cutE l) (hb : printB t = false) : printL l = ([], 50) := by
  unfold printL
  rw [if_neg]
  intro e
  rw [List.all_eq_true] at e
  rw [e t h] at hb
  simp at hb
theorem print_long {l : List TokD} (h : ∀ t ∈ cutE l, printB t = true) (hn : 65536 < (joinL (cutE l)).length) : printL l = ([], 3) := by
  unfold printL
  rw [if_pos (by rw [List.all_eq_true]; exact h), if_pos hn]
theorem print_ok {l : List TokD} (h : ∀ t ∈ cutE l, printB t = true) (hn : (joinL (cutE l)).length ≤ 65536) : printL l = (joinL (cutE l), 0) := by
  unfold printL
  rw [if_pos (by rw [List.all_eq_true]; exact h), if_neg (by omega)]
theorem all_take_succ {P : List TokD} {k : Nat} (h : k < P.length) (h1 : ∀ t ∈ P.take k, printB t = true) (h2 : printB P[k] = true) : ∀ t ∈ P.take (k + 1), printB t = true := by
  intro t ht
  rw [List.take_succ_eq_append_getElem h] at ht
  rcases List.mem_append.1 ht with ht | ht
  · exact h1 t ht
  · rw [List.mem_singleton.1 ht]; exact h2
theorem Bd.drew {B : Nat} {w : World} {b : Nat} {l : List UInt8} {p v : Value} (h : Bd B w b l p v) : Bd B w.drew b l p v :=
  h.keep (Keep.refl [] w).drew (by simp) (by simp)
theorem Wd.drew {b : Nat} {v v' : Value} {w w' : World} (h : Wd b v v' w.drew w') : Wd b v v' w w' :=
  ⟨⟨h.keep.os, h.keep.tape, h.keep.output, h.keep.size, h.keep.block⟩, h.nw⟩
theorem box4 {w : World} {b : Nat} {x y z u : Value} {T : TypeId} (h : w.heap[b]? = some (.cells #[x, y, z, u] T (0, 0))) :
    w.cell? ⟨b, 0, none⟩ = some x ∧ w.cell? ⟨b, 1, none⟩ = some y ∧ w.cell? ⟨b, 2, none⟩ = some z ∧ w.cell? ⟨b, 3, none⟩ = some u :=
  ⟨(box_cell h 0).1, (box_cell h 1).1, (box_cell h 2).1, (box_cell h 3).1⟩
end Go.Proofs.Ytmglbcldjhdhkab

