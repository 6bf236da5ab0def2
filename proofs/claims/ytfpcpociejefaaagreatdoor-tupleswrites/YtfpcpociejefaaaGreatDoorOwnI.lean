/- Whole numbers in memory, told plainly: what a slice of bytes reads as, what a row of bytes of one's own is, and what stays as it was while other blocks are written. -/
import Derived.Test.YtfpcpociejefaaaGreatDoorOwn
import Derived.WalkKit
import Derived.WalkSpells
import Derived.WalkLawsBesides
import Derived.PlainAid
import Derived.Deep.AppendSrc
namespace Go.Proofs.YtfpcpociejefaaaGreatDoor
open Go.RowKit Go.PlainAid
abbrev TI : TypeId := 3
abbrev TN : TypeId := 131
theorem infoI : (Tryz.prog.info? TI).map (fun i => (i.zero, i.size, i.bytes)) = some (some (.int .i64 0), 1, 8) := by kernel_rfl
theorem underN : Tryz.prog.underlying TN = some (.slice TI) := Tryz.underlying131
def iv (l : List Nat) : List Value := l.map fun (x : Nat) => Value.int .i64 (x : Int)
theorem iv_length (l : List Nat) : (iv l).length = l.length := by simp [iv]
theorem iv_append (a b : List Nat) : iv (a ++ b) = iv a ++ iv b := by simp [iv]
theorem iv_get (l : List Nat) (j : Nat) (hj : j < l.length) : (iv l)[j]? = some (.int .i64 ((l[j] : Nat) : Int)) := by simp [iv, hj]
theorem iv_one (l : List Nat) : ∀ u ∈ iv l, u.oneCell' = true := by
 intro u hu
 obtain ⟨x, _, rfl⟩ := List.mem_map.1 hu
 rfl
/-- the slice v reads as the bytes l -/
structure Is (w : World) (v : Value) (l : List Nat) : Prop where
 ex : ∃ ao cap, v = .slice ao l.length cap ∧ l.length ≤ cap ∧ cap ≤ maxLen ∧ (ao = none → cap = 0) ∧
  (l ≠ [] → ∃ b o, ao = some ⟨b, o, none⟩ ∧ ∀ j, j < l.length → w.cell? ⟨b, o + j, none⟩ = some (.int .i64 ((l.getD j 0 : Nat) : Int)))
theorem Is.nil (w : World) : Is w (.slice none 0 0) [] := ⟨none, 0, rfl, by simp, by simp [maxLen], fun _ => rfl, fun h => absurd rfl h⟩
theorem Is.empty (w : World) (a : Addr) (cap : Nat) (h : cap ≤ maxLen) : Is w (.slice (some a) 0 cap) [] := ⟨some a, cap, rfl, by simp, h, (by intro h; cases h), fun h => absurd rfl h⟩
theorem Is.keep {F : List Nat} {w w' : World} {v : Value} {l : List Nat} (h : Is w v l) (k : Keep F w w') (hn : Off v F) : Is w' v l := by
 obtain ⟨ao, cap, rfl, h1, h2, h3, h4⟩ := h.ex
 refine ⟨ao, cap, rfl, h1, h2, h3, fun hl => ?_⟩
 obtain ⟨b, o, rfl, hc⟩ := h4 hl
 exact ⟨b, o, rfl, fun j hj => k.cell' (hc j hj) (hn b rfl)⟩
theorem Is.len {w : World} {v : Value} {l : List Nat} (h : Is w v l) : l.length ≤ 9223372036854775807 := by
 obtain ⟨ao, cap, rfl, h1, h2, h3, h4⟩ := h.ex
 simp only [maxLen] at h2
 omega
theorem Is.lt {w : World} {v : Value} {l : List Nat} (h : Is w v l) (hl : l ≠ []) : ∀ k, v.ownBlock = some k → k < w.heap.size := by
 obtain ⟨ao, cap, rfl, h1, h2, h3, h4⟩ := h.ex
 obtain ⟨b, o, rfl, hc⟩ := h4 hl
 intro k hk
 simp [Value.ownBlock] at hk
 subst hk
 exact World.block_lt_of_cell? w _ (hc 0 (by cases l; exact absurd rfl hl; simp))
/-- the two cases of a walk: nothing to read; or an address, and the cells behind it -/
theorem Is.cases {w : World} {v : Value} {l : List Nat} (h : Is w v l) :
  (l = [] ∧ ∃ ao cap, v = .slice ao 0 cap ∧ cap ≤ 9223372036854775807 ∧ (ao = none → cap = 0)) ∨
  (l ≠ [] ∧ ∃ b o cap, v = .slice (some ⟨b, o, none⟩) l.length cap ∧ 0 < l.length ∧ l.length ≤ cap ∧ cap ≤ 9223372036854775807 ∧ ∀ j, j < l.length → w.cell? ⟨b, o + j, none⟩ = some (.int .i64 ((l.getD j 0 : Nat) : Int))) := by
 obtain ⟨ao, cap, rfl, h1, h2, h3, h4⟩ := h.ex
 simp only [maxLen] at h2
 by_cases hl : l = []
 ·exact .inl ⟨hl, ao, cap, by simp [hl], by omega, h3⟩
 ·obtain ⟨b, o, rfl, hc⟩ := h4 hl
  exact .inr ⟨hl, b, o, cap, rfl, by cases l; exact absurd rfl hl; simp, h1, by omega, hc⟩
theorem Is.src {w : World} {v : Value} {l : List Nat} (h : Is w v l) : Src Tryz.prog 1 TN v l.length (iv l) w := by
 rcases h.cases with ⟨rfl, ao, cap, rfl, _, h3⟩ | ⟨hl, b, o, cap, rfl, _, h1, h2, hc⟩
 ·cases ao with
  | none => exact Src.ofNil w underN cap
  | some a => exact Src.ofSlice w underN a 0 cap [] rfl (fun j u h => by simp at h) (fun u h => by cases h)
 ·refine Src.ofSlice w underN ⟨b, o, none⟩ l.length cap (iv l) (by simp [iv_length]) (fun j u hu => ?_) (iv_one l)
  have hj : j < l.length := by
   have := (List.getElem?_eq_some_iff.1 hu).1
   simpa [iv_length] using this
  rw [iv_get l j hj] at hu
  have hadd : (⟨b, o, none⟩ : Addr).add j = ⟨b, o + j, none⟩ := by unfold Addr.add; split <;> simp_all
  rw [hadd, hc j hj, List.getD_eq_getElem?_getD, List.getElem?_eq_getElem hj]
  exact hu
/-- a row of bytes of one's own -/
def Rw (w : World) (v : Value) (l : List Nat) : Prop := w.ownsRow 0 TI 1 v l.length (iv l)
theorem Rw.nil (w : World) : Rw w (.slice none 0 0) [] := World.ownsRow_nil w 0 TI 1
theorem Rw.keep {F : List Nat} {w w' : World} {v : Value} {l : List Nat} (h : Rw w v l) (k : Keep F w w') (hn : Off v F) : Rw w' v l := by
 refine ⟨h.1, ?_⟩
 rcases h.2 with hz | ⟨g, cap, cur, rfl, hb, hg, r⟩
 ·exact .inl hz
 ·exact .inr ⟨g, cap, cur, rfl, hb, (k.block g (Array.getElem?_eq_some_iff.1 hg).1 (hn g rfl)).trans hg, r⟩
theorem Rw.lt {w : World} {v : Value} {l : List Nat} (h : Rw w v l) : ∀ k, v.ownBlock = some k → k < w.heap.size := fun k hk => (World.ownsRow.lt h k hk).2
theorem Rw.bs {w : World} {v : Value} {l : List Nat} (h : Rw w v l) : Is w v l := by
 rcases h.2 with ⟨rfl, hz⟩ | ⟨g, cap, cur, rfl, hb, hg, hnc, hcm, hcs, htake⟩
 ·have : l = [] := List.eq_nil_of_length_eq_zero hz
  subst this
  exact Is.nil w
 ·refine ⟨some ⟨g, 0, none⟩, cap, rfl, hnc, hcm, (by intro h; cases h), fun _ => ⟨g, 0, rfl, fun j hj => ?_⟩⟩
  have := World.ownsRow.cellAt h j (by omega)
  rw [Nat.zero_add, this, iv_get l j hj, List.getD_eq_getElem?_getD, List.getElem?_eq_getElem hj]
  rfl
theorem run_appI (w : World) (t tx ty : TypeId) (ht : Tryz.prog.underlying t = some (.slice TI)) (v : Value) (l : List Nat) (hown : Rw w v l) (x : Value) (r : List Nat) (hs : Src Tryz.prog 1 tx x r.length (iv r) w)
  (hbytes : l.length + r.length ≤ 1000000000) :
  ∃ v' w', (Builtin.append_ #[t, tx] ty #[v, x]).run Tryz.prog w = .ok v' w' ∧ Rw w' v' (l ++ r) ∧ Keep v.ownBlock.toList w w' ∧ (v'.ownBlock = v.ownBlock ∨ Fresh w w' v') ∧ Sl v' (l.length + r.length) := by
 obtain ⟨i, hi, hz, hsize, hby⟩ := info_parts infoI
 have h63 : l.length + r.length ≤ maxLen := by simp only [maxLen]; omega
 have hlen : (iv l ++ iv r).length = (l.length + r.length) * i.size := by rw [hsize]; simp [iv_length]
 have hs' : Src Tryz.prog i.size tx x r.length (iv r) w := by rw [hsize]; exact hs
 have hz1 : (Value.int IntKind.i64 0).cells.size = i.size := by rw [hsize]; rfl
 have grown : ∀ (old : Nat), old < l.length + r.length →
   Rw (w.drew.alloc (.cells ((iv l ++ iv r).toArray ++ Builtin.zeroCells (Value.int IntKind.i64 0).cells (grownCap w (l.length + r.length) old TI - (l.length + r.length))) TI)) (.slice (some ⟨w.heap.size, 0, none⟩) (l.length + r.length) (grownCap w (l.length + r.length) old TI)) (l ++ r) ∧
   Keep v.ownBlock.toList w (w.drew.alloc (.cells ((iv l ++ iv r).toArray ++ Builtin.zeroCells (Value.int IntKind.i64 0).cells (grownCap w (l.length + r.length) old TI - (l.length + r.length))) TI)) ∧
   Fresh w (w.drew.alloc (.cells ((iv l ++ iv r).toArray ++ Builtin.zeroCells (Value.int IntKind.i64 0).cells (grownCap w (l.length + r.length) old TI - (l.length + r.length))) TI)) (.slice (some ⟨w.heap.size, 0, none⟩) (l.length + r.length) (grownCap w (l.length + r.length) old TI)) := by
  intro old ho
  have hge := grownCap_ge w (l.length + r.length) old TI
  have hcm : grownCap w (l.length + r.length) old TI ≤ maxLen := grownCap_le_maxLen w _ old TI h63
  refine ⟨⟨by simp [iv_length], .inr ⟨w.heap.size, _, _, by simp, Nat.zero_le _, heap_alloc_new w.drew _, by simpa using hge, hcm, ?_, ?_⟩⟩, ((Keep.refl _ w).drew).alloc _, ?_⟩
  ·simp only [Array.size_append, List.size_toArray, size_zeroCells, List.length_append, iv_length]
   simp [Value.cells]
   omega
  ·simp only [Array.toList_append, iv_append]
   rw [List.take_append_of_le_length (by simp [iv_length])]
   exact List.take_of_length_le (by simp [iv_length])
  ·intro k hk
   simp [Value.ownBlock] at hk
   subst hk
   exact ⟨Nat.le_refl _, by simp⟩
 rcases hown.2 with ⟨rfl, hz0⟩ | ⟨g, cap, cur, rfl, hbg, hg, hnc, hcm, hcs, htake⟩
 ·have hl0 : l = [] := List.eq_nil_of_length_eq_zero hz0
  subst hl0
  by_cases hm : r.length = 0
  ·have hr0 : r = [] := List.eq_nil_of_length_eq_zero hm
   subst hr0
   refine ⟨.slice none 0 0, w, ?_, Rw.nil w, Keep.refl _ w, .inl rfl, ⟨none, 0, rfl⟩⟩
   have hc := hs'.cells
   have hl := hs'.len
   simp only [List.length_nil] at hc hl
   rcases hs'.kind with ⟨e', hk⟩ | hk <;>
    simp [Builtin.append_, run_underlying ht, run_underlying hk, sizeOf, typeInfo, hi, hl, hc, iv]
  ·have hr := run_append_grow_src (P := Tryz.prog) w t tx ty TI i (.int .i64 0) ht hi hz none 0 0 [] (run_firstCells_none w.drew i.size 0 0 0) x r.length (iv r) hs' (by omega) (by simp only [maxLen] at h63; simp at h63; omega)
    (by rw [hby]; have := hbytes; simp at this; exact growslice_fits (bytes := 8) (by omega) (by omega))
   obtain ⟨g1, g2, g3⟩ := grown 0 (by simp; omega)
   simp only [List.length_nil, Nat.zero_add, List.nil_append, iv, List.map_nil] at hr g1 g2 g3 ⊢
   exact ⟨_, _, hr, g1, g2, .inr g3, _, _, rfl⟩
 ·by_cases hroom : l.length + r.length ≤ cap
  ·have hfit : l.length * i.size + (iv r).length ≤ cur.size := by rw [hsize, hcs, iv_length]; omega
   have hst := run_storeCells_at Tryz.prog g (l.length * i.size) TI (iv r) 0 cur w hg (by simpa using hfit) hs'.one
   simp only [Nat.add_zero] at hst
   refine ⟨.slice (some ⟨g, 0, none⟩) (l.length + r.length) cap, w.setRow g (cur.toList.take (l.length * i.size) ++ iv r ++ cur.toList.drop (l.length * i.size + (iv r).length)).toArray, ?_, ⟨by simp [iv_length], .inr ⟨g, cap, _, by simp, Nat.zero_le _, setRow_heap w g cur _ TI _ hg, by simpa using hroom, hcm, ?_, ?_⟩⟩, ?_, .inl rfl, ⟨_, _, rfl⟩⟩
   ·rcases hs'.kind with ⟨e', hk⟩ | hk <;>
     simp [Builtin.append_, run_underlying ht, run_underlying hk, sizeOf, typeInfo, hi, hs'.len, hroom, hs'.cells, Addr.add_lit, hst]
   ·rw [hsize]
    simp only [List.size_toArray, List.length_append, List.length_take, List.length_drop, Array.length_toList, iv_length]
    omega
   ·rw [hsize, htake]
    simp only [iv_append]
    rw [List.take_append_of_le_length (by simp [iv_length])]
    exact List.take_of_length_le (by simp [iv_length])
   ·exact ⟨rfl, rfl, rfl, by simp, fun k _ hk => setRow_other w g k _ (fun e => hk (by simp [Value.ownBlock, e]))⟩
  ·have holds : ∀ j u, (iv l)[j]? = some u → w.cell? ((⟨g, 0, none⟩ : Addr).add j) = some u := World.ownsRow.cells hown (g := g) rfl
   have hr := run_append_grow_src (P := Tryz.prog) w t tx ty TI i (.int .i64 0) ht hi hz (some ⟨g, 0, none⟩) l.length cap (iv l) (run_firstCells_some w.drew i.size l.length ⟨g, 0, none⟩ l.length cap (iv l) (by rw [hsize]; simp [iv_length]) (by simpa using holds)) x r.length (iv r) hs' (by omega) (by simp only [maxLen] at h63; omega)
    (by rw [hby]; exact growslice_fits (bytes := 8) (by omega) (by omega))
   obtain ⟨g1, g2, g3⟩ := grown cap (by omega)
   exact ⟨_, _, hr, g1, g2, .inr g3, _, _, rfl⟩
/-- x = append(x, ..): the row goes on by what is appended -/
theorem wp_appI {ops : Array Oper} {rest : List Oper} {o : Oper} {a : Act} {w : World} {Q : Exit → Act → World → Prop} (hgd : o.guard = none) (s x : Operand) (t tx : TypeId)
  (ho : o.op = .call { callee := .builtin .append, args := #[s, x], argTypes := #[t, tx] }) (ht : Tryz.prog.underlying t = some (.slice TI))
  (v : Value) (l : List Nat) (hv : a.eval s = v) (hown : Rw w v l) (u : Value) (r : List Nat) (hu : a.eval x = u) (hs : Src Tryz.prog 1 tx u r.length (iv r) w)
  (hbytes : l.length + r.length ≤ 1000000000)
  (h : ∀ v' w', Rw w' v' (l ++ r) → Keep v.ownBlock.toList w w' → (v'.ownBlock = v.ownBlock ∨ Fresh w w' v') → Sl v' (l.length + r.length) → wpList Tryz.prog ops Q rest (a.put o.dst v') w') : wpList Tryz.prog ops Q (o :: rest) a w := by
 obtain ⟨v', w', hr, h1, h2, h3, h4⟩ := run_appI w t tx o.type ht v l hown u r hs hbytes
 refine wpList_plain hgd fun K hK => ?_
 unfold Oper.wp execOp
 simp only [ho, resolve, invoke, builtin, Sem.run_bind, Sem.run_pure, Result.andThen_ok, List.map_toArray, List.map_cons, List.map_nil, hv, hu, hr]
 exact hK _ _ (h v' w' h1 h2 h3 h4)
theorem Is.one (w : World) (c : Nat) : Is (w.alloc (.cells #[.int .i64 (c : Int)] TI)) (.slice (some ⟨w.heap.size, 0, none⟩) 1 1) [c] := by
 refine ⟨some ⟨w.heap.size, 0, none⟩, 1, rfl, by simp, by simp [maxLen], (by intro h; cases h), fun _ => ⟨w.heap.size, 0, rfl, fun j hj => ?_⟩⟩
 have hj0 : j = 0 := by simpa using hj
 subst hj0
 simp
theorem Is.take {w : World} {ao : Option Addr} {l : List Nat} {cap : Nat} (n : Nat) (hn : n ≤ l.length) (h : Is w (.slice ao l.length cap) l) : Is w (.slice ao n cap) (l.take n) := by
 obtain ⟨ao', cap', he, h1, h2, h3, h4⟩ := h.ex
 simp at he
 obtain ⟨rfl, rfl⟩ := he
 have hl : (l.take n).length = n := by simp; omega
 refine ⟨ao, cap, by rw [hl], by omega, h2, h3, fun hne => ?_⟩
 obtain ⟨b, o, hao, hc⟩ := h4 (by intro hz; rw [hz] at hne; simp at hne)
 refine ⟨b, o, hao, fun j hj => ?_⟩
 rw [hl] at hj
 rw [hc j (by omega)]
 simp [List.getD_eq_getElem?_getD, hj]
theorem Is.drop {w : World} {b o : Nat} {l : List Nat} {cap : Nat} (n : Nat) (hn : n ≤ l.length) (h : Is w (.slice (some ⟨b, o, none⟩) l.length cap) l) : Is w (.slice (some ⟨b, o + n, none⟩) (l.length - n) (cap - n)) (l.drop n) := by
 obtain ⟨ao, c, he, h1, h2, h3, h4⟩ := h.ex
 simp at he
 obtain ⟨rfl, rfl⟩ := he
 refine ⟨some ⟨b, o + n, none⟩, cap - n, by simp, by simp; omega, by simp only [maxLen] at h2 ⊢; omega, (by intro h; cases h), fun hl => ⟨b, o + n, rfl, fun j hj => ?_⟩⟩
 obtain ⟨b', o', hbo, hc⟩ := h4 (by intro hz; rw [hz] at hl; simp at hl)
 simp at hbo
 obtain ⟨rfl, rfl⟩ := hbo
 have := hc (n + j) (by simp at hj; omega)
 rw [Nat.add_assoc, this]
 simp [List.getD_eq_getElem?_getD]
end Go.Proofs.YtfpcpociejefaaaGreatDoor
