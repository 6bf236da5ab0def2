/- An argument that is a list of things to be written, read as such. -/
import Derived.Test.YtcmembmaaebdeabPutM
import Derived.Test.YtcmembmaaebdeabArgW
import Derived.Deep.Slices
namespace Go.Proofs.Ytcmembmaaebdeab
open Go.ChangeShapes Go.WideShapes Go.ChangeAt Go.RowKit Go.Joins

abbrev TPs : TypeId := 37
abbrev TPut : TypeId := 47

/-- the thing p lies at b, o -/
structure PutAt (w : World) (b o : Nat) (p : PutD) : Prop where
  on : w.cell? ⟨b, o, none⟩ = some (.int .i64 p.on)
  kind : w.cell? ⟨b, o + 1, none⟩ = some (.int .i64 p.kind)
  uint : w.cell? ⟨b, o + 2, none⟩ = some (.int .u64 (p.uint : Int))
  int : w.cell? ⟨b, o + 3, none⟩ = some (.int .i64 p.int)
  real : w.cell? ⟨b, o + 4, none⟩ = some (.float .f32 p.real)
  text : w.cell? ⟨b, o + 5, none⟩ = some (.string p.text)
  raw : ∃ u, w.cell? ⟨b, o + 6, none⟩ = some u ∧ Bs w u p.raw

theorem PutAt.keep {w w' : World} {b o : Nat} {p : PutD} (h : PutAt w b o p) (k : Keep [] w w') : PutAt w' b o p := by
  obtain ⟨u, h6, h7⟩ := h.raw
  exact ⟨k.cell' h.on (by simp), k.cell' h.kind (by simp), k.cell' h.uint (by simp), k.cell' h.int (by simp), k.cell' h.real (by simp), k.cell' h.text (by simp), u, k.cell' h6 (by simp), h7.keep k (Off.nil _)⟩

/-- the slice v reads as the things l -/
structure Puts (w : World) (v : Value) (l : List PutD) : Prop where
  ok : ∀ p ∈ l, p.Ok
  ex : ∃ ao cap, v = .slice ao l.length cap ∧ l.length ≤ cap ∧ cap ≤ 9223372036854775807 ∧ (l ≠ [] → ∃ b o, ao = some ⟨b, o, none⟩ ∧ ∀ i (h : i < l.length), PutAt w b (o + i * 7) l[i])

theorem Puts.keep {w w' : World} {v : Value} {l : List PutD} (h : Puts w v l) (k : Keep [] w w') : Puts w' v l := by
  obtain ⟨ao, cap, h1, h2, h3, h4⟩ := h.ex
  refine ⟨h.ok, ao, cap, h1, h2, h3, fun hl => ?_⟩
  obtain ⟨b, o, h5, h6⟩ := h4 hl
  exact ⟨b, o, h5, fun i hi => (h6 i hi).keep k⟩

theorem cellsPut : Try.prog.cellsOf TPut = 7 := by kernel_rfl
theorem underPs : Try.prog.underlying TPs = some (.slice TPut) := Try.underlying37

theorem trod_struct7 {H : Type} {enc : TypeId × Value → H} {P : Program} {w : World} {base : Nat} {spare : Nat → Bool} {held : Bool} {t : TypeId} {f0 f1 f2 f3 f4 f5 f6 : Field} {fuel : Nat} {cs : List Value} {x : DataW H × List MemPlace} (ht : P.underlying t = some (.struct #[f0, f1, f2, f3, f4, f5, f6])) (h : DataW.trod enc P w base spare held fuel t cs = some x) :
    ∃ y0 y1 y2 y3 y4 y5 y6 n, x.1 = .agg [y0.1, y1.1, y2.1, y3.1, y4.1, y5.1, y6.1] ∧ cs.length = P.cellsOf t ∧ DataW.trod enc P w base spare held n f0.type ((cs.drop f0.offset).take (P.cellsOf f0.type)) = some y0 ∧
      DataW.trod enc P w base spare held n f1.type ((cs.drop f1.offset).take (P.cellsOf f1.type)) = some y1 ∧ DataW.trod enc P w base spare held n f2.type ((cs.drop f2.offset).take (P.cellsOf f2.type)) = some y2 ∧
      DataW.trod enc P w base spare held n f3.type ((cs.drop f3.offset).take (P.cellsOf f3.type)) = some y3 ∧ DataW.trod enc P w base spare held n f4.type ((cs.drop f4.offset).take (P.cellsOf f4.type)) = some y4 ∧
      DataW.trod enc P w base spare held n f5.type ((cs.drop f5.offset).take (P.cellsOf f5.type)) = some y5 ∧ DataW.trod enc P w base spare held n f6.type ((cs.drop f6.offset).take (P.cellsOf f6.type)) = some y6 := by
  obtain ⟨xs, n, _, rfl, hl, hlen, hf⟩ := DataW.trod_struct ht h
  match xs, hlen with
  | [y0, y1, y2, y3, y4, y5, y6], _ => exact ⟨y0, y1, y2, y3, y4, y5, y6, n, by simp, hl, by simpa using hf 0 f0 rfl, by simpa using hf 1 f1 rfl, by simpa using hf 2 f2 rfl, by simpa using hf 3 f3 rfl, by simpa using hf 4 f4 rfl, by simpa using hf 5 f5 rfl, by simpa using hf 6 f6 rfl⟩

theorem trod_f32 {H : Type} {enc : TypeId × Value → H} {P : Program} {w : World} {base : Nat} {spare : Nat → Bool} {held : Bool} {t : TypeId} {fuel : Nat} {cs : List Value} {x : DataW H × List MemPlace} (ht : P.underlying t = some (.float .f32)) (h : DataW.trod enc P w base spare held fuel t cs = some x) :
    ∃ n, cs = [.float .f32 n] ∧ x.1 = .lit (.float .f32 n) ∧ (Lit.float .f32 n).wf = true := by
  cases fuel with
  | zero => simp [DataW.trod] at h
  | succ n =>
    unfold DataW.trod at h
    rw [ht] at h
    split at h <;> simp_all
    obtain ⟨h1, h2⟩ := h
    rw [← h2]

theorem f32_lt {n : Nat} (h : (Lit.float .f32 n).wf = true) : n < 4294967296 := by
  simpa [Lit.wf] using h
theorem cells3 : Try.prog.cellsOf 3 = 1 := by kernel_rfl
theorem cells33 : Try.prog.cellsOf 26 = 1 := by kernel_rfl
theorem cells2 : Try.prog.cellsOf 2 = 1 := by kernel_rfl
theorem cells34 : Try.prog.cellsOf 45 = 1 := by kernel_rfl
theorem cells9 : Try.prog.cellsOf 9 = 1 := by kernel_rfl
theorem cells24 : Try.prog.cellsOf 22 = 1 := by kernel_rfl

/-- what a thing's datum says of how great it is -/
def PutD.datum {H : Type} (p : PutD) (d : DataW H) : Prop :=
  ∃ d0 d1 d2 d3 d4 d6, d = .agg [d0, d1, d2, d3, d4, .lit (.string p.text.data.toList), d6] ∧ ((p.raw = [] ∧ d6 = .nil) ∨ ∃ es sp, d6 = .slice es sp ∧ p.raw.length ≤ es.length + sp.length)

theorem open_put {H : Type} {enc : TypeId × Value → H} {W : World} {fuel : Nat} {b o : Nat} {cs : List Value} {x : DataW H × List MemPlace}
    (hc : W.cells? 0 ⟨b, o, none⟩ 7 = some cs) (hf : DataW.trod enc Try.prog W 0 (fun _ => true) true fuel TPut cs = some x) :
    ∃ p : PutD, p.Ok ∧ PutAt W b o p ∧ p.datum x.1 := by
  obtain ⟨_, hlen, hcell⟩ := World.cells?_some hc
  match cs, hlen with
  | [c0, c1, c2, c3, c4, c5, c6], _ =>
    obtain ⟨y0, y1, y2, y3, y4, y5, y6, n, hx, _, g0, g1, g2, g3, g4, g5, g6⟩ := trod_struct7 Try.underlying47 hf
    have k0 := hcell 0 (by omega)
    have k1 := hcell 1 (by omega)
    have k2 := hcell 2 (by omega)
    have k3 := hcell 3 (by omega)
    have k4 := hcell 4 (by omega)
    have k5 := hcell 5 (by omega)
    have k6 := hcell 6 (by omega)
    simp only [add_plain, List.getElem?_cons_zero, List.getElem?_cons_succ, Nat.add_zero] at k0 k1 k2 k3 k4 k5 k6
    simp only [cells3, cells33, cells2, cells34, cells9, cells24, List.drop_zero, List.drop_succ_cons, List.take_succ_cons, List.take_zero] at g0 g1 g2 g3 g4 g5 g6
    obtain ⟨a0, e0, x0, w0⟩ := DataW.trod_int Try.underlying3 g0
    obtain ⟨a1, e1, x1, w1⟩ := DataW.trod_int Try.underlying3 g1
    obtain ⟨a2, e2, x2, w2⟩ := DataW.trod_int Try.underlying26 g2
    obtain ⟨a3, e3, x3, w3⟩ := DataW.trod_int Try.underlying2 g3
    obtain ⟨a4, e4, x4, w4⟩ := trod_f32 Try.underlying45 g4
    obtain ⟨a5, e5, x5, w5⟩ := DataW.trod_string Try.underlying9 g5
    obtain ⟨ao, len, cap, e6⟩ := slice_form underS g6
    obtain rfl : c0 = .int .i64 a0 := by simpa using e0
    obtain rfl : c1 = .int .i64 a1 := by simpa using e1
    obtain rfl : c2 = .int .u64 a2 := by simpa using e2
    obtain rfl : c3 = .int .i64 a3 := by simpa using e3
    obtain rfl : c4 = .float .f32 a4 := by simpa using e4
    obtain rfl : c5 = .string a5 := by simpa using e5
    obtain rfl : c6 = .slice ao len cap := by simpa using e6
    obtain ⟨l, hB, hll, hd⟩ := open_bytes g6
    have r0 : -9223372036854775808 ≤ a0 ∧ a0 ≤ 9223372036854775807 := by simpa [Lit.wf, IntKind.min, IntKind.max, IntKind.signed, IntKind.bits] using w0
    have r1 : -9223372036854775808 ≤ a1 ∧ a1 ≤ 9223372036854775807 := by simpa [Lit.wf, IntKind.min, IntKind.max, IntKind.signed, IntKind.bits] using w1
    have r2 : 0 ≤ a2 ∧ a2 ≤ 18446744073709551615 := by simpa [Lit.wf, IntKind.min, IntKind.max, IntKind.signed, IntKind.bits] using w2
    have r3 : -9223372036854775808 ≤ a3 ∧ a3 ≤ 9223372036854775807 := by simpa [Lit.wf, IntKind.min, IntKind.max, IntKind.signed, IntKind.bits] using w3
    have r4 : a4 < 4294967296 := f32_lt w4
    simp only [maxLen] at w5
    refine ⟨⟨a0, a1, a2.toNat, a3, a4, a5, l⟩, ⟨r0.1, r0.2, r1.1, r1.2, by simp only; omega, r3.1, r3.2, r4, by simp only; omega⟩, ⟨k0, k1, ?_, k3, k4, k5, _, k6, hB⟩, ?_⟩
    · rw [k2]
      simp only [Option.some.injEq, Value.int.injEq, true_and]
      omega
    · refine ⟨y0.1, y1.1, y2.1, y3.1, y4.1, y6.1, ?_, ?_⟩
      · rw [hx, x5]
      · rcases hd with ⟨hd, hc⟩ | ⟨es, sp, hd, hs, hlc⟩
        · refine .inl ⟨?_, hd⟩
          obtain ⟨_, _, he, h1, _⟩ := hB.ex
          simp at he
          exact List.eq_nil_of_length_eq_zero (show l.length = 0 by omega)
        · exact .inr ⟨es, sp, hd, by simp only; omega⟩

theorem list_of {α : Type} {Q : Nat → α → Prop} : ∀ (n : Nat), (∀ i, i < n → ∃ x, Q i x) → ∃ l : List α, l.length = n ∧ ∀ i (h : i < l.length), Q i l[i]
  | 0, _ => ⟨[], rfl, fun i h => by simp at h⟩
  | n + 1, h => by
    obtain ⟨l, h1, h2⟩ := list_of n (fun i hi => h i (by omega))
    obtain ⟨x, hx⟩ := h n (by omega)
    refine ⟨l ++ [x], by simp [h1], fun i hi => ?_⟩
    by_cases hin : i < l.length
    · rw [List.getElem_append_left hin]
      exact h2 i hin
    · have : i = n := by simp at hi; omega
      subst this
      rw [List.getElem_append_right (by omega)]
      simpa [h1] using hx

theorem open_puts {H : Type} {enc : TypeId × Value → H} {W : World} {fuel : Nat} {a0 : Option Addr} {len cap : Nat} {d : DataW H} {p : List MemPlace}
    (hf : DataW.trod enc Try.prog W 0 (fun _ => true) true fuel TPs [.slice a0 len cap] = some (d, p)) :
    ∃ l : List PutD, Puts W (.slice a0 len cap) l ∧ l.length = len ∧ ((d = .nil ∧ l = []) ∨ ∃ es sp, d = .slice es sp ∧ ∀ p ∈ l, ∃ y ∈ es, p.datum y) := by
  rcases Go.Deep.open_slice underPs hf with ⟨hcs, hx⟩ | ⟨a, len', cap', m, n, D, Pl, hcs, _, hl, hm, hmm, hx, hel⟩
  · simp at hcs
    obtain ⟨rfl, rfl, rfl⟩ := hcs
    simp only [Prod.mk.injEq] at hx
    exact ⟨[], ⟨fun _ h => (by cases h), none, 0, rfl, by simp, by simp, fun h => absurd rfl h⟩, rfl, .inl ⟨hx.1, rfl⟩⟩
  · simp at hcs
    obtain ⟨rfl, rfl, rfl⟩ := hcs
    simp only [if_true] at hmm
    subst hmm
    simp only [Prod.mk.injEq] at hx
    obtain ⟨b, off, spot⟩ := a
    rw [cellsPut] at hel
    rcases Nat.eq_zero_or_pos len with h0 | h0
    · subst h0
      exact ⟨[], ⟨fun _ h => (by cases h), some ⟨b, off, spot⟩, m, rfl, by simp, by simp only [maxLen] at hm; omega, fun h => absurd rfl h⟩, rfl, .inr ⟨_, _, hx.1, fun _ h => by cases h⟩⟩
    · have hspot : spot = none := by
        obtain ⟨cs', h1, h2⟩ := hel 0 (by omega)
        obtain ⟨_, h3, h4⟩ := World.cells?_some h1
        have h5 := h4 0 (by omega)
        rw [List.getElem?_eq_getElem (by omega)] at h5
        have := World.cell?_spot h5
        simpa [Addr.add] using this
      subst hspot
      obtain ⟨l, hlen, hl2⟩ := list_of (Q := fun i (p : PutD) => p.Ok ∧ PutAt W b (off + i * 7) p ∧ p.datum (D i)) len (fun i hi => by
        obtain ⟨cs', h1, h2⟩ := hel i (by omega)
        rw [add_plain] at h1
        exact open_put h1 h2)
      refine ⟨l, ⟨fun p hp => ?_, some ⟨b, off, none⟩, m, by rw [hlen], by omega, by simp only [maxLen] at hm; omega, fun _ => ⟨b, off, rfl, fun i hi => (hl2 i hi).2.1⟩⟩, hlen, .inr ⟨_, _, hx.1, fun p hp => ?_⟩⟩
      · obtain ⟨i, hi, rfl⟩ := List.getElem_of_mem hp
        exact (hl2 i hi).1
      · obtain ⟨i, hi, rfl⟩ := List.getElem_of_mem hp
        exact ⟨D i, List.mem_map.2 ⟨i, by simp; omega, rfl⟩, (hl2 i hi).2.2⟩

end Go.Proofs.Ytcmembmaaebdeab

