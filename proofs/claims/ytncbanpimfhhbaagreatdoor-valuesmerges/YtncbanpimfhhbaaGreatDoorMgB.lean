/- Rows of arguments of one's own: the cells, an append, what is lent. -/
import Derived.Test.YtncbanpimfhhbaaGreatDoorSaG
import Derived.Deep.RegionHeld3

namespace Go.Proofs.YtncbanpimfhhbaaGreatDoor
open Go.RowKit Go.PlainAid

abbrev cells7 (p : AD × Value) : List Value := [.string p.1.nm, .int .i64 p.1.val.kind, .bool p.1.val.bool, .int .i64 p.1.val.int, .float .f32 p.1.val.real, .string p.1.val.text, p.2]
theorem flat7_len : ∀ (ps : List (AD × Value)), (ps.flatMap cells7).length = ps.length * 7
  | [] => rfl
  | p :: ps => by rw [List.flatMap_cons, List.length_append, flat7_len ps, List.length_cons]; simp; omega
theorem flat7_get : ∀ (ps : List (AD × Value)) (i c : Nat) (h : i < ps.length), c < 7 → (ps.flatMap cells7)[i * 7 + c]? = (cells7 ps[i])[c]?
  | p :: ps, 0, c, _, hc => by
    rw [List.flatMap_cons, List.getElem?_append_left (by simp; omega)]
    simp
  | p :: ps, i + 1, c, h, hc => by
    rw [List.flatMap_cons, List.getElem?_append_right (by simp; omega)]
    have := flat7_get ps i c (by simpa using h) hc
    rw [show (i + 1) * 7 + c - (cells7 p).length = i * 7 + c by simp; omega, this]
    simp

theorem infoA : (Tryz.prog.info? 33).map (fun i => (i.zero, i.size, i.bytes)) = some (some (.agg #[.string ByteArray.empty, .int .i64 0, .bool false, .int .i64 0, .float .f32 0, .string ByteArray.empty, .slice none 0 0]), 7, 88) := by kernel_rfl
/-- a row of arguments of one's own -/
abbrev RowP (w : World) (v : Value) (ps : List (AD × Value)) : Prop := RowC w 33 7 v ps.length (ps.flatMap cells7)
abbrev blk7 (x : AD) (u : Value) : Obj := .cells #[.string x.nm, .int .i64 x.val.kind, .bool x.val.bool, .int .i64 x.val.int, .float .f32 x.val.real, .string x.val.text, u] 33 (0, 0)
theorem src_arg (w : World) (x : AD) (ao : Option Addr) (n c : Nat) : Src Tryz.prog 7 22 (.slice (some ⟨w.heap.size, 0, none⟩) 1 1) 1 (cells7 (x, .slice ao n c)) (w.alloc (blk7 x (.slice ao n c))) := by
  refine Src.ofSlice _ Tryz.underlying22 ⟨w.heap.size, 0, none⟩ 1 1 (cells7 (x, .slice ao n c)) rfl (fun j u hu => ?_) (fun u hu => ?_)
  · have hj := (List.getElem?_eq_some_iff.1 hu).1
    have hj : j < 7 := by simpa using hj
    rcases (show j = 0 ∨ j = 1 ∨ j = 2 ∨ j = 3 ∨ j = 4 ∨ j = 5 ∨ j = 6 by omega) with rfl | rfl | rfl | rfl | rfl | rfl | rfl <;>
    · simp at hu
      subst hu
      simp [Addr.add]
  · simp at hu
    rcases hu with rfl | rfl | rfl | rfl | rfl | rfl | rfl <;> rfl

/-- the texts of p are lent: they lie at lo or behind, off the row z, with the marks behind their end -/
def UL (w : World) (lo : Nat) (z : Value) (p : AD × Value) : Prop := ∃ g c, p.2 = .slice (some ⟨g, 0, none⟩) p.1.val.texts.length c ∧ Ts w (.slice (some ⟨g, 0, none⟩) (p.1.val.texts.length + 24) c) (p.1.val.texts ++ marks 24) ∧ Ts w (.slice (some ⟨g, 0, none⟩) p.1.val.texts.length c) p.1.val.texts ∧ lo ≤ g ∧ g < w.heap.size ∧ ∀ x, z.ownBlock = some x → g ≠ x
theorem UL.keep {w w' : World} {lo : Nat} {z z' : Value} {p : AD × Value} {F : List Nat} (h : UL w lo z p) (k : Keep F w w') (hF : ∀ x ∈ F, (∃ y, z.ownBlock = some y ∧ x = y) ∨ x < lo ∨ w.heap.size ≤ x) (hz : ∀ x, z'.ownBlock = some x → z.ownBlock = some x ∨ w.heap.size ≤ x) : UL w' lo z' p := by
  obtain ⟨g, c, e, h1, h2, h3, h4, h5⟩ := h
  have hoff : g ∉ F := fun hx => by
    rcases hF g hx with ⟨y, e1, e2⟩ | e1 | e1
    · exact h5 y e1 e2
    · omega
    · omega
  refine ⟨g, c, e, h1.keep k (fun q hq => ?_), h2.keep k (fun q hq => ?_), h3, Nat.lt_of_lt_of_le h4 k.size, fun x hx e1 => ?_⟩
  · simp [Value.ownBlock] at hq; subst hq; exact hoff
  · simp [Value.ownBlock] at hq; subst hq; exact hoff
  · rcases hz x hx with e2 | e2
    · exact h5 x e2 e1
    · omega

/-- a mark as an argument -/
def mkA (i : Nat) : AD × Value := (⟨markS i, ⟨0, false, 0, 0, ByteArray.empty, []⟩⟩, .slice none 0 0)
def mkAs (n : Nat) : List (AD × Value) := (List.range n).map mkA
theorem mkAs_len (n : Nat) : (mkAs n).length = n := by simp [mkAs]
theorem mkAs_snoc (n : Nat) : mkAs (n + 1) = mkAs n ++ [mkA n] := by simp [mkAs, List.range_succ]
theorem mkAs_get (n i : Nat) (h : i < (mkAs n).length) : (mkAs n)[i] = mkA i := by simp [mkAs]

/-- a list of arguments that is lent: at g, with the marks behind its end -/
structure Lg (w : World) (lo g cap : Nat) (l : List AD) : Prop where
  cap1 : l.length + 24 ≤ cap
  cap2 : cap ≤ 9223372036854775807
  lo1 : lo ≤ g
  lt : g < w.heap.size
  arg : ∀ i (h : i < l.length), ∃ g' c, ArgC w g (i * 7) l[i] (.slice (some ⟨g', 0, none⟩) l[i].val.texts.length c) ∧ Ts w (.slice (some ⟨g', 0, none⟩) (l[i].val.texts.length + 24) c) (l[i].val.texts ++ marks 24) ∧ Ts w (.slice (some ⟨g', 0, none⟩) l[i].val.texts.length c) l[i].val.texts ∧ lo ≤ g'
  mks : ∀ j, j < 24 → w.cell? ⟨g, (l.length + j) * 7, none⟩ = some (.string (markS j))
theorem ArgC.keepF {w w' : World} {b o : Nat} {x : AD} {u : Value} {F : List Nat} (h : ArgC w b o x u) (k : Keep F w w') (hn : b ∉ F) : ArgC w' b o x u :=
  ⟨k.cell' h.nm hn, k.cell' h.kind hn, k.cell' h.bool hn, k.cell' h.int hn, k.cell' h.real hn, k.cell' h.text hn, k.cell' h.texts hn⟩
theorem Lg.keep {w w' : World} {lo g cap : Nat} {l : List AD} {F : List Nat} (h : Lg w lo g cap l) (k : Keep F w w') (hF : ∀ x ∈ F, x < lo) : Lg w' lo g cap l := by
  have hg : g ∉ F := fun hx => by have := hF g hx; have := h.lo1; omega
  refine ⟨h.cap1, h.cap2, h.lo1, Nat.lt_of_lt_of_le h.lt k.size, fun i hi => ?_, fun j hj => k.cell' (h.mks j hj) hg⟩
  obtain ⟨g', c, h1, h2, h3, h4⟩ := h.arg i hi
  have hg' : g' ∉ F := fun hx => by have := hF g' hx; omega
  exact ⟨g', c, h1.keepF k hg, h2.keep k (fun q hq => by simp [Value.ownBlock] at hq; subst hq; exact hg'), h3.keep k (fun q hq => by simp [Value.ownBlock] at hq; subst hq; exact hg'), h4⟩
theorem Lg.as {w : World} {lo g cap : Nat} {l : List AD} (h : Lg w lo g cap l) (hok : ∀ x ∈ l, x.val.Ok) : As w (.slice (some ⟨g, 0, none⟩) l.length cap) l := by
  refine ⟨hok, some ⟨g, 0, none⟩, cap, rfl, by have := h.cap1; omega, h.cap2, fun _ => ⟨g, 0, rfl, fun i hi => ?_⟩⟩
  obtain ⟨g', c, h1, h2, h3, h4⟩ := h.arg i hi
  exact ⟨_, by rw [Nat.zero_add]; exact h1, h3⟩
theorem Lg.later {w : World} {lo lo' g cap : Nat} {l : List AD} (h : Lg w lo g cap l) (hl : lo' ≤ lo) : Lg w lo' g cap l :=
  ⟨h.cap1, h.cap2, Nat.le_trans hl h.lo1, h.lt, fun i hi => by obtain ⟨g', c, h1, h2, h3, h4⟩ := h.arg i hi; exact ⟨g', c, h1, h2, h3, Nat.le_trans hl h4⟩, h.mks⟩
/-- a row with the marks behind is lent -/
theorem Lg.ofRow {w : World} {lo g cap : Nat} {ps : List (AD × Value)} {z : Value} (h : RowP w z (ps ++ mkAs 24)) (hz : z = .slice (some ⟨g, 0, none⟩) (ps.length + 24) cap) (hlo : lo ≤ g) (hu : ∀ p ∈ ps, UL w lo z p) : Lg w lo g cap (ps.map (·.1)) := by
  subst hz
  rcases RowC.cases h with ⟨_, _, h3⟩ | ⟨g', cap', he, h1, h2, h3, hc, _⟩
  · simp at h3
  · simp only [Value.slice.injEq, Option.some.injEq, Addr.mk.injEq] at he
    obtain ⟨⟨rfl, _, _⟩, hn, rfl⟩ := he
    rw [List.length_append, mkAs_len] at h1 hc
    have cell : ∀ i (hi : i < (ps ++ mkAs 24).length) c, c < 7 → w.cell? ⟨g, i * 7 + c, none⟩ = (cells7 (ps ++ mkAs 24)[i])[c]? := fun i hi c hcc => by
      rw [List.length_append, mkAs_len] at hi
      rw [hc (i * 7 + c) (by omega), flat7_get _ i c (by rw [List.length_append, mkAs_len]; exact hi) hcc]
    refine ⟨by simpa using h1, h2, hlo, h3, fun i hi => ?_, fun j hj => ?_⟩
    · have hi' : i < ps.length := by simpa using hi
      have he : (ps ++ mkAs 24)[i]'(by rw [List.length_append]; omega) = ps[i] := List.getElem_append_left hi'
      obtain ⟨g', c, e, t1, t2, t3, t4, t5⟩ := hu ps[i] (List.getElem_mem hi')
      have hx : (ps.map (·.1))[i] = ps[i].1 := by simp
      rw [hx]
      have cc : ∀ k, k < 7 → w.cell? ⟨g, i * 7 + k, none⟩ = (cells7 ps[i])[k]? := fun k hk => by
        have := cell i (by rw [List.length_append]; omega) k hk
        rwa [he] at this
      refine ⟨g', c, ⟨by simpa using cc 0 (by omega), by simpa using cc 1 (by omega), by simpa using cc 2 (by omega), by simpa using cc 3 (by omega), by simpa using cc 4 (by omega), by simpa using cc 5 (by omega), by simpa [e] using cc 6 (by omega)⟩, t1, t2, t3⟩
    · have he : (ps ++ mkAs 24)[ps.length + j]'(by rw [List.length_append, mkAs_len]; omega) = mkA j := by
        rw [List.getElem_append_right (by omega)]
        simp [mkAs]
      have := cell (ps.length + j) (by rw [List.length_append, mkAs_len]; omega) 0 (by omega)
      rw [he] at this
      simpa [mkA] using this
end Go.Proofs.YtncbanpimfhhbaaGreatDoor



/- LentArg and KeptArg. -/
namespace Go.Proofs.YtncbanpimfhhbaaGreatDoor
open Go.RowKit Go.PlainAid

theorem set_7 {w : World} {b : Nat} {v0 v1 v2 v3 v4 v5 v6 u0 u1 u2 u3 u4 u5 u6 : Value} (d0 : w.cell? ⟨b, 0, none⟩ = some u0) (d1 : w.cell? ⟨b, 1, none⟩ = some u1) (d2 : w.cell? ⟨b, 2, none⟩ = some u2) (d3 : w.cell? ⟨b, 3, none⟩ = some u3) (d4 : w.cell? ⟨b, 4, none⟩ = some u4) (d5 : w.cell? ⟨b, 5, none⟩ = some u5) (d6 : w.cell? ⟨b, 6, none⟩ = some u6) :
    (((((((w.setCell ⟨b, 0, none⟩ v0).setCell ⟨b, 1, none⟩ v1).setCell ⟨b, 2, none⟩ v2).setCell ⟨b, 3, none⟩ v3).setCell ⟨b, 4, none⟩ v4).setCell ⟨b, 5, none⟩ v5).setCell ⟨b, 6, none⟩ v6).cell? ⟨b, 0, none⟩ = some v0 ∧
    (((((((w.setCell ⟨b, 0, none⟩ v0).setCell ⟨b, 1, none⟩ v1).setCell ⟨b, 2, none⟩ v2).setCell ⟨b, 3, none⟩ v3).setCell ⟨b, 4, none⟩ v4).setCell ⟨b, 5, none⟩ v5).setCell ⟨b, 6, none⟩ v6).cell? ⟨b, 1, none⟩ = some v1 ∧
    (((((((w.setCell ⟨b, 0, none⟩ v0).setCell ⟨b, 1, none⟩ v1).setCell ⟨b, 2, none⟩ v2).setCell ⟨b, 3, none⟩ v3).setCell ⟨b, 4, none⟩ v4).setCell ⟨b, 5, none⟩ v5).setCell ⟨b, 6, none⟩ v6).cell? ⟨b, 2, none⟩ = some v2 ∧
    (((((((w.setCell ⟨b, 0, none⟩ v0).setCell ⟨b, 1, none⟩ v1).setCell ⟨b, 2, none⟩ v2).setCell ⟨b, 3, none⟩ v3).setCell ⟨b, 4, none⟩ v4).setCell ⟨b, 5, none⟩ v5).setCell ⟨b, 6, none⟩ v6).cell? ⟨b, 3, none⟩ = some v3 ∧
    (((((((w.setCell ⟨b, 0, none⟩ v0).setCell ⟨b, 1, none⟩ v1).setCell ⟨b, 2, none⟩ v2).setCell ⟨b, 3, none⟩ v3).setCell ⟨b, 4, none⟩ v4).setCell ⟨b, 5, none⟩ v5).setCell ⟨b, 6, none⟩ v6).cell? ⟨b, 4, none⟩ = some v4 ∧
    (((((((w.setCell ⟨b, 0, none⟩ v0).setCell ⟨b, 1, none⟩ v1).setCell ⟨b, 2, none⟩ v2).setCell ⟨b, 3, none⟩ v3).setCell ⟨b, 4, none⟩ v4).setCell ⟨b, 5, none⟩ v5).setCell ⟨b, 6, none⟩ v6).cell? ⟨b, 5, none⟩ = some v5 ∧
    (((((((w.setCell ⟨b, 0, none⟩ v0).setCell ⟨b, 1, none⟩ v1).setCell ⟨b, 2, none⟩ v2).setCell ⟨b, 3, none⟩ v3).setCell ⟨b, 4, none⟩ v4).setCell ⟨b, 5, none⟩ v5).setCell ⟨b, 6, none⟩ v6).cell? ⟨b, 6, none⟩ = some v6 := by
  refine ⟨?_, ?_, ?_, ?_, ?_, ?_, ?_⟩
  · rw [World.cell?_setCell_other _ _ _ _ (by simp), World.cell?_setCell_other _ _ _ _ (by simp), World.cell?_setCell_other _ _ _ _ (by simp), World.cell?_setCell_other _ _ _ _ (by simp), World.cell?_setCell_other _ _ _ _ (by simp), World.cell?_setCell_other _ _ _ _ (by simp)]; exact World.cell?_setCell_same _ _ _ (by exact d0)
  · rw [World.cell?_setCell_other _ _ _ _ (by simp), World.cell?_setCell_other _ _ _ _ (by simp), World.cell?_setCell_other _ _ _ _ (by simp), World.cell?_setCell_other _ _ _ _ (by simp), World.cell?_setCell_other _ _ _ _ (by simp)]; exact World.cell?_setCell_same _ _ _ (by rw [World.cell?_setCell_other _ _ _ _ (by simp)]; exact d1)
  · rw [World.cell?_setCell_other _ _ _ _ (by simp), World.cell?_setCell_other _ _ _ _ (by simp), World.cell?_setCell_other _ _ _ _ (by simp), World.cell?_setCell_other _ _ _ _ (by simp)]; exact World.cell?_setCell_same _ _ _ (by rw [World.cell?_setCell_other _ _ _ _ (by simp), World.cell?_setCell_other _ _ _ _ (by simp)]; exact d2)
  · rw [World.cell?_setCell_other _ _ _ _ (by simp), World.cell?_setCell_other _ _ _ _ (by simp), World.cell?_setCell_other _ _ _ _ (by simp)]; exact World.cell?_setCell_same _ _ _ (by rw [World.cell?_setCell_other _ _ _ _ (by simp), World.cell?_setCell_other _ _ _ _ (by simp), World.cell?_setCell_other _ _ _ _ (by simp)]; exact d3)
  · rw [World.cell?_setCell_other _ _ _ _ (by simp), World.cell?_setCell_other _ _ _ _ (by simp)]; exact World.cell?_setCell_same _ _ _ (by rw [World.cell?_setCell_other _ _ _ _ (by simp), World.cell?_setCell_other _ _ _ _ (by simp), World.cell?_setCell_other _ _ _ _ (by simp), World.cell?_setCell_other _ _ _ _ (by simp)]; exact d4)
  · rw [World.cell?_setCell_other _ _ _ _ (by simp)]; exact World.cell?_setCell_same _ _ _ (by rw [World.cell?_setCell_other _ _ _ _ (by simp), World.cell?_setCell_other _ _ _ _ (by simp), World.cell?_setCell_other _ _ _ _ (by simp), World.cell?_setCell_other _ _ _ _ (by simp), World.cell?_setCell_other _ _ _ _ (by simp)]; exact d5)
  · exact World.cell?_setCell_same _ _ _ (by rw [World.cell?_setCell_other _ _ _ _ (by simp), World.cell?_setCell_other _ _ _ _ (by simp), World.cell?_setCell_other _ _ _ _ (by simp), World.cell?_setCell_other _ _ _ _ (by simp), World.cell?_setCell_other _ _ _ _ (by simp), World.cell?_setCell_other _ _ _ _ (by simp)]; exact d6)
theorem two_cells7 {w w' : World} {a0 a1 a2 a3 a4 a5 a6 z0 z1 z2 z3 z4 z5 z6 : Value} (k : Keep [] ((w.alloc (.cells #[a0, a1, a2, a3, a4, a5, a6] 33)).alloc (.cells #[z0, z1, z2, z3, z4, z5, z6] 33)) w') :
    (w'.cell? ⟨w.heap.size, 0, none⟩ = some a0 ∧ w'.cell? ⟨w.heap.size, 1, none⟩ = some a1 ∧ w'.cell? ⟨w.heap.size, 2, none⟩ = some a2 ∧ w'.cell? ⟨w.heap.size, 3, none⟩ = some a3 ∧ w'.cell? ⟨w.heap.size, 4, none⟩ = some a4 ∧ w'.cell? ⟨w.heap.size, 5, none⟩ = some a5 ∧ w'.cell? ⟨w.heap.size, 6, none⟩ = some a6) ∧ (w'.cell? ⟨w.heap.size + 1, 0, none⟩ = some z0 ∧ w'.cell? ⟨w.heap.size + 1, 1, none⟩ = some z1 ∧ w'.cell? ⟨w.heap.size + 1, 2, none⟩ = some z2 ∧ w'.cell? ⟨w.heap.size + 1, 3, none⟩ = some z3 ∧ w'.cell? ⟨w.heap.size + 1, 4, none⟩ = some z4 ∧ w'.cell? ⟨w.heap.size + 1, 5, none⟩ = some z5 ∧ w'.cell? ⟨w.heap.size + 1, 6, none⟩ = some z6) := by
  refine ⟨⟨k.cell' ?_ (by simp), k.cell' ?_ (by simp), k.cell' ?_ (by simp), k.cell' ?_ (by simp), k.cell' ?_ (by simp), k.cell' ?_ (by simp), k.cell' ?_ (by simp)⟩, ⟨k.cell' ?_ (by simp), k.cell' ?_ (by simp), k.cell' ?_ (by simp), k.cell' ?_ (by simp), k.cell' ?_ (by simp), k.cell' ?_ (by simp), k.cell' ?_ (by simp)⟩⟩ <;> simp [go_sem]
end Go.Proofs.YtncbanpimfhhbaaGreatDoor



/- LentArgs: a list of arguments of one's own, with marks behind its end. -/
namespace Go.Proofs.YtncbanpimfhhbaaGreatDoor
open Go.RowKit Go.PlainAid

theorem As.keep0 {w w' : World} {v : Value} {l : List AD} (h : As w v l) (k : Keep [] w w') : As w' v l := by
  obtain ⟨ao, cap, rfl, h1, h2, h3⟩ := h.ex
  refine ⟨h.ok, ao, cap, rfl, h1, h2, fun hl => ?_⟩
  obtain ⟨b, o, rfl, hc⟩ := h3 hl
  exact ⟨b, o, rfl, fun i hi => by obtain ⟨u, q1, q2⟩ := hc i hi; exact ⟨u, q1.keep k, q2.keep k (Off.nil _)⟩⟩
theorem As.at {w : World} {v : Value} {l : List AD} (h : As w v l) (k : Nat) (hk : k < l.length) : ∃ b o cap u, v = .slice (some ⟨b, o, none⟩) l.length cap ∧ l.length ≤ cap ∧ cap ≤ 9223372036854775807 ∧ ArgC w b (o + k * 7) l[k] u ∧ Ts w u l[k].val.texts := by
  obtain ⟨ao, cap, rfl, h1, h2, h4⟩ := h.ex
  obtain ⟨b, o, rfl, hc⟩ := h4 (by intro e; rw [e] at hk; simp at hk)
  obtain ⟨u, q1, q2⟩ := hc k hk
  exact ⟨b, o, cap, u, rfl, h1, h2, q1, q2⟩

/-- what holds while the arguments are copied -/
structure LiP (w wr : World) (z : Value) (ps : List (AD × Value)) (q : List (AD × Value)) : Prop where
  row : RowP wr z (ps ++ q)
  kp : Keep [] w wr
  own : ∀ x, z.ownBlock = some x → w.heap.size ≤ x
  ul : ∀ p ∈ ps, UL wr w.heap.size z p
theorem LiP.start (w : World) : LiP w w (.slice none 0 0) [] [] := ⟨World.ownsRow_nil _ 0 33 7, Keep.refl _ _, fun x hx => by simp [Value.ownBlock] at hx, fun p hp => by cases hp⟩
theorem LiP.keep {w wr w' : World} {z : Value} {ps q : List (AD × Value)} (h : LiP w wr z ps q) (k : Keep [] wr w') : LiP w w' z ps q :=
  ⟨RowC.keep h.row k (Off.nil _), h.kp.trans' k, h.own, fun p hp => (h.ul p hp).keep k (fun x hx => by cases hx) (fun x hx => .inl hx)⟩
theorem flat_snoc (ps : List (AD × Value)) (p : AD × Value) : (ps ++ [p]).flatMap cells7 = ps.flatMap cells7 ++ cells7 p := by simp
/-- behind an append: a copied argument -/
theorem LiP.more {w w1 w9 : World} {z z9 : Value} {ps : List (AD × Value)} {p : AD × Value} (h : LiP w w1 z ps []) (hp : UL w1 w.heap.size z p) (R9 : RowC w9 33 7 z9 (ps.length + 1) (ps.flatMap cells7 ++ cells7 p)) (K9 : Keep z.ownBlock.toList w1 w9) (F9 : z9.ownBlock = z.ownBlock ∨ Fresh w1 w9 z9) : LiP w w9 z9 (ps ++ [p]) [] := by
  have hz : ∀ x, z9.ownBlock = some x → z.ownBlock = some x ∨ w1.heap.size ≤ x := fun x hx => by
    rcases F9 with e | e
    · exact .inl (by rw [← e]; exact hx)
    · exact .inr (e x hx).1
  have hF : ∀ x ∈ z.ownBlock.toList, (∃ y, z.ownBlock = some y ∧ x = y) ∨ x < w.heap.size ∨ w1.heap.size ≤ x := fun x hx => .inl ⟨x, by simpa using hx, rfl⟩
  refine ⟨?_, h.kp.more K9 (fun x hx => .inr (h.own x (by simpa using hx))), fun x hx => ?_, fun r hr => ?_⟩
  · rw [List.append_nil]
    unfold RowP
    rw [flat_snoc, List.length_append]
    exact R9
  · have := h.kp.size
    rcases hz x hx with e | e
    · exact h.own x e
    · omega
  · rcases List.mem_append.1 hr with hr | hr
    · exact (h.ul r hr).keep K9 hF hz
    · simp at hr
      subst hr
      exact hp.keep K9 hF hz
/-- behind an append: a mark -/
theorem LiP.mark {w w1 w9 : World} {z z9 : Value} {ps q : List (AD × Value)} {p : AD × Value} (h : LiP w w1 z ps q) (R9 : RowC w9 33 7 z9 ((ps ++ q).length + 1) ((ps ++ q).flatMap cells7 ++ cells7 p)) (K9 : Keep z.ownBlock.toList w1 w9) (F9 : z9.ownBlock = z.ownBlock ∨ Fresh w1 w9 z9) : LiP w w9 z9 ps (q ++ [p]) := by
  have hz : ∀ x, z9.ownBlock = some x → z.ownBlock = some x ∨ w1.heap.size ≤ x := fun x hx => by
    rcases F9 with e | e
    · exact .inl (by rw [← e]; exact hx)
    · exact .inr (e x hx).1
  have hF : ∀ x ∈ z.ownBlock.toList, (∃ y, z.ownBlock = some y ∧ x = y) ∨ x < w.heap.size ∨ w1.heap.size ≤ x := fun x hx => .inl ⟨x, by simpa using hx, rfl⟩
  refine ⟨?_, h.kp.more K9 (fun x hx => .inr (h.own x (by simpa using hx))), fun x hx => ?_, fun r hr => (h.ul r hr).keep K9 hF hz⟩
  · unfold RowP
    rw [show ps ++ (q ++ [p]) = (ps ++ q) ++ [p] by simp, flat_snoc, List.length_append]
    exact R9
  · have := h.kp.size
    rcases hz x hx with e | e
    · exact h.own x e
    · omega
theorem map_take {ps : List (AD × Value)} {l : List AD} {k : Nat} (h : ps.map (fun p : AD × Value => p.1) = l.take k) (hk : k < l.length) (u : Value) : (ps ++ [(l[k], u)]).map (fun p : AD × Value => p.1) = l.take (k + 1) := by
  rw [List.map_append, h, List.take_succ_eq_append_getElem hk]
  rfl

end Go.Proofs.YtncbanpimfhhbaaGreatDoor



/- Rows of arguments whose texts lie elsewhere. -/
namespace Go.Proofs.YtncbanpimfhhbaaGreatDoor
open Go.RowKit Go.PlainAid

/-- the texts of p lie off the row z (or there are none) -/
def UO (w : World) (z : Value) (p : AD × Value) : Prop := Ts w p.2 p.1.val.texts ∧ (p.1.val.texts = [] ∨ ∀ x, p.2.ownBlock = some x → x < w.heap.size ∧ ∀ y, z.ownBlock = some y → x ≠ y)
theorem Ts.empty {w w' : World} {v : Value} (h : Ts w v []) : Ts w' v [] := by
  obtain ⟨ao, cap, rfl, h1, h2, h3, _⟩ := h.ex
  exact ⟨ao, cap, rfl, h1, h2, h3, fun h => absurd rfl h⟩
theorem UO.keep {w w' : World} {z z' : Value} {p : AD × Value} {F : List Nat} (h : UO w z p) (k : Keep F w w') (hF : ∀ x ∈ F, (∃ y, z.ownBlock = some y ∧ x = y) ∨ w.heap.size ≤ x) (hz : ∀ x, z'.ownBlock = some x → z.ownBlock = some x ∨ w.heap.size ≤ x) : UO w' z' p := by
  obtain ⟨h1, h2⟩ := h
  rcases h2 with h2 | h2
  · refine ⟨?_, .inl h2⟩
    rw [h2] at h1 ⊢
    exact h1.empty
  · refine ⟨h1.keep k (fun q hq hx => ?_), .inr (fun x hx => ⟨Nat.lt_of_lt_of_le (h2 x hx).1 k.size, fun y hy e => ?_⟩)⟩
    · obtain ⟨a, b⟩ := h2 q hq
      rcases hF q hx with ⟨y, e1, e2⟩ | e1
      · exact b y e1 e2
      · omega
    · obtain ⟨a, b⟩ := h2 x hx
      rcases hz y hy with e2 | e2
      · exact b y e2 e
      · omega
/-- texts of the old world -/
theorem UO.old {w wr : World} {z u : Value} {x : AD} (h : Ts w u x.val.texts) (k : Keep [] w wr) (hz : ∀ y, z.ownBlock = some y → w.heap.size ≤ y) : UO wr z (x, u) := by
  refine ⟨h.keep k (Off.nil _), ?_⟩
  by_cases hl : x.val.texts = []
  · exact .inl hl
  · refine .inr (fun y hy => ?_)
    obtain ⟨ao, cap, rfl, h1, h2, h3, h4⟩ := h.ex
    obtain ⟨b, o, rfl, hc⟩ := h4 hl
    simp [Value.ownBlock] at hy
    subst hy
    have hlt := World.block_lt_of_cell? _ _ (hc 0 (List.length_pos_iff.2 hl))
    simp only at hlt
    exact ⟨Nat.lt_of_lt_of_le hlt k.size, fun q hq e => by have := hz q hq; omega⟩

/-- what holds while a row is put together -/
structure LiQ (w wr : World) (z : Value) (ps : List (AD × Value)) : Prop where
  row : RowP wr z ps
  kp : Keep [] w wr
  own : ∀ x, z.ownBlock = some x → w.heap.size ≤ x
  ul : ∀ p ∈ ps, UO wr z p
  ok : ∀ p ∈ ps, p.1.val.Ok
theorem LiQ.start (w : World) : LiQ w w (.slice none 0 0) [] := ⟨World.ownsRow_nil _ 0 33 7, Keep.refl _ _, fun x hx => by simp [Value.ownBlock] at hx, fun p hp => (by cases hp), fun p hp => (by cases hp)⟩
theorem LiQ.keep {w wr w' : World} {z : Value} {ps : List (AD × Value)} (h : LiQ w wr z ps) (k : Keep [] wr w') : LiQ w w' z ps :=
  ⟨RowC.keep h.row k (Off.nil _), h.kp.trans' k, h.own, fun p hp => (h.ul p hp).keep k (fun x hx => by cases hx) (fun x hx => .inl hx), h.ok⟩
theorem LiQ.more {w w1 w9 : World} {z z9 : Value} {ps : List (AD × Value)} {p : AD × Value} (h : LiQ w w1 z ps) (hp : UO w1 z p) (hok : p.1.val.Ok) (R9 : RowC w9 33 7 z9 (ps.length + 1) (ps.flatMap cells7 ++ cells7 p)) (K9 : Keep z.ownBlock.toList w1 w9) (F9 : z9.ownBlock = z.ownBlock ∨ Fresh w1 w9 z9) : LiQ w w9 z9 (ps ++ [p]) := by
  have hz : ∀ x, z9.ownBlock = some x → z.ownBlock = some x ∨ w1.heap.size ≤ x := fun x hx => by
    rcases F9 with e | e
    · exact .inl (by rw [← e]; exact hx)
    · exact .inr (e x hx).1
  have hF : ∀ x ∈ z.ownBlock.toList, (∃ y, z.ownBlock = some y ∧ x = y) ∨ w1.heap.size ≤ x := fun x hx => .inl ⟨x, by simpa using hx, rfl⟩
  refine ⟨?_, h.kp.more K9 (fun x hx => .inr (h.own x (by simpa using hx))), fun x hx => ?_, fun r hr => ?_, fun r hr => ?_⟩
  · unfold RowP
    rw [flat_snoc, List.length_append]
    exact R9
  · have := h.kp.size
    rcases hz x hx with e | e
    · exact h.own x e
    · omega
  · rcases List.mem_append.1 hr with hr | hr
    · exact (h.ul r hr).keep K9 hF hz
    · simp at hr
      subst hr
      exact hp.keep K9 hF hz
  · rcases List.mem_append.1 hr with hr | hr
    · exact h.ok r hr
    · simp at hr
      subst hr
      exact hok
/-- a row reads as its arguments -/
theorem LiQ.as {w wr : World} {z : Value} {ps : List (AD × Value)} (h : LiQ w wr z ps) : As wr z (ps.map fun p => p.1) := by
  rcases RowC.cases h.row with ⟨h1, h2, rfl⟩ | ⟨g, cap, rfl, h1, h2, h3, hc, _⟩
  · have hps : ps = [] := List.eq_nil_of_length_eq_zero h1
    subst hps
    exact ⟨by simp, none, 0, rfl, by simp, by omega, fun h => absurd rfl h⟩
  · refine ⟨fun x hx => ?_, some ⟨g, 0, none⟩, cap, by simp, by simpa using h1, h2, fun _ => ⟨g, 0, rfl, fun i hi => ?_⟩⟩
    · obtain ⟨p, hp, rfl⟩ := List.mem_map.1 hx
      exact h.ok p hp
    · have hi' : i < ps.length := by simpa using hi
      have hx : (ps.map fun p => p.1)[i] = ps[i].1 := by simp
      rw [hx, Nat.zero_add]
      have cc : ∀ k, k < 7 → wr.cell? ⟨g, i * 7 + k, none⟩ = (cells7 ps[i])[k]? := fun k hk => by
        rw [hc (i * 7 + k) (by omega), flat7_get _ i k hi' hk]
      exact ⟨ps[i].2, ⟨by simpa using cc 0 (by omega), by simpa using cc 1 (by omega), by simpa using cc 2 (by omega), by simpa using cc 3 (by omega), by simpa using cc 4 (by omega), by simpa using cc 5 (by omega), by simpa using cc 6 (by omega)⟩, (h.ul ps[i] (List.getElem_mem hi')).1⟩
end Go.Proofs.YtncbanpimfhhbaaGreatDoor


/- Arguments laid one over the other: the plain lists. -/
namespace Go.Proofs.YtncbanpimfhhbaaGreatDoor
open Go.RowKit Go.PlainAid

def ltA (x y : AD) : Prop := cmpT x.nm.toList y.nm.toList = -1
instance (x y : AD) : Decidable (ltA x y) := by unfold ltA; infer_instance
theorem ltA.trans {x y z : AD} (h : ltA x y) (h2 : ltA y z) : ltA x z := ord_cmpT.trans _ _ _ h h2
theorem ltA.irr (x : AD) : ¬ ltA x x := fun h => by
  have := (ord_cmpT.same x.nm.toList x.nm.toList).2 rfl
  unfold ltA at h
  omega
theorem ltA.asym {x y : AD} (h : ltA x y) : ¬ ltA y x := fun h2 => ltA.irr x (h.trans h2)
theorem ltA.ne {x y : AD} (h : ltA x y) : x.nm ≠ y.nm := fun e => by
  have := (ord_cmpT.same x.nm.toList y.nm.toList).2 (by rw [e])
  unfold ltA at h
  omega
theorem ltA.tri {x y : AD} (h : ¬ ltA x y) (hn : x.nm ≠ y.nm) : ltA y x := by
  have h0 : cmpT x.nm.toList y.nm.toList ≠ 0 := fun e => hn (toList_inj ((ord_cmpT.same _ _).1 e))
  have h1 := ord_cmpT.range x.nm.toList y.nm.toList
  have h2 := ord_cmpT.anti x.nm.toList y.nm.toList
  unfold ltA at *
  omega

def dropEq (o : AD) : List AD → List AD
  | [] => []
  | x :: l => if x.nm = o.nm then l else x :: l
def laidL : List AD → List AD → List AD
  | [], c => c
  | o :: os, c => c.takeWhile (fun x => decide (ltA x o)) ++ o :: laidL os (dropEq o (c.dropWhile (fun x => decide (ltA x o))))
theorem laid_low {o c : AD} {os cs : List AD} (h : ltA c o) : laidL (o :: os) (c :: cs) = c :: laidL (o :: os) cs := by
  simp [laidL, h]
theorem laid_eq {o c : AD} {os cs : List AD} (h : c.nm = o.nm) : laidL (o :: os) (c :: cs) = o :: laidL os cs := by
  have hn : ¬ ltA c o := fun h2 => h2.ne h
  simp [laidL, hn, dropEq, h]
theorem laid_high {o c : AD} {os cs : List AD} (h : ¬ ltA c o) (h2 : c.nm ≠ o.nm) : laidL (o :: os) (c :: cs) = o :: laidL os (c :: cs) := by
  simp [laidL, h, dropEq, h2]
theorem laid_none {o : AD} {os : List AD} : laidL (o :: os) [] = o :: laidL os [] := by simp [laidL, dropEq]

theorem laid_all : ∀ (os c : List AD), os.Pairwise ltA → c.Pairwise ltA → (laidL os c).Pairwise ltA ∧ ∀ x, x ∈ laidL os c ↔ x ∈ os ∨ (x ∈ c ∧ ∀ o ∈ os, x.nm ≠ o.nm)
  | [], c, _, hc => ⟨hc, fun x => by simp [laidL]⟩
  | o :: os, c, ho, hc => by
    induction c with
    | nil =>
      obtain ⟨h1, h2⟩ := laid_all os [] (List.pairwise_cons.1 ho).2 List.Pairwise.nil
      rw [laid_none]
      refine ⟨List.pairwise_cons.2 ⟨fun y hy => ?_, h1⟩, fun x => ?_⟩
      · rcases (h2 y).1 hy with h | h
        · exact (List.pairwise_cons.1 ho).1 y h
        · simp at h
      · rw [List.mem_cons, h2 x]
        simp
    | cons c cs ih =>
      obtain ⟨hc1, hc2⟩ := List.pairwise_cons.1 hc
      obtain ⟨ho1, ho2⟩ := List.pairwise_cons.1 ho
      by_cases hlt : ltA c o
      · obtain ⟨h1, h2⟩ := ih hc2
        rw [laid_low hlt]
        refine ⟨List.pairwise_cons.2 ⟨fun y hy => ?_, h1⟩, fun x => ?_⟩
        · rcases (h2 y).1 hy with h | h
          · rcases List.mem_cons.1 h with rfl | h
            · exact hlt
            · exact hlt.trans (ho1 y h)
          · exact hc1 y h.1
        · rw [List.mem_cons, h2 x]
          constructor
          · rintro (rfl | h | h)
            · exact .inr ⟨List.mem_cons_self .., fun q hq => by
                rcases List.mem_cons.1 hq with rfl | hq
                · exact hlt.ne
                · exact (hlt.trans (ho1 q hq)).ne⟩
            · exact .inl h
            · exact .inr ⟨List.mem_cons_of_mem _ h.1, h.2⟩
          · rintro (h | ⟨h, h3⟩)
            · exact .inr (.inl h)
            · rcases List.mem_cons.1 h with rfl | h
              · exact .inl rfl
              · exact .inr (.inr ⟨h, h3⟩)
      · by_cases heq : c.nm = o.nm
        · obtain ⟨h1, h2⟩ := laid_all os cs ho2 hc2
          rw [laid_eq heq]
          have hcs : ∀ y ∈ cs, ltA o y := fun y hy => by
            have := hc1 y hy
            unfold ltA at this ⊢
            rwa [heq] at this
          refine ⟨List.pairwise_cons.2 ⟨fun y hy => ?_, h1⟩, fun x => ?_⟩
          · rcases (h2 y).1 hy with h | h
            · exact ho1 y h
            · exact hcs y h.1
          · rw [List.mem_cons, h2 x]
            constructor
            · rintro (rfl | h | h)
              · exact .inl (List.mem_cons_self ..)
              · exact .inl (List.mem_cons_of_mem _ h)
              · exact .inr ⟨List.mem_cons_of_mem _ h.1, fun q hq => by
                  rcases List.mem_cons.1 hq with rfl | hq
                  · exact (hcs x h.1).ne.symm
                  · exact h.2 q hq⟩
            · rintro (h | ⟨h, h3⟩)
              · rcases List.mem_cons.1 h with rfl | h
                · exact .inl rfl
                · exact .inr (.inl h)
              · rcases List.mem_cons.1 h with rfl | h
                · exact absurd heq (h3 o (List.mem_cons_self ..))
                · exact .inr (.inr ⟨h, fun q hq => h3 q (List.mem_cons_of_mem _ hq)⟩)
        · obtain ⟨h1, h2⟩ := laid_all os (c :: cs) ho2 hc
          rw [laid_high hlt heq]
          have hoc : ltA o c := ltA.tri hlt heq
          have hcs : ∀ y ∈ c :: cs, ltA o y := fun y hy => by
            rcases List.mem_cons.1 hy with rfl | hy
            · exact hoc
            · exact hoc.trans (hc1 y hy)
          refine ⟨List.pairwise_cons.2 ⟨fun y hy => ?_, h1⟩, fun x => ?_⟩
          · rcases (h2 y).1 hy with h | h
            · exact ho1 y h
            · exact hcs y h.1
          · rw [List.mem_cons, h2 x]
            constructor
            · rintro (rfl | h | h)
              · exact .inl (List.mem_cons_self ..)
              · exact .inl (List.mem_cons_of_mem _ h)
              · exact .inr ⟨h.1, fun q hq => by
                  rcases List.mem_cons.1 hq with rfl | hq
                  · exact (hcs x h.1).ne.symm
                  · exact h.2 q hq⟩
            · rintro (h | ⟨h, h3⟩)
              · rcases List.mem_cons.1 h with rfl | h
                · exact .inl rfl
                · exact .inr (.inl h)
              · exact .inr (.inr ⟨h, fun q hq => h3 q (List.mem_cons_of_mem _ hq)⟩)
  termination_by os => os.length

/-- two rising lists of the same members are one -/
theorem rise_one : ∀ (a b : List AD), a.Pairwise ltA → b.Pairwise ltA → (∀ x, x ∈ a ↔ x ∈ b) → a = b
  | [], [], _, _, _ => rfl
  | [], y :: b, _, _, h => by have := (h y).2 (List.mem_cons_self ..); simp at this
  | x :: a, [], _, _, h => by have := (h x).1 (List.mem_cons_self ..); simp at this
  | x :: a, y :: b, ha, hb, h => by
    obtain ⟨ha1, ha2⟩ := List.pairwise_cons.1 ha
    obtain ⟨hb1, hb2⟩ := List.pairwise_cons.1 hb
    have hxy : x = y := by
      rcases List.mem_cons.1 ((h x).1 (List.mem_cons_self ..)) with e | e
      · exact e
      · rcases List.mem_cons.1 ((h y).2 (List.mem_cons_self ..)) with f | f
        · exact f.symm
        · exact absurd (hb1 x e) (ha1 y f).asym
    subst hxy
    rw [rise_one a b ha2 hb2 (fun z => ?_)]
    constructor
    · intro hz
      rcases List.mem_cons.1 ((h z).1 (List.mem_cons_of_mem _ hz)) with e | e
      · subst e; exact absurd (ha1 z hz) (ltA.irr z)
      · exact e
    · intro hz
      rcases List.mem_cons.1 ((h z).2 (List.mem_cons_of_mem _ hz)) with e | e
      · subst e; exact absurd (hb1 z hz) (ltA.irr z)
      · exact e
/-- rising names, one by one -/
theorem Rises.pair {l : List AD} (h : Rises l) : l.Pairwise ltA := by
  have step : ∀ (k i : Nat) (hi : i + k + 1 < l.length), ltA (l[i]'(by omega)) (l[i + k + 1]'hi) := by
    intro k
    induction k with
    | zero => intro i hi; exact cmpT_neg ((h (i + 1) hi).2.2 i rfl)
    | succ k ih => intro i hi; exact (ih i (by omega)).trans (cmpT_neg ((h (i + k + 1 + 1) hi).2.2 (i + k + 1) rfl))
  rw [List.pairwise_iff_getElem]
  intro i j hi hj hij
  obtain ⟨k, rfl⟩ : ∃ k, j = i + k + 1 := ⟨j - i - 1, by omega⟩
  exact step k i hj
end Go.Proofs.YtncbanpimfhhbaaGreatDoor

