/- Other numbers for the nodes: mathematics; Strata and Reach in the words of StrataRenamed. -/
import Derived.Test.YtmlpkjeaieljfabOa
import Derived.Test.YtmlpkjeaieljfabAg
namespace Go.Proofs.Ytmlpkjeaieljfab
open Go.RowKit Go.PlainAid

/-- the arcs with other numbers -/
structure Ren (A B : List Ar) (n : Nat) (nm : Nat → Nat) : Prop where
  lt : ∀ x, x < n → nm x < n
  back : ∀ x, x < n → nm (nm x) = x
  fwd : ∀ a ∈ A, (⟨nm a.f, nm a.t, a.g⟩ : Ar) ∈ B
  rev : ∀ b ∈ B, (⟨nm b.f, nm b.t, b.g⟩ : Ar) ∈ A
  na : ∀ a ∈ A, a.f < n ∧ a.t < n
  nb : ∀ a ∈ B, a.f < n ∧ a.t < n
theorem Ren.symm {A B : List Ar} {n : Nat} {nm : Nat → Nat} (h : Ren A B n nm) : Ren B A n nm := ⟨h.lt, h.back, h.rev, h.fwd, h.nb, h.na⟩
theorem Ren.rch {A B : List Ar} {n : Nat} {nm : Nat → Nat} (h : Ren A B n nm) {x y : Nat} (hr : Rch (Ec A) x y) : Rch (Ec B) (nm x) (nm y) := by
  induction hr with
  | refl => exact .refl
  | tail _ e ih =>
    obtain ⟨a, ha, rfl, rfl⟩ := e
    exact ih.tail ⟨_, h.fwd a ha, rfl, rfl⟩
theorem Ren.rch_iff {A B : List Ar} {n : Nat} {nm : Nat → Nat} (h : Ren A B n nm) {x y : Nat} (hx : x < n) (hy : y < n) : Rch (Ec B) (nm x) (nm y) ↔ Rch (Ec A) x y := by
  refine ⟨fun hr => ?_, h.rch⟩
  have := h.symm.rch hr
  rwa [h.back x hx, h.back y hy] at this
theorem Ren.mut_iff {A B : List Ar} {n : Nat} {nm : Nat → Nat} (h : Ren A B n nm) {x y : Nat} (hx : x < n) (hy : y < n) : Mut (Ec B) (nm x) (nm y) ↔ Mut (Ec A) x y := by
  unfold Mut
  rw [h.rch_iff hx hy, h.rch_iff hy hx]
theorem Ren.parts {A B : List Ar} {n : Nat} {nm : Nat → Nat} (h : Ren A B n nm) {p q : List Nat} (hp : Numbered (Ec A) n (fun x => p.getD x 0)) (hq : Numbered (Ec B) n (fun x => q.getD x 0)) {x y : Nat} (hx : x < n) (hy : y < n) : p.getD x 0 = p.getD y 0 ↔ q.getD (nm x) 0 = q.getD (nm y) 0 := by
  rw [hp.same x y hx hy, hq.same _ _ (h.lt x hx) (h.lt y hy), h.mut_iff hx hy]
theorem Ren.sol {A B : List Ar} {n : Nat} {nm : Nat → Nat} (h : Ren A B n nm) {t : Nat → Nat} (ht : Sol B t) : Sol A (fun x => t (nm x)) := fun a ha => ht _ (h.fwd a ha)
theorem Ren.least {A B : List Ar} {n : Nat} {nm : Nat → Nat} (h : Ren A B n nm) {s u : Nat → Nat} (hs : Least A n s) (hu : Least B n u) (x : Nat) (hx : x < n) : s x = u (nm x) := by
  refine Nat.le_antisymm (hs.least _ (h.sol hu.sol) x hx) ?_
  have := hu.least _ (h.symm.sol hs.sol) (nm x) (h.lt x hx)
  simp only [h.back x hx] at this
  exact this
theorem Ren.noBad {A B : List Ar} {n : Nat} {nm : Nat → Nat} (h : Ren A B n nm) {p q : List Nat} (hp : Numbered (Ec A) n (fun x => p.getD x 0)) (hq : Numbered (Ec B) n (fun x => q.getD x 0)) (hb : NoBad A (fun x => p.getD x 0)) : NoBad B (fun x => q.getD x 0) := fun b hbm hg e => by
  have hnd := h.nb b hbm
  exact hb _ (h.rev b hbm) hg ((h.symm.parts hq hp hnd.1 hnd.2).1 e)
theorem Ren.len {A B : List Ar} {n : Nat} {nm : Nat → Nat} (h : Ren A B n nm) {R S : List Nat} {a : Nat} (ha : a < n) (hR : ∀ x, x ∈ R ↔ x < n ∧ Rch (Ec A) a x) (hS : ∀ x, x ∈ S ↔ x < n ∧ Rch (Ec B) (nm a) x) (hRn : R.Nodup) (hSn : S.Nodup) : R.length = S.length := by
  have hp : (R.map nm).Perm S := by
    refine (List.perm_ext_iff_of_nodup ?_ hSn).2 (fun y => ?_)
    · rw [List.nodup_iff_pairwise_ne, List.pairwise_map]
      refine hRn.imp_of_mem ?_
      intro x y hx hy hne e
      have h1 := h.back x ((hR x).1 hx).1
      have h2 := h.back y ((hR y).1 hy).1
      exact hne (by rw [← h1, ← h2, e])
    · rw [List.mem_map, hS y]
      constructor
      · rintro ⟨x, hx, rfl⟩
        have := (hR x).1 hx
        exact ⟨h.lt x this.1, (h.rch_iff ha this.1).2 this.2⟩
      · rintro ⟨hy, hr⟩
        refine ⟨nm y, (hR _).2 ⟨h.lt y hy, ?_⟩, h.back y hy⟩
        have := (h.rch_iff ha (h.lt y hy)).1 (by rw [h.back y hy]; exact hr)
        exact this
  rw [← hp.length_eq, List.length_map]

/-- the numbers that the law gives -/
def nmN (n b x : Nat) : Nat := if n - 1 - x + b < n then n - 1 - x + b else n - 1 - x + b - n
theorem nmN_lt {n b x : Nat} (hb : b < n) (hx : x < n) : nmN n b x < n := by unfold nmN; split <;> omega
theorem nmN_back {n b x : Nat} (hb : b < n) (hx : x < n) : nmN n b (nmN n b x) = x := by
  unfold nmN
  by_cases h1 : n - 1 - x + b < n
  · rw [if_pos h1]
    split <;> omega
  · rw [if_neg h1]
    split <;> omega
theorem pick_nm {n b x : Nat} (hb : b < n) (hx : x < n) : pickZ ((n : Int) - 1 - (x : Int) + (b : Int)) (n : Int) = (nmN n b x : Int) := by
  unfold pickZ nmN
  rw [if_neg (by omega)]
  by_cases h1 : n - 1 - x + b < n
  · rw [if_pos h1, Int.emod_eq_of_lt (by omega) (by omega)]
    omega
  · rw [if_neg h1]
    have h2 : (n : Int) - 1 - x + b = (((n - 1 - x + b - n : Nat) : Int)) + (n : Int) := by omega
    rw [h2, Int.add_emod_right, Int.emod_eq_of_lt (by omega) (by omega)]
/-- the arcs with other numbers, the last first, each twice -/
def twiceL (nm : Nat → Nat) (l : List Ar) : List Ar := l.flatMap fun a => [⟨nm a.f, nm a.t, a.g⟩, ⟨nm a.f, nm a.t, a.g⟩]
theorem mem_twice {nm : Nat → Nat} {l : List Ar} {b : Ar} : b ∈ twiceL nm l ↔ ∃ a ∈ l, b = ⟨nm a.f, nm a.t, a.g⟩ := by
  unfold twiceL
  rw [List.mem_flatMap]
  constructor
  · rintro ⟨a, ha, hb⟩
    simp at hb
    exact ⟨a, ha, hb⟩
  · rintro ⟨a, ha, rfl⟩
    exact ⟨a, ha, by simp⟩
theorem ren_twice {A : List Ar} {n b : Nat} (hb : b < n) (hn : ∀ a ∈ A, a.f < n ∧ a.t < n) : Ren A (twiceL (nmN n b) A.reverse) n (nmN n b) := by
  refine ⟨fun x hx => nmN_lt hb hx, fun x hx => nmN_back hb hx, fun a ha => mem_twice.2 ⟨a, by simpa using ha, rfl⟩, fun c hc => ?_, hn, fun c hc => ?_⟩
  · obtain ⟨a, ha, rfl⟩ := mem_twice.1 hc
    have ha' : a ∈ A := by simpa using ha
    have hnd := hn a ha'
    simp only [nmN_back hb hnd.1, nmN_back hb hnd.2]
    exact ha'
  · obtain ⟨a, ha, rfl⟩ := mem_twice.1 hc
    have hnd := hn a (by simpa using ha)
    exact ⟨nmN_lt hb hnd.1, nmN_lt hb hnd.2⟩

/-- Strata's answer, by the numbers -/
def StP (w w' : World) (n : Nat) (A : List Ar) (p : List Nat) (e : Ending) : Prop := (NoBad A (fun x => p.getD x 0) ∧ ∃ g s, e = .returned (.tuple #[.slice (some ⟨g, 0, none⟩) n n, .int .i64 0]) ∧ Arr 3 eN w' g n s ∧ Least A n (fun x => s.getD x 0) ∧ Keep [] w w') ∨ (¬ NoBad A (fun x => p.getD x 0) ∧ e = .returned (.tuple #[.slice none 0 0, .int .i64 81]) ∧ Keep [] w w')
theorem strata_p (n : Nat) (v : Value) (A : List Ar) (p : List Nat) (w : World) (h : Rd encA 3 w v A) (hf : faultZ (n : Int) (A.map Ar.z) = 0) (hn : ∀ a ∈ A, a.f < n ∧ a.t < n) (hp : Numbered (Ec A) n (fun x => p.getD x 0)) : Calls Try.prog 10 #[.int .i64 (n : Int), v] w fun e w' => StP w w' n A p e := by
  refine (strata_own levels_own n v A w h hf).mono ?_
  rintro e w' ⟨q, ⟨h4, -⟩, hh⟩
  have hg : ∀ x, x < n → q.getD x 0 = p.getD x 0 := fun x hx => h4.uniq (ec_lt hn) hp x hx
  have hnb : NoBad A (fun x => q.getD x 0) ↔ NoBad A (fun x => p.getD x 0) := by
    constructor
    · intro hb a ha g e
      exact hb a ha g (by show q.getD a.f 0 = q.getD a.t 0; rw [hg _ (hn a ha).1, hg _ (hn a ha).2]; exact e)
    · intro hb a ha g e
      have e2 : q.getD a.f 0 = q.getD a.t 0 := e
      rw [hg _ (hn a ha).1, hg _ (hn a ha).2] at e2
      exact hb a ha g e2
  rcases hh with ⟨h5, v', rfl, g, s, rfl, -, h6, h7, h8⟩ | ⟨h5, rfl, h8⟩
  · exact .inl ⟨hnb.1 h5, g, s, rfl, h6, h7, h8⟩
  · exact .inr ⟨fun hb => h5 (hnb.2 hb), rfl, h8⟩
/-- what Reach answers -/
def RoL (w w' : World) (n : Nat) (A : List Ar) (L : List Nat) (e : Ending) : Prop := ∃ b c, ∃ R : List Nat, e = .returned (.tuple #[.slice b R.length c, .int .i64 0]) ∧ Rd encI 1 w' (.slice b R.length c) (ofN R) ∧ ((∀ x, x ∈ R ↔ x < n ∧ ∃ k ∈ L, Rch (Ec A) k x) ∧ R.Nodup) ∧ Keep [] w w'
theorem reach_gen (n : Nat) (v u : Value) (A : List Ar) (L : List Nat) (w : World) (h : Rd encA 3 w v A) (h1 : n ≤ 4096) (h2 : A.length ≤ 262144) (h3 : ∀ a ∈ A, a.f < n ∧ a.t < n) (hu : Rd encI 1 w u (ofN L)) (hL : ∀ x ∈ L, x < n) (hb : ∀ x, u.ownBlock = some x → x < w.heap.size) :
    Calls Try.prog 11 #[.int .i64 (n : Int), v, u] w fun e w' => RoL w w' n A L e := by
  refine (reach_yes n v u A (ofN L) w h (fault_small h1 h2 h3) hu hb).mono ?_
  intro e w' hr
  unfold RcR at hr
  rw [if_pos (by
    rw [List.all_eq_true]
    intro z hz
    obtain ⟨x, hx, rfl⟩ := List.mem_map.1 hz
    have := hL x hx
    unfold nodeB
    exact decide_eq_true ⟨by omega, by omega⟩)] at hr
  obtain ⟨v', m, rfl, e1, e2⟩ := hr
  obtain ⟨b, c, rfl⟩ := (e1.row.rd encN_len).form'
  refine ⟨b, c, _, rfl, (e1.row.rd encN_len).ints, ⟨fun x => ?_, List.nodup_range.filter _⟩, e1.keep⟩
  rw [List.mem_filter, List.mem_range]
  refine and_congr_right fun _ => ?_
  rw [show (m.getD x false = true) = Mk m x from rfl, e2 x]
  constructor
  · rintro ⟨z, hz, hr⟩
    obtain ⟨y, hy, rfl⟩ := List.mem_map.1 hz
    exact ⟨y, hy, by simpa using hr⟩
  · rintro ⟨y, hy, hr⟩
    exact ⟨(y : Int), List.mem_map.2 ⟨y, hy, rfl⟩, by simpa using hr⟩
theorem trod_two {H : Type} {enc : TypeId × Value → H} {P : Program} {w : World} {base : Nat} {spare : Nat → Bool} {held : Bool} {t : TypeId} {f0 f1 : Field} {fuel : Nat} {cs : List Value} {x : DataW H × List MemPlace} (ht : P.underlying t = some (.struct #[f0, f1])) (h : DataW.trod enc P w base spare held fuel t cs = some x) :
    ∃ y0 y1 n, DataW.trod enc P w base spare held n f0.type ((cs.drop f0.offset).take (P.cellsOf f0.type)) = some y0 ∧
      DataW.trod enc P w base spare held n f1.type ((cs.drop f1.offset).take (P.cellsOf f1.type)) = some y1 := by
  obtain ⟨xs, n, _, rfl, hl, hlen, hf⟩ := DataW.trod_struct ht h
  match xs, hlen with
  | [y0, y1], _ => exact ⟨y0, y1, n, by simpa using hf 0 f0 rfl, by simpa using hf 1 f1 rfl⟩
theorem cellsT24 : Try.prog.cellsOf 24 = 2 := by kernel_rfl
set_option maxRecDepth 100000 in
theorem open_turn {H : Type} {enc : TypeId × Value → H} {W : World} {base : Nat} {v : Value} {d : DataW H} {p : List MemPlace}
    (hv : Value.okWide Try.prog W .any base 24 v) (h : DataW.Trod enc Try.prog W 0 (fun _ => true) true 24 v d p) : ∃ x y : Int, v = .agg #[.int .i64 x, .int .i64 y] ∧ (-9223372036854775808 ≤ x ∧ x ≤ 9223372036854775807) ∧ (-9223372036854775808 ≤ y ∧ y ≤ 9223372036854775807) := by
  obtain ⟨cs, rfl, hsz⟩ := Go.WideShapes.okWide_struct Try.underlying24 hv
  obtain ⟨fuel, hf⟩ := h
  have hsz' : cs.size = 2 := hsz.trans cellsT24
  obtain ⟨l⟩ := cs
  match l, hsz' with
  | [c0, c1], _ =>
    have hf' : DataW.trod enc Try.prog W 0 (fun _ => true) true fuel 24 [c0, c1] = some (d, p) := by simpa [Value.cells] using hf
    obtain ⟨y0, y1, n, g0, g1⟩ := trod_two Try.underlying24 hf'
    simp only [cellsT3, List.drop_zero, List.drop_succ_cons, List.take_succ_cons, List.take_zero] at g0 g1
    obtain ⟨a0, e0, x0, w0⟩ := DataW.trod_int Try.underlying3 g0
    obtain ⟨a1, e1, x1, w1⟩ := DataW.trod_int Try.underlying3 g1
    obtain rfl : c0 = .int .i64 a0 := by simpa using e0
    obtain rfl : c1 = .int .i64 a1 := by simpa using e1
    exact ⟨a0, a1, rfl, by simpa [Lit.wf, IntKind.min, IntKind.max, IntKind.signed, IntKind.bits] using w0, by simpa [Lit.wf, IntKind.min, IntKind.max, IntKind.signed, IntKind.bits] using w1⟩
end Go.Proofs.Ytmlpkjeaieljfab
