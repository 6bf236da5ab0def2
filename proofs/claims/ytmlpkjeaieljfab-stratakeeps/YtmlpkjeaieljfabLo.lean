/- Levels: the nodes in the order of their parts. -/
import Derived.Test.YtmlpkjeaieljfabRx
import Derived.Shelf.SlSortCmp.Whole1

namespace Go.Proofs.Ytmlpkjeaieljfab
open Go.RowKit Go.PlainAid Go.Sort Go.Shelf

theorem all_any (k : Nat) (w : World) : Calls Try.prog 34 #[.int .i64 (k : Int)] w fun e w' => e = .returned (.bool true) ∧ w' = w := by
  go_enter Try.func34, Try.ntmps34
  go_wp2
  go_ret
  exact ⟨rfl, rfl⟩

set_option maxRecDepth 1000000 in
theorem cmpP_any (b3 gp n j k : Nat) (p : List Nat) (w : World) (hb : w.cell? ⟨b3, 0, none⟩ = some (.slice (some ⟨gp, 0, none⟩) n n)) (hp : ∀ x, x < n → w.cell? ⟨gp, x, none⟩ = some (.int .i64 ((p.getD x 0 : Nat) : Int))) (hj : j < n) (hk : k < n) :
    Calls Try.prog 36 #[.int .i64 (j : Int), .int .i64 (k : Int), .pointer (some ⟨b3, 0, none⟩)] w fun e w' => e = .returned (.int .i64 (Lib.compareInt ((p.getD j 0 : Nat) : Int) ((p.getD k 0 : Nat) : Int))) ∧ ∃ q, w' = w.drewN q := by
  have hji : (j : Int) < (n : Int) := by omega
  have hki : (k : Int) < (n : Int) := by omega
  have c0 := hp j hj
  have c1 := hp k hk
  generalize ((p.getD j 0 : Nat) : Int) = x at c0
  generalize ((p.getD k 0 : Nat) : Int) = y at c1
  have HC : Hid (∀ w, Calls Try.prog 37 #[.int .i64 x, .int .i64 y] w fun e w' => e = .returned (.int .i64 (Lib.compareInt x y)) ∧ w' = w) := fun w => compare_any x y w
  clear hp
  go_enter Try.func36, Try.ntmps36
  go_wp2
  go_quiet (first | (go_at_call 37; refine Calls.quiet_of_same (HC.out _)))
  go_wp2
  go_ret
  exact ⟨rfl, _, rfl⟩

/-- nodes, by the numbers of their parts -/
def cmpF (n : Nat) (p : List Nat) (x y : { k : Nat // k < n }) : Int := Lib.compareInt ((p.getD x.1 0 : Nat) : Int) ((p.getD y.1 0 : Nat) : Int)
theorem ltF (n : Nat) (p : List Nat) (x y : { k : Nat // k < n }) : ltOf (cmpF n p) x y = true ↔ p.getD x.1 0 < p.getD y.1 0 := by
  unfold ltOf cmpF
  rw [decide_eq_true_iff]
  rcases cmp3 ((p.getD x.1 0 : Nat) : Int) ((p.getD y.1 0 : Nat) : Int) with ⟨a, b⟩ | ⟨a, b⟩ | ⟨a, b⟩ <;> rw [b] <;> omega
theorem ltFf (n : Nat) (p : List Nat) (x y : { k : Nat // k < n }) : ltOf (cmpF n p) x y = false ↔ ¬ p.getD x.1 0 < p.getD y.1 0 := by
  rw [← ltF n p x y]; simp
theorem swoF (n : Nat) (p : List Nat) : SWO (ltOf (cmpF n p)) where
  irrefl x := by rw [ltFf]; omega
  trans x y z h1 h2 := by rw [ltF] at *; omega
  ntrans x y z h1 h2 := by rw [ltFf] at *; omega

theorem sortP_any (b3 gp n g cap : Nat) (p l : List Nat) (w : World) (hb : w.cell? ⟨b3, 0, none⟩ = some (.slice (some ⟨gp, 0, none⟩) n n)) (hp : Arr 3 eN w gp n p) (hr : Rw 3 encN 1 w (.slice (some ⟨g, 0, none⟩) l.length cap) l) (hln : ∀ x ∈ l, x < n) (hll : l.length ≤ 100000) (h1 : b3 ≠ g) (h2 : gp ≠ g) (h0 : 0 < n) :
    Calls Try.prog 35 #[.slice (some ⟨g, 0, none⟩) l.length cap, .func (.func 36) #[] #[.pointer (some ⟨b3, 0, none⟩)]] w fun e w' => e = .returned (.tuple #[]) ∧ ∃ d, (Rw 3 encN 1 w' (.slice (some ⟨g, 0, none⟩) l.length cap) d ∧ d.length = l.length) ∧ (d.Perm l ∧ d.Pairwise fun a b => p.getD a 0 ≤ p.getD b 0) ∧ Keep [g] w w' := by
  letI : Inhabited { k : Nat // k < n } := ⟨⟨0, h0⟩⟩
  obtain ⟨D, hD⟩ : ∃ D : List { k : Nat // k < n }, D.map Subtype.val = l := ⟨l.pmap Subtype.mk hln, by simp [List.map_pmap]⟩
  have hDl : D.length = l.length := by rw [← hD]; simp
  have hgl : g < w.heap.size := hr.lt g rfl
  have hcell : ∀ j (hj : j < D.length), w.cell? ⟨g, 0 + j, none⟩ = some (eN D[j].1) ∧ w.frozen? ⟨g, 0 + j, none⟩ = false := fun j hj => by
    rcases hr.cases encN_len with ⟨_, h⟩ | ⟨g', cap', he, _, _, _, h7, h8⟩
    · simp at h
    simp at he
    obtain ⟨rfl, _⟩ := he
    have := h7 j (by omega) 0 (by omega)
    rw [Nat.mul_one, Nat.add_zero] at this
    refine ⟨?_, h8 _⟩
    rw [Nat.zero_add, this]
    have e : l[j]'(by omega) = D[j].1 := by
      have : (D.map Subtype.val)[j]'(by simpa using hj) = D[j].1 := by simp
      rw [← this]
      congr 1
      exact hD.symm
    rw [e]
    rfl
  have hH : Holds (fun x : { k : Nat // k < n } => eN x.1) w g 0 D.toArray := fun j hj => by
    have hj' : j < D.length := by simpa using hj
    rw [getElem!_pos _ j hj]
    exact hcell j hj'
  have hother : ∀ (m : Nat) (os : Array Obj) (dk : Array { k : Nat // k < n }) (x o : Nat), x ≠ g → x < w.heap.size → (sortWorld (fun x : { k : Nat // k < n } => eN x.1) w g 0 m dk os).cell? ⟨x, o, none⟩ = w.cell? ⟨x, o, none⟩ := fun m os dk x o hx hxl => by
    refine World.cell?_of_block (w := w) ?_
    show ((w.heap.modify g _) ++ os)[x]? = _
    rw [Array.getElem?_append_left (by simpa using hxl), Array.getElem?_modify, if_neg (fun e => hx e.symm)]
  have hb3 : b3 < w.heap.size := World.block_lt_of_cell? _ _ hb
  have hcon := Any.slices_SortFunc Try.sortInt (fun x : { k : Nat // k < n } => eN x.1) (fun _ => rfl) (cmpF n p) (swoF n p) 36 #[.pointer (some ⟨b3, 0, none⟩)] g 0 cap D.toArray w (enters_of Try.func36 (by kernel_rfl) rfl) (fun m os dk _ x y => by
    refine (cmpP_any b3 gp n x.1 y.1 p _ ((hother m os dk b3 0 h1 hb3).trans hb) (fun z hz => (hother m os dk gp z h2 hp.lt).trans (hp.cell 0 z hz)) x.2 y.2).mono ?_
    rintro e w' ⟨rfl, q, rfl⟩
    exact ⟨rfl, q, #[], by rw [grow_empty]⟩) hH hgl (by simp; omega)
  rw [show D.toArray.size = l.length by simpa using hDl] at hcon
  refine Calls.mono hcon ?_
  rintro e w' ⟨rfl, d', m, os, ⟨hp1, _, hp3⟩, hs, rfl⟩
  have hd : d'.size = l.length := by rw [hp1]; simpa using hDl
  have e1 : putRow (fun x : { k : Nat // k < n } => eN x.1) (Sort.ahead w m) g 0 d' = putRow id (Sort.ahead w m) g 0 (d'.map fun x => eN x.1) := by
    unfold putRow
    congr 1
    funext c
    unfold putCells
    congr 1
    funext k x
    rw [Array.size_map]
    by_cases h : 0 ≤ k ∧ k < 0 + d'.size
    · rw [if_pos h, if_pos h, getElem!_pos d' (k - 0) (by omega), getElem!_pos _ (k - 0) (by rw [Array.size_map]; omega), Array.getElem_map]
      rfl
    · rw [if_neg h, if_neg h]
  unfold sortWorld
  rw [e1]
  have hF : (d'.map fun x => eN x.1).size = l.length * 1 := by rw [Array.size_map, hd]; omega
  obtain ⟨r1, r2⟩ := row_put (m := m) hr (d'.map fun x => eN x.1) hF os
  have hall : ∀ (x : Array { k : Nat // k < n }) (L : Nat), x.size = L → x.extract 0 L = x := fun x L hL => by subst hL; simp
  refine ⟨rfl, d'.toList.map Subtype.val, ⟨?_, by simpa using hd⟩, ⟨?_, ?_⟩, r2⟩
  · show RowC _ 3 1 _ (d'.toList.map Subtype.val).length _
    rw [show (d'.toList.map Subtype.val).length = l.length by simpa using hd, map_encN, List.map_map]
    have e2 : (d'.map fun x => eN x.1).toList = d'.toList.map (eN ∘ Subtype.val) := by simp
    rw [← e2]
    exact r1
  · rw [hall d' _ hd, hall D.toArray _ (by simpa using hDl)] at hp3
    have hp4 : d'.toList.Perm D := by simpa using hp3
    have := hp4.map Subtype.val
    rwa [hD] at this
  · rw [List.pairwise_map, List.pairwise_iff_getElem]
    intro i j hi hj hij
    have := hs i j (Nat.zero_le _) hij (by simpa [hd] using hj)
    rw [getElem!_pos d' j (by simpa using hj), getElem!_pos d' i (by simpa using hi), ltFf] at this
    simp only [Array.getElem_toList]
    omega

theorem sortP_none (g : Option Addr) (cap : Nat) (fv : Value) (w : World) : Calls Try.prog 35 #[.slice g 0 cap, fv] w fun e w' => e = .returned (.tuple #[]) ∧ w' = w := AnyF.slices_SortFunc_none (P := Try.prog) (ρ := Try.sortInt_ren) { Try.sortInt with } g cap fv w
end Go.Proofs.Ytmlpkjeaieljfab

/- Levels: mathematics. -/
namespace Go.Proofs.Ytmlpkjeaieljfab

def ngN (g : Bool) : Nat := if g then 1 else 0
/-- strata that keep to the arcs -/
def Sol (A : List Ar) (s : Nat → Nat) : Prop := ∀ a ∈ A, s a.t + ngN a.g ≤ s a.f
theorem Sol.rch {A : List Ar} {s : Nat → Nat} (h : Sol A s) {x y : Nat} (hr : Rch (Ec A) x y) : s y ≤ s x := by
  induction hr with
  | refl => exact Nat.le_refl _
  | tail _ e ih =>
    obtain ⟨a, ha, rfl, rfl⟩ := e
    have := h a ha
    omega
/-- no Neg arc leads within a part -/
def NoBad (A : List Ar) (p : Nat → Nat) : Prop := ∀ a ∈ A, a.g = true → p a.f ≠ p a.t
theorem noBad_of {p : List Nat} {A : List Ar} (h : badL p A = -1) : NoBad A (fun x => p.getD x 0) := fun a ha hg e => by
  rcases badL_spec p _ A rfl with ⟨_, h2⟩ | ⟨b, _, _, h2, _⟩
  · exact h2 a ha ⟨hg, e⟩
  · omega
theorem sol_parts {A : List Ar} {n : Nat} {p : Nat → Nat} (hp : Numbered (Ec A) n p) (hb : NoBad A p) : Sol A p := fun a ha => by
  have h1 := hp.down a.f a.t ⟨a, ha, rfl, rfl⟩
  unfold ngN
  split
  · rename_i hg
    have := hb a ha hg
    omega
  · omega

/-- the heights so far -/
structure Ht (A : List Ar) (n : Nat) (p : Nat → Nat) (done : Ar → Prop) (H : List Nat) : Prop where
  len : H.length = n
  up : ∀ a ∈ A, done a → p a.t < p a.f → H.getD (p a.t) 0 + ngN a.g ≤ H.getD (p a.f) 0
  sound : ∀ s, Sol A s → ∀ x, x < n → H.getD (p x) 0 ≤ s x
theorem Ht.start (A : List Ar) (n : Nat) (p : Nat → Nat) : Ht A n p (fun _ => False) (List.replicate n 0) :=
  ⟨by simp, fun _ _ h => h.elim, fun s _ x _ => by rw [getD_replicate]; exact Nat.zero_le _⟩
theorem Ht.bound {A : List Ar} {n : Nat} {p : Nat → Nat} {done : Ar → Prop} {H : List Nat} (h : Ht A n p done H) (hp : Numbered (Ec A) n p) (hb : NoBad A p) (x : Nat) (hx : x < n) : H.getD (p x) 0 ≤ p x := h.sound p (sol_parts hp hb) x hx
theorem Ht.step {A : List Ar} {n : Nat} {p : Nat → Nat} {done : Ar → Prop} {H : List Nat} (h : Ht A n p done H) (hp : Numbered (Ec A) n p) (hpn : ∀ x, x < n → p x < n) (hn : ∀ a ∈ A, a.f < n ∧ a.t < n) {a : Ar} (ha : a ∈ A) (hd : ∀ b ∈ A, done b → p b.f ≤ p a.f) :
    Ht A n p (fun b => done b ∨ b = a) (H.set (p a.f) (max (H.getD (p a.f) 0) (H.getD (p a.t) 0 + ngN a.g))) := by
  have hnd := hn a ha
  have hl := h.len
  have hpf := hpn a.f hnd.1
  have hg : ∀ x, (H.set (p a.f) (max (H.getD (p a.f) 0) (H.getD (p a.t) 0 + ngN a.g))).getD x 0 = if x = p a.f then max (H.getD (p a.f) 0) (H.getD (p a.t) 0 + ngN a.g) else H.getD x 0 := fun x => getD_set _ _ _ _ _ (by omega)
  refine ⟨by rw [List.length_set]; exact hl, fun b hbA hb2 hlt => ?_, fun s hs x hx => ?_⟩
  · have hbf : p b.f ≤ p a.f := by
      rcases hb2 with h2 | rfl
      · exact hd b hbA h2
      · exact Nat.le_refl _
    rw [hg, hg, if_neg (by omega)]
    by_cases e : p b.f = p a.f
    · rw [if_pos e]
      rcases hb2 with h2 | rfl
      · have := h.up b hbA h2 hlt
        rw [e] at this
        exact Nat.le_trans this (Nat.le_max_left _ _)
      · exact Nat.le_max_right _ _
    · rw [if_neg e]
      rcases hb2 with h2 | rfl
      · exact h.up b hbA h2 hlt
      · exact absurd rfl e
  · rw [hg]
    by_cases e : p x = p a.f
    · rw [if_pos e]
      have hm : Mut (Ec A) x a.f := (hp.same x a.f hx hnd.1).1 e
      have h1 := h.sound s hs x hx
      rw [e] at h1
      have h2 := h.sound s hs a.t hnd.2
      have h3 := hs a ha
      have h4 := hs.rch hm.1
      exact Nat.max_le.2 ⟨h1, by omega⟩
    · rw [if_neg e]
      exact h.sound s hs x hx
theorem Ht.mono {A : List Ar} {n : Nat} {p : Nat → Nat} {done done' : Ar → Prop} {H : List Nat} (h : Ht A n p done H) (hd : ∀ a ∈ A, done' a → done a) : Ht A n p done' H := ⟨h.len, fun a ha hx => h.up a ha (hd a ha hx), h.sound⟩

/-- the least strata -/
structure Least (A : List Ar) (n : Nat) (s : Nat → Nat) : Prop where
  sol : Sol A s
  least : ∀ t, Sol A t → ∀ x, x < n → s x ≤ t x
theorem Ht.done {A : List Ar} {n : Nat} {p : Nat → Nat} {H : List Nat} (h : Ht A n p (fun _ => True) H) (hp : Numbered (Ec A) n p) (hb : NoBad A p) : Least A n (fun x => H.getD (p x) 0) := by
  refine ⟨fun a ha => ?_, fun t ht x hx => h.sound t ht x hx⟩
  have h1 := hp.down a.f a.t ⟨a, ha, rfl, rfl⟩
  by_cases e : p a.t = p a.f
  · have : ngN a.g = 0 := by
      unfold ngN
      split
      · rename_i hg
        exact absurd e.symm (hb a ha hg)
      · rfl
    show H.getD (p a.t) 0 + _ ≤ H.getD (p a.f) 0
    rw [e, this]
    exact Nat.le_refl _
  · exact h.up a ha trivial (by omega)
theorem Least.uniq {A : List Ar} {n : Nat} {s t : Nat → Nat} (h : Least A n s) (k : Least A n t) (x : Nat) (hx : x < n) : s x = t x := Nat.le_antisymm (h.least t k.sol x hx) (k.least s h.sol x hx)
/-- where a Neg arc leads within a part there are no strata -/
theorem no_sol {A : List Ar} {n : Nat} {p : Nat → Nat} (hp : Numbered (Ec A) n p) (hn : ∀ a ∈ A, a.f < n ∧ a.t < n) (hb : ¬ NoBad A p) (s : Nat → Nat) : ¬ Sol A s := fun hs => by
  refine hb (fun a ha hg e => ?_)
  have hnd := hn a ha
  have hm : Mut (Ec A) a.t a.f := (hp.same a.t a.f hnd.2 hnd.1).1 e.symm
  have h1 := hs a ha
  have h2 := hs.rch hm.1
  rw [hg] at h1
  simp [ngN] at h1
  omega
end Go.Proofs.Ytmlpkjeaieljfab

/- The calls that all may make: Strata, given what levels answers. -/
namespace Go.Proofs.Ytmlpkjeaieljfab
open Go.RowKit Go.PlainAid Go.Sort

theorem strata_no (n : Int) (v : Value) (l : List Az) (w : World) (h : Rd encZ 3 w v l) (hf : faultZ n l ≠ 0) :
    Calls Try.prog 10 #[.int .i64 n, v] w fun e w' => e = .returned (.tuple #[.slice none 0 0, .int .i64 (faultZ n l)]) ∧ Keep [] w w' := by
  have HC : Hid (∀ (_ : True), Calls Try.prog 17 #[.int .i64 n, v] w fun e w' => e = .returned (.int .i64 (faultZ n l)) ∧ Keep [] w w') := fun _ => refused_any n v l w h
  generalize faultZ n l = f at HC hf
  have hq : (f != 0) = true := by simpa using hf
  clear h
  go_enter Try.func10, Try.ntmps10
  go_wp2_with fail
  refine (HC.out trivial).mono ?_
  rintro e w1 ⟨rfl, k1⟩
  have HK : Hid (Keep [] w w1) := k1
  clear k1 HC hf
  go_wp2
  go_ret2
  exact ⟨rfl, HK.out⟩

/-- what levels answers -/
def LeR (w w' : World) (v : Value) (n : Nat) (A : List Ar) : Prop := ∃ g s, v = .slice (some ⟨g, 0, none⟩) n n ∧ w.heap.size ≤ g ∧ Arr 3 eN w' g n s ∧ Least A n (fun x => s.getD x 0) ∧ Keep [] w w'
/-- levels' contract: what is asked of it here -/
def LevelsOk : Prop := ∀ (va vf : Value) (n gp : Nat) (A : List Ar) (F p : List Nat) (w : World), Gph w va vf n A F → (∀ x, va.ownBlock = some x → x < w.heap.size) → (∀ x, vf.ownBlock = some x → x < w.heap.size) → Arr 3 eN w gp n p → Numbered (Ec A) n (fun x => p.getD x 0) → (∀ x, x < n → p.getD x 0 < n) → NoBad A (fun x => p.getD x 0) →
  Calls Try.prog 21 #[.agg #[va, vf], .slice (some ⟨gp, 0, none⟩) n n] w fun e w' => ∃ v, e = .returned v ∧ LeR w w' v n A

theorem Sol.same {A B : List Ar} (h : ∀ a, a ∈ A ↔ a ∈ B) (s : Nat → Nat) : Sol A s ↔ Sol B s := ⟨fun k a ha => k a ((h a).2 ha), fun k a ha => k a ((h a).1 ha)⟩
theorem Least.same {A B : List Ar} {n : Nat} {s : Nat → Nat} (h : ∀ a, a ∈ A ↔ a ∈ B) (k : Least A n s) : Least B n s := ⟨(Sol.same h s).1 k.sol, fun t ht => k.least t ((Sol.same h t).2 ht)⟩

/-- what Strata answers -/
def StR (w w' : World) (n : Nat) (A : List Ar) (e : Ending) : Prop := ∃ p : List Nat, (Numbered (Ec A) n (fun x => p.getD x 0) ∧ ∀ x, x < n → p.getD x 0 < n) ∧ ((NoBad A (fun x => p.getD x 0) ∧ ∃ v', e = .returned (.tuple #[v', .int .i64 0]) ∧ LeR w w' v' n A) ∨ (¬ NoBad A (fun x => p.getD x 0) ∧ e = .returned (.tuple #[.slice none 0 0, .int .i64 81]) ∧ Keep [] w w'))

set_option maxRecDepth 1000000 in
set_option maxHeartbeats 1000000 in
theorem strata_own (hLev : LevelsOk) (n : Nat) (v : Value) (A : List Ar) (w : World) (h : Rd encA 3 w v A) (hf : faultZ (n : Int) (A.map Ar.z) = 0) :
    Calls Try.prog 10 #[.int .i64 (n : Int), v] w fun e w' => StR w w' n A e := by
  obtain ⟨ao, cap, rfl, -, -⟩ := h.form
  obtain ⟨N, B, hfn⟩ := fine_of hf
  have hN : n = N := by have := hfn.n; omega
  have hB : A = B := by
    have := hfn.l
    have hza : ∀ l : List Ar, (l.map Ar.z).map Az.a = l := fun l => by
      rw [List.map_map]
      exact (List.map_congr_left (g := id) fun a _ => by cases a; rfl).trans (List.map_id l)
    rw [← hza A, this, hza B]
  subst hN hB
  have HC : Hid (∀ (_ : True), Calls Try.prog 17 #[.int .i64 (n : Int), .slice ao A.length cap] w fun e w' => e = .returned (.int .i64 0) ∧ Keep [] w w') := fun _ => by
    have := refused_any (n : Int) (.slice ao A.length cap) (A.map Ar.z) w h.z
    rwa [hf] at this
  have HG : Hid (∀ w', Keep [] w w' → Calls Try.prog 18 #[.int .i64 (n : Int), .slice ao A.length cap] w' fun e w2 => ∃ va vf, e = .returned (.agg #[va, vf]) ∧ GphR w' w2 va vf n A) := fun w' k => graphOf_any n _ A w' (h.keep k (Off.nil _)) hfn.small.2 hfn.small.1 hfn.node
  have HLv : Hid LevelsOk := hLev
  clear h hf hfn hLev
  go_enter Try.func10, Try.ntmps10
  go_wp2_with fail
  refine (HC.out trivial).mono ?_
  rintro e w1 ⟨rfl, k1⟩
  have HK : Hid (Keep [] w w1) := k1
  clear k1 HC
  go_wp2_with fail
  refine (HG.out _ HK.out).mono ?_
  rintro e w2 ⟨va, vf, rfl, A2, F2, p1, p2, p3, p4, p5⟩
  obtain ⟨a1, c1, rfl, -, -⟩ := p1.arcs.form
  obtain ⟨b2, o2, c2, rfl, -, -, -, -⟩ := p1.firstLen
  have HP : Hid (∀ w', Keep [] w2 w' → Calls Try.prog 19 #[.agg #[.slice a1 A2.length c1, .slice (some ⟨b2, o2, none⟩) (n + 1) c2]] w' fun e w3 => ∃ v, e = .returned v ∧ PaR w' w3 v n A2) := fun w' k => parts_own _ _ n A2 F2 w' (p1.keep k (Off.nil _) (Off.nil _)) (fun x hx => Nat.lt_of_lt_of_le (p2 x hx).2 k.size) (fun x hx => Nat.lt_of_lt_of_le (p3 x hx).2 k.size)
  have HBd : Hid (∀ w' gp p, Keep [] w2 w' → Arr 3 eN w' gp n p → Calls Try.prog 20 #[.agg #[.slice a1 A2.length c1, .slice (some ⟨b2, o2, none⟩) (n + 1) c2], .slice (some ⟨gp, 0, none⟩) n n] w' fun e w3 => e = .returned (.int .i64 (badL p A2)) ∧ Keep [] w' w3) := fun w' gp p k hp => badPart_any _ _ n gp A2 F2 p w' (p1.keep k (Off.nil _) (Off.nil _)) hp
  have HL : Hid (∀ (w' : World) (gp : Nat) (p : List Nat), Keep [] w2 w' → Arr 3 eN w' gp n p → Numbered (Ec A2) n (fun x => p.getD x 0) → (∀ x, x < n → p.getD x 0 < n) → NoBad A2 (fun x => p.getD x 0) → Calls Try.prog 21 #[.agg #[.slice a1 A2.length c1, .slice (some ⟨b2, o2, none⟩) (n + 1) c2], .slice (some ⟨gp, 0, none⟩) n n] w' fun e w3 => ∃ v, e = .returned v ∧ LeR w' w3 v n A2) := fun w' gp p k hp h1 h2 h3 => HLv.out _ _ n gp A2 F2 p w' (p1.keep k (Off.nil _) (Off.nil _)) (fun x hx => Nat.lt_of_lt_of_le (p2 x hx).2 k.size) (fun x hx => Nat.lt_of_lt_of_le (p3 x hx).2 k.size) hp h1 h2 h3
  have H2 : Hid (Keep [] w w2 ∧ ∀ a, a ∈ A2 ↔ a ∈ A) := ⟨HK.out.trans' p5, p4⟩
  obtain ⟨b7, HB7⟩ : ∃ b7 : Nat, Hid (b7 = w2.heap.size) := ⟨_, show _ = _ from rfl⟩
  clear p1 p2 p3 p4 p5 HG HLv
  go_wp2_with fail
  rw [← HB7.out]
  refine (HP.out _ (Keep.alloc1 w2 _)).mono ?_
  rintro e w3 ⟨v3, rfl, gp, p, rfl, q1, q2, q3, q4⟩
  have hb0 := heap_alloc_new w2 (.cells #[.slice a1 A2.length c1, .slice (some ⟨b2, o2, none⟩) (n + 1) c2] 45)
  rw [← HB7.out] at hb0
  have d0 : w3.cell? ⟨b7, 0, none⟩ = some (.slice a1 A2.length c1) := q4.cell' (by simp only [World.cell?, hb0]; rfl) (by simp)
  have d1 : w3.cell? ⟨b7, 1, none⟩ = some (.slice (some ⟨b2, o2, none⟩) (n + 1) c2) := q4.cell' (by simp only [World.cell?, hb0]; rfl) (by simp)
  have H3 : Hid (Arr 3 eN w3 gp n p ∧ (Numbered (Ec A2) n (fun x => p.getD x 0) ∧ ∀ x, x < n → p.getD x 0 < n) ∧ Keep [] w2 w3) := ⟨q2, q3, (Keep.alloc1 w2 _).trans' q4⟩
  clear q1 q2 q3 q4 hb0 HP
  have HB5 : Hid (∀ (_ : True), Calls Try.prog 20 #[.agg #[.slice a1 A2.length c1, .slice (some ⟨b2, o2, none⟩) (n + 1) c2], .slice (some ⟨gp, 0, none⟩) n n] w3 fun e w4 => e = .returned (.int .i64 (badL p A2)) ∧ Keep [] w3 w4) := fun _ => HBd.out _ gp p H3.out.2.2 H3.out.1
  clear HBd
  have HNE : Hid (Numbered (Ec A) n (fun x => p.getD x 0) ∧ ∀ x, x < n → p.getD x 0 < n) := by
    have := H3.out.2.1
    rwa [Ec.same H2.out.2] at this
  by_cases hbad : badL p A2 = -1
  · have HNB : Hid (NoBad A2 (fun x => p.getD x 0)) := noBad_of hbad
    rw [hbad] at HB5
    go_wp2_with fail
    refine (HB5.out trivial).mono ?_
    rintro e w4 ⟨rfl, k4⟩
    have e0 := k4.cell' d0 (by simp)
    have e1 := k4.cell' d1 (by simp)
    have H4 : Hid (Keep [] w3 w4) := k4
    have HL4 : Hid (∀ (_ : True), Calls Try.prog 21 #[.agg #[.slice a1 A2.length c1, .slice (some ⟨b2, o2, none⟩) (n + 1) c2], .slice (some ⟨gp, 0, none⟩) n n] w4 fun e w5 => ∃ v, e = .returned v ∧ LeR w4 w5 v n A2) := fun _ => HL.out w4 gp p (H3.out.2.2.trans' H4.out) (H3.out.1.keep H4.out (by simp)) H3.out.2.1.1 H3.out.2.1.2 HNB.out
    clear k4 HB5 d0 d1 HL hbad
    go_wp2_with fail
    refine (HL4.out trivial).mono ?_
    rintro e w5 ⟨v5, rfl, g5, s5, rfl, r1, r2, r3, r4⟩
    have HE : Hid (StR w w5 n A (.returned (.tuple #[.slice (some ⟨g5, 0, none⟩) n n, .int .i64 0]))) := by
      have kk := (H2.out.1.trans' H3.out.2.2).trans' H4.out
      exact ⟨p, HNE.out, .inl ⟨fun a ha => HNB.out a ((H2.out.2 a).2 ha), _, rfl, g5, s5, rfl, Nat.le_trans kk.size r1, r2, r3.same H2.out.2, kk.trans' r4⟩⟩
    clear r1 r2 r3 r4 HL4 e0 e1
    go_wp2
    go_ret2
    exact HE.out
  · have HNB : Hid (¬ NoBad A (fun x => p.getD x 0)) := fun hnb => by
      rcases badL_spec p _ A2 rfl with ⟨g1, _⟩ | ⟨b, hb, g1, _, _⟩
      · exact hbad g1
      · exact hnb b ((H2.out.2 b).1 hb) g1.1 g1.2
    have hq : (badL p A2 != -1) = true := by simpa using hbad
    generalize badL p A2 = bad at HB5 hq hbad
    clear hbad HL
    go_wp2_with fail
    refine (HB5.out trivial).mono ?_
    rintro e w4 ⟨rfl, k4⟩
    have HE : Hid (StR w w4 n A (.returned (.tuple #[.slice none 0 0, .int .i64 81]))) := by
      have kk := (H2.out.1.trans' H3.out.2.2).trans' k4
      exact ⟨p, HNE.out, .inr ⟨HNB.out, rfl, kk⟩⟩
    clear k4 HB5 d0 d1
    go_wp2
    go_ret2
    exact HE.out
end Go.Proofs.Ytmlpkjeaieljfab

/- Levels: the nodes in their order. -/
namespace Go.Proofs.Ytmlpkjeaieljfab
open Go.RowKit Go.PlainAid Go.Sort Go.Shelf

theorem sort_both (b3 gp n : Nat) (p : List Nat) (v : Value) (w : World) (hb : w.cell? ⟨b3, 0, none⟩ = some (.slice (some ⟨gp, 0, none⟩) n n)) (hp : Arr 3 eN w gp n p) (hr : Rw 3 encN 1 w v (List.range n)) (hn : n ≤ 4096) (h1 : v.ownBlock ≠ some b3) (h2 : v.ownBlock ≠ some gp) :
    Calls Try.prog 35 #[v, .func (.func 36) #[] #[.pointer (some ⟨b3, 0, none⟩)]] w fun e w' => e = .returned (.tuple #[]) ∧ ∃ d, Rw 3 encN 1 w' v d ∧ (d.Perm (List.range n) ∧ d.Pairwise fun a b => p.getD a 0 ≤ p.getD b 0) ∧ Keep v.ownBlock.toList w w' := by
  rcases hr.cases encN_len with ⟨e, rfl⟩ | ⟨g, cap, rfl, _⟩
  · refine (sortP_none none 0 _ w).mono ?_
    rintro e' w' ⟨rfl, rfl⟩
    exact ⟨rfl, [], Rw.nil 3 encN 1 _, ⟨by rw [e], List.Pairwise.nil⟩, Keep.refl _ _⟩
  · by_cases h0 : n = 0
    · subst h0
      refine (sortP_none (some ⟨g, 0, none⟩) cap _ w).mono ?_
      rintro e' w' ⟨rfl, rfl⟩
      exact ⟨rfl, List.range 0, hr, ⟨List.Perm.refl _, by simp⟩, Keep.refl _ _⟩
    · refine (sortP_any b3 gp n g cap p (List.range n) w hb hp hr (fun x hx => by simpa using hx) (by simp; omega) (fun e => h1 (by simp [Value.ownBlock, e])) (fun e => h2 (by simp [Value.ownBlock, e])) (by omega)).mono ?_
      rintro e' w' ⟨rfl, d, ⟨q1, q2⟩, q3, q4⟩
      refine ⟨rfl, d, ?_, q3, q4⟩
      rw [← q2] at q1 ⊢
      exact q1
end Go.Proofs.Ytmlpkjeaieljfab

