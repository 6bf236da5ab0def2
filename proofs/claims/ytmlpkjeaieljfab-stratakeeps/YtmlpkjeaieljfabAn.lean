/- What the four calls answer, as lists: the program's. -/
import Derived.Test.YtmlpkjeaieljfabAw
import Derived.Test.YtmlpkjeaieljfabLk
namespace Go.Proofs.Ytmlpkjeaieljfab
open Go.RowKit Go.PlainAid

def ofN (l : List Nat) : List Int := l.map fun x => ((x : Nat) : Int)
/-- a list of numbers and an error are answered -/
def AnsR (w w' : World) (e : Ending) (r : List Int × Int) : Prop := ∃ v, e = .returned (.tuple #[v, .int .i64 r.2]) ∧ Ow 3 encI 1 w w' v r.1

theorem flat_nats (l : List Nat) : l.flatMap encN = (ofN l).flatMap encI := by
  unfold ofN
  induction l with
  | nil => rfl
  | cons a l ih => rw [List.map_cons, List.flatMap_cons, List.flatMap_cons, ih]; rfl
theorem Rw.ofN {w : World} {v : Value} {l : List Nat} (h : Rw 3 encN 1 w v l) : Rw 3 encI 1 w v (ofN l) := by
  unfold Rw at h ⊢
  rw [flat_nats] at h
  rwa [Go.Proofs.Ytmlpkjeaieljfab.ofN, List.length_map]
theorem Nw.ow {w wr : World} {v : Value} {l : List Nat} (h : Nw w wr v l) : Ow 3 encI 1 w wr v (ofN l) := ⟨h.row.ofN, h.keep, h.new⟩
theorem Arr.ow {w wr : World} {g n : Nat} {l : List Nat} (h : Arr 3 eN wr g n l) (hg : w.heap.size ≤ g) (hk : Keep [] w wr) : Ow 3 encI 1 w wr (.slice (some ⟨g, 0, none⟩) n n) (ofN l) := by
  refine ⟨Rw.ofN ?_, hk, fun x hx => by simp [Value.ownBlock] at hx; subst hx; exact hg⟩
  unfold Rw
  rw [h.len]
  have : l.flatMap encN = l.map eN := by
    have : ∀ l : List Nat, l.flatMap encN = l.map eN := fun l => by
      induction l with
      | nil => rfl
      | cons a l ih => rw [List.flatMap_cons, List.map_cons, ih]; rfl
    exact this l
  rw [this]
  exact h.row
theorem ow_none {w wr : World} (h : Keep [] w wr) : Ow 3 encI 1 w wr (.slice none 0 0) [] := Ow.nil h

open Classical in
noncomputable def partL (n : Nat) (A : List Ar) : List Nat := if h : ∃ p : List Nat, p.length = n ∧ Numbered (Ec A) n (fun x => p.getD x 0) then Classical.choose h else []
theorem partL_eq {n : Nat} {A : List Ar} {p : List Nat} (hn : ∀ a ∈ A, a.f < n ∧ a.t < n) (hl : p.length = n) (h : Numbered (Ec A) n (fun x => p.getD x 0)) : partL n A = p := by
  have hx : ∃ p : List Nat, p.length = n ∧ Numbered (Ec A) n (fun x => p.getD x 0) := ⟨p, hl, h⟩
  unfold partL
  rw [dif_pos hx]
  have hc := Classical.choose_spec hx
  exact list_getD (n := n) hc.1 hl (fun x hx => hc.2.uniq (ec_lt hn) h x hx)
open Classical in
noncomputable def levL (n : Nat) (A : List Ar) : List Nat := if h : ∃ s : List Nat, s.length = n ∧ Least A n (fun x => s.getD x 0) then Classical.choose h else []
theorem levL_eq {n : Nat} {A : List Ar} {s : List Nat} (hl : s.length = n) (h : Least A n (fun x => s.getD x 0)) : levL n A = s := by
  have hx : ∃ s : List Nat, s.length = n ∧ Least A n (fun x => s.getD x 0) := ⟨s, hl, h⟩
  unfold levL
  rw [dif_pos hx]
  have hc := Classical.choose_spec hx
  exact list_getD (n := n) hc.1 hl (fun x hx => hc.2.uniq h x hx)
noncomputable def ringL (n : Nat) (A : List Ar) : List Nat := (List.range n).filter (fun k => decide ((((partL n A).getD k 0 : Nat) : Int) = badL (partL n A) A))
open Classical in
noncomputable def rchL (n : Nat) (A : List Ar) (L : List Int) : List Nat := (List.range n).filter (fun x => decide (∃ k ∈ L, Rch (Ec A) k.toNat x))
open Classical in
theorem rchL_eq {n : Nat} {A : List Ar} {L : List Int} {m : List Bool} (h : ∀ x, Mk m x ↔ ∃ k ∈ L, Rch (Ec A) k.toNat x) : (List.range n).filter (fun k => m.getD k false) = rchL n A L := by
  unfold rchL
  refine List.filter_congr fun x _ => ?_
  exact Bool.eq_iff_iff.2 ⟨fun hm => decide_eq_true ((h x).1 hm), fun hd => (h x).2 (of_decide_eq_true hd)⟩

noncomputable def partsAns (n : Int) (l : List Az) : List Int × Int := if faultZ n l = 0 then (ofN (partL n.toNat (l.map Az.a)), 0) else ([], faultZ n l)
open Classical in
noncomputable def strataAns (n : Int) (l : List Az) : List Int × Int := if faultZ n l = 0 then (if NoBad (l.map Az.a) (fun x => (partL n.toNat (l.map Az.a)).getD x 0) then (ofN (levL n.toNat (l.map Az.a)), 0) else ([], 81)) else ([], faultZ n l)
noncomputable def ringAns (n : Int) (l : List Az) : List Int × Int := if faultZ n l = 0 then (ofN (ringL n.toNat (l.map Az.a)), 0) else ([], faultZ n l)
noncomputable def reachAns (n : Int) (l : List Az) (L : List Int) : List Int × Int := if faultZ n l = 0 then (if L.all (nodeB n) = true then (ofN (rchL n.toNat (l.map Az.a) L), 0) else ([], 80)) else ([], faultZ n l)

theorem map_za (l : List Ar) : (l.map Ar.z).map Az.a = l := by
  rw [List.map_map]
  exact (List.map_congr_left (g := id) fun a _ => by cases a; rfl).trans (List.map_id l)
/-- a graph that is not refused, as lists of arcs between nodes -/
theorem fine_all {n : Int} {l : List Az} (h : faultZ n l = 0) : ∃ N A, n = ((N : Nat) : Int) ∧ l = A.map Ar.z ∧ n.toNat = N ∧ l.map Az.a = A ∧ N ≤ 4096 ∧ A.length ≤ 262144 ∧ (∀ a ∈ A, a.f < N ∧ a.t < N) ∧ faultZ ((N : Nat) : Int) (A.map Ar.z) = 0 := by
  obtain ⟨N, A, hf⟩ := fine_of h
  refine ⟨N, A, hf.n, hf.l, by rw [hf.n]; omega, by rw [hf.l, map_za], hf.small.1, hf.small.2, hf.node, by rw [← hf.n, ← hf.l]; exact h⟩

theorem parts_ans (n : Int) (v : Value) (l : List Az) (w : World) (h : Rd encZ 3 w v l) : Calls Try.prog 8 #[.int .i64 n, v] w fun e w' => AnsR w w' e (partsAns n l) := by
  unfold partsAns
  by_cases hf : faultZ n l = 0
  · rw [if_pos hf]
    obtain ⟨N, A, rfl, rfl, h1, h2, h3, h4, h5, h6⟩ := fine_all hf
    rw [h1, h2]
    refine (parts_yes N v A w h.a h6).mono ?_
    rintro e w' ⟨v', rfl, g, p, rfl, e2, e3, ⟨e4, -⟩, e5⟩
    rw [partL_eq h5 e3.len e4]
    exact ⟨_, rfl, e3.ow e2 e5⟩
  · rw [if_neg hf]
    refine (parts_no n v l w h hf).mono ?_
    rintro e w' ⟨rfl, k⟩
    exact ⟨_, rfl, ow_none k⟩
theorem num_range {A : List Ar} {N : Nat} {p : List Nat} (h5 : ∀ a ∈ A, a.f < N ∧ a.t < N) (e4 : Numbered (Ec A) N (fun x => p.getD x 0)) : partL N A = (List.range N).map (fun x => p.getD x 0) := by
  refine partL_eq h5 (by simp) ?_
  have hg : ∀ x, x < N → ((List.range N).map (fun x => p.getD x 0)).getD x 0 = p.getD x 0 := fun x hx => by
    rw [List.getD_eq_getElem?_getD, List.getElem?_map, List.getElem?_range hx]; rfl
  refine ⟨fun x y hx hy => ?_, fun x hx k hk => ?_, fun x y hxy => ?_, fun x z hx hz hxz hrd => ?_⟩
  · simp only [hg x hx, hg y hy]; exact e4.same x y hx hy
  · simp only [hg x hx] at hk
    obtain ⟨y, hy, e⟩ := e4.full x hx k hk
    exact ⟨y, hy, by simp only [hg y hy]; exact e⟩
  · have hb := ec_lt h5 x y hxy
    simp only [hg x hb.1, hg y hb.2]; exact e4.down x y hxy
  · simp only [hg x hx, hg z hz] at hxz
    obtain ⟨y, hy, e1, e2⟩ := e4.least x z hx hz hxz (fun u v hu huv => by
      have := hrd u v hu huv
      simp only [hg v (ec_lt h5 u v huv).2, hg x hx] at this
      exact this)
    exact ⟨y, hy, by simp only [hg x hx, hg y hy]; exact e1, e2⟩
theorem strata_ans (n : Int) (v : Value) (l : List Az) (w : World) (h : Rd encZ 3 w v l) : Calls Try.prog 10 #[.int .i64 n, v] w fun e w' => AnsR w w' e (strataAns n l) := by
  unfold strataAns
  by_cases hf : faultZ n l = 0
  · rw [if_pos hf]
    obtain ⟨N, A, rfl, rfl, h1, h2, h3, h4, h5, h6⟩ := fine_all hf
    rw [h1, h2]
    refine (strata_own levels_own N v A w h.a h6).mono ?_
    rintro e w' ⟨p, ⟨e4, hpn⟩, hh⟩
    have hpl : partL N A = (List.range N).map (fun x => p.getD x 0) := num_range h5 e4
    have hnb : NoBad A (fun x => (partL N A).getD x 0) ↔ NoBad A (fun x => p.getD x 0) := by
      have hg : ∀ x, x < N → (partL N A).getD x 0 = p.getD x 0 := fun x hx => by
        rw [hpl, List.getD_eq_getElem?_getD, List.getElem?_map, List.getElem?_range hx]; rfl
      constructor
      · intro hb a ha g e
        exact hb a ha g (by simp only [hg _ (h5 a ha).1, hg _ (h5 a ha).2]; exact e)
      · intro hb a ha g e
        simp only [hg _ (h5 a ha).1, hg _ (h5 a ha).2] at e
        exact hb a ha g e
    rcases hh with ⟨g1, v', rfl, g, s, rfl, e2, e3, e6, e7⟩ | ⟨g1, rfl, e7⟩
    · rw [if_pos (hnb.2 g1), levL_eq e3.len e6]
      exact ⟨_, rfl, e3.ow e2 e7⟩
    · rw [if_neg (fun x => g1 (hnb.1 x))]
      exact ⟨_, rfl, ow_none e7⟩
  · rw [if_neg hf]
    refine (strata_no n v l w h hf).mono ?_
    rintro e w' ⟨rfl, k⟩
    exact ⟨_, rfl, ow_none k⟩
/-- the least number of a bad part hangs on the numbers of nodes alone -/
theorem badL_congr {A : List Ar} {N : Nat} {p q : List Nat} (h5 : ∀ a ∈ A, a.f < N ∧ a.t < N) (h : ∀ x, x < N → p.getD x 0 = q.getD x 0) : badL p A = badL q A := by
  unfold badL
  generalize (-1 : Int) = z
  induction A generalizing z with
  | nil => rfl
  | cons a A ih =>
    rw [List.foldl_cons, List.foldl_cons]
    have ha := h5 a (by simp)
    have : badF p z a = badF q z a := by unfold badF; rw [h _ ha.1, h _ ha.2]
    rw [this]
    exact ih (fun b hb => h5 b (by simp [hb])) _
theorem ring_ans (n : Int) (v : Value) (l : List Az) (w : World) (h : Rd encZ 3 w v l) : Calls Try.prog 14 #[.int .i64 n, v] w fun e w' => AnsR w w' e (ringAns n l) := by
  unfold ringAns
  by_cases hf : faultZ n l = 0
  · rw [if_pos hf]
    obtain ⟨N, A, rfl, rfl, h1, h2, h3, h4, h5, h6⟩ := fine_all hf
    rw [h1, h2]
    refine (ring_yes N v A w h.a h6).mono ?_
    rintro e w' ⟨v', rfl, p, ⟨e4, -⟩, hnw⟩
    have hg : ∀ x, x < N → (partL N A).getD x 0 = p.getD x 0 := fun x hx => by
      rw [num_range h5 e4, List.getD_eq_getElem?_getD, List.getElem?_map, List.getElem?_range hx]; rfl
    have : ringL N A = (List.range N).filter (fun k => decide (((p.getD k 0 : Nat) : Int) = badL p A)) := by
      unfold ringL
      rw [badL_congr h5 hg]
      refine List.filter_congr fun x hx => ?_
      rw [hg x (List.mem_range.1 hx)]
    rw [this]
    exact ⟨_, rfl, hnw.ow⟩
  · rw [if_neg hf]
    refine (ring_no n v l w h hf).mono ?_
    rintro e w' ⟨rfl, k⟩
    exact ⟨_, rfl, ow_none k⟩
theorem reach_ans (n : Int) (v u : Value) (l : List Az) (L : List Int) (w : World) (h : Rd encZ 3 w v l) (hL : Rd encI 1 w u L) (hu : ∀ x, u.ownBlock = some x → x < w.heap.size) : Calls Try.prog 11 #[.int .i64 n, v, u] w fun e w' => AnsR w w' e (reachAns n l L) := by
  unfold reachAns
  by_cases hf : faultZ n l = 0
  · rw [if_pos hf]
    obtain ⟨N, A, rfl, rfl, h1, h2, h3, h4, h5, h6⟩ := fine_all hf
    rw [h1, h2]
    refine (reach_yes N v u A L w h.a h6 hL hu).mono ?_
    intro e w' hr
    unfold RcR at hr
    by_cases hall : L.all (nodeB (N : Int)) = true
    · rw [if_pos hall] at hr ⊢
      obtain ⟨v', m, rfl, e1, e2⟩ := hr
      rw [rchL_eq e2] at e1
      exact ⟨_, rfl, e1.ow⟩
    · rw [if_neg hall] at hr ⊢
      obtain ⟨rfl, k⟩ := hr
      exact ⟨_, rfl, ow_none k⟩
  · rw [if_neg hf]
    refine (reach_no n v u l w h hf).mono ?_
    rintro e w' ⟨rfl, k⟩
    exact ⟨_, rfl, ow_none k⟩
end Go.Proofs.Ytmlpkjeaieljfab

