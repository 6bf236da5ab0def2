/- The numbers of small graphs, by looking; the graphs of awake. -/
import Derived.Test.YtmlpkjeaieljfabLw
import Derived.Test.YtmlpkjeaieljfabRx
namespace Go.Proofs.Ytmlpkjeaieljfab
open Go.RowKit Go.PlainAid

def chk1 (n : Nat) (p : List Nat) (R : Nat → Nat → Bool) : Bool := (List.range n).all fun x => (List.range n).all fun y => (p.getD x 0 == p.getD y 0) == (R x y && R y x)
def chk2 (n : Nat) (p : List Nat) : Bool := (List.range n).all fun x => (List.range (p.getD x 0)).all fun k => (List.range n).any fun y => p.getD y 0 == k
def chk3 (A : List Ar) (p : List Nat) : Bool := A.all fun a => decide (p.getD a.t 0 ≤ p.getD a.f 0)
def chk4 (A : List Ar) (n : Nat) (p : List Nat) (R : Nat → Nat → Bool) : Bool := (List.range n).all fun x => (List.range n).all fun z => !decide (p.getD x 0 ≤ p.getD z 0) || !(A.all fun a => !(R a.f z && R z a.f) || decide (p.getD a.t 0 < p.getD x 0) || (R a.t z && R z a.t)) || (List.range n).any fun y => p.getD y 0 == p.getD x 0 && decide (y ≤ z)

theorem numbered_dec {A : List Ar} {n : Nat} {p : List Nat} {R : Nat → Nat → Bool} (hR : ∀ x y, x < n → (R x y = true ↔ Rch (Ec A) x y)) (hn : ∀ a ∈ A, a.f < n ∧ a.t < n) (h1 : chk1 n p R = true) (h2 : chk2 n p = true) (h3 : chk3 A p = true) (h4 : chk4 A n p R = true) : Numbered (Ec A) n (fun x => p.getD x 0) := by
  have hm : ∀ x y, x < n → y < n → ((R x y && R y x) = true ↔ Mut (Ec A) x y) := fun x y hx hy => by
    rw [Bool.and_eq_true, hR x y hx, hR y x hy]
    exact Iff.rfl
  simp only [chk1, chk2, chk3, chk4, List.all_eq_true, List.any_eq_true, List.mem_range] at h1 h2 h3 h4
  refine ⟨fun x y hx hy => ?_, fun x hx k hk => ?_, fun x y hxy => ?_, fun x z hx hz hxz hrd => ?_⟩
  · rw [← hm x y hx hy]
    have := h1 x hx y hy
    simp only [beq_iff_eq] at this
    constructor
    · intro e
      rw [← this]
      simpa using e
    · intro e
      rw [e] at this
      simpa using this
  · obtain ⟨y, hy, e⟩ := h2 x hx k hk
    exact ⟨y, hy, by simpa using e⟩
  · obtain ⟨a, ha, rfl, rfl⟩ := hxy
    simpa using h3 a ha
  · have := h4 x hx z hz
    simp only [Bool.or_eq_true] at this
    rcases this with (h | h) | h
    · simp at h
      exact absurd hxz (Nat.not_le.2 h)
    · exfalso
      rw [Bool.not_eq_true'] at h
      refine absurd h ?_
      rw [Bool.not_eq_false, List.all_eq_true]
      intro a ha
      have hnd := hn a ha
      by_cases e : (R a.f z && R z a.f) = true
      · rcases hrd a.f a.t ((hm a.f z hnd.1 hz).1 e) ⟨a, ha, rfl, rfl⟩ with h5 | h5
        · rw [e, decide_eq_true h5]; rfl
        · rw [e, (hm a.t z hnd.2 hz).2 h5]; simp
      · rw [Bool.not_eq_true] at e
        rw [e]; rfl
    · rw [List.any_eq_true] at h
      obtain ⟨y, hy, e⟩ := h
      rw [Bool.and_eq_true] at e
      exact ⟨y, by simpa using hy, by simpa using e.1, by simpa using e.2⟩

/-- awake's graph -/
def A0 : List Ar := [⟨0, 1, false⟩, ⟨1, 2, false⟩, ⟨2, 1, false⟩, ⟨3, 1, true⟩]
def R0 (x y : Nat) : Bool := x == y || y == 1 || y == 2
theorem ec0 {x y : Nat} (h : Ec A0 x y) : y = 1 ∨ y = 2 := by
  obtain ⟨a, ha, rfl, rfl⟩ := h
  simp [A0] at ha
  rcases ha with rfl | rfl | rfl | rfl <;> simp
theorem rch0 (x y : Nat) (hx : x < 4) : R0 x y = true ↔ Rch (Ec A0) x y := by
  have e : ∀ a ∈ A0, Ec A0 a.f a.t := fun a ha => ⟨a, ha, rfl, rfl⟩
  have e01 : Ec A0 0 1 := e ⟨0, 1, false⟩ (by simp [A0])
  have e12 : Ec A0 1 2 := e ⟨1, 2, false⟩ (by simp [A0])
  have e21 : Ec A0 2 1 := e ⟨2, 1, false⟩ (by simp [A0])
  have e31 : Ec A0 3 1 := e ⟨3, 1, true⟩ (by simp [A0])
  have h1 : Rch (Ec A0) x 1 := by
    have : x = 0 ∨ x = 1 ∨ x = 2 ∨ x = 3 := by omega
    rcases this with rfl | rfl | rfl | rfl
    · exact .one e01
    · exact .refl
    · exact .one e21
    · exact .one e31
  constructor
  · intro h
    simp [R0] at h
    rcases h with (rfl | rfl) | rfl
    · exact .refl
    · exact h1
    · exact h1.tail e12
  · intro h
    have := h.closed (M := fun y => x = y ∨ y = 1 ∨ y = 2) (fun a b _ hab => .inr (ec0 hab)) (.inl rfl)
    simp [R0]
    omega
theorem node0 : ∀ a ∈ A0, a.f < 4 ∧ a.t < 4 := fun a ha => by
  simp [A0] at ha
  rcases ha with rfl | rfl | rfl | rfl <;> simp
theorem num0 : Numbered (Ec A0) 4 (fun x => [1, 0, 0, 2].getD x 0) := numbered_dec rch0 node0 (by decide) (by decide) (by decide) (by decide)
theorem ec_lt {A : List Ar} {n : Nat} (hn : ∀ a ∈ A, a.f < n ∧ a.t < n) : ∀ x y, Ec A x y → x < n ∧ y < n := fun x y h => by
  obtain ⟨a, ha, rfl, rfl⟩ := h
  exact hn a ha
theorem list_getD {l m : List Nat} {n : Nat} (hl : l.length = n) (hm : m.length = n) (h : ∀ x, x < n → l.getD x 0 = m.getD x 0) : l = m := by
  refine List.ext_getElem (by omega) fun i h1 h2 => ?_
  have := h i (by omega)
  rwa [List.getD_eq_getElem?_getD, List.getD_eq_getElem?_getD, List.getElem?_eq_getElem h1, List.getElem?_eq_getElem h2] at this
theorem parts0 {p : List Nat} (hl : p.length = 4) (h : Numbered (Ec A0) 4 (fun x => p.getD x 0)) : p = [1, 0, 0, 2] :=
  list_getD (n := 4) hl rfl (fun x hx => h.uniq (ec_lt node0) num0 x hx)
theorem least0 : Least A0 4 (fun x => [0, 0, 0, 1].getD x 0) := by
  refine ⟨fun a ha => ?_, fun t ht x hx => ?_⟩
  · simp [A0] at ha
    rcases ha with rfl | rfl | rfl | rfl <;> simp [ngN]
  · have h := ht ⟨3, 1, true⟩ (by simp [A0])
    simp [ngN] at h
    have : x = 0 ∨ x = 1 ∨ x = 2 ∨ x = 3 := by omega
    rcases this with rfl | rfl | rfl | rfl <;> simp
    omega
theorem levels0 {s : List Nat} (hl : s.length = 4) (h : Least A0 4 (fun x => s.getD x 0)) : s = [0, 0, 0, 1] :=
  list_getD (n := 4) hl rfl (fun x hx => h.uniq least0 x hx)
theorem noBad0 {p : List Nat} (h : Numbered (Ec A0) 4 (fun x => p.getD x 0)) : NoBad A0 (fun x => p.getD x 0) := fun a ha hg e => by
  have hu := h.uniq (ec_lt node0) num0
  simp [A0] at ha
  rcases ha with rfl | rfl | rfl | rfl
  · simp at hg
  · simp at hg
  · simp at hg
  · have h3 := hu 3 (by omega)
    have h1 := hu 1 (by omega)
    simp only at h3 h1 e
    rw [h3, h1] at e
    simp at e
theorem reach0 {m : List Bool} (h : ∀ x, Mk m x ↔ ∃ k ∈ ([0] : List Int), Rch (Ec A0) k.toNat x) : (List.range 4).filter (fun k => m.getD k false) = [0, 1, 2] := by
  have h2 : ∀ x, m.getD x false = R0 0 x := fun x => by
    rw [Bool.eq_iff_iff, rch0 0 x (by omega)]
    rw [show (m.getD x false = true) = Mk m x from rfl, h x]
    simp
  rw [show (fun k => m.getD k false) = R0 0 from funext h2]
  decide
/-- its other graph -/
def A1 : List Ar := [⟨1, 1, true⟩]
theorem ring1 {p : List Nat} (h : Numbered (Ec A1) 2 (fun x => p.getD x 0)) : (List.range 2).filter (fun k => decide (((p.getD k 0 : Nat) : Int) = badL p A1)) = [1] := by
  have hb : badL p A1 = ((p.getD 1 0 : Nat) : Int) := by simp [badL, A1, badF]
  have hne : p.getD 0 0 ≠ p.getD 1 0 := fun e => by
    have := ((h.same 0 1 (by omega) (by omega)).1 e).1
    have := this.closed (M := fun y => y = 0) (fun a b ha hab => by
      obtain ⟨x, hx, rfl, rfl⟩ := hab
      simp [A1] at hx
      subst hx
      simp at ha) rfl
    omega
  rw [hb]
  have h0 : decide (((p.getD 0 0 : Nat) : Int) = ((p.getD 1 0 : Nat) : Int)) = false := decide_eq_false (by omega)
  simp only [show List.range 2 = [0, 1] from rfl, List.filter_cons, h0, decide_true, if_true, List.filter_nil]
  rfl

/-- numbers read as ints -/
theorem Rd.ints {w : World} {v : Value} {l : List Nat} (h : Rd encN 1 w v l) : Rd encI 1 w v (l.map fun x => ((x : Nat) : Int)) := by
  obtain ⟨ao, cap, rfl, h1, h2, h3, h4⟩ := h.ex
  refine ⟨ao, cap, by rw [List.length_map], by rw [List.length_map]; exact h1, h2, h3, fun hl => ?_⟩
  obtain ⟨b, o, rfl, hb, hc⟩ := h4 (by simpa using hl)
  refine ⟨b, o, rfl, hb, fun j hj i hi => ?_⟩
  rw [hc j (by simpa using hj) i hi, List.getElem_map]
  rfl
theorem Arr.ints {w : World} {g n : Nat} {l : List Nat} (h : Arr 3 eN w g n l) : Rd encI 1 w (.slice (some ⟨g, 0, none⟩) n n) (l.map fun x => ((x : Nat) : Int)) := Rd.ints (show Rd encN 1 w _ l from h.rd)
/-- a slice that was just made -/
theorem Rd.lit {α : Type} {enc : α → List Value} {k : Nat} (hk : ∀ x, (enc x).length = k) (w : World) (l : List α) (c : Array Value) (t : TypeId) (hc : c = (l.flatMap enc).toArray) (hl : l.length ≤ 1000) : Rd enc k (w.alloc (.cells c t (0, 0))) (.slice (some ⟨w.heap.size, 0, none⟩) l.length l.length) l := by
  refine ⟨some ⟨w.heap.size, 0, none⟩, l.length, rfl, Nat.le_refl _, by unfold maxLen; omega, (by intro h; cases h), fun _ => ⟨w.heap.size, 0, rfl, by simp, fun j hj i hi => ?_⟩⟩
  have hb := heap_alloc_new w (.cells c t (0, 0))
  simp only [World.cell?, hb]
  rw [Nat.zero_add, ← flat_get hk l j i hj hi, hc]
  simp
end Go.Proofs.Ytmlpkjeaieljfab

