/- What StrataOrdered and StrataLeast call: held, Reach from one node, CopyArcs; the mathematics of the order. -/
import Derived.Test.YtmlpkjeaieljfabFt
import Derived.Test.YtmlpkjeaieljfabLl
namespace Go.Proofs.Ytmlpkjeaieljfab
open Go.RowKit Go.PlainAid

/-- what held answers -/
def Hld (A : List Ar) (p : List Nat) (q k : Nat) : Prop := ∃ a ∈ A, p.getD a.f 0 = q ∧ p.getD a.t 0 ≠ q ∧ k ≤ p.getD a.t 0
def HldR (w w' : World) (e : Ending) (A : List Ar) (p : List Nat) (q k : Nat) : Prop := ∃ b : Bool, e = .returned (.bool b) ∧ (b = true ↔ Hld A p q k) ∧ w' = w

theorem fault_small {N : Nat} {A : List Ar} (h1 : N ≤ 4096) (h2 : A.length ≤ 262144) (h3 : ∀ a ∈ A, a.f < N ∧ a.t < N) : faultZ (N : Int) (A.map Ar.z) = 0 := by
  unfold faultZ
  rw [if_neg (by omega), if_neg (by rw [List.length_map]; omega), if_pos]
  rw [List.all_eq_true]
  intro z hz
  obtain ⟨a, ha, rfl⟩ := List.mem_map.1 hz
  have := h3 a ha
  unfold arcB nodeB
  rw [Bool.and_eq_true]
  exact ⟨decide_eq_true ⟨by show (0 : Int) ≤ (a.f : Int); omega, by show (a.f : Int) < N; omega⟩, decide_eq_true ⟨by show (0 : Int) ≤ (a.t : Int); omega, by show (a.t : Int) < N; omega⟩⟩
theorem copyA_own (v : Value) (A : List Ar) (w : World) (h : Rd encA 3 w v A) (hlen : A.length ≤ 262144) : Calls Try.prog 9 #[v] w fun e w' => ∃ v', e = .returned v' ∧ Rd encA 3 w' v' A ∧ Keep [] w w' := by
  refine (copyA_any v (A.map Ar.z) w h.z (by rw [List.length_map]; omega)).mono ?_
  rintro e w' ⟨v', rfl, h1⟩
  exact ⟨v', rfl, (h1.row.rd encZ_len).a, h1.keep⟩
/-- what Reach from one node answers -/
def RoR (w w' : World) (N : Nat) (A : List Ar) (a : Nat) (e : Ending) : Prop := ∃ b c, ∃ R : List Nat, e = .returned (.tuple #[.slice b R.length c, .int .i64 0]) ∧ Rd encI 1 w' (.slice b R.length c) (ofN R) ∧ (∀ x, x ∈ R ↔ x < N ∧ Rch (Ec A) a x) ∧ Keep [] w w'
theorem reach_one (N a : Nat) (v : Value) (A : List Ar) (w : World) (o : Nat × Nat) (h : Rd encA 3 w v A) (h1 : N ≤ 4096) (h2 : A.length ≤ 262144) (h3 : ∀ a ∈ A, a.f < N ∧ a.t < N) (ha : a < N) :
    Calls Try.prog 11 #[.int .i64 (N : Int), v, .slice (some ⟨w.heap.size, 0, none⟩) 1 1] (w.alloc (.cells #[.int .i64 (a : Int)] 3 o)) fun e w' => RoR w w' N A a e := by
  have hu : Rd encI 1 (w.alloc (.cells #[.int .i64 (a : Int)] 3 o)) (.slice (some ⟨w.heap.size, 0, none⟩) 1 1) [(a : Int)] := by
    refine ⟨some ⟨w.heap.size, 0, none⟩, 1, rfl, by simp, by simp [maxLen], (by intro h; cases h), fun _ => ⟨w.heap.size, 0, rfl, by simp, fun j hj q hq => ?_⟩⟩
    have hb := heap_alloc_new w (.cells #[.int .i64 (a : Int)] 3 o)
    obtain rfl : j = 0 := by simpa using hj
    obtain rfl : q = 0 := by omega
    simp only [World.cell?, hb]
    rfl
  refine (reach_yes N v _ A [(a : Int)] _ (h.keep (Keep.alloc1 w _) (Off.nil _)) (fault_small h1 h2 h3) hu (fun x hx => by simp [Value.ownBlock] at hx; subst hx; simp)).mono ?_
  intro e w' hr
  unfold RcR at hr
  rw [if_pos (by simp [nodeB]; omega)] at hr
  obtain ⟨v', m, rfl, e1, e2⟩ := hr
  obtain ⟨b, c, rfl⟩ := (e1.row.rd encN_len).form'
  refine ⟨b, c, _, rfl, (e1.row.rd encN_len).ints, fun x => ?_, (Keep.alloc1 w _).trans' e1.keep⟩
  rw [List.mem_filter, List.mem_range]
  have := e2 x
  simp at this
  exact and_congr_right fun _ => this
theorem mem_ofN {R : List Nat} {x : Nat} : ((x : Int) ∈ ofN R) ↔ x ∈ R := by
  unfold ofN
  rw [List.mem_map]
  exact ⟨fun ⟨y, hy, e⟩ => by have : y = x := by omega
                              rwa [← this], fun h => ⟨x, h, rfl⟩⟩
/-- what has says of such a list -/
theorem has_one (v : Value) (R : List Nat) (x : Nat) (w : World) (h : Rd encI 1 w v (ofN R)) : ∃ b : Bool, (b = true ↔ x ∈ R) ∧ Calls Try.prog 12 #[v, .int .i64 (x : Int)] w fun e w' => e = .returned (.bool b) ∧ w' = w :=
  ⟨decide ((x : Int) ∈ ofN R), by rw [decide_eq_true_iff, mem_ofN], has_any v (ofN R) x w h⟩

/-- of two parts the one with the least node comes first, if it could -/
theorem order_held {A : List Ar} {n : Nat} {p : List Nat} (h : Numbered (Ec A) n (fun x => p.getD x 0)) (hn : ∀ a ∈ A, a.f < n ∧ a.t < n) {q k x z : Nat} (hx : x < n) (hz : z < n) (hkx : p.getD x 0 = k) (hqz : p.getD z 0 = q) (hkq : k < q) (hl : ∀ y, y < x → p.getD y 0 ≠ k) (hzx : z < x) : Hld A p q k := by
  refine Classical.byContradiction fun hh => ?_
  obtain ⟨y, hy, e1, e2⟩ := h.least x z hx hz (by simp only [hkx, hqz]; omega) (fun u v hu huv => by
    obtain ⟨a, ha, rfl, rfl⟩ := huv
    have hnd := hn a ha
    have hu2 : p.getD a.f 0 = q := by rw [← hqz]; exact (h.same a.f z hnd.1 hz).2 hu
    by_cases e : p.getD a.t 0 = q
    · exact .inr ((h.same a.t z hnd.2 hz).1 (by simp only [hqz]; exact e))
    · refine .inl ?_
      simp only [hkx]
      exact Nat.lt_of_not_le fun hle => hh ⟨a, ha, hu2, e, hle⟩)
  simp only [hkx] at e1
  exact hl y (by omega) e1
end Go.Proofs.Ytmlpkjeaieljfab

