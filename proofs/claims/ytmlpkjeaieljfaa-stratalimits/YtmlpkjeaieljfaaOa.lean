/- What StrataOrdered and StrataLeast call: held, Reach from one node, CopyArcs; the mathematics of the order. -/
import Derived.Test.YtmlpkjeaieljfaaFt
import Derived.Test.YtmlpkjeaieljfaaLl
namespace Go.Proofs.Ytmlpkjeaieljfaa
open Go.RowKit Go.PlainAid

/-- what held answers -/
def Hld (A : List Ar) (p : List Nat) (q k : Nat) : Prop := ∃ a ∈ A, p.getD a.f 0 = q ∧ p.getD a.t 0 ≠ q ∧ k ≤ p.getD a.t 0
def HldR (w w' : World) (e : Ending) (A : List Ar) (p : List Nat) (q k : Nat) : Prop := ∃ b : Bool, e = .returned (.bool b) ∧ (b = true ↔ Hld A p q k) ∧ w' = w

set_option maxRecDepth 1000000 in
set_option maxHeartbeats 2000000 in
theorem held_any (n g q k : Nat) (va : Value) (A : List Ar) (p : List Nat) (w : World) (hA : Rd encA 3 w va A) (hnd : ∀ a ∈ A, a.f < n ∧ a.t < n) (hp : Arr 3 eN w g n p) :
    Calls Try.prog 28 #[va, .slice (some ⟨g, 0, none⟩) n n, .int .i64 (q : Int), .int .i64 (k : Int)] w fun e w' => HldR w w' e A p q k := by
  obtain ⟨ao, cap, rfl, hc1, hc2⟩ := hA.form
  have HA : Hid (Rd encA 3 w (.slice ao A.length cap) A ∧ (∀ a ∈ A, a.f < n ∧ a.t < n) ∧ Arr 3 eN w g n p) := ⟨hA, hnd, hp⟩
  clear hA hnd hp
  go_enter Try.func28, Try.ntmps28
  go_wp2
  go_loopw [9] (fun iv wr => ∃ i : Nat, iv = .int .i64 (i : Int) ∧ i ≤ A.length ∧ Eqx wr w ∧ Hid (∀ a ∈ A.take i, ¬ (p.getD a.f 0 = q ∧ p.getD a.t 0 ≠ q ∧ k ≤ p.getD a.t 0))) (fun iv _ => A.length - (intOf iv).toNat)
  case atStart => exact ⟨0, rfl, Nat.zero_le _, rfl, fun a ha => by simp at ha⟩
  case round =>
    obtain ⟨i, rfl, hi, he, HI⟩ := hrel
    obtain rfl := (show wr = w from he).symm
    clear he
    by_cases hlt : i < A.length
    · have hlti : (i : Int) < (A.length : Int) := by omega
      obtain ⟨b, o, c, he, hb, e0, e1, -⟩ := HA.out.1.arcA i hlt
      simp at he
      obtain ⟨rfl, rfl⟩ := he
      have hmem := List.getElem_mem hlt
      have hnd := HA.out.2.1 A[i] hmem
      have HN : Hid (¬ (p.getD A[i].f 0 = q ∧ p.getD A[i].t 0 ≠ q ∧ k ≤ p.getD A[i].t 0) → ∀ a ∈ A.take (i + 1), ¬ (p.getD a.f 0 = q ∧ p.getD a.t 0 ≠ q ∧ k ≤ p.getD a.t 0)) := fun h a ha => by
        rw [List.take_succ_eq_append_getElem hlt] at ha
        rcases List.mem_append.1 ha with h3 | h3
        · exact HI.out a h3
        · simp at h3; subst h3; exact h
      have HY : Hid ((p.getD A[i].f 0 = q ∧ p.getD A[i].t 0 ≠ q ∧ k ≤ p.getD A[i].t 0) → HldR w w (.returned (.bool true)) A p q k) := fun h => ⟨true, rfl, ⟨fun _ => ⟨A[i], hmem, h⟩, fun _ => rfl⟩, rfl⟩
      generalize A[i].f = f at e0 hnd HN HY
      generalize A[i].t = t at e1 hnd HN HY
      have hfi : (f : Int) < (n : Int) := by omega
      have hti : (t : Int) < (n : Int) := by omega
      have g0 : w.cell? ⟨g, f, none⟩ = some (.int .i64 (p.getD f 0 : Int)) := HA.out.2.2.cell 0 f hnd.1
      have g1 : w.cell? ⟨g, t, none⟩ = some (.int .i64 (p.getD t 0 : Int)) := HA.out.2.2.cell 0 t hnd.2
      generalize p.getD f 0 = x at g0 HN HY
      generalize p.getD t 0 = y at g1 HN HY
      clear hmem HI
      by_cases h1 : x = q
      · have q1 : ((x : Int) == (q : Int)) = true := by simp [h1]
        by_cases h2 : y = q
        · have q2 : ((y : Int) != (q : Int)) = false := by simp [h2]
          have HX := HN.out (fun h => h.2.1 h2)
          have HX2 : Hid (type_of% HX) := HX
          clear HX HN HY h1 h2
          go_wp2
          go_roundw
          case rel => exact ⟨i + 1, by go_num, by omega, rfl, HX2⟩
          case measure => simp [intOf]; omega
        · have q2 : ((y : Int) != (q : Int)) = true := by simp; omega
          by_cases h3 : k ≤ y
          · have q3 : (k : Int) ≤ (y : Int) := by omega
            have HX : Hid (HldR w w (.returned (.bool true)) A p q k) := HY.out ⟨h1, h2, h3⟩
            clear HN HY h1 h2
            go_wp2
            go_ret
            exact HX.out
          · have q3 : ¬ (k : Int) ≤ (y : Int) := by omega
            have HX := HN.out (fun h => h3 h.2.2)
            have HX2 : Hid (type_of% HX) := HX
            clear HX HN HY h1 h2
            go_wp2
            go_roundw
            case rel => exact ⟨i + 1, by go_num, by omega, rfl, HX2⟩
            case measure => simp [intOf]; omega
      · have q1 : ((x : Int) == (q : Int)) = false := by simp; omega
        have HX := HN.out (fun h => h1 h.1)
        have HX2 : Hid (type_of% HX) := HX
        clear HX HN HY h1
        go_wp2
        go_roundw
        case rel => exact ⟨i + 1, by go_num, by omega, rfl, HX2⟩
        case measure => simp [intOf]; omega
    · have hlti : ¬ (i : Int) < (A.length : Int) := by omega
      have HE : Hid (HldR w w (.returned (.bool false)) A p q k) := ⟨false, rfl, ⟨(fun h => by cases h), fun ⟨a, ha, h⟩ => absurd h (HI.out a (by rw [List.take_of_length_le (by omega)]; exact ha))⟩, rfl⟩
      clear HI
      go_wp2
      go_ret
      exact HE.out

theorem fault_small {N : Nat} {A : List Ar} (h1 : N ≤ 4096) (h2 : A.length ≤ 262144) (h3 : ∀ a ∈ A, a.f < N ∧ a.t < N) : faultZ (N : Int) (A.map Ar.z) = 0 := by
  unfold faultZ
  rw [if_neg (by omega), if_neg (by rw [List.length_map]; omega), if_pos]
  rw [List.all_eq_true]
  intro z hz
  obtain ⟨a, ha, rfl⟩ := List.mem_map.1 hz
  have := h3 a ha
  unfold arcB nodeB
  rw [Bool.and_eq_true]
  exact ⟨decide_eq_true ⟨by show (0 : Int) ≤ (a.f : Int); omega, by show (a.f : Int) < N; omega⟩, decide_eq_true ⟨by show (0 : Int) ≤ (a.t : Int); omega, by show (a.t : Int) < N; omega⟩⟩
theorem copyA_own (v : Value) (A : List Ar) (w : World) (h : Rd encA 3 w v A) (hlen : A.length ≤ 262144) : Calls Try.prog 25 #[v] w fun e w' => ∃ v', e = .returned v' ∧ Rd encA 3 w' v' A ∧ Keep [] w w' := by
  refine (copyA_any v (A.map Ar.z) w h.z (by rw [List.length_map]; omega)).mono ?_
  rintro e w' ⟨v', rfl, h1⟩
  exact ⟨v', rfl, (h1.row.rd encZ_len).a, h1.keep⟩
/-- what Reach from one node answers -/
def RoR (w w' : World) (N : Nat) (A : List Ar) (a : Nat) (e : Ending) : Prop := ∃ b c, ∃ R : List Nat, e = .returned (.tuple #[.slice b R.length c, .int .i64 0]) ∧ Rd encI 1 w' (.slice b R.length c) (ofN R) ∧ (∀ x, x ∈ R ↔ x < N ∧ Rch (Ec A) a x) ∧ Keep [] w w'
theorem reach_one (N a : Nat) (v : Value) (A : List Ar) (w : World) (o : Nat × Nat) (h : Rd encA 3 w v A) (h1 : N ≤ 4096) (h2 : A.length ≤ 262144) (h3 : ∀ a ∈ A, a.f < N ∧ a.t < N) (ha : a < N) :
    Calls Try.prog 21 #[.int .i64 (N : Int), v, .slice (some ⟨w.heap.size, 0, none⟩) 1 1] (w.alloc (.cells #[.int .i64 (a : Int)] 3 o)) fun e w' => RoR w w' N A a e := by
  have hu : Rd encI 1 (w.alloc (.cells #[.int .i64 (a : Int)] 3 o)) (.slice (some ⟨w.heap.size, 0, none⟩) 1 1) [(a : Int)] := by
    refine ⟨some ⟨w.heap.size, 0, none⟩, 1, rfl, by simp, by simp [maxLen], (by intro h; cases h), fun _ => ⟨w.heap.size, 0, rfl, by simp, fun j hj q hq => ?_⟩⟩
    have hb := heap_alloc_new w (.cells #[.int .i64 (a : Int)] 3 o)
    obtain rfl : j = 0 := by simpa using hj
    obtain rfl : q = 0 := by omega
    simp only [World.cell?, hb]
    rfl
  refine (reach_yes N v _ A [(a : Int)] _ (h.keep (Keep.alloc1 w _) (Off.nil _)) (fault_small h1 h2 h3) hu (fun x hx => by simp [Value.ownBlock] at hx; subst hx; simp)).mono ?_
  intro e w' hr
  unfold RcR at hr
  rw [if_pos (by simp [nodeB]; omega)] at hr
  obtain ⟨v', m, rfl, e1, e2⟩ := hr
  obtain ⟨b, c, rfl⟩ := (e1.row.rd encN_len).form'
  refine ⟨b, c, _, rfl, (e1.row.rd encN_len).ints, fun x => ?_, (Keep.alloc1 w _).trans' e1.keep⟩
  rw [List.mem_filter, List.mem_range]
  have := e2 x
  simp at this
  exact and_congr_right fun _ => this
theorem mem_ofN {R : List Nat} {x : Nat} : ((x : Int) ∈ ofN R) ↔ x ∈ R := by
  unfold ofN
  rw [List.mem_map]
  exact ⟨fun ⟨y, hy, e⟩ => by have : y = x := by omega
                              rwa [← this], fun h => ⟨x, h, rfl⟩⟩
/-- what has says of such a list -/
theorem has_one (v : Value) (R : List Nat) (x : Nat) (w : World) (h : Rd encI 1 w v (ofN R)) : ∃ b : Bool, (b = true ↔ x ∈ R) ∧ Calls Try.prog 26 #[v, .int .i64 (x : Int)] w fun e w' => e = .returned (.bool b) ∧ w' = w :=
  ⟨decide ((x : Int) ∈ ofN R), by rw [decide_eq_true_iff, mem_ofN], has_any v (ofN R) x w h⟩

/-- of two parts the one with the least node comes first, if it could -/
theorem order_held {A : List Ar} {n : Nat} {p : List Nat} (h : Numbered (Ec A) n (fun x => p.getD x 0)) (hn : ∀ a ∈ A, a.f < n ∧ a.t < n) {q k x z : Nat} (hx : x < n) (hz : z < n) (hkx : p.getD x 0 = k) (hqz : p.getD z 0 = q) (hkq : k < q) (hl : ∀ y, y < x → p.getD y 0 ≠ k) (hzx : z < x) : Hld A p q k := by
  refine Classical.byContradiction fun hh => ?_
  obtain ⟨y, hy, e1, e2⟩ := h.least x z hx hz (by simp only [hkx, hqz]; omega) (fun u v hu huv => by
    obtain ⟨a, ha, rfl, rfl⟩ := huv
    have hnd := hn a ha
    have hu2 : p.getD a.f 0 = q := by rw [← hqz]; exact (h.same a.f z hnd.1 hz).2 hu
    by_cases e : p.getD a.t 0 = q
    · exact .inr ((h.same a.t z hnd.2 hz).1 (by simp only [hqz]; exact e))
    · refine .inl ?_
      simp only [hkx]
      exact Nat.lt_of_not_le fun hle => hh ⟨a, ha, hu2, e, hle⟩)
  simp only [hkx] at e1
  exact hl y (by omega) e1
end Go.Proofs.Ytmlpkjeaieljfaa
