/- The document's ready. -/
import Derived.Test.YtmlpkjeaieljfaaDm
import Derived.Test.YtmlpkjeaieljfaaDb
namespace Go.Proofs.Ytmlpkjeaieljfaa
open Go.RowKit Go.PlainAid

def encW (n g : Nat) : List Value := [.slice (some ⟨g, 0, none⟩) n n]
theorem encW_len (n g : Nat) : (encW n g).length = 1 := rfl
/-- ways: for each node what it leads to -/
structure Wy (w : World) (v : Value) (n : Nat) (A : List Ar) (G : List Nat) (R : Nat → Nat → Bool) : Prop where
  rd : Rd (encW n) 1 w v G
  len : G.length = n
  cell : ∀ i j, i < n → j < n → w.cell? ⟨G.getD i 0, j, none⟩ = some (.bool (R i j))
  lt : ∀ i, i < n → G.getD i 0 < w.heap.size
  spec : ∀ i j, i < n → j < n → (R i j = true ↔ Rch (Ec A) i j)
theorem Wy.keep {w w' : World} {v : Value} {n : Nat} {A : List Ar} {G : List Nat} {R : Nat → Nat → Bool} {F : List Nat} (h : Wy w v n A G R) (k : Keep F w w') (h1 : Off v F) (h2 : ∀ i, i < n → G.getD i 0 ∉ F) : Wy w' v n A G R :=
  ⟨h.rd.keep k h1, h.len, fun i j hi hj => k.cell' (h.cell i j hi hj) (h2 i hi), fun i hi => Nat.lt_of_lt_of_le (h.lt i hi) k.size, h.spec⟩
theorem Wy.at {w : World} {v : Value} {n : Nat} {A : List Ar} {G : List Nat} {R : Nat → Nat → Bool} (h : Wy w v n A G R) (i : Nat) (hi : i < n) : ∃ b o cap, v = .slice (some ⟨b, o, none⟩) n cap ∧ w.cell? ⟨b, o + i, none⟩ = some (.slice (some ⟨G.getD i 0, 0, none⟩) n n) := by
  have hl := h.len
  have hi2 : i < G.length := by omega
  obtain ⟨b, o, cap, e, -, hc⟩ := h.rd.at i hi2
  have := hc 0 (by omega)
  rw [Nat.mul_one, Nat.add_zero] at this
  refine ⟨b, o, cap, by rw [e, hl], ?_⟩
  rw [this, List.getD_eq_getElem?_getD, List.getElem?_eq_getElem hi2]
  rfl
theorem Wy.mut {w : World} {v : Value} {n : Nat} {A : List Ar} {G : List Nat} {R : Nat → Nat → Bool} (h : Wy w v n A G R) {i j : Nat} (hi : i < n) (hj : j < n) : (R i j = true ∧ R j i = true) ↔ Mut (Ec A) i j := by
  rw [h.spec i j hi hj, h.spec j i hj hi]
  exact Iff.rfl

/-- what ready answers -/
def RdR (w w' : World) (A : List Ar) (O : List Int) (i : Nat) (e : Ending) : Prop := ∃ b : Bool, e = .returned (.bool b) ∧ (b = true ↔ Rdy (Ec A) (fun x => O.getD x (-1)) i) ∧ Keep [] w w'

set_option maxRecDepth 1000000 in
set_option maxHeartbeats 4000000 in
theorem ready_any (n go i : Nat) (va vw : Value) (A : List Ar) (G : List Nat) (R : Nat → Nat → Bool) (O : List Int) (w : World) (hA : Rd encA 3 w va A) (hnd : ∀ a ∈ A, a.f < n ∧ a.t < n) (hO : Arr 3 eI w go n O) (hW : Wy w vw n A G R) (hi : i < n) :
    Calls Try.prog 49 #[va, .slice (some ⟨go, 0, none⟩) n n, vw, .int .i64 (i : Int)] w fun e w' => RdR w w' A O i e := by
  obtain ⟨ao, cap, rfl, hc1, hc2⟩ := hA.form
  obtain ⟨gw, ow, cw, rfl, -⟩ := hW.at i hi
  have hii : (i : Int) < (n : Int) := by omega
  have HA : Hid (Rd encA 3 w (.slice ao A.length cap) A ∧ (∀ a ∈ A, a.f < n ∧ a.t < n) ∧ Arr 3 eI w go n O ∧ Wy w (.slice (some ⟨gw, ow, none⟩) n cw) n A G R) := ⟨hA, hnd, hO, hW⟩
  clear hA hnd hO hW
  go_enter Try.func49, Try.ntmps49
  go_wp2
  go_loopw [9] (fun kv wr => ∃ k : Nat, kv = .int .i64 (k : Int) ∧ k ≤ A.length ∧ Hid (Keep [] w wr ∧ ∀ a ∈ A.take k, Mut (Ec A) a.f i → 0 ≤ O.getD a.t (-1) ∨ Mut (Ec A) a.t i)) (fun kv _ => A.length - (intOf kv).toNat)
  case atStart => exact ⟨0, rfl, Nat.zero_le _, Keep.refl _ _, fun a ha => by simp at ha⟩
  case round =>
    obtain ⟨k, rfl, hk, HI⟩ := hrel
    by_cases hlt : k < A.length
    · have hlti : (k : Int) < (A.length : Int) := by omega
      have HW : Hid (Wy wr (.slice (some ⟨gw, ow, none⟩) n cw) n A G R ∧ Arr 3 eI wr go n O ∧ Keep [] w wr) := ⟨HA.out.2.2.2.keep HI.out.1 (Off.nil _) (by simp), HA.out.2.2.1.keep HI.out.1 (by simp), HI.out.1⟩
      obtain ⟨bb, oo, cc, he, hb, e0, e1, e2⟩ := (HA.out.1.keep HI.out.1 (Off.nil _)).arcA k hlt
      simp at he
      obtain ⟨rfl, rfl⟩ := he
      have hmem := List.getElem_mem hlt
      have hnd := HA.out.2.1 A[k] hmem
      have HN : Hid ((Mut (Ec A) A[k].f i → 0 ≤ O.getD A[k].t (-1) ∨ Mut (Ec A) A[k].t i) → ∀ a ∈ A.take (k + 1), Mut (Ec A) a.f i → 0 ≤ O.getD a.t (-1) ∨ Mut (Ec A) a.t i) := fun h a ha => by
        rw [List.take_succ_eq_append_getElem hlt] at ha
        rcases List.mem_append.1 ha with h3 | h3
        · exact HI.out.2 a h3
        · simp at h3; subst h3; exact h
      have HB : Hid (Mut (Ec A) A[k].f i → ¬ 0 ≤ O.getD A[k].t (-1) → ¬ Mut (Ec A) A[k].t i → ¬ Rdy (Ec A) (fun x => O.getD x (-1)) i) := fun h1 h2 h3 h4 => by
        rcases h4 A[k].f A[k].t h1 ⟨A[k], hmem, rfl, rfl⟩ with h | h
        · exact h2 h
        · exact h3 h
      generalize A[k].f = f at e0 hnd HN HB
      generalize A[k].t = t at e1 hnd HN HB
      generalize A[k].g = gg at e2
      clear hmem
      have hfi : (f : Int) < (n : Int) := by omega
      have hti : (t : Int) < (n : Int) := by omega
      have q1 : wr.cell? ⟨gw, ow + i, none⟩ = some (.slice (some ⟨G.getD i 0, 0, none⟩) n n) := by
        obtain ⟨b, o, c, e, q⟩ := HW.out.1.at i hi
        simp at e
        obtain ⟨⟨rfl, rfl⟩, rfl⟩ := e
        exact q
      have q2 : wr.cell? ⟨gw, ow + f, none⟩ = some (.slice (some ⟨G.getD f 0, 0, none⟩) n n) := by
        obtain ⟨b, o, c, e, q⟩ := HW.out.1.at f hnd.1
        simp at e
        obtain ⟨⟨rfl, rfl⟩, rfl⟩ := e
        exact q
      have q3 : wr.cell? ⟨gw, ow + t, none⟩ = some (.slice (some ⟨G.getD t 0, 0, none⟩) n n) := by
        obtain ⟨b, o, c, e, q⟩ := HW.out.1.at t hnd.2
        simp at e
        obtain ⟨⟨rfl, rfl⟩, rfl⟩ := e
        exact q
      have r1 := HW.out.1.cell i f hi hnd.1
      have r2 := HW.out.1.cell f i hnd.1 hi
      have r3 := HW.out.1.cell i t hi hnd.2
      have r4 := HW.out.1.cell t i hnd.2 hi
      have r5 : wr.cell? ⟨go, t, none⟩ = some (.int .i64 (O.getD t (-1))) := HW.out.2.1.cell (-1) t hnd.2
      have HM1 : Hid ((R f i = true ∧ R i f = true) ↔ Mut (Ec A) f i) := HW.out.1.mut hnd.1 hi
      have HM2 : Hid ((R t i = true ∧ R i t = true) ↔ Mut (Ec A) t i) := HW.out.1.mut hnd.2 hi
      have HK : Hid (Keep [] w wr) := HW.out.2.2
      have z1 : gw < wr.heap.size := World.block_lt_of_cell? _ _ q1
      have z2 : G.getD i 0 < wr.heap.size := HW.out.1.lt i hi
      have z3 : G.getD f 0 < wr.heap.size := HW.out.1.lt f hnd.1
      have z4 : G.getD t 0 < wr.heap.size := HW.out.1.lt t hnd.2
      have z5 : go < wr.heap.size := HW.out.2.1.lt
      clear HW HI
      generalize R i f = x1 at r1 HM1
      generalize R f i = x2 at r2 HM1
      generalize R i t = x3 at r3 HM2
      generalize R t i = x4 at r4 HM2
      generalize O.getD t (-1) = ot at r5 HN HB
      generalize G.getD i 0 = gi at *
      generalize G.getD f 0 = gf at *
      generalize G.getD t 0 = gt at *
      cases x1 with
      | false =>
        cases x3 with
        | false =>
          have HX : Hid (∀ a ∈ A.take (k + 1), Mut (Ec A) a.f i → 0 ≤ O.getD a.t (-1) ∨ Mut (Ec A) a.t i) := HN.out (fun h => by have := HM1.out.2 h; simp at this)
          clear HM1 HM2 HN
          clear HB
          go_wp2
          go_quiet (fail)
          go_wp2
          go_quiet (fail)
          go_wp2
          go_roundw
          case rel => exact ⟨k + 1, by go_num, by omega, ((HK.out.alloc _).drewN _), HX.out⟩
          case measure => simp [intOf]; omega
        | true =>
          cases x4 with
          | false =>
            have HX : Hid (∀ a ∈ A.take (k + 1), Mut (Ec A) a.f i → 0 ≤ O.getD a.t (-1) ∨ Mut (Ec A) a.t i) := HN.out (fun h => by have := HM1.out.2 h; simp at this)
            clear HM1 HM2 HN
            clear HB
            go_wp2
            go_quiet (fail)
            go_wp2
            go_quiet (fail)
            go_wp2
            go_roundw
            case rel => exact ⟨k + 1, by go_num, by omega, ((HK.out.alloc _).drewN _), HX.out⟩
            case measure => simp [intOf]; omega
          | true =>
            have HX : Hid (∀ a ∈ A.take (k + 1), Mut (Ec A) a.f i → 0 ≤ O.getD a.t (-1) ∨ Mut (Ec A) a.t i) := HN.out (fun h => by have := HM1.out.2 h; simp at this)
            clear HM1 HM2 HN
            clear HB
            go_wp2
            go_quiet (fail)
            go_wp2
            go_quiet (fail)
            go_wp2
            go_roundw
            case rel => exact ⟨k + 1, by go_num, by omega, ((HK.out.alloc _).drewN _), HX.out⟩
            case measure => simp [intOf]; omega
      | true =>
        cases x2 with
        | false =>
          cases x3 with
          | false =>
            have HX : Hid (∀ a ∈ A.take (k + 1), Mut (Ec A) a.f i → 0 ≤ O.getD a.t (-1) ∨ Mut (Ec A) a.t i) := HN.out (fun h => by have := HM1.out.2 h; simp at this)
            clear HM1 HM2 HN
            clear HB
            go_wp2
            go_quiet (fail)
            go_wp2
            go_quiet (fail)
            go_wp2
            go_roundw
            case rel => exact ⟨k + 1, by go_num, by omega, ((HK.out.alloc _).drewN _), HX.out⟩
            case measure => simp [intOf]; omega
          | true =>
            cases x4 with
            | false =>
              have HX : Hid (∀ a ∈ A.take (k + 1), Mut (Ec A) a.f i → 0 ≤ O.getD a.t (-1) ∨ Mut (Ec A) a.t i) := HN.out (fun h => by have := HM1.out.2 h; simp at this)
              clear HM1 HM2 HN
              clear HB
              go_wp2
              go_quiet (fail)
              go_wp2
              go_quiet (fail)
              go_wp2
              go_roundw
              case rel => exact ⟨k + 1, by go_num, by omega, ((HK.out.alloc _).drewN _), HX.out⟩
              case measure => simp [intOf]; omega
            | true =>
              have HX : Hid (∀ a ∈ A.take (k + 1), Mut (Ec A) a.f i → 0 ≤ O.getD a.t (-1) ∨ Mut (Ec A) a.t i) := HN.out (fun h => by have := HM1.out.2 h; simp at this)
              clear HM1 HM2 HN
              clear HB
              go_wp2
              go_quiet (fail)
              go_wp2
              go_quiet (fail)
              go_wp2
              go_roundw
              case rel => exact ⟨k + 1, by go_num, by omega, ((HK.out.alloc _).drewN _), HX.out⟩
              case measure => simp [intOf]; omega
        | true =>
          cases x3 with
          | false =>
            by_cases hot : ot < 0
            · have HX : Hid (¬ Rdy (Ec A) (fun x => O.getD x (-1)) i) := HB.out (HM1.out.1 ⟨rfl, rfl⟩) (by omega) (fun h => by have := HM2.out.2 h; simp at this)
              clear HM1 HM2 HB
              clear HN
              go_wp2
              go_quiet (fail)
              go_wp2
              go_quiet (fail)
              go_wp2
              go_ret
              exact ⟨false, rfl, ⟨(fun h => by cases h), fun h => absurd h HX.out⟩, ((HK.out.alloc _).drewN _)⟩
            · have HX : Hid (∀ a ∈ A.take (k + 1), Mut (Ec A) a.f i → 0 ≤ O.getD a.t (-1) ∨ Mut (Ec A) a.t i) := HN.out (fun _ => .inl (by omega))
              clear HM1 HM2 HN
              clear HB
              go_wp2
              go_quiet (fail)
              go_wp2
              go_quiet (fail)
              go_wp2
              go_roundw
              case rel => exact ⟨k + 1, by go_num, by omega, ((HK.out.alloc _).drewN _), HX.out⟩
              case measure => simp [intOf]; omega
          | true =>
            cases x4 with
            | false =>
              by_cases hot : ot < 0
              · have HX : Hid (¬ Rdy (Ec A) (fun x => O.getD x (-1)) i) := HB.out (HM1.out.1 ⟨rfl, rfl⟩) (by omega) (fun h => by have := HM2.out.2 h; simp at this)
                clear HM1 HM2 HB
                clear HN
                go_wp2
                go_quiet (fail)
                go_wp2
                go_quiet (fail)
                go_wp2
                go_ret
                exact ⟨false, rfl, ⟨(fun h => by cases h), fun h => absurd h HX.out⟩, ((HK.out.alloc _).drewN _)⟩
              · have HX : Hid (∀ a ∈ A.take (k + 1), Mut (Ec A) a.f i → 0 ≤ O.getD a.t (-1) ∨ Mut (Ec A) a.t i) := HN.out (fun _ => .inl (by omega))
                clear HM1 HM2 HN
                clear HB
                go_wp2
                go_quiet (fail)
                go_wp2
                go_quiet (fail)
                go_wp2
                go_roundw
                case rel => exact ⟨k + 1, by go_num, by omega, ((HK.out.alloc _).drewN _), HX.out⟩
                case measure => simp [intOf]; omega
            | true =>
              have HX : Hid (∀ a ∈ A.take (k + 1), Mut (Ec A) a.f i → 0 ≤ O.getD a.t (-1) ∨ Mut (Ec A) a.t i) := HN.out (fun _ => .inr (HM2.out.1 ⟨rfl, rfl⟩))
              clear HM1 HM2 HN
              clear HB
              go_wp2
              go_quiet (fail)
              go_wp2
              go_quiet (fail)
              go_wp2
              go_roundw
              case rel => exact ⟨k + 1, by go_num, by omega, ((HK.out.alloc _).drewN _), HX.out⟩
              case measure => simp [intOf]; omega
    · have hlti : ¬ (k : Int) < (A.length : Int) := by omega
      have HE : Hid (RdR w wr A O i (.returned (.bool true))) := ⟨true, rfl, ⟨fun _ u v hu huv => by
        obtain ⟨a, ha, rfl, rfl⟩ := huv
        exact HI.out.2 a (by rw [List.take_of_length_le (by omega)]; exact ha) hu, fun _ => rfl⟩, HI.out.1⟩
      clear HI
      go_wp2
      go_ret
      exact HE.out
end Go.Proofs.Ytmlpkjeaieljfaa
