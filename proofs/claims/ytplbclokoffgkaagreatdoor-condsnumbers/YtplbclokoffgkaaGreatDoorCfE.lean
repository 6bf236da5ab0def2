/- Conditions: kindFault. -/
import Derived.Test.YtplbclokoffgkaaGreatDoorCfC
namespace Go.Proofs.YtplbclokoffgkaaGreatDoor
open Go.RowKit Go.PlainAid Go.Shelf

/-- the part has one of the kinds that are spoken of: a leaf, minus, what reckons and compares -/
def Pt.sp (x : Pt) : Prop := x.kind = 1 ∨ x.kind = 2 ∨ ((x.kind = 3 ∨ (5 ≤ x.kind ∧ x.kind ≤ 14)) ∧ x.nm = ⟨#[]⟩ ∧ x.vk = 0 ∧ x.vi = 0)
theorem pk_any (nm : ByteArray) (ps : List PD) (vp vx : Value) (x : Pt) (a b : Int) (w : World) (hp : Pm w vp ps) (hx : x.sp) : PkAt w nm vp vx x a b (pk ps x a b).1 (pk ps x a b).2 := by
  intro w1 k1
  have hp1 := hp.keep0 k1
  rcases hx with h | h | ⟨h, h1, h2, h3⟩
  · have e : pk ps x a b = (x.vk, errK x.vk 70) := by unfold pk; rw [if_pos h]
    rw [e]
    exact partKind_leaf nm ps vp vx x a b _ _ w1 hp1 (.inl ⟨h, rfl, rfl⟩)
  · have e : pk ps x a b = (pKind ps x.nm, errK (pKind ps x.nm) 71) := by unfold pk; rw [if_neg (by omega), if_pos h]
    rw [e]
    exact partKind_leaf nm ps vp vx x a b _ _ w1 hp1 (.inr ⟨h, rfl, rfl⟩)
  · obtain ⟨k, s, vk, vi⟩ := x
    simp only at h h1 h2 h3
    subst h1 h2 h3
    have hR : ∀ w1, Calls Tryz.prog 40 #[.int .i64 k, .agg #[.int .i64 a, .int .i64 b]] w1 fun e w' => e = .returned (.int .i64 (resK k a b)) ∧ Keep [] w1 w' := fun w1 => by
      rcases h with rfl | ⟨h5, h14⟩
      · have := result_minus a b w1
        simpa [resK] using this
      · by_cases h8 : k ≤ 8
        · have := result_reckon k a b (by omega) w1
          rw [show resK k a b = numK a b by unfold resK; rw [if_neg (by omega), if_pos ⟨h5, h8⟩]]
          exact this
        · have := result_cmp k a b (by omega) w1
          rw [show resK k a b = if a = b ∨ numK a b ≠ 0 then 1 else 0 by unfold resK; rw [if_neg (by omega), if_neg (by omega)]]
          exact this
    have h4 := partKind_op nm vp vx k a b (resK k a b) (mdN k) w1 (by omega) (mdN_eq k) (mdN_le k) hR
    have e : pk ps ⟨k, ⟨#[]⟩, 0, 0⟩ a b = (if hasZ (mdN k) a b = true then 0 else resK k a b, if hasZ (mdN k) a b = true then 0 else errK (resK k a b) 70) := by
      unfold pk mdN
      simp only
      rw [if_neg (by omega), if_neg (by omega)]
      split <;> rfl
    rw [e]
    exact h4

/-- the last error, and where, when j have come -/
def errA (es : Nat → Int) (n : Nat) : Nat → Int × Int
  | 0 => (0, 0)
  | j + 1 => if es (n - 1 - j) = 0 then errA es n j else (es (n - 1 - j), ((n - 1 - j : Nat) : Int))
/-- the kinds of the parts, as they are settled -/
structure Kd (ps : List PD) (xs : List Pt) (vals : List Int) (es : Nat → Int) : Prop where
  len : vals.length = xs.length
  sp : ∀ x ∈ xs, x.sp
  st : ∀ j i, i + j + 1 = xs.length → (hi : i < xs.length) → mdN xs[i].kind ≤ (stkF 0 (xs.map Pt.kind) vals j).length
  sl : ∀ j, j ≤ xs.length → (stkF 0 (xs.map Pt.kind) vals j).length ≤ 100
  pk : ∀ j i, i + j + 1 = xs.length → (hi : i < xs.length) → pk ps xs[i] (popK 0 (mdN xs[i].kind) (stkF 0 (xs.map Pt.kind) vals j) 0) (popK 0 (mdN xs[i].kind) (stkF 0 (xs.map Pt.kind) vals j) 1) = (vals.getD i 0, es i)
/-- what kindFault answers -/
def kindE (vals : List Int) (es : Nat → Int) (n : Nat) : Int × Int := if (errA es n n).1 = 0 ∧ vals.getD 0 0 ≠ 1 then (70, 0) else errA es n n

/-- what the closure of kindFault needs -/
structure Kp1 (nm : ByteArray) (ps : List PD) (xs : List Pt) (vp vx : Value) (C B A : Nat) (E : Int × Int) (W : World) : Prop where
  c0 : W.cell? ⟨C, 0, none⟩ = some (.string nm)
  c1 : W.cell? ⟨C, 1, none⟩ = some vp
  c2 : W.cell? ⟨C, 2, none⟩ = some vx
  d0 : W.cell? ⟨B, 0, none⟩ = some (.int .i64 E.1)
  d1 : W.cell? ⟨A, 0, none⟩ = some (.int .i64 E.2)
  f0 : W.frozen? ⟨B, 0, none⟩ = false
  f1 : W.frozen? ⟨A, 0, none⟩ = false
  hp : Pm W vp ps
  hx : Pp W vx xs
theorem Kp1.keep {nm : ByteArray} {ps : List PD} {xs : List Pt} {vp vx : Value} {C B A : Nat} {E : Int × Int} {W W' : World} {G : List Nat} (h : Kp1 nm ps xs vp vx C B A E W) (k : Keep G W W') (hC : C ∉ G) (hB : B ∉ G) (hA : A ∉ G) (hp : Off vp G) (hx : Off vx G) : Kp1 nm ps xs vp vx C B A E W' :=
  ⟨k.cell' h.c0 hC, k.cell' h.c1 hC, k.cell' h.c2 hC, k.cell' h.d0 hB, k.cell' h.d1 hA, (k.frozen (p := ⟨B, 0, none⟩) (block_lt_of_cell h.d0) hB).trans h.f0, (k.frozen (p := ⟨A, 0, none⟩) (block_lt_of_cell h.d1) hA).trans h.f1, h.hp.keep k hp, h.hx.keep k hx⟩

theorem kindSettle (nm : ByteArray) (ps : List PD) (xs : List Pt) (vals : List Int) (es : Nat → Int) (hK : Kd ps xs vals es) (vp : Value) (ao : Option Addr) (cap C B A : Nat) (w : World) (hn : xs.length ≤ 100)
    (h0 : Kp1 nm ps xs vp (.slice ao xs.length cap) C B A (0, 0) w) (hl : C < w.heap.size ∧ B < w.heap.size ∧ A < w.heap.size) (hCB : C ≠ B ∧ C ≠ A ∧ A ≠ B)
    (hvp : ∀ k, vp.ownBlock = some k → k < w.heap.size ∧ k ≠ B ∧ k ≠ A) (hvx : ∀ k, (Value.slice ao xs.length cap).ownBlock = some k → k < w.heap.size ∧ k ≠ B ∧ k ≠ A) :
    Calls Tryz.prog 18 #[.slice ao xs.length cap, .func (.func 19) #[] #[.pointer (some ⟨C, 0, none⟩), .pointer (some ⟨B, 0, none⟩), .pointer (some ⟨A, 0, none⟩)]] w fun e w' => ∃ g c, e = .returned (.slice (some ⟨g, 0, none⟩) xs.length c) ∧ w.heap.size ≤ g ∧ (∀ i, i < xs.length → w'.cell? ⟨g, i, none⟩ = some (.int .i64 (vals.getD i 0))) ∧ Kp1 nm ps xs vp (.slice ao xs.length cap) C B A (errA es xs.length xs.length) w' ∧ Keep [B, A] w w' := by
  refine settle_int xs vals ao cap C B A [B, A] (fun j W => Kp1 nm ps xs vp (.slice ao xs.length cap) C B A (errA es xs.length j) W) w h0.hx hn hK.len hK.st hK.sl h0 (fun j W W' G h k hG => ?_) (by simp; omega) (fun b hb => ⟨by have := hvx b hb; simp; omega, (hvx b hb).1⟩) (fun j i W hij hi h => ?_)
  · have nG : ∀ x, x < w.heap.size → x ∉ G := fun x hx hm => by have := hG x hm; omega
    exact h.keep k (nG _ hl.1) (nG _ hl.2.1) (nG _ hl.2.2) (fun x hx => nG x (hvp x hx).1) (fun x hx => nG x (hvx x hx).1)
  · have hpk := hK.pk j i hij hi
    have hP := pk_any nm ps vp (.slice ao xs.length cap) xs[i] (popK 0 (mdN xs[i].kind) (stkF 0 (xs.map Pt.kind) vals j) 0) (popK 0 (mdN xs[i].kind) (stkF 0 (xs.map Pt.kind) vals j) 1) W h.hp (hK.sp _ (List.getElem_mem hi))
    rw [hpk] at hP
    refine (kinds_one nm vp (.slice ao xs.length cap) xs i C B A _ _ _ _ W h.hx hi h.c0 h.c1 h.c2 hP _ _ h.d0 h.d1 h.f0 h.f1 hCB.2.2).mono ?_
    rintro e W' ⟨rfl, k, g0, g1, g2, g3⟩
    have hi' : xs.length - 1 - j = i := by omega
    have hE : errA es xs.length (j + 1) = (if es i = 0 then (errA es xs.length j).1 else es i, if es i = 0 then (errA es xs.length j).2 else (i : Int)) := by
      show (if es (xs.length - 1 - j) = 0 then errA es xs.length j else (es (xs.length - 1 - j), ((xs.length - 1 - j : Nat) : Int))) = _
      rw [hi']
      split <;> rfl
    refine ⟨rfl, ?_, k⟩
    rw [hE]
    have hC' : C ∉ [B, A] := by simp; omega
    have oB : Off vp [B, A] := fun x hx => by have := hvp x hx; simp; omega
    have oX : Off (.slice ao xs.length cap) [B, A] := fun x hx => by have := hvx x hx; simp; omega
    exact ⟨k.cell' h.c0 hC', k.cell' h.c1 hC', k.cell' h.c2 hC', g0, g1, g2, g3, h.hp.keep k oB, h.hx.keep k oX⟩
end Go.Proofs.YtplbclokoffgkaaGreatDoor
