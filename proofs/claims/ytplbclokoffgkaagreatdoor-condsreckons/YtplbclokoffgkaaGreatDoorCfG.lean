/- Conditions: kindFault. -/
import Derived.Test.YtplbclokoffgkaaGreatDoorCfC

namespace Go.Proofs.YtplbclokoffgkaaGreatDoor
open Go.RowKit Go.PlainAid Go.Shelf

/-- the part has one of the kinds that are spoken of: a leaf, minus, what reckons and compares -/
def Pt.sp (x : Pt) : Prop := x.kind = 1 ∨ x.kind = 2 ∨ ((x.kind = 3 ∨ (5 ≤ x.kind ∧ x.kind ≤ 14)) ∧ x.nm = ⟨#[]⟩ ∧ x.vk = 0 ∧ x.vi = 0)
theorem pk_any (nm : ByteArray) (ps : List PD) (vp vx : Value) (x : Pt) (a b : Int) (w : World) (hp : Pm w vp ps) (hx : x.sp) : PkAt w nm vp vx x a b (pk ps x a b).1 (pk ps x a b).2 := by
  intro w1 k1
  have hp1 := hp.keep0 k1
  rcases hx with h | h | ⟨h, h1, h2, h3⟩
  · have e : pk ps x a b = (x.vk, errK x.vk 70) := by unfold pk; rw [if_pos h]
    rw [e]
    exact partKind_leaf nm ps vp vx x a b _ _ w1 hp1 (.inl ⟨h, rfl, rfl⟩)
  · have e : pk ps x a b = (pKind ps x.nm, errK (pKind ps x.nm) 71) := by unfold pk; rw [if_neg (by omega), if_pos h]
    rw [e]
    exact partKind_leaf nm ps vp vx x a b _ _ w1 hp1 (.inr ⟨h, rfl, rfl⟩)
  · obtain ⟨k, s, vk, vi⟩ := x
    simp only at h h1 h2 h3
    subst h1 h2 h3
    have hR : ∀ w1, Calls Tryz.prog 40 #[.int .i64 k, .agg #[.int .i64 a, .int .i64 b]] w1 fun e w' => e = .returned (.int .i64 (resK k a b)) ∧ Keep [] w1 w' := fun w1 => by
      rcases h with rfl | ⟨h5, h14⟩
      · have := result_minus a b w1
        simpa [resK] using this
      · by_cases h8 : k ≤ 8
        · have := result_reckon k a b (by omega) w1
          rw [show resK k a b = numK a b by unfold resK; rw [if_neg (by omega), if_pos ⟨h5, h8⟩]]
          exact this
        · have := result_cmp k a b (by omega) w1
          rw [show resK k a b = if a = b ∨ numK a b ≠ 0 then 1 else 0 by unfold resK; rw [if_neg (by omega), if_neg (by omega)]]
          exact this
    have h4 := partKind_op nm vp vx k a b (resK k a b) (mdN k) w1 (by omega) (mdN_eq k) (mdN_le k) hR
    have e : pk ps ⟨k, ⟨#[]⟩, 0, 0⟩ a b = (if hasZ (mdN k) a b = true then 0 else resK k a b, if hasZ (mdN k) a b = true then 0 else errK (resK k a b) 70) := by
      unfold pk mdN
      simp only
      rw [if_neg (by omega), if_neg (by omega)]
      split <;> rfl
    rw [e]
    exact h4

/-- the last error, and where, when j have come -/
def errA (es : Nat → Int) (n : Nat) : Nat → Int × Int
  | 0 => (0, 0)
  | j + 1 => if es (n - 1 - j) = 0 then errA es n j else (es (n - 1 - j), ((n - 1 - j : Nat) : Int))
/-- the kinds of the parts, as they are settled -/
structure Kd (ps : List PD) (xs : List Pt) (vals : List Int) (es : Nat → Int) : Prop where
  len : vals.length = xs.length
  sp : ∀ x ∈ xs, x.sp
  st : ∀ j i, i + j + 1 = xs.length → (hi : i < xs.length) → mdN xs[i].kind ≤ (stkF 0 (xs.map Pt.kind) vals j).length
  sl : ∀ j, j ≤ xs.length → (stkF 0 (xs.map Pt.kind) vals j).length ≤ 100
  pk : ∀ j i, i + j + 1 = xs.length → (hi : i < xs.length) → pk ps xs[i] (popK 0 (mdN xs[i].kind) (stkF 0 (xs.map Pt.kind) vals j) 0) (popK 0 (mdN xs[i].kind) (stkF 0 (xs.map Pt.kind) vals j) 1) = (vals.getD i 0, es i)
/-- what kindFault answers -/
def kindE (vals : List Int) (es : Nat → Int) (n : Nat) : Int × Int := if (errA es n n).1 = 0 ∧ vals.getD 0 0 ≠ 1 then (70, 0) else errA es n n

/-- what the closure of kindFault needs -/
structure Kp1 (nm : ByteArray) (ps : List PD) (xs : List Pt) (vp vx : Value) (C B A : Nat) (E : Int × Int) (W : World) : Prop where
  c0 : W.cell? ⟨C, 0, none⟩ = some (.string nm)
  c1 : W.cell? ⟨C, 1, none⟩ = some vp
  c2 : W.cell? ⟨C, 2, none⟩ = some vx
  d0 : W.cell? ⟨B, 0, none⟩ = some (.int .i64 E.1)
  d1 : W.cell? ⟨A, 0, none⟩ = some (.int .i64 E.2)
  f0 : W.frozen? ⟨B, 0, none⟩ = false
  f1 : W.frozen? ⟨A, 0, none⟩ = false
  hp : Pm W vp ps
  hx : Pp W vx xs
theorem Kp1.keep {nm : ByteArray} {ps : List PD} {xs : List Pt} {vp vx : Value} {C B A : Nat} {E : Int × Int} {W W' : World} {G : List Nat} (h : Kp1 nm ps xs vp vx C B A E W) (k : Keep G W W') (hC : C ∉ G) (hB : B ∉ G) (hA : A ∉ G) (hp : Off vp G) (hx : Off vx G) : Kp1 nm ps xs vp vx C B A E W' :=
  ⟨k.cell' h.c0 hC, k.cell' h.c1 hC, k.cell' h.c2 hC, k.cell' h.d0 hB, k.cell' h.d1 hA, (k.frozen (p := ⟨B, 0, none⟩) (block_lt_of_cell h.d0) hB).trans h.f0, (k.frozen (p := ⟨A, 0, none⟩) (block_lt_of_cell h.d1) hA).trans h.f1, h.hp.keep k hp, h.hx.keep k hx⟩

theorem kindSettle (nm : ByteArray) (ps : List PD) (xs : List Pt) (vals : List Int) (es : Nat → Int) (hK : Kd ps xs vals es) (vp : Value) (ao : Option Addr) (cap C B A : Nat) (w : World) (hn : xs.length ≤ 100)
    (h0 : Kp1 nm ps xs vp (.slice ao xs.length cap) C B A (0, 0) w) (hl : C < w.heap.size ∧ B < w.heap.size ∧ A < w.heap.size) (hCB : C ≠ B ∧ C ≠ A ∧ A ≠ B)
    (hvp : ∀ k, vp.ownBlock = some k → k < w.heap.size ∧ k ≠ B ∧ k ≠ A) (hvx : ∀ k, (Value.slice ao xs.length cap).ownBlock = some k → k < w.heap.size ∧ k ≠ B ∧ k ≠ A) :
    Calls Tryz.prog 18 #[.slice ao xs.length cap, .func (.func 19) #[] #[.pointer (some ⟨C, 0, none⟩), .pointer (some ⟨B, 0, none⟩), .pointer (some ⟨A, 0, none⟩)]] w fun e w' => ∃ g c, e = .returned (.slice (some ⟨g, 0, none⟩) xs.length c) ∧ w.heap.size ≤ g ∧ (∀ i, i < xs.length → w'.cell? ⟨g, i, none⟩ = some (.int .i64 (vals.getD i 0))) ∧ Kp1 nm ps xs vp (.slice ao xs.length cap) C B A (errA es xs.length xs.length) w' ∧ Keep [B, A] w w' := by
  refine settle_int xs vals ao cap C B A [B, A] (fun j W => Kp1 nm ps xs vp (.slice ao xs.length cap) C B A (errA es xs.length j) W) w h0.hx hn hK.len hK.st hK.sl h0 (fun j W W' G h k hG => ?_) (by simp; omega) (fun b hb => ⟨by have := hvx b hb; simp; omega, (hvx b hb).1⟩) (fun j i W hij hi h => ?_)
  · have nG : ∀ x, x < w.heap.size → x ∉ G := fun x hx hm => by have := hG x hm; omega
    exact h.keep k (nG _ hl.1) (nG _ hl.2.1) (nG _ hl.2.2) (fun x hx => nG x (hvp x hx).1) (fun x hx => nG x (hvx x hx).1)
  · have hpk := hK.pk j i hij hi
    have hP := pk_any nm ps vp (.slice ao xs.length cap) xs[i] (popK 0 (mdN xs[i].kind) (stkF 0 (xs.map Pt.kind) vals j) 0) (popK 0 (mdN xs[i].kind) (stkF 0 (xs.map Pt.kind) vals j) 1) W h.hp (hK.sp _ (List.getElem_mem hi))
    rw [hpk] at hP
    refine (kinds_one nm vp (.slice ao xs.length cap) xs i C B A _ _ _ _ W h.hx hi h.c0 h.c1 h.c2 hP _ _ h.d0 h.d1 h.f0 h.f1 hCB.2.2).mono ?_
    rintro e W' ⟨rfl, k, g0, g1, g2, g3⟩
    have hi' : xs.length - 1 - j = i := by omega
    have hE : errA es xs.length (j + 1) = (if es i = 0 then (errA es xs.length j).1 else es i, if es i = 0 then (errA es xs.length j).2 else (i : Int)) := by
      show (if es (xs.length - 1 - j) = 0 then errA es xs.length j else (es (xs.length - 1 - j), ((xs.length - 1 - j : Nat) : Int))) = _
      rw [hi']
      split <;> rfl
    refine ⟨rfl, ?_, k⟩
    rw [hE]
    have hC' : C ∉ [B, A] := by simp; omega
    have oB : Off vp [B, A] := fun x hx => by have := hvp x hx; simp; omega
    have oX : Off (.slice ao xs.length cap) [B, A] := fun x hx => by have := hvx x hx; simp; omega
    exact ⟨k.cell' h.c0 hC', k.cell' h.c1 hC', k.cell' h.c2 hC', g0, g1, g2, g3, h.hp.keep k oB, h.hx.keep k oX⟩
end Go.Proofs.YtplbclokoffgkaaGreatDoor

/- Conditions: kindFault, whole. -/
namespace Go.Proofs.YtplbclokoffgkaaGreatDoor
open Go.RowKit Go.PlainAid Go.Shelf

set_option maxRecDepth 1000000 in
set_option maxHeartbeats 3200000 in
theorem kindFault_any (nm : ByteArray) (ps : List PD) (xs : List Pt) (vals : List Int) (es : Nat → Int) (hK : Kd ps xs vals es) (vp vx : Value) (w : World) (hp : Pm w vp ps) (hx : Pp w vx xs) (hn1 : 1 ≤ xs.length) (hn : xs.length ≤ 100) (hlp : Lo w.heap.size vp) (hlx : Lo w.heap.size vx) :
    Calls Tryz.prog 12 #[.agg #[.string nm, vp, vx]] w fun e w' => e = .returned (.tuple #[.int .i64 (kindE vals es xs.length).1, .int .i64 (kindE vals es xs.length).2]) ∧ Keep [] w w' := by
  obtain ⟨ao, cap, rfl, -, -, -⟩ := hx.ex
  obtain ⟨aop, capp, rfl, -, -, -⟩ := hp.ex
  have K3 : Keep [] w (((w.alloc (.cells #[.string nm, .slice aop ps.length capp, .slice ao xs.length cap] 25)).alloc (.cells #[.int .i64 0] 27)).alloc (.cells #[.int .i64 0] 3)) := ((Keep.alloc1 _ _).alloc _).alloc _
  have hS := kindSettle nm ps xs vals es hK (.slice aop ps.length capp) ao cap w.heap.size (w.heap.size + 1) (w.heap.size + 2) (((w.alloc (.cells #[.string nm, .slice aop ps.length capp, .slice ao xs.length cap] 25)).alloc (.cells #[.int .i64 0] 27)).alloc (.cells #[.int .i64 0] 3)) hn
    ⟨by go_simp, by go_simp, by go_simp, by go_simp, by go_simp, by go_simp, by go_simp, hp.keep0 K3, hx.keep0 K3⟩ (by simp only [World.size_alloc]; omega) (by omega) (fun k hk => by have := hlp k hk; simp; omega) (fun k hk => by have := hlx k hk; simp; omega)
  have HK3 : Hid (Keep [] w (((w.alloc (.cells #[.string nm, .slice aop ps.length capp, .slice ao xs.length cap] 25)).alloc (.cells #[.int .i64 0] 27)).alloc (.cells #[.int .i64 0] 3))) := K3
  have hmf : ∀ (fn : Fn) (first cap : Array Value) (w : World), (Instr.makeFunc fn first cap).run Tryz.prog w = .ok (.func fn first cap) w := fun _ _ _ _ => rfl
  have HN : Hid (1 ≤ xs.length) := hn1
  obtain ⟨v, HV⟩ : ∃ v : Int, Hid (v = vals.getD 0 0) := ⟨_, show _ = _ from rfl⟩
  have hk : kindE vals es xs.length = if (errA es xs.length xs.length).1 = 0 ∧ v ≠ 1 then (70, 0) else errA es xs.length xs.length := by rw [HV.out]; rfl
  rw [hk]
  clear hp hx hlp hlx K3 hn hn1 hk
  generalize errA es xs.length xs.length = E at *
  obtain ⟨e1, e2⟩ := E
  simp only at hS ⊢
  by_cases hE : e1 = 0
  · subst hE
    by_cases hv : v = 1
    · subst hv
      rw [if_neg (by simp)]
      go_enter Tryz.func12, Tryz.ntmps12
      go_wp2_with fail
      refine hS.mono ?_
      rintro e w5 ⟨g, c, rfl, hg, hc, hP, k5⟩
      have c0 := hc 0 (by have := HN.out; omega)
      have d0 := hP.d0
      have d1 := hP.d1
      have HK : Hid (Keep [] w w5) := HK3.out.more k5 (by simp)
      have hn0 : (0 : Int) < (xs.length : Int) := by have := HN.out; omega
      clear hc hP k5 hS HK3 hg
      rw [← HV.out] at c0
      go_wp2_with fail
      go_region
      all_goals
        go_wp2
        go_ret2
        exact ⟨rfl, HK.out.drew⟩
    · have hvb : (v != 1) = true := by simpa using hv
      rw [if_pos ⟨rfl, hv⟩]
      clear hv
      go_enter Tryz.func12, Tryz.ntmps12
      go_wp2_with fail
      refine hS.mono ?_
      rintro e w5 ⟨g, c, rfl, hg, hc, hP, k5⟩
      have c0 := hc 0 (by have := HN.out; omega)
      have d0 := hP.d0
      have d1 := hP.d1
      have HK : Hid (Keep [] w w5) := HK3.out.more k5 (by simp)
      have hn0 : (0 : Int) < (xs.length : Int) := by have := HN.out; omega
      clear hc hP k5 hS HK3 hg
      rw [← HV.out] at c0
      go_wp2
      go_ret2
      exact ⟨rfl, HK.out⟩
  · have hEb : (e1 == 0) = false := by simpa using hE
    rw [if_neg (by simp [hE])]
    clear hE
    go_enter Tryz.func12, Tryz.ntmps12
    go_wp2_with fail
    refine hS.mono ?_
    rintro e w5 ⟨g, c, rfl, hg, hc, hP, k5⟩
    have c0 := hc 0 (by have := HN.out; omega)
    have d0 := hP.d0
    have d1 := hP.d1
    have HK : Hid (Keep [] w w5) := HK3.out.more k5 (by simp)
    have hn0 : (0 : Int) < (xs.length : Int) := by have := HN.out; omega
    clear hc hP k5 hS HK3 hg
    rw [← HV.out] at c0
    go_wp2_with fail
    go_region
    all_goals
      go_wp2
      go_ret2
      exact ⟨rfl, HK.out.drew⟩
end Go.Proofs.YtplbclokoffgkaaGreatDoor

/- Conditions: Check of a condition whose parts are right by themselves. -/
namespace Go.Proofs.YtplbclokoffgkaaGreatDoor
open Go.RowKit Go.PlainAid Go.Shelf

/-- the first k of the parameters -/
theorem Pm.take {w : World} {b o cp : Nat} {l : List PD} (h : Pm w (.slice (some ⟨b, o, none⟩) l.length cp) l) (k : Nat) (hk : k ≤ l.length) : Pm w (.slice (some ⟨b, o, none⟩) k cp) (l.take k) := by
  obtain ⟨ao, cap, he, h1, h2, h3⟩ := h.ex
  simp at he
  obtain ⟨rfl, rfl⟩ := he
  have hl : (l.take k).length = k := by rw [List.length_take]; omega
  refine ⟨some ⟨b, o, none⟩, cp, by rw [hl], by omega, h2, fun hne => ⟨b, o, rfl, fun i hi => ?_⟩⟩
  have hne' : l ≠ [] := fun e => by subst e; simp at hne
  obtain ⟨b', o', he', hc⟩ := h3 hne'
  simp at he'
  obtain ⟨rfl, rfl⟩ := he'
  rw [List.getElem_take]
  exact hc i (by omega)
theorem Pm.cells {w : World} {v : Value} {l : List PD} (h : Pm w v l) (k : Nat) (hk : k < l.length) : ∃ b o cp, v = .slice (some ⟨b, o, none⟩) l.length cp ∧ l.length ≤ cp ∧ cp ≤ 9223372036854775807 ∧ w.cell? ⟨b, o + k * 2, none⟩ = some (.string l[k].nm) ∧ w.cell? ⟨b, o + k * 2 + 1, none⟩ = some (.int .i64 l[k].kind) := by
  obtain ⟨ao, cap, rfl, h1, h2, h3⟩ := h.ex
  obtain ⟨b, o, rfl, hc⟩ := h3 (fun e => by subst e; simp at hk)
  exact ⟨b, o, cap, rfl, h1, h2, hc k hk⟩
theorem four_cell {W : World} {b : Nat} {u0 u1 u2 u3 : Value} {t : TypeId} (h : W.heap[b]? = some (.cells #[u0, u1, u2, u3] t (0, 0))) : (W.cell? ⟨b, 0, none⟩ = some u0 ∧ W.cell? ⟨b, 1, none⟩ = some u1 ∧ W.cell? ⟨b, 2, none⟩ = some u2 ∧ W.cell? ⟨b, 3, none⟩ = some u3) ∧ W.frozen? ⟨b, 0, none⟩ = false ∧ W.frozen? ⟨b, 1, none⟩ = false ∧ W.frozen? ⟨b, 2, none⟩ = false ∧ W.frozen? ⟨b, 3, none⟩ = false := by
  refine ⟨⟨?_, ?_, ?_, ?_⟩, ?_, ?_, ?_, ?_⟩
  all_goals first | (unfold World.cell?; rw [h]; rfl) | (unfold World.frozen?; rw [h]; rfl)
/-- the memory of Check -/
structure Cm (w : World) (H : Nat) (nm : ByteArray) (vp vx : Value) (ps : List PD) (W : World) : Prop where
  kp : Keep [] w W
  x0 : W.cell? ⟨H, 0, none⟩ = some (.string nm)
  x1 : W.cell? ⟨H, 1, none⟩ = some vp
  x2 : W.cell? ⟨H, 2, none⟩ = some vx
  y : W.heap[H + 1]? = some (.cells #[.int .i64 0, .int .i64 0, .int .i64 0, .int .i64 0] 29 (0, 0))
theorem Cm.keep {w : World} {H : Nat} {nm : ByteArray} {vp vx : Value} {ps : List PD} {W W' : World} (h : Cm w H nm vp vx ps W) (k : Keep [] W W') : Cm w H nm vp vx ps W' :=
  ⟨h.kp.trans' k, k.cell' h.x0 (by simp), k.cell' h.x1 (by simp), k.cell' h.x2 (by simp), (k.block _ (Array.getElem?_eq_some_iff.1 h.y).1 (by simp)).trans h.y⟩
theorem one_cell_new (w : World) (t : TypeId) : (w.alloc (.cells #[.int .i64 0, .int .i64 0, .int .i64 0, .int .i64 0] t)).drew.cell? ⟨w.heap.size, 0, none⟩ = some (.int .i64 0) := by go_simp

/-- what Check answers: the first parameter that comes twice; else what kindFault says -/
def chkV (ps : List PD) (D : Nat) (E : Int × Int) : Value := if D < ps.length then .agg #[.int .i64 90, .int .i64 0, .int .i64 (D : Int), .int .i64 (-1)] else if E.1 = 0 then F0 else .agg #[.int .i64 E.1, .int .i64 0, .int .i64 ((ps.length : Int) + E.2), .int .i64 (-1)]
/-- the parameters up to D come once, the one at D a second time -/
structure Dup (ps : List PD) (D : Nat) : Prop where
  le : D ≤ ps.length
  no : ∀ k (hk : k < ps.length), k < D → pKind (ps.take k) ps[k].nm = 0
  yes : ∀ (hD : D < ps.length), pKind (ps.take D) ps[D].nm ≠ 0

set_option maxRecDepth 1000000 in
set_option maxHeartbeats 6400000 in
theorem ccheck_any (nm : ByteArray) (ps : List PD) (xs : List Pt) (vp vx : Value) (D : Nat) (E : Int × Int) (r : Int) (c : Nat) (w : World) (hp : Pm w vp ps) (hx : Pp w vx xs) (hT : Tb w) (hok : CdOk nm ps xs)
    (hlp : Lo w.heap.size vp) (hlx : Lo w.heap.size vx) (hcl : Cl 87 (fun p => #[p, vx, .int .i64 0]) vx xs r c) (hc : c ≤ 45000) (hD : Dup ps D) (hE : 0 ≤ E.2 ∧ E.2 ≤ 100)
    (hkf : ∀ w1, Keep [] w w1 → Calls Tryz.prog 12 #[.agg #[.string nm, vp, vx]] w1 fun e w' => e = .returned (.tuple #[.int .i64 E.1, .int .i64 E.2]) ∧ Keep [] w1 w') :
    Calls Tryz.prog 6 #[.agg #[.string nm, vp, vx]] w fun e w' => e = .returned (chkV ps D E) ∧ Keep [] w w' := by
  obtain ⟨ap, cp, rfl, hp1, hp2, -⟩ := hp.ex
  obtain ⟨ax, cx, rfl, -, -, -⟩ := hx.ex
  have K2 : Keep [] w ((w.alloc (.cells #[.string nm, .slice ap ps.length cp, .slice ax xs.length cx] 25)).alloc (.cells #[.int .i64 0, .int .i64 0, .int .i64 0, .int .i64 0] 29)) := (Keep.alloc1 _ _).alloc _
  have K3 := K2.alloc (.cells #[.string nm, .slice ap ps.length cp, .slice ax xs.length cx] 25)
  have hS := scheck_fine nm ps xs (.slice ap ps.length cp) (.slice ax xs.length cx) (w.heap.size + 2) r c (((w.alloc (.cells #[.string nm, .slice ap ps.length cp, .slice ax xs.length cx] 25)).alloc (.cells #[.int .i64 0, .int .i64 0, .int .i64 0, .int .i64 0] 29)).alloc (.cells #[.string nm, .slice ap ps.length cp, .slice ax xs.length cx] 25)) (hp.keep0 K3) (hx.keep0 K3) (hT.keep K3 (by simp)) hok
    (fun k hk => by have := hlp k hk; simp; omega) (fun k hk => by have := hlx k hk; simp; omega) hcl hc (by go_simp) (by go_simp) (by go_simp)
  obtain ⟨H, HH⟩ : ∃ H : Nat, Hid (H = w.heap.size) := ⟨_, show _ = _ from rfl⟩
  have HK3 : Hid (Keep [] w (((w.alloc (.cells #[.string nm, .slice ap ps.length cp, .slice ax xs.length cx] 25)).alloc (.cells #[.int .i64 0, .int .i64 0, .int .i64 0, .int .i64 0] 29)).alloc (.cells #[.string nm, .slice ap ps.length cp, .slice ax xs.length cx] 25))) := K3
  have HP : Hid (Pm w (.slice ap ps.length cp) ps) := hp
  have HD : Hid (Dup ps D) := hD
  have HKF : Hid (∀ w1, Keep [] w w1 → Calls Tryz.prog 12 #[.agg #[.string nm, .slice ap ps.length cp, .slice ax xs.length cx]] w1 fun e w' => e = .returned (.tuple #[.int .i64 E.1, .int .i64 E.2]) ∧ Keep [] w1 w') := hkf
  have HL : Hid (ps.length ≤ 16 ∧ 0 ≤ E.2 ∧ E.2 ≤ 100) := ⟨hok.plen, hE⟩
  clear hp hx hT hok hlp hlx hcl hc hD hE hkf K2 K3 hp1 hp2
  go_enter Tryz.func6, Tryz.ntmps6
  go_wp2_with fail
  refine hS.mono ?_
  rintro e w3 ⟨rfl, k3⟩
  have K3 : Keep [] w w3 := HK3.out.trans' k3
  have x0 : w3.cell? ⟨w.heap.size, 0, none⟩ = some (.string nm) := k3.cell' (by go_simp) (by simp)
  have x1 : w3.cell? ⟨w.heap.size, 1, none⟩ = some (.slice ap ps.length cp) := k3.cell' (by go_simp) (by simp)
  have x2 : w3.cell? ⟨w.heap.size, 2, none⟩ = some (.slice ax xs.length cx) := k3.cell' (by go_simp) (by simp)
  have y1 : w3.heap[w.heap.size + 1]? = some (.cells #[.int .i64 0, .int .i64 0, .int .i64 0, .int .i64 0] 29 (0, 0)) := by
    refine (k3.block _ (by simp) (by simp)).trans ((Below.heap_alloc _ _ _ (by simp)).trans ?_)
    have := heap_alloc_new' (w.alloc (.cells #[.string nm, .slice ap ps.length cp, .slice ax xs.length cx] 25)) (.cells #[.int .i64 0, .int .i64 0, .int .i64 0, .int .i64 0] 29)
    rwa [World.size_alloc] at this
  have HW3 : Hid (Keep [] w w3 ∧ w3.cell? ⟨H, 0, none⟩ = some (.string nm) ∧ w3.cell? ⟨H, 1, none⟩ = some (.slice ap ps.length cp) ∧ w3.cell? ⟨H, 2, none⟩ = some (.slice ax xs.length cx) ∧ w3.heap[H + 1]? = some (.cells #[.int .i64 0, .int .i64 0, .int .i64 0, .int .i64 0] 29 (0, 0))) := by rw [HH.out]; exact ⟨K3, x0, x1, x2, y1⟩
  clear hS k3 K3 x0 x1 x2 y1 HK3
  rw [← HH.out]
  go_wp2_with fail
  refine wp_region_heldP (S := (fun w' : World => w'.cell? ⟨w3.heap.size, 0, none⟩ = some (.int .i64 0))) (by kernel_rfl) (one_cell_new _ _) (fun hHeld => ?_)
  try dsimp only at hHeld
  refine wpAnyH_take (i := 0) (oi := { dst := some 12, op := Go.Op.fieldAddr 29 (Go.Operand.tmp 3) 0, type := 0, pos := "conds.go:15", after := #[], guard := none }) (v := ?_) rfl (by kernel_rfl) (by kernel_rfl) (by kernel_rfl) (fun _ _ _ => plain_panic) (Or.inl ⟨by rfl, ?_⟩) (by assumption) ?_
  rotate_left
  · intro w7 hSw
    try dsimp only at hSw
    first | (go_simp; done) | (go_simp; with_reducible rfl)
  try simp only [Act.put, List.setIfInBounds_toArray, List.set_cons_zero, List.set_cons_succ]
  refine wpAnyH_take (i := 1) (oi := { dst := some 13, op := Go.Op.load 27 (Go.Operand.tmp 12), type := 27, pos := "conds.go:15", after := #[{ on := 0, ground := Go.Ground.data }], guard := none }) (v := ?_) rfl (by kernel_rfl) (by kernel_rfl) (by kernel_rfl) (fun _ _ _ => plain_panic) (Or.inl ⟨by rfl, ?_⟩) (by assumption) ?_
  rotate_left
  · intro w7 hSw
    try dsimp only at hSw
    first | (go_simp; done) | (go_simp; with_reducible rfl)
  try simp only [Act.put, List.setIfInBounds_toArray, List.set_cons_zero, List.set_cons_succ]
  refine wpAnyH_take (i := 2) (oi := { dst := some 14, op := Go.Op.binOp Go.BinOp.neq 27 (Go.Operand.tmp 13) (Go.Operand.const (Go.Value.int Go.IntKind.i64 0)) 27, type := 4, pos := "conds.go:15", after := #[{ on := 1, ground := Go.Ground.data }], guard := none }) (v := ?_) rfl (by kernel_rfl) (by kernel_rfl) (by kernel_rfl) (fun _ _ _ => plain_panic) (Or.inl ⟨by rfl, ?_⟩) (by assumption) ?_
  rotate_left
  · intro w7 hSw
    try dsimp only at hSw
    first | (go_simp; done) | (go_simp; with_reducible rfl)
  try simp only [Act.put, List.setIfInBounds_toArray, List.set_cons_zero, List.set_cons_succ]
  refine wpAnyH_take (i := 3) (oi := { dst := some 15, op := Go.Op.move (Go.Operand.tmp 14), type := 4, pos := "conds.go:15", after := #[{ on := 2, ground := Go.Ground.data }], guard := none }) (v := ?_) rfl (by kernel_rfl) (by kernel_rfl) (by kernel_rfl) (fun _ _ _ => plain_panic) (Or.inl ⟨by rfl, ?_⟩) (by assumption) ?_
  rotate_left
  · intro w7 hSw
    try dsimp only at hSw
    first | (go_simp; done) | (go_simp; with_reducible rfl)
  try simp only [Act.put, List.setIfInBounds_toArray, List.set_cons_zero, List.set_cons_succ]
  refine wpAnyH_take (i := 4) (oi := { dst := some 16, op := Go.Op.load 29 (Go.Operand.tmp 3), type := 29, pos := "conds.go:15", after := #[{ on := 3, ground := Go.Ground.guard }], guard := some (3, true) }) (v := undef) rfl (by kernel_rfl) (by kernel_rfl) (by kernel_rfl) (fun _ _ _ => plain_panic) (Or.inr ⟨by rfl, rfl⟩) (by assumption) ?_
  try simp only [Act.put, List.setIfInBounds_toArray, List.set_cons_zero, List.set_cons_succ]
  refine wpAnyH_take (i := 5) (oi := { dst := some 17, op := Go.Op.call { callee := Go.Callee.value (Go.Operand.func 10), args := #[], argTypes := #[] }, type := 29, pos := "conds.go:15", after := #[{ on := 3, ground := Go.Ground.chain }, { on := 3, ground := Go.Ground.guard }], guard := some (3, true) }) (v := undef) rfl (by kernel_rfl) (by kernel_rfl) (by kernel_rfl) (fun _ _ _ => plain_panic) (Or.inr ⟨by rfl, rfl⟩) (by assumption) ?_
  try simp only [Act.put, List.setIfInBounds_toArray, List.set_cons_zero, List.set_cons_succ]
  refine wpAnyH_take (i := 6) (oi := { dst := some 18, op := Go.Op.binOp Go.BinOp.neq 29 (Go.Operand.tmp 16) (Go.Operand.tmp 17) 29, type := 4, pos := "conds.go:15", after := #[{ on := 4, ground := Go.Ground.data }, { on := 5, ground := Go.Ground.data }, { on := 3, ground := Go.Ground.guard }], guard := some (3, true) }) (v := undef) rfl (by kernel_rfl) (by kernel_rfl) (by kernel_rfl) (fun _ _ _ => plain_panic) (Or.inr ⟨by rfl, rfl⟩) (by assumption) ?_
  try simp only [Act.put, List.setIfInBounds_toArray, List.set_cons_zero, List.set_cons_succ]
  refine wpAnyH_take (i := 7) (oi := { dst := some 19, op := Go.Op.pick (Go.Operand.tmp 15) (Go.Operand.tmp 18) (Go.Operand.const (Go.Value.bool false)), type := 4, pos := "conds.go:15", after := #[{ on := 3, ground := Go.Ground.data }, { on := 6, ground := Go.Ground.data }], guard := none }) (v := ?_) rfl (by kernel_rfl) (by kernel_rfl) (by kernel_rfl) (fun _ _ _ => plain_panic) (Or.inl ⟨by rfl, ?_⟩) (by assumption) ?_
  rotate_left
  · intro w7 hSw
    try dsimp only at hSw
    first | (go_simp; done) | (go_simp; with_reducible rfl)
  try simp only [Act.put, List.setIfInBounds_toArray, List.set_cons_zero, List.set_cons_succ]
  refine wpAnyH_done (by kernel_rfl) ⟨rfl, ?_⟩ _
  have HM : Hid (Cm w H nm (.slice ap ps.length cp) (.slice ax xs.length cx) ps (w3.alloc (.cells #[.int .i64 0, .int .i64 0, .int .i64 0, .int .i64 0] 29)).drew) := (show Cm w H nm (.slice ap ps.length cp) (.slice ax xs.length cx) ps w3 from ⟨HW3.out.1, HW3.out.2.1, HW3.out.2.2.1, HW3.out.2.2.2.1, HW3.out.2.2.2.2⟩).keep (Keep.alloc1 _ _).drew
  generalize (w3.alloc (.cells #[.int .i64 0, .int .i64 0, .int .i64 0, .int .i64 0] 29)).drew = w4 at *
  generalize w3.heap.size = B3 at *
  have c1 := HM.out.x1
  have HHw : Hid (w.heap.size ≤ H) := show w.heap.size ≤ H by rw [HH.out]; exact Nat.le_refl _
  clear HW3 hHeld HH
  go_wp2
  go_loopw [24] (fun iv wr => ∃ k : Nat, iv = .int .i64 (k : Int) ∧ k ≤ ps.length ∧ Hid (k ≤ D ∧ Cm w H nm (.slice ap ps.length cp) (.slice ax xs.length cx) ps wr)) (fun iv _ => ps.length - (intOf iv).toNat)
  case atStart => exact ⟨0, rfl, Nat.zero_le _, Nat.zero_le _, HM.out⟩
  case round =>
    clear HM c1
    obtain ⟨k, rfl, hk, HM⟩ := hrel
    have HPm : Hid (Pm wr (.slice ap ps.length cp) ps) := HP.out.keep0 HM.out.2.kp
    by_cases hlt : k < ps.length
    · have hli : (k : Int) < (ps.length : Int) := by omega
      obtain ⟨bp, op, cp', he, hc1, hc2, n0, n1⟩ := HPm.out.cells k hlt
      simp at he
      obtain ⟨rfl, rfl⟩ := he
      obtain ⟨q, HQ⟩ : ∃ q : Int, Hid (q = pKind (ps.take k) ps[k].nm) := ⟨_, show _ = _ from rfl⟩
      have HPk : Hid (∀ w9, Keep [] wr w9 → Calls Tryz.prog 11 #[.slice (some ⟨bp, op, none⟩) k cp, .string ps[k].nm] w9 fun e w' => e = .returned (.int .i64 q) ∧ Keep [] w9 w') := fun w9 k9 => by
        have := paramKind_any _ (ps.take k) ps[k].nm w9 ((HPm.out.keep0 k9).take k hk)
        rwa [← HQ.out] at this
      have HQ2 : Hid ((k < D → q = 0) ∧ (k = D → q ≠ 0)) := ⟨fun h => by rw [HQ.out]; exact HD.out.no k hlt h, fun h => by rw [HQ.out]; subst h; exact HD.out.yes hlt⟩
      clear HQ
      generalize ps[k].nm = nk at *
      generalize ps[k].kind = kk at *
      have hkc : (k : Int) ≤ (cp : Int) := by omega
      have HS7 : Hid ((wr.alloc (.cells #[.string nk, .int .i64 kk] 38)).drew.cell? ⟨H, 1, none⟩ = some (.slice (some ⟨bp, op, none⟩) ps.length cp) ∧ (wr.alloc (.cells #[.string nk, .int .i64 kk] 38)).drew.cell? ⟨wr.heap.size, 0, none⟩ = some (.string nk)) := ⟨(Keep.alloc1 _ _).drew.cell' HM.out.2.x1 (by simp), by go_simp⟩
      have HK7 : Hid (Keep [] wr (wr.alloc (.cells #[.string nk, .int .i64 kk] 38)).drew) := (Keep.alloc1 _ _).drew
      go_wp2_with fail
      refine wp_region_heldP (S := (fun w' : World => w'.cell? ⟨H, 1, none⟩ = some (.slice (some ⟨bp, op, none⟩) ps.length cp) ∧ w'.cell? ⟨wr.heap.size, 0, none⟩ = some (.string nk))) (by kernel_rfl) (HS7.out) (fun hHeld => ?_)
      try dsimp only at hHeld
      refine wpAnyH_take (i := 0) (oi := { dst := some 29, op := Go.Op.fieldAddr 25 (Go.Operand.tmp 1) 1, type := 0, pos := "conds.go:19", after := #[], guard := none }) (v := ?_) rfl (by kernel_rfl) (by kernel_rfl) (by kernel_rfl) (fun _ _ _ => plain_panic) (Or.inl ⟨by rfl, ?_⟩) (by assumption) ?_
      rotate_left
      · intro w7 hSw
        try dsimp only at hSw
        first | (go_simp; done) | (go_simp; with_reducible rfl)
      try simp only [Act.put, List.setIfInBounds_toArray, List.set_cons_zero, List.set_cons_succ]
      refine wpAnyH_take (i := 1) (oi := { dst := some 30, op := Go.Op.load 22 (Go.Operand.tmp 29), type := 22, pos := "conds.go:19", after := #[{ on := 0, ground := Go.Ground.data }], guard := none }) (v := ?_) rfl (by kernel_rfl) (by kernel_rfl) (by kernel_rfl) (fun _ _ _ => plain_panic) (Or.inl ⟨by rfl, ?_⟩) (by assumption) ?_
      rotate_left
      · intro w7 hSw
        try dsimp only at hSw
        first | (go_simp; done) | (go_simp; with_reducible rfl)
      try simp only [Act.put, List.setIfInBounds_toArray, List.set_cons_zero, List.set_cons_succ]
      refine wpAnyH_take (i := 2) (oi := { dst := some 31, op := Go.Op.move (Go.Operand.tmp 4), type := 3, pos := "conds.go:19", after := #[], guard := none }) (v := ?_) rfl (by kernel_rfl) (by kernel_rfl) (by kernel_rfl) (fun _ _ _ => plain_panic) (Or.inl ⟨by rfl, ?_⟩) (by assumption) ?_
      rotate_left
      · intro w7 hSw
        try dsimp only at hSw
        first | (go_simp; done) | (go_simp; with_reducible rfl)
      try simp only [Act.put, List.setIfInBounds_toArray, List.set_cons_zero, List.set_cons_succ]
      refine wpAnyH_take (i := 3) (oi := { dst := some 32, op := Go.Op.slice 22 (Go.Operand.tmp 30) none (some (Go.Operand.tmp 31)) none, type := 22, pos := "conds.go:19", after := #[{ on := 1, ground := Go.Ground.data }, { on := 2, ground := Go.Ground.data }], guard := none }) (v := ?_) rfl (by kernel_rfl) (by kernel_rfl) (by kernel_rfl) (fun _ _ _ => plain_panic) (Or.inl ⟨by rfl, ?_⟩) (by assumption) ?_
      rotate_left
      · intro w7 hSw
        try dsimp only at hSw
        first | (go_simp; done) | (go_simp; with_reducible rfl)
      try simp only [Act.put, List.setIfInBounds_toArray, List.set_cons_zero, List.set_cons_succ]
      refine wpAnyH_take (i := 4) (oi := { dst := some 33, op := Go.Op.fieldAddr 38 (Go.Operand.tmp 5) 0, type := 0, pos := "conds.go:19", after := #[], guard := none }) (v := ?_) rfl (by kernel_rfl) (by kernel_rfl) (by kernel_rfl) (fun _ _ _ => plain_panic) (Or.inl ⟨by rfl, ?_⟩) (by assumption) ?_
      rotate_left
      · intro w7 hSw
        try dsimp only at hSw
        first | (go_simp; done) | (go_simp; with_reducible rfl)
      try simp only [Act.put, List.setIfInBounds_toArray, List.set_cons_zero, List.set_cons_succ]
      refine wpAnyH_take (i := 5) (oi := { dst := some 34, op := Go.Op.load 9 (Go.Operand.tmp 33), type := 9, pos := "conds.go:19", after := #[{ on := 4, ground := Go.Ground.data }], guard := none }) (v := ?_) rfl (by kernel_rfl) (by kernel_rfl) (by kernel_rfl) (fun _ _ _ => plain_panic) (Or.inl ⟨by rfl, ?_⟩) (by assumption) ?_
      rotate_left
      · intro w7 hSw
        try dsimp only at hSw
        first | (go_simp; done) | (go_simp; with_reducible rfl)
      try simp only [Act.put, List.setIfInBounds_toArray, List.set_cons_zero, List.set_cons_succ]
      refine wpAnyH_ready (rs := [6]) (by kernel_rfl) (by simp) ?_
      refine AllReadyH.cons (o := { dst := some 35, op := Go.Op.call { callee := Go.Callee.value (Go.Operand.func 11), args := #[Go.Operand.tmp 32, Go.Operand.tmp 34], argTypes := #[22, 9] }, type := 3, pos := "conds.go:19", after := #[{ on := 3, ground := Go.Ground.data }, { on := 5, ground := Go.Ground.data }], guard := none }) rfl (fun K hK => ?_) AllReadyH.nil
      go_simp
      refine Calls.mono (HPk.out _ (HK7.out)) ?_
      rintro e w5 ⟨rfl, k5⟩
      go_wp2_with fail
      refine hK.out _ _ (⟨k5.cell' hHeld.1 (by simp), k5.cell' hHeld.2 (by simp)⟩) (fun hHeld2 => ?_)
      try dsimp only at hHeld2
      clear hK hHeld
      have hHeld := hHeld2
      clear hHeld2
      try simp only [Act.put, List.setIfInBounds_toArray, List.set_cons_zero, List.set_cons_succ]
      refine wpAnyH_take (i := 7) (oi := { dst := some 36, op := Go.Op.binOp Go.BinOp.neq 3 (Go.Operand.tmp 35) (Go.Operand.const (Go.Value.int Go.IntKind.i64 0)) 3, type := 4, pos := "conds.go:19", after := #[{ on := 6, ground := Go.Ground.data }], guard := none }) (v := ?_) rfl (by kernel_rfl) (by kernel_rfl) (by kernel_rfl) (fun _ _ _ => plain_panic) (Or.inl ⟨by rfl, ?_⟩) (by assumption) ?_
      rotate_left
      · intro w7 hSw
        try dsimp only at hSw
        first | (go_simp; done) | (go_simp; with_reducible rfl)
      try simp only [Act.put, List.setIfInBounds_toArray, List.set_cons_zero, List.set_cons_succ]
      refine wpAnyH_done (by kernel_rfl) ⟨rfl, ?_⟩ _
      have HM5 : Hid (Cm w H nm (.slice (some ⟨bp, op, none⟩) ps.length cp) (.slice ax xs.length cx) ps w5) := HM.out.2.keep (HK7.out.trans' k5)
      clear hHeld HS7 HPk HK7 k5 n0 n1 HPm
      by_cases hkD : k < D
      · obtain rfl : q = 0 := HQ2.out.1 hkD
        go_wp2
        go_roundw
        case rel => exact ⟨k + 1, by simp, by omega, by omega, HM5.out⟩
        case measure => (simp [intOf]; try omega)
      · obtain rfl : k = D := by have := HM.out.1; omega
        have hq : (q != 0) = true := by simpa using HQ2.out.2 rfl
        obtain ⟨⟨g0, g1, g2, g3⟩, f0, f1, f2, f3⟩ := four_cell HM5.out.y
        have HV : Hid (chkV ps k E = .agg #[.int .i64 90, .int .i64 0, .int .i64 (k : Int), .int .i64 (-1)]) := by show chkV ps k E = _; unfold chkV; rw [if_pos hlt]
        clear HQ2 hkD
        go_wp2
        refine bodyPost_ret (v := .agg #[.int .i64 90, .int .i64 0, .int .i64 (k : Int), .int .i64 (-1)]) (by simp [results, Tryz.results6, go_sem, g0, g1, g2, g3]) rfl ⟨by rw [HV.out], ?_⟩
        refine Keep.setCell (Keep.setCell (Keep.setCell (Keep.setCell HM5.out.kp (.inr ?_) _) (.inr ?_) _) (.inr ?_) _) (.inr ?_) _
        all_goals (have := HHw.out; simp; omega)
    · obtain rfl : k = ps.length := by omega
      have hnl : ¬ (ps.length : Int) < (ps.length : Int) := by omega
      have hDl : D = ps.length := by have := HM.out.1; have := HD.out.le; omega
      have x0 := HM.out.2.x0
      have x1 := HM.out.2.x1
      have x2 := HM.out.2.x2
      have HV : Hid (chkV ps D E = if E.1 = 0 then F0 else .agg #[.int .i64 E.1, .int .i64 0, .int .i64 ((ps.length : Int) + E.2), .int .i64 (-1)]) := by show chkV ps D E = _; unfold chkV; rw [if_neg (by omega)]
      obtain ⟨e1, e2⟩ := E
      simp only at HKF HL HV
      obtain ⟨hl1, hl2, hl3⟩ := HL.out
      have hl4 : (ps.length : Int) ≤ 16 := by omega
      clear hDl
      go_wp2_with fail
      refine (HKF.out _ HM.out.2.kp).mono ?_
      rintro e w5 ⟨rfl, k5⟩
      have HM5 : Hid (Cm w H nm (.slice ap ps.length cp) (.slice ax xs.length cx) ps w5) := HM.out.2.keep k5
      obtain ⟨⟨g0, g1, g2, g3⟩, f0, f1, f2, f3⟩ := four_cell HM5.out.y
      have x1 := HM5.out.x1
      clear k5 HKF
      by_cases h1 : e1 = 0
      · subst h1
        have HV2 : Hid (chkV ps D (0, e2) = F0) := by show chkV ps D (0, e2) = _; rw [HV.out, if_pos rfl]
        clear HV
        go_wp2
        refine bodyPost_ret (v := F0) (by simp [results, Tryz.results6, go_sem, g0, g1, g2, g3]) rfl ⟨by rw [HV2.out], ?_⟩
        refine Keep.setCell (Keep.setCell (Keep.setCell (Keep.setCell HM5.out.kp (.inr ?_) _) (.inr ?_) _) (.inr ?_) _) (.inr ?_) _
        all_goals (have := HHw.out; simp; omega)
      · have h1b : (e1 != 0) = true := by simpa using h1
        have HV2 : Hid (chkV ps D (e1, e2) = .agg #[.int .i64 e1, .int .i64 0, .int .i64 ((ps.length : Int) + e2), .int .i64 (-1)]) := by show chkV ps D (e1, e2) = _; rw [HV.out, if_neg h1]
        clear h1 HV
        go_wp2
        refine bodyPost_ret (v := .agg #[.int .i64 e1, .int .i64 0, .int .i64 ((ps.length : Int) + e2), .int .i64 (-1)]) (by simp [results, Tryz.results6, go_sem, g0, g1, g2, g3]) rfl ⟨by rw [HV2.out], ?_⟩
        refine Keep.setCell (Keep.setCell (Keep.setCell (Keep.setCell HM5.out.kp (.inr ?_) _) (.inr ?_) _) (.inr ?_) _) (.inr ?_) _
        all_goals (have := HHw.out; simp; omega)
end Go.Proofs.YtplbclokoffgkaaGreatDoor
