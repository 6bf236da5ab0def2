/- Tuples compared: Same, Compare, Backward. -/
import Derived.Test.YtclapbpkkaljgaaGreatDoorSaE
import Derived.Deep.RegionHeld3
namespace Go.Proofs.YtclapbpkkaljgaaGreatDoor
open Go.RowKit Go.PlainAid

structure K7 where
  a : ByteArray
  b : ByteArray
  c : ByteArray
  d : ByteArray
  e : ByteArray
  f : ByteArray
  g : ByteArray
abbrev K7.tup (x : K7) (u : Value) : Value := .agg #[.string x.a, .string x.b, .string x.c, .string x.d, .string x.e, .string x.f, .string x.g, u]
theorem As.keep0 {w w' : World} {v : Value} {l : List AD} (h : As w v l) (k : Keep [] w w') : As w' v l := by
  obtain ⟨ao, cap, rfl, h1, h2, h3⟩ := h.ex
  refine ⟨h.ok, ao, cap, rfl, h1, h2, fun hl => ?_⟩
  obtain ⟨b, o, rfl, hc⟩ := h3 hl
  exact ⟨b, o, rfl, fun i hi => by obtain ⟨u, q1, q2⟩ := hc i hi; exact ⟨u, q1.keep k, q2.keep k (Off.nil _)⟩⟩
theorem two_cells8 {w w' : World} {a0 a1 a2 a3 a4 a5 a6 a7 z0 z1 z2 z3 z4 z5 z6 z7 : Value} (k : Keep [] ((w.alloc (.cells #[a0, a1, a2, a3, a4, a5, a6, a7] 28)).alloc (.cells #[z0, z1, z2, z3, z4, z5, z6, z7] 28)) w') :
    (w'.cell? ⟨w.heap.size, 0, none⟩ = some a0 ∧ w'.cell? ⟨w.heap.size, 1, none⟩ = some a1 ∧ w'.cell? ⟨w.heap.size, 2, none⟩ = some a2 ∧ w'.cell? ⟨w.heap.size, 3, none⟩ = some a3 ∧ w'.cell? ⟨w.heap.size, 4, none⟩ = some a4 ∧ w'.cell? ⟨w.heap.size, 5, none⟩ = some a5 ∧ w'.cell? ⟨w.heap.size, 6, none⟩ = some a6 ∧ w'.cell? ⟨w.heap.size, 7, none⟩ = some a7) ∧ (w'.cell? ⟨w.heap.size + 1, 0, none⟩ = some z0 ∧ w'.cell? ⟨w.heap.size + 1, 1, none⟩ = some z1 ∧ w'.cell? ⟨w.heap.size + 1, 2, none⟩ = some z2 ∧ w'.cell? ⟨w.heap.size + 1, 3, none⟩ = some z3 ∧ w'.cell? ⟨w.heap.size + 1, 4, none⟩ = some z4 ∧ w'.cell? ⟨w.heap.size + 1, 5, none⟩ = some z5 ∧ w'.cell? ⟨w.heap.size + 1, 6, none⟩ = some z6 ∧ w'.cell? ⟨w.heap.size + 1, 7, none⟩ = some z7) := by
  refine ⟨⟨k.cell' ?_ (by simp), k.cell' ?_ (by simp), k.cell' ?_ (by simp), k.cell' ?_ (by simp), k.cell' ?_ (by simp), k.cell' ?_ (by simp), k.cell' ?_ (by simp), k.cell' ?_ (by simp)⟩, ⟨k.cell' ?_ (by simp), k.cell' ?_ (by simp), k.cell' ?_ (by simp), k.cell' ?_ (by simp), k.cell' ?_ (by simp), k.cell' ?_ (by simp), k.cell' ?_ (by simp), k.cell' ?_ (by simp)⟩⟩ <;> simp [go_sem]
def cmpO (t i t' i' : List UInt8) : Int := if (cmpT t t' != 0) = true then cmpT t t' else cmpT i i'
def cmpS (t i r t' i' r' : List UInt8) : Int := if (cmpO t i t' i' != 0) = true then cmpO t i t' i' else cmpT r r'

set_option maxHeartbeats 400000 in
theorem cmpObj_any (t i t' i' : ByteArray) (w : World) :
    Calls Tryz.prog 10 #[.agg #[.string t, .string i], .agg #[.string t', .string i']] w fun e w' => e = .returned (.int .i64 (cmpO t.toList i.toList t'.toList i'.toList)) ∧ Keep [] w w' := by
  cases h : (cmpT t.toList t'.toList != 0)
  all_goals
    go_enter Tryz.func10, Tryz.ntmps10
    go_wp2_with (go_at_call 11; refine (strCmp_any _ _ _).mono ?_; rintro e w9 ⟨rfl, hw⟩; obtain rfl := hw.symm)
    go_ret
    exact ⟨ret_int (by unfold cmpO; rw [h]; rfl), (Keep.alloc1 w _).alloc _⟩

theorem two3 {w w' : World} {a0 a1 a2 z0 z1 z2 : Value} (k : Keep [] ((w.alloc (.cells #[a0, a1, a2] 25)).alloc (.cells #[z0, z1, z2] 25)) w') :
    (w'.cell? ⟨w.heap.size, 0, none⟩ = some a0 ∧ w'.cell? ⟨w.heap.size, 1, none⟩ = some a1 ∧ w'.cell? ⟨w.heap.size, 2, none⟩ = some a2) ∧ (w'.cell? ⟨w.heap.size + 1, 0, none⟩ = some z0 ∧ w'.cell? ⟨w.heap.size + 1, 1, none⟩ = some z1 ∧ w'.cell? ⟨w.heap.size + 1, 2, none⟩ = some z2) := by
  refine ⟨⟨k.cell' ?_ (by simp), k.cell' ?_ (by simp), k.cell' ?_ (by simp)⟩, ⟨k.cell' ?_ (by simp), k.cell' ?_ (by simp), k.cell' ?_ (by simp)⟩⟩ <;> simp [go_sem]

set_option maxHeartbeats 400000 in
theorem cmpSub_any (t i r t' i' r' : ByteArray) (w : World) :
    Calls Tryz.prog 12 #[.agg #[.string t, .string i, .string r], .agg #[.string t', .string i', .string r']] w fun e w' => e = .returned (.int .i64 (cmpS t.toList i.toList r.toList t'.toList i'.toList r'.toList)) ∧ Keep [] w w' := by
  cases h : (cmpO t.toList i.toList t'.toList i'.toList != 0)
  all_goals
    go_enter Tryz.func12, Tryz.ntmps12
    go_wp2_with (first | (go_at_call 10; refine (cmpObj_any _ _ _ _ _).mono ?_; rintro e w1 ⟨rfl, k1⟩; obtain ⟨⟨c0, c1, c2⟩, ⟨d0, d1, d2⟩⟩ := two3 k1) | (go_at_call 11; refine (strCmp_any _ _ _).mono ?_; rintro e w9 ⟨rfl, hw⟩; obtain rfl := hw.symm))
    go_ret
    exact ⟨ret_int (by unfold cmpS; rw [h]; rfl), ((Keep.alloc1 w _).alloc _).trans' k1⟩

def tkeyB (x y : K7) : Bool := (x.a.toList == y.a.toList) && ((x.b.toList == y.b.toList) && ((x.c.toList == y.c.toList) && ((x.d.toList == y.d.toList) && ((x.e.toList == y.e.toList) && (x.f.toList == y.f.toList)))))
def samT (x y : K7) (l m : List AD) : Bool := tkeyB x y && ((x.g.toList == y.g.toList) && sameAL l m)
def cmpK (x y : K7) : Int := if (cmpO x.a.toList x.b.toList y.a.toList y.b.toList != 0) = true then cmpO x.a.toList x.b.toList y.a.toList y.b.toList else if (cmpT x.c.toList y.c.toList != 0) = true then cmpT x.c.toList y.c.toList else cmpS x.d.toList x.e.toList x.f.toList y.d.toList y.e.toList y.f.toList
def bckK (x y : K7) : Int := if (cmpS x.d.toList x.e.toList x.f.toList y.d.toList y.e.toList y.f.toList != 0) = true then cmpS x.d.toList x.e.toList x.f.toList y.d.toList y.e.toList y.f.toList else if (cmpO x.a.toList x.b.toList y.a.toList y.b.toList != 0) = true then cmpO x.a.toList x.b.toList y.a.toList y.b.toList else cmpT x.c.toList y.c.toList

set_option maxRecDepth 1000000 in
theorem sameKey_any (x y : K7) (u v : Value) (w : World) : Calls Tryz.prog 13 #[x.tup u, y.tup v] w fun e w' => e = .returned (.bool (tkeyB x y)) ∧ Keep [] w w' := by
  obtain ⟨a, b, c, d, e, f, h⟩ := x
  obtain ⟨a', b', c', d', e', f', h'⟩ := y
  go_enter Tryz.func13, Tryz.ntmps13
  go_wp2
  all_goals
    go_ret
    exact ⟨ret_bool (by simp [tkeyB, *]), ((Keep.alloc1 w _).alloc _)⟩

set_option maxRecDepth 1000000 in
set_option maxHeartbeats 1600000 in
theorem tSame_any (x y : K7) (u v : Value) (l m : List AD) (w : World) (hu : As w u l) (hv : As w v m) : Calls Tryz.prog 7 #[x.tup u, y.tup v] w fun e w' => e = .returned (.bool (samT x y l m)) ∧ Keep [] w w' := by
  have hK := fun w1 => sameKey_any x y u v w1
  have hS := fun w1 (k : Keep [] w w1) => sameArgs_any u v l m w1 (hu.keep0 k) (hv.keep0 k)
  have HR : Hid (samT x y l m = (tkeyB x y && ((x.g.toList == y.g.toList) && sameAL l m))) := rfl
  obtain ⟨ao, ca, rfl, _, _, _⟩ := hu.ex
  obtain ⟨bo, cb, rfl, _, _, _⟩ := hv.ex
  clear hu hv
  obtain ⟨a, b, c, d, e, f, h⟩ := x
  obtain ⟨a', b', c', d', e', f', h'⟩ := y
  generalize samT ⟨a, b, c, d, e, f, h⟩ ⟨a', b', c', d', e', f', h'⟩ l m = r at HR
  generalize sameAL l m = s at HR hS
  generalize tkeyB ⟨a, b, c, d, e, f, h⟩ ⟨a', b', c', d', e', f', h'⟩ = q at HR hK
  cases q
  · go_enter Tryz.func7, Tryz.ntmps7
    go_wp2_with fail
    refine (hK _).mono ?_
    rintro e9 w1 ⟨rfl, k1⟩
    obtain ⟨⟨c0, c1, c2, c3, c4, c5, c6, c7⟩, ⟨d0, d1, d2, d3, d4, d5, d6, d7⟩⟩ := two_cells8 k1
    have HK : Hid (Keep [] w w1) := ((Keep.alloc1 w _).alloc _).trans' k1
    clear k1
    go_wp2
    go_ret
    exact ⟨ret_bool (by rw [HR.out]; rfl), HK.out⟩
  · cases hg : (h.toList == h'.toList)
    · go_enter Tryz.func7, Tryz.ntmps7
      go_wp2_with fail
      refine (hK _).mono ?_
      rintro e9 w1 ⟨rfl, k1⟩
      obtain ⟨⟨c0, c1, c2, c3, c4, c5, c6, c7⟩, ⟨d0, d1, d2, d3, d4, d5, d6, d7⟩⟩ := two_cells8 k1
      have HK : Hid (Keep [] w w1) := ((Keep.alloc1 w _).alloc _).trans' k1
      clear k1
      go_wp2
      go_ret
      exact ⟨ret_bool (by rw [HR.out, hg]; rfl), HK.out⟩
    · go_enter Tryz.func7, Tryz.ntmps7
      go_wp2_with fail
      refine (hK _).mono ?_
      rintro e9 w1 ⟨rfl, k1⟩
      obtain ⟨⟨c0, c1, c2, c3, c4, c5, c6, c7⟩, ⟨d0, d1, d2, d3, d4, d5, d6, d7⟩⟩ := two_cells8 k1
      have HK : Hid (Keep [] w w1) := ((Keep.alloc1 w _).alloc _).trans' k1
      clear k1
      go_wp2_with fail
      refine (hS _ HK.out).mono ?_
      rintro e9 w2 ⟨rfl, k2⟩
      have HK2 : Hid (Keep [] w w2) := HK.out.trans' k2
      clear k2 c0 c1 c2 c3 c4 c5 c6 c7 d0 d1 d2 d3 d4 d5 d6 d7
      go_wp2
      go_ret
      exact ⟨ret_bool (by rw [HR.out, hg]; simp), HK2.out⟩

theorem two_keep8 {w w' : World} {n n' : Nat} {a0 a1 a2 a3 a4 a5 a6 a7 z0 z1 z2 z3 z4 z5 z6 z7 : Value} (h : (w.cell? ⟨n, 0, none⟩ = some a0 ∧ w.cell? ⟨n, 1, none⟩ = some a1 ∧ w.cell? ⟨n, 2, none⟩ = some a2 ∧ w.cell? ⟨n, 3, none⟩ = some a3 ∧ w.cell? ⟨n, 4, none⟩ = some a4 ∧ w.cell? ⟨n, 5, none⟩ = some a5 ∧ w.cell? ⟨n, 6, none⟩ = some a6 ∧ w.cell? ⟨n, 7, none⟩ = some a7) ∧ (w.cell? ⟨n', 0, none⟩ = some z0 ∧ w.cell? ⟨n', 1, none⟩ = some z1 ∧ w.cell? ⟨n', 2, none⟩ = some z2 ∧ w.cell? ⟨n', 3, none⟩ = some z3 ∧ w.cell? ⟨n', 4, none⟩ = some z4 ∧ w.cell? ⟨n', 5, none⟩ = some z5 ∧ w.cell? ⟨n', 6, none⟩ = some z6 ∧ w.cell? ⟨n', 7, none⟩ = some z7)) (k : Keep [] w w') : (w'.cell? ⟨n, 0, none⟩ = some a0 ∧ w'.cell? ⟨n, 1, none⟩ = some a1 ∧ w'.cell? ⟨n, 2, none⟩ = some a2 ∧ w'.cell? ⟨n, 3, none⟩ = some a3 ∧ w'.cell? ⟨n, 4, none⟩ = some a4 ∧ w'.cell? ⟨n, 5, none⟩ = some a5 ∧ w'.cell? ⟨n, 6, none⟩ = some a6 ∧ w'.cell? ⟨n, 7, none⟩ = some a7) ∧ (w'.cell? ⟨n', 0, none⟩ = some z0 ∧ w'.cell? ⟨n', 1, none⟩ = some z1 ∧ w'.cell? ⟨n', 2, none⟩ = some z2 ∧ w'.cell? ⟨n', 3, none⟩ = some z3 ∧ w'.cell? ⟨n', 4, none⟩ = some z4 ∧ w'.cell? ⟨n', 5, none⟩ = some z5 ∧ w'.cell? ⟨n', 6, none⟩ = some z6 ∧ w'.cell? ⟨n', 7, none⟩ = some z7) := by
  obtain ⟨⟨c0, c1, c2, c3, c4, c5, c6, c7⟩, ⟨d0, d1, d2, d3, d4, d5, d6, d7⟩⟩ := h
  exact ⟨⟨k.cell' c0 (by simp), k.cell' c1 (by simp), k.cell' c2 (by simp), k.cell' c3 (by simp), k.cell' c4 (by simp), k.cell' c5 (by simp), k.cell' c6 (by simp), k.cell' c7 (by simp)⟩, ⟨k.cell' d0 (by simp), k.cell' d1 (by simp), k.cell' d2 (by simp), k.cell' d3 (by simp), k.cell' d4 (by simp), k.cell' d5 (by simp), k.cell' d6 (by simp), k.cell' d7 (by simp)⟩⟩

theorem strCmp_keep (a b : ByteArray) (w : World) : Calls Tryz.prog 11 #[.string a, .string b] w fun e w' => e = .returned (.int .i64 (cmpT a.toList b.toList)) ∧ Keep [] w w' := by
  refine (strCmp_any a b w).mono ?_
  rintro e w' ⟨he, rfl⟩
  exact ⟨he, Keep.refl _ _⟩
set_option maxRecDepth 1000000 in
set_option maxHeartbeats 1600000 in
theorem tCompare_any (x y : K7) (u v : Value) (w : World) : Calls Tryz.prog 4 #[x.tup u, y.tup v] w fun e w' => e = .returned (.int .i64 (cmpK x y)) ∧ Keep [] w w' := by
  obtain ⟨a, b, c, d, e, f, h⟩ := x
  obtain ⟨a', b', c', d', e', f', h'⟩ := y
  have C0 := fun w1 : World => cmpObj_any a b a' b' w1
  have C1 := fun w1 : World => strCmp_keep c c' w1
  have C2 := fun w1 : World => cmpSub_any d e f d' e' f' w1
  have HR : Hid (cmpK ⟨a, b, c, d, e, f, h⟩ ⟨a', b', c', d', e', f', h'⟩ = if (cmpO a.toList b.toList a'.toList b'.toList != 0) = true then cmpO a.toList b.toList a'.toList b'.toList else if (cmpT c.toList c'.toList != 0) = true then cmpT c.toList c'.toList else cmpS d.toList e.toList f.toList d'.toList e'.toList f'.toList) := rfl
  generalize cmpK ⟨a, b, c, d, e, f, h⟩ ⟨a', b', c', d', e', f', h'⟩ = r at HR
  generalize cmpO a.toList b.toList a'.toList b'.toList = z0 at HR C0
  generalize cmpT c.toList c'.toList = z1 at HR C1
  generalize cmpS d.toList e.toList f.toList d'.toList e'.toList f'.toList = z2 at HR C2
  cases h0 : (z0 != 0)
  · cases h1 : (z1 != 0)
    · go_enter Tryz.func4, Tryz.ntmps4
      go_wp2_with fail
      refine (C0 _).mono ?_
      rintro e9 w1 ⟨rfl, k1⟩
      obtain ⟨⟨c0, c1, c2, c3, c4, c5, c6, c7⟩, ⟨d0, d1, d2, d3, d4, d5, d6, d7⟩⟩ := two_cells8 k1
      have HK0 : Hid (Keep [] w w1) := ((Keep.alloc1 w _).alloc _).trans' k1
      have HC0 : Hid _ := two_cells8 k1
      clear k1
      go_wp2_with fail
      refine (C1 _).mono ?_
      rintro e9 w2 ⟨rfl, k1⟩
      have HK1 : Hid (Keep [] w w2) := HK0.out.trans' k1
      have HC1 : Hid _ := two_keep8 HC0.out k1
      clear k1 c0 c1 c2 c3 c4 c5 c6 c7 d0 d1 d2 d3 d4 d5 d6 d7 HC0
      obtain ⟨⟨c0, c1, c2, c3, c4, c5, c6, c7⟩, ⟨d0, d1, d2, d3, d4, d5, d6, d7⟩⟩ := HC1.out
      go_wp2_with fail
      refine (C2 _).mono ?_
      rintro e9 w3 ⟨rfl, k1⟩
      have HK2 : Hid (Keep [] w w3) := HK1.out.trans' k1
      have HC2 : Hid _ := two_keep8 HC1.out k1
      clear k1 c0 c1 c2 c3 c4 c5 c6 c7 d0 d1 d2 d3 d4 d5 d6 d7 HC1
      obtain ⟨⟨c0, c1, c2, c3, c4, c5, c6, c7⟩, ⟨d0, d1, d2, d3, d4, d5, d6, d7⟩⟩ := HC2.out
      go_wp2
      go_ret
      exact ⟨ret_int (by rw [HR.out]; simp_all), HK2.out⟩
    · go_enter Tryz.func4, Tryz.ntmps4
      go_wp2_with fail
      refine (C0 _).mono ?_
      rintro e9 w1 ⟨rfl, k1⟩
      obtain ⟨⟨c0, c1, c2, c3, c4, c5, c6, c7⟩, ⟨d0, d1, d2, d3, d4, d5, d6, d7⟩⟩ := two_cells8 k1
      have HK0 : Hid (Keep [] w w1) := ((Keep.alloc1 w _).alloc _).trans' k1
      have HC0 : Hid _ := two_cells8 k1
      clear k1
      go_wp2_with fail
      refine (C1 _).mono ?_
      rintro e9 w2 ⟨rfl, k1⟩
      have HK1 : Hid (Keep [] w w2) := HK0.out.trans' k1
      have HC1 : Hid _ := two_keep8 HC0.out k1
      clear k1 c0 c1 c2 c3 c4 c5 c6 c7 d0 d1 d2 d3 d4 d5 d6 d7 HC0
      obtain ⟨⟨c0, c1, c2, c3, c4, c5, c6, c7⟩, ⟨d0, d1, d2, d3, d4, d5, d6, d7⟩⟩ := HC1.out
      go_wp2
      go_ret
      exact ⟨ret_int (by rw [HR.out]; simp_all), HK1.out⟩
  · go_enter Tryz.func4, Tryz.ntmps4
    go_wp2_with fail
    refine (C0 _).mono ?_
    rintro e9 w1 ⟨rfl, k1⟩
    obtain ⟨⟨c0, c1, c2, c3, c4, c5, c6, c7⟩, ⟨d0, d1, d2, d3, d4, d5, d6, d7⟩⟩ := two_cells8 k1
    have HK0 : Hid (Keep [] w w1) := ((Keep.alloc1 w _).alloc _).trans' k1
    have HC0 : Hid _ := two_cells8 k1
    clear k1
    go_wp2
    go_ret
    exact ⟨ret_int (by rw [HR.out]; simp_all), HK0.out⟩

set_option maxRecDepth 1000000 in
set_option maxHeartbeats 1600000 in
theorem tBackward_any (x y : K7) (u v : Value) (w : World) : Calls Tryz.prog 5 #[x.tup u, y.tup v] w fun e w' => e = .returned (.int .i64 (bckK x y)) ∧ Keep [] w w' := by
  obtain ⟨a, b, c, d, e, f, h⟩ := x
  obtain ⟨a', b', c', d', e', f', h'⟩ := y
  have C0 := fun w1 : World => cmpSub_any d e f d' e' f' w1
  have C1 := fun w1 : World => cmpObj_any a b a' b' w1
  have C2 := fun w1 : World => strCmp_keep c c' w1
  have HR : Hid (bckK ⟨a, b, c, d, e, f, h⟩ ⟨a', b', c', d', e', f', h'⟩ = if (cmpS d.toList e.toList f.toList d'.toList e'.toList f'.toList != 0) = true then cmpS d.toList e.toList f.toList d'.toList e'.toList f'.toList else if (cmpO a.toList b.toList a'.toList b'.toList != 0) = true then cmpO a.toList b.toList a'.toList b'.toList else cmpT c.toList c'.toList) := rfl
  generalize bckK ⟨a, b, c, d, e, f, h⟩ ⟨a', b', c', d', e', f', h'⟩ = r at HR
  generalize cmpS d.toList e.toList f.toList d'.toList e'.toList f'.toList = z0 at HR C0
  generalize cmpO a.toList b.toList a'.toList b'.toList = z1 at HR C1
  generalize cmpT c.toList c'.toList = z2 at HR C2
  cases h0 : (z0 != 0)
  · cases h1 : (z1 != 0)
    · go_enter Tryz.func5, Tryz.ntmps5
      go_wp2_with fail
      refine (C0 _).mono ?_
      rintro e9 w1 ⟨rfl, k1⟩
      obtain ⟨⟨c0, c1, c2, c3, c4, c5, c6, c7⟩, ⟨d0, d1, d2, d3, d4, d5, d6, d7⟩⟩ := two_cells8 k1
      have HK0 : Hid (Keep [] w w1) := ((Keep.alloc1 w _).alloc _).trans' k1
      have HC0 : Hid _ := two_cells8 k1
      clear k1
      go_wp2_with fail
      refine (C1 _).mono ?_
      rintro e9 w2 ⟨rfl, k1⟩
      have HK1 : Hid (Keep [] w w2) := HK0.out.trans' k1
      have HC1 : Hid _ := two_keep8 HC0.out k1
      clear k1 c0 c1 c2 c3 c4 c5 c6 c7 d0 d1 d2 d3 d4 d5 d6 d7 HC0
      obtain ⟨⟨c0, c1, c2, c3, c4, c5, c6, c7⟩, ⟨d0, d1, d2, d3, d4, d5, d6, d7⟩⟩ := HC1.out
      go_wp2_with fail
      refine (C2 _).mono ?_
      rintro e9 w3 ⟨rfl, k1⟩
      have HK2 : Hid (Keep [] w w3) := HK1.out.trans' k1
      have HC2 : Hid _ := two_keep8 HC1.out k1
      clear k1 c0 c1 c2 c3 c4 c5 c6 c7 d0 d1 d2 d3 d4 d5 d6 d7 HC1
      obtain ⟨⟨c0, c1, c2, c3, c4, c5, c6, c7⟩, ⟨d0, d1, d2, d3, d4, d5, d6, d7⟩⟩ := HC2.out
      go_wp2
      go_ret
      exact ⟨ret_int (by rw [HR.out]; simp_all), HK2.out⟩
    · go_enter Tryz.func5, Tryz.ntmps5
      go_wp2_with fail
      refine (C0 _).mono ?_
      rintro e9 w1 ⟨rfl, k1⟩
      obtain ⟨⟨c0, c1, c2, c3, c4, c5, c6, c7⟩, ⟨d0, d1, d2, d3, d4, d5, d6, d7⟩⟩ := two_cells8 k1
      have HK0 : Hid (Keep [] w w1) := ((Keep.alloc1 w _).alloc _).trans' k1
      have HC0 : Hid _ := two_cells8 k1
      clear k1
      go_wp2_with fail
      refine (C1 _).mono ?_
      rintro e9 w2 ⟨rfl, k1⟩
      have HK1 : Hid (Keep [] w w2) := HK0.out.trans' k1
      have HC1 : Hid _ := two_keep8 HC0.out k1
      clear k1 c0 c1 c2 c3 c4 c5 c6 c7 d0 d1 d2 d3 d4 d5 d6 d7 HC0
      obtain ⟨⟨c0, c1, c2, c3, c4, c5, c6, c7⟩, ⟨d0, d1, d2, d3, d4, d5, d6, d7⟩⟩ := HC1.out
      go_wp2
      go_ret
      exact ⟨ret_int (by rw [HR.out]; simp_all), HK1.out⟩
  · go_enter Tryz.func5, Tryz.ntmps5
    go_wp2_with fail
    refine (C0 _).mono ?_
    rintro e9 w1 ⟨rfl, k1⟩
    obtain ⟨⟨c0, c1, c2, c3, c4, c5, c6, c7⟩, ⟨d0, d1, d2, d3, d4, d5, d6, d7⟩⟩ := two_cells8 k1
    have HK0 : Hid (Keep [] w w1) := ((Keep.alloc1 w _).alloc _).trans' k1
    have HC0 : Hid _ := two_cells8 k1
    clear k1
    go_wp2
    go_ret
    exact ⟨ret_int (by rw [HR.out]; simp_all), HK0.out⟩

end Go.Proofs.YtclapbpkkaljgaaGreatDoor

