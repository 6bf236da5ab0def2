/- Tuples compared: Same, Compare, Backward, the program's and the document's. -/
import Derived.Test.YtbflhpafejmelaaCpW
namespace Go.Proofs.Ytbflhpafejmelaa
open Go.RowKit Go.PlainAid

def tkeyB (x y : K7) : Bool := (x.a.toList == y.a.toList) && ((x.b.toList == y.b.toList) && ((x.c.toList == y.c.toList) && ((x.d.toList == y.d.toList) && ((x.e.toList == y.e.toList) && (x.f.toList == y.f.toList)))))
def samT (x y : K7) (l m : List AD) : Bool := tkeyB x y && ((x.g.toList == y.g.toList) && sameAL l m)
def cmpK (x y : K7) : Int := if (cmpO x.a.toList x.b.toList y.a.toList y.b.toList != 0) = true then cmpO x.a.toList x.b.toList y.a.toList y.b.toList else if (cmpT x.c.toList y.c.toList != 0) = true then cmpT x.c.toList y.c.toList else cmpS x.d.toList x.e.toList x.f.toList y.d.toList y.e.toList y.f.toList
def bckK (x y : K7) : Int := if (cmpS x.d.toList x.e.toList x.f.toList y.d.toList y.e.toList y.f.toList != 0) = true then cmpS x.d.toList x.e.toList x.f.toList y.d.toList y.e.toList y.f.toList else if (cmpO x.a.toList x.b.toList y.a.toList y.b.toList != 0) = true then cmpO x.a.toList x.b.toList y.a.toList y.b.toList else cmpT x.c.toList y.c.toList

set_option maxRecDepth 1000000 in
theorem sameKey_any (x y : K7) (u v : Value) (w : World) : Calls Try.prog 17 #[x.tup u, y.tup v] w fun e w' => e = .returned (.bool (tkeyB x y)) ∧ Keep [] w w' := by
  obtain ⟨a, b, c, d, e, f, h⟩ := x
  obtain ⟨a', b', c', d', e', f', h'⟩ := y
  go_enter Try.func17, Try.ntmps17
  go_wp2
  all_goals
    go_ret
    exact ⟨ret_bool (by simp [tkeyB, *]), ((Keep.alloc1 w _).alloc _)⟩

set_option maxRecDepth 1000000 in
set_option maxHeartbeats 1600000 in
theorem tSame_any (x y : K7) (u v : Value) (l m : List AD) (w : World) (hu : As w u l) (hv : As w v m) : Calls Try.prog 7 #[x.tup u, y.tup v] w fun e w' => e = .returned (.bool (samT x y l m)) ∧ Keep [] w w' := by
  have hK := fun w1 => sameKey_any x y u v w1
  have hS := fun w1 (k : Keep [] w w1) => sameArgs_any u v l m w1 (hu.keep0 k) (hv.keep0 k)
  have HR : Hid (samT x y l m = (tkeyB x y && ((x.g.toList == y.g.toList) && sameAL l m))) := rfl
  obtain ⟨ao, ca, rfl, _, _, _⟩ := hu.ex
  obtain ⟨bo, cb, rfl, _, _, _⟩ := hv.ex
  clear hu hv
  obtain ⟨a, b, c, d, e, f, h⟩ := x
  obtain ⟨a', b', c', d', e', f', h'⟩ := y
  generalize samT ⟨a, b, c, d, e, f, h⟩ ⟨a', b', c', d', e', f', h'⟩ l m = r at HR
  generalize sameAL l m = s at HR hS
  generalize tkeyB ⟨a, b, c, d, e, f, h⟩ ⟨a', b', c', d', e', f', h'⟩ = q at HR hK
  cases q
  · go_enter Try.func7, Try.ntmps7
    go_wp2_with fail
    refine (hK _).mono ?_
    rintro e9 w1 ⟨rfl, k1⟩
    obtain ⟨⟨c0, c1, c2, c3, c4, c5, c6, c7⟩, ⟨d0, d1, d2, d3, d4, d5, d6, d7⟩⟩ := two_cells8 k1
    have HK : Hid (Keep [] w w1) := ((Keep.alloc1 w _).alloc _).trans' k1
    clear k1
    go_wp2
    go_ret
    exact ⟨ret_bool (by rw [HR.out]; rfl), HK.out⟩
  · cases hg : (h.toList == h'.toList)
    · go_enter Try.func7, Try.ntmps7
      go_wp2_with fail
      refine (hK _).mono ?_
      rintro e9 w1 ⟨rfl, k1⟩
      obtain ⟨⟨c0, c1, c2, c3, c4, c5, c6, c7⟩, ⟨d0, d1, d2, d3, d4, d5, d6, d7⟩⟩ := two_cells8 k1
      have HK : Hid (Keep [] w w1) := ((Keep.alloc1 w _).alloc _).trans' k1
      clear k1
      go_wp2
      go_ret
      exact ⟨ret_bool (by rw [HR.out, hg]; rfl), HK.out⟩
    · go_enter Try.func7, Try.ntmps7
      go_wp2_with fail
      refine (hK _).mono ?_
      rintro e9 w1 ⟨rfl, k1⟩
      obtain ⟨⟨c0, c1, c2, c3, c4, c5, c6, c7⟩, ⟨d0, d1, d2, d3, d4, d5, d6, d7⟩⟩ := two_cells8 k1
      have HK : Hid (Keep [] w w1) := ((Keep.alloc1 w _).alloc _).trans' k1
      clear k1
      go_wp2_with fail
      refine (hS _ HK.out).mono ?_
      rintro e9 w2 ⟨rfl, k2⟩
      have HK2 : Hid (Keep [] w w2) := HK.out.trans' k2
      clear k2 c0 c1 c2 c3 c4 c5 c6 c7 d0 d1 d2 d3 d4 d5 d6 d7
      go_wp2
      go_ret
      exact ⟨ret_bool (by rw [HR.out, hg]; simp), HK2.out⟩

set_option maxRecDepth 1000000 in
set_option maxHeartbeats 3200000 in
theorem rtSame_any (x y : K7) (u v : Value) (l m : List AD) (w : World) (hu : As w u l) (hv : As w v m) : Calls Try.prog 10 #[x.tup u, y.tup v] w fun e w' => e = .returned (.bool (samT x y l m)) ∧ Keep [] w w' := by
  have hS := fun w1 (k : Keep [] w w1) => rSameArgs_any u v l m w1 (hu.keep0 k) (hv.keep0 k)
  have HR : Hid (samT x y l m = ((x.a.toList == y.a.toList) && ((x.b.toList == y.b.toList) && ((x.c.toList == y.c.toList) && ((x.d.toList == y.d.toList) && ((x.e.toList == y.e.toList) && (x.f.toList == y.f.toList))))) && ((x.g.toList == y.g.toList) && sameAL l m))) := rfl
  obtain ⟨ao, ca, rfl, _, _, _⟩ := hu.ex
  obtain ⟨bo, cb, rfl, _, _, _⟩ := hv.ex
  clear hu hv
  obtain ⟨a, b, c, d, e, f, h⟩ := x
  obtain ⟨a', b', c', d', e', f', h'⟩ := y
  generalize samT ⟨a, b, c, d, e, f, h⟩ ⟨a', b', c', d', e', f', h'⟩ l m = r at HR
  generalize sameAL l m = s at HR hS
  have K0 : Hid (Keep [] w ((w.alloc (.cells #[.string a, .string b, .string c, .string d, .string e, .string f, .string h, .slice ao l.length ca] 28)).alloc (.cells #[.string a', .string b', .string c', .string d', .string e', .string f', .string h', .slice bo m.length cb] 28))) := (Keep.alloc1 w _).alloc _
  go_enter Try.func10, Try.ntmps10
  go_wp2_with (go_at_call 22; refine (hS _ K0.out).mono ?_; rintro e9 w2 ⟨rfl, k2⟩; have HK2 : Hid (Keep [] w w2) := K0.out.trans' k2; clear k2)
  all_goals
    go_ret
    exact ⟨ret_bool (by rw [HR.out]; simp [*]), by first | exact HK2.out | exact K0.out⟩

theorem two_keep8 {w w' : World} {n n' : Nat} {a0 a1 a2 a3 a4 a5 a6 a7 z0 z1 z2 z3 z4 z5 z6 z7 : Value} (h : (w.cell? ⟨n, 0, none⟩ = some a0 ∧ w.cell? ⟨n, 1, none⟩ = some a1 ∧ w.cell? ⟨n, 2, none⟩ = some a2 ∧ w.cell? ⟨n, 3, none⟩ = some a3 ∧ w.cell? ⟨n, 4, none⟩ = some a4 ∧ w.cell? ⟨n, 5, none⟩ = some a5 ∧ w.cell? ⟨n, 6, none⟩ = some a6 ∧ w.cell? ⟨n, 7, none⟩ = some a7) ∧ (w.cell? ⟨n', 0, none⟩ = some z0 ∧ w.cell? ⟨n', 1, none⟩ = some z1 ∧ w.cell? ⟨n', 2, none⟩ = some z2 ∧ w.cell? ⟨n', 3, none⟩ = some z3 ∧ w.cell? ⟨n', 4, none⟩ = some z4 ∧ w.cell? ⟨n', 5, none⟩ = some z5 ∧ w.cell? ⟨n', 6, none⟩ = some z6 ∧ w.cell? ⟨n', 7, none⟩ = some z7)) (k : Keep [] w w') : (w'.cell? ⟨n, 0, none⟩ = some a0 ∧ w'.cell? ⟨n, 1, none⟩ = some a1 ∧ w'.cell? ⟨n, 2, none⟩ = some a2 ∧ w'.cell? ⟨n, 3, none⟩ = some a3 ∧ w'.cell? ⟨n, 4, none⟩ = some a4 ∧ w'.cell? ⟨n, 5, none⟩ = some a5 ∧ w'.cell? ⟨n, 6, none⟩ = some a6 ∧ w'.cell? ⟨n, 7, none⟩ = some a7) ∧ (w'.cell? ⟨n', 0, none⟩ = some z0 ∧ w'.cell? ⟨n', 1, none⟩ = some z1 ∧ w'.cell? ⟨n', 2, none⟩ = some z2 ∧ w'.cell? ⟨n', 3, none⟩ = some z3 ∧ w'.cell? ⟨n', 4, none⟩ = some z4 ∧ w'.cell? ⟨n', 5, none⟩ = some z5 ∧ w'.cell? ⟨n', 6, none⟩ = some z6 ∧ w'.cell? ⟨n', 7, none⟩ = some z7) := by
  obtain ⟨⟨c0, c1, c2, c3, c4, c5, c6, c7⟩, ⟨d0, d1, d2, d3, d4, d5, d6, d7⟩⟩ := h
  exact ⟨⟨k.cell' c0 (by simp), k.cell' c1 (by simp), k.cell' c2 (by simp), k.cell' c3 (by simp), k.cell' c4 (by simp), k.cell' c5 (by simp), k.cell' c6 (by simp), k.cell' c7 (by simp)⟩, ⟨k.cell' d0 (by simp), k.cell' d1 (by simp), k.cell' d2 (by simp), k.cell' d3 (by simp), k.cell' d4 (by simp), k.cell' d5 (by simp), k.cell' d6 (by simp), k.cell' d7 (by simp)⟩⟩

theorem strCmp_keep (a b : ByteArray) (w : World) : Calls Try.prog 20 #[.string a, .string b] w fun e w' => e = .returned (.int .i64 (cmpT a.toList b.toList)) ∧ Keep [] w w' := by
  refine (strCmp_any a b w).mono ?_
  rintro e w' ⟨he, rfl⟩
  exact ⟨he, Keep.refl _ _⟩
theorem rTexts_keep (a b : ByteArray) (w : World) (h : a.size ≤ 9223372036854775807) : Calls Try.prog 24 #[.string a, .string b] w fun e w' => e = .returned (.int .i64 (cmpT a.toList b.toList)) ∧ Keep [] w w' := by
  refine (rTexts_any a b w h).mono ?_
  rintro e w' ⟨he, n, rfl⟩
  exact ⟨he, (Keep.refl _ _).drewN n⟩
/-- the texts of a tuple or filter: none is longer than B -/
structure K7.Lt (x : K7) (B : Nat) : Prop where
  a : x.a.size ≤ B
  b : x.b.size ≤ B
  c : x.c.size ≤ B
  d : x.d.size ≤ B
  e : x.e.size ≤ B
  f : x.f.size ≤ B
  g : x.g.size ≤ B

set_option maxRecDepth 1000000 in
set_option maxHeartbeats 1600000 in
theorem tCompare_any (x y : K7) (u v : Value) (w : World) : Calls Try.prog 8 #[x.tup u, y.tup v] w fun e w' => e = .returned (.int .i64 (cmpK x y)) ∧ Keep [] w w' := by
  obtain ⟨a, b, c, d, e, f, h⟩ := x
  obtain ⟨a', b', c', d', e', f', h'⟩ := y
  have C0 := fun w1 : World => cmpObj_any a b a' b' w1
  have C1 := fun w1 : World => strCmp_keep c c' w1
  have C2 := fun w1 : World => cmpSub_any d e f d' e' f' w1
  have HR : Hid (cmpK ⟨a, b, c, d, e, f, h⟩ ⟨a', b', c', d', e', f', h'⟩ = if (cmpO a.toList b.toList a'.toList b'.toList != 0) = true then cmpO a.toList b.toList a'.toList b'.toList else if (cmpT c.toList c'.toList != 0) = true then cmpT c.toList c'.toList else cmpS d.toList e.toList f.toList d'.toList e'.toList f'.toList) := rfl
  generalize cmpK ⟨a, b, c, d, e, f, h⟩ ⟨a', b', c', d', e', f', h'⟩ = r at HR
  generalize cmpO a.toList b.toList a'.toList b'.toList = z0 at HR C0
  generalize cmpT c.toList c'.toList = z1 at HR C1
  generalize cmpS d.toList e.toList f.toList d'.toList e'.toList f'.toList = z2 at HR C2
  cases h0 : (z0 != 0)
  · cases h1 : (z1 != 0)
    · go_enter Try.func8, Try.ntmps8
      go_wp2_with fail
      refine (C0 _).mono ?_
      rintro e9 w1 ⟨rfl, k1⟩
      obtain ⟨⟨c0, c1, c2, c3, c4, c5, c6, c7⟩, ⟨d0, d1, d2, d3, d4, d5, d6, d7⟩⟩ := two_cells8 k1
      have HK0 : Hid (Keep [] w w1) := ((Keep.alloc1 w _).alloc _).trans' k1
      have HC0 : Hid _ := two_cells8 k1
      clear k1
      go_wp2_with fail
      refine (C1 _).mono ?_
      rintro e9 w2 ⟨rfl, k1⟩
      have HK1 : Hid (Keep [] w w2) := HK0.out.trans' k1
      have HC1 : Hid _ := two_keep8 HC0.out k1
      clear k1 c0 c1 c2 c3 c4 c5 c6 c7 d0 d1 d2 d3 d4 d5 d6 d7 HC0
      obtain ⟨⟨c0, c1, c2, c3, c4, c5, c6, c7⟩, ⟨d0, d1, d2, d3, d4, d5, d6, d7⟩⟩ := HC1.out
      go_wp2_with fail
      refine (C2 _).mono ?_
      rintro e9 w3 ⟨rfl, k1⟩
      have HK2 : Hid (Keep [] w w3) := HK1.out.trans' k1
      have HC2 : Hid _ := two_keep8 HC1.out k1
      clear k1 c0 c1 c2 c3 c4 c5 c6 c7 d0 d1 d2 d3 d4 d5 d6 d7 HC1
      obtain ⟨⟨c0, c1, c2, c3, c4, c5, c6, c7⟩, ⟨d0, d1, d2, d3, d4, d5, d6, d7⟩⟩ := HC2.out
      go_wp2
      go_ret
      exact ⟨ret_int (by rw [HR.out]; simp_all), HK2.out⟩
    · go_enter Try.func8, Try.ntmps8
      go_wp2_with fail
      refine (C0 _).mono ?_
      rintro e9 w1 ⟨rfl, k1⟩
      obtain ⟨⟨c0, c1, c2, c3, c4, c5, c6, c7⟩, ⟨d0, d1, d2, d3, d4, d5, d6, d7⟩⟩ := two_cells8 k1
      have HK0 : Hid (Keep [] w w1) := ((Keep.alloc1 w _).alloc _).trans' k1
      have HC0 : Hid _ := two_cells8 k1
      clear k1
      go_wp2_with fail
      refine (C1 _).mono ?_
      rintro e9 w2 ⟨rfl, k1⟩
      have HK1 : Hid (Keep [] w w2) := HK0.out.trans' k1
      have HC1 : Hid _ := two_keep8 HC0.out k1
      clear k1 c0 c1 c2 c3 c4 c5 c6 c7 d0 d1 d2 d3 d4 d5 d6 d7 HC0
      obtain ⟨⟨c0, c1, c2, c3, c4, c5, c6, c7⟩, ⟨d0, d1, d2, d3, d4, d5, d6, d7⟩⟩ := HC1.out
      go_wp2
      go_ret
      exact ⟨ret_int (by rw [HR.out]; simp_all), HK1.out⟩
  · go_enter Try.func8, Try.ntmps8
    go_wp2_with fail
    refine (C0 _).mono ?_
    rintro e9 w1 ⟨rfl, k1⟩
    obtain ⟨⟨c0, c1, c2, c3, c4, c5, c6, c7⟩, ⟨d0, d1, d2, d3, d4, d5, d6, d7⟩⟩ := two_cells8 k1
    have HK0 : Hid (Keep [] w w1) := ((Keep.alloc1 w _).alloc _).trans' k1
    have HC0 : Hid _ := two_cells8 k1
    clear k1
    go_wp2
    go_ret
    exact ⟨ret_int (by rw [HR.out]; simp_all), HK0.out⟩

set_option maxRecDepth 1000000 in
set_option maxHeartbeats 1600000 in
theorem tBackward_any (x y : K7) (u v : Value) (w : World) : Calls Try.prog 9 #[x.tup u, y.tup v] w fun e w' => e = .returned (.int .i64 (bckK x y)) ∧ Keep [] w w' := by
  obtain ⟨a, b, c, d, e, f, h⟩ := x
  obtain ⟨a', b', c', d', e', f', h'⟩ := y
  have C0 := fun w1 : World => cmpSub_any d e f d' e' f' w1
  have C1 := fun w1 : World => cmpObj_any a b a' b' w1
  have C2 := fun w1 : World => strCmp_keep c c' w1
  have HR : Hid (bckK ⟨a, b, c, d, e, f, h⟩ ⟨a', b', c', d', e', f', h'⟩ = if (cmpS d.toList e.toList f.toList d'.toList e'.toList f'.toList != 0) = true then cmpS d.toList e.toList f.toList d'.toList e'.toList f'.toList else if (cmpO a.toList b.toList a'.toList b'.toList != 0) = true then cmpO a.toList b.toList a'.toList b'.toList else cmpT c.toList c'.toList) := rfl
  generalize bckK ⟨a, b, c, d, e, f, h⟩ ⟨a', b', c', d', e', f', h'⟩ = r at HR
  generalize cmpS d.toList e.toList f.toList d'.toList e'.toList f'.toList = z0 at HR C0
  generalize cmpO a.toList b.toList a'.toList b'.toList = z1 at HR C1
  generalize cmpT c.toList c'.toList = z2 at HR C2
  cases h0 : (z0 != 0)
  · cases h1 : (z1 != 0)
    · go_enter Try.func9, Try.ntmps9
      go_wp2_with fail
      refine (C0 _).mono ?_
      rintro e9 w1 ⟨rfl, k1⟩
      obtain ⟨⟨c0, c1, c2, c3, c4, c5, c6, c7⟩, ⟨d0, d1, d2, d3, d4, d5, d6, d7⟩⟩ := two_cells8 k1
      have HK0 : Hid (Keep [] w w1) := ((Keep.alloc1 w _).alloc _).trans' k1
      have HC0 : Hid _ := two_cells8 k1
      clear k1
      go_wp2_with fail
      refine (C1 _).mono ?_
      rintro e9 w2 ⟨rfl, k1⟩
      have HK1 : Hid (Keep [] w w2) := HK0.out.trans' k1
      have HC1 : Hid _ := two_keep8 HC0.out k1
      clear k1 c0 c1 c2 c3 c4 c5 c6 c7 d0 d1 d2 d3 d4 d5 d6 d7 HC0
      obtain ⟨⟨c0, c1, c2, c3, c4, c5, c6, c7⟩, ⟨d0, d1, d2, d3, d4, d5, d6, d7⟩⟩ := HC1.out
      go_wp2_with fail
      refine (C2 _).mono ?_
      rintro e9 w3 ⟨rfl, k1⟩
      have HK2 : Hid (Keep [] w w3) := HK1.out.trans' k1
      have HC2 : Hid _ := two_keep8 HC1.out k1
      clear k1 c0 c1 c2 c3 c4 c5 c6 c7 d0 d1 d2 d3 d4 d5 d6 d7 HC1
      obtain ⟨⟨c0, c1, c2, c3, c4, c5, c6, c7⟩, ⟨d0, d1, d2, d3, d4, d5, d6, d7⟩⟩ := HC2.out
      go_wp2
      go_ret
      exact ⟨ret_int (by rw [HR.out]; simp_all), HK2.out⟩
    · go_enter Try.func9, Try.ntmps9
      go_wp2_with fail
      refine (C0 _).mono ?_
      rintro e9 w1 ⟨rfl, k1⟩
      obtain ⟨⟨c0, c1, c2, c3, c4, c5, c6, c7⟩, ⟨d0, d1, d2, d3, d4, d5, d6, d7⟩⟩ := two_cells8 k1
      have HK0 : Hid (Keep [] w w1) := ((Keep.alloc1 w _).alloc _).trans' k1
      have HC0 : Hid _ := two_cells8 k1
      clear k1
      go_wp2_with fail
      refine (C1 _).mono ?_
      rintro e9 w2 ⟨rfl, k1⟩
      have HK1 : Hid (Keep [] w w2) := HK0.out.trans' k1
      have HC1 : Hid _ := two_keep8 HC0.out k1
      clear k1 c0 c1 c2 c3 c4 c5 c6 c7 d0 d1 d2 d3 d4 d5 d6 d7 HC0
      obtain ⟨⟨c0, c1, c2, c3, c4, c5, c6, c7⟩, ⟨d0, d1, d2, d3, d4, d5, d6, d7⟩⟩ := HC1.out
      go_wp2
      go_ret
      exact ⟨ret_int (by rw [HR.out]; simp_all), HK1.out⟩
  · go_enter Try.func9, Try.ntmps9
    go_wp2_with fail
    refine (C0 _).mono ?_
    rintro e9 w1 ⟨rfl, k1⟩
    obtain ⟨⟨c0, c1, c2, c3, c4, c5, c6, c7⟩, ⟨d0, d1, d2, d3, d4, d5, d6, d7⟩⟩ := two_cells8 k1
    have HK0 : Hid (Keep [] w w1) := ((Keep.alloc1 w _).alloc _).trans' k1
    have HC0 : Hid _ := two_cells8 k1
    clear k1
    go_wp2
    go_ret
    exact ⟨ret_int (by rw [HR.out]; simp_all), HK0.out⟩

set_option maxRecDepth 1000000 in
set_option maxHeartbeats 1600000 in
theorem rtCompare_any (x y : K7) (u v : Value) (w : World) (hx : x.Lt 9223372036854775807) : Calls Try.prog 11 #[x.tup u, y.tup v] w fun e w' => e = .returned (.int .i64 (cmpK x y)) ∧ Keep [] w w' := by
  obtain ⟨a, b, c, d, e, f, h⟩ := x
  obtain ⟨a', b', c', d', e', f', h'⟩ := y
  obtain ⟨s1, s2, s3, s4, s5, s6, _⟩ := hx
  simp only [] at s1 s2 s3 s4 s5 s6
  have C0 := fun w1 : World => refObj_any a b a' b' w1 s1 s2
  have C1 := fun w1 : World => rTexts_keep c c' w1 s3
  have C2 := fun w1 : World => refSub_any d e f d' e' f' w1 s4 s5 s6
  have HR : Hid (cmpK ⟨a, b, c, d, e, f, h⟩ ⟨a', b', c', d', e', f', h'⟩ = if (cmpO a.toList b.toList a'.toList b'.toList != 0) = true then cmpO a.toList b.toList a'.toList b'.toList else if (cmpT c.toList c'.toList != 0) = true then cmpT c.toList c'.toList else cmpS d.toList e.toList f.toList d'.toList e'.toList f'.toList) := rfl
  generalize cmpK ⟨a, b, c, d, e, f, h⟩ ⟨a', b', c', d', e', f', h'⟩ = r at HR
  generalize cmpO a.toList b.toList a'.toList b'.toList = z0 at HR C0
  generalize cmpT c.toList c'.toList = z1 at HR C1
  generalize cmpS d.toList e.toList f.toList d'.toList e'.toList f'.toList = z2 at HR C2
  cases h0 : (z0 == 0)
  · go_enter Try.func11, Try.ntmps11
    go_wp2_with fail
    refine (C0 _).mono ?_
    rintro e9 w1 ⟨rfl, k1⟩
    obtain ⟨⟨c0, c1, c2, c3, c4, c5, c6, c7⟩, ⟨d0, d1, d2, d3, d4, d5, d6, d7⟩⟩ := two_cells8 k1
    have HK0 : Hid (Keep [] w w1) := ((Keep.alloc1 w _).alloc _).trans' k1
    have HC0 : Hid _ := two_cells8 k1
    clear k1
    go_wp2
    go_ret
    exact ⟨ret_int (by rw [HR.out]; simp_all), HK0.out⟩
  · cases h1 : (z1 == 0)
    · go_enter Try.func11, Try.ntmps11
      go_wp2_with fail
      refine (C0 _).mono ?_
      rintro e9 w1 ⟨rfl, k1⟩
      obtain ⟨⟨c0, c1, c2, c3, c4, c5, c6, c7⟩, ⟨d0, d1, d2, d3, d4, d5, d6, d7⟩⟩ := two_cells8 k1
      have HK0 : Hid (Keep [] w w1) := ((Keep.alloc1 w _).alloc _).trans' k1
      have HC0 : Hid _ := two_cells8 k1
      clear k1
      go_wp2_with fail
      refine (C1 _).mono ?_
      rintro e9 w2 ⟨rfl, k1⟩
      have HK1 : Hid (Keep [] w w2) := HK0.out.trans' k1
      have HC1 : Hid _ := two_keep8 HC0.out k1
      clear k1 c0 c1 c2 c3 c4 c5 c6 c7 d0 d1 d2 d3 d4 d5 d6 d7 HC0
      obtain ⟨⟨c0, c1, c2, c3, c4, c5, c6, c7⟩, ⟨d0, d1, d2, d3, d4, d5, d6, d7⟩⟩ := HC1.out
      go_wp2
      go_ret
      exact ⟨ret_int (by rw [HR.out]; simp_all), HK1.out⟩
    · go_enter Try.func11, Try.ntmps11
      go_wp2_with fail
      refine (C0 _).mono ?_
      rintro e9 w1 ⟨rfl, k1⟩
      obtain ⟨⟨c0, c1, c2, c3, c4, c5, c6, c7⟩, ⟨d0, d1, d2, d3, d4, d5, d6, d7⟩⟩ := two_cells8 k1
      have HK0 : Hid (Keep [] w w1) := ((Keep.alloc1 w _).alloc _).trans' k1
      have HC0 : Hid _ := two_cells8 k1
      clear k1
      go_wp2_with fail
      refine (C1 _).mono ?_
      rintro e9 w2 ⟨rfl, k1⟩
      have HK1 : Hid (Keep [] w w2) := HK0.out.trans' k1
      have HC1 : Hid _ := two_keep8 HC0.out k1
      clear k1 c0 c1 c2 c3 c4 c5 c6 c7 d0 d1 d2 d3 d4 d5 d6 d7 HC0
      obtain ⟨⟨c0, c1, c2, c3, c4, c5, c6, c7⟩, ⟨d0, d1, d2, d3, d4, d5, d6, d7⟩⟩ := HC1.out
      go_wp2_with fail
      refine (C2 _).mono ?_
      rintro e9 w3 ⟨rfl, k1⟩
      have HK2 : Hid (Keep [] w w3) := HK1.out.trans' k1
      have HC2 : Hid _ := two_keep8 HC1.out k1
      clear k1 c0 c1 c2 c3 c4 c5 c6 c7 d0 d1 d2 d3 d4 d5 d6 d7 HC1
      obtain ⟨⟨c0, c1, c2, c3, c4, c5, c6, c7⟩, ⟨d0, d1, d2, d3, d4, d5, d6, d7⟩⟩ := HC2.out
      go_wp2
      go_ret
      exact ⟨ret_int (by rw [HR.out]; simp_all), HK2.out⟩

set_option maxRecDepth 1000000 in
set_option maxHeartbeats 1600000 in
theorem rtBackward_any (x y : K7) (u v : Value) (w : World) (hx : x.Lt 9223372036854775807) : Calls Try.prog 12 #[x.tup u, y.tup v] w fun e w' => e = .returned (.int .i64 (bckK x y)) ∧ Keep [] w w' := by
  obtain ⟨a, b, c, d, e, f, h⟩ := x
  obtain ⟨a', b', c', d', e', f', h'⟩ := y
  obtain ⟨s1, s2, s3, s4, s5, s6, _⟩ := hx
  simp only [] at s1 s2 s3 s4 s5 s6
  have C0 := fun w1 : World => refSub_any d e f d' e' f' w1 s4 s5 s6
  have C1 := fun w1 : World => refObj_any a b a' b' w1 s1 s2
  have C2 := fun w1 : World => rTexts_keep c c' w1 s3
  have HR : Hid (bckK ⟨a, b, c, d, e, f, h⟩ ⟨a', b', c', d', e', f', h'⟩ = if (cmpS d.toList e.toList f.toList d'.toList e'.toList f'.toList != 0) = true then cmpS d.toList e.toList f.toList d'.toList e'.toList f'.toList else if (cmpO a.toList b.toList a'.toList b'.toList != 0) = true then cmpO a.toList b.toList a'.toList b'.toList else cmpT c.toList c'.toList) := rfl
  generalize bckK ⟨a, b, c, d, e, f, h⟩ ⟨a', b', c', d', e', f', h'⟩ = r at HR
  generalize cmpS d.toList e.toList f.toList d'.toList e'.toList f'.toList = z0 at HR C0
  generalize cmpO a.toList b.toList a'.toList b'.toList = z1 at HR C1
  generalize cmpT c.toList c'.toList = z2 at HR C2
  cases h0 : (z0 == 0)
  · go_enter Try.func12, Try.ntmps12
    go_wp2_with fail
    refine (C0 _).mono ?_
    rintro e9 w1 ⟨rfl, k1⟩
    obtain ⟨⟨c0, c1, c2, c3, c4, c5, c6, c7⟩, ⟨d0, d1, d2, d3, d4, d5, d6, d7⟩⟩ := two_cells8 k1
    have HK0 : Hid (Keep [] w w1) := ((Keep.alloc1 w _).alloc _).trans' k1
    have HC0 : Hid _ := two_cells8 k1
    clear k1
    go_wp2
    go_ret
    exact ⟨ret_int (by rw [HR.out]; simp_all), HK0.out⟩
  · cases h1 : (z1 == 0)
    · go_enter Try.func12, Try.ntmps12
      go_wp2_with fail
      refine (C0 _).mono ?_
      rintro e9 w1 ⟨rfl, k1⟩
      obtain ⟨⟨c0, c1, c2, c3, c4, c5, c6, c7⟩, ⟨d0, d1, d2, d3, d4, d5, d6, d7⟩⟩ := two_cells8 k1
      have HK0 : Hid (Keep [] w w1) := ((Keep.alloc1 w _).alloc _).trans' k1
      have HC0 : Hid _ := two_cells8 k1
      clear k1
      go_wp2_with fail
      refine (C1 _).mono ?_
      rintro e9 w2 ⟨rfl, k1⟩
      have HK1 : Hid (Keep [] w w2) := HK0.out.trans' k1
      have HC1 : Hid _ := two_keep8 HC0.out k1
      clear k1 c0 c1 c2 c3 c4 c5 c6 c7 d0 d1 d2 d3 d4 d5 d6 d7 HC0
      obtain ⟨⟨c0, c1, c2, c3, c4, c5, c6, c7⟩, ⟨d0, d1, d2, d3, d4, d5, d6, d7⟩⟩ := HC1.out
      go_wp2
      go_ret
      exact ⟨ret_int (by rw [HR.out]; simp_all), HK1.out⟩
    · go_enter Try.func12, Try.ntmps12
      go_wp2_with fail
      refine (C0 _).mono ?_
      rintro e9 w1 ⟨rfl, k1⟩
      obtain ⟨⟨c0, c1, c2, c3, c4, c5, c6, c7⟩, ⟨d0, d1, d2, d3, d4, d5, d6, d7⟩⟩ := two_cells8 k1
      have HK0 : Hid (Keep [] w w1) := ((Keep.alloc1 w _).alloc _).trans' k1
      have HC0 : Hid _ := two_cells8 k1
      clear k1
      go_wp2_with fail
      refine (C1 _).mono ?_
      rintro e9 w2 ⟨rfl, k1⟩
      have HK1 : Hid (Keep [] w w2) := HK0.out.trans' k1
      have HC1 : Hid _ := two_keep8 HC0.out k1
      clear k1 c0 c1 c2 c3 c4 c5 c6 c7 d0 d1 d2 d3 d4 d5 d6 d7 HC0
      obtain ⟨⟨c0, c1, c2, c3, c4, c5, c6, c7⟩, ⟨d0, d1, d2, d3, d4, d5, d6, d7⟩⟩ := HC1.out
      go_wp2_with fail
      refine (C2 _).mono ?_
      rintro e9 w3 ⟨rfl, k1⟩
      have HK2 : Hid (Keep [] w w3) := HK1.out.trans' k1
      have HC2 : Hid _ := two_keep8 HC1.out k1
      clear k1 c0 c1 c2 c3 c4 c5 c6 c7 d0 d1 d2 d3 d4 d5 d6 d7 HC1
      obtain ⟨⟨c0, c1, c2, c3, c4, c5, c6, c7⟩, ⟨d0, d1, d2, d3, d4, d5, d6, d7⟩⟩ := HC2.out
      go_wp2
      go_ret
      exact ⟨ret_int (by rw [HR.out]; simp_all), HK2.out⟩
end Go.Proofs.Ytbflhpafejmelaa
