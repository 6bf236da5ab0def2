/- A call that changes nothing, held against the document's list. -/
import Derived.Test.YtkelhglflpdpeaaRk

namespace Go.Proofs.Ytkelhglflpdpeaa
open Go.RowKit Go.PlainAid


theorem four_facts {w9 : World} {n : Nat} {u v s r : Value} {t : TypeId} (hb : w9.heap[n]? = some (.cells #[u, v, s, r] t (0, 0))) : w9.cell? ⟨n, 0, none⟩ = some u ∧ w9.cell? ⟨n, 1, none⟩ = some v ∧ w9.cell? ⟨n, 2, none⟩ = some s ∧ w9.cell? ⟨n, 3, none⟩ = some r := by
  refine ⟨?_, ?_, ?_, ?_⟩ <;> (unfold World.cell?; rw [hb]; rfl)
/-- the box of the call, while only new blocks come -/
theorem box4 {w w9 : World} {a : Oc} (k : Keep [] (w.alloc (.cells #[.int .i64 a.o, .int .i64 a.c, .int .i64 a.x.k, .int .i64 a.x.m] 33)) w9) : w9.cell? ⟨w.heap.size, 0, none⟩ = some (.int .i64 a.o) ∧ w9.cell? ⟨w.heap.size, 1, none⟩ = some (.int .i64 a.c) ∧ w9.cell? ⟨w.heap.size, 2, none⟩ = some (.int .i64 a.x.k) ∧ w9.cell? ⟨w.heap.size, 3, none⟩ = some (.int .i64 a.x.m) :=
  four_facts ((k.block _ (by simp) (by simp)).trans (heap_alloc_new w _))
theorem gathered_all (B1 B2 : Nat) (L : List Pr) (z : Int) (w : World) (hq : Sq w B1 B2 L) (hl : L.length ≤ 13194139532928) (hn : (L.length : Int) ≤ z) :
    Calls Try.prog 21 #[vSq B1 B2, .int .i64 z] w fun e w' => ∃ a c, e = .returned (.slice a L.length c) ∧ Rw 29 encP 2 w' (.slice a L.length c) L ∧ Keep [] w w' ∧ Fresh w w' (.slice a L.length c) := by
  obtain ⟨n, rfl⟩ : ∃ n : Nat, z = (n : Int) := ⟨z.toNat, by omega⟩
  refine (gathered_any B1 B2 L n w hq hl).mono ?_
  rintro e w' ⟨v, he, hr, hk, hf⟩
  rw [List.take_of_length_le (by omega)] at hr
  obtain ⟨a, c, rfl, _, _⟩ := (hr.rd encP_len).form
  exact ⟨a, c, he, hr, hk, hf⟩

set_option maxRecDepth 100000 in
set_option maxHeartbeats 4000000 in
theorem asked5 (b : Nat) (vl : Value) (L : List Pr) (a : Oc) (w : World) (h : Sh w b 10 L) (hv : Rd encP 2 w vl L) (hl : L.length ≤ 8796093021951) (hc : -9223372036854775808 ≤ a.c ∧ a.c ≤ 9223372036854775807) (hz : pickZ a.c 8 = 5) :
    Calls Try.prog 18 #[vA b, vl, .agg #[.int .i64 a.o, .int .i64 a.c, .int .i64 a.x.k, .int .i64 a.x.m]] w fun e w' => e = .returned (.bool true) ∧ Keep [] w w' := by
  obtain ⟨ao, cap, rfl, hc1, hc2⟩ := hv.form
  have HV : Hid (Rd encP 2 w (.slice ao L.length cap) L) := hv
  have HS : Hid (Sh w b 10 L) := h
  have HLL : Hid (L.length ≤ 8796093021951) := hl
  have hLz : (L.length : Int) ≤ 8796093021951 := by omega
  have HFi : Hid (∀ w9, Keep [] w w9 → Calls Try.prog 46 #[.slice ao L.length cap, vP a.x] w9 fun e w' => e = .returned (.int .i64 (fnd L a.x.k)) ∧ Keep [] w9 w') := fun w9 kk => rFind_any _ L a.x w9 (hv.keep kk (Off.nil _)) h.ris (by omega)
  have HPk : Hid (∀ w9, Calls Try.prog 11 #[.int .i64 a.c, .int .i64 8] w9 fun e w' => e = .returned (.int .i64 5) ∧ w9 = w') := fun w9 => (pick_any a.c 8 hc.1 hc.2 (by omega) w9).mono (fun e w' h => ⟨by rw [h.1, hz], h.2.symm⟩)
  obtain ⟨x0, x1, x2, x3⟩ := box4 (a := a) (Keep.refl [] (w.alloc (.cells #[.int .i64 a.o, .int .i64 a.c, .int .i64 a.x.k, .int .i64 a.x.m] 33)))
  clear h hv hl hc hz
  go_enter Try.func18, Try.ntmps18
  go_wp2_with fail
  refine (HFi.out _ (Keep.alloc1 _ _)).mono ?_
  clear HFi
  rintro e w2 ⟨rfl, k2⟩
  have HK2 : Hid (Keep [] (w.alloc (.cells #[.int .i64 a.o, .int .i64 a.c, .int .i64 a.x.k, .int .i64 a.x.m] 33)) w2) := k2
  clear k2 x0 x1 x2 x3
  obtain ⟨x0, x1, x2, x3⟩ := box4 HK2.out
  go_wp2_with fail
  refine (HPk.out _).mono ?_
  clear HPk
  rintro e w3 ⟨rfl, rfl⟩
  go_wp2_with fail
  refine (shAll_any b 10 L _ (HS.out.keep0 ((Keep.alloc1 _ _).trans' HK2.out)) (by have := HLL.out; omega)).mono ?_
  rintro e y1 ⟨_, rfl, C1, C2, rfl, q1, j1, _, _⟩
  go_wp2_with fail
  refine (gathered_all C1 C2 L _ _ q1 (by have := HLL.out; omega) (by omega)).mono ?_
  rintro e y2 ⟨an, cn, rfl, r2, j2, f2⟩
  have HK4 : Hid (Keep [] w y2) := (((Keep.alloc1 _ _).trans' HK2.out).trans' j1).trans' j2
  go_wp2_with fail
  refine (rSame_yes _ _ L _ (r2.rd encP_len) (HV.out.keep HK4.out (Off.nil _)) (by have := HLL.out; omega)).mono ?_
  rintro e y3 ⟨rfl, j3⟩
  go_wp2
  go_ret
  exact ⟨rfl, HK4.out.trans' j3⟩

set_option maxRecDepth 100000 in
set_option maxHeartbeats 4000000 in
theorem asked6 (b : Nat) (vl : Value) (L : List Pr) (a : Oc) (w : World) (h : Sh w b 10 L) (hv : Rd encP 2 w vl L) (hl : L.length ≤ 8796093021951) (hc : -9223372036854775808 ≤ a.c ∧ a.c ≤ 9223372036854775807) (hz : pickZ a.c 8 = 6) :
    Calls Try.prog 18 #[vA b, vl, .agg #[.int .i64 a.o, .int .i64 a.c, .int .i64 a.x.k, .int .i64 a.x.m]] w fun e w' => e = .returned (.bool true) ∧ Keep [] w w' := by
  obtain ⟨ao, cap, rfl, hc1, hc2⟩ := hv.form
  have HV : Hid (Rd encP 2 w (.slice ao L.length cap) L) := hv
  have HS : Hid (Sh w b 10 L) := h
  have HLL : Hid (L.length ≤ 8796093021951) := hl
  have hLz : (L.length : Int) ≤ 8796093021951 := by omega
  have HFi : Hid (∀ w9, Keep [] w w9 → Calls Try.prog 46 #[.slice ao L.length cap, vP a.x] w9 fun e w' => e = .returned (.int .i64 (fnd L a.x.k)) ∧ Keep [] w9 w') := fun w9 kk => rFind_any _ L a.x w9 (hv.keep kk (Off.nil _)) h.ris (by omega)
  have HPk : Hid (∀ w9, Calls Try.prog 11 #[.int .i64 a.c, .int .i64 8] w9 fun e w' => e = .returned (.int .i64 6) ∧ w9 = w') := fun w9 => (pick_any a.c 8 hc.1 hc.2 (by omega) w9).mono (fun e w' h => ⟨by rw [h.1, hz], h.2.symm⟩)
  obtain ⟨x0, x1, x2, x3⟩ := box4 (a := a) (Keep.refl [] (w.alloc (.cells #[.int .i64 a.o, .int .i64 a.c, .int .i64 a.x.k, .int .i64 a.x.m] 33)))
  clear h hv hl hc hz
  go_enter Try.func18, Try.ntmps18
  go_wp2_with fail
  refine (HFi.out _ (Keep.alloc1 _ _)).mono ?_
  clear HFi
  rintro e w2 ⟨rfl, k2⟩
  have HK2 : Hid (Keep [] (w.alloc (.cells #[.int .i64 a.o, .int .i64 a.c, .int .i64 a.x.k, .int .i64 a.x.m] 33)) w2) := k2
  clear k2 x0 x1 x2 x3
  obtain ⟨x0, x1, x2, x3⟩ := box4 HK2.out
  go_wp2_with fail
  refine (HPk.out _).mono ?_
  clear HPk
  rintro e w3 ⟨rfl, rfl⟩
  go_wp2_with fail
  have HBC : Cs [(⟨w.heap.size, 2, none⟩, .int .i64 a.x.k), (⟨w.heap.size, 3, none⟩, .int .i64 a.x.m)] w2 w2 := ⟨x2, x3, Keep.refl _ _⟩
  have HKw : Hid (Keep [] w w2) := (Keep.alloc1 _ _).trans' HK2.out
  have HFr : Hid (∀ w9, Keep [] w2 w9 → Calls Try.prog 26 #[vA b, vP a.x] w9 fun e w' => ∃ B1 B2, e = .returned (vSq B1 B2) ∧ Sq w' B1 B2 (L.drop (rnk L a.x.k)) ∧ Keep [] w9 w') := fun w9 kk => (shFrom_any b 10 L a.x w9 (HS.out.keep0 (HKw.out.trans' kk)) (by have := HLL.out; omega)).mono (by rintro e w' ⟨_, he, B1, B2, rfl, q, j, _, _⟩; exact ⟨B1, B2, he, q, j⟩)
  obtain ⟨D, HD⟩ : ∃ D : List Pr, Hid (D = L.drop (rnk L a.x.k)) := ⟨_, show _ = _ from rfl⟩
  have HDl : Hid (D.length ≤ L.length) := by show _ ≤ _; rw [HD.out]; simp
  have HGa : Hid (∀ B1 B2 w9 z, Sq w9 B1 B2 D → (L.length : Int) ≤ z → Calls Try.prog 21 #[vSq B1 B2, .int .i64 z] w9 fun e w' => ∃ a c, e = .returned (.slice a D.length c) ∧ Rw 29 encP 2 w' (.slice a D.length c) D ∧ Keep [] w9 w') := fun B1 B2 w9 z hq hz => (gathered_all B1 B2 D z w9 hq (by have := HDl.out; have := HLL.out; omega) (by have := HDl.out; omega)).mono (by rintro e w' ⟨a, c, he, h1, h2, _⟩; exact ⟨a, c, he, h1, h2⟩)
  have HRf : Hid (∀ w9, Keep [] w2 w9 → Calls Try.prog 28 #[.slice ao L.length cap, vP a.x] w9 fun e w' => ∃ v', e = .returned v' ∧ Rd encP 2 w' v' D ∧ Keep [] w9 w') := fun w9 kk => by rw [HD.out]; exact rFrom_any _ L a.x w9 (HV.out.keep (HKw.out.trans' kk) (Off.nil _)) (by have := HLL.out; omega)
  have HSa : Hid (∀ v v2 w9, Rd encP 2 w9 v D → Rd encP 2 w9 v2 D → Calls Try.prog 20 #[v, v2] w9 fun e w' => e = .returned (.bool true) ∧ Keep [] w9 w') := fun v v2 w9 h1 h2 => rSame_yes v v2 D w9 h1 h2 (by have := HDl.out; have := HLL.out; omega)
  rw [← HD.out] at HFr
  go_region_held3 (fun w' => w'.cell? ⟨w.heap.size, 2, none⟩ = some (.int .i64 a.x.k) ∧ w'.cell? ⟨w.heap.size, 3, none⟩ = some (.int .i64 a.x.m) ∧ Hid (Keep [] w2 w'))
    (first | assumption | exact Cs.drew (l := [(⟨w.heap.size, 2, none⟩, .int .i64 a.x.k), (⟨w.heap.size, 3, none⟩, .int .i64 a.x.m)]) HBC | exact Cs.alloc (l := [(⟨w.heap.size, 2, none⟩, .int .i64 a.x.k), (⟨w.heap.size, 3, none⟩, .int .i64 a.x.m)]) _ (by assumption) | exact Cs.more (l := [(⟨w.heap.size, 2, none⟩, .int .i64 a.x.k), (⟨w.heap.size, 3, none⟩, .int .i64 a.x.m)]) (by assumption) (by assumption))
    (first
      | (go_at_call 26; refine (HFr.out _ (show Cs [(⟨w.heap.size, 2, none⟩, .int .i64 a.x.k), (⟨w.heap.size, 3, none⟩, .int .i64 a.x.m)] w2 _ from by assumption).kp).mono ?_; clear HFr; rintro e w5 ⟨B1, B2, rfl, q5, k5⟩)
      | (go_at_call 21; refine (HGa.out B1 B2 _ _ (q5.keep0 (by first | exact Keep.refl _ _ | exact (Keep.refl _ _).drew)) (by first | omega | (rw [wrap_ok _ (by omega) (by omega)]; omega))).mono ?_; clear HGa; rintro e w6 ⟨a6, c6, rfl, r6, k6⟩)
      | (go_at_call 28; refine (HRf.out _ (show Cs [(⟨w.heap.size, 2, none⟩, .int .i64 a.x.k), (⟨w.heap.size, 3, none⟩, .int .i64 a.x.m)] w2 _ from by assumption).kp).mono ?_; clear HRf; rintro e w7 ⟨v7, rfl, r7, k7⟩)
      | (go_at_call 20; refine (HSa.out _ _ _ ((r6.rd encP_len).keep (by first | exact k7 | exact (Keep.refl _ _).drew.trans' k7) (Off.nil _)) (r7.keep (by first | exact Keep.refl _ _ | exact (Keep.refl _ _).drew) (Off.nil _))).mono ?_; clear HSa; rintro e w8 ⟨rfl, k8⟩))
  go_wp2
  go_ret
  exact ⟨rfl, HKw.out.trans' (show Cs [(⟨w.heap.size, 2, none⟩, .int .i64 a.x.k), (⟨w.heap.size, 3, none⟩, .int .i64 a.x.m)] w2 _ from by assumption).kp⟩

set_option maxRecDepth 100000 in
set_option maxHeartbeats 4000000 in
theorem asked3_yes (b : Nat) (vl : Value) (L : List Pr) (a : Oc) (w : World) (h : Sh w b 10 L) (hv : Rd encP 2 w vl L) (hl : L.length ≤ 8796093021951) (hc : -9223372036854775808 ≤ a.c ∧ a.c ≤ 9223372036854775807) (hz : pickZ a.c 8 = 3) (y : Pr) (hlk : lk L a.x.k = some y) :
    Calls Try.prog 18 #[vA b, vl, .agg #[.int .i64 a.o, .int .i64 a.c, .int .i64 a.x.k, .int .i64 a.x.m]] w fun e w' => e = .returned (.bool true) ∧ Keep [] w w' := by
  obtain ⟨ao, cap, rfl, hc1, hc2⟩ := hv.form
  have HV : Hid (Rd encP 2 w (.slice ao L.length cap) L) := hv
  have HS : Hid (Sh w b 10 L) := h
  have HLL : Hid (L.length ≤ 8796093021951) := hl
  have hLz : (L.length : Int) ≤ 8796093021951 := by omega
  have HFi : Hid (∀ w9, Keep [] w w9 → Calls Try.prog 46 #[.slice ao L.length cap, vP a.x] w9 fun e w' => e = .returned (.int .i64 (fnd L a.x.k)) ∧ Keep [] w9 w') := fun w9 kk => rFind_any _ L a.x w9 (hv.keep kk (Off.nil _)) h.ris (by omega)
  have HPk : Hid (∀ w9, Calls Try.prog 11 #[.int .i64 a.c, .int .i64 8] w9 fun e w' => e = .returned (.int .i64 3) ∧ w9 = w') := fun w9 => (pick_any a.c 8 hc.1 hc.2 (by omega) w9).mono (fun e w' h => ⟨by rw [h.1, hz], h.2.symm⟩)
  obtain ⟨x0, x1, x2, x3⟩ := box4 (a := a) (Keep.refl [] (w.alloc (.cells #[.int .i64 a.o, .int .i64 a.c, .int .i64 a.x.k, .int .i64 a.x.m] 33)))
  have HFd : Hid (fnd L a.x.k = (rnk L a.x.k : Int)) := by show _ = _; unfold fnd; rw [hlk]; rfl
  rw [HFd.out] at HFi
  obtain ⟨hr1, hr2, hr3⟩ := lk_at hlk
  have HNth : Hid (∃ hh : rnk L a.x.k < L.length, L[rnk L a.x.k] = y) := ⟨hr1, by
    have h5 := hr2.symm.trans (List.drop_eq_getElem_cons hr1)
    exact (List.cons.inj h5).1.symm⟩
  have HFn : Hid (∀ w9, Sh w9 b 10 L → Calls Try.prog 33 #[vA b, vP a.x] w9 fun e w' => e = .returned (.tuple #[vP y, .bool true]) ∧ Keep [] w9 w') := fun w9 hs => find_yes b 10 L a.x y w9 hs (by omega) hlk
  generalize rnk L a.x.k = n at *
  have hn0 : (0 : Int) ≤ (n : Int) := by omega
  have hn1 : (n : Int) < (L.length : Int) := by omega
  clear hr1 hr2 hr3 hlk HFd
  clear h hv hl hc hz
  go_enter Try.func18, Try.ntmps18
  go_wp2_with fail
  refine (HFi.out _ (Keep.alloc1 _ _)).mono ?_
  clear HFi
  rintro e w2 ⟨rfl, k2⟩
  have HK2 : Hid (Keep [] (w.alloc (.cells #[.int .i64 a.o, .int .i64 a.c, .int .i64 a.x.k, .int .i64 a.x.m] 33)) w2) := k2
  clear k2 x0 x1 x2 x3
  obtain ⟨x0, x1, x2, x3⟩ := box4 HK2.out
  go_wp2_with fail
  refine (HPk.out _).mono ?_
  clear HPk
  rintro e w3 ⟨rfl, rfl⟩
  go_wp2_with fail
  refine (HFn.out _ (HS.out.keep0 ((Keep.alloc1 _ _).trans' HK2.out))).mono ?_
  clear HFn
  rintro e y1 ⟨rfl, j1⟩
  have HK4 : Hid (Keep [] w (y1.alloc (.cells #[.int .i64 y.k, .int .i64 y.m] 29))) := (((Keep.alloc1 _ _).trans' HK2.out).trans' j1).alloc _
  obtain ⟨⟨z0, z1⟩, _, _⟩ := two_facts (heap_alloc_new y1 (.cells #[.int .i64 y.k, .int .i64 y.m] 29))
  obtain ⟨hh, hy⟩ := HNth.out
  obtain ⟨g, oo, c2, he, hg, e0, e1⟩ := (HV.out.keep HK4.out (Off.nil _)).pair n hh
  simp at he
  obtain ⟨rfl, rfl⟩ := he
  rw [hy] at e0 e1
  go_wp2_with fail
  generalize y1.heap.size = Bq at *
  clear x0 x1 x2 x3 j1 hy
  refine wp_region_held_drew (S := (fun w' : World => w'.cell? ⟨Bq, 0, none⟩ = some (.int .i64 y.k) ∧ w'.cell? ⟨Bq, 1, none⟩ = some (.int .i64 y.m) ∧ w'.cell? ⟨g, oo + n * 2, none⟩ = some (.int .i64 y.k) ∧ w'.cell? ⟨g, oo + n * 2 + 1, none⟩ = some (.int .i64 y.m))) (by kernel_rfl) (⟨z0, z1, e0, e1⟩) (fun hHeld => ?_)
  try dsimp only at hHeld
  refine wpAnyH_take (i := 0) (oi := { dst := some 29, op := Go.Op.move (Go.Operand.tmp 9), type := 4, pos := "law.go:42", after := #[], guard := none }) (v := ?_) rfl (by kernel_rfl) (by kernel_rfl) (by kernel_rfl) (fun _ _ _ h => h) (Or.inl ⟨by rfl, ?_⟩) (by assumption) ?_
  rotate_left
  · intro w7 hSw
    try dsimp only at hSw
    first | (go_simp; done) | (go_simp; with_reducible rfl)
  try simp only [Act.put, List.setIfInBounds_toArray, List.set_cons_zero, List.set_cons_succ]
  refine wpAnyH_take (i := 1) (oi := { dst := some 30, op := Go.Op.move (Go.Operand.tmp 7), type := 3, pos := "law.go:42", after := #[], guard := none }) (v := ?_) rfl (by kernel_rfl) (by kernel_rfl) (by kernel_rfl) (fun _ _ _ h => h) (Or.inl ⟨by rfl, ?_⟩) (by assumption) ?_
  rotate_left
  · intro w7 hSw
    try dsimp only at hSw
    first | (go_simp; done) | (go_simp; with_reducible rfl)
  try simp only [Act.put, List.setIfInBounds_toArray, List.set_cons_zero, List.set_cons_succ]
  refine wpAnyH_take (i := 2) (oi := { dst := some 31, op := Go.Op.binOp Go.BinOp.geq 3 (Go.Operand.tmp 30) (Go.Operand.const (Go.Value.int Go.IntKind.i64 0)) 3, type := 4, pos := "law.go:42", after := #[{ on := 1, ground := Go.Ground.data }], guard := none }) (v := ?_) rfl (by kernel_rfl) (by kernel_rfl) (by kernel_rfl) (fun _ _ _ h => h) (Or.inl ⟨by rfl, ?_⟩) (by assumption) ?_
  rotate_left
  · intro w7 hSw
    try dsimp only at hSw
    first | (go_simp; done) | (go_simp; with_reducible rfl)
  try simp only [Act.put, List.setIfInBounds_toArray, List.set_cons_zero, List.set_cons_succ]
  refine wpAnyH_take (i := 3) (oi := { dst := some 32, op := Go.Op.binOp Go.BinOp.eql 4 (Go.Operand.tmp 29) (Go.Operand.tmp 31) 4, type := 4, pos := "law.go:42", after := #[{ on := 0, ground := Go.Ground.data }, { on := 2, ground := Go.Ground.data }], guard := none }) (v := ?_) rfl (by kernel_rfl) (by kernel_rfl) (by kernel_rfl) (fun _ _ _ h => h) (Or.inl ⟨by rfl, ?_⟩) (by assumption) ?_
  rotate_left
  · intro w7 hSw
    try dsimp only at hSw
    first | (go_simp; done) | (go_simp; with_reducible rfl)
  try simp only [Act.put, List.setIfInBounds_toArray, List.set_cons_zero, List.set_cons_succ]
  refine wpAnyH_take (i := 4) (oi := { dst := some 33, op := Go.Op.move (Go.Operand.tmp 32), type := 4, pos := "law.go:42", after := #[{ on := 3, ground := Go.Ground.data }], guard := none }) (v := ?_) rfl (by kernel_rfl) (by kernel_rfl) (by kernel_rfl) (fun _ _ _ h => h) (Or.inl ⟨by rfl, ?_⟩) (by assumption) ?_
  rotate_left
  · intro w7 hSw
    try dsimp only at hSw
    first | (go_simp; done) | (go_simp; with_reducible rfl)
  try simp only [Act.put, List.setIfInBounds_toArray, List.set_cons_zero, List.set_cons_succ]
  refine wpAnyH_take (i := 5) (oi := { dst := some 34, op := Go.Op.move (Go.Operand.tmp 9), type := 4, pos := "law.go:42", after := #[{ on := 4, ground := Go.Ground.guard }], guard := some (4, true) }) (v := ?_) rfl (by kernel_rfl) (by kernel_rfl) (by kernel_rfl) (fun _ _ _ h => h) (Or.inl ⟨by rfl, ?_⟩) (by assumption) ?_
  rotate_left
  · intro w7 hSw
    try dsimp only at hSw
    first | (go_simp; done) | (go_simp; with_reducible rfl)
  try simp only [Act.put, List.setIfInBounds_toArray, List.set_cons_zero, List.set_cons_succ]
  refine wpAnyH_take (i := 6) (oi := { dst := some 35, op := Go.Op.move (Go.Operand.tmp 34), type := 4, pos := "law.go:42", after := #[{ on := 5, ground := Go.Ground.data }, { on := 4, ground := Go.Ground.chain }, { on := 4, ground := Go.Ground.guard }], guard := some (4, true) }) (v := ?_) rfl (by kernel_rfl) (by kernel_rfl) (by kernel_rfl) (fun _ _ _ h => h) (Or.inl ⟨by rfl, ?_⟩) (by assumption) ?_
  rotate_left
  · intro w7 hSw
    try dsimp only at hSw
    first | (go_simp; done) | (go_simp; with_reducible rfl)
  try simp only [Act.put, List.setIfInBounds_toArray, List.set_cons_zero, List.set_cons_succ]
  refine wpAnyH_take (i := 7) (oi := { dst := some 36, op := Go.Op.load 29 (Go.Operand.tmp 8), type := 29, pos := "law.go:42", after := #[{ on := 6, ground := Go.Ground.guard }], guard := some (6, true) }) (v := ?_) rfl (by kernel_rfl) (by kernel_rfl) (by kernel_rfl) (fun _ _ _ h => h) (Or.inl ⟨by rfl, ?_⟩) (by assumption) ?_
  rotate_left
  · intro w7 hSw
    try dsimp only at hSw
    first | (go_simp; done) | (go_simp; with_reducible rfl)
  try simp only [Act.put, List.setIfInBounds_toArray, List.set_cons_zero, List.set_cons_succ]
  refine wpAnyH_take (i := 8) (oi := { dst := some 37, op := Go.Op.move (Go.Operand.tmp 1), type := 25, pos := "law.go:42", after := #[{ on := 6, ground := Go.Ground.guard }], guard := some (6, true) }) (v := ?_) rfl (by kernel_rfl) (by kernel_rfl) (by kernel_rfl) (fun _ _ _ h => h) (Or.inl ⟨by rfl, ?_⟩) (by assumption) ?_
  rotate_left
  · intro w7 hSw
    try dsimp only at hSw
    first | (go_simp; done) | (go_simp; with_reducible rfl)
  try simp only [Act.put, List.setIfInBounds_toArray, List.set_cons_zero, List.set_cons_succ]
  refine wpAnyH_take (i := 9) (oi := { dst := some 38, op := Go.Op.move (Go.Operand.tmp 7), type := 3, pos := "law.go:42", after := #[{ on := 6, ground := Go.Ground.guard }], guard := some (6, true) }) (v := ?_) rfl (by kernel_rfl) (by kernel_rfl) (by kernel_rfl) (fun _ _ _ h => h) (Or.inl ⟨by rfl, ?_⟩) (by assumption) ?_
  rotate_left
  · intro w7 hSw
    try dsimp only at hSw
    first | (go_simp; done) | (go_simp; with_reducible rfl)
  try simp only [Act.put, List.setIfInBounds_toArray, List.set_cons_zero, List.set_cons_succ]
  refine wpAnyH_take (i := 10) (oi := { dst := some 39, op := Go.Op.indexAddr 25 (Go.Operand.tmp 37) (Go.Operand.tmp 38), type := 0, pos := "law.go:42", after := #[{ on := 8, ground := Go.Ground.data }, { on := 9, ground := Go.Ground.data }, { on := 6, ground := Go.Ground.guard }], guard := some (6, true) }) (v := ?_) rfl (by kernel_rfl) (by kernel_rfl) (by kernel_rfl) (fun _ _ _ h => h) (Or.inl ⟨by rfl, ?_⟩) (by assumption) ?_
  rotate_left
  · intro w7 hSw
    try dsimp only at hSw
    first | (go_simp; done) | (go_simp; with_reducible rfl)
  try simp only [Act.put, List.setIfInBounds_toArray, List.set_cons_zero, List.set_cons_succ]
  refine wpAnyH_take (i := 11) (oi := { dst := some 40, op := Go.Op.load 29 (Go.Operand.tmp 39), type := 29, pos := "law.go:42", after := #[{ on := 10, ground := Go.Ground.data }, { on := 6, ground := Go.Ground.guard }], guard := some (6, true) }) (v := ?_) rfl (by kernel_rfl) (by kernel_rfl) (by kernel_rfl) (fun _ _ _ h => h) (Or.inl ⟨by rfl, ?_⟩) (by assumption) ?_
  rotate_left
  · intro w7 hSw
    try dsimp only at hSw
    first | (go_simp; done) | (go_simp; with_reducible rfl)
  try simp only [Act.put, List.setIfInBounds_toArray, List.set_cons_zero, List.set_cons_succ]
  refine wpAnyH_take (i := 12) (oi := { dst := some 41, op := Go.Op.binOp Go.BinOp.eql 29 (Go.Operand.tmp 36) (Go.Operand.tmp 40) 29, type := 4, pos := "law.go:42", after := #[{ on := 7, ground := Go.Ground.data }, { on := 11, ground := Go.Ground.data }, { on := 6, ground := Go.Ground.guard }], guard := some (6, true) }) (v := ?_) rfl (by kernel_rfl) (by kernel_rfl) (by kernel_rfl) (fun _ _ _ h => h) (Or.inl ⟨by rfl, ?_⟩) (by assumption) ?_
  rotate_left
  · intro w7 hSw
    try dsimp only at hSw
    first | (go_simp; done) | (go_simp; with_reducible rfl)
  try simp only [Act.put, List.setIfInBounds_toArray, List.set_cons_zero, List.set_cons_succ]
  refine wpAnyH_take (i := 13) (oi := { dst := some 42, op := Go.Op.pick (Go.Operand.tmp 35) (Go.Operand.tmp 41) (Go.Operand.const (Go.Value.bool false)), type := 4, pos := "law.go:42", after := #[{ on := 6, ground := Go.Ground.data }, { on := 12, ground := Go.Ground.data }, { on := 4, ground := Go.Ground.guard }], guard := some (4, true) }) (v := ?_) rfl (by kernel_rfl) (by kernel_rfl) (by kernel_rfl) (fun _ _ _ h => h) (Or.inl ⟨by rfl, ?_⟩) (by assumption) ?_
  rotate_left
  · intro w7 hSw
    try dsimp only at hSw
    first | (go_simp; done) | (go_simp; with_reducible rfl)
  try simp only [Act.put, List.setIfInBounds_toArray, List.set_cons_zero, List.set_cons_succ]
  refine wpAnyH_take (i := 14) (oi := { dst := some 43, op := Go.Op.move (Go.Operand.tmp 42), type := 4, pos := "law.go:42", after := #[{ on := 13, ground := Go.Ground.data }, { on := 6, ground := Go.Ground.chain }, { on := 4, ground := Go.Ground.guard }], guard := some (4, true) }) (v := ?_) rfl (by kernel_rfl) (by kernel_rfl) (by kernel_rfl) (fun _ _ _ h => h) (Or.inl ⟨by rfl, ?_⟩) (by assumption) ?_
  rotate_left
  · intro w7 hSw
    try dsimp only at hSw
    first | (go_simp; done) | (go_simp; with_reducible rfl)
  try simp only [Act.put, List.setIfInBounds_toArray, List.set_cons_zero, List.set_cons_succ]
  refine wpAnyH_take (i := 15) (oi := { dst := some 44, op := Go.Op.move (Go.Operand.tmp 9), type := 4, pos := "law.go:42", after := #[{ on := 14, ground := Go.Ground.guard }], guard := some (14, false) }) (v := undef) rfl (by kernel_rfl) (by kernel_rfl) (by kernel_rfl) (fun _ _ _ h => h) (Or.inr ⟨by rfl, rfl⟩) (by assumption) ?_
  try simp only [Act.put, List.setIfInBounds_toArray, List.set_cons_zero, List.set_cons_succ]
  refine wpAnyH_take (i := 16) (oi := { dst := some 45, op := Go.Op.unOp Go.UnOp.not 4 (Go.Operand.tmp 44), type := 4, pos := "law.go:42", after := #[{ on := 15, ground := Go.Ground.data }, { on := 14, ground := Go.Ground.guard }], guard := some (14, false) }) (v := undef) rfl (by kernel_rfl) (by kernel_rfl) (by kernel_rfl) (fun _ _ _ h => h) (Or.inr ⟨by rfl, rfl⟩) (by assumption) ?_
  try simp only [Act.put, List.setIfInBounds_toArray, List.set_cons_zero, List.set_cons_succ]
  refine wpAnyH_take (i := 17) (oi := { dst := some 46, op := Go.Op.move (Go.Operand.tmp 45), type := 4, pos := "law.go:42", after := #[{ on := 16, ground := Go.Ground.data }, { on := 14, ground := Go.Ground.chain }, { on := 14, ground := Go.Ground.guard }], guard := some (14, false) }) (v := undef) rfl (by kernel_rfl) (by kernel_rfl) (by kernel_rfl) (fun _ _ _ h => h) (Or.inr ⟨by rfl, rfl⟩) (by assumption) ?_
  try simp only [Act.put, List.setIfInBounds_toArray, List.set_cons_zero, List.set_cons_succ]
  refine wpAnyH_take (i := 18) (oi := { dst := some 47, op := Go.Op.load 29 (Go.Operand.tmp 8), type := 29, pos := "law.go:42", after := #[{ on := 17, ground := Go.Ground.guard }], guard := some (17, true) }) (v := undef) rfl (by kernel_rfl) (by kernel_rfl) (by kernel_rfl) (fun _ _ _ h => h) (Or.inr ⟨by rfl, rfl⟩) (by assumption) ?_
  try simp only [Act.put, List.setIfInBounds_toArray, List.set_cons_zero, List.set_cons_succ]
  refine wpAnyH_take (i := 19) (oi := { dst := some 48, op := Go.Op.build 29 #[], type := 29, pos := "law.go:42", after := #[{ on := 17, ground := Go.Ground.guard }], guard := some (17, true) }) (v := undef) rfl (by kernel_rfl) (by kernel_rfl) (by kernel_rfl) (fun _ _ _ h => h) (Or.inr ⟨by rfl, rfl⟩) (by assumption) ?_
  try simp only [Act.put, List.setIfInBounds_toArray, List.set_cons_zero, List.set_cons_succ]
  refine wpAnyH_take (i := 20) (oi := { dst := some 49, op := Go.Op.binOp Go.BinOp.eql 29 (Go.Operand.tmp 47) (Go.Operand.tmp 48) 29, type := 4, pos := "law.go:42", after := #[{ on := 18, ground := Go.Ground.data }, { on := 19, ground := Go.Ground.data }, { on := 17, ground := Go.Ground.guard }], guard := some (17, true) }) (v := undef) rfl (by kernel_rfl) (by kernel_rfl) (by kernel_rfl) (fun _ _ _ h => h) (Or.inr ⟨by rfl, rfl⟩) (by assumption) ?_
  try simp only [Act.put, List.setIfInBounds_toArray, List.set_cons_zero, List.set_cons_succ]
  refine wpAnyH_take (i := 21) (oi := { dst := some 50, op := Go.Op.pick (Go.Operand.tmp 46) (Go.Operand.tmp 49) (Go.Operand.const (Go.Value.bool false)), type := 4, pos := "law.go:42", after := #[{ on := 17, ground := Go.Ground.data }, { on := 20, ground := Go.Ground.data }, { on := 14, ground := Go.Ground.guard }], guard := some (14, false) }) (v := undef) rfl (by kernel_rfl) (by kernel_rfl) (by kernel_rfl) (fun _ _ _ h => h) (Or.inr ⟨by rfl, rfl⟩) (by assumption) ?_
  try simp only [Act.put, List.setIfInBounds_toArray, List.set_cons_zero, List.set_cons_succ]
  refine wpAnyH_take (i := 22) (oi := { dst := some 51, op := Go.Op.pick (Go.Operand.tmp 43) (Go.Operand.const (Go.Value.bool true)) (Go.Operand.tmp 50), type := 4, pos := "law.go:42", after := #[{ on := 14, ground := Go.Ground.data }, { on := 21, ground := Go.Ground.data }, { on := 4, ground := Go.Ground.guard }], guard := some (4, true) }) (v := ?_) rfl (by kernel_rfl) (by kernel_rfl) (by kernel_rfl) (fun _ _ _ h => h) (Or.inl ⟨by rfl, ?_⟩) (by assumption) ?_
  rotate_left
  · intro w7 hSw
    try dsimp only at hSw
    first | (go_simp; done) | (go_simp; with_reducible rfl)
  try simp only [Act.put, List.setIfInBounds_toArray, List.set_cons_zero, List.set_cons_succ]
  refine wpAnyH_take (i := 23) (oi := { dst := some 52, op := Go.Op.pick (Go.Operand.tmp 33) (Go.Operand.tmp 51) (Go.Operand.const (Go.Value.bool false)), type := 4, pos := "law.go:42", after := #[{ on := 4, ground := Go.Ground.data }, { on := 22, ground := Go.Ground.data }], guard := none }) (v := ?_) rfl (by kernel_rfl) (by kernel_rfl) (by kernel_rfl) (fun _ _ _ h => h) (Or.inl ⟨by rfl, ?_⟩) (by assumption) ?_
  rotate_left
  · intro w7 hSw
    try dsimp only at hSw
    first | (go_simp; done) | (go_simp; with_reducible rfl)
  try simp only [Act.put, List.setIfInBounds_toArray, List.set_cons_zero, List.set_cons_succ]
  refine wpAnyH_take (i := 24) (oi := { dst := some 6, op := Go.Op.assign (Go.Operand.tmp 52), type := 4, pos := "law.go:42", after := #[{ on := 23, ground := Go.Ground.data }, { on := 17, ground := Go.Ground.chain }, { on := 0, ground := Go.Ground.phase }, { on := 1, ground := Go.Ground.phase }, { on := 2, ground := Go.Ground.phase }, { on := 3, ground := Go.Ground.phase }, { on := 4, ground := Go.Ground.phase }, { on := 5, ground := Go.Ground.phase }, { on := 6, ground := Go.Ground.phase }, { on := 7, ground := Go.Ground.phase }, { on := 8, ground := Go.Ground.phase }, { on := 9, ground := Go.Ground.phase }, { on := 10, ground := Go.Ground.phase }, { on := 11, ground := Go.Ground.phase }, { on := 12, ground := Go.Ground.phase }, { on := 13, ground := Go.Ground.phase }, { on := 14, ground := Go.Ground.phase }, { on := 15, ground := Go.Ground.phase }, { on := 16, ground := Go.Ground.phase }, { on := 17, ground := Go.Ground.phase }, { on := 18, ground := Go.Ground.phase }, { on := 19, ground := Go.Ground.phase }, { on := 20, ground := Go.Ground.phase }, { on := 21, ground := Go.Ground.phase }, { on := 22, ground := Go.Ground.phase }, { on := 23, ground := Go.Ground.phase }], guard := none }) (v := ?_) rfl (by kernel_rfl) (by kernel_rfl) (by kernel_rfl) (fun _ _ _ h => h) (Or.inl ⟨by rfl, ?_⟩) (by assumption) ?_
  rotate_left
  · intro w7 hSw
    try dsimp only at hSw
    first | (go_simp; done) | (go_simp; with_reducible rfl)
  try simp only [Act.put, List.setIfInBounds_toArray, List.set_cons_zero, List.set_cons_succ]
  refine wpAnyH_done (by kernel_rfl) ?_ _
  go_wp2
  go_ret
  exact ⟨rfl, HK4.out.drew⟩

set_option maxRecDepth 100000 in
set_option maxHeartbeats 4000000 in
theorem asked3_no (b : Nat) (vl : Value) (L : List Pr) (a : Oc) (w : World) (h : Sh w b 10 L) (hv : Rd encP 2 w vl L) (hl : L.length ≤ 8796093021951) (hc : -9223372036854775808 ≤ a.c ∧ a.c ≤ 9223372036854775807) (hz : pickZ a.c 8 = 3) (hlk : lk L a.x.k = none) :
    Calls Try.prog 18 #[vA b, vl, .agg #[.int .i64 a.o, .int .i64 a.c, .int .i64 a.x.k, .int .i64 a.x.m]] w fun e w' => e = .returned (.bool true) ∧ Keep [] w w' := by
  obtain ⟨ao, cap, rfl, hc1, hc2⟩ := hv.form
  have HV : Hid (Rd encP 2 w (.slice ao L.length cap) L) := hv
  have HS : Hid (Sh w b 10 L) := h
  have HLL : Hid (L.length ≤ 8796093021951) := hl
  have hLz : (L.length : Int) ≤ 8796093021951 := by omega
  have HFi : Hid (∀ w9, Keep [] w w9 → Calls Try.prog 46 #[.slice ao L.length cap, vP a.x] w9 fun e w' => e = .returned (.int .i64 (fnd L a.x.k)) ∧ Keep [] w9 w') := fun w9 kk => rFind_any _ L a.x w9 (hv.keep kk (Off.nil _)) h.ris (by omega)
  have HPk : Hid (∀ w9, Calls Try.prog 11 #[.int .i64 a.c, .int .i64 8] w9 fun e w' => e = .returned (.int .i64 3) ∧ w9 = w') := fun w9 => (pick_any a.c 8 hc.1 hc.2 (by omega) w9).mono (fun e w' h => ⟨by rw [h.1, hz], h.2.symm⟩)
  obtain ⟨x0, x1, x2, x3⟩ := box4 (a := a) (Keep.refl [] (w.alloc (.cells #[.int .i64 a.o, .int .i64 a.c, .int .i64 a.x.k, .int .i64 a.x.m] 33)))
  have HFd : Hid (fnd L a.x.k = -1) := by show _ = _; unfold fnd; rw [hlk]; rfl
  rw [HFd.out] at HFi
  have HFn : Hid (∀ w9, Sh w9 b 10 L → Calls Try.prog 33 #[vA b, vP a.x] w9 fun e w' => e = .returned (.tuple #[vP ⟨0, 0⟩, .bool false]) ∧ Keep [] w9 w') := fun w9 hs => find_no b 10 L a.x w9 hs (by omega) hlk
  clear hlk HFd
  clear h hv hl hc hz
  go_enter Try.func18, Try.ntmps18
  go_wp2_with fail
  refine (HFi.out _ (Keep.alloc1 _ _)).mono ?_
  clear HFi
  rintro e w2 ⟨rfl, k2⟩
  have HK2 : Hid (Keep [] (w.alloc (.cells #[.int .i64 a.o, .int .i64 a.c, .int .i64 a.x.k, .int .i64 a.x.m] 33)) w2) := k2
  clear k2 x0 x1 x2 x3
  obtain ⟨x0, x1, x2, x3⟩ := box4 HK2.out
  go_wp2_with fail
  refine (HPk.out _).mono ?_
  clear HPk
  rintro e w3 ⟨rfl, rfl⟩
  go_wp2_with fail
  refine (HFn.out _ (HS.out.keep0 ((Keep.alloc1 _ _).trans' HK2.out))).mono ?_
  clear HFn
  rintro e y1 ⟨rfl, j1⟩
  have HK4 : Hid (Keep [] w (y1.alloc (.cells #[.int .i64 0, .int .i64 0] 29))) := (((Keep.alloc1 _ _).trans' HK2.out).trans' j1).alloc _
  obtain ⟨⟨z0, z1⟩, _, _⟩ := two_facts (heap_alloc_new y1 (.cells #[.int .i64 0, .int .i64 0] 29))
  go_wp2_with fail
  generalize y1.heap.size = Bq at *
  clear x0 x1 x2 x3 j1
  refine wp_region_held_drew (S := (fun w' : World => w'.cell? ⟨Bq, 0, none⟩ = some (.int .i64 0) ∧ w'.cell? ⟨Bq, 1, none⟩ = some (.int .i64 0))) (by kernel_rfl) (⟨z0, z1⟩) (fun hHeld => ?_)
  try dsimp only at hHeld
  refine wpAnyH_take (i := 0) (oi := { dst := some 29, op := Go.Op.move (Go.Operand.tmp 9), type := 4, pos := "law.go:42", after := #[], guard := none }) (v := ?_) rfl (by kernel_rfl) (by kernel_rfl) (by kernel_rfl) (fun _ _ _ h => h) (Or.inl ⟨by rfl, ?_⟩) (by assumption) ?_
  rotate_left
  · intro w7 hSw
    try dsimp only at hSw
    first | (go_simp; done) | (go_simp; with_reducible rfl)
  try simp only [Act.put, List.setIfInBounds_toArray, List.set_cons_zero, List.set_cons_succ]
  refine wpAnyH_take (i := 1) (oi := { dst := some 30, op := Go.Op.move (Go.Operand.tmp 7), type := 3, pos := "law.go:42", after := #[], guard := none }) (v := ?_) rfl (by kernel_rfl) (by kernel_rfl) (by kernel_rfl) (fun _ _ _ h => h) (Or.inl ⟨by rfl, ?_⟩) (by assumption) ?_
  rotate_left
  · intro w7 hSw
    try dsimp only at hSw
    first | (go_simp; done) | (go_simp; with_reducible rfl)
  try simp only [Act.put, List.setIfInBounds_toArray, List.set_cons_zero, List.set_cons_succ]
  refine wpAnyH_take (i := 2) (oi := { dst := some 31, op := Go.Op.binOp Go.BinOp.geq 3 (Go.Operand.tmp 30) (Go.Operand.const (Go.Value.int Go.IntKind.i64 0)) 3, type := 4, pos := "law.go:42", after := #[{ on := 1, ground := Go.Ground.data }], guard := none }) (v := ?_) rfl (by kernel_rfl) (by kernel_rfl) (by kernel_rfl) (fun _ _ _ h => h) (Or.inl ⟨by rfl, ?_⟩) (by assumption) ?_
  rotate_left
  · intro w7 hSw
    try dsimp only at hSw
    first | (go_simp; done) | (go_simp; with_reducible rfl)
  try simp only [Act.put, List.setIfInBounds_toArray, List.set_cons_zero, List.set_cons_succ]
  refine wpAnyH_take (i := 3) (oi := { dst := some 32, op := Go.Op.binOp Go.BinOp.eql 4 (Go.Operand.tmp 29) (Go.Operand.tmp 31) 4, type := 4, pos := "law.go:42", after := #[{ on := 0, ground := Go.Ground.data }, { on := 2, ground := Go.Ground.data }], guard := none }) (v := ?_) rfl (by kernel_rfl) (by kernel_rfl) (by kernel_rfl) (fun _ _ _ h => h) (Or.inl ⟨by rfl, ?_⟩) (by assumption) ?_
  rotate_left
  · intro w7 hSw
    try dsimp only at hSw
    first | (go_simp; done) | (go_simp; with_reducible rfl)
  try simp only [Act.put, List.setIfInBounds_toArray, List.set_cons_zero, List.set_cons_succ]
  refine wpAnyH_take (i := 4) (oi := { dst := some 33, op := Go.Op.move (Go.Operand.tmp 32), type := 4, pos := "law.go:42", after := #[{ on := 3, ground := Go.Ground.data }], guard := none }) (v := ?_) rfl (by kernel_rfl) (by kernel_rfl) (by kernel_rfl) (fun _ _ _ h => h) (Or.inl ⟨by rfl, ?_⟩) (by assumption) ?_
  rotate_left
  · intro w7 hSw
    try dsimp only at hSw
    first | (go_simp; done) | (go_simp; with_reducible rfl)
  try simp only [Act.put, List.setIfInBounds_toArray, List.set_cons_zero, List.set_cons_succ]
  refine wpAnyH_take (i := 5) (oi := { dst := some 34, op := Go.Op.move (Go.Operand.tmp 9), type := 4, pos := "law.go:42", after := #[{ on := 4, ground := Go.Ground.guard }], guard := some (4, true) }) (v := ?_) rfl (by kernel_rfl) (by kernel_rfl) (by kernel_rfl) (fun _ _ _ h => h) (Or.inl ⟨by rfl, ?_⟩) (by assumption) ?_
  rotate_left
  · intro w7 hSw
    try dsimp only at hSw
    first | (go_simp; done) | (go_simp; with_reducible rfl)
  try simp only [Act.put, List.setIfInBounds_toArray, List.set_cons_zero, List.set_cons_succ]
  refine wpAnyH_take (i := 6) (oi := { dst := some 35, op := Go.Op.move (Go.Operand.tmp 34), type := 4, pos := "law.go:42", after := #[{ on := 5, ground := Go.Ground.data }, { on := 4, ground := Go.Ground.chain }, { on := 4, ground := Go.Ground.guard }], guard := some (4, true) }) (v := ?_) rfl (by kernel_rfl) (by kernel_rfl) (by kernel_rfl) (fun _ _ _ h => h) (Or.inl ⟨by rfl, ?_⟩) (by assumption) ?_
  rotate_left
  · intro w7 hSw
    try dsimp only at hSw
    first | (go_simp; done) | (go_simp; with_reducible rfl)
  try simp only [Act.put, List.setIfInBounds_toArray, List.set_cons_zero, List.set_cons_succ]
  refine wpAnyH_take (i := 7) (oi := { dst := some 36, op := Go.Op.load 29 (Go.Operand.tmp 8), type := 29, pos := "law.go:42", after := #[{ on := 6, ground := Go.Ground.guard }], guard := some (6, true) }) (v := undef) rfl (by kernel_rfl) (by kernel_rfl) (by kernel_rfl) (fun _ _ _ h => h) (Or.inr ⟨by rfl, rfl⟩) (by assumption) ?_
  try simp only [Act.put, List.setIfInBounds_toArray, List.set_cons_zero, List.set_cons_succ]
  refine wpAnyH_take (i := 8) (oi := { dst := some 37, op := Go.Op.move (Go.Operand.tmp 1), type := 25, pos := "law.go:42", after := #[{ on := 6, ground := Go.Ground.guard }], guard := some (6, true) }) (v := undef) rfl (by kernel_rfl) (by kernel_rfl) (by kernel_rfl) (fun _ _ _ h => h) (Or.inr ⟨by rfl, rfl⟩) (by assumption) ?_
  try simp only [Act.put, List.setIfInBounds_toArray, List.set_cons_zero, List.set_cons_succ]
  refine wpAnyH_take (i := 9) (oi := { dst := some 38, op := Go.Op.move (Go.Operand.tmp 7), type := 3, pos := "law.go:42", after := #[{ on := 6, ground := Go.Ground.guard }], guard := some (6, true) }) (v := undef) rfl (by kernel_rfl) (by kernel_rfl) (by kernel_rfl) (fun _ _ _ h => h) (Or.inr ⟨by rfl, rfl⟩) (by assumption) ?_
  try simp only [Act.put, List.setIfInBounds_toArray, List.set_cons_zero, List.set_cons_succ]
  refine wpAnyH_take (i := 10) (oi := { dst := some 39, op := Go.Op.indexAddr 25 (Go.Operand.tmp 37) (Go.Operand.tmp 38), type := 0, pos := "law.go:42", after := #[{ on := 8, ground := Go.Ground.data }, { on := 9, ground := Go.Ground.data }, { on := 6, ground := Go.Ground.guard }], guard := some (6, true) }) (v := undef) rfl (by kernel_rfl) (by kernel_rfl) (by kernel_rfl) (fun _ _ _ h => h) (Or.inr ⟨by rfl, rfl⟩) (by assumption) ?_
  try simp only [Act.put, List.setIfInBounds_toArray, List.set_cons_zero, List.set_cons_succ]
  refine wpAnyH_take (i := 11) (oi := { dst := some 40, op := Go.Op.load 29 (Go.Operand.tmp 39), type := 29, pos := "law.go:42", after := #[{ on := 10, ground := Go.Ground.data }, { on := 6, ground := Go.Ground.guard }], guard := some (6, true) }) (v := undef) rfl (by kernel_rfl) (by kernel_rfl) (by kernel_rfl) (fun _ _ _ h => h) (Or.inr ⟨by rfl, rfl⟩) (by assumption) ?_
  try simp only [Act.put, List.setIfInBounds_toArray, List.set_cons_zero, List.set_cons_succ]
  refine wpAnyH_take (i := 12) (oi := { dst := some 41, op := Go.Op.binOp Go.BinOp.eql 29 (Go.Operand.tmp 36) (Go.Operand.tmp 40) 29, type := 4, pos := "law.go:42", after := #[{ on := 7, ground := Go.Ground.data }, { on := 11, ground := Go.Ground.data }, { on := 6, ground := Go.Ground.guard }], guard := some (6, true) }) (v := undef) rfl (by kernel_rfl) (by kernel_rfl) (by kernel_rfl) (fun _ _ _ h => h) (Or.inr ⟨by rfl, rfl⟩) (by assumption) ?_
  try simp only [Act.put, List.setIfInBounds_toArray, List.set_cons_zero, List.set_cons_succ]
  refine wpAnyH_take (i := 13) (oi := { dst := some 42, op := Go.Op.pick (Go.Operand.tmp 35) (Go.Operand.tmp 41) (Go.Operand.const (Go.Value.bool false)), type := 4, pos := "law.go:42", after := #[{ on := 6, ground := Go.Ground.data }, { on := 12, ground := Go.Ground.data }, { on := 4, ground := Go.Ground.guard }], guard := some (4, true) }) (v := ?_) rfl (by kernel_rfl) (by kernel_rfl) (by kernel_rfl) (fun _ _ _ h => h) (Or.inl ⟨by rfl, ?_⟩) (by assumption) ?_
  rotate_left
  · intro w7 hSw
    try dsimp only at hSw
    first | (go_simp; done) | (go_simp; with_reducible rfl)
  try simp only [Act.put, List.setIfInBounds_toArray, List.set_cons_zero, List.set_cons_succ]
  refine wpAnyH_take (i := 14) (oi := { dst := some 43, op := Go.Op.move (Go.Operand.tmp 42), type := 4, pos := "law.go:42", after := #[{ on := 13, ground := Go.Ground.data }, { on := 6, ground := Go.Ground.chain }, { on := 4, ground := Go.Ground.guard }], guard := some (4, true) }) (v := ?_) rfl (by kernel_rfl) (by kernel_rfl) (by kernel_rfl) (fun _ _ _ h => h) (Or.inl ⟨by rfl, ?_⟩) (by assumption) ?_
  rotate_left
  · intro w7 hSw
    try dsimp only at hSw
    first | (go_simp; done) | (go_simp; with_reducible rfl)
  try simp only [Act.put, List.setIfInBounds_toArray, List.set_cons_zero, List.set_cons_succ]
  refine wpAnyH_take (i := 15) (oi := { dst := some 44, op := Go.Op.move (Go.Operand.tmp 9), type := 4, pos := "law.go:42", after := #[{ on := 14, ground := Go.Ground.guard }], guard := some (14, false) }) (v := ?_) rfl (by kernel_rfl) (by kernel_rfl) (by kernel_rfl) (fun _ _ _ h => h) (Or.inl ⟨by rfl, ?_⟩) (by assumption) ?_
  rotate_left
  · intro w7 hSw
    try dsimp only at hSw
    first | (go_simp; done) | (go_simp; with_reducible rfl)
  try simp only [Act.put, List.setIfInBounds_toArray, List.set_cons_zero, List.set_cons_succ]
  refine wpAnyH_take (i := 16) (oi := { dst := some 45, op := Go.Op.unOp Go.UnOp.not 4 (Go.Operand.tmp 44), type := 4, pos := "law.go:42", after := #[{ on := 15, ground := Go.Ground.data }, { on := 14, ground := Go.Ground.guard }], guard := some (14, false) }) (v := ?_) rfl (by kernel_rfl) (by kernel_rfl) (by kernel_rfl) (fun _ _ _ h => h) (Or.inl ⟨by rfl, ?_⟩) (by assumption) ?_
  rotate_left
  · intro w7 hSw
    try dsimp only at hSw
    first | (go_simp; done) | (go_simp; with_reducible rfl)
  try simp only [Act.put, List.setIfInBounds_toArray, List.set_cons_zero, List.set_cons_succ]
  refine wpAnyH_take (i := 17) (oi := { dst := some 46, op := Go.Op.move (Go.Operand.tmp 45), type := 4, pos := "law.go:42", after := #[{ on := 16, ground := Go.Ground.data }, { on := 14, ground := Go.Ground.chain }, { on := 14, ground := Go.Ground.guard }], guard := some (14, false) }) (v := ?_) rfl (by kernel_rfl) (by kernel_rfl) (by kernel_rfl) (fun _ _ _ h => h) (Or.inl ⟨by rfl, ?_⟩) (by assumption) ?_
  rotate_left
  · intro w7 hSw
    try dsimp only at hSw
    first | (go_simp; done) | (go_simp; with_reducible rfl)
  try simp only [Act.put, List.setIfInBounds_toArray, List.set_cons_zero, List.set_cons_succ]
  refine wpAnyH_take (i := 18) (oi := { dst := some 47, op := Go.Op.load 29 (Go.Operand.tmp 8), type := 29, pos := "law.go:42", after := #[{ on := 17, ground := Go.Ground.guard }], guard := some (17, true) }) (v := ?_) rfl (by kernel_rfl) (by kernel_rfl) (by kernel_rfl) (fun _ _ _ h => h) (Or.inl ⟨by rfl, ?_⟩) (by assumption) ?_
  rotate_left
  · intro w7 hSw
    try dsimp only at hSw
    first | (go_simp; done) | (go_simp; with_reducible rfl)
  try simp only [Act.put, List.setIfInBounds_toArray, List.set_cons_zero, List.set_cons_succ]
  refine wpAnyH_take (i := 19) (oi := { dst := some 48, op := Go.Op.build 29 #[], type := 29, pos := "law.go:42", after := #[{ on := 17, ground := Go.Ground.guard }], guard := some (17, true) }) (v := ?_) rfl (by kernel_rfl) (by kernel_rfl) (by kernel_rfl) (fun _ _ _ h => h) (Or.inl ⟨by rfl, ?_⟩) (by assumption) ?_
  rotate_left
  · intro w7 hSw
    try dsimp only at hSw
    first | (go_simp; done) | (go_simp; with_reducible rfl)
  try simp only [Act.put, List.setIfInBounds_toArray, List.set_cons_zero, List.set_cons_succ]
  refine wpAnyH_take (i := 20) (oi := { dst := some 49, op := Go.Op.binOp Go.BinOp.eql 29 (Go.Operand.tmp 47) (Go.Operand.tmp 48) 29, type := 4, pos := "law.go:42", after := #[{ on := 18, ground := Go.Ground.data }, { on := 19, ground := Go.Ground.data }, { on := 17, ground := Go.Ground.guard }], guard := some (17, true) }) (v := ?_) rfl (by kernel_rfl) (by kernel_rfl) (by kernel_rfl) (fun _ _ _ h => h) (Or.inl ⟨by rfl, ?_⟩) (by assumption) ?_
  rotate_left
  · intro w7 hSw
    try dsimp only at hSw
    first | (go_simp; done) | (go_simp; with_reducible rfl)
  try simp only [Act.put, List.setIfInBounds_toArray, List.set_cons_zero, List.set_cons_succ]
  refine wpAnyH_take (i := 21) (oi := { dst := some 50, op := Go.Op.pick (Go.Operand.tmp 46) (Go.Operand.tmp 49) (Go.Operand.const (Go.Value.bool false)), type := 4, pos := "law.go:42", after := #[{ on := 17, ground := Go.Ground.data }, { on := 20, ground := Go.Ground.data }, { on := 14, ground := Go.Ground.guard }], guard := some (14, false) }) (v := ?_) rfl (by kernel_rfl) (by kernel_rfl) (by kernel_rfl) (fun _ _ _ h => h) (Or.inl ⟨by rfl, ?_⟩) (by assumption) ?_
  rotate_left
  · intro w7 hSw
    try dsimp only at hSw
    first | (go_simp; done) | (go_simp; with_reducible rfl)
  try simp only [Act.put, List.setIfInBounds_toArray, List.set_cons_zero, List.set_cons_succ]
  refine wpAnyH_take (i := 22) (oi := { dst := some 51, op := Go.Op.pick (Go.Operand.tmp 43) (Go.Operand.const (Go.Value.bool true)) (Go.Operand.tmp 50), type := 4, pos := "law.go:42", after := #[{ on := 14, ground := Go.Ground.data }, { on := 21, ground := Go.Ground.data }, { on := 4, ground := Go.Ground.guard }], guard := some (4, true) }) (v := ?_) rfl (by kernel_rfl) (by kernel_rfl) (by kernel_rfl) (fun _ _ _ h => h) (Or.inl ⟨by rfl, ?_⟩) (by assumption) ?_
  rotate_left
  · intro w7 hSw
    try dsimp only at hSw
    first | (go_simp; done) | (go_simp; with_reducible rfl)
  try simp only [Act.put, List.setIfInBounds_toArray, List.set_cons_zero, List.set_cons_succ]
  refine wpAnyH_take (i := 23) (oi := { dst := some 52, op := Go.Op.pick (Go.Operand.tmp 33) (Go.Operand.tmp 51) (Go.Operand.const (Go.Value.bool false)), type := 4, pos := "law.go:42", after := #[{ on := 4, ground := Go.Ground.data }, { on := 22, ground := Go.Ground.data }], guard := none }) (v := ?_) rfl (by kernel_rfl) (by kernel_rfl) (by kernel_rfl) (fun _ _ _ h => h) (Or.inl ⟨by rfl, ?_⟩) (by assumption) ?_
  rotate_left
  · intro w7 hSw
    try dsimp only at hSw
    first | (go_simp; done) | (go_simp; with_reducible rfl)
  try simp only [Act.put, List.setIfInBounds_toArray, List.set_cons_zero, List.set_cons_succ]
  refine wpAnyH_take (i := 24) (oi := { dst := some 6, op := Go.Op.assign (Go.Operand.tmp 52), type := 4, pos := "law.go:42", after := #[{ on := 23, ground := Go.Ground.data }, { on := 17, ground := Go.Ground.chain }, { on := 0, ground := Go.Ground.phase }, { on := 1, ground := Go.Ground.phase }, { on := 2, ground := Go.Ground.phase }, { on := 3, ground := Go.Ground.phase }, { on := 4, ground := Go.Ground.phase }, { on := 5, ground := Go.Ground.phase }, { on := 6, ground := Go.Ground.phase }, { on := 7, ground := Go.Ground.phase }, { on := 8, ground := Go.Ground.phase }, { on := 9, ground := Go.Ground.phase }, { on := 10, ground := Go.Ground.phase }, { on := 11, ground := Go.Ground.phase }, { on := 12, ground := Go.Ground.phase }, { on := 13, ground := Go.Ground.phase }, { on := 14, ground := Go.Ground.phase }, { on := 15, ground := Go.Ground.phase }, { on := 16, ground := Go.Ground.phase }, { on := 17, ground := Go.Ground.phase }, { on := 18, ground := Go.Ground.phase }, { on := 19, ground := Go.Ground.phase }, { on := 20, ground := Go.Ground.phase }, { on := 21, ground := Go.Ground.phase }, { on := 22, ground := Go.Ground.phase }, { on := 23, ground := Go.Ground.phase }], guard := none }) (v := ?_) rfl (by kernel_rfl) (by kernel_rfl) (by kernel_rfl) (fun _ _ _ h => h) (Or.inl ⟨by rfl, ?_⟩) (by assumption) ?_
  rotate_left
  · intro w7 hSw
    try dsimp only at hSw
    first | (go_simp; done) | (go_simp; with_reducible rfl)
  try simp only [Act.put, List.setIfInBounds_toArray, List.set_cons_zero, List.set_cons_succ]
  refine wpAnyH_done (by kernel_rfl) ?_ _
  go_wp2
  go_ret
  exact ⟨rfl, HK4.out.drew⟩

end Go.Proofs.Ytkelhglflpdpeaa
