/- Nth and Rank, held against the document's list. -/
import Derived.Test.YtkelhglflpdpeaaAs

namespace Go.Proofs.Ytkelhglflpdpeaa
open Go.RowKit Go.PlainAid


theorem nth_yes (b k : Nat) (l : List Pr) (i : Nat) (w : World) (h : Sh w b k l) (hs : l.length ≤ 1152921504606846976) (hi : i < l.length) :
    Calls Try.prog 34 #[vA b, .int .i64 (i : Int)] w fun e w' => e = .returned (.tuple #[vP l[i], .bool true]) ∧ Keep [] w w' := (nth_any b k l i w h hs (by omega)).mono (by
  rintro e w' ⟨z, c, he, h1, h2, h3⟩
  rw [List.getElem?_eq_getElem hi] at h1
  cases c
  · cases h1
  · cases h1; exact ⟨he, h3⟩)
theorem nth_no (b k : Nat) (l : List Pr) (z : Int) (w : World) (h : Sh w b k l) (hs : l.length ≤ 1152921504606846976) (hz : z ≤ 9223372036854775807) (hi : ¬ (0 ≤ z ∧ z < (l.length : Int))) :
    Calls Try.prog 34 #[vA b, .int .i64 z] w fun e w' => e = .returned (.tuple #[vP ⟨0, 0⟩, .bool false]) ∧ Keep [] w w' := by
  by_cases h0 : z < 0
  · exact nth_below b z w h0
  · obtain ⟨n, rfl⟩ : ∃ n : Nat, z = (n : Int) := ⟨z.toNat, by omega⟩
    refine (nth_any b k l n w h hs (by omega)).mono ?_
    rintro e w' ⟨z, c, he, h1, h2, h3⟩
    rw [List.getElem?_eq_none (by omega)] at h1
    cases c
    · rw [h2 rfl] at he; exact ⟨he, h3⟩
    · cases h1

set_option maxRecDepth 100000 in
set_option maxHeartbeats 4000000 in
theorem asked4_in (b : Nat) (vl : Value) (L : List Pr) (ao_ ac xm : Int) (n : Nat) (w : World) (h : Sh w b 10 L) (hv : Rd encP 2 w vl L) (hl : L.length ≤ 8796093021951) (hc : -9223372036854775808 ≤ ac ∧ ac ≤ 9223372036854775807) (hz : pickZ ac 8 = 4) (hin : n < L.length) :
    Calls Try.prog 18 #[vA b, vl, .agg #[.int .i64 ao_, .int .i64 ac, .int .i64 (n : Int), .int .i64 xm]] w fun e w' => e = .returned (.bool true) ∧ Keep [] w w' := by
  obtain ⟨ao, cap, rfl, hc1, hc2⟩ := hv.form
  have HV : Hid (Rd encP 2 w (.slice ao L.length cap) L) := hv
  have HS : Hid (Sh w b 10 L) := h
  have HLL : Hid (L.length ≤ 8796093021951) := hl
  have hLz : (L.length : Int) ≤ 8796093021951 := by omega
  have HFi : Hid (∀ w9, Keep [] w w9 → Calls Try.prog 46 #[.slice ao L.length cap, vP ⟨(n : Int), xm⟩] w9 fun e w' => e = .returned (.int .i64 (fnd L (n : Int))) ∧ Keep [] w9 w') := fun w9 kk => rFind_any _ L ⟨(n : Int), xm⟩ w9 (hv.keep kk (Off.nil _)) h.ris (by omega)
  have HPk : Hid (∀ w9, Calls Try.prog 11 #[.int .i64 ac, .int .i64 8] w9 fun e w' => e = .returned (.int .i64 4) ∧ w9 = w') := fun w9 => (pick_any ac 8 hc.1 hc.2 (by omega) w9).mono (fun e w' h => ⟨by rw [h.1, hz], h.2.symm⟩)
  obtain ⟨x0, x1, x2, x3⟩ := box4 (a := ⟨ao_, ac, ⟨(n : Int), xm⟩⟩) (Keep.refl [] (w.alloc (.cells #[.int .i64 ao_, .int .i64 ac, .int .i64 (n : Int), .int .i64 xm] 33)))
  dsimp only at x0 x1 x2 x3
  have hn1 : (n : Int) < (L.length : Int) := by omega
  have hn0 : (0 : Int) ≤ (n : Int) := by omega
  have HNth : Hid (∃ hh : n < L.length, L[n] = L[n]'hin) := ⟨hin, rfl⟩
  have HFn : Hid (∀ w9, Sh w9 b 10 L → Calls Try.prog 34 #[vA b, .int .i64 (n : Int)] w9 fun e w' => e = .returned (.tuple #[vP L[n], .bool true]) ∧ Keep [] w9 w') := fun w9 hs => nth_yes b 10 L n w9 hs (by omega) hin
  generalize L[n]'hin = y at *
  clear hin
  clear h hv hl hc hz
  go_enter Try.func18, Try.ntmps18
  go_wp2_with fail
  refine (HFi.out _ (Keep.alloc1 _ _)).mono ?_
  clear HFi
  rintro e w2 ⟨rfl, k2⟩
  have HK2 : Hid (Keep [] (w.alloc (.cells #[.int .i64 ao_, .int .i64 ac, .int .i64 (n : Int), .int .i64 xm] 33)) w2) := k2
  clear k2 x0 x1 x2 x3
  obtain ⟨x0, x1, x2, x3⟩ := box4 (a := ⟨ao_, ac, ⟨(n : Int), xm⟩⟩) HK2.out
  dsimp only at x0 x1 x2 x3
  go_wp2_with fail
  refine (HPk.out _).mono ?_
  clear HPk
  rintro e w3 ⟨rfl, rfl⟩
  go_wp2_with fail
  refine (HFn.out _ (HS.out.keep0 ((Keep.alloc1 _ _).trans' HK2.out))).mono ?_
  clear HFn
  rintro e y1 ⟨rfl, j1⟩
  have HK3 : Hid (Keep [] w2 (y1.alloc (.cells #[.int .i64 y.k, .int .i64 y.m] 29))) := j1.alloc _
  have HK4 : Hid (Keep [] w (y1.alloc (.cells #[.int .i64 y.k, .int .i64 y.m] 29))) := ((Keep.alloc1 _ _).trans' HK2.out).trans' HK3.out
  obtain ⟨⟨z0, z1⟩, _, _⟩ := two_facts (heap_alloc_new y1 (.cells #[.int .i64 y.k, .int .i64 y.m] 29))
  have b2 := HK3.out.cell' x2 (by simp)
  have b3 := HK3.out.cell' x3 (by simp)
  obtain ⟨hh, hy⟩ := HNth.out
  obtain ⟨g, oo, c2, he, hg, e0, e1⟩ := (HV.out.keep HK4.out (Off.nil _)).pair n hh
  simp at he
  obtain ⟨rfl, rfl⟩ := he
  rw [hy] at e0 e1
  go_wp2_with fail
  generalize y1.alloc (.cells #[.int .i64 y.k, .int .i64 y.m] 29) = y6 at *
  generalize y1.heap.size = Bq at *
  have HRk : Hid (∀ w9, Keep [] y6 w9 → Calls Try.prog 35 #[vA b, vP ⟨(n : Int), xm⟩] w9 fun e w' => e = .returned (.int .i64 (rnk L (n : Int) : Int)) ∧ Keep [] w9 w') := fun w9 kk => shRank_any b 10 L ⟨(n : Int), xm⟩ w9 (HS.out.keep0 (HK4.out.trans' kk)) (by have := HLL.out; omega)
  have HRr : Hid (∀ w9, Keep [] y6 w9 → Calls Try.prog 47 #[.slice (some ⟨g, oo, none⟩) L.length cap, vP ⟨(n : Int), xm⟩] w9 fun e w' => e = .returned (.int .i64 (rnk L (n : Int) : Int)) ∧ Keep [] w9 w') := fun w9 kk => rRank_any _ L ⟨(n : Int), xm⟩ w9 (HV.out.keep (HK4.out.trans' kk) (Off.nil _)) (by have := HLL.out; omega)
  have HCs : Cs [(⟨Bq, 0, none⟩, .int .i64 y.k), (⟨Bq, 1, none⟩, .int .i64 y.m), (⟨w.heap.size, 2, none⟩, .int .i64 (n : Int)), (⟨w.heap.size, 3, none⟩, .int .i64 xm), (⟨g, oo + n * 2, none⟩, .int .i64 y.k), (⟨g, oo + n * 2 + 1, none⟩, .int .i64 y.m)] y6 y6 := ⟨z0, z1, b2, b3, e0, e1, Keep.refl _ _⟩
  clear x0 x1 x2 x3 j1 HK3
  refine wp_region_held_drew (S := (fun w' : World => w'.cell? ⟨Bq, 0, none⟩ = some (.int .i64 y.k) ∧ w'.cell? ⟨Bq, 1, none⟩ = some (.int .i64 y.m) ∧ w'.cell? ⟨w.heap.size, 2, none⟩ = some (.int .i64 (n : Int)) ∧ w'.cell? ⟨w.heap.size, 3, none⟩ = some (.int .i64 xm) ∧ w'.cell? ⟨g, oo + n * 2, none⟩ = some (.int .i64 y.k) ∧ w'.cell? ⟨g, oo + n * 2 + 1, none⟩ = some (.int .i64 y.m) ∧ Hid (Keep [] y6 w'))) (by kernel_rfl) (Cs.base (l := [(⟨Bq, 0, none⟩, .int .i64 y.k), (⟨Bq, 1, none⟩, .int .i64 y.m), (⟨w.heap.size, 2, none⟩, .int .i64 (n : Int)), (⟨w.heap.size, 3, none⟩, .int .i64 xm), (⟨g, oo + n * 2, none⟩, .int .i64 y.k), (⟨g, oo + n * 2 + 1, none⟩, .int .i64 y.m)]) HCs ((Keep.refl _ _).drew)) (fun hHeld => ?_)
  try dsimp only at hHeld
  refine wpAnyH_take (i := 0) (oi := { dst := some 75, op := Go.Op.move (Go.Operand.tmp 11), type := 4, pos := "law.go:46", after := #[], guard := none }) (v := ?_) rfl (by kernel_rfl) (by kernel_rfl) (by kernel_rfl) (fun _ _ _ h => h) (Or.inl ⟨by rfl, ?_⟩) (by assumption) ?_
  rotate_left
  · intro w7 hSw
    try dsimp only at hSw
    first | (go_simp; done) | (go_simp; with_reducible rfl)
  try simp only [Act.put, List.setIfInBounds_toArray, List.set_cons_zero, List.set_cons_succ]
  refine wpAnyH_take (i := 1) (oi := { dst := some 76, op := Go.Op.move (Go.Operand.tmp 12), type := 4, pos := "law.go:46", after := #[], guard := none }) (v := ?_) rfl (by kernel_rfl) (by kernel_rfl) (by kernel_rfl) (fun _ _ _ h => h) (Or.inl ⟨by rfl, ?_⟩) (by assumption) ?_
  rotate_left
  · intro w7 hSw
    try dsimp only at hSw
    first | (go_simp; done) | (go_simp; with_reducible rfl)
  try simp only [Act.put, List.setIfInBounds_toArray, List.set_cons_zero, List.set_cons_succ]
  refine wpAnyH_take (i := 2) (oi := { dst := some 77, op := Go.Op.binOp Go.BinOp.eql 4 (Go.Operand.tmp 75) (Go.Operand.tmp 76) 4, type := 4, pos := "law.go:46", after := #[{ on := 0, ground := Go.Ground.data }, { on := 1, ground := Go.Ground.data }], guard := none }) (v := ?_) rfl (by kernel_rfl) (by kernel_rfl) (by kernel_rfl) (fun _ _ _ h => h) (Or.inl ⟨by rfl, ?_⟩) (by assumption) ?_
  rotate_left
  · intro w7 hSw
    try dsimp only at hSw
    first | (go_simp; done) | (go_simp; with_reducible rfl)
  try simp only [Act.put, List.setIfInBounds_toArray, List.set_cons_zero, List.set_cons_succ]
  refine wpAnyH_take (i := 3) (oi := { dst := some 78, op := Go.Op.move (Go.Operand.tmp 77), type := 4, pos := "law.go:46", after := #[{ on := 2, ground := Go.Ground.data }], guard := none }) (v := ?_) rfl (by kernel_rfl) (by kernel_rfl) (by kernel_rfl) (fun _ _ _ h => h) (Or.inl ⟨by rfl, ?_⟩) (by assumption) ?_
  rotate_left
  · intro w7 hSw
    try dsimp only at hSw
    first | (go_simp; done) | (go_simp; with_reducible rfl)
  try simp only [Act.put, List.setIfInBounds_toArray, List.set_cons_zero, List.set_cons_succ]
  refine wpAnyH_take (i := 4) (oi := { dst := some 79, op := Go.Op.move (Go.Operand.tmp 11), type := 4, pos := "law.go:46", after := #[{ on := 3, ground := Go.Ground.guard }], guard := some (3, true) }) (v := ?_) rfl (by kernel_rfl) (by kernel_rfl) (by kernel_rfl) (fun _ _ _ h => h) (Or.inl ⟨by rfl, ?_⟩) (by assumption) ?_
  rotate_left
  · intro w7 hSw
    try dsimp only at hSw
    first | (go_simp; done) | (go_simp; with_reducible rfl)
  try simp only [Act.put, List.setIfInBounds_toArray, List.set_cons_zero, List.set_cons_succ]
  refine wpAnyH_take (i := 5) (oi := { dst := some 80, op := Go.Op.move (Go.Operand.tmp 79), type := 4, pos := "law.go:46", after := #[{ on := 4, ground := Go.Ground.data }, { on := 3, ground := Go.Ground.chain }, { on := 3, ground := Go.Ground.guard }], guard := some (3, true) }) (v := ?_) rfl (by kernel_rfl) (by kernel_rfl) (by kernel_rfl) (fun _ _ _ h => h) (Or.inl ⟨by rfl, ?_⟩) (by assumption) ?_
  rotate_left
  · intro w7 hSw
    try dsimp only at hSw
    first | (go_simp; done) | (go_simp; with_reducible rfl)
  try simp only [Act.put, List.setIfInBounds_toArray, List.set_cons_zero, List.set_cons_succ]
  refine wpAnyH_take (i := 6) (oi := { dst := some 81, op := Go.Op.load 29 (Go.Operand.tmp 10), type := 29, pos := "law.go:46", after := #[{ on := 5, ground := Go.Ground.guard }], guard := some (5, true) }) (v := ?_) rfl (by kernel_rfl) (by kernel_rfl) (by kernel_rfl) (fun _ _ _ h => h) (Or.inl ⟨by rfl, ?_⟩) (by assumption) ?_
  rotate_left
  · intro w7 hSw
    try dsimp only at hSw
    first | (go_simp; done) | (go_simp; with_reducible rfl)
  try simp only [Act.put, List.setIfInBounds_toArray, List.set_cons_zero, List.set_cons_succ]
  refine wpAnyH_take (i := 7) (oi := { dst := some 82, op := Go.Op.move (Go.Operand.tmp 1), type := 25, pos := "law.go:46", after := #[{ on := 5, ground := Go.Ground.guard }], guard := some (5, true) }) (v := ?_) rfl (by kernel_rfl) (by kernel_rfl) (by kernel_rfl) (fun _ _ _ h => h) (Or.inl ⟨by rfl, ?_⟩) (by assumption) ?_
  rotate_left
  · intro w7 hSw
    try dsimp only at hSw
    first | (go_simp; done) | (go_simp; with_reducible rfl)
  try simp only [Act.put, List.setIfInBounds_toArray, List.set_cons_zero, List.set_cons_succ]
  refine wpAnyH_take (i := 8) (oi := { dst := some 83, op := Go.Op.fieldAddr 33 (Go.Operand.tmp 5) 2, type := 0, pos := "law.go:46", after := #[{ on := 5, ground := Go.Ground.guard }], guard := some (5, true) }) (v := ?_) rfl (by kernel_rfl) (by kernel_rfl) (by kernel_rfl) (fun _ _ _ h => h) (Or.inl ⟨by rfl, ?_⟩) (by assumption) ?_
  rotate_left
  · intro w7 hSw
    try dsimp only at hSw
    first | (go_simp; done) | (go_simp; with_reducible rfl)
  try simp only [Act.put, List.setIfInBounds_toArray, List.set_cons_zero, List.set_cons_succ]
  refine wpAnyH_take (i := 9) (oi := { dst := some 84, op := Go.Op.fieldAddr 29 (Go.Operand.tmp 83) 0, type := 0, pos := "law.go:46", after := #[{ on := 8, ground := Go.Ground.data }, { on := 5, ground := Go.Ground.guard }], guard := some (5, true) }) (v := ?_) rfl (by kernel_rfl) (by kernel_rfl) (by kernel_rfl) (fun _ _ _ h => h) (Or.inl ⟨by rfl, ?_⟩) (by assumption) ?_
  rotate_left
  · intro w7 hSw
    try dsimp only at hSw
    first | (go_simp; done) | (go_simp; with_reducible rfl)
  try simp only [Act.put, List.setIfInBounds_toArray, List.set_cons_zero, List.set_cons_succ]
  refine wpAnyH_take (i := 10) (oi := { dst := some 85, op := Go.Op.load 3 (Go.Operand.tmp 84), type := 3, pos := "law.go:46", after := #[{ on := 9, ground := Go.Ground.data }, { on := 5, ground := Go.Ground.guard }], guard := some (5, true) }) (v := ?_) rfl (by kernel_rfl) (by kernel_rfl) (by kernel_rfl) (fun _ _ _ h => h) (Or.inl ⟨by rfl, ?_⟩) (by assumption) ?_
  rotate_left
  · intro w7 hSw
    try dsimp only at hSw
    first | (go_simp; done) | (go_simp; with_reducible rfl)
  try simp only [Act.put, List.setIfInBounds_toArray, List.set_cons_zero, List.set_cons_succ]
  refine wpAnyH_take (i := 11) (oi := { dst := some 86, op := Go.Op.indexAddr 25 (Go.Operand.tmp 82) (Go.Operand.tmp 85), type := 0, pos := "law.go:46", after := #[{ on := 7, ground := Go.Ground.data }, { on := 10, ground := Go.Ground.data }, { on := 5, ground := Go.Ground.guard }], guard := some (5, true) }) (v := ?_) rfl (by kernel_rfl) (by kernel_rfl) (by kernel_rfl) (fun _ _ _ h => h) (Or.inl ⟨by rfl, ?_⟩) (by assumption) ?_
  rotate_left
  · intro w7 hSw
    try dsimp only at hSw
    first | (go_simp; done) | (go_simp; with_reducible rfl)
  try simp only [Act.put, List.setIfInBounds_toArray, List.set_cons_zero, List.set_cons_succ]
  refine wpAnyH_take (i := 12) (oi := { dst := some 87, op := Go.Op.load 29 (Go.Operand.tmp 86), type := 29, pos := "law.go:46", after := #[{ on := 11, ground := Go.Ground.data }, { on := 5, ground := Go.Ground.guard }], guard := some (5, true) }) (v := ?_) rfl (by kernel_rfl) (by kernel_rfl) (by kernel_rfl) (fun _ _ _ h => h) (Or.inl ⟨by rfl, ?_⟩) (by assumption) ?_
  rotate_left
  · intro w7 hSw
    try dsimp only at hSw
    first | (go_simp; done) | (go_simp; with_reducible rfl)
  try simp only [Act.put, List.setIfInBounds_toArray, List.set_cons_zero, List.set_cons_succ]
  refine wpAnyH_take (i := 13) (oi := { dst := some 88, op := Go.Op.binOp Go.BinOp.eql 29 (Go.Operand.tmp 81) (Go.Operand.tmp 87) 29, type := 4, pos := "law.go:46", after := #[{ on := 6, ground := Go.Ground.data }, { on := 12, ground := Go.Ground.data }, { on := 5, ground := Go.Ground.guard }], guard := some (5, true) }) (v := ?_) rfl (by kernel_rfl) (by kernel_rfl) (by kernel_rfl) (fun _ _ _ h => h) (Or.inl ⟨by rfl, ?_⟩) (by assumption) ?_
  rotate_left
  · intro w7 hSw
    try dsimp only at hSw
    first | (go_simp; done) | (go_simp; with_reducible rfl)
  try simp only [Act.put, List.setIfInBounds_toArray, List.set_cons_zero, List.set_cons_succ]
  refine wpAnyH_take (i := 14) (oi := { dst := some 89, op := Go.Op.pick (Go.Operand.tmp 80) (Go.Operand.tmp 88) (Go.Operand.const (Go.Value.bool false)), type := 4, pos := "law.go:46", after := #[{ on := 5, ground := Go.Ground.data }, { on := 13, ground := Go.Ground.data }, { on := 3, ground := Go.Ground.guard }], guard := some (3, true) }) (v := ?_) rfl (by kernel_rfl) (by kernel_rfl) (by kernel_rfl) (fun _ _ _ h => h) (Or.inl ⟨by rfl, ?_⟩) (by assumption) ?_
  rotate_left
  · intro w7 hSw
    try dsimp only at hSw
    first | (go_simp; done) | (go_simp; with_reducible rfl)
  try simp only [Act.put, List.setIfInBounds_toArray, List.set_cons_zero, List.set_cons_succ]
  refine wpAnyH_take (i := 15) (oi := { dst := some 90, op := Go.Op.move (Go.Operand.tmp 89), type := 4, pos := "law.go:46", after := #[{ on := 14, ground := Go.Ground.data }, { on := 5, ground := Go.Ground.chain }, { on := 3, ground := Go.Ground.guard }], guard := some (3, true) }) (v := ?_) rfl (by kernel_rfl) (by kernel_rfl) (by kernel_rfl) (fun _ _ _ h => h) (Or.inl ⟨by rfl, ?_⟩) (by assumption) ?_
  rotate_left
  · intro w7 hSw
    try dsimp only at hSw
    first | (go_simp; done) | (go_simp; with_reducible rfl)
  try simp only [Act.put, List.setIfInBounds_toArray, List.set_cons_zero, List.set_cons_succ]
  refine wpAnyH_take (i := 16) (oi := { dst := some 91, op := Go.Op.move (Go.Operand.tmp 11), type := 4, pos := "law.go:46", after := #[{ on := 15, ground := Go.Ground.guard }], guard := some (15, false) }) (v := undef) rfl (by kernel_rfl) (by kernel_rfl) (by kernel_rfl) (fun _ _ _ h => h) (Or.inr ⟨by rfl, rfl⟩) (by assumption) ?_
  try simp only [Act.put, List.setIfInBounds_toArray, List.set_cons_zero, List.set_cons_succ]
  refine wpAnyH_take (i := 17) (oi := { dst := some 92, op := Go.Op.unOp Go.UnOp.not 4 (Go.Operand.tmp 91), type := 4, pos := "law.go:46", after := #[{ on := 16, ground := Go.Ground.data }, { on := 15, ground := Go.Ground.guard }], guard := some (15, false) }) (v := undef) rfl (by kernel_rfl) (by kernel_rfl) (by kernel_rfl) (fun _ _ _ h => h) (Or.inr ⟨by rfl, rfl⟩) (by assumption) ?_
  try simp only [Act.put, List.setIfInBounds_toArray, List.set_cons_zero, List.set_cons_succ]
  refine wpAnyH_take (i := 18) (oi := { dst := some 93, op := Go.Op.move (Go.Operand.tmp 92), type := 4, pos := "law.go:46", after := #[{ on := 17, ground := Go.Ground.data }, { on := 15, ground := Go.Ground.chain }, { on := 15, ground := Go.Ground.guard }], guard := some (15, false) }) (v := undef) rfl (by kernel_rfl) (by kernel_rfl) (by kernel_rfl) (fun _ _ _ h => h) (Or.inr ⟨by rfl, rfl⟩) (by assumption) ?_
  try simp only [Act.put, List.setIfInBounds_toArray, List.set_cons_zero, List.set_cons_succ]
  refine wpAnyH_take (i := 19) (oi := { dst := some 94, op := Go.Op.load 29 (Go.Operand.tmp 10), type := 29, pos := "law.go:46", after := #[{ on := 18, ground := Go.Ground.guard }], guard := some (18, true) }) (v := undef) rfl (by kernel_rfl) (by kernel_rfl) (by kernel_rfl) (fun _ _ _ h => h) (Or.inr ⟨by rfl, rfl⟩) (by assumption) ?_
  try simp only [Act.put, List.setIfInBounds_toArray, List.set_cons_zero, List.set_cons_succ]
  refine wpAnyH_take (i := 20) (oi := { dst := some 95, op := Go.Op.build 29 #[], type := 29, pos := "law.go:46", after := #[{ on := 18, ground := Go.Ground.guard }], guard := some (18, true) }) (v := undef) rfl (by kernel_rfl) (by kernel_rfl) (by kernel_rfl) (fun _ _ _ h => h) (Or.inr ⟨by rfl, rfl⟩) (by assumption) ?_
  try simp only [Act.put, List.setIfInBounds_toArray, List.set_cons_zero, List.set_cons_succ]
  refine wpAnyH_take (i := 21) (oi := { dst := some 96, op := Go.Op.binOp Go.BinOp.eql 29 (Go.Operand.tmp 94) (Go.Operand.tmp 95) 29, type := 4, pos := "law.go:46", after := #[{ on := 19, ground := Go.Ground.data }, { on := 20, ground := Go.Ground.data }, { on := 18, ground := Go.Ground.guard }], guard := some (18, true) }) (v := undef) rfl (by kernel_rfl) (by kernel_rfl) (by kernel_rfl) (fun _ _ _ h => h) (Or.inr ⟨by rfl, rfl⟩) (by assumption) ?_
  try simp only [Act.put, List.setIfInBounds_toArray, List.set_cons_zero, List.set_cons_succ]
  refine wpAnyH_take (i := 22) (oi := { dst := some 97, op := Go.Op.pick (Go.Operand.tmp 93) (Go.Operand.tmp 96) (Go.Operand.const (Go.Value.bool false)), type := 4, pos := "law.go:46", after := #[{ on := 18, ground := Go.Ground.data }, { on := 21, ground := Go.Ground.data }, { on := 15, ground := Go.Ground.guard }], guard := some (15, false) }) (v := undef) rfl (by kernel_rfl) (by kernel_rfl) (by kernel_rfl) (fun _ _ _ h => h) (Or.inr ⟨by rfl, rfl⟩) (by assumption) ?_
  try simp only [Act.put, List.setIfInBounds_toArray, List.set_cons_zero, List.set_cons_succ]
  refine wpAnyH_take (i := 23) (oi := { dst := some 98, op := Go.Op.pick (Go.Operand.tmp 90) (Go.Operand.const (Go.Value.bool true)) (Go.Operand.tmp 97), type := 4, pos := "law.go:46", after := #[{ on := 15, ground := Go.Ground.data }, { on := 22, ground := Go.Ground.data }, { on := 3, ground := Go.Ground.guard }], guard := some (3, true) }) (v := ?_) rfl (by kernel_rfl) (by kernel_rfl) (by kernel_rfl) (fun _ _ _ h => h) (Or.inl ⟨by rfl, ?_⟩) (by assumption) ?_
  rotate_left
  · intro w7 hSw
    try dsimp only at hSw
    first | (go_simp; done) | (go_simp; with_reducible rfl)
  try simp only [Act.put, List.setIfInBounds_toArray, List.set_cons_zero, List.set_cons_succ]
  refine wpAnyH_take (i := 24) (oi := { dst := some 99, op := Go.Op.pick (Go.Operand.tmp 78) (Go.Operand.tmp 98) (Go.Operand.const (Go.Value.bool false)), type := 4, pos := "law.go:46", after := #[{ on := 3, ground := Go.Ground.data }, { on := 23, ground := Go.Ground.data }], guard := none }) (v := ?_) rfl (by kernel_rfl) (by kernel_rfl) (by kernel_rfl) (fun _ _ _ h => h) (Or.inl ⟨by rfl, ?_⟩) (by assumption) ?_
  rotate_left
  · intro w7 hSw
    try dsimp only at hSw
    first | (go_simp; done) | (go_simp; with_reducible rfl)
  try simp only [Act.put, List.setIfInBounds_toArray, List.set_cons_zero, List.set_cons_succ]
  refine wpAnyH_take (i := 25) (oi := { dst := some 100, op := Go.Op.move (Go.Operand.tmp 99), type := 4, pos := "law.go:46", after := #[{ on := 24, ground := Go.Ground.data }, { on := 18, ground := Go.Ground.chain }], guard := none }) (v := ?_) rfl (by kernel_rfl) (by kernel_rfl) (by kernel_rfl) (fun _ _ _ h => h) (Or.inl ⟨by rfl, ?_⟩) (by assumption) ?_
  rotate_left
  · intro w7 hSw
    try dsimp only at hSw
    first | (go_simp; done) | (go_simp; with_reducible rfl)
  try simp only [Act.put, List.setIfInBounds_toArray, List.set_cons_zero, List.set_cons_succ]
  refine wpAnyH_take (i := 26) (oi := { dst := some 101, op := Go.Op.move (Go.Operand.tmp 0), type := 23, pos := "law.go:46", after := #[{ on := 25, ground := Go.Ground.guard }], guard := some (25, true) }) (v := ?_) rfl (by kernel_rfl) (by kernel_rfl) (by kernel_rfl) (fun _ _ _ h => h) (Or.inl ⟨by rfl, ?_⟩) (by assumption) ?_
  rotate_left
  · intro w7 hSw
    try dsimp only at hSw
    first | (go_simp; done) | (go_simp; with_reducible rfl)
  try simp only [Act.put, List.setIfInBounds_toArray, List.set_cons_zero, List.set_cons_succ]
  refine wpAnyH_take (i := 27) (oi := { dst := some 102, op := Go.Op.fieldAddr 33 (Go.Operand.tmp 5) 2, type := 0, pos := "law.go:46", after := #[{ on := 25, ground := Go.Ground.guard }], guard := some (25, true) }) (v := ?_) rfl (by kernel_rfl) (by kernel_rfl) (by kernel_rfl) (fun _ _ _ h => h) (Or.inl ⟨by rfl, ?_⟩) (by assumption) ?_
  rotate_left
  · intro w7 hSw
    try dsimp only at hSw
    first | (go_simp; done) | (go_simp; with_reducible rfl)
  try simp only [Act.put, List.setIfInBounds_toArray, List.set_cons_zero, List.set_cons_succ]
  refine wpAnyH_take (i := 28) (oi := { dst := some 103, op := Go.Op.load 29 (Go.Operand.tmp 102), type := 29, pos := "law.go:46", after := #[{ on := 27, ground := Go.Ground.data }, { on := 25, ground := Go.Ground.guard }], guard := some (25, true) }) (v := ?_) rfl (by kernel_rfl) (by kernel_rfl) (by kernel_rfl) (fun _ _ _ h => h) (Or.inl ⟨by rfl, ?_⟩) (by assumption) ?_
  rotate_left
  · intro w7 hSw
    try dsimp only at hSw
    first | (go_simp; done) | (go_simp; with_reducible rfl)
  try simp only [Act.put, List.setIfInBounds_toArray, List.set_cons_zero, List.set_cons_succ]
  refine wpAnyH_take (i := 30) (oi := { dst := some 105, op := Go.Op.move (Go.Operand.tmp 1), type := 25, pos := "law.go:46", after := #[{ on := 25, ground := Go.Ground.guard }], guard := some (25, true) }) (v := ?_) rfl (by kernel_rfl) (by kernel_rfl) (by kernel_rfl) (fun _ _ _ h => h) (Or.inl ⟨by rfl, ?_⟩) (by assumption) ?_
  rotate_left
  · intro w7 hSw
    try dsimp only at hSw
    first | (go_simp; done) | (go_simp; with_reducible rfl)
  try simp only [Act.put, List.setIfInBounds_toArray, List.set_cons_zero, List.set_cons_succ]
  refine wpAnyH_take (i := 31) (oi := { dst := some 106, op := Go.Op.fieldAddr 33 (Go.Operand.tmp 5) 2, type := 0, pos := "law.go:46", after := #[{ on := 25, ground := Go.Ground.guard }], guard := some (25, true) }) (v := ?_) rfl (by kernel_rfl) (by kernel_rfl) (by kernel_rfl) (fun _ _ _ h => h) (Or.inl ⟨by rfl, ?_⟩) (by assumption) ?_
  rotate_left
  · intro w7 hSw
    try dsimp only at hSw
    first | (go_simp; done) | (go_simp; with_reducible rfl)
  try simp only [Act.put, List.setIfInBounds_toArray, List.set_cons_zero, List.set_cons_succ]
  refine wpAnyH_take (i := 32) (oi := { dst := some 107, op := Go.Op.load 29 (Go.Operand.tmp 106), type := 29, pos := "law.go:46", after := #[{ on := 31, ground := Go.Ground.data }, { on := 25, ground := Go.Ground.guard }], guard := some (25, true) }) (v := ?_) rfl (by kernel_rfl) (by kernel_rfl) (by kernel_rfl) (fun _ _ _ h => h) (Or.inl ⟨by rfl, ?_⟩) (by assumption) ?_
  rotate_left
  · intro w7 hSw
    try dsimp only at hSw
    first | (go_simp; done) | (go_simp; with_reducible rfl)
  try simp only [Act.put, List.setIfInBounds_toArray, List.set_cons_zero, List.set_cons_succ]
  refine wpAnyH_ready (rs := [29]) (by kernel_rfl) (by simp) ?_
  refine AllReadyH.cons (o := { dst := some 104, op := Go.Op.call { callee := Go.Callee.value (Go.Operand.func 35), args := #[Go.Operand.tmp 101, Go.Operand.tmp 103], argTypes := #[23, 29] }, type := 3, pos := "law.go:46", after := #[{ on := 26, ground := Go.Ground.data }, { on := 28, ground := Go.Ground.data }, { on := 25, ground := Go.Ground.chain }, { on := 25, ground := Go.Ground.guard }], guard := some (25, true) }) rfl (fun K hK => ?_) AllReadyH.nil
  go_simp
  (go_at_call 35; refine (HRk.out _ ((Keep.refl [] _).drew)).mono ?_; clear HRk; rintro e w7 ⟨rfl, k7⟩)
  go_wp2_with fail
  refine hK.out _ _ (Cs.base (l := [(⟨Bq, 0, none⟩, .int .i64 y.k), (⟨Bq, 1, none⟩, .int .i64 y.m), (⟨w.heap.size, 2, none⟩, .int .i64 (n : Int)), (⟨w.heap.size, 3, none⟩, .int .i64 xm), (⟨g, oo + n * 2, none⟩, .int .i64 y.k), (⟨g, oo + n * 2 + 1, none⟩, .int .i64 y.m)]) HCs ((Keep.refl _ _).drew.trans' k7)) (fun hHeld2 => ?_)
  try dsimp only at hHeld2
  clear hK hHeld
  have hHeld := hHeld2
  clear hHeld2
  try simp only [Act.put, List.setIfInBounds_toArray, List.set_cons_zero, List.set_cons_succ]
  refine wpAnyH_ready (rs := [33]) (by kernel_rfl) (by simp) ?_
  refine AllReadyH.cons (o := { dst := some 108, op := Go.Op.call { callee := Go.Callee.value (Go.Operand.func 47), args := #[Go.Operand.tmp 105, Go.Operand.tmp 107], argTypes := #[25, 29] }, type := 3, pos := "law.go:46", after := #[{ on := 30, ground := Go.Ground.data }, { on := 32, ground := Go.Ground.data }, { on := 29, ground := Go.Ground.chain }, { on := 25, ground := Go.Ground.guard }], guard := some (25, true) }) rfl (fun K hK => ?_) AllReadyH.nil
  go_simp
  (go_at_call 47; refine (HRr.out _ ((Keep.refl [] _).drew.trans' k7)).mono ?_; clear HRr; rintro e w8 ⟨rfl, k8⟩)
  go_wp2_with fail
  refine hK.out _ _ (Cs.base (l := [(⟨Bq, 0, none⟩, .int .i64 y.k), (⟨Bq, 1, none⟩, .int .i64 y.m), (⟨w.heap.size, 2, none⟩, .int .i64 (n : Int)), (⟨w.heap.size, 3, none⟩, .int .i64 xm), (⟨g, oo + n * 2, none⟩, .int .i64 y.k), (⟨g, oo + n * 2 + 1, none⟩, .int .i64 y.m)]) HCs (((Keep.refl _ _).drew.trans' k7).trans' k8)) (fun hHeld2 => ?_)
  try dsimp only at hHeld2
  clear hK hHeld
  have hHeld := hHeld2
  clear hHeld2
  try simp only [Act.put, List.setIfInBounds_toArray, List.set_cons_zero, List.set_cons_succ]
  refine wpAnyH_take (i := 34) (oi := { dst := some 109, op := Go.Op.binOp Go.BinOp.eql 3 (Go.Operand.tmp 104) (Go.Operand.tmp 108) 3, type := 4, pos := "law.go:46", after := #[{ on := 29, ground := Go.Ground.data }, { on := 33, ground := Go.Ground.data }, { on := 25, ground := Go.Ground.guard }], guard := some (25, true) }) (v := ?_) rfl (by kernel_rfl) (by kernel_rfl) (by kernel_rfl) (fun _ _ _ h => h) (Or.inl ⟨by rfl, ?_⟩) (by assumption) ?_
  rotate_left
  · intro w7 hSw
    try dsimp only at hSw
    first | (go_simp; done) | (go_simp; with_reducible rfl)
  try simp only [Act.put, List.setIfInBounds_toArray, List.set_cons_zero, List.set_cons_succ]
  refine wpAnyH_take (i := 35) (oi := { dst := some 110, op := Go.Op.pick (Go.Operand.tmp 100) (Go.Operand.tmp 109) (Go.Operand.const (Go.Value.bool false)), type := 4, pos := "law.go:46", after := #[{ on := 25, ground := Go.Ground.data }, { on := 34, ground := Go.Ground.data }], guard := none }) (v := ?_) rfl (by kernel_rfl) (by kernel_rfl) (by kernel_rfl) (fun _ _ _ h => h) (Or.inl ⟨by rfl, ?_⟩) (by assumption) ?_
  rotate_left
  · intro w7 hSw
    try dsimp only at hSw
    first | (go_simp; done) | (go_simp; with_reducible rfl)
  try simp only [Act.put, List.setIfInBounds_toArray, List.set_cons_zero, List.set_cons_succ]
  refine wpAnyH_take (i := 36) (oi := { dst := some 6, op := Go.Op.assign (Go.Operand.tmp 110), type := 4, pos := "law.go:46", after := #[{ on := 35, ground := Go.Ground.data }, { on := 33, ground := Go.Ground.chain }, { on := 0, ground := Go.Ground.phase }, { on := 1, ground := Go.Ground.phase }, { on := 2, ground := Go.Ground.phase }, { on := 3, ground := Go.Ground.phase }, { on := 4, ground := Go.Ground.phase }, { on := 5, ground := Go.Ground.phase }, { on := 6, ground := Go.Ground.phase }, { on := 7, ground := Go.Ground.phase }, { on := 8, ground := Go.Ground.phase }, { on := 9, ground := Go.Ground.phase }, { on := 10, ground := Go.Ground.phase }, { on := 11, ground := Go.Ground.phase }, { on := 12, ground := Go.Ground.phase }, { on := 13, ground := Go.Ground.phase }, { on := 14, ground := Go.Ground.phase }, { on := 15, ground := Go.Ground.phase }, { on := 16, ground := Go.Ground.phase }, { on := 17, ground := Go.Ground.phase }, { on := 18, ground := Go.Ground.phase }, { on := 19, ground := Go.Ground.phase }, { on := 20, ground := Go.Ground.phase }, { on := 21, ground := Go.Ground.phase }, { on := 22, ground := Go.Ground.phase }, { on := 23, ground := Go.Ground.phase }, { on := 24, ground := Go.Ground.phase }, { on := 25, ground := Go.Ground.phase }, { on := 26, ground := Go.Ground.phase }, { on := 27, ground := Go.Ground.phase }, { on := 28, ground := Go.Ground.phase }, { on := 29, ground := Go.Ground.phase }, { on := 30, ground := Go.Ground.phase }, { on := 31, ground := Go.Ground.phase }, { on := 32, ground := Go.Ground.phase }, { on := 33, ground := Go.Ground.phase }, { on := 34, ground := Go.Ground.phase }, { on := 35, ground := Go.Ground.phase }], guard := none }) (v := ?_) rfl (by kernel_rfl) (by kernel_rfl) (by kernel_rfl) (fun _ _ _ h => h) (Or.inl ⟨by rfl, ?_⟩) (by assumption) ?_
  rotate_left
  · intro w7 hSw
    try dsimp only at hSw
    first | (go_simp; done) | (go_simp; with_reducible rfl)
  try simp only [Act.put, List.setIfInBounds_toArray, List.set_cons_zero, List.set_cons_succ]
  refine wpAnyH_done (by kernel_rfl) ?_ _
  go_wp2
  go_ret
  exact ⟨rfl, ((HK4.out.drew).trans' k7).trans' k8⟩

set_option maxRecDepth 100000 in
set_option maxHeartbeats 4000000 in
theorem asked4_below (b : Nat) (vl : Value) (L : List Pr) (ao_ ac xk xm : Int) (w : World) (h : Sh w b 10 L) (hv : Rd encP 2 w vl L) (hl : L.length ≤ 8796093021951) (hc : -9223372036854775808 ≤ ac ∧ ac ≤ 9223372036854775807) (hz : pickZ ac 8 = 4) (hub : xk ≤ 9223372036854775807) (hin : ¬ 0 ≤ xk) :
    Calls Try.prog 18 #[vA b, vl, .agg #[.int .i64 ao_, .int .i64 ac, .int .i64 xk, .int .i64 xm]] w fun e w' => e = .returned (.bool true) ∧ Keep [] w w' := by
  obtain ⟨ao, cap, rfl, hc1, hc2⟩ := hv.form
  have HV : Hid (Rd encP 2 w (.slice ao L.length cap) L) := hv
  have HS : Hid (Sh w b 10 L) := h
  have HLL : Hid (L.length ≤ 8796093021951) := hl
  have hLz : (L.length : Int) ≤ 8796093021951 := by omega
  have HFi : Hid (∀ w9, Keep [] w w9 → Calls Try.prog 46 #[.slice ao L.length cap, vP ⟨xk, xm⟩] w9 fun e w' => e = .returned (.int .i64 (fnd L xk)) ∧ Keep [] w9 w') := fun w9 kk => rFind_any _ L ⟨xk, xm⟩ w9 (hv.keep kk (Off.nil _)) h.ris (by omega)
  have HPk : Hid (∀ w9, Calls Try.prog 11 #[.int .i64 ac, .int .i64 8] w9 fun e w' => e = .returned (.int .i64 4) ∧ w9 = w') := fun w9 => (pick_any ac 8 hc.1 hc.2 (by omega) w9).mono (fun e w' h => ⟨by rw [h.1, hz], h.2.symm⟩)
  obtain ⟨x0, x1, x2, x3⟩ := box4 (a := ⟨ao_, ac, ⟨xk, xm⟩⟩) (Keep.refl [] (w.alloc (.cells #[.int .i64 ao_, .int .i64 ac, .int .i64 xk, .int .i64 xm] 33)))
  dsimp only at x0 x1 x2 x3
  have HFn : Hid (∀ w9, Sh w9 b 10 L → Calls Try.prog 34 #[vA b, .int .i64 xk] w9 fun e w' => e = .returned (.tuple #[vP ⟨0, 0⟩, .bool false]) ∧ Keep [] w9 w') := fun w9 hs => nth_no b 10 L xk w9 hs (by omega) hub (by omega)
  clear hub
  clear h hv hl hc hz
  go_enter Try.func18, Try.ntmps18
  go_wp2_with fail
  refine (HFi.out _ (Keep.alloc1 _ _)).mono ?_
  clear HFi
  rintro e w2 ⟨rfl, k2⟩
  have HK2 : Hid (Keep [] (w.alloc (.cells #[.int .i64 ao_, .int .i64 ac, .int .i64 xk, .int .i64 xm] 33)) w2) := k2
  clear k2 x0 x1 x2 x3
  obtain ⟨x0, x1, x2, x3⟩ := box4 (a := ⟨ao_, ac, ⟨xk, xm⟩⟩) HK2.out
  dsimp only at x0 x1 x2 x3
  go_wp2_with fail
  refine (HPk.out _).mono ?_
  clear HPk
  rintro e w3 ⟨rfl, rfl⟩
  go_wp2_with fail
  refine (HFn.out _ (HS.out.keep0 ((Keep.alloc1 _ _).trans' HK2.out))).mono ?_
  clear HFn
  rintro e y1 ⟨rfl, j1⟩
  have HK3 : Hid (Keep [] w2 (y1.alloc (.cells #[.int .i64 0, .int .i64 0] 29))) := j1.alloc _
  have HK4 : Hid (Keep [] w (y1.alloc (.cells #[.int .i64 0, .int .i64 0] 29))) := ((Keep.alloc1 _ _).trans' HK2.out).trans' HK3.out
  obtain ⟨⟨z0, z1⟩, _, _⟩ := two_facts (heap_alloc_new y1 (.cells #[.int .i64 0, .int .i64 0] 29))
  have b2 := HK3.out.cell' x2 (by simp)
  have b3 := HK3.out.cell' x3 (by simp)
  go_wp2_with fail
  generalize y1.alloc (.cells #[.int .i64 0, .int .i64 0] 29) = y6 at *
  generalize y1.heap.size = Bq at *
  have HRk : Hid (∀ w9, Keep [] y6 w9 → Calls Try.prog 35 #[vA b, vP ⟨xk, xm⟩] w9 fun e w' => e = .returned (.int .i64 (rnk L xk : Int)) ∧ Keep [] w9 w') := fun w9 kk => shRank_any b 10 L ⟨xk, xm⟩ w9 (HS.out.keep0 (HK4.out.trans' kk)) (by have := HLL.out; omega)
  have HRr : Hid (∀ w9, Keep [] y6 w9 → Calls Try.prog 47 #[.slice ao L.length cap, vP ⟨xk, xm⟩] w9 fun e w' => e = .returned (.int .i64 (rnk L xk : Int)) ∧ Keep [] w9 w') := fun w9 kk => rRank_any _ L ⟨xk, xm⟩ w9 (HV.out.keep (HK4.out.trans' kk) (Off.nil _)) (by have := HLL.out; omega)
  have HCs : Cs [(⟨Bq, 0, none⟩, .int .i64 0), (⟨Bq, 1, none⟩, .int .i64 0), (⟨w.heap.size, 2, none⟩, .int .i64 xk), (⟨w.heap.size, 3, none⟩, .int .i64 xm)] y6 y6 := ⟨z0, z1, b2, b3, Keep.refl _ _⟩
  clear x0 x1 x2 x3 j1 HK3
  refine wp_region_held_drew (S := (fun w' : World => w'.cell? ⟨Bq, 0, none⟩ = some (.int .i64 0) ∧ w'.cell? ⟨Bq, 1, none⟩ = some (.int .i64 0) ∧ w'.cell? ⟨w.heap.size, 2, none⟩ = some (.int .i64 xk) ∧ w'.cell? ⟨w.heap.size, 3, none⟩ = some (.int .i64 xm) ∧ Hid (Keep [] y6 w'))) (by kernel_rfl) (Cs.base (l := [(⟨Bq, 0, none⟩, .int .i64 0), (⟨Bq, 1, none⟩, .int .i64 0), (⟨w.heap.size, 2, none⟩, .int .i64 xk), (⟨w.heap.size, 3, none⟩, .int .i64 xm)]) HCs ((Keep.refl _ _).drew)) (fun hHeld => ?_)
  try dsimp only at hHeld
  refine wpAnyH_take (i := 0) (oi := { dst := some 75, op := Go.Op.move (Go.Operand.tmp 11), type := 4, pos := "law.go:46", after := #[], guard := none }) (v := ?_) rfl (by kernel_rfl) (by kernel_rfl) (by kernel_rfl) (fun _ _ _ h => h) (Or.inl ⟨by rfl, ?_⟩) (by assumption) ?_
  rotate_left
  · intro w7 hSw
    try dsimp only at hSw
    first | (go_simp; done) | (go_simp; with_reducible rfl)
  try simp only [Act.put, List.setIfInBounds_toArray, List.set_cons_zero, List.set_cons_succ]
  refine wpAnyH_take (i := 1) (oi := { dst := some 76, op := Go.Op.move (Go.Operand.tmp 12), type := 4, pos := "law.go:46", after := #[], guard := none }) (v := ?_) rfl (by kernel_rfl) (by kernel_rfl) (by kernel_rfl) (fun _ _ _ h => h) (Or.inl ⟨by rfl, ?_⟩) (by assumption) ?_
  rotate_left
  · intro w7 hSw
    try dsimp only at hSw
    first | (go_simp; done) | (go_simp; with_reducible rfl)
  try simp only [Act.put, List.setIfInBounds_toArray, List.set_cons_zero, List.set_cons_succ]
  refine wpAnyH_take (i := 2) (oi := { dst := some 77, op := Go.Op.binOp Go.BinOp.eql 4 (Go.Operand.tmp 75) (Go.Operand.tmp 76) 4, type := 4, pos := "law.go:46", after := #[{ on := 0, ground := Go.Ground.data }, { on := 1, ground := Go.Ground.data }], guard := none }) (v := ?_) rfl (by kernel_rfl) (by kernel_rfl) (by kernel_rfl) (fun _ _ _ h => h) (Or.inl ⟨by rfl, ?_⟩) (by assumption) ?_
  rotate_left
  · intro w7 hSw
    try dsimp only at hSw
    first | (go_simp; done) | (go_simp; with_reducible rfl)
  try simp only [Act.put, List.setIfInBounds_toArray, List.set_cons_zero, List.set_cons_succ]
  refine wpAnyH_take (i := 3) (oi := { dst := some 78, op := Go.Op.move (Go.Operand.tmp 77), type := 4, pos := "law.go:46", after := #[{ on := 2, ground := Go.Ground.data }], guard := none }) (v := ?_) rfl (by kernel_rfl) (by kernel_rfl) (by kernel_rfl) (fun _ _ _ h => h) (Or.inl ⟨by rfl, ?_⟩) (by assumption) ?_
  rotate_left
  · intro w7 hSw
    try dsimp only at hSw
    first | (go_simp; done) | (go_simp; with_reducible rfl)
  try simp only [Act.put, List.setIfInBounds_toArray, List.set_cons_zero, List.set_cons_succ]
  refine wpAnyH_take (i := 4) (oi := { dst := some 79, op := Go.Op.move (Go.Operand.tmp 11), type := 4, pos := "law.go:46", after := #[{ on := 3, ground := Go.Ground.guard }], guard := some (3, true) }) (v := ?_) rfl (by kernel_rfl) (by kernel_rfl) (by kernel_rfl) (fun _ _ _ h => h) (Or.inl ⟨by rfl, ?_⟩) (by assumption) ?_
  rotate_left
  · intro w7 hSw
    try dsimp only at hSw
    first | (go_simp; done) | (go_simp; with_reducible rfl)
  try simp only [Act.put, List.setIfInBounds_toArray, List.set_cons_zero, List.set_cons_succ]
  refine wpAnyH_take (i := 5) (oi := { dst := some 80, op := Go.Op.move (Go.Operand.tmp 79), type := 4, pos := "law.go:46", after := #[{ on := 4, ground := Go.Ground.data }, { on := 3, ground := Go.Ground.chain }, { on := 3, ground := Go.Ground.guard }], guard := some (3, true) }) (v := ?_) rfl (by kernel_rfl) (by kernel_rfl) (by kernel_rfl) (fun _ _ _ h => h) (Or.inl ⟨by rfl, ?_⟩) (by assumption) ?_
  rotate_left
  · intro w7 hSw
    try dsimp only at hSw
    first | (go_simp; done) | (go_simp; with_reducible rfl)
  try simp only [Act.put, List.setIfInBounds_toArray, List.set_cons_zero, List.set_cons_succ]
  refine wpAnyH_take (i := 6) (oi := { dst := some 81, op := Go.Op.load 29 (Go.Operand.tmp 10), type := 29, pos := "law.go:46", after := #[{ on := 5, ground := Go.Ground.guard }], guard := some (5, true) }) (v := undef) rfl (by kernel_rfl) (by kernel_rfl) (by kernel_rfl) (fun _ _ _ h => h) (Or.inr ⟨by rfl, rfl⟩) (by assumption) ?_
  try simp only [Act.put, List.setIfInBounds_toArray, List.set_cons_zero, List.set_cons_succ]
  refine wpAnyH_take (i := 7) (oi := { dst := some 82, op := Go.Op.move (Go.Operand.tmp 1), type := 25, pos := "law.go:46", after := #[{ on := 5, ground := Go.Ground.guard }], guard := some (5, true) }) (v := undef) rfl (by kernel_rfl) (by kernel_rfl) (by kernel_rfl) (fun _ _ _ h => h) (Or.inr ⟨by rfl, rfl⟩) (by assumption) ?_
  try simp only [Act.put, List.setIfInBounds_toArray, List.set_cons_zero, List.set_cons_succ]
  refine wpAnyH_take (i := 8) (oi := { dst := some 83, op := Go.Op.fieldAddr 33 (Go.Operand.tmp 5) 2, type := 0, pos := "law.go:46", after := #[{ on := 5, ground := Go.Ground.guard }], guard := some (5, true) }) (v := undef) rfl (by kernel_rfl) (by kernel_rfl) (by kernel_rfl) (fun _ _ _ h => h) (Or.inr ⟨by rfl, rfl⟩) (by assumption) ?_
  try simp only [Act.put, List.setIfInBounds_toArray, List.set_cons_zero, List.set_cons_succ]
  refine wpAnyH_take (i := 9) (oi := { dst := some 84, op := Go.Op.fieldAddr 29 (Go.Operand.tmp 83) 0, type := 0, pos := "law.go:46", after := #[{ on := 8, ground := Go.Ground.data }, { on := 5, ground := Go.Ground.guard }], guard := some (5, true) }) (v := undef) rfl (by kernel_rfl) (by kernel_rfl) (by kernel_rfl) (fun _ _ _ h => h) (Or.inr ⟨by rfl, rfl⟩) (by assumption) ?_
  try simp only [Act.put, List.setIfInBounds_toArray, List.set_cons_zero, List.set_cons_succ]
  refine wpAnyH_take (i := 10) (oi := { dst := some 85, op := Go.Op.load 3 (Go.Operand.tmp 84), type := 3, pos := "law.go:46", after := #[{ on := 9, ground := Go.Ground.data }, { on := 5, ground := Go.Ground.guard }], guard := some (5, true) }) (v := undef) rfl (by kernel_rfl) (by kernel_rfl) (by kernel_rfl) (fun _ _ _ h => h) (Or.inr ⟨by rfl, rfl⟩) (by assumption) ?_
  try simp only [Act.put, List.setIfInBounds_toArray, List.set_cons_zero, List.set_cons_succ]
  refine wpAnyH_take (i := 11) (oi := { dst := some 86, op := Go.Op.indexAddr 25 (Go.Operand.tmp 82) (Go.Operand.tmp 85), type := 0, pos := "law.go:46", after := #[{ on := 7, ground := Go.Ground.data }, { on := 10, ground := Go.Ground.data }, { on := 5, ground := Go.Ground.guard }], guard := some (5, true) }) (v := undef) rfl (by kernel_rfl) (by kernel_rfl) (by kernel_rfl) (fun _ _ _ h => h) (Or.inr ⟨by rfl, rfl⟩) (by assumption) ?_
  try simp only [Act.put, List.setIfInBounds_toArray, List.set_cons_zero, List.set_cons_succ]
  refine wpAnyH_take (i := 12) (oi := { dst := some 87, op := Go.Op.load 29 (Go.Operand.tmp 86), type := 29, pos := "law.go:46", after := #[{ on := 11, ground := Go.Ground.data }, { on := 5, ground := Go.Ground.guard }], guard := some (5, true) }) (v := undef) rfl (by kernel_rfl) (by kernel_rfl) (by kernel_rfl) (fun _ _ _ h => h) (Or.inr ⟨by rfl, rfl⟩) (by assumption) ?_
  try simp only [Act.put, List.setIfInBounds_toArray, List.set_cons_zero, List.set_cons_succ]
  refine wpAnyH_take (i := 13) (oi := { dst := some 88, op := Go.Op.binOp Go.BinOp.eql 29 (Go.Operand.tmp 81) (Go.Operand.tmp 87) 29, type := 4, pos := "law.go:46", after := #[{ on := 6, ground := Go.Ground.data }, { on := 12, ground := Go.Ground.data }, { on := 5, ground := Go.Ground.guard }], guard := some (5, true) }) (v := undef) rfl (by kernel_rfl) (by kernel_rfl) (by kernel_rfl) (fun _ _ _ h => h) (Or.inr ⟨by rfl, rfl⟩) (by assumption) ?_
  try simp only [Act.put, List.setIfInBounds_toArray, List.set_cons_zero, List.set_cons_succ]
  refine wpAnyH_take (i := 14) (oi := { dst := some 89, op := Go.Op.pick (Go.Operand.tmp 80) (Go.Operand.tmp 88) (Go.Operand.const (Go.Value.bool false)), type := 4, pos := "law.go:46", after := #[{ on := 5, ground := Go.Ground.data }, { on := 13, ground := Go.Ground.data }, { on := 3, ground := Go.Ground.guard }], guard := some (3, true) }) (v := ?_) rfl (by kernel_rfl) (by kernel_rfl) (by kernel_rfl) (fun _ _ _ h => h) (Or.inl ⟨by rfl, ?_⟩) (by assumption) ?_
  rotate_left
  · intro w7 hSw
    try dsimp only at hSw
    first | (go_simp; done) | (go_simp; with_reducible rfl)
  try simp only [Act.put, List.setIfInBounds_toArray, List.set_cons_zero, List.set_cons_succ]
  refine wpAnyH_take (i := 15) (oi := { dst := some 90, op := Go.Op.move (Go.Operand.tmp 89), type := 4, pos := "law.go:46", after := #[{ on := 14, ground := Go.Ground.data }, { on := 5, ground := Go.Ground.chain }, { on := 3, ground := Go.Ground.guard }], guard := some (3, true) }) (v := ?_) rfl (by kernel_rfl) (by kernel_rfl) (by kernel_rfl) (fun _ _ _ h => h) (Or.inl ⟨by rfl, ?_⟩) (by assumption) ?_
  rotate_left
  · intro w7 hSw
    try dsimp only at hSw
    first | (go_simp; done) | (go_simp; with_reducible rfl)
  try simp only [Act.put, List.setIfInBounds_toArray, List.set_cons_zero, List.set_cons_succ]
  refine wpAnyH_take (i := 16) (oi := { dst := some 91, op := Go.Op.move (Go.Operand.tmp 11), type := 4, pos := "law.go:46", after := #[{ on := 15, ground := Go.Ground.guard }], guard := some (15, false) }) (v := ?_) rfl (by kernel_rfl) (by kernel_rfl) (by kernel_rfl) (fun _ _ _ h => h) (Or.inl ⟨by rfl, ?_⟩) (by assumption) ?_
  rotate_left
  · intro w7 hSw
    try dsimp only at hSw
    first | (go_simp; done) | (go_simp; with_reducible rfl)
  try simp only [Act.put, List.setIfInBounds_toArray, List.set_cons_zero, List.set_cons_succ]
  refine wpAnyH_take (i := 17) (oi := { dst := some 92, op := Go.Op.unOp Go.UnOp.not 4 (Go.Operand.tmp 91), type := 4, pos := "law.go:46", after := #[{ on := 16, ground := Go.Ground.data }, { on := 15, ground := Go.Ground.guard }], guard := some (15, false) }) (v := ?_) rfl (by kernel_rfl) (by kernel_rfl) (by kernel_rfl) (fun _ _ _ h => h) (Or.inl ⟨by rfl, ?_⟩) (by assumption) ?_
  rotate_left
  · intro w7 hSw
    try dsimp only at hSw
    first | (go_simp; done) | (go_simp; with_reducible rfl)
  try simp only [Act.put, List.setIfInBounds_toArray, List.set_cons_zero, List.set_cons_succ]
  refine wpAnyH_take (i := 18) (oi := { dst := some 93, op := Go.Op.move (Go.Operand.tmp 92), type := 4, pos := "law.go:46", after := #[{ on := 17, ground := Go.Ground.data }, { on := 15, ground := Go.Ground.chain }, { on := 15, ground := Go.Ground.guard }], guard := some (15, false) }) (v := ?_) rfl (by kernel_rfl) (by kernel_rfl) (by kernel_rfl) (fun _ _ _ h => h) (Or.inl ⟨by rfl, ?_⟩) (by assumption) ?_
  rotate_left
  · intro w7 hSw
    try dsimp only at hSw
    first | (go_simp; done) | (go_simp; with_reducible rfl)
  try simp only [Act.put, List.setIfInBounds_toArray, List.set_cons_zero, List.set_cons_succ]
  refine wpAnyH_take (i := 19) (oi := { dst := some 94, op := Go.Op.load 29 (Go.Operand.tmp 10), type := 29, pos := "law.go:46", after := #[{ on := 18, ground := Go.Ground.guard }], guard := some (18, true) }) (v := ?_) rfl (by kernel_rfl) (by kernel_rfl) (by kernel_rfl) (fun _ _ _ h => h) (Or.inl ⟨by rfl, ?_⟩) (by assumption) ?_
  rotate_left
  · intro w7 hSw
    try dsimp only at hSw
    first | (go_simp; done) | (go_simp; with_reducible rfl)
  try simp only [Act.put, List.setIfInBounds_toArray, List.set_cons_zero, List.set_cons_succ]
  refine wpAnyH_take (i := 20) (oi := { dst := some 95, op := Go.Op.build 29 #[], type := 29, pos := "law.go:46", after := #[{ on := 18, ground := Go.Ground.guard }], guard := some (18, true) }) (v := ?_) rfl (by kernel_rfl) (by kernel_rfl) (by kernel_rfl) (fun _ _ _ h => h) (Or.inl ⟨by rfl, ?_⟩) (by assumption) ?_
  rotate_left
  · intro w7 hSw
    try dsimp only at hSw
    first | (go_simp; done) | (go_simp; with_reducible rfl)
  try simp only [Act.put, List.setIfInBounds_toArray, List.set_cons_zero, List.set_cons_succ]
  refine wpAnyH_take (i := 21) (oi := { dst := some 96, op := Go.Op.binOp Go.BinOp.eql 29 (Go.Operand.tmp 94) (Go.Operand.tmp 95) 29, type := 4, pos := "law.go:46", after := #[{ on := 19, ground := Go.Ground.data }, { on := 20, ground := Go.Ground.data }, { on := 18, ground := Go.Ground.guard }], guard := some (18, true) }) (v := ?_) rfl (by kernel_rfl) (by kernel_rfl) (by kernel_rfl) (fun _ _ _ h => h) (Or.inl ⟨by rfl, ?_⟩) (by assumption) ?_
  rotate_left
  · intro w7 hSw
    try dsimp only at hSw
    first | (go_simp; done) | (go_simp; with_reducible rfl)
  try simp only [Act.put, List.setIfInBounds_toArray, List.set_cons_zero, List.set_cons_succ]
  refine wpAnyH_take (i := 22) (oi := { dst := some 97, op := Go.Op.pick (Go.Operand.tmp 93) (Go.Operand.tmp 96) (Go.Operand.const (Go.Value.bool false)), type := 4, pos := "law.go:46", after := #[{ on := 18, ground := Go.Ground.data }, { on := 21, ground := Go.Ground.data }, { on := 15, ground := Go.Ground.guard }], guard := some (15, false) }) (v := ?_) rfl (by kernel_rfl) (by kernel_rfl) (by kernel_rfl) (fun _ _ _ h => h) (Or.inl ⟨by rfl, ?_⟩) (by assumption) ?_
  rotate_left
  · intro w7 hSw
    try dsimp only at hSw
    first | (go_simp; done) | (go_simp; with_reducible rfl)
  try simp only [Act.put, List.setIfInBounds_toArray, List.set_cons_zero, List.set_cons_succ]
  refine wpAnyH_take (i := 23) (oi := { dst := some 98, op := Go.Op.pick (Go.Operand.tmp 90) (Go.Operand.const (Go.Value.bool true)) (Go.Operand.tmp 97), type := 4, pos := "law.go:46", after := #[{ on := 15, ground := Go.Ground.data }, { on := 22, ground := Go.Ground.data }, { on := 3, ground := Go.Ground.guard }], guard := some (3, true) }) (v := ?_) rfl (by kernel_rfl) (by kernel_rfl) (by kernel_rfl) (fun _ _ _ h => h) (Or.inl ⟨by rfl, ?_⟩) (by assumption) ?_
  rotate_left
  · intro w7 hSw
    try dsimp only at hSw
    first | (go_simp; done) | (go_simp; with_reducible rfl)
  try simp only [Act.put, List.setIfInBounds_toArray, List.set_cons_zero, List.set_cons_succ]
  refine wpAnyH_take (i := 24) (oi := { dst := some 99, op := Go.Op.pick (Go.Operand.tmp 78) (Go.Operand.tmp 98) (Go.Operand.const (Go.Value.bool false)), type := 4, pos := "law.go:46", after := #[{ on := 3, ground := Go.Ground.data }, { on := 23, ground := Go.Ground.data }], guard := none }) (v := ?_) rfl (by kernel_rfl) (by kernel_rfl) (by kernel_rfl) (fun _ _ _ h => h) (Or.inl ⟨by rfl, ?_⟩) (by assumption) ?_
  rotate_left
  · intro w7 hSw
    try dsimp only at hSw
    first | (go_simp; done) | (go_simp; with_reducible rfl)
  try simp only [Act.put, List.setIfInBounds_toArray, List.set_cons_zero, List.set_cons_succ]
  refine wpAnyH_take (i := 25) (oi := { dst := some 100, op := Go.Op.move (Go.Operand.tmp 99), type := 4, pos := "law.go:46", after := #[{ on := 24, ground := Go.Ground.data }, { on := 18, ground := Go.Ground.chain }], guard := none }) (v := ?_) rfl (by kernel_rfl) (by kernel_rfl) (by kernel_rfl) (fun _ _ _ h => h) (Or.inl ⟨by rfl, ?_⟩) (by assumption) ?_
  rotate_left
  · intro w7 hSw
    try dsimp only at hSw
    first | (go_simp; done) | (go_simp; with_reducible rfl)
  try simp only [Act.put, List.setIfInBounds_toArray, List.set_cons_zero, List.set_cons_succ]
  refine wpAnyH_take (i := 26) (oi := { dst := some 101, op := Go.Op.move (Go.Operand.tmp 0), type := 23, pos := "law.go:46", after := #[{ on := 25, ground := Go.Ground.guard }], guard := some (25, true) }) (v := ?_) rfl (by kernel_rfl) (by kernel_rfl) (by kernel_rfl) (fun _ _ _ h => h) (Or.inl ⟨by rfl, ?_⟩) (by assumption) ?_
  rotate_left
  · intro w7 hSw
    try dsimp only at hSw
    first | (go_simp; done) | (go_simp; with_reducible rfl)
  try simp only [Act.put, List.setIfInBounds_toArray, List.set_cons_zero, List.set_cons_succ]
  refine wpAnyH_take (i := 27) (oi := { dst := some 102, op := Go.Op.fieldAddr 33 (Go.Operand.tmp 5) 2, type := 0, pos := "law.go:46", after := #[{ on := 25, ground := Go.Ground.guard }], guard := some (25, true) }) (v := ?_) rfl (by kernel_rfl) (by kernel_rfl) (by kernel_rfl) (fun _ _ _ h => h) (Or.inl ⟨by rfl, ?_⟩) (by assumption) ?_
  rotate_left
  · intro w7 hSw
    try dsimp only at hSw
    first | (go_simp; done) | (go_simp; with_reducible rfl)
  try simp only [Act.put, List.setIfInBounds_toArray, List.set_cons_zero, List.set_cons_succ]
  refine wpAnyH_take (i := 28) (oi := { dst := some 103, op := Go.Op.load 29 (Go.Operand.tmp 102), type := 29, pos := "law.go:46", after := #[{ on := 27, ground := Go.Ground.data }, { on := 25, ground := Go.Ground.guard }], guard := some (25, true) }) (v := ?_) rfl (by kernel_rfl) (by kernel_rfl) (by kernel_rfl) (fun _ _ _ h => h) (Or.inl ⟨by rfl, ?_⟩) (by assumption) ?_
  rotate_left
  · intro w7 hSw
    try dsimp only at hSw
    first | (go_simp; done) | (go_simp; with_reducible rfl)
  try simp only [Act.put, List.setIfInBounds_toArray, List.set_cons_zero, List.set_cons_succ]
  refine wpAnyH_take (i := 30) (oi := { dst := some 105, op := Go.Op.move (Go.Operand.tmp 1), type := 25, pos := "law.go:46", after := #[{ on := 25, ground := Go.Ground.guard }], guard := some (25, true) }) (v := ?_) rfl (by kernel_rfl) (by kernel_rfl) (by kernel_rfl) (fun _ _ _ h => h) (Or.inl ⟨by rfl, ?_⟩) (by assumption) ?_
  rotate_left
  · intro w7 hSw
    try dsimp only at hSw
    first | (go_simp; done) | (go_simp; with_reducible rfl)
  try simp only [Act.put, List.setIfInBounds_toArray, List.set_cons_zero, List.set_cons_succ]
  refine wpAnyH_take (i := 31) (oi := { dst := some 106, op := Go.Op.fieldAddr 33 (Go.Operand.tmp 5) 2, type := 0, pos := "law.go:46", after := #[{ on := 25, ground := Go.Ground.guard }], guard := some (25, true) }) (v := ?_) rfl (by kernel_rfl) (by kernel_rfl) (by kernel_rfl) (fun _ _ _ h => h) (Or.inl ⟨by rfl, ?_⟩) (by assumption) ?_
  rotate_left
  · intro w7 hSw
    try dsimp only at hSw
    first | (go_simp; done) | (go_simp; with_reducible rfl)
  try simp only [Act.put, List.setIfInBounds_toArray, List.set_cons_zero, List.set_cons_succ]
  refine wpAnyH_take (i := 32) (oi := { dst := some 107, op := Go.Op.load 29 (Go.Operand.tmp 106), type := 29, pos := "law.go:46", after := #[{ on := 31, ground := Go.Ground.data }, { on := 25, ground := Go.Ground.guard }], guard := some (25, true) }) (v := ?_) rfl (by kernel_rfl) (by kernel_rfl) (by kernel_rfl) (fun _ _ _ h => h) (Or.inl ⟨by rfl, ?_⟩) (by assumption) ?_
  rotate_left
  · intro w7 hSw
    try dsimp only at hSw
    first | (go_simp; done) | (go_simp; with_reducible rfl)
  try simp only [Act.put, List.setIfInBounds_toArray, List.set_cons_zero, List.set_cons_succ]
  refine wpAnyH_ready (rs := [29]) (by kernel_rfl) (by simp) ?_
  refine AllReadyH.cons (o := { dst := some 104, op := Go.Op.call { callee := Go.Callee.value (Go.Operand.func 35), args := #[Go.Operand.tmp 101, Go.Operand.tmp 103], argTypes := #[23, 29] }, type := 3, pos := "law.go:46", after := #[{ on := 26, ground := Go.Ground.data }, { on := 28, ground := Go.Ground.data }, { on := 25, ground := Go.Ground.chain }, { on := 25, ground := Go.Ground.guard }], guard := some (25, true) }) rfl (fun K hK => ?_) AllReadyH.nil
  go_simp
  (go_at_call 35; refine (HRk.out _ ((Keep.refl [] _).drew)).mono ?_; clear HRk; rintro e w7 ⟨rfl, k7⟩)
  go_wp2_with fail
  refine hK.out _ _ (Cs.base (l := [(⟨Bq, 0, none⟩, .int .i64 0), (⟨Bq, 1, none⟩, .int .i64 0), (⟨w.heap.size, 2, none⟩, .int .i64 xk), (⟨w.heap.size, 3, none⟩, .int .i64 xm)]) HCs ((Keep.refl _ _).drew.trans' k7)) (fun hHeld2 => ?_)
  try dsimp only at hHeld2
  clear hK hHeld
  have hHeld := hHeld2
  clear hHeld2
  try simp only [Act.put, List.setIfInBounds_toArray, List.set_cons_zero, List.set_cons_succ]
  refine wpAnyH_ready (rs := [33]) (by kernel_rfl) (by simp) ?_
  refine AllReadyH.cons (o := { dst := some 108, op := Go.Op.call { callee := Go.Callee.value (Go.Operand.func 47), args := #[Go.Operand.tmp 105, Go.Operand.tmp 107], argTypes := #[25, 29] }, type := 3, pos := "law.go:46", after := #[{ on := 30, ground := Go.Ground.data }, { on := 32, ground := Go.Ground.data }, { on := 29, ground := Go.Ground.chain }, { on := 25, ground := Go.Ground.guard }], guard := some (25, true) }) rfl (fun K hK => ?_) AllReadyH.nil
  go_simp
  (go_at_call 47; refine (HRr.out _ ((Keep.refl [] _).drew.trans' k7)).mono ?_; clear HRr; rintro e w8 ⟨rfl, k8⟩)
  go_wp2_with fail
  refine hK.out _ _ (Cs.base (l := [(⟨Bq, 0, none⟩, .int .i64 0), (⟨Bq, 1, none⟩, .int .i64 0), (⟨w.heap.size, 2, none⟩, .int .i64 xk), (⟨w.heap.size, 3, none⟩, .int .i64 xm)]) HCs (((Keep.refl _ _).drew.trans' k7).trans' k8)) (fun hHeld2 => ?_)
  try dsimp only at hHeld2
  clear hK hHeld
  have hHeld := hHeld2
  clear hHeld2
  try simp only [Act.put, List.setIfInBounds_toArray, List.set_cons_zero, List.set_cons_succ]
  refine wpAnyH_take (i := 34) (oi := { dst := some 109, op := Go.Op.binOp Go.BinOp.eql 3 (Go.Operand.tmp 104) (Go.Operand.tmp 108) 3, type := 4, pos := "law.go:46", after := #[{ on := 29, ground := Go.Ground.data }, { on := 33, ground := Go.Ground.data }, { on := 25, ground := Go.Ground.guard }], guard := some (25, true) }) (v := ?_) rfl (by kernel_rfl) (by kernel_rfl) (by kernel_rfl) (fun _ _ _ h => h) (Or.inl ⟨by rfl, ?_⟩) (by assumption) ?_
  rotate_left
  · intro w7 hSw
    try dsimp only at hSw
    first | (go_simp; done) | (go_simp; with_reducible rfl)
  try simp only [Act.put, List.setIfInBounds_toArray, List.set_cons_zero, List.set_cons_succ]
  refine wpAnyH_take (i := 35) (oi := { dst := some 110, op := Go.Op.pick (Go.Operand.tmp 100) (Go.Operand.tmp 109) (Go.Operand.const (Go.Value.bool false)), type := 4, pos := "law.go:46", after := #[{ on := 25, ground := Go.Ground.data }, { on := 34, ground := Go.Ground.data }], guard := none }) (v := ?_) rfl (by kernel_rfl) (by kernel_rfl) (by kernel_rfl) (fun _ _ _ h => h) (Or.inl ⟨by rfl, ?_⟩) (by assumption) ?_
  rotate_left
  · intro w7 hSw
    try dsimp only at hSw
    first | (go_simp; done) | (go_simp; with_reducible rfl)
  try simp only [Act.put, List.setIfInBounds_toArray, List.set_cons_zero, List.set_cons_succ]
  refine wpAnyH_take (i := 36) (oi := { dst := some 6, op := Go.Op.assign (Go.Operand.tmp 110), type := 4, pos := "law.go:46", after := #[{ on := 35, ground := Go.Ground.data }, { on := 33, ground := Go.Ground.chain }, { on := 0, ground := Go.Ground.phase }, { on := 1, ground := Go.Ground.phase }, { on := 2, ground := Go.Ground.phase }, { on := 3, ground := Go.Ground.phase }, { on := 4, ground := Go.Ground.phase }, { on := 5, ground := Go.Ground.phase }, { on := 6, ground := Go.Ground.phase }, { on := 7, ground := Go.Ground.phase }, { on := 8, ground := Go.Ground.phase }, { on := 9, ground := Go.Ground.phase }, { on := 10, ground := Go.Ground.phase }, { on := 11, ground := Go.Ground.phase }, { on := 12, ground := Go.Ground.phase }, { on := 13, ground := Go.Ground.phase }, { on := 14, ground := Go.Ground.phase }, { on := 15, ground := Go.Ground.phase }, { on := 16, ground := Go.Ground.phase }, { on := 17, ground := Go.Ground.phase }, { on := 18, ground := Go.Ground.phase }, { on := 19, ground := Go.Ground.phase }, { on := 20, ground := Go.Ground.phase }, { on := 21, ground := Go.Ground.phase }, { on := 22, ground := Go.Ground.phase }, { on := 23, ground := Go.Ground.phase }, { on := 24, ground := Go.Ground.phase }, { on := 25, ground := Go.Ground.phase }, { on := 26, ground := Go.Ground.phase }, { on := 27, ground := Go.Ground.phase }, { on := 28, ground := Go.Ground.phase }, { on := 29, ground := Go.Ground.phase }, { on := 30, ground := Go.Ground.phase }, { on := 31, ground := Go.Ground.phase }, { on := 32, ground := Go.Ground.phase }, { on := 33, ground := Go.Ground.phase }, { on := 34, ground := Go.Ground.phase }, { on := 35, ground := Go.Ground.phase }], guard := none }) (v := ?_) rfl (by kernel_rfl) (by kernel_rfl) (by kernel_rfl) (fun _ _ _ h => h) (Or.inl ⟨by rfl, ?_⟩) (by assumption) ?_
  rotate_left
  · intro w7 hSw
    try dsimp only at hSw
    first | (go_simp; done) | (go_simp; with_reducible rfl)
  try simp only [Act.put, List.setIfInBounds_toArray, List.set_cons_zero, List.set_cons_succ]
  refine wpAnyH_done (by kernel_rfl) ?_ _
  go_wp2
  go_ret
  exact ⟨rfl, ((HK4.out.drew).trans' k7).trans' k8⟩

set_option maxRecDepth 100000 in
set_option maxHeartbeats 4000000 in
theorem asked4_over (b : Nat) (vl : Value) (L : List Pr) (ao_ ac xm : Int) (n : Nat) (w : World) (h : Sh w b 10 L) (hv : Rd encP 2 w vl L) (hl : L.length ≤ 8796093021951) (hc : -9223372036854775808 ≤ ac ∧ ac ≤ 9223372036854775807) (hz : pickZ ac 8 = 4) (hub : (n : Int) ≤ 9223372036854775807) (hin : L.length ≤ n) :
    Calls Try.prog 18 #[vA b, vl, .agg #[.int .i64 ao_, .int .i64 ac, .int .i64 (n : Int), .int .i64 xm]] w fun e w' => e = .returned (.bool true) ∧ Keep [] w w' := by
  obtain ⟨ao, cap, rfl, hc1, hc2⟩ := hv.form
  have HV : Hid (Rd encP 2 w (.slice ao L.length cap) L) := hv
  have HS : Hid (Sh w b 10 L) := h
  have HLL : Hid (L.length ≤ 8796093021951) := hl
  have hLz : (L.length : Int) ≤ 8796093021951 := by omega
  have HFi : Hid (∀ w9, Keep [] w w9 → Calls Try.prog 46 #[.slice ao L.length cap, vP ⟨(n : Int), xm⟩] w9 fun e w' => e = .returned (.int .i64 (fnd L (n : Int))) ∧ Keep [] w9 w') := fun w9 kk => rFind_any _ L ⟨(n : Int), xm⟩ w9 (hv.keep kk (Off.nil _)) h.ris (by omega)
  have HPk : Hid (∀ w9, Calls Try.prog 11 #[.int .i64 ac, .int .i64 8] w9 fun e w' => e = .returned (.int .i64 4) ∧ w9 = w') := fun w9 => (pick_any ac 8 hc.1 hc.2 (by omega) w9).mono (fun e w' h => ⟨by rw [h.1, hz], h.2.symm⟩)
  obtain ⟨x0, x1, x2, x3⟩ := box4 (a := ⟨ao_, ac, ⟨(n : Int), xm⟩⟩) (Keep.refl [] (w.alloc (.cells #[.int .i64 ao_, .int .i64 ac, .int .i64 (n : Int), .int .i64 xm] 33)))
  dsimp only at x0 x1 x2 x3
  have HFn : Hid (∀ w9, Sh w9 b 10 L → Calls Try.prog 34 #[vA b, .int .i64 (n : Int)] w9 fun e w' => e = .returned (.tuple #[vP ⟨0, 0⟩, .bool false]) ∧ Keep [] w9 w') := fun w9 hs => nth_no b 10 L (n : Int) w9 hs (by omega) hub (by omega)
  have hn0 : (0 : Int) ≤ (n : Int) := by omega
  have hn2 : decide ((n : Int) < (L.length : Int)) = false := decide_eq_false (by omega)
  have hn3 : decide (n < L.length) = false := decide_eq_false (by omega)
  have hn4 : ¬ n < L.length := by omega
  clear hub
  clear h hv hl hc hz
  go_enter Try.func18, Try.ntmps18
  go_wp2_with fail
  refine (HFi.out _ (Keep.alloc1 _ _)).mono ?_
  clear HFi
  rintro e w2 ⟨rfl, k2⟩
  have HK2 : Hid (Keep [] (w.alloc (.cells #[.int .i64 ao_, .int .i64 ac, .int .i64 (n : Int), .int .i64 xm] 33)) w2) := k2
  clear k2 x0 x1 x2 x3
  obtain ⟨x0, x1, x2, x3⟩ := box4 (a := ⟨ao_, ac, ⟨(n : Int), xm⟩⟩) HK2.out
  dsimp only at x0 x1 x2 x3
  go_wp2_with fail
  refine (HPk.out _).mono ?_
  clear HPk
  rintro e w3 ⟨rfl, rfl⟩
  go_wp2_with fail
  refine (HFn.out _ (HS.out.keep0 ((Keep.alloc1 _ _).trans' HK2.out))).mono ?_
  clear HFn
  rintro e y1 ⟨rfl, j1⟩
  have HK3 : Hid (Keep [] w2 (y1.alloc (.cells #[.int .i64 0, .int .i64 0] 29))) := j1.alloc _
  have HK4 : Hid (Keep [] w (y1.alloc (.cells #[.int .i64 0, .int .i64 0] 29))) := ((Keep.alloc1 _ _).trans' HK2.out).trans' HK3.out
  obtain ⟨⟨z0, z1⟩, _, _⟩ := two_facts (heap_alloc_new y1 (.cells #[.int .i64 0, .int .i64 0] 29))
  have b2 := HK3.out.cell' x2 (by simp)
  have b3 := HK3.out.cell' x3 (by simp)
  go_wp2_with fail
  generalize y1.alloc (.cells #[.int .i64 0, .int .i64 0] 29) = y6 at *
  generalize y1.heap.size = Bq at *
  have HRk : Hid (∀ w9, Keep [] y6 w9 → Calls Try.prog 35 #[vA b, vP ⟨(n : Int), xm⟩] w9 fun e w' => e = .returned (.int .i64 (rnk L (n : Int) : Int)) ∧ Keep [] w9 w') := fun w9 kk => shRank_any b 10 L ⟨(n : Int), xm⟩ w9 (HS.out.keep0 (HK4.out.trans' kk)) (by have := HLL.out; omega)
  have HRr : Hid (∀ w9, Keep [] y6 w9 → Calls Try.prog 47 #[.slice ao L.length cap, vP ⟨(n : Int), xm⟩] w9 fun e w' => e = .returned (.int .i64 (rnk L (n : Int) : Int)) ∧ Keep [] w9 w') := fun w9 kk => rRank_any _ L ⟨(n : Int), xm⟩ w9 (HV.out.keep (HK4.out.trans' kk) (Off.nil _)) (by have := HLL.out; omega)
  have HCs : Cs [(⟨Bq, 0, none⟩, .int .i64 0), (⟨Bq, 1, none⟩, .int .i64 0), (⟨w.heap.size, 2, none⟩, .int .i64 (n : Int)), (⟨w.heap.size, 3, none⟩, .int .i64 xm)] y6 y6 := ⟨z0, z1, b2, b3, Keep.refl _ _⟩
  clear x0 x1 x2 x3 j1 HK3
  refine wp_region_held_drew (S := (fun w' : World => w'.cell? ⟨Bq, 0, none⟩ = some (.int .i64 0) ∧ w'.cell? ⟨Bq, 1, none⟩ = some (.int .i64 0) ∧ w'.cell? ⟨w.heap.size, 2, none⟩ = some (.int .i64 (n : Int)) ∧ w'.cell? ⟨w.heap.size, 3, none⟩ = some (.int .i64 xm) ∧ Hid (Keep [] y6 w'))) (by kernel_rfl) (Cs.base (l := [(⟨Bq, 0, none⟩, .int .i64 0), (⟨Bq, 1, none⟩, .int .i64 0), (⟨w.heap.size, 2, none⟩, .int .i64 (n : Int)), (⟨w.heap.size, 3, none⟩, .int .i64 xm)]) HCs ((Keep.refl _ _).drew)) (fun hHeld => ?_)
  try dsimp only at hHeld
  refine wpAnyH_take (i := 0) (oi := { dst := some 75, op := Go.Op.move (Go.Operand.tmp 11), type := 4, pos := "law.go:46", after := #[], guard := none }) (v := ?_) rfl (by kernel_rfl) (by kernel_rfl) (by kernel_rfl) (fun _ _ _ h => h) (Or.inl ⟨by rfl, ?_⟩) (by assumption) ?_
  rotate_left
  · intro w7 hSw
    try dsimp only at hSw
    first | (go_simp; done) | (go_simp; with_reducible rfl)
  try simp only [Act.put, List.setIfInBounds_toArray, List.set_cons_zero, List.set_cons_succ]
  refine wpAnyH_take (i := 1) (oi := { dst := some 76, op := Go.Op.move (Go.Operand.tmp 12), type := 4, pos := "law.go:46", after := #[], guard := none }) (v := ?_) rfl (by kernel_rfl) (by kernel_rfl) (by kernel_rfl) (fun _ _ _ h => h) (Or.inl ⟨by rfl, ?_⟩) (by assumption) ?_
  rotate_left
  · intro w7 hSw
    try dsimp only at hSw
    first | (go_simp; done) | (go_simp; with_reducible rfl)
  try simp only [Act.put, List.setIfInBounds_toArray, List.set_cons_zero, List.set_cons_succ]
  refine wpAnyH_take (i := 2) (oi := { dst := some 77, op := Go.Op.binOp Go.BinOp.eql 4 (Go.Operand.tmp 75) (Go.Operand.tmp 76) 4, type := 4, pos := "law.go:46", after := #[{ on := 0, ground := Go.Ground.data }, { on := 1, ground := Go.Ground.data }], guard := none }) (v := ?_) rfl (by kernel_rfl) (by kernel_rfl) (by kernel_rfl) (fun _ _ _ h => h) (Or.inl ⟨by rfl, ?_⟩) (by assumption) ?_
  rotate_left
  · intro w7 hSw
    try dsimp only at hSw
    first | (go_simp; done) | (go_simp; with_reducible rfl)
  try simp only [Act.put, List.setIfInBounds_toArray, List.set_cons_zero, List.set_cons_succ]
  refine wpAnyH_take (i := 3) (oi := { dst := some 78, op := Go.Op.move (Go.Operand.tmp 77), type := 4, pos := "law.go:46", after := #[{ on := 2, ground := Go.Ground.data }], guard := none }) (v := ?_) rfl (by kernel_rfl) (by kernel_rfl) (by kernel_rfl) (fun _ _ _ h => h) (Or.inl ⟨by rfl, ?_⟩) (by assumption) ?_
  rotate_left
  · intro w7 hSw
    try dsimp only at hSw
    first | (go_simp; done) | (go_simp; with_reducible rfl)
  try simp only [Act.put, List.setIfInBounds_toArray, List.set_cons_zero, List.set_cons_succ]
  refine wpAnyH_take (i := 4) (oi := { dst := some 79, op := Go.Op.move (Go.Operand.tmp 11), type := 4, pos := "law.go:46", after := #[{ on := 3, ground := Go.Ground.guard }], guard := some (3, true) }) (v := ?_) rfl (by kernel_rfl) (by kernel_rfl) (by kernel_rfl) (fun _ _ _ h => h) (Or.inl ⟨by rfl, ?_⟩) (by assumption) ?_
  rotate_left
  · intro w7 hSw
    try dsimp only at hSw
    first | (go_simp; done) | (go_simp; with_reducible rfl)
  try simp only [Act.put, List.setIfInBounds_toArray, List.set_cons_zero, List.set_cons_succ]
  refine wpAnyH_take (i := 5) (oi := { dst := some 80, op := Go.Op.move (Go.Operand.tmp 79), type := 4, pos := "law.go:46", after := #[{ on := 4, ground := Go.Ground.data }, { on := 3, ground := Go.Ground.chain }, { on := 3, ground := Go.Ground.guard }], guard := some (3, true) }) (v := ?_) rfl (by kernel_rfl) (by kernel_rfl) (by kernel_rfl) (fun _ _ _ h => h) (Or.inl ⟨by rfl, ?_⟩) (by assumption) ?_
  rotate_left
  · intro w7 hSw
    try dsimp only at hSw
    first | (go_simp; done) | (go_simp; with_reducible rfl)
  try simp only [Act.put, List.setIfInBounds_toArray, List.set_cons_zero, List.set_cons_succ]
  refine wpAnyH_take (i := 6) (oi := { dst := some 81, op := Go.Op.load 29 (Go.Operand.tmp 10), type := 29, pos := "law.go:46", after := #[{ on := 5, ground := Go.Ground.guard }], guard := some (5, true) }) (v := undef) rfl (by kernel_rfl) (by kernel_rfl) (by kernel_rfl) (fun _ _ _ h => h) (Or.inr ⟨by rfl, rfl⟩) (by assumption) ?_
  try simp only [Act.put, List.setIfInBounds_toArray, List.set_cons_zero, List.set_cons_succ]
  refine wpAnyH_take (i := 7) (oi := { dst := some 82, op := Go.Op.move (Go.Operand.tmp 1), type := 25, pos := "law.go:46", after := #[{ on := 5, ground := Go.Ground.guard }], guard := some (5, true) }) (v := undef) rfl (by kernel_rfl) (by kernel_rfl) (by kernel_rfl) (fun _ _ _ h => h) (Or.inr ⟨by rfl, rfl⟩) (by assumption) ?_
  try simp only [Act.put, List.setIfInBounds_toArray, List.set_cons_zero, List.set_cons_succ]
  refine wpAnyH_take (i := 8) (oi := { dst := some 83, op := Go.Op.fieldAddr 33 (Go.Operand.tmp 5) 2, type := 0, pos := "law.go:46", after := #[{ on := 5, ground := Go.Ground.guard }], guard := some (5, true) }) (v := undef) rfl (by kernel_rfl) (by kernel_rfl) (by kernel_rfl) (fun _ _ _ h => h) (Or.inr ⟨by rfl, rfl⟩) (by assumption) ?_
  try simp only [Act.put, List.setIfInBounds_toArray, List.set_cons_zero, List.set_cons_succ]
  refine wpAnyH_take (i := 9) (oi := { dst := some 84, op := Go.Op.fieldAddr 29 (Go.Operand.tmp 83) 0, type := 0, pos := "law.go:46", after := #[{ on := 8, ground := Go.Ground.data }, { on := 5, ground := Go.Ground.guard }], guard := some (5, true) }) (v := undef) rfl (by kernel_rfl) (by kernel_rfl) (by kernel_rfl) (fun _ _ _ h => h) (Or.inr ⟨by rfl, rfl⟩) (by assumption) ?_
  try simp only [Act.put, List.setIfInBounds_toArray, List.set_cons_zero, List.set_cons_succ]
  refine wpAnyH_take (i := 10) (oi := { dst := some 85, op := Go.Op.load 3 (Go.Operand.tmp 84), type := 3, pos := "law.go:46", after := #[{ on := 9, ground := Go.Ground.data }, { on := 5, ground := Go.Ground.guard }], guard := some (5, true) }) (v := undef) rfl (by kernel_rfl) (by kernel_rfl) (by kernel_rfl) (fun _ _ _ h => h) (Or.inr ⟨by rfl, rfl⟩) (by assumption) ?_
  try simp only [Act.put, List.setIfInBounds_toArray, List.set_cons_zero, List.set_cons_succ]
  refine wpAnyH_take (i := 11) (oi := { dst := some 86, op := Go.Op.indexAddr 25 (Go.Operand.tmp 82) (Go.Operand.tmp 85), type := 0, pos := "law.go:46", after := #[{ on := 7, ground := Go.Ground.data }, { on := 10, ground := Go.Ground.data }, { on := 5, ground := Go.Ground.guard }], guard := some (5, true) }) (v := undef) rfl (by kernel_rfl) (by kernel_rfl) (by kernel_rfl) (fun _ _ _ h => h) (Or.inr ⟨by rfl, rfl⟩) (by assumption) ?_
  try simp only [Act.put, List.setIfInBounds_toArray, List.set_cons_zero, List.set_cons_succ]
  refine wpAnyH_take (i := 12) (oi := { dst := some 87, op := Go.Op.load 29 (Go.Operand.tmp 86), type := 29, pos := "law.go:46", after := #[{ on := 11, ground := Go.Ground.data }, { on := 5, ground := Go.Ground.guard }], guard := some (5, true) }) (v := undef) rfl (by kernel_rfl) (by kernel_rfl) (by kernel_rfl) (fun _ _ _ h => h) (Or.inr ⟨by rfl, rfl⟩) (by assumption) ?_
  try simp only [Act.put, List.setIfInBounds_toArray, List.set_cons_zero, List.set_cons_succ]
  refine wpAnyH_take (i := 13) (oi := { dst := some 88, op := Go.Op.binOp Go.BinOp.eql 29 (Go.Operand.tmp 81) (Go.Operand.tmp 87) 29, type := 4, pos := "law.go:46", after := #[{ on := 6, ground := Go.Ground.data }, { on := 12, ground := Go.Ground.data }, { on := 5, ground := Go.Ground.guard }], guard := some (5, true) }) (v := undef) rfl (by kernel_rfl) (by kernel_rfl) (by kernel_rfl) (fun _ _ _ h => h) (Or.inr ⟨by rfl, rfl⟩) (by assumption) ?_
  try simp only [Act.put, List.setIfInBounds_toArray, List.set_cons_zero, List.set_cons_succ]
  refine wpAnyH_take (i := 14) (oi := { dst := some 89, op := Go.Op.pick (Go.Operand.tmp 80) (Go.Operand.tmp 88) (Go.Operand.const (Go.Value.bool false)), type := 4, pos := "law.go:46", after := #[{ on := 5, ground := Go.Ground.data }, { on := 13, ground := Go.Ground.data }, { on := 3, ground := Go.Ground.guard }], guard := some (3, true) }) (v := ?_) rfl (by kernel_rfl) (by kernel_rfl) (by kernel_rfl) (fun _ _ _ h => h) (Or.inl ⟨by rfl, ?_⟩) (by assumption) ?_
  rotate_left
  · intro w7 hSw
    try dsimp only at hSw
    first | (go_simp; done) | (go_simp; with_reducible rfl)
  try simp only [Act.put, List.setIfInBounds_toArray, List.set_cons_zero, List.set_cons_succ]
  refine wpAnyH_take (i := 15) (oi := { dst := some 90, op := Go.Op.move (Go.Operand.tmp 89), type := 4, pos := "law.go:46", after := #[{ on := 14, ground := Go.Ground.data }, { on := 5, ground := Go.Ground.chain }, { on := 3, ground := Go.Ground.guard }], guard := some (3, true) }) (v := ?_) rfl (by kernel_rfl) (by kernel_rfl) (by kernel_rfl) (fun _ _ _ h => h) (Or.inl ⟨by rfl, ?_⟩) (by assumption) ?_
  rotate_left
  · intro w7 hSw
    try dsimp only at hSw
    first | (go_simp; done) | (go_simp; with_reducible rfl)
  try simp only [Act.put, List.setIfInBounds_toArray, List.set_cons_zero, List.set_cons_succ]
  refine wpAnyH_take (i := 16) (oi := { dst := some 91, op := Go.Op.move (Go.Operand.tmp 11), type := 4, pos := "law.go:46", after := #[{ on := 15, ground := Go.Ground.guard }], guard := some (15, false) }) (v := ?_) rfl (by kernel_rfl) (by kernel_rfl) (by kernel_rfl) (fun _ _ _ h => h) (Or.inl ⟨by rfl, ?_⟩) (by assumption) ?_
  rotate_left
  · intro w7 hSw
    try dsimp only at hSw
    first | (go_simp; done) | (go_simp; with_reducible rfl)
  try simp only [Act.put, List.setIfInBounds_toArray, List.set_cons_zero, List.set_cons_succ]
  refine wpAnyH_take (i := 17) (oi := { dst := some 92, op := Go.Op.unOp Go.UnOp.not 4 (Go.Operand.tmp 91), type := 4, pos := "law.go:46", after := #[{ on := 16, ground := Go.Ground.data }, { on := 15, ground := Go.Ground.guard }], guard := some (15, false) }) (v := ?_) rfl (by kernel_rfl) (by kernel_rfl) (by kernel_rfl) (fun _ _ _ h => h) (Or.inl ⟨by rfl, ?_⟩) (by assumption) ?_
  rotate_left
  · intro w7 hSw
    try dsimp only at hSw
    first | (go_simp; done) | (go_simp; with_reducible rfl)
  try simp only [Act.put, List.setIfInBounds_toArray, List.set_cons_zero, List.set_cons_succ]
  refine wpAnyH_take (i := 18) (oi := { dst := some 93, op := Go.Op.move (Go.Operand.tmp 92), type := 4, pos := "law.go:46", after := #[{ on := 17, ground := Go.Ground.data }, { on := 15, ground := Go.Ground.chain }, { on := 15, ground := Go.Ground.guard }], guard := some (15, false) }) (v := ?_) rfl (by kernel_rfl) (by kernel_rfl) (by kernel_rfl) (fun _ _ _ h => h) (Or.inl ⟨by rfl, ?_⟩) (by assumption) ?_
  rotate_left
  · intro w7 hSw
    try dsimp only at hSw
    first | (go_simp; done) | (go_simp; with_reducible rfl)
  try simp only [Act.put, List.setIfInBounds_toArray, List.set_cons_zero, List.set_cons_succ]
  refine wpAnyH_take (i := 19) (oi := { dst := some 94, op := Go.Op.load 29 (Go.Operand.tmp 10), type := 29, pos := "law.go:46", after := #[{ on := 18, ground := Go.Ground.guard }], guard := some (18, true) }) (v := ?_) rfl (by kernel_rfl) (by kernel_rfl) (by kernel_rfl) (fun _ _ _ h => h) (Or.inl ⟨by rfl, ?_⟩) (by assumption) ?_
  rotate_left
  · intro w7 hSw
    try dsimp only at hSw
    first | (go_simp; done) | (go_simp; with_reducible rfl)
  try simp only [Act.put, List.setIfInBounds_toArray, List.set_cons_zero, List.set_cons_succ]
  refine wpAnyH_take (i := 20) (oi := { dst := some 95, op := Go.Op.build 29 #[], type := 29, pos := "law.go:46", after := #[{ on := 18, ground := Go.Ground.guard }], guard := some (18, true) }) (v := ?_) rfl (by kernel_rfl) (by kernel_rfl) (by kernel_rfl) (fun _ _ _ h => h) (Or.inl ⟨by rfl, ?_⟩) (by assumption) ?_
  rotate_left
  · intro w7 hSw
    try dsimp only at hSw
    first | (go_simp; done) | (go_simp; with_reducible rfl)
  try simp only [Act.put, List.setIfInBounds_toArray, List.set_cons_zero, List.set_cons_succ]
  refine wpAnyH_take (i := 21) (oi := { dst := some 96, op := Go.Op.binOp Go.BinOp.eql 29 (Go.Operand.tmp 94) (Go.Operand.tmp 95) 29, type := 4, pos := "law.go:46", after := #[{ on := 19, ground := Go.Ground.data }, { on := 20, ground := Go.Ground.data }, { on := 18, ground := Go.Ground.guard }], guard := some (18, true) }) (v := ?_) rfl (by kernel_rfl) (by kernel_rfl) (by kernel_rfl) (fun _ _ _ h => h) (Or.inl ⟨by rfl, ?_⟩) (by assumption) ?_
  rotate_left
  · intro w7 hSw
    try dsimp only at hSw
    first | (go_simp; done) | (go_simp; with_reducible rfl)
  try simp only [Act.put, List.setIfInBounds_toArray, List.set_cons_zero, List.set_cons_succ]
  refine wpAnyH_take (i := 22) (oi := { dst := some 97, op := Go.Op.pick (Go.Operand.tmp 93) (Go.Operand.tmp 96) (Go.Operand.const (Go.Value.bool false)), type := 4, pos := "law.go:46", after := #[{ on := 18, ground := Go.Ground.data }, { on := 21, ground := Go.Ground.data }, { on := 15, ground := Go.Ground.guard }], guard := some (15, false) }) (v := ?_) rfl (by kernel_rfl) (by kernel_rfl) (by kernel_rfl) (fun _ _ _ h => h) (Or.inl ⟨by rfl, ?_⟩) (by assumption) ?_
  rotate_left
  · intro w7 hSw
    try dsimp only at hSw
    first | (go_simp; done) | (go_simp; with_reducible rfl)
  try simp only [Act.put, List.setIfInBounds_toArray, List.set_cons_zero, List.set_cons_succ]
  refine wpAnyH_take (i := 23) (oi := { dst := some 98, op := Go.Op.pick (Go.Operand.tmp 90) (Go.Operand.const (Go.Value.bool true)) (Go.Operand.tmp 97), type := 4, pos := "law.go:46", after := #[{ on := 15, ground := Go.Ground.data }, { on := 22, ground := Go.Ground.data }, { on := 3, ground := Go.Ground.guard }], guard := some (3, true) }) (v := ?_) rfl (by kernel_rfl) (by kernel_rfl) (by kernel_rfl) (fun _ _ _ h => h) (Or.inl ⟨by rfl, ?_⟩) (by assumption) ?_
  rotate_left
  · intro w7 hSw
    try dsimp only at hSw
    first | (go_simp; done) | (go_simp; with_reducible rfl)
  try simp only [Act.put, List.setIfInBounds_toArray, List.set_cons_zero, List.set_cons_succ]
  refine wpAnyH_take (i := 24) (oi := { dst := some 99, op := Go.Op.pick (Go.Operand.tmp 78) (Go.Operand.tmp 98) (Go.Operand.const (Go.Value.bool false)), type := 4, pos := "law.go:46", after := #[{ on := 3, ground := Go.Ground.data }, { on := 23, ground := Go.Ground.data }], guard := none }) (v := ?_) rfl (by kernel_rfl) (by kernel_rfl) (by kernel_rfl) (fun _ _ _ h => h) (Or.inl ⟨by rfl, ?_⟩) (by assumption) ?_
  rotate_left
  · intro w7 hSw
    try dsimp only at hSw
    first | (go_simp; done) | (go_simp; with_reducible rfl)
  try simp only [Act.put, List.setIfInBounds_toArray, List.set_cons_zero, List.set_cons_succ]
  refine wpAnyH_take (i := 25) (oi := { dst := some 100, op := Go.Op.move (Go.Operand.tmp 99), type := 4, pos := "law.go:46", after := #[{ on := 24, ground := Go.Ground.data }, { on := 18, ground := Go.Ground.chain }], guard := none }) (v := ?_) rfl (by kernel_rfl) (by kernel_rfl) (by kernel_rfl) (fun _ _ _ h => h) (Or.inl ⟨by rfl, ?_⟩) (by assumption) ?_
  rotate_left
  · intro w7 hSw
    try dsimp only at hSw
    first | (go_simp; done) | (go_simp; with_reducible rfl)
  try simp only [Act.put, List.setIfInBounds_toArray, List.set_cons_zero, List.set_cons_succ]
  refine wpAnyH_take (i := 26) (oi := { dst := some 101, op := Go.Op.move (Go.Operand.tmp 0), type := 23, pos := "law.go:46", after := #[{ on := 25, ground := Go.Ground.guard }], guard := some (25, true) }) (v := ?_) rfl (by kernel_rfl) (by kernel_rfl) (by kernel_rfl) (fun _ _ _ h => h) (Or.inl ⟨by rfl, ?_⟩) (by assumption) ?_
  rotate_left
  · intro w7 hSw
    try dsimp only at hSw
    first | (go_simp; done) | (go_simp; with_reducible rfl)
  try simp only [Act.put, List.setIfInBounds_toArray, List.set_cons_zero, List.set_cons_succ]
  refine wpAnyH_take (i := 27) (oi := { dst := some 102, op := Go.Op.fieldAddr 33 (Go.Operand.tmp 5) 2, type := 0, pos := "law.go:46", after := #[{ on := 25, ground := Go.Ground.guard }], guard := some (25, true) }) (v := ?_) rfl (by kernel_rfl) (by kernel_rfl) (by kernel_rfl) (fun _ _ _ h => h) (Or.inl ⟨by rfl, ?_⟩) (by assumption) ?_
  rotate_left
  · intro w7 hSw
    try dsimp only at hSw
    first | (go_simp; done) | (go_simp; with_reducible rfl)
  try simp only [Act.put, List.setIfInBounds_toArray, List.set_cons_zero, List.set_cons_succ]
  refine wpAnyH_take (i := 28) (oi := { dst := some 103, op := Go.Op.load 29 (Go.Operand.tmp 102), type := 29, pos := "law.go:46", after := #[{ on := 27, ground := Go.Ground.data }, { on := 25, ground := Go.Ground.guard }], guard := some (25, true) }) (v := ?_) rfl (by kernel_rfl) (by kernel_rfl) (by kernel_rfl) (fun _ _ _ h => h) (Or.inl ⟨by rfl, ?_⟩) (by assumption) ?_
  rotate_left
  · intro w7 hSw
    try dsimp only at hSw
    first | (go_simp; done) | (go_simp; with_reducible rfl)
  try simp only [Act.put, List.setIfInBounds_toArray, List.set_cons_zero, List.set_cons_succ]
  refine wpAnyH_take (i := 30) (oi := { dst := some 105, op := Go.Op.move (Go.Operand.tmp 1), type := 25, pos := "law.go:46", after := #[{ on := 25, ground := Go.Ground.guard }], guard := some (25, true) }) (v := ?_) rfl (by kernel_rfl) (by kernel_rfl) (by kernel_rfl) (fun _ _ _ h => h) (Or.inl ⟨by rfl, ?_⟩) (by assumption) ?_
  rotate_left
  · intro w7 hSw
    try dsimp only at hSw
    first | (go_simp; done) | (go_simp; with_reducible rfl)
  try simp only [Act.put, List.setIfInBounds_toArray, List.set_cons_zero, List.set_cons_succ]
  refine wpAnyH_take (i := 31) (oi := { dst := some 106, op := Go.Op.fieldAddr 33 (Go.Operand.tmp 5) 2, type := 0, pos := "law.go:46", after := #[{ on := 25, ground := Go.Ground.guard }], guard := some (25, true) }) (v := ?_) rfl (by kernel_rfl) (by kernel_rfl) (by kernel_rfl) (fun _ _ _ h => h) (Or.inl ⟨by rfl, ?_⟩) (by assumption) ?_
  rotate_left
  · intro w7 hSw
    try dsimp only at hSw
    first | (go_simp; done) | (go_simp; with_reducible rfl)
  try simp only [Act.put, List.setIfInBounds_toArray, List.set_cons_zero, List.set_cons_succ]
  refine wpAnyH_take (i := 32) (oi := { dst := some 107, op := Go.Op.load 29 (Go.Operand.tmp 106), type := 29, pos := "law.go:46", after := #[{ on := 31, ground := Go.Ground.data }, { on := 25, ground := Go.Ground.guard }], guard := some (25, true) }) (v := ?_) rfl (by kernel_rfl) (by kernel_rfl) (by kernel_rfl) (fun _ _ _ h => h) (Or.inl ⟨by rfl, ?_⟩) (by assumption) ?_
  rotate_left
  · intro w7 hSw
    try dsimp only at hSw
    first | (go_simp; done) | (go_simp; with_reducible rfl)
  try simp only [Act.put, List.setIfInBounds_toArray, List.set_cons_zero, List.set_cons_succ]
  refine wpAnyH_ready (rs := [29]) (by kernel_rfl) (by simp) ?_
  refine AllReadyH.cons (o := { dst := some 104, op := Go.Op.call { callee := Go.Callee.value (Go.Operand.func 35), args := #[Go.Operand.tmp 101, Go.Operand.tmp 103], argTypes := #[23, 29] }, type := 3, pos := "law.go:46", after := #[{ on := 26, ground := Go.Ground.data }, { on := 28, ground := Go.Ground.data }, { on := 25, ground := Go.Ground.chain }, { on := 25, ground := Go.Ground.guard }], guard := some (25, true) }) rfl (fun K hK => ?_) AllReadyH.nil
  go_simp
  (go_at_call 35; refine (HRk.out _ ((Keep.refl [] _).drew)).mono ?_; clear HRk; rintro e w7 ⟨rfl, k7⟩)
  go_wp2_with fail
  refine hK.out _ _ (Cs.base (l := [(⟨Bq, 0, none⟩, .int .i64 0), (⟨Bq, 1, none⟩, .int .i64 0), (⟨w.heap.size, 2, none⟩, .int .i64 (n : Int)), (⟨w.heap.size, 3, none⟩, .int .i64 xm)]) HCs ((Keep.refl _ _).drew.trans' k7)) (fun hHeld2 => ?_)
  try dsimp only at hHeld2
  clear hK hHeld
  have hHeld := hHeld2
  clear hHeld2
  try simp only [Act.put, List.setIfInBounds_toArray, List.set_cons_zero, List.set_cons_succ]
  refine wpAnyH_ready (rs := [33]) (by kernel_rfl) (by simp) ?_
  refine AllReadyH.cons (o := { dst := some 108, op := Go.Op.call { callee := Go.Callee.value (Go.Operand.func 47), args := #[Go.Operand.tmp 105, Go.Operand.tmp 107], argTypes := #[25, 29] }, type := 3, pos := "law.go:46", after := #[{ on := 30, ground := Go.Ground.data }, { on := 32, ground := Go.Ground.data }, { on := 29, ground := Go.Ground.chain }, { on := 25, ground := Go.Ground.guard }], guard := some (25, true) }) rfl (fun K hK => ?_) AllReadyH.nil
  go_simp
  (go_at_call 47; refine (HRr.out _ ((Keep.refl [] _).drew.trans' k7)).mono ?_; clear HRr; rintro e w8 ⟨rfl, k8⟩)
  go_wp2_with fail
  refine hK.out _ _ (Cs.base (l := [(⟨Bq, 0, none⟩, .int .i64 0), (⟨Bq, 1, none⟩, .int .i64 0), (⟨w.heap.size, 2, none⟩, .int .i64 (n : Int)), (⟨w.heap.size, 3, none⟩, .int .i64 xm)]) HCs (((Keep.refl _ _).drew.trans' k7).trans' k8)) (fun hHeld2 => ?_)
  try dsimp only at hHeld2
  clear hK hHeld
  have hHeld := hHeld2
  clear hHeld2
  try simp only [Act.put, List.setIfInBounds_toArray, List.set_cons_zero, List.set_cons_succ]
  refine wpAnyH_take (i := 34) (oi := { dst := some 109, op := Go.Op.binOp Go.BinOp.eql 3 (Go.Operand.tmp 104) (Go.Operand.tmp 108) 3, type := 4, pos := "law.go:46", after := #[{ on := 29, ground := Go.Ground.data }, { on := 33, ground := Go.Ground.data }, { on := 25, ground := Go.Ground.guard }], guard := some (25, true) }) (v := ?_) rfl (by kernel_rfl) (by kernel_rfl) (by kernel_rfl) (fun _ _ _ h => h) (Or.inl ⟨by rfl, ?_⟩) (by assumption) ?_
  rotate_left
  · intro w7 hSw
    try dsimp only at hSw
    first | (go_simp; done) | (go_simp; with_reducible rfl)
  try simp only [Act.put, List.setIfInBounds_toArray, List.set_cons_zero, List.set_cons_succ]
  refine wpAnyH_take (i := 35) (oi := { dst := some 110, op := Go.Op.pick (Go.Operand.tmp 100) (Go.Operand.tmp 109) (Go.Operand.const (Go.Value.bool false)), type := 4, pos := "law.go:46", after := #[{ on := 25, ground := Go.Ground.data }, { on := 34, ground := Go.Ground.data }], guard := none }) (v := ?_) rfl (by kernel_rfl) (by kernel_rfl) (by kernel_rfl) (fun _ _ _ h => h) (Or.inl ⟨by rfl, ?_⟩) (by assumption) ?_
  rotate_left
  · intro w7 hSw
    try dsimp only at hSw
    first | (go_simp; done) | (go_simp; with_reducible rfl)
  try simp only [Act.put, List.setIfInBounds_toArray, List.set_cons_zero, List.set_cons_succ]
  refine wpAnyH_take (i := 36) (oi := { dst := some 6, op := Go.Op.assign (Go.Operand.tmp 110), type := 4, pos := "law.go:46", after := #[{ on := 35, ground := Go.Ground.data }, { on := 33, ground := Go.Ground.chain }, { on := 0, ground := Go.Ground.phase }, { on := 1, ground := Go.Ground.phase }, { on := 2, ground := Go.Ground.phase }, { on := 3, ground := Go.Ground.phase }, { on := 4, ground := Go.Ground.phase }, { on := 5, ground := Go.Ground.phase }, { on := 6, ground := Go.Ground.phase }, { on := 7, ground := Go.Ground.phase }, { on := 8, ground := Go.Ground.phase }, { on := 9, ground := Go.Ground.phase }, { on := 10, ground := Go.Ground.phase }, { on := 11, ground := Go.Ground.phase }, { on := 12, ground := Go.Ground.phase }, { on := 13, ground := Go.Ground.phase }, { on := 14, ground := Go.Ground.phase }, { on := 15, ground := Go.Ground.phase }, { on := 16, ground := Go.Ground.phase }, { on := 17, ground := Go.Ground.phase }, { on := 18, ground := Go.Ground.phase }, { on := 19, ground := Go.Ground.phase }, { on := 20, ground := Go.Ground.phase }, { on := 21, ground := Go.Ground.phase }, { on := 22, ground := Go.Ground.phase }, { on := 23, ground := Go.Ground.phase }, { on := 24, ground := Go.Ground.phase }, { on := 25, ground := Go.Ground.phase }, { on := 26, ground := Go.Ground.phase }, { on := 27, ground := Go.Ground.phase }, { on := 28, ground := Go.Ground.phase }, { on := 29, ground := Go.Ground.phase }, { on := 30, ground := Go.Ground.phase }, { on := 31, ground := Go.Ground.phase }, { on := 32, ground := Go.Ground.phase }, { on := 33, ground := Go.Ground.phase }, { on := 34, ground := Go.Ground.phase }, { on := 35, ground := Go.Ground.phase }], guard := none }) (v := ?_) rfl (by kernel_rfl) (by kernel_rfl) (by kernel_rfl) (fun _ _ _ h => h) (Or.inl ⟨by rfl, ?_⟩) (by assumption) ?_
  rotate_left
  · intro w7 hSw
    try dsimp only at hSw
    first | (go_simp; done) | (go_simp; with_reducible rfl)
  try simp only [Act.put, List.setIfInBounds_toArray, List.set_cons_zero, List.set_cons_succ]
  refine wpAnyH_done (by kernel_rfl) ?_ _
  go_wp2
  go_ret
  exact ⟨rfl, ((HK4.out.drew).trans' k7).trans' k8⟩

end Go.Proofs.Ytkelhglflpdpeaa
