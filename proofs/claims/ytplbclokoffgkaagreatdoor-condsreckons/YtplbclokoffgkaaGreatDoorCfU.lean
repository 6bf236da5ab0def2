/- Conditions: Eval. -/
import Derived.Test.YtplbclokoffgkaaGreatDoorCfT
namespace Go.Proofs.YtplbclokoffgkaaGreatDoor
open Go.RowKit Go.PlainAid Go.Shelf

/-- is it known; is it true -/
def Wo.kn : Wo → Bool
  | .no => false
  | _ => true
def Wo.mt : Wo → Bool
  | .tr b => b
  | _ => false
set_option maxRecDepth 1000000 in
set_option maxHeartbeats 6400000 in
theorem eval_any (nm : ByteArray) (vp vx va : Value) (vals : List Wo) (n : Nat) (hn : 1 ≤ n) (f : Wo) (hfe : vals.getD 0 Wo.no = f) (hf : f = .no ∨ ∃ b, f = .tr b) (hsl : ((∃ a n c, vp = .slice a n c) ∧ ∃ a n c, vx = .slice a n c) ∧ ∃ a n c, va = .slice a n c) (w : World)
    (hr : ∀ w1, Keep [] w w1 → Calls Tryz.prog 13 #[.agg #[.string nm, vp, vx], va] w1 fun e w' => e = .returned (.int .i64 0) ∧ Keep [] w1 w')
    (hw : ∀ w1, Keep [] w w1 → Calls Tryz.prog 14 #[.agg #[.string nm, vp, vx], va] w1 fun e w' => ∃ g c, e = .returned (.slice (some ⟨g, 0, none⟩) n c) ∧ (∀ i, i < n → w'.cell? ⟨g, i, none⟩ = some (vals.getD i Wo.no).enc) ∧ Keep [] w1 w')
    (hl : ∀ w1, Keep [] w w1 → Calls Tryz.prog 16 #[.agg #[.string nm, vp, vx], va] w1 fun e w' => (∃ g c, e = .returned (.slice (some ⟨g, 0, none⟩) 0 c)) ∧ Keep [] w1 w') :
    Calls Tryz.prog 7 #[.agg #[.string nm, vp, vx], va] w fun e w' => ∃ vl, (∃ a n c, vl = .slice a n c) ∧ e = .returned (.tuple #[.agg #[.bool f.kn, .bool f.mt, vl], .int .i64 0]) ∧ Keep [] w w' := by
  obtain ⟨⟨⟨a1, n1, d1, rfl⟩, a2, n2, d2, rfl⟩, a3, n3, d3, rfl⟩ := hsl
  have hR := hr ((w.alloc (.cells #[.string nm, .slice a1 n1 d1, .slice a2 n2 d2] 25)).alloc (.cells #[.bool false, .bool false, .slice none 0 0] 40)) ((Keep.alloc1 _ _).alloc _)
  have HW : Hid (∀ w1, Keep [] w w1 → Calls Tryz.prog 14 #[.agg #[.string nm, .slice a1 n1 d1, .slice a2 n2 d2], .slice a3 n3 d3] w1 fun e w' => ∃ g c, e = .returned (.slice (some ⟨g, 0, none⟩) n c) ∧ (∀ i, i < n → w'.cell? ⟨g, i, none⟩ = some (vals.getD i Wo.no).enc) ∧ Keep [] w1 w') := hw
  have HLk : Hid (∀ w1, Keep [] w w1 → Calls Tryz.prog 16 #[.agg #[.string nm, .slice a1 n1 d1, .slice a2 n2 d2], .slice a3 n3 d3] w1 fun e w' => (∃ g c, e = .returned (.slice (some ⟨g, 0, none⟩) 0 c)) ∧ Keep [] w1 w') := hl
  have HK0 : Hid (Keep [] w ((w.alloc (.cells #[.string nm, .slice a1 n1 d1, .slice a2 n2 d2] 25)).alloc (.cells #[.bool false, .bool false, .slice none 0 0] 40))) := (Keep.alloc1 _ _).alloc _
  obtain ⟨H, HH⟩ : ∃ H : Nat, Hid (H = w.heap.size) := ⟨_, show _ = _ from rfl⟩
  have HHw : Hid (w.heap.size ≤ H) := show w.heap.size ≤ H by rw [HH.out]; exact Nat.le_refl _
  have HN : Hid (1 ≤ n) := hn
  clear hr hw hl hn
  go_enter Tryz.func7, Tryz.ntmps7
  go_wp2_with fail
  refine hR.mono ?_
  rintro e w5 ⟨rfl, k5⟩
  have x0 : w5.cell? ⟨w.heap.size, 0, none⟩ = some (.string nm) := k5.cell' (by go_simp) (by simp)
  have x1 : w5.cell? ⟨w.heap.size, 1, none⟩ = some (.slice a1 n1 d1) := k5.cell' (by go_simp) (by simp)
  have x2 : w5.cell? ⟨w.heap.size, 2, none⟩ = some (.slice a2 n2 d2) := k5.cell' (by go_simp) (by simp)
  have g0 : w5.cell? ⟨w.heap.size + 1, 0, none⟩ = some (.bool false) := k5.cell' (by go_simp) (by simp)
  have g1 : w5.cell? ⟨w.heap.size + 1, 1, none⟩ = some (.bool false) := k5.cell' (by go_simp) (by simp)
  have g2 : w5.cell? ⟨w.heap.size + 1, 2, none⟩ = some (.slice none 0 0) := k5.cell' (by go_simp) (by simp)
  have f0 : w5.frozen? ⟨w.heap.size + 1, 0, none⟩ = false := (k5.frozen (by simp) (by simp)).trans (by go_simp)
  have f1 : w5.frozen? ⟨w.heap.size + 1, 1, none⟩ = false := (k5.frozen (by simp) (by simp)).trans (by go_simp)
  have f2 : w5.frozen? ⟨w.heap.size + 1, 2, none⟩ = false := (k5.frozen (by simp) (by simp)).trans (by go_simp)
  have HK5 : Hid (Keep [] w w5) := HK0.out.trans' k5
  clear k5 hR HK0
  rw [← HH.out] at x0 x1 x2 g0 g1 g2 f0 f1 f2 ⊢
  clear HH
  go_wp2_with fail
  refine (HW.out _ HK5.out).mono ?_
  rintro e wq ⟨gw, cw, rfl, hc, kq⟩
  have q0 := hc 0 (by have := HN.out; omega)
  rw [hfe] at q0
  have HSd : Hid ((fun w' : World => w'.cell? ⟨H, 0, none⟩ = some (.string nm) ∧ w'.cell? ⟨H, 1, none⟩ = some (.slice a1 n1 d1) ∧ w'.cell? ⟨H, 2, none⟩ = some (.slice a2 n2 d2) ∧ w'.cell? ⟨H + 1, 0, none⟩ = some (.bool false) ∧ w'.cell? ⟨H + 1, 1, none⟩ = some (.bool false) ∧ w'.cell? ⟨H + 1, 2, none⟩ = some (.slice none 0 0) ∧ w'.frozen? ⟨H + 1, 0, none⟩ = false ∧ w'.frozen? ⟨H + 1, 1, none⟩ = false ∧ w'.frozen? ⟨H + 1, 2, none⟩ = false) wq.drew) := ⟨kq.drew.cell' x0 (by simp), kq.drew.cell' x1 (by simp), kq.drew.cell' x2 (by simp), kq.drew.cell' g0 (by simp), kq.drew.cell' g1 (by simp), kq.drew.cell' g2 (by simp), (kq.drew.frozen (p := ⟨H + 1, 0, none⟩) (block_lt_of_cell g0) (by simp)).trans f0, (kq.drew.frozen (p := ⟨H + 1, 1, none⟩) (block_lt_of_cell g1) (by simp)).trans f1, (kq.drew.frozen (p := ⟨H + 1, 2, none⟩) (block_lt_of_cell g2) (by simp)).trans f2⟩
  have HKr : Hid (Keep [] w wq.drew) := (HK5.out.trans' kq).drew
  have hn0 : (0 : Int) < (n : Int) := by have := HN.out; omega
  clear hc kq HW HK5 x0 x1 x2 g0 g1 g2 f0 f1 f2
  clear hfe
  rcases hf with rfl | ⟨b, rfl⟩
  · simp only [Wo.enc] at q0
    have heq : ∀ w, Sem.run Tryz.prog (binOp BinOp.neq 60 Value.nilIface Value.nilIface) w = .ok (.bool false) w := fun w => rfl
    go_wp2_with fail
    refine wp_region_until 8 (S := (fun w' : World => w'.cell? ⟨H, 0, none⟩ = some (.string nm) ∧ w'.cell? ⟨H, 1, none⟩ = some (.slice a1 n1 d1) ∧ w'.cell? ⟨H, 2, none⟩ = some (.slice a2 n2 d2) ∧ w'.cell? ⟨H + 1, 0, none⟩ = some (.bool false) ∧ w'.cell? ⟨H + 1, 1, none⟩ = some (.bool false) ∧ w'.cell? ⟨H + 1, 2, none⟩ = some (.slice none 0 0) ∧ w'.frozen? ⟨H + 1, 0, none⟩ = false ∧ w'.frozen? ⟨H + 1, 1, none⟩ = false ∧ w'.frozen? ⟨H + 1, 2, none⟩ = false)) (by kernel_rfl) (HSd.out) (fun hHeld => ?_)
    try dsimp only at hHeld
    refine AnyU.take (i := 0) (oi := { dst := some 20, op := Go.Op.move (Go.Operand.tmp 7), type := 60, pos := "conds.go:55", after := #[], guard := none }) (v := ?_) rfl (by kernel_rfl) (by kernel_rfl) (by kernel_rfl) (by kernel_rfl) (fun _ _ _ h => h) (Or.inl ⟨by rfl, ?_⟩) (by assumption) ?_
    rotate_left
    · intro w7 hSw
      try dsimp only at hSw
      first | (go_simp; done) | (go_simp; with_reducible rfl)
    try simp only [Act.put, List.setIfInBounds_toArray, List.set_cons_zero, List.set_cons_succ]
    refine AnyU.take (i := 1) (oi := { dst := some 21, op := Go.Op.binOp Go.BinOp.neq 60 (Go.Operand.tmp 20) (Go.Operand.const Go.Value.nilIface) 60, type := 4, pos := "conds.go:55", after := #[{ on := 0, ground := Go.Ground.data }], guard := none }) (v := ?_) rfl (by kernel_rfl) (by kernel_rfl) (by kernel_rfl) (by kernel_rfl) (fun _ _ _ h => h) (Or.inl ⟨by rfl, ?_⟩) (by assumption) ?_
    rotate_left
    · intro w7 hSw
      try dsimp only at hSw
      first | (go_simp; done) | (go_simp; with_reducible rfl)
    try simp only [Act.put, List.setIfInBounds_toArray, List.set_cons_zero, List.set_cons_succ]
    refine AnyU.take (i := 2) (oi := { dst := some 22, op := Go.Op.move (Go.Operand.tmp 7), type := 60, pos := "conds.go:55", after := #[], guard := none }) (v := ?_) rfl (by kernel_rfl) (by kernel_rfl) (by kernel_rfl) (by kernel_rfl) (fun _ _ _ h => h) (Or.inl ⟨by rfl, ?_⟩) (by assumption) ?_
    rotate_left
    · intro w7 hSw
      try dsimp only at hSw
      first | (go_simp; done) | (go_simp; with_reducible rfl)
    try simp only [Act.put, List.setIfInBounds_toArray, List.set_cons_zero, List.set_cons_succ]
    refine AnyU.take (i := 4) (oi := { dst := some 24, op := Go.Op.load 25 (Go.Operand.tmp 2), type := 25, pos := "conds.go:55", after := #[], guard := none }) (v := ?_) rfl (by kernel_rfl) (by kernel_rfl) (by kernel_rfl) (by kernel_rfl) (fun _ _ _ h => h) (Or.inl ⟨by rfl, ?_⟩) (by assumption) ?_
    rotate_left
    · intro w7 hSw
      try dsimp only at hSw
      first | (go_simp; done) | (go_simp; with_reducible rfl)
    try simp only [Act.put, List.setIfInBounds_toArray, List.set_cons_zero, List.set_cons_succ]
    refine AnyU.take (i := 5) (oi := { dst := some 25, op := Go.Op.move (Go.Operand.tmp 1), type := 45, pos := "conds.go:55", after := #[], guard := none }) (v := ?_) rfl (by kernel_rfl) (by kernel_rfl) (by kernel_rfl) (by kernel_rfl) (fun _ _ _ h => h) (Or.inl ⟨by rfl, ?_⟩) (by assumption) ?_
    rotate_left
    · intro w7 hSw
      try dsimp only at hSw
      first | (go_simp; done) | (go_simp; with_reducible rfl)
    try simp only [Act.put, List.setIfInBounds_toArray, List.set_cons_zero, List.set_cons_succ]
    refine AnyU.one (i := 3) (o := { dst := some 23, op := Go.Op.call { callee := Go.Callee.value (Go.Operand.func 15), args := #[Go.Operand.tmp 22], argTypes := #[60] }, type := 4, pos := "conds.go:55", after := #[{ on := 2, ground := Go.Ground.data }], guard := none }) (by kernel_rfl) rfl (fun K hK => ?_)
    go_simp
    refine Calls.mono (isTrue_none _) ?_; rintro e w5 ⟨rfl, hw5⟩; obtain rfl := hw5.symm; clear hw5
    go_wp2_with fail
    refine hK.out _ _ (fun _ => hHeld) (fun hHeld2 => ?_)
    have hHeld3 := hHeld2 (by kernel_rfl)
    try dsimp only at hHeld3
    clear hK hHeld hHeld2
    have hHeld := hHeld3
    clear hHeld3
    try simp only [Act.put, List.setIfInBounds_toArray, List.set_cons_zero, List.set_cons_succ]
    refine AnyU.one (i := 6) (o := { dst := some 26, op := Go.Op.call { callee := Go.Callee.value (Go.Operand.func 16), args := #[Go.Operand.tmp 24, Go.Operand.tmp 25], argTypes := #[25, 45] }, type := 32, pos := "conds.go:55", after := #[{ on := 4, ground := Go.Ground.data }, { on := 5, ground := Go.Ground.data }, { on := 3, ground := Go.Ground.chain }], guard := none }) (by kernel_rfl) rfl (fun K hK => ?_)
    go_simp
    refine Calls.mono (HLk.out _ HKr.out) ?_; rintro e w6 ⟨⟨g, c, rfl⟩, k6⟩
    go_wp2_with fail
    refine hK.out _ _ (fun _ => ⟨k6.cell' hHeld.1 (by simp), k6.cell' hHeld.2.1 (by simp), k6.cell' hHeld.2.2.1 (by simp), k6.cell' hHeld.2.2.2.1 (by simp), k6.cell' hHeld.2.2.2.2.1 (by simp), k6.cell' hHeld.2.2.2.2.2.1 (by simp), (k6.frozen (p := ⟨H + 1, 0, none⟩) (block_lt_of_cell hHeld.2.2.2.1) (by simp)).trans hHeld.2.2.2.2.2.2.1, (k6.frozen (p := ⟨H + 1, 1, none⟩) (block_lt_of_cell hHeld.2.2.2.2.1) (by simp)).trans hHeld.2.2.2.2.2.2.2.1, (k6.frozen (p := ⟨H + 1, 2, none⟩) (block_lt_of_cell hHeld.2.2.2.2.2.1) (by simp)).trans hHeld.2.2.2.2.2.2.2.2⟩) (fun hHeld2 => ?_)
    have hHeld3 := hHeld2 (by kernel_rfl)
    try dsimp only at hHeld3
    clear hK hHeld hHeld2
    have hHeld := hHeld3
    clear hHeld3
    try simp only [Act.put, List.setIfInBounds_toArray, List.set_cons_zero, List.set_cons_succ]
    refine AnyU.take (i := 7) (oi := { dst := some 27, op := Go.Op.build 40 #[(0, Go.Operand.tmp 21), (1, Go.Operand.tmp 23), (2, Go.Operand.tmp 26)], type := 40, pos := "conds.go:55", after := #[{ on := 1, ground := Go.Ground.data }, { on := 3, ground := Go.Ground.data }, { on := 6, ground := Go.Ground.data }], guard := none }) (v := ?_) rfl (by kernel_rfl) (by kernel_rfl) (by kernel_rfl) (by kernel_rfl) (fun _ _ _ h => h) (Or.inl ⟨by rfl, ?_⟩) (by assumption) ?_
    rotate_left
    · intro w7 hSw
      try dsimp only at hSw
      first | (go_simp; done) | (go_simp; with_reducible rfl)
    try simp only [Act.put, List.setIfInBounds_toArray, List.set_cons_zero, List.set_cons_succ]
    refine AnyU.one (i := 8) (o := { dst := none, op := Go.Op.store 40 (Go.Operand.tmp 4) (Go.Operand.tmp 27), type := 0, pos := "conds.go:55", after := #[{ on := 7, ground := Go.Ground.data }, { on := 6, ground := Go.Ground.chain }, { on := 0, ground := Go.Ground.phase }, { on := 1, ground := Go.Ground.phase }, { on := 2, ground := Go.Ground.phase }, { on := 3, ground := Go.Ground.phase }, { on := 4, ground := Go.Ground.phase }, { on := 5, ground := Go.Ground.phase }, { on := 6, ground := Go.Ground.phase }, { on := 7, ground := Go.Ground.phase }], guard := none }) (by kernel_rfl) rfl (fun K hK => ?_)
    go_simp
    refine hK.out _ _ (fun h => Bool.noConfusion ((show _ = true from by kernel_rfl).symm.trans h)) (fun _ => ?_)
    clear hK hHeld
    try simp only [Act.put, List.setIfInBounds_toArray, List.set_cons_zero, List.set_cons_succ]
    refine AnyU.takeP (i := 9) (oi := { dst := some 5, op := Go.Op.assign (Go.Operand.const (Go.Value.int Go.IntKind.i64 0)), type := 27, pos := "conds.go:55", after := #[{ on := 8, ground := Go.Ground.chain }, { on := 0, ground := Go.Ground.phase }, { on := 1, ground := Go.Ground.phase }, { on := 2, ground := Go.Ground.phase }, { on := 3, ground := Go.Ground.phase }, { on := 4, ground := Go.Ground.phase }, { on := 5, ground := Go.Ground.phase }, { on := 6, ground := Go.Ground.phase }, { on := 7, ground := Go.Ground.phase }, { on := 8, ground := Go.Ground.phase }], guard := none }) (v := ?_) rfl (by kernel_rfl) (by kernel_rfl) (by kernel_rfl) (by kernel_rfl) (fun _ _ _ h => h) (Or.inl ⟨by rfl, ?_⟩) (fun h => Bool.noConfusion ((show _ = true from by kernel_rfl).symm.trans h)) ?_
    rotate_left
    · intro w7 hSw
      first | (go_simp; done) | (go_simp; with_reducible rfl)
    try simp only [Act.put, List.setIfInBounds_toArray, List.set_cons_zero, List.set_cons_succ]
    refine AnyU.done (by kernel_rfl) ?_ _
    have m0 := k6.cell' HSd.out.2.2.2.1 (by simp)
    have m1 := k6.cell' HSd.out.2.2.2.2.1 (by simp)
    have m2 := k6.cell' HSd.out.2.2.2.2.2.1 (by simp)
    go_wp2
    refine bodyPost_ret (v := .tuple #[.agg #[.bool false, .bool false, .slice (some ⟨g, 0, none⟩) 0 c], .int .i64 0]) (by simp [results, Tryz.results7, go_sem, m0, m1, m2]) rfl ⟨.slice (some ⟨g, 0, none⟩) 0 c, ⟨_, _, _, rfl⟩, rfl, ?_⟩
    have hk := HKr.out.trans' k6
    repeat (first | exact hk | refine Keep.setCell ?_ (.inr (by have := HHw.out; simp; omega)) _)
  · simp only [Wo.enc] at q0
    have heq : ∀ w, Sem.run Tryz.prog (binOp BinOp.neq 60 (.iface 81 (.bool b)) Value.nilIface) w = .ok (.bool true) w := fun w => rfl
    go_wp2_with fail
    refine wp_region_until 8 (S := (fun w' : World => w'.cell? ⟨H, 0, none⟩ = some (.string nm) ∧ w'.cell? ⟨H, 1, none⟩ = some (.slice a1 n1 d1) ∧ w'.cell? ⟨H, 2, none⟩ = some (.slice a2 n2 d2) ∧ w'.cell? ⟨H + 1, 0, none⟩ = some (.bool false) ∧ w'.cell? ⟨H + 1, 1, none⟩ = some (.bool false) ∧ w'.cell? ⟨H + 1, 2, none⟩ = some (.slice none 0 0) ∧ w'.frozen? ⟨H + 1, 0, none⟩ = false ∧ w'.frozen? ⟨H + 1, 1, none⟩ = false ∧ w'.frozen? ⟨H + 1, 2, none⟩ = false)) (by kernel_rfl) (HSd.out) (fun hHeld => ?_)
    try dsimp only at hHeld
    refine AnyU.take (i := 0) (oi := { dst := some 20, op := Go.Op.move (Go.Operand.tmp 7), type := 60, pos := "conds.go:55", after := #[], guard := none }) (v := ?_) rfl (by kernel_rfl) (by kernel_rfl) (by kernel_rfl) (by kernel_rfl) (fun _ _ _ h => h) (Or.inl ⟨by rfl, ?_⟩) (by assumption) ?_
    rotate_left
    · intro w7 hSw
      try dsimp only at hSw
      first | (go_simp; done) | (go_simp; with_reducible rfl)
    try simp only [Act.put, List.setIfInBounds_toArray, List.set_cons_zero, List.set_cons_succ]
    refine AnyU.take (i := 1) (oi := { dst := some 21, op := Go.Op.binOp Go.BinOp.neq 60 (Go.Operand.tmp 20) (Go.Operand.const Go.Value.nilIface) 60, type := 4, pos := "conds.go:55", after := #[{ on := 0, ground := Go.Ground.data }], guard := none }) (v := ?_) rfl (by kernel_rfl) (by kernel_rfl) (by kernel_rfl) (by kernel_rfl) (fun _ _ _ h => h) (Or.inl ⟨by rfl, ?_⟩) (by assumption) ?_
    rotate_left
    · intro w7 hSw
      try dsimp only at hSw
      first | (go_simp; done) | (go_simp; with_reducible rfl)
    try simp only [Act.put, List.setIfInBounds_toArray, List.set_cons_zero, List.set_cons_succ]
    refine AnyU.take (i := 2) (oi := { dst := some 22, op := Go.Op.move (Go.Operand.tmp 7), type := 60, pos := "conds.go:55", after := #[], guard := none }) (v := ?_) rfl (by kernel_rfl) (by kernel_rfl) (by kernel_rfl) (by kernel_rfl) (fun _ _ _ h => h) (Or.inl ⟨by rfl, ?_⟩) (by assumption) ?_
    rotate_left
    · intro w7 hSw
      try dsimp only at hSw
      first | (go_simp; done) | (go_simp; with_reducible rfl)
    try simp only [Act.put, List.setIfInBounds_toArray, List.set_cons_zero, List.set_cons_succ]
    refine AnyU.take (i := 4) (oi := { dst := some 24, op := Go.Op.load 25 (Go.Operand.tmp 2), type := 25, pos := "conds.go:55", after := #[], guard := none }) (v := ?_) rfl (by kernel_rfl) (by kernel_rfl) (by kernel_rfl) (by kernel_rfl) (fun _ _ _ h => h) (Or.inl ⟨by rfl, ?_⟩) (by assumption) ?_
    rotate_left
    · intro w7 hSw
      try dsimp only at hSw
      first | (go_simp; done) | (go_simp; with_reducible rfl)
    try simp only [Act.put, List.setIfInBounds_toArray, List.set_cons_zero, List.set_cons_succ]
    refine AnyU.take (i := 5) (oi := { dst := some 25, op := Go.Op.move (Go.Operand.tmp 1), type := 45, pos := "conds.go:55", after := #[], guard := none }) (v := ?_) rfl (by kernel_rfl) (by kernel_rfl) (by kernel_rfl) (by kernel_rfl) (fun _ _ _ h => h) (Or.inl ⟨by rfl, ?_⟩) (by assumption) ?_
    rotate_left
    · intro w7 hSw
      try dsimp only at hSw
      first | (go_simp; done) | (go_simp; with_reducible rfl)
    try simp only [Act.put, List.setIfInBounds_toArray, List.set_cons_zero, List.set_cons_succ]
    refine AnyU.one (i := 3) (o := { dst := some 23, op := Go.Op.call { callee := Go.Callee.value (Go.Operand.func 15), args := #[Go.Operand.tmp 22], argTypes := #[60] }, type := 4, pos := "conds.go:55", after := #[{ on := 2, ground := Go.Ground.data }], guard := none }) (by kernel_rfl) rfl (fun K hK => ?_)
    go_simp
    refine Calls.mono (isTrue_truth b _) ?_; rintro e w5 ⟨rfl, hw5⟩; obtain rfl := hw5.symm; clear hw5
    go_wp2_with fail
    refine hK.out _ _ (fun _ => hHeld) (fun hHeld2 => ?_)
    have hHeld3 := hHeld2 (by kernel_rfl)
    try dsimp only at hHeld3
    clear hK hHeld hHeld2
    have hHeld := hHeld3
    clear hHeld3
    try simp only [Act.put, List.setIfInBounds_toArray, List.set_cons_zero, List.set_cons_succ]
    refine AnyU.one (i := 6) (o := { dst := some 26, op := Go.Op.call { callee := Go.Callee.value (Go.Operand.func 16), args := #[Go.Operand.tmp 24, Go.Operand.tmp 25], argTypes := #[25, 45] }, type := 32, pos := "conds.go:55", after := #[{ on := 4, ground := Go.Ground.data }, { on := 5, ground := Go.Ground.data }, { on := 3, ground := Go.Ground.chain }], guard := none }) (by kernel_rfl) rfl (fun K hK => ?_)
    go_simp
    refine Calls.mono (HLk.out _ HKr.out) ?_; rintro e w6 ⟨⟨g, c, rfl⟩, k6⟩
    go_wp2_with fail
    refine hK.out _ _ (fun _ => ⟨k6.cell' hHeld.1 (by simp), k6.cell' hHeld.2.1 (by simp), k6.cell' hHeld.2.2.1 (by simp), k6.cell' hHeld.2.2.2.1 (by simp), k6.cell' hHeld.2.2.2.2.1 (by simp), k6.cell' hHeld.2.2.2.2.2.1 (by simp), (k6.frozen (p := ⟨H + 1, 0, none⟩) (block_lt_of_cell hHeld.2.2.2.1) (by simp)).trans hHeld.2.2.2.2.2.2.1, (k6.frozen (p := ⟨H + 1, 1, none⟩) (block_lt_of_cell hHeld.2.2.2.2.1) (by simp)).trans hHeld.2.2.2.2.2.2.2.1, (k6.frozen (p := ⟨H + 1, 2, none⟩) (block_lt_of_cell hHeld.2.2.2.2.2.1) (by simp)).trans hHeld.2.2.2.2.2.2.2.2⟩) (fun hHeld2 => ?_)
    have hHeld3 := hHeld2 (by kernel_rfl)
    try dsimp only at hHeld3
    clear hK hHeld hHeld2
    have hHeld := hHeld3
    clear hHeld3
    try simp only [Act.put, List.setIfInBounds_toArray, List.set_cons_zero, List.set_cons_succ]
    refine AnyU.take (i := 7) (oi := { dst := some 27, op := Go.Op.build 40 #[(0, Go.Operand.tmp 21), (1, Go.Operand.tmp 23), (2, Go.Operand.tmp 26)], type := 40, pos := "conds.go:55", after := #[{ on := 1, ground := Go.Ground.data }, { on := 3, ground := Go.Ground.data }, { on := 6, ground := Go.Ground.data }], guard := none }) (v := ?_) rfl (by kernel_rfl) (by kernel_rfl) (by kernel_rfl) (by kernel_rfl) (fun _ _ _ h => h) (Or.inl ⟨by rfl, ?_⟩) (by assumption) ?_
    rotate_left
    · intro w7 hSw
      try dsimp only at hSw
      first | (go_simp; done) | (go_simp; with_reducible rfl)
    try simp only [Act.put, List.setIfInBounds_toArray, List.set_cons_zero, List.set_cons_succ]
    refine AnyU.one (i := 8) (o := { dst := none, op := Go.Op.store 40 (Go.Operand.tmp 4) (Go.Operand.tmp 27), type := 0, pos := "conds.go:55", after := #[{ on := 7, ground := Go.Ground.data }, { on := 6, ground := Go.Ground.chain }, { on := 0, ground := Go.Ground.phase }, { on := 1, ground := Go.Ground.phase }, { on := 2, ground := Go.Ground.phase }, { on := 3, ground := Go.Ground.phase }, { on := 4, ground := Go.Ground.phase }, { on := 5, ground := Go.Ground.phase }, { on := 6, ground := Go.Ground.phase }, { on := 7, ground := Go.Ground.phase }], guard := none }) (by kernel_rfl) rfl (fun K hK => ?_)
    go_simp
    refine hK.out _ _ (fun h => Bool.noConfusion ((show _ = true from by kernel_rfl).symm.trans h)) (fun _ => ?_)
    clear hK hHeld
    try simp only [Act.put, List.setIfInBounds_toArray, List.set_cons_zero, List.set_cons_succ]
    refine AnyU.takeP (i := 9) (oi := { dst := some 5, op := Go.Op.assign (Go.Operand.const (Go.Value.int Go.IntKind.i64 0)), type := 27, pos := "conds.go:55", after := #[{ on := 8, ground := Go.Ground.chain }, { on := 0, ground := Go.Ground.phase }, { on := 1, ground := Go.Ground.phase }, { on := 2, ground := Go.Ground.phase }, { on := 3, ground := Go.Ground.phase }, { on := 4, ground := Go.Ground.phase }, { on := 5, ground := Go.Ground.phase }, { on := 6, ground := Go.Ground.phase }, { on := 7, ground := Go.Ground.phase }, { on := 8, ground := Go.Ground.phase }], guard := none }) (v := ?_) rfl (by kernel_rfl) (by kernel_rfl) (by kernel_rfl) (by kernel_rfl) (fun _ _ _ h => h) (Or.inl ⟨by rfl, ?_⟩) (fun h => Bool.noConfusion ((show _ = true from by kernel_rfl).symm.trans h)) ?_
    rotate_left
    · intro w7 hSw
      first | (go_simp; done) | (go_simp; with_reducible rfl)
    try simp only [Act.put, List.setIfInBounds_toArray, List.set_cons_zero, List.set_cons_succ]
    refine AnyU.done (by kernel_rfl) ?_ _
    have m0 := k6.cell' HSd.out.2.2.2.1 (by simp)
    have m1 := k6.cell' HSd.out.2.2.2.2.1 (by simp)
    have m2 := k6.cell' HSd.out.2.2.2.2.2.1 (by simp)
    go_wp2
    refine bodyPost_ret (v := .tuple #[.agg #[.bool true, .bool b, .slice (some ⟨g, 0, none⟩) 0 c], .int .i64 0]) (by simp [results, Tryz.results7, go_sem, m0, m1, m2]) rfl ⟨.slice (some ⟨g, 0, none⟩) 0 c, ⟨_, _, _, rfl⟩, rfl, ?_⟩
    have hk := HKr.out.trans' k6
    repeat (first | exact hk | refine Keep.setCell ?_ (.inr (by have := HHw.out; simp; omega)) _)
end Go.Proofs.YtplbclokoffgkaaGreatDoor
