/- Conditions: an argument; what is known of a parameter. -/
import Derived.Test.YtplbclokoffgkaaGreatDoorCfI
namespace Go.Proofs.YtplbclokoffgkaaGreatDoor
open Go.RowKit Go.PlainAid Go.Shelf

set_option maxRecDepth 1000000 in
set_option maxHeartbeats 3200000 in
theorem argument_any (l : List AgD) (s : ByteArray) (p : Nat) (vi : Int) (v : Value) (w : World) (hv : Ar w v l) (hA : At l s p) (hvi : ∀ (h : p < l.length), l[p].vi = vi) :
    Calls Tryz.prog 43 #[v, .string s] w fun e w' => e = .returned (.tuple #[intV vi, .bool true]) ∧ Keep [] w w' := by
  obtain ⟨b, o, cap, rfl, -⟩ := hv.ex
  have hsf := store_f32
  simp only [Go.stored] at hsf
  have hS := search_any l s p _ (w.alloc (.cells #[.int .i64 0, .bool false, .int .i64 0, .float .f32 0, .string ⟨#[]⟩, .slice none 0 0] 34)) (hv.keep0 (Keep.alloc1 _ _)) hA
  have HV : Hid (Ar w (.slice (some ⟨b, o, none⟩) l.length cap) l ∧ p < l.length ∧ ∀ (h : p < l.length), l[p].vi = vi) := ⟨hv, hA.lt, hvi⟩
  clear hv hA hvi
  go_enter Tryz.func43, Tryz.ntmps43
  go_wp2_with fail
  refine hS.mono ?_
  rintro e w5 ⟨rfl, k5⟩
  have K5 : Keep [] w w5 := (Keep.alloc1 _ _).trans' k5
  obtain ⟨b', o', cap', he, hc⟩ := (HV.out.1.keep0 K5).ex
  simp at he
  obtain ⟨⟨rfl, rfl⟩, rfl⟩ := he
  obtain ⟨z0, z1, z2, z3, z4, z5, z6⟩ := hc p HV.out.2.1
  rw [HV.out.2.2] at z3
  have hli : (p : Int) < (l.length : Int) := by have := HV.out.2.1; omega
  have y1 : w5.heap[w.heap.size]? = some (.cells #[.int .i64 0, .bool false, .int .i64 0, .float .f32 0, .string ⟨#[]⟩, .slice none 0 0] 34 (0, 0)) := (k5.block _ (by simp) (by simp)).trans (heap_alloc_new' _ _)
  have g0 : w5.cell? ⟨w.heap.size, 0, none⟩ = some (.int .i64 0) := by unfold World.cell?; rw [y1]; rfl
  have g1 : w5.cell? ⟨w.heap.size, 1, none⟩ = some (.bool false) := by unfold World.cell?; rw [y1]; rfl
  have g2 : w5.cell? ⟨w.heap.size, 2, none⟩ = some (.int .i64 0) := by unfold World.cell?; rw [y1]; rfl
  have g3 : w5.cell? ⟨w.heap.size, 3, none⟩ = some (.float .f32 0) := by unfold World.cell?; rw [y1]; rfl
  have g4 : w5.cell? ⟨w.heap.size, 4, none⟩ = some (.string ⟨#[]⟩) := by unfold World.cell?; rw [y1]; rfl
  have g5 : w5.cell? ⟨w.heap.size, 5, none⟩ = some (.slice none 0 0) := by unfold World.cell?; rw [y1]; rfl
  have f0 : ∀ j, w5.frozen? ⟨w.heap.size, j, none⟩ = false := fun j => by unfold World.frozen?; rw [y1]; simp
  have f00 := f0 0
  have f01 := f0 1
  have f02 := f0 2
  have f03 := f0 3
  have f04 := f0 4
  have f05 := f0 5
  have HK : Hid (Keep [] w w5) := K5
  have hb : ¬ b = w.heap.size := fun e => by
    obtain ⟨_, _, _, he2, hc2⟩ := HV.out.1.ex
    simp at he2
    obtain ⟨⟨rfl, rfl⟩, rfl⟩ := he2
    have := block_lt_of_cell (hc2 p HV.out.2.1).1
    simp only at this
    omega
  clear hc k5 K5 y1 f0 hS
  go_wp2
  refine bodyPost_ret (v := .tuple #[intV vi, .bool true]) (by simp [results, Tryz.results43, go_sem, g0, g1, g2, g3, g4, g5]) rfl ⟨rfl, ?_⟩
  repeat (first | exact HK.out | refine Keep.setCell ?_ (.inr (by simp)) _)

set_option maxRecDepth 1000000 in
set_option maxHeartbeats 3200000 in
theorem known_any (nm : ByteArray) (ps : List PD) (vp vx : Value) (l : List AgD) (s : ByteArray) (p : Nat) (vi : Int) (v : Value) (w : World) (hsl : (∃ a n c, vp = .slice a n c) ∧ ∃ a n c, vx = .slice a n c) (hp : Pm w vp ps) (hk : pKind ps s = 2) (hv : Ar w v l) (hA : At l s p) (hvi : ∀ (h : p < l.length), l[p].vi = vi) :
    Calls Tryz.prog 25 #[.agg #[.string nm, vp, vx], v, .string s] w fun e w' => e = .returned (Wo.wh vi).enc ∧ Keep [] w w' := by
  obtain ⟨⟨a1, n1, c1, rfl⟩, a2, n2, c2, rfl⟩ := hsl
  have hsf := store_f32
  simp only [Go.stored] at hsf
  have hS := argument_any l s p vi v (w.alloc (.cells #[.string nm, .slice a1 n1 c1, .slice a2 n2 c2] 25)) (hv.keep0 (Keep.alloc1 _ _)) hA hvi
  have HPk : Hid (∀ w9, Keep [] w w9 → Calls Tryz.prog 11 #[.slice a1 n1 c1, .string s] w9 fun e w' => e = .returned (.int .i64 2) ∧ Keep [] w9 w') := fun w9 k9 => by
    have := paramKind_any _ ps s w9 (hp.keep0 k9)
    rwa [hk] at this
  have HWo := fun w9 => worthOf_int vi w9
  clear hp hk hv hA hvi
  go_enter Tryz.func25, Tryz.ntmps25
  go_wp2_with fail
  refine hS.mono ?_
  rintro e w5 ⟨rfl, k5⟩
  have K5 : Keep [] w w5 := (Keep.alloc1 _ _).trans' k5
  have x1 : w5.cell? ⟨w.heap.size, 1, none⟩ = some (.slice a1 n1 c1) := k5.cell' (by go_simp) (by simp)
  have HK7 : Hid (Keep [] w (w5.alloc (.cells #[.int .i64 2, .bool false, .int .i64 vi, .float .f32 0, .string ⟨#[]⟩, .slice none 0 0] 34)).drew) := (K5.alloc _).drew
  have HSd : Hid ((fun w' : World => w'.cell? ⟨w5.heap.size, 0, none⟩ = some (.int .i64 2) ∧ w'.cell? ⟨w.heap.size, 1, none⟩ = some (.slice a1 n1 c1)) (w5.alloc (.cells #[.int .i64 2, .bool false, .int .i64 vi, .float .f32 0, .string ⟨#[]⟩, .slice none 0 0] 34)).drew) := ⟨by go_simp, (Keep.alloc1 _ _).drew.cell' x1 (by simp)⟩
  clear hS k5 K5 x1
  go_wp2_with fail
  refine wp_region_heldP (S := (fun w' : World => w'.cell? ⟨w5.heap.size, 0, none⟩ = some (.int .i64 2) ∧ w'.cell? ⟨w.heap.size, 1, none⟩ = some (.slice a1 n1 c1))) (by kernel_rfl) (HSd.out) (fun hHeld => ?_)
  try dsimp only at hHeld
  refine wpAnyH_take (i := 0) (oi := { dst := some 15, op := Go.Op.move (Go.Operand.tmp 8), type := 4, pos := "args.go:44", after := #[], guard := none }) (v := ?_) rfl (by kernel_rfl) (by kernel_rfl) (by kernel_rfl) (fun _ _ _ => plain_panic) (Or.inl ⟨by rfl, ?_⟩) (by assumption) ?_
  rotate_left
  · intro w7 hSw
    try dsimp only at hSw
    first | (go_simp; done) | (go_simp; with_reducible rfl)
  try simp only [Act.put, List.setIfInBounds_toArray, List.set_cons_zero, List.set_cons_succ]
  refine wpAnyH_take (i := 1) (oi := { dst := some 16, op := Go.Op.unOp Go.UnOp.not 4 (Go.Operand.tmp 15), type := 4, pos := "args.go:44", after := #[{ on := 0, ground := Go.Ground.data }], guard := none }) (v := ?_) rfl (by kernel_rfl) (by kernel_rfl) (by kernel_rfl) (fun _ _ _ => plain_panic) (Or.inl ⟨by rfl, ?_⟩) (by assumption) ?_
  rotate_left
  · intro w7 hSw
    try dsimp only at hSw
    first | (go_simp; done) | (go_simp; with_reducible rfl)
  try simp only [Act.put, List.setIfInBounds_toArray, List.set_cons_zero, List.set_cons_succ]
  refine wpAnyH_take (i := 2) (oi := { dst := some 17, op := Go.Op.move (Go.Operand.tmp 16), type := 4, pos := "args.go:44", after := #[{ on := 1, ground := Go.Ground.data }], guard := none }) (v := ?_) rfl (by kernel_rfl) (by kernel_rfl) (by kernel_rfl) (fun _ _ _ => plain_panic) (Or.inl ⟨by rfl, ?_⟩) (by assumption) ?_
  rotate_left
  · intro w7 hSw
    try dsimp only at hSw
    first | (go_simp; done) | (go_simp; with_reducible rfl)
  try simp only [Act.put, List.setIfInBounds_toArray, List.set_cons_zero, List.set_cons_succ]
  refine wpAnyH_take (i := 3) (oi := { dst := some 18, op := Go.Op.fieldAddr 34 (Go.Operand.tmp 7) 0, type := 0, pos := "args.go:44", after := #[{ on := 2, ground := Go.Ground.guard }], guard := some (2, false) }) (v := ?_) rfl (by kernel_rfl) (by kernel_rfl) (by kernel_rfl) (fun _ _ _ => plain_panic) (Or.inl ⟨by rfl, ?_⟩) (by assumption) ?_
  rotate_left
  · intro w7 hSw
    try dsimp only at hSw
    first | (go_simp; done) | (go_simp; with_reducible rfl)
  try simp only [Act.put, List.setIfInBounds_toArray, List.set_cons_zero, List.set_cons_succ]
  refine wpAnyH_take (i := 4) (oi := { dst := some 19, op := Go.Op.load 3 (Go.Operand.tmp 18), type := 3, pos := "args.go:44", after := #[{ on := 3, ground := Go.Ground.data }, { on := 2, ground := Go.Ground.guard }], guard := some (2, false) }) (v := ?_) rfl (by kernel_rfl) (by kernel_rfl) (by kernel_rfl) (fun _ _ _ => plain_panic) (Or.inl ⟨by rfl, ?_⟩) (by assumption) ?_
  rotate_left
  · intro w7 hSw
    try dsimp only at hSw
    first | (go_simp; done) | (go_simp; with_reducible rfl)
  try simp only [Act.put, List.setIfInBounds_toArray, List.set_cons_zero, List.set_cons_succ]
  refine wpAnyH_take (i := 5) (oi := { dst := some 20, op := Go.Op.fieldAddr 25 (Go.Operand.tmp 3) 1, type := 0, pos := "args.go:44", after := #[{ on := 2, ground := Go.Ground.guard }], guard := some (2, false) }) (v := ?_) rfl (by kernel_rfl) (by kernel_rfl) (by kernel_rfl) (fun _ _ _ => plain_panic) (Or.inl ⟨by rfl, ?_⟩) (by assumption) ?_
  rotate_left
  · intro w7 hSw
    try dsimp only at hSw
    first | (go_simp; done) | (go_simp; with_reducible rfl)
  try simp only [Act.put, List.setIfInBounds_toArray, List.set_cons_zero, List.set_cons_succ]
  refine wpAnyH_take (i := 6) (oi := { dst := some 21, op := Go.Op.load 22 (Go.Operand.tmp 20), type := 22, pos := "args.go:44", after := #[{ on := 5, ground := Go.Ground.data }, { on := 2, ground := Go.Ground.guard }], guard := some (2, false) }) (v := ?_) rfl (by kernel_rfl) (by kernel_rfl) (by kernel_rfl) (fun _ _ _ => plain_panic) (Or.inl ⟨by rfl, ?_⟩) (by assumption) ?_
  rotate_left
  · intro w7 hSw
    try dsimp only at hSw
    first | (go_simp; done) | (go_simp; with_reducible rfl)
  try simp only [Act.put, List.setIfInBounds_toArray, List.set_cons_zero, List.set_cons_succ]
  refine wpAnyH_take (i := 7) (oi := { dst := some 22, op := Go.Op.move (Go.Operand.tmp 2), type := 9, pos := "args.go:44", after := #[{ on := 2, ground := Go.Ground.guard }], guard := some (2, false) }) (v := ?_) rfl (by kernel_rfl) (by kernel_rfl) (by kernel_rfl) (fun _ _ _ => plain_panic) (Or.inl ⟨by rfl, ?_⟩) (by assumption) ?_
  rotate_left
  · intro w7 hSw
    try dsimp only at hSw
    first | (go_simp; done) | (go_simp; with_reducible rfl)
  try simp only [Act.put, List.setIfInBounds_toArray, List.set_cons_zero, List.set_cons_succ]
  refine wpAnyH_ready (rs := [8]) (by kernel_rfl) (by simp) ?_
  refine AllReadyH.cons (o := { dst := some 23, op := Go.Op.call { callee := Go.Callee.value (Go.Operand.func 11), args := #[Go.Operand.tmp 21, Go.Operand.tmp 22], argTypes := #[22, 9] }, type := 3, pos := "args.go:44", after := #[{ on := 6, ground := Go.Ground.data }, { on := 7, ground := Go.Ground.data }, { on := 2, ground := Go.Ground.chain }, { on := 2, ground := Go.Ground.guard }], guard := some (2, false) }) rfl (fun K hK => ?_) AllReadyH.nil
  go_simp
  refine Calls.mono (HPk.out _ HK7.out) ?_
  rintro e w6 ⟨rfl, k6⟩
  go_wp2_with fail
  refine hK.out _ _ (⟨k6.cell' hHeld.1 (by simp), k6.cell' hHeld.2 (by simp)⟩) (fun hHeld2 => ?_)
  try dsimp only at hHeld2
  clear hK hHeld
  have hHeld := hHeld2
  clear hHeld2
  try simp only [Act.put, List.setIfInBounds_toArray, List.set_cons_zero, List.set_cons_succ]
  refine wpAnyH_take (i := 9) (oi := { dst := some 24, op := Go.Op.binOp Go.BinOp.neq 3 (Go.Operand.tmp 19) (Go.Operand.tmp 23) 3, type := 4, pos := "args.go:44", after := #[{ on := 4, ground := Go.Ground.data }, { on := 8, ground := Go.Ground.data }, { on := 2, ground := Go.Ground.guard }], guard := some (2, false) }) (v := ?_) rfl (by kernel_rfl) (by kernel_rfl) (by kernel_rfl) (fun _ _ _ => plain_panic) (Or.inl ⟨by rfl, ?_⟩) (by assumption) ?_
  rotate_left
  · intro w7 hSw
    try dsimp only at hSw
    first | (go_simp; done) | (go_simp; with_reducible rfl)
  try simp only [Act.put, List.setIfInBounds_toArray, List.set_cons_zero, List.set_cons_succ]
  refine wpAnyH_take (i := 10) (oi := { dst := some 25, op := Go.Op.pick (Go.Operand.tmp 17) (Go.Operand.const (Go.Value.bool true)) (Go.Operand.tmp 24), type := 4, pos := "args.go:44", after := #[{ on := 2, ground := Go.Ground.data }, { on := 9, ground := Go.Ground.data }], guard := none }) (v := ?_) rfl (by kernel_rfl) (by kernel_rfl) (by kernel_rfl) (fun _ _ _ => plain_panic) (Or.inl ⟨by rfl, ?_⟩) (by assumption) ?_
  rotate_left
  · intro w7 hSw
    try dsimp only at hSw
    first | (go_simp; done) | (go_simp; with_reducible rfl)
  try simp only [Act.put, List.setIfInBounds_toArray, List.set_cons_zero, List.set_cons_succ]
  refine wpAnyH_done (by kernel_rfl) ⟨rfl, ?_⟩ _
  have v0 : w6.cell? ⟨w5.heap.size, 0, none⟩ = some (.int .i64 2) := k6.cell' (by go_simp) (by simp)
  have v1 : w6.cell? ⟨w5.heap.size, 1, none⟩ = some (.bool false) := k6.cell' (by go_simp) (by simp)
  have v2 : w6.cell? ⟨w5.heap.size, 2, none⟩ = some (.int .i64 vi) := k6.cell' (by go_simp) (by simp)
  have v3 : w6.cell? ⟨w5.heap.size, 3, none⟩ = some (.float .f32 0) := k6.cell' (by go_simp) (by simp)
  have v4 : w6.cell? ⟨w5.heap.size, 4, none⟩ = some (.string ⟨#[]⟩) := k6.cell' (by go_simp) (by simp)
  have v5 : w6.cell? ⟨w5.heap.size, 5, none⟩ = some (.slice none 0 0) := k6.cell' (by go_simp) (by simp)
  have HK6 : Hid (Keep [] w w6) := HK7.out.trans' k6
  clear hHeld HSd HK7 HPk k6
  go_wp2_with fail
  refine (HWo _).mono ?_
  rintro e w8 ⟨rfl, k8⟩
  have HK8 : Hid (Keep [] w w8) := HK6.out.trans' k8
  clear k8 HWo
  go_wp2
  go_ret
  exact ⟨rfl, HK8.out⟩
end Go.Proofs.YtplbclokoffgkaaGreatDoor
