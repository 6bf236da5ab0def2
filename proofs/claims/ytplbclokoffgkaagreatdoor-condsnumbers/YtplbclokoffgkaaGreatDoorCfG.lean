/- Conditions: Check of a condition whose parts are right by themselves. -/
import Derived.Test.YtplbclokoffgkaaGreatDoorCfF
namespace Go.Proofs.YtplbclokoffgkaaGreatDoor
open Go.RowKit Go.PlainAid Go.Shelf

/-- the first k of the parameters -/
theorem Pm.take {w : World} {b o cp : Nat} {l : List PD} (h : Pm w (.slice (some ⟨b, o, none⟩) l.length cp) l) (k : Nat) (hk : k ≤ l.length) : Pm w (.slice (some ⟨b, o, none⟩) k cp) (l.take k) := by
  obtain ⟨ao, cap, he, h1, h2, h3⟩ := h.ex
  simp at he
  obtain ⟨rfl, rfl⟩ := he
  have hl : (l.take k).length = k := by rw [List.length_take]; omega
  refine ⟨some ⟨b, o, none⟩, cp, by rw [hl], by omega, h2, fun hne => ⟨b, o, rfl, fun i hi => ?_⟩⟩
  have hne' : l ≠ [] := fun e => by subst e; simp at hne
  obtain ⟨b', o', he', hc⟩ := h3 hne'
  simp at he'
  obtain ⟨rfl, rfl⟩ := he'
  rw [List.getElem_take]
  exact hc i (by omega)
theorem Pm.cells {w : World} {v : Value} {l : List PD} (h : Pm w v l) (k : Nat) (hk : k < l.length) : ∃ b o cp, v = .slice (some ⟨b, o, none⟩) l.length cp ∧ l.length ≤ cp ∧ cp ≤ 9223372036854775807 ∧ w.cell? ⟨b, o + k * 2, none⟩ = some (.string l[k].nm) ∧ w.cell? ⟨b, o + k * 2 + 1, none⟩ = some (.int .i64 l[k].kind) := by
  obtain ⟨ao, cap, rfl, h1, h2, h3⟩ := h.ex
  obtain ⟨b, o, rfl, hc⟩ := h3 (fun e => by subst e; simp at hk)
  exact ⟨b, o, cap, rfl, h1, h2, hc k hk⟩
theorem four_cell {W : World} {b : Nat} {u0 u1 u2 u3 : Value} {t : TypeId} (h : W.heap[b]? = some (.cells #[u0, u1, u2, u3] t (0, 0))) : (W.cell? ⟨b, 0, none⟩ = some u0 ∧ W.cell? ⟨b, 1, none⟩ = some u1 ∧ W.cell? ⟨b, 2, none⟩ = some u2 ∧ W.cell? ⟨b, 3, none⟩ = some u3) ∧ W.frozen? ⟨b, 0, none⟩ = false ∧ W.frozen? ⟨b, 1, none⟩ = false ∧ W.frozen? ⟨b, 2, none⟩ = false ∧ W.frozen? ⟨b, 3, none⟩ = false := by
  refine ⟨⟨?_, ?_, ?_, ?_⟩, ?_, ?_, ?_, ?_⟩
  all_goals first | (unfold World.cell?; rw [h]; rfl) | (unfold World.frozen?; rw [h]; rfl)
/-- the memory of Check -/
structure Cm (w : World) (H : Nat) (nm : ByteArray) (vp vx : Value) (ps : List PD) (W : World) : Prop where
  kp : Keep [] w W
  x0 : W.cell? ⟨H, 0, none⟩ = some (.string nm)
  x1 : W.cell? ⟨H, 1, none⟩ = some vp
  x2 : W.cell? ⟨H, 2, none⟩ = some vx
  y : W.heap[H + 1]? = some (.cells #[.int .i64 0, .int .i64 0, .int .i64 0, .int .i64 0] 29 (0, 0))
theorem Cm.keep {w : World} {H : Nat} {nm : ByteArray} {vp vx : Value} {ps : List PD} {W W' : World} (h : Cm w H nm vp vx ps W) (k : Keep [] W W') : Cm w H nm vp vx ps W' :=
  ⟨h.kp.trans' k, k.cell' h.x0 (by simp), k.cell' h.x1 (by simp), k.cell' h.x2 (by simp), (k.block _ (Array.getElem?_eq_some_iff.1 h.y).1 (by simp)).trans h.y⟩
theorem one_cell_new (w : World) (t : TypeId) : (w.alloc (.cells #[.int .i64 0, .int .i64 0, .int .i64 0, .int .i64 0] t)).drew.cell? ⟨w.heap.size, 0, none⟩ = some (.int .i64 0) := by go_simp

/-- what Check answers: the first parameter that comes twice; else what kindFault says -/
def chkV (ps : List PD) (D : Nat) (E : Int × Int) : Value := if D < ps.length then .agg #[.int .i64 90, .int .i64 0, .int .i64 (D : Int), .int .i64 (-1)] else if E.1 = 0 then F0 else .agg #[.int .i64 E.1, .int .i64 0, .int .i64 ((ps.length : Int) + E.2), .int .i64 (-1)]
/-- the parameters up to D come once, the one at D a second time -/
structure Dup (ps : List PD) (D : Nat) : Prop where
  le : D ≤ ps.length
  no : ∀ k (hk : k < ps.length), k < D → pKind (ps.take k) ps[k].nm = 0
  yes : ∀ (hD : D < ps.length), pKind (ps.take D) ps[D].nm ≠ 0

set_option maxRecDepth 1000000 in
set_option maxHeartbeats 6400000 in
theorem ccheck_any (nm : ByteArray) (ps : List PD) (xs : List Pt) (vp vx : Value) (D : Nat) (E : Int × Int) (r : Int) (c : Nat) (w : World) (hp : Pm w vp ps) (hx : Pp w vx xs) (hT : Tb w) (hok : CdOk nm ps xs)
    (hlp : Lo w.heap.size vp) (hlx : Lo w.heap.size vx) (hcl : Cl 87 (fun p => #[p, vx, .int .i64 0]) vx xs r c) (hc : c ≤ 45000) (hD : Dup ps D) (hE : 0 ≤ E.2 ∧ E.2 ≤ 100)
    (hkf : ∀ w1, Keep [] w w1 → Calls Tryz.prog 12 #[.agg #[.string nm, vp, vx]] w1 fun e w' => e = .returned (.tuple #[.int .i64 E.1, .int .i64 E.2]) ∧ Keep [] w1 w') :
    Calls Tryz.prog 6 #[.agg #[.string nm, vp, vx]] w fun e w' => e = .returned (chkV ps D E) ∧ Keep [] w w' := by
  obtain ⟨ap, cp, rfl, hp1, hp2, -⟩ := hp.ex
  obtain ⟨ax, cx, rfl, -, -, -⟩ := hx.ex
  have K2 : Keep [] w ((w.alloc (.cells #[.string nm, .slice ap ps.length cp, .slice ax xs.length cx] 25)).alloc (.cells #[.int .i64 0, .int .i64 0, .int .i64 0, .int .i64 0] 29)) := (Keep.alloc1 _ _).alloc _
  have K3 := K2.alloc (.cells #[.string nm, .slice ap ps.length cp, .slice ax xs.length cx] 25)
  have hS := scheck_fine nm ps xs (.slice ap ps.length cp) (.slice ax xs.length cx) (w.heap.size + 2) r c (((w.alloc (.cells #[.string nm, .slice ap ps.length cp, .slice ax xs.length cx] 25)).alloc (.cells #[.int .i64 0, .int .i64 0, .int .i64 0, .int .i64 0] 29)).alloc (.cells #[.string nm, .slice ap ps.length cp, .slice ax xs.length cx] 25)) (hp.keep0 K3) (hx.keep0 K3) (hT.keep K3 (by simp)) hok
    (fun k hk => by have := hlp k hk; simp; omega) (fun k hk => by have := hlx k hk; simp; omega) hcl hc (by go_simp) (by go_simp) (by go_simp)
  obtain ⟨H, HH⟩ : ∃ H : Nat, Hid (H = w.heap.size) := ⟨_, show _ = _ from rfl⟩
  have HK3 : Hid (Keep [] w (((w.alloc (.cells #[.string nm, .slice ap ps.length cp, .slice ax xs.length cx] 25)).alloc (.cells #[.int .i64 0, .int .i64 0, .int .i64 0, .int .i64 0] 29)).alloc (.cells #[.string nm, .slice ap ps.length cp, .slice ax xs.length cx] 25))) := K3
  have HP : Hid (Pm w (.slice ap ps.length cp) ps) := hp
  have HD : Hid (Dup ps D) := hD
  have HKF : Hid (∀ w1, Keep [] w w1 → Calls Tryz.prog 12 #[.agg #[.string nm, .slice ap ps.length cp, .slice ax xs.length cx]] w1 fun e w' => e = .returned (.tuple #[.int .i64 E.1, .int .i64 E.2]) ∧ Keep [] w1 w') := hkf
  have HL : Hid (ps.length ≤ 16 ∧ 0 ≤ E.2 ∧ E.2 ≤ 100) := ⟨hok.plen, hE⟩
  clear hp hx hT hok hlp hlx hcl hc hD hE hkf K2 K3 hp1 hp2
  go_enter Tryz.func6, Tryz.ntmps6
  go_wp2_with fail
  refine hS.mono ?_
  rintro e w3 ⟨rfl, k3⟩
  have K3 : Keep [] w w3 := HK3.out.trans' k3
  have x0 : w3.cell? ⟨w.heap.size, 0, none⟩ = some (.string nm) := k3.cell' (by go_simp) (by simp)
  have x1 : w3.cell? ⟨w.heap.size, 1, none⟩ = some (.slice ap ps.length cp) := k3.cell' (by go_simp) (by simp)
  have x2 : w3.cell? ⟨w.heap.size, 2, none⟩ = some (.slice ax xs.length cx) := k3.cell' (by go_simp) (by simp)
  have y1 : w3.heap[w.heap.size + 1]? = some (.cells #[.int .i64 0, .int .i64 0, .int .i64 0, .int .i64 0] 29 (0, 0)) := by
    refine (k3.block _ (by simp) (by simp)).trans ((Below.heap_alloc _ _ _ (by simp)).trans ?_)
    have := heap_alloc_new' (w.alloc (.cells #[.string nm, .slice ap ps.length cp, .slice ax xs.length cx] 25)) (.cells #[.int .i64 0, .int .i64 0, .int .i64 0, .int .i64 0] 29)
    rwa [World.size_alloc] at this
  have HW3 : Hid (Keep [] w w3 ∧ w3.cell? ⟨H, 0, none⟩ = some (.string nm) ∧ w3.cell? ⟨H, 1, none⟩ = some (.slice ap ps.length cp) ∧ w3.cell? ⟨H, 2, none⟩ = some (.slice ax xs.length cx) ∧ w3.heap[H + 1]? = some (.cells #[.int .i64 0, .int .i64 0, .int .i64 0, .int .i64 0] 29 (0, 0))) := by rw [HH.out]; exact ⟨K3, x0, x1, x2, y1⟩
  clear hS k3 K3 x0 x1 x2 y1 HK3
  rw [← HH.out]
  go_wp2_with fail
  refine wp_region_heldP (S := (fun w' : World => w'.cell? ⟨w3.heap.size, 0, none⟩ = some (.int .i64 0))) (by kernel_rfl) (one_cell_new _ _) (fun hHeld => ?_)
  try dsimp only at hHeld
  refine wpAnyH_take (i := 0) (oi := { dst := some 12, op := Go.Op.fieldAddr 29 (Go.Operand.tmp 3) 0, type := 0, pos := "conds.go:15", after := #[], guard := none }) (v := ?_) rfl (by kernel_rfl) (by kernel_rfl) (by kernel_rfl) (fun _ _ _ => plain_panic) (Or.inl ⟨by rfl, ?_⟩) (by assumption) ?_
  rotate_left
  · intro w7 hSw
    try dsimp only at hSw
    first | (go_simp; done) | (go_simp; with_reducible rfl)
  try simp only [Act.put, List.setIfInBounds_toArray, List.set_cons_zero, List.set_cons_succ]
  refine wpAnyH_take (i := 1) (oi := { dst := some 13, op := Go.Op.load 27 (Go.Operand.tmp 12), type := 27, pos := "conds.go:15", after := #[{ on := 0, ground := Go.Ground.data }], guard := none }) (v := ?_) rfl (by kernel_rfl) (by kernel_rfl) (by kernel_rfl) (fun _ _ _ => plain_panic) (Or.inl ⟨by rfl, ?_⟩) (by assumption) ?_
  rotate_left
  · intro w7 hSw
    try dsimp only at hSw
    first | (go_simp; done) | (go_simp; with_reducible rfl)
  try simp only [Act.put, List.setIfInBounds_toArray, List.set_cons_zero, List.set_cons_succ]
  refine wpAnyH_take (i := 2) (oi := { dst := some 14, op := Go.Op.binOp Go.BinOp.neq 27 (Go.Operand.tmp 13) (Go.Operand.const (Go.Value.int Go.IntKind.i64 0)) 27, type := 4, pos := "conds.go:15", after := #[{ on := 1, ground := Go.Ground.data }], guard := none }) (v := ?_) rfl (by kernel_rfl) (by kernel_rfl) (by kernel_rfl) (fun _ _ _ => plain_panic) (Or.inl ⟨by rfl, ?_⟩) (by assumption) ?_
  rotate_left
  · intro w7 hSw
    try dsimp only at hSw
    first | (go_simp; done) | (go_simp; with_reducible rfl)
  try simp only [Act.put, List.setIfInBounds_toArray, List.set_cons_zero, List.set_cons_succ]
  refine wpAnyH_take (i := 3) (oi := { dst := some 15, op := Go.Op.move (Go.Operand.tmp 14), type := 4, pos := "conds.go:15", after := #[{ on := 2, ground := Go.Ground.data }], guard := none }) (v := ?_) rfl (by kernel_rfl) (by kernel_rfl) (by kernel_rfl) (fun _ _ _ => plain_panic) (Or.inl ⟨by rfl, ?_⟩) (by assumption) ?_
  rotate_left
  · intro w7 hSw
    try dsimp only at hSw
    first | (go_simp; done) | (go_simp; with_reducible rfl)
  try simp only [Act.put, List.setIfInBounds_toArray, List.set_cons_zero, List.set_cons_succ]
  refine wpAnyH_take (i := 4) (oi := { dst := some 16, op := Go.Op.load 29 (Go.Operand.tmp 3), type := 29, pos := "conds.go:15", after := #[{ on := 3, ground := Go.Ground.guard }], guard := some (3, true) }) (v := undef) rfl (by kernel_rfl) (by kernel_rfl) (by kernel_rfl) (fun _ _ _ => plain_panic) (Or.inr ⟨by rfl, rfl⟩) (by assumption) ?_
  try simp only [Act.put, List.setIfInBounds_toArray, List.set_cons_zero, List.set_cons_succ]
  refine wpAnyH_take (i := 5) (oi := { dst := some 17, op := Go.Op.call { callee := Go.Callee.value (Go.Operand.func 10), args := #[], argTypes := #[] }, type := 29, pos := "conds.go:15", after := #[{ on := 3, ground := Go.Ground.chain }, { on := 3, ground := Go.Ground.guard }], guard := some (3, true) }) (v := undef) rfl (by kernel_rfl) (by kernel_rfl) (by kernel_rfl) (fun _ _ _ => plain_panic) (Or.inr ⟨by rfl, rfl⟩) (by assumption) ?_
  try simp only [Act.put, List.setIfInBounds_toArray, List.set_cons_zero, List.set_cons_succ]
  refine wpAnyH_take (i := 6) (oi := { dst := some 18, op := Go.Op.binOp Go.BinOp.neq 29 (Go.Operand.tmp 16) (Go.Operand.tmp 17) 29, type := 4, pos := "conds.go:15", after := #[{ on := 4, ground := Go.Ground.data }, { on := 5, ground := Go.Ground.data }, { on := 3, ground := Go.Ground.guard }], guard := some (3, true) }) (v := undef) rfl (by kernel_rfl) (by kernel_rfl) (by kernel_rfl) (fun _ _ _ => plain_panic) (Or.inr ⟨by rfl, rfl⟩) (by assumption) ?_
  try simp only [Act.put, List.setIfInBounds_toArray, List.set_cons_zero, List.set_cons_succ]
  refine wpAnyH_take (i := 7) (oi := { dst := some 19, op := Go.Op.pick (Go.Operand.tmp 15) (Go.Operand.tmp 18) (Go.Operand.const (Go.Value.bool false)), type := 4, pos := "conds.go:15", after := #[{ on := 3, ground := Go.Ground.data }, { on := 6, ground := Go.Ground.data }], guard := none }) (v := ?_) rfl (by kernel_rfl) (by kernel_rfl) (by kernel_rfl) (fun _ _ _ => plain_panic) (Or.inl ⟨by rfl, ?_⟩) (by assumption) ?_
  rotate_left
  · intro w7 hSw
    try dsimp only at hSw
    first | (go_simp; done) | (go_simp; with_reducible rfl)
  try simp only [Act.put, List.setIfInBounds_toArray, List.set_cons_zero, List.set_cons_succ]
  refine wpAnyH_done (by kernel_rfl) ⟨rfl, ?_⟩ _
  have HM : Hid (Cm w H nm (.slice ap ps.length cp) (.slice ax xs.length cx) ps (w3.alloc (.cells #[.int .i64 0, .int .i64 0, .int .i64 0, .int .i64 0] 29)).drew) := (show Cm w H nm (.slice ap ps.length cp) (.slice ax xs.length cx) ps w3 from ⟨HW3.out.1, HW3.out.2.1, HW3.out.2.2.1, HW3.out.2.2.2.1, HW3.out.2.2.2.2⟩).keep (Keep.alloc1 _ _).drew
  generalize (w3.alloc (.cells #[.int .i64 0, .int .i64 0, .int .i64 0, .int .i64 0] 29)).drew = w4 at *
  generalize w3.heap.size = B3 at *
  have c1 := HM.out.x1
  have HHw : Hid (w.heap.size ≤ H) := show w.heap.size ≤ H by rw [HH.out]; exact Nat.le_refl _
  clear HW3 hHeld HH
  go_wp2
  go_loopw [24] (fun iv wr => ∃ k : Nat, iv = .int .i64 (k : Int) ∧ k ≤ ps.length ∧ Hid (k ≤ D ∧ Cm w H nm (.slice ap ps.length cp) (.slice ax xs.length cx) ps wr)) (fun iv _ => ps.length - (intOf iv).toNat)
  case atStart => exact ⟨0, rfl, Nat.zero_le _, Nat.zero_le _, HM.out⟩
  case round =>
    clear HM c1
    obtain ⟨k, rfl, hk, HM⟩ := hrel
    have HPm : Hid (Pm wr (.slice ap ps.length cp) ps) := HP.out.keep0 HM.out.2.kp
    by_cases hlt : k < ps.length
    · have hli : (k : Int) < (ps.length : Int) := by omega
      obtain ⟨bp, op, cp', he, hc1, hc2, n0, n1⟩ := HPm.out.cells k hlt
      simp at he
      obtain ⟨rfl, rfl⟩ := he
      obtain ⟨q, HQ⟩ : ∃ q : Int, Hid (q = pKind (ps.take k) ps[k].nm) := ⟨_, show _ = _ from rfl⟩
      have HPk : Hid (∀ w9, Keep [] wr w9 → Calls Tryz.prog 11 #[.slice (some ⟨bp, op, none⟩) k cp, .string ps[k].nm] w9 fun e w' => e = .returned (.int .i64 q) ∧ Keep [] w9 w') := fun w9 k9 => by
        have := paramKind_any _ (ps.take k) ps[k].nm w9 ((HPm.out.keep0 k9).take k hk)
        rwa [← HQ.out] at this
      have HQ2 : Hid ((k < D → q = 0) ∧ (k = D → q ≠ 0)) := ⟨fun h => by rw [HQ.out]; exact HD.out.no k hlt h, fun h => by rw [HQ.out]; subst h; exact HD.out.yes hlt⟩
      clear HQ
      generalize ps[k].nm = nk at *
      generalize ps[k].kind = kk at *
      have hkc : (k : Int) ≤ (cp : Int) := by omega
      have HS7 : Hid ((wr.alloc (.cells #[.string nk, .int .i64 kk] 38)).drew.cell? ⟨H, 1, none⟩ = some (.slice (some ⟨bp, op, none⟩) ps.length cp) ∧ (wr.alloc (.cells #[.string nk, .int .i64 kk] 38)).drew.cell? ⟨wr.heap.size, 0, none⟩ = some (.string nk)) := ⟨(Keep.alloc1 _ _).drew.cell' HM.out.2.x1 (by simp), by go_simp⟩
      have HK7 : Hid (Keep [] wr (wr.alloc (.cells #[.string nk, .int .i64 kk] 38)).drew) := (Keep.alloc1 _ _).drew
      go_wp2_with fail
      refine wp_region_heldP (S := (fun w' : World => w'.cell? ⟨H, 1, none⟩ = some (.slice (some ⟨bp, op, none⟩) ps.length cp) ∧ w'.cell? ⟨wr.heap.size, 0, none⟩ = some (.string nk))) (by kernel_rfl) (HS7.out) (fun hHeld => ?_)
      try dsimp only at hHeld
      refine wpAnyH_take (i := 0) (oi := { dst := some 29, op := Go.Op.fieldAddr 25 (Go.Operand.tmp 1) 1, type := 0, pos := "conds.go:19", after := #[], guard := none }) (v := ?_) rfl (by kernel_rfl) (by kernel_rfl) (by kernel_rfl) (fun _ _ _ => plain_panic) (Or.inl ⟨by rfl, ?_⟩) (by assumption) ?_
      rotate_left
      · intro w7 hSw
        try dsimp only at hSw
        first | (go_simp; done) | (go_simp; with_reducible rfl)
      try simp only [Act.put, List.setIfInBounds_toArray, List.set_cons_zero, List.set_cons_succ]
      refine wpAnyH_take (i := 1) (oi := { dst := some 30, op := Go.Op.load 22 (Go.Operand.tmp 29), type := 22, pos := "conds.go:19", after := #[{ on := 0, ground := Go.Ground.data }], guard := none }) (v := ?_) rfl (by kernel_rfl) (by kernel_rfl) (by kernel_rfl) (fun _ _ _ => plain_panic) (Or.inl ⟨by rfl, ?_⟩) (by assumption) ?_
      rotate_left
      · intro w7 hSw
        try dsimp only at hSw
        first | (go_simp; done) | (go_simp; with_reducible rfl)
      try simp only [Act.put, List.setIfInBounds_toArray, List.set_cons_zero, List.set_cons_succ]
      refine wpAnyH_take (i := 2) (oi := { dst := some 31, op := Go.Op.move (Go.Operand.tmp 4), type := 3, pos := "conds.go:19", after := #[], guard := none }) (v := ?_) rfl (by kernel_rfl) (by kernel_rfl) (by kernel_rfl) (fun _ _ _ => plain_panic) (Or.inl ⟨by rfl, ?_⟩) (by assumption) ?_
      rotate_left
      · intro w7 hSw
        try dsimp only at hSw
        first | (go_simp; done) | (go_simp; with_reducible rfl)
      try simp only [Act.put, List.setIfInBounds_toArray, List.set_cons_zero, List.set_cons_succ]
      refine wpAnyH_take (i := 3) (oi := { dst := some 32, op := Go.Op.slice 22 (Go.Operand.tmp 30) none (some (Go.Operand.tmp 31)) none, type := 22, pos := "conds.go:19", after := #[{ on := 1, ground := Go.Ground.data }, { on := 2, ground := Go.Ground.data }], guard := none }) (v := ?_) rfl (by kernel_rfl) (by kernel_rfl) (by kernel_rfl) (fun _ _ _ => plain_panic) (Or.inl ⟨by rfl, ?_⟩) (by assumption) ?_
      rotate_left
      · intro w7 hSw
        try dsimp only at hSw
        first | (go_simp; done) | (go_simp; with_reducible rfl)
      try simp only [Act.put, List.setIfInBounds_toArray, List.set_cons_zero, List.set_cons_succ]
      refine wpAnyH_take (i := 4) (oi := { dst := some 33, op := Go.Op.fieldAddr 38 (Go.Operand.tmp 5) 0, type := 0, pos := "conds.go:19", after := #[], guard := none }) (v := ?_) rfl (by kernel_rfl) (by kernel_rfl) (by kernel_rfl) (fun _ _ _ => plain_panic) (Or.inl ⟨by rfl, ?_⟩) (by assumption) ?_
      rotate_left
      · intro w7 hSw
        try dsimp only at hSw
        first | (go_simp; done) | (go_simp; with_reducible rfl)
      try simp only [Act.put, List.setIfInBounds_toArray, List.set_cons_zero, List.set_cons_succ]
      refine wpAnyH_take (i := 5) (oi := { dst := some 34, op := Go.Op.load 9 (Go.Operand.tmp 33), type := 9, pos := "conds.go:19", after := #[{ on := 4, ground := Go.Ground.data }], guard := none }) (v := ?_) rfl (by kernel_rfl) (by kernel_rfl) (by kernel_rfl) (fun _ _ _ => plain_panic) (Or.inl ⟨by rfl, ?_⟩) (by assumption) ?_
      rotate_left
      · intro w7 hSw
        try dsimp only at hSw
        first | (go_simp; done) | (go_simp; with_reducible rfl)
      try simp only [Act.put, List.setIfInBounds_toArray, List.set_cons_zero, List.set_cons_succ]
      refine wpAnyH_ready (rs := [6]) (by kernel_rfl) (by simp) ?_
      refine AllReadyH.cons (o := { dst := some 35, op := Go.Op.call { callee := Go.Callee.value (Go.Operand.func 11), args := #[Go.Operand.tmp 32, Go.Operand.tmp 34], argTypes := #[22, 9] }, type := 3, pos := "conds.go:19", after := #[{ on := 3, ground := Go.Ground.data }, { on := 5, ground := Go.Ground.data }], guard := none }) rfl (fun K hK => ?_) AllReadyH.nil
      go_simp
      refine Calls.mono (HPk.out _ (HK7.out)) ?_
      rintro e w5 ⟨rfl, k5⟩
      go_wp2_with fail
      refine hK.out _ _ (⟨k5.cell' hHeld.1 (by simp), k5.cell' hHeld.2 (by simp)⟩) (fun hHeld2 => ?_)
      try dsimp only at hHeld2
      clear hK hHeld
      have hHeld := hHeld2
      clear hHeld2
      try simp only [Act.put, List.setIfInBounds_toArray, List.set_cons_zero, List.set_cons_succ]
      refine wpAnyH_take (i := 7) (oi := { dst := some 36, op := Go.Op.binOp Go.BinOp.neq 3 (Go.Operand.tmp 35) (Go.Operand.const (Go.Value.int Go.IntKind.i64 0)) 3, type := 4, pos := "conds.go:19", after := #[{ on := 6, ground := Go.Ground.data }], guard := none }) (v := ?_) rfl (by kernel_rfl) (by kernel_rfl) (by kernel_rfl) (fun _ _ _ => plain_panic) (Or.inl ⟨by rfl, ?_⟩) (by assumption) ?_
      rotate_left
      · intro w7 hSw
        try dsimp only at hSw
        first | (go_simp; done) | (go_simp; with_reducible rfl)
      try simp only [Act.put, List.setIfInBounds_toArray, List.set_cons_zero, List.set_cons_succ]
      refine wpAnyH_done (by kernel_rfl) ⟨rfl, ?_⟩ _
      have HM5 : Hid (Cm w H nm (.slice (some ⟨bp, op, none⟩) ps.length cp) (.slice ax xs.length cx) ps w5) := HM.out.2.keep (HK7.out.trans' k5)
      clear hHeld HS7 HPk HK7 k5 n0 n1 HPm
      by_cases hkD : k < D
      · obtain rfl : q = 0 := HQ2.out.1 hkD
        go_wp2
        go_roundw
        case rel => exact ⟨k + 1, by simp, by omega, by omega, HM5.out⟩
        case measure => (simp [intOf]; try omega)
      · obtain rfl : k = D := by have := HM.out.1; omega
        have hq : (q != 0) = true := by simpa using HQ2.out.2 rfl
        obtain ⟨⟨g0, g1, g2, g3⟩, f0, f1, f2, f3⟩ := four_cell HM5.out.y
        have HV : Hid (chkV ps k E = .agg #[.int .i64 90, .int .i64 0, .int .i64 (k : Int), .int .i64 (-1)]) := by show chkV ps k E = _; unfold chkV; rw [if_pos hlt]
        clear HQ2 hkD
        go_wp2
        refine bodyPost_ret (v := .agg #[.int .i64 90, .int .i64 0, .int .i64 (k : Int), .int .i64 (-1)]) (by simp [results, Tryz.results6, go_sem, g0, g1, g2, g3]) rfl ⟨by rw [HV.out], ?_⟩
        refine Keep.setCell (Keep.setCell (Keep.setCell (Keep.setCell HM5.out.kp (.inr ?_) _) (.inr ?_) _) (.inr ?_) _) (.inr ?_) _
        all_goals (have := HHw.out; simp; omega)
    · obtain rfl : k = ps.length := by omega
      have hnl : ¬ (ps.length : Int) < (ps.length : Int) := by omega
      have hDl : D = ps.length := by have := HM.out.1; have := HD.out.le; omega
      have x0 := HM.out.2.x0
      have x1 := HM.out.2.x1
      have x2 := HM.out.2.x2
      have HV : Hid (chkV ps D E = if E.1 = 0 then F0 else .agg #[.int .i64 E.1, .int .i64 0, .int .i64 ((ps.length : Int) + E.2), .int .i64 (-1)]) := by show chkV ps D E = _; unfold chkV; rw [if_neg (by omega)]
      obtain ⟨e1, e2⟩ := E
      simp only at HKF HL HV
      obtain ⟨hl1, hl2, hl3⟩ := HL.out
      have hl4 : (ps.length : Int) ≤ 16 := by omega
      clear hDl
      go_wp2_with fail
      refine (HKF.out _ HM.out.2.kp).mono ?_
      rintro e w5 ⟨rfl, k5⟩
      have HM5 : Hid (Cm w H nm (.slice ap ps.length cp) (.slice ax xs.length cx) ps w5) := HM.out.2.keep k5
      obtain ⟨⟨g0, g1, g2, g3⟩, f0, f1, f2, f3⟩ := four_cell HM5.out.y
      have x1 := HM5.out.x1
      clear k5 HKF
      by_cases h1 : e1 = 0
      · subst h1
        have HV2 : Hid (chkV ps D (0, e2) = F0) := by show chkV ps D (0, e2) = _; rw [HV.out, if_pos rfl]
        clear HV
        go_wp2
        refine bodyPost_ret (v := F0) (by simp [results, Tryz.results6, go_sem, g0, g1, g2, g3]) rfl ⟨by rw [HV2.out], ?_⟩
        refine Keep.setCell (Keep.setCell (Keep.setCell (Keep.setCell HM5.out.kp (.inr ?_) _) (.inr ?_) _) (.inr ?_) _) (.inr ?_) _
        all_goals (have := HHw.out; simp; omega)
      · have h1b : (e1 != 0) = true := by simpa using h1
        have HV2 : Hid (chkV ps D (e1, e2) = .agg #[.int .i64 e1, .int .i64 0, .int .i64 ((ps.length : Int) + e2), .int .i64 (-1)]) := by show chkV ps D (e1, e2) = _; rw [HV.out, if_neg h1]
        clear h1 HV
        go_wp2
        refine bodyPost_ret (v := .agg #[.int .i64 e1, .int .i64 0, .int .i64 ((ps.length : Int) + e2), .int .i64 (-1)]) (by simp [results, Tryz.results6, go_sem, g0, g1, g2, g3]) rfl ⟨by rw [HV2.out], ?_⟩
        refine Keep.setCell (Keep.setCell (Keep.setCell (Keep.setCell HM5.out.kp (.inr ?_) _) (.inr ?_) _) (.inr ?_) _) (.inr ?_) _
        all_goals (have := HHw.out; simp; omega)
end Go.Proofs.YtplbclokoffgkaaGreatDoor
