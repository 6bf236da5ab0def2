/- The walk through such a list. -/
import Derived.Test.YtkelhglflpdpeaaGu

namespace Go.Proofs.Ytkelhglflpdpeaa
open Go.RowKit Go.PlainAid

open Go.Shelf
attribute [local go_sem] Oper.semAt_some

set_option maxRecDepth 100000 in
set_option maxHeartbeats 8000000 in
theorem list1_any {lp s0 Bw By B2 B3 N B : Nat} {X : List Nat} {vl : Value} {l : List Pr} {J Jx : List Pr → World → Prop} (T : Tel lp s0 Bw By B2 B3 N B X l J Jx) {a0 a1 a2 : Nat} {W : World} (hj : J [] W) (hc : Cn s0 Bw By B2 B3 lp vl l a0 a1 a2 true W) (ha : a0 ≤ 1099511627776 ∧ a1 ≤ 1099511627776 ∧ a2 + l.length ≤ 1152921504606846976) :
    Calls Try.prog 57 #[.func (.func 72) #[] #[.pointer (some ⟨Bw, 0, none⟩), .pointer (some ⟨By, 0, none⟩)], .pointer (some ⟨B3, 0, none⟩), .pointer (some ⟨B2, 0, none⟩)] W fun e W' => (∃ v, e = .returned v) ∧ ((J l W' ∧ Cn s0 Bw By B2 B3 lp vl l (a0 + 1) (a1 + 1) (a2 + l.length) true W') ∨ ∃ pre, pre <+: l ∧ Jx pre W' ∧ Cn s0 Bw By B2 B3 lp vl l (a0 + 1) (a1 + 1) (a2 + pre.length) false W') := by
  have HT : Hid (Tel lp s0 Bw By B2 B3 N B X l J Jx) := T
  have HC : Hid (Cn s0 Bw By B2 B3 lp vl l a0 a1 a2 true W) := hc
  have HJ : Hid (J [] W) := hj
  obtain ⟨ao, cap, rfl, hc1, hc2⟩ := hc.rd.form
  obtain ⟨ds, _, _, hfr, d3, _⟩ := hc.cells
  have hfr := hfr 0
  have b0 : (a0 : Int) ≤ 1099511627776 := by omega
  have b1 : (a1 : Int) ≤ 1099511627776 := by omega
  have b2 : (a2 : Int) + (l.length : Int) ≤ 1152921504606846976 := by omega
  have n0 : (0 : Int) ≤ (a0 : Int) := by omega
  have n1 : (0 : Int) ≤ (a1 : Int) := by omega
  have n2 : (0 : Int) ≤ (a2 : Int) := by omega
  have n3 : (0 : Int) ≤ (l.length : Int) := by omega
  clear T hc hj ha
  go_enter Try.func57, Try.ntmps57
  go_wp2_with fail
  refine wp_region_until 7 (S := (fun w' : World => w'.cell? ⟨B3, 0, none⟩ = some (.pointer (some ⟨s0, 0, none⟩)) ∧ w'.cell? ⟨s0, 0, none⟩ = some (.int .i64 (a0 : Int)))) (by kernel_rfl) (⟨d3, ds⟩) (fun hHeld => ?_)
  try dsimp only at hHeld
  refine AnyU.take (i := 0) (oi := { dst := some 5, op := Go.Op.load 57 (Go.Operand.tmp 1), type := 57, pos := "law.go:162", after := #[], guard := none }) (v := ?_) rfl (by kernel_rfl) (by kernel_rfl) (by kernel_rfl) (by kernel_rfl) (fun _ _ _ h => h) (Or.inl ⟨by rfl, ?_⟩) (by assumption) ?_
  rotate_left
  · intro w7 hSw
    try dsimp only at hSw
    first | (go_simp; done) | (go_simp; with_reducible rfl)
  try simp only [Act.put, List.setIfInBounds_toArray, List.set_cons_zero, List.set_cons_succ]
  refine AnyU.takeP (i := 1) (oi := { dst := some 6, op := Go.Op.nilCheck (Go.Operand.tmp 5), type := 0, pos := "law.go:162", after := #[{ on := 0, ground := Go.Ground.data }], guard := none }) (v := ?_) rfl (by kernel_rfl) (by kernel_rfl) (by kernel_rfl) (by kernel_rfl) (fun _ _ _ h => h) (Or.inl ⟨by rfl, ?_⟩) (fun _ => by assumption) ?_
  rotate_left
  · intro w7 hSw
    first | (go_simp; done) | (go_simp; with_reducible rfl)
  try simp only [Act.put, List.setIfInBounds_toArray, List.set_cons_zero, List.set_cons_succ]
  refine AnyU.takeP (i := 2) (oi := { dst := some 7, op := Go.Op.indexAddr 54 (Go.Operand.tmp 6) (Go.Operand.const (Go.Value.int Go.IntKind.i64 0)), type := 0, pos := "law.go:162", after := #[{ on := 1, ground := Go.Ground.data }], guard := none }) (v := ?_) rfl (by kernel_rfl) (by kernel_rfl) (by kernel_rfl) (by kernel_rfl) (fun _ _ _ h => h) (Or.inl ⟨by rfl, ?_⟩) (fun _ => by assumption) ?_
  rotate_left
  · intro w7 hSw
    first | (go_simp; done) | (go_simp; with_reducible rfl)
  try simp only [Act.put, List.setIfInBounds_toArray, List.set_cons_zero, List.set_cons_succ]
  refine AnyU.take (i := 3) (oi := { dst := some 8, op := Go.Op.load 3 (Go.Operand.tmp 7), type := 3, pos := "law.go:162", after := #[{ on := 2, ground := Go.Ground.data }], guard := none }) (v := ?_) rfl (by kernel_rfl) (by kernel_rfl) (by kernel_rfl) (by kernel_rfl) (fun _ _ _ h => h) (Or.inl ⟨by rfl, ?_⟩) (by assumption) ?_
  rotate_left
  · intro w7 hSw
    try dsimp only at hSw
    first | (go_simp; done) | (go_simp; with_reducible rfl)
  try simp only [Act.put, List.setIfInBounds_toArray, List.set_cons_zero, List.set_cons_succ]
  refine AnyU.takeP (i := 4) (oi := { dst := some 9, op := Go.Op.binOp Go.BinOp.add 3 (Go.Operand.tmp 8) (Go.Operand.const (Go.Value.int Go.IntKind.i64 1)) 3, type := 3, pos := "law.go:162", after := #[{ on := 3, ground := Go.Ground.data }], guard := none }) (v := ?_) rfl (by kernel_rfl) (by kernel_rfl) (by kernel_rfl) (by kernel_rfl) (fun _ _ _ h => h) (Or.inl ⟨by rfl, ?_⟩) (fun _ => by assumption) ?_
  rotate_left
  · intro w7 hSw
    first | (go_simp; done) | (go_simp; with_reducible rfl)
  try simp only [Act.put, List.setIfInBounds_toArray, List.set_cons_zero, List.set_cons_succ]
  refine AnyU.takeP (i := 5) (oi := { dst := some 10, op := Go.Op.nilCheck (Go.Operand.tmp 5), type := 0, pos := "law.go:162", after := #[{ on := 0, ground := Go.Ground.data }], guard := none }) (v := ?_) rfl (by kernel_rfl) (by kernel_rfl) (by kernel_rfl) (by kernel_rfl) (fun _ _ _ h => h) (Or.inl ⟨by rfl, ?_⟩) (fun _ => by assumption) ?_
  rotate_left
  · intro w7 hSw
    first | (go_simp; done) | (go_simp; with_reducible rfl)
  try simp only [Act.put, List.setIfInBounds_toArray, List.set_cons_zero, List.set_cons_succ]
  refine AnyU.takeP (i := 6) (oi := { dst := some 11, op := Go.Op.indexAddr 54 (Go.Operand.tmp 10) (Go.Operand.const (Go.Value.int Go.IntKind.i64 0)), type := 0, pos := "law.go:162", after := #[{ on := 5, ground := Go.Ground.data }, { on := 0, ground := Go.Ground.phase }, { on := 1, ground := Go.Ground.phase }, { on := 2, ground := Go.Ground.phase }, { on := 3, ground := Go.Ground.phase }, { on := 4, ground := Go.Ground.phase }], guard := none }) (v := ?_) rfl (by kernel_rfl) (by kernel_rfl) (by kernel_rfl) (by kernel_rfl) (fun _ _ _ h => h) (Or.inl ⟨by rfl, ?_⟩) (fun _ => by assumption) ?_
  rotate_left
  · intro w7 hSw
    first | (go_simp; done) | (go_simp; with_reducible rfl)
  try simp only [Act.put, List.setIfInBounds_toArray, List.set_cons_zero, List.set_cons_succ]
  refine AnyU.one (i := 7) (o := { dst := none, op := Go.Op.store 3 (Go.Operand.tmp 11) (Go.Operand.tmp 9), type := 0, pos := "law.go:162", after := #[{ on := 6, ground := Go.Ground.data }, { on := 4, ground := Go.Ground.data }, { on := 0, ground := Go.Ground.phase }, { on := 1, ground := Go.Ground.phase }, { on := 2, ground := Go.Ground.phase }, { on := 3, ground := Go.Ground.phase }, { on := 4, ground := Go.Ground.phase }], guard := none }) (by kernel_rfl) rfl (fun K hK => ?_)
  go_simp
  refine hK.out _ _ (fun h => Bool.noConfusion ((show _ = true from by kernel_rfl).symm.trans h)) (fun _ => ?_)
  clear hK hHeld
  try simp only [Act.put, List.setIfInBounds_toArray, List.set_cons_zero, List.set_cons_succ]
  refine AnyU.done (by kernel_rfl) ?_ _
  have HI0 : Hid (J [] (W.setCell ⟨s0, 0, none⟩ (.int .i64 (IntKind.i64.wrap ((a0 : Int) + 1)))).drew ∧ Cn s0 Bw By B2 B3 lp (.slice ao l.length cap) l (a0 + 1) a1 a2 true (W.setCell ⟨s0, 0, none⟩ (.int .i64 (IntKind.i64.wrap ((a0 : Int) + 1)))).drew) := HT.out.incJ HJ.out HC.out 0 _ (by rw [wrap_ok _ (by omega) (by omega)]; rfl)
  clear ds hfr d3 HJ HC
  generalize (W.setCell ⟨s0, 0, none⟩ (.int .i64 (IntKind.i64.wrap ((a0 : Int) + 1)))).drew = w1 at *
  go_wp2_with fail
  go_loopw [4] (fun iv wr => ∃ i : Nat, iv = .int .i64 (i : Int) ∧ i ≤ l.length ∧ Hid (J (l.take i) wr ∧ Cn s0 Bw By B2 B3 lp (.slice ao l.length cap) l (a0 + 1) a1 (a2 + i) true wr)) (fun iv _ => l.length - (intOf iv).toNat)
  case atStart => exact ⟨0, rfl, Nat.zero_le _, by have h := HI0.out; rw [show l.take 0 = [] from rfl]; exact h⟩
  case round =>
    obtain ⟨i, rfl, hi, HI⟩ := hrel
    obtain ⟨_, _, ds, hfr, d3, d2⟩ := HI.out.2.cells
    by_cases hlt : i < l.length
    · have hlti : (i : Int) < (l.length : Int) := by omega
      have hi0 : (0 : Int) ≤ (i : Int) := by omega
      have hfr := hfr 2
      go_wp2_with fail
      refine wp_region_until 7 (S := (fun w' : World => w'.cell? ⟨B3, 0, none⟩ = some (.pointer (some ⟨s0, 0, none⟩)) ∧ w'.cell? ⟨s0, 2, none⟩ = some (.int .i64 ((a2 + i : Nat) : Int)))) (by kernel_rfl) (⟨d3, ds⟩) (fun hHeld => ?_)
      try dsimp only at hHeld
      refine AnyU.take (i := 0) (oi := { dst := some 18, op := Go.Op.load 57 (Go.Operand.tmp 1), type := 57, pos := "law.go:164", after := #[], guard := none }) (v := ?_) rfl (by kernel_rfl) (by kernel_rfl) (by kernel_rfl) (by kernel_rfl) (fun _ _ _ h => h) (Or.inl ⟨by rfl, ?_⟩) (by assumption) ?_
      rotate_left
      · intro w7 hSw
        try dsimp only at hSw
        first | (go_simp; done) | (go_simp; with_reducible rfl)
      try simp only [Act.put, List.setIfInBounds_toArray, List.set_cons_zero, List.set_cons_succ]
      refine AnyU.takeP (i := 1) (oi := { dst := some 19, op := Go.Op.nilCheck (Go.Operand.tmp 18), type := 0, pos := "law.go:164", after := #[{ on := 0, ground := Go.Ground.data }], guard := none }) (v := ?_) rfl (by kernel_rfl) (by kernel_rfl) (by kernel_rfl) (by kernel_rfl) (fun _ _ _ h => h) (Or.inl ⟨by rfl, ?_⟩) (fun _ => by assumption) ?_
      rotate_left
      · intro w7 hSw
        first | (go_simp; done) | (go_simp; with_reducible rfl)
      try simp only [Act.put, List.setIfInBounds_toArray, List.set_cons_zero, List.set_cons_succ]
      refine AnyU.takeP (i := 2) (oi := { dst := some 20, op := Go.Op.indexAddr 54 (Go.Operand.tmp 19) (Go.Operand.const (Go.Value.int Go.IntKind.i64 2)), type := 0, pos := "law.go:164", after := #[{ on := 1, ground := Go.Ground.data }], guard := none }) (v := ?_) rfl (by kernel_rfl) (by kernel_rfl) (by kernel_rfl) (by kernel_rfl) (fun _ _ _ h => h) (Or.inl ⟨by rfl, ?_⟩) (fun _ => by assumption) ?_
      rotate_left
      · intro w7 hSw
        first | (go_simp; done) | (go_simp; with_reducible rfl)
      try simp only [Act.put, List.setIfInBounds_toArray, List.set_cons_zero, List.set_cons_succ]
      refine AnyU.take (i := 3) (oi := { dst := some 21, op := Go.Op.load 3 (Go.Operand.tmp 20), type := 3, pos := "law.go:164", after := #[{ on := 2, ground := Go.Ground.data }], guard := none }) (v := ?_) rfl (by kernel_rfl) (by kernel_rfl) (by kernel_rfl) (by kernel_rfl) (fun _ _ _ h => h) (Or.inl ⟨by rfl, ?_⟩) (by assumption) ?_
      rotate_left
      · intro w7 hSw
        try dsimp only at hSw
        first | (go_simp; done) | (go_simp; with_reducible rfl)
      try simp only [Act.put, List.setIfInBounds_toArray, List.set_cons_zero, List.set_cons_succ]
      refine AnyU.takeP (i := 4) (oi := { dst := some 22, op := Go.Op.binOp Go.BinOp.add 3 (Go.Operand.tmp 21) (Go.Operand.const (Go.Value.int Go.IntKind.i64 1)) 3, type := 3, pos := "law.go:164", after := #[{ on := 3, ground := Go.Ground.data }], guard := none }) (v := ?_) rfl (by kernel_rfl) (by kernel_rfl) (by kernel_rfl) (by kernel_rfl) (fun _ _ _ h => h) (Or.inl ⟨by rfl, ?_⟩) (fun _ => by assumption) ?_
      rotate_left
      · intro w7 hSw
        first | (go_simp; done) | (go_simp; with_reducible rfl)
      try simp only [Act.put, List.setIfInBounds_toArray, List.set_cons_zero, List.set_cons_succ]
      refine AnyU.takeP (i := 5) (oi := { dst := some 23, op := Go.Op.nilCheck (Go.Operand.tmp 18), type := 0, pos := "law.go:164", after := #[{ on := 0, ground := Go.Ground.data }], guard := none }) (v := ?_) rfl (by kernel_rfl) (by kernel_rfl) (by kernel_rfl) (by kernel_rfl) (fun _ _ _ h => h) (Or.inl ⟨by rfl, ?_⟩) (fun _ => by assumption) ?_
      rotate_left
      · intro w7 hSw
        first | (go_simp; done) | (go_simp; with_reducible rfl)
      try simp only [Act.put, List.setIfInBounds_toArray, List.set_cons_zero, List.set_cons_succ]
      refine AnyU.takeP (i := 6) (oi := { dst := some 24, op := Go.Op.indexAddr 54 (Go.Operand.tmp 23) (Go.Operand.const (Go.Value.int Go.IntKind.i64 2)), type := 0, pos := "law.go:164", after := #[{ on := 5, ground := Go.Ground.data }, { on := 0, ground := Go.Ground.phase }, { on := 1, ground := Go.Ground.phase }, { on := 2, ground := Go.Ground.phase }, { on := 3, ground := Go.Ground.phase }, { on := 4, ground := Go.Ground.phase }], guard := none }) (v := ?_) rfl (by kernel_rfl) (by kernel_rfl) (by kernel_rfl) (by kernel_rfl) (fun _ _ _ h => h) (Or.inl ⟨by rfl, ?_⟩) (fun _ => by assumption) ?_
      rotate_left
      · intro w7 hSw
        first | (go_simp; done) | (go_simp; with_reducible rfl)
      try simp only [Act.put, List.setIfInBounds_toArray, List.set_cons_zero, List.set_cons_succ]
      refine AnyU.one (i := 7) (o := { dst := none, op := Go.Op.store 3 (Go.Operand.tmp 24) (Go.Operand.tmp 22), type := 0, pos := "law.go:164", after := #[{ on := 6, ground := Go.Ground.data }, { on := 4, ground := Go.Ground.data }, { on := 0, ground := Go.Ground.phase }, { on := 1, ground := Go.Ground.phase }, { on := 2, ground := Go.Ground.phase }, { on := 3, ground := Go.Ground.phase }, { on := 4, ground := Go.Ground.phase }], guard := none }) (by kernel_rfl) rfl (fun K hK => ?_)
      go_simp
      refine hK.out _ _ (fun h => Bool.noConfusion ((show _ = true from by kernel_rfl).symm.trans h)) (fun _ => ?_)
      clear hK hHeld
      try simp only [Act.put, List.setIfInBounds_toArray, List.set_cons_zero, List.set_cons_succ]
      refine AnyU.done (by kernel_rfl) ?_ _
      have HI2 : Hid (J (l.take i) (wr.setCell ⟨s0, 2, none⟩ (.int .i64 (IntKind.i64.wrap ((a2 : Int) + (i : Int) + 1)))).drew ∧ Cn s0 Bw By B2 B3 lp (.slice ao l.length cap) l (a0 + 1) a1 (a2 + (i + 1)) true (wr.setCell ⟨s0, 2, none⟩ (.int .i64 (IntKind.i64.wrap ((a2 : Int) + (i : Int) + 1)))).drew) := HT.out.incJ HI.out.1 HI.out.2 2 _ (by rw [wrap_ok _ (by omega) (by omega)]; simp; omega)
      clear ds hfr d3 d2 HI
      generalize (wr.setCell ⟨s0, 2, none⟩ (.int .i64 (IntKind.i64.wrap ((a2 : Int) + (i : Int) + 1)))).drew = w2 at *
      obtain ⟨_, _, _, _, _, d2⟩ := HI2.out.2.cells
      obtain ⟨bx, o2, c2, he, hbx, e0, e1⟩ := HI2.out.2.rd.pair i hlt
      simp at he
      obtain ⟨rfl, rfl⟩ := he
      have HA : Hid (type_of% (told72 HT.out i hlt HI2.out.1 HI2.out.2)) := told72 HT.out i hlt HI2.out.1 HI2.out.2
      have HIL : Hid (i < l.length) := hlt
      generalize l[i] = x at *
      go_wp2_with (go_at_call 72; refine HA.out.mono ?_; clear HA; rintro e w3 (⟨rfl, j3, c3⟩ | ⟨rfl, j3, c3⟩))
      · refine ⟨⟨i + 1, by simp, HIL.out, j3, c3⟩, ?_⟩
        simp [intOf]
        have := HIL.out
        omega
      · have HX : Hid (Jx (l.take (i + 1)) w3 ∧ Cn s0 Bw By B2 B3 lp (.slice (some ⟨bx, o2, none⟩) l.length cap) l (a0 + 1) a1 (a2 + (i + 1)) false w3) := ⟨j3, c3⟩
        clear j3 c3 d2 e0 e1 hbx
        clear HI2
        obtain ⟨_, ds, _, hfr, d3, _⟩ := HX.out.2.cells
        have hfr := hfr 1
        refine wp_region_until 7 (S := (fun w' : World => w'.cell? ⟨B3, 0, none⟩ = some (.pointer (some ⟨s0, 0, none⟩)) ∧ w'.cell? ⟨s0, 1, none⟩ = some (.int .i64 (a1 : Int)))) (by kernel_rfl) (⟨d3, ds⟩) (fun hHeld => ?_)
        try dsimp only at hHeld
        refine AnyU.take (i := 0) (oi := { dst := some 32, op := Go.Op.load 57 (Go.Operand.tmp 1), type := 57, pos := "law.go:169", after := #[], guard := none }) (v := ?_) rfl (by kernel_rfl) (by kernel_rfl) (by kernel_rfl) (by kernel_rfl) (fun _ _ _ h => h) (Or.inl ⟨by rfl, ?_⟩) (by assumption) ?_
        rotate_left
        · intro w7 hSw
          try dsimp only at hSw
          first | (go_simp; done) | (go_simp; with_reducible rfl)
        try simp only [Act.put, List.setIfInBounds_toArray, List.set_cons_zero, List.set_cons_succ]
        refine AnyU.takeP (i := 1) (oi := { dst := some 33, op := Go.Op.nilCheck (Go.Operand.tmp 32), type := 0, pos := "law.go:169", after := #[{ on := 0, ground := Go.Ground.data }], guard := none }) (v := ?_) rfl (by kernel_rfl) (by kernel_rfl) (by kernel_rfl) (by kernel_rfl) (fun _ _ _ h => h) (Or.inl ⟨by rfl, ?_⟩) (fun _ => by assumption) ?_
        rotate_left
        · intro w7 hSw
          first | (go_simp; done) | (go_simp; with_reducible rfl)
        try simp only [Act.put, List.setIfInBounds_toArray, List.set_cons_zero, List.set_cons_succ]
        refine AnyU.takeP (i := 2) (oi := { dst := some 34, op := Go.Op.indexAddr 54 (Go.Operand.tmp 33) (Go.Operand.const (Go.Value.int Go.IntKind.i64 1)), type := 0, pos := "law.go:169", after := #[{ on := 1, ground := Go.Ground.data }], guard := none }) (v := ?_) rfl (by kernel_rfl) (by kernel_rfl) (by kernel_rfl) (by kernel_rfl) (fun _ _ _ h => h) (Or.inl ⟨by rfl, ?_⟩) (fun _ => by assumption) ?_
        rotate_left
        · intro w7 hSw
          first | (go_simp; done) | (go_simp; with_reducible rfl)
        try simp only [Act.put, List.setIfInBounds_toArray, List.set_cons_zero, List.set_cons_succ]
        refine AnyU.take (i := 3) (oi := { dst := some 35, op := Go.Op.load 3 (Go.Operand.tmp 34), type := 3, pos := "law.go:169", after := #[{ on := 2, ground := Go.Ground.data }], guard := none }) (v := ?_) rfl (by kernel_rfl) (by kernel_rfl) (by kernel_rfl) (by kernel_rfl) (fun _ _ _ h => h) (Or.inl ⟨by rfl, ?_⟩) (by assumption) ?_
        rotate_left
        · intro w7 hSw
          try dsimp only at hSw
          first | (go_simp; done) | (go_simp; with_reducible rfl)
        try simp only [Act.put, List.setIfInBounds_toArray, List.set_cons_zero, List.set_cons_succ]
        refine AnyU.takeP (i := 4) (oi := { dst := some 36, op := Go.Op.binOp Go.BinOp.add 3 (Go.Operand.tmp 35) (Go.Operand.const (Go.Value.int Go.IntKind.i64 1)) 3, type := 3, pos := "law.go:169", after := #[{ on := 3, ground := Go.Ground.data }], guard := none }) (v := ?_) rfl (by kernel_rfl) (by kernel_rfl) (by kernel_rfl) (by kernel_rfl) (fun _ _ _ h => h) (Or.inl ⟨by rfl, ?_⟩) (fun _ => by assumption) ?_
        rotate_left
        · intro w7 hSw
          first | (go_simp; done) | (go_simp; with_reducible rfl)
        try simp only [Act.put, List.setIfInBounds_toArray, List.set_cons_zero, List.set_cons_succ]
        refine AnyU.takeP (i := 5) (oi := { dst := some 37, op := Go.Op.nilCheck (Go.Operand.tmp 32), type := 0, pos := "law.go:169", after := #[{ on := 0, ground := Go.Ground.data }], guard := none }) (v := ?_) rfl (by kernel_rfl) (by kernel_rfl) (by kernel_rfl) (by kernel_rfl) (fun _ _ _ h => h) (Or.inl ⟨by rfl, ?_⟩) (fun _ => by assumption) ?_
        rotate_left
        · intro w7 hSw
          first | (go_simp; done) | (go_simp; with_reducible rfl)
        try simp only [Act.put, List.setIfInBounds_toArray, List.set_cons_zero, List.set_cons_succ]
        refine AnyU.takeP (i := 6) (oi := { dst := some 38, op := Go.Op.indexAddr 54 (Go.Operand.tmp 37) (Go.Operand.const (Go.Value.int Go.IntKind.i64 1)), type := 0, pos := "law.go:169", after := #[{ on := 5, ground := Go.Ground.data }, { on := 0, ground := Go.Ground.phase }, { on := 1, ground := Go.Ground.phase }, { on := 2, ground := Go.Ground.phase }, { on := 3, ground := Go.Ground.phase }, { on := 4, ground := Go.Ground.phase }], guard := none }) (v := ?_) rfl (by kernel_rfl) (by kernel_rfl) (by kernel_rfl) (by kernel_rfl) (fun _ _ _ h => h) (Or.inl ⟨by rfl, ?_⟩) (fun _ => by assumption) ?_
        rotate_left
        · intro w7 hSw
          first | (go_simp; done) | (go_simp; with_reducible rfl)
        try simp only [Act.put, List.setIfInBounds_toArray, List.set_cons_zero, List.set_cons_succ]
        refine AnyU.one (i := 7) (o := { dst := none, op := Go.Op.store 3 (Go.Operand.tmp 38) (Go.Operand.tmp 36), type := 0, pos := "law.go:169", after := #[{ on := 6, ground := Go.Ground.data }, { on := 4, ground := Go.Ground.data }, { on := 0, ground := Go.Ground.phase }, { on := 1, ground := Go.Ground.phase }, { on := 2, ground := Go.Ground.phase }, { on := 3, ground := Go.Ground.phase }, { on := 4, ground := Go.Ground.phase }], guard := none }) (by kernel_rfl) rfl (fun K hK => ?_)
        go_simp
        refine hK.out _ _ (fun h => Bool.noConfusion ((show _ = true from by kernel_rfl).symm.trans h)) (fun _ => ?_)
        clear hK hHeld
        try simp only [Act.put, List.setIfInBounds_toArray, List.set_cons_zero, List.set_cons_succ]
        refine AnyU.done (by kernel_rfl) ?_ _
        have hf := HT.out.incX HX.out.1 HX.out.2 1 (.int .i64 (IntKind.i64.wrap ((a1 : Int) + 1))) (b0 := a0 + 1) (b1 := a1 + 1) (b2 := a2 + (i + 1)) (by rw [wrap_ok _ (by omega) (by omega)]; rfl)
        go_end0
        refine ⟨⟨_, rfl⟩, .inr ⟨l.take (i + 1), List.take_prefix _ _, hf.1, ?_⟩⟩
        rw [List.length_take, show min (i + 1) l.length = i + 1 from by have := HIL.out; omega]
        exact hf.2
    · obtain rfl : i = l.length := by omega
      have hnl : ¬ (l.length : Int) < (l.length : Int) := by omega
      clear ds hfr d3
      go_wp2_with fail
      obtain ⟨_, ds, _, hfr, d3, _⟩ := HI.out.2.cells
      have hfr := hfr 1
      go_wp2_with fail
      refine wp_region_until 7 (S := (fun w' : World => w'.cell? ⟨B3, 0, none⟩ = some (.pointer (some ⟨s0, 0, none⟩)) ∧ w'.cell? ⟨s0, 1, none⟩ = some (.int .i64 (a1 : Int)))) (by kernel_rfl) (⟨d3, ds⟩) (fun hHeld => ?_)
      try dsimp only at hHeld
      refine AnyU.take (i := 0) (oi := { dst := some 32, op := Go.Op.load 57 (Go.Operand.tmp 1), type := 57, pos := "law.go:169", after := #[], guard := none }) (v := ?_) rfl (by kernel_rfl) (by kernel_rfl) (by kernel_rfl) (by kernel_rfl) (fun _ _ _ h => h) (Or.inl ⟨by rfl, ?_⟩) (by assumption) ?_
      rotate_left
      · intro w7 hSw
        try dsimp only at hSw
        first | (go_simp; done) | (go_simp; with_reducible rfl)
      try simp only [Act.put, List.setIfInBounds_toArray, List.set_cons_zero, List.set_cons_succ]
      refine AnyU.takeP (i := 1) (oi := { dst := some 33, op := Go.Op.nilCheck (Go.Operand.tmp 32), type := 0, pos := "law.go:169", after := #[{ on := 0, ground := Go.Ground.data }], guard := none }) (v := ?_) rfl (by kernel_rfl) (by kernel_rfl) (by kernel_rfl) (by kernel_rfl) (fun _ _ _ h => h) (Or.inl ⟨by rfl, ?_⟩) (fun _ => by assumption) ?_
      rotate_left
      · intro w7 hSw
        first | (go_simp; done) | (go_simp; with_reducible rfl)
      try simp only [Act.put, List.setIfInBounds_toArray, List.set_cons_zero, List.set_cons_succ]
      refine AnyU.takeP (i := 2) (oi := { dst := some 34, op := Go.Op.indexAddr 54 (Go.Operand.tmp 33) (Go.Operand.const (Go.Value.int Go.IntKind.i64 1)), type := 0, pos := "law.go:169", after := #[{ on := 1, ground := Go.Ground.data }], guard := none }) (v := ?_) rfl (by kernel_rfl) (by kernel_rfl) (by kernel_rfl) (by kernel_rfl) (fun _ _ _ h => h) (Or.inl ⟨by rfl, ?_⟩) (fun _ => by assumption) ?_
      rotate_left
      · intro w7 hSw
        first | (go_simp; done) | (go_simp; with_reducible rfl)
      try simp only [Act.put, List.setIfInBounds_toArray, List.set_cons_zero, List.set_cons_succ]
      refine AnyU.take (i := 3) (oi := { dst := some 35, op := Go.Op.load 3 (Go.Operand.tmp 34), type := 3, pos := "law.go:169", after := #[{ on := 2, ground := Go.Ground.data }], guard := none }) (v := ?_) rfl (by kernel_rfl) (by kernel_rfl) (by kernel_rfl) (by kernel_rfl) (fun _ _ _ h => h) (Or.inl ⟨by rfl, ?_⟩) (by assumption) ?_
      rotate_left
      · intro w7 hSw
        try dsimp only at hSw
        first | (go_simp; done) | (go_simp; with_reducible rfl)
      try simp only [Act.put, List.setIfInBounds_toArray, List.set_cons_zero, List.set_cons_succ]
      refine AnyU.takeP (i := 4) (oi := { dst := some 36, op := Go.Op.binOp Go.BinOp.add 3 (Go.Operand.tmp 35) (Go.Operand.const (Go.Value.int Go.IntKind.i64 1)) 3, type := 3, pos := "law.go:169", after := #[{ on := 3, ground := Go.Ground.data }], guard := none }) (v := ?_) rfl (by kernel_rfl) (by kernel_rfl) (by kernel_rfl) (by kernel_rfl) (fun _ _ _ h => h) (Or.inl ⟨by rfl, ?_⟩) (fun _ => by assumption) ?_
      rotate_left
      · intro w7 hSw
        first | (go_simp; done) | (go_simp; with_reducible rfl)
      try simp only [Act.put, List.setIfInBounds_toArray, List.set_cons_zero, List.set_cons_succ]
      refine AnyU.takeP (i := 5) (oi := { dst := some 37, op := Go.Op.nilCheck (Go.Operand.tmp 32), type := 0, pos := "law.go:169", after := #[{ on := 0, ground := Go.Ground.data }], guard := none }) (v := ?_) rfl (by kernel_rfl) (by kernel_rfl) (by kernel_rfl) (by kernel_rfl) (fun _ _ _ h => h) (Or.inl ⟨by rfl, ?_⟩) (fun _ => by assumption) ?_
      rotate_left
      · intro w7 hSw
        first | (go_simp; done) | (go_simp; with_reducible rfl)
      try simp only [Act.put, List.setIfInBounds_toArray, List.set_cons_zero, List.set_cons_succ]
      refine AnyU.takeP (i := 6) (oi := { dst := some 38, op := Go.Op.indexAddr 54 (Go.Operand.tmp 37) (Go.Operand.const (Go.Value.int Go.IntKind.i64 1)), type := 0, pos := "law.go:169", after := #[{ on := 5, ground := Go.Ground.data }, { on := 0, ground := Go.Ground.phase }, { on := 1, ground := Go.Ground.phase }, { on := 2, ground := Go.Ground.phase }, { on := 3, ground := Go.Ground.phase }, { on := 4, ground := Go.Ground.phase }], guard := none }) (v := ?_) rfl (by kernel_rfl) (by kernel_rfl) (by kernel_rfl) (by kernel_rfl) (fun _ _ _ h => h) (Or.inl ⟨by rfl, ?_⟩) (fun _ => by assumption) ?_
      rotate_left
      · intro w7 hSw
        first | (go_simp; done) | (go_simp; with_reducible rfl)
      try simp only [Act.put, List.setIfInBounds_toArray, List.set_cons_zero, List.set_cons_succ]
      refine AnyU.one (i := 7) (o := { dst := none, op := Go.Op.store 3 (Go.Operand.tmp 38) (Go.Operand.tmp 36), type := 0, pos := "law.go:169", after := #[{ on := 6, ground := Go.Ground.data }, { on := 4, ground := Go.Ground.data }, { on := 0, ground := Go.Ground.phase }, { on := 1, ground := Go.Ground.phase }, { on := 2, ground := Go.Ground.phase }, { on := 3, ground := Go.Ground.phase }, { on := 4, ground := Go.Ground.phase }], guard := none }) (by kernel_rfl) rfl (fun K hK => ?_)
      go_simp
      refine hK.out _ _ (fun h => Bool.noConfusion ((show _ = true from by kernel_rfl).symm.trans h)) (fun _ => ?_)
      clear hK hHeld
      try simp only [Act.put, List.setIfInBounds_toArray, List.set_cons_zero, List.set_cons_succ]
      refine AnyU.done (by kernel_rfl) ?_ _
      have hf := HT.out.incJ HI.out.1 HI.out.2 1 (.int .i64 (IntKind.i64.wrap ((a1 : Int) + 1))) (b0 := a0 + 1) (b1 := a1 + 1) (b2 := a2 + l.length) (by rw [wrap_ok _ (by omega) (by omega)]; rfl)
      rw [List.take_length] at hf
      go_end0
      exact ⟨⟨_, rfl⟩, .inl hf⟩

end Go.Proofs.Ytkelhglflpdpeaa
