/- The walk of TuplesOrder: some cases. -/
import Derived.Test.YtclapbpkkaljgaaGreatDoorOrG
namespace Go.Proofs.YtclapbpkkaljgaaGreatDoor
open Go.RowKit Go.PlainAid

set_option maxRecDepth 1000000 in
set_option maxHeartbeats 12800000 in
theorem order_pp (x y z : K7) (u v t : Value) (l m p : List AD) (w : World) (hM : MaxL w) (hu : As w u l) (hv : As w v m) (ht : As w t p) (hX : cmpK x y = 1) (hU : bckK x y = 1) :
    Calls Tryz.prog 3 #[x.tup u, y.tup v, z.tup t] w fun e w' => e = .returned (.bool true) ∧ Keep [] w w' := by
  have hC1 := fun w1 => tCompare_any x y u v w1
  have hC2 := fun w1 => tCompare_any y z v t w1
  have hC3 := fun w1 => tCompare_any x z u t w1
  have hB1 := fun w1 => tBackward_any x y u v w1
  have hB2 := fun w1 => tBackward_any y z v t w1
  have hB3 := fun w1 => tBackward_any x z u t w1
  have hC4 := fun w1 => tCompare_any y x v u w1
  have hB4 := fun w1 => tBackward_any y x v u w1
  have hKy := fun w1 => tkey_any x y u v w1
  have hSm := fun w1 (k : Keep [] w w1) => tSame_any x y u v l m w1 (hu.keep0 k) (hv.keep0 k)
  have hSa := fun w1 (k : Keep [] w w1) => sameArgs_any u v l m w1 (hu.keep0 k) (hv.keep0 k)
  have hAw := fun w1 (k : Keep [] w w1) => awake_any w1 (hM.keep k)
  have HF := ordF x y z
  have HB := ordB x y z
  have HSM : Hid (samT x y l m = (tkeyB x y && ((x.g.toList == y.g.toList) && sameAL l m))) := rfl
  have hK0 : tkeyB x y = false := HF.same.symm.trans (by rw [hX]; decide)
  have hQ4 : cmpK y x = (-1) := by have := HF.anti; omega
  have hR4 : bckK y x = (-1) := by have := HB.anti; omega
  rw [hX] at hC1
  rw [hU] at hB1
  rw [hQ4] at hC4
  rw [hR4] at hB4
  rw [hK0] at hKy HSM
  obtain ⟨ao, ca, rfl, _, _, _⟩ := hu.ex
  obtain ⟨bo, cb, rfl, _, _, _⟩ := hv.ex
  obtain ⟨co, cc, rfl, _, _, _⟩ := ht.ex
  clear hu hv ht hM HF HB hX hU hQ4 hR4 hK0
  generalize cmpK y z = q2 at hC2
  generalize cmpK x z = q3 at hC3
  generalize bckK y z = r2 at hB2
  generalize bckK x z = r3 at hB3
  generalize samT x y l m = sm at hSm HSM
  generalize sameAL l m = sa at hSa HSM
  obtain ⟨xa, xb, xc, xd, xe, xf, xg⟩ := x
  obtain ⟨ya, yb, yc, yd, ye, yf, yg⟩ := y
  obtain ⟨za, zb, zc, zd, ze, zf, zg⟩ := z
  simp only [] at HSM
  go_enter Tryz.func3, Tryz.ntmps3
  go_wp2_with fail
  refine (hC1 _).mono ?_
  rintro e9 w1 ⟨rfl, k9⟩
  have HG1 : Hid _ := G3.first (x := ⟨xa, xb, xc, xd, xe, xf, xg⟩) (y := ⟨ya, yb, yc, yd, ye, yf, yg⟩) (z := ⟨za, zb, zc, zd, ze, zf, zg⟩) k9
  clear k9
  obtain ⟨qa0, qa1, qa2, qa3, qa4, qa5, qa6, qa7, qb0, qb1, qb2, qb3, qb4, qb5, qb6, qb7, qc0, qc1, qc2, qc3, qc4, qc5, qc6, qc7⟩ := HG1.out.1
  go_wp2_with fail
  refine (hC2 _).mono ?_
  rintro e9 w2 ⟨rfl, k9⟩
  have HG2 : Hid _ := And.intro (HG1.out.1.keep k9) (HG1.out.2.trans' k9)
  clear k9 qa0 qa1 qa2 qa3 qa4 qa5 qa6 qa7 qb0 qb1 qb2 qb3 qb4 qb5 qb6 qb7 qc0 qc1 qc2 qc3 qc4 qc5 qc6 qc7 HG1
  obtain ⟨qa0, qa1, qa2, qa3, qa4, qa5, qa6, qa7, qb0, qb1, qb2, qb3, qb4, qb5, qb6, qb7, qc0, qc1, qc2, qc3, qc4, qc5, qc6, qc7⟩ := HG2.out.1
  go_wp2_with fail
  refine (hC3 _).mono ?_
  rintro e9 w3 ⟨rfl, k9⟩
  have HG3 : Hid _ := And.intro (HG2.out.1.keep k9) (HG2.out.2.trans' k9)
  clear k9 qa0 qa1 qa2 qa3 qa4 qa5 qa6 qa7 qb0 qb1 qb2 qb3 qb4 qb5 qb6 qb7 qc0 qc1 qc2 qc3 qc4 qc5 qc6 qc7 HG2
  obtain ⟨qa0, qa1, qa2, qa3, qa4, qa5, qa6, qa7, qb0, qb1, qb2, qb3, qb4, qb5, qb6, qb7, qc0, qc1, qc2, qc3, qc4, qc5, qc6, qc7⟩ := HG3.out.1
  go_wp2_with fail
  refine (hB1 _).mono ?_
  rintro e9 w4 ⟨rfl, k9⟩
  have HG4 : Hid _ := And.intro (HG3.out.1.keep k9) (HG3.out.2.trans' k9)
  clear k9 qa0 qa1 qa2 qa3 qa4 qa5 qa6 qa7 qb0 qb1 qb2 qb3 qb4 qb5 qb6 qb7 qc0 qc1 qc2 qc3 qc4 qc5 qc6 qc7 HG3
  obtain ⟨qa0, qa1, qa2, qa3, qa4, qa5, qa6, qa7, qb0, qb1, qb2, qb3, qb4, qb5, qb6, qb7, qc0, qc1, qc2, qc3, qc4, qc5, qc6, qc7⟩ := HG4.out.1
  go_wp2_with fail
  refine (hB2 _).mono ?_
  rintro e9 w5 ⟨rfl, k9⟩
  have HG5 : Hid _ := And.intro (HG4.out.1.keep k9) (HG4.out.2.trans' k9)
  clear k9 qa0 qa1 qa2 qa3 qa4 qa5 qa6 qa7 qb0 qb1 qb2 qb3 qb4 qb5 qb6 qb7 qc0 qc1 qc2 qc3 qc4 qc5 qc6 qc7 HG4
  obtain ⟨qa0, qa1, qa2, qa3, qa4, qa5, qa6, qa7, qb0, qb1, qb2, qb3, qb4, qb5, qb6, qb7, qc0, qc1, qc2, qc3, qc4, qc5, qc6, qc7⟩ := HG5.out.1
  go_wp2_with fail
  refine (hB3 _).mono ?_
  rintro e9 w6 ⟨rfl, k9⟩
  have HG6 : Hid _ := And.intro (HG5.out.1.keep k9) (HG5.out.2.trans' k9)
  clear k9 qa0 qa1 qa2 qa3 qa4 qa5 qa6 qa7 qb0 qb1 qb2 qb3 qb4 qb5 qb6 qb7 qc0 qc1 qc2 qc3 qc4 qc5 qc6 qc7 HG5
  obtain ⟨qa0, qa1, qa2, qa3, qa4, qa5, qa6, qa7, qb0, qb1, qb2, qb3, qb4, qb5, qb6, qb7, qc0, qc1, qc2, qc3, qc4, qc5, qc6, qc7⟩ := HG6.out.1
  go_wp2_with fail
  refine (hC4 _).mono ?_
  rintro e9 w7 ⟨rfl, k9⟩
  have HG7 : Hid _ := And.intro (HG6.out.1.keep k9) (HG6.out.2.trans' k9)
  clear k9 qa0 qa1 qa2 qa3 qa4 qa5 qa6 qa7 qb0 qb1 qb2 qb3 qb4 qb5 qb6 qb7 qc0 qc1 qc2 qc3 qc4 qc5 qc6 qc7 HG6
  obtain ⟨qa0, qa1, qa2, qa3, qa4, qa5, qa6, qa7, qb0, qb1, qb2, qb3, qb4, qb5, qb6, qb7, qc0, qc1, qc2, qc3, qc4, qc5, qc6, qc7⟩ := HG7.out.1
  go_wp2_with fail
  refine (hB4 _).mono ?_
  rintro e9 w8 ⟨rfl, k9⟩
  have HG8 : Hid _ := And.intro (HG7.out.1.keep k9) (HG7.out.2.trans' k9)
  clear k9 qa0 qa1 qa2 qa3 qa4 qa5 qa6 qa7 qb0 qb1 qb2 qb3 qb4 qb5 qb6 qb7 qc0 qc1 qc2 qc3 qc4 qc5 qc6 qc7 HG7
  obtain ⟨qa0, qa1, qa2, qa3, qa4, qa5, qa6, qa7, qb0, qb1, qb2, qb3, qb4, qb5, qb6, qb7, qc0, qc1, qc2, qc3, qc4, qc5, qc6, qc7⟩ := HG8.out.1
  go_wp2_with fail
  refine (hKy _).mono ?_
  rintro e9 w9 ⟨rfl, k9⟩
  have HG9 : Hid _ := And.intro (HG8.out.1.keep k9) (HG8.out.2.trans' k9)
  clear k9 qa0 qa1 qa2 qa3 qa4 qa5 qa6 qa7 qb0 qb1 qb2 qb3 qb4 qb5 qb6 qb7 qc0 qc1 qc2 qc3 qc4 qc5 qc6 qc7 HG8
  obtain ⟨qa0, qa1, qa2, qa3, qa4, qa5, qa6, qa7, qb0, qb1, qb2, qb3, qb4, qb5, qb6, qb7, qc0, qc1, qc2, qc3, qc4, qc5, qc6, qc7⟩ := HG9.out.1
  go_wp2_with fail
  refine (hKy _).mono ?_
  rintro e9 w10 ⟨rfl, k9⟩
  have HG10 : Hid _ := And.intro (HG9.out.1.keep k9) (HG9.out.2.trans' k9)
  clear k9 qa0 qa1 qa2 qa3 qa4 qa5 qa6 qa7 qb0 qb1 qb2 qb3 qb4 qb5 qb6 qb7 qc0 qc1 qc2 qc3 qc4 qc5 qc6 qc7 HG9
  obtain ⟨qa0, qa1, qa2, qa3, qa4, qa5, qa6, qa7, qb0, qb1, qb2, qb3, qb4, qb5, qb6, qb7, qc0, qc1, qc2, qc3, qc4, qc5, qc6, qc7⟩ := HG10.out.1
  clear hC1 hC2 hC3 hB1 hB2 hB3 hC4 hB4
  go_upto_region 9 with (fail)
  go_cut [122] from 13 (fun s122 wq => s122 = .bool false ∧ Hid (G3 wq w.heap.size ⟨xa, xb, xc, xd, xe, xf, xg⟩ ⟨ya, yb, yc, yd, ye, yf, yg⟩ ⟨za, zb, zc, zd, ze, zf, zg⟩ (.slice ao l.length ca) (.slice bo m.length cb) (.slice co p.length cc) ∧ Keep [] w wq))
  case first =>
    clear hSm hSa hAw hKy HSM qa0 qa1 qa2 qa3 qa4 qa5 qa6 qa7 qb0 qb1 qb2 qb3 qb4 qb5 qb6 qb7 qc0 qc1 qc2 qc3 qc4 qc5 qc6 qc7
    all_goals
      go_wp2
      go_meet
      case rel => exact ⟨by first | rfl | exact congrArg Value.bool (decide_eq_false (by omega)), HG10.out⟩
  case rest =>
    clear qa0 qa1 qa2 qa3 qa4 qa5 qa6 qa7 qb0 qb1 qb2 qb3 qb4 qb5 qb6 qb7 qc0 qc1 qc2 qc3 qc4 qc5 qc6 qc7 HG10
    obtain ⟨rfl, HG8⟩ := hcut
    obtain ⟨qa0, qa1, qa2, qa3, qa4, qa5, qa6, qa7, qb0, qb1, qb2, qb3, qb4, qb5, qb6, qb7, qc0, qc1, qc2, qc3, qc4, qc5, qc6, qc7⟩ := HG8.out.1
    go_upto_region 11 with (fail)
    go_cut [139] from 13 (fun s139 wq => s139 = .bool false ∧ Hid (G3 wq w.heap.size ⟨xa, xb, xc, xd, xe, xf, xg⟩ ⟨ya, yb, yc, yd, ye, yf, yg⟩ ⟨za, zb, zc, zd, ze, zf, zg⟩ (.slice ao l.length ca) (.slice bo m.length cb) (.slice co p.length cc) ∧ Keep [] w wq))
    case first =>
      clear hSm hSa hAw hKy HSM
      by_cases h1 : xa.toList = ya.toList
      · by_cases h2 : xb.toList = yb.toList
        · by_cases h3 : xc.toList = yc.toList
          · go_wp2
            go_meet
            case rel => exact ⟨rfl, HG8.out⟩
          · go_wp2
            go_meet
            case rel => exact ⟨rfl, HG8.out⟩
        · go_wp2
          go_meet
          case rel => exact ⟨rfl, HG8.out⟩
      · go_wp2
        go_meet
        case rel => exact ⟨rfl, HG8.out⟩
    case rest =>
      clear qa0 qa1 qa2 qa3 qa4 qa5 qa6 qa7 qb0 qb1 qb2 qb3 qb4 qb5 qb6 qb7 qc0 qc1 qc2 qc3 qc4 qc5 qc6 qc7 HG8
      obtain ⟨rfl, HG9⟩ := hcut
      have HS : Hid (∀ w1 w', (fun w' : World => w'.cell? ⟨w.heap.size, 0, none⟩ = some (.string xa) ∧ w'.cell? ⟨w.heap.size, 1, none⟩ = some (.string xb) ∧ w'.cell? ⟨w.heap.size, 2, none⟩ = some (.string xc) ∧ w'.cell? ⟨w.heap.size, 3, none⟩ = some (.string xd) ∧ w'.cell? ⟨w.heap.size, 4, none⟩ = some (.string xe) ∧ w'.cell? ⟨w.heap.size, 5, none⟩ = some (.string xf) ∧ w'.cell? ⟨w.heap.size, 6, none⟩ = some (.string xg) ∧ w'.cell? ⟨w.heap.size, 7, none⟩ = some (.slice ao l.length ca) ∧ w'.cell? ⟨w.heap.size + 1, 0, none⟩ = some (.string ya) ∧ w'.cell? ⟨w.heap.size + 1, 1, none⟩ = some (.string yb) ∧ w'.cell? ⟨w.heap.size + 1, 2, none⟩ = some (.string yc) ∧ w'.cell? ⟨w.heap.size + 1, 3, none⟩ = some (.string yd) ∧ w'.cell? ⟨w.heap.size + 1, 4, none⟩ = some (.string ye) ∧ w'.cell? ⟨w.heap.size + 1, 5, none⟩ = some (.string yf) ∧ w'.cell? ⟨w.heap.size + 1, 6, none⟩ = some (.string yg) ∧ w'.cell? ⟨w.heap.size + 1, 7, none⟩ = some (.slice bo m.length cb) ∧ Hid (Keep [] w w')) w1 → Keep [] w1 w' → (fun w' : World => w'.cell? ⟨w.heap.size, 0, none⟩ = some (.string xa) ∧ w'.cell? ⟨w.heap.size, 1, none⟩ = some (.string xb) ∧ w'.cell? ⟨w.heap.size, 2, none⟩ = some (.string xc) ∧ w'.cell? ⟨w.heap.size, 3, none⟩ = some (.string xd) ∧ w'.cell? ⟨w.heap.size, 4, none⟩ = some (.string xe) ∧ w'.cell? ⟨w.heap.size, 5, none⟩ = some (.string xf) ∧ w'.cell? ⟨w.heap.size, 6, none⟩ = some (.string xg) ∧ w'.cell? ⟨w.heap.size, 7, none⟩ = some (.slice ao l.length ca) ∧ w'.cell? ⟨w.heap.size + 1, 0, none⟩ = some (.string ya) ∧ w'.cell? ⟨w.heap.size + 1, 1, none⟩ = some (.string yb) ∧ w'.cell? ⟨w.heap.size + 1, 2, none⟩ = some (.string yc) ∧ w'.cell? ⟨w.heap.size + 1, 3, none⟩ = some (.string yd) ∧ w'.cell? ⟨w.heap.size + 1, 4, none⟩ = some (.string ye) ∧ w'.cell? ⟨w.heap.size + 1, 5, none⟩ = some (.string yf) ∧ w'.cell? ⟨w.heap.size + 1, 6, none⟩ = some (.string yg) ∧ w'.cell? ⟨w.heap.size + 1, 7, none⟩ = some (.slice bo m.length cb) ∧ Hid (Keep [] w w')) w') := fun w1 w' h k' => by
        obtain ⟨z0, z1, z2, z3, z4, z5, z6, z7, z8, z9, z10, z11, z12, z13, z14, z15, zk⟩ := h
        exact ⟨k'.cell' z0 (by simp), k'.cell' z1 (by simp), k'.cell' z2 (by simp), k'.cell' z3 (by simp), k'.cell' z4 (by simp), k'.cell' z5 (by simp), k'.cell' z6 (by simp), k'.cell' z7 (by simp), k'.cell' z8 (by simp), k'.cell' z9 (by simp), k'.cell' z10 (by simp), k'.cell' z11 (by simp), k'.cell' z12 (by simp), k'.cell' z13 (by simp), k'.cell' z14 (by simp), k'.cell' z15 (by simp), zk.out.trans' k'⟩
      have HS0 : Hid ((fun w' : World => w'.cell? ⟨w.heap.size, 0, none⟩ = some (.string xa) ∧ w'.cell? ⟨w.heap.size, 1, none⟩ = some (.string xb) ∧ w'.cell? ⟨w.heap.size, 2, none⟩ = some (.string xc) ∧ w'.cell? ⟨w.heap.size, 3, none⟩ = some (.string xd) ∧ w'.cell? ⟨w.heap.size, 4, none⟩ = some (.string xe) ∧ w'.cell? ⟨w.heap.size, 5, none⟩ = some (.string xf) ∧ w'.cell? ⟨w.heap.size, 6, none⟩ = some (.string xg) ∧ w'.cell? ⟨w.heap.size, 7, none⟩ = some (.slice ao l.length ca) ∧ w'.cell? ⟨w.heap.size + 1, 0, none⟩ = some (.string ya) ∧ w'.cell? ⟨w.heap.size + 1, 1, none⟩ = some (.string yb) ∧ w'.cell? ⟨w.heap.size + 1, 2, none⟩ = some (.string yc) ∧ w'.cell? ⟨w.heap.size + 1, 3, none⟩ = some (.string yd) ∧ w'.cell? ⟨w.heap.size + 1, 4, none⟩ = some (.string ye) ∧ w'.cell? ⟨w.heap.size + 1, 5, none⟩ = some (.string yf) ∧ w'.cell? ⟨w.heap.size + 1, 6, none⟩ = some (.string yg) ∧ w'.cell? ⟨w.heap.size + 1, 7, none⟩ = some (.slice bo m.length cb) ∧ Hid (Keep [] w w')) wc.drew) := by
        have hg := HG9.out.1
        exact HS.out wc _ ⟨hg.a0, hg.a1, hg.a2, hg.a3, hg.a4, hg.a5, hg.a6, hg.a7, hg.b0, hg.b1, hg.b2, hg.b3, hg.b4, hg.b5, hg.b6, hg.b7, HG9.out.2⟩ (Keep.refl _ _).drew
      clear HG9
      obtain rfl : sm = false := HSM.out
      clear HSM
      go_wp2
      refine wp_region_held_drew (S := (fun w' : World => w'.cell? ⟨w.heap.size, 0, none⟩ = some (.string xa) ∧ w'.cell? ⟨w.heap.size, 1, none⟩ = some (.string xb) ∧ w'.cell? ⟨w.heap.size, 2, none⟩ = some (.string xc) ∧ w'.cell? ⟨w.heap.size, 3, none⟩ = some (.string xd) ∧ w'.cell? ⟨w.heap.size, 4, none⟩ = some (.string xe) ∧ w'.cell? ⟨w.heap.size, 5, none⟩ = some (.string xf) ∧ w'.cell? ⟨w.heap.size, 6, none⟩ = some (.string xg) ∧ w'.cell? ⟨w.heap.size, 7, none⟩ = some (.slice ao l.length ca) ∧ w'.cell? ⟨w.heap.size + 1, 0, none⟩ = some (.string ya) ∧ w'.cell? ⟨w.heap.size + 1, 1, none⟩ = some (.string yb) ∧ w'.cell? ⟨w.heap.size + 1, 2, none⟩ = some (.string yc) ∧ w'.cell? ⟨w.heap.size + 1, 3, none⟩ = some (.string yd) ∧ w'.cell? ⟨w.heap.size + 1, 4, none⟩ = some (.string ye) ∧ w'.cell? ⟨w.heap.size + 1, 5, none⟩ = some (.string yf) ∧ w'.cell? ⟨w.heap.size + 1, 6, none⟩ = some (.string yg) ∧ w'.cell? ⟨w.heap.size + 1, 7, none⟩ = some (.slice bo m.length cb) ∧ Hid (Keep [] w w'))) (by kernel_rfl) (HS0.out) (fun hHeld => ?_)
      try dsimp only at hHeld
      refine wpAnyH_take (i := 0) (oi := { dst := some 140, op := Go.Op.load 28 (Go.Operand.tmp 3), type := 28, pos := "outright.go:77", after := #[], guard := none }) (v := ?_) rfl (by kernel_rfl) (by kernel_rfl) (by kernel_rfl) (fun _ _ _ h => h) (Or.inl ⟨by rfl, ?_⟩) (by assumption) ?_
      rotate_left
      · intro w7 hSw
        try dsimp only at hSw
        first | (go_simp; done) | (go_simp; with_reducible rfl)
      try simp only [Act.put, List.setIfInBounds_toArray, List.set_cons_zero, List.set_cons_succ]
      refine wpAnyH_take (i := 1) (oi := { dst := some 141, op := Go.Op.load 28 (Go.Operand.tmp 4), type := 28, pos := "outright.go:77", after := #[], guard := none }) (v := ?_) rfl (by kernel_rfl) (by kernel_rfl) (by kernel_rfl) (fun _ _ _ h => h) (Or.inl ⟨by rfl, ?_⟩) (by assumption) ?_
      rotate_left
      · intro w7 hSw
        try dsimp only at hSw
        first | (go_simp; done) | (go_simp; with_reducible rfl)
      try simp only [Act.put, List.setIfInBounds_toArray, List.set_cons_zero, List.set_cons_succ]
      refine wpAnyH_take (i := 3) (oi := { dst := some 143, op := Go.Op.load 28 (Go.Operand.tmp 3), type := 28, pos := "outright.go:77", after := #[], guard := none }) (v := ?_) rfl (by kernel_rfl) (by kernel_rfl) (by kernel_rfl) (fun _ _ _ h => h) (Or.inl ⟨by rfl, ?_⟩) (by assumption) ?_
      rotate_left
      · intro w7 hSw
        try dsimp only at hSw
        first | (go_simp; done) | (go_simp; with_reducible rfl)
      try simp only [Act.put, List.setIfInBounds_toArray, List.set_cons_zero, List.set_cons_succ]
      refine wpAnyH_take (i := 4) (oi := { dst := some 144, op := Go.Op.load 28 (Go.Operand.tmp 4), type := 28, pos := "outright.go:77", after := #[], guard := none }) (v := ?_) rfl (by kernel_rfl) (by kernel_rfl) (by kernel_rfl) (fun _ _ _ h => h) (Or.inl ⟨by rfl, ?_⟩) (by assumption) ?_
      rotate_left
      · intro w7 hSw
        try dsimp only at hSw
        first | (go_simp; done) | (go_simp; with_reducible rfl)
      try simp only [Act.put, List.setIfInBounds_toArray, List.set_cons_zero, List.set_cons_succ]
      refine wpAnyH_ready (rs := [2]) (by kernel_rfl) (by simp) ?_
      refine AllReadyH.cons (o := { dst := some 142, op := Go.Op.call { callee := Go.Callee.value (Go.Operand.func 7), args := #[Go.Operand.tmp 140, Go.Operand.tmp 141], argTypes := #[28, 28] }, type := 4, pos := "outright.go:77", after := #[{ on := 0, ground := Go.Ground.data }, { on := 1, ground := Go.Ground.data }], guard := none }) rfl (fun K hK => ?_) AllReadyH.nil
      go_simp
      (go_at_call 7; refine (hSm _ hHeld.2.2.2.2.2.2.2.2.2.2.2.2.2.2.2.2.out).mono ?_; rintro e9 w9 ⟨rfl, k9⟩)
      go_wp2_with fail
      refine hK.out _ _ (HS.out _ _ hHeld k9) (fun hHeld2 => ?_)
      try dsimp only at hHeld2
      clear hK hHeld
      have hHeld := hHeld2
      clear hHeld2
      try simp only [Act.put, List.setIfInBounds_toArray, List.set_cons_zero, List.set_cons_succ]
      refine wpAnyH_ready (rs := [5]) (by kernel_rfl) (by simp) ?_
      refine AllReadyH.cons (o := { dst := some 145, op := Go.Op.call { callee := Go.Callee.value (Go.Operand.func 6), args := #[Go.Operand.tmp 143, Go.Operand.tmp 144], argTypes := #[28, 28] }, type := 4, pos := "outright.go:77", after := #[{ on := 3, ground := Go.Ground.data }, { on := 4, ground := Go.Ground.data }, { on := 2, ground := Go.Ground.chain }], guard := none }) rfl (fun K hK => ?_) AllReadyH.nil
      go_simp
      (go_at_call 6; refine (hKy _).mono ?_; rintro e9 w9 ⟨rfl, k9⟩)
      go_wp2_with fail
      refine hK.out _ _ (HS.out _ _ hHeld k9) (fun hHeld2 => ?_)
      try dsimp only at hHeld2
      clear hK hHeld
      have hHeld := hHeld2
      clear hHeld2
      try simp only [Act.put, List.setIfInBounds_toArray, List.set_cons_zero, List.set_cons_succ]
      refine wpAnyH_take (i := 6) (oi := { dst := some 146, op := Go.Op.move (Go.Operand.tmp 145), type := 4, pos := "outright.go:77", after := #[{ on := 5, ground := Go.Ground.data }, { on := 5, ground := Go.Ground.chain }], guard := none }) (v := ?_) rfl (by kernel_rfl) (by kernel_rfl) (by kernel_rfl) (fun _ _ _ h => h) (Or.inl ⟨by rfl, ?_⟩) (by assumption) ?_
      rotate_left
      · intro w7 hSw
        try dsimp only at hSw
        first | (go_simp; done) | (go_simp; with_reducible rfl)
      try simp only [Act.put, List.setIfInBounds_toArray, List.set_cons_zero, List.set_cons_succ]
      refine wpAnyH_take (i := 7) (oi := { dst := some 147, op := Go.Op.fieldAddr 28 (Go.Operand.tmp 3) 3, type := 0, pos := "outright.go:77", after := #[{ on := 6, ground := Go.Ground.guard }], guard := some (6, true) }) (v := undef) rfl (by kernel_rfl) (by kernel_rfl) (by kernel_rfl) (fun _ _ _ h => h) (Or.inr ⟨by rfl, rfl⟩) (by assumption) ?_
      try simp only [Act.put, List.setIfInBounds_toArray, List.set_cons_zero, List.set_cons_succ]
      refine wpAnyH_take (i := 8) (oi := { dst := some 148, op := Go.Op.load 9 (Go.Operand.tmp 147), type := 9, pos := "outright.go:77", after := #[{ on := 7, ground := Go.Ground.data }, { on := 6, ground := Go.Ground.guard }], guard := some (6, true) }) (v := undef) rfl (by kernel_rfl) (by kernel_rfl) (by kernel_rfl) (fun _ _ _ h => h) (Or.inr ⟨by rfl, rfl⟩) (by assumption) ?_
      try simp only [Act.put, List.setIfInBounds_toArray, List.set_cons_zero, List.set_cons_succ]
      refine wpAnyH_take (i := 9) (oi := { dst := some 149, op := Go.Op.fieldAddr 28 (Go.Operand.tmp 4) 3, type := 0, pos := "outright.go:77", after := #[{ on := 6, ground := Go.Ground.guard }], guard := some (6, true) }) (v := undef) rfl (by kernel_rfl) (by kernel_rfl) (by kernel_rfl) (fun _ _ _ h => h) (Or.inr ⟨by rfl, rfl⟩) (by assumption) ?_
      try simp only [Act.put, List.setIfInBounds_toArray, List.set_cons_zero, List.set_cons_succ]
      refine wpAnyH_take (i := 10) (oi := { dst := some 150, op := Go.Op.load 9 (Go.Operand.tmp 149), type := 9, pos := "outright.go:77", after := #[{ on := 9, ground := Go.Ground.data }, { on := 6, ground := Go.Ground.guard }], guard := some (6, true) }) (v := undef) rfl (by kernel_rfl) (by kernel_rfl) (by kernel_rfl) (fun _ _ _ h => h) (Or.inr ⟨by rfl, rfl⟩) (by assumption) ?_
      try simp only [Act.put, List.setIfInBounds_toArray, List.set_cons_zero, List.set_cons_succ]
      refine wpAnyH_take (i := 11) (oi := { dst := some 151, op := Go.Op.binOp Go.BinOp.eql 9 (Go.Operand.tmp 148) (Go.Operand.tmp 150) 9, type := 4, pos := "outright.go:77", after := #[{ on := 8, ground := Go.Ground.data }, { on := 10, ground := Go.Ground.data }, { on := 6, ground := Go.Ground.guard }], guard := some (6, true) }) (v := undef) rfl (by kernel_rfl) (by kernel_rfl) (by kernel_rfl) (fun _ _ _ h => h) (Or.inr ⟨by rfl, rfl⟩) (by assumption) ?_
      try simp only [Act.put, List.setIfInBounds_toArray, List.set_cons_zero, List.set_cons_succ]
      refine wpAnyH_take (i := 12) (oi := { dst := some 152, op := Go.Op.pick (Go.Operand.tmp 146) (Go.Operand.tmp 151) (Go.Operand.const (Go.Value.bool false)), type := 4, pos := "outright.go:77", after := #[{ on := 6, ground := Go.Ground.data }, { on := 11, ground := Go.Ground.data }], guard := none }) (v := ?_) rfl (by kernel_rfl) (by kernel_rfl) (by kernel_rfl) (fun _ _ _ h => h) (Or.inl ⟨by rfl, ?_⟩) (by assumption) ?_
      rotate_left
      · intro w7 hSw
        try dsimp only at hSw
        first | (go_simp; done) | (go_simp; with_reducible rfl)
      try simp only [Act.put, List.setIfInBounds_toArray, List.set_cons_zero, List.set_cons_succ]
      refine wpAnyH_take (i := 13) (oi := { dst := some 153, op := Go.Op.move (Go.Operand.tmp 152), type := 4, pos := "outright.go:77", after := #[{ on := 12, ground := Go.Ground.data }, { on := 6, ground := Go.Ground.chain }], guard := none }) (v := ?_) rfl (by kernel_rfl) (by kernel_rfl) (by kernel_rfl) (fun _ _ _ h => h) (Or.inl ⟨by rfl, ?_⟩) (by assumption) ?_
      rotate_left
      · intro w7 hSw
        try dsimp only at hSw
        first | (go_simp; done) | (go_simp; with_reducible rfl)
      try simp only [Act.put, List.setIfInBounds_toArray, List.set_cons_zero, List.set_cons_succ]
      refine wpAnyH_take (i := 14) (oi := { dst := some 154, op := Go.Op.fieldAddr 28 (Go.Operand.tmp 3) 4, type := 0, pos := "outright.go:77", after := #[{ on := 13, ground := Go.Ground.guard }], guard := some (13, true) }) (v := undef) rfl (by kernel_rfl) (by kernel_rfl) (by kernel_rfl) (fun _ _ _ h => h) (Or.inr ⟨by rfl, rfl⟩) (by assumption) ?_
      try simp only [Act.put, List.setIfInBounds_toArray, List.set_cons_zero, List.set_cons_succ]
      refine wpAnyH_take (i := 15) (oi := { dst := some 155, op := Go.Op.load 26 (Go.Operand.tmp 154), type := 26, pos := "outright.go:77", after := #[{ on := 14, ground := Go.Ground.data }, { on := 13, ground := Go.Ground.guard }], guard := some (13, true) }) (v := undef) rfl (by kernel_rfl) (by kernel_rfl) (by kernel_rfl) (fun _ _ _ h => h) (Or.inr ⟨by rfl, rfl⟩) (by assumption) ?_
      try simp only [Act.put, List.setIfInBounds_toArray, List.set_cons_zero, List.set_cons_succ]
      refine wpAnyH_take (i := 16) (oi := { dst := some 156, op := Go.Op.fieldAddr 28 (Go.Operand.tmp 4) 4, type := 0, pos := "outright.go:77", after := #[{ on := 13, ground := Go.Ground.guard }], guard := some (13, true) }) (v := undef) rfl (by kernel_rfl) (by kernel_rfl) (by kernel_rfl) (fun _ _ _ h => h) (Or.inr ⟨by rfl, rfl⟩) (by assumption) ?_
      try simp only [Act.put, List.setIfInBounds_toArray, List.set_cons_zero, List.set_cons_succ]
      refine wpAnyH_take (i := 17) (oi := { dst := some 157, op := Go.Op.load 26 (Go.Operand.tmp 156), type := 26, pos := "outright.go:77", after := #[{ on := 16, ground := Go.Ground.data }, { on := 13, ground := Go.Ground.guard }], guard := some (13, true) }) (v := undef) rfl (by kernel_rfl) (by kernel_rfl) (by kernel_rfl) (fun _ _ _ h => h) (Or.inr ⟨by rfl, rfl⟩) (by assumption) ?_
      try simp only [Act.put, List.setIfInBounds_toArray, List.set_cons_zero, List.set_cons_succ]
      refine wpAnyH_take (i := 18) (oi := { dst := some 158, op := Go.Op.call { callee := Go.Callee.value (Go.Operand.func 8), args := #[Go.Operand.tmp 155, Go.Operand.tmp 157], argTypes := #[26, 26] }, type := 4, pos := "outright.go:77", after := #[{ on := 15, ground := Go.Ground.data }, { on := 17, ground := Go.Ground.data }, { on := 13, ground := Go.Ground.chain }, { on := 13, ground := Go.Ground.guard }], guard := some (13, true) }) (v := undef) rfl (by kernel_rfl) (by kernel_rfl) (by kernel_rfl) (fun _ _ _ h => h) (Or.inr ⟨by rfl, rfl⟩) (by assumption) ?_
      try simp only [Act.put, List.setIfInBounds_toArray, List.set_cons_zero, List.set_cons_succ]
      refine wpAnyH_take (i := 19) (oi := { dst := some 159, op := Go.Op.pick (Go.Operand.tmp 153) (Go.Operand.tmp 158) (Go.Operand.const (Go.Value.bool false)), type := 4, pos := "outright.go:77", after := #[{ on := 13, ground := Go.Ground.data }, { on := 18, ground := Go.Ground.data }], guard := none }) (v := ?_) rfl (by kernel_rfl) (by kernel_rfl) (by kernel_rfl) (fun _ _ _ h => h) (Or.inl ⟨by rfl, ?_⟩) (by assumption) ?_
      rotate_left
      · intro w7 hSw
        try dsimp only at hSw
        first | (go_simp; done) | (go_simp; with_reducible rfl)
      try simp only [Act.put, List.setIfInBounds_toArray, List.set_cons_zero, List.set_cons_succ]
      refine wpAnyH_take (i := 20) (oi := { dst := some 160, op := Go.Op.binOp Go.BinOp.eql 4 (Go.Operand.tmp 142) (Go.Operand.tmp 159) 4, type := 4, pos := "outright.go:77", after := #[{ on := 2, ground := Go.Ground.data }, { on := 19, ground := Go.Ground.data }], guard := none }) (v := ?_) rfl (by kernel_rfl) (by kernel_rfl) (by kernel_rfl) (fun _ _ _ h => h) (Or.inl ⟨by rfl, ?_⟩) (by assumption) ?_
      rotate_left
      · intro w7 hSw
        try dsimp only at hSw
        first | (go_simp; done) | (go_simp; with_reducible rfl)
      try simp only [Act.put, List.setIfInBounds_toArray, List.set_cons_zero, List.set_cons_succ]
      refine wpAnyH_take (i := 21) (oi := { dst := some 161, op := Go.Op.move (Go.Operand.tmp 160), type := 4, pos := "outright.go:77", after := #[{ on := 20, ground := Go.Ground.data }, { on := 18, ground := Go.Ground.chain }], guard := none }) (v := ?_) rfl (by kernel_rfl) (by kernel_rfl) (by kernel_rfl) (fun _ _ _ h => h) (Or.inl ⟨by rfl, ?_⟩) (by assumption) ?_
      rotate_left
      · intro w7 hSw
        try dsimp only at hSw
        first | (go_simp; done) | (go_simp; with_reducible rfl)
      try simp only [Act.put, List.setIfInBounds_toArray, List.set_cons_zero, List.set_cons_succ]
      refine wpAnyH_ready (rs := [22]) (by kernel_rfl) (by simp) ?_
      refine AllReadyH.cons (o := { dst := some 162, op := Go.Op.call { callee := Go.Callee.value (Go.Operand.func 9), args := #[], argTypes := #[] }, type := 4, pos := "outright.go:77", after := #[{ on := 21, ground := Go.Ground.chain }, { on := 21, ground := Go.Ground.guard }], guard := some (21, true) }) rfl (fun K hK => ?_) AllReadyH.nil
      go_simp
      (go_at_call 9; refine (hAw _ hHeld.2.2.2.2.2.2.2.2.2.2.2.2.2.2.2.2.out).mono ?_; rintro e9 w9 ⟨rfl, k9⟩)
      go_wp2_with fail
      refine hK.out _ _ (HS.out _ _ hHeld k9) (fun hHeld2 => ?_)
      try dsimp only at hHeld2
      clear hK hHeld
      have hHeld := hHeld2
      clear hHeld2
      try simp only [Act.put, List.setIfInBounds_toArray, List.set_cons_zero, List.set_cons_succ]
      refine wpAnyH_take (i := 23) (oi := { dst := some 163, op := Go.Op.pick (Go.Operand.tmp 161) (Go.Operand.tmp 162) (Go.Operand.const (Go.Value.bool false)), type := 4, pos := "outright.go:77", after := #[{ on := 21, ground := Go.Ground.data }, { on := 22, ground := Go.Ground.data }], guard := none }) (v := ?_) rfl (by kernel_rfl) (by kernel_rfl) (by kernel_rfl) (fun _ _ _ h => h) (Or.inl ⟨by rfl, ?_⟩) (by assumption) ?_
      rotate_left
      · intro w7 hSw
        try dsimp only at hSw
        first | (go_simp; done) | (go_simp; with_reducible rfl)
      try simp only [Act.put, List.setIfInBounds_toArray, List.set_cons_zero, List.set_cons_succ]
      refine wpAnyH_take (i := 24) (oi := { dst := some 6, op := Go.Op.assign (Go.Operand.tmp 163), type := 4, pos := "outright.go:77", after := #[{ on := 23, ground := Go.Ground.data }, { on := 22, ground := Go.Ground.chain }, { on := 0, ground := Go.Ground.phase }, { on := 1, ground := Go.Ground.phase }, { on := 2, ground := Go.Ground.phase }, { on := 3, ground := Go.Ground.phase }, { on := 4, ground := Go.Ground.phase }, { on := 5, ground := Go.Ground.phase }, { on := 6, ground := Go.Ground.phase }, { on := 7, ground := Go.Ground.phase }, { on := 8, ground := Go.Ground.phase }, { on := 9, ground := Go.Ground.phase }, { on := 10, ground := Go.Ground.phase }, { on := 11, ground := Go.Ground.phase }, { on := 12, ground := Go.Ground.phase }, { on := 13, ground := Go.Ground.phase }, { on := 14, ground := Go.Ground.phase }, { on := 15, ground := Go.Ground.phase }, { on := 16, ground := Go.Ground.phase }, { on := 17, ground := Go.Ground.phase }, { on := 18, ground := Go.Ground.phase }, { on := 19, ground := Go.Ground.phase }, { on := 20, ground := Go.Ground.phase }, { on := 21, ground := Go.Ground.phase }, { on := 22, ground := Go.Ground.phase }, { on := 23, ground := Go.Ground.phase }], guard := none }) (v := ?_) rfl (by kernel_rfl) (by kernel_rfl) (by kernel_rfl) (fun _ _ _ h => h) (Or.inl ⟨by rfl, ?_⟩) (by assumption) ?_
      rotate_left
      · intro w7 hSw
        try dsimp only at hSw
        first | (go_simp; done) | (go_simp; with_reducible rfl)
      try simp only [Act.put, List.setIfInBounds_toArray, List.set_cons_zero, List.set_cons_succ]
      refine wpAnyH_done (by kernel_rfl) ?_ _
      have HZ : Hid (Keep [] w _) := hHeld.2.2.2.2.2.2.2.2.2.2.2.2.2.2.2.2
      clear hHeld HS HS0
      go_wp2
      go_ret
      exact ⟨rfl, HZ.out⟩
set_option maxRecDepth 1000000 in
set_option maxHeartbeats 12800000 in
theorem order_pm (x y z : K7) (u v t : Value) (l m p : List AD) (w : World) (hM : MaxL w) (hu : As w u l) (hv : As w v m) (ht : As w t p) (hX : cmpK x y = 1) (hU : bckK x y = (-1)) :
    Calls Tryz.prog 3 #[x.tup u, y.tup v, z.tup t] w fun e w' => e = .returned (.bool true) ∧ Keep [] w w' := by
  have hC1 := fun w1 => tCompare_any x y u v w1
  have hC2 := fun w1 => tCompare_any y z v t w1
  have hC3 := fun w1 => tCompare_any x z u t w1
  have hB1 := fun w1 => tBackward_any x y u v w1
  have hB2 := fun w1 => tBackward_any y z v t w1
  have hB3 := fun w1 => tBackward_any x z u t w1
  have hC4 := fun w1 => tCompare_any y x v u w1
  have hB4 := fun w1 => tBackward_any y x v u w1
  have hKy := fun w1 => tkey_any x y u v w1
  have hSm := fun w1 (k : Keep [] w w1) => tSame_any x y u v l m w1 (hu.keep0 k) (hv.keep0 k)
  have hSa := fun w1 (k : Keep [] w w1) => sameArgs_any u v l m w1 (hu.keep0 k) (hv.keep0 k)
  have hAw := fun w1 (k : Keep [] w w1) => awake_any w1 (hM.keep k)
  have HF := ordF x y z
  have HB := ordB x y z
  have HSM : Hid (samT x y l m = (tkeyB x y && ((x.g.toList == y.g.toList) && sameAL l m))) := rfl
  have HAL : Hid (¬ (x.a.toList = y.a.toList ∧ x.b.toList = y.b.toList ∧ x.c.toList = y.c.toList)) := fun h => by
    have := ord_alike h.1 h.2.1 h.2.2
    omega
  have hK0 : tkeyB x y = false := HF.same.symm.trans (by rw [hX]; decide)
  have hQ4 : cmpK y x = (-1) := by have := HF.anti; omega
  have hR4 : bckK y x = 1 := by have := HB.anti; omega
  have HEE : Hid (¬ bckK y z ≤ 0 ∨ (bckK y z ≤ 0 ∧ ¬ 0 < bckK x z ∧ (bckK x z == 0) = false)) := by
    show ¬ bckK y z ≤ 0 ∨ (bckK y z ≤ 0 ∧ ¬ 0 < bckK x z ∧ (bckK x z == 0) = false)
    by_cases h2 : bckK y z ≤ 0
    · obtain ⟨h3, h4⟩ := HB.go (by omega) h2
      by_cases h5 : bckK x z = 0
      · have := h4 h5
        omega
      · exact .inr ⟨h2, by omega, by simpa using h5⟩
    · exact .inl h2
  rw [hX] at hC1
  rw [hU] at hB1
  rw [hQ4] at hC4
  rw [hR4] at hB4
  rw [hK0] at hKy HSM
  obtain ⟨ao, ca, rfl, _, _, _⟩ := hu.ex
  obtain ⟨bo, cb, rfl, _, _, _⟩ := hv.ex
  obtain ⟨co, cc, rfl, _, _, _⟩ := ht.ex
  clear hu hv ht hM HF HB hX hU hQ4 hR4 hK0
  generalize cmpK y z = q2 at hC2
  generalize cmpK x z = q3 at hC3
  generalize bckK y z = r2 at hB2 HEE
  generalize bckK x z = r3 at hB3 HEE
  generalize samT x y l m = sm at hSm HSM
  generalize sameAL l m = sa at hSa HSM
  obtain ⟨xa, xb, xc, xd, xe, xf, xg⟩ := x
  obtain ⟨ya, yb, yc, yd, ye, yf, yg⟩ := y
  obtain ⟨za, zb, zc, zd, ze, zf, zg⟩ := z
  simp only [] at HSM HAL
  go_enter Tryz.func3, Tryz.ntmps3
  go_wp2_with fail
  refine (hC1 _).mono ?_
  rintro e9 w1 ⟨rfl, k9⟩
  have HG1 : Hid _ := G3.first (x := ⟨xa, xb, xc, xd, xe, xf, xg⟩) (y := ⟨ya, yb, yc, yd, ye, yf, yg⟩) (z := ⟨za, zb, zc, zd, ze, zf, zg⟩) k9
  clear k9
  obtain ⟨qa0, qa1, qa2, qa3, qa4, qa5, qa6, qa7, qb0, qb1, qb2, qb3, qb4, qb5, qb6, qb7, qc0, qc1, qc2, qc3, qc4, qc5, qc6, qc7⟩ := HG1.out.1
  go_wp2_with fail
  refine (hC2 _).mono ?_
  rintro e9 w2 ⟨rfl, k9⟩
  have HG2 : Hid _ := And.intro (HG1.out.1.keep k9) (HG1.out.2.trans' k9)
  clear k9 qa0 qa1 qa2 qa3 qa4 qa5 qa6 qa7 qb0 qb1 qb2 qb3 qb4 qb5 qb6 qb7 qc0 qc1 qc2 qc3 qc4 qc5 qc6 qc7 HG1
  obtain ⟨qa0, qa1, qa2, qa3, qa4, qa5, qa6, qa7, qb0, qb1, qb2, qb3, qb4, qb5, qb6, qb7, qc0, qc1, qc2, qc3, qc4, qc5, qc6, qc7⟩ := HG2.out.1
  go_wp2_with fail
  refine (hC3 _).mono ?_
  rintro e9 w3 ⟨rfl, k9⟩
  have HG3 : Hid _ := And.intro (HG2.out.1.keep k9) (HG2.out.2.trans' k9)
  clear k9 qa0 qa1 qa2 qa3 qa4 qa5 qa6 qa7 qb0 qb1 qb2 qb3 qb4 qb5 qb6 qb7 qc0 qc1 qc2 qc3 qc4 qc5 qc6 qc7 HG2
  obtain ⟨qa0, qa1, qa2, qa3, qa4, qa5, qa6, qa7, qb0, qb1, qb2, qb3, qb4, qb5, qb6, qb7, qc0, qc1, qc2, qc3, qc4, qc5, qc6, qc7⟩ := HG3.out.1
  go_wp2_with fail
  refine (hB1 _).mono ?_
  rintro e9 w4 ⟨rfl, k9⟩
  have HG4 : Hid _ := And.intro (HG3.out.1.keep k9) (HG3.out.2.trans' k9)
  clear k9 qa0 qa1 qa2 qa3 qa4 qa5 qa6 qa7 qb0 qb1 qb2 qb3 qb4 qb5 qb6 qb7 qc0 qc1 qc2 qc3 qc4 qc5 qc6 qc7 HG3
  obtain ⟨qa0, qa1, qa2, qa3, qa4, qa5, qa6, qa7, qb0, qb1, qb2, qb3, qb4, qb5, qb6, qb7, qc0, qc1, qc2, qc3, qc4, qc5, qc6, qc7⟩ := HG4.out.1
  go_wp2_with fail
  refine (hB2 _).mono ?_
  rintro e9 w5 ⟨rfl, k9⟩
  have HG5 : Hid _ := And.intro (HG4.out.1.keep k9) (HG4.out.2.trans' k9)
  clear k9 qa0 qa1 qa2 qa3 qa4 qa5 qa6 qa7 qb0 qb1 qb2 qb3 qb4 qb5 qb6 qb7 qc0 qc1 qc2 qc3 qc4 qc5 qc6 qc7 HG4
  obtain ⟨qa0, qa1, qa2, qa3, qa4, qa5, qa6, qa7, qb0, qb1, qb2, qb3, qb4, qb5, qb6, qb7, qc0, qc1, qc2, qc3, qc4, qc5, qc6, qc7⟩ := HG5.out.1
  go_wp2_with fail
  refine (hB3 _).mono ?_
  rintro e9 w6 ⟨rfl, k9⟩
  have HG6 : Hid _ := And.intro (HG5.out.1.keep k9) (HG5.out.2.trans' k9)
  clear k9 qa0 qa1 qa2 qa3 qa4 qa5 qa6 qa7 qb0 qb1 qb2 qb3 qb4 qb5 qb6 qb7 qc0 qc1 qc2 qc3 qc4 qc5 qc6 qc7 HG5
  obtain ⟨qa0, qa1, qa2, qa3, qa4, qa5, qa6, qa7, qb0, qb1, qb2, qb3, qb4, qb5, qb6, qb7, qc0, qc1, qc2, qc3, qc4, qc5, qc6, qc7⟩ := HG6.out.1
  go_wp2_with fail
  refine (hC4 _).mono ?_
  rintro e9 w7 ⟨rfl, k9⟩
  have HG7 : Hid _ := And.intro (HG6.out.1.keep k9) (HG6.out.2.trans' k9)
  clear k9 qa0 qa1 qa2 qa3 qa4 qa5 qa6 qa7 qb0 qb1 qb2 qb3 qb4 qb5 qb6 qb7 qc0 qc1 qc2 qc3 qc4 qc5 qc6 qc7 HG6
  obtain ⟨qa0, qa1, qa2, qa3, qa4, qa5, qa6, qa7, qb0, qb1, qb2, qb3, qb4, qb5, qb6, qb7, qc0, qc1, qc2, qc3, qc4, qc5, qc6, qc7⟩ := HG7.out.1
  go_wp2_with fail
  refine (hB4 _).mono ?_
  rintro e9 w8 ⟨rfl, k9⟩
  have HG8 : Hid _ := And.intro (HG7.out.1.keep k9) (HG7.out.2.trans' k9)
  clear k9 qa0 qa1 qa2 qa3 qa4 qa5 qa6 qa7 qb0 qb1 qb2 qb3 qb4 qb5 qb6 qb7 qc0 qc1 qc2 qc3 qc4 qc5 qc6 qc7 HG7
  obtain ⟨qa0, qa1, qa2, qa3, qa4, qa5, qa6, qa7, qb0, qb1, qb2, qb3, qb4, qb5, qb6, qb7, qc0, qc1, qc2, qc3, qc4, qc5, qc6, qc7⟩ := HG8.out.1
  go_wp2_with fail
  refine (hKy _).mono ?_
  rintro e9 w9 ⟨rfl, k9⟩
  have HG9 : Hid _ := And.intro (HG8.out.1.keep k9) (HG8.out.2.trans' k9)
  clear k9 qa0 qa1 qa2 qa3 qa4 qa5 qa6 qa7 qb0 qb1 qb2 qb3 qb4 qb5 qb6 qb7 qc0 qc1 qc2 qc3 qc4 qc5 qc6 qc7 HG8
  obtain ⟨qa0, qa1, qa2, qa3, qa4, qa5, qa6, qa7, qb0, qb1, qb2, qb3, qb4, qb5, qb6, qb7, qc0, qc1, qc2, qc3, qc4, qc5, qc6, qc7⟩ := HG9.out.1
  go_wp2_with fail
  refine (hKy _).mono ?_
  rintro e9 w10 ⟨rfl, k9⟩
  have HG10 : Hid _ := And.intro (HG9.out.1.keep k9) (HG9.out.2.trans' k9)
  clear k9 qa0 qa1 qa2 qa3 qa4 qa5 qa6 qa7 qb0 qb1 qb2 qb3 qb4 qb5 qb6 qb7 qc0 qc1 qc2 qc3 qc4 qc5 qc6 qc7 HG9
  obtain ⟨qa0, qa1, qa2, qa3, qa4, qa5, qa6, qa7, qb0, qb1, qb2, qb3, qb4, qb5, qb6, qb7, qc0, qc1, qc2, qc3, qc4, qc5, qc6, qc7⟩ := HG10.out.1
  clear hC1 hC2 hC3 hB1 hB2 hB3 hC4 hB4
  go_upto_region 9 with (fail)
  go_cut [122] from 13 (fun s122 wq => s122 = .bool false ∧ Hid (G3 wq w.heap.size ⟨xa, xb, xc, xd, xe, xf, xg⟩ ⟨ya, yb, yc, yd, ye, yf, yg⟩ ⟨za, zb, zc, zd, ze, zf, zg⟩ (.slice ao l.length ca) (.slice bo m.length cb) (.slice co p.length cc) ∧ Keep [] w wq))
  case first =>
    clear hSm hSa hAw hKy HSM HAL qa0 qa1 qa2 qa3 qa4 qa5 qa6 qa7 qb0 qb1 qb2 qb3 qb4 qb5 qb6 qb7 qc0 qc1 qc2 qc3 qc4 qc5 qc6 qc7
    rcases HEE.out with E | ⟨E, E2, E3⟩ 
    all_goals
      clear HEE
      go_wp2
      go_meet
      case rel => exact ⟨by first | rfl | exact congrArg Value.bool (decide_eq_false (by omega)), HG10.out⟩
  case rest =>
    clear qa0 qa1 qa2 qa3 qa4 qa5 qa6 qa7 qb0 qb1 qb2 qb3 qb4 qb5 qb6 qb7 qc0 qc1 qc2 qc3 qc4 qc5 qc6 qc7 HG10 HEE
    obtain ⟨rfl, HG8⟩ := hcut
    obtain ⟨qa0, qa1, qa2, qa3, qa4, qa5, qa6, qa7, qb0, qb1, qb2, qb3, qb4, qb5, qb6, qb7, qc0, qc1, qc2, qc3, qc4, qc5, qc6, qc7⟩ := HG8.out.1
    go_upto_region 11 with (fail)
    go_cut [139] from 13 (fun s139 wq => s139 = .bool false ∧ Hid (G3 wq w.heap.size ⟨xa, xb, xc, xd, xe, xf, xg⟩ ⟨ya, yb, yc, yd, ye, yf, yg⟩ ⟨za, zb, zc, zd, ze, zf, zg⟩ (.slice ao l.length ca) (.slice bo m.length cb) (.slice co p.length cc) ∧ Keep [] w wq))
    case first =>
      clear hSm hSa hAw hKy HSM
      by_cases h1 : xa.toList = ya.toList
      · by_cases h2 : xb.toList = yb.toList
        · by_cases h3 : xc.toList = yc.toList
          · exact absurd ⟨h1, h2, h3⟩ HAL.out
          · clear HAL
            go_wp2
            go_meet
            case rel => exact ⟨rfl, HG8.out⟩
        · clear HAL
          go_wp2
          go_meet
          case rel => exact ⟨rfl, HG8.out⟩
      · clear HAL
        go_wp2
        go_meet
        case rel => exact ⟨rfl, HG8.out⟩
    case rest =>
      clear qa0 qa1 qa2 qa3 qa4 qa5 qa6 qa7 qb0 qb1 qb2 qb3 qb4 qb5 qb6 qb7 qc0 qc1 qc2 qc3 qc4 qc5 qc6 qc7 HG8 HAL
      obtain ⟨rfl, HG9⟩ := hcut
      have HS : Hid (∀ w1 w', (fun w' : World => w'.cell? ⟨w.heap.size, 0, none⟩ = some (.string xa) ∧ w'.cell? ⟨w.heap.size, 1, none⟩ = some (.string xb) ∧ w'.cell? ⟨w.heap.size, 2, none⟩ = some (.string xc) ∧ w'.cell? ⟨w.heap.size, 3, none⟩ = some (.string xd) ∧ w'.cell? ⟨w.heap.size, 4, none⟩ = some (.string xe) ∧ w'.cell? ⟨w.heap.size, 5, none⟩ = some (.string xf) ∧ w'.cell? ⟨w.heap.size, 6, none⟩ = some (.string xg) ∧ w'.cell? ⟨w.heap.size, 7, none⟩ = some (.slice ao l.length ca) ∧ w'.cell? ⟨w.heap.size + 1, 0, none⟩ = some (.string ya) ∧ w'.cell? ⟨w.heap.size + 1, 1, none⟩ = some (.string yb) ∧ w'.cell? ⟨w.heap.size + 1, 2, none⟩ = some (.string yc) ∧ w'.cell? ⟨w.heap.size + 1, 3, none⟩ = some (.string yd) ∧ w'.cell? ⟨w.heap.size + 1, 4, none⟩ = some (.string ye) ∧ w'.cell? ⟨w.heap.size + 1, 5, none⟩ = some (.string yf) ∧ w'.cell? ⟨w.heap.size + 1, 6, none⟩ = some (.string yg) ∧ w'.cell? ⟨w.heap.size + 1, 7, none⟩ = some (.slice bo m.length cb) ∧ Hid (Keep [] w w')) w1 → Keep [] w1 w' → (fun w' : World => w'.cell? ⟨w.heap.size, 0, none⟩ = some (.string xa) ∧ w'.cell? ⟨w.heap.size, 1, none⟩ = some (.string xb) ∧ w'.cell? ⟨w.heap.size, 2, none⟩ = some (.string xc) ∧ w'.cell? ⟨w.heap.size, 3, none⟩ = some (.string xd) ∧ w'.cell? ⟨w.heap.size, 4, none⟩ = some (.string xe) ∧ w'.cell? ⟨w.heap.size, 5, none⟩ = some (.string xf) ∧ w'.cell? ⟨w.heap.size, 6, none⟩ = some (.string xg) ∧ w'.cell? ⟨w.heap.size, 7, none⟩ = some (.slice ao l.length ca) ∧ w'.cell? ⟨w.heap.size + 1, 0, none⟩ = some (.string ya) ∧ w'.cell? ⟨w.heap.size + 1, 1, none⟩ = some (.string yb) ∧ w'.cell? ⟨w.heap.size + 1, 2, none⟩ = some (.string yc) ∧ w'.cell? ⟨w.heap.size + 1, 3, none⟩ = some (.string yd) ∧ w'.cell? ⟨w.heap.size + 1, 4, none⟩ = some (.string ye) ∧ w'.cell? ⟨w.heap.size + 1, 5, none⟩ = some (.string yf) ∧ w'.cell? ⟨w.heap.size + 1, 6, none⟩ = some (.string yg) ∧ w'.cell? ⟨w.heap.size + 1, 7, none⟩ = some (.slice bo m.length cb) ∧ Hid (Keep [] w w')) w') := fun w1 w' h k' => by
        obtain ⟨z0, z1, z2, z3, z4, z5, z6, z7, z8, z9, z10, z11, z12, z13, z14, z15, zk⟩ := h
        exact ⟨k'.cell' z0 (by simp), k'.cell' z1 (by simp), k'.cell' z2 (by simp), k'.cell' z3 (by simp), k'.cell' z4 (by simp), k'.cell' z5 (by simp), k'.cell' z6 (by simp), k'.cell' z7 (by simp), k'.cell' z8 (by simp), k'.cell' z9 (by simp), k'.cell' z10 (by simp), k'.cell' z11 (by simp), k'.cell' z12 (by simp), k'.cell' z13 (by simp), k'.cell' z14 (by simp), k'.cell' z15 (by simp), zk.out.trans' k'⟩
      have HS0 : Hid ((fun w' : World => w'.cell? ⟨w.heap.size, 0, none⟩ = some (.string xa) ∧ w'.cell? ⟨w.heap.size, 1, none⟩ = some (.string xb) ∧ w'.cell? ⟨w.heap.size, 2, none⟩ = some (.string xc) ∧ w'.cell? ⟨w.heap.size, 3, none⟩ = some (.string xd) ∧ w'.cell? ⟨w.heap.size, 4, none⟩ = some (.string xe) ∧ w'.cell? ⟨w.heap.size, 5, none⟩ = some (.string xf) ∧ w'.cell? ⟨w.heap.size, 6, none⟩ = some (.string xg) ∧ w'.cell? ⟨w.heap.size, 7, none⟩ = some (.slice ao l.length ca) ∧ w'.cell? ⟨w.heap.size + 1, 0, none⟩ = some (.string ya) ∧ w'.cell? ⟨w.heap.size + 1, 1, none⟩ = some (.string yb) ∧ w'.cell? ⟨w.heap.size + 1, 2, none⟩ = some (.string yc) ∧ w'.cell? ⟨w.heap.size + 1, 3, none⟩ = some (.string yd) ∧ w'.cell? ⟨w.heap.size + 1, 4, none⟩ = some (.string ye) ∧ w'.cell? ⟨w.heap.size + 1, 5, none⟩ = some (.string yf) ∧ w'.cell? ⟨w.heap.size + 1, 6, none⟩ = some (.string yg) ∧ w'.cell? ⟨w.heap.size + 1, 7, none⟩ = some (.slice bo m.length cb) ∧ Hid (Keep [] w w')) wc.drew) := by
        have hg := HG9.out.1
        exact HS.out wc _ ⟨hg.a0, hg.a1, hg.a2, hg.a3, hg.a4, hg.a5, hg.a6, hg.a7, hg.b0, hg.b1, hg.b2, hg.b3, hg.b4, hg.b5, hg.b6, hg.b7, HG9.out.2⟩ (Keep.refl _ _).drew
      clear HG9
      obtain rfl : sm = false := HSM.out
      clear HSM
      go_wp2
      refine wp_region_held_drew (S := (fun w' : World => w'.cell? ⟨w.heap.size, 0, none⟩ = some (.string xa) ∧ w'.cell? ⟨w.heap.size, 1, none⟩ = some (.string xb) ∧ w'.cell? ⟨w.heap.size, 2, none⟩ = some (.string xc) ∧ w'.cell? ⟨w.heap.size, 3, none⟩ = some (.string xd) ∧ w'.cell? ⟨w.heap.size, 4, none⟩ = some (.string xe) ∧ w'.cell? ⟨w.heap.size, 5, none⟩ = some (.string xf) ∧ w'.cell? ⟨w.heap.size, 6, none⟩ = some (.string xg) ∧ w'.cell? ⟨w.heap.size, 7, none⟩ = some (.slice ao l.length ca) ∧ w'.cell? ⟨w.heap.size + 1, 0, none⟩ = some (.string ya) ∧ w'.cell? ⟨w.heap.size + 1, 1, none⟩ = some (.string yb) ∧ w'.cell? ⟨w.heap.size + 1, 2, none⟩ = some (.string yc) ∧ w'.cell? ⟨w.heap.size + 1, 3, none⟩ = some (.string yd) ∧ w'.cell? ⟨w.heap.size + 1, 4, none⟩ = some (.string ye) ∧ w'.cell? ⟨w.heap.size + 1, 5, none⟩ = some (.string yf) ∧ w'.cell? ⟨w.heap.size + 1, 6, none⟩ = some (.string yg) ∧ w'.cell? ⟨w.heap.size + 1, 7, none⟩ = some (.slice bo m.length cb) ∧ Hid (Keep [] w w'))) (by kernel_rfl) (HS0.out) (fun hHeld => ?_)
      try dsimp only at hHeld
      refine wpAnyH_take (i := 0) (oi := { dst := some 140, op := Go.Op.load 28 (Go.Operand.tmp 3), type := 28, pos := "outright.go:77", after := #[], guard := none }) (v := ?_) rfl (by kernel_rfl) (by kernel_rfl) (by kernel_rfl) (fun _ _ _ h => h) (Or.inl ⟨by rfl, ?_⟩) (by assumption) ?_
      rotate_left
      · intro w7 hSw
        try dsimp only at hSw
        first | (go_simp; done) | (go_simp; with_reducible rfl)
      try simp only [Act.put, List.setIfInBounds_toArray, List.set_cons_zero, List.set_cons_succ]
      refine wpAnyH_take (i := 1) (oi := { dst := some 141, op := Go.Op.load 28 (Go.Operand.tmp 4), type := 28, pos := "outright.go:77", after := #[], guard := none }) (v := ?_) rfl (by kernel_rfl) (by kernel_rfl) (by kernel_rfl) (fun _ _ _ h => h) (Or.inl ⟨by rfl, ?_⟩) (by assumption) ?_
      rotate_left
      · intro w7 hSw
        try dsimp only at hSw
        first | (go_simp; done) | (go_simp; with_reducible rfl)
      try simp only [Act.put, List.setIfInBounds_toArray, List.set_cons_zero, List.set_cons_succ]
      refine wpAnyH_take (i := 3) (oi := { dst := some 143, op := Go.Op.load 28 (Go.Operand.tmp 3), type := 28, pos := "outright.go:77", after := #[], guard := none }) (v := ?_) rfl (by kernel_rfl) (by kernel_rfl) (by kernel_rfl) (fun _ _ _ h => h) (Or.inl ⟨by rfl, ?_⟩) (by assumption) ?_
      rotate_left
      · intro w7 hSw
        try dsimp only at hSw
        first | (go_simp; done) | (go_simp; with_reducible rfl)
      try simp only [Act.put, List.setIfInBounds_toArray, List.set_cons_zero, List.set_cons_succ]
      refine wpAnyH_take (i := 4) (oi := { dst := some 144, op := Go.Op.load 28 (Go.Operand.tmp 4), type := 28, pos := "outright.go:77", after := #[], guard := none }) (v := ?_) rfl (by kernel_rfl) (by kernel_rfl) (by kernel_rfl) (fun _ _ _ h => h) (Or.inl ⟨by rfl, ?_⟩) (by assumption) ?_
      rotate_left
      · intro w7 hSw
        try dsimp only at hSw
        first | (go_simp; done) | (go_simp; with_reducible rfl)
      try simp only [Act.put, List.setIfInBounds_toArray, List.set_cons_zero, List.set_cons_succ]
      refine wpAnyH_ready (rs := [2]) (by kernel_rfl) (by simp) ?_
      refine AllReadyH.cons (o := { dst := some 142, op := Go.Op.call { callee := Go.Callee.value (Go.Operand.func 7), args := #[Go.Operand.tmp 140, Go.Operand.tmp 141], argTypes := #[28, 28] }, type := 4, pos := "outright.go:77", after := #[{ on := 0, ground := Go.Ground.data }, { on := 1, ground := Go.Ground.data }], guard := none }) rfl (fun K hK => ?_) AllReadyH.nil
      go_simp
      (go_at_call 7; refine (hSm _ hHeld.2.2.2.2.2.2.2.2.2.2.2.2.2.2.2.2.out).mono ?_; rintro e9 w9 ⟨rfl, k9⟩)
      go_wp2_with fail
      refine hK.out _ _ (HS.out _ _ hHeld k9) (fun hHeld2 => ?_)
      try dsimp only at hHeld2
      clear hK hHeld
      have hHeld := hHeld2
      clear hHeld2
      try simp only [Act.put, List.setIfInBounds_toArray, List.set_cons_zero, List.set_cons_succ]
      refine wpAnyH_ready (rs := [5]) (by kernel_rfl) (by simp) ?_
      refine AllReadyH.cons (o := { dst := some 145, op := Go.Op.call { callee := Go.Callee.value (Go.Operand.func 6), args := #[Go.Operand.tmp 143, Go.Operand.tmp 144], argTypes := #[28, 28] }, type := 4, pos := "outright.go:77", after := #[{ on := 3, ground := Go.Ground.data }, { on := 4, ground := Go.Ground.data }, { on := 2, ground := Go.Ground.chain }], guard := none }) rfl (fun K hK => ?_) AllReadyH.nil
      go_simp
      (go_at_call 6; refine (hKy _).mono ?_; rintro e9 w9 ⟨rfl, k9⟩)
      go_wp2_with fail
      refine hK.out _ _ (HS.out _ _ hHeld k9) (fun hHeld2 => ?_)
      try dsimp only at hHeld2
      clear hK hHeld
      have hHeld := hHeld2
      clear hHeld2
      try simp only [Act.put, List.setIfInBounds_toArray, List.set_cons_zero, List.set_cons_succ]
      refine wpAnyH_take (i := 6) (oi := { dst := some 146, op := Go.Op.move (Go.Operand.tmp 145), type := 4, pos := "outright.go:77", after := #[{ on := 5, ground := Go.Ground.data }, { on := 5, ground := Go.Ground.chain }], guard := none }) (v := ?_) rfl (by kernel_rfl) (by kernel_rfl) (by kernel_rfl) (fun _ _ _ h => h) (Or.inl ⟨by rfl, ?_⟩) (by assumption) ?_
      rotate_left
      · intro w7 hSw
        try dsimp only at hSw
        first | (go_simp; done) | (go_simp; with_reducible rfl)
      try simp only [Act.put, List.setIfInBounds_toArray, List.set_cons_zero, List.set_cons_succ]
      refine wpAnyH_take (i := 7) (oi := { dst := some 147, op := Go.Op.fieldAddr 28 (Go.Operand.tmp 3) 3, type := 0, pos := "outright.go:77", after := #[{ on := 6, ground := Go.Ground.guard }], guard := some (6, true) }) (v := undef) rfl (by kernel_rfl) (by kernel_rfl) (by kernel_rfl) (fun _ _ _ h => h) (Or.inr ⟨by rfl, rfl⟩) (by assumption) ?_
      try simp only [Act.put, List.setIfInBounds_toArray, List.set_cons_zero, List.set_cons_succ]
      refine wpAnyH_take (i := 8) (oi := { dst := some 148, op := Go.Op.load 9 (Go.Operand.tmp 147), type := 9, pos := "outright.go:77", after := #[{ on := 7, ground := Go.Ground.data }, { on := 6, ground := Go.Ground.guard }], guard := some (6, true) }) (v := undef) rfl (by kernel_rfl) (by kernel_rfl) (by kernel_rfl) (fun _ _ _ h => h) (Or.inr ⟨by rfl, rfl⟩) (by assumption) ?_
      try simp only [Act.put, List.setIfInBounds_toArray, List.set_cons_zero, List.set_cons_succ]
      refine wpAnyH_take (i := 9) (oi := { dst := some 149, op := Go.Op.fieldAddr 28 (Go.Operand.tmp 4) 3, type := 0, pos := "outright.go:77", after := #[{ on := 6, ground := Go.Ground.guard }], guard := some (6, true) }) (v := undef) rfl (by kernel_rfl) (by kernel_rfl) (by kernel_rfl) (fun _ _ _ h => h) (Or.inr ⟨by rfl, rfl⟩) (by assumption) ?_
      try simp only [Act.put, List.setIfInBounds_toArray, List.set_cons_zero, List.set_cons_succ]
      refine wpAnyH_take (i := 10) (oi := { dst := some 150, op := Go.Op.load 9 (Go.Operand.tmp 149), type := 9, pos := "outright.go:77", after := #[{ on := 9, ground := Go.Ground.data }, { on := 6, ground := Go.Ground.guard }], guard := some (6, true) }) (v := undef) rfl (by kernel_rfl) (by kernel_rfl) (by kernel_rfl) (fun _ _ _ h => h) (Or.inr ⟨by rfl, rfl⟩) (by assumption) ?_
      try simp only [Act.put, List.setIfInBounds_toArray, List.set_cons_zero, List.set_cons_succ]
      refine wpAnyH_take (i := 11) (oi := { dst := some 151, op := Go.Op.binOp Go.BinOp.eql 9 (Go.Operand.tmp 148) (Go.Operand.tmp 150) 9, type := 4, pos := "outright.go:77", after := #[{ on := 8, ground := Go.Ground.data }, { on := 10, ground := Go.Ground.data }, { on := 6, ground := Go.Ground.guard }], guard := some (6, true) }) (v := undef) rfl (by kernel_rfl) (by kernel_rfl) (by kernel_rfl) (fun _ _ _ h => h) (Or.inr ⟨by rfl, rfl⟩) (by assumption) ?_
      try simp only [Act.put, List.setIfInBounds_toArray, List.set_cons_zero, List.set_cons_succ]
      refine wpAnyH_take (i := 12) (oi := { dst := some 152, op := Go.Op.pick (Go.Operand.tmp 146) (Go.Operand.tmp 151) (Go.Operand.const (Go.Value.bool false)), type := 4, pos := "outright.go:77", after := #[{ on := 6, ground := Go.Ground.data }, { on := 11, ground := Go.Ground.data }], guard := none }) (v := ?_) rfl (by kernel_rfl) (by kernel_rfl) (by kernel_rfl) (fun _ _ _ h => h) (Or.inl ⟨by rfl, ?_⟩) (by assumption) ?_
      rotate_left
      · intro w7 hSw
        try dsimp only at hSw
        first | (go_simp; done) | (go_simp; with_reducible rfl)
      try simp only [Act.put, List.setIfInBounds_toArray, List.set_cons_zero, List.set_cons_succ]
      refine wpAnyH_take (i := 13) (oi := { dst := some 153, op := Go.Op.move (Go.Operand.tmp 152), type := 4, pos := "outright.go:77", after := #[{ on := 12, ground := Go.Ground.data }, { on := 6, ground := Go.Ground.chain }], guard := none }) (v := ?_) rfl (by kernel_rfl) (by kernel_rfl) (by kernel_rfl) (fun _ _ _ h => h) (Or.inl ⟨by rfl, ?_⟩) (by assumption) ?_
      rotate_left
      · intro w7 hSw
        try dsimp only at hSw
        first | (go_simp; done) | (go_simp; with_reducible rfl)
      try simp only [Act.put, List.setIfInBounds_toArray, List.set_cons_zero, List.set_cons_succ]
      refine wpAnyH_take (i := 14) (oi := { dst := some 154, op := Go.Op.fieldAddr 28 (Go.Operand.tmp 3) 4, type := 0, pos := "outright.go:77", after := #[{ on := 13, ground := Go.Ground.guard }], guard := some (13, true) }) (v := undef) rfl (by kernel_rfl) (by kernel_rfl) (by kernel_rfl) (fun _ _ _ h => h) (Or.inr ⟨by rfl, rfl⟩) (by assumption) ?_
      try simp only [Act.put, List.setIfInBounds_toArray, List.set_cons_zero, List.set_cons_succ]
      refine wpAnyH_take (i := 15) (oi := { dst := some 155, op := Go.Op.load 26 (Go.Operand.tmp 154), type := 26, pos := "outright.go:77", after := #[{ on := 14, ground := Go.Ground.data }, { on := 13, ground := Go.Ground.guard }], guard := some (13, true) }) (v := undef) rfl (by kernel_rfl) (by kernel_rfl) (by kernel_rfl) (fun _ _ _ h => h) (Or.inr ⟨by rfl, rfl⟩) (by assumption) ?_
      try simp only [Act.put, List.setIfInBounds_toArray, List.set_cons_zero, List.set_cons_succ]
      refine wpAnyH_take (i := 16) (oi := { dst := some 156, op := Go.Op.fieldAddr 28 (Go.Operand.tmp 4) 4, type := 0, pos := "outright.go:77", after := #[{ on := 13, ground := Go.Ground.guard }], guard := some (13, true) }) (v := undef) rfl (by kernel_rfl) (by kernel_rfl) (by kernel_rfl) (fun _ _ _ h => h) (Or.inr ⟨by rfl, rfl⟩) (by assumption) ?_
      try simp only [Act.put, List.setIfInBounds_toArray, List.set_cons_zero, List.set_cons_succ]
      refine wpAnyH_take (i := 17) (oi := { dst := some 157, op := Go.Op.load 26 (Go.Operand.tmp 156), type := 26, pos := "outright.go:77", after := #[{ on := 16, ground := Go.Ground.data }, { on := 13, ground := Go.Ground.guard }], guard := some (13, true) }) (v := undef) rfl (by kernel_rfl) (by kernel_rfl) (by kernel_rfl) (fun _ _ _ h => h) (Or.inr ⟨by rfl, rfl⟩) (by assumption) ?_
      try simp only [Act.put, List.setIfInBounds_toArray, List.set_cons_zero, List.set_cons_succ]
      refine wpAnyH_take (i := 18) (oi := { dst := some 158, op := Go.Op.call { callee := Go.Callee.value (Go.Operand.func 8), args := #[Go.Operand.tmp 155, Go.Operand.tmp 157], argTypes := #[26, 26] }, type := 4, pos := "outright.go:77", after := #[{ on := 15, ground := Go.Ground.data }, { on := 17, ground := Go.Ground.data }, { on := 13, ground := Go.Ground.chain }, { on := 13, ground := Go.Ground.guard }], guard := some (13, true) }) (v := undef) rfl (by kernel_rfl) (by kernel_rfl) (by kernel_rfl) (fun _ _ _ h => h) (Or.inr ⟨by rfl, rfl⟩) (by assumption) ?_
      try simp only [Act.put, List.setIfInBounds_toArray, List.set_cons_zero, List.set_cons_succ]
      refine wpAnyH_take (i := 19) (oi := { dst := some 159, op := Go.Op.pick (Go.Operand.tmp 153) (Go.Operand.tmp 158) (Go.Operand.const (Go.Value.bool false)), type := 4, pos := "outright.go:77", after := #[{ on := 13, ground := Go.Ground.data }, { on := 18, ground := Go.Ground.data }], guard := none }) (v := ?_) rfl (by kernel_rfl) (by kernel_rfl) (by kernel_rfl) (fun _ _ _ h => h) (Or.inl ⟨by rfl, ?_⟩) (by assumption) ?_
      rotate_left
      · intro w7 hSw
        try dsimp only at hSw
        first | (go_simp; done) | (go_simp; with_reducible rfl)
      try simp only [Act.put, List.setIfInBounds_toArray, List.set_cons_zero, List.set_cons_succ]
      refine wpAnyH_take (i := 20) (oi := { dst := some 160, op := Go.Op.binOp Go.BinOp.eql 4 (Go.Operand.tmp 142) (Go.Operand.tmp 159) 4, type := 4, pos := "outright.go:77", after := #[{ on := 2, ground := Go.Ground.data }, { on := 19, ground := Go.Ground.data }], guard := none }) (v := ?_) rfl (by kernel_rfl) (by kernel_rfl) (by kernel_rfl) (fun _ _ _ h => h) (Or.inl ⟨by rfl, ?_⟩) (by assumption) ?_
      rotate_left
      · intro w7 hSw
        try dsimp only at hSw
        first | (go_simp; done) | (go_simp; with_reducible rfl)
      try simp only [Act.put, List.setIfInBounds_toArray, List.set_cons_zero, List.set_cons_succ]
      refine wpAnyH_take (i := 21) (oi := { dst := some 161, op := Go.Op.move (Go.Operand.tmp 160), type := 4, pos := "outright.go:77", after := #[{ on := 20, ground := Go.Ground.data }, { on := 18, ground := Go.Ground.chain }], guard := none }) (v := ?_) rfl (by kernel_rfl) (by kernel_rfl) (by kernel_rfl) (fun _ _ _ h => h) (Or.inl ⟨by rfl, ?_⟩) (by assumption) ?_
      rotate_left
      · intro w7 hSw
        try dsimp only at hSw
        first | (go_simp; done) | (go_simp; with_reducible rfl)
      try simp only [Act.put, List.setIfInBounds_toArray, List.set_cons_zero, List.set_cons_succ]
      refine wpAnyH_ready (rs := [22]) (by kernel_rfl) (by simp) ?_
      refine AllReadyH.cons (o := { dst := some 162, op := Go.Op.call { callee := Go.Callee.value (Go.Operand.func 9), args := #[], argTypes := #[] }, type := 4, pos := "outright.go:77", after := #[{ on := 21, ground := Go.Ground.chain }, { on := 21, ground := Go.Ground.guard }], guard := some (21, true) }) rfl (fun K hK => ?_) AllReadyH.nil
      go_simp
      (go_at_call 9; refine (hAw _ hHeld.2.2.2.2.2.2.2.2.2.2.2.2.2.2.2.2.out).mono ?_; rintro e9 w9 ⟨rfl, k9⟩)
      go_wp2_with fail
      refine hK.out _ _ (HS.out _ _ hHeld k9) (fun hHeld2 => ?_)
      try dsimp only at hHeld2
      clear hK hHeld
      have hHeld := hHeld2
      clear hHeld2
      try simp only [Act.put, List.setIfInBounds_toArray, List.set_cons_zero, List.set_cons_succ]
      refine wpAnyH_take (i := 23) (oi := { dst := some 163, op := Go.Op.pick (Go.Operand.tmp 161) (Go.Operand.tmp 162) (Go.Operand.const (Go.Value.bool false)), type := 4, pos := "outright.go:77", after := #[{ on := 21, ground := Go.Ground.data }, { on := 22, ground := Go.Ground.data }], guard := none }) (v := ?_) rfl (by kernel_rfl) (by kernel_rfl) (by kernel_rfl) (fun _ _ _ h => h) (Or.inl ⟨by rfl, ?_⟩) (by assumption) ?_
      rotate_left
      · intro w7 hSw
        try dsimp only at hSw
        first | (go_simp; done) | (go_simp; with_reducible rfl)
      try simp only [Act.put, List.setIfInBounds_toArray, List.set_cons_zero, List.set_cons_succ]
      refine wpAnyH_take (i := 24) (oi := { dst := some 6, op := Go.Op.assign (Go.Operand.tmp 163), type := 4, pos := "outright.go:77", after := #[{ on := 23, ground := Go.Ground.data }, { on := 22, ground := Go.Ground.chain }, { on := 0, ground := Go.Ground.phase }, { on := 1, ground := Go.Ground.phase }, { on := 2, ground := Go.Ground.phase }, { on := 3, ground := Go.Ground.phase }, { on := 4, ground := Go.Ground.phase }, { on := 5, ground := Go.Ground.phase }, { on := 6, ground := Go.Ground.phase }, { on := 7, ground := Go.Ground.phase }, { on := 8, ground := Go.Ground.phase }, { on := 9, ground := Go.Ground.phase }, { on := 10, ground := Go.Ground.phase }, { on := 11, ground := Go.Ground.phase }, { on := 12, ground := Go.Ground.phase }, { on := 13, ground := Go.Ground.phase }, { on := 14, ground := Go.Ground.phase }, { on := 15, ground := Go.Ground.phase }, { on := 16, ground := Go.Ground.phase }, { on := 17, ground := Go.Ground.phase }, { on := 18, ground := Go.Ground.phase }, { on := 19, ground := Go.Ground.phase }, { on := 20, ground := Go.Ground.phase }, { on := 21, ground := Go.Ground.phase }, { on := 22, ground := Go.Ground.phase }, { on := 23, ground := Go.Ground.phase }], guard := none }) (v := ?_) rfl (by kernel_rfl) (by kernel_rfl) (by kernel_rfl) (fun _ _ _ h => h) (Or.inl ⟨by rfl, ?_⟩) (by assumption) ?_
      rotate_left
      · intro w7 hSw
        try dsimp only at hSw
        first | (go_simp; done) | (go_simp; with_reducible rfl)
      try simp only [Act.put, List.setIfInBounds_toArray, List.set_cons_zero, List.set_cons_succ]
      refine wpAnyH_done (by kernel_rfl) ?_ _
      have HZ : Hid (Keep [] w _) := hHeld.2.2.2.2.2.2.2.2.2.2.2.2.2.2.2.2
      clear hHeld HS HS0
      go_wp2
      go_ret
      exact ⟨rfl, HZ.out⟩
end Go.Proofs.YtclapbpkkaljgaaGreatDoor
