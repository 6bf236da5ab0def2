/- The walk of the statement on how two values stand. -/
import Derived.Test.YtppimacfeelneaaRvF
import Derived.Test.YtppimacfeelneaaRvE
import Derived.Test.YtppimacfeelneaaLtD
namespace Go.Proofs.Ytppimacfeelneaa
open Go.RowKit Go.PlainAid

/-- a value lies in the block q -/
def Box (w : World) (q : Nat) (p : VD) (u : Value) : Prop :=
  w.cell? ⟨q, 0, none⟩ = some (.int .i64 p.kind) ∧ w.cell? ⟨q, 1, none⟩ = some (.bool p.bool) ∧ w.cell? ⟨q, 2, none⟩ = some (.int .i64 p.int) ∧ w.cell? ⟨q, 3, none⟩ = some (.float .f32 p.real) ∧ w.cell? ⟨q, 4, none⟩ = some (.string p.text) ∧ w.cell? ⟨q, 5, none⟩ = some u
theorem Box.keep {w w' : World} {q : Nat} {p : VD} {u : Value} (h : Box w q p u) (k : Keep [] w w') : Box w' q p u :=
  ⟨k.cell' h.1 (by simp), k.cell' h.2.1 (by simp), k.cell' h.2.2.1 (by simp), k.cell' h.2.2.2.1 (by simp), k.cell' h.2.2.2.2.1 (by simp), k.cell' h.2.2.2.2.2 (by simp)⟩
theorem Box.new (w : World) (p : VD) (u : Value) : Box (w.alloc (p.blk u)) w.heap.size p u := by
  refine ⟨?_, ?_, ?_, ?_, ?_, ?_⟩ <;> simp [go_sem]

/-- what stands when the two values are lent: their boxes, and those of what was lent -/
structure Lent2 (w W : World) (q0 q1 qx qy : Nat) (a b : VD) (u v X Y : Value) : Prop where
  fa : Box W q0 a u
  fb : Box W q1 b v
  fx : Box W qx a X
  fy : Box W qy b Y
  keep : Keep [] w W
theorem Lent2.next {w W W' : World} {q0 q1 qx qy : Nat} {a b : VD} {u v X Y : Value} (h : Lent2 w W q0 q1 qx qy a b u v X Y) (k : Keep [] W W') : Lent2 w W' q0 q1 qx qy a b u v X Y :=
  ⟨h.fa.keep k, h.fb.keep k, h.fx.keep k, h.fy.keep k, h.keep.trans' k⟩

set_option maxRecDepth 1000000 in
set_option maxHeartbeats 3200000 in
theorem compares_law (a b : VD) (ha : a.Ok) (hb : b.Ok) (u v : Value) (w : World) (hu : Ts w u a.texts) (hv : Ts w v b.texts) (hla : a.texts.length ≤ 8796093021952) (hlb : b.texts.length ≤ 8796093021952) :
    Calls Try.prog 4 #[a.val u, b.val v] w fun e w' => e = .returned (.bool true) ∧ Keep [] w w' := by
  have HU : Hid (Ts w u a.texts ∧ Ts w v b.texts) := ⟨hu, hv⟩
  have HO : Hid (a.Ok ∧ b.Ok) := ⟨ha, hb⟩
  have HN : Hid (a.texts.length ≤ 8796093021952 ∧ b.texts.length ≤ 8796093021952) := ⟨hla, hlb⟩
  obtain ⟨ao, ca, rfl, _, _, _, _⟩ := hu.ex
  obtain ⟨bo, cb, rfl, _, _, _, _⟩ := hv.ex
  clear hu hv ha hb hla hlb
  have hLa := fun w1 (k : Keep [] w w1) => lentValue_any a (.slice ao a.texts.length ca) w1 (HU.out.1.keep k (Off.nil _)) HN.out.1
  have hLb := fun w1 (k : Keep [] w w1) => lentValue_any b (.slice bo b.texts.length cb) w1 (HU.out.2.keep k (Off.nil _)) HN.out.2
  have K0 : Hid (Keep [] w ((w.alloc (a.blk (.slice ao a.texts.length ca))).alloc (b.blk (.slice bo b.texts.length cb)))) := (Keep.alloc1 w _).alloc _
  have hsf := store_f32
  simp only [Go.stored] at hsf
  go_enter Try.func4, Try.ntmps4
  go_wp2_with fail
  refine (hLa _ K0.out).mono ?_
  rintro e9 w1 ⟨g1, c1, rfl, ⟨x1, x2⟩, k1⟩
  have HX : Hid (Ts w1 (.slice (some ⟨g1, 0, none⟩) (a.texts.length + 24) c1) (a.texts ++ marks 24) ∧ Ts w1 (.slice (some ⟨g1, 0, none⟩) a.texts.length c1) a.texts) := ⟨x1, x2⟩
  have HA : Hid (Box w1 w.heap.size a (.slice ao a.texts.length ca) ∧ Box w1 (w.heap.size + 1) b (.slice bo b.texts.length cb) ∧ Keep [] w w1) := ⟨(two_cells k1).1, (two_cells k1).2, K0.out.trans' k1⟩
  clear x1 x2 k1 hLa
  have kx : Keep [] w1 (w1.alloc (a.blk (.slice (some ⟨g1, 0, none⟩) a.texts.length c1))) := Keep.alloc1 w1 _
  have bd : Box (w1.alloc (a.blk (.slice (some ⟨g1, 0, none⟩) a.texts.length c1))) (w.heap.size + 1) b (.slice bo b.texts.length cb) := HA.out.2.1.keep kx
  have HKx : Hid (Keep [] w (w1.alloc (a.blk (.slice (some ⟨g1, 0, none⟩) a.texts.length c1)))) := HA.out.2.2.trans' kx
  obtain ⟨d0, d1, d2, d3, d4, d5⟩ := bd
  clear kx
  go_wp2_with fail
  refine (hLb _ HKx.out).mono ?_
  rintro e9 w2 ⟨g2, c2, rfl, ⟨y1, y2⟩, k2⟩
  have ky : Keep [] w2 (w2.alloc (b.blk (.slice (some ⟨g2, 0, none⟩) b.texts.length c2))) := Keep.alloc1 w2 _
  have kxy : Keep [] w1 (w2.alloc (b.blk (.slice (some ⟨g2, 0, none⟩) b.texts.length c2))) := ((Keep.alloc1 w1 _).trans' k2).trans' ky
  have HL : Hid (Lent2 w (w2.alloc (b.blk (.slice (some ⟨g2, 0, none⟩) b.texts.length c2))) w.heap.size (w.heap.size + 1) w1.heap.size w2.heap.size a b (.slice ao a.texts.length ca) (.slice bo b.texts.length cb) (.slice (some ⟨g1, 0, none⟩) a.texts.length c1) (.slice (some ⟨g2, 0, none⟩) b.texts.length c2)) :=
    ⟨HA.out.1.keep kxy, HA.out.2.1.keep kxy, (Box.new w1 a _).keep (k2.trans' ky), Box.new w2 b _, HA.out.2.2.trans' kxy⟩
  have HT : Hid (Ts (w2.alloc (b.blk (.slice (some ⟨g2, 0, none⟩) b.texts.length c2))) (.slice (some ⟨g1, 0, none⟩) (a.texts.length + 24) c1) (a.texts ++ marks 24) ∧ Ts (w2.alloc (b.blk (.slice (some ⟨g2, 0, none⟩) b.texts.length c2))) (.slice (some ⟨g1, 0, none⟩) a.texts.length c1) a.texts ∧
      Ts (w2.alloc (b.blk (.slice (some ⟨g2, 0, none⟩) b.texts.length c2))) (.slice (some ⟨g2, 0, none⟩) (b.texts.length + 24) c2) (b.texts ++ marks 24) ∧ Ts (w2.alloc (b.blk (.slice (some ⟨g2, 0, none⟩) b.texts.length c2))) (.slice (some ⟨g2, 0, none⟩) b.texts.length c2) b.texts) :=
    ⟨HX.out.1.keep kxy (Off.nil _), HX.out.2.keep kxy (Off.nil _), y1.keep ky (Off.nil _), y2.keep ky (Off.nil _)⟩
  obtain ⟨x0, x1, x2, x3, x4, x5⟩ := HL.out.fx
  obtain ⟨y0, y1', y2', y3, y4, y5⟩ := HL.out.fy
  clear d0 d1 d2 d3 d4 d5 y1 y2 k2 ky kxy HX HA HKx hLb K0
  go_wp2_with fail
  clear hsf
  generalize (w2.alloc (.cells #[.int .i64 b.kind, .bool b.bool, .int .i64 b.int, .float .f32 b.real, .string b.text, .slice (some ⟨g2, 0, none⟩) b.texts.length c2] 28)) = W at HL HT ⊢
  generalize w1.heap.size = qx at HL ⊢
  generalize w2.heap.size = qy at HL ⊢
  clear x0 x1 x2 x3 x4 x5 y0 y1' y2' y3 y4 y5
  have HU2 : Hid (∀ W', Keep [] W W' → Ts W' (.slice ao a.texts.length ca) a.texts ∧ Ts W' (.slice bo b.texts.length cb) b.texts) := fun W' k => ⟨HU.out.1.keep (HL.out.keep.trans' k) (Off.nil _), HU.out.2.keep (HL.out.keep.trans' k) (Off.nil _)⟩
  have HX2 : Hid (∀ W', Keep [] W W' → (Ts W' (.slice (some ⟨g1, 0, none⟩) (a.texts.length + 24) c1) (a.texts ++ marks 24) ∧ Ts W' (.slice (some ⟨g1, 0, none⟩) a.texts.length c1) a.texts) ∧ Ts W' (.slice (some ⟨g2, 0, none⟩) (b.texts.length + 24) c2) (b.texts ++ marks 24) ∧ Ts W' (.slice (some ⟨g2, 0, none⟩) b.texts.length c2) b.texts) :=
    fun W' k => ⟨⟨HT.out.1.keep k (Off.nil _), HT.out.2.1.keep k (Off.nil _)⟩, HT.out.2.2.1.keep k (Off.nil _), HT.out.2.2.2.keep k (Off.nil _)⟩
  clear HU HT
  have hS := fun w k => same_any a b HO.out.1 HO.out.2 (.slice (some ⟨g1, 0, none⟩) a.texts.length c1) (.slice (some ⟨g2, 0, none⟩) b.texts.length c2) w (HX2.out w k).1.2 (HX2.out w k).2.2
  have hC := fun w k => compare_any a b HO.out.1 HO.out.2 (.slice (some ⟨g1, 0, none⟩) a.texts.length c1) (.slice (some ⟨g2, 0, none⟩) b.texts.length c2) w (HX2.out w k).1.2 (HX2.out w k).2.2
  have hI := fun w k => in_any a b HO.out.1 HO.out.2 (.slice (some ⟨g1, 0, none⟩) a.texts.length c1) (.slice (some ⟨g2, 0, none⟩) b.texts.length c2) w (HX2.out w k).1.2 (HX2.out w k).2.2
  have hRC := fun w k => rCompareV_any a b HO.out.1 HO.out.2 (.slice ao a.texts.length ca) (.slice bo b.texts.length cb) w (HU2.out w k).1 (HU2.out w k).2
  have hRI := fun w k => rIn_any a b HO.out.1 HO.out.2 (.slice ao a.texts.length ca) (.slice bo b.texts.length cb) w (HU2.out w k).1 (HU2.out w k).2
  have hRS := fun w k => rSameV_any a b HO.out.1 HO.out.2 (.slice ao a.texts.length ca) (.slice bo b.texts.length cb) w (HU2.out w k).1 (HU2.out w k).2
  have hKa := fun w k => keptValue_any a g1 c1 (.slice ao a.texts.length ca) w (HX2.out w k).1.1 (HX2.out w k).1.2 (HU2.out w k).1 HN.out.1
  have hKb := fun w k => keptValue_any b g2 c2 (.slice bo b.texts.length cb) w (HX2.out w k).2.1 (HX2.out w k).2.2 (HU2.out w k).2 HN.out.2
  clear HU2 HX2 HO HN
  generalize sameV a b = s at *
  generalize (cmpV a b).1 = z at *
  generalize (cmpV a b).2 = ok at *
  generalize (inV a b).1 = i1 at *
  generalize (inV a b).2 = i2 at *
  have t1 : (s == s) = true := by simp
  have t2 : (z == z) = true := by simp
  have t3 : (ok == ok) = true := by simp
  have t4 : (i1 == i1) = true := by simp
  have t5 : (i2 == i2) = true := by simp
  have HW0 : Hid (Keep [] W W) := Keep.refl _ _
  refine (hS _ HW0.out).mono ?_
  rintro e9 w3 ⟨rfl, k0⟩
  have HW1 : Hid (Keep [] W w3) := HW0.out.trans' k0
  clear k0 hS
  obtain ⟨x0, x1, x2, x3, x4, x5⟩ := (HL.out.next HW1.out).fx
  obtain ⟨y0, y1, y2, y3, y4, y5⟩ := (HL.out.next HW1.out).fy
  go_wp2_with fail
  refine (hC _ HW1.out).mono ?_
  rintro e9 w4 ⟨rfl, k1⟩
  have HW2 : Hid (Keep [] W w4) := HW1.out.trans' k1
  clear k1 hC HW1
  clear x0 x1 x2 x3 x4 x5 y0 y1 y2 y3 y4 y5
  obtain ⟨x0, x1, x2, x3, x4, x5⟩ := (HL.out.next HW2.out).fx
  obtain ⟨y0, y1, y2, y3, y4, y5⟩ := (HL.out.next HW2.out).fy
  go_wp2_with fail
  refine (hI _ HW2.out).mono ?_
  rintro e9 w5 ⟨rfl, k2⟩
  have HW3 : Hid (Keep [] W w5) := HW2.out.trans' k2
  clear k2 hI HW2
  clear x0 x1 x2 x3 x4 x5 y0 y1 y2 y3 y4 y5
  obtain ⟨p0, p1, p2, p3, p4, p5⟩ := (HL.out.next HW3.out).fa
  obtain ⟨q0, q1, q2, q3, q4, q5⟩ := (HL.out.next HW3.out).fb
  go_wp2_with fail
  refine (hRC _ HW3.out).mono ?_
  rintro e9 w6 ⟨rfl, k3⟩
  have HW4 : Hid (Keep [] W w6) := HW3.out.trans' k3
  clear k3 hRC HW3
  clear p0 p1 p2 p3 p4 p5 q0 q1 q2 q3 q4 q5
  obtain ⟨p0, p1, p2, p3, p4, p5⟩ := (HL.out.next HW4.out).fa
  obtain ⟨q0, q1, q2, q3, q4, q5⟩ := (HL.out.next HW4.out).fb
  go_wp2_with fail
  refine (hRI _ HW4.out).mono ?_
  rintro e9 w7 ⟨rfl, k4⟩
  have HW5 : Hid (Keep [] W w7) := HW4.out.trans' k4
  clear k4 hRI HW4
  clear p0 p1 p2 p3 p4 p5 q0 q1 q2 q3 q4 q5
  obtain ⟨p0, p1, p2, p3, p4, p5⟩ := (HL.out.next HW5.out).fa
  obtain ⟨q0, q1, q2, q3, q4, q5⟩ := (HL.out.next HW5.out).fb
  go_wp2_with fail
  refine (hRS _ HW5.out).mono ?_
  rintro e9 w8 ⟨rfl, k5⟩
  have HW6 : Hid (Keep [] W w8) := HW5.out.trans' k5
  clear k5 hRS HW5
  clear p0 p1 p2 p3 p4 p5 q0 q1 q2 q3 q4 q5
  obtain ⟨x0, x1, x2, x3, x4, x5⟩ := (HL.out.next HW6.out).fx
  obtain ⟨p0, p1, p2, p3, p4, p5⟩ := (HL.out.next HW6.out).fa
  go_wp2_with fail
  refine (hKa _ HW6.out).mono ?_
  rintro e9 w9 ⟨rfl, k6⟩
  have HW7 : Hid (Keep [] W w9) := HW6.out.trans' k6
  clear k6 hKa HW6
  clear x0 x1 x2 x3 x4 x5 p0 p1 p2 p3 p4 p5
  obtain ⟨y0, y1, y2, y3, y4, y5⟩ := (HL.out.next HW7.out).fy
  obtain ⟨q0, q1, q2, q3, q4, q5⟩ := (HL.out.next HW7.out).fb
  go_wp2_with fail
  refine (hKb _ HW7.out).mono ?_
  rintro e9 w10 ⟨rfl, k7⟩
  have HW8 : Hid (Keep [] W w10) := HW7.out.trans' k7
  clear k7 hKb HW7
  clear y0 y1 y2 y3 y4 y5 q0 q1 q2 q3 q4 q5
  have HE : Hid (Keep [] w w10) := HL.out.keep.trans' HW8.out
  clear HW8 HL
  go_wp2
  go_ret
  exact ⟨rfl, HE.out⟩
end Go.Proofs.Ytppimacfeelneaa
