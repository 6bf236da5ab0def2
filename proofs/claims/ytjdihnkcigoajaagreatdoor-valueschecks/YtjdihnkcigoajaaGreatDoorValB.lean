/- ValuesChecks: the law's walk. -/
import Derived.Test.YtjdihnkcigoajaaGreatDoorQuK
import Derived.Test.YtjdihnkcigoajaaGreatDoorDcH
import Derived.Test.YtjdihnkcigoajaaGreatDoorDcO
import Derived.Test.YtjdihnkcigoajaaGreatDoorValW
import Derived.ProofKit
import Derived.OpenShut
import Derived.ChangeOld
import Derived.SizedLaws
import Derived.Lib.SmallJoins
import Derived.Deep.Slices

namespace Go.Proofs.YtjdihnkcigoajaaGreatDoor
open Go.RowKit Go.PlainAid

/-- a value lies in the block q -/
def Box (w : World) (q : Nat) (p : VD) (u : Value) : Prop :=
  w.cell? ⟨q, 0, none⟩ = some (.int .i64 p.kind) ∧ w.cell? ⟨q, 1, none⟩ = some (.bool p.bool) ∧ w.cell? ⟨q, 2, none⟩ = some (.int .i64 p.int) ∧ w.cell? ⟨q, 3, none⟩ = some (.float .f32 p.real) ∧ w.cell? ⟨q, 4, none⟩ = some (.string p.text) ∧ w.cell? ⟨q, 5, none⟩ = some u
theorem Box.keep {w w' : World} {q : Nat} {p : VD} {u : Value} (h : Box w q p u) (k : Keep [] w w') : Box w' q p u :=
  ⟨k.cell' h.1 (by simp), k.cell' h.2.1 (by simp), k.cell' h.2.2.1 (by simp), k.cell' h.2.2.2.1 (by simp), k.cell' h.2.2.2.2.1 (by simp), k.cell' h.2.2.2.2.2 (by simp)⟩
theorem Box.new (w : World) (p : VD) (u : Value) : Box (w.alloc (p.blk u)) w.heap.size p u := by
  refine ⟨?_, ?_, ?_, ?_, ?_, ?_⟩ <;> simp [go_sem]

theorem dCheck_yes (x : VD) (hx : x.Ok) (hm : x.mayB = true) (u : Value) (w : World) (hu : Ts w u x.texts) : Calls Tryz.prog 10 #[x.val u] w fun e w' => e = .returned (.int .i64 0) ∧ Keep [] w w' := by
  have := dCheck_any x hx u w hu
  rw [hm] at this
  exact this
theorem dCheck_no (x : VD) (hx : x.Ok) (hm : x.mayB = false) (u : Value) (w : World) (hu : Ts w u x.texts) : Calls Tryz.prog 10 #[x.val u] w fun e w' => e = .returned (.int .i64 40) ∧ Keep [] w w' := by
  have := dCheck_any x hx u w hu
  rw [hm] at this
  exact this
theorem sameBytes_self (u v : Value) (l : List UInt8) (w : World) (hu : Bs w u l) (hv : Bs w v l) : Calls Tryz.prog 11 #[u, v] w fun e w' => e = .returned (.bool true) ∧ Keep [] w w' := by
  refine (sameBytes_any u v l l w hu hv).mono ?_
  rintro e w' ⟨rfl, n, rfl⟩
  exact ⟨by simp, (Keep.refl [] w).drewN n⟩
set_option maxRecDepth 1000000 in
set_option maxHeartbeats 3200000 in
theorem checks_yes (x : VD) (hx : x.Ok) (hm : x.mayB = true) (u : Value) (w : World) (hu : Ts w u x.texts) (hl : x.texts.length ≤ 8796093021952) (hT : TabV w) :
    Calls Tryz.prog 3 #[x.val u] w fun e w' => e = .returned (.bool true) ∧ Keep [] w w' := by
  have HU : Hid (Ts w u x.texts) := hu
  have HO : Hid (x.Ok ∧ x.mayB = true ∧ TabV w) := ⟨hx, hm, hT⟩
  have HN : Hid (x.texts.length ≤ 8796093021952) := hl
  obtain ⟨ao, ca, rfl, _, _, _, _⟩ := hu.ex
  clear hu hx hm hT hl
  have hLa := fun w1 (k : Keep [] w w1) => lentValue_any x (.slice ao x.texts.length ca) w1 (HU.out.keep k (Off.nil _)) HN.out
  have K0 : Hid (Keep [] w (w.alloc (x.blk (.slice ao x.texts.length ca)))) := Keep.alloc1 w _
  have B0 : Hid (Box (w.alloc (x.blk (.slice ao x.texts.length ca))) w.heap.size x (.slice ao x.texts.length ca)) := Box.new w x _
  have hsf := store_f32
  simp only [Go.stored] at hsf
  go_enter Tryz.func3, Tryz.ntmps3
  go_wp2_with fail
  refine (hLa _ K0.out).mono ?_
  rintro e9 w1 ⟨g1, c1, rfl, ⟨x1, x2⟩, k1⟩
  have ky : Keep [] w1 (w1.alloc (x.blk (.slice (some ⟨g1, 0, none⟩) x.texts.length c1))) := Keep.alloc1 w1 _
  have HW : Hid (Keep [] w (w1.alloc (x.blk (.slice (some ⟨g1, 0, none⟩) x.texts.length c1)))) := (K0.out.trans' k1).trans' ky
  have HA : Hid (Box (w1.alloc (x.blk (.slice (some ⟨g1, 0, none⟩) x.texts.length c1))) w.heap.size x (.slice ao x.texts.length ca)) := (B0.out.keep k1).keep ky
  have HX : Hid (Box (w1.alloc (x.blk (.slice (some ⟨g1, 0, none⟩) x.texts.length c1))) w1.heap.size x (.slice (some ⟨g1, 0, none⟩) x.texts.length c1)) := Box.new w1 x _
  have HT : Hid (Ts (w1.alloc (x.blk (.slice (some ⟨g1, 0, none⟩) x.texts.length c1))) (.slice (some ⟨g1, 0, none⟩) (x.texts.length + 24) c1) (x.texts ++ marks 24) ∧ Ts (w1.alloc (x.blk (.slice (some ⟨g1, 0, none⟩) x.texts.length c1))) (.slice (some ⟨g1, 0, none⟩) x.texts.length c1) x.texts) := ⟨x1.keep ky (Off.nil _), x2.keep ky (Off.nil _)⟩
  obtain ⟨y0, y1, y2, y3, y4, y5⟩ := HX.out
  clear x1 x2 k1 ky hLa K0 B0
  go_wp2_with fail
  clear hsf
  clear y0 y1 y2 y3 y4 y5
  generalize (w1.alloc (.cells #[.int .i64 x.kind, .bool x.bool, .int .i64 x.int, .float .f32 x.real, .string x.text, .slice (some ⟨g1, 0, none⟩) x.texts.length c1] 25)) = W at HW HA HX HT ⊢
  generalize w1.heap.size = qx at HX ⊢
  generalize w.heap.size = q0 at HA ⊢
  have HUW : Hid (∀ W', Keep [] W W' → Ts W' (.slice ao x.texts.length ca) x.texts) := fun W' k => HU.out.keep (HW.out.trans' k) (Off.nil _)
  have HXW : Hid (∀ W', Keep [] W W' → Ts W' (.slice (some ⟨g1, 0, none⟩) (x.texts.length + 24) c1) (x.texts ++ marks 24) ∧ Ts W' (.slice (some ⟨g1, 0, none⟩) x.texts.length c1) x.texts) := fun W' k => ⟨HT.out.1.keep k (Off.nil _), HT.out.2.keep k (Off.nil _)⟩
  have HTW : Hid (∀ W', Keep [] W W' → TabV W') := fun W' k => (HO.out.2.2.keep HW.out).keep k
  clear HU HT
  have C0 := Keep.refl [] W
  have HK0 : Hid (Keep [] W W) := C0
  clear C0
  refine (check_yes x HO.out.1 (.slice (some ⟨g1, 0, none⟩) x.texts.length c1) _ (HXW.out _ HK0.out).2 HO.out.2.1).mono ?_
  rintro e9 w2 ⟨rfl, kk⟩
  have C1 : Keep [] W w2 := HK0.out.trans' kk
  clear kk
  obtain ⟨y0, y1, y2, y3, y4, y5⟩ := HX.out.keep C1
  go_wp2_with fail
  clear y0 y1 y2 y3 y4 y5
  have HK1 : Hid (Keep [] W w2) := C1
  clear C1
  refine (text_yes x HO.out.1 HO.out.2.1 (.slice (some ⟨g1, 0, none⟩) x.texts.length c1) _ (HXW.out _ HK1.out).2 (HTW.out _ HK1.out)).mono ?_
  rintro e9 w3 ⟨rfl, kk⟩
  have C2 : Keep [] W w3 := HK1.out.trans' kk
  clear kk
  obtain ⟨y0, y1, y2, y3, y4, y5⟩ := HX.out.keep C2
  go_wp2_with fail
  clear y0 y1 y2 y3 y4 y5
  have HK2 : Hid (Keep [] W w3) := C2
  clear C2
  refine (encode_yes x HO.out.1 HO.out.2.1 (.slice (some ⟨g1, 0, none⟩) x.texts.length c1) _ (HXW.out _ HK2.out).2).mono ?_
  rintro e9 w4 ⟨vb, rfl, ⟨rb, fb, sb⟩, kk⟩
  have C3 : Keep [] W w4 := HK2.out.trans' kk
  clear kk
  obtain ⟨ab, cb, rfl⟩ := sb
  have RB : Hid (Row w4 (.slice ab (encL x).length cb) (encL x)) := rb
  clear rb fb
  obtain ⟨y0, y1, y2, y3, y4, y5⟩ := HA.out.keep C3
  go_wp2_with fail
  clear y0 y1 y2 y3 y4 y5
  have HK3 : Hid (Keep [] W w4) := C3
  clear C3
  refine (dText_yes x HO.out.1 HO.out.2.1 (.slice ao x.texts.length ca) _ (HUW.out _ HK3.out) (HTW.out _ HK3.out)).mono ?_
  rintro e9 w5 ⟨rfl, kk⟩
  have C4 : Keep [] W w5 := HK3.out.trans' kk
  have KB4 : Hid (Keep [] w4 w5) := kk
  clear kk
  obtain ⟨y0, y1, y2, y3, y4, y5⟩ := HA.out.keep C4
  go_wp2_with fail
  clear y0 y1 y2 y3 y4 y5
  have HK4 : Hid (Keep [] W w5) := C4
  clear C4
  refine (dEncode_yes x HO.out.1 HO.out.2.1 (.slice ao x.texts.length ca) _ (HUW.out _ HK4.out)).mono ?_
  rintro e9 w6 ⟨vd, rfl, ⟨rd, fd, sd⟩, kk⟩
  have C5 : Keep [] W w6 := HK4.out.trans' kk
  have KB5 : Hid (Keep [] w4 w6) := KB4.out.trans' kk
  clear kk
  obtain ⟨ad, cd, rfl⟩ := sd
  have RD : Hid (Row w6 (.slice ad (encL x).length cd) (encL x)) := rd
  have RB6 : Hid (Row w6 (.slice ab (encL x).length cb) (encL x)) := show Row _ _ _ from RB.out.keep KB5.out (Off.nil _)
  clear rd fd
  obtain ⟨y0, y1, y2, y3, y4, y5⟩ := HA.out.keep C5
  go_wp2_with fail
  clear y0 y1 y2 y3 y4 y5
  have HK5 : Hid (Keep [] W w6) := C5
  clear C5
  refine (dCheck_yes x HO.out.1 HO.out.2.1 (.slice ao x.texts.length ca) _ (HUW.out _ HK5.out)).mono ?_
  rintro e9 w7 ⟨rfl, kk⟩
  have C6 : Keep [] W w7 := HK5.out.trans' kk
  have KC6 : Hid (Keep [] w6 w7) := kk
  clear kk
  go_wp2_with fail
  have HK6 : Hid (Keep [] W w7) := C6
  clear C6
  refine (sameBytes_self _ _ (encL x) _ (RB6.out.keep KC6.out (Off.nil _)).bs (RD.out.keep KC6.out (Off.nil _)).bs).mono ?_
  rintro e9 w8 ⟨rfl, kk⟩
  have C7 : Keep [] W w8 := HK6.out.trans' kk
  clear kk
  obtain ⟨y0, y1, y2, y3, y4, y5⟩ := HX.out.keep C7
  obtain ⟨v0, v1, v2, v3, v4, v5⟩ := HA.out.keep C7
  go_wp2_with fail
  clear y0 y1 y2 y3 y4 y5 v0 v1 v2 v3 v4 v5
  have HK7 : Hid (Keep [] W w8) := C7
  clear C7
  refine (keptValue_any x g1 c1 (.slice ao x.texts.length ca) _ (HXW.out _ HK7.out).1 (HXW.out _ HK7.out).2 (HUW.out _ HK7.out) HN.out).mono ?_
  rintro e9 w9 ⟨rfl, kk⟩
  have C8 : Keep [] W w9 := HK7.out.trans' kk
  clear kk
  have HF : Hid (Keep [] W w9) := C8
  clear C8
  go_wp2
  go_ret
  exact ⟨rfl, HW.out.trans' HF.out⟩
set_option maxRecDepth 1000000 in
set_option maxHeartbeats 3200000 in
theorem checks_no (x : VD) (hx : x.Ok) (hm : x.mayB = false) (u : Value) (w : World) (hu : Ts w u x.texts) (hl : x.texts.length ≤ 8796093021952) (hT : TabV w) :
    Calls Tryz.prog 3 #[x.val u] w fun e w' => e = .returned (.bool true) ∧ Keep [] w w' := by
  have HU : Hid (Ts w u x.texts) := hu
  have HO : Hid (x.Ok ∧ x.mayB = false ∧ TabV w) := ⟨hx, hm, hT⟩
  have HN : Hid (x.texts.length ≤ 8796093021952) := hl
  obtain ⟨ao, ca, rfl, _, _, _, _⟩ := hu.ex
  clear hu hx hm hT hl
  have hLa := fun w1 (k : Keep [] w w1) => lentValue_any x (.slice ao x.texts.length ca) w1 (HU.out.keep k (Off.nil _)) HN.out
  have K0 : Hid (Keep [] w (w.alloc (x.blk (.slice ao x.texts.length ca)))) := Keep.alloc1 w _
  have B0 : Hid (Box (w.alloc (x.blk (.slice ao x.texts.length ca))) w.heap.size x (.slice ao x.texts.length ca)) := Box.new w x _
  have hsf := store_f32
  simp only [Go.stored] at hsf
  go_enter Tryz.func3, Tryz.ntmps3
  go_wp2_with fail
  refine (hLa _ K0.out).mono ?_
  rintro e9 w1 ⟨g1, c1, rfl, ⟨x1, x2⟩, k1⟩
  have ky : Keep [] w1 (w1.alloc (x.blk (.slice (some ⟨g1, 0, none⟩) x.texts.length c1))) := Keep.alloc1 w1 _
  have HW : Hid (Keep [] w (w1.alloc (x.blk (.slice (some ⟨g1, 0, none⟩) x.texts.length c1)))) := (K0.out.trans' k1).trans' ky
  have HA : Hid (Box (w1.alloc (x.blk (.slice (some ⟨g1, 0, none⟩) x.texts.length c1))) w.heap.size x (.slice ao x.texts.length ca)) := (B0.out.keep k1).keep ky
  have HX : Hid (Box (w1.alloc (x.blk (.slice (some ⟨g1, 0, none⟩) x.texts.length c1))) w1.heap.size x (.slice (some ⟨g1, 0, none⟩) x.texts.length c1)) := Box.new w1 x _
  have HT : Hid (Ts (w1.alloc (x.blk (.slice (some ⟨g1, 0, none⟩) x.texts.length c1))) (.slice (some ⟨g1, 0, none⟩) (x.texts.length + 24) c1) (x.texts ++ marks 24) ∧ Ts (w1.alloc (x.blk (.slice (some ⟨g1, 0, none⟩) x.texts.length c1))) (.slice (some ⟨g1, 0, none⟩) x.texts.length c1) x.texts) := ⟨x1.keep ky (Off.nil _), x2.keep ky (Off.nil _)⟩
  obtain ⟨y0, y1, y2, y3, y4, y5⟩ := HX.out
  clear x1 x2 k1 ky hLa K0 B0
  go_wp2_with fail
  clear hsf
  clear y0 y1 y2 y3 y4 y5
  generalize (w1.alloc (.cells #[.int .i64 x.kind, .bool x.bool, .int .i64 x.int, .float .f32 x.real, .string x.text, .slice (some ⟨g1, 0, none⟩) x.texts.length c1] 25)) = W at HW HA HX HT ⊢
  generalize w1.heap.size = qx at HX ⊢
  generalize w.heap.size = q0 at HA ⊢
  have HUW : Hid (∀ W', Keep [] W W' → Ts W' (.slice ao x.texts.length ca) x.texts) := fun W' k => HU.out.keep (HW.out.trans' k) (Off.nil _)
  have HXW : Hid (∀ W', Keep [] W W' → Ts W' (.slice (some ⟨g1, 0, none⟩) (x.texts.length + 24) c1) (x.texts ++ marks 24) ∧ Ts W' (.slice (some ⟨g1, 0, none⟩) x.texts.length c1) x.texts) := fun W' k => ⟨HT.out.1.keep k (Off.nil _), HT.out.2.keep k (Off.nil _)⟩
  have HTW : Hid (∀ W', Keep [] W W' → TabV W') := fun W' k => (HO.out.2.2.keep HW.out).keep k
  clear HU HT
  have C0 := Keep.refl [] W
  have HK0 : Hid (Keep [] W W) := C0
  clear C0
  refine (check_no x HO.out.1 (.slice (some ⟨g1, 0, none⟩) x.texts.length c1) _ (HXW.out _ HK0.out).2 HO.out.2.1).mono ?_
  rintro e9 w2 ⟨rfl, kk⟩
  have C1 : Keep [] W w2 := HK0.out.trans' kk
  clear kk
  obtain ⟨y0, y1, y2, y3, y4, y5⟩ := HX.out.keep C1
  go_wp2_with fail
  clear y0 y1 y2 y3 y4 y5
  have HK1 : Hid (Keep [] W w2) := C1
  clear C1
  refine (text_no x HO.out.1 HO.out.2.1 (.slice (some ⟨g1, 0, none⟩) x.texts.length c1) _ (HXW.out _ HK1.out).2).mono ?_
  rintro e9 w3 ⟨rfl, kk⟩
  have C2 : Keep [] W w3 := HK1.out.trans' kk
  clear kk
  obtain ⟨y0, y1, y2, y3, y4, y5⟩ := HX.out.keep C2
  go_wp2_with fail
  clear y0 y1 y2 y3 y4 y5
  have HK2 : Hid (Keep [] W w3) := C2
  clear C2
  refine (encode_no x HO.out.1 HO.out.2.1 (.slice (some ⟨g1, 0, none⟩) x.texts.length c1) _ (HXW.out _ HK2.out).2).mono ?_
  rintro e9 w4 ⟨rfl, kk⟩
  have C3 : Keep [] W w4 := HK2.out.trans' kk
  clear kk
  obtain ⟨y0, y1, y2, y3, y4, y5⟩ := HA.out.keep C3
  go_wp2_with fail
  clear y0 y1 y2 y3 y4 y5
  have HK3 : Hid (Keep [] W w4) := C3
  clear C3
  refine (dText_no x HO.out.1 HO.out.2.1 (.slice ao x.texts.length ca) _ (HUW.out _ HK3.out)).mono ?_
  rintro e9 w5 ⟨rfl, kk⟩
  have C4 : Keep [] W w5 := HK3.out.trans' kk
  have KB4 : Hid (Keep [] w4 w5) := kk
  clear kk
  obtain ⟨y0, y1, y2, y3, y4, y5⟩ := HA.out.keep C4
  go_wp2_with fail
  clear y0 y1 y2 y3 y4 y5
  have HK4 : Hid (Keep [] W w5) := C4
  clear C4
  refine (dEncode_no x HO.out.1 HO.out.2.1 (.slice ao x.texts.length ca) _ (HUW.out _ HK4.out)).mono ?_
  rintro e9 w6 ⟨rfl, kk⟩
  have C5 : Keep [] W w6 := HK4.out.trans' kk
  clear kk
  obtain ⟨y0, y1, y2, y3, y4, y5⟩ := HA.out.keep C5
  go_wp2_with fail
  clear y0 y1 y2 y3 y4 y5
  have HK5 : Hid (Keep [] W w6) := C5
  clear C5
  refine (dCheck_no x HO.out.1 HO.out.2.1 (.slice ao x.texts.length ca) _ (HUW.out _ HK5.out)).mono ?_
  rintro e9 w7 ⟨rfl, kk⟩
  have C6 : Keep [] W w7 := HK5.out.trans' kk
  have KC6 : Hid (Keep [] w6 w7) := kk
  clear kk
  go_wp2_with fail
  have HK6 : Hid (Keep [] W w7) := C6
  clear C6
  refine (sameBytes_self _ _ [] _ (Bs.nil _) (Bs.nil _)).mono ?_
  rintro e9 w8 ⟨rfl, kk⟩
  have C7 : Keep [] W w8 := HK6.out.trans' kk
  clear kk
  obtain ⟨y0, y1, y2, y3, y4, y5⟩ := HX.out.keep C7
  obtain ⟨v0, v1, v2, v3, v4, v5⟩ := HA.out.keep C7
  go_wp2_with fail
  clear y0 y1 y2 y3 y4 y5 v0 v1 v2 v3 v4 v5
  have HK7 : Hid (Keep [] W w8) := C7
  clear C7
  refine (keptValue_any x g1 c1 (.slice ao x.texts.length ca) _ (HXW.out _ HK7.out).1 (HXW.out _ HK7.out).2 (HUW.out _ HK7.out) HN.out).mono ?_
  rintro e9 w9 ⟨rfl, kk⟩
  have C8 : Keep [] W w9 := HK7.out.trans' kk
  clear kk
  have HF : Hid (Keep [] W w9) := C8
  clear C8
  go_wp2
  go_ret
  exact ⟨rfl, HW.out.trans' HF.out⟩
end Go.Proofs.YtjdihnkcigoajaaGreatDoor

/- A value that is handed in, read as data. -/
namespace Go.Proofs.YtjdihnkcigoajaaGreatDoor
open Go.ChangeShapes Go.WideShapes Go.ChangeAt Go.RowKit Go.Joins Go.PlainAid

theorem laidOut : laidOutB Tryz.prog = true := by kernel_rfl
theorem cellsT2 : Tryz.prog.cellsOf 2 = 1 := by kernel_rfl
theorem cellsT3 : Tryz.prog.cellsOf 3 = 1 := by kernel_rfl
theorem cellsT4 : Tryz.prog.cellsOf 4 = 1 := by kernel_rfl
theorem cellsT9 : Tryz.prog.cellsOf 9 = 1 := by kernel_rfl
theorem cellsT24 : Tryz.prog.cellsOf 23 = 1 := by kernel_rfl
theorem cellsT26 : Tryz.prog.cellsOf 22 = 1 := by kernel_rfl
theorem cellsT28 : Tryz.prog.cellsOf 25 = 6 := by kernel_rfl

theorem list_of {α : Type} {Q : Nat → α → Prop} : ∀ (n : Nat), (∀ i, i < n → ∃ x, Q i x) → ∃ l : List α, l.length = n ∧ ∀ i (h : i < l.length), Q i l[i]
  | 0, _ => ⟨[], rfl, fun i h => by simp at h⟩
  | n + 1, h => by
    obtain ⟨l, h1, h2⟩ := list_of n (fun i hi => h i (by omega))
    obtain ⟨x, hx⟩ := h n (by omega)
    refine ⟨l ++ [x], by simp [h1], fun i hi => ?_⟩
    by_cases e : i < l.length
    · rw [List.getElem_append_left e]
      exact h2 i e
    · have : i = n := by simp at hi; omega
      subst this
      rw [List.getElem_append_right (by omega)]
      simpa [h1] using hx

/-- a slice of texts -/
theorem open_texts {H : Type} {enc : TypeId × Value → H} {W : World} {fuel : Nat} {v : Value} {y : DataW H × List MemPlace}
    (hf : DataW.trod enc Tryz.prog W 0 (fun _ => true) true fuel 23 [v] = some y) : ∃ l : List ByteArray, Ts W v l := by
  rcases Go.Deep.open_slice Tryz.underlying23 hf with ⟨hcs, hx⟩ | ⟨a, len, cap, m, n, D, Pl, hcs, _, hl, hm, hmm, hx, hel⟩
  · simp at hcs
    subst hcs
    exact ⟨[], Ts.nil W⟩
  · simp at hcs
    subst hcs
    simp only [if_true] at hmm
    subst hmm
    obtain ⟨b, off, spot⟩ := a
    rw [cellsT9] at hel
    rcases Nat.eq_zero_or_pos len with h0 | h0
    · subst h0
      exact ⟨[], some ⟨b, off, spot⟩, m, rfl, by simp, by simp only [maxLen] at hm; omega, (by intro s hs; cases hs), fun h => absurd rfl h⟩
    · have hspot : spot = none := by
        obtain ⟨cs', h1, h2⟩ := hel 0 (by omega)
        obtain ⟨_, h3, h4⟩ := World.cells?_some h1
        have h5 := h4 0 (by omega)
        rw [List.getElem?_eq_getElem (by omega)] at h5
        have := World.cell?_spot h5
        simpa [Addr.add] using this
      subst hspot
      obtain ⟨l, hlen, hl2⟩ := list_of (Q := fun i (s : ByteArray) => s.size ≤ 9223372036854775807 ∧ W.cell? ⟨b, off + i, none⟩ = some (.string s)) len (fun i hi => by
        obtain ⟨cs', h1, h2⟩ := hel i (by omega)
        rw [add_plain, Nat.mul_one] at h1
        obtain ⟨_, h3, h4⟩ := World.cells?_some h1
        obtain ⟨s, e, _, ws⟩ := DataW.trod_string Tryz.underlying9 h2
        have h5 := h4 0 (by omega)
        rw [e, add_plain, Nat.add_zero] at h5
        simp only [maxLen] at ws
        exact ⟨s, by omega, by simpa using h5⟩)
      refine ⟨l, some ⟨b, off, none⟩, m, by rw [hlen], by omega, by simp only [maxLen] at hm; omega, fun s hs => ?_, fun _ => ⟨b, off, rfl, fun i hi => (hl2 i hi).2⟩⟩
      obtain ⟨i, hi, rfl⟩ := List.getElem_of_mem hs
      exact (hl2 i hi).1

theorem trod_struct6 {H : Type} {enc : TypeId × Value → H} {P : Program} {w : World} {base : Nat} {spare : Nat → Bool} {held : Bool} {t : TypeId} {f0 f1 f2 f3 f4 f5 : Field} {fuel : Nat} {cs : List Value} {x : DataW H × List MemPlace} (ht : P.underlying t = some (.struct #[f0, f1, f2, f3, f4, f5])) (h : DataW.trod enc P w base spare held fuel t cs = some x) :
    ∃ y0 y1 y2 y3 y4 y5 n, x.1 = .agg [y0.1, y1.1, y2.1, y3.1, y4.1, y5.1] ∧ cs.length = P.cellsOf t ∧ DataW.trod enc P w base spare held n f0.type ((cs.drop f0.offset).take (P.cellsOf f0.type)) = some y0 ∧
      DataW.trod enc P w base spare held n f1.type ((cs.drop f1.offset).take (P.cellsOf f1.type)) = some y1 ∧ DataW.trod enc P w base spare held n f2.type ((cs.drop f2.offset).take (P.cellsOf f2.type)) = some y2 ∧
      DataW.trod enc P w base spare held n f3.type ((cs.drop f3.offset).take (P.cellsOf f3.type)) = some y3 ∧ DataW.trod enc P w base spare held n f4.type ((cs.drop f4.offset).take (P.cellsOf f4.type)) = some y4 ∧
      DataW.trod enc P w base spare held n f5.type ((cs.drop f5.offset).take (P.cellsOf f5.type)) = some y5 := by
  obtain ⟨xs, n, _, rfl, hl, hlen, hf⟩ := DataW.trod_struct ht h
  match xs, hlen with
  | [y0, y1, y2, y3, y4, y5], _ => exact ⟨y0, y1, y2, y3, y4, y5, n, by simp, hl, by simpa using hf 0 f0 rfl, by simpa using hf 1 f1 rfl, by simpa using hf 2 f2 rfl, by simpa using hf 3 f3 rfl, by simpa using hf 4 f4 rfl, by simpa using hf 5 f5 rfl⟩

theorem trod_f32 {H : Type} {enc : TypeId × Value → H} {P : Program} {w : World} {base : Nat} {spare : Nat → Bool} {held : Bool} {t : TypeId} {fuel : Nat} {cs : List Value} {x : DataW H × List MemPlace} (ht : P.underlying t = some (.float .f32)) (h : DataW.trod enc P w base spare held fuel t cs = some x) :
    ∃ n, cs = [.float .f32 n] ∧ x.1 = .lit (.float .f32 n) ∧ (Lit.float .f32 n).wf = true := by
  cases fuel with
  | zero => simp [DataW.trod] at h
  | succ n =>
    unfold DataW.trod at h
    rw [ht] at h
    split at h <;> simp_all
    obtain ⟨h1, h2⟩ := h
    rw [← h2]
theorem trod_boolean {H : Type} {enc : TypeId × Value → H} {P : Program} {w : World} {base : Nat} {spare : Nat → Bool} {held : Bool} {t : TypeId} {fuel : Nat} {cs : List Value} {x : DataW H × List MemPlace} (ht : P.underlying t = some .bool) (h : DataW.trod enc P w base spare held fuel t cs = some x) :
    ∃ b, cs = [.bool b] := by
  cases fuel with
  | zero => simp [DataW.trod] at h
  | succ n =>
    unfold DataW.trod at h
    rw [ht] at h
    split at h <;> simp_all

/-- six cells that read as a value -/
theorem open_cells6 {H : Type} {enc : TypeId × Value → H} {W : World} {fuel : Nat} {c0 c1 c2 c3 c4 c5 : Value} {x : DataW H × List MemPlace}
    (hf : DataW.trod enc Tryz.prog W 0 (fun _ => true) true fuel 25 [c0, c1, c2, c3, c4, c5] = some x) :
    ∃ p : VD, p.Ok ∧ c0 = .int .i64 p.kind ∧ c1 = .bool p.bool ∧ c2 = .int .i64 p.int ∧ c3 = .float .f32 p.real ∧ c4 = .string p.text ∧ Ts W c5 p.texts := by
  obtain ⟨y0, y1, y2, y3, y4, y5, n, hx, _, g0, g1, g2, g3, g4, g5⟩ := trod_struct6 Tryz.underlying25 hf
  simp only [cellsT2, cellsT3, cellsT4, cellsT9, cellsT24, cellsT26, List.drop_zero, List.drop_succ_cons, List.take_succ_cons, List.take_zero] at g0 g1 g2 g3 g4 g5
  obtain ⟨a0, e0, x0, w0⟩ := DataW.trod_int Tryz.underlying3 g0
  obtain ⟨a1, e1⟩ := trod_boolean Tryz.underlying4 g1
  obtain ⟨a2, e2, x2, w2⟩ := DataW.trod_int Tryz.underlying2 g2
  obtain ⟨a3, e3, x3, w3⟩ := trod_f32 Tryz.underlying22 g3
  obtain ⟨a4, e4, x4, w4⟩ := DataW.trod_string Tryz.underlying9 g4
  obtain ⟨l, hl⟩ := open_texts g5
  obtain rfl : c0 = .int .i64 a0 := by simpa using e0
  obtain rfl : c1 = .bool a1 := by simpa using e1
  obtain rfl : c2 = .int .i64 a2 := by simpa using e2
  obtain rfl : c3 = .float .f32 a3 := by simpa using e3
  obtain rfl : c4 = .string a4 := by simpa using e4
  have r0 : -9223372036854775808 ≤ a0 ∧ a0 ≤ 9223372036854775807 := by simpa [Lit.wf, IntKind.min, IntKind.max, IntKind.signed, IntKind.bits] using w0
  have r2 : -9223372036854775808 ≤ a2 ∧ a2 ≤ 9223372036854775807 := by simpa [Lit.wf, IntKind.min, IntKind.max, IntKind.signed, IntKind.bits] using w2
  have r3 : a3 < 4294967296 := by simpa [Lit.wf] using w3
  simp only [maxLen] at w4
  exact ⟨⟨a0, a1, a2, a3, a4, l⟩, ⟨r0.1, r0.2, r2.1, r2.2, r3, by simp only; omega⟩, rfl, rfl, rfl, rfl, rfl, hl⟩

set_option maxRecDepth 100000 in
/-- an argument that is a value -/
theorem open_value {H : Type} {enc : TypeId × Value → H} {W : World} {base : Nat} {v : Value} {d : DataW H} {p : List MemPlace}
    (hv : Value.okWide Tryz.prog W .any base 25 v) (h : DataW.Trod enc Tryz.prog W 0 (fun _ => true) true 25 v d p) : ∃ (x : VD) (u : Value), v = x.val u ∧ x.Ok ∧ Ts W u x.texts := by
  obtain ⟨cs, rfl, hsz⟩ := okWide_struct Tryz.underlying25 hv
  obtain ⟨fuel, hf⟩ := h
  have hsz' : cs.size = 6 := hsz.trans cellsT28
  obtain ⟨l⟩ := cs
  match l, hsz' with
  | [c0, c1, c2, c3, c4, c5], _ =>
    obtain ⟨x, hok, rfl, rfl, rfl, rfl, rfl, ht⟩ := open_cells6 (by simpa [Value.cells] using hf)
    exact ⟨x, c5, rfl, hok, ht⟩

end Go.Proofs.YtjdihnkcigoajaaGreatDoor


/- How much a value weighs: the length of its list of texts. -/
namespace Go.Proofs.YtjdihnkcigoajaaGreatDoor
open Go.RowKit Go.PlainAid

theorem bytes9 : Tryz.prog.bytesOf 9 = 16 := by kernel_rfl
theorem Ts.len_eq {W : World} {ao : Option Addr} {n c : Nat} {l : List ByteArray} (h : Ts W (.slice ao n c) l) : n = l.length := by
  obtain ⟨a, cap, e, _⟩ := h.ex
  simp at e
  exact e.2.1
theorem texts_weight {H : Type} {enc : TypeId × Value → H} {W : World} {fuel : Nat} {v : Value} {y : DataW H × List MemPlace} {l : List ByteArray} {B : Nat}
    (hf : DataW.trod enc Tryz.prog W 0 (fun _ => true) true fuel 23 [v] = some y) (hT : Ts W v l) (hB : ∀ n ∈ y.1.weights Tryz.prog 23, n ≤ B) : l.length * 16 ≤ B := by
  rcases Go.Deep.open_slice Tryz.underlying23 hf with ⟨hcs, hx⟩ | ⟨a, len, cap, m, n, D, Pl, hcs, _, hl, hm, hmm, hx, hel⟩
  · simp at hcs
    subst hcs
    have := hT.len_eq
    omega
  · simp at hcs
    subst hcs
    have e := hT.len_eq
    subst hx
    have hw : (DataW.slice ((List.range len).map D) ((List.range (m - len)).map fun j => D (len + j))).weights Tryz.prog 23 = (((List.range len).map D).length + ((List.range (m - len)).map fun j => D (len + j)).length) * Tryz.prog.bytesOf 9 :: (DataW.weightsAll Tryz.prog 9 ((List.range len).map D) ++ DataW.weightsAll Tryz.prog 9 ((List.range (m - len)).map fun j => D (len + j))) := by
      rw [DataW.weights]
      rw [Tryz.underlying23]
    simp only [] at hB
    rw [hw] at hB
    have h2 := hB _ (List.mem_cons_self ..)
    rw [bytes9] at h2
    simp only [List.length_map, List.length_range] at h2
    omega

set_option maxRecDepth 100000 in
theorem value_weight {H : Type} {enc : TypeId × Value → H} {W : World} {x : VD} {u : Value} {d : DataW H} {p : List MemPlace} {B : Nat}
    (h : DataW.Trod enc Tryz.prog W 0 (fun _ => true) true 25 (x.val u) d p) (hT : Ts W u x.texts) (hB : ∀ n ∈ d.weights Tryz.prog 25, n ≤ B) : x.texts.length * 16 ≤ B := by
  obtain ⟨fuel, hf⟩ := h
  have hf' : DataW.trod enc Tryz.prog W 0 (fun _ => true) true fuel 25 [.int .i64 x.kind, .bool x.bool, .int .i64 x.int, .float .f32 x.real, .string x.text, u] = some (d, p) := by simpa [Value.cells] using hf
  obtain ⟨y0, y1, y2, y3, y4, y5, n, hx, _, g0, g1, g2, g3, g4, g5⟩ := trod_struct6 Tryz.underlying25 hf'
  simp only [cellsT24, List.drop_zero, List.drop_succ_cons, List.take_succ_cons, List.take_zero] at g5
  simp only [] at hx
  subst hx
  refine texts_weight g5 hT (fun n hn => hB n ?_)
  rw [DataW.weights]
  rw [Tryz.underlying25]
  simp only [DataW.weightsEach, List.map_cons, List.map_nil, List.mem_append]
  simp [hn]
end Go.Proofs.YtjdihnkcigoajaaGreatDoor
