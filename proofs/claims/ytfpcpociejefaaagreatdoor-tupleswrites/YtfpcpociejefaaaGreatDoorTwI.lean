/- TuplesWrites: the law's walk. -/
import Derived.Test.YtfpcpociejefaaaGreatDoorTwA
import Derived.Test.YtfpcpociejefaaaGreatDoorTwE
import Derived.Test.YtfpcpociejefaaaGreatDoorTwF
import Derived.Test.YtfpcpociejefaaaGreatDoorQuK
import Derived.Test.YtfpcpociejefaaaGreatDoorQuK
namespace Go.Proofs.YtfpcpociejefaaaGreatDoor
open Go.RowKit Go.PlainAid
noncomputable def sT (y : K7) (l : List AD) : ByteArray := if mayT y l = true then ba (textT y l) else ⟨#[]⟩
noncomputable def eT (y : K7) (l : List AD) : Int := if mayT y l = true then 0 else 100
noncomputable def bT (y : K7) (l : List AD) : List UInt8 := if mayT y l = true then encT y l else []
theorem pText_all (y : K7) (u : Value) (l : List AD) (w : World) (hu : As w u l) (hT : TabV w) :
  Calls Tryz.prog 5 #[y.tup u] w fun e w' => e = .returned (.tuple #[.string (sT y l), .int .i64 (eT y l)]) ∧ Keep [] w w' := by
 have hM := fun w1 (k : Keep [] w w1) => mayBe_any y u l w1 (hu.keep0 k)
 unfold sT eT
 cases hm : mayT y l
 ·rw [hm] at hM
  exact tText_no y u l w hu hM
 ·rw [hm] at hM
  exact tText_yes y u l w hu hm hM hT
theorem pEnc_all (y : K7) (u : Value) (l : List AD) (w : World) (hu : As w u l) :
  Calls Tryz.prog 6 #[y.tup u] w fun e w' => ∃ v, e = .returned (.tuple #[v, .int .i64 (eT y l)]) ∧ (Bs w' v (bT y l) ∧ ∃ a n c, v = .slice a n c) ∧ Keep [] w w' := by
 have hM := fun w1 (k : Keep [] w w1) => mayBe_any y u l w1 (hu.keep0 k)
 unfold bT eT
 cases hm : mayT y l
 ·rw [hm] at hM
  refine (tEnc_no y u l w hu hM).mono ?_
  rintro e w' ⟨rfl, k⟩
  exact ⟨_, rfl, ⟨Bs.nil _, _, _, _, rfl⟩, k⟩
 ·rw [hm] at hM
  refine (tEnc_yes y u l w hu hm hM).mono ?_
  rintro e w' ⟨v, rfl, ⟨r, _, a, c, hs⟩, k⟩
  exact ⟨v, rfl, ⟨r.bs, _, _, _, hs⟩, k⟩
theorem rText_all (y : K7) (u : Value) (l : List AD) (w : World) (hu : As w u l) (hT : TabV w) (hW : Words w) :
  Calls Tryz.prog 7 #[y.tup u] w fun e w' => e = .returned (.tuple #[.string (sT y l), .int .i64 (eT y l)]) ∧ Keep [] w w' := by
 have hM := fun w1 (k : Keep [] w w1) => rMayT_any y u l w1 (hu.keep0 k) (hW.keep0 k)
 unfold sT eT
 cases hm : mayT y l
 ·rw [hm] at hM
  exact rText_no y u l w hu hM
 ·rw [hm] at hM
  exact rText_yes y u l w hu hm hM hT (fun w1 k => robjText_any y.a y.b w1 (hW.keep0 k)) (fun w1 k => rsubText_any y.d y.e y.f w1 (hW.keep0 k))
theorem rEnc_all (y : K7) (u : Value) (l : List AD) (w : World) (hu : As w u l) (hW : Words w) :
  Calls Tryz.prog 8 #[y.tup u] w fun e w' => ∃ v, e = .returned (.tuple #[v, .int .i64 (eT y l)]) ∧ (Bs w' v (bT y l) ∧ ∃ a n c, v = .slice a n c) ∧ Keep [] w w' := by
 have hM := fun w1 (k : Keep [] w w1) => rMayT_any y u l w1 (hu.keep0 k) (hW.keep0 k)
 unfold bT eT
 cases hm : mayT y l
 ·rw [hm] at hM
  refine (rEnc_no y u l w hu hM).mono ?_
  rintro e w' ⟨rfl, k⟩
  exact ⟨_, rfl, ⟨Bs.nil _, _, _, _, rfl⟩, k⟩
 ·rw [hm] at hM
  refine (rEnc_yes y u l w hu hm hM).mono ?_
  rintro e w' ⟨v, rfl, ⟨r, _, a, c, hs⟩, k⟩
  exact ⟨v, rfl, ⟨r.bs, _, _, _, hs⟩, k⟩
set_option maxRecDepth 1000000 in
set_option maxHeartbeats 4000000 in
theorem writes_law (y : K7) (u : Value) (l : List AD) (w : World) (hu : As w u l) (hl : l.length * 88 ≤ 140737488351232) (ht : ∀ x ∈ l, x.val.texts.length * 16 ≤ 140737488351232) (hT : TabV w) (hW : Words w) :
  Calls Tryz.prog 3 #[y.tup u] w fun e w' => e = .returned (.bool true) ∧ Keep [] w w' := by
 have HLe : Hid (∀ w1, Keep [] w w1 → Calls Tryz.prog 4 #[y.tup u] w1 fun e w' => ∃ g cap, e = .returned (y.tup (.slice (some ⟨g, 0, none⟩) l.length cap)) ∧ Lg w' w1.heap.size g cap l ∧ Keep [] w1 w') := fun w1 k => lentTuple_any y u l w1 (hu.keep0 k) hl ht
 have H5 : Hid (∀ v w1, As w1 v l → Keep [] w w1 → Calls Tryz.prog 5 #[y.tup v] w1 fun e w' => e = .returned (.tuple #[.string (sT y l), .int .i64 (eT y l)]) ∧ Keep [] w1 w') := fun v w1 h k => pText_all y v l w1 h (hT.keep k)
 have H6 : Hid (∀ v w1, As w1 v l → Calls Tryz.prog 6 #[y.tup v] w1 fun e w' => ∃ v, e = .returned (.tuple #[v, .int .i64 (eT y l)]) ∧ (Bs w' v (bT y l) ∧ ∃ a n c, v = .slice a n c) ∧ Keep [] w1 w') := fun v w1 h => pEnc_all y v l w1 h
 have H7 : Hid (∀ v w1, As w1 v l → Keep [] w w1 → Calls Tryz.prog 7 #[y.tup v] w1 fun e w' => e = .returned (.tuple #[.string (sT y l), .int .i64 (eT y l)]) ∧ Keep [] w1 w') := fun v w1 h k => rText_all y v l w1 h (hT.keep k) (hW.keep0 k)
 have H8 : Hid (∀ v w1, As w1 v l → Keep [] w w1 → Calls Tryz.prog 8 #[y.tup v] w1 fun e w' => ∃ v, e = .returned (.tuple #[v, .int .i64 (eT y l)]) ∧ (Bs w' v (bT y l) ∧ ∃ a n c, v = .slice a n c) ∧ Keep [] w1 w') := fun v w1 h k => rEnc_all y v l w1 h (hW.keep0 k)
 have H10 : Hid (∀ lo g cap v w1, Lg w1 lo g cap l → As w1 v l → Calls Tryz.prog 10 #[y.tup (.slice (some ⟨g, 0, none⟩) l.length cap), y.tup v] w1 fun e w' => e = .returned (.bool true) ∧ Keep [] w1 w') := fun lo g cap v w1 h1 h2 => keptTuple_any y lo g cap v l w1 h1 h2 hl ht
 have HU : Hid (As w u l) := hu
 obtain ⟨ao, ca, rfl, _, _, _⟩ := hu.ex
 clear hu hl ht hT hW
 generalize sT y l = S at *
 generalize eT y l = E at *
 generalize bT y l = Bb at *
 obtain ⟨a, b, c, d, e, f, g⟩ := y
 have hss : (S.toList == S.toList) = true := by simp
 have hee : (E == E) = true := by simp
 have K0 : Hid (Keep [] w (w.alloc (.cells #[.string a, .string b, .string c, .string d, .string e, .string f, .string g, .slice ao l.length ca] 28))) := Keep.alloc1 w _
 replace HLe : Hid (∀ w1, Keep [] w w1 → Calls Tryz.prog 4 #[.agg #[.string a, .string b, .string c, .string d, .string e, .string f, .string g, .slice ao l.length ca]] w1 fun e9 w' => ∃ g9 cap, e9 = .returned (.agg #[.string a, .string b, .string c, .string d, .string e, .string f, .string g, .slice (some ⟨g9, 0, none⟩) l.length cap]) ∧ Lg w' w1.heap.size g9 cap l ∧ Keep [] w1 w') := HLe
 replace H5 : Hid (∀ v w1, As w1 v l → Keep [] w w1 → Calls Tryz.prog 5 #[.agg #[.string a, .string b, .string c, .string d, .string e, .string f, .string g, v]] w1 fun e9 w' => e9 = .returned (.tuple #[.string S, .int .i64 E]) ∧ Keep [] w1 w') := H5
 replace H6 : Hid (∀ v w1, As w1 v l → Calls Tryz.prog 6 #[.agg #[.string a, .string b, .string c, .string d, .string e, .string f, .string g, v]] w1 fun e9 w' => ∃ v, e9 = .returned (.tuple #[v, .int .i64 E]) ∧ (Bs w' v Bb ∧ ∃ a n c, v = .slice a n c) ∧ Keep [] w1 w') := H6
 replace H7 : Hid (∀ v w1, As w1 v l → Keep [] w w1 → Calls Tryz.prog 7 #[.agg #[.string a, .string b, .string c, .string d, .string e, .string f, .string g, v]] w1 fun e9 w' => e9 = .returned (.tuple #[.string S, .int .i64 E]) ∧ Keep [] w1 w') := H7
 replace H8 : Hid (∀ v w1, As w1 v l → Keep [] w w1 → Calls Tryz.prog 8 #[.agg #[.string a, .string b, .string c, .string d, .string e, .string f, .string g, v]] w1 fun e9 w' => ∃ v, e9 = .returned (.tuple #[v, .int .i64 E]) ∧ (Bs w' v Bb ∧ ∃ a n c, v = .slice a n c) ∧ Keep [] w1 w') := H8
 replace H10 : Hid (∀ lo g9 cap v w1, Lg w1 lo g9 cap l → As w1 v l → Calls Tryz.prog 10 #[.agg #[.string a, .string b, .string c, .string d, .string e, .string f, .string g, .slice (some ⟨g9, 0, none⟩) l.length cap], .agg #[.string a, .string b, .string c, .string d, .string e, .string f, .string g, v]] w1 fun e9 w' => e9 = .returned (.bool true) ∧ Keep [] w1 w') := H10
 show Calls Tryz.prog 3 #[.agg #[.string a, .string b, .string c, .string d, .string e, .string f, .string g, .slice ao l.length ca]] w fun e9 w' => e9 = .returned (.bool true) ∧ Keep [] w w'
 go_enter Tryz.func3, Tryz.ntmps3
 go_wp2_with fail
 refine (HLe.out _ K0.out).mono ?_
 rintro e9 w1 ⟨g9, cap, rfl, hLg, k1⟩
 have HL1 : Hid (Lg w1 (w.alloc (.cells #[.string a, .string b, .string c, .string d, .string e, .string f, .string g, .slice ao l.length ca] 28)).heap.size g9 cap l) := hLg
 have HK1 : Hid (Keep [] (w.alloc (.cells #[.string a, .string b, .string c, .string d, .string e, .string f, .string g, .slice ao l.length ca] 28)) w1) := k1
 clear k1 hLg HLe
 obtain ⟨W, HWd⟩ : ∃ W, Hid (W = w1.alloc (.cells #[.string a, .string b, .string c, .string d, .string e, .string f, .string g, .slice (some ⟨g9, 0, none⟩) l.length cap] 28)) := ⟨_, rfl⟩
 have HKW : Hid (Keep [] w1 W) := by show Keep _ _ _; rw [HWd.out]; exact Keep.alloc1 w1 _
 have HKa : Hid (Keep [] w W) := (K0.out.trans' HK1.out).trans' HKW.out
 have HC1 : Hid (∀ w2, Keep [] W w2 → w2.cell? ⟨w.heap.size, 0, none⟩ = some (.string a) ∧ w2.cell? ⟨w.heap.size, 1, none⟩ = some (.string b) ∧ w2.cell? ⟨w.heap.size, 2, none⟩ = some (.string c) ∧ w2.cell? ⟨w.heap.size, 3, none⟩ = some (.string d) ∧ w2.cell? ⟨w.heap.size, 4, none⟩ = some (.string e) ∧ w2.cell? ⟨w.heap.size, 5, none⟩ = some (.string f) ∧ w2.cell? ⟨w.heap.size, 6, none⟩ = some (.string g) ∧ w2.cell? ⟨w.heap.size, 7, none⟩ = some (.slice ao l.length ca)) := fun w2 k => cells8 ((HK1.out.trans' HKW.out).trans' k)
 have HC2 : Hid (∀ w2, Keep [] W w2 → w2.cell? ⟨w1.heap.size, 0, none⟩ = some (.string a) ∧ w2.cell? ⟨w1.heap.size, 1, none⟩ = some (.string b) ∧ w2.cell? ⟨w1.heap.size, 2, none⟩ = some (.string c) ∧ w2.cell? ⟨w1.heap.size, 3, none⟩ = some (.string d) ∧ w2.cell? ⟨w1.heap.size, 4, none⟩ = some (.string e) ∧ w2.cell? ⟨w1.heap.size, 5, none⟩ = some (.string f) ∧ w2.cell? ⟨w1.heap.size, 6, none⟩ = some (.string g) ∧ w2.cell? ⟨w1.heap.size, 7, none⟩ = some (.slice (some ⟨g9, 0, none⟩) l.length cap)) := fun w2 k => cells8 (by rw [← HWd.out]; exact k)
 have HLw : Hid (∀ w2, Keep [] W w2 → Lg w2 (w.alloc (.cells #[.string a, .string b, .string c, .string d, .string e, .string f, .string g, .slice ao l.length ca] 28)).heap.size g9 cap l) := fun w2 k => HL1.out.keep (HKW.out.trans' k) (fun x hx => by cases hx)
 have HAw : Hid (∀ w2, Keep [] W w2 → As w2 (.slice (some ⟨g9, 0, none⟩) l.length cap) l) := fun w2 k => (HLw.out w2 k).as HU.out.ok
 have HBw : Hid (∀ w2, Keep [] W w2 → As w2 (.slice ao l.length ca) l) := fun w2 k => HU.out.keep0 (HKa.out.trans' k)
 have hW := HWd.out
 clear HL1 HKW HK1 K0
 go_wp2_with fail
 rw [← hW]
 clear hW HWd
 have HQ0 : Hid (Keep [] W W) := Keep.refl _ _
 refine (H5.out _ _ (HAw.out _ HQ0.out) HKa.out).mono ?_
 rintro e9 w2 ⟨rfl, k2⟩
 have HQ1 : Hid (Keep [] W w2) := k2
 obtain ⟨c0, c1, c2, c3, c4, c5, c6, c7⟩ := HC2.out w2 k2
 clear k2 H5
 go_wp2_with fail
 refine (H6.out _ _ (HAw.out _ HQ1.out)).mono ?_
 rintro e9 w3 ⟨v1, rfl, ⟨B1, a1, n1, p1, rfl⟩, k3⟩
 have HQ2 : Hid (Keep [] W w3) := HQ1.out.trans' k3
 have HB1 : Hid (Bs w3 (.slice a1 n1 p1) Bb) := B1
 clear k3 B1 H6 c0 c1 c2 c3 c4 c5 c6 c7
 obtain ⟨c0, c1, c2, c3, c4, c5, c6, c7⟩ := HC1.out w3 HQ2.out
 go_wp2_with fail
 refine (H7.out _ _ (HBw.out _ HQ2.out) (HKa.out.trans' HQ2.out)).mono ?_
 rintro e9 w4 ⟨rfl, k4⟩
 have HQ3 : Hid (Keep [] W w4) := HQ2.out.trans' k4
 have HB2 : Hid (Bs w4 (.slice a1 n1 p1) Bb) := HB1.out.keep k4 (Off.nil _)
 clear k4 H7 HB1 c0 c1 c2 c3 c4 c5 c6 c7
 obtain ⟨c0, c1, c2, c3, c4, c5, c6, c7⟩ := HC1.out w4 HQ3.out
 go_wp2_with fail
 refine (H8.out _ _ (HBw.out _ HQ3.out) (HKa.out.trans' HQ3.out)).mono ?_
 rintro e9 w5 ⟨v2, rfl, ⟨B2, a2, n2, p2, rfl⟩, k5⟩
 have HQ4 : Hid (Keep [] W w5) := HQ3.out.trans' k5
 have hSB := sameBytes_any _ _ Bb Bb w5 (HB2.out.keep k5 (Off.nil _)) B2
 rw [show (Bb == Bb) = true by simp] at hSB
 clear k5 B2 H8 HB2 c0 c1 c2 c3 c4 c5 c6 c7
 go_wp2_with fail
 refine hSB.mono ?_
 rintro e9 w6 ⟨rfl, nn, rfl⟩
 have HQ5 : Hid (Keep [] W (w5.drewN nn)) := HQ4.out.drewN nn
 obtain ⟨c0, c1, c2, c3, c4, c5, c6, c7⟩ := HC1.out _ HQ5.out
 obtain ⟨d0, d1, d2, d3, d4, d5, d6, d7⟩ := HC2.out _ HQ5.out
 clear hSB
 go_wp2_with fail
 refine (H10.out _ g9 cap _ _ (HLw.out _ HQ5.out) (HBw.out _ HQ5.out)).mono ?_
 rintro e9 w7 ⟨rfl, k7⟩
 have HQ6 : Hid (Keep [] w w7) := (HKa.out.trans' HQ5.out).trans' k7
 clear k7 c0 c1 c2 c3 c4 c5 c6 c7 d0 d1 d2 d3 d4 d5 d6 d7
 go_wp2
 go_ret
 exact ⟨rfl, HQ6.out⟩
end Go.Proofs.YtfpcpociejefaaaGreatDoor
