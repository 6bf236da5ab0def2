/- The program's Text of a tuple. -/
import Derived.Test.YtfpcpociejefaaaGreatDoorTwB

namespace Go.Proofs.YtfpcpociejefaaaGreatDoor
open Go.RowKit Go.PlainAid
theorem g_empty (g : ByteArray) : (g.toList == ([] : List UInt8)) = g.toList.isEmpty := by
 cases g.toList <;> rfl
structure MayF (y : K7) (l : List AD) : Prop where
 a : nameL y.a.toList = true
 b : idL y.b.toList = true
 c : nameL y.c.toList = true
 k : (kindL y.d.toList y.e.toList y.f.toList != 0) = true
 g : y.g.toList.isEmpty = true ∨ nameL y.g.toList = true
 z : argsZ l = 0
theorem may_facts {y : K7} {l : List AD} (h : mayT y l = true) : MayF y l := by
 unfold mayT at h
 simp only [Bool.and_eq_true, Bool.or_eq_true, decide_eq_true_eq] at h
 obtain ⟨⟨⟨⟨⟨a, b⟩, c⟩, k⟩, g⟩, z, _⟩ := h
 exact ⟨a, b, c, k, g, z⟩
theorem MayF.obj {y : K7} {l : List AD} (h : MayF y l) : (objTextL y.a.toList y.b.toList).length ≤ 97 := by
 have h1 := name_len h.a
 have h2 := id_len h.b
 unfold objTextL
 rw [if_pos ⟨h.a, h.b⟩]
 simp only [List.length_append, List.length_cons, List.length_nil]
 omega
theorem MayF.fault {y : K7} {l : List AD} (h : MayF y l) : (faultL y.d.toList y.e.toList y.f.toList != 0) = false := by
 have hk := h.k
 unfold kindL at hk
 split at hk
 ·simp at hk
 ·rename_i hf
  simpa using hf
theorem MayF.sub {y : K7} {l : List AD} (h : MayF y l) : (subTextL y.d.toList y.e.toList y.f.toList).length ≤ 131 := by
 have hf := h.fault
 obtain ⟨h1, h2, h3⟩ := fault_ok hf
 have h4 := name_len h1
 unfold subTextL
 rw [hf]
 split
 ·simp
 ·split <;> simp only [List.length_append, List.length_cons, List.length_nil] <;> omega
theorem MayF.csz {y : K7} {l : List AD} (h : MayF y l) : y.c.size ≤ 32 := by
 have := (name_len h.c).2
 rwa [toList_len] at this
theorem MayF.gsz {y : K7} {l : List AD} (h : MayF y l) : y.g.size ≤ 32 := by
 rcases h.g with g | g
 ·have : y.g.toList = [] := by simpa using g
  have h2 := toList_len y.g
  rw [this] at h2
  simp at h2
  omega
 ·have := (name_len g).2
  rwa [toList_len] at this
theorem keyT_len {y : K7} {l : List AD} (h : MayF y l) : (keyT y).length ≤ 300 ∧ keyT y ≠ [] := by
 have h1 := h.obj
 have h2 := h.sub
 have h3 := (name_len h.c).2
 unfold keyT
 refine ⟨by simp only [List.length_append, List.length_cons, List.length_nil]; omega, ?_⟩
 exact List.ne_nil_of_length_pos (by simp only [List.length_append, List.length_cons, List.length_nil]; omega)
theorem condT_len {y : K7} {l : List AD} (h : MayF y l) : (condT y).length ≤ 38 := by
 have := h.gsz
 unfold condT
 split
 ·simp
 ·rw [List.length_append, toList_len]
  simp
  omega
theorem key_ba (A C : ByteArray) (y : K7) (hA : A = ba (objTextL y.a.toList y.b.toList)) (hC : C = ba (subTextL y.d.toList y.e.toList y.f.toList)) : A ++ ⟨#[35]⟩ ++ y.c ++ ⟨#[64]⟩ ++ C = ba (keyT y) := by
 rw [hA, hC]
 apply ByteArray.ext
 apply Array.toList_inj.1
 unfold keyT
 simp [ByteArray.data_append, ba, ByteArray.toList_eq]
set_option maxRecDepth 1000000 in
set_option maxHeartbeats 1000000 in
theorem keyText_any (y : K7) (u : Value) (l : List AD) (h : MayF y l) (w : World) (hu : ∃ a n c, u = .slice a n c) :
  Calls Tryz.prog 14 #[y.tup u] w fun e w' => e = .returned (.string (ba (keyT y))) ∧ Keep [] w w' := by
 obtain ⟨ao, n, ca, rfl⟩ := hu
 have hO := fun w => objText_any y.a y.b w
 have hS := fun w => subText_any y.d y.e y.f w
 have h1 : (ba (objTextL y.a.toList y.b.toList)).size ≤ 97 := by rw [ba_size]; exact h.obj
 have h2 : (ba (subTextL y.d.toList y.e.toList y.f.toList)).size ≤ 131 := by rw [ba_size]; exact h.sub
 have h3 := h.csz
 obtain ⟨A, hA⟩ : ∃ A, A = ba (objTextL y.a.toList y.b.toList) := ⟨_, rfl⟩
 obtain ⟨C, hC⟩ : ∃ C, C = ba (subTextL y.d.toList y.e.toList y.f.toList) := ⟨_, rfl⟩
 have HK : Hid (A ++ ⟨#[35]⟩ ++ y.c ++ ⟨#[64]⟩ ++ C = ba (keyT y)) := key_ba A C y hA hC
 rw [← hA] at h1 hO
 rw [← hC] at h2 hS
 clear hA hC h
 generalize objErrL y.a.toList y.b.toList = x1 at *
 generalize faultL y.d.toList y.e.toList y.f.toList = x2 at *
 obtain ⟨a, b, c, d, e, f, g⟩ := y
 replace hO : ∀ w, Calls Tryz.prog 36 #[.agg #[.string a, .string b]] w fun e w' => e = .returned (.tuple #[.string A, .int .i64 x1]) ∧ Below w.heap.size w w' := hO
 replace hS : ∀ w, Calls Tryz.prog 37 #[.agg #[.string d, .string e, .string f]] w fun e w' => e = .returned (.tuple #[.string C, .int .i64 x2]) ∧ Below w.heap.size w w' := hS
 have K0 : Hid (Keep [] w (w.alloc (.cells #[.string a, .string b, .string c, .string d, .string e, .string f, .string g, .slice ao n ca] 28))) := Keep.alloc1 w _
 obtain ⟨R, HR⟩ : ∃ R, R = ba (keyT ⟨a, b, c, d, e, f, g⟩) := ⟨_, rfl⟩
 rw [← HR] at HK ⊢
 clear HR
 replace HK : Hid (A ++ ⟨#[35]⟩ ++ c ++ ⟨#[64]⟩ ++ C = R) := HK
 show Calls Tryz.prog 14 #[.agg #[.string a, .string b, .string c, .string d, .string e, .string f, .string g, .slice ao n ca]] w fun e w' => e = .returned (.string R) ∧ Keep [] w w'
 have s1 : (A ++ ⟨#[35]⟩).size = A.size + 1 := by simp; rfl
 have s2 : (A ++ ⟨#[35]⟩ ++ c).size = A.size + 1 + c.size := by rw [ByteArray.size_append, s1]
 have s3 : (A ++ ⟨#[35]⟩ ++ c ++ ⟨#[64]⟩).size = A.size + 1 + c.size + 1 := by rw [ByteArray.size_append, s2]; rfl
 have h3' : c.size ≤ 32 := h3
 go_enter Tryz.func14, Tryz.ntmps14
 go_wp2_with fail
 refine (hO _).mono ?_
 rintro e9 w1 ⟨rfl, b1⟩
 obtain ⟨c0, c1, c2, c3, c4, c5, c6, c7⟩ := cells8 (Keep.ofBelow b1)
 have HK1 : Hid (Keep [] (w.alloc (.cells #[.string a, .string b, .string c, .string d, .string e, .string f, .string g, .slice ao n ca] 28)) w1) := Keep.ofBelow b1
 clear b1 hO
 go_wp2_with fail
 refine (hS _).mono ?_
 rintro e9 w2 ⟨rfl, b2⟩
 obtain ⟨d0, d1, d2, d3, d4, d5, d6, d7⟩ := cells8 (HK1.out.trans' (Keep.ofBelow b2))
 have HK2 : Hid (Keep [] w w2) := K0.out.trans' (HK1.out.trans' (Keep.ofBelow b2))
 clear b2 hS c0 c1 c2 c3 c4 c5 c6 c7
 go_wp2
 go_ret
 exact ⟨by rw [← HK.out]; rfl, HK2.out⟩
theorem with_ba (g : ByteArray) : (⟨#[32, 119, 105, 116, 104, 32]⟩ ++ g : ByteArray).data.toList = [32, 119, 105, 116, 104, 32] ++ g.toList := by
 simp [ByteArray.data_append, ByteArray.toList_eq]
set_option maxRecDepth 1000000 in
set_option maxHeartbeats 1000000 in
theorem tText_no (y : K7) (u : Value) (l : List AD) (w : World) (hu : As w u l) (hM : ∀ w1, Keep [] w w1 → Calls Tryz.prog 12 #[y.tup u] w1 fun e w' => e = .returned (.bool false) ∧ Keep [] w1 w') :
  Calls Tryz.prog 5 #[y.tup u] w fun e w' => e = .returned (.tuple #[.string ⟨#[]⟩, .int .i64 100]) ∧ Keep [] w w' := by
 obtain ⟨ao, ca, rfl, _, _, _⟩ := hu.ex
 have HM : Hid _ := hM
 clear hu hM
 obtain ⟨a, b, c, d, e, f, g⟩ := y
 have K0 : Hid (Keep [] w (w.alloc (.cells #[.string a, .string b, .string c, .string d, .string e, .string f, .string g, .slice ao l.length ca] 28))) := Keep.alloc1 w _
 replace HM : Hid (∀ w1, Keep [] w w1 → Calls Tryz.prog 12 #[.agg #[.string a, .string b, .string c, .string d, .string e, .string f, .string g, .slice ao l.length ca]] w1 fun e w' => e = .returned (.bool false) ∧ Keep [] w1 w') := HM
 show Calls Tryz.prog 5 #[.agg #[.string a, .string b, .string c, .string d, .string e, .string f, .string g, .slice ao l.length ca]] w fun e w' => e = .returned (.tuple #[.string ⟨#[]⟩, .int .i64 100]) ∧ Keep [] w w'
 go_enter Tryz.func5, Tryz.ntmps5
 go_wp2_with fail
 refine (HM.out _ K0.out).mono ?_
 rintro e9 w1 ⟨rfl, k1⟩
 have HK1 : Hid (Keep [] w w1) := K0.out.trans' k1
 clear k1 HM
 go_wp2
 go_ret2
 exact ⟨rfl, HK1.out⟩
set_option maxRecDepth 1000000 in
set_option maxHeartbeats 2000000 in
theorem tText_yes (y : K7) (u : Value) (l : List AD) (w : World) (hu : As w u l) (hm : mayT y l = true) (hM : ∀ w1, Keep [] w w1 → Calls Tryz.prog 12 #[y.tup u] w1 fun e w' => e = .returned (.bool true) ∧ Keep [] w1 w') (hT : TabV w) :
  Calls Tryz.prog 5 #[y.tup u] w fun e w' => e = .returned (.tuple #[.string (ba (textT y l)), .int .i64 0]) ∧ Keep [] w w' := by
 have hF := may_facts hm
 obtain ⟨kl1, kl2⟩ := keyT_len hF
 have cl := condT_len hF
 have hgs := hF.gsz
 have HU : Hid (As w u l) := hu
 have HT : Hid (TabV w) := hT
 have HZ : Hid (argsZ l = 0) := hF.z
 have hsl : ∃ a n c, u = .slice a n c := by obtain ⟨ao, ca, rfl, _, _, _⟩ := hu.ex; exact ⟨_, _, _, rfl⟩
 have HKt : Hid (∀ w, Calls Tryz.prog 14 #[y.tup u] w fun e w' => e = .returned (.string (ba (keyT y))) ∧ Keep [] w w') := fun w => keyText_any y u l hF w hsl
 have hks : (ba (keyT y)).size ≤ 300 := by rw [ba_size]; exact kl1
 obtain ⟨S, hS⟩ : ∃ S, S = ba (keyT y) := ⟨_, rfl⟩
 rw [← hS] at HKt hks
 have HSd : Hid (S.data.toList = keyT y) := by show _ = _; rw [hS]; simp [ba]
 have HL : Hid ((keyT y).length ≤ 300 ∧ (condT y).length ≤ 38 ∧ keyT y ≠ []) := ⟨kl1, cl, kl2⟩
 have hcd : (y.g.toList.isEmpty = true → condT y = []) ∧ (y.g.toList.isEmpty = false → condT y = [32, 119, 105, 116, 104, 32] ++ y.g.toList) := by
  unfold condT
  exact ⟨fun h => by rw [if_pos h], fun h => by rw [h]; simp⟩
 have HC : Hid _ := hcd
 have HTx : Hid (textT y l = keyT y ++ condT y ++ argsT l) := rfl
 have hge := g_empty y.g
 obtain ⟨ao, n, ca, rfl⟩ := hsl
 have HM : Hid _ := hM
 clear hu hM hm hT hF kl1 kl2 cl hS hcd
 obtain ⟨T, HTT⟩ : ∃ T, Hid (T = textT y l) := ⟨_, rfl⟩
 have hTT := HTT.out
 rw [← hTT]
 clear hTT
 generalize keyT y = kt at *
 generalize condT y = ct at *
 obtain ⟨a, b, c, d, e, f, g⟩ := y
 have K0 : Hid (Keep [] w (w.alloc (.cells #[.string a, .string b, .string c, .string d, .string e, .string f, .string g, .slice ao n ca] 28))) := Keep.alloc1 w _
 replace HM : Hid (∀ w1, Keep [] w w1 → Calls Tryz.prog 12 #[.agg #[.string a, .string b, .string c, .string d, .string e, .string f, .string g, .slice ao n ca]] w1 fun e w' => e = .returned (.bool true) ∧ Keep [] w1 w') := HM
 replace HKt : Hid (∀ w, Calls Tryz.prog 14 #[.agg #[.string a, .string b, .string c, .string d, .string e, .string f, .string g, .slice ao n ca]] w fun e w' => e = .returned (.string S) ∧ Keep [] w w') := HKt
 replace HC : Hid ((g.toList.isEmpty = true → ct = []) ∧ (g.toList.isEmpty = false → ct = [32, 119, 105, 116, 104, 32] ++ g.toList)) := HC
 show Calls Tryz.prog 5 #[.agg #[.string a, .string b, .string c, .string d, .string e, .string f, .string g, .slice ao n ca]] w fun e w' => e = .returned (.tuple #[.string (ba T), .int .i64 0]) ∧ Keep [] w w'
 have hgs' : g.size ≤ 32 := hgs
 have hws : (⟨#[32, 119, 105, 116, 104, 32]⟩ ++ g : ByteArray).size = 6 + g.size := by rw [ByteArray.size_append]; rfl
 by_cases hg : g.toList.isEmpty = true
 ·have hg1 : (g.toList == ([] : List UInt8)) = true := by rw [g_empty]; exact hg
  have hct := HC.out.1 hg
  clear hge hws
  go_enter Tryz.func5, Tryz.ntmps5
  go_wp2_with fail
  refine (HM.out _ K0.out).mono ?_
  rintro e9 w1 ⟨rfl, k1⟩
  have HK1 : Hid (Keep [] (w.alloc (.cells #[.string a, .string b, .string c, .string d, .string e, .string f, .string g, .slice ao n ca] 28)) w1) := k1
  obtain ⟨c0, c1, c2, c3, c4, c5, c6, c7⟩ := cells8 (HK1.out.alloc (.cells #[.pointer none, .slice none 0 0] 42))
  clear k1 HM
  go_wp2_with fail
  refine (HKt.out _).mono ?_
  rintro e9 w2 ⟨rfl, k2⟩
  have HB2 : Hid (Bu w1 w2 []) := (Bu.start w1).keep k2
  clear k2 HKt c0 c1 c2 c3 c4 c5 c6 c7
  go_wp2_with fail
  refine (HB2.out.write S (by simp) (by omega)).mono ?_
  rintro e9 w3 ⟨rfl, b3⟩
  have HB3 : Hid (Bu w1 w3 kt) := by
   show Bu _ _ _
   rw [HSd.out] at b3
   exact b3
  obtain ⟨c0, c1, c2, c3, c4, c5, c6, c7⟩ := cells8 (HK1.out.trans' HB3.out.2.1)
  clear b3
  go_wp2_with fail
  refine (writeArgs_any _ l w1 (HU.out.keep0 (K0.out.trans' HK1.out)) HZ.out (HT.out.keep (K0.out.trans' HK1.out)) kt (by have := HL.out.1; omega) w3 HB3.out).mono ?_
  rintro e9 w4 ⟨rfl, b4⟩
  have HB4 : Hid (Bu w1 w4 (kt ++ argsT l)) := b4
  clear b4 c0 c1 c2 c3 c4 c5 c6 c7
  go_wp2_with fail
  refine (HB4.out.string (by have := HL.out.2.2; simp [this])).mono ?_
  rintro e9 w5 ⟨rfl, k5⟩
  have HK5 : Hid (Keep [] w w5) := (K0.out.trans' HK1.out).trans' k5
  clear k5
  go_wp2
  go_ret2
  exact ⟨by rw [HTT.out, HTx.out, hct, List.append_nil]; rfl, HK5.out⟩
 ·have hgf : g.toList.isEmpty = false := by simpa using hg
  have hg1 : (g.toList == ([] : List UInt8)) = false := by rw [g_empty]; exact hgf
  have hct := HC.out.2 hgf
  have HCt : Hid (ct = [32, 119, 105, 116, 104, 32] ++ g.toList) := hct
  clear hge hg hct
  go_enter Tryz.func5, Tryz.ntmps5
  go_wp2_with fail
  refine (HM.out _ K0.out).mono ?_
  rintro e9 w1 ⟨rfl, k1⟩
  have HK1 : Hid (Keep [] (w.alloc (.cells #[.string a, .string b, .string c, .string d, .string e, .string f, .string g, .slice ao n ca] 28)) w1) := k1
  obtain ⟨c0, c1, c2, c3, c4, c5, c6, c7⟩ := cells8 (HK1.out.alloc (.cells #[.pointer none, .slice none 0 0] 42))
  clear k1 HM
  go_wp2_with fail
  refine (HKt.out _).mono ?_
  rintro e9 w2 ⟨rfl, k2⟩
  have HB2 : Hid (Bu w1 w2 []) := (Bu.start w1).keep k2
  clear k2 HKt c0 c1 c2 c3 c4 c5 c6 c7
  go_wp2_with fail
  refine (HB2.out.write S (by simp) (by omega)).mono ?_
  rintro e9 w3 ⟨rfl, b3⟩
  have HB3 : Hid (Bu w1 w3 kt) := by
   show Bu _ _ _
   rw [HSd.out] at b3
   exact b3
  obtain ⟨c0, c1, c2, c3, c4, c5, c6, c7⟩ := cells8 (HK1.out.trans' HB3.out.2.1)
  clear b3
  go_wp2_with fail
  refine (HB3.out.write _ (by have := HL.out.1; omega) (by omega)).mono ?_
  rintro e9 w6 ⟨rfl, b6⟩
  have HB6 : Hid (Bu w1 w6 (kt ++ ct)) := by
   show Bu _ _ _
   rw [HCt.out, ← with_ba]
   exact b6
  clear b6 c0 c1 c2 c3 c4 c5 c6 c7
  obtain ⟨c0, c1, c2, c3, c4, c5, c6, c7⟩ := cells8 (HK1.out.trans' HB6.out.2.1)
  go_wp2_with fail
  refine (writeArgs_any _ l w1 (HU.out.keep0 (K0.out.trans' HK1.out)) HZ.out (HT.out.keep (K0.out.trans' HK1.out)) (kt ++ ct) (by have := HL.out.1; have := HL.out.2.1; rw [List.length_append]; omega) w6 HB6.out).mono ?_
  rintro e9 w4 ⟨rfl, b4⟩
  have HB4 : Hid (Bu w1 w4 (kt ++ ct ++ argsT l)) := b4
  clear b4 c0 c1 c2 c3 c4 c5 c6 c7
  go_wp2_with fail
  refine (HB4.out.string (by have := HL.out.2.2; simp [this])).mono ?_
  rintro e9 w5 ⟨rfl, k5⟩
  have HK5 : Hid (Keep [] w w5) := (K0.out.trans' HK1.out).trans' k5
  clear k5
  go_wp2
  go_ret2
  exact ⟨by rw [HTT.out, HTx.out, List.append_assoc]; rfl, HK5.out⟩
end Go.Proofs.YtfpcpociejefaaaGreatDoor

/- The program's Encode of a tuple. -/
namespace Go.Proofs.YtfpcpociejefaaaGreatDoor
open Go.RowKit Go.PlainAid Go.Lib
theorem MayF.short {y : K7} {l : List AD} (h : MayF y l) : y.Short := by
 have ha := (name_len h.a).2
 have hb := (id_len h.b).2
 have hc := h.csz
 have hg := h.gsz
 obtain ⟨h1, h2, h3⟩ := fault_ok h.fault
 have hd := (name_len h1).2
 rw [toList_len] at ha hb hd h2 h3
 refine ⟨fun k => ?_⟩
 unfold K7.at
 split <;> omega
/-- what a writer at b (new in w0) has written -/
def Wq (w0 w : World) (l : List UInt8) : Prop := ∃ rb, Wr w w0.heap.size 0 l rb ∧ (∀ k, rb = some k → w0.heap.size < k) ∧ Keep [] w0 w ∧ w0.heap.size < w.heap.size
theorem Wq.keep {w0 w w' : World} {l : List UInt8} (h : Wq w0 w l) (k : Keep [] w w') : Wq w0 w' l := by
 obtain ⟨rb, h1, h2, h3, h4⟩ := h
 exact ⟨rb, h1.keep k (by simp) (fun _ _ => by simp), h2, h3.trans' k, Nat.lt_of_lt_of_le h4 k.size⟩
theorem Wq.more {w0 w w' : World} {l m : List UInt8} {rb : Option Nat} (h2 : ∀ k, rb = some k → w0.heap.size < k) (h3 : Keep [] w0 w) (h4 : w0.heap.size < w.heap.size) (h : Wrote w w' w0.heap.size 0 l m rb) : Wq w0 w' (l ++ m) := by
 obtain ⟨rb2, g1, g2, g3⟩ := h
 refine ⟨rb2, g1, fun k hk => ?_, h3.more g2 (fun y hy => .inr ?_), Nat.lt_of_lt_of_le h4 g2.size⟩
 ·rcases g3 with e | e
  ·exact h2 k (by rw [← e]; exact hk)
  ·have := (e k hk).1
   omega
 ·rcases List.mem_cons.1 hy with e | e
  ·omega
  ·have := h2 y (by simpa using e)
   omega
theorem Wq.text {w0 w : World} {l : List UInt8} (h : Wq w0 w l) (s : ByteArray) (hl : l.length ≤ 10000000) (hs : s.size ≤ 1000000) :
  Calls Tryz.prog 17 #[.pointer (some ⟨w0.heap.size, 0, none⟩), .string s] w fun e w' => e = .returned (.tuple #[]) ∧ Wq w0 w' (l ++ vtextB s) := by
 obtain ⟨rb, h1, h2, h3, h4⟩ := h
 refine (wText_any w0.heap.size 0 l rb s w h1 (by omega)).mono ?_
 rintro e w' ⟨rfl, h⟩
 exact ⟨rfl, Wq.more h2 h3 h4 h⟩
theorem Wq.uint {w0 w : World} {l : List UInt8} (h : Wq w0 w l) (x : Nat) (hx : x < 18446744073709551616) (hl : l.length ≤ 10000000) :
  Calls Tryz.prog 18 #[.pointer (some ⟨w0.heap.size, 0, none⟩), .int .u64 (x : Int)] w fun e w' => e = .returned (.tuple #[]) ∧ Wq w0 w' (l ++ uvarint x) := by
 obtain ⟨rb, h1, h2, h3, h4⟩ := h
 refine (wUint_any w0.heap.size 0 l rb x hx w h1 (by omega)).mono ?_
 rintro e w' ⟨rfl, h⟩
 exact ⟨rfl, Wq.more h2 h3 h4 h⟩
theorem Wq.bytes {w0 w : World} {l : List UInt8} (h : Wq w0 w l) (hl : l.length ≤ 10000000) :
  Calls Tryz.prog 20 #[.pointer (some ⟨w0.heap.size, 0, none⟩)] w fun e w' => ∃ v', e = .returned v' ∧ (Row w' v' l ∧ Fresh w0 w' v' ∧ Sl v' l.length) ∧ Keep [] w0 w' := by
 obtain ⟨rb, h1, h2, h3, h4⟩ := h
 refine (wBytes_any w0.heap.size 0 l rb w h1 (by omega)).mono ?_
 rintro e w' ⟨v', rfl, a, b, c, d⟩
 exact ⟨v', rfl, ⟨a, b.earlier h3.size, d⟩, h3.trans' c⟩
theorem Wq.text2 {w0 wr w : World} {l m : List UInt8} {v : Value} (h : Wq w0 wr l) (k : Keep [] wr w) (hv : Row w v m) (hf : Fresh wr w v) (s : ByteArray) (hl : l.length ≤ 10000000) (hs : s.size ≤ 1000000) :
  Calls Tryz.prog 17 #[.pointer (some ⟨w0.heap.size, 0, none⟩), .string s] w fun e w' => e = .returned (.tuple #[]) ∧ Wq w0 w' (l ++ vtextB s) ∧ Row w' v m := by
 obtain ⟨rb, h1, h2, h3, h4⟩ := h
 have hrb : ∀ q, rb = some q → q < wr.heap.size := by
  obtain ⟨_, _, vv, _, rfl, hr⟩ := h1.ex
  exact hr.lt
 refine (wText_any w0.heap.size 0 l rb s w (h1.keep k (by simp) (fun _ _ => by simp)) (by omega)).mono ?_
 rintro e w' ⟨rfl, h⟩
 refine ⟨rfl, Wq.more h2 (h3.trans' k) (Nat.lt_of_lt_of_le h4 k.size) h, ?_⟩
 obtain ⟨rb2, g1, g2, g3⟩ := h
 refine hv.keep g2 (fun q hq hm => ?_)
 have h5 := (hf q hq).1
 rcases List.mem_cons.1 hm with e | e
 ·omega
 ·have := hrb q (by simpa using e)
  omega
theorem Wq.start (w : World) : Wq w (w.alloc (.cells #[.slice none 0 0] 53)) [] :=
 ⟨none, Wr.zero _ _ _ (by simp) (by simp), (fun k h => by cases h), Keep.alloc1 w _, by simp⟩
set_option maxRecDepth 1000000 in
set_option maxHeartbeats 2000000 in
theorem tEnc_no (y : K7) (u : Value) (l : List AD) (w : World) (hu : As w u l) (hM : ∀ w1, Keep [] w w1 → Calls Tryz.prog 12 #[y.tup u] w1 fun e w' => e = .returned (.bool false) ∧ Keep [] w1 w') :
  Calls Tryz.prog 6 #[y.tup u] w fun e w' => e = .returned (.tuple #[.slice none 0 0, .int .i64 100]) ∧ Keep [] w w' := by
 obtain ⟨ao, ca, rfl, _, _, _⟩ := hu.ex
 have HM : Hid _ := hM
 clear hu hM
 obtain ⟨a, b, c, d, e, f, g⟩ := y
 have K0 : Hid (Keep [] w (w.alloc (.cells #[.string a, .string b, .string c, .string d, .string e, .string f, .string g, .slice ao l.length ca] 28))) := Keep.alloc1 w _
 replace HM : Hid (∀ w1, Keep [] w w1 → Calls Tryz.prog 12 #[.agg #[.string a, .string b, .string c, .string d, .string e, .string f, .string g, .slice ao l.length ca]] w1 fun e w' => e = .returned (.bool false) ∧ Keep [] w1 w') := HM
 show Calls Tryz.prog 6 #[.agg #[.string a, .string b, .string c, .string d, .string e, .string f, .string g, .slice ao l.length ca]] w fun e w' => e = .returned (.tuple #[.slice none 0 0, .int .i64 100]) ∧ Keep [] w w'
 go_enter Tryz.func6, Tryz.ntmps6
 go_wp2_with fail
 refine (HM.out _ K0.out).mono ?_
 rintro e9 w1 ⟨rfl, k1⟩
 have HK1 : Hid (Keep [] w w1) := K0.out.trans' k1
 clear k1 HM
 go_wp2
 go_ret2
 exact ⟨rfl, HK1.out⟩
set_option maxRecDepth 1000000 in
set_option maxHeartbeats 8000000 in
theorem tEnc_yes (y : K7) (u : Value) (l : List AD) (w : World) (hu : As w u l) (hm : mayT y l = true) (hM : ∀ w1, Keep [] w w1 → Calls Tryz.prog 12 #[y.tup u] w1 fun e w' => e = .returned (.bool true) ∧ Keep [] w1 w') :
  Calls Tryz.prog 6 #[y.tup u] w fun e w' => ∃ v, e = .returned (.tuple #[v, .int .i64 0]) ∧ (Row w' v (encT y l) ∧ Fresh w w' v ∧ Sl v (encT y l).length) ∧ Keep [] w w' := by
 have hF := may_facts hm
 have hSh := hF.short
 obtain ⟨f1, f2⟩ := args_facts l hF.z
 have HBL : Hid (∀ k, k ≤ l.length → (argsB l k).length ≤ k * 9000) := argsB_len l hu.ok hF.z
 have HSL : Hid (∀ k, (sevB y k).length ≤ k * 138) := sevB_len y hSh
 have HS : Hid (∀ k, (y.at k).size ≤ 128) := hSh.s
 have HU : Hid (As w u l) := hu
 have HF : Hid (∀ x ∈ l, nameL x.nm.toList = true ∧ x.val.mayB = true) := f2
 have h16 : l.length ≤ 16 := f1
 obtain ⟨ao, ca, rfl, _, hca, _⟩ := hu.ex
 have HM : Hid _ := hM
 have HE : Hid (encT y l = sevB y 7 ++ uvarint l.length ++ argsB l l.length) := rfl
 clear hu hM hm hF hSh f1 f2
 obtain ⟨R, HR⟩ : ∃ R, Hid (R = encT y l) := ⟨_, rfl⟩
 have hR := HR.out
 rw [← hR]
 clear hR
 obtain ⟨y0, HY⟩ : ∃ y0, Hid (y0 = y) := ⟨_, rfl⟩
 rw [← HY.out] at HSL HS HE HR
 obtain ⟨a, b, c, d, e, f, g⟩ := y
 have HAt : Hid (y0.at 0 = a ∧ y0.at 1 = b ∧ y0.at 2 = c ∧ y0.at 3 = d ∧ y0.at 4 = e ∧ y0.at 5 = f ∧ y0.at 6 = g) := by
  show _ ∧ _
  rw [HY.out]
  exact ⟨rfl, rfl, rfl, rfl, rfl, rfl, rfl⟩
 clear HY
 have K0 : Hid (Keep [] w (w.alloc (.cells #[.string a, .string b, .string c, .string d, .string e, .string f, .string g, .slice ao l.length ca] 28))) := Keep.alloc1 w _
 replace HM : Hid (∀ w1, Keep [] w w1 → Calls Tryz.prog 12 #[.agg #[.string a, .string b, .string c, .string d, .string e, .string f, .string g, .slice ao l.length ca]] w1 fun e w' => e = .returned (.bool true) ∧ Keep [] w1 w') := HM
 show Calls Tryz.prog 6 #[.agg #[.string a, .string b, .string c, .string d, .string e, .string f, .string g, .slice ao l.length ca]] w fun e w' => ∃ v, e = .returned (.tuple #[v, .int .i64 0]) ∧ (Row w' v R ∧ Fresh w w' v ∧ Sl v R.length) ∧ Keep [] w w'
 have i0 : ∀ w, (Instr.index 54 (.agg #[.string a, .string b, .string c, .string d, .string e, .string f, .string g]) (.int .i64 0)).run Tryz.prog w = .ok (.string a) w := fun w => by kernel_rfl
 have i1 : ∀ w, (Instr.index 54 (.agg #[.string a, .string b, .string c, .string d, .string e, .string f, .string g]) (.int .i64 1)).run Tryz.prog w = .ok (.string b) w := fun w => by kernel_rfl
 have i2 : ∀ w, (Instr.index 54 (.agg #[.string a, .string b, .string c, .string d, .string e, .string f, .string g]) (.int .i64 2)).run Tryz.prog w = .ok (.string c) w := fun w => by kernel_rfl
 have i3 : ∀ w, (Instr.index 54 (.agg #[.string a, .string b, .string c, .string d, .string e, .string f, .string g]) (.int .i64 3)).run Tryz.prog w = .ok (.string d) w := fun w => by kernel_rfl
 have i4 : ∀ w, (Instr.index 54 (.agg #[.string a, .string b, .string c, .string d, .string e, .string f, .string g]) (.int .i64 4)).run Tryz.prog w = .ok (.string e) w := fun w => by kernel_rfl
 have i5 : ∀ w, (Instr.index 54 (.agg #[.string a, .string b, .string c, .string d, .string e, .string f, .string g]) (.int .i64 5)).run Tryz.prog w = .ok (.string f) w := fun w => by kernel_rfl
 have i6 : ∀ w, (Instr.index 54 (.agg #[.string a, .string b, .string c, .string d, .string e, .string f, .string g]) (.int .i64 6)).run Tryz.prog w = .ok (.string g) w := fun w => by kernel_rfl
 have hlen64 : IntKind.u64.wrap (l.length : Int) = (l.length : Int) := by rw [IntKind.wrap_u64]; omega
 have hsf := store_f32
 simp only [Go.stored] at hsf
 go_enter Tryz.func6, Tryz.ntmps6
 go_wp2_with fail
 refine (HM.out _ K0.out).mono ?_
 rintro e9 w1 ⟨rfl, k1⟩
 have HK1 : Hid (Keep [] (w.alloc (.cells #[.string a, .string b, .string c, .string d, .string e, .string f, .string g, .slice ao l.length ca] 28)) w1) := k1
 obtain ⟨c0, c1, c2, c3, c4, c5, c6, c7⟩ := cells8 (HK1.out.alloc (.cells #[.slice none 0 0] 53))
 have HW : Hid (Wq w1 (w1.alloc (.cells #[.slice none 0 0] 53)) []) := Wq.start w1
 clear k1 HM
 go_wp2
 clear c0 c1 c2 c3 c4 c5 c6 c7
 go_loopw [34] (fun i wr => ∃ k : Nat, k ≤ 7 ∧ i = .int .i64 k ∧ Wq w1 wr (sevB y0 k)) (fun i _ => 7 - (RowKit.intOf i).toNat)
 case atStart => exact ⟨0, by omega, rfl, HW.out⟩
 case round =>
  obtain ⟨k, hk, rfl, hw⟩ := hrel
  have HWk : Hid (Wq w1 wr (sevB y0 k)) := hw
  clear hw HW
  by_cases hk7 : k < 7
  ·have hL := HSL.out k
   have HX : Hid (∀ s, y0.at k = s → Calls Tryz.prog 17 #[.pointer (some ⟨w1.heap.size, 0, none⟩), .string s] wr fun e w' => e = .returned (.tuple #[]) ∧ Wq w1 w' (sevB y0 (k + 1))) := fun s hs => by
    rw [sevB_next, hs]
    exact HWk.out.text s (by omega) (by have := HS.out k; rw [hs] at this; omega)
   obtain ⟨a0, a1, a2, a3, a4, a5, a6⟩ := HAt.out
   have hcase : k = 0 ∨ k = 1 ∨ k = 2 ∨ k = 3 ∨ k = 4 ∨ k = 5 ∨ k = 6 := by omega
   clear hL
   rcases hcase with rfl | rfl | rfl | rfl | rfl | rfl | rfl
   ·clear a1 a2 a3 a4 a5 a6
    have h9 := HX.out _ a0
    clear a0 HX
    go_wp2_with fail
    refine h9.mono ?_
    rintro e9 w2 ⟨rfl, hb⟩
    clear h9
    have HB : Hid (Wq w1 w2 (sevB y0 (0 + 1))) := hb
    clear hb
    go_wp2
    go_round
    case rel => exact ⟨1, by omega, by go_num, HB.out⟩
    case measure => simp [RowKit.intOf]
   ·clear a0 a2 a3 a4 a5 a6
    have h9 := HX.out _ a1
    clear a1 HX
    go_wp2_with fail
    refine h9.mono ?_
    rintro e9 w2 ⟨rfl, hb⟩
    clear h9
    have HB : Hid (Wq w1 w2 (sevB y0 (1 + 1))) := hb
    clear hb
    go_wp2
    go_round
    case rel => exact ⟨2, by omega, by go_num, HB.out⟩
    case measure => simp [RowKit.intOf]
   ·clear a0 a1 a3 a4 a5 a6
    have h9 := HX.out _ a2
    clear a2 HX
    go_wp2_with fail
    refine h9.mono ?_
    rintro e9 w2 ⟨rfl, hb⟩
    clear h9
    have HB : Hid (Wq w1 w2 (sevB y0 (2 + 1))) := hb
    clear hb
    go_wp2
    go_round
    case rel => exact ⟨3, by omega, by go_num, HB.out⟩
    case measure => simp [RowKit.intOf]
   ·clear a0 a1 a2 a4 a5 a6
    have h9 := HX.out _ a3
    clear a3 HX
    go_wp2_with fail
    refine h9.mono ?_
    rintro e9 w2 ⟨rfl, hb⟩
    clear h9
    have HB : Hid (Wq w1 w2 (sevB y0 (3 + 1))) := hb
    clear hb
    go_wp2
    go_round
    case rel => exact ⟨4, by omega, by go_num, HB.out⟩
    case measure => simp [RowKit.intOf]
   ·clear a0 a1 a2 a3 a5 a6
    have h9 := HX.out _ a4
    clear a4 HX
    go_wp2_with fail
    refine h9.mono ?_
    rintro e9 w2 ⟨rfl, hb⟩
    clear h9
    have HB : Hid (Wq w1 w2 (sevB y0 (4 + 1))) := hb
    clear hb
    go_wp2
    go_round
    case rel => exact ⟨5, by omega, by go_num, HB.out⟩
    case measure => simp [RowKit.intOf]
   ·clear a0 a1 a2 a3 a4 a6
    have h9 := HX.out _ a5
    clear a5 HX
    go_wp2_with fail
    refine h9.mono ?_
    rintro e9 w2 ⟨rfl, hb⟩
    clear h9
    have HB : Hid (Wq w1 w2 (sevB y0 (5 + 1))) := hb
    clear hb
    go_wp2
    go_round
    case rel => exact ⟨6, by omega, by go_num, HB.out⟩
    case measure => simp [RowKit.intOf]
   ·clear a0 a1 a2 a3 a4 a5
    have h9 := HX.out _ a6
    clear a6 HX
    go_wp2_with fail
    refine h9.mono ?_
    rintro e9 w2 ⟨rfl, hb⟩
    clear h9
    have HB : Hid (Wq w1 w2 (sevB y0 (6 + 1))) := hb
    clear hb
    go_wp2
    go_round
    case rel => exact ⟨7, by omega, by go_num, HB.out⟩
    case measure => simp [RowKit.intOf]
  ·obtain rfl : k = 7 := by omega
   clear i0 i1 i2 i3 i4 i5 i6 HAt
   have hq : w1.heap.size ≠ w.heap.size := by
    have := HK1.out.size
    simp at this
    omega
   obtain ⟨c0, c1, c2, c3, c4, c5, c6, c7⟩ := cells8 (HK1.out.trans' (by obtain ⟨_, _, _, k3, _⟩ := HWk.out; exact k3))
   have hU := HWk.out.uint l.length (by omega) (by have := HSL.out 7; omega)
   clear hq
   go_wp2_with fail
   refine hU.mono ?_
   rintro e9 w2 ⟨rfl, hb⟩
   have HB : Hid (Wq w1 w2 (sevB y0 7 ++ uvarint l.length ++ argsB l 0)) := by
    show Wq _ _ _
    have e : argsB l 0 = [] := rfl
    rw [e, List.append_nil]
    exact hb
   clear hb hU c0 c1 c2 c3 c4 c5 c6 c7
   obtain ⟨c0, c1, c2, c3, c4, c5, c6, c7⟩ := cells8 (HK1.out.trans' (by obtain ⟨_, _, _, k3, _⟩ := HB.out; exact k3))
   go_wp2
   clear c0 c1 c2 c3 c4 c5 c6 c7
   have HUv : Hid ((uvarint l.length).length ≤ 10) := uvarint_length64 (by omega)
   go_loopw [48] (fun i wr => ∃ k : Nat, k ≤ l.length ∧ i = .int .i64 k ∧ Wq w1 wr (sevB y0 7 ++ uvarint l.length ++ argsB l k)) (fun i _ => l.length - (RowKit.intOf i).toNat)
   case atStart => exact ⟨0, Nat.zero_le _, rfl, HB.out⟩
   case round =>
    obtain ⟨k, hk, rfl, hw⟩ := hrel
    have HWk2 : Hid (Wq w1 wr (sevB y0 7 ++ uvarint l.length ++ argsB l k)) := hw
    have hbl := HBL.out k hk
    have hsl := HSL.out 7
    have hul := HUv.out
    have HLl : Hid ((sevB y0 7 ++ uvarint l.length ++ argsB l k).length ≤ 200000) := by
     show _ ≤ _
     rw [List.length_append, List.length_append]
     have : k * 9000 ≤ 16 * 9000 := Nat.mul_le_mul_right _ (by omega)
     omega
    clear hbl hsl hul HB
    have hKw : Keep [] w wr := (K0.out.trans' HK1.out).trans' (by obtain ⟨_, _, _, k3, _⟩ := hw; exact k3)
    by_cases hkl : k < l.length
    ·have hki : (k : Int) < (l.length : Int) := by omega
     obtain ⟨b9, o9, cap9, uu, he, _, _, hA, hU2⟩ := (HU.out.keep0 hKw).at k hkl
     simp only [Value.slice.injEq, true_and] at he
     obtain ⟨rfl, rfl⟩ := he
     have hok := HU.out.ok l[k] (List.getElem_mem hkl)
     obtain ⟨hnm, hmy⟩ := HF.out l[k] (List.getElem_mem hkl)
     obtain ⟨c0, c1, c2, c3, c4, c5, c6⟩ := hA
     have hEn := fun w1 (k1 : Keep [] wr w1) => encode_yes l[k].val hok hmy uu w1 (hU2.keep k1 (Off.nil _))
     have hns := nm_size l[k] hnm
     have hel := enc_len l[k].val hok hmy
     have hne : encL l[k].val ≠ [] := by unfold encL; simp
     have hnx := argsB_next l k hkl
     obtain ⟨au, cu, rfl, _, _, _, _⟩ := hU2.ex
     have HEn : Hid _ := hEn
     have HNe : Hid (encL l[k].val ≠ [] ∧ (encL l[k].val).length ≤ 8801) := ⟨hne, hel⟩
     have HNx : Hid (argsB l (k + 1) = argsB l k ++ vtextB l[k].nm ++ vtextB (ba (encL l[k].val))) := hnx
     clear hU2 hok hnm hmy hEn hne hnx hel hw hKw
     generalize l[k] = x at *
     go_wp2_with fail
     refine (HEn.out _ (Keep.alloc1 wr _)).mono ?_
     rintro e9 w2 ⟨v, rfl, ⟨r1, r2, r3⟩, k2⟩
     obtain ⟨d0, d1, d2, d3, d4, d5, d6, _⟩ := arg_start (Keep.refl [] wr) k2
     have k2' : Keep [] wr w2 := (Keep.alloc1 wr _).trans' k2
     have hX := HWk2.out.text2 k2' r1 (r2.earlier (by simp)) x.nm (by have := HLl.out; omega) (by omega)
     have HK2 : Hid (Keep [] wr w2) := k2'
     clear k2 k2' HEn c0 c1 c2 c3 c4 c5 c6 r1 r2
     go_wp2_with fail
     refine hX.mono ?_
     rintro e9 w3 ⟨rfl, hb3, hr3⟩
     have hcv := str_bs hr3.bs HNe.out.1
     have hY := hb3.text (ba (encL x.val)) (by rw [List.length_append]; have := HLl.out; have := vtext_len x.nm 32 hns (by decide); omega) (by rw [ba_size]; have := HNe.out.2; omega)
     obtain ⟨a3, n3, rfl⟩ := r3
     clear hX hb3 hr3 d0 d1 d2 d3 d4 d5 d6
     go_wp2_with fail
     refine hY.mono ?_
     rintro e9 w4 ⟨rfl, hb4⟩
     have HB4 : Hid (Wq w1 w4 (sevB y0 7 ++ uvarint l.length ++ argsB l (k + 1))) := by
      show Wq _ _ _
      rw [HNx.out]
      simpa only [List.append_assoc] using hb4
     clear hb4 hY hcv
     go_wp2
     go_round
     case rel => exact ⟨k + 1, by omega, by go_num, HB4.out⟩
     case measure => simp [RowKit.intOf]; omega
    ·obtain rfl : k = l.length := by omega
     have hki : ¬ ((l.length : Int) < (l.length : Int)) := by omega
     have hY := HWk2.out.bytes (by have := HLl.out; omega)
     have hRe : sevB y0 7 ++ uvarint l.length ++ argsB l l.length = R := by rw [HR.out, HE.out]
     rw [hRe] at hY
     clear hw hRe
     go_wp2_with fail
     refine hY.mono ?_
     rintro e9 w5 ⟨v, rfl, ⟨y1, y2, y4⟩, y3⟩
     have HFn : Hid ((Row w5 v R ∧ Fresh w w5 v ∧ Sl v R.length) ∧ Keep [] w w5) := by
      show _ ∧ _
      exact ⟨⟨y1, y2.earlier (K0.out.trans' HK1.out).size, y4⟩, (K0.out.trans' HK1.out).trans' y3⟩
     obtain ⟨a9, c9, rfl⟩ := y4
     clear y1 y2 y3 hY
     go_wp2
     go_ret2
     exact ⟨_, rfl, HFn.out⟩
end Go.Proofs.YtfpcpociejefaaaGreatDoor
