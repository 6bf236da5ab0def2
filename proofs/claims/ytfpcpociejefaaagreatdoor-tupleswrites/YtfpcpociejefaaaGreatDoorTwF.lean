/- The document's Text of a tuple. -/
import Derived.Test.YtfpcpociejefaaaGreatDoorTwD
import Derived.Test.YtfpcpociejefaaaGreatDoorJRefC
namespace Go.Proofs.YtfpcpociejefaaaGreatDoor
open Go.RowKit Go.PlainAid
/-- the document's text of the first k arguments, as it goes -/
def argsG (l : List AD) (k : Nat) : List UInt8 := if k = 0 then [123] else argsTo l k
theorem argsG_next (l : List AD) (k : Nat) (h : k < l.length) : argsG l (k + 1) = (if k = 0 then argsG l k else argsG l k ++ [44, 32]) ++ itemT l[k] := by
 have e := argsTo_next l k h
 unfold argsG
 rw [if_neg (by omega), e]
 by_cases h0 : k = 0
 ·subst h0
  rw [if_pos rfl, if_pos rfl]
  simp [argsTo, sepT]
 ·rw [if_neg h0, if_neg h0]
  unfold sepT
  rw [if_neg h0]
  simp
set_option maxRecDepth 1000000 in
set_option maxHeartbeats 2000000 in
theorem argsText_any (u : Value) (l : List AD) (w : World) (hu : As w u l) (hz : argsZ l = 0) (hT : TabV w) (h0 : l.length ≠ 0) :
  Calls Tryz.prog 24 #[u] w fun e w' => e = .returned (.string (ba (argsT l))) ∧ Keep [] w w' := by
 obtain ⟨ao, ca, rfl, h1, h2, h4⟩ := hu.ex
 obtain ⟨f1, f2⟩ := args_facts l hz
 have hAL := argsTo_len l hu.ok hz
 obtain ⟨b, o, rfl, hat⟩ := h4 (fun e => h0 (by rw [e]; rfl))
 have HA : Hid (∀ i (h : i < l.length), ∃ u, ArgC w b (o + i * 7) l[i] u ∧ Ts w u l[i].val.texts) := hat
 have HO : Hid (∀ x ∈ l, x.val.Ok) := hu.ok
 have HF : Hid (∀ x ∈ l, nameL x.nm.toList = true ∧ x.val.mayB = true) := f2
 have HL : Hid (∀ k, k ≤ l.length → (argsG l k).length ≤ 640600) := fun k hk => by
  unfold argsG
  split
  ·simp
  ·have h3 := hAL k hk
   have : k * 40036 ≤ 16 * 40036 := Nat.mul_le_mul_right _ (by omega)
   omega
 have HT : Hid (TabV w) := hT
 have e : argsT l = argsG l l.length ++ [125] := by unfold argsT argsG; rw [if_neg h0, if_neg h0]
 have HE : Hid (ba (argsT l) = ba (argsG l l.length) ++ ⟨#[125]⟩) := by
  show _ = _
  rw [e]
  apply ByteArray.ext
  simp [ba, ByteArray.data_append]
 clear hu h4 f2 hAL hT hat e
 obtain ⟨R, hR⟩ : ∃ R, R = ba (argsT l) := ⟨_, rfl⟩
 rw [← hR] at HE ⊢
 clear hR
 go_enter Tryz.func24, Tryz.ntmps24
 go_wp2
 go_loopw [3, 4] (fun s i wr => ∃ k : Nat, k ≤ l.length ∧ i = .int .i64 k ∧ s = .string (ba (argsG l k)) ∧ Keep [] w wr) (fun _ i _ => l.length - (RowKit.intOf i).toNat)
 case atStart => exact ⟨0, Nat.zero_le _, rfl, rfl, Keep.refl _ _⟩
 case round =>
  obtain ⟨k, hk, rfl, rfl, hkp⟩ := hrel
  have hsz : (ba (argsG l k)).size ≤ 640600 := by rw [ba_size]; exact HL.out k hk
  have HK : Hid (Keep [] w wr) := hkp
  by_cases hkl : k < l.length
  ·have hki : (k : Int) < (l.length : Int) := by omega
   obtain ⟨uu, hA, hU⟩ := HA.out k hkl
   have hok := HO.out l[k] (List.getElem_mem hkl)
   obtain ⟨hnm, hmy⟩ := HF.out l[k] (List.getElem_mem hkl)
   have hA' := hA.keep hkp
   obtain ⟨c0, c1, c2, c3, c4, c5, c6⟩ := hA'
   have hTx := dText_yes l[k].val hok hmy uu wr (hU.keep hkp (Off.nil _)) (HT.out.keep hkp)
   have hll : (ba (litL l[k].val)).size ≤ 40000 := by rw [ba_size]; exact lit_len l[k].val hok hmy
   have hns := nm_size l[k] hnm
   have hnx := argsG_next l k hkl
   obtain ⟨au, cu, rfl, _, _, _, _⟩ := hU.ex
   obtain ⟨S, hS⟩ : ∃ S, S = ba (argsG l k) := ⟨_, rfl⟩
   obtain ⟨B, hB⟩ : ∃ B, B = ba (litL l[k].val) := ⟨_, rfl⟩
   have HN : Hid (ba (argsG l (k + 1)) = ((if k = 0 then S else S ++ ⟨#[44, 32]⟩) ++ l[k].nm ++ ⟨#[58, 32]⟩) ++ B) := by
    show _ = _
    rw [hnx, hS, hB]
    apply ByteArray.ext
    apply Array.toList_inj.1
    unfold itemT
    split <;> simp [ba, ByteArray.data_append, ByteArray.toList_eq]
   rw [← hS] at hsz ⊢
   rw [← hB] at hll hTx
   clear hA hU hok hnm hmy hnx hkp hS hB
   generalize l[k] = x at *
   by_cases hk0 : k = 0
   ·have hkz : ¬ (0 : Int) < (k : Int) := by omega
    have HN2 : Hid (ba (argsG l (k + 1)) = S ++ x.nm ++ ⟨#[58, 32]⟩ ++ B) := by show _ = _; rw [HN.out, if_pos hk0]
    have HK0 : Hid (k = 0) := hk0
    clear HN hk0
    have z1 : (S ++ x.nm).size = S.size + x.nm.size := by simp
    have z2 : (S ++ x.nm ++ ⟨#[58, 32]⟩).size = S.size + x.nm.size + 2 := by rw [ByteArray.size_append, z1]; rfl
    go_wp2_with fail
    refine hTx.mono ?_
    rintro e9 w1 ⟨rfl, k1⟩
    obtain d0 := k1.cell' c0 (by simp)
    have HK1 : Hid (Keep [] w w1) := HK.out.trans' k1
    clear k1 hTx c0 c1 c2 c3 c4 c5 c6
    go_wp2
    go_round
    case rel => exact ⟨k + 1, by omega, by go_num, by rw [HN2.out], HK1.out⟩
    case measure => simp [RowKit.intOf]; omega
   ·have hkz : (0 : Int) < (k : Int) := by omega
    have HN2 : Hid (ba (argsG l (k + 1)) = S ++ ⟨#[44, 32]⟩ ++ x.nm ++ ⟨#[58, 32]⟩ ++ B) := by show _ = _; rw [HN.out, if_neg hk0]
    clear HN hk0
    have z0 : (S ++ ⟨#[44, 32]⟩).size = S.size + 2 := by rw [ByteArray.size_append]; rfl
    have z1 : (S ++ ⟨#[44, 32]⟩ ++ x.nm).size = S.size + 2 + x.nm.size := by rw [ByteArray.size_append, z0]
    have z2 : (S ++ ⟨#[44, 32]⟩ ++ x.nm ++ ⟨#[58, 32]⟩).size = S.size + 2 + x.nm.size + 2 := by rw [ByteArray.size_append, z1]; rfl
    go_wp2_with fail
    refine hTx.mono ?_
    rintro e9 w1 ⟨rfl, k1⟩
    obtain d0 := k1.cell' c0 (by simp)
    have HK1 : Hid (Keep [] w w1) := HK.out.trans' k1
    clear k1 hTx c0 c1 c2 c3 c4 c5 c6
    go_wp2
    go_round
    case rel => exact ⟨k + 1, by omega, by go_num, by rw [HN2.out], HK1.out⟩
    case measure => simp [RowKit.intOf]; omega
  ·obtain rfl : k = l.length := by omega
   have hki : ¬ ((l.length : Int) < (l.length : Int)) := by omega
   clear hkp
   go_wp2
   go_ret
   exact ⟨by rw [HE.out]; rfl, HK.out⟩
set_option maxRecDepth 1000000 in
set_option maxHeartbeats 1000000 in
theorem rText_no (y : K7) (u : Value) (l : List AD) (w : World) (hu : As w u l) (hM : ∀ w1, Keep [] w w1 → Calls Tryz.prog 21 #[y.tup u] w1 fun e w' => e = .returned (.bool false) ∧ Keep [] w1 w') :
  Calls Tryz.prog 7 #[y.tup u] w fun e w' => e = .returned (.tuple #[.string ⟨#[]⟩, .int .i64 100]) ∧ Keep [] w w' := by
 obtain ⟨ao, ca, rfl, _, _, _⟩ := hu.ex
 have HM : Hid _ := hM
 clear hu hM
 obtain ⟨a, b, c, d, e, f, g⟩ := y
 have K0 : Hid (Keep [] w (w.alloc (.cells #[.string a, .string b, .string c, .string d, .string e, .string f, .string g, .slice ao l.length ca] 28))) := Keep.alloc1 w _
 replace HM : Hid (∀ w1, Keep [] w w1 → Calls Tryz.prog 21 #[.agg #[.string a, .string b, .string c, .string d, .string e, .string f, .string g, .slice ao l.length ca]] w1 fun e w' => e = .returned (.bool false) ∧ Keep [] w1 w') := HM
 show Calls Tryz.prog 7 #[.agg #[.string a, .string b, .string c, .string d, .string e, .string f, .string g, .slice ao l.length ca]] w fun e w' => e = .returned (.tuple #[.string ⟨#[]⟩, .int .i64 100]) ∧ Keep [] w w'
 go_enter Tryz.func7, Tryz.ntmps7
 go_wp2_with fail
 refine (HM.out _ K0.out).mono ?_
 rintro e9 w1 ⟨rfl, k1⟩
 have HK1 : Hid (Keep [] w w1) := K0.out.trans' k1
 clear k1 HM
 go_wp2
 go_ret2
 exact ⟨rfl, HK1.out⟩
theorem text_ba (S G T : ByteArray) (y : K7) (l : List AD) (hS : S = ba (keyT y)) (hG : G = ba (condT y)) (hT : T = ba (argsT l)) : S ++ G ++ T = ba (textT y l) := by
 rw [hS, hG, hT]
 apply ByteArray.ext
 apply Array.toList_inj.1
 unfold textT
 simp [ba, ByteArray.data_append]
theorem app_nil (S : ByteArray) : S ++ (⟨#[]⟩ : ByteArray) = S := by
 apply ByteArray.ext
 simp [ByteArray.data_append]
theorem app_three (A B C : ByteArray) : A ++ (B ++ C) = A ++ B ++ C := by
 apply ByteArray.ext
 simp [ByteArray.data_append]
set_option maxRecDepth 1000000 in
set_option maxHeartbeats 4000000 in
theorem rText_yes (y : K7) (u : Value) (l : List AD) (w : World) (hu : As w u l) (hm : mayT y l = true) (hM : ∀ w1, Keep [] w w1 → Calls Tryz.prog 21 #[y.tup u] w1 fun e w' => e = .returned (.bool true) ∧ Keep [] w1 w') (hT : TabV w)
  (hO : ∀ w1, Keep [] w w1 → Calls Tryz.prog 22 #[.agg #[.string y.a, .string y.b]] w1 fun e w' => e = .returned (.tuple #[.string (ba (objTextL y.a.toList y.b.toList)), .int .i64 (objErrL y.a.toList y.b.toList)]) ∧ Below w1.heap.size w1 w')
  (hS : ∀ w1, Keep [] w w1 → Calls Tryz.prog 23 #[.agg #[.string y.d, .string y.e, .string y.f]] w1 fun e w' => e = .returned (.tuple #[.string (ba (subTextL y.d.toList y.e.toList y.f.toList)), .int .i64 (faultL y.d.toList y.e.toList y.f.toList)]) ∧ Below w1.heap.size w1 w') :
  Calls Tryz.prog 7 #[y.tup u] w fun e w' => e = .returned (.tuple #[.string (ba (textT y l)), .int .i64 0]) ∧ Keep [] w w' := by
 have hF := may_facts hm
 have h1 : (ba (objTextL y.a.toList y.b.toList)).size ≤ 97 := by rw [ba_size]; exact hF.obj
 have h2 : (ba (subTextL y.d.toList y.e.toList y.f.toList)).size ≤ 131 := by rw [ba_size]; exact hF.sub
 have h3 := hF.csz
 have h4 := hF.gsz
 have h5 : (ba (argsT l)).size ≤ 700000 := by rw [ba_size]; exact argsT_len l hu.ok hF.z
 have hks : (ba (keyT y)).size ≤ 300 := by rw [ba_size]; exact (keyT_len hF).1
 have HTx : Hid (∀ S G T : ByteArray, S = ba (keyT y) → G = ba (condT y) → T = ba (argsT l) → S ++ G ++ T = ba (textT y l)) := fun S G T a b c => text_ba S G T y l a b c
 have HCd : Hid ((y.g.toList.isEmpty = true → ba (condT y) = ⟨#[]⟩ ) ∧ (y.g.toList.isEmpty = false → ba (condT y) = ⟨#[32, 119, 105, 116, 104, 32]⟩ ++ y.g)) := by
  show _ ∧ _
  unfold condT
  refine ⟨fun h => by rw [if_pos h]; rfl, fun h => ?_⟩
  rw [h]
  apply ByteArray.ext
  apply Array.toList_inj.1
  simp [ba, ByteArray.data_append, ByteArray.toList_eq]
 have HAz : Hid (l.length = 0 → ba (argsT l) = ⟨#[]⟩) := fun h => by unfold argsT; rw [if_pos h]; rfl
 have HAT : Hid (∀ w1, Keep [] w w1 → l.length ≠ 0 → Calls Tryz.prog 24 #[u] w1 fun e w' => e = .returned (.string (ba (argsT l))) ∧ Keep [] w1 w') := fun w1 k h0 => argsText_any u l w1 (hu.keep0 k) hF.z (hT.keep k) h0
 obtain ⟨ao, ca, rfl, _, _, _⟩ := hu.ex
 obtain ⟨A, hA⟩ : ∃ A, A = ba (objTextL y.a.toList y.b.toList) := ⟨_, rfl⟩
 obtain ⟨C, hC⟩ : ∃ C, C = ba (subTextL y.d.toList y.e.toList y.f.toList) := ⟨_, rfl⟩
 obtain ⟨S, hSk⟩ : ∃ S, S = ba (keyT y) := ⟨_, rfl⟩
 obtain ⟨T, hTk⟩ : ∃ T, T = ba (argsT l) := ⟨_, rfl⟩
 obtain ⟨G, hGk⟩ : ∃ G, G = ba (condT y) := ⟨_, rfl⟩
 obtain ⟨R, hRk⟩ : ∃ R, R = ba (textT y l) := ⟨_, rfl⟩
 have hk : A ++ ⟨#[35]⟩ ++ y.c ++ ⟨#[64]⟩ ++ C = S := by rw [hSk]; exact key_ba A C y hA hC
 have HR : Hid (S ++ G ++ T = R) := by show _ = _; rw [hRk]; exact HTx.out S G T hSk hGk hTk
 rw [← hA] at h1 hO
 rw [← hC] at h2 hS
 rw [← hSk] at hks
 rw [← hTk] at h5 HAz HAT
 rw [← hGk] at HCd
 rw [← hRk]
 have HM : Hid _ := hM
 clear hA hC hSk hTk hGk hRk hu hM hm hT hF HTx
 generalize objErrL y.a.toList y.b.toList = x1 at *
 generalize faultL y.d.toList y.e.toList y.f.toList = x2 at *
 obtain ⟨a, b, c, d, e, f, g⟩ := y
 have K0 : Hid (Keep [] w (w.alloc (.cells #[.string a, .string b, .string c, .string d, .string e, .string f, .string g, .slice ao l.length ca] 28))) := Keep.alloc1 w _
 replace HM : Hid (∀ w1, Keep [] w w1 → Calls Tryz.prog 21 #[.agg #[.string a, .string b, .string c, .string d, .string e, .string f, .string g, .slice ao l.length ca]] w1 fun e w' => e = .returned (.bool true) ∧ Keep [] w1 w') := HM
 have HO : Hid (∀ w1, Keep [] w w1 → Calls Tryz.prog 22 #[.agg #[.string a, .string b]] w1 fun e w' => e = .returned (.tuple #[.string A, .int .i64 x1]) ∧ Below w1.heap.size w1 w') := hO
 have HS : Hid (∀ w1, Keep [] w w1 → Calls Tryz.prog 23 #[.agg #[.string d, .string e, .string f]] w1 fun e w' => e = .returned (.tuple #[.string C, .int .i64 x2]) ∧ Below w1.heap.size w1 w') := hS
 replace HCd : Hid ((g.toList.isEmpty = true → G = ⟨#[]⟩ ) ∧ (g.toList.isEmpty = false → G = ⟨#[32, 119, 105, 116, 104, 32]⟩ ++ g)) := HCd
 replace hk : A ++ ⟨#[35]⟩ ++ c ++ ⟨#[64]⟩ ++ C = S := hk
 show Calls Tryz.prog 7 #[.agg #[.string a, .string b, .string c, .string d, .string e, .string f, .string g, .slice ao l.length ca]] w fun e w' => e = .returned (.tuple #[.string R, .int .i64 0]) ∧ Keep [] w w'
 have h3' : c.size ≤ 32 := h3
 have h4' : g.size ≤ 32 := h4
 have s1 : (A ++ ⟨#[35]⟩).size = A.size + 1 := by rw [ByteArray.size_append]; rfl
 have s2 : (A ++ ⟨#[35]⟩ ++ c).size = A.size + 1 + c.size := by rw [ByteArray.size_append, s1]
 have s3 : (A ++ ⟨#[35]⟩ ++ c ++ ⟨#[64]⟩).size = A.size + 1 + c.size + 1 := by rw [ByteArray.size_append, s2]; rfl
 have s4 : (S ++ ⟨#[32, 119, 105, 116, 104, 32]⟩).size = S.size + 6 := by rw [ByteArray.size_append]; rfl
 have s5 : (S ++ ⟨#[32, 119, 105, 116, 104, 32]⟩ ++ g).size = S.size + 6 + g.size := by rw [ByteArray.size_append, s4]
 clear h3 h4 hO hS
 by_cases hg : g.toList.isEmpty = true
 ·have hg1 : (g.toList == ([] : List UInt8)) = true := by rw [g_empty]; exact hg
  have HG : Hid (G = ⟨#[]⟩) := HCd.out.1 hg
  clear HCd s4 s5 hg
  by_cases hl : l.length = 0
  ·have hli : ¬ ((0 : Int) < (l.length : Int)) := by omega
   have HRr : Hid (S = R) := by
    show _ = _
    rw [← HR.out, HG.out, HAz.out hl, app_nil, app_nil]
   clear hl HAT HAz HR
   go_enter Tryz.func7, Tryz.ntmps7
   go_wp2_with fail
   refine (HM.out _ K0.out).mono ?_
   rintro e9 w1 ⟨rfl, k1⟩
   have HK1 : Hid (Keep [] (w.alloc (.cells #[.string a, .string b, .string c, .string d, .string e, .string f, .string g, .slice ao l.length ca] 28)) w1) := k1
   obtain ⟨c0, c1, c2, c3, c4, c5, c6, c7⟩ := cells8 k1
   clear k1 HM
   go_wp2_with fail
   refine (HO.out _ (K0.out.trans' HK1.out)).mono ?_
   rintro e9 w2 ⟨rfl, b2⟩
   have HK2 : Hid (Keep [] (w.alloc (.cells #[.string a, .string b, .string c, .string d, .string e, .string f, .string g, .slice ao l.length ca] 28)) w2) := HK1.out.trans' (Keep.ofBelow b2)
   clear b2 c0 c1 c2 c3 c4 c5 c6 c7 HO
   obtain ⟨c0, c1, c2, c3, c4, c5, c6, c7⟩ := cells8 HK2.out
   go_wp2_with fail
   refine (HS.out _ (K0.out.trans' HK2.out)).mono ?_
   rintro e9 w3 ⟨rfl, b3⟩
   have HK3 : Hid (Keep [] (w.alloc (.cells #[.string a, .string b, .string c, .string d, .string e, .string f, .string g, .slice ao l.length ca] 28)) w3) := HK2.out.trans' (Keep.ofBelow b3)
   clear b3 c0 c1 c2 c3 c4 c5 c6 c7 HS
   obtain ⟨c0, c1, c2, c3, c4, c5, c6, c7⟩ := cells8 HK3.out
   go_wp2
   go_ret2
   exact ⟨by rw [← HRr.out]; first | rfl | (rw [← hk]; rfl), K0.out.trans' HK3.out⟩
  ·have hli : (0 : Int) < (l.length : Int) := by omega
   have HAt2 : Hid (∀ w1, Keep [] w w1 → Calls Tryz.prog 24 #[.slice ao l.length ca] w1 fun e w' => e = .returned (.string T) ∧ Keep [] w1 w') := fun w1 k => HAT.out w1 k hl
   have HRr : Hid (S ++ T = R) := by
    show _ = _
    rw [← HR.out, HG.out, app_nil]
   clear hl HAT HAz HR
   go_enter Tryz.func7, Tryz.ntmps7
   go_wp2_with fail
   refine (HM.out _ K0.out).mono ?_
   rintro e9 w1 ⟨rfl, k1⟩
   have HK1 : Hid (Keep [] (w.alloc (.cells #[.string a, .string b, .string c, .string d, .string e, .string f, .string g, .slice ao l.length ca] 28)) w1) := k1
   obtain ⟨c0, c1, c2, c3, c4, c5, c6, c7⟩ := cells8 k1
   clear k1 HM
   go_wp2_with fail
   refine (HO.out _ (K0.out.trans' HK1.out)).mono ?_
   rintro e9 w2 ⟨rfl, b2⟩
   have HK2 : Hid (Keep [] (w.alloc (.cells #[.string a, .string b, .string c, .string d, .string e, .string f, .string g, .slice ao l.length ca] 28)) w2) := HK1.out.trans' (Keep.ofBelow b2)
   clear b2 c0 c1 c2 c3 c4 c5 c6 c7 HO
   obtain ⟨c0, c1, c2, c3, c4, c5, c6, c7⟩ := cells8 HK2.out
   go_wp2_with fail
   refine (HS.out _ (K0.out.trans' HK2.out)).mono ?_
   rintro e9 w3 ⟨rfl, b3⟩
   have HK3 : Hid (Keep [] (w.alloc (.cells #[.string a, .string b, .string c, .string d, .string e, .string f, .string g, .slice ao l.length ca] 28)) w3) := HK2.out.trans' (Keep.ofBelow b3)
   clear b3 c0 c1 c2 c3 c4 c5 c6 c7 HS
   obtain ⟨c0, c1, c2, c3, c4, c5, c6, c7⟩ := cells8 HK3.out
   go_wp2_with fail
   refine (HAt2.out _ (K0.out.trans' HK3.out)).mono ?_
   rintro e9 w4 ⟨rfl, k4⟩
   have HK4 : Hid (Keep [] w w4) := (K0.out.trans' HK3.out).trans' k4
   clear k4 HAt2 c0 c1 c2 c3 c4 c5 c6 c7
   go_wp2
   go_ret2
   exact ⟨by rw [← HRr.out]; first | rfl | (rw [← hk]; rfl), HK4.out⟩
 ·have hgf : g.toList.isEmpty = false := by simpa using hg
  have hg1 : (g.toList == ([] : List UInt8)) = false := by rw [g_empty]; exact hgf
  have HG : Hid (G = ⟨#[32, 119, 105, 116, 104, 32]⟩ ++ g) := HCd.out.2 hgf
  clear HCd hg hgf
  by_cases hl : l.length = 0
  ·have hli : ¬ ((0 : Int) < (l.length : Int)) := by omega
   have HRr : Hid (S ++ ⟨#[32, 119, 105, 116, 104, 32]⟩ ++ g = R) := by
    show _ = _
    rw [← HR.out, HG.out, HAz.out hl, app_nil, app_three]
   clear hl HAT HAz HR
   go_enter Tryz.func7, Tryz.ntmps7
   go_wp2_with fail
   refine (HM.out _ K0.out).mono ?_
   rintro e9 w1 ⟨rfl, k1⟩
   have HK1 : Hid (Keep [] (w.alloc (.cells #[.string a, .string b, .string c, .string d, .string e, .string f, .string g, .slice ao l.length ca] 28)) w1) := k1
   obtain ⟨c0, c1, c2, c3, c4, c5, c6, c7⟩ := cells8 k1
   clear k1 HM
   go_wp2_with fail
   refine (HO.out _ (K0.out.trans' HK1.out)).mono ?_
   rintro e9 w2 ⟨rfl, b2⟩
   have HK2 : Hid (Keep [] (w.alloc (.cells #[.string a, .string b, .string c, .string d, .string e, .string f, .string g, .slice ao l.length ca] 28)) w2) := HK1.out.trans' (Keep.ofBelow b2)
   clear b2 c0 c1 c2 c3 c4 c5 c6 c7 HO
   obtain ⟨c0, c1, c2, c3, c4, c5, c6, c7⟩ := cells8 HK2.out
   go_wp2_with fail
   refine (HS.out _ (K0.out.trans' HK2.out)).mono ?_
   rintro e9 w3 ⟨rfl, b3⟩
   have HK3 : Hid (Keep [] (w.alloc (.cells #[.string a, .string b, .string c, .string d, .string e, .string f, .string g, .slice ao l.length ca] 28)) w3) := HK2.out.trans' (Keep.ofBelow b3)
   clear b3 c0 c1 c2 c3 c4 c5 c6 c7 HS
   obtain ⟨c0, c1, c2, c3, c4, c5, c6, c7⟩ := cells8 HK3.out
   go_wp2
   go_ret2
   exact ⟨by rw [← HRr.out]; first | rfl | (rw [← hk]; rfl), K0.out.trans' HK3.out⟩
  ·have hli : (0 : Int) < (l.length : Int) := by omega
   have HAt2 : Hid (∀ w1, Keep [] w w1 → Calls Tryz.prog 24 #[.slice ao l.length ca] w1 fun e w' => e = .returned (.string T) ∧ Keep [] w1 w') := fun w1 k => HAT.out w1 k hl
   have HRr : Hid (S ++ ⟨#[32, 119, 105, 116, 104, 32]⟩ ++ g ++ T = R) := by
    show _ = _
    rw [← HR.out, HG.out, app_three]
   clear hl HAT HAz HR
   go_enter Tryz.func7, Tryz.ntmps7
   go_wp2_with fail
   refine (HM.out _ K0.out).mono ?_
   rintro e9 w1 ⟨rfl, k1⟩
   have HK1 : Hid (Keep [] (w.alloc (.cells #[.string a, .string b, .string c, .string d, .string e, .string f, .string g, .slice ao l.length ca] 28)) w1) := k1
   obtain ⟨c0, c1, c2, c3, c4, c5, c6, c7⟩ := cells8 k1
   clear k1 HM
   go_wp2_with fail
   refine (HO.out _ (K0.out.trans' HK1.out)).mono ?_
   rintro e9 w2 ⟨rfl, b2⟩
   have HK2 : Hid (Keep [] (w.alloc (.cells #[.string a, .string b, .string c, .string d, .string e, .string f, .string g, .slice ao l.length ca] 28)) w2) := HK1.out.trans' (Keep.ofBelow b2)
   clear b2 c0 c1 c2 c3 c4 c5 c6 c7 HO
   obtain ⟨c0, c1, c2, c3, c4, c5, c6, c7⟩ := cells8 HK2.out
   go_wp2_with fail
   refine (HS.out _ (K0.out.trans' HK2.out)).mono ?_
   rintro e9 w3 ⟨rfl, b3⟩
   have HK3 : Hid (Keep [] (w.alloc (.cells #[.string a, .string b, .string c, .string d, .string e, .string f, .string g, .slice ao l.length ca] 28)) w3) := HK2.out.trans' (Keep.ofBelow b3)
   clear b3 c0 c1 c2 c3 c4 c5 c6 c7 HS
   obtain ⟨c0, c1, c2, c3, c4, c5, c6, c7⟩ := cells8 HK3.out
   go_wp2_with fail
   refine (HAt2.out _ (K0.out.trans' HK3.out)).mono ?_
   rintro e9 w4 ⟨rfl, k4⟩
   have HK4 : Hid (Keep [] w w4) := (K0.out.trans' HK3.out).trans' k4
   clear k4 HAt2 c0 c1 c2 c3 c4 c5 c6 c7
   go_wp2
   go_ret2
   exact ⟨by rw [← HRr.out]; first | rfl | (rw [← hk]; rfl), HK4.out⟩
end Go.Proofs.YtfpcpociejefaaaGreatDoor
