/- What was lent is as it was: KeptBytes says so. -/
import Derived.Test.YtppimacfeelneaaLentW
import Derived.Test.YtppimacfeelneaaDcR
import Derived.Test.YtppimacfeelneaaDcS
import Derived.Test.YtppimacfeelneaaDcP5

namespace Go.Proofs.Ytppimacfeelneaa
open Go.RowKit Go.PlainAid Go.Lib

set_option maxRecDepth 1000000 in
set_option maxHeartbeats 6400000 in
theorem kept_any (v u : Value) (l : List UInt8) (w : World) (hL : LentB w v l) (hu : Bs w u l) (hln : l.length ≤ 140737488355328) :
    Calls Try.prog 22 #[v, u] w fun e w' => e = .returned (.bool true) ∧ ∃ n, w' = w.drewN n := by
  obtain ⟨g, cp, rfl, hrow⟩ := hL.ex
  obtain ⟨ao, cu, hue, hlc, hcm, _, hex⟩ := hu.ex
  subst hue
  have hcp : l.length + 24 ≤ cp ∧ cp ≤ 9223372036854775807 := by
    obtain ⟨ao', cap', he, h1, h2, _⟩ := hrow.bs.ex
    simp [marksB_len] at he h1
    obtain ⟨_, rfl⟩ := he
    simp only [maxLen] at h2
    omega
  have hlm : (l ++ marksB 1 24).length = l.length + 24 := by simp [marksB_len]
  have hcell : ∀ i, i < l.length + 24 → w.cell? ⟨g, i, none⟩ = some (.int .u8 (((l ++ marksB 1 24).getD i 0).toNat : Int)) := by
    intro i hi
    have h1 : w.ownsRow 0 TB 1 (.slice (some ⟨g, 0, none⟩) (l.length + 24) cp) (l.length + 24) (bv (l ++ marksB 1 24)) := by
      have := hrow
      unfold Row at this
      rw [hlm] at this
      exact this
    have := World.ownsRow.cellAt h1 i (by omega)
    rw [this, bv_get _ i (by rw [hlm]; exact hi), List.getD_eq_getElem?_getD, List.getElem?_eq_getElem (by rw [hlm]; exact hi)]
    rfl
  have g1 : ∀ i, i < l.length → (l ++ marksB 1 24).getD i 0 = l.getD i 0 := by
    intro i hi
    rw [List.getD_eq_getElem?_getD, List.getD_eq_getElem?_getD, List.getElem?_append_left hi]
  have g2 : ∀ i, l.length ≤ i → i < l.length + 24 → (l ++ marksB 1 24).getD i 0 = mkB 1 (i - l.length) := by
    intro i h1 h2
    have h3 : i - l.length < 24 := by omega
    rw [List.getD_eq_getElem?_getD, List.getElem?_append_right h1]
    simp [marksB, h3]
  have hc1 : (0 : Int) ≤ (l.length : Int) + 24 := by omega
  have hc2 : (l.length : Int) + 24 ≤ (cp : Int) := by omega
  have HH : Hid ((∀ i, i < l.length + 24 → w.cell? ⟨g, i, none⟩ = some (.int .u8 (((l ++ marksB 1 24).getD i 0).toNat : Int))) ∧ (∀ i, i < l.length → (l ++ marksB 1 24).getD i 0 = l.getD i 0) ∧ (∀ i, l.length ≤ i → i < l.length + 24 → (l ++ marksB 1 24).getD i 0 = mkB 1 (i - l.length))) := ⟨hcell, g1, g2⟩
  have HE : Hid (l ≠ [] → ∃ b o, ao = some ⟨b, o, none⟩ ∧ ∀ j, j < l.length → w.cell? ⟨b, o + j, none⟩ = some (.int .u8 ((l.getD j 0).toNat : Int))) := hex
  clear hcell g1 g2 hex hrow hu hL hlm
  go_enter Try.func22, Try.ntmps22
  go_wp2
  go_loopw [6] (fun iv wr => ∃ i n : Nat, iv = .int .i64 (i : Int) ∧ i ≤ l.length + 24 ∧ wr = w.drewN n) (fun iv _ => l.length + 24 - (intOf iv).toNat)
  case atStart => exact ⟨0, 0, rfl, Nat.zero_le _, rfl⟩
  case round =>
    obtain ⟨i, nn, rfl, hi, rfl⟩ := hrel
    by_cases hil : i < l.length + 24
    · have hci := HH.out.1 i hil
      have hili : (i : Int) < (l.length : Int) + 24 := by omega
      by_cases hin : i < l.length
      · obtain ⟨b, o, rfl, h3⟩ := HE.out (by intro hz; rw [hz] at hin; simp at hin)
        have hcu := h3 i hin
        rw [HH.out.2.1 i hin] at hci
        have hini : (i : Int) < (l.length : Int) := by omega
        have hge : decide (l.length ≤ i) = false := by simp; omega
        generalize (l.getD i 0).toNat = c at hci hcu
        clear h3
        go_wp2
        go_quiet (fail)
        go_wp2
        go_roundw
        case rel => exact ⟨i + 1, _, by go_num, by omega, rfl⟩
        case measure => simp [intOf]; omega
      · obtain ⟨j, rfl⟩ : ∃ j, i = l.length + j := ⟨i - l.length, by omega⟩
        have hj : j < 24 := by omega
        rw [HH.out.2.2 _ (by omega) hil, Nat.add_sub_cancel_left] at hci
        have hM : ∀ n, Calls Try.prog 46 #[.int .i64 1, .int .i64 (j : Int)] (w.drewN n) fun e w' => e = .returned (.int .u8 ((mkB 1 j).toNat : Int)) ∧ w' = w.drewN n := fun n => markByte_any 1 j (by omega) (by omega) (w.drewN n)
        generalize (mkB 1 j).toNat = c at hci hM
        have hsub : ((l.length + j : Nat) : Int) - (l.length : Int) = (j : Int) := by omega
        have hsub2 : (l.length : Int) + (j : Int) - (l.length : Int) = (j : Int) := by omega
        have g1 : decide (l.length + j < l.length) = false := by simp
        have g2 : decide (l.length ≤ l.length + j) = true := by simp
        have g5 : decide ((l.length : Int) + (j : Int) < (l.length : Int)) = false := by simp; omega
        have g4 : (l.length : Int) ≤ (l.length : Int) + (j : Int) := by omega
        have hjn : (0 : Int) ≤ (l.length : Int) + (j : Int) := by omega
        clear HH HE
        go_wp2
        go_quiet (first | (go_at_call 46; refine (hM _).mono ?_; rintro e9 w9 ⟨rfl, rfl⟩; exact ⟨rfl, _, rfl⟩))
        go_wp2
        go_roundw
        case rel => exact ⟨l.length + j + 1, _, by go_num, by omega, rfl⟩
        case measure => simp [intOf]; omega
    · have hili : ¬ ((i : Int) < (l.length : Int) + 24) := by omega
      go_wp2
      go_ret
      exact ⟨rfl, nn, rfl⟩

end Go.Proofs.Ytppimacfeelneaa


/- ValuesDecodes: its walk. -/
namespace Go.Proofs.Ytppimacfeelneaa
open Go.RowKit Go.PlainAid Go.Lib

theorem LentB.bs {w : World} {v : Value} {l : List UInt8} (h : LentB w v l) : Bs w v l := by
  obtain ⟨g, cap, rfl, hr⟩ := h.ex
  have hb := hr.bs
  have hl : (l ++ marksB 1 24).length = l.length + 24 := by rw [List.length_append, marksB_len]
  rw [show l.length + 24 = (l ++ marksB 1 24).length from hl.symm] at hb
  have := Bs.take l.length (by omega) hb
  rwa [List.take_left] at this
theorem LentB.keep {w w' : World} {v : Value} {l : List UInt8} (h : LentB w v l) (k : Keep [] w w') : LentB w' v l := by
  obtain ⟨g, cap, rfl, hr⟩ := h.ex
  exact ⟨g, cap, rfl, hr.keep k (Off.nil _)⟩
def zeroQ : VD := ⟨0, false, 0, 0, ⟨#[]⟩, []⟩

set_option maxRecDepth 1000000 in
set_option maxHeartbeats 1600000 in
theorem decodes_walk (hDec : ∀ (v : Value) (l : List UInt8) (w : World), Bs w v l → Calls Try.prog 20 #[v] w fun e w' => DcdA l w e w') (v : Value) (l : List UInt8) (w : World) (hv : Bs w v l) (hln : l.length + 24 ≤ 140737488355328) :
    Calls Try.prog 5 #[v] w fun e w' => e = .returned (.bool true) ∧ Keep [] w w' := by
  have HD : Hid _ := hDec
  have HV : Hid (Bs w v l) := hv
  have HLN : Hid (l.length + 24 ≤ 140737488355328) := hln
  have hL := lent_any v l w hv hln
  clear hDec hv hln
  go_enter Try.func5, Try.ntmps5
  go_wp2_with fail
  refine hL.mono ?_
  rintro e1 w1 ⟨x, rfl, hx, _, k1⟩
  have HX : Hid (LentB w1 x l) := hx
  have HK1 : Hid (Keep [] w w1) := k1
  have hP := decode_any x l w1 hx.bs (by have := HLN.out; omega)
  clear hL hx k1
  go_wp2_with fail
  refine hP.mono ?_
  rintro e2 w2 ⟨hor, k2⟩
  have HK2 : Hid (Keep [] w w2) := HK1.out.trans' k2
  have HX2 : Hid (LentB w2 x l) := HX.out.keep k2
  clear hP HX HK1 k2
  have hsf := store_f32
  simp only [Go.stored] at hsf
  rcases hor with ⟨hb, u, rfl, hu⟩ | ⟨hb, rfl⟩
  · have HB : Hid (isB (readV l) l = true) := hb
    have HU : Hid (Ts w2 u (readV l).texts) := hu
    have HOK : Hid (readV l).Ok := readV_ok l
    obtain ⟨au, cu, hue, _, _, _, _⟩ := hu.ex
    clear hb hu
    obtain ⟨X, hX⟩ : ∃ X, X = readV l := ⟨_, rfl⟩
    rw [← hX] at HB HU HOK hue ⊢
    have HXX : Hid (X = readV l) := hX
    subst hue
    clear hX
    have kA : Keep [] w2 (w2.alloc (X.blk (.slice au X.texts.length cu))) := Keep.alloc1 w2 _
    have HKA : Hid (Keep [] w2 (w2.alloc (X.blk (.slice au X.texts.length cu)))) := kA
    have hE := HD.out v l (w2.alloc (X.blk (.slice au X.texts.length cu))) ((HV.out.keep HK2.out (Off.nil _)).keep kA (Off.nil _))
    clear kA
    go_wp2_with fail
    refine hE.mono ?_
    rintro e3 w3 ⟨hor, k3⟩
    rcases hor with ⟨_, y, u', rfl, hu', hy, hal⟩ | ⟨hb', _⟩
    · have HU' : Hid (Ts w3 u' y.texts) := hu'
      obtain ⟨ay, cy, hye, _, _, _, _⟩ := hu'.ex
      subst hye
      have hS : ∀ W, Keep [] w3 W → _ := fun W k => sameValue_alike X y HOK.out hy (by rw [HXX.out]; exact hal) (.slice au X.texts.length cu) (.slice ay y.texts.length cy) W (((HU.out.keep HKA.out (Off.nil _)).keep k3 (Off.nil _)).keep k (Off.nil _)) (HU'.out.keep k (Off.nil _))
      have HS : Hid _ := hS
      have HT : Hid (∀ W, Keep [] w3 W → Calls Try.prog 22 #[x, v] W fun e w' => e = .returned (.bool true) ∧ ∃ n, w' = W.drewN n) := fun W k => kept_any x v l W (((HX2.out.keep HKA.out).keep k3).keep k) ((((HV.out.keep HK2.out (Off.nil _)).keep HKA.out (Off.nil _)).keep k3 (Off.nil _)).keep k (Off.nil _)) (by have := HLN.out; omega)
      have HK3 : Hid (Keep [] w w3) := (HK2.out.trans' HKA.out).trans' k3
      obtain ⟨⟨c0, c1, c2, c3, c4, c5⟩, _⟩ := six_cells k3 (by simp)
      have hz : w2.heap.size < w3.heap.size := by have := k3.size; simp at this; omega
      clear hu' hy hal k3 hE hS
      go_wp2_with (first
        | (go_at_call 21; refine (HS.out _ (Keep.alloc1 w3 _)).mono ?_; rintro e9 w4 ⟨rfl, k4⟩; have HK4 : Hid (Keep [] w3 w4) := (Keep.alloc1 w3 _).trans' k4; clear k4)
        | (go_at_call 22; refine (HT.out _ HK4.out).mono ?_; rintro e9 w5 ⟨rfl, n5, rfl⟩))
      go_ret
      exact ⟨rfl, (HK3.out.trans' HK4.out).drewN _⟩
    · rw [← HXX.out, HB.out] at hb'
      cases hb'
  · have HB : Hid (isB (readV l) l = false) := hb
    have kA : Keep [] w2 (w2.alloc (zeroQ.blk (.slice none 0 0))) := Keep.alloc1 w2 _
    simp only [zeroQ, VD.blk] at kA
    have HKA : Hid _ := kA
    have hE := HD.out v l _ ((HV.out.keep HK2.out (Off.nil _)).keep kA (Off.nil _))
    clear kA hb
    go_wp2_with fail
    refine hE.mono ?_
    rintro e3 w3 ⟨hor, k3⟩
    rcases hor with ⟨hb', _⟩ | ⟨_, rfl⟩
    · rw [HB.out] at hb'
      cases hb'
    · have HS : Hid (∀ W, Keep [] w3 W → Calls Try.prog 21 #[zeroQ.val (.slice none 0 0), zeroQ.val (.slice none 0 0)] W fun e w' => e = .returned (.bool true) ∧ Keep [] W w') := fun W _ => sameValue_self zeroQ _ _ W (Ts.nil _) (Ts.nil _)
      have HT : Hid (∀ W, Keep [] w3 W → Calls Try.prog 22 #[x, v] W fun e w' => e = .returned (.bool true) ∧ ∃ n, w' = W.drewN n) := fun W k => kept_any x v l W (((HX2.out.keep HKA.out).keep k3).keep k) ((((HV.out.keep HK2.out (Off.nil _)).keep HKA.out (Off.nil _)).keep k3 (Off.nil _)).keep k (Off.nil _)) (by have := HLN.out; omega)
      have HK3 : Hid (Keep [] w w3) := (HK2.out.trans' HKA.out).trans' k3
      obtain ⟨⟨c0, c1, c2, c3, c4, c5⟩, _⟩ := six_cells k3 (by simp)
      have hz : w2.heap.size < w3.heap.size := by have := k3.size; simp at this; omega
      clear k3 hE
      simp only [zeroQ, VD.val] at HS
      go_wp2_with (first
        | (go_at_call 21; refine (HS.out _ (Keep.alloc1 w3 _)).mono ?_; rintro e9 w4 ⟨rfl, k4⟩; have HK4 : Hid (Keep [] w3 w4) := (Keep.alloc1 w3 _).trans' k4; clear k4)
        | (go_at_call 22; refine (HT.out _ HK4.out).mono ?_; rintro e9 w5 ⟨rfl, n5, rfl⟩))
      go_ret
      exact ⟨rfl, (HK3.out.trans' HK4.out).drewN _⟩
end Go.Proofs.Ytppimacfeelneaa

/- first, of any bytes; the document's Decode, of any bytes; ValuesDecodes' walk. -/
namespace Go.Proofs.Ytppimacfeelneaa
open Go.RowKit Go.PlainAid Go.Lib

set_option maxRecDepth 1000000 in
set_option maxHeartbeats 1600000 in
theorem first_short (v : Value) (l : List UInt8) (h2 : l.length < 2) (w : World) (hv : Bs w v l) :
    Calls Try.prog 47 #[v] w fun e w' => FstD l w e w' := by
  obtain ⟨ao, cap, rfl, hlc, hcm, _, _⟩ := hv.ex
  have t0 : (l.length : Int) < 2 := by omega
  have HS : Hid (isB (readV l) l = false) := short_none l h2
  have hsf := store_f32
  simp only [Go.stored] at hsf
  clear hv h2
  go_enter Try.func47, Try.ntmps47
  go_wp2
  refine bodyPost_ret (v := zeroW) (by simp [results, Try.results47, go_sem]) rfl ?_
  exact ⟨zeroQ, .slice none 0 0, rfl, Ts.nil _, (fun k h => by simp [Value.ownBlock] at h), Keep.alloc1 w _, ⟨by decide, by decide, by decide, by decide, by decide, Nat.zero_le _⟩, by rw [HS.out]; unfold isB; rw [show zeroQ.mayB = false by decide]; rfl, fun h => by rw [HS.out] at h; cases h⟩

theorem first_any (v : Value) (l : List UInt8) (hln : l.length ≤ 10000) (w : World) (hv : Bs w v l) :
    Calls Try.prog 47 #[v] w fun e w' => FstD l w e w' := by
  by_cases h2 : l.length < 2
  · exact first_short v l h2 w hv
  have h2' : 2 ≤ l.length := by omega
  suffices h : Calls Try.prog 47 #[v] w fun e w' => FstA l w e w' from h.mono fun _ _ h => fst_of h
  by_cases k1 : (l.getD 0 0).toNat = 1
  · exact first_1 v l hln h2' k1 w hv
  by_cases k2 : (l.getD 0 0).toNat = 2
  · exact first_2 v l hln h2' k2 w hv
  by_cases k3 : (l.getD 0 0).toNat = 3
  · by_cases h5 : l.length = 5
    · exact first_3y v l hln h2' k3 h5 w hv
    · exact first_3n v l hln h2' k3 h5 w hv
  by_cases k4 : (l.getD 0 0).toNat = 4
  · exact first_4 v l hln h2' k4 w hv
  by_cases k5 : (l.getD 0 0).toNat = 5
  · exact first_5 v l hln h2' k5 w hv
  · exact first_0 v l hln h2' (l.getD 0 0).toNat (by omega) rfl w hv

theorem dDecode_all (v : Value) (l : List UInt8) (w : World) (hv : Bs w v l) : Calls Try.prog 20 #[v] w fun e w' => DcdA l w e w' := by
  by_cases h : 10000 < l.length
  · exact dDecode_long v l w hv h
  · exact dDecode_any v l w hv (by omega) (fun W k => first_any v l (by omega) W (hv.keep k (Off.nil _)))

theorem decodes_all (v : Value) (l : List UInt8) (w : World) (hv : Bs w v l) (hln : l.length + 24 ≤ 140737488355328) :
    Calls Try.prog 5 #[v] w fun e w' => e = .returned (.bool true) ∧ Keep [] w w' := decodes_walk dDecode_all v l w hv hln
end Go.Proofs.Ytppimacfeelneaa
