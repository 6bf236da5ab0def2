/- The letters lead back to the bytes and the bytes to the letters: OctetsArmored answers true for every input of at most so many bytes. -/
import Derived.Test.YtcmembmaaebdeabArmM
import Derived.Test.YtcmembmaaebdeabAwakeW
namespace Go.Proofs.Ytcmembmaaebdeab
open Go.RowKit Go.PlainAid Go.Lib

set_option maxRecDepth 1000000 in
set_option maxHeartbeats 12800000 in
theorem armored_law (a0 b0 : Option Addr) (ca cb : Nat) (la lb : List UInt8) (s : ByteArray) (w : World) (ha : Bs w (.slice a0 la.length ca) la) (hb : Bs w (.slice b0 lb.length cb) lb)
    (hla : la.length ≤ 1048576) (hlb : lb.length ≤ 1048576) (hls : s.size ≤ 1048576) :
    Calls Try.prog 4 #[.slice a0 la.length ca, .slice b0 lb.length cb, .string s] w fun e w' => e = .returned (.bool true) ∧ Below w.heap.size w w' := by
  go_enter Try.func4, Try.ntmps4
  go_wp2_with fail
  refine (awake_any w).mono ?_
  rintro e1 w1 ⟨rfl, K1⟩
  go_wp2_with fail
  refine (copy_any _ la w1 (ha.keep K1 (Off.nil _)) (by omega)).mono ?_
  rintro e2 w2 ⟨v2, rfl, R2, F2, K2⟩
  have K2' := K1.trans' K2
  have C2 := R2.bs
  clear R2 F2 K1 K2
  go_wp2_with fail
  refine (armor_any v2 la w2 C2 (by omega)).mono ?_
  rintro e3 w3 ⟨rfl, K3⟩
  have K3' := K2'.trans' K3
  clear C2 K2' K3
  go_wp2_with fail
  refine (copy_any _ lb w3 (hb.keep K3' (Off.nil _)) (by omega)).mono ?_
  rintro e4 w4 ⟨v4, rfl, R4, F4, K4⟩
  have K4' := K3'.trans' K4
  have C4 := R4.bs
  clear R4 F4 K3' K4
  go_wp2_with fail
  refine (armor_any v4 lb w4 C4 (by omega)).mono ?_
  rintro e5 w5 ⟨rfl, K5⟩
  have K5' := K4'.trans' K5
  clear C4 K4' K5
  obtain ⟨X, hX⟩ : ∃ X : ByteArray, X = ⟨(armL la).toArray⟩ := ⟨_, rfl⟩
  obtain ⟨Y, hY⟩ : ∃ Y : ByteArray, Y = ⟨(armL lb).toArray⟩ := ⟨_, rfl⟩
  rw [← hX, ← hY]
  have HX : Hid (X.data.toList = armL la) := by
    show X.data.toList = armL la
    rw [hX]
  have HY : Hid (Y.data.toList = armL lb) := by
    show Y.data.toList = armL lb
    rw [hY]
  clear hX hY
  go_wp2_with fail
  refine (same_any _ _ la lb w5 (ha.keep K5' (Off.nil _)) (hb.keep K5' (Off.nil _))).mono ?_
  rintro e6 w6 ⟨rfl, n6, rfl⟩
  have K6' := K5'.drewN n6
  clear K5'
  generalize w5.drewN n6 = w6 at K6' ⊢
  have hXl : X.toList = armL la := by rw [ByteArray.toList_eq]; exact HX.out
  have hYl : Y.toList = armL lb := by rw [ByteArray.toList_eq]; exact HY.out
  have hXY : (X.toList == Y.toList) = (la == lb) := by
    rw [hXl, hYl]
    by_cases h : la = lb
    · rw [h]; simp
    · have h1 : (la == lb) = false := by simpa using h
      have h2 : (armL la == armL lb) = false := by
        simp only [beq_eq_false_iff_ne]
        intro h3
        exact h (armL_inj la lb h3)
      rw [h1, h2]
  have hXz : X.size = (8 * la.length + 4) / 5 := by
    rw [← armL_len la, ← HX.out]
    simp
  have hXs : ((X.size : Int) != (8 * (la.length : Int) + 4) / 5) = false := by
    simp only [bne_eq_false_iff_eq]
    omega
  have HXl : Hid (X.toList = armL la ∧ Y.toList = armL lb) := ⟨hXl, hYl⟩
  have hXm : X.size ≤ 2097152 := by omega
  have hbX := get_bt X
  have hlet : ∀ i, i < X.size → (97 ≤ bt X i ∧ bt X i ≤ 122) ∨ (50 ≤ bt X i ∧ bt X i ≤ 55) := by
    intro i hi
    have hll : X.data.toList.length = X.size := by simp
    have hi2 : i < X.data.toList.length := by rw [hll]; exact hi
    have h1 := armL_letter la (X.data.toList[i]) (by rw [← HX.out]; exact List.getElem_mem hi2)
    have h2 : bt X i = ((X.data.toList[i]).toNat : Int) := by
      rw [← hbX i hi]
      rfl
    rw [h2]
    rcases h1 with h1 | h1
    · exact .inl (by omega)
    · exact .inr (by omega)
  have HXz : Hid (X.size = (8 * la.length + 4) / 5) := hXz
  clear hXl hYl hXz
  go_wp2
  go_loop [9] (fun iv => ∃ i : Nat, iv = .int .i64 (i : Int) ∧ i ≤ X.size) (fun iv => X.size - (intOf iv).toNat)
  case atStart => exact ⟨0, rfl, Nat.zero_le _⟩
  case round =>
    obtain ⟨i, rfl, hi⟩ := hrel
    clear hXY hXs
    by_cases hil : i < X.size
    · have hili : (i : Int) < (X.size : Int) := by omega
      have hl := hlet i hil
      clear hlet
      rcases hl with ⟨h1, h2⟩ | ⟨h1, h2⟩
      · go_wp2
        go_round
        case rel => exact ⟨i + 1, by go_num, by omega⟩
        case measure => simp [intOf]; omega
      · have h3 : ¬ ((97 : Int) ≤ bt X i) := by omega
        go_wp2
        go_round
        case rel => exact ⟨i + 1, by go_num, by omega⟩
        case measure => simp [intOf]; omega
    · have hili : ¬ ((i : Int) < (X.size : Int)) := by omega
      clear hlet
      go_wp2_with fail
      refine (unarmor_any X w6 (by omega)).mono ?_
      rintro e7 w7 ⟨v7, er7, rfl, P7, K7⟩
      rw [HX.out] at P7
      rw [show unL (armL la) = some la from unL_armL la] at P7
      obtain ⟨rfl, R7, F7⟩ := P7
      have K7' := K6'.trans' K7
      have C7 := R7.bs
      clear R7 F7 K6' K7
      go_wp2_with fail
      refine (same_any _ _ la la w7 C7 (ha.keep K7' (Off.nil _))).mono ?_
      rintro e8 w8 ⟨rfl, n8, rfl⟩
      rw [show (la == la) = true by simp]
      have K8' := K7'.drewN n8
      clear C7 K7'
      generalize w7.drewN n8 = w8 at K8' ⊢
      go_wp2_with fail
      refine (unarmor_any s w8 (by omega)).mono ?_
      rintro e9 w9 ⟨v9, er9, rfl, P9, K9⟩
      have K9' := K8'.trans' K9
      cases hu : unL s.data.toList with
      | none =>
        rw [hu] at P9
        obtain ⟨rfl, rfl⟩ := P9
        have hsx : (s.toList == X.toList) = false := by
          simp only [beq_eq_false_iff_ne]
          intro h
          rw [HXl.out.1, ByteArray.toList_eq] at h
          rw [h, unL_armL] at hu
          cases hu
        have hsy : (s.toList == Y.toList) = false := by
          simp only [beq_eq_false_iff_ne]
          intro h
          rw [HXl.out.2, ByteArray.toList_eq] at h
          rw [h, unL_armL] at hu
          cases hu
        have HK : Hid (Below w.heap.size w w9) := K9'.below
        clear hu K9 K9' K8'
        go_wp2
        go_ret
        exact ⟨rfl, HK.out⟩
      | some d =>
        rw [hu] at P9
        obtain ⟨rfl, R9, F9⟩ := P9
        have hd := armL_unL _ d hu
        have C9 := R9.bs
        have hdl : d.length ≤ 1099511627776 := by
          have h1 := armL_len d
          rw [hd] at h1
          have h2 : s.data.toList.length = s.size := by simp
          omega
        clear K9 K8' hu R9 F9
        go_wp2_with fail
        refine (armor_any _ d w9 C9 hdl).mono ?_
        rintro e10 w10 ⟨rfl, K10⟩
        rw [hd]
        have HK : Hid (Below w.heap.size w w10) := (K9'.trans' K10).below
        clear C9 hd hdl K9' K10
        have hss : (⟨s.data.toList.toArray⟩ : ByteArray) = s := by cases s; simp
        rw [hss]
        clear hss
        go_wp2
        go_ret
        exact ⟨rfl, HK.out⟩

end Go.Proofs.Ytcmembmaaebdeab
