/- The program's shortest, for every float32 above 0: its digits and the power of ten of the first one. -/
import Derived.Test.YtnljpbpphdhnpaaGreatDoorTxB

namespace Go.Proofs.YtnljpbpphdhnpaaGreatDoor
open Go.RowKit Go.PlainAid

theorem exF_bounds (n : Nat) (h1 : 1 ≤ n) (h2 : n < 2139095040) : -100 < exF n ∧ exF n < 100 := by
  have := ndF_le n h1 h2
  have := pF_bounds n h1 h2
  unfold exF
  omega
theorem preE_len (n : Nat) (h1 : 1 ≤ n) (h2 : n < 2139095040) : (preE n).length ≤ 12 := by
  have hl := digs_len n h1 h2
  have hb := ndF_le n h1 h2
  unfold preE
  match digs n, hl with
  | [], _ => simp
  | [a], _ => simp
  | a :: b :: l, hl => simp at hl ⊢; omega
theorem txtE_len (n : Nat) (h1 : 1 ≤ n) (h2 : n < 2139095040) : (txtE n).length = (preE n).length + 4 := by
  rw [txtE_split n h1 h2, List.length_append, List.length_cons, expB_len]
theorem cut_txt (n : Nat) (h1 : 1 ≤ n) (h2 : n < 2139095040) (w : World) : Calls Tryz.prog 50 #[.string ⟨(txtE n).toArray⟩, .string ⟨#[101]⟩] w fun e w' => e = .returned (.tuple #[.string ⟨(preE n).toArray⟩, .string ⟨(expB (exF n)).toArray⟩, .bool true]) ∧ ∃ n, w' = w.drewN n := by
  have hp := preE_len n h1 h2
  have hl := txtE_len n h1 h2
  have hsz : (⟨(txtE n).toArray⟩ : ByteArray).size = (preE n).length + 4 := by show (txtE n).toArray.size = _; simp [hl]
  have h := cut_at ⟨(txtE n).toArray⟩ 101 (preE n).length (by rw [hsz]; omega) (by rw [hsz]; simp [maxLen]; omega) (by
    show Lib.indexByte (txtE n).toArray.toList 101 = _
    rw [List.toList_toArray, txtE_split n h1 h2]
    exact indexByte_behind 101 _ _ (pre_noE n h1 h2)) w
  have e1 : (⟨(txtE n).toArray⟩ : ByteArray).extract 0 (preE n).length = ⟨(preE n).toArray⟩ := by
    apply ByteArray.ext
    rw [ByteArray.data_extract]
    apply Array.ext'
    rw [txtE_split n h1 h2]
    simp
  have e2 : (⟨(txtE n).toArray⟩ : ByteArray).extract ((preE n).length + 1) (⟨(txtE n).toArray⟩ : ByteArray).size = ⟨(expB (exF n)).toArray⟩ := by
    apply ByteArray.ext
    rw [ByteArray.data_extract, hsz]
    apply Array.ext'
    rw [txtE_split n h1 h2]
    simp
    exact List.take_of_length_le (by rw [expB_len]; omega)
  rw [e1, e2] at h
  exact h
theorem atoi_txt (n : Nat) (h1 : 1 ≤ n) (h2 : n < 2139095040) (w : World) : Calls Tryz.prog 60 #[.string ⟨(expB (exF n)).toArray⟩] w fun e w' => e = .returned (.tuple #[.int .i64 (exF n), .nilIface]) ∧ Below w.heap.size w w' := by
  refine (Tryz.strconv_Atoi ⟨(expB (exF n)).toArray⟩ (exF n) (by show (expB (exF n)).toArray.size ≤ 18; simp [expB_len]) (by
    show Lib.atoi (expB (exF n)).toArray.toList = _
    rw [List.toList_toArray]
    exact atoi_exp _ (exF_bounds n h1 h2)) w).mono ?_
  rintro e w' ⟨rfl, t, rfl⟩
  exact ⟨rfl, Lib.bytesWorld_below w 5 t⟩
theorem replace_txt (n : Nat) (h1 : 1 ≤ n) (h2 : n < 2139095040) (w : World) (hm : ∃ m, w.cell? ⟨1, 0, none⟩ = some (.int .i64 m)) : Calls Tryz.prog 61 #[.string ⟨(preE n).toArray⟩, .string ⟨#[46]⟩, .string ⟨#[]⟩, .int .i64 1] w fun e w' => e = .returned (.string ⟨(digs n).toArray⟩) ∧ Below w.heap.size w w' := by
  obtain ⟨m, hm⟩ := hm
  have hp := preE_len n h1 h2
  have hsz : (⟨(preE n).toArray⟩ : ByteArray).size = (preE n).length := by show (preE n).toArray.size = _; simp
  refine (Tryz.strings_Replace_all ⟨(preE n).toArray⟩ ⟨#[46]⟩ ⟨#[]⟩ 1 m w (by rw [hsz]; omega) hm (by decide) (by rw [hsz, show (⟨#[]⟩ : ByteArray).size = 0 from rfl, Nat.mul_zero]; omega)).mono ?_
  rintro e w' ⟨rfl, hb⟩
  refine ⟨?_, hb⟩
  have e1 := replace_pre n h1 h2
  show Ending.returned (.string ⟨(Lib.replace (preE n).toArray.toList [46] [] 1).toArray⟩) = _
  rw [List.toList_toArray, e1]

set_option maxRecDepth 1000000 in
theorem shortest_any (n : Nat) (h1 : 1 ≤ n) (h2 : n < 2139095040) (w : World) (hT : TabT w) : Calls Tryz.prog 37 #[.float .f32 n] w fun e w' => e = .returned (.tuple #[.string ⟨(digs n).toArray⟩, .int .i64 (exF n)]) ∧ Below w.heap.size w w' := by
  have hC := conv_up n (by omega) h2
  have hF := ff_any n h1 h2 w hT
  have hCut := fun w => cut_txt n h1 h2 w
  have hA := fun w => atoi_txt n h1 h2 w
  have hR := fun w hm => replace_txt n h1 h2 w hm
  generalize fD n (atE n) = dd at *
  generalize txtE n = tx at *
  generalize preE n = px at *
  generalize expB (exF n) = ex at *
  generalize digs n = ds at *
  generalize exF n = kk at *
  clear h1 h2
  go_enter Tryz.func37, Tryz.ntmps37
  go_wp2_with (first
    | (go_at_call 59; refine hF.mono ?_; rintro e9 w1 ⟨rfl, hb1⟩; have HB1 : Hid (Below w.heap.size w w1) := hb1; clear hb1)
    | (go_at_call 50; refine (hCut _).mono ?_; rintro e9 w2 ⟨rfl, n2, hw2⟩; have HB2 : Hid (Below w.heap.size w w2) := (by rw [hw2]; exact below_drewN HB1.out n2); clear hw2)
    | (go_at_call 60; refine (hA _).mono ?_; rintro e9 w3 ⟨rfl, hb3⟩; have HB3 : Hid (Below w.heap.size w w3) := HB2.out.trans (hb3.mono HB2.out.size); clear hb3)
    | (go_at_call 61; refine (hR _ (hT.below HB3.out).most).mono ?_; rintro e9 w4 ⟨rfl, hb4⟩; have HB4 : Hid (Below w.heap.size w w4) := HB3.out.trans (hb4.mono HB3.out.size); clear hb4))
  go_ret2
  exact ⟨rfl, HB4.out⟩
end Go.Proofs.YtnljpbpphdhnpaaGreatDoor

/- The program's plain and orNought, for every row of digits. -/
namespace Go.Proofs.YtnljpbpphdhnpaaGreatDoor
open Go.RowKit Go.PlainAid

/-- digits about a point -/
def plainB (l : List UInt8) (k : Int) : List UInt8 :=
  if k < 0 then [48, 46] ++ List.replicate (-k - 1).toNat 48 ++ l
  else if (l.length : Int) ≤ k + 1 then l ++ List.replicate (k + 1 - l.length).toNat 48 ++ [46, 48]
  else l.take (k + 1).toNat ++ [46] ++ l.drop (k + 1).toNat
def orB (l : List UInt8) : List UInt8 := if l = [] then [48] else l
theorem ba_app (a b : ByteArray) : (a ++ b).data.toList = a.data.toList ++ b.data.toList := by
  rw [ByteArray.data_append, Array.toList_append]
theorem ba_take (s : ByteArray) (n : Nat) : (s.extract 0 n).data.toList = s.data.toList.take n := by
  rw [ByteArray.data_extract]
  simp
theorem ba_drop (s : ByteArray) (n : Nat) : (s.extract n s.size).data.toList = s.data.toList.drop n := by
  rw [ByteArray.data_extract, Array.toList_extract]
  exact List.take_of_length_le (by rw [List.length_drop, Array.length_toList]; exact Nat.le_refl _)
theorem rep48 (c : Nat) : Lib.repeatL [48] c = List.replicate c 48 := by
  induction c with
  | zero => rfl
  | succ c ih => rw [List.replicate_succ, ← ih]; rfl

set_option maxRecDepth 1000000 in
theorem orNought_any (s : ByteArray) (w : World) : Calls Tryz.prog 38 #[.string s] w fun e w' => (∃ T : ByteArray, e = .returned (.string T) ∧ T.data.toList = orB s.data.toList) ∧ w' = w := by
  by_cases h : s.data.toList = []
  · have hs : s = ⟨#[]⟩ := by
      apply ByteArray.ext
      apply Array.ext'
      rw [h]
    subst hs
    go_enter Tryz.func38, Tryz.ntmps38
    go_wp2
    go_ret
    exact ⟨⟨_, rfl, rfl⟩, rfl⟩
  · have hb : (s.toList == []) = false := by
      rw [Lib.toList_data]
      simpa using h
    go_enter Tryz.func38, Tryz.ntmps38
    go_wp2
    go_ret
    exact ⟨⟨_, rfl, by unfold orB; rw [if_neg h]⟩, rfl⟩
set_option maxRecDepth 1000000 in
theorem plain_neg (s : ByteArray) (x : Nat) (hs : s.size ≤ 1000) (hx : x ≤ 1000) (w : World) : Calls Tryz.prog 40 #[.string s, .int .i64 (-((x : Int) + 1))] w fun e w' => (∃ T : ByteArray, e = .returned (.string T) ∧ T.data.toList = plainB s.data.toList (-((x : Int) + 1))) ∧ Below w.heap.size w w' := by
  have hR := fun w => Tryz.strings_Repeat ⟨#[48]⟩ x w (by omega) (by show 1 * x ≤ _; omega)
  have e0 : (⟨(Lib.repeatL (⟨#[48]⟩ : ByteArray).data.toList x).toArray⟩ : ByteArray) = ⟨(List.replicate x 48).toArray⟩ := by
    show (⟨(Lib.repeatL [48] x).toArray⟩ : ByteArray) = _
    rw [rep48]
  rw [e0] at hR
  have HP : Hid (plainB s.data.toList (-((x : Int) + 1)) = [48, 46] ++ List.replicate x 48 ++ s.data.toList) := by
    show _ = _
    unfold plainB
    rw [if_pos (by omega), show (-(-((x : Int) + 1)) - 1).toNat = x by omega]
  have h1 : decide (-((x : Int) + 1) < 0) = true := decide_eq_true (by omega)
  have h2 : - -((x : Int) + 1) - 1 = (x : Int) := by omega
  have h3 : (x : Int) ≤ 1000 := by omega
  have hrs : (⟨(List.replicate x 48).toArray⟩ : ByteArray).size = x := by show (List.replicate x (48 : UInt8)).toArray.size = x; simp
  generalize hrr : (⟨(List.replicate x 48).toArray⟩ : ByteArray) = rr at *
  have HRR : Hid (rr.data.toList = List.replicate x 48) := by
    show _ = _
    rw [← hrr]
  clear e0 hrr
  go_enter Tryz.func40, Tryz.ntmps40
  go_wp2_with fail
  refine (hR _).mono ?_
  rintro e9 w1 ⟨rfl, hb⟩
  have HB : Hid (Below w.heap.size w w1) := hb
  clear hb
  go_wp2_with fail
  go_ret
  exact ⟨⟨_, rfl, by rw [HP.out, ba_app, ba_app, HRR.out]⟩, HB.out⟩
set_option maxRecDepth 1000000 in
theorem plain_long (s : ByteArray) (k : Nat) (hs : s.size ≤ 1000) (hk : k ≤ 1000) (hl : s.size ≤ k + 1) (w : World) : Calls Tryz.prog 40 #[.string s, .int .i64 (k : Int)] w fun e w' => (∃ T : ByteArray, e = .returned (.string T) ∧ T.data.toList = plainB s.data.toList (k : Int)) ∧ Below w.heap.size w w' := by
  obtain ⟨x, hx⟩ : ∃ x, k + 1 = s.size + x := ⟨k + 1 - s.size, by omega⟩
  have hR := fun w => Tryz.strings_Repeat ⟨#[48]⟩ x w (by omega) (by show 1 * x ≤ _; omega)
  have e0 : (⟨(Lib.repeatL (⟨#[48]⟩ : ByteArray).data.toList x).toArray⟩ : ByteArray) = ⟨(List.replicate x 48).toArray⟩ := by
    show (⟨(Lib.repeatL [48] x).toArray⟩ : ByteArray) = _
    rw [rep48]
  rw [e0] at hR
  have hsl : s.data.toList.length = s.size := Array.length_toList
  have HP : Hid (plainB s.data.toList (k : Int) = s.data.toList ++ List.replicate x 48 ++ [46] ++ [48]) := by
    show _ = _
    unfold plainB
    rw [if_neg (by omega), if_pos (by rw [hsl]; omega), hsl, show ((k : Int) + 1 - (s.size : Int)).toNat = x by omega]
    simp
  have h1 : decide ((k : Int) < 0) = false := decide_eq_false (by omega)
  have h2 : (k : Int) + 1 - (s.size : Int) = (x : Int) := by omega
  have h3 : (x : Int) ≤ 1001 ∧ (0 : Int) ≤ (x : Int) := by omega
  have h4 : decide ((s.size : Int) ≤ (k : Int) + 1) = true := decide_eq_true (by omega)
  have hki : (k : Int) ≤ 1000 := by omega
  have hrs : (⟨(List.replicate x 48).toArray⟩ : ByteArray).size = x := by show (List.replicate x (48 : UInt8)).toArray.size = x; simp
  generalize hrr : (⟨(List.replicate x 48).toArray⟩ : ByteArray) = rr at *
  have HRR : Hid (rr.data.toList = List.replicate x 48) := by
    show _ = _
    rw [← hrr]
  clear e0 hrr hx hl hsl
  go_enter Tryz.func40, Tryz.ntmps40
  go_wp2_with fail
  refine (hR _).mono ?_
  rintro e9 w1 ⟨rfl, hb⟩
  have HB : Hid (Below w.heap.size w w1) := hb
  clear hb
  go_wp2_with fail
  go_ret
  exact ⟨⟨_, rfl, by rw [HP.out, ba_app, ba_app, ba_app, HRR.out]⟩, HB.out⟩
set_option maxRecDepth 1000000 in
theorem plain_mid (s : ByteArray) (k : Nat) (hs : s.size ≤ 1000) (hl : k + 1 < s.size) (w : World) : Calls Tryz.prog 40 #[.string s, .int .i64 (k : Int)] w fun e w' => (∃ T : ByteArray, e = .returned (.string T) ∧ T.data.toList = plainB s.data.toList (k : Int)) ∧ Below w.heap.size w w' := by
  have hsl : s.data.toList.length = s.size := Array.length_toList
  have HP : Hid (plainB s.data.toList (k : Int) = s.data.toList.take (k + 1) ++ [46] ++ s.data.toList.drop (k + 1)) := by
    show _ = _
    unfold plainB
    rw [if_neg (by omega), if_neg (by rw [hsl]; omega), show ((k : Int) + 1).toNat = k + 1 by omega]
  have h1 : decide ((k : Int) < 0) = false := decide_eq_false (by omega)
  have h4 : decide ((s.size : Int) ≤ (k : Int) + 1) = false := decide_eq_false (by omega)
  have h5 : (k : Int) + 1 ≤ (s.size : Int) := by omega
  have h6 : (s.size : Int) ≤ 1000 := by omega
  clear hsl hl
  go_enter Tryz.func40, Tryz.ntmps40
  go_wp2_with fail
  go_quiet (fail)
  go_wp2_with fail
  go_ret
  exact ⟨⟨_, rfl, by rw [HP.out, ba_app, ba_app, ba_take, ba_drop]⟩, below_drewN (Below.refl _ _) nq⟩
end Go.Proofs.YtnljpbpphdhnpaaGreatDoor
