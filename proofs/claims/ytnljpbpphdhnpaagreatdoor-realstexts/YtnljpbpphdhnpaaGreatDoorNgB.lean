/- The program's plain and orNought, for every row of digits. -/
import Derived.Test.YtnljpbpphdhnpaaGreatDoorTxS
import Derived.Lib.AppendIntMem

namespace Go.Proofs.YtnljpbpphdhnpaaGreatDoor
open Go.RowKit Go.PlainAid

/-- digits about a point -/
def plainB (l : List UInt8) (k : Int) : List UInt8 :=
  if k < 0 then [48, 46] ++ List.replicate (-k - 1).toNat 48 ++ l
  else if (l.length : Int) ≤ k + 1 then l ++ List.replicate (k + 1 - l.length).toNat 48 ++ [46, 48]
  else l.take (k + 1).toNat ++ [46] ++ l.drop (k + 1).toNat
def orB (l : List UInt8) : List UInt8 := if l = [] then [48] else l
theorem ba_app (a b : ByteArray) : (a ++ b).data.toList = a.data.toList ++ b.data.toList := by
  rw [ByteArray.data_append, Array.toList_append]
theorem ba_take (s : ByteArray) (n : Nat) : (s.extract 0 n).data.toList = s.data.toList.take n := by
  rw [ByteArray.data_extract]
  simp
theorem ba_drop (s : ByteArray) (n : Nat) : (s.extract n s.size).data.toList = s.data.toList.drop n := by
  rw [ByteArray.data_extract, Array.toList_extract]
  exact List.take_of_length_le (by rw [List.length_drop, Array.length_toList]; exact Nat.le_refl _)
theorem rep48 (c : Nat) : Lib.repeatL [48] c = List.replicate c 48 := by
  induction c with
  | zero => rfl
  | succ c ih => rw [List.replicate_succ, ← ih]; rfl

set_option maxRecDepth 1000000 in
theorem orNought_any (s : ByteArray) (w : World) : Calls Tryz.prog 38 #[.string s] w fun e w' => (∃ T : ByteArray, e = .returned (.string T) ∧ T.data.toList = orB s.data.toList) ∧ w' = w := by
  by_cases h : s.data.toList = []
  · have hs : s = ⟨#[]⟩ := by
      apply ByteArray.ext
      apply Array.ext'
      rw [h]
    subst hs
    go_enter Tryz.func38, Tryz.ntmps38
    go_wp2
    go_ret
    exact ⟨⟨_, rfl, rfl⟩, rfl⟩
  · have hb : (s.toList == []) = false := by
      rw [Lib.toList_data]
      simpa using h
    go_enter Tryz.func38, Tryz.ntmps38
    go_wp2
    go_ret
    exact ⟨⟨_, rfl, by unfold orB; rw [if_neg h]⟩, rfl⟩
set_option maxRecDepth 1000000 in
theorem plain_neg (s : ByteArray) (x : Nat) (hs : s.size ≤ 1000) (hx : x ≤ 1000) (w : World) : Calls Tryz.prog 40 #[.string s, .int .i64 (-((x : Int) + 1))] w fun e w' => (∃ T : ByteArray, e = .returned (.string T) ∧ T.data.toList = plainB s.data.toList (-((x : Int) + 1))) ∧ Below w.heap.size w w' := by
  have hR := fun w => Tryz.strings_Repeat ⟨#[48]⟩ x w (by omega) (by show 1 * x ≤ _; omega)
  have e0 : (⟨(Lib.repeatL (⟨#[48]⟩ : ByteArray).data.toList x).toArray⟩ : ByteArray) = ⟨(List.replicate x 48).toArray⟩ := by
    show (⟨(Lib.repeatL [48] x).toArray⟩ : ByteArray) = _
    rw [rep48]
  rw [e0] at hR
  have HP : Hid (plainB s.data.toList (-((x : Int) + 1)) = [48, 46] ++ List.replicate x 48 ++ s.data.toList) := by
    show _ = _
    unfold plainB
    rw [if_pos (by omega), show (-(-((x : Int) + 1)) - 1).toNat = x by omega]
  have h1 : decide (-((x : Int) + 1) < 0) = true := decide_eq_true (by omega)
  have h2 : - -((x : Int) + 1) - 1 = (x : Int) := by omega
  have h3 : (x : Int) ≤ 1000 := by omega
  have hrs : (⟨(List.replicate x 48).toArray⟩ : ByteArray).size = x := by show (List.replicate x (48 : UInt8)).toArray.size = x; simp
  generalize hrr : (⟨(List.replicate x 48).toArray⟩ : ByteArray) = rr at *
  have HRR : Hid (rr.data.toList = List.replicate x 48) := by
    show _ = _
    rw [← hrr]
  clear e0 hrr
  go_enter Tryz.func40, Tryz.ntmps40
  go_wp2_with fail
  refine (hR _).mono ?_
  rintro e9 w1 ⟨rfl, hb⟩
  have HB : Hid (Below w.heap.size w w1) := hb
  clear hb
  go_wp2_with fail
  go_ret
  exact ⟨⟨_, rfl, by rw [HP.out, ba_app, ba_app, HRR.out]⟩, HB.out⟩
set_option maxRecDepth 1000000 in
theorem plain_long (s : ByteArray) (k : Nat) (hs : s.size ≤ 1000) (hk : k ≤ 1000) (hl : s.size ≤ k + 1) (w : World) : Calls Tryz.prog 40 #[.string s, .int .i64 (k : Int)] w fun e w' => (∃ T : ByteArray, e = .returned (.string T) ∧ T.data.toList = plainB s.data.toList (k : Int)) ∧ Below w.heap.size w w' := by
  obtain ⟨x, hx⟩ : ∃ x, k + 1 = s.size + x := ⟨k + 1 - s.size, by omega⟩
  have hR := fun w => Tryz.strings_Repeat ⟨#[48]⟩ x w (by omega) (by show 1 * x ≤ _; omega)
  have e0 : (⟨(Lib.repeatL (⟨#[48]⟩ : ByteArray).data.toList x).toArray⟩ : ByteArray) = ⟨(List.replicate x 48).toArray⟩ := by
    show (⟨(Lib.repeatL [48] x).toArray⟩ : ByteArray) = _
    rw [rep48]
  rw [e0] at hR
  have hsl : s.data.toList.length = s.size := Array.length_toList
  have HP : Hid (plainB s.data.toList (k : Int) = s.data.toList ++ List.replicate x 48 ++ [46] ++ [48]) := by
    show _ = _
    unfold plainB
    rw [if_neg (by omega), if_pos (by rw [hsl]; omega), hsl, show ((k : Int) + 1 - (s.size : Int)).toNat = x by omega]
    simp
  have h1 : decide ((k : Int) < 0) = false := decide_eq_false (by omega)
  have h2 : (k : Int) + 1 - (s.size : Int) = (x : Int) := by omega
  have h3 : (x : Int) ≤ 1001 ∧ (0 : Int) ≤ (x : Int) := by omega
  have h4 : decide ((s.size : Int) ≤ (k : Int) + 1) = true := decide_eq_true (by omega)
  have hki : (k : Int) ≤ 1000 := by omega
  have hrs : (⟨(List.replicate x 48).toArray⟩ : ByteArray).size = x := by show (List.replicate x (48 : UInt8)).toArray.size = x; simp
  generalize hrr : (⟨(List.replicate x 48).toArray⟩ : ByteArray) = rr at *
  have HRR : Hid (rr.data.toList = List.replicate x 48) := by
    show _ = _
    rw [← hrr]
  clear e0 hrr hx hl hsl
  go_enter Tryz.func40, Tryz.ntmps40
  go_wp2_with fail
  refine (hR _).mono ?_
  rintro e9 w1 ⟨rfl, hb⟩
  have HB : Hid (Below w.heap.size w w1) := hb
  clear hb
  go_wp2_with fail
  go_ret
  exact ⟨⟨_, rfl, by rw [HP.out, ba_app, ba_app, ba_app, HRR.out]⟩, HB.out⟩
set_option maxRecDepth 1000000 in
theorem plain_mid (s : ByteArray) (k : Nat) (hs : s.size ≤ 1000) (hl : k + 1 < s.size) (w : World) : Calls Tryz.prog 40 #[.string s, .int .i64 (k : Int)] w fun e w' => (∃ T : ByteArray, e = .returned (.string T) ∧ T.data.toList = plainB s.data.toList (k : Int)) ∧ Below w.heap.size w w' := by
  have hsl : s.data.toList.length = s.size := Array.length_toList
  have HP : Hid (plainB s.data.toList (k : Int) = s.data.toList.take (k + 1) ++ [46] ++ s.data.toList.drop (k + 1)) := by
    show _ = _
    unfold plainB
    rw [if_neg (by omega), if_neg (by rw [hsl]; omega), show ((k : Int) + 1).toNat = k + 1 by omega]
  have h1 : decide ((k : Int) < 0) = false := decide_eq_false (by omega)
  have h4 : decide ((s.size : Int) ≤ (k : Int) + 1) = false := decide_eq_false (by omega)
  have h5 : (k : Int) + 1 ≤ (s.size : Int) := by omega
  have h6 : (s.size : Int) ≤ 1000 := by omega
  clear hsl hl
  go_enter Tryz.func40, Tryz.ntmps40
  go_wp2_with fail
  go_quiet (fail)
  go_wp2_with fail
  go_ret
  exact ⟨⟨_, rfl, by rw [HP.out, ba_app, ba_app, ba_take, ba_drop]⟩, below_drewN (Below.refl _ _) nq⟩
end Go.Proofs.YtnljpbpphdhnpaaGreatDoor

/- The document's decimal of a digit. -/
namespace Go.Proofs.YtnljpbpphdhnpaaGreatDoor
open Go.RowKit Go.PlainAid

theorem one_str (w : World) (k : Int) : (convert 72 9 (.slice (some ⟨w.heap.size, 0, none⟩) 1 1)).run Tryz.prog (w.alloc (Obj.cells #[.int .u8 k] 5)) = .ok (.string ⟨#[UInt8.ofNat k.toNat]⟩) (w.alloc (Obj.cells #[.int .u8 k] 5)) := by
  generalize hw : w.alloc (Obj.cells #[.int .u8 k] 5) = w1
  have hc : w1.cell? ⟨w.heap.size, 0, none⟩ = some (.int .u8 k) := by
    rw [← hw]
    rw [World.cell?_alloc_new]
    rfl
  rw [run_convert_bytes_string w1 72 9 5 _ _ _ underS Tryz.underlying5 Tryz.underlying9]
  have hld : (loadCells ⟨w.heap.size, 0, none⟩ 1).run Tryz.prog w1 = .ok (([k] : List Int).map (Value.int .u8)).toArray w1 := by
    have := run_loadCells_list (P := Tryz.prog) w1 ⟨w.heap.size, 0, none⟩ [.int .u8 k] (by
      intro j u hu
      match j, hu with
      | 0, hu =>
        simp only [List.getElem?_cons_zero, Option.some.injEq] at hu
        rw [← hu, ← hc]
        rfl)
    exact this
  rw [run_bytesToString w1 _ 1 1 _ hld]
  rfl

set_option maxRecDepth 1000000 in
set_option maxHeartbeats 1600000 in
theorem decimal_digit (k : Nat) (hk : k < 10) (w : World) : Calls Tryz.prog 21 #[.int .i64 (k : Int)] w fun e w' => (∃ T : ByteArray, e = .returned (.string T) ∧ T.data.toList = [UInt8.ofNat (48 + k)]) ∧ Below w.heap.size w w' := by
  have hi : (k : Int) < 10 := by omega
  have hS := one_str w (48 + (k : Int))
  have hN : Hid ((48 + (k : Int)).toNat = 48 + k) := show (48 + (k : Int)).toNat = 48 + k by omega
  go_enter Tryz.func21, Tryz.ntmps21
  go_wp2
  go_ret
  refine ⟨⟨_, rfl, rfl⟩, ?_⟩
  exact Lib.below_grow _ w (Nat.le_refl _) 0 #[_]

end Go.Proofs.YtnljpbpphdhnpaaGreatDoor
