/- The program's cut of a whole number's text. -/
import Derived.Test.YtnljpbpphdhnpaaGreatDoorPgI
import Derived.Test.YtnljpbpphdhnpaaGreatDoorPsC
namespace Go.Proofs.YtnljpbpphdhnpaaGreatDoor
open Go.RowKit Go.PlainAid

theorem index_none (l : List UInt8) (c : UInt8) (h : ∀ x ∈ l, x ≠ c) : Lib.indexByte l c = -1 := by
  induction l with
  | nil => rfl
  | cons x l ih =>
    have h1 : x ≠ c := h x (List.mem_cons_self ..)
    have h2 := ih (fun y hy => h y (List.mem_cons_of_mem _ hy))
    unfold Lib.indexByte
    simp [h1, h2]
theorem index_some (a b : List UInt8) (c : UInt8) (h : ∀ x ∈ a, x ≠ c) : Lib.indexByte (a ++ c :: b) c = (a.length : Int) := by
  induction a with
  | nil => simp [Lib.indexByte]
  | cons x a ih =>
    have h1 : x ≠ c := h x (List.mem_cons_self ..)
    have h2 := ih (fun y hy => h y (List.mem_cons_of_mem _ hy))
    rw [List.cons_append]
    unfold Lib.indexByte
    simp [h1, h2]
theorem bl_extract (a b : List UInt8) : (bl (a ++ b)).extract 0 a.length = bl a ∧ (bl (a ++ b)).extract a.length (a ++ b).length = bl b := by
  constructor
  · apply ByteArray.ext
    unfold bl
    simp
  · apply ByteArray.ext
    unfold bl
    simp

theorem dig_not (l : List UInt8) (h : Dig l) (c : UInt8) (hc : c.toNat < 48 ∨ 57 < c.toNat) : ∀ x ∈ l, x ≠ c := by
  intro x hx e
  have := h x hx
  rw [e] at this
  omega
theorem dig_yes (l : List UInt8) (h : Dig l) (h0 : 0 < l.length) (hl : l.length ≤ 100) (w : World) : Calls Tryz.prog 51 #[.string (bl l)] w fun e w' => e = .returned (.bool true) ∧ w' = w :=
  allDigits_yes (bl l) (by rw [bl_size]; exact h0) (fun j hj => by
    rw [bl_size] at hj
    rw [bl_bt l j hj]
    have := h l[j] (List.getElem_mem hj)
    omega) (by rw [bl_size]; unfold maxLen; omega) w

set_option maxRecDepth 1000000 in
set_option maxHeartbeats 1000000 in
theorem cut_raw (s D Z A T : ByteArray) (k : Int) (w : World) (hz : Z.size = 1) (hD : D.size ≤ 19) (h1 : ∀ w, Calls Tryz.prog 50 #[.string s, .string ⟨#[101]⟩] w fun e w' => e = .returned (.tuple #[.string s, .string ⟨#[]⟩, .bool false]) ∧ w' = w)
    (h2 : ∀ w, Calls Tryz.prog 50 #[.string s, .string ⟨#[46]⟩] w fun e w' => e = .returned (.tuple #[.string D, .string Z, .bool true]) ∧ ∃ n, w' = w.drewN n)
    (h4 : ∀ w, Calls Tryz.prog 51 #[.string D] w fun e w' => e = .returned (.bool true) ∧ w' = w) (h5 : ∀ w, Calls Tryz.prog 51 #[.string Z] w fun e w' => e = .returned (.bool true) ∧ w' = w)
    (hA : D ++ Z = A) (h6 : ∀ w, Calls Tryz.prog 53 #[.string A, .string ⟨#[48]⟩] w fun e w' => e = .returned (.string A) ∧ w' = w)
    (h7 : ∀ w, Calls Tryz.prog 54 #[.string A, .string ⟨#[48]⟩] w fun e w' => e = .returned (.string T) ∧ w' = w) (hk : (D.size : Int) - 1 = k) :
    Calls Tryz.prog 28 #[.string s] w fun e w' => e = .returned (.tuple #[.agg #[.string T, .int .i64 k], .bool true]) ∧ Below w.heap.size w w' := by
  have h3 := cutPrefix_no ⟨#[]⟩ (by decide)
  have hsz : D.size + Z.size ≤ 9223372036854775807 := by omega
  go_enter Tryz.func28, Tryz.ntmps28
  go_wp2_with fail
  refine (h1 _).mono ?_
  rintro e9 w9 ⟨rfl, hw9⟩
  obtain rfl := hw9.symm
  clear hw9
  go_wp2_with fail
  refine (h2 _).mono ?_
  rintro e9 w9 ⟨rfl, n9, rfl⟩
  go_wp2_with fail
  refine (h3 _).mono ?_
  rintro e9 w9 ⟨rfl, hw9⟩
  obtain rfl := hw9.symm
  clear hw9
  go_wp2_with fail
  refine (h4 _).mono ?_
  rintro e9 w9 ⟨rfl, hw9⟩
  obtain rfl := hw9.symm
  clear hw9
  go_wp2_with fail
  refine (h5 _).mono ?_
  rintro e9 w9 ⟨rfl, hw9⟩
  obtain rfl := hw9.symm
  clear hw9
  go_wp2_with fail
  refine (atMostFar_none _).mono ?_
  rintro e9 w9 ⟨rfl, hw9⟩
  obtain rfl := hw9.symm
  clear hw9
  go_wp2_with fail
  refine (h6 _).mono ?_
  rintro e9 w9 ⟨rfl, hw9⟩
  obtain rfl := hw9.symm
  clear hw9
  go_wp2_with fail
  refine (h7 _).mono ?_
  rintro e9 w9 ⟨rfl, hw9⟩
  obtain rfl := hw9.symm
  clear hw9
  go_wp2
  refine bodyPost_ret (v := .tuple #[.agg #[.string T, .int .i64 k], .bool true]) (by simp [results, Tryz.results28, go_sem]) rfl ⟨rfl, by go_grown; exact below_drewN (by go_grown) _⟩
end Go.Proofs.YtnljpbpphdhnpaaGreatDoor

