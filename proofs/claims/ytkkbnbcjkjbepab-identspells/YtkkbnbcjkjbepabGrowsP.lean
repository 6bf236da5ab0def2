/- For every two texts a and b the statement IdentGrows answers true: two ids one behind the other are an id just if they are not too long together, a name is an id, and what stands behind a name's first letter may be left out but where a word is left. -/
import Derived.Test.YtkkbnbcjkjbepabAwakeW
import Derived.ProofKit
import Derived.OpenShut
import Derived.ShutString
import Derived.ChangeOld
import Derived.SizedLaws
namespace Go.Proofs.Ytkkbnbcjkjbepab
open Go.RowKit Go.PlainAid

theorem id_app {a b : List UInt8} (ha : idL a = true) (hb : idL b = true) : idL (a ++ b) = decide (a.length + b.length ≤ 64) := by
  have h1 := id_len ha
  unfold idL at ha hb ⊢
  simp only [Bool.and_eq_true, decide_eq_true_eq] at ha hb
  rw [List.all_append, ha.2, hb.2, List.length_append]
  simp; omega
theorem inId_of_inName (c : Int) (h : inNameB c = true) : inIdB c = true := by
  unfold inNameB at h; unfold inIdB letterB
  simp only [Bool.or_eq_true] at h ⊢
  rcases h with (h | h) | h
  · exact .inl (.inr (.inl h))
  · exact .inr h
  · left; left; unfold signB; simp [h]
theorem name_id {a : List UInt8} (h : nameL a = true) : idL a = true := by
  unfold nameL at h; unfold idL
  simp only [Bool.and_eq_true, decide_eq_true_eq, List.all_eq_true] at h ⊢
  exact ⟨⟨h.1.1.1.1, by omega⟩, fun c hc => inId_of_inName _ (h.2 c hc)⟩
theorem name_take {a : List UInt8} (h : nameL a = true) (k : Nat) (h1 : 1 ≤ k) (h2 : k < a.length) : nameL (a.take k) = !resL (a.take k) := by
  unfold nameL at h ⊢
  simp only [Bool.and_eq_true, decide_eq_true_eq] at h
  obtain ⟨⟨⟨⟨g1, g2⟩, g3⟩, g4⟩, g5⟩ := h
  have e1 : hd (a.take k) = hd a := by
    cases a with
    | nil => simp
    | cons c l =>
      cases k with
      | zero => omega
      | succ k => simp [hd]
  have e2 : (a.take k).all (fun c => inNameB (c.toNat : Int)) = true := by
    rw [List.all_eq_true] at g5 ⊢
    exact fun c hc => g5 c (List.mem_of_mem_take hc)
  have e3 : (a.take k).length = k := by rw [List.length_take]; omega
  rw [e1, e2, e3, g3]
  simp; intro _; omega

set_option maxHeartbeats 400000 in
theorem res20_any (s : ByteArray) (w : World) :
    Calls Try.prog 20 #[.string s] w fun e w' => e = .returned (.bool (resL s.toList)) ∧ w' = w := by
  go_enter Try.func20, Try.ntmps20
  go_wp2
  all_goals
    go_ret
    exact ⟨by simp_all [resL], rfl⟩

theorem long_id {l : List UInt8} (h : 64 < l.length) : idL l = false := by unfold idL; simp; omega
theorem long_name {l : List UInt8} (h : 32 < l.length) : nameL l = false := by unfold nameL; simp; omega

set_option maxHeartbeats 400000 in
theorem grows_big (a b : ByteArray) (w : World) (ha : a.size ≤ 140737488351232) (hb : b.size ≤ 140737488351232) (h : 100 < a.size ∨ 100 < b.size) :
    Calls Try.prog 6 #[.string a, .string b] w fun e w' => e = .returned (.bool true) ∧ Below w.heap.size w w' := by
  have n1 : idL (a ++ b).toList = false := long_id (by rw [toList_len]; simp; omega)
  have n2 : nameL (a ++ b).toList = false := long_name (by rw [toList_len]; simp; omega)
  by_cases h1 : 100 < a.size
  · have z1 : (100 : Int) < (a.size : Int) := by omega
    go_enter Try.func6, Try.ntmps6
    go_wp2_with (first | (go_at_call 15; refine (awake_any _).mono ?_; rintro e w1 ⟨rfl, hb1⟩) | (go_at_call 22; refine (id_any _ _).mono ?_; rintro e w' ⟨rfl, rfl⟩) | (go_at_call 21; refine (name_any _ _).mono ?_; rintro e w' ⟨rfl, rfl⟩))
    go_ret
    exact ⟨rfl, hb1⟩
  · have z1 : ¬ (100 : Int) < (a.size : Int) := by omega
    have z2 : (100 : Int) < (b.size : Int) := by omega
    go_enter Try.func6, Try.ntmps6
    go_wp2_with (first | (go_at_call 15; refine (awake_any _).mono ?_; rintro e w1 ⟨rfl, hb1⟩) | (go_at_call 22; refine (id_any _ _).mono ?_; rintro e w' ⟨rfl, rfl⟩) | (go_at_call 21; refine (name_any _ _).mono ?_; rintro e w' ⟨rfl, rfl⟩))
    go_ret
    exact ⟨rfl, hb1⟩
end Go.Proofs.Ytkkbnbcjkjbepab
