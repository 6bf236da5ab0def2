/- What Kind, ObjectText and SubjectText of package ident answer, for every object and subject. -/
import Derived.Test.YtclapbpkkaljgaaGreatDoorTextW
namespace Go.Proofs.YtclapbpkkaljgaaGreatDoor.Idt
open Go.RowKit Go.PlainAid

theorem bcell {W w1 : World} (hb : Below W.heap.size W w1) : (∀ b o, b < W.heap.size → w1.cell? ⟨b, o, none⟩ = W.cell? ⟨b, o, none⟩) ∧ (∀ b o, b < W.heap.size → w1.frozen? ⟨b, o, none⟩ = W.frozen? ⟨b, o, none⟩) :=
  ⟨fun b o h => hb.cell (p := ⟨b, o, none⟩) h, fun b o h => hb.frozen (p := ⟨b, o, none⟩) h⟩
theorem ret_int {k : IntKind} {a b : Int} (h : a = b) : Ending.returned (.int k a) = .returned (.int k b) := by rw [h]
theorem ret_bool {a b : Bool} (h : a = b) : Ending.returned (.bool a) = .returned (.bool b) := by rw [h]
theorem ret_si {a a' : ByteArray} {x x' : Int} (ha : a = a') (hx : x = x') : Ending.returned (.tuple #[.string a, .int .i64 x]) = .returned (.tuple #[.string a', .int .i64 x']) := by rw [ha, hx]
theorem toList_app (a b : ByteArray) : (a ++ b).toList = a.toList ++ b.toList := by simp [ByteArray.toList_eq]
theorem name_len {l : List UInt8} (h : nameL l = true) : 1 ≤ l.length ∧ l.length ≤ 32 := by
  unfold nameL at h; simp only [Bool.and_eq_true, decide_eq_true_eq] at h; exact h.1.1.1
theorem id_len {l : List UInt8} (h : idL l = true) : 1 ≤ l.length ∧ l.length ≤ 64 := by
  unfold idL at h; simp only [Bool.and_eq_true, decide_eq_true_eq] at h; exact h.1

theorem below_box {w w1 : World} {X : Obj} (hb : Below (w.alloc X).heap.size (w.alloc X) w1) : Below w.heap.size w w1 :=
  ((Below.refl _ _).alloc (Nat.le_refl _) _).trans (hb.mono (by simp))

theorem bne0 {a : Int} (h : (a != 0) = false) : 0 = a := by simp at h; exact h.symm

def kindL (t i r : List UInt8) : Int :=
  if (faultL t i r != 0) = true then 0 else if (i == [42]) = true then 2 else if r.isEmpty = true then 1 else 3

set_option maxHeartbeats 400000 in
theorem kind_any (t i r : ByteArray) (w : World) :
    Calls Tryz.prog 38 #[.agg #[.string t, .string i, .string r]] w fun e w' => e = .returned (.int .i64 (kindL t.toList i.toList r.toList)) ∧ Below w.heap.size w w' := by
  cases h1 : (faultL t.toList i.toList r.toList != 0)
  case true =>
    go_enter Tryz.func38, Tryz.ntmps38
    go_wp2_with (go_at_call 60; refine (fault_any _ _ _ _).mono ?_; rintro e w1 ⟨rfl, hb⟩; obtain ⟨hc, hf⟩ := bcell hb)
    go_ret
    exact ⟨ret_int (by simp only [kindL, h1, if_true]), below_box hb⟩
  go_enter Tryz.func38, Tryz.ntmps38
  go_wp2_with (go_at_call 60; refine (fault_any _ _ _ _).mono ?_; rintro e w1 ⟨rfl, hb⟩; obtain ⟨hc, hf⟩ := bcell hb)
  all_goals
    go_ret
    exact ⟨ret_int (by simp [kindL, *]), below_box hb⟩

def objTextL (t i : List UInt8) : List UInt8 := if nameL t = true ∧ idL i = true then t ++ [58] ++ i else []
def objErrL (t i : List UInt8) : Int := if nameL t = false then 10 else if idL i = false then 11 else 0
def subTextL (t i r : List UInt8) : List UInt8 := if (faultL t i r != 0) = true then [] else if r.isEmpty = true then t ++ [58] ++ i else t ++ [58] ++ i ++ [35] ++ r

theorem fault_ok {t i r : List UInt8} (h : (faultL t i r != 0) = false) : nameL t = true ∧ i.length ≤ 64 ∧ r.length ≤ 32 := by
  unfold faultL at h
  cases h1 : nameL t
  · simp [h1] at h
  rw [if_neg (by simp [h1])] at h
  by_cases h2 : (i == [42]) = true ∧ r.isEmpty = true
  · obtain ⟨a, b⟩ := h2
    simp at a b; subst a b; simp
  rw [if_neg h2] at h
  cases h3 : idL i
  · simp [h3] at h
  rw [if_neg (by simp [h3])] at h
  have := id_len h3
  cases h4 : nameL r
  · cases h5 : r.isEmpty
    · simp [h4, h5] at h
    · simp at h5; subst h5; simp; omega
  · have := name_len h4
    simp; omega

end Go.Proofs.YtclapbpkkaljgaaGreatDoor.Idt

