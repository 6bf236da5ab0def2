/- The document's order of texts and of lists of texts; sign. -/
import Derived.Test.YtncbanpimfhhbaaGreatDoorSameV
import Derived.Deep.RegionHeld3

namespace Go.Proofs.YtncbanpimfhhbaaGreatDoor
open Go.RowKit Go.PlainAid

theorem ret_int {k : IntKind} {a b : Int} (h : a = b) : Ending.returned (.int k a) = .returned (.int k b) := by rw [h]
theorem ret_bool {a b : Bool} (h : a = b) : Ending.returned (.bool a) = .returned (.bool b) := by rw [h]
theorem toList_len (s : ByteArray) : s.toList.length = s.size := by rw [ByteArray.toList_eq]; exact Array.length_toList
theorem bt_get (s : ByteArray) (k : Nat) (h : k < s.toList.length) : bt s k = ((s.toList[k]'h).toNat : Int) := by
  have h' : k < s.size := by rw [← toList_len]; exact h
  rw [← get_bt s k h']
  simp only [ByteArray.toList_eq, Array.getElem_toList]
  rfl
theorem cmp_drop : ∀ (k : Nat) (a b : List UInt8), k ≤ a.length → k ≤ b.length → (∀ j, j < k → a[j]? = b[j]?) → cmpT a b = cmpT (a.drop k) (b.drop k) := by
  intro k
  induction k with
  | zero => intro a b _ _ _; rfl
  | succ k ih =>
    intro a b ha hb h
    cases a with
    | nil => simp at ha
    | cons x a =>
      cases b with
      | nil => simp at hb
      | cons y b =>
        have h0 := h 0 (by omega)
        simp at h0; subst h0
        have := ih a b (by simpa using ha) (by simpa using hb) (fun j hj => by simpa using h (j + 1) (by omega))
        rw [List.drop_succ_cons, List.drop_succ_cons, ← this]
        unfold cmpT
        rw [Lib.compareBytes]
        simp
theorem bt_eq_get {a b : ByteArray} {j : Nat} (ha : j < a.size) (hb : j < b.size) (h : bt a j = bt b j) : a.toList[j]? = b.toList[j]? := by
  have ha' : j < a.toList.length := by rw [toList_len]; exact ha
  have hb' : j < b.toList.length := by rw [toList_len]; exact hb
  rw [bt_get a j ha', bt_get b j hb'] at h
  rw [List.getElem?_eq_getElem ha', List.getElem?_eq_getElem hb']
  congr 1
  exact UInt8.toNat_inj.1 (by omega)
theorem cmp_at (a b : ByteArray) (k : Nat) (ha : k ≤ a.size) (hb : k ≤ b.size) (h : ∀ j, j < k → bt a j = bt b j) : cmpT a.toList b.toList = cmpT (a.toList.drop k) (b.toList.drop k) :=
  cmp_drop k _ _ (by rw [toList_len]; exact ha) (by rw [toList_len]; exact hb) (fun j hj => bt_eq_get (by omega) (by omega) (h j hj))
theorem drop_at (a : ByteArray) (k : Nat) (h : k < a.size) : ∃ (c : UInt8) (l : List UInt8), a.toList.drop k = c :: l ∧ (c.toNat : Int) = bt a k := by
  have h' : k < a.toList.length := by rw [toList_len]; exact h
  exact ⟨_, _, List.drop_eq_getElem_cons h', (bt_get a k h').symm⟩
theorem cmp_less (a b : ByteArray) (k : Nat) (ha : k < a.size) (hb : k < b.size) (h : ∀ j, j < k → bt a j = bt b j) (hl : bt a k < bt b k) : cmpT a.toList b.toList = -1 := by
  rw [cmp_at a b k (by omega) (by omega) h]
  obtain ⟨c, l, e, hc⟩ := drop_at a k ha
  obtain ⟨d, m, f, hd⟩ := drop_at b k hb
  rw [e, f]; unfold cmpT; rw [Lib.compareBytes, if_pos (by rw [UInt8.lt_iff_toNat_lt]; omega)]
theorem cmp_more (a b : ByteArray) (k : Nat) (ha : k < a.size) (hb : k < b.size) (h : ∀ j, j < k → bt a j = bt b j) (hl : bt b k < bt a k) : cmpT a.toList b.toList = 1 := by
  rw [cmp_at a b k (by omega) (by omega) h]
  obtain ⟨c, l, e, hc⟩ := drop_at a k ha
  obtain ⟨d, m, f, hd⟩ := drop_at b k hb
  rw [e, f]; unfold cmpT; rw [Lib.compareBytes, if_neg (by rw [UInt8.lt_iff_toNat_lt]; omega), if_pos (by rw [UInt8.lt_iff_toNat_lt]; omega)]
theorem cmp_end (a b : ByteArray) (k : Nat) (ha : k ≤ a.size) (hb : k ≤ b.size) (h : ∀ j, j < k → bt a j = bt b j) (he : k = a.size ∨ k = b.size) :
    cmpT a.toList b.toList = if a.size < b.size then -1 else if b.size < a.size then 1 else 0 := by
  rw [cmp_at a b k ha hb h]
  have la : (a.toList.drop k).length = a.size - k := by rw [List.length_drop, toList_len]
  have lb : (b.toList.drop k).length = b.size - k := by rw [List.length_drop, toList_len]
  generalize a.toList.drop k = x at *
  generalize b.toList.drop k = y at *
  unfold cmpT
  cases x with
  | nil =>
    cases y with
    | nil =>
      simp at la lb
      rw [Lib.compareBytes, if_neg (by omega), if_neg (by omega)]
    | cons d m =>
      simp at la lb
      rw [Lib.compareBytes, if_pos (by omega)]
  | cons c l =>
    cases y with
    | nil =>
      simp at la lb
      rw [Lib.compareBytes, if_neg (by omega), if_pos (by omega)]
    | cons d m =>
      simp at la lb
      omega

theorem drew_two {w : World} {a b : Nat} : ∃ n, (w.drewN a).drewN b = w.drewN n := ⟨a + b, by simp⟩
theorem drew_three {w : World} {a b c : Nat} : ∃ n, ((w.drewN a).drewN b).drewN c = w.drewN n := ⟨a + b + c, by simp⟩

theorem cmpL_end (a b : List ByteArray) (k : Nat) (ha : k ≤ a.length) (hb : k ≤ b.length) (h : k = a.length ∨ k = b.length) :
    cmpL (a.drop k) (b.drop k) = if decide (a.length < b.length) then -1 else if decide (b.length < a.length) then 1 else 0 := by
  by_cases h1 : k < a.length
  · rw [cmpL_right a b k h1 (by omega), decide_eq_false (by omega), decide_eq_true (by omega)]; rfl
  · rw [cmpL_left a b k (by omega)]
    by_cases h2 : k < b.length
    · rw [if_pos h2, decide_eq_true (by omega)]; rfl
    · rw [if_neg h2, decide_eq_false (by omega), decide_eq_false (by omega)]; rfl

end Go.Proofs.YtncbanpimfhhbaaGreatDoor



/- The document's May: just mayB. -/
namespace Go.Proofs.YtncbanpimfhhbaaGreatDoor
open Go.RowKit Go.PlainAid

def zeroV (p : VD) : Bool := !((p.kind != 1) && p.bool || (p.kind != 2) && (p.int != 0) || (p.kind != 3) && !zeroB p.real) && ((p.kind == 4) || p.text.size == 0) && ((p.kind == 5) || p.texts.length == 0)
theorem zero_empty (p : VD) (h1 : 1 ≤ p.kind) (h5 : p.kind ≤ 5) : p.clear.emptyB = zeroV p := by
  obtain ⟨kd, b, n, x, t, ts⟩ := p
  simp only [] at h1 h5
  have hc : kd = 1 ∨ kd = 2 ∨ kd = 3 ∨ kd = 4 ∨ kd = 5 := by omega
  have hz : zeroB 0 = true := by decide
  have hl : ts.isEmpty = (ts.length == 0) := by cases ts <;> rfl
  rcases hc with rfl | rfl | rfl | rfl | rfl
  all_goals
    simp only [VD.clear, VD.emptyB, zeroV]
    simp [hz, hl, bne, show (⟨#[]⟩ : ByteArray).size = 0 from rfl]
    try (cases b <;> cases zeroB x <;> simp)

end Go.Proofs.YtncbanpimfhhbaaGreatDoor



/- The document's May. -/
namespace Go.Proofs.YtncbanpimfhhbaaGreatDoor
open Go.RowKit Go.PlainAid

theorem one_cells {w w1 : World} {v0 v1 v2 v3 v4 v5 : Value} {t : TypeId} (k : Keep [] (w.alloc (.cells #[v0, v1, v2, v3, v4, v5] t)) w1) :
    w1.cell? ⟨w.heap.size, 0, none⟩ = some v0 ∧ w1.cell? ⟨w.heap.size, 1, none⟩ = some v1 ∧ w1.cell? ⟨w.heap.size, 2, none⟩ = some v2 ∧ w1.cell? ⟨w.heap.size, 3, none⟩ = some v3 ∧ w1.cell? ⟨w.heap.size, 4, none⟩ = some v4 ∧ w1.cell? ⟨w.heap.size, 5, none⟩ = some v5 := by
  refine ⟨k.cell' ?_ (by simp), k.cell' ?_ (by simp), k.cell' ?_ (by simp), k.cell' ?_ (by simp), k.cell' ?_ (by simp), k.cell' ?_ (by simp)⟩ <;> simp [go_sem]

end Go.Proofs.YtncbanpimfhhbaaGreatDoor


