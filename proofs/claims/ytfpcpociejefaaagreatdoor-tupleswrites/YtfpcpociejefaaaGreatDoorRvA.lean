/- Values held against one another: Compare, for every two values. -/
import Derived.Test.YtfpcpociejefaaaGreatDoorChkW
import Derived.Test.YtfpcpociejefaaaGreatDoorPgA
import Derived.Test.YtfpcpociejefaaaGreatDoorPsC
import Derived.Deep.RegionHeld3

namespace Go.Proofs.YtfpcpociejefaaaGreatDoor
open Go.RowKit Go.PlainAid Go.Lib
def b2i (b : Bool) : Int := if b then 1 else 0
theorem bit_any (b : Bool) (w : World) : Calls Tryz.prog 67 #[.bool b] w fun e w' => e = .returned (.int .u8 (b2i b)) ∧ w' = w := by
 cases b
 all_goals
  go_enter Tryz.func67, Tryz.ntmps67
  go_wp2
  go_ret
  exact ⟨rfl, rfl⟩
end Go.Proofs.YtfpcpociejefaaaGreatDoor

/- Compare, for every two values. -/
namespace Go.Proofs.YtfpcpociejefaaaGreatDoor
open Go.RowKit Go.PlainAid Go.Lib
theorem check_yes (p : VD) (hp : p.Ok) (u : Value) (w : World) (hu : Ts w u p.texts) (h : p.mayB = true) : Calls Tryz.prog 41 #[p.val u] w fun e w' => e = .returned (.int .i64 0) ∧ Keep [] w w' := by
 have := check_any p hp u w hu
 rw [h] at this
 exact this
end Go.Proofs.YtfpcpociejefaaaGreatDoor

/- Are two values one: Same, for every two values. -/
namespace Go.Proofs.YtfpcpociejefaaaGreatDoor
open Go.RowKit Go.PlainAid Go.Lib
/-- the same texts, as many -/
def eqL (a b : List ByteArray) : Bool := a.map ByteArray.toList == b.map ByteArray.toList
/-- are they one? -/
def sameV (a b : VD) : Bool :=
 decide (a.kind = b.kind) && (a.mayB && b.mayB) && (if a.kind = 3 then sameR a.real b.real else (a.bool == b.bool) && (a.int == b.int) && (a.text.toList == b.text.toList) && eqL a.texts b.texts)
end Go.Proofs.YtfpcpociejefaaaGreatDoor

/- The document's order of texts and of lists of texts; sign. -/
namespace Go.Proofs.YtfpcpociejefaaaGreatDoor
open Go.RowKit Go.PlainAid
theorem ret_int {k : IntKind} {a b : Int} (h : a = b) : Ending.returned (.int k a) = .returned (.int k b) := by rw [h]
theorem ret_bool {a b : Bool} (h : a = b) : Ending.returned (.bool a) = .returned (.bool b) := by rw [h]
theorem toList_len (s : ByteArray) : s.toList.length = s.size := by rw [ByteArray.toList_eq]; exact Array.length_toList
theorem bt_get (s : ByteArray) (k : Nat) (h : k < s.toList.length) : bt s k = ((s.toList[k]'h).toNat : Int) := by
 have h' : k < s.size := by rw [← toList_len]; exact h
 rw [← get_bt s k h']
 simp only [ByteArray.toList_eq, Array.getElem_toList]
 rfl
theorem cmp_drop : ∀ (k : Nat) (a b : List UInt8), k ≤ a.length → k ≤ b.length → (∀ j, j < k → a[j]? = b[j]?) → cmpT a b = cmpT (a.drop k) (b.drop k) := by
 intro k
 induction k with
 | zero => intro a b _ _ _; rfl
 | succ k ih =>
  intro a b ha hb h
  cases a with
  | nil => simp at ha
  | cons x a =>
   cases b with
   | nil => simp at hb
   | cons y b =>
    have h0 := h 0 (by omega)
    simp at h0; subst h0
    have := ih a b (by simpa using ha) (by simpa using hb) (fun j hj => by simpa using h (j + 1) (by omega))
    rw [List.drop_succ_cons, List.drop_succ_cons, ← this]
    unfold cmpT
    rw [Lib.compareBytes]
    simp
theorem bt_eq_get {a b : ByteArray} {j : Nat} (ha : j < a.size) (hb : j < b.size) (h : bt a j = bt b j) : a.toList[j]? = b.toList[j]? := by
 have ha' : j < a.toList.length := by rw [toList_len]; exact ha
 have hb' : j < b.toList.length := by rw [toList_len]; exact hb
 rw [bt_get a j ha', bt_get b j hb'] at h
 rw [List.getElem?_eq_getElem ha', List.getElem?_eq_getElem hb']
 congr 1
 exact UInt8.toNat_inj.1 (by omega)
theorem cmp_at (a b : ByteArray) (k : Nat) (ha : k ≤ a.size) (hb : k ≤ b.size) (h : ∀ j, j < k → bt a j = bt b j) : cmpT a.toList b.toList = cmpT (a.toList.drop k) (b.toList.drop k) :=
 cmp_drop k _ _ (by rw [toList_len]; exact ha) (by rw [toList_len]; exact hb) (fun j hj => bt_eq_get (by omega) (by omega) (h j hj))
theorem drop_at (a : ByteArray) (k : Nat) (h : k < a.size) : ∃ (c : UInt8) (l : List UInt8), a.toList.drop k = c :: l ∧ (c.toNat : Int) = bt a k := by
 have h' : k < a.toList.length := by rw [toList_len]; exact h
 exact ⟨_, _, List.drop_eq_getElem_cons h', (bt_get a k h').symm⟩
theorem cmp_less (a b : ByteArray) (k : Nat) (ha : k < a.size) (hb : k < b.size) (h : ∀ j, j < k → bt a j = bt b j) (hl : bt a k < bt b k) : cmpT a.toList b.toList = -1 := by
 rw [cmp_at a b k (by omega) (by omega) h]
 obtain ⟨c, l, e, hc⟩ := drop_at a k ha
 obtain ⟨d, m, f, hd⟩ := drop_at b k hb
 rw [e, f]; unfold cmpT; rw [Lib.compareBytes, if_pos (by rw [UInt8.lt_iff_toNat_lt]; omega)]
theorem cmp_more (a b : ByteArray) (k : Nat) (ha : k < a.size) (hb : k < b.size) (h : ∀ j, j < k → bt a j = bt b j) (hl : bt b k < bt a k) : cmpT a.toList b.toList = 1 := by
 rw [cmp_at a b k (by omega) (by omega) h]
 obtain ⟨c, l, e, hc⟩ := drop_at a k ha
 obtain ⟨d, m, f, hd⟩ := drop_at b k hb
 rw [e, f]; unfold cmpT; rw [Lib.compareBytes, if_neg (by rw [UInt8.lt_iff_toNat_lt]; omega), if_pos (by rw [UInt8.lt_iff_toNat_lt]; omega)]
theorem cmp_end (a b : ByteArray) (k : Nat) (ha : k ≤ a.size) (hb : k ≤ b.size) (h : ∀ j, j < k → bt a j = bt b j) (he : k = a.size ∨ k = b.size) :
  cmpT a.toList b.toList = if a.size < b.size then -1 else if b.size < a.size then 1 else 0 := by
 rw [cmp_at a b k ha hb h]
 have la : (a.toList.drop k).length = a.size - k := by rw [List.length_drop, toList_len]
 have lb : (b.toList.drop k).length = b.size - k := by rw [List.length_drop, toList_len]
 generalize a.toList.drop k = x at *
 generalize b.toList.drop k = y at *
 unfold cmpT
 cases x with
 | nil =>
  cases y with
  | nil =>
   simp at la lb
   rw [Lib.compareBytes, if_neg (by omega), if_neg (by omega)]
  | cons d m =>
   simp at la lb
   rw [Lib.compareBytes, if_pos (by omega)]
 | cons c l =>
  cases y with
  | nil =>
   simp at la lb
   rw [Lib.compareBytes, if_neg (by omega), if_pos (by omega)]
  | cons d m =>
   simp at la lb
   omega
theorem drew_two {w : World} {a b : Nat} : ∃ n, (w.drewN a).drewN b = w.drewN n := ⟨a + b, by simp⟩
theorem drew_three {w : World} {a b c : Nat} : ∃ n, ((w.drewN a).drewN b).drewN c = w.drewN n := ⟨a + b + c, by simp⟩
end Go.Proofs.YtfpcpociejefaaaGreatDoor
