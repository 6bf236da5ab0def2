/- Texts and lists of texts: their order, byte by byte and text by text. -/
import Derived.Test.YtjdihnkcigoajaaGreatDoorSameR
import Derived.Lib.Bytealg
import Derived.Deep.QuietTactic
import Derived.BigQuiet
import Derived.Test.YtjdihnkcigoajaaGreatDoorChkW
import Derived.Deep.RegionHeld3
import Derived.Test.YtjdihnkcigoajaaGreatDoorQuB
import Derived.Test.YtjdihnkcigoajaaGreatDoorQuE
import Derived.OwnWalk
import Derived.Test.YtjdihnkcigoajaaGreatDoorRdW

namespace Go.Proofs.YtjdihnkcigoajaaGreatDoor
open Go.RowKit Go.PlainAid Go.Lib

def cmpT (a b : List UInt8) : Int := Lib.compareBytes a b

structure Ord3 {α : Type} (f : α → α → Int) : Prop where
  range : ∀ a b, f a b = -1 ∨ f a b = 0 ∨ f a b = 1
  anti : ∀ a b, f b a = - f a b
  same : ∀ a b, f a b = 0 ↔ a = b
  trans : ∀ a b c, f a b = -1 → f b c = -1 → f a c = -1

theorem cmpT_cons (x y : UInt8) (a b : List UInt8) : cmpT (x :: a) (y :: b) = if x < y then -1 else if y < x then 1 else cmpT a b := by unfold cmpT; rw [Lib.compareBytes]
theorem ord_cmpT : Ord3 cmpT := by
  refine ⟨?_, ?_, ?_, ?_⟩
  · intro a
    induction a with
    | nil => intro b; cases b <;> simp [cmpT, Lib.compareBytes]
    | cons x a ih =>
      intro b
      cases b with
      | nil => simp [cmpT, Lib.compareBytes]
      | cons y b =>
        rw [cmpT_cons]
        split
        · exact .inl rfl
        · split
          · exact .inr (.inr rfl)
          · exact ih b
  · intro a
    induction a with
    | nil => intro b; cases b <;> simp [cmpT, Lib.compareBytes]
    | cons x a ih =>
      intro b
      cases b with
      | nil => simp [cmpT, Lib.compareBytes]
      | cons y b =>
        rw [cmpT_cons, cmpT_cons, ih b]
        have h1 : ¬ (x < y ∧ y < x) := by rw [UInt8.lt_iff_toNat_lt, UInt8.lt_iff_toNat_lt]; omega
        by_cases p : x < y <;> by_cases q : y < x <;> simp [p, q]
        exact absurd ⟨p, q⟩ h1
  · intro a
    induction a with
    | nil => intro b; cases b <;> simp [cmpT, Lib.compareBytes]
    | cons x a ih =>
      intro b
      cases b with
      | nil => simp [cmpT, Lib.compareBytes]
      | cons y b =>
        rw [cmpT_cons]
        by_cases p : x < y
        · have : x ≠ y := fun e => by subst e; exact absurd p (UInt8.lt_irrefl x)
          simp [p, this]
        · by_cases q : y < x
          · have : x ≠ y := fun e => by subst e; exact absurd q (UInt8.lt_irrefl x)
            simp [p, q, this]
          · have : x = y := by
              rw [UInt8.lt_iff_toNat_lt] at p q
              exact UInt8.toNat_inj.1 (by omega)
            simp [this, ih b]
  · intro a
    induction a with
    | nil =>
      intro b c h1 h2
      cases c with
      | nil =>
        cases b with
        | nil => exact h2
        | cons y b => simp [cmpT, Lib.compareBytes] at h2
      | cons z c => simp [cmpT, Lib.compareBytes]
    | cons x a ih =>
      intro b c h1 h2
      cases b with
      | nil => simp [cmpT, Lib.compareBytes] at h1
      | cons y b =>
        cases c with
        | nil => simp [cmpT, Lib.compareBytes] at h2
        | cons z c =>
          rw [cmpT_cons] at h1 h2 ⊢
          simp only [UInt8.lt_iff_toNat_lt] at *
          by_cases p : x.toNat < y.toNat
          · by_cases q : y.toNat < z.toNat
            · rw [if_pos (by omega)]
            · rw [if_neg q] at h2
              by_cases r : z.toNat < y.toNat
              · rw [if_pos r] at h2; exact absurd h2 (by decide)
              · rw [if_pos (by omega)]
          · rw [if_neg p] at h1
            by_cases r : y.toNat < x.toNat
            · rw [if_pos r] at h1; exact absurd h1 (by decide)
            · rw [if_neg r] at h1
              by_cases q : y.toNat < z.toNat
              · rw [if_pos (by omega)]
              · rw [if_neg q] at h2
                by_cases u : z.toNat < y.toNat
                · rw [if_pos u] at h2; exact absurd h2 (by decide)
                · rw [if_neg u] at h2
                  rw [if_neg (by omega), if_neg (by omega)]
                  exact ih b c h1 h2


/-- lists by their first elements that differ; a beginning is below -/
def lexL {α : Type} (f : α → α → Int) : List α → List α → Int
  | [], [] => 0
  | [], _ :: _ => -1
  | _ :: _, [] => 1
  | x :: a, y :: b => if f x y = 0 then lexL f a b else f x y

theorem ord_lexL {α : Type} {f : α → α → Int} (h : Ord3 f) : Ord3 (lexL f) := by
  refine ⟨?_, ?_, ?_, ?_⟩
  · intro a
    induction a with
    | nil => intro b; cases b <;> simp [lexL]
    | cons x a ih =>
      intro b
      cases b with
      | nil => simp [lexL]
      | cons y b =>
        rw [lexL]
        split
        · exact ih b
        · exact h.range x y
  · intro a
    induction a with
    | nil => intro b; cases b <;> simp [lexL]
    | cons x a ih =>
      intro b
      cases b with
      | nil => simp [lexL]
      | cons y b =>
        rw [lexL, lexL, h.anti x y, ih b]
        by_cases e : f x y = 0
        · rw [if_pos (by omega), if_pos e]
        · rw [if_neg (by omega), if_neg e]
  · intro a
    induction a with
    | nil => intro b; cases b <;> simp [lexL]
    | cons x a ih =>
      intro b
      cases b with
      | nil => simp [lexL]
      | cons y b =>
        rw [lexL]
        by_cases e : f x y = 0
        · rw [if_pos e, ih b, (h.same x y).1 e]
          simp
        · rw [if_neg e]
          constructor
          · exact fun h => absurd h e
          · intro hc
            simp at hc
            exact absurd ((h.same x y).2 hc.1) e
  · intro a
    induction a with
    | nil =>
      intro b c h1 h2
      cases c with
      | nil =>
        cases b with
        | nil => exact h2
        | cons y b => simp [lexL] at h2
      | cons z c => simp [lexL]
    | cons x a ih =>
      intro b c h1 h2
      cases b with
      | nil => simp [lexL] at h1
      | cons y b =>
        cases c with
        | nil => simp [lexL] at h2
        | cons z c =>
          rw [lexL] at h1 h2 ⊢
          by_cases e1 : f x y = 0
          · rw [if_pos e1] at h1
            have hxy := (h.same x y).1 e1
            subst hxy
            by_cases e2 : f x z = 0
            · rw [if_pos e2] at h2 ⊢
              exact ih b c h1 h2
            · rw [if_neg e2] at h2 ⊢
              exact h2
          · rw [if_neg e1] at h1
            by_cases e2 : f y z = 0
            · have hyz := (h.same y z).1 e2
              subst hyz
              rw [if_neg e1]
              exact h1
            · rw [if_neg e2] at h2
              have h3 := h.trans x y z h1 h2
              rw [if_neg (by omega)]
              exact h3

theorem less_cmp (a : List UInt8) : ∀ b, Op.bytesLess a b = decide (cmpT a b = -1) := by
  induction a with
  | nil => intro b; cases b <;> simp [Op.bytesLess, cmpT, Lib.compareBytes]
  | cons x a ih =>
    intro b
    cases b with
    | nil => simp [Op.bytesLess, cmpT, Lib.compareBytes]
    | cons y b =>
      rw [cmpT_cons, Op.bytesLess]
      by_cases p : x < y
      · simp [p]
      · by_cases q : y < x
        · have hne : (x == y) = false := by
            rw [beq_eq_false_iff_ne]
            intro e
            subst e
            exact absurd q (UInt8.lt_irrefl x)
          simp [p, q, hne]
        · have he : x = y := by
            rw [UInt8.lt_iff_toNat_lt] at p q
            exact UInt8.toNat_inj.1 (by omega)
          subst he
          simp [p, ih b]

/-- lists of texts -/
def cmpL (a b : List ByteArray) : Int := lexL cmpT (a.map ByteArray.toList) (b.map ByteArray.toList)
theorem cmpL_at (a b : List ByteArray) (k : Nat) (h1 : k < a.length) (h2 : k < b.length) :
    cmpL (a.drop k) (b.drop k) = if cmpT a[k].toList b[k].toList = 0 then cmpL (a.drop (k + 1)) (b.drop (k + 1)) else cmpT a[k].toList b[k].toList := by
  unfold cmpL
  rw [List.drop_eq_getElem_cons h1, List.drop_eq_getElem_cons h2]
  rfl
theorem cmpL_right (a b : List ByteArray) (k : Nat) (h1 : k < a.length) (h2 : b.length ≤ k) : cmpL (a.drop k) (b.drop k) = 1 := by
  unfold cmpL
  rw [List.drop_eq_getElem_cons h1, List.drop_of_length_le h2]
  rfl
theorem cmpL_left (a b : List ByteArray) (k : Nat) (h1 : a.length ≤ k) : cmpL (a.drop k) (b.drop k) = if k < b.length then -1 else 0 := by
  unfold cmpL
  rw [List.drop_of_length_le h1]
  by_cases h : k < b.length
  · rw [List.drop_eq_getElem_cons h, if_pos h]
    rfl
  · rw [List.drop_of_length_le (by omega), if_neg h]
    rfl

end Go.Proofs.YtjdihnkcigoajaaGreatDoor


/- Values held against one another: Compare, for every two values. -/
namespace Go.Proofs.YtjdihnkcigoajaaGreatDoor
open Go.RowKit Go.PlainAid Go.Lib

def b2i (b : Bool) : Int := if b then 1 else 0
theorem bit_any (b : Bool) (w : World) : Calls Tryz.prog 39 #[.bool b] w fun e w' => e = .returned (.int .u8 (b2i b)) ∧ w' = w := by
  cases b
  all_goals
    go_enter Tryz.func39, Tryz.ntmps39
    go_wp2
    go_ret
    exact ⟨rfl, rfl⟩
def cmpR (a b : Nat) : Int × Bool := if nanB a || nanB b then (0, false) else (cmpI (svalZ a) (svalZ b), true)
/-- two values of one kind -/
def likeV (a b : VD) : Int × Bool :=
  if a.kind = 1 then (cmpI (b2i a.bool) (b2i b.bool), true) else if a.kind = 2 then (cmpI a.int b.int, true) else if a.kind = 3 then cmpR a.real b.real
  else if a.kind = 4 then (cmpT a.text.toList b.text.toList, true) else (cmpL a.texts b.texts, true)

end Go.Proofs.YtjdihnkcigoajaaGreatDoor


/- Compare, for every two values. -/
namespace Go.Proofs.YtjdihnkcigoajaaGreatDoor
open Go.RowKit Go.PlainAid Go.Lib

theorem two_cells {w w1 : World} {v0 v1 v2 v3 v4 v5 u0 u1 u2 u3 u4 u5 : Value} {t t' : TypeId} (k : Keep [] ((w.alloc (.cells #[v0, v1, v2, v3, v4, v5] t)).alloc (.cells #[u0, u1, u2, u3, u4, u5] t')) w1) :
    (w1.cell? ⟨w.heap.size, 0, none⟩ = some v0 ∧ w1.cell? ⟨w.heap.size, 1, none⟩ = some v1 ∧ w1.cell? ⟨w.heap.size, 2, none⟩ = some v2 ∧ w1.cell? ⟨w.heap.size, 3, none⟩ = some v3 ∧ w1.cell? ⟨w.heap.size, 4, none⟩ = some v4 ∧ w1.cell? ⟨w.heap.size, 5, none⟩ = some v5) ∧
    (w1.cell? ⟨w.heap.size + 1, 0, none⟩ = some u0 ∧ w1.cell? ⟨w.heap.size + 1, 1, none⟩ = some u1 ∧ w1.cell? ⟨w.heap.size + 1, 2, none⟩ = some u2 ∧ w1.cell? ⟨w.heap.size + 1, 3, none⟩ = some u3 ∧ w1.cell? ⟨w.heap.size + 1, 4, none⟩ = some u4 ∧ w1.cell? ⟨w.heap.size + 1, 5, none⟩ = some u5) := by
  refine ⟨⟨k.cell' ?_ (by simp), k.cell' ?_ (by simp), k.cell' ?_ (by simp), k.cell' ?_ (by simp), k.cell' ?_ (by simp), k.cell' ?_ (by simp)⟩, ⟨k.cell' ?_ (by simp), k.cell' ?_ (by simp), k.cell' ?_ (by simp), k.cell' ?_ (by simp), k.cell' ?_ (by simp), k.cell' ?_ (by simp)⟩⟩ <;> simp [go_sem]

theorem check_yes (p : VD) (hp : p.Ok) (u : Value) (w : World) (hu : Ts w u p.texts) (h : p.mayB = true) : Calls Tryz.prog 5 #[p.val u] w fun e w' => e = .returned (.int .i64 0) ∧ Keep [] w w' := by
  have := check_any p hp u w hu
  rw [h] at this
  exact this
theorem check_no (p : VD) (hp : p.Ok) (u : Value) (w : World) (hu : Ts w u p.texts) (h : p.mayB = false) : Calls Tryz.prog 5 #[p.val u] w fun e w' => e = .returned (.int .i64 40) ∧ Keep [] w w' := by
  have := check_any p hp u w hu
  rw [h] at this
  exact this

/-- how two values stand -/
def cmpV (a b : VD) : Int × Bool :=
  if (a.mayB && b.mayB) = false then (0, false) else if a.kind = b.kind then likeV a b else if a.kind = 3 ∧ b.kind = 2 then cmpXN a.real b.int
  else if a.kind = 2 ∧ b.kind = 3 then (-(cmpXN b.real a.int).1, (cmpXN b.real a.int).2) else (0, false)

theorem cmpXN_range (x : Nat) (n : Int) : -1 ≤ (cmpXN x n).1 ∧ (cmpXN x n).1 ≤ 1 := by
  unfold cmpXN cmpI
  split
  · simp
  · simp only []
    split
    · simp
    · split <;> simp

end Go.Proofs.YtjdihnkcigoajaaGreatDoor


/- Are two values one: Same, for every two values. -/
namespace Go.Proofs.YtjdihnkcigoajaaGreatDoor
open Go.RowKit Go.PlainAid Go.Lib

/-- the same texts, as many -/
def eqL (a b : List ByteArray) : Bool := a.map ByteArray.toList == b.map ByteArray.toList

/-- are they one? -/
def sameV (a b : VD) : Bool :=
  decide (a.kind = b.kind) && (a.mayB && b.mayB) && (if a.kind = 3 then sameR a.real b.real else (a.bool == b.bool) && (a.int == b.int) && (a.text.toList == b.text.toList) && eqL a.texts b.texts)

end Go.Proofs.YtjdihnkcigoajaaGreatDoor


/- The document's order of texts and of lists of texts; sign. -/
namespace Go.Proofs.YtjdihnkcigoajaaGreatDoor
open Go.RowKit Go.PlainAid

theorem ret_int {k : IntKind} {a b : Int} (h : a = b) : Ending.returned (.int k a) = .returned (.int k b) := by rw [h]
theorem ret_bool {a b : Bool} (h : a = b) : Ending.returned (.bool a) = .returned (.bool b) := by rw [h]
theorem toList_len (s : ByteArray) : s.toList.length = s.size := by rw [ByteArray.toList_eq]; exact Array.length_toList
theorem bt_get (s : ByteArray) (k : Nat) (h : k < s.toList.length) : bt s k = ((s.toList[k]'h).toNat : Int) := by
  have h' : k < s.size := by rw [← toList_len]; exact h
  rw [← get_bt s k h']
  simp only [ByteArray.toList_eq, Array.getElem_toList]
  rfl
theorem cmp_drop : ∀ (k : Nat) (a b : List UInt8), k ≤ a.length → k ≤ b.length → (∀ j, j < k → a[j]? = b[j]?) → cmpT a b = cmpT (a.drop k) (b.drop k) := by
  intro k
  induction k with
  | zero => intro a b _ _ _; rfl
  | succ k ih =>
    intro a b ha hb h
    cases a with
    | nil => simp at ha
    | cons x a =>
      cases b with
      | nil => simp at hb
      | cons y b =>
        have h0 := h 0 (by omega)
        simp at h0; subst h0
        have := ih a b (by simpa using ha) (by simpa using hb) (fun j hj => by simpa using h (j + 1) (by omega))
        rw [List.drop_succ_cons, List.drop_succ_cons, ← this]
        unfold cmpT
        rw [Lib.compareBytes]
        simp
theorem bt_eq_get {a b : ByteArray} {j : Nat} (ha : j < a.size) (hb : j < b.size) (h : bt a j = bt b j) : a.toList[j]? = b.toList[j]? := by
  have ha' : j < a.toList.length := by rw [toList_len]; exact ha
  have hb' : j < b.toList.length := by rw [toList_len]; exact hb
  rw [bt_get a j ha', bt_get b j hb'] at h
  rw [List.getElem?_eq_getElem ha', List.getElem?_eq_getElem hb']
  congr 1
  exact UInt8.toNat_inj.1 (by omega)
theorem cmp_at (a b : ByteArray) (k : Nat) (ha : k ≤ a.size) (hb : k ≤ b.size) (h : ∀ j, j < k → bt a j = bt b j) : cmpT a.toList b.toList = cmpT (a.toList.drop k) (b.toList.drop k) :=
  cmp_drop k _ _ (by rw [toList_len]; exact ha) (by rw [toList_len]; exact hb) (fun j hj => bt_eq_get (by omega) (by omega) (h j hj))
theorem drop_at (a : ByteArray) (k : Nat) (h : k < a.size) : ∃ (c : UInt8) (l : List UInt8), a.toList.drop k = c :: l ∧ (c.toNat : Int) = bt a k := by
  have h' : k < a.toList.length := by rw [toList_len]; exact h
  exact ⟨_, _, List.drop_eq_getElem_cons h', (bt_get a k h').symm⟩
theorem cmp_less (a b : ByteArray) (k : Nat) (ha : k < a.size) (hb : k < b.size) (h : ∀ j, j < k → bt a j = bt b j) (hl : bt a k < bt b k) : cmpT a.toList b.toList = -1 := by
  rw [cmp_at a b k (by omega) (by omega) h]
  obtain ⟨c, l, e, hc⟩ := drop_at a k ha
  obtain ⟨d, m, f, hd⟩ := drop_at b k hb
  rw [e, f]; unfold cmpT; rw [Lib.compareBytes, if_pos (by rw [UInt8.lt_iff_toNat_lt]; omega)]
theorem cmp_more (a b : ByteArray) (k : Nat) (ha : k < a.size) (hb : k < b.size) (h : ∀ j, j < k → bt a j = bt b j) (hl : bt b k < bt a k) : cmpT a.toList b.toList = 1 := by
  rw [cmp_at a b k (by omega) (by omega) h]
  obtain ⟨c, l, e, hc⟩ := drop_at a k ha
  obtain ⟨d, m, f, hd⟩ := drop_at b k hb
  rw [e, f]; unfold cmpT; rw [Lib.compareBytes, if_neg (by rw [UInt8.lt_iff_toNat_lt]; omega), if_pos (by rw [UInt8.lt_iff_toNat_lt]; omega)]
theorem cmp_end (a b : ByteArray) (k : Nat) (ha : k ≤ a.size) (hb : k ≤ b.size) (h : ∀ j, j < k → bt a j = bt b j) (he : k = a.size ∨ k = b.size) :
    cmpT a.toList b.toList = if a.size < b.size then -1 else if b.size < a.size then 1 else 0 := by
  rw [cmp_at a b k ha hb h]
  have la : (a.toList.drop k).length = a.size - k := by rw [List.length_drop, toList_len]
  have lb : (b.toList.drop k).length = b.size - k := by rw [List.length_drop, toList_len]
  generalize a.toList.drop k = x at *
  generalize b.toList.drop k = y at *
  unfold cmpT
  cases x with
  | nil =>
    cases y with
    | nil =>
      simp at la lb
      rw [Lib.compareBytes, if_neg (by omega), if_neg (by omega)]
    | cons d m =>
      simp at la lb
      rw [Lib.compareBytes, if_pos (by omega)]
  | cons c l =>
    cases y with
    | nil =>
      simp at la lb
      rw [Lib.compareBytes, if_neg (by omega), if_pos (by omega)]
    | cons d m =>
      simp at la lb
      omega

theorem drew_two {w : World} {a b : Nat} : ∃ n, (w.drewN a).drewN b = w.drewN n := ⟨a + b, by simp⟩
theorem drew_three {w : World} {a b c : Nat} : ∃ n, ((w.drewN a).drewN b).drewN c = w.drewN n := ⟨a + b + c, by simp⟩

theorem cmpL_end (a b : List ByteArray) (k : Nat) (ha : k ≤ a.length) (hb : k ≤ b.length) (h : k = a.length ∨ k = b.length) :
    cmpL (a.drop k) (b.drop k) = if decide (a.length < b.length) then -1 else if decide (b.length < a.length) then 1 else 0 := by
  by_cases h1 : k < a.length
  · rw [cmpL_right a b k h1 (by omega), decide_eq_false (by omega), decide_eq_true (by omega)]; rfl
  · rw [cmpL_left a b k (by omega)]
    by_cases h2 : k < b.length
    · rw [if_pos h2, decide_eq_true (by omega)]; rfl
    · rw [if_neg h2, decide_eq_false (by omega), decide_eq_false (by omega)]; rfl

end Go.Proofs.YtjdihnkcigoajaaGreatDoor


/- Lists of texts with marks behind their ends: LentTexts; what reads as the same: SameTexts, SameReal. -/
namespace Go.Proofs.YtjdihnkcigoajaaGreatDoor
open Go.RowKit Go.PlainAid

def markS (i : Nat) : ByteArray := ⟨#[35, 1, 0, 0, 47, i.toUInt8, 0, 0]⟩
def marks (n : Nat) : List ByteArray := (List.range n).map markS
theorem marks_len (n : Nat) : (marks n).length = n := by simp [marks]
theorem marks_snoc (n : Nat) : marks (n + 1) = marks n ++ [markS n] := by simp [marks, List.range_succ]
theorem marks_get (n i : Nat) (h : i < (marks n).length) : (marks n)[i] = markS i := by simp [marks]

set_option maxRecDepth 1000000 in
set_option maxHeartbeats 1000000 in
theorem markText_any (i : Nat) (hi : i < 24) (w : World) :
    Calls Tryz.prog 31 #[.int .i64 1, .int .i64 (i : Int)] w fun e w' => e = .returned (.string (markS i)) ∧ Keep [] w w' := by
  have hst : (convert 31 9 (.slice (some ⟨w.heap.size, 0, none⟩) 8 8)).run Tryz.prog (w.alloc (.cells #[.int .u8 35, .int .u8 1, .int .u8 0, .int .u8 0, .int .u8 47, .int .u8 (i : Int), .int .u8 0, .int .u8 0] 5 (0, 0))) = .ok (.string (markS i)) (w.alloc (.cells #[.int .u8 35, .int .u8 1, .int .u8 0, .int .u8 0, .int .u8 47, .int .u8 (i : Int), .int .u8 0, .int .u8 0] 5 (0, 0))) := by
    have e : (i : Int) = ((i.toUInt8).toNat : Int) := by simp; omega
    have hr : Row (w.alloc (.cells #[.int .u8 35, .int .u8 1, .int .u8 0, .int .u8 0, .int .u8 47, .int .u8 (i : Int), .int .u8 0, .int .u8 0] 5 (0, 0))) (.slice (some ⟨w.heap.size, 0, none⟩) 8 8) [35, 1, 0, 0, 47, i.toUInt8, 0, 0] := by
      rw [e]
      exact World.ownsRow_lit w #[.int .u8 35, .int .u8 1, .int .u8 0, .int .u8 0, .int .u8 47, .int .u8 (i.toUInt8.toNat : Int), .int .u8 0, .int .u8 0] 8 (Nat.zero_le _) (by unfold maxLen; omega) rfl
    exact run_str hr.bs
  have hw : IntKind.u8.wrap (i : Int) = (i : Int) := by rw [IntKind.wrap_u8]; omega
  have hd1 : (i : Int) / 256 = 0 := by omega
  have hd2 : (i : Int) / 65536 = 0 := by omega
  go_enter Tryz.func31, Tryz.ntmps31
  go_wp2
  go_ret
  exact ⟨rfl, Keep.alloc1 w _⟩

theorem infoS : (Tryz.prog.info? 9).map (fun i => (i.zero, i.size, i.bytes)) = some (some (.string ByteArray.empty), 1, 16) := by kernel_rfl
def strC (l : List ByteArray) : List Value := l.map fun x => .string x
theorem strC_snoc (l : List ByteArray) (x : ByteArray) : strC (l ++ [x]) = strC l ++ [.string x] := by simp [strC]
/-- a row of texts of one's own -/
abbrev RowS (w : World) (v : Value) (l : List ByteArray) : Prop := RowC w 9 1 v l.length (strC l)
theorem src_str (w : World) (x : ByteArray) : Src Tryz.prog 1 23 (.slice (some ⟨w.heap.size, 0, none⟩) 1 1) 1 [.string x] (w.alloc (.cells #[.string x] 9 (0, 0))) := by
  refine Src.ofSlice _ Tryz.underlying23 ⟨w.heap.size, 0, none⟩ 1 1 [.string x] rfl (fun j u hu => ?_) (fun u hu => ?_)
  · have hj : j = 0 := by
      have := (List.getElem?_eq_some_iff.1 hu).1
      simpa using this
    subst hj
    simp at hu
    subst hu
    simp [Addr.add]
  · simp at hu
    subst hu
    rfl

/-- a row of one's own reads as its texts -/
theorem Ts.ofRow {w : World} {g n cap : Nat} {l : List ByteArray} (h : RowS w (.slice (some ⟨g, 0, none⟩) n cap) l) (hs : ∀ s ∈ l, s.size ≤ 9223372036854775807) (hn : n = l.length) : Ts w (.slice (some ⟨g, 0, none⟩) n cap) l := by
  rcases RowC.cases h with ⟨_, _, h3⟩ | ⟨g', cap', he, h1, h2, _, hc, _⟩
  · simp at h3
  · simp at he
    obtain ⟨rfl, _, rfl⟩ := he
    subst hn
    refine ⟨some ⟨g, 0, none⟩, cap, rfl, h1, h2, hs, fun _ => ⟨g, 0, rfl, fun j hj => ?_⟩⟩
    rw [Nat.zero_add, hc j (by omega)]
    simp [strC, hj]
theorem Ts.front {w : World} {g cap : Nat} {a b : List ByteArray} (h : Ts w (.slice (some ⟨g, 0, none⟩) (a.length + b.length) cap) (a ++ b)) : Ts w (.slice (some ⟨g, 0, none⟩) a.length cap) a := by
  obtain ⟨ao, c, he, h1, h2, h3, h4⟩ := h.ex
  simp at he
  obtain ⟨rfl, rfl⟩ := he
  rw [List.length_append] at h1
  refine ⟨some ⟨g, 0, none⟩, cap, rfl, by omega, h2, fun s hs => h3 s (by simp [hs]), fun hl => ?_⟩
  obtain ⟨b', o, he, hc⟩ := h4 (by simp [hl])
  simp at he
  obtain ⟨rfl, rfl⟩ := he
  refine ⟨g, 0, rfl, fun j hj => ?_⟩
  rw [hc j (by rw [List.length_append]; omega)]
  rw [List.getElem_append_left hj]
theorem Ts.at {w : World} {v : Value} {l : List ByteArray} (h : Ts w v l) (k : Nat) (hk : k < l.length) : ∃ b o cap, v = .slice (some ⟨b, o, none⟩) l.length cap ∧ l.length ≤ cap ∧ cap ≤ 9223372036854775807 ∧ w.cell? ⟨b, o + k, none⟩ = some (.string l[k]) := by
  obtain ⟨ao, cap, rfl, h1, h2, _, h4⟩ := h.ex
  obtain ⟨b, o, rfl, hc⟩ := h4 (by intro e; rw [e] at hk; simp at hk)
  exact ⟨b, o, cap, rfl, h1, h2, hc k hk⟩

set_option maxRecDepth 1000000 in
set_option maxHeartbeats 1000000 in
theorem lentRow_any (v : Value) (l : List ByteArray) (w : World) (h : Ts w v l) (hlen : l.length ≤ 8796093021952) :
    Calls Tryz.prog 13 #[v] w fun e w' => ∃ g cap, e = .returned (.slice (some ⟨g, 0, none⟩) l.length cap) ∧ RowS w' (.slice (some ⟨g, 0, none⟩) (l.length + 24) cap) (l ++ marks 24) ∧ Keep [] w w' ∧ w.heap.size ≤ g := by
  have hT : Hid (Ts w v l) := h
  obtain ⟨ao, cap, rfl, -⟩ := h.ex
  clear h
  go_enter Tryz.func13, Tryz.ntmps13
  go_wp2
  go_loopw [3, 4] (fun z3 z4 wr => ∃ (k : Nat), z4 = .int .i64 (k : Int) ∧ k ≤ l.length ∧ Hid (RowS wr z3 (l.take k) ∧ Keep [] w wr ∧ ∀ x, z3.ownBlock = some x → w.heap.size ≤ x)) (fun _ z4 _ => l.length - (RowKit.intOf z4).toNat)
  case atStart => exact ⟨0, rfl, Nat.zero_le _, ⟨World.ownsRow_nil _ 0 9 1, Keep.refl _ _, fun x hx => by simp [Value.ownBlock] at hx⟩⟩
  case round =>
    obtain ⟨k, rfl, hk, hI⟩ := hrel
    by_cases hlt : k < l.length
    · have hlti : (k : Int) < (l.length : Int) := by omega
      obtain ⟨bb, oo, cc, he, hcc, hcc2, c0⟩ := (hT.out.keep hI.out.2.1 (Off.nil _)).at k hlt
      simp at he
      obtain ⟨rfl, rfl⟩ := he
      have hd : Hid (l.take (k + 1) = l.take k ++ [l[k]]) := List.take_succ_eq_append_getElem hlt
      generalize l[k] = t at c0 hd
      have hal : Hid (((l.take k).length + 1) * 16 ≤ 140737488355328 ∧ (l.take k).length + 1 ≤ maxLen) := by
        show _ ∧ _
        rw [List.length_take]
        refine ⟨by omega, ?_⟩
        unfold maxLen; omega
      have HS : Hid _ := src_str wr t
      have HR : Hid _ := RowC.keep hI.out.1 (Keep.alloc1 wr (.cells #[.string t] 9 (0, 0))) (Off.nil _)
      go_wp2_with (at_builtin; refine wp_appC infoS rfl rfl (.tmp 12) (.tmp 17) 23 23 rfl Tryz.underlying23 u3 (l.take k).length (strC (l.take k)) rfl HR.out _ 1 [.string t] rfl HS.out hal.out.1 hal.out.2 ?_)
      intro v9 w9 R9 K9 F9 S9 _
      obtain ⟨a9, c9, rfl⟩ := S9
      have hx : Hid (RowS w9 (.slice a9 (k + 1) c9) (l.take (k + 1)) ∧ Keep [] w w9 ∧ ∀ x, (Value.slice a9 (k + 1) c9).ownBlock = some x → w.heap.size ≤ x) := by
        have hsz := hI.out.2.1.size
        refine ⟨?_, ?_, fun x hx => ?_⟩
        · unfold RowS; rw [hd.out, strC_snoc, List.length_append, List.length_take, Nat.min_eq_left (Nat.le_of_lt hlt)]; exact R9
        · exact (hI.out.2.1.alloc _).more K9 (fun x hx => .inr (hI.out.2.2 x (by simpa using hx)))
        · rcases F9 with e | e
          · rw [e] at hx; exact hI.out.2.2 x hx
          · have := (e x hx).1; simp at this; omega
      clear R9 K9 F9 HR HS hI
      go_wp2
      go_roundw
      case rel => exact ⟨k + 1, by go_num, by omega, hx⟩
      case measure => simp [RowKit.intOf]; omega
    · have hlti : ¬ (k : Int) < (l.length : Int) := by omega
      have hI2 : Hid (RowS wr u3 (l ++ marks 0) ∧ Keep [] w wr ∧ ∀ x, u3.ownBlock = some x → w.heap.size ≤ x) := by
        have := hI.out
        rw [List.take_of_length_le (by omega)] at this
        show _ ∧ _
        rw [show marks 0 = [] from rfl, List.append_nil]
        exact this
      clear hI
      go_wp2
      go_loopw [3, 5] (fun z3 z5 wr => ∃ (j : Nat), z5 = .int .i64 (j : Int) ∧ j ≤ 24 ∧ Hid (RowS wr z3 (l ++ marks j) ∧ Keep [] w wr ∧ ∀ x, z3.ownBlock = some x → w.heap.size ≤ x)) (fun _ z5 _ => 24 - (RowKit.intOf z5).toNat)
      case atStart => exact ⟨0, rfl, by omega, hI2⟩
      case round =>
        clear hI2
        obtain ⟨j, rfl, hj, hI⟩ := hrel
        by_cases hjl : j < 24
        · have hji : (j : Int) < 24 := by omega
          have HM : Hid (∀ w, Calls Tryz.prog 31 #[.int .i64 1, .int .i64 (j : Int)] w fun e w' => e = .returned (.string (markS j)) ∧ Keep [] w w') := fun w => markText_any j hjl w
          have hal : Hid (((l ++ marks j).length + 1) * 16 ≤ 140737488355328 ∧ (l ++ marks j).length + 1 ≤ maxLen) := by
            show _ ∧ _
            rw [List.length_append, marks_len]
            refine ⟨by omega, ?_⟩
            unfold maxLen; omega
          have hsn : Hid (l ++ marks (j + 1) = (l ++ marks j) ++ [markS j]) := by show _ = _; rw [marks_snoc, List.append_assoc]
          go_wp2_with fail
          refine (HM.out _).mono ?_
          rintro e w1 ⟨rfl, k1⟩
          have HS : Hid _ := src_str w1 (markS j)
          have HR : Hid _ := RowC.keep (RowC.keep hI.out.1 k1 (Off.nil _)) (Keep.alloc1 w1 (.cells #[.string (markS j)] 9 (0, 0))) (Off.nil _)
          have hI1 : Hid (Keep [] w w1 ∧ ∀ x, u3.ownBlock = some x → w.heap.size ≤ x) := ⟨hI.out.2.1.trans' k1, hI.out.2.2⟩
          clear k1 hI HM
          generalize hmk : markS j = mk at HS HR hsn ⊢
          clear hmk
          go_wp2_with (at_builtin; refine wp_appC infoS rfl rfl (.tmp 23) (.tmp 26) 23 23 rfl Tryz.underlying23 u3 (l ++ marks j).length (strC (l ++ marks j)) rfl HR.out _ 1 [.string mk] rfl HS.out hal.out.1 hal.out.2 ?_)
          intro v9 w9 R9 K9 F9 S9 _
          obtain ⟨a9, c9, rfl⟩ := S9
          have hx : Hid (RowS w9 (.slice a9 (l.length + (marks j).length + 1) c9) (l ++ marks (j + 1)) ∧ Keep [] w w9 ∧ ∀ x, (Value.slice a9 (l.length + (marks j).length + 1) c9).ownBlock = some x → w.heap.size ≤ x) := by
            have hsz := hI1.out.1.size
            refine ⟨?_, ?_, fun x hx => ?_⟩
            · have e9 : ((l ++ marks j) ++ [mk]).length = l.length + (marks j).length + 1 := by rw [List.length_append, List.length_append]; rfl
              unfold RowS; rw [hsn.out, strC_snoc, e9]; exact R9
            · exact (hI1.out.1.alloc _).more K9 (fun x hx => .inr (hI1.out.2 x (by simpa using hx)))
            · rcases F9 with e | e
              · rw [e] at hx; exact hI1.out.2 x hx
              · have := (e x hx).1; simp at this; omega
          clear R9 K9 F9 HR HS hI1
          go_wp2
          go_roundw
          case rel => exact ⟨j + 1, by go_num, by omega, hx⟩
          case measure => simp [RowKit.intOf]; omega
        · have hji : ¬ (j : Int) < 24 := by omega
          have hje : j = 24 := by omega
          subst hje
          obtain ⟨h1, h2, h3⟩ := hI.out
          have hll : (l ++ marks 24).length = l.length + 24 := by rw [List.length_append, marks_len]
          rcases RowC.cases h1 with ⟨h0, -⟩ | ⟨g, cap9, e, hc1, hc2, -⟩
          · rw [hll] at h0; omega
          rw [hll] at e hc1
          have hfin : Hid (RowS wr (.slice (some ⟨g, 0, none⟩) (l.length + 24) cap9) (l ++ marks 24) ∧ Keep [] w wr ∧ w.heap.size ≤ g) := ⟨by rw [← e]; exact h1, h2, h3 g (by rw [e]; rfl)⟩
          subst e
          have hcl : l.length ≤ cap9 := by omega
          clear hI h1 h2 h3
          go_wp2
          go_ret
          exact ⟨g, cap9, rfl, hfin.out⟩

theorem marks_size : ∀ s ∈ marks 24, s.size ≤ 9223372036854775807 := by
  intro s hs
  simp [marks] at hs
  obtain ⟨i, _, rfl⟩ := hs
  show (8 : Nat) ≤ _
  omega
theorem Ts.sizes {w : World} {v : Value} {l : List ByteArray} (h : Ts w v l) : ∀ s ∈ l, s.size ≤ 9223372036854775807 := by
  obtain ⟨ao, cap, rfl, _, _, h3, _⟩ := h.ex
  exact h3
/-- LentTexts: a list of one's own that reads as l, with the marks behind its end -/
theorem lentTexts_any (v : Value) (l : List ByteArray) (w : World) (h : Ts w v l) (hlen : l.length ≤ 8796093021952) :
    Calls Tryz.prog 13 #[v] w fun e w' => ∃ g cap, e = .returned (.slice (some ⟨g, 0, none⟩) l.length cap) ∧ (Ts w' (.slice (some ⟨g, 0, none⟩) (l.length + 24) cap) (l ++ marks 24) ∧ Ts w' (.slice (some ⟨g, 0, none⟩) l.length cap) l) ∧ Keep [] w w' ∧ w.heap.size ≤ g := by
  refine (lentRow_any v l w h hlen).mono ?_
  rintro e w' ⟨g, cap, rfl, hr, hk, hg⟩
  have hll : (l ++ marks 24).length = l.length + 24 := by rw [List.length_append, marks_len]
  have h1 : Ts w' (.slice (some ⟨g, 0, none⟩) (l.length + 24) cap) (l ++ marks 24) := Ts.ofRow hr (fun s hs => by
    rcases List.mem_append.1 hs with hs | hs
    · exact h.sizes s hs
    · exact marks_size s hs) hll.symm
  refine ⟨g, cap, rfl, ⟨h1, ?_⟩, hk, hg⟩
  exact Ts.front (b := marks 24) (by rw [marks_len]; exact h1)

/-- SameTexts of two lists that read as one -/
theorem sameTexts_self (u v : Value) (l : List ByteArray) (w : World) (hu : Ts w u l) (hv : Ts w v l) :
    Calls Tryz.prog 53 #[u, v] w fun e w' => e = .returned (.bool true) ∧ ∃ n, w' = w.drewN n := by
  obtain ⟨ao, ca, rfl, p1, p2, _, p4⟩ := hu.ex
  obtain ⟨bo, cb, rfl, q1, q2, _, q4⟩ := hv.ex
  have HE : Hid ((l ≠ [] → ∃ b o, ao = some ⟨b, o, none⟩ ∧ ∀ j (h : j < l.length), w.cell? ⟨b, o + j, none⟩ = some (.string l[j])) ∧ (l ≠ [] → ∃ g o, bo = some ⟨g, o, none⟩ ∧ ∀ j (h : j < l.length), w.cell? ⟨g, o + j, none⟩ = some (.string l[j]))) := ⟨p4, q4⟩
  have hne : ((l.length : Int) != (l.length : Int)) = false := by simp
  clear p4 q4 hu hv
  go_enter Tryz.func53, Tryz.ntmps53
  go_wp2
  go_loopw [5] (fun iv wr => ∃ k n : Nat, iv = .int .i64 (k : Int) ∧ k ≤ l.length ∧ wr = w.drewN n) (fun iv _ => l.length - (RowKit.intOf iv).toNat)
  case atStart => exact ⟨0, 0, rfl, Nat.zero_le _, rfl⟩
  case round =>
    obtain ⟨k, n, rfl, hka, rfl⟩ := hrel
    by_cases hk : k < l.length
    · have hki : (k : Int) < (l.length : Int) := by omega
      obtain ⟨g, o, rfl, hc⟩ := HE.out.1 (by intro hz; rw [hz] at hk; simp at hk)
      obtain ⟨g', o', rfl, hc'⟩ := HE.out.2 (by intro hz; rw [hz] at hk; simp at hk)
      have hca := hc k hk
      have hcb := hc' k hk
      have hee : (l[k].toList == l[k].toList) = true := by simp
      clear hc hc' HE
      generalize l[k] = s at hca hcb hee
      go_wp2
      go_quiet (fail)
      go_wp2
      go_roundw
      case rel => exact ⟨k + 1, _, by go_num, by omega, rfl⟩
      case measure => simp [RowKit.intOf]; omega
    · have hki : ¬ ((k : Int) < (l.length : Int)) := by omega
      clear HE
      go_wp2
      go_ret
      exact ⟨rfl, n, rfl⟩

/-- SameReal of a real and itself -/
theorem sameReal_self (x : Nat) (w : World) : Calls Tryz.prog 29 #[.float .f32 x, .float .f32 x] w fun e w' => e = .returned (.bool true) ∧ w' = w := by
  have hb := run_f32bits x
  have hee : ((x : Int) == (x : Int)) = true := by simp
  go_enter Tryz.func29, Tryz.ntmps29
  go_wp2
  go_ret
  exact ⟨rfl, rfl⟩
end Go.Proofs.YtjdihnkcigoajaaGreatDoor


/- A list of texts: its literal, as the program writes it. -/
namespace Go.Proofs.YtjdihnkcigoajaaGreatDoor
open Go.RowKit Go.PlainAid

/-- the literal of a list of texts -/
def listL (ts : List ByteArray) : List UInt8 := 91 :: Lib.join (ts.map fun t => quoL t.data.toList) [44, 32] ++ [93]
theorem tail_len (sep : List UInt8) (m : Nat) (xs : List (List UInt8)) (h : ∀ x ∈ xs, x.length ≤ m) : (Lib.joinTail sep xs).length ≤ (sep.length + m) * xs.length := by
  unfold Lib.joinTail
  induction xs with
  | nil => simp
  | cons x r ih =>
    have h1 := h x (List.mem_cons_self ..)
    have h2 := ih (fun y hy => h y (List.mem_cons_of_mem _ hy))
    rw [List.map_cons, List.flatten_cons, List.length_append, List.length_append, List.length_cons, Nat.mul_add, Nat.mul_one]
    omega
theorem join_len (sep : List UInt8) (m : Nat) (xs : List (List UInt8)) (h : ∀ x ∈ xs, x.length ≤ m) : (Lib.join xs sep).length ≤ (sep.length + m) * xs.length := by
  cases xs with
  | nil => simp [Lib.join_nil]
  | cons x r =>
    have h1 := h x (List.mem_cons_self ..)
    have h2 := tail_len sep m r (fun y hy => h y (List.mem_cons_of_mem _ hy))
    rw [Lib.join_cons, List.length_append, List.length_cons, Nat.mul_add, Nat.mul_one]
    omega
theorem ba_self (t : ByteArray) : ba t.data.toList = t := by
  unfold ba
  apply ByteArray.ext
  simp
theorem ba_len (t : ByteArray) : t.data.toList.length = t.size := Array.length_toList

/-- n texts of one's own, of which the first k are laid -/
structure Qn (w : World) (g n k : Nat) (f : Nat → ByteArray) : Prop where
  done : ∀ j, j < k → w.cell? ⟨g, j, none⟩ = some (.string (f j))
  rest : ∀ j, j < n → ∃ x, w.cell? ⟨g, j, none⟩ = some (.string x)
  fz : ∀ j, w.frozen? ⟨g, j, none⟩ = false
  lt : g < w.heap.size
theorem Qn.keep {F : List Nat} {w w' : World} {g n k : Nat} {f : Nat → ByteArray} (h : Qn w g n k f) (kp : Keep F w w') (hg : g ∉ F) : Qn w' g n k f :=
  ⟨fun j hj => kp.cell' (h.done j hj) hg, fun j hj => by obtain ⟨x, hx⟩ := h.rest j hj; exact ⟨x, kp.cell' hx hg⟩, fun j => (kp.frozen h.lt hg).trans (h.fz j), Nat.lt_of_lt_of_le h.lt kp.size⟩
theorem Qn.set {w : World} {g n k : Nat} {f : Nat → ByteArray} (h : Qn w g n k f) (hk : k < n) : Qn (w.setCell ⟨g, k, none⟩ (.string (f k))) g n (k + 1) f := by
  obtain ⟨x0, hx0⟩ := h.rest k hk
  refine ⟨fun j hj => ?_, fun j hj => ?_, fun j => by simp [h.fz j], by simpa using h.lt⟩
  · by_cases e : j = k
    · subst e
      exact World.cell?_setCell_same _ _ _ hx0
    · rw [World.cell?_setCell_other _ _ _ _ (by simp; try omega)]
      exact h.done j (by omega)
  · by_cases e : j = k
    · subst e
      exact ⟨_, World.cell?_setCell_same _ _ _ hx0⟩
    · rw [World.cell?_setCell_other _ _ _ _ (by simp; try omega)]
      exact h.rest j hj
theorem Qn.made {w w' : World} {n : Nat} (f : Nat → ByteArray) (hlt : w.heap.size < w'.heap.size) (r : w'.ownsRow 0 9 1 (.slice (some ⟨w.heap.size, 0, none⟩) n n) n (madeCells #[Value.string ByteArray.empty] (n * 1)).toList) : Qn w' w.heap.size n 0 f := by
  refine ⟨fun j hj => absurd hj (Nat.not_lt_zero _), fun j hj => ?_, fun j => ?_, hlt⟩
  · have := World.ownsRow.cellAt r j (by simpa using hj)
    refine ⟨ByteArray.empty, this.trans ?_⟩
    simp [madeCells, Nat.mod_one]
    exact ⟨j, List.getElem?_range hj⟩
  · rcases r.2 with ⟨h, _⟩ | ⟨g, cap, cur, h, _, hg, _⟩
    · simp at h
    · simp only [Value.slice.injEq, Option.some.injEq, Addr.mk.injEq, and_true, true_and] at h
      obtain ⟨rfl, rfl⟩ := h
      unfold World.frozen?
      simp [hg]

set_option maxRecDepth 1000000 in
set_option maxHeartbeats 1600000 in
theorem listed_all (ts : List ByteArray) (u : Value) (w : World) (hu : Ts w u ts) (hn : ts.length ≤ 32) (hs : ∀ t ∈ ts, t.size ≤ 256) :
    Calls Tryz.prog 37 #[u] w fun e w' => e = .returned (.string (ba (listL ts))) ∧ Keep [] w w' := by
  obtain ⟨f, hf⟩ : ∃ f : Nat → ByteArray, f = fun j => ba (quoL (ts.getD j ByteArray.empty).data.toList) := ⟨_, rfl⟩
  have HF : Hid (∀ j (h : j < ts.length), f j = ba (quoL ts[j].data.toList)) := fun j h => by rw [hf]; simp [List.getD, List.getElem?_eq_getElem h]
  have HQ : Hid (∀ j (h : j < ts.length) (w : World), Calls Tryz.prog 36 #[.string ts[j]] w fun e w' => e = .returned (.string (f j)) ∧ Keep [] w w') := fun j h w => by
    have h1 := quoted_all ts[j].data.toList w (by rw [ba_len]; have := hs ts[j] (List.getElem_mem h); omega)
    rw [ba_self] at h1
    rw [HF.out j h]
    exact h1
  have HX : Hid ((List.range ts.length).map f = ts.map fun t => ba (quoL t.data.toList)) := by
    show _ = _
    apply List.ext_getElem?
    intro j
    rcases Nat.lt_or_ge j ts.length with h | h
    · rw [List.getElem?_map, List.getElem?_range h, List.getElem?_map, List.getElem?_eq_getElem h]
      show some _ = some _
      rw [HF.out j h]
    · rw [List.getElem?_eq_none (by simpa using h), List.getElem?_eq_none (by simpa using h)]
  have hjl : (Lib.join (ts.map fun t => quoL t.data.toList) [44, 32]).length ≤ 33000 := by
    have h1 := join_len [44, 32] 1026 (ts.map fun t => quoL t.data.toList) (by
      intro x hx
      obtain ⟨t, ht, rfl⟩ := List.mem_map.1 hx
      have h2 := quoL_len t.data.toList
      rw [ba_len] at h2
      have := hs t ht
      omega)
    rw [List.length_map] at h1
    simp at h1
    omega
  obtain ⟨J, hJ⟩ : ∃ J, Lib.join (ts.map fun t => quoL t.data.toList) [44, 32] = J := ⟨_, rfl⟩
  have HL : Hid (listL ts = 91 :: J ++ [93]) := by show _ = _; unfold listL; rw [hJ]
  rw [hJ] at hjl
  have HJ : Hid (∀ (W : World) (g : Nat), Qn W g ts.length ts.length f → Calls Tryz.prog 60 #[.slice (some ⟨g, 0, none⟩) ts.length ts.length, .string ⟨#[44, 32]⟩] W fun e w' => e = .returned (.string (ba J)) ∧ Keep [] W w') := by
    intro W g hP
    have hmm : ((List.range ts.length).map f).map (·.data.toList) = ts.map fun t => quoL t.data.toList := by
      rw [HX.out, List.map_map]
      apply List.map_congr_left
      intro t _
      exact ba_data _
    have h := Any.strings_Join Tryz.lays156 Tryz.Builder_Extra_156 g 0 ts.length ((List.range ts.length).map f) ⟨#[44, 32]⟩ W (by
      intro j x hj
      rw [List.getElem?_map] at hj
      rcases Nat.lt_or_ge j ts.length with h | h
      · rw [List.getElem?_range h] at hj
        simp at hj
        subst hj
        rw [Nat.zero_add]
        exact hP.done j h
      · rw [List.getElem?_eq_none (by simpa using h)] at hj
        simp at hj) hP.lt (by simp; omega) (by simp) (by
          rw [hmm]
          have e : (⟨#[44, 32]⟩ : ByteArray).data.toList = [44, 32] := rfl
          rw [e, hJ]
          omega)
    rw [hmm, show (⟨#[44, 32]⟩ : ByteArray).data.toList = [44, 32] from rfl, hJ] at h
    simp only [List.length_map, List.length_range] at h
    refine h.mono ?_
    rintro e w' ⟨rfl, hb⟩
    exact ⟨rfl, Keep.ofBelow hb⟩
  obtain ⟨ao, ca, rfl, h1, h2, _, h4⟩ := hu.ex
  obtain ⟨i9, hi9, hz9, hs9, hb9⟩ := info_parts infoS
  have HQ2 : Hid (i9.bytes * ts.length ≤ 281474976710656) := by show _ ≤ _; rw [hb9]; omega
  have HI9 : Hid (Tryz.prog.info? 9 = some i9 ∧ i9.zero = some _ ∧ i9.size = 1) := ⟨hi9, hz9, hs9⟩
  have H4 : Hid (ts ≠ [] → ∃ b o, ao = some ⟨b, o, none⟩ ∧ ∀ j (h : j < ts.length), w.cell? ⟨b, o + j, none⟩ = some (.string ts[j])) := h4
  obtain ⟨n, hn9⟩ : ∃ n, ts.length = n := ⟨_, rfl⟩
  have HN : Hid (ts.length = n) := hn9
  have HCA : Hid (n ≤ ca ∧ ca ≤ 9223372036854775807) := show n ≤ ca ∧ ca ≤ 9223372036854775807 by omega
  have hJs : (ba J).size ≤ 33000 := by rw [ba_size]; exact hjl
  have e1 : (⟨#[91]⟩ : ByteArray) ++ ba J = ba (91 :: J) := bal_app [91] J
  have e2 : ba (91 :: J) ++ ⟨#[93]⟩ = ba (listL ts) := (bal_app (91 :: J) [93]).trans (by rw [HL.out])
  have hJ2 : (ba (91 :: J)).size ≤ 33001 := by rw [ba_size, List.length_cons]; omega
  rw [hn9] at hn HJ HQ2 ⊢
  clear hi9 hz9 hs9 hb9 h1 h2 h4 hu hs hf hJ hjl hn9 HX HF
  generalize ba (listL ts) = S3 at *
  generalize ba (91 :: J) = S2 at *
  generalize ba J = S1 at *
  have p91 : (⟨#[91]⟩ : ByteArray).size = 1 := rfl
  have p93 : (⟨#[93]⟩ : ByteArray).size = 1 := rfl
  go_enter Tryz.func37, Tryz.ntmps37
  go_wp2_with (at_make; refine wpList_make_full _ rfl (.tmp 7) (.tmp 7) 23 rfl 0 9 i9 (.string ByteArray.empty) 1 Tryz.underlying23 HI9.out.1 HI9.out.2.1 HI9.out.2.2 .i64 .i64 n n n rfl rfl rfl rfl HQ2.out (by unfold maxLen; omega) (Nat.zero_le _) ?_)
  intro w1 R1 G1
  have hlt1 : w.heap.size < w1.heap.size := (World.ownsRow.lt R1 w.heap.size (by simp [Value.ownBlock])).2
  have HP : Hid (Qn w1 w.heap.size n 0 f) := Qn.made f hlt1 (by rw [Nat.mul_one]; exact R1)
  have HK : Hid (Keep [] w w1) := Keep.ofBelow ⟨G1.os, G1.tape, G1.output, G1.size, fun k hk => G1.block k hk (by simp)⟩
  clear R1 G1 hlt1
  obtain ⟨g, HG⟩ : ∃ g, Hid (g = w.heap.size) := ⟨_, show _ = _ from rfl⟩
  rw [← HG.out] at HP ⊢
  have hni : (n : Int) ≤ 32 := by omega
  go_wp2
  go_loopw [11] (fun i wr => ∃ k : Nat, k ≤ n ∧ i = .int .i64 k ∧ Hid (Qn wr g n k f ∧ Keep [] w wr)) (fun i _ => n - (intOf i).toNat)
  case atStart => exact ⟨0, by omega, rfl, ⟨HP.out, HK.out⟩⟩
  case round =>
    clear HP HK
    obtain ⟨k, hk, rfl, HI⟩ := hrel
    by_cases hkn : k < n
    · have hkt : k < ts.length := by rw [HN.out]; exact hkn
      obtain ⟨b, o, rfl, hc⟩ := H4.out (fun h => by rw [h] at hkt; simp at hkt)
      have m0 : wr.cell? ⟨b, o + k, none⟩ = some (.string ts[k]) := HI.out.2.cell' (hc k hkt) (by simp)
      have hA := HQ.out k hkt
      have hki : (k : Int) < (n : Int) := by omega
      clear hc H4 HQ
      generalize ts[k] = tk at *
      go_wp2_with fail
      refine (hA _).mono ?_
      rintro e9 w9 ⟨rfl, K9⟩
      have HP9 : Hid (Qn w9 g n k f) := HI.out.1.keep K9 (by simp)
      have HK9 : Hid (Keep [] w w9) := HI.out.2.trans' K9
      obtain ⟨x0, p0⟩ := HP9.out.rest k hkn
      have pz := HP9.out.fz k
      clear K9 m0 hA
      go_wp2
      go_roundw
      case rel => exact ⟨k + 1, by omega, by go_num, ⟨HP9.out.set hkn, HK9.out.more ((Keep.refl [g] w9).setCell (p := ⟨g, k, none⟩) (.inl (by simp)) _) (fun z hz => .inr (by simp at hz; rw [hz, HG.out]; exact Nat.le_refl _))⟩⟩
      case measure => simp [intOf]; omega
    · obtain rfl : k = n := by omega
      have hJ := HJ.out wr g HI.out.1
      clear HJ H4 HQ
      go_wp2_with fail
      refine hJ.mono ?_
      rintro e9 w9 ⟨rfl, K9⟩
      have HK9 : Hid (Keep [] w w9) := HI.out.2.trans' K9
      clear K9 hJ
      go_wp2
      go_ret
      exact ⟨rfl, HK9.out⟩
end Go.Proofs.YtjdihnkcigoajaaGreatDoor

/- What a value's bytes are; held, write, Encode. -/
namespace Go.Proofs.YtjdihnkcigoajaaGreatDoor
open Go.RowKit Go.PlainAid Go.Lib

def vtextB (s : ByteArray) : List UInt8 := uvarint s.size ++ s.data.toList
def textsB (l : List ByteArray) : List UInt8 := l.flatMap vtextB
/-- what stands behind the kind -/
def bodyL (x : VD) : List UInt8 :=
  if x.kind = 1 then [if x.bool then 1 else 0] else if x.kind = 2 then uvarint (zigzag x.int) else if x.kind = 3 then four (keyN x.real) else if x.kind = 4 then vtextB x.text else uvarint x.texts.length ++ textsB x.texts
/-- a value's bytes -/
def encL (x : VD) : List UInt8 := x.kind.toNat.toUInt8 :: bodyL x

theorem held_1 (x : VD) (h : x.kind = 1) (u : Value) (hu : ∃ a n c, u = .slice a n c) (w : World) : Calls Tryz.prog 17 #[x.val u] w fun e w' => e = .returned (.iface 4 (.bool x.bool)) ∧ Keep [] w w' := by
  obtain ⟨a, n, c, rfl⟩ := hu
  have k1 : (x.kind == 1) = true := by simpa using h
  clear h
  go_enter Tryz.func17, Tryz.ntmps17
  go_wp2
  go_ret
  exact ⟨rfl, Keep.alloc1 _ _⟩
end Go.Proofs.YtjdihnkcigoajaaGreatDoor


/- What an interface holds is told: the type switch's steps. -/
namespace Go.Proofs.YtjdihnkcigoajaaGreatDoor
open Go.RowKit Go.PlainAid Go.Lib

theorem ta_4_4 (v : Value) (w : World) : (Instr.typeAssert (.iface 4 v) 20 4 true).run Tryz.prog w = .ok (.tuple #[v, .bool true]) w := by
  simp [Instr.typeAssert, run_underlying Tryz.underlying4, go_sem, Result.andThen]
theorem ta_2_4 (v : Value) (w : World) : (Instr.typeAssert (.iface 2 v) 20 4 true).run Tryz.prog w = .ok (.tuple #[.bool false, .bool false]) w := by
  have hz : (zeroValue 4).run Tryz.prog w = .ok (.bool false) w := by kernel_rfl
  simp [Instr.typeAssert, run_underlying Tryz.underlying4, go_sem, Result.andThen, hz]
theorem ta_2_2 (v : Value) (w : World) : (Instr.typeAssert (.iface 2 v) 20 2 true).run Tryz.prog w = .ok (.tuple #[v, .bool true]) w := by
  simp [Instr.typeAssert, run_underlying Tryz.underlying2, go_sem, Result.andThen]
theorem ta_26_4 (v : Value) (w : World) : (Instr.typeAssert (.iface 22 v) 20 4 true).run Tryz.prog w = .ok (.tuple #[.bool false, .bool false]) w := by
  have hz : (zeroValue 4).run Tryz.prog w = .ok (.bool false) w := by kernel_rfl
  simp [Instr.typeAssert, run_underlying Tryz.underlying4, go_sem, Result.andThen, hz]
theorem ta_26_2 (v : Value) (w : World) : (Instr.typeAssert (.iface 22 v) 20 2 true).run Tryz.prog w = .ok (.tuple #[.int .i64 0, .bool false]) w := by
  have hz : (zeroValue 2).run Tryz.prog w = .ok (.int .i64 0) w := by kernel_rfl
  simp [Instr.typeAssert, run_underlying Tryz.underlying2, go_sem, Result.andThen, hz]
theorem ta_26_26 (v : Value) (w : World) : (Instr.typeAssert (.iface 22 v) 20 22 true).run Tryz.prog w = .ok (.tuple #[v, .bool true]) w := by
  simp [Instr.typeAssert, run_underlying Tryz.underlying22, go_sem, Result.andThen]
theorem ta_9_4 (v : Value) (w : World) : (Instr.typeAssert (.iface 9 v) 20 4 true).run Tryz.prog w = .ok (.tuple #[.bool false, .bool false]) w := by
  have hz : (zeroValue 4).run Tryz.prog w = .ok (.bool false) w := by kernel_rfl
  simp [Instr.typeAssert, run_underlying Tryz.underlying4, go_sem, Result.andThen, hz]
theorem ta_9_2 (v : Value) (w : World) : (Instr.typeAssert (.iface 9 v) 20 2 true).run Tryz.prog w = .ok (.tuple #[.int .i64 0, .bool false]) w := by
  have hz : (zeroValue 2).run Tryz.prog w = .ok (.int .i64 0) w := by kernel_rfl
  simp [Instr.typeAssert, run_underlying Tryz.underlying2, go_sem, Result.andThen, hz]
theorem ta_9_26 (v : Value) (w : World) : (Instr.typeAssert (.iface 9 v) 20 22 true).run Tryz.prog w = .ok (.tuple #[.float .f32 0, .bool false]) w := by
  have hz : (zeroValue 22).run Tryz.prog w = .ok (.float .f32 0) w := by kernel_rfl
  simp [Instr.typeAssert, run_underlying Tryz.underlying22, go_sem, Result.andThen, hz]
theorem ta_9_9 (v : Value) (w : World) : (Instr.typeAssert (.iface 9 v) 20 9 true).run Tryz.prog w = .ok (.tuple #[v, .bool true]) w := by
  simp [Instr.typeAssert, run_underlying Tryz.underlying9, go_sem, Result.andThen]
theorem ta_24_4 (v : Value) (w : World) : (Instr.typeAssert (.iface 23 v) 20 4 true).run Tryz.prog w = .ok (.tuple #[.bool false, .bool false]) w := by
  have hz : (zeroValue 4).run Tryz.prog w = .ok (.bool false) w := by kernel_rfl
  simp [Instr.typeAssert, run_underlying Tryz.underlying4, go_sem, Result.andThen, hz]
theorem ta_24_2 (v : Value) (w : World) : (Instr.typeAssert (.iface 23 v) 20 2 true).run Tryz.prog w = .ok (.tuple #[.int .i64 0, .bool false]) w := by
  have hz : (zeroValue 2).run Tryz.prog w = .ok (.int .i64 0) w := by kernel_rfl
  simp [Instr.typeAssert, run_underlying Tryz.underlying2, go_sem, Result.andThen, hz]
theorem ta_24_26 (v : Value) (w : World) : (Instr.typeAssert (.iface 23 v) 20 22 true).run Tryz.prog w = .ok (.tuple #[.float .f32 0, .bool false]) w := by
  have hz : (zeroValue 22).run Tryz.prog w = .ok (.float .f32 0) w := by kernel_rfl
  simp [Instr.typeAssert, run_underlying Tryz.underlying22, go_sem, Result.andThen, hz]
theorem ta_24_9 (v : Value) (w : World) : (Instr.typeAssert (.iface 23 v) 20 9 true).run Tryz.prog w = .ok (.tuple #[.string ⟨#[]⟩, .bool false]) w := by
  have hz : (zeroValue 9).run Tryz.prog w = .ok (.string ⟨#[]⟩) w := by kernel_rfl
  simp [Instr.typeAssert, run_underlying Tryz.underlying9, go_sem, Result.andThen, hz]
theorem ta_24_24 (v : Value) (w : World) : (Instr.typeAssert (.iface 23 v) 20 23 true).run Tryz.prog w = .ok (.tuple #[v, .bool true]) w := by
  simp [Instr.typeAssert, run_underlying Tryz.underlying23, go_sem, Result.andThen]
end Go.Proofs.YtjdihnkcigoajaaGreatDoor

