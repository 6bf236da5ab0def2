/- Texts and lists of texts: their order, byte by byte and text by text. -/
import Derived.Test.YtplbclokoffgkaaGreatDoorCmpN
import Derived.Lib.Bytealg
import Derived.Deep.QuietTactic
import Derived.BigQuiet
namespace Go.Proofs.YtplbclokoffgkaaGreatDoor
open Go.RowKit Go.PlainAid Go.Lib

def cmpT (a b : List UInt8) : Int := Lib.compareBytes a b

structure Ord3 {α : Type} (f : α → α → Int) : Prop where
  range : ∀ a b, f a b = -1 ∨ f a b = 0 ∨ f a b = 1
  anti : ∀ a b, f b a = - f a b
  same : ∀ a b, f a b = 0 ↔ a = b
  trans : ∀ a b c, f a b = -1 → f b c = -1 → f a c = -1

theorem cmpT_cons (x y : UInt8) (a b : List UInt8) : cmpT (x :: a) (y :: b) = if x < y then -1 else if y < x then 1 else cmpT a b := by unfold cmpT; rw [Lib.compareBytes]
theorem ord_cmpT : Ord3 cmpT := by
  refine ⟨?_, ?_, ?_, ?_⟩
  · intro a
    induction a with
    | nil => intro b; cases b <;> simp [cmpT, Lib.compareBytes]
    | cons x a ih =>
      intro b
      cases b with
      | nil => simp [cmpT, Lib.compareBytes]
      | cons y b =>
        rw [cmpT_cons]
        split
        · exact .inl rfl
        · split
          · exact .inr (.inr rfl)
          · exact ih b
  · intro a
    induction a with
    | nil => intro b; cases b <;> simp [cmpT, Lib.compareBytes]
    | cons x a ih =>
      intro b
      cases b with
      | nil => simp [cmpT, Lib.compareBytes]
      | cons y b =>
        rw [cmpT_cons, cmpT_cons, ih b]
        have h1 : ¬ (x < y ∧ y < x) := by rw [UInt8.lt_iff_toNat_lt, UInt8.lt_iff_toNat_lt]; omega
        by_cases p : x < y <;> by_cases q : y < x <;> simp [p, q]
        exact absurd ⟨p, q⟩ h1
  · intro a
    induction a with
    | nil => intro b; cases b <;> simp [cmpT, Lib.compareBytes]
    | cons x a ih =>
      intro b
      cases b with
      | nil => simp [cmpT, Lib.compareBytes]
      | cons y b =>
        rw [cmpT_cons]
        by_cases p : x < y
        · have : x ≠ y := fun e => by subst e; exact absurd p (UInt8.lt_irrefl x)
          simp [p, this]
        · by_cases q : y < x
          · have : x ≠ y := fun e => by subst e; exact absurd q (UInt8.lt_irrefl x)
            simp [p, q, this]
          · have : x = y := by
              rw [UInt8.lt_iff_toNat_lt] at p q
              exact UInt8.toNat_inj.1 (by omega)
            simp [this, ih b]
  · intro a
    induction a with
    | nil =>
      intro b c h1 h2
      cases c with
      | nil =>
        cases b with
        | nil => exact h2
        | cons y b => simp [cmpT, Lib.compareBytes] at h2
      | cons z c => simp [cmpT, Lib.compareBytes]
    | cons x a ih =>
      intro b c h1 h2
      cases b with
      | nil => simp [cmpT, Lib.compareBytes] at h1
      | cons y b =>
        cases c with
        | nil => simp [cmpT, Lib.compareBytes] at h2
        | cons z c =>
          rw [cmpT_cons] at h1 h2 ⊢
          simp only [UInt8.lt_iff_toNat_lt] at *
          by_cases p : x.toNat < y.toNat
          · by_cases q : y.toNat < z.toNat
            · rw [if_pos (by omega)]
            · rw [if_neg q] at h2
              by_cases r : z.toNat < y.toNat
              · rw [if_pos r] at h2; exact absurd h2 (by decide)
              · rw [if_pos (by omega)]
          · rw [if_neg p] at h1
            by_cases r : y.toNat < x.toNat
            · rw [if_pos r] at h1; exact absurd h1 (by decide)
            · rw [if_neg r] at h1
              by_cases q : y.toNat < z.toNat
              · rw [if_pos (by omega)]
              · rw [if_neg q] at h2
                by_cases u : z.toNat < y.toNat
                · rw [if_pos u] at h2; exact absurd h2 (by decide)
                · rw [if_neg u] at h2
                  rw [if_neg (by omega), if_neg (by omega)]
                  exact ih b c h1 h2


/-- lists by their first elements that differ; a beginning is below -/
def lexL {α : Type} (f : α → α → Int) : List α → List α → Int
  | [], [] => 0
  | [], _ :: _ => -1
  | _ :: _, [] => 1
  | x :: a, y :: b => if f x y = 0 then lexL f a b else f x y

theorem ord_lexL {α : Type} {f : α → α → Int} (h : Ord3 f) : Ord3 (lexL f) := by
  refine ⟨?_, ?_, ?_, ?_⟩
  · intro a
    induction a with
    | nil => intro b; cases b <;> simp [lexL]
    | cons x a ih =>
      intro b
      cases b with
      | nil => simp [lexL]
      | cons y b =>
        rw [lexL]
        split
        · exact ih b
        · exact h.range x y
  · intro a
    induction a with
    | nil => intro b; cases b <;> simp [lexL]
    | cons x a ih =>
      intro b
      cases b with
      | nil => simp [lexL]
      | cons y b =>
        rw [lexL, lexL, h.anti x y, ih b]
        by_cases e : f x y = 0
        · rw [if_pos (by omega), if_pos e]
        · rw [if_neg (by omega), if_neg e]
  · intro a
    induction a with
    | nil => intro b; cases b <;> simp [lexL]
    | cons x a ih =>
      intro b
      cases b with
      | nil => simp [lexL]
      | cons y b =>
        rw [lexL]
        by_cases e : f x y = 0
        · rw [if_pos e, ih b, (h.same x y).1 e]
          simp
        · rw [if_neg e]
          constructor
          · exact fun h => absurd h e
          · intro hc
            simp at hc
            exact absurd ((h.same x y).2 hc.1) e
  · intro a
    induction a with
    | nil =>
      intro b c h1 h2
      cases c with
      | nil =>
        cases b with
        | nil => exact h2
        | cons y b => simp [lexL] at h2
      | cons z c => simp [lexL]
    | cons x a ih =>
      intro b c h1 h2
      cases b with
      | nil => simp [lexL] at h1
      | cons y b =>
        cases c with
        | nil => simp [lexL] at h2
        | cons z c =>
          rw [lexL] at h1 h2 ⊢
          by_cases e1 : f x y = 0
          · rw [if_pos e1] at h1
            have hxy := (h.same x y).1 e1
            subst hxy
            by_cases e2 : f x z = 0
            · rw [if_pos e2] at h2 ⊢
              exact ih b c h1 h2
            · rw [if_neg e2] at h2 ⊢
              exact h2
          · rw [if_neg e1] at h1
            by_cases e2 : f y z = 0
            · have hyz := (h.same y z).1 e2
              subst hyz
              rw [if_neg e1]
              exact h1
            · rw [if_neg e2] at h2
              have h3 := h.trans x y z h1 h2
              rw [if_neg (by omega)]
              exact h3

set_option maxHeartbeats 400000 in
set_option maxRecDepth 100000 in
theorem cmpString_any (a b : ByteArray) (w : World) :
    Calls Tryz.prog 93 #[.string a, .string b] w fun e w' => e = .returned (.int .i64 (cmpT a.toList b.toList)) ∧ w' = w := by
  go_enter Tryz.func93, Tryz.ntmps93
  go_wp2
  rw [run_callFunc_extern Tryz.func125 (by kernel_rfl) (by kernel_rfl) (by kernel_rfl) (e := Extern.BytealgCompare.compare) (by kernel_rfl), Lib.run_compareString]
  simp only [Result.andThen]
  rw [Oper.upon_value]
  go_wp2
  go_ret
  refine ⟨?_, rfl⟩
  show Ending.returned (Value.int .i64 _) = _
  unfold cmpT
  rw [ByteArray.toList_eq, ByteArray.toList_eq]

set_option maxHeartbeats 400000 in
theorem strCmp_any (a b : ByteArray) (w : World) :
    Calls Tryz.prog 71 #[.string a, .string b] w fun e w' => e = .returned (.int .i64 (cmpT a.toList b.toList)) ∧ w' = w := by
  go_enter Tryz.func71, Tryz.ntmps71
  go_wp2_with (go_at_call 93; refine (cmpString_any _ _ _).mono ?_; rintro e w9 ⟨rfl, hw⟩; obtain rfl := hw.symm)
  go_ret
  exact ⟨rfl, rfl⟩

theorem less_cmp (a : List UInt8) : ∀ b, Op.bytesLess a b = decide (cmpT a b = -1) := by
  induction a with
  | nil => intro b; cases b <;> simp [Op.bytesLess, cmpT, Lib.compareBytes]
  | cons x a ih =>
    intro b
    cases b with
    | nil => simp [Op.bytesLess, cmpT, Lib.compareBytes]
    | cons y b =>
      rw [cmpT_cons, Op.bytesLess]
      by_cases p : x < y
      · simp [p]
      · by_cases q : y < x
        · have hne : (x == y) = false := by
            rw [beq_eq_false_iff_ne]
            intro e
            subst e
            exact absurd q (UInt8.lt_irrefl x)
          simp [p, q, hne]
        · have he : x = y := by
            rw [UInt8.lt_iff_toNat_lt] at p q
            exact UInt8.toNat_inj.1 (by omega)
          subst he
          simp [p, ih b]

/-- lists of texts -/
def cmpL (a b : List ByteArray) : Int := lexL cmpT (a.map ByteArray.toList) (b.map ByteArray.toList)
theorem cmpL_at (a b : List ByteArray) (k : Nat) (h1 : k < a.length) (h2 : k < b.length) :
    cmpL (a.drop k) (b.drop k) = if cmpT a[k].toList b[k].toList = 0 then cmpL (a.drop (k + 1)) (b.drop (k + 1)) else cmpT a[k].toList b[k].toList := by
  unfold cmpL
  rw [List.drop_eq_getElem_cons h1, List.drop_eq_getElem_cons h2]
  rfl
theorem cmpL_right (a b : List ByteArray) (k : Nat) (h1 : k < a.length) (h2 : b.length ≤ k) : cmpL (a.drop k) (b.drop k) = 1 := by
  unfold cmpL
  rw [List.drop_eq_getElem_cons h1, List.drop_of_length_le h2]
  rfl
theorem cmpL_left (a b : List ByteArray) (k : Nat) (h1 : a.length ≤ k) : cmpL (a.drop k) (b.drop k) = if k < b.length then -1 else 0 := by
  unfold cmpL
  rw [List.drop_of_length_le h1]
  by_cases h : k < b.length
  · rw [List.drop_eq_getElem_cons h, if_pos h]
    rfl
  · rw [List.drop_of_length_le (by omega), if_neg h]
    rfl

end Go.Proofs.YtplbclokoffgkaaGreatDoor


