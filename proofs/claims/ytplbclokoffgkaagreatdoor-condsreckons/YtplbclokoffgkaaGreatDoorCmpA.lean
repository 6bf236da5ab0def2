/- Texts and lists of texts: their order, byte by byte and text by text. -/
import Derived.Test.YtplbclokoffgkaaGreatDoorCmpN
import Derived.Lib.Bytealg
import Derived.Deep.QuietTactic
import Derived.BigQuiet

namespace Go.Proofs.YtplbclokoffgkaaGreatDoor
open Go.RowKit Go.PlainAid Go.Lib

def cmpT (a b : List UInt8) : Int := Lib.compareBytes a b

structure Ord3 {α : Type} (f : α → α → Int) : Prop where
  range : ∀ a b, f a b = -1 ∨ f a b = 0 ∨ f a b = 1
  anti : ∀ a b, f b a = - f a b
  same : ∀ a b, f a b = 0 ↔ a = b
  trans : ∀ a b c, f a b = -1 → f b c = -1 → f a c = -1

theorem cmpT_cons (x y : UInt8) (a b : List UInt8) : cmpT (x :: a) (y :: b) = if x < y then -1 else if y < x then 1 else cmpT a b := by unfold cmpT; rw [Lib.compareBytes]
theorem ord_cmpT : Ord3 cmpT := by
  refine ⟨?_, ?_, ?_, ?_⟩
  · intro a
    induction a with
    | nil => intro b; cases b <;> simp [cmpT, Lib.compareBytes]
    | cons x a ih =>
      intro b
      cases b with
      | nil => simp [cmpT, Lib.compareBytes]
      | cons y b =>
        rw [cmpT_cons]
        split
        · exact .inl rfl
        · split
          · exact .inr (.inr rfl)
          · exact ih b
  · intro a
    induction a with
    | nil => intro b; cases b <;> simp [cmpT, Lib.compareBytes]
    | cons x a ih =>
      intro b
      cases b with
      | nil => simp [cmpT, Lib.compareBytes]
      | cons y b =>
        rw [cmpT_cons, cmpT_cons, ih b]
        have h1 : ¬ (x < y ∧ y < x) := by rw [UInt8.lt_iff_toNat_lt, UInt8.lt_iff_toNat_lt]; omega
        by_cases p : x < y <;> by_cases q : y < x <;> simp [p, q]
        exact absurd ⟨p, q⟩ h1
  · intro a
    induction a with
    | nil => intro b; cases b <;> simp [cmpT, Lib.compareBytes]
    | cons x a ih =>
      intro b
      cases b with
      | nil => simp [cmpT, Lib.compareBytes]
      | cons y b =>
        rw [cmpT_cons]
        by_cases p : x < y
        · have : x ≠ y := fun e => by subst e; exact absurd p (UInt8.lt_irrefl x)
          simp [p, this]
        · by_cases q : y < x
          · have : x ≠ y := fun e => by subst e; exact absurd q (UInt8.lt_irrefl x)
            simp [p, q, this]
          · have : x = y := by
              rw [UInt8.lt_iff_toNat_lt] at p q
              exact UInt8.toNat_inj.1 (by omega)
            simp [this, ih b]
  · intro a
    induction a with
    | nil =>
      intro b c h1 h2
      cases c with
      | nil =>
        cases b with
        | nil => exact h2
        | cons y b => simp [cmpT, Lib.compareBytes] at h2
      | cons z c => simp [cmpT, Lib.compareBytes]
    | cons x a ih =>
      intro b c h1 h2
      cases b with
      | nil => simp [cmpT, Lib.compareBytes] at h1
      | cons y b =>
        cases c with
        | nil => simp [cmpT, Lib.compareBytes] at h2
        | cons z c =>
          rw [cmpT_cons] at h1 h2 ⊢
          simp only [UInt8.lt_iff_toNat_lt] at *
          by_cases p : x.toNat < y.toNat
          · by_cases q : y.toNat < z.toNat
            · rw [if_pos (by omega)]
            · rw [if_neg q] at h2
              by_cases r : z.toNat < y.toNat
              · rw [if_pos r] at h2; exact absurd h2 (by decide)
              · rw [if_pos (by omega)]
          · rw [if_neg p] at h1
            by_cases r : y.toNat < x.toNat
            · rw [if_pos r] at h1; exact absurd h1 (by decide)
            · rw [if_neg r] at h1
              by_cases q : y.toNat < z.toNat
              · rw [if_pos (by omega)]
              · rw [if_neg q] at h2
                by_cases u : z.toNat < y.toNat
                · rw [if_pos u] at h2; exact absurd h2 (by decide)
                · rw [if_neg u] at h2
                  rw [if_neg (by omega), if_neg (by omega)]
                  exact ih b c h1 h2


/-- lists by their first elements that differ; a beginning is below -/
def lexL {α : Type} (f : α → α → Int) : List α → List α → Int
  | [], [] => 0
  | [], _ :: _ => -1
  | _ :: _, [] => 1
  | x :: a, y :: b => if f x y = 0 then lexL f a b else f x y

theorem ord_lexL {α : Type} {f : α → α → Int} (h : Ord3 f) : Ord3 (lexL f) := by
  refine ⟨?_, ?_, ?_, ?_⟩
  · intro a
    induction a with
    | nil => intro b; cases b <;> simp [lexL]
    | cons x a ih =>
      intro b
      cases b with
      | nil => simp [lexL]
      | cons y b =>
        rw [lexL]
        split
        · exact ih b
        · exact h.range x y
  · intro a
    induction a with
    | nil => intro b; cases b <;> simp [lexL]
    | cons x a ih =>
      intro b
      cases b with
      | nil => simp [lexL]
      | cons y b =>
        rw [lexL, lexL, h.anti x y, ih b]
        by_cases e : f x y = 0
        · rw [if_pos (by omega), if_pos e]
        · rw [if_neg (by omega), if_neg e]
  · intro a
    induction a with
    | nil => intro b; cases b <;> simp [lexL]
    | cons x a ih =>
      intro b
      cases b with
      | nil => simp [lexL]
      | cons y b =>
        rw [lexL]
        by_cases e : f x y = 0
        · rw [if_pos e, ih b, (h.same x y).1 e]
          simp
        · rw [if_neg e]
          constructor
          · exact fun h => absurd h e
          · intro hc
            simp at hc
            exact absurd ((h.same x y).2 hc.1) e
  · intro a
    induction a with
    | nil =>
      intro b c h1 h2
      cases c with
      | nil =>
        cases b with
        | nil => exact h2
        | cons y b => simp [lexL] at h2
      | cons z c => simp [lexL]
    | cons x a ih =>
      intro b c h1 h2
      cases b with
      | nil => simp [lexL] at h1
      | cons y b =>
        cases c with
        | nil => simp [lexL] at h2
        | cons z c =>
          rw [lexL] at h1 h2 ⊢
          by_cases e1 : f x y = 0
          · rw [if_pos e1] at h1
            have hxy := (h.same x y).1 e1
            subst hxy
            by_cases e2 : f x z = 0
            · rw [if_pos e2] at h2 ⊢
              exact ih b c h1 h2
            · rw [if_neg e2] at h2 ⊢
              exact h2
          · rw [if_neg e1] at h1
            by_cases e2 : f y z = 0
            · have hyz := (h.same y z).1 e2
              subst hyz
              rw [if_neg e1]
              exact h1
            · rw [if_neg e2] at h2
              have h3 := h.trans x y z h1 h2
              rw [if_neg (by omega)]
              exact h3

set_option maxHeartbeats 400000 in
set_option maxRecDepth 100000 in
theorem cmpString_any (a b : ByteArray) (w : World) :
    Calls Tryz.prog 93 #[.string a, .string b] w fun e w' => e = .returned (.int .i64 (cmpT a.toList b.toList)) ∧ w' = w := by
  go_enter Tryz.func93, Tryz.ntmps93
  go_wp2
  rw [run_callFunc_extern Tryz.func125 (by kernel_rfl) (by kernel_rfl) (by kernel_rfl) (e := Extern.BytealgCompare.compare) (by kernel_rfl), Lib.run_compareString]
  simp only [Result.andThen]
  rw [Oper.upon_value]
  go_wp2
  go_ret
  refine ⟨?_, rfl⟩
  show Ending.returned (Value.int .i64 _) = _
  unfold cmpT
  rw [ByteArray.toList_eq, ByteArray.toList_eq]

set_option maxHeartbeats 400000 in
theorem strCmp_any (a b : ByteArray) (w : World) :
    Calls Tryz.prog 71 #[.string a, .string b] w fun e w' => e = .returned (.int .i64 (cmpT a.toList b.toList)) ∧ w' = w := by
  go_enter Tryz.func71, Tryz.ntmps71
  go_wp2_with (go_at_call 93; refine (cmpString_any _ _ _).mono ?_; rintro e w9 ⟨rfl, hw⟩; obtain rfl := hw.symm)
  go_ret
  exact ⟨rfl, rfl⟩

theorem less_cmp (a : List UInt8) : ∀ b, Op.bytesLess a b = decide (cmpT a b = -1) := by
  induction a with
  | nil => intro b; cases b <;> simp [Op.bytesLess, cmpT, Lib.compareBytes]
  | cons x a ih =>
    intro b
    cases b with
    | nil => simp [Op.bytesLess, cmpT, Lib.compareBytes]
    | cons y b =>
      rw [cmpT_cons, Op.bytesLess]
      by_cases p : x < y
      · simp [p]
      · by_cases q : y < x
        · have hne : (x == y) = false := by
            rw [beq_eq_false_iff_ne]
            intro e
            subst e
            exact absurd q (UInt8.lt_irrefl x)
          simp [p, q, hne]
        · have he : x = y := by
            rw [UInt8.lt_iff_toNat_lt] at p q
            exact UInt8.toNat_inj.1 (by omega)
          subst he
          simp [p, ih b]

/-- lists of texts -/
def cmpL (a b : List ByteArray) : Int := lexL cmpT (a.map ByteArray.toList) (b.map ByteArray.toList)
theorem cmpL_at (a b : List ByteArray) (k : Nat) (h1 : k < a.length) (h2 : k < b.length) :
    cmpL (a.drop k) (b.drop k) = if cmpT a[k].toList b[k].toList = 0 then cmpL (a.drop (k + 1)) (b.drop (k + 1)) else cmpT a[k].toList b[k].toList := by
  unfold cmpL
  rw [List.drop_eq_getElem_cons h1, List.drop_eq_getElem_cons h2]
  rfl
theorem cmpL_right (a b : List ByteArray) (k : Nat) (h1 : k < a.length) (h2 : b.length ≤ k) : cmpL (a.drop k) (b.drop k) = 1 := by
  unfold cmpL
  rw [List.drop_eq_getElem_cons h1, List.drop_of_length_le h2]
  rfl
theorem cmpL_left (a b : List ByteArray) (k : Nat) (h1 : a.length ≤ k) : cmpL (a.drop k) (b.drop k) = if k < b.length then -1 else 0 := by
  unfold cmpL
  rw [List.drop_of_length_le h1]
  by_cases h : k < b.length
  · rw [List.drop_eq_getElem_cons h, if_pos h]
    rfl
  · rw [List.drop_of_length_le (by omega), if_neg h]
    rfl

end Go.Proofs.YtplbclokoffgkaaGreatDoor



/- Values held against one another: Compare, for every two values. -/
namespace Go.Proofs.YtplbclokoffgkaaGreatDoor
open Go.RowKit Go.PlainAid Go.Lib

def b2i (b : Bool) : Int := if b then 1 else 0
theorem bit_any (b : Bool) (w : World) : Calls Tryz.prog 127 #[.bool b] w fun e w' => e = .returned (.int .u8 (b2i b)) ∧ w' = w := by
  cases b
  all_goals
    go_enter Tryz.func127, Tryz.ntmps127
    go_wp2
    go_ret
    exact ⟨rfl, rfl⟩
def cmpR (a b : Nat) : Int × Bool := if nanB a || nanB b then (0, false) else (cmpI (svalZ a) (svalZ b), true)
/-- two values of one kind -/
def likeV (a b : VD) : Int × Bool :=
  if a.kind = 1 then (cmpI (b2i a.bool) (b2i b.bool), true) else if a.kind = 2 then (cmpI a.int b.int, true) else if a.kind = 3 then cmpR a.real b.real
  else if a.kind = 4 then (cmpT a.text.toList b.text.toList, true) else (cmpL a.texts b.texts, true)

end Go.Proofs.YtplbclokoffgkaaGreatDoor



/- Compare, for every two values. -/
namespace Go.Proofs.YtplbclokoffgkaaGreatDoor
open Go.RowKit Go.PlainAid Go.Lib

theorem two_cells {w w1 : World} {v0 v1 v2 v3 v4 v5 u0 u1 u2 u3 u4 u5 : Value} {t t' : TypeId} (k : Keep [] ((w.alloc (.cells #[v0, v1, v2, v3, v4, v5] t)).alloc (.cells #[u0, u1, u2, u3, u4, u5] t')) w1) :
    (w1.cell? ⟨w.heap.size, 0, none⟩ = some v0 ∧ w1.cell? ⟨w.heap.size, 1, none⟩ = some v1 ∧ w1.cell? ⟨w.heap.size, 2, none⟩ = some v2 ∧ w1.cell? ⟨w.heap.size, 3, none⟩ = some v3 ∧ w1.cell? ⟨w.heap.size, 4, none⟩ = some v4 ∧ w1.cell? ⟨w.heap.size, 5, none⟩ = some v5) ∧
    (w1.cell? ⟨w.heap.size + 1, 0, none⟩ = some u0 ∧ w1.cell? ⟨w.heap.size + 1, 1, none⟩ = some u1 ∧ w1.cell? ⟨w.heap.size + 1, 2, none⟩ = some u2 ∧ w1.cell? ⟨w.heap.size + 1, 3, none⟩ = some u3 ∧ w1.cell? ⟨w.heap.size + 1, 4, none⟩ = some u4 ∧ w1.cell? ⟨w.heap.size + 1, 5, none⟩ = some u5) := by
  refine ⟨⟨k.cell' ?_ (by simp), k.cell' ?_ (by simp), k.cell' ?_ (by simp), k.cell' ?_ (by simp), k.cell' ?_ (by simp), k.cell' ?_ (by simp)⟩, ⟨k.cell' ?_ (by simp), k.cell' ?_ (by simp), k.cell' ?_ (by simp), k.cell' ?_ (by simp), k.cell' ?_ (by simp), k.cell' ?_ (by simp)⟩⟩ <;> simp [go_sem]

theorem check_yes (p : VD) (hp : p.Ok) (u : Value) (w : World) (hu : Ts w u p.texts) (h : p.mayB = true) : Calls Tryz.prog 42 #[p.val u] w fun e w' => e = .returned (.int .i64 0) ∧ Keep [] w w' := by
  have := check_any p hp u w hu
  rw [h] at this
  exact this
theorem check_no (p : VD) (hp : p.Ok) (u : Value) (w : World) (hu : Ts w u p.texts) (h : p.mayB = false) : Calls Tryz.prog 42 #[p.val u] w fun e w' => e = .returned (.int .i64 40) ∧ Keep [] w w' := by
  have := check_any p hp u w hu
  rw [h] at this
  exact this

set_option maxRecDepth 100000 in
set_option maxHeartbeats 3200000 in
theorem mayBoth_any (a b : VD) (ha : a.Ok) (hb : b.Ok) (u v : Value) (w : World) (hu : Ts w u a.texts) (hv : Ts w v b.texts) :
    Calls Tryz.prog 77 #[a.val u, b.val v] w fun e w' => e = .returned (.bool (a.mayB && b.mayB)) ∧ Keep [] w w' := by
  have hU := hu
  have hV := hv
  obtain ⟨ao, ca, rfl, _, _, _, _⟩ := hu.ex
  obtain ⟨bo, cb, rfl, _, _, _, _⟩ := hv.ex
  clear hu hv
  have k0 : Keep [] w ((w.alloc (a.blk (.slice ao a.texts.length ca))).alloc (b.blk (.slice bo b.texts.length cb))) := (Keep.alloc1 w _).alloc _
  have HK0 : Hid (Keep [] w ((w.alloc (a.blk (.slice ao a.texts.length ca))).alloc (b.blk (.slice bo b.texts.length cb)))) := k0
  cases h1 : a.mayB
  · have hC := check_no a ha _ _ (hU.keep k0 (Off.nil _)) h1
    clear k0 hU hV
    go_enter Tryz.func77, Tryz.ntmps77
    go_wp2_with fail
    refine hC.mono ?_
    rintro e1 w1 ⟨rfl, k1⟩
    have HK1 : Hid (Keep [] w w1) := HK0.out.trans' k1
    clear k1 hC
    go_wp2
    go_ret
    exact ⟨rfl, HK1.out⟩
  · have hC := check_yes a ha _ _ (hU.keep k0 (Off.nil _)) h1
    cases h2 : b.mayB
    · have hD : ∀ w1, Keep [] w w1 → _ := fun w1 k => check_no b hb _ w1 (hV.keep k (Off.nil _)) h2
      clear k0 hU hV
      go_enter Tryz.func77, Tryz.ntmps77
      go_wp2_with fail
      refine hC.mono ?_
      rintro e1 w1 ⟨rfl, k1⟩
      obtain ⟨⟨c0, c1, c2, c3, c4, c5⟩, ⟨d0, d1, d2, d3, d4, d5⟩⟩ := two_cells k1
      have HK1 : Hid (Keep [] w w1) := HK0.out.trans' k1
      clear k1 hC
      go_wp2_with fail
      refine (hD _ HK1.out).mono ?_
      rintro e2 w2 ⟨rfl, k2⟩
      have HK2 : Hid (Keep [] w w2) := HK1.out.trans' k2
      clear k2 hD
      go_wp2
      go_ret
      exact ⟨rfl, HK2.out⟩
    · have hD : ∀ w1, Keep [] w w1 → _ := fun w1 k => check_yes b hb _ w1 (hV.keep k (Off.nil _)) h2
      clear k0 hU hV
      go_enter Tryz.func77, Tryz.ntmps77
      go_wp2_with fail
      refine hC.mono ?_
      rintro e1 w1 ⟨rfl, k1⟩
      obtain ⟨⟨c0, c1, c2, c3, c4, c5⟩, ⟨d0, d1, d2, d3, d4, d5⟩⟩ := two_cells k1
      have HK1 : Hid (Keep [] w w1) := HK0.out.trans' k1
      clear k1 hC
      go_wp2_with fail
      refine (hD _ HK1.out).mono ?_
      rintro e2 w2 ⟨rfl, k2⟩
      have HK2 : Hid (Keep [] w w2) := HK1.out.trans' k2
      clear k2 hD
      go_wp2
      go_ret
      exact ⟨rfl, HK2.out⟩

/-- how two values stand -/
def cmpV (a b : VD) : Int × Bool :=
  if (a.mayB && b.mayB) = false then (0, false) else if a.kind = b.kind then likeV a b else if a.kind = 3 ∧ b.kind = 2 then cmpXN a.real b.int
  else if a.kind = 2 ∧ b.kind = 3 then (-(cmpXN b.real a.int).1, (cmpXN b.real a.int).2) else (0, false)

theorem cmpXN_range (x : Nat) (n : Int) : -1 ≤ (cmpXN x n).1 ∧ (cmpXN x n).1 ≤ 1 := by
  unfold cmpXN cmpI
  split
  · simp
  · simp only []
    split
    · simp
    · split <;> simp

end Go.Proofs.YtplbclokoffgkaaGreatDoor


