/- The plain mathematics of the orders: what is compared part by part is an order where the parts are. -/
import Derived.Test.YtkkbnbcjkjbepabCmpW
namespace Go.Proofs.Ytkkbnbcjkjbepab
open Go.RowKit Go.PlainAid

structure Ord3 {α : Type} (f : α → α → Int) : Prop where
  range : ∀ a b, f a b = -1 ∨ f a b = 0 ∨ f a b = 1
  anti : ∀ a b, f b a = - f a b
  same : ∀ a b, f a b = 0 ↔ a = b
  trans : ∀ a b c, f a b = -1 → f b c = -1 → f a c = -1

def lexI (p q : Int) : Int := if (p != 0) = true then p else q
theorem lexI_zero (q : Int) : lexI 0 q = q := rfl
theorem lexI_pos {p : Int} (q : Int) (h : p ≠ 0) : lexI p q = p := by simp [lexI, h]

theorem ord_lex {α β : Type} {f : α → α → Int} {g : β → β → Int} (hf : Ord3 f) (hg : Ord3 g) : Ord3 (fun (x y : α × β) => lexI (f x.1 y.1) (g x.2 y.2)) := by
  refine ⟨?_, ?_, ?_, ?_⟩
  · rintro ⟨a, b⟩ ⟨c, d⟩
    show lexI (f a c) (g b d) = _ ∨ _
    by_cases h : f a c = 0
    · rw [h, lexI_zero]; exact hg.range b d
    · rw [lexI_pos _ h]; exact hf.range a c
  · rintro ⟨a, b⟩ ⟨c, d⟩
    show lexI (f c a) (g d b) = - lexI (f a c) (g b d)
    have e := hf.anti a c
    by_cases h : f a c = 0
    · rw [e, h]; exact hg.anti b d
    · rw [lexI_pos _ h, lexI_pos _ (by rw [e]; omega), e]
  · rintro ⟨a, b⟩ ⟨c, d⟩
    show lexI (f a c) (g b d) = 0 ↔ (a, b) = (c, d)
    by_cases h : f a c = 0
    · rw [h, lexI_zero, hg.same b d]
      have := (hf.same a c).1 h
      subst this
      simp
    · rw [lexI_pos _ h]
      constructor
      · intro x; exact absurd x h
      · intro x
        exact absurd ((hf.same a c).2 (by injection x)) h
  · rintro ⟨a, b⟩ ⟨c, d⟩ ⟨e, k⟩
    show lexI (f a c) (g b d) = -1 → lexI (f c e) (g d k) = -1 → lexI (f a e) (g b k) = -1
    intro h1 h2
    by_cases x : f a c = 0
    · rw [x, lexI_zero] at h1
      have := (hf.same a c).1 x
      subst this
      by_cases y : f a e = 0
      · rw [y, lexI_zero] at h2 ⊢
        exact hg.trans _ _ _ h1 h2
      · rw [lexI_pos _ y] at h2 ⊢; exact h2
    · rw [lexI_pos _ x] at h1
      by_cases y : f c e = 0
      · have := (hf.same c e).1 y
        subst this
        rw [lexI_pos _ x]; exact h1
      · rw [lexI_pos _ y] at h2
        have := hf.trans _ _ _ h1 h2
        rw [lexI_pos _ (by rw [this]; decide)]; exact this

theorem cmpT_cons (x y : UInt8) (a b : List UInt8) : cmpT (x :: a) (y :: b) = if x < y then -1 else if y < x then 1 else cmpT a b := by unfold cmpT; rw [Lib.compareBytes]
theorem ord_cmpT : Ord3 cmpT := by
  refine ⟨?_, ?_, ?_, ?_⟩
  · intro a
    induction a with
    | nil => intro b; cases b <;> simp [cmpT, Lib.compareBytes]
    | cons x a ih =>
      intro b
      cases b with
      | nil => simp [cmpT, Lib.compareBytes]
      | cons y b =>
        rw [cmpT_cons]
        split
        · exact .inl rfl
        · split
          · exact .inr (.inr rfl)
          · exact ih b
  · intro a
    induction a with
    | nil => intro b; cases b <;> simp [cmpT, Lib.compareBytes]
    | cons x a ih =>
      intro b
      cases b with
      | nil => simp [cmpT, Lib.compareBytes]
      | cons y b =>
        rw [cmpT_cons, cmpT_cons, ih b]
        have h1 : ¬ (x < y ∧ y < x) := by rw [UInt8.lt_iff_toNat_lt, UInt8.lt_iff_toNat_lt]; omega
        by_cases p : x < y <;> by_cases q : y < x <;> simp [p, q]
        exact absurd ⟨p, q⟩ h1
  · intro a
    induction a with
    | nil => intro b; cases b <;> simp [cmpT, Lib.compareBytes]
    | cons x a ih =>
      intro b
      cases b with
      | nil => simp [cmpT, Lib.compareBytes]
      | cons y b =>
        rw [cmpT_cons]
        by_cases p : x < y
        · have : x ≠ y := fun e => by subst e; exact absurd p (UInt8.lt_irrefl x)
          simp [p, this]
        · by_cases q : y < x
          · have : x ≠ y := fun e => by subst e; exact absurd q (UInt8.lt_irrefl x)
            simp [p, q, this]
          · have : x = y := by
              rw [UInt8.lt_iff_toNat_lt] at p q
              exact UInt8.toNat_inj.1 (by omega)
            simp [this, ih b]
  · intro a
    induction a with
    | nil =>
      intro b c h1 h2
      cases c with
      | nil =>
        cases b with
        | nil => exact h2
        | cons y b => simp [cmpT, Lib.compareBytes] at h2
      | cons z c => simp [cmpT, Lib.compareBytes]
    | cons x a ih =>
      intro b c h1 h2
      cases b with
      | nil => simp [cmpT, Lib.compareBytes] at h1
      | cons y b =>
        cases c with
        | nil => simp [cmpT, Lib.compareBytes] at h2
        | cons z c =>
          rw [cmpT_cons] at h1 h2 ⊢
          simp only [UInt8.lt_iff_toNat_lt] at *
          by_cases p : x.toNat < y.toNat
          · by_cases q : y.toNat < z.toNat
            · rw [if_pos (by omega)]
            · rw [if_neg q] at h2
              by_cases r : z.toNat < y.toNat
              · rw [if_pos r] at h2; exact absurd h2 (by decide)
              · rw [if_pos (by omega)]
          · rw [if_neg p] at h1
            by_cases r : y.toNat < x.toNat
            · rw [if_pos r] at h1; exact absurd h1 (by decide)
            · rw [if_neg r] at h1
              by_cases q : y.toNat < z.toNat
              · rw [if_pos (by omega)]
              · rw [if_neg q] at h2
                by_cases u : z.toNat < y.toNat
                · rw [if_pos u] at h2; exact absurd h2 (by decide)
                · rw [if_neg u] at h2
                  rw [if_neg (by omega), if_neg (by omega)]
                  exact ih b c h1 h2

theorem ord_S : Ord3 (fun (x y : (List UInt8 × List UInt8) × List UInt8) => cmpS x.1.1 x.1.2 x.2 y.1.1 y.1.2 y.2) := ord_lex (ord_lex ord_cmpT ord_cmpT) ord_cmpT
end Go.Proofs.Ytkkbnbcjkjbepab
