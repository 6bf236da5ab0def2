/- Both orders of tuples: what an order must keep. -/
import Derived.Test.YtclapbpkkaljgaaGreatDoorOrA
namespace Go.Proofs.YtclapbpkkaljgaaGreatDoor
open Go.RowKit Go.PlainAid

def kf (x : K7) : List (List UInt8) := [x.a.toList, x.b.toList, x.c.toList, x.d.toList, x.e.toList, x.f.toList]
def kb (x : K7) : List (List UInt8) := [x.d.toList, x.e.toList, x.f.toList, x.a.toList, x.b.toList, x.c.toList]
theorem cmpK_lex (x y : K7) : cmpK x y = lexL cmpT (kf x) (kf y) := by
  unfold cmpK cmpO cmpS cmpO kf
  simp only [lexL, bne_iff_ne, ne_eq]
  repeat' split
  all_goals simp_all
theorem bckK_lex (x y : K7) : bckK x y = lexL cmpT (kb x) (kb y) := by
  unfold bckK cmpO cmpS cmpO kb
  simp only [lexL, bne_iff_ne, ne_eq]
  repeat' split
  all_goals simp_all
theorem key_kf (x y : K7) : tkeyB x y = true ↔ kf x = kf y := by
  simp [tkeyB, kf]
theorem key_kb (x y : K7) : tkeyB x y = true ↔ kb x = kb y := by
  simp only [tkeyB, kb, Bool.and_eq_true, beq_iff_eq, List.cons.injEq, and_true]
  constructor
  · rintro ⟨h1, h2, h3, h4, h5, h6⟩; exact ⟨h4, h5, h6, h1, h2, h3⟩
  · rintro ⟨h4, h5, h6, h1, h2, h3⟩; exact ⟨h1, h2, h3, h4, h5, h6⟩
/-- what is asked of x = f a b, y = f b c, z = f a c, r = f b a, k: are the keys of a and b one? -/
structure OrdQ (x y z r : Int) (k : Bool) : Prop where
  range : x = -1 ∨ x = 0 ∨ x = 1
  rangeY : y = -1 ∨ y = 0 ∨ y = 1
  anti : r = - x
  same : (x == 0) = k
  go : x ≤ 0 → y ≤ 0 → z ≤ 0 ∧ (z = 0 → x = 0 ∧ y = 0)
theorem ordQ_of {g : K7 → List (List UInt8)} {a b c : K7} {k : Bool} (hk : k = true ↔ g a = g b) : OrdQ (lexL cmpT (g a) (g b)) (lexL cmpT (g b) (g c)) (lexL cmpT (g a) (g c)) (lexL cmpT (g b) (g a)) k := by
  have h := ord_lexL ord_cmpT
  refine ⟨h.range _ _, h.range _ _, h.anti _ _, ?_, fun h1 h2 => ?_⟩
  · rw [Bool.eq_iff_iff, beq_iff_eq, h.same, hk]
  · have r1 := h.range (g a) (g b)
    have r2 := h.range (g b) (g c)
    rcases r1 with r1 | r1 | r1
    · rcases r2 with r2 | r2 | r2
      · have := h.trans _ _ _ r1 r2
        omega
      · rw [← (h.same _ _).1 r2]
        omega
      · omega
    · have e := (h.same _ _).1 r1
      rw [e] at r1 ⊢
      omega
    · omega
theorem ordF (a b c : K7) : OrdQ (cmpK a b) (cmpK b c) (cmpK a c) (cmpK b a) (tkeyB a b) := by
  rw [cmpK_lex, cmpK_lex, cmpK_lex, cmpK_lex]
  exact ordQ_of (key_kf a b)
theorem ordB (a b c : K7) : OrdQ (bckK a b) (bckK b c) (bckK a c) (bckK b a) (tkeyB a b) := by
  rw [bckK_lex, bckK_lex, bckK_lex, bckK_lex]
  exact ordQ_of (key_kb a b)
/-- of one object and relation both orders go alike -/
theorem ord_alike {a b : K7} (h1 : a.a.toList = b.a.toList) (h2 : a.b.toList = b.b.toList) (h3 : a.c.toList = b.c.toList) : cmpK a b = bckK a b := by
  have s := fun x : List UInt8 => (ord_cmpT.same x x).2 rfl
  unfold cmpK bckK cmpO
  rw [h1, h2, h3, s, s, s]
  simp only [bne_self_eq_false, Bool.false_eq_true, if_false, bne_iff_ne, ne_eq, ite_not]
  split
  · assumption
  · rfl
end Go.Proofs.YtclapbpkkaljgaaGreatDoor
