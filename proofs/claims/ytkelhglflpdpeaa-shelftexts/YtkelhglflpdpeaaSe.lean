/- Texts, the greatest first: the order, and how many stand ahead. -/
import Derived.Test.YtkelhglflpdpeaaSd
import Derived.Lib.Bytealg
import Derived.PlainAid

namespace Go.Proofs.Ytkelhglflpdpeaa
open Go.RowKit Go.PlainAid Go.Lib

def cmpT (a b : List UInt8) : Int := Lib.compareBytes a b

structure Ord3 {α : Type} (f : α → α → Int) : Prop where
  range : ∀ a b, f a b = -1 ∨ f a b = 0 ∨ f a b = 1
  anti : ∀ a b, f b a = - f a b
  same : ∀ a b, f a b = 0 ↔ a = b
  trans : ∀ a b c, f a b = -1 → f b c = -1 → f a c = -1

theorem cmpT_cons (x y : UInt8) (a b : List UInt8) : cmpT (x :: a) (y :: b) = if x < y then -1 else if y < x then 1 else cmpT a b := by unfold cmpT; rw [Lib.compareBytes]
theorem ord_cmpT : Ord3 cmpT := by
  refine ⟨?_, ?_, ?_, ?_⟩
  · intro a
    induction a with
    | nil => intro b; cases b <;> simp [cmpT, Lib.compareBytes]
    | cons x a ih =>
      intro b
      cases b with
      | nil => simp [cmpT, Lib.compareBytes]
      | cons y b =>
        rw [cmpT_cons]
        split
        · exact .inl rfl
        · split
          · exact .inr (.inr rfl)
          · exact ih b
  · intro a
    induction a with
    | nil => intro b; cases b <;> simp [cmpT, Lib.compareBytes]
    | cons x a ih =>
      intro b
      cases b with
      | nil => simp [cmpT, Lib.compareBytes]
      | cons y b =>
        rw [cmpT_cons, cmpT_cons, ih b]
        have h1 : ¬ (x < y ∧ y < x) := by rw [UInt8.lt_iff_toNat_lt, UInt8.lt_iff_toNat_lt]; omega
        by_cases p : x < y <;> by_cases q : y < x <;> simp [p, q]
        exact absurd ⟨p, q⟩ h1
  · intro a
    induction a with
    | nil => intro b; cases b <;> simp [cmpT, Lib.compareBytes]
    | cons x a ih =>
      intro b
      cases b with
      | nil => simp [cmpT, Lib.compareBytes]
      | cons y b =>
        rw [cmpT_cons]
        by_cases p : x < y
        · have : x ≠ y := fun e => by subst e; exact absurd p (UInt8.lt_irrefl x)
          simp [p, this]
        · by_cases q : y < x
          · have : x ≠ y := fun e => by subst e; exact absurd q (UInt8.lt_irrefl x)
            simp [p, q, this]
          · have : x = y := by
              rw [UInt8.lt_iff_toNat_lt] at p q
              exact UInt8.toNat_inj.1 (by omega)
            simp [this, ih b]
  · intro a
    induction a with
    | nil =>
      intro b c h1 h2
      cases c with
      | nil =>
        cases b with
        | nil => exact h2
        | cons y b => simp [cmpT, Lib.compareBytes] at h2
      | cons z c => simp [cmpT, Lib.compareBytes]
    | cons x a ih =>
      intro b c h1 h2
      cases b with
      | nil => simp [cmpT, Lib.compareBytes] at h1
      | cons y b =>
        cases c with
        | nil => simp [cmpT, Lib.compareBytes] at h2
        | cons z c =>
          rw [cmpT_cons] at h1 h2 ⊢
          simp only [UInt8.lt_iff_toNat_lt] at *
          by_cases p : x.toNat < y.toNat
          · by_cases q : y.toNat < z.toNat
            · rw [if_pos (by omega)]
            · rw [if_neg q] at h2
              by_cases r : z.toNat < y.toNat
              · rw [if_pos r] at h2; exact absurd h2 (by decide)
              · rw [if_pos (by omega)]
          · rw [if_neg p] at h1
            by_cases r : y.toNat < x.toNat
            · rw [if_pos r] at h1; exact absurd h1 (by decide)
            · rw [if_neg r] at h1
              by_cases q : y.toNat < z.toNat
              · rw [if_pos (by omega)]
              · rw [if_neg q] at h2
                by_cases u : z.toNat < y.toNat
                · rw [if_pos u] at h2; exact absurd h2 (by decide)
                · rw [if_neg u] at h2
                  rw [if_neg (by omega), if_neg (by omega)]
                  exact ih b c h1 h2



theorem less_cmp (a : List UInt8) : ∀ b, Op.bytesLess a b = decide (cmpT a b = -1) := by
  induction a with
  | nil => intro b; cases b <;> simp [Op.bytesLess, cmpT, Lib.compareBytes]
  | cons x a ih =>
    intro b
    cases b with
    | nil => simp [Op.bytesLess, cmpT, Lib.compareBytes]
    | cons y b =>
      rw [cmpT_cons, Op.bytesLess]
      by_cases p : x < y
      · simp [p]
      · by_cases q : y < x
        · have hne : (x == y) = false := by
            rw [beq_eq_false_iff_ne]
            intro e
            subst e
            exact absurd q (UInt8.lt_irrefl x)
          simp [p, q, hne]
        · have he : x = y := by
            rw [UInt8.lt_iff_toNat_lt] at p q
            exact UInt8.toNat_inj.1 (by omega)
          subst he
          simp [p, ih b]


theorem st_inj {a b : ByteArray} (h : a.toList = b.toList) : a = b := by
  have h2 : a.data.toList = b.data.toList := by simpa [ByteArray.toList_eq] using h
  exact ByteArray.ext (Array.toList_inj.1 h2)

/-- a stands ahead of b: the greatest first -/
def lts (a b : St) : Bool := Op.bytesLess b.toList a.toList
theorem lts_iff (a b : St) : lts a b = true ↔ cmpT b.toList a.toList = -1 := by unfold lts; rw [less_cmp]; simp
theorem lts_irr (a : St) : lts a a = false := by
  rw [Bool.eq_false_iff]
  intro h
  rw [lts_iff, (ord_cmpT.same _ _).2 rfl] at h
  cases h
theorem lts_trans {a b c : St} (h : lts a b = true) (k : lts b c = true) : lts a c = true := by
  rw [lts_iff] at *
  exact ord_cmpT.trans _ _ _ k h
theorem lts_asym {a b : St} (h : lts a b = true) : lts b a = false := by
  rw [Bool.eq_false_iff]
  intro k
  have := lts_trans h k
  rw [lts_irr] at this
  cases this
theorem lts_tri {a b : St} (h : lts a b = false) (k : lts b a = false) : a = b := by
  have h1 : ¬ cmpT b.toList a.toList = -1 := fun e => by rw [(lts_iff a b).2 e] at h; cases h
  have h2 : ¬ cmpT a.toList b.toList = -1 := fun e => by rw [(lts_iff b a).2 e] at k; cases k
  rcases ord_cmpT.range a.toList b.toList with e | e | e
  · exact absurd e h2
  · exact st_inj ((ord_cmpT.same _ _).1 e)
  · refine absurd ?_ h1
    rw [ord_cmpT.anti, e]

theorem scmp_lt (a b : St) (w : World) (h : lts a b = true) : Calls Try.prog 37 #[vT a, vT b] w fun e w' => e = .returned (.int .i64 (-1)) ∧ w = w' := by
  have h1 : Op.bytesLess a.toList b.toList = false := lts_asym h
  have h2 : (ByteArray.toList a == ByteArray.toList b) = false := by
    rw [beq_eq_false_iff_ne]
    intro e
    rw [st_inj e, lts_irr] at h
    cases h
  go_enter Try.func37, Try.ntmps37
  go_wp2
  go_ret
  exact ⟨rfl, rfl⟩
theorem scmp_gt (a b : St) (w : World) (h : lts b a = true) : Calls Try.prog 37 #[vT a, vT b] w fun e w' => e = .returned (.int .i64 1) ∧ w = w' := by
  have h1 : Op.bytesLess a.toList b.toList = true := h
  have h2 : Op.bytesLess b.toList a.toList = false := lts_asym h
  go_enter Try.func37, Try.ntmps37
  go_wp2
  go_ret
  exact ⟨rfl, rfl⟩
theorem scmp_eq (a : St) (w : World) : Calls Try.prog 37 #[vT a, vT a] w fun e w' => e = .returned (.int .i64 0) ∧ w = w' := by
  have h1 : Op.bytesLess a.toList a.toList = false := lts_irr a
  go_enter Try.func37, Try.ntmps37
  go_wp2
  go_ret
  exact ⟨rfl, rfl⟩
theorem scmp_ge (a b : St) (w : World) (h : lts a b = false) : Calls Try.prog 37 #[vT a, vT b] w fun e w' => ∃ c, e = .returned (.int .i64 c) ∧ 0 ≤ c ∧ w = w' := by
  cases h2 : lts b a with
  | true => exact (scmp_gt a b w h2).mono (fun e w' h => ⟨1, h.1, by decide, h.2⟩)
  | false =>
    obtain rfl := lts_tri h h2
    exact (scmp_eq a w).mono (fun e w' h => ⟨0, h.1, by decide, h.2⟩)

/-- the list is in order -/
def RisS (l : List St) : Prop := l.Pairwise (fun a b => lts a b = true)
/-- how many stand ahead of x -/
def rnkS (l : List St) (x : St) : Nat := l.countP (fun a => lts a x)
theorem rnkS_of {P S : List St} {x : St} (hP : ∀ a ∈ P, lts a x = true) (hS : ∀ a ∈ S, lts a x = false) : rnkS (P ++ S) x = P.length := by
  unfold rnkS
  rw [List.countP_append, List.countP_eq_length.2 (by simpa using hP), List.countP_eq_zero.2 (by simpa using hS)]
  rfl
theorem rnkS_le (l : List St) (x : St) : rnkS l x ≤ l.length := List.countP_le_length

set_option maxRecDepth 100000 in
set_option maxHeartbeats 2000000 in
theorem srank_any (p : Option Addr) (T : TS) (x : St) (w : World) (h : IsS w p T) (hr : RisS T.list) (hs : T.list.length ≤ 1152921504606846976) :
    Calls Try.prog 62 #[.pointer p, .func (.func 37) #[] #[], vT x] w fun e w' => e = .returned (.int .i64 (rnkS T.list x : Int)) ∧ w = w' := by
  have HT : Hid (IsS w p T) := h
  have HR : Hid (RisS T.list) := hr
  have HS : Hid (T.list.length ≤ 1152921504606846976) := hs
  clear h hr hs
  go_enter Try.func62, Try.ntmps62
  go_wp2
  go_loopw [0, 7] (fun pv bv wr => w = wr ∧ Hid (∃ q T' P S, pv = .pointer q ∧ bv = .int .i64 (P.length : Int) ∧ IsS w q T' ∧ T.list = P ++ (T'.list ++ S) ∧ (∀ a ∈ P, lts a x = true) ∧ (∀ a ∈ S, lts a x = false))) (fun pv bv wr => szS wr pv)
  case atStart => exact ⟨rfl, p, T, [], [], rfl, rfl, HT.out, by simp, by simp, by simp⟩
  case round =>
    obtain ⟨rfl, hrel⟩ := hrel
    obtain ⟨q, T', P, S, rfl, rfl, ht, hl, hP, hS⟩ := hrel.out
    have HL : Hid (T.list = P ++ (T'.list ++ S)) := hl
    have HPS : Hid ((∀ a ∈ P, lts a x = true) ∧ (∀ a ∈ S, lts a x = false)) := ⟨hP, hS⟩
    have hPl : (P.length : Int) ≤ 1152921504606846976 := by have h1 := HS.out; rw [hl] at h1; simp at h1; omega
    have hPl0 : (0 : Int) ≤ (P.length : Int) := by omega
    clear hrel hl hP hS HT
    cases T' with
    | leaf =>
      obtain rfl : q = none := ht
      go_wp2
      go_ret
      refine ⟨?_, rfl⟩
      rw [HL.out]
      simp only [TS.list, List.nil_append]
      rw [rnkS_of HPS.out.1 HPS.out.2]
      rfl
    | node A y B =>
      have HSZ : Hid (szS w (.pointer q) = (TS.node A y B).list.length) := ht.sz
      obtain ⟨b, pl, pr, rfl, hbb, hA, hB⟩ := ht
      obtain ⟨r0, r1, r2, _⟩ := nodeS_cells hbb
      have HTT : Hid (IsS w pl A ∧ IsS w pr B) := ⟨hA, hB⟩
      have HCA : Hid (∀ w9, w9 = w → Calls Try.prog 63 #[.pointer pl] w9 fun e w' => e = .returned (.int .i64 (A.list.length : Int)) ∧ w = w') := fun w9 k => by subst k; exact (scount_any pl A w9 hA).mono (fun e w' h => ⟨h.1, h.2.symm⟩)
      have HTot : Hid (P.length + A.list.length + 1 ≤ 1152921504606846976) := by show _ ≤ _; have h1 := HS.out; rw [HL.out] at h1; simp [TS.list] at h1; omega
      have hAl0 : (0 : Int) ≤ (A.list.length : Int) := by omega
      have hAl : (P.length : Int) + (A.list.length : Int) + 1 ≤ 1152921504606846976 := by have := HTot.out; omega
      cases hc : lts y x with
      | true =>
        have HC : Hid (∀ w9, w9 = w → Calls Try.prog 37 #[vT y, vT x] w9 fun e w' => e = .returned (.int .i64 (-1)) ∧ w = w') := fun w9 k => by subst k; exact scmp_lt y x w9 hc
        have HN : Hid (T.list = (P ++ (A.list ++ [y])) ++ (B.list ++ S) ∧ (∀ a ∈ P ++ (A.list ++ [y]), lts a x = true)) := by
          have e := HL.out
          refine ⟨by rw [e]; simp [TS.list], fun a ha => ?_⟩
          rcases List.mem_append.1 ha with h1 | h1
          · exact HPS.out.1 a h1
          · rcases List.mem_append.1 h1 with h2 | h2
            · have hr := HR.out
              rw [e] at hr
              have h3 := (List.pairwise_append.1 hr).2.1
              have h4 := (List.pairwise_append.1 h3).1
              have h5 := (List.pairwise_append.1 h4).2.2 a h2 y (by simp)
              exact lts_trans h5 hc
            · simp at h2; subst h2; exact hc
        have hneg : (-1 : Int) < 0 := by decide
        clear hA hB hbb hc
        go_wp2_with fail
        refine (HC.out _ rfl).mono ?_
        clear HC
        rintro e w5 ⟨rfl, rfl⟩
        go_wp2_with fail
        refine (HCA.out _ rfl).mono ?_
        clear HCA
        rintro e w6 ⟨rfl, rfl⟩
        go_wp2
        go_roundw
        case rel =>
          refine ⟨trivial, pr, B, P ++ (A.list ++ [y]), S, rfl, ?_, HTT.out.2, HN.out.1, HN.out.2, HPS.out.2⟩
          simp
        case measure =>
          rw [HSZ.out]
          cases B with
          | leaf => rw [show pr = none from HTT.out.2]; simp [szS, TS.list]
          | node B1 u B2 => rw [HTT.out.2.sz]; simp [TS.list]; omega
      | false =>
        have HC : Hid (∀ w9, w9 = w → Calls Try.prog 37 #[vT y, vT x] w9 fun e w' => ∃ c, e = .returned (.int .i64 c) ∧ 0 ≤ c ∧ w = w') := fun w9 k => by subst k; exact scmp_ge y x w9 hc
        have HN : Hid (T.list = P ++ (A.list ++ (y :: B.list ++ S)) ∧ (∀ a ∈ y :: B.list ++ S, lts a x = false)) := by
          have e := HL.out
          refine ⟨by rw [e]; simp [TS.list], fun a ha => ?_⟩
          rcases List.mem_append.1 ha with h1 | h1
          · rcases List.mem_cons.1 h1 with h2 | h2
            · subst h2; exact hc
            · have hr := HR.out
              rw [e] at hr
              have h3 := (List.pairwise_append.1 hr).2.1
              have h4 := (List.pairwise_append.1 h3).1
              have h5 := (List.pairwise_append.1 h4).2.1
              have h6 := (List.pairwise_cons.1 h5).1 a h2
              cases h7 : lts a x with
              | false => rfl
              | true => rw [lts_trans h6 h7] at hc; cases hc
          · exact HPS.out.2 a h1
        clear hA hB hbb HCA hPl hPl0 hAl0 hAl hc
        go_wp2_with fail
        refine (HC.out _ rfl).mono ?_
        clear HC
        rintro e w5 ⟨c5, rfl, hc5, rfl⟩
        go_wp2
        go_roundw
        case rel =>
          exact ⟨trivial, pl, A, P, y :: B.list ++ S, rfl, rfl, HTT.out.1, HN.out.1, HPS.out.1, HN.out.2⟩
        case measure =>
          rw [HSZ.out]
          cases A with
          | leaf => rw [show pl = none from HTT.out.1]; simp [szS, TS.list]
          | node A1 u A2 => rw [HTT.out.1.sz]; simp [TS.list]

end Go.Proofs.Ytkelhglflpdpeaa
