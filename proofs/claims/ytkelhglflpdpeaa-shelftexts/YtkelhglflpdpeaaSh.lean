/- A shelf of texts. -/
import Derived.Test.YtkelhglflpdpeaaSg

namespace Go.Proofs.Ytkelhglflpdpeaa
open Go.RowKit Go.PlainAid Go.Shelf


theorem risS_low {l : List St} (h : RisS l) (x : St) : ∃ P S, l = P ++ S ∧ P.length = rnkS l x ∧ (∀ a ∈ P, lts a x = true) ∧ (∀ a ∈ S, lts a x = false) := by
  induction l with
  | nil => exact ⟨[], [], rfl, rfl, by simp, by simp⟩
  | cons y t ih =>
    have ht := (List.pairwise_cons.1 h).2
    have hy := (List.pairwise_cons.1 h).1
    cases hc : lts y x with
    | true =>
      obtain ⟨P, S, e, hp, h1, h2⟩ := ih ht
      refine ⟨y :: P, S, by rw [e]; rfl, ?_, ?_, h2⟩
      · unfold rnkS at *
        rw [List.countP_cons_of_pos (by simpa using hc), List.length_cons, hp]
      · intro a ha
        rcases List.mem_cons.1 ha with rfl | ha
        · exact hc
        · exact h1 a ha
    | false =>
      refine ⟨[], y :: t, rfl, ?_, by simp, ?_⟩
      · symm
        unfold rnkS
        rw [List.countP_eq_zero.2]
        · rfl
        · intro a ha
          rcases List.mem_cons.1 ha with rfl | ha
          · simpa using hc
          · have h3 := hy a ha
            cases h4 : lts a x with
            | false => simp
            | true => rw [lts_trans h3 h4] at hc; cases hc
      · intro a ha
        rcases List.mem_cons.1 ha with rfl | ha
        · exact hc
        · have h3 := hy a ha
          cases h4 : lts a x with
          | false => rfl
          | true => rw [lts_trans h3 h4] at hc; cases hc
theorem hasS_iff {l : List St} (h : RisS l) (x : St) : hasS l x = true ↔ x ∈ l := by
  obtain ⟨P, S, e, hp, h1, h2⟩ := risS_low h x
  have hd : l.drop (rnkS l x) = S := by rw [← hp]; conv => lhs; rw [e]; simp
  unfold hasS
  rw [hd]
  cases S with
  | nil =>
    simp only [List.head?_nil]
    constructor
    · intro h; cases h
    · intro hm
      rw [e, List.append_nil] at hm
      have := h1 x hm
      rw [lts_irr] at this
      cases this
  | cons y t =>
    simp only [List.head?_cons, decide_eq_true_eq]
    constructor
    · rintro rfl; rw [e]; simp
    · intro hm
      rw [e] at hm
      rcases List.mem_append.1 hm with hm | hm
      · have := h1 x hm
        rw [lts_irr] at this
        cases this
      · rcases List.mem_cons.1 hm with rfl | hm
        · rfl
        · rw [e] at h
          have h3 := (List.pairwise_cons.1 (List.pairwise_append.1 h).2.1).1 x hm
          have h4 := h2 y (by simp)
          rw [h3] at h4
          cases h4
theorem hasS_at {l : List St} {x : St} (h : hasS l x = true) : rnkS l x < l.length := by
  unfold hasS at h
  cases e : (l.drop (rnkS l x)) with
  | nil => rw [e] at h; cases h
  | cons y t =>
    have := congrArg List.length e
    simp at this
    omega
def addS (l : List St) (x : St) : List St := if hasS l x then l else sInsL l (rnkS l x) x
def remS (l : List St) (x : St) : List St := if hasS l x then sDelL l (rnkS l x) else l
theorem addS_ris {l : List St} (h : RisS l) (x : St) : RisS (addS l x) := by
  unfold addS
  by_cases hc : hasS l x = true
  · rw [if_pos hc]; exact h
  · rw [if_neg hc]
    obtain ⟨P, S, e, hp, h1, h2⟩ := risS_low h x
    have ht : sInsL l (rnkS l x) x = P ++ x :: S := by
      unfold sInsL
      rw [← hp]
      conv => lhs; rw [e]
      simp
    have hm : x ∉ l := fun hm => hc ((hasS_iff h x).2 hm)
    have hS : ∀ a ∈ S, lts x a = true := fun a ha => by
      cases h4 : lts x a with
      | true => rfl
      | false =>
        obtain rfl := lts_tri (h2 a ha) h4
        exact absurd (by rw [e]; simp [ha]) hm
    rw [ht]
    rw [e] at h
    obtain ⟨g1, g2, g3⟩ := List.pairwise_append.1 h
    refine List.pairwise_append.2 ⟨g1, List.pairwise_cons.2 ⟨hS, g2⟩, fun a ha b hb => ?_⟩
    rcases List.mem_cons.1 hb with rfl | hb
    · exact h1 a ha
    · exact g3 a ha b hb
theorem remS_ris {l : List St} (h : RisS l) (x : St) : RisS (remS l x) := by
  unfold remS
  by_cases hc : hasS l x = true
  · rw [if_pos hc]
    exact List.Pairwise.sublist (show (sDelL l (rnkS l x)).Sublist l by
      unfold sDelL
      have := List.take_append_drop (rnkS l x) l
      conv => rhs; rw [← this]
      exact List.Sublist.append (List.Sublist.refl _) (List.drop_sublist_drop_left _ (by omega))) h
  · rw [if_neg hc]; exact h
theorem mem_addS {l : List St} (h : RisS l) (x y : St) : y ∈ addS l x ↔ y ∈ l ∨ y = x := by
  unfold addS
  by_cases hc : hasS l x = true
  · rw [if_pos hc]
    have := (hasS_iff h x).1 hc
    constructor
    · exact .inl
    · rintro (h1 | rfl)
      · exact h1
      · exact this
  · rw [if_neg hc]
    unfold sInsL
    have := List.take_append_drop (rnkS l x) l
    conv => rhs; rw [← this]
    simp only [List.mem_append, List.mem_cons]
    constructor
    · rintro (h1 | rfl | h1)
      · exact .inl (.inl h1)
      · exact .inr rfl
      · exact .inl (.inr h1)
    · rintro ((h1 | h1) | rfl)
      · exact .inl h1
      · exact .inr (.inr h1)
      · exact .inr (.inl rfl)
theorem mem_remS {l : List St} (h : RisS l) (x y : St) : y ∈ remS l x ↔ y ∈ l ∧ y ≠ x := by
  unfold remS
  by_cases hc : hasS l x = true
  · rw [if_pos hc]
    obtain ⟨P, S, e, hp, h1, h2⟩ := risS_low h x
    have hx := (hasS_iff h x).1 hc
    have hlt := hasS_at hc
    cases S with
    | nil => rw [← hp, e] at hlt; simp at hlt
    | cons z t =>
      have hz : z = x := by
        unfold hasS at hc
        have hd : l.drop (rnkS l x) = z :: t := by rw [← hp]; conv => lhs; rw [e]; simp
        rw [hd] at hc
        simpa using hc
      subst hz
      have ht : sDelL l (rnkS l z) = P ++ t := by
        unfold sDelL
        rw [← hp]
        conv => lhs; rw [e]
        simp [List.drop_append]
      rw [ht]
      rw [e] at h
      obtain ⟨g1, g2, g3⟩ := List.pairwise_append.1 h
      have g4 := (List.pairwise_cons.1 g2).1
      rw [e]
      simp only [List.mem_append, List.mem_cons]
      constructor
      · rintro (h3 | h3)
        · exact ⟨.inl h3, fun e => by subst e; have := h1 y h3; rw [lts_irr] at this; cases this⟩
        · exact ⟨.inr (.inr h3), fun e => by subst e; have := g4 y h3; rw [lts_irr] at this; cases this⟩
      · rintro ⟨h3 | rfl | h3, h4⟩
        · exact .inl h3
        · exact absurd rfl h4
        · exact .inr h3
  · rw [if_neg hc]
    constructor
    · intro hm; exact ⟨hm, fun e => by subst e; exact hc ((hasS_iff h y).2 hm)⟩
    · exact And.left
theorem addS_len (l : List St) (x : St) : (addS l x).length ≤ l.length + 1 := by
  unfold addS
  split
  · omega
  · rw [sInsL_len _ _ _ (rnkS_le l x)]; omega
theorem remS_len (l : List St) (x : St) : (remS l x).length ≤ l.length := by
  unfold remS
  split
  · unfold sDelL; simp; omega
  · omega

/-- at b lies a shelf of the texts l -/
structure ShS (w : World) (b : Nat) (l : List St) : Prop where
  ex : ∃ p T, w.heap[b]? = some (.cells #[.func (.func 37) #[] #[], .pointer p] 95 (0, 0)) ∧ IsS w p T ∧ T.list = l
  ris : RisS l
theorem ShS.lt {w : World} {b : Nat} {l : List St} (h : ShS w b l) : b < w.heap.size := by
  obtain ⟨p, T, a, _⟩ := h.ex
  exact (Array.getElem?_eq_some_iff.1 a).1
theorem ShS.ks {w w' : World} {b : Nat} {l : List St} (h : ShS w b l) (kk : Keep [b] w w') : KS w w' := kk.ks (by
  intro r hr c hc
  simp at hr
  subst hr
  obtain ⟨p, T, a, _⟩ := h.ex
  rw [a] at hc
  cases hc)
theorem ShS.keep0 {w w' : World} {b : Nat} {l : List St} (h : ShS w b l) (kk : Keep [] w w') : ShS w' b l := by
  obtain ⟨p, T, a, c, d⟩ := h.ex
  exact ⟨⟨p, T, (kk.block _ (Array.getElem?_eq_some_iff.1 a).1 (by simp)).trans a, c.keep kk, d⟩, h.ris⟩
theorem twoS {w : World} {b : Nat} {u v : Value} {t : TypeId} (h : w.heap[b]? = some (.cells #[u, v] t (0, 0))) : (w.cell? ⟨b, 0, none⟩ = some u ∧ w.cell? ⟨b, 1, none⟩ = some v) ∧ w.frozen? ⟨b, 1, none⟩ = false := by
  refine ⟨⟨?_, ?_⟩, ?_⟩
  · unfold World.cell?; rw [h]; rfl
  · unfold World.cell?; rw [h]; rfl
  · unfold World.frozen?; rw [h]; rfl
theorem ShS.set {w w1 : World} {b : Nat} {l l' : List St} {p' : Option Addr} {T' : TS} (h : ShS w b l) (kk : Keep [] w w1) (ht : IsS w1 p' T') (hl : T'.list = l') (hr : RisS l') : ShS (w1.setCell ⟨b, 1, none⟩ (.pointer p')) b l' ∧ Keep [b] w (w1.setCell ⟨b, 1, none⟩ (.pointer p')) := by
  have h1 := h.keep0 kk
  obtain ⟨p, T, a, c, d⟩ := h1.ex
  have k2 : Keep [b] w1 (w1.setCell ⟨b, 1, none⟩ (.pointer p')) := Keep.set1 w1 ⟨b, 1, none⟩ _
  exact ⟨⟨⟨p', T', at_setCell a, ht.kt (h1.ks k2), hl⟩, hr⟩, (kk.mono (by simp)).trans' k2⟩

set_option maxRecDepth 100000 in
theorem selements_any (b : Nat) (p : Option Addr) (w : World) (h : w.heap[b]? = some (.cells #[.func (.func 37) #[] #[], .pointer p] 95 (0, 0))) : Calls Try.prog 60 #[vA b] w fun e w' => e = .returned (.pointer p) ∧ w = w' := by
  obtain ⟨⟨c0, c1⟩, _⟩ := twoS h
  clear h
  go_enter Try.func60, Try.ntmps60
  go_wp2
  go_ret
  exact ⟨rfl, rfl⟩
set_option maxRecDepth 100000 in
theorem slen_any (b : Nat) (l : List St) (w : World) (h : ShS w b l) : Calls Try.prog 42 #[vA b] w fun e w' => e = .returned (.int .i64 (l.length : Int)) ∧ w = w' := by
  obtain ⟨p, T, a, c, d⟩ := h.ex
  subst d
  have HE : Hid (∀ w9, w9 = w → Calls Try.prog 60 #[vA b] w9 fun e w' => e = .returned (.pointer p) ∧ w = w') := fun w9 e => by subst e; exact selements_any b p w9 a
  have HC : Hid (∀ w9, w9 = w → Calls Try.prog 63 #[.pointer p] w9 fun e w' => e = .returned (.int .i64 (T.list.length : Int)) ∧ w = w') := fun w9 e => by subst e; exact (scount_any p T w9 c).mono (fun e w' h => ⟨h.1, h.2.symm⟩)
  clear a c h
  go_enter Try.func42, Try.ntmps42
  go_wp2_with fail
  refine (HE.out _ rfl).mono ?_
  rintro e w5 ⟨rfl, rfl⟩
  go_wp2_with fail
  refine (HC.out _ rfl).mono ?_
  rintro e w6 ⟨rfl, rfl⟩
  go_wp2
  go_ret
  exact ⟨rfl, rfl⟩
set_option maxRecDepth 100000 in
theorem snew_any (w : World) : Calls Try.prog 36 #[.func (.func 37) #[] #[]] w fun e w' => ∃ b, e = .returned (vA b) ∧ ShS w' b [] ∧ Keep [] w w' ∧ w.heap.size ≤ b := by
  have heq : ∀ w, Sem.run Try.prog (binOp BinOp.eql 69 (.func (.func 37) #[] #[]) Value.nilFunc) w = .ok (.bool false) w := fun w => rfl
  go_enter Try.func36, Try.ntmps36
  go_wp2
  go_ret
  exact ⟨w.heap.size, rfl, ⟨⟨none, .leaf, heap_alloc_new _ _, rfl, rfl⟩, List.Pairwise.nil⟩, Keep.alloc1 _ _, Nat.le_refl _⟩

set_option maxRecDepth 100000 in
set_option maxHeartbeats 2000000 in
theorem sadd_any (b : Nat) (l : List St) (x : St) (w : World) (h : ShS w b l) (hs : l.length + 2 ≤ 1152921504606846976) :
    Calls Try.prog 38 #[vA b, vT x] w fun e w' => e = .returned (.bool (!hasS l x)) ∧ ShS w' b (addS l x) ∧ Keep [b] w w' := by
  obtain ⟨p, T, a, c, d⟩ := h.ex
  obtain ⟨⟨c0, c1⟩, f1⟩ := twoS a
  have HS : Hid (ShS w b l) := h
  have HP : Hid (∀ w9, w9 = w → Calls Try.prog 58 #[.pointer p, .func (.func 37) #[] #[], vT x] w9 fun e w' => ∃ z, e = .returned (.tuple #[.int .i64 (rnkS l x : Int), vT z, .bool (hasS l x)]) ∧ Keep [] w w') := fun w9 e => by subst e; subst d; exact (splace_any p T x w9 c h.ris (by omega)).mono (fun e w' ⟨z, h1, _, _, h2⟩ => ⟨z, h1, h2⟩)
  have HIn : Hid (∀ w9, Keep [] w w9 → Calls Try.prog 59 #[.pointer p, .int .i64 (rnkS l x : Int), vT x] w9 fun e w' => ∃ p' T', e = .returned (.pointer p') ∧ IsS w' p' T' ∧ T'.list = sInsL l (rnkS l x) x ∧ Keep [] w9 w') := fun w9 k => by subst d; exact sinsert_any x T p _ w9 (c.keep k) (rnkS_le _ _) hs
  have HRi : Hid (RisS (addS l x)) := addS_ris h.ris x
  have HAd : Hid (addS l x = if hasS l x then l else sInsL l (rnkS l x) x) := by show _ = _; rfl
  generalize addS l x = l' at *
  cases hc : hasS l x with
  | true =>
    rw [hc] at HP HAd
    have HL : Hid (l' = l) := by rw [if_pos rfl] at HAd; exact HAd.out
    clear a c d h hs HIn hc
    go_enter Try.func38, Try.ntmps38
    go_wp2_with fail
    refine (HP.out _ rfl).mono ?_
    rintro e w5 ⟨z, rfl, k5⟩
    go_wp2
    go_ret
    exact ⟨rfl, by rw [HL.out]; exact HS.out.keep0 k5, k5.mono (by simp)⟩
  | false =>
    rw [hc] at HP HAd
    have HL : Hid (l' = sInsL l (rnkS l x) x) := by rw [if_neg (by decide)] at HAd; exact HAd.out
    clear c d h hs hc
    go_enter Try.func38, Try.ntmps38
    go_wp2_with fail
    refine (HP.out _ rfl).mono ?_
    rintro e w5 ⟨z, rfl, k5⟩
    go_wp2_with fail
    refine (HIn.out _ k5).mono ?_
    rintro e w6 ⟨p6, T6, rfl, t6, l6, k6⟩
    have K6 : Keep [] w w6 := k5.trans' k6
    have HF : Hid (ShS (w6.setCell ⟨b, 1, none⟩ (.pointer p6)) b l' ∧ Keep [b] w (w6.setCell ⟨b, 1, none⟩ (.pointer p6))) := HS.out.set K6 t6 (by rw [l6, HL.out]) HRi.out
    have d1 := K6.cell' c1 (by simp)
    have g1 := (K6.frozen (p := ⟨b, 1, none⟩) HS.out.lt (by simp)).trans f1
    go_wp2
    go_ret
    exact ⟨rfl, HF.out.1, HF.out.2⟩

set_option maxRecDepth 100000 in
set_option maxHeartbeats 2000000 in
theorem srem_any (b : Nat) (l : List St) (x : St) (w : World) (h : ShS w b l) (hs : l.length + 2 ≤ 1152921504606846976) :
    Calls Try.prog 44 #[vA b, vT x] w fun e w' => e = .returned (.bool (hasS l x)) ∧ ShS w' b (remS l x) ∧ Keep [b] w w' := by
  obtain ⟨p, T, a, c, d⟩ := h.ex
  obtain ⟨⟨c0, c1⟩, f1⟩ := twoS a
  have HS : Hid (ShS w b l) := h
  have HP : Hid (∀ w9, w9 = w → Calls Try.prog 58 #[.pointer p, .func (.func 37) #[] #[], vT x] w9 fun e w' => ∃ z, e = .returned (.tuple #[.int .i64 (rnkS l x : Int), vT z, .bool (hasS l x)]) ∧ Keep [] w w') := fun w9 e => by subst e; subst d; exact (splace_any p T x w9 c h.ris (by omega)).mono (fun e w' ⟨z, h1, _, _, h2⟩ => ⟨z, h1, h2⟩)
  have HRi : Hid (RisS (remS l x)) := remS_ris h.ris x
  have HAd : Hid (remS l x = if hasS l x then sDelL l (rnkS l x) else l) := by show _ = _; rfl
  generalize remS l x = l' at *
  cases hc : hasS l x with
  | false =>
    rw [hc] at HP HAd
    have HL : Hid (l' = l) := by rw [if_neg (by decide)] at HAd; exact HAd.out
    clear a c d h hs hc
    go_enter Try.func44, Try.ntmps44
    go_wp2_with fail
    refine (HP.out _ rfl).mono ?_
    rintro e w5 ⟨z, rfl, k5⟩
    go_wp2
    go_ret
    exact ⟨rfl, by rw [HL.out]; exact HS.out.keep0 k5, k5.mono (by simp)⟩
  | true =>
    have HIn : Hid (∀ w9, Keep [] w w9 → Calls Try.prog 64 #[.pointer p, .int .i64 (rnkS l x : Int)] w9 fun e w' => ∃ p' T', e = .returned (.pointer p') ∧ IsS w' p' T' ∧ T'.list = sDelL l (rnkS l x) ∧ Keep [] w9 w') := fun w9 k => by
      have hlt := hasS_at hc
      subst d
      exact sremove_any T p _ w9 (c.keep k) hlt hs
    rw [hc] at HP HAd
    have HL : Hid (l' = sDelL l (rnkS l x)) := by rw [if_pos rfl] at HAd; exact HAd.out
    clear c d h hs hc
    go_enter Try.func44, Try.ntmps44
    go_wp2_with fail
    refine (HP.out _ rfl).mono ?_
    rintro e w5 ⟨z, rfl, k5⟩
    go_wp2_with fail
    refine (HIn.out _ k5).mono ?_
    rintro e w6 ⟨p6, T6, rfl, t6, l6, k6⟩
    have K6 : Keep [] w w6 := k5.trans' k6
    have HF : Hid (ShS (w6.setCell ⟨b, 1, none⟩ (.pointer p6)) b l' ∧ Keep [b] w (w6.setCell ⟨b, 1, none⟩ (.pointer p6))) := HS.out.set K6 t6 (by rw [l6, HL.out]) HRi.out
    have d1 := K6.cell' c1 (by simp)
    have g1 := (K6.frozen (p := ⟨b, 1, none⟩) HS.out.lt (by simp)).trans f1
    go_wp2
    go_ret
    exact ⟨rfl, HF.out.1, HF.out.2⟩

set_option maxRecDepth 100000 in
set_option maxHeartbeats 2000000 in
theorem sfind_any (b : Nat) (l : List St) (x : St) (w : World) (h : ShS w b l) (hs : l.length ≤ 1152921504606846976) :
    Calls Try.prog 45 #[vA b, vT x] w fun e w' => ∃ z, e = .returned (.tuple #[vT z, .bool (hasS l x)]) ∧ Keep [] w w' := by
  obtain ⟨p, T, a, c, d⟩ := h.ex
  obtain ⟨⟨c0, c1⟩, f1⟩ := twoS a
  have HP : Hid (∀ w9, Keep [] w w9 → Calls Try.prog 58 #[.pointer p, .func (.func 37) #[] #[], vT x] w9 fun e w' => ∃ z, e = .returned (.tuple #[.int .i64 (rnkS l x : Int), vT z, .bool (hasS l x)]) ∧ Keep [] w9 w') := fun w9 k => by subst d; exact (splace_any p T x w9 (c.keep k) h.ris hs).mono (fun e w' ⟨z, h1, _, _, h2⟩ => ⟨z, h1, h2⟩)
  have HBC : Cs [(⟨b, 0, none⟩, .func (.func 37) #[] #[]), (⟨b, 1, none⟩, .pointer p)] w w := ⟨c0, c1, Keep.refl _ _⟩
  generalize hasS l x = hc at *
  clear a c d h hs c0 c1 f1
  go_enter Try.func45, Try.ntmps45
  go_wp2
  go_region_held3 (fun w' => w'.cell? ⟨b, 0, none⟩ = some (.func (.func 37) #[] #[]) ∧ w'.cell? ⟨b, 1, none⟩ = some (.pointer p) ∧ Hid (Keep [] w w'))
    (first | assumption | exact Cs.drew (l := [(⟨b, 0, none⟩, .func (.func 37) #[] #[]), (⟨b, 1, none⟩, .pointer p)]) HBC | exact Cs.alloc (l := [(⟨b, 0, none⟩, .func (.func 37) #[] #[]), (⟨b, 1, none⟩, .pointer p)]) _ (by assumption) | exact Cs.more (l := [(⟨b, 0, none⟩, .func (.func 37) #[] #[]), (⟨b, 1, none⟩, .pointer p)]) (by assumption) (by assumption))
    (first | (go_at_call 58; refine (HP.out _ ((show Cs [(⟨b, 0, none⟩, .func (.func 37) #[] #[]), (⟨b, 1, none⟩, .pointer p)] w _ from by assumption).kp)).mono ?_; clear HP; rintro e w5 ⟨z5, rfl, k5⟩))
  go_wp2
  refine bodyPost_ret (v := .tuple #[vT z5, .bool hc]) (by simp [results, Try.results45, go_sem]) rfl ?_
  exact ⟨z5, rfl, ((show Cs [(⟨b, 0, none⟩, .func (.func 37) #[] #[]), (⟨b, 1, none⟩, .pointer p)] w _ from by assumption).kp)⟩
set_option maxRecDepth 100000 in
set_option maxHeartbeats 2000000 in
theorem sshRank_any (b : Nat) (l : List St) (x : St) (w : World) (h : ShS w b l) (hs : l.length ≤ 1152921504606846976) :
    Calls Try.prog 43 #[vA b, vT x] w fun e w' => e = .returned (.int .i64 (rnkS l x : Int)) ∧ Keep [] w w' := by
  obtain ⟨p, T, a, c, d⟩ := h.ex
  obtain ⟨⟨c0, c1⟩, f1⟩ := twoS a
  have HP : Hid (∀ w9, Keep [] w w9 → Calls Try.prog 62 #[.pointer p, .func (.func 37) #[] #[], vT x] w9 fun e w' => e = .returned (.int .i64 (rnkS l x : Int)) ∧ w9 = w') := fun w9 k => by subst d; exact srank_any p T x w9 (c.keep k) h.ris hs
  have HBC : Cs [(⟨b, 0, none⟩, .func (.func 37) #[] #[]), (⟨b, 1, none⟩, .pointer p)] w w := ⟨c0, c1, Keep.refl _ _⟩
  generalize (rnkS l x : Int) = rk at *
  clear a c d h hs c0 c1 f1
  go_enter Try.func43, Try.ntmps43
  go_wp2
  go_region_held3 (fun w' => w'.cell? ⟨b, 0, none⟩ = some (.func (.func 37) #[] #[]) ∧ w'.cell? ⟨b, 1, none⟩ = some (.pointer p) ∧ Hid (Keep [] w w'))
    (first | assumption | exact Cs.drew (l := [(⟨b, 0, none⟩, .func (.func 37) #[] #[]), (⟨b, 1, none⟩, .pointer p)]) HBC | exact Cs.alloc (l := [(⟨b, 0, none⟩, .func (.func 37) #[] #[]), (⟨b, 1, none⟩, .pointer p)]) _ (by assumption) | exact Cs.more (l := [(⟨b, 0, none⟩, .func (.func 37) #[] #[]), (⟨b, 1, none⟩, .pointer p)]) (by assumption) (by assumption))
    (first | (go_at_call 62; refine (HP.out _ ((show Cs [(⟨b, 0, none⟩, .func (.func 37) #[] #[]), (⟨b, 1, none⟩, .pointer p)] w _ from by assumption).kp)).mono ?_; clear HP; rintro e w5 ⟨rfl, rfl⟩))
  go_wp2
  go_ret
  exact ⟨rfl, ((show Cs [(⟨b, 0, none⟩, .func (.func 37) #[] #[]), (⟨b, 1, none⟩, .pointer p)] w _ from by assumption).kp)⟩
set_option maxRecDepth 100000 in
theorem sAll_any (b : Nat) (l : List St) (w : World) (h : ShS w b l) (hs : l.length ≤ 1152921504606846976) :
    Calls Try.prog 39 #[vA b] w fun e w' => ∃ B1 B2, e = .returned (vSs B1 B2) ∧ SqS w' B1 B2 l ∧ Keep [] w w' := by
  obtain ⟨p, T, a, c, d⟩ := h.ex
  have HE : Hid (∀ w9, w9 = w → Calls Try.prog 60 #[vA b] w9 fun e w' => e = .returned (.pointer p) ∧ w = w') := fun w9 e => by subst e; exact selements_any b p w9 a
  have HF : Hid (∀ w9, w9 = w → Calls Try.prog 61 #[.pointer p, .int .i64 0] w9 fun e w' => ∃ B1 B2, e = .returned (vSs B1 B2) ∧ SqS w' B1 B2 l ∧ Keep [] w w') := fun w9 e => by
    subst e
    refine (sfrom_any p 0 w9).mono ?_
    rintro e w' ⟨he, rfl⟩
    have h2 := SqS.of_from 0 c (by rw [d]; exact hs) (by omega)
    rw [d] at h2
    exact ⟨_, _, he, h2, (Keep.alloc1 _ _).alloc _⟩
  clear a c d h
  go_enter Try.func39, Try.ntmps39
  go_wp2_with fail
  refine (HE.out _ rfl).mono ?_
  rintro e w5 ⟨rfl, rfl⟩
  go_wp2_with fail
  refine (HF.out _ rfl).mono ?_
  rintro e w6 ⟨B1, B2, rfl, q6, k6⟩
  go_wp2
  go_ret
  exact ⟨B1, B2, rfl, q6, k6⟩
set_option maxRecDepth 100000 in
theorem sFrom_any (b : Nat) (l : List St) (x : St) (w : World) (h : ShS w b l) (hs : l.length ≤ 1152921504606846976) :
    Calls Try.prog 40 #[vA b, vT x] w fun e w' => ∃ B1 B2, e = .returned (vSs B1 B2) ∧ SqS w' B1 B2 (l.drop (rnkS l x)) ∧ Keep [] w w' := by
  obtain ⟨p, T, a, c, d⟩ := h.ex
  obtain ⟨⟨c0, c1⟩, f1⟩ := twoS a
  have HR : Hid (∀ w9, w9 = w → Calls Try.prog 62 #[.pointer p, .func (.func 37) #[] #[], vT x] w9 fun e w' => e = .returned (.int .i64 (rnkS l x : Int)) ∧ w = w') := fun w9 e => by subst e; subst d; exact srank_any p T x w9 c h.ris hs
  have HF : Hid (∀ w9, w9 = w → Calls Try.prog 61 #[.pointer p, .int .i64 (rnkS l x : Int)] w9 fun e w' => ∃ B1 B2, e = .returned (vSs B1 B2) ∧ SqS w' B1 B2 (l.drop (rnkS l x)) ∧ Keep [] w w') := fun w9 e => by
    subst e
    refine (sfrom_any p _ w9).mono ?_
    rintro e w' ⟨he, rfl⟩
    have h2 := SqS.of_from (rnkS l x) c (by rw [d]; exact hs) (by have := rnkS_le l x; omega)
    rw [d] at h2
    exact ⟨_, _, he, h2, (Keep.alloc1 _ _).alloc _⟩
  clear a c d h hs
  go_enter Try.func40, Try.ntmps40
  go_wp2_with fail
  refine (HR.out _ rfl).mono ?_
  rintro e w5 ⟨rfl, rfl⟩
  go_wp2_with fail
  refine (HF.out _ rfl).mono ?_
  rintro e w6 ⟨B1, B2, rfl, q6, k6⟩
  go_wp2
  go_ret
  exact ⟨B1, B2, rfl, q6, k6⟩

end Go.Proofs.Ytkelhglflpdpeaa
