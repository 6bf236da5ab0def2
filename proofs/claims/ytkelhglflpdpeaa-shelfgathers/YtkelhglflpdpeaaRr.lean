/- A drawn region within a round of a range over a function, at the wide fence: told as anywhere. -/
import Derived.Test.YtkelhglflpdpeaaLg
import Derived.Test.YtkelhglflpdpeaaRu
namespace Go.Proofs.Ytkelhglflpdpeaa
open Go

section
variable {P : Program} {ops : Array Oper} {Q : Exit → Act → World → Prop} {md : Region.Mode} {S : World → Prop} {l n : Nat}

/-- it ends, by no panic -/
abbrev Plain (Q : Exit → Act → World → Prop) : Exit → Act → World → Prop := fun e a w => e = .normal ∧ Q .normal a w
def noDefer (ops : Array Oper) : Bool := ops.all fun o => match o.op with
  | .defer _ => false
  | _ => true

theorem plain_out (h : LetsOut (Plain Q)) : False := by
  obtain ⟨_, _, h, _⟩ := h
  cases h

theorem operIn_of_oper {o : Oper} {K K' : Act → World → Prop} {a : Act} {w : World} (hnd : ∀ c, o.op ≠ .defer c) (hK : ∀ a w, K a w → K' a w) (h : o.wp P a w K (Plain Q)) : o.wpIn (Fence.wide.inRound l) n P a w K' Q := by
  unfold Oper.wpIn
  refine ⟨fun f _ => trivial, ?_⟩
  rw [Oper.semAt_eq _ _ _ hnd]
  unfold Oper.wp at h
  generalize (execOp a.eval o).run P w = r at *
  cases r with
  | ok x w' =>
    cases x with
    | value v => exact hK _ _ h
    | skip => exact hK _ _ h
    | defer d => exact hK _ _ h
    | enter f args =>
      refine ⟨fun h => (by cases h), CallsIn.inRound l (callsIn_wide.2 (Calls.mono h fun e w'' he => ?_))⟩
      cases e with
      | returned v => exact hK _ _ he
      | panicked c => exact absurd he.1 (by intro e; cases e)
      | outgrown => exact (plain_out he).elim
    | row row args =>
      refine ⟨fun h => (by cases h), fun c cs _ => ?_⟩
      obtain ⟨v, w'', r, s⟩ := h c cs
      exact ⟨v, w'', hK _ _ r, stepsIn_wide.2 s⟩
    | _ => exact h.elim
  | halt x w' =>
    cases x with
    | panic v => exact absurd h.1 (by intro e; cases e)
    | _ => exact h.elim

theorem opIn_of_op {i : Nat} {K : Act → World → Prop} {a : Act} {w : World} (hd : noDefer ops = true) (h : wpOp P ops (Plain Q) i K a w) : wpOpIn (Fence.wide.inRound l) n P ops Q i K a w := by
  unfold wpOp at h
  unfold wpOpIn
  cases ho : ops[i]? with
  | none => simpa only [ho] using h
  | some o =>
    simp only [ho] at h ⊢
    have hnd : ∀ c, o.op ≠ .defer c := fun c e => by
      obtain ⟨hi, he⟩ := Array.getElem?_eq_some_iff.1 ho
      have h1 := Array.all_eq_true.1 hd i hi
      rw [he, e] at h1
      cases h1
    by_cases hw : Region.wanted o (yielded ops a.tmps) = true
    · rw [if_pos hw] at h ⊢
      rcases h with h | ⟨_, h⟩
      · exact operIn_of_oper hnd (fun _ _ h => h) h
      · exact (plain_out h).elim
    · rw [if_neg hw] at h ⊢
      exact ⟨fun f _ => trivial, h⟩

theorem listIn_of_list (hd : noDefer ops = true) : ∀ (L : List Oper) (a : Act) (w : World), (∀ o ∈ L, o ∈ ops) → wpList P ops (Plain Q) L a w → wpListIn (Fence.wide.inRound l) n P ops Q L a w
  | [], _, _, _, h => h.2
  | o :: rest, a, w, hm, h => by
    have hnd : ∀ c, o.op ≠ .defer c := fun c e => by
      obtain ⟨i, hi, he⟩ := Array.getElem_of_mem (hm o (by simp))
      have h1 := Array.all_eq_true.1 hd i hi
      rw [he, e] at h1
      cases h1
    have ih := fun a w h => listIn_of_list hd rest a w (fun o ho => hm o (by simp [ho])) h
    unfold wpList at h
    unfold wpListIn
    by_cases hw : Region.wanted o (yielded ops a.tmps) = true
    · rw [if_pos hw] at h ⊢
      rcases h with h | ⟨_, h⟩
      · exact operIn_of_oper hnd ih h
      · exact (plain_out h).elim
    · rw [if_neg hw] at h ⊢
      exact ⟨fun f _ => trivial, ih _ _ h⟩
/-- a region that draws nothing, in a round -/
theorem wpIn_region_seqP {id : Nat} {a : Act} {w : World} {L : List Oper} (hd : noDefer L.toArray = true) (h : wpList P L.toArray (Plain Q) L a w) : (Code.region id L.toArray false).wpIn (Fence.wide.inRound l) n P Q a w :=
  wpIn_region_lit (listIn_of_list hd L a w (fun o ho => by simpa using ho) h)

theorem anyIn_of_any (hd : noDefer ops = true) : ∀ (f : Nat) (b : Array Bool) (a : Act) (w : World), wpAny P md ops (Plain Q) f b a w → wpAnyIn (Fence.wide.inRound l) n P md ops Q f b a w
  | 0, _, _, _, h => ⟨h.1, h.2.2⟩
  | f + 1, _, _, _, h => ⟨fun e => (h.1 e).2, fun i hi => opIn_of_op hd (wpOp_mono (fun a' w' h' => anyIn_of_any hd f _ a' w' h') (h.2 i hi))⟩

/-- the beginning, where S is held -/
theorem wpIn_region_held {id : Nat} {a : Act} {w : World} (hm : P.follows .mixedOrders = true) (hd : noDefer ops = true) (hS : S w.drew)
    (h : S w.drew → wpAnyH P .any ops (Plain Q) S ops.size (Array.replicate ops.size false) a w.drew) : (Code.region id ops true).wpIn (Fence.wide.inRound l) n P Q a w :=
  wpIn_region_any hm (anyIn_of_any hd _ _ _ _ (wpAny_of_held _ _ _ _ (h hS)))
/-- the beginning, where it is held up to one operation -/
theorem wpIn_region_until {id : Nat} {a : Act} {w : World} (m : Nat) (hm : P.follows .mixedOrders = true) (hd : noDefer ops = true) (hS : S w.drew)
    (h : S w.drew → AnyU P .any ops (Plain Q) S m ops.size (Array.replicate ops.size false) a w.drew) : (Code.region id ops true).wpIn (Fence.wide.inRound l) n P Q a w :=
  wpIn_region_any hm (anyIn_of_any hd _ _ _ _ (AnyU.any _ _ _ _ (h hS)))
/-- nothing is asked: all orders -/
theorem wpIn_region_all {id : Nat} {a : Act} {w : World} (hm : P.follows .mixedOrders = true) (hd : noDefer ops = true)
    (h : wpAny P .any ops (Plain Q) ops.size (Array.replicate ops.size false) a w.drew) : (Code.region id ops true).wpIn (Fence.wide.inRound l) n P Q a w :=
  wpIn_region_any hm (anyIn_of_any hd _ _ _ _ h)
theorem op_of_plain {i : Nat} {K K' : Act → World → Prop} {a : Act} {w : World} (hK : ∀ a w, K a w → K' a w) (h : wpOp P ops (Plain Q) i K a w) : wpOp P ops Q i K' a w := by
  unfold wpOp at *
  cases ho : ops[i]? with
  | none => exact hK _ _ (by simpa only [ho] using h)
  | some o =>
    simp only [ho] at h ⊢
    by_cases hw : Region.wanted o (yielded ops a.tmps) = true
    · rw [if_pos hw] at h ⊢
      rcases h with h | ⟨_, h⟩
      · refine .inl ?_
        unfold Oper.wp at *
        generalize (execOp a.eval o).run P w = r at *
        cases r with
        | ok x w' =>
          cases x with
          | value v => exact hK _ _ h
          | skip => exact hK _ _ h
          | defer d => exact hK _ _ h
          | enter f args =>
            refine Calls.mono h fun e w'' he => ?_
            cases e with
            | returned v => exact hK _ _ he
            | panicked c => exact absurd he.1 (by intro e; cases e)
            | outgrown => exact (plain_out he).elim
          | row row args => exact Rows.mono h fun v w'' he => hK _ _ he
          | _ => exact h.elim
        | halt x w' =>
          cases x with
          | panic v => exact absurd h.1 (by intro e; cases e)
          | _ => exact h.elim
      · exact (plain_out h).elim
    · rw [if_neg hw] at h ⊢
      exact hK _ _ h
theorem any_of_plain : ∀ (f : Nat) (b : Array Bool) (a : Act) (w : World), wpAny P md ops (Plain Q) f b a w → wpAny P md ops Q f b a w
  | 0, _, _, _, h => ⟨h.1, h.2.2⟩
  | f + 1, _, _, _, h => ⟨fun e => (h.1 e).2, fun i hi => op_of_plain (fun a' w' h' => any_of_plain f _ a' w' h') (h.2 i hi)⟩
/-- a drawn region outside of rounds, where what follows a panic is not to be looked at -/
theorem wp_region_heldP {id : Nat} {a : Act} {w : World} (hm : P.follows .mixedOrders = true) (hS : S w.drew)
    (h : S w.drew → wpAnyH P .any ops (Plain Q) S ops.size (Array.replicate ops.size false) a w.drew) : (Code.region id ops true).wp P Q a w :=
  wp_region_any hm (any_of_plain _ _ _ _ (wpAny_of_held _ _ _ _ (h hS)))
theorem wp_region_untilP {id : Nat} {a : Act} {w : World} (m : Nat) (hm : P.follows .mixedOrders = true) (hS : S w.drew)
    (h : S w.drew → AnyU P .any ops (Plain Q) S m ops.size (Array.replicate ops.size false) a w.drew) : (Code.region id ops true).wp P Q a w :=
  wp_region_any hm (any_of_plain _ _ _ _ (AnyU.any _ _ _ _ (h hS)))
theorem plain_panic {c : List PanicEntry} {x : Option Tmp} {v : Value} {a : Act} {w : World} (h : Plain Q (.panic c) (a.put x v) w) : Plain Q (.panic c) a w := absurd h.1 (by intro e; cases e)
end
end Go.Proofs.Ytkelhglflpdpeaa
