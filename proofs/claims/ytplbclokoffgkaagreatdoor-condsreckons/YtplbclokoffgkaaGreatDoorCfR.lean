/- Drawn regions: one of whose operations writes what the others read; within a round of a range over a function. Append inside a fence. -/
import Derived.Test.YtplbclokoffgkaaGreatDoorCfA
import Derived.Deep.DeepAppendWide
namespace Go.Proofs.YtplbclokoffgkaaGreatDoor

open Go

section
variable {P : Program} {ops : Array Oper} {Q : Exit → Act → World → Prop} {md : Region.Mode} {S : World → Prop} {n : Nat}

/-- in whatever order; S holds as long as the operation n is not done -/
def AnyU (P : Program) (md : Region.Mode) (ops : Array Oper) (Q : Exit → Act → World → Prop) (S : World → Prop) (n : Nat) : Nat → Array Bool → Act → World → Prop
  | 0, l, a, w => Region.ready md ops l = [] ∧ Q .normal a w
  | f + 1, l, a, w => (Region.ready md ops l = [] → Q .normal a w) ∧
      ∀ i ∈ Region.ready md ops l, wpOp P ops Q i (fun a' w' => ((l.setIfInBounds i true).getD n true = false → S w') ∧ AnyU P md ops Q S n f (l.setIfInBounds i true) a' w') a w

theorem AnyU.any : ∀ (f : Nat) (l : Array Bool) (a : Act) (w : World), AnyU P md ops Q S n f l a w → wpAny P md ops Q f l a w
  | 0, _, _, _, h => h
  | f + 1, _, _, _, h => ⟨h.1, fun i hi => wpOp_mono (fun a' w' h' => AnyU.any f _ a' w' h'.2) (h.2 i hi)⟩

/-- the operation n waits for i -/
def waitsB (md : Region.Mode) (ops : Array Oper) (n i : Nat) : Bool := match ops[n]? with
  | some o => o.after.any fun e => Region.binds md e && e.on == i
  | none => false

theorem not_yet {l : Array Bool} {i : Nat} (hw : waitsB md ops n i = true) (hr : i ∈ Region.ready md ops l) : n ∉ Region.ready md ops l := fun hn => by
  obtain ⟨_, o, ho, hall⟩ := mem_ready.1 hn
  unfold waitsB at hw
  rw [ho] at hw
  obtain ⟨k, hk, hb⟩ := Array.any_eq_true.1 hw
  rw [Bool.and_eq_true] at hb
  have h1 := hall _ (Array.getElem_mem hk) hb.1
  have h2 : (o.after[k]).on = i := by simpa using hb.2
  rw [h2] at h1
  have h0 := (mem_ready.1 hr).1
  rcases Nat.lt_or_ge i l.size with h' | h'
  · simp [h'] at h0 h1; rw [h0] at h1; cases h1
  · simp [Array.getElem?_eq_none h'] at h1

theorem AnyU.first {i : Nat} {oi : Oper} {v : Value} (hi : ops[i]? = some oi) (hsel : ∀ (j : Nat) (o : Oper) cs b, ops[j]? = some o → o.op ≠ .select cs b) (hw : waitsB md ops n i = true)
    (hQ : ∀ c a w, Q (.panic c) (a.put oi.dst v) w → Q (.panic c) a w) :
    ∀ (f : Nat) (l : Array Bool) (a : Act) (w : World),
      (∀ j oj, ops[j]? = some oj → j ≠ i → l.getD j true = false → (∀ e ∈ oj.after, Region.binds md e = true → e.on ≠ i) → oi.apart ops oj = true) →
      i ∈ Region.ready md ops l → l.getD n true = false → YieldsIf P ops S oi v a → S w →
      AnyU P md ops Q S n f (l.setIfInBounds i true) (a.put oi.dst v) w → AnyU P md ops Q S n (f + 1) l a w := by
  intro f
  induction f with
  | zero =>
    intro l a w _ hr hun hy hS H
    refine ⟨fun h => (by rw [h] at hr; cases hr), fun j hj => ?_⟩
    by_cases hji : j = i
    · subst hji; exact hy.wpOp hi hS ⟨fun _ => hS, H⟩
    · have := ready_mono hj hji
      rw [H.1] at this
      cases this
  | succ f ih =>
    intro l a w hfree hr hun hy hS H
    refine ⟨fun h => (by rw [h] at hr; cases hr), fun j hj => ?_⟩
    by_cases hji : j = i
    · subst hji; exact hy.wpOp hi hS ⟨fun _ => hS, H⟩
    · have hjn : j ≠ n := fun e => not_yet hw hr (e ▸ hj)
      have hin : i ≠ n := fun e => not_yet hw hr (e ▸ hr)
      have h1 := H.2 j (ready_mono hj hji)
      obtain ⟨hjun, oj, hoj, hall⟩ := mem_ready.1 hj
      have hnot : ∀ e ∈ oj.after, Region.binds md e = true → e.on ≠ i := fun e he hb heq => by
        have h1 := hall e he hb
        have h0 := (mem_ready.1 hr).1
        rw [heq] at h1
        rcases Nat.lt_or_ge i l.size with h' | h'
        · simp [h'] at h0 h1; rw [h0] at h1; cases h1
        · simp [Array.getElem?_eq_none h'] at h1
      have h2 := wpOp_putIf hoj (hfree j oj hoj hji hjun hnot) (fun cs b => hsel i oi cs b hi) (fun cs b => hsel j oj cs b hoj) hQ hy h1
      have hfree' : ∀ k ok, ops[k]? = some ok → k ≠ i → (l.setIfInBounds j true).getD k true = false →
          (∀ e ∈ ok.after, Region.binds md e = true → e.on ≠ i) → oi.apart ops ok = true := fun k ok hk hki hun hno => by
        refine hfree k ok hk hki ?_ hno
        by_cases hjk : j = k
        · subst hjk; exact hjun
        · rw [getD_set_ne true hjk] at hun; exact hun
      have hun' : (l.setIfInBounds j true).getD n true = false := by rw [getD_set_ne true hjn]; exact hun
      refine wpOp_mono (fun a' w' h3 => ?_) h2
      have hS' : S w' := h3.2.1 (by rw [getD_set_ne true hjn, getD_set_ne true hin]; exact hun)
      refine ⟨fun _ => hS', ih (l.setIfInBounds j true) a' w' hfree' (ready_mono hr (Ne.symm hji)) hun' h3.1 hS' ?_⟩
      rw [Array.setIfInBounds_comm _ _ hji]
      exact h3.2.2

/-- an operation that asks nothing of the world -/
theorem AnyU.firstP {i : Nat} {oi : Oper} {v : Value} (hi : ops[i]? = some oi) (hsel : ∀ (j : Nat) (o : Oper) cs b, ops[j]? = some o → o.op ≠ .select cs b) (hin : i ≠ n)
    (hQ : ∀ c a w, Q (.panic c) (a.put oi.dst v) w → Q (.panic c) a w) :
    ∀ (f : Nat) (l : Array Bool) (a : Act) (w : World),
      (∀ j oj, ops[j]? = some oj → j ≠ i → l.getD j true = false → (∀ e ∈ oj.after, Region.binds md e = true → e.on ≠ i) → oi.apart ops oj = true) →
      i ∈ Region.ready md ops l → YieldsIf P ops (fun _ => True) oi v a → (l.getD n true = false → S w) →
      AnyU P md ops Q S n f (l.setIfInBounds i true) (a.put oi.dst v) w → AnyU P md ops Q S n (f + 1) l a w := by
  intro f
  induction f with
  | zero =>
    intro l a w _ hr hy hS H
    refine ⟨fun h => (by rw [h] at hr; cases hr), fun j hj => ?_⟩
    by_cases hji : j = i
    · subst hji; exact hy.wpOp hi trivial ⟨fun h => hS (by rw [getD_set_ne true hin] at h; exact h), H⟩
    · have := ready_mono hj hji
      rw [H.1] at this
      cases this
  | succ f ih =>
    intro l a w hfree hr hy hS H
    refine ⟨fun h => (by rw [h] at hr; cases hr), fun j hj => ?_⟩
    by_cases hji : j = i
    · subst hji; exact hy.wpOp hi trivial ⟨fun h => hS (by rw [getD_set_ne true hin] at h; exact h), H⟩
    · have h1 := H.2 j (ready_mono hj hji)
      obtain ⟨hjun, oj, hoj, hall⟩ := mem_ready.1 hj
      have hnot : ∀ e ∈ oj.after, Region.binds md e = true → e.on ≠ i := fun e he hb heq => by
        have h1 := hall e he hb
        have h0 := (mem_ready.1 hr).1
        rw [heq] at h1
        rcases Nat.lt_or_ge i l.size with h' | h'
        · simp [h'] at h0 h1; rw [h0] at h1; cases h1
        · simp [Array.getElem?_eq_none h'] at h1
      have h2 := wpOp_putIf hoj (hfree j oj hoj hji hjun hnot) (fun cs b => hsel i oi cs b hi) (fun cs b => hsel j oj cs b hoj) hQ hy h1
      have hfree' : ∀ k ok, ops[k]? = some ok → k ≠ i → (l.setIfInBounds j true).getD k true = false →
          (∀ e ∈ ok.after, Region.binds md e = true → e.on ≠ i) → oi.apart ops ok = true := fun k ok hk hki hun hno => by
        refine hfree k ok hk hki ?_ hno
        by_cases hjk : j = k
        · subst hjk; exact hjun
        · rw [getD_set_ne true hjk] at hun; exact hun
      refine wpOp_mono (fun a' w' h3 => ?_) h2
      have hS' : (l.setIfInBounds j true).getD n true = false → S w' := fun h => h3.2.1 (by rw [Array.setIfInBounds_comm _ _ (Ne.symm hji), getD_set_ne true hin]; exact h)
      refine ⟨hS', ih (l.setIfInBounds j true) a' w' hfree' (ready_mono hr (Ne.symm hji)) h3.1 hS' ?_⟩
      rw [Array.setIfInBounds_comm _ _ hji]
      exact h3.2.2

theorem AnyU.take {i : Nat} {oi : Oper} {v : Value} {f : Nat} {l : Array Bool} {a : Act} {w : World} (hi : ops[i]? = some oi)
    (hs : Region.noSelect ops = true) (hf : Region.free md ops l i = true) (hr : (Region.ready md ops l).contains i = true) (hw : (waitsB md ops n i && !(l.getD n true)) = true)
    (hQ : ∀ c a w, Q (.panic c) (a.put oi.dst v) w → Q (.panic c) a w) (hy : YieldsIf P ops S oi v a) (hS : S w)
    (h : AnyU P md ops Q S n f (l.setIfInBounds i true) (a.put oi.dst v) w) : AnyU P md ops Q S n (f + 1) l a w := by
  rw [Bool.and_eq_true] at hw
  exact AnyU.first hi (Region.noSelect_spec hs) hw.1 hQ f l a w (Region.free_spec hi hf) (by simpa using hr) (by simpa using hw.2) hy hS h

theorem AnyU.takeP {i : Nat} {oi : Oper} {v : Value} {f : Nat} {l : Array Bool} {a : Act} {w : World} (hi : ops[i]? = some oi)
    (hs : Region.noSelect ops = true) (hf : Region.free md ops l i = true) (hr : (Region.ready md ops l).contains i = true) (hin : (i == n) = false)
    (hQ : ∀ c a w, Q (.panic c) (a.put oi.dst v) w → Q (.panic c) a w) (hy : YieldsIf P ops (fun _ => True) oi v a) (hS : l.getD n true = false → S w)
    (h : AnyU P md ops Q S n f (l.setIfInBounds i true) (a.put oi.dst v) w) : AnyU P md ops Q S n (f + 1) l a w :=
  AnyU.firstP hi (Region.noSelect_spec hs) (by simpa using hin) hQ f l a w (Region.free_spec hi hf) (by simpa using hr) hy hS h

/-- one operation alone may come up -/
theorem AnyU.one {i : Nat} {o : Oper} {f : Nat} {l : Array Bool} {a : Act} {w : World} (hr : Region.ready md ops l = [i]) (ho : ops[i]? = some o)
    (h : ∀ K : Act → World → Prop, Shut (∀ a w, ((l.setIfInBounds i true).getD n true = false → S w) → (((l.setIfInBounds i true).getD n true = false → S w) → AnyU P md ops Q S n f (l.setIfInBounds i true) a w) → K a w) → if Region.wanted o (yielded ops a.tmps) = true then Oper.wp P o a w K Q else K (a.put o.dst undef) w) : AnyU P md ops Q S n (f + 1) l a w := by
  refine ⟨fun h0 => (by rw [hr] at h0; cases h0), fun j hj => ?_⟩
  rw [hr] at hj
  obtain rfl : j = i := by simpa using hj
  exact wpOp_step ho (fun K hK => h K (fun a w hS hW => hK a w ⟨hS, hW hS⟩))

theorem AnyU.done {l : Array Bool} {a : Act} {w : World} (hr : Region.ready md ops l = []) (h : Q .normal a w) : ∀ f, AnyU P md ops Q S n f l a w
  | 0 => ⟨hr, h⟩
  | _ + 1 => ⟨fun _ => h, by rw [hr]; simp⟩

/-- the beginning -/
theorem wp_region_until {id : Nat} {a : Act} {w : World} (n : Nat) (hm : P.follows .mixedOrders = true) (hS : S w.drew)
    (h : S w.drew → AnyU P .any ops Q S n ops.size (Array.replicate ops.size false) a w.drew) : (Code.region id ops true).wp P Q a w :=
  wp_region_any hm (AnyU.any _ _ _ _ (h hS))
end



section
variable {P : Program} {ops : Array Oper} {Q : Exit → Act → World → Prop} {md : Region.Mode} {S : World → Prop} {l n : Nat}

/-- it ends, by no panic -/
abbrev Plain (Q : Exit → Act → World → Prop) : Exit → Act → World → Prop := fun e a w => e = .normal ∧ Q .normal a w
def noDefer (ops : Array Oper) : Bool := ops.all fun o => match o.op with
  | .defer _ => false
  | _ => true

theorem plain_out (h : LetsOut (Plain Q)) : False := by
  obtain ⟨_, _, h, _⟩ := h
  cases h

theorem operIn_of_oper {o : Oper} {K K' : Act → World → Prop} {a : Act} {w : World} (hnd : ∀ c, o.op ≠ .defer c) (hK : ∀ a w, K a w → K' a w) (h : o.wp P a w K (Plain Q)) : o.wpIn (Fence.wide.inRound l) n P a w K' Q := by
  unfold Oper.wpIn
  refine ⟨fun f _ => trivial, ?_⟩
  rw [Oper.semAt_eq _ _ _ hnd]
  unfold Oper.wp at h
  generalize (execOp a.eval o).run P w = r at *
  cases r with
  | ok x w' =>
    cases x with
    | value v => exact hK _ _ h
    | skip => exact hK _ _ h
    | defer d => exact hK _ _ h
    | enter f args =>
      refine ⟨fun h => (by cases h), CallsIn.inRound l (callsIn_wide.2 (Calls.mono h fun e w'' he => ?_))⟩
      cases e with
      | returned v => exact hK _ _ he
      | panicked c => exact absurd he.1 (by intro e; cases e)
      | outgrown => exact (plain_out he).elim
    | row row args =>
      refine ⟨fun h => (by cases h), fun c cs _ => ?_⟩
      obtain ⟨v, w'', r, s⟩ := h c cs
      exact ⟨v, w'', hK _ _ r, stepsIn_wide.2 s⟩
    | _ => exact h.elim
  | halt x w' =>
    cases x with
    | panic v => exact absurd h.1 (by intro e; cases e)
    | _ => exact h.elim

theorem opIn_of_op {i : Nat} {K : Act → World → Prop} {a : Act} {w : World} (hd : noDefer ops = true) (h : wpOp P ops (Plain Q) i K a w) : wpOpIn (Fence.wide.inRound l) n P ops Q i K a w := by
  unfold wpOp at h
  unfold wpOpIn
  cases ho : ops[i]? with
  | none => simpa only [ho] using h
  | some o =>
    simp only [ho] at h ⊢
    have hnd : ∀ c, o.op ≠ .defer c := fun c e => by
      obtain ⟨hi, he⟩ := Array.getElem?_eq_some_iff.1 ho
      have h1 := Array.all_eq_true.1 hd i hi
      rw [he, e] at h1
      cases h1
    by_cases hw : Region.wanted o (yielded ops a.tmps) = true
    · rw [if_pos hw] at h ⊢
      rcases h with h | ⟨_, h⟩
      · exact operIn_of_oper hnd (fun _ _ h => h) h
      · exact (plain_out h).elim
    · rw [if_neg hw] at h ⊢
      exact ⟨fun f _ => trivial, h⟩

theorem listIn_of_list (hd : noDefer ops = true) : ∀ (L : List Oper) (a : Act) (w : World), (∀ o ∈ L, o ∈ ops) → wpList P ops (Plain Q) L a w → wpListIn (Fence.wide.inRound l) n P ops Q L a w
  | [], _, _, _, h => h.2
  | o :: rest, a, w, hm, h => by
    have hnd : ∀ c, o.op ≠ .defer c := fun c e => by
      obtain ⟨i, hi, he⟩ := Array.getElem_of_mem (hm o (by simp))
      have h1 := Array.all_eq_true.1 hd i hi
      rw [he, e] at h1
      cases h1
    have ih := fun a w h => listIn_of_list hd rest a w (fun o ho => hm o (by simp [ho])) h
    unfold wpList at h
    unfold wpListIn
    by_cases hw : Region.wanted o (yielded ops a.tmps) = true
    · rw [if_pos hw] at h ⊢
      rcases h with h | ⟨_, h⟩
      · exact operIn_of_oper hnd ih h
      · exact (plain_out h).elim
    · rw [if_neg hw] at h ⊢
      exact ⟨fun f _ => trivial, ih _ _ h⟩
/-- a region that draws nothing, in a round -/
theorem wpIn_region_seqP {id : Nat} {a : Act} {w : World} {L : List Oper} (hd : noDefer L.toArray = true) (h : wpList P L.toArray (Plain Q) L a w) : (Code.region id L.toArray false).wpIn (Fence.wide.inRound l) n P Q a w :=
  wpIn_region_lit (listIn_of_list hd L a w (fun o ho => by simpa using ho) h)

theorem anyIn_of_any (hd : noDefer ops = true) : ∀ (f : Nat) (b : Array Bool) (a : Act) (w : World), wpAny P md ops (Plain Q) f b a w → wpAnyIn (Fence.wide.inRound l) n P md ops Q f b a w
  | 0, _, _, _, h => ⟨h.1, h.2.2⟩
  | f + 1, _, _, _, h => ⟨fun e => (h.1 e).2, fun i hi => opIn_of_op hd (wpOp_mono (fun a' w' h' => anyIn_of_any hd f _ a' w' h') (h.2 i hi))⟩

/-- the beginning, where S is held -/
theorem wpIn_region_held {id : Nat} {a : Act} {w : World} (hm : P.follows .mixedOrders = true) (hd : noDefer ops = true) (hS : S w.drew)
    (h : S w.drew → wpAnyH P .any ops (Plain Q) S ops.size (Array.replicate ops.size false) a w.drew) : (Code.region id ops true).wpIn (Fence.wide.inRound l) n P Q a w :=
  wpIn_region_any hm (anyIn_of_any hd _ _ _ _ (wpAny_of_held _ _ _ _ (h hS)))
/-- the beginning, where it is held up to one operation -/
theorem wpIn_region_until {id : Nat} {a : Act} {w : World} (m : Nat) (hm : P.follows .mixedOrders = true) (hd : noDefer ops = true) (hS : S w.drew)
    (h : S w.drew → AnyU P .any ops (Plain Q) S m ops.size (Array.replicate ops.size false) a w.drew) : (Code.region id ops true).wpIn (Fence.wide.inRound l) n P Q a w :=
  wpIn_region_any hm (anyIn_of_any hd _ _ _ _ (AnyU.any _ _ _ _ (h hS)))
/-- nothing is asked: all orders -/
theorem wpIn_region_all {id : Nat} {a : Act} {w : World} (hm : P.follows .mixedOrders = true) (hd : noDefer ops = true)
    (h : wpAny P .any ops (Plain Q) ops.size (Array.replicate ops.size false) a w.drew) : (Code.region id ops true).wpIn (Fence.wide.inRound l) n P Q a w :=
  wpIn_region_any hm (anyIn_of_any hd _ _ _ _ h)
theorem op_of_plain {i : Nat} {K K' : Act → World → Prop} {a : Act} {w : World} (hK : ∀ a w, K a w → K' a w) (h : wpOp P ops (Plain Q) i K a w) : wpOp P ops Q i K' a w := by
  unfold wpOp at *
  cases ho : ops[i]? with
  | none => exact hK _ _ (by simpa only [ho] using h)
  | some o =>
    simp only [ho] at h ⊢
    by_cases hw : Region.wanted o (yielded ops a.tmps) = true
    · rw [if_pos hw] at h ⊢
      rcases h with h | ⟨_, h⟩
      · refine .inl ?_
        unfold Oper.wp at *
        generalize (execOp a.eval o).run P w = r at *
        cases r with
        | ok x w' =>
          cases x with
          | value v => exact hK _ _ h
          | skip => exact hK _ _ h
          | defer d => exact hK _ _ h
          | enter f args =>
            refine Calls.mono h fun e w'' he => ?_
            cases e with
            | returned v => exact hK _ _ he
            | panicked c => exact absurd he.1 (by intro e; cases e)
            | outgrown => exact (plain_out he).elim
          | row row args => exact Rows.mono h fun v w'' he => hK _ _ he
          | _ => exact h.elim
        | halt x w' =>
          cases x with
          | panic v => exact absurd h.1 (by intro e; cases e)
          | _ => exact h.elim
      · exact (plain_out h).elim
    · rw [if_neg hw] at h ⊢
      exact hK _ _ h
theorem any_of_plain : ∀ (f : Nat) (b : Array Bool) (a : Act) (w : World), wpAny P md ops (Plain Q) f b a w → wpAny P md ops Q f b a w
  | 0, _, _, _, h => ⟨h.1, h.2.2⟩
  | f + 1, _, _, _, h => ⟨fun e => (h.1 e).2, fun i hi => op_of_plain (fun a' w' h' => any_of_plain f _ a' w' h') (h.2 i hi)⟩
/-- a drawn region outside of rounds, where what follows a panic is not to be looked at -/
theorem wp_region_heldP {id : Nat} {a : Act} {w : World} (hm : P.follows .mixedOrders = true) (hS : S w.drew)
    (h : S w.drew → wpAnyH P .any ops (Plain Q) S ops.size (Array.replicate ops.size false) a w.drew) : (Code.region id ops true).wp P Q a w :=
  wp_region_any hm (any_of_plain _ _ _ _ (wpAny_of_held _ _ _ _ (h hS)))
theorem wp_region_untilP {id : Nat} {a : Act} {w : World} (m : Nat) (hm : P.follows .mixedOrders = true) (hS : S w.drew)
    (h : S w.drew → AnyU P .any ops (Plain Q) S m ops.size (Array.replicate ops.size false) a w.drew) : (Code.region id ops true).wp P Q a w :=
  wp_region_any hm (any_of_plain _ _ _ _ (AnyU.any _ _ _ _ (h hS)))
theorem plain_panic {c : List PanicEntry} {x : Option Tmp} {v : Value} {a : Act} {w : World} (h : Plain Q (.panic c) (a.put x v) w) : Plain Q (.panic c) a w := absurd h.1 (by intro e; cases e)
end

section
open Go.RowKit Go.PlainAid Go.Shelf
attribute [local go_sem] Oper.semAt_some
theorem run_appW {P : Program} {E : TypeId} {z : Value} {s nb : Nat} (hinfo : (P.info? E).map (fun i => (i.zero, i.size, i.bytes)) = some (some z, s, nb)) (hzs : z.cells.size = s)
    (w : World) (t tx ty : TypeId) (ht : P.underlying t = some (.slice E)) (v : Value) (n : Nat) (xs : List Value) (hown : RowC w E s v n xs) (x : Value) (m : Nat) (ys : List Value) (hs : Src P s tx x m ys w)
    (hbytes : ((n + m) + (n + m) / 4 + 192) * nb ≤ 281474976710656) (h63 : n + m ≤ maxLen) :
    ∃ v' w', (Builtin.append_ #[t, tx] ty #[v, x]).run P w = .ok v' w' ∧ RowC w' E s v' (n + m) (xs ++ ys) ∧ Keep v.ownBlock.toList w w' ∧ (v'.ownBlock = v.ownBlock ∨ Fresh w w' v') ∧ Sl v' (n + m) ∧ RowC w' E s v n xs := by
  obtain ⟨i, hi, hz, hsize, hby⟩ := info_parts hinfo
  have hxl : xs.length = n * s := hown.1
  have hyl : ys.length = m * s := hs.newsLen
  have hs' : Src P i.size tx x m ys w := by rw [hsize]; exact hs
  have hmul : (n + m) * s = n * s + m * s := Nat.add_mul _ _ _
  have grown : ∀ (old : Nat), old < n + m →
      RowC (w.drew.alloc (.cells ((xs ++ ys).toArray ++ Builtin.zeroCells z.cells (grownCap w (n + m) old E - (n + m))) E)) E s (.slice (some ⟨w.heap.size, 0, none⟩) (n + m) (grownCap w (n + m) old E)) (n + m) (xs ++ ys) ∧
      Keep [] w (w.drew.alloc (.cells ((xs ++ ys).toArray ++ Builtin.zeroCells z.cells (grownCap w (n + m) old E - (n + m))) E)) ∧
      Fresh w (w.drew.alloc (.cells ((xs ++ ys).toArray ++ Builtin.zeroCells z.cells (grownCap w (n + m) old E - (n + m))) E)) (.slice (some ⟨w.heap.size, 0, none⟩) (n + m) (grownCap w (n + m) old E)) := by
    intro old ho
    have hge := grownCap_ge w (n + m) old E
    have hcm : grownCap w (n + m) old E ≤ maxLen := grownCap_le_maxLen w _ old E h63
    refine ⟨⟨by simp [hxl, hyl, hmul], .inr ⟨w.heap.size, _, _, rfl, Nat.zero_le _, heap_alloc_new' w.drew _, hge, hcm, ?_, ?_⟩⟩, ((Keep.refl _ w).drew).alloc _, ?_⟩
    · simp only [Array.size_append, List.size_toArray, size_zeroCells, List.length_append, hxl, hyl, hzs]
      rw [← hmul, ← Nat.add_mul]
      congr 1
      omega
    · simp only [Array.toList_append]
      rw [List.take_append_of_le_length (by simp [hxl, hyl, hmul])]
      exact List.take_of_length_le (by simp [hxl, hyl, hmul])
    · intro k hk
      simp [Value.ownBlock] at hk
      subst hk
      exact ⟨Nat.le_refl _, by simp⟩
  have hown0 := hown
  rcases hown.2 with ⟨rfl, rfl⟩ | ⟨g, cap, cur, rfl, hbg, hg, hnc, hcm, hcs, htake⟩
  · have hx0 : xs = [] := List.eq_nil_of_length_eq_zero (by simpa using hxl)
    subst hx0
    by_cases hm : m = 0
    · subst hm
      have hy0 : ys = [] := List.eq_nil_of_length_eq_zero (by simpa using hyl)
      subst hy0
      refine ⟨.slice none 0 0, w, ?_, World.ownsRow_nil w 0 E s, Keep.refl _ w, .inl rfl, ⟨none, 0, rfl⟩, hown0⟩
      have hc := hs'.cells
      have hl := hs'.len
      rcases hs'.kind with ⟨e', hk⟩ | hk <;>
        simp [Builtin.append_, run_underlying ht, run_underlying hk, sizeOf, typeInfo, hi, hl, hc]
    · have hr := run_append_grow_src (P := P) w t tx ty E i z ht hi hz none 0 0 [] (run_firstCells_none w.drew i.size 0 0 0) x m ys hs' (by omega) (by simp only [maxLen] at h63; omega)
        (by rw [hby]; exact growslice_fits_wide (by omega) hbytes)
      obtain ⟨g1, g2, g3⟩ := grown 0 (by omega)
      exact ⟨_, _, hr, g1, g2.mono (fun _ h => by cases h), .inr g3, ⟨_, _, rfl⟩, World.ownsRow_nil _ 0 E s⟩
  · by_cases hroom : n + m ≤ cap
    · have hfit : n * i.size + ys.length ≤ cur.size := by
        rw [hsize, hcs, hyl, ← hmul]
        exact Nat.mul_le_mul_right _ hroom
      have hst := run_storeCells_at P g (n * i.size) E ys 0 cur w hg (by simpa using hfit) hs'.one
      simp only [Nat.add_zero] at hst
      have hcl : cur.toList.length = cap * s := by rw [Array.length_toList, hcs]
      have hns : n * s ≤ cap * s := Nat.mul_le_mul_right _ hnc
      have hnm : n * s + ys.length ≤ cap * s := by rw [hyl, ← hmul]; exact Nat.mul_le_mul_right _ hroom
      have hsz : (cur.toList.take (n * i.size) ++ ys ++ cur.toList.drop (n * i.size + ys.length)).toArray.size = cap * s := by
        rw [hsize]
        simp only [List.size_toArray, List.length_append, List.length_take, List.length_drop, hcl]
        omega
      refine ⟨.slice (some ⟨g, 0, none⟩) (n + m) cap, w.setRow g (cur.toList.take (n * i.size) ++ ys ++ cur.toList.drop (n * i.size + ys.length)).toArray, ?_, ⟨by simp [hxl, hyl, hmul], .inr ⟨g, cap, _, rfl, Nat.zero_le _, setRow_heap w g cur _ E _ hg, hroom, hcm, hsz, ?_⟩⟩, ?_, .inl rfl, ⟨_, _, rfl⟩, ⟨hxl, .inr ⟨g, cap, _, rfl, Nat.zero_le _, setRow_heap w g cur _ E _ hg, hnc, hcm, hsz, ?_⟩⟩⟩
      · rcases hs'.kind with ⟨e', hk⟩ | hk <;>
          simp [Builtin.append_, run_underlying ht, run_underlying hk, sizeOf, typeInfo, hi, hs'.len, hroom, hs'.cells, Addr.add_lit, hst]
      · rw [hsize, htake]
        simp only []
        rw [List.take_append_of_le_length (by simp [hxl, hyl, hmul])]
        exact List.take_of_length_le (by simp [hxl, hyl, hmul])
      · exact ⟨rfl, rfl, rfl, by simp, fun k _ hk => setRow_other w g k _ (fun e => hk (by simp [Value.ownBlock, e]))⟩
      · rw [hsize, htake, List.append_assoc]
        simp only []
        rw [List.take_append_of_le_length (by omega)]
        exact List.take_of_length_le (by omega)
    · have holds : ∀ j u, xs[j]? = some u → w.cell? ((⟨g, 0, none⟩ : Addr).add j) = some u := World.ownsRow.cells hown (g := g) rfl
      have hr := run_append_grow_src (P := P) w t tx ty E i z ht hi hz (some ⟨g, 0, none⟩) n cap xs (run_firstCells_some w.drew i.size n ⟨g, 0, none⟩ n cap xs (by rw [hsize]; exact hxl) (by simpa using holds)) x m ys hs' (by omega) (by simp only [maxLen] at h63; omega)
        (by rw [hby]; exact growslice_fits_wide (by omega) hbytes)
      obtain ⟨g1, g2, g3⟩ := grown cap (by omega)
      exact ⟨_, _, hr, g1, g2.mono (fun _ h => by cases h), .inr g3, ⟨_, _, rfl⟩, hown0.keep g2 (Off.nil _)⟩


/-- append, inside a fence -/
theorem wpIn_appC {F : Fence} {n0 : Nat} {P : Program} {E : TypeId} {z : Value} {sz nb : Nat} (hinfo : (P.info? E).map (fun i => (i.zero, i.size, i.bytes)) = some (some z, sz, nb)) (hzs : z.cells.size = sz)
    {ops : Array Oper} {rest : List Oper} {o : Oper} {a : Act} {w : World} {Q : Exit → Act → World → Prop} (hgd : o.guard = none) (s x : Operand) (t tx : TypeId)
    (ho : o.op = .call { callee := .builtin .append, args := #[s, x], argTypes := #[t, tx] }) (ht : P.underlying t = some (.slice E))
    (v : Value) (n : Nat) (xs : List Value) (hv : a.eval s = v) (hown : RowC w E sz v n xs) (u : Value) (m : Nat) (ys : List Value) (hu : a.eval x = u) (hs : Src P sz tx u m ys w)
    (hbytes : ((n + m) + (n + m) / 4 + 192) * nb ≤ 281474976710656) (h63 : n + m ≤ maxLen)
    (h : ∀ v' w', RowC w' E sz v' (n + m) (xs ++ ys) → Keep v.ownBlock.toList w w' → (v'.ownBlock = v.ownBlock ∨ Fresh w w' v') → Sl v' (n + m) → RowC w' E sz v n xs → wpListIn F n0 P ops Q rest (a.put o.dst v') w') : wpListIn F n0 P ops Q (o :: rest) a w := by
  obtain ⟨v', w', hr, h1, h2, h3, h4, h5⟩ := run_appW hinfo hzs w t tx o.type ht v n xs hown u m ys hs hbytes h63
  refine wpListIn_plain hgd fun K hK => ?_
  unfold Oper.wpIn
  refine ⟨?_, ?_⟩
  · simp [Oper.about, ho, resolve, Target.leads, Sem.run_pure]
  · rw [Oper.semAt_plain F _ _ (by rw [ho]; intro c hc'; cases hc')]
    simp [execOp, ho, resolve, invoke, builtin, hv, hu, hr, Result.andThen]
    exact hK _ _ (h v' w' h1 h2 h3 h4 h5)


end
end Go.Proofs.YtplbclokoffgkaaGreatDoor
