/- Two rows of bytes of one's own, told by two cells of one block: what stays true while each goes on. -/
import Derived.Test.YtcmembmaaebdeaaWr2W
import Derived.Test.YtcmembmaaebdeaaRefW
import Derived.Test.YtcmembmaaebdeaaMuchW
import Derived.Test.YtcmembmaaebdeaaOverW
import Derived.Test.YtcmembmaaebdeaaAwakeW
namespace Go.Proofs.Ytcmembmaaebdeaa
open Go.RowKit Go.PlainAid Go.Lib

structure Duo (w : World) (g : Nat) (v : Nat → Value) (A : Nat → List UInt8) : Prop where
  c : ∀ k, k < 2 → w.cell? ⟨g, k, none⟩ = some (v k)
  f : ∀ k, k < 2 → w.frozen? ⟨g, k, none⟩ = false
  R : ∀ k, k < 2 → Row w (v k) (A k)
  n : ∀ k, k < 2 → (v k).ownBlock ≠ some g
  d : ∀ j k, j < 2 → k < 2 → j ≠ k → ∀ x, (v j).ownBlock = some x → (v k).ownBlock ≠ some x

/-- x is one of the blocks -/
def Duo.foot (g : Nat) (v : Nat → Value) (x : Nat) : Prop := x = g ∨ ∃ k, k < 2 ∧ (v k).ownBlock = some x

theorem Duo.lt {w : World} {g : Nat} {v : Nat → Value} {A : Nat → List UInt8} (h : Duo w g v A) : ∀ x, Duo.foot g v x → x < w.heap.size := by
  intro x hx
  rcases hx with rfl | ⟨k, hk, hx⟩
  · exact World.block_lt_of_cell? w _ (h.c 0 (by omega))
  · exact (h.R k hk).lt x hx

theorem Duo.keep {F : List Nat} {w w' : World} {g : Nat} {v : Nat → Value} {A : Nat → List UInt8} (h : Duo w g v A) (k : Keep F w w') (hF : ∀ x ∈ F, ¬ Duo.foot g v x) : Duo w' g v A := by
  have hg : g ∉ F := fun hm => hF g hm (.inl rfl)
  have hlt : g < w.heap.size := h.lt g (.inl rfl)
  exact ⟨fun i hi => k.cell' (h.c i hi) hg, fun i hi => (k.frozen (p := ⟨g, i, none⟩) hlt hg).trans (h.f i hi), fun i hi => (h.R i hi).keep k (fun x hx hm => hF x hm (.inr ⟨i, hi, hx⟩)), h.n, h.d⟩

def upd {α : Type} (f : Nat → α) (o : Nat) (x : α) : Nat → α := fun k => if k = o then x else f k
theorem upd_same {α : Type} (f : Nat → α) (o : Nat) (x : α) : upd f o x o = x := by simp [upd]
theorem upd_other {α : Type} (f : Nat → α) (o k : Nat) (x : α) (h : k ≠ o) : upd f o x k = f k := by simp [upd, h]

theorem Duo.wr2 {w : World} {g : Nat} {v : Nat → Value} {A : Nat → List UInt8} (h : Duo w g v A) (o : Nat) (ho : o < 2) : Wr2 (1 - o) (v (1 - o)) w g o (A o) (v o).ownBlock :=
  ⟨⟨h.f o ho, h.n o ho, v o, h.c o ho, rfl, h.R o ho⟩, by omega, h.c _ (by omega), h.f _ (by omega)⟩

/-- one of the two goes on: what is written is its own block, its row, and news -/
theorem Duo.wrote {w w' : World} {g : Nat} {v : Nat → Value} {A : Nat → List UInt8} (h : Duo w g v A) (o : Nat) (ho : o < 2) (r : List UInt8) (hW : Wrote2 (1 - o) (v (1 - o)) w w' g o (A o) r (v o).ownBlock) :
    ∃ v', Duo w' g v' (upd A o (A o ++ r)) ∧ Keep (g :: (v o).ownBlock.toList) w w' ∧ ∀ x, Duo.foot g v' x → Duo.foot g v x ∨ (w.heap.size ≤ x ∧ x < w'.heap.size) := by
  obtain ⟨rb', h1, h2, h3⟩ := hW
  obtain ⟨hf, hne, x, hc, rfl, hrow⟩ := h1.ex
  have hother : ∀ k, k < 2 → k ≠ o → k = 1 - o := fun k hk hn => by omega
  have hr : ∀ k, k < 2 → k ≠ o → Row w' (v k) (A k) := fun k hk hn => (h.R k hk).keep h2 (fun y hy hm => by
    simp at hm
    rcases hm with rfl | hm
    · exact h.n k hk hy
    · exact h.d o k ho hk (fun e => hn e.symm) y hm hy)
  have hdis : ∀ k, k < 2 → k ≠ o → ∀ y, x.ownBlock = some y → (v k).ownBlock ≠ some y := fun k hk hn y hy => by
    rcases h3 with h3 | h3
    · exact h.d o k ho hk (fun e => hn e.symm) y (h3 ▸ hy)
    · intro hk2
      have h4 := (h3 y hy).1
      have h5 := (h.R k hk).lt y hk2
      omega
  refine ⟨upd v o x, ⟨fun k hk => ?_, fun k hk => ?_, fun k hk => ?_, fun k hk => ?_, fun j k hj hk hn y hy => ?_⟩, h2, fun y hy => ?_⟩
  · by_cases hko : k = o
    · subst hko; rw [upd_same]; exact hc
    · rw [upd_other _ _ _ _ hko, hother k hk hko]; exact h1.cc
  · by_cases hko : k = o
    · subst hko; exact hf
    · rw [hother k hk hko]; exact h1.cf
  · by_cases hko : k = o
    · subst hko; rw [upd_same, upd_same]; exact hrow
    · rw [upd_other _ _ _ _ hko, upd_other _ _ _ _ hko]; exact hr k hk hko
  · by_cases hko : k = o
    · subst hko; rw [upd_same]; exact hne
    · rw [upd_other _ _ _ _ hko]; exact h.n k hk
  · by_cases hjo : j = o
    · subst hjo
      rw [upd_same] at hy
      rw [upd_other _ _ _ _ (fun e => hn e.symm)]
      exact hdis k hk (fun e => hn e.symm) y hy
    · rw [upd_other _ _ _ _ hjo] at hy
      by_cases hko : k = o
      · subst hko
        rw [upd_same]
        intro hx
        exact hdis j hj hn y hx hy
      · rw [upd_other _ _ _ _ hko]
        exact h.d j k hj hk hn y hy
  · rcases hy with rfl | ⟨k, hk, hy⟩
    · exact .inl (.inl rfl)
    · by_cases hko : k = o
      · subst hko
        rw [upd_same] at hy
        rcases h3 with h3 | h3
        · exact .inl (.inr ⟨k, hk, h3 ▸ hy⟩)
        · exact .inr (h3 y hy)
      · rw [upd_other _ _ _ _ hko] at hy
        exact .inl (.inr ⟨k, hk, hy⟩)

/-- an append, and the store of it -/
theorem Duo.app {w w1 : World} {g : Nat} {v : Nat → Value} {A : Nat → List UInt8} {ob : Obj} {v' : Value} (h : Duo w g v A) (o : Nat) (ho : o < 2) (r : List UInt8) (hr : Row w1 v' (A o ++ r)) (h2 : Keep (v o).ownBlock.toList (w.alloc ob) w1)
    (h3 : v'.ownBlock = (v o).ownBlock ∨ Fresh (w.alloc ob) w1 v') : Wrote2 (1 - o) (v (1 - o)) w (w1.setCell ⟨g, o, none⟩ v') g o (A o) r (v o).ownBlock := by
  have h' := h.keep (Keep.alloc1 w ob) (fun x hx => by cases hx)
  have hb : g < (w.alloc ob).heap.size := h'.lt g (.inl rfl)
  have hbF : g ∉ (v o).ownBlock.toList := by
    intro hm
    simp at hm
    exact h.n o ho hm
  have hne' : v'.ownBlock ≠ some g := by
    rcases h3 with h3 | h3
    · rw [h3]; exact h.n o ho
    · intro hx
      have := (h3 g hx).1
      omega
  have S := stored2 (h2.cell' (h'.c o ho) hbF) ((h2.frozen (p := ⟨g, o, none⟩) hb hbF).trans (h'.f o ho)) hr hne' (show 1 - o ≠ o by omega) (h2.cell' (h'.c (1 - o) (by omega)) hbF) ((h2.frozen (p := ⟨g, 1 - o, none⟩) hb hbF).trans (h'.f (1 - o) (by omega)))
  refine ⟨v'.ownBlock, S, ?_, ?_⟩
  · exact (Keep.alloc1 w ob).trans ((h2.mono (fun x hx => .inl (by simp; right; simpa using hx))).setCell (.inl (by simp)) v') (fun _ h => by cases h) (fun x hx => .inl hx)
  · rcases h3 with h3 | h3
    · exact .inl h3
    · exact .inr fun k hk => ⟨by have := (h3 k hk).1; simp at this; omega, by have := (h3 k hk).2; simpa [World.setCell] using this⟩

/-- what is written into each of the two -/
def sel (l : List PutD) (k : Nat) : List UInt8 := bytesAll (l.filter fun p => decide ((pickZ p.on 2).toNat = k))

theorem sel_snoc (l : List PutD) (p : PutD) (k : Nat) : sel (l ++ [p]) k = if (pickZ p.on 2).toNat = k then sel l k ++ p.bytes else sel l k := by
  unfold sel
  rw [List.filter_append, bytesAll_append]
  by_cases h : (pickZ p.on 2).toNat = k
  · simp [h, bytesAll]
  · simp [h, bytesAll]
theorem sel_upd (l : List PutD) (p : PutD) (o : Nat) (ho : (pickZ p.on 2).toNat = o) : sel (l ++ [p]) = upd (sel l) o (sel l o ++ p.bytes) := by
  funext k
  rw [sel_snoc]
  unfold upd
  by_cases h : k = o
  · subst h; simp [ho]
  · rw [if_neg (by omega), if_neg h]
theorem sel_len (l : List PutD) (h : ∀ p ∈ l, p.Ok) (k : Nat) : (sel l k).length ≤ bulkAll l := by
  induction l with
  | nil => simp [sel, bytesAll]
  | cons p l ih =>
    have h1 := p.bytes_len (h p (by simp))
    have h2 := ih (fun q hq => h q (by simp [hq]))
    unfold sel at h2 ⊢
    simp only [List.filter_cons, bulkAll]
    split
    · simp only [bytesAll, List.length_append]; omega
    · omega

structure InvW (w wr : World) (gw gt : Nat) (v t : Nat → Value) (A B : Nat → List UInt8) : Prop where
  dw : Duo wr gw v A
  dt : Duo wr gt t B
  keep : Keep [] w wr
  nw : ∀ x, Duo.foot gw v x → w.heap.size ≤ x
  nt : ∀ x, Duo.foot gt t x → w.heap.size ≤ x
  dis : ∀ x, Duo.foot gw v x → ¬ Duo.foot gt t x

theorem InvW.keepF {F : List Nat} {w wr w' : World} {gw gt : Nat} {v t : Nat → Value} {A B : Nat → List UInt8} (h : InvW w wr gw gt v t A B) (k : Keep F wr w') (hF : ∀ x ∈ F, w.heap.size ≤ x ∧ ¬ Duo.foot gw v x ∧ ¬ Duo.foot gt t x) : InvW w w' gw gt v t A B :=
  ⟨h.dw.keep k (fun x hx => (hF x hx).2.1), h.dt.keep k (fun x hx => (hF x hx).2.2), h.keep.more k (fun x hx => .inr (hF x hx).1), h.nw, h.nt, h.dis⟩
theorem InvW.same {w wr w' : World} {gw gt : Nat} {v t : Nat → Value} {A B : Nat → List UInt8} (h : InvW w wr gw gt v t A B) (k : Keep [] wr w') : InvW w w' gw gt v t A B := h.keepF k (fun _ hx => by cases hx)

theorem foot_of {g o : Nat} {v : Nat → Value} (ho : o < 2) {x : Nat} (hx : x ∈ g :: (v o).ownBlock.toList) : Duo.foot g v x := by
  simp at hx
  rcases hx with hx | hx
  · exact .inl hx
  · exact .inr ⟨o, ho, hx⟩

theorem InvW.write {w wr w' : World} {gw gt : Nat} {v t : Nat → Value} {A B : Nat → List UInt8} (h : InvW w wr gw gt v t A B) (o : Nat) (ho : o < 2) (r : List UInt8) (hW : Wrote2 (1 - o) (v (1 - o)) wr w' gw o (A o) r (v o).ownBlock) :
    ∃ v', InvW w w' gw gt v' t (upd A o (A o ++ r)) B ∧ (∀ x, Duo.foot gw v' x → Duo.foot gw v x ∨ (wr.heap.size ≤ x ∧ x < w'.heap.size)) ∧ Keep (gw :: (v o).ownBlock.toList) wr w' := by
  obtain ⟨v', h1, h2, h3⟩ := h.dw.wrote o ho r hW
  refine ⟨v', ⟨h1, h.dt.keep h2 (fun x hx => h.dis x (foot_of ho hx)), h.keep.more h2 (fun x hx => .inr (h.nw x (foot_of ho hx))), fun x hx => ?_, h.nt, fun x hx ht => ?_⟩, h3, h2⟩
  · rcases h3 x hx with h4 | h4
    · exact h.nw x h4
    · exact Nat.le_trans h.keep.size h4.1
  · rcases h3 x hx with h4 | h4
    · exact h.dis x h4 ht
    · have := h.dt.lt x ht
      omega

theorem InvW.want {w wr w' : World} {gw gt : Nat} {v t : Nat → Value} {A B : Nat → List UInt8} (h : InvW w wr gw gt v t A B) (o : Nat) (ho : o < 2) (r : List UInt8) (hW : Wrote2 (1 - o) (t (1 - o)) wr w' gt o (B o) r (t o).ownBlock) :
    ∃ t', InvW w w' gw gt v t' A (upd B o (B o ++ r)) ∧ ∀ x, Duo.foot gt t' x → Duo.foot gt t x ∨ (wr.heap.size ≤ x ∧ x < w'.heap.size) := by
  obtain ⟨t', h1, h2, h3⟩ := h.dt.wrote o ho r hW
  refine ⟨t', ⟨h.dw.keep h2 (fun x hx hw => h.dis x hw (foot_of ho hx)), h1, h.keep.more h2 (fun x hx => .inr (h.nt x (foot_of ho hx))), h.nw, fun x hx => ?_, fun x hx ht => ?_⟩, h3⟩
  · rcases h3 x hx with h4 | h4
    · exact h.nt x h4
    · exact Nat.le_trans h.keep.size h4.1
  · rcases h3 x ht with h4 | h4
    · exact h.dis x hx h4
    · have := h.dw.lt x hx
      omega

theorem upd_upd {α : Type} (f : Nat → α) (o : Nat) (x y : α) : upd (upd f o x) o y = upd f o y := by
  funext k
  unfold upd
  split <;> rfl
theorem upd_self {α : Type} (f : Nat → α) (o : Nat) : upd f o (f o) = f := by
  funext k
  unfold upd
  split
  · rename_i h; rw [h]
  · rfl

theorem Lent.bs2 {w : World} {v : Value} {l : List UInt8} (h : Lent w v l) : Bs w v l := by
  obtain ⟨g, cap, rfl, hr⟩ := h.ex
  have hb := hr.bs
  have e : (l ++ marks 1 24).length = l.length + 24 := by simp [marks_len]
  have h2 : Bs w (.slice (some ⟨g, 0, none⟩) (l ++ marks 1 24).length cap) (l ++ marks 1 24) := by rw [e]; exact hb
  have h3 := h2.take l.length (by omega)
  rw [List.take_left] at h3
  exact h3
theorem Lent.keep2 {F : List Nat} {w w' : World} {v : Value} {l : List UInt8} (h : Lent w v l) (k : Keep F w w') (hn : Off v F) : Lent w' v l := by
  obtain ⟨g, cap, rfl, hr⟩ := h.ex
  exact ⟨g, cap, rfl, hr.keep k (fun x hx => hn x hx)⟩

end Go.Proofs.Ytcmembmaaebdeaa
