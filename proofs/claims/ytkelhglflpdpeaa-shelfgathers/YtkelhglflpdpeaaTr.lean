/- A tree of pairs in memory, told by its list; its nodes never change. -/
import Derived.Test.YtkelhglflpdpeaaGn

namespace Go.Proofs.Ytkelhglflpdpeaa
open Go.RowKit Go.PlainAid

inductive TT where
  | leaf
  | node (l : TT) (x : Pr) (r : TT)
def TT.list : TT → List Pr
  | .leaf => []
  | .node l x r => l.list ++ x :: r.list

/-- an element as a value -/
abbrev vP (x : Pr) : Value := .agg #[.int .i64 x.k, .int .i64 x.m]
/-- a node's cells -/
abbrev nodeO (x : Pr) (pl pr : Option Addr) (n : Int) : Obj := .cells #[.int .i64 x.k, .int .i64 x.m, .pointer pl, .pointer pr, .int .i64 n] 106 (0, 0)

def IsT (w : World) : Option Addr → TT → Prop
  | p, .leaf => p = none
  | p, .node l x r => ∃ (b : Nat) (pl pr : Option Addr), p = some ⟨b, 0, none⟩ ∧ w.heap[b]? = some (nodeO x pl pr ((l.list.length + r.list.length + 1 : Nat) : Int)) ∧ IsT w pl l ∧ IsT w pr r

/-- every node is as it was -/
def KT (w w' : World) : Prop := ∀ (b : Nat) (c : Array Value), w.heap[b]? = some (.cells c 106 (0, 0)) → w'.heap[b]? = some (.cells c 106 (0, 0))
theorem KT.refl (w : World) : KT w w := fun _ _ h => h
theorem KT.trans {a b c : World} (h : KT a b) (k : KT b c) : KT a c := fun x v hx => k x v (h x v hx)
theorem Keep.kt {F : List Nat} {w w' : World} (h : Keep F w w') (hF : ∀ b ∈ F, ∀ c, w.heap[b]? ≠ some (.cells c 106 (0, 0))) : KT w w' := fun b c hb => (h.block b (Array.getElem?_eq_some_iff.1 hb).1 (fun hx => hF b hx c hb)).trans hb
theorem Keep.kt0 {w w' : World} (h : Keep [] w w') : KT w w' := h.kt (fun _ h => by cases h)

theorem IsT.kt {w w' : World} (h : KT w w') : ∀ {p : Option Addr} {T : TT}, IsT w p T → IsT w' p T
  | _, .leaf, ht => ht
  | _, .node _ _ _, ⟨b, pl, pr, hp, hb, hl, hr⟩ => ⟨b, pl, pr, hp, h _ _ hb, IsT.kt h hl, IsT.kt h hr⟩
theorem IsT.keep {w w' : World} (h : Keep [] w w') {p : Option Addr} {T : TT} (ht : IsT w p T) : IsT w' p T := ht.kt h.kt0

theorem node_cells {w : World} {b : Nat} {x : Pr} {pl pr : Option Addr} {n : Int} (h : w.heap[b]? = some (nodeO x pl pr n)) :
    w.cell? ⟨b, 0, none⟩ = some (.int .i64 x.k) ∧ w.cell? ⟨b, 1, none⟩ = some (.int .i64 x.m) ∧ w.cell? ⟨b, 2, none⟩ = some (.pointer pl) ∧ w.cell? ⟨b, 3, none⟩ = some (.pointer pr) ∧ w.cell? ⟨b, 4, none⟩ = some (.int .i64 n) := by
  refine ⟨?_, ?_, ?_, ?_, ?_⟩ <;> simp [World.cell?, h]

theorem count_any (p : Option Addr) (T : TT) (w : World) (h : IsT w p T) : Calls Try.prog 53 #[.pointer p] w fun e w' => e = .returned (.int .i64 (T.list.length : Int)) ∧ w' = w := by
  cases T with
  | leaf =>
    obtain rfl : p = none := h
    go_enter Try.func53, Try.ntmps53
    go_wp2
    go_ret
    exact ⟨rfl, rfl⟩
  | node l x r =>
    obtain ⟨b, pl, pr, rfl, hb, _, _⟩ := h
    obtain ⟨_, _, _, _, c4⟩ := node_cells hb
    have HN : Hid (((l.list.length + r.list.length + 1 : Nat) : Int) = ((TT.node l x r).list.length : Int)) := by show _ = _; simp [TT.list]; omega
    rw [HN.out] at c4
    clear hb HN
    go_enter Try.func53, Try.ntmps53
    go_wp2
    go_ret
    exact ⟨rfl, rfl⟩

theorem weight_any (p : Option Addr) (T : TT) (w : World) (h : IsT w p T) (hs : T.list.length ≤ 1152921504606846976) : Calls Try.prog 78 #[.pointer p] w fun e w' => e = .returned (.int .i64 ((T.list.length : Int) + 1)) ∧ w' = w := by
  have HC : Hid (∀ w', w' = w → Calls Try.prog 53 #[.pointer p] w' fun e w' => e = .returned (.int .i64 (T.list.length : Int)) ∧ w' = w) := fun w' hw => by subst hw; exact count_any p T w' h
  have h0 : (0 : Int) ≤ (T.list.length : Int) := by omega
  have h1 : (T.list.length : Int) ≤ 1152921504606846976 := by omega
  generalize (T.list.length : Int) = n at *
  clear h
  go_enter Try.func78, Try.ntmps78
  go_wp2_with (go_at_call 53; refine (HC.out _ rfl).mono ?_; rintro e w' ⟨rfl, rfl⟩)
  go_ret
  exact ⟨rfl, rfl⟩

/-- an element's box, while only new blocks come -/
def Bp (w0 : World) (b : Nat) (x : Pr) (w' : World) : Prop := w'.cell? ⟨b, 0, none⟩ = some (.int .i64 x.k) ∧ w'.cell? ⟨b, 1, none⟩ = some (.int .i64 x.m) ∧ Hid (Keep [] w0 w')
theorem Bp.more {w0 w1 w2 : World} {b : Nat} {x : Pr} (h : Bp w0 b x w1) (k : Keep [] w1 w2) : Bp w0 b x w2 := ⟨k.cell' h.1 (by simp), k.cell' h.2.1 (by simp), h.2.2.out.trans' k⟩
theorem Bp.drew {w0 w1 : World} {b : Nat} {x : Pr} (h : Bp w0 b x w1) : Bp w0 b x w1.drew := h.more (Keep.refl _ _).drew
theorem Bp.alloc {w0 w1 : World} {b : Nat} {x : Pr} (h : Bp w0 b x w1) (o : Obj) : Bp w0 b x (w1.alloc o) := h.more (Keep.alloc1 _ _)
theorem Bp.new (w : World) (x : Pr) : Bp w w.heap.size x (w.alloc (.cells #[.int .i64 x.k, .int .i64 x.m] 29)) := by
  have h : (w.alloc (.cells #[.int .i64 x.k, .int .i64 x.m] 29)).heap[w.heap.size]? = some (.cells #[.int .i64 x.k, .int .i64 x.m] 29 (0, 0)) := heap_alloc_new w _
  exact ⟨by unfold World.cell?; rw [h]; rfl, by unfold World.cell?; rw [h]; rfl, Keep.alloc1 _ _⟩

/-- some cells, while only new blocks come -/
def Cs (l : List (Addr × Value)) (w0 w' : World) : Prop := match l with
  | [] => Hid (Keep [] w0 w')
  | c :: t => w'.cell? c.1 = some c.2 ∧ Cs t w0 w'
theorem Cs.kp {l : List (Addr × Value)} {w0 w' : World} (h : Cs l w0 w') : Keep [] w0 w' := by
  induction l with
  | nil => exact Hid.out h
  | cons c t ih => exact ih h.2
theorem Cs.more {l : List (Addr × Value)} {w0 w1 w2 : World} (k : Keep [] w1 w2) (h : Cs l w0 w1) : Cs l w0 w2 := by
  induction l with
  | nil => exact (Hid.out h).trans' k
  | cons c t ih => exact ⟨k.cell' h.1 (by simp), ih h.2⟩
theorem Cs.drew {l : List (Addr × Value)} {w0 w1 : World} (h : Cs l w0 w1) : Cs l w0 w1.drew := Cs.more (Keep.refl _ _).drew h
theorem Cs.alloc {l : List (Addr × Value)} {w0 w1 : World} (o : Obj) (h : Cs l w0 w1) : Cs l w0 (w1.alloc o) := Cs.more (Keep.alloc1 _ _) h

set_option maxRecDepth 100000 in
set_option maxHeartbeats 1000000 in
theorem branch_any (pl pr : Option Addr) (L R : TT) (x : Pr) (w : World) (hl : IsT w pl L) (hr : IsT w pr R) (hs : L.list.length + R.list.length ≤ 1152921504606846976) :
    Calls Try.prog 65 #[.pointer pl, vP x, .pointer pr] w fun e w' => ∃ p', e = .returned (.pointer p') ∧ IsT w' p' (.node L x R) ∧ Keep [] w w' := by
  have HL : Hid (∀ w', Keep [] w w' → Calls Try.prog 53 #[.pointer pl] w' fun e w2 => e = .returned (.int .i64 (L.list.length : Int)) ∧ w2 = w') := fun w' k => count_any pl L w' (hl.keep k)
  have HR : Hid (∀ w', Keep [] w w' → Calls Try.prog 53 #[.pointer pr] w' fun e w2 => e = .returned (.int .i64 (R.list.length : Int)) ∧ w2 = w') := fun w' k => count_any pr R w' (hr.keep k)
  have HT : Hid (IsT w pl L ∧ IsT w pr R) := ⟨hl, hr⟩
  have h0 : (0 : Int) ≤ (L.list.length : Int) := by omega
  have h1 : (0 : Int) ≤ (R.list.length : Int) := by omega
  have h2 : (L.list.length : Int) + (R.list.length : Int) ≤ 1152921504606846976 := by omega
  clear hl hr hs
  obtain ⟨nl, HNl⟩ : ∃ nl : Int, Hid (nl = (L.list.length : Int)) := ⟨_, show _ = _ from rfl⟩
  obtain ⟨nr, HNr⟩ : ∃ nr : Int, Hid (nr = (R.list.length : Int)) := ⟨_, show _ = _ from rfl⟩
  rw [← HNl.out] at h0 h2 HL
  rw [← HNr.out] at h1 h2 HR
  go_enter Try.func65, Try.ntmps65
  go_wp2
  have HB := Bp.new w x
  go_region_held3 (fun w' => w'.cell? ⟨w.heap.size, 0, none⟩ = some (.int .i64 x.k) ∧ w'.cell? ⟨w.heap.size, 1, none⟩ = some (.int .i64 x.m) ∧ Hid (Keep [] w w'))
    (first | assumption | exact HB.drew | exact Bp.alloc (by assumption) _)
    (first | (go_at_call 53; refine (HL.out _ (show Bp w _ x _ from by assumption).2.2.out).mono ?_; clear HL; rintro e w5 ⟨rfl, rfl⟩) | (go_at_call 53; refine (HR.out _ (show Bp w _ x _ from by assumption).2.2.out).mono ?_; rintro e w6 ⟨rfl, rfl⟩))
  go_wp2
  go_ret
  rename_i hH
  refine ⟨_, rfl, ⟨w.heap.size + 1, pl, pr, rfl, ?_, HT.out.1.keep hH.2.2.out, HT.out.2.keep hH.2.2.out⟩, hH.2.2.out⟩
  have e1 : IntKind.i64.wrap (nl + nr) = nl + nr := wrap_ok _ (by omega) (by omega)
  have e2 : IntKind.i64.wrap (nl + nr + 1) = nl + nr + 1 := wrap_ok _ (by omega) (by omega)
  have hn := heap_alloc_new (w.alloc (.cells #[.int .i64 x.k, .int .i64 x.m] 29)) (.cells #[.int .i64 x.k, .int .i64 x.m, .pointer pl, .pointer pr, .int .i64 (IntKind.i64.wrap (IntKind.i64.wrap (nl + nr) + 1))] 106)
  rw [World.size_alloc] at hn
  refine hn.trans ?_
  rw [e1, e2, HNl.out, HNr.out]
  rfl

end Go.Proofs.Ytkelhglflpdpeaa
