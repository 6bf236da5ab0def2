/- A tree of texts in memory, told by its list; its nodes never change. -/
import Derived.Test.YtkelhglflpdpeaaTr
import Derived.Test.YtkelhglflpdpeaaTw

namespace Go.Proofs.Ytkelhglflpdpeaa
open Go.RowKit Go.PlainAid


abbrev St := ByteArray
abbrev vT (x : St) : Value := .string x
inductive TS where
  | leaf
  | node (l : TS) (x : St) (r : TS)
def TS.list : TS → List St
  | .leaf => []
  | .node l x r => l.list ++ x :: r.list
abbrev nodeS (x : St) (pl pr : Option Addr) (n : Int) : Obj := .cells #[.string x, .pointer pl, .pointer pr, .int .i64 n] 111 (0, 0)
def IsS (w : World) : Option Addr → TS → Prop
  | p, .leaf => p = none
  | p, .node l x r => ∃ (b : Nat) (pl pr : Option Addr), p = some ⟨b, 0, none⟩ ∧ w.heap[b]? = some (nodeS x pl pr ((l.list.length + r.list.length + 1 : Nat) : Int)) ∧ IsS w pl l ∧ IsS w pr r
def KS (w w' : World) : Prop := ∀ (b : Nat) (c : Array Value), w.heap[b]? = some (.cells c 111 (0, 0)) → w'.heap[b]? = some (.cells c 111 (0, 0))
theorem KS.refl (w : World) : KS w w := fun _ _ h => h
theorem KS.trans {a b c : World} (h : KS a b) (k : KS b c) : KS a c := fun x v hx => k x v (h x v hx)
theorem Keep.ks {F : List Nat} {w w' : World} (h : Keep F w w') (hF : ∀ b ∈ F, ∀ c, w.heap[b]? ≠ some (.cells c 111 (0, 0))) : KS w w' := fun b c hb => (h.block b (Array.getElem?_eq_some_iff.1 hb).1 (fun hx => hF b hx c hb)).trans hb
theorem Keep.ks0 {w w' : World} (h : Keep [] w w') : KS w w' := h.ks (fun _ h => by cases h)
theorem IsS.kt {w w' : World} (h : KS w w') : ∀ {p : Option Addr} {T : TS}, IsS w p T → IsS w' p T
  | _, .leaf, ht => ht
  | _, .node _ _ _, ⟨b, pl, pr, hp, hb, hl, hr⟩ => ⟨b, pl, pr, hp, h _ _ hb, IsS.kt h hl, IsS.kt h hr⟩
theorem IsS.keep {w w' : World} (h : Keep [] w w') {p : Option Addr} {T : TS} (ht : IsS w p T) : IsS w' p T := ht.kt h.ks0
theorem nodeS_cells {w : World} {b : Nat} {x : St} {pl pr : Option Addr} {n : Int} (h : w.heap[b]? = some (nodeS x pl pr n)) :
    w.cell? ⟨b, 0, none⟩ = some (.string x) ∧ w.cell? ⟨b, 1, none⟩ = some (.pointer pl) ∧ w.cell? ⟨b, 2, none⟩ = some (.pointer pr) ∧ w.cell? ⟨b, 3, none⟩ = some (.int .i64 n) := by
  refine ⟨?_, ?_, ?_, ?_⟩ <;> simp [World.cell?, h]

theorem scount_any (p : Option Addr) (T : TS) (w : World) (h : IsS w p T) : Calls Try.prog 63 #[.pointer p] w fun e w' => e = .returned (.int .i64 (T.list.length : Int)) ∧ w' = w := by
  cases T with
  | leaf =>
    obtain rfl : p = none := h
    go_enter Try.func63, Try.ntmps63
    go_wp2
    go_ret
    exact ⟨rfl, rfl⟩
  | node l x r =>
    obtain ⟨b, pl, pr, rfl, hb, _, _⟩ := h
    obtain ⟨_, _, _, c4⟩ := nodeS_cells hb
    have HN : Hid (((l.list.length + r.list.length + 1 : Nat) : Int) = ((TS.node l x r).list.length : Int)) := by show _ = _; simp [TS.list]; omega
    rw [HN.out] at c4
    clear hb HN
    go_enter Try.func63, Try.ntmps63
    go_wp2
    go_ret
    exact ⟨rfl, rfl⟩

theorem sweight_any (p : Option Addr) (T : TS) (w : World) (h : IsS w p T) (hs : T.list.length ≤ 1152921504606846976) : Calls Try.prog 81 #[.pointer p] w fun e w' => e = .returned (.int .i64 ((T.list.length : Int) + 1)) ∧ w' = w := by
  have HC : Hid (∀ w', w' = w → Calls Try.prog 63 #[.pointer p] w' fun e w' => e = .returned (.int .i64 (T.list.length : Int)) ∧ w' = w) := fun w' hw => by subst hw; exact scount_any p T w' h
  have h0 : (0 : Int) ≤ (T.list.length : Int) := by omega
  have h1 : (T.list.length : Int) ≤ 1152921504606846976 := by omega
  generalize (T.list.length : Int) = n at *
  clear h
  go_enter Try.func81, Try.ntmps81
  go_wp2_with (go_at_call 63; refine (HC.out _ rfl).mono ?_; rintro e w' ⟨rfl, rfl⟩)
  go_ret
  exact ⟨rfl, rfl⟩

set_option maxRecDepth 100000 in
set_option maxHeartbeats 1000000 in
theorem sbranch_any (pl pr : Option Addr) (L R : TS) (x : St) (w : World) (hl : IsS w pl L) (hr : IsS w pr R) (hs : L.list.length + R.list.length ≤ 1152921504606846976) :
    Calls Try.prog 73 #[.pointer pl, vT x, .pointer pr] w fun e w' => ∃ p', e = .returned (.pointer p') ∧ IsS w' p' (.node L x R) ∧ Keep [] w w' := by
  have HL : Hid (∀ w', w' = w → Calls Try.prog 63 #[.pointer pl] w' fun e w2 => e = .returned (.int .i64 (L.list.length : Int)) ∧ w2 = w) := fun w' k => by subst k; exact scount_any pl L w' hl
  have HR : Hid (∀ w', w' = w → Calls Try.prog 63 #[.pointer pr] w' fun e w2 => e = .returned (.int .i64 (R.list.length : Int)) ∧ w2 = w) := fun w' k => by subst k; exact scount_any pr R w' hr
  have HT : Hid (IsS w pl L ∧ IsS w pr R) := ⟨hl, hr⟩
  have h0 : (0 : Int) ≤ (L.list.length : Int) := by omega
  have h1 : (0 : Int) ≤ (R.list.length : Int) := by omega
  have h2 : (L.list.length : Int) + (R.list.length : Int) ≤ 1152921504606846976 := by omega
  clear hl hr hs
  obtain ⟨nl, HNl⟩ : ∃ nl : Int, Hid (nl = (L.list.length : Int)) := ⟨_, show _ = _ from rfl⟩
  obtain ⟨nr, HNr⟩ : ∃ nr : Int, Hid (nr = (R.list.length : Int)) := ⟨_, show _ = _ from rfl⟩
  rw [← HNl.out] at h0 h2 HL
  rw [← HNr.out] at h1 h2 HR
  go_enter Try.func73, Try.ntmps73
  go_wp2_with fail
  refine (HL.out _ rfl).mono ?_
  rintro e w5 ⟨rfl, rfl⟩
  go_wp2_with fail
  refine (HR.out _ rfl).mono ?_
  rintro e w6 ⟨rfl, rfl⟩
  go_wp2
  go_ret
  have kk := Keep.alloc1 w6 (.cells #[.string x, .pointer pl, .pointer pr, .int .i64 (IntKind.i64.wrap (IntKind.i64.wrap (nl + nr) + 1))] 111)
  refine ⟨_, rfl, ⟨w6.heap.size, pl, pr, rfl, ?_, HT.out.1.keep (Keep.alloc1 _ _), HT.out.2.keep (Keep.alloc1 _ _)⟩, Keep.alloc1 _ _⟩
  have e1 : IntKind.i64.wrap (nl + nr) = nl + nr := wrap_ok _ (by omega) (by omega)
  have e2 : IntKind.i64.wrap (nl + nr + 1) = nl + nr + 1 := wrap_ok _ (by omega) (by omega)
  have hn := heap_alloc_new w6 (.cells #[.string x, .pointer pl, .pointer pr, .int .i64 (nl + nr + 1)] 111)
  first
    | (refine hn.trans ?_; rw [HNl.out, HNr.out]; rfl)
    | (simp only [e1, e2]; refine hn.trans ?_; rw [HNl.out, HNr.out]; rfl)

end Go.Proofs.Ytkelhglflpdpeaa
