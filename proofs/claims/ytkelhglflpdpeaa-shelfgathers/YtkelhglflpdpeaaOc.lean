/- Calls that come in: what they read as; the laws that follow. -/
import Derived.Test.YtkelhglflpdpeaaLm
import Derived.Test.YtkelhglflpdpeaaLg

namespace Go.Proofs.Ytkelhglflpdpeaa
open Go.RowKit Go.PlainAid


/-- a call: on which, which one, with what -/
structure Oc where
  o : Int
  c : Int
  x : Pr
instance : Inhabited Oc := ⟨⟨0, 0, ⟨0, 0⟩⟩⟩
def encO (a : Oc) : List Value := [.int .i64 a.o, .int .i64 a.c, .int .i64 a.x.k, .int .i64 a.x.m]
theorem encO_len (a : Oc) : (encO a).length = 4 := rfl
theorem Rd.call {w : World} {v : Value} {l : List Oc} (h : Rd encO 4 w v l) (j : Nat) (hj : j < l.length) : ∃ b o cap, v = .slice (some ⟨b, o, none⟩) l.length cap ∧ b < w.heap.size ∧ w.cell? ⟨b, o + j * 4, none⟩ = some (.int .i64 l[j].o) ∧ w.cell? ⟨b, o + j * 4 + 1, none⟩ = some (.int .i64 l[j].c) ∧ w.cell? ⟨b, o + j * 4 + 2, none⟩ = some (.int .i64 l[j].x.k) ∧ w.cell? ⟨b, o + j * 4 + 3, none⟩ = some (.int .i64 l[j].x.m) := by
  obtain ⟨b, o, cap, rfl, hb, hc⟩ := h.at j hj
  exact ⟨b, o, cap, rfl, hb, hc 0 (by omega), hc 1 (by omega), hc 2 (by omega), hc 3 (by omega)⟩
/-- what a call of one of the first three kinds makes of the elements -/
def stepL (l : List Pr) (a : Oc) : List Pr := if pickZ a.c 3 = 0 then addL l a.x else if pickZ a.c 3 = 1 then putL l a.x else remL l a.x
theorem step_ris {l : List Pr} (h : Ris l) (a : Oc) : Ris (stepL l a) := by
  unfold stepL
  split
  · exact add_ris h _
  · split
    · exact put_ris h _
    · exact rem_ris h _
theorem step_len (l : List Pr) (a : Oc) : (stepL l a).length ≤ l.length + 1 := by
  unfold stepL
  split
  · exact add_len _ _
  · split
    · exact put_len _ _
    · have := rem_len l a.x; omega
theorem steps_len (os : List Oc) : ∀ (l : List Pr), (os.foldl stepL l).length ≤ l.length + os.length := by
  induction os with
  | nil => intro l; simp
  | cons c t ih => intro l; have h1 := ih (stepL l c); have h2 := step_len l c; simp at h1 ⊢; omega
/-- each number is of the machine's -/
def OkO (l : List Oc) : Prop := ∀ a ∈ l, (-9223372036854775808 ≤ a.o ∧ a.o ≤ 9223372036854775807) ∧ (-9223372036854775808 ≤ a.c ∧ a.c ≤ 9223372036854775807) ∧ (-9223372036854775808 ≤ a.x.k ∧ a.x.k ≤ 9223372036854775807) ∧ (-9223372036854775808 ≤ a.x.m ∧ a.x.m ≤ 9223372036854775807)

end Go.Proofs.Ytkelhglflpdpeaa
