/- The walk of IdentThere. -/
import Derived.Test.YtkkbnbcjkjbepabThereM
namespace Go.Proofs.Ytkkbnbcjkjbepab
open Go.RowKit Go.PlainAid

theorem below_step {w W W' : World} {X : Obj} (h : Below w.heap.size w W) (hb : Below (W.alloc X).heap.size (W.alloc X) W') : Below w.heap.size w W' := h.trans ((below_box hb).mono h.size)
theorem below_next {w W W' : World} (h : Below w.heap.size w W) (hb : Below W.heap.size W W') : Below w.heap.size w W' := h.trans (hb.mono h.size)
theorem below_last {w W : World} {X : Obj} (h : Below w.heap.size w W) : Below w.heap.size w (W.alloc X) := h.alloc h.size _
theorem below_start {w W : World} {X Y : Obj} (hb : Below ((w.alloc X).alloc Y).heap.size ((w.alloc X).alloc Y) W) : Below w.heap.size w W :=
  (((Below.refl _ _).alloc (Nat.le_refl _) _).alloc (by simp) _).trans (hb.mono (by simp; omega))
theorem cell_next {W w' : World} {b o : Nat} {v : Value} (hb : Below W.heap.size W w') (h : W.cell? ⟨b, o, none⟩ = some v) : w'.cell? ⟨b, o, none⟩ = some v := by
  rw [hb.cell (p := ⟨b, o, none⟩) (World.block_lt_of_cell? W _ h)]; exact h
theorem cell_step {W w' : World} {X : Obj} {b o : Nat} {v : Value} (hb : Below (W.alloc X).heap.size (W.alloc X) w') (h : W.cell? ⟨b, o, none⟩ = some v) : w'.cell? ⟨b, o, none⟩ = some v :=
  cell_next hb (by rw [World.cell?_alloc_past _ _ _ (World.block_lt_of_cell? W _ h)]; exact h)
theorem five (t i u j r : ByteArray) (w wi : World) (hB : Below ((w.alloc (.cells #[.string t, .string i] 23)).alloc (.cells #[.string u, .string j, .string r] 25)).heap.size ((w.alloc (.cells #[.string t, .string i] 23)).alloc (.cells #[.string u, .string j, .string r] 25)) wi) :
    wi.cell? ⟨w.heap.size, 0, none⟩ = some (.string t) ∧ wi.cell? ⟨w.heap.size, 1, none⟩ = some (.string i) ∧
    wi.cell? ⟨w.heap.size + 1, 0, none⟩ = some (.string u) ∧ wi.cell? ⟨w.heap.size + 1, 1, none⟩ = some (.string j) ∧ wi.cell? ⟨w.heap.size + 1, 2, none⟩ = some (.string r) := by
  have h : ∀ b o, b < w.heap.size + 2 → wi.cell? ⟨b, o, none⟩ = ((w.alloc (.cells #[.string t, .string i] 23)).alloc (.cells #[.string u, .string j, .string r] 25)).cell? ⟨b, o, none⟩ := fun b o hlt => hB.cell (p := ⟨b, o, none⟩) (by simp; omega)
  refine ⟨?_, ?_, ?_, ?_, ?_⟩
  all_goals
    rw [h _ _ (by omega)]
    simp [go_sem]
theorem lt_of_cells {wi : World} {b o : Nat} {v : Value} (h : wi.cell? ⟨b, o, none⟩ = some v) : b < wi.heap.size := World.block_lt_of_cell? wi _ h

theorem objText_ok (t i : ByteArray) (w : World) (hn : nameL t.toList = true) (hi : idL i.toList = true) :
    Calls Try.prog 13 #[.agg #[.string t, .string i]] w fun e w' => e = .returned (.tuple #[.string (t ++ ⟨#[58]⟩ ++ i), .int .i64 0]) ∧ Below w.heap.size w w' := by
  have := objText_any t i w
  rw [show ba (objTextL t.toList i.toList) = t ++ ⟨#[58]⟩ ++ i from (ba_of (by rw [mid_list]; unfold objTextL; rw [if_pos ⟨hn, hi⟩])).symm, show objErrL t.toList i.toList = 0 from by unfold objErrL; rw [hn, hi]; rfl] at this
  exact this
theorem objText_bad (t i : ByteArray) (w : World) (z : Int) (hz : objErrL t.toList i.toList = z) (h0 : z ≠ 0) :
    Calls Try.prog 13 #[.agg #[.string t, .string i]] w fun e w' => e = .returned (.tuple #[.string ⟨#[]⟩, .int .i64 z]) ∧ Below w.heap.size w w' := by
  have := objText_any t i w
  have hne : ¬ (nameL t.toList = true ∧ idL i.toList = true) := fun h => by unfold objErrL at hz; rw [h.1, h.2] at hz; exact h0 hz.symm
  rw [show ba (objTextL t.toList i.toList) = ⟨#[]⟩ from by unfold objTextL; rw [if_neg hne]; rfl, hz] at this
  exact this
theorem subText_ok (u j r : ByteArray) (w : World) (h : faultL u.toList j.toList r.toList = 0) :
    Calls Try.prog 14 #[.agg #[.string u, .string j, .string r]] w fun e w' => e = .returned (.tuple #[.string (ba (subTextL u.toList j.toList r.toList)), .int .i64 0]) ∧ Below w.heap.size w w' := by
  have := subText_any u j r w
  rw [h] at this; exact this
theorem subText_bad (u j r : ByteArray) (w : World) (z : Int) (hz : faultL u.toList j.toList r.toList = z) (h0 : z ≠ 0) :
    Calls Try.prog 14 #[.agg #[.string u, .string j, .string r]] w fun e w' => e = .returned (.tuple #[.string ⟨#[]⟩, .int .i64 z]) ∧ Below w.heap.size w w' := by
  have := subText_any u j r w
  rw [show ba (subTextL u.toList j.toList r.toList) = ⟨#[]⟩ from by unfold subTextL; rw [if_pos (by rw [hz]; simpa using h0)]; rfl, hz] at this
  exact this
theorem subText_is (x0 x1 x2 s : ByteArray) (w : World) (h : faultL x0.toList x1.toList x2.toList = 0) (ht : subTextL x0.toList x1.toList x2.toList = s.toList) :
    Calls Try.prog 14 #[.agg #[.string x0, .string x1, .string x2]] w fun e w' => e = .returned (.tuple #[.string s, .int .i64 0]) ∧ Below w.heap.size w w' := by
  have := subText_ok x0 x1 x2 w h
  rw [ht, toList_ba] at this; exact this
theorem kind_at (u j r : ByteArray) (k : Int) (h : kindL u.toList j.toList r.toList = k) (w : World) :
    Calls Try.prog 16 #[.agg #[.string u, .string j, .string r]] w fun e w' => e = .returned (.int .i64 k) ∧ Below w.heap.size w w' := by
  subst h; exact kind_any u j r w
theorem subject_there (u j r : ByteArray) (w : World) (h : faultL u.toList j.toList r.toList = 0) :
    Calls Try.prog 18 #[.string (ba (subTextL u.toList j.toList r.toList))] w fun e w' => e = .returned (.tuple #[.agg #[.string u, .string j, .string r], .int .i64 0]) ∧ Below w.heap.size w w' := by
  obtain ⟨h1, h2, h3, h4⟩ := sub_there h
  have hl := fault_ok (t := u.toList) (i := j.toList) (r := r.toList) (by rw [h]; rfl)
  have hn := name_len hl.1
  refine subject_of w ?_ (by rw [ba_toList]; exact h1) (by rw [ba_toList]; exact h2) (by rw [ba_toList]; exact h3) (by rw [ba_toList]; exact h4)
  rw [ba_size]
  unfold subTextL maxLen
  split
  · simp
  · split <;> simp only [List.length_append, List.length_singleton] <;> omega
theorem obj_small (t i : ByteArray) (hn : nameL t.toList = true) (hi : idL i.toList = true) : t.size + i.size ≤ 4000 := by
  have a := name_len hn
  have b := id_len hi
  rw [toList_len] at a b
  omega

theorem objText_is (p0 p1 s : ByteArray) (w : World) (hn : nameL p0.toList = true) (hi : idL p1.toList = true) (h : p0.toList ++ [58] ++ p1.toList = s.toList) :
    Calls Try.prog 13 #[.agg #[.string p0, .string p1]] w fun e w' => e = .returned (.tuple #[.string s, .int .i64 0]) ∧ Below w.heap.size w w' := by
  have := objText_ok p0 p1 w hn hi
  rw [show p0 ++ ⟨#[58]⟩ ++ p1 = s from by rw [ba_of (show (p0 ++ ⟨#[58]⟩ ++ p1).toList = s.toList by rw [mid_list]; exact h), toList_ba]] at this
  exact this
theorem kind_obj {s p0 p1 : ByteArray} (hE : objE s.toList = 0) (hT : objT s.toList = p0.toList) (hI : objI s.toList = p1.toList) : kindL p0.toList p1.toList (⟨#[]⟩ : ByteArray).toList = 1 := by
  have h := (sub_back (obj_sub hE).1).2.2
  rw [(obj_sub hE).2.1, (obj_sub hE).2.2.1, (obj_sub hE).2.2.2, hT, hI, hE] at h
  rw [sep0]
  simpa using h

end Go.Proofs.Ytkkbnbcjkjbepab
