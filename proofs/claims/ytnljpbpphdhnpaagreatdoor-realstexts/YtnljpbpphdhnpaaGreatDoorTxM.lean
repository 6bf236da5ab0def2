/- What is written of a float32, taken apart: the bytes ahead of the e and behind it, the point struck. -/
import Derived.Test.YtnljpbpphdhnpaaGreatDoorFvM
import Derived.Lib.AtoiErrMem
namespace Go.Proofs.YtnljpbpphdhnpaaGreatDoor
open Go.RowKit Go.PlainAid

theorem indexByte_behind (c : UInt8) (b : List UInt8) : ∀ a : List UInt8, (∀ x ∈ a, x ≠ c) → Lib.indexByte (a ++ c :: b) c = (a.length : Int)
  | [], _ => by simp [Lib.indexByte]
  | x :: a, h => by
    have ih := indexByte_behind c b a (fun y hy => h y (List.mem_cons_of_mem _ hy))
    have hx : (x == c) = false := by simpa using h x (List.mem_cons_self ..)
    have hn : ((a.length : Int) == -1) = false := by simp
    show Lib.indexByte (x :: (a ++ c :: b)) c = _
    unfold Lib.indexByte
    rw [hx, ih, hn]
    simp
/-- an exponent's bytes say it -/
theorem atoi_exp_nat : ∀ x, x < 100 → Lib.atoi (expB ((x : Nat) : Int)) = some ((x : Nat) : Int) := by decide +kernel
theorem atoi_exp_neg : ∀ x, x < 100 → 1 ≤ x → Lib.atoi (expB (-((x : Nat) : Int))) = some (-((x : Nat) : Int)) := by decide +kernel
theorem atoi_exp (E : Int) (h : -100 < E ∧ E < 100) : Lib.atoi (expB E) = some E := by
  by_cases hn : E < 0
  · obtain ⟨x, rfl⟩ : ∃ x : Nat, E = -(x : Int) := ⟨E.natAbs, by omega⟩
    exact atoi_exp_neg x (by omega) (by omega)
  · obtain ⟨x, rfl⟩ : ∃ x : Nat, E = (x : Int) := ⟨E.natAbs, by omega⟩
    exact atoi_exp_nat x (by omega)
theorem expB_len (E : Int) : (expB E).length = 3 := by unfold expB; split <;> split <;> rfl

theorem dg_is (u j : Nat) : 48 ≤ (Lib.dg u j).toNat ∧ (Lib.dg u j).toNat ≤ 57 := by
  unfold Lib.dg
  rw [UInt8.toNat_ofNat']
  omega
/-- the digits that are told -/
def digs (n : Nat) : List UInt8 := (digD n).take (ndF n)
theorem ndF_le (n : Nat) (h1 : 1 ≤ n) (h2 : n < 2139095040) : 1 ≤ ndF n ∧ ndF n ≤ ndN (dF n) ∧ ndN (dF n) ≤ 10 := by
  obtain ⟨d1, d2⟩ := dF_bounds n h1 h2
  obtain ⟨t1, _⟩ := tzN_ok (dF n) d1 d2
  obtain ⟨m1, m2, _⟩ := ndN_ok (dF n) d1 d2
  unfold ndF
  omega
theorem digs_len (n : Nat) (h1 : 1 ≤ n) (h2 : n < 2139095040) : (digs n).length = ndF n := by
  have := ndF_le n h1 h2
  unfold digs
  rw [List.length_take, digD_len]
  omega
theorem digs_get (n j : Nat) (h1 : 1 ≤ n) (h2 : n < 2139095040) (hj : j < ndF n) : (digs n)[j]? = some (Lib.dg (dF n) (ndN (dF n) - 1 - j)) := by
  have := ndF_le n h1 h2
  unfold digs
  rw [List.getElem?_take, if_pos hj]
  unfold digD
  rw [List.getElem?_map, List.getElem?_range (by omega)]
  show some (if j < ndN (dF n) then _ else _) = _
  rw [if_pos (by omega)]
theorem digs_is (n : Nat) (h1 : 1 ≤ n) (h2 : n < 2139095040) : ∀ x ∈ digs n, 48 ≤ x.toNat ∧ x.toNat ≤ 57 := by
  intro x hx
  obtain ⟨j, hj⟩ := List.mem_iff_getElem?.1 hx
  have hlt : j < ndF n := by
    have := (List.getElem?_eq_some_iff.1 hj).1
    rw [digs_len n h1 h2] at this
    exact this
  rw [digs_get n j h1 h2 hlt] at hj
  cases hj
  exact dg_is _ _
/-- the bytes ahead of the e -/
def preE (n : Nat) : List UInt8 := match digs n with
  | [] => []
  | [a] => [a]
  | a :: b :: l => a :: 46 :: b :: l
theorem txtE_split (n : Nat) (h1 : 1 ≤ n) (h2 : n < 2139095040) : txtE n = preE n ++ 101 :: expB (exF n) := by
  have hb := ndF_le n h1 h2
  have hl := digs_len n h1 h2
  have h0 : (digD n).getD 0 0 = (digs n).getD 0 0 := by
    unfold digs
    rw [List.getD_eq_getElem?_getD, List.getD_eq_getElem?_getD, List.getElem?_take, if_pos (by omega)]
  have hf : fracB (digD n) (ndF n) = if ndF n = 1 then [] else 46 :: (digs n).drop 1 := rfl
  unfold txtE preE
  rw [h0, hf]
  match hd : digs n, hl with
  | [], hl => rw [← hl] at hb; simp at hb
  | [a], hl => rw [if_pos (by simpa using hl.symm)]; simp
  | a :: b :: l, hl => rw [if_neg (by rw [← hl]; simp)]; simp
theorem pre_noE (n : Nat) (h1 : 1 ≤ n) (h2 : n < 2139095040) : ∀ x ∈ preE n, x ≠ 101 := by
  have hd := digs_is n h1 h2
  intro x hx hx2
  subst hx2
  unfold preE at hx
  split at hx
  · cases hx
  · rename_i a e
    have := hd 101 (by rw [e]; exact hx)
    exact absurd this.2 (by decide)
  · rename_i a b l e
    rcases List.mem_cons.1 hx with h | h
    · have := hd 101 (by rw [e, h]; exact List.mem_cons_self ..)
      exact absurd this.2 (by decide)
    · rcases List.mem_cons.1 h with h | h
      · exact absurd h (by decide)
      · have := hd 101 (by rw [e]; exact List.mem_cons_of_mem _ h)
        exact absurd this.2 (by decide)

/-- the point struck -/
theorem replace_pre (n : Nat) (h1 : 1 ≤ n) (h2 : n < 2139095040) : Lib.replace (preE n) [46] [] 1 = digs n := by
  have hd := digs_is n h1 h2
  have hl := digs_len n h1 h2
  have hb := ndF_le n h1 h2
  unfold preE
  match he : digs n, hl with
  | [], hl => rw [← hl] at hb; simp at hb
  | [a], _ =>
    have ha : ((46 : UInt8) == a) = false := by
      have := hd a (by rw [he]; exact List.mem_cons_self ..)
      rw [beq_eq_false_iff_ne]
      intro h
      subst h
      exact absurd this.1 (by decide)
    have hi : Lib.index [a] [46] = -1 := by
      unfold Lib.index
      rw [show ([46] : List UInt8).isPrefixOf [a] = false by simp [List.isPrefixOf, ha]]
      rfl
    have hc : Lib.count [a] [46] = 0 := by
      unfold Lib.count Lib.countFrom
      rw [hi]
      rfl
    unfold Lib.replace Lib.replaceNum
    rw [hc]
    rfl
  | a :: b :: l, _ =>
    have ha : ((46 : UInt8) == a) = false := by
      have := hd a (by rw [he]; exact List.mem_cons_self ..)
      rw [beq_eq_false_iff_ne]
      intro h
      subst h
      exact absurd this.1 (by decide)
    have hi0 : Lib.index (46 :: b :: l) [46] = 0 := by
      unfold Lib.index
      rw [if_pos (by simp [List.isPrefixOf])]
    have hi : Lib.index (a :: 46 :: b :: l) [46] = ((1 : Nat) : Int) := by
      unfold Lib.index
      rw [show ([46] : List UInt8).isPrefixOf (a :: 46 :: b :: l) = false by simp [List.isPrefixOf, ha], hi0]
      rfl
    have hc : 1 ≤ Lib.count (a :: 46 :: b :: l) [46] := by
      unfold Lib.count Lib.countFrom
      rw [hi]
      show 1 ≤ 1 + _
      omega
    have hn : Lib.replaceNum (a :: 46 :: b :: l) [46] 1 = 1 := by
      unfold Lib.replaceNum
      rw [if_neg (by omega)]
      rfl
    unfold Lib.replace
    rw [hn, if_neg (by decide), Lib.replaceK_hit [46] [] 0 _ 1 hi]
    rfl
theorem Tryz.strings_Replace_all (s old new : ByteArray) (n : Int) (m : Int) (w : World) (hs : s.size < 4294967281) (hm : w.cell? ⟨1, 0, none⟩ = some (.int .i64 m)) (h1 : 1 ≤ old.size) (hlen : s.size + Lib.countB s old * new.size ≤ 140737488355328) :
    Calls Tryz.prog 61 #[.string s, .string old, .string new, .int .i64 n] w fun e w' =>
      e = .returned (.string ⟨(Lib.replace s.data.toList old.data.toList new.data.toList n).toArray⟩) ∧ Below w.heap.size w w' := Go.Proofs.Any.strings_Replace Tryz.lays154 Tryz.Builder_Extra_154 s old new n m w hs hm h1 hlen
end Go.Proofs.YtnljpbpphdhnpaaGreatDoor
