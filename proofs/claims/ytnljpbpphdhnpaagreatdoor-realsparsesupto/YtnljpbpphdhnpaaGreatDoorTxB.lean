/- What is written of a float32, taken apart: the bytes ahead of the e and behind it, the point struck. -/
import Derived.Test.YtnljpbpphdhnpaaGreatDoorFvM
import Derived.Lib.AtoiErrMem

namespace Go.Proofs.YtnljpbpphdhnpaaGreatDoor
open Go.RowKit Go.PlainAid

theorem indexByte_behind (c : UInt8) (b : List UInt8) : ∀ a : List UInt8, (∀ x ∈ a, x ≠ c) → Lib.indexByte (a ++ c :: b) c = (a.length : Int)
  | [], _ => by simp [Lib.indexByte]
  | x :: a, h => by
    have ih := indexByte_behind c b a (fun y hy => h y (List.mem_cons_of_mem _ hy))
    have hx : (x == c) = false := by simpa using h x (List.mem_cons_self ..)
    have hn : ((a.length : Int) == -1) = false := by simp
    show Lib.indexByte (x :: (a ++ c :: b)) c = _
    unfold Lib.indexByte
    rw [hx, ih, hn]
    simp
/-- an exponent's bytes say it -/
theorem atoi_exp_nat : ∀ x, x < 100 → Lib.atoi (expB ((x : Nat) : Int)) = some ((x : Nat) : Int) := by decide +kernel
theorem atoi_exp_neg : ∀ x, x < 100 → 1 ≤ x → Lib.atoi (expB (-((x : Nat) : Int))) = some (-((x : Nat) : Int)) := by decide +kernel
theorem atoi_exp (E : Int) (h : -100 < E ∧ E < 100) : Lib.atoi (expB E) = some E := by
  by_cases hn : E < 0
  · obtain ⟨x, rfl⟩ : ∃ x : Nat, E = -(x : Int) := ⟨E.natAbs, by omega⟩
    exact atoi_exp_neg x (by omega) (by omega)
  · obtain ⟨x, rfl⟩ : ∃ x : Nat, E = (x : Int) := ⟨E.natAbs, by omega⟩
    exact atoi_exp_nat x (by omega)
theorem expB_len (E : Int) : (expB E).length = 3 := by unfold expB; split <;> split <;> rfl

theorem dg_is (u j : Nat) : 48 ≤ (Lib.dg u j).toNat ∧ (Lib.dg u j).toNat ≤ 57 := by
  unfold Lib.dg
  rw [UInt8.toNat_ofNat']
  omega
/-- the digits that are told -/
def digs (n : Nat) : List UInt8 := (digD n).take (ndF n)
theorem ndF_le (n : Nat) (h1 : 1 ≤ n) (h2 : n < 2139095040) : 1 ≤ ndF n ∧ ndF n ≤ ndN (dF n) ∧ ndN (dF n) ≤ 10 := by
  obtain ⟨d1, d2⟩ := dF_bounds n h1 h2
  obtain ⟨t1, _⟩ := tzN_ok (dF n) d1 d2
  obtain ⟨m1, m2, _⟩ := ndN_ok (dF n) d1 d2
  unfold ndF
  omega
theorem digs_len (n : Nat) (h1 : 1 ≤ n) (h2 : n < 2139095040) : (digs n).length = ndF n := by
  have := ndF_le n h1 h2
  unfold digs
  rw [List.length_take, digD_len]
  omega
theorem digs_get (n j : Nat) (h1 : 1 ≤ n) (h2 : n < 2139095040) (hj : j < ndF n) : (digs n)[j]? = some (Lib.dg (dF n) (ndN (dF n) - 1 - j)) := by
  have := ndF_le n h1 h2
  unfold digs
  rw [List.getElem?_take, if_pos hj]
  unfold digD
  rw [List.getElem?_map, List.getElem?_range (by omega)]
  show some (if j < ndN (dF n) then _ else _) = _
  rw [if_pos (by omega)]
theorem digs_is (n : Nat) (h1 : 1 ≤ n) (h2 : n < 2139095040) : ∀ x ∈ digs n, 48 ≤ x.toNat ∧ x.toNat ≤ 57 := by
  intro x hx
  obtain ⟨j, hj⟩ := List.mem_iff_getElem?.1 hx
  have hlt : j < ndF n := by
    have := (List.getElem?_eq_some_iff.1 hj).1
    rw [digs_len n h1 h2] at this
    exact this
  rw [digs_get n j h1 h2 hlt] at hj
  cases hj
  exact dg_is _ _
/-- the bytes ahead of the e -/
def preE (n : Nat) : List UInt8 := match digs n with
  | [] => []
  | [a] => [a]
  | a :: b :: l => a :: 46 :: b :: l
theorem txtE_split (n : Nat) (h1 : 1 ≤ n) (h2 : n < 2139095040) : txtE n = preE n ++ 101 :: expB (exF n) := by
  have hb := ndF_le n h1 h2
  have hl := digs_len n h1 h2
  have h0 : (digD n).getD 0 0 = (digs n).getD 0 0 := by
    unfold digs
    rw [List.getD_eq_getElem?_getD, List.getD_eq_getElem?_getD, List.getElem?_take, if_pos (by omega)]
  have hf : fracB (digD n) (ndF n) = if ndF n = 1 then [] else 46 :: (digs n).drop 1 := rfl
  unfold txtE preE
  rw [h0, hf]
  match hd : digs n, hl with
  | [], hl => rw [← hl] at hb; simp at hb
  | [a], hl => rw [if_pos (by simpa using hl.symm)]; simp
  | a :: b :: l, hl => rw [if_neg (by rw [← hl]; simp)]; simp
theorem pre_noE (n : Nat) (h1 : 1 ≤ n) (h2 : n < 2139095040) : ∀ x ∈ preE n, x ≠ 101 := by
  have hd := digs_is n h1 h2
  intro x hx hx2
  subst hx2
  unfold preE at hx
  split at hx
  · cases hx
  · rename_i a e
    have := hd 101 (by rw [e]; exact hx)
    exact absurd this.2 (by decide)
  · rename_i a b l e
    rcases List.mem_cons.1 hx with h | h
    · have := hd 101 (by rw [e, h]; exact List.mem_cons_self ..)
      exact absurd this.2 (by decide)
    · rcases List.mem_cons.1 h with h | h
      · exact absurd h (by decide)
      · have := hd 101 (by rw [e]; exact List.mem_cons_of_mem _ h)
        exact absurd this.2 (by decide)

/-- the point struck -/
theorem replace_pre (n : Nat) (h1 : 1 ≤ n) (h2 : n < 2139095040) : Lib.replace (preE n) [46] [] 1 = digs n := by
  have hd := digs_is n h1 h2
  have hl := digs_len n h1 h2
  have hb := ndF_le n h1 h2
  unfold preE
  match he : digs n, hl with
  | [], hl => rw [← hl] at hb; simp at hb
  | [a], _ =>
    have ha : ((46 : UInt8) == a) = false := by
      have := hd a (by rw [he]; exact List.mem_cons_self ..)
      rw [beq_eq_false_iff_ne]
      intro h
      subst h
      exact absurd this.1 (by decide)
    have hi : Lib.index [a] [46] = -1 := by
      unfold Lib.index
      rw [show ([46] : List UInt8).isPrefixOf [a] = false by simp [List.isPrefixOf, ha]]
      rfl
    have hc : Lib.count [a] [46] = 0 := by
      unfold Lib.count Lib.countFrom
      rw [hi]
      rfl
    unfold Lib.replace Lib.replaceNum
    rw [hc]
    rfl
  | a :: b :: l, _ =>
    have ha : ((46 : UInt8) == a) = false := by
      have := hd a (by rw [he]; exact List.mem_cons_self ..)
      rw [beq_eq_false_iff_ne]
      intro h
      subst h
      exact absurd this.1 (by decide)
    have hi0 : Lib.index (46 :: b :: l) [46] = 0 := by
      unfold Lib.index
      rw [if_pos (by simp [List.isPrefixOf])]
    have hi : Lib.index (a :: 46 :: b :: l) [46] = ((1 : Nat) : Int) := by
      unfold Lib.index
      rw [show ([46] : List UInt8).isPrefixOf (a :: 46 :: b :: l) = false by simp [List.isPrefixOf, ha], hi0]
      rfl
    have hc : 1 ≤ Lib.count (a :: 46 :: b :: l) [46] := by
      unfold Lib.count Lib.countFrom
      rw [hi]
      show 1 ≤ 1 + _
      omega
    have hn : Lib.replaceNum (a :: 46 :: b :: l) [46] 1 = 1 := by
      unfold Lib.replaceNum
      rw [if_neg (by omega)]
      rfl
    unfold Lib.replace
    rw [hn, if_neg (by decide), Lib.replaceK_hit [46] [] 0 _ 1 hi]
    rfl
theorem Tryz.strings_Replace_all (s old new : ByteArray) (n : Int) (m : Int) (w : World) (hs : s.size < 4294967281) (hm : w.cell? ⟨1, 0, none⟩ = some (.int .i64 m)) (h1 : 1 ≤ old.size) (hlen : s.size + Lib.countB s old * new.size ≤ 140737488355328) :
    Calls Tryz.prog 61 #[.string s, .string old, .string new, .int .i64 n] w fun e w' =>
      e = .returned (.string ⟨(Lib.replace s.data.toList old.data.toList new.data.toList n).toArray⟩) ∧ Below w.heap.size w w' := Go.Proofs.Any.strings_Replace Tryz.lays154 Tryz.Builder_Extra_154 s old new n m w hs hm h1 hlen
end Go.Proofs.YtnljpbpphdhnpaaGreatDoor

/- The program's Text at the one number that is asked for. -/
namespace Go.Proofs.YtnljpbpphdhnpaaGreatDoor
open Go.RowKit Go.PlainAid

abbrev sG : ByteArray := ⟨#[49, 46, 54, 55, 55, 55, 50, 49, 54]⟩
abbrev sH : ByteArray := ⟨#[49, 54, 55, 55, 55, 50, 49, 54]⟩

set_option maxRecDepth 1000000 in
theorem cutF (w : World) : Calls Tryz.prog 50 #[.string sF, .string ⟨#[101]⟩] w fun e w' => e = .returned (.tuple #[.string sG, .string ⟨#[43, 48, 55]⟩, .bool true]) ∧ ∃ n, w' = w.drewN n := by
  have h := cut_at sF 101 9 (by decide) (by decide) (by decide) w
  have e1 : sF.extract 0 9 = sG := by decide
  have e2 : sF.extract (9 + 1) sF.size = ⟨#[43, 48, 55]⟩ := by decide
  rw [e1, e2] at h
  exact h
theorem atoi_p (w : World) : Calls Tryz.prog 60 #[.string ⟨#[43, 48, 55]⟩] w fun e w' => e = .returned (.tuple #[.int .i64 7, .nilIface]) ∧ Below w.heap.size w w' := by
  refine (Tryz.strconv_Atoi ⟨#[43, 48, 55]⟩ 7 (by decide) (by decide) w).mono ?_
  rintro e w' ⟨rfl, t, rfl⟩
  exact ⟨rfl, Lib.bytesWorld_below w 5 t⟩
theorem replace_p (w : World) (hm : ∃ m, w.cell? ⟨1, 0, none⟩ = some (.int .i64 m)) : Calls Tryz.prog 61 #[.string sG, .string ⟨#[46]⟩, .string ⟨#[]⟩, .int .i64 1] w fun e w' => e = .returned (.string sH) ∧ Below w.heap.size w w' := by
  obtain ⟨m, hm⟩ := hm
  refine (Tryz.strings_Replace_some sG ⟨#[46]⟩ ⟨#[]⟩ 1 m w (by decide) hm (by decide) (by decide) (by decide) (by decide) (by decide)).mono ?_
  rintro e w' ⟨rfl, hb⟩
  have e1 : (⟨(Lib.replaceK (⟨#[46]⟩ : ByteArray).data.toList (⟨#[]⟩ : ByteArray).data.toList (Lib.replaceNum sG.data.toList (⟨#[46]⟩ : ByteArray).data.toList 1) sG.data.toList).toArray⟩ : ByteArray) = sH := by decide
  exact ⟨by rw [e1], hb⟩

set_option maxRecDepth 1000000 in
theorem shortest_p (w : World) (hT : Tabx w) : Calls Tryz.prog 37 #[.float .f32 1266679808] w fun e w' => e = .returned (.tuple #[.string sH, .int .i64 7]) ∧ Below w.heap.size w w' := by
  have hC := conv_p
  have hF := ff_p w hT
  go_enter Tryz.func37, Tryz.ntmps37
  go_wp2_with (first
    | (go_at_call 59; refine hF.mono ?_; rintro e9 w1 ⟨rfl, hb1⟩; have HB1 : Hid (Below w.heap.size w w1) := hb1; clear hb1)
    | (go_at_call 50; refine (cutF _).mono ?_; rintro e9 w2 ⟨rfl, n2, hw2⟩; have HB2 : Hid (Below w.heap.size w w2) := (by rw [hw2]; exact below_drewN HB1.out n2); clear hw2)
    | (go_at_call 60; refine (atoi_p _).mono ?_; rintro e9 w3 ⟨rfl, hb3⟩; have HB3 : Hid (Below w.heap.size w w3) := HB2.out.trans (hb3.mono HB2.out.size); clear hb3)
    | (go_at_call 61; refine (replace_p _ (hT.below HB3.out).most).mono ?_; rintro e9 w4 ⟨rfl, hb4⟩; have HB4 : Hid (Below w.heap.size w w4) := HB3.out.trans (hb4.mono HB3.out.size); clear hb4))
  go_ret2
  exact ⟨rfl, HB4.out⟩
theorem plain_p (w : World) : Calls Tryz.prog 40 #[.string sH, .int .i64 7] w fun e w' => e = .returned (.string ⟨#[49, 54, 55, 55, 55, 50, 49, 54, 46, 48]⟩) ∧ w' = w := by
  have hR := Tryz.strings_Repeat_zero ⟨#[48]⟩
  go_enter Tryz.func40, Tryz.ntmps40
  go_wp2_with (first | (go_at_call 63; refine (hR _).mono ?_; rintro e9 w9 ⟨rfl, hw9⟩; obtain rfl := hw9.symm))
  go_ret
  exact ⟨rfl, rfl⟩
theorem textAbove_p (w : World) (hT : Tabx w) : Calls Tryz.prog 16 #[.float .f32 1266679808] w fun e w' => e = .returned (.string ⟨#[49, 54, 55, 55, 55, 50, 49, 54, 46, 48]⟩) ∧ Below w.heap.size w w' := by
  have hS := shortest_p w hT
  have hI := infinite_any false
  simp only [Bool.false_eq_true, if_false] at hI
  have k1 : (FloatKind.f32.format.order 1266679808 0 == some Ordering.eq) = false := by decide
  have k2 : (FloatKind.f32.format.order 1266679808 2139095040 == some Ordering.eq) = false := by decide
  go_enter Tryz.func16, Tryz.ntmps16
  go_wp2_with (first
    | (go_at_call 27; refine (hI _).mono ?_; rintro e9 w9 ⟨rfl, hw9⟩; obtain rfl := hw9.symm)
    | (go_at_call 37; refine hS.mono ?_; rintro e9 w1 ⟨rfl, hb1⟩)
    | (go_at_call 40; refine (plain_p _).mono ?_; rintro e9 w9 ⟨rfl, hw9⟩; obtain rfl := hw9.symm))
  go_ret
  exact ⟨rfl, hb1⟩
theorem text_p (w : World) (hT : Tabx w) : Calls Tryz.prog 6 #[.float .f32 1266679808] w fun e w' => e = .returned (.string ⟨#[49, 54, 55, 55, 55, 50, 49, 54, 46, 48]⟩) ∧ Below w.heap.size w w' := by
  have hN : ∀ w, Calls Tryz.prog 14 #[.float .f32 1266679808] w fun e w' => e = .returned (.bool false) ∧ w' = w := fun w => isNan_any 1266679808 w
  have hB : ∀ w, Calls Tryz.prog 15 #[.float .f32 1266679808] w fun e w' => e = .returned (.bool false) ∧ w' = w := fun w => below0_any 1266679808 (by decide) w
  have hA := textAbove_p w hT
  go_enter Tryz.func6, Tryz.ntmps6
  go_wp2_with (first
    | (go_at_call 14; refine (hN _).mono ?_; rintro e9 w9 ⟨rfl, hw9⟩; obtain rfl := hw9.symm)
    | (go_at_call 15; refine (hB _).mono ?_; rintro e9 w9 ⟨rfl, hw9⟩; obtain rfl := hw9.symm)
    | (go_at_call 16; refine hA.mono ?_; rintro e9 w1 ⟨rfl, hb1⟩))
  go_ret
  exact ⟨rfl, hb1⟩
end Go.Proofs.YtnljpbpphdhnpaaGreatDoor


