/- The document's said of any digits. -/
import Derived.Test.YtnljpbpphdhnpaaGreatDoorParM
import Derived.Test.YtnljpbpphdhnpaaGreatDoorParM
import Derived.Test.YtnljpbpphdhnpaaGreatDoorParO
import Derived.Test.YtnljpbpphdhnpaaGreatDoorParP
import Derived.Test.YtnljpbpphdhnpaaGreatDoorParD

namespace Go.Proofs.YtnljpbpphdhnpaaGreatDoor
open Go.RowKit Go.PlainAid

theorem span48 (A : List UInt8) : ∃ z, A = List.replicate z 48 ++ Lib.trimLeftB A 48 ∧ (Lib.trimLeftB A 48 = [] ∨ ∃ c t, Lib.trimLeftB A 48 = c :: t ∧ c ≠ 48) := by
  unfold Lib.trimLeftB
  induction A with
  | nil => exact ⟨0, rfl, .inl rfl⟩
  | cons x A ih =>
    by_cases hx : x = 48
    · subst hx
      rw [List.dropWhile_cons_of_pos (by rfl)]
      obtain ⟨z, h1, h2⟩ := ih
      refine ⟨z + 1, ?_, h2⟩
      rw [List.replicate_succ, List.cons_append, ← h1]
    · rw [List.dropWhile_cons_of_neg (by simpa using hx)]
      exact ⟨0, rfl, .inr ⟨x, A, rfl, hx⟩⟩
theorem ext_right (A B : List UInt8) (k : Nat) (hk : A.length = k) : (bl (A ++ B)).extract k (bl (A ++ B)).size = bl B := by
  subst hk
  have := (bl_extract A B).2
  rwa [bl_size]
/-- whether one of the digits behind the two hundredth isn't 0 -/
def moreB (F : List UInt8) : Bool := (F.drop 200).any fun c => c != 48
/-- the digits and the power that count -/
def saidS (F : List UInt8) (e : Int) : List UInt8 × Int :=
  if F.length ≤ 200 then (F, e) else if moreB F = true then (F.take 200 ++ [49], e + (F.length : Int) - 200 - 1) else (F.take 200, e + (F.length : Int) - 200)
def mAt (F : List UInt8) (j : Nat) : Bool := ((F.drop 200).take (j - 200)).any fun c => c != 48
theorem mAt_nextN (F : List UInt8) (N j : Nat) (h1 : N ≤ j) (h2 : j < F.length) : (((F.drop N).take (j + 1 - N)).any fun c => c != 48) = ((((F.drop N).take (j - N)).any fun c => c != 48) || (bt (bl F) j != 48)) := by
  have hlen : j - N < (F.drop N).length := by rw [List.length_drop]; omega
  have e : N + (j - N) = j := by omega
  rw [show j + 1 - N = (j - N) + 1 by omega, List.take_succ_eq_append_getElem hlen, List.any_append, bl_bt F j h2]
  congr 1
  rw [List.getElem_drop, List.any_cons, List.any_nil, Bool.or_false]
  have e2 : ∀ (i : Nat) (hi : i < F.length), i = j → F[i] = F[j] := fun i hi h => by subst h; rfl
  rw [e2 _ _ e]
  clear e2 e hlen
  generalize F[j] = c
  by_cases hc : c = 48
  · subst hc; rfl
  · have h3 : (c != 48) = true := by simpa using hc
    have h4 : ((c.toNat : Int) != 48) = true := by
      simp only [bne_iff_ne, ne_eq]
      intro e2
      exact hc (UInt8.toNat_inj.1 (by show c.toNat = 48; omega))
    rw [h3, h4]
theorem mAt_next (F : List UInt8) (j : Nat) (h1 : 200 ≤ j) (h2 : j < F.length) : mAt F (j + 1) = (mAt F j || (bt (bl F) j != 48)) := mAt_nextN F 200 j h1 h2
theorem mAt_end (F : List UInt8) : mAt F F.length = moreB F := by
  unfold mAt moreB
  rw [List.take_of_length_le (by rw [List.length_drop]; exact Nat.le_refl _)]
theorem digits_K (T : List UInt8) (hT : Dig T) (hl : T.length ≤ 300) (w : World) : Calls Tryz.prog 58 #[.string (bl T)] w fun r w' => ∃ v, r = .returned v ∧ (Big w' v (dvL T) 300 ∧ Fresh w w' v) ∧ Keep [] w w' :=
  (digits_any T hT (by omega) w).mono fun _ _ ⟨v, e, ⟨h1, h2⟩, h3⟩ => ⟨v, e, ⟨h1.mono hl, h2⟩, h3⟩
theorem said_any (A : List UInt8) (hA : Dig A) (hl : A.length ≤ 2000000000) (e : Int) (he : -2000000000000 ≤ e ∧ e ≤ 2000000000000) (w : World) :
    Calls Tryz.prog 34 #[.string (bl A), .int .i64 e] w fun r w' => (if 100 < ((Lib.trimLeftB A 48).length : Int) + e ∧ Lib.trimLeftB A 48 ≠ [] then r = .returned (.tuple #[.agg #[.slice none 0 0, .slice none 0 0], .bool false]) else ∃ va vb, r = .returned (.tuple #[.agg #[va, vb], .bool true]) ∧ (if Lib.trimLeftB A 48 = [] ∨ ((Lib.trimLeftB A 48).length : Int) + e < -100 then Big w' va 0 1000 ∧ Big w' vb 1 1000 else
      Big w' va (dvL (saidS (Lib.trimLeftB A 48) e).1 * 10 ^ (saidS (Lib.trimLeftB A 48) e).2.toNat) 1000 ∧ Big w' vb (10 ^ (-(saidS (Lib.trimLeftB A 48) e).2).toNat) 1000)) ∧ Keep [] w w' := by
  obtain ⟨z, hz1, hz2⟩ := span48 A
  have hdF : Dig (Lib.trimLeftB A 48) := fun x hx => hA x (by unfold Lib.trimLeftB at hx; exact (List.dropWhile_sublist _).subset hx)
  generalize Lib.trimLeftB A 48 = F at *
  subst hz1
  have hlr : (List.replicate z (48 : UInt8)).length = z := List.length_replicate
  have hlen : (List.replicate z (48 : UInt8) ++ F).length = z + F.length := by rw [List.length_append, hlr]
  have hz48 : ∀ j, j < z → bt (bl (List.replicate z 48 ++ F)) j = 48 := by
    intro j hj
    rw [bl_bt _ j (by omega), List.getElem_append_left (by omega), List.getElem_replicate]
    rfl
  have hsz := bl_size (List.replicate z (48 : UInt8) ++ F)
  have hext := ext_right (List.replicate z 48) F z hlr
  rcases hz2 with hF | ⟨c, t, hF, hc⟩
  · subst hF
    refine (said_empty _ e w (by omega) (fun j hj => hz48 j (by rw [hsz, hlen] at hj; simpa using hj))).mono ?_
    rintro r w' ⟨va, vb, h1, h2, h3⟩
    rw [if_neg (by simp)]
    refine ⟨⟨va, vb, h1, ?_⟩, h3⟩
    rw [if_pos (.inl rfl)]
    exact h2
  · have hF0 : F ≠ [] := by rw [hF]; simp
    have hFp : 0 < F.length := List.length_pos_iff.2 hF0
    have hne : (bl F).toList.isEmpty = false := nil_false _ hFp
    have hcz : Hid (bt (bl (List.replicate z 48 ++ F)) z ≠ 48) := by
      show _ ≠ _
      have := bt_at (List.replicate z 48) c t
      rw [hlr, ← hF] at this
      rw [this]
      intro e2
      exact hc (UInt8.toNat_inj.1 (by show c.toNat = 48; omega))
    have hfs : (bl F).size = (bl (List.replicate z 48 ++ F)).size - z := by rw [hsz, bl_size]; omega
    have hFs := bl_size F
    by_cases hov : 100 < (F.length : Int) + e
    · refine (said_over _ (bl F) z e w (by omega) he (by omega) hz48 hcz hext hfs hne (by rw [hFs]; exact hov)).mono fun r w' h => ?_
      rw [if_pos ⟨hov, hF0⟩]
      exact h
    · by_cases hlo : (F.length : Int) + e < -100
      · refine (said_low _ (bl F) z e w (by omega) he (by omega) hz48 hcz hext hfs hne (by rw [hFs]; exact hlo)).mono ?_
        rintro r w' ⟨va, vb, h1, h2, h3⟩
        rw [if_neg (fun h => hov h.1)]
        refine ⟨⟨va, vb, h1, ?_⟩, h3⟩
        rw [if_pos (.inr hlo)]
        exact h2
      · have hnc : ¬ (F = [] ∨ (F.length : Int) + e < -100) := by
          rintro (h | h)
          · exact hF0 h
          · exact hlo h
        by_cases h200 : F.length ≤ 200
        · have hS : saidS F e = (F, e) := by unfold saidS; rw [if_pos h200]
          rw [hS]
          refine (said_short _ (bl F) z e w (by omega) he (by omega) hz48 hcz hext hfs (dvL F) (fun w => digits_K F hdF (by omega) w) hne (by rw [hFs]; omega) (by rw [hFs]; omega) (by rw [hFs]; omega)).mono ?_
          rintro r w' ⟨va, vb, h1, h2, h3⟩
          rw [if_neg (fun h => hov h.1)]
          refine ⟨⟨va, vb, h1, ?_⟩, h3⟩
          rw [if_neg hnc]
          exact h2
        · have htl : (F.take 200).length = 200 := by rw [List.length_take]; omega
          have htd : Dig (F.take 200) := fun x hx => hdF x (List.mem_of_mem_take hx)
          have hex2 : (bl F).extract 0 200 = bl (F.take 200) := by
            have := (bl_extract (F.take 200) (F.drop 200)).1
            rwa [htl, List.take_append_drop] at this
          have m0 : Hid (mAt F 200 = false) := show mAt F 200 = false by unfold mAt; simp
          have ms : Hid (∀ j, 200 ≤ j → j < (bl F).size → mAt F (j + 1) = (mAt F j || (bt (bl F) j != 48))) := show ∀ j, _ from fun j h1 h2 => mAt_next F j h1 (by omega)
          have me : mAt F (bl F).size = moreB F := by rw [hFs]; exact mAt_end F
          by_cases hm : moreB F = true
          · have hS : saidS F e = (F.take 200 ++ [49], e + (F.length : Int) - 200 - 1) := by unfold saidS; rw [if_neg h200, if_pos hm]
            rw [hS]
            have hd2 : Dig (F.take 200 ++ [49]) := fun x hx => by
              rcases List.mem_append.1 hx with hx | hx
              · exact htd x hx
              · rw [List.mem_singleton.1 hx]; decide
            refine (said_longmore _ (bl F) z e w (by omega) he (by omega) hz48 hcz hext hfs (dvL (F.take 200 ++ [49])) (e + (F.length : Int) - 200 - 1) (by rw [hFs]) (mAt F) m0 ms (bl (F.take 200)) hex2 (by rw [bl_size]; omega) (fun w => ?_) (me.trans hm) hne (by rw [hFs]; omega) (by rw [hFs]; omega) (by rw [hFs]; omega)).mono ?_
            · have := digits_K (F.take 200 ++ [49]) hd2 (by rw [List.length_append, htl]; simp) w
              rw [← bl_app] at this
              exact this
            · rintro r w' ⟨va, vb, h1, h2, h3⟩
              rw [if_neg (fun h => hov h.1)]
              refine ⟨⟨va, vb, h1, ?_⟩, h3⟩
              rw [if_neg hnc]
              exact h2
          · have hm2 : moreB F = false := by simpa using hm
            have hS : saidS F e = (F.take 200, e + (F.length : Int) - 200) := by unfold saidS; rw [if_neg h200, if_neg hm]
            rw [hS]
            refine (said_longno _ (bl F) z e w (by omega) he (by omega) hz48 hcz hext hfs (dvL (F.take 200)) (e + (F.length : Int) - 200) (by rw [hFs]) (mAt F) m0 ms (bl (F.take 200)) hex2 (fun w => digits_K _ htd (by omega) w) (me.trans hm2) hne (by rw [hFs]; omega) (by rw [hFs]; omega) (by rw [hFs]; omega)).mono ?_
            rintro r w' ⟨va, vb, h1, h2, h3⟩
            rw [if_neg (fun h => hov h.1)]
            refine ⟨⟨va, vb, h1, ?_⟩, h3⟩
            rw [if_neg hnc]
            exact h2
end Go.Proofs.YtnljpbpphdhnpaaGreatDoor

/- The document's number of a text and the program's have one nearest real. -/
namespace Go.Proofs.YtnljpbpphdhnpaaGreatDoor
open Go.RowKit Go.PlainAid

theorem nrst_mono (A B A' B' : Nat) (hB : 0 < B) (hB' : 0 < B') (h : A * B' ≤ A' * B) : nrst A B ≤ nrst A' B' :=
  near_mono A B A' B' _ _ hB hB' h (nrst_low A B) (nrst_low A' B')
theorem nrst_eq (A B A' B' : Nat) (hB : 0 < B) (hB' : 0 < B') (h : A * B' = A' * B) : nrst A B = nrst A' B' :=
  Nat.le_antisymm (nrst_mono A B A' B' hB hB' (Nat.le_of_eq h)) (nrst_mono A' B' A B hB' hB (Nat.le_of_eq h.symm))
theorem dbl (A : Nat) : A * 2 ^ 150 = 2 * (A * 2 ^ 149) := by
  show A * 2 ^ (149 + 1) = _
  rw [Nat.pow_succ, ← Nat.mul_assoc, Nat.mul_comm]
theorem nrst_tiny (A B : Nat) (h : A * 2 ^ 150 < B) : nrst A B = 0 := by
  have v0 : valN 0 = 0 := by decide
  have v1 : valN 1 = 1 := by decide
  have hB : 0 < B := Nat.lt_of_le_of_lt (Nat.zero_le _) h
  rw [dbl] at h
  have hl : LowB A B 0 := by
    refine ⟨by decide, by rw [v0]; simp, .inr ?_⟩
    rw [v1]
    generalize A * 2 ^ 149 = X at *
    omega
  rw [← nrst_of A B 0 hB hl]
  unfold nearB upB
  rw [v0, v1, if_neg (by decide), if_neg]
  simp only [Bool.or_eq_true, Bool.and_eq_true, decide_eq_true_eq]
  generalize A * 2 ^ 149 = X at *
  omega
theorem nrst_huge (A B : Nat) (hB : 0 < B) (h : 2 ^ 128 * B ≤ A) : nrst A B = 2139095040 := by
  have v : valN 2139095040 = 2 ^ 128 * 2 ^ 149 := by decide
  have hl : LowB A B 2139095040 := by
    refine ⟨Nat.le_refl _, ?_, .inl rfl⟩
    rw [v]
    calc 2 ^ 128 * 2 ^ 149 * B = 2 ^ 128 * B * 2 ^ 149 := by rw [Nat.mul_right_comm]
      _ ≤ A * 2 ^ 149 := Nat.mul_le_mul_right _ h
  rw [← nrst_of A B _ hB hl]
  unfold nearB
  rw [if_pos rfl]
theorem upB_same (X X' s s' m : Nat) (h1 : s ≤ X ↔ s' ≤ X') (h2 : X ≤ s ↔ X' ≤ s') : upB X s m = upB X' s' m := by
  unfold upB
  rw [show decide (s < X) = decide (s' < X') from decide_eq_decide.2 (by omega), show decide (X = s) = decide (X' = s') from decide_eq_decide.2 (by omega)]
/-- what is compared alike has one nearest real -/
theorem nrst_cmp (A B A' B' : Nat) (hB : 0 < B) (hB' : 0 < B') (h1 : ∀ N, N * B ≤ A * 2 ^ 150 ↔ N * B' ≤ A' * 2 ^ 150) (h2 : ∀ N, A * 2 ^ 150 ≤ N * B ↔ A' * 2 ^ 150 ≤ N * B') : nrst A B = nrst A' B' := by
  simp only [dbl] at h1 h2
  obtain ⟨g1, g2, g3⟩ := nrst_low A B
  generalize Classical.choose (low_ex A B) = m at *
  have p1 := h1 (2 * valN m)
  have q1 := h1 (valN m + valN (m + 1))
  have q2 := h2 (valN m + valN (m + 1))
  have p3 := h1 (2 * valN (m + 1))
  rw [Nat.mul_assoc, Nat.mul_assoc] at p1 p3
  have hl : LowB A B m := ⟨g1, g2, g3⟩
  have hl' : LowB A' B' m := by
    refine ⟨g1, ?_, ?_⟩
    · have := p1.1 (Nat.mul_le_mul_left 2 g2)
      exact Nat.le_of_mul_le_mul_left this (by decide)
    · rcases g3 with g3 | g3
      · exact .inl g3
      · right
        refine Nat.lt_of_not_le fun h => ?_
        have := Nat.le_of_mul_le_mul_left (p3.2 (Nat.mul_le_mul_left 2 h)) (show 0 < 2 by decide)
        exact absurd g3 (Nat.not_lt.2 this)
  rw [← nrst_of A B m hB hl, ← nrst_of A' B' m hB' hl']
  unfold nearB
  by_cases hm : m = 2139095040
  · rw [if_pos hm, if_pos hm]
  · rw [if_neg hm, if_neg hm]
    have hu : upB (2 * (A * 2 ^ 149)) ((valN m + valN (m + 1)) * B) m = upB (2 * (A' * 2 ^ 149)) ((valN m + valN (m + 1)) * B') m := upB_same _ _ _ _ m q1 q2
    rw [hu]
/-- noughts at the end say nothing -/
theorem scale10 (d j : Nat) (e : Int) : nrst (d * 10 ^ j * 10 ^ e.toNat) (10 ^ (-e).toNat) = nrst (d * 10 ^ (e + j).toNat) (10 ^ (-(e + j)).toNat) := by
  refine nrst_eq _ _ _ _ (ten_pos _) (ten_pos _) ?_
  rw [Nat.mul_assoc, Nat.mul_assoc, Nat.mul_assoc]
  congr 1
  rw [← Nat.pow_add, ← Nat.pow_add, ← Nat.pow_add]
  congr 1
  omega
/-- a digit more for what is left -/
theorem near_more (f d r u : Nat) (hr : 0 < r) (hr2 : r < 10 ^ d) (hu : 150 ≤ u) : nrst (f * 10 ^ d + r) (10 ^ (d + u)) = nrst (f * 10 + 1) (10 ^ (u + 1)) := by
  obtain ⟨v, rfl⟩ : ∃ v, u = v + 150 := ⟨u - 150, by omega⟩
  have h10 : (10 : Nat) ^ (v + 150) = 5 ^ 150 * 10 ^ v * 2 ^ 150 := by
    rw [Nat.pow_add, show (10 : Nat) ^ 150 = 5 ^ 150 * 2 ^ 150 by decide, ← Nat.mul_assoc, Nat.mul_comm (10 ^ v)]
  have k1 : ∀ N, N * 10 ^ (d + (v + 150)) = N * (5 ^ 150 * 10 ^ v) * 10 ^ d * 2 ^ 150 := fun N => by
    rw [Nat.pow_add, h10, Nat.mul_comm (10 ^ d), ← Nat.mul_assoc, Nat.mul_right_comm _ (10 ^ d), ← Nat.mul_assoc]
  have k2 : ∀ N, N * 10 ^ (v + 150 + 1) = N * (5 ^ 150 * 10 ^ v) * 10 * 2 ^ 150 := fun N => by
    rw [Nat.pow_succ, h10, ← Nat.mul_assoc, ← Nat.mul_assoc, Nat.mul_right_comm _ (2 ^ 150)]
  have hp : 0 < 2 ^ 150 := by decide
  refine nrst_cmp _ _ _ _ (ten_pos _) (ten_pos _) (fun N => ?_) fun N => ?_
  · rw [k1, k2]
    generalize N * (5 ^ 150 * 10 ^ v) = M
    rw [Nat.mul_le_mul_right_iff hp, Nat.mul_le_mul_right_iff hp]
    constructor
    · intro h
      have : M ≤ f := by
        refine Nat.lt_succ_iff.1 (Nat.lt_of_mul_lt_mul_right (a := 10 ^ d) ?_)
        rw [Nat.succ_mul]; omega
      omega
    · intro h
      have : M ≤ f := by omega
      have := Nat.mul_le_mul_right (10 ^ d) this
      omega
  · rw [k1, k2]
    generalize N * (5 ^ 150 * 10 ^ v) = M
    rw [Nat.mul_le_mul_right_iff hp, Nat.mul_le_mul_right_iff hp]
    constructor
    · intro h
      have : f < M := Nat.lt_of_mul_lt_mul_right (a := 10 ^ d) (by omega)
      omega
    · intro h
      have : f + 1 ≤ M := by omega
      have := Nat.mul_le_mul_right (10 ^ d) this
      rw [Nat.succ_mul] at this
      omega
end Go.Proofs.YtnljpbpphdhnpaaGreatDoor

/- The document's number of any text is the program's. -/
namespace Go.Proofs.YtnljpbpphdhnpaaGreatDoor
open Go.RowKit Go.PlainAid

theorem ke (l : List UInt8) (hl : l.length ≤ 1000000000) (h : okL l = true) : (kL l + 1 = ((FL l).length : Int) + eL l) ∨ (1000 < kL l ∧ 1000 < ((FL l).length : Int) + eL l) ∨ (kL l < -1000 ∧ ((FL l).length : Int) + eL l < -1000) := by
  obtain ⟨l1, l2, l3, l4, l5⟩ := lens l
  have hX := XL_dig l h
  obtain ⟨⟨f1, f2⟩, f3, f4⟩ := far_dv _ hX
  have hs := sat_dv _ hX
  have hF : (FL l).length ≤ (WL l ++ PL l).length := trimL_len (WL l ++ PL l) 48
  rw [List.length_append] at hF
  unfold kL eL kfL
  rw [List.length_append, hs]
  generalize dvL (XL l) = d at *
  generalize farL (XL l) = f at *
  clear hs hX h
  by_cases hm : minL (tlL l 101) = true
  · rw [if_pos hm, if_pos hm]
    by_cases hf : f < 1099511627776
    · have := f3 hf; left; omega
    · have := f4 (by omega); right; right; omega
  · rw [if_neg hm, if_neg hm]
    by_cases hf : f < 1099511627776
    · have := f3 hf; left; omega
    · have := f4 (by omega); right; left; omega
theorem dv_cons (c : UInt8) (t : List UInt8) : dvL (c :: t) = (c.toNat - 48) * 10 ^ t.length + dvL t := by
  have := dv_app [c] t
  rw [List.singleton_append] at this
  rw [this]
  congr 2
  unfold dvL
  simp
theorem dv_low (c : UInt8) (t : List UInt8) (h : 49 ≤ c.toNat) : 10 ^ t.length ≤ dvL (c :: t) := by
  rw [dv_cons]
  have : 1 * 10 ^ t.length ≤ (c.toNat - 48) * 10 ^ t.length := Nat.mul_le_mul_right _ (by omega)
  omega
theorem dv_any (r : List UInt8) (h : Dig r) : ((r.any fun c => c != 48) = true → 0 < dvL r) ∧ ((r.any fun c => c != 48) = false → dvL r = 0) := by
  induction r with
  | nil => exact ⟨fun h => by simp at h, fun _ => rfl⟩
  | cons c r ih =>
    obtain ⟨i1, i2⟩ := ih fun x hx => h x (List.mem_cons_of_mem _ hx)
    have hc := h c (List.mem_cons_self ..)
    rw [List.any_cons, dv_cons]
    by_cases e : c = 48
    · subst e
      have e2 : ((48 : UInt8) != 48) = false := rfl
      rw [e2, Bool.false_or]
      have e3 : (48 : UInt8).toNat - 48 = 0 := rfl
      rw [e3, Nat.zero_mul, Nat.zero_add]
      exact ⟨i1, i2⟩
    · have e2 : (c != 48) = true := by simpa using e
      rw [e2, Bool.true_or]
      refine ⟨fun _ => ?_, fun h => by cases h⟩
      have hn : c.toNat ≠ 48 := fun e3 => e (UInt8.toNat_inj.1 e3)
      have : 1 * 10 ^ r.length ≤ (c.toNat - 48) * 10 ^ r.length := Nat.mul_le_mul_right _ (by omega)
      have := ten_pos r.length
      omega
/-- the digits that count begin as the others do -/
theorem saidS_form (c : UInt8) (t : List UInt8) (e : Int) (h : Dig (c :: t)) : ∃ t', (saidS (c :: t) e).1 = c :: t' ∧ Dig (c :: t') ∧ (saidS (c :: t) e).2 = ((c :: t).length : Int) + e - 1 - (t'.length : Int) := by
  have ht : ∀ n, Dig (t.take n) := fun n x hx => h x (List.mem_cons_of_mem _ (List.mem_of_mem_take hx))
  have hc := h c (List.mem_cons_self ..)
  have hcons : ∀ s, Dig s → Dig (c :: s) := fun s hs x hx => by
    rcases List.mem_cons.1 hx with rfl | hx
    · exact hc
    · exact hs x hx
  unfold saidS
  by_cases h1 : (c :: t).length ≤ 200
  · rw [if_pos h1]
    exact ⟨t, rfl, h, by simp; omega⟩
  · rw [if_neg h1]
    have hl : (t.take 199).length = 199 := by rw [List.length_take]; rw [List.length_cons] at h1; omega
    by_cases h2 : moreB (c :: t) = true
    · rw [if_pos h2]
      refine ⟨t.take 199 ++ [49], rfl, hcons _ fun x hx => ?_, ?_⟩
      · rcases List.mem_append.1 hx with hx | hx
        · exact ht 199 x hx
        · rw [List.mem_singleton.1 hx]; decide
      · rw [List.length_append, hl, List.length_singleton]
        show e + ((c :: t).length : Int) - 200 - 1 = ((c :: t).length : Int) + e - 1 - ((199 + 1 : Nat) : Int)
        omega
    · rw [if_neg h2]
      refine ⟨t.take 199, rfl, hcons _ (ht 199), ?_⟩
      rw [hl]
      show e + ((c :: t).length : Int) - 200 = ((c :: t).length : Int) + e - 1 - ((199 : Nat) : Int)
      omega
theorem tiny_S (S : List UInt8) (q : Nat) (k : Int) (h : Dig S) (hq : S.length = q + 1) (hk : k < -46) : nrst (dvL S * 10 ^ (k - q).toNat) (10 ^ (-(k - q)).toNat) = 0 := by
  have hlt := dv_lt S h
  rw [hq] at hlt
  obtain ⟨n, hn⟩ : ∃ n, (-(k - q)).toNat = (q + 1) + 46 + n := ⟨(-(k - q)).toNat - ((q + 1) + 46), by omega⟩
  rw [hn, show (k - q).toNat = 0 by omega, Nat.pow_zero, Nat.mul_one]
  refine nrst_tiny _ _ ?_
  have h1 : dvL S * 2 ^ 150 < 10 ^ (q + 1) * 2 ^ 150 := (Nat.mul_lt_mul_right (by decide)).2 hlt
  have h2 : 10 ^ (q + 1) * 2 ^ 150 ≤ 10 ^ (q + 1) * 10 ^ 46 := Nat.mul_le_mul_left _ (by decide)
  rw [← Nat.pow_add] at h2
  have h3 : 10 ^ (q + 1 + 46) * 1 ≤ 10 ^ (q + 1 + 46) * 10 ^ n := Nat.mul_le_mul_left _ (ten_pos n)
  rw [← Nat.pow_add, Nat.mul_one] at h3
  exact Nat.lt_of_lt_of_le h1 (Nat.le_trans h2 h3)
theorem huge_S (S : List UInt8) (q : Nat) (k : Int) (h : 10 ^ q ≤ dvL S) (hk : 38 < k) : nrst (dvL S * 10 ^ (k - q).toNat) (10 ^ (-(k - q)).toNat) = 2139095040 := by
  refine nrst_huge _ _ (ten_pos _) ?_
  have h1 : 10 ^ q * 10 ^ (k - q).toNat ≤ dvL S * 10 ^ (k - q).toNat := Nat.mul_le_mul_right _ h
  obtain ⟨n, hn⟩ : ∃ n, q + (k - q).toNat = 39 + n + (-(k - q)).toNat := ⟨q + (k - q).toNat - 39 - (-(k - q)).toNat, by omega⟩
  rw [← Nat.pow_add, hn, Nat.pow_add] at h1
  have h2 : 10 ^ 39 * 1 ≤ 10 ^ 39 * 10 ^ n := Nat.mul_le_mul_left _ (ten_pos n)
  rw [← Nat.pow_add, Nat.mul_one] at h2
  have h3 : (2 : Nat) ^ 128 ≤ 10 ^ (39 + n) := Nat.le_trans (by decide) h2
  exact Nat.le_trans (Nat.mul_le_mul_right _ h3) h1
/-- what counts has the nearest real of all -/
theorem same_S (F : List UInt8) (e : Int) (h : Dig F) (he : (F.length : Int) + e ≤ 50) : nrst (dvL (saidS F e).1 * 10 ^ (saidS F e).2.toNat) (10 ^ (-(saidS F e).2).toNat) = nrst (dvL F * 10 ^ e.toNat) (10 ^ (-e).toNat) := by
  unfold saidS
  by_cases h1 : F.length ≤ 200
  · rw [if_pos h1]
  · rw [if_neg h1]
    obtain ⟨d, hd⟩ : ∃ d, F.length = 200 + d := ⟨F.length - 200, by omega⟩
    have hdr : (F.drop 200).length = d := by rw [List.length_drop]; omega
    have hF : dvL F = dvL (F.take 200) * 10 ^ d + dvL (F.drop 200) := by
      have := dv_app (F.take 200) (F.drop 200)
      rwa [List.take_append_drop, hdr] at this
    have hDd : Dig (F.drop 200) := fun x hx => h x (List.mem_of_mem_drop hx)
    obtain ⟨a1, a2⟩ := dv_any _ hDd
    have hlt := dv_lt _ hDd
    rw [hdr] at hlt
    rw [hF]
    generalize hf : dvL (F.take 200) = f at *
    generalize dvL (F.drop 200) = r at *
    by_cases h2 : moreB F = true
    · rw [if_pos h2]
      have hr := a1 h2
      obtain ⟨u, hu⟩ : ∃ u : Nat, e = -((d + u : Nat) : Int) := ⟨(-e).toNat - d, by omega⟩
      have hx : e + (F.length : Int) - 200 - 1 = -((u + 1 : Nat) : Int) := by omega
      show nrst (dvL (F.take 200 ++ [49]) * 10 ^ (e + (F.length : Int) - 200 - 1).toNat) (10 ^ (-(e + (F.length : Int) - 200 - 1)).toNat) = _
      rw [hx, hu, dv_snoc, hf]
      have n1 : (-((u + 1 : Nat) : Int)).toNat = 0 := by omega
      have n2 : (-((d + u : Nat) : Int)).toNat = 0 := by omega
      rw [n1, n2, Int.neg_neg, Int.neg_neg, Int.toNat_natCast, Int.toNat_natCast, Nat.pow_zero, Nat.mul_one, Nat.mul_one, near_more f d r u hr hlt (by omega)]
      rfl
    · rw [if_neg h2]
      have hr : r = 0 := a2 (by unfold moreB at h2; simpa using h2)
      rw [hr, Nat.add_zero, scale10]
      show nrst (dvL (F.take 200) * 10 ^ (e + (F.length : Int) - 200).toNat) (10 ^ (-(e + (F.length : Int) - 200)).toNat) = _
      rw [hf, show e + (F.length : Int) - 200 = e + (d : Int) by omega]
/-- the document's number of a text -/
noncomputable def valR (l : List UInt8) : Option Nat :=
  if okL l = true then
    if 100 < ((FL l).length : Int) + eL l ∧ FL l ≠ [] then none
    else if FL l = [] ∨ ((FL l).length : Int) + eL l < -100 then some 0
    else if nrst (dvL (saidS (FL l) (eL l)).1 * 10 ^ (saidS (FL l) (eL l)).2.toNat) (10 ^ (-(saidS (FL l) (eL l)).2).toNat) < 2139095040 then some (nrst (dvL (saidS (FL l) (eL l)).1 * 10 ^ (saidS (FL l) (eL l)).2.toNat) (10 ^ (-(saidS (FL l) (eL l)).2).toNat)) else none
  else none
theorem FL_dig (l : List UInt8) (h : okL l = true) : Dig (FL l) := by
  obtain ⟨w1, _, p1, _, _⟩ := okL_form l h
  intro x hx
  have hx2 : x ∈ WL l ++ PL l := (List.dropWhile_sublist _).subset hx
  rcases List.mem_append.1 hx2 with hx2 | hx2
  · exact w1 x hx2
  · exact p1 x hx2
theorem val_same (l : List UInt8) (hl : l.length ≤ 1000000000) : valR l = valP l := by
  unfold valR valP
  by_cases hok : okL l = true
  · rw [if_pos hok, if_pos hok]
    have hke := ke l hl hok
    have hdF := FL_dig l hok
    obtain ⟨j, hj, hjl⟩ := cut_noughts (FL l)
    rw [show Lib.trimRightB (FL l) 48 = TL l from rfl] at hj hjl
    obtain ⟨z, _, hF⟩ := span48 (WL l ++ PL l)
    rw [show Lib.trimLeftB (WL l ++ PL l) 48 = FL l from rfl] at hF
    generalize eL l = e at *
    generalize kL l = k at *
    generalize FL l = F at *
    generalize TL l = T at *
    clear hok hl
    rcases hF with hF | ⟨c, t, hF, hc⟩
    · subst hF
      have hT : T = [] := List.length_eq_zero_iff.1 (by rw [List.length_nil] at hjl; omega)
      rw [if_neg (by simp), if_pos (.inl rfl)]
      unfold rowV
      rw [if_pos (.inl hT)]
    · have hF0 : F ≠ [] := by rw [hF]; simp
      have hc49 : 49 ≤ c.toNat := by
        have h1 := hdF c (by rw [hF]; exact List.mem_cons_self ..)
        have h2 : c.toNat ≠ 48 := fun e3 => hc (UInt8.toNat_inj.1 e3)
        omega
      have hT0 : T ≠ [] := by
        intro hT
        rw [hT, hF, List.nil_append] at hj
        cases j with
        | zero => simp at hj
        | succ j =>
          rw [List.replicate_succ] at hj
          exact hc (List.cons.inj hj).1.symm
      have hTp : 0 < T.length := List.length_pos_iff.2 hT0
      unfold rowV
      have hno : ∀ p : Prop, ¬ p → ¬ (F = [] ∨ p) := fun p hp h => by rcases h with h | h; exact hF0 h; exact hp h
      have hno2 : ∀ p : Prop, ¬ p → ¬ (T = [] ∨ p) := fun p hp h => by rcases h with h | h; exact hT0 h; exact hp h
      by_cases hhi : 100 < (F.length : Int) + e
      · rw [if_pos ⟨hhi, hF0⟩, if_neg (hno2 _ (by omega)), if_pos (by omega)]
      · rw [if_neg (fun h => hhi h.1)]
        by_cases hlo : (F.length : Int) + e < -100
        · rw [if_pos (.inr hlo), if_pos (.inr (by omega))]
        · rw [if_neg (hno _ hlo)]
          have hk : k + 1 = (F.length : Int) + e := by omega
          obtain ⟨t', s1, s2, s3⟩ := saidS_form c t e (by rw [← hF]; exact hdF)
          rw [← hF] at s1 s3
          have hx : (saidS F e).2 = k - (t'.length : Int) := by omega
          by_cases h46 : k < -46
          · rw [s1, hx, tiny_S (c :: t') t'.length k s2 rfl h46, if_pos (show 0 < 2139095040 by decide), if_pos (.inr h46)]
          · rw [if_neg (hno2 _ h46)]
            by_cases h38 : 38 < k
            · rw [s1, hx, huge_S (c :: t') t'.length k (dv_low c t' hc49) h38, if_neg (show ¬ 2139095040 < 2139095040 by decide), if_pos h38]
            · rw [if_neg h38, same_S F e hdF (by omega)]
              have hdv : dvL F = dvL T * 10 ^ j := by rw [← hj, dv_noughts]
              rw [hdv, scale10]
              have e1 : e + (j : Int) = k - ((T.length - 1 : Nat) : Int) := by omega
              have e2 : -(k - ((T.length - 1 : Nat) : Int)) = ((T.length - 1 : Nat) : Int) - k := by omega
              rw [e1, e2]
  · rw [if_neg hok, if_neg hok]
end Go.Proofs.YtnljpbpphdhnpaaGreatDoor
