/- What the program's Text writes, as the program's Parse takes it apart; the digits of a text as the law counts them. -/
import Derived.Test.YtnljpbpphdhnpaaGreatDoorBkM
import Derived.Test.YtnljpbpphdhnpaaGreatDoorParJ
import Derived.Test.YtnljpbpphdhnpaaGreatDoorTxR
import Derived.Test.YtnljpbpphdhnpaaGreatDoorAwK
import Derived.Test.YtnljpbpphdhnpaaGreatDoorLaidP

namespace Go.Proofs.YtnljpbpphdhnpaaGreatDoor
open Go.RowKit Go.PlainAid

/-- digits that begin and end with no nought -/
def Ends (D : List UInt8) : Prop := ∃ c0 cs, D = c0 :: cs ∧ c0 ≠ 48 ∧ ∃ E x, D = E ++ [x] ∧ x ≠ 48
theorem trim_left (D : List UInt8) (h : Ends D) (b : Nat) : ∀ a, Lib.trimLeftB (List.replicate a 48 ++ D ++ List.replicate b 48) 48 = D ++ List.replicate b 48
  | 0 => by
    obtain ⟨c0, cs, rfl, h0, _⟩ := h
    unfold Lib.trimLeftB
    rw [List.replicate_zero, List.nil_append, List.cons_append, List.dropWhile_cons_of_neg (by simpa using h0)]
  | a + 1 => by
    have ih := trim_left D h b a
    unfold Lib.trimLeftB at *
    rw [List.replicate_succ, List.cons_append, List.cons_append, List.dropWhile_cons_of_pos (by simp)]
    exact ih
theorem trim_snoc (l : List UInt8) (x : UInt8) (hx : x ≠ 48) : Lib.trimRightB (l ++ [x]) 48 = l ++ [x] := by
  unfold Lib.trimRightB
  rw [List.reverse_append, List.reverse_singleton, List.singleton_append, List.dropWhile_cons_of_neg (by simpa using hx)]
  simp
theorem trim_right (D : List UInt8) (h : Ends D) : ∀ b, Lib.trimRightB (D ++ List.replicate b 48) 48 = D
  | 0 => by
    obtain ⟨_, _, _, _, E, x, rfl, hx⟩ := h
    rw [List.replicate_zero, List.append_nil]
    exact trim_snoc E x hx
  | b + 1 => by
    rw [List.replicate_succ', ← List.append_assoc, trimR_zero]
    exact trim_right D h b
theorem form_TL (l W P D : List UInt8) (a b : Nat) (h : Ends D) (hW : WL l = W) (hP : PL l = P) (hD : W ++ P = List.replicate a 48 ++ D ++ List.replicate b 48) : TL l = D ∧ kL l = kfL l + ((W.length : Int) - 1 - a) := by
  have hF : FL l = D ++ List.replicate b 48 := by
    unfold FL
    rw [hW, hP, hD]
    exact trim_left D h b a
  refine ⟨by unfold TL; rw [hF]; exact trim_right D h b, ?_⟩
  unfold kL
  rw [hF, hW, hP, hD]
  simp only [List.length_append, List.length_replicate]
  omega
theorem itoa_far (E : Int) (h : -100 < E ∧ E < 100) : (if minL (Lib.itoa E) = true then -farL (offL (Lib.itoa E)) else farL (offL (Lib.itoa E))) = E ∧ Dig (offL (Lib.itoa E)) ∧ offL (Lib.itoa E) ≠ [] := by
  have far : ∀ u : Nat, u < 100 → farL (Lib.decDigits u) = (u : Int) := fun u hu => by
    obtain ⟨_, f2, f3⟩ := far_dv (Lib.decDigits u) (dec_digit u)
    rw [dv_dec] at f2 f3
    rcases Int.lt_or_le (farL (Lib.decDigits u)) 1099511627776 with g | g
    · exact f2 g
    · have := f3 g
      omega
  have ne : ∀ u : Nat, u < 100 → Lib.decDigits u ≠ [] := fun u hu e => by
    have := (dec_len u (by omega)).1
    rw [e] at this
    exact absurd this (by decide)
  by_cases hn : E < 0
  · have e : Lib.itoa E = 45 :: Lib.decDigits E.natAbs := by unfold Lib.itoa; rw [if_pos hn]
    obtain ⟨m1, m2⟩ := off_min (Lib.decDigits E.natAbs)
    rw [e, m1, m2, if_pos rfl, far _ (by omega)]
    exact ⟨by omega, dec_digit _, ne _ (by omega)⟩
  · have e : Lib.itoa E = Lib.decDigits E.toNat := by unfold Lib.itoa; rw [if_neg hn]
    obtain ⟨m1, m2⟩ := off_dig _ (dec_digit E.toNat)
    rw [e, m1, m2, if_neg (by decide), far _ (by omega)]
    exact ⟨by omega, dec_digit _, ne _ (by omega)⟩
theorem form_0 (W P D : List UInt8) (a b : Nat) (h : Ends D) (hW : Dig W) (hW0 : W ≠ []) (hP : Dig P) (hP0 : P ≠ []) (hD : W ++ P = List.replicate a 48 ++ D ++ List.replicate b 48) :
    okL (W ++ 46 :: P) = true ∧ TL (W ++ 46 :: P) = D ∧ kL (W ++ 46 :: P) = (W.length : Int) - 1 - a := by
  have h1 := no_e W P hW hP
  have hn : (101 : UInt8) ∉ W ++ 46 :: P := fun h => h1 101 h rfl
  obtain ⟨e1, e2⟩ := hd_none _ _ hn
  obtain ⟨e3, e4⟩ := hd_app W P 46 (dig_not W hW 46 (.inl (by decide)))
  have hw : WL (W ++ 46 :: P) = W := by unfold WL; rw [e1, e3]
  have hp : PL (W ++ 46 :: P) = P := by unfold PL; rw [e1, e4]
  obtain ⟨t1, t2⟩ := form_TL _ W P D a b h hw hp hD
  refine ⟨ok_0 W P hW hW0 hP hP0, t1, ?_⟩
  have hk : kfL (W ++ 46 :: P) = 0 := by unfold kfL XL; rw [e2]; rfl
  rw [t2, hk]
  omega
theorem form_e (W P D : List UInt8) (E : Int) (hE : -100 < E ∧ E < 100) (a b : Nat) (h : Ends D) (hW : Dig W) (hW0 : W ≠ []) (hP : Dig P) (hP0 : P ≠ []) (hD : W ++ P = List.replicate a 48 ++ D ++ List.replicate b 48) :
    okL (W ++ 46 :: (P ++ 101 :: Lib.itoa E)) = true ∧ TL (W ++ 46 :: (P ++ 101 :: Lib.itoa E)) = D ∧ kL (W ++ 46 :: (P ++ 101 :: Lib.itoa E)) = E + ((W.length : Int) - 1 - a) := by
  obtain ⟨e1, e2⟩ := e_parts W P (Lib.itoa E) hW hP
  obtain ⟨e3, e4⟩ := hd_app W P 46 (dig_not W hW 46 (.inl (by decide)))
  obtain ⟨i1, i2, i3⟩ := itoa_far E hE
  have hw : WL (W ++ 46 :: (P ++ 101 :: Lib.itoa E)) = W := by unfold WL; rw [e1, e3]
  have hp : PL (W ++ 46 :: (P ++ 101 :: Lib.itoa E)) = P := by unfold PL; rw [e1, e4]
  obtain ⟨t1, t2⟩ := form_TL _ W P D a b h hw hp hD
  refine ⟨ok_e W P _ hW hW0 hP hP0 i2 i3, t1, ?_⟩
  have hk : kfL (W ++ 46 :: (P ++ 101 :: Lib.itoa E)) = E := by unfold kfL XL; rw [e2]; exact i1
  rw [t2, hk]
theorem dig_rep (k : Nat) : Dig (List.replicate k 48) := fun c hc => by
  rw [(List.mem_replicate.1 hc).2]
  decide
theorem dig_app {A B : List UInt8} (hA : Dig A) (hB : Dig B) : Dig (A ++ B) := fun c hc => by
  rcases List.mem_append.1 hc with h | h
  · exact hA c h
  · exact hB c h
theorem dig_sub {A B : List UInt8} (hB : Dig B) (h : A.Sublist B) : Dig A := fun c hc => hB c (h.subset hc)
/-- what is written of a float above 0 is read as its digits, at its power -/
theorem textB_is (n : Nat) (h1 : 1 ≤ n) (h2 : n < 2139095040) : okL (textB n) = true ∧ TL (textB n) = digs n ∧ kL (textB n) = exF n := by
  have hE : Ends (digs n) := digs_ends n h1 h2
  have hd : Dig (digs n) := digs_is n h1 h2
  have hx := exF_bounds n h1 h2
  have hl := digs_len n h1 h2
  have hb := ndF_le n h1 h2
  unfold textB
  generalize digs n = D at *
  have hp : 1 ≤ D.length := by omega
  split
  · have hW0 : D.take 1 ≠ [] := List.ne_nil_of_length_pos (by rw [List.length_take]; omega)
    have key : okL (D.take 1 ++ 46 :: (orB (D.drop 1) ++ 101 :: Lib.itoa (exF n))) = true ∧ TL (D.take 1 ++ 46 :: (orB (D.drop 1) ++ 101 :: Lib.itoa (exF n))) = D ∧ kL (D.take 1 ++ 46 :: (orB (D.drop 1) ++ 101 :: Lib.itoa (exF n))) = exF n + (((D.take 1).length : Int) - 1 - (0 : Nat)) := by
      by_cases h0 : D.drop 1 = []
      · have e : orB (D.drop 1) = [48] := by unfold orB; rw [if_pos h0]
        have e1 : D.take 1 = D := by
          have := List.take_append_drop 1 D
          rw [h0, List.append_nil] at this
          exact this
        refine form_e _ _ D (exF n) hx 0 1 hE (dig_sub hd (List.take_sublist 1 D)) hW0 ?_ ?_ ?_
        · rw [e]; exact dig_rep 1
        · rw [e]; simp
        · rw [e, e1]; rfl
      · have e : orB (D.drop 1) = D.drop 1 := by unfold orB; rw [if_neg h0]
        refine form_e _ _ D (exF n) hx 0 0 hE (dig_sub hd (List.take_sublist 1 D)) hW0 ?_ ?_ ?_
        · rw [e]; exact dig_sub hd (List.drop_sublist 1 D)
        · rw [e]; exact h0
        · rw [e, List.take_append_drop]; simp
    obtain ⟨k1, k2, k3⟩ := key
    have e : D.take 1 ++ [46] ++ orB (D.drop 1) ++ [101] ++ Lib.itoa (exF n) = D.take 1 ++ 46 :: (orB (D.drop 1) ++ 101 :: Lib.itoa (exF n)) := by simp
    rw [e]
    refine ⟨k1, k2, ?_⟩
    rw [k3, List.length_take]
    omega
  · rename_i hr
    unfold plainB
    split
    · rename_i hk
      have key := form_0 [48] (List.replicate (-exF n - 1).toNat 48 ++ D) D ((-exF n - 1).toNat + 1) 0 hE (dig_rep 1) (by simp) (dig_app (dig_rep _) hd) (List.ne_nil_of_length_pos (by rw [List.length_append]; omega)) (by
        rw [List.replicate_succ]
        simp)
      have e : [48, 46] ++ List.replicate (-exF n - 1).toNat 48 ++ D = [48] ++ 46 :: (List.replicate (-exF n - 1).toNat 48 ++ D) := by simp
      rw [e]
      obtain ⟨k1, k2, k3⟩ := key
      refine ⟨k1, k2, ?_⟩
      rw [k3, List.length_singleton]
      omega
    · rename_i hk
      split
      · rename_i hk2
        have key := form_0 (D ++ List.replicate (exF n + 1 - D.length).toNat 48) [48] D 0 ((exF n + 1 - D.length).toNat + 1) hE (dig_app hd (dig_rep _)) (List.ne_nil_of_length_pos (by rw [List.length_append]; omega)) (dig_rep 1) (by simp) (by
          rw [List.replicate_succ']
          simp)
        have e : D ++ List.replicate (exF n + 1 - D.length).toNat 48 ++ [46, 48] = (D ++ List.replicate (exF n + 1 - D.length).toNat 48) ++ 46 :: [48] := by simp
        rw [e]
        obtain ⟨k1, k2, k3⟩ := key
        refine ⟨k1, k2, ?_⟩
        rw [k3, List.length_append, List.length_replicate]
        omega
      · rename_i hk2
        have key := form_0 (D.take (exF n + 1).toNat) (D.drop (exF n + 1).toNat) D 0 0 hE (dig_sub hd (List.take_sublist _ D)) (List.ne_nil_of_length_pos (by rw [List.length_take]; omega)) (dig_sub hd (List.drop_sublist _ D)) (List.ne_nil_of_length_pos (by rw [List.length_drop]; omega)) (by rw [List.take_append_drop]; simp)
        have e : D.take (exF n + 1).toNat ++ [46] ++ D.drop (exF n + 1).toNat = D.take (exF n + 1).toNat ++ 46 :: D.drop (exF n + 1).toNat := by simp
        rw [e]
        obtain ⟨k1, k2, k3⟩ := key
        refine ⟨k1, k2, ?_⟩
        rw [k3, List.length_take]
        omega
/-- one sign more, as the law counts: where the first digit above 0 stands, where the last, how many digits -/
def dgS (s : Int × Int × Int) (c : Int) : Int × Int × Int :=
  if c < 48 ∨ 57 < c then s else (if 48 < c ∧ s.1 < 0 then s.2.2 else s.1, if 48 < c then s.2.2 else s.2.1, s.2.2 + 1)
def dgR (l : List UInt8) : Int × Int × Int := l.foldl (fun s c => dgS s (c.toNat : Int)) (-1, -1, 0)
def dgN (l : List UInt8) : Int := if (dgR (hdL l 101)).1 < 0 then 0 else (dgR (hdL l 101)).2.1 - (dgR (hdL l 101)).1 + 1
theorem dgR_snoc (l : List UInt8) (c : UInt8) : dgR (l ++ [c]) = dgS (dgR l) (c.toNat : Int) := by
  unfold dgR; rw [List.foldl_append]; rfl
theorem right_nil (D : List UInt8) : Lib.trimRightB (Lib.trimLeftB D 48) 48 = [] ↔ Lib.trimLeftB D 48 = [] := by
  constructor
  · intro h
    obtain ⟨j, hj, _⟩ := cut_noughts (Lib.trimLeftB D 48)
    rw [h, List.nil_append] at hj
    cases j with
    | zero => exact hj.symm
    | succ j =>
      rw [List.replicate_succ] at hj
      have := drop_head _ D 48 _ hj.symm
      simp at this
  · intro h
    rw [h]
    rfl
theorem left_snoc (D : List UInt8) (c : UInt8) : Lib.trimLeftB (D ++ [c]) 48 = if Lib.trimLeftB D 48 = [] then (if c = 48 then [] else [c]) else Lib.trimLeftB D 48 ++ [c] := by
  unfold Lib.trimLeftB
  rw [List.dropWhile_append]
  by_cases h : D.dropWhile (· == 48) = []
  · rw [if_pos h, if_pos (by rw [h]; rfl)]
    by_cases hc : c = 48
    · rw [if_pos hc, hc]; rfl
    · rw [if_neg hc, List.dropWhile_cons_of_neg (by simpa using hc)]
  · rw [if_neg h, if_neg (by simpa using h)]
theorem dgR_is (D : List UInt8) (hD : Dig D) : dgR D = if Lib.trimLeftB D 48 = [] then (-1, -1, (D.length : Int)) else
    ((D.length : Int) - (Lib.trimLeftB D 48).length, (D.length : Int) - (Lib.trimLeftB D 48).length + (Lib.trimRightB (Lib.trimLeftB D 48) 48).length - 1, (D.length : Int)) := by
  suffices ∀ m : List UInt8, Dig m → dgR m.reverse = if Lib.trimLeftB m.reverse 48 = [] then (-1, -1, (m.reverse.length : Int)) else
    ((m.reverse.length : Int) - (Lib.trimLeftB m.reverse 48).length, (m.reverse.length : Int) - (Lib.trimLeftB m.reverse 48).length + (Lib.trimRightB (Lib.trimLeftB m.reverse 48) 48).length - 1, (m.reverse.length : Int)) by
    have h := this D.reverse (fun c hc => hD c (List.mem_reverse.1 hc))
    rwa [List.reverse_reverse] at h
  intro m
  induction m with
  | nil => intro _; rfl
  | cons c m ih =>
    intro hm
    have ih := ih fun x hx => hm x (List.mem_cons_of_mem _ hx)
    have hc := hm c (List.mem_cons_self ..)
    rw [List.reverse_cons, dgR_snoc, ih, left_snoc]
    generalize m.reverse = D at *
    have hlen : (Lib.trimLeftB D 48).length ≤ D.length := trimL_len D 48
    by_cases hF : Lib.trimLeftB D 48 = []
    · rw [if_pos hF, if_pos hF]
      by_cases h48 : c = 48
      · rw [if_pos h48, if_pos rfl, h48]
        unfold dgS
        simp
      · have : c.toNat ≠ 48 := fun e => h48 (UInt8.toNat_inj.1 e)
        rw [if_neg h48, if_neg (by simp)]
        have e : Lib.trimRightB [c] 48 = [c] := trim_snoc [] c h48
        rw [e]
        unfold dgS
        rw [if_neg (by omega), if_pos (by first | omega | (simp only; omega) | decide), if_pos (by omega)]
        simp
    · rw [if_neg hF, if_neg hF, if_neg (by simp)]
      by_cases h48 : c = 48
      · rw [h48, trimR_zero]
        unfold dgS
        simp only [List.length_append, List.length_singleton]
        rw [if_neg (by decide), if_neg (by first | omega | (simp only; omega) | decide), if_neg (by decide)]
        simp only [Prod.mk.injEq]
        refine ⟨by omega, by omega, by omega⟩
      · have : c.toNat ≠ 48 := fun e => h48 (UInt8.toNat_inj.1 e)
        rw [trim_snoc _ c h48]
        unfold dgS
        simp only [List.length_append, List.length_singleton]
        rw [if_neg (by omega), if_neg (by first | omega | (simp only; omega) | decide), if_pos (by omega)]
        simp only [Prod.mk.injEq]
        refine ⟨by omega, by omega, by omega⟩
theorem dgR_skip (A B : List UInt8) (c : UInt8) (h : c.toNat < 48) : dgR (A ++ c :: B) = dgR (A ++ B) := by
  unfold dgR
  rw [List.foldl_append, List.foldl_append, List.foldl_cons]
  congr 1
  unfold dgS
  rw [if_pos (by omega)]
/-- the law's number of digits of a text that is a real's -/
theorem dgN_ok (l : List UInt8) (h : okL (offL l) = true) : dgN l = ((TL (offL l)).length : Int) := by
  obtain ⟨hW, hW0, hP, hP0, _⟩ := okL_form _ h
  have ho := h
  unfold okL at ho
  simp only [Bool.and_eq_true, Bool.or_eq_true, Bool.not_eq_true', decide_eq_false_iff_not, decide_eq_true_eq] at ho
  have e1 : hdL (offL l) 101 = WL (offL l) ++ 46 :: PL (offL l) := (hd_tl (hdL (offL l) 101) 46 ho.1.1.1).1
  have e2 : dgR (hdL l 101) = dgR (hdL (offL l) 101) := by
    cases hm : minL l with
    | false =>
      have : offL l = l := by unfold offL; rw [hm]; simp
      rw [this]
    | true =>
      have e := min_form l hm
      have : hdL l 101 = [] ++ 45 :: hdL (offL l) 101 := by
        conv => lhs; rw [e]
        unfold hdL
        rw [List.takeWhile_cons_of_pos (by decide)]
        rfl
      rw [this, dgR_skip _ _ _ (by decide)]
      rfl
  have e3 : dgR (hdL l 101) = dgR (WL (offL l) ++ PL (offL l)) := by
    rw [e2, e1, dgR_skip _ _ _ (by decide)]
  have e4 := dgR_is _ (dig_app hW hP)
  have hlen := trimL_len (WL (offL l) ++ PL (offL l)) 48
  unfold dgN
  rw [e3, e4]
  unfold TL FL
  by_cases hF : Lib.trimLeftB (WL (offL l) ++ PL (offL l)) 48 = []
  · rw [if_pos hF, if_pos (show (-1 : Int) < 0 by decide), hF]
    rfl
  · rw [if_neg hF, if_neg (by first | omega | (simp only; omega) | decide)]
    simp only
    omega
end Go.Proofs.YtnljpbpphdhnpaaGreatDoor

/- The law's digits: its walk, of any text. -/
namespace Go.Proofs.YtnljpbpphdhnpaaGreatDoor
open Go.RowKit Go.PlainAid

set_option maxRecDepth 1000000 in
set_option maxHeartbeats 2000000 in
theorem digits_run (s : ByteArray) (K : Nat) (S : Nat → Int × Int × Int) (w : World) (hs : s.size ≤ 1099511627776) (hK : K ≤ s.size) (h1 : ∀ k, k < K → bt s k ≠ 101) (h2 : K < s.size → bt s K = 101) (h0 : S 0 = (-1, -1, 0))
    (hS : ∀ k, k < K → S (k + 1) = dgS (S k) (bt s k)) (hb : ∀ k, k ≤ K → (-1 ≤ (S k).1 ∧ (S k).1 ≤ k) ∧ (-1 ≤ (S k).2.1 ∧ (S k).2.1 ≤ k) ∧ 0 ≤ (S k).2.2 ∧ (S k).2.2 ≤ k) :
    ∀ r : Int, r = (if (S K).1 < 0 then 0 else (S K).2.1 - (S K).1 + 1) → Calls Tryz.prog 13 #[.string s] w fun e w' => e = .returned (.int .i64 r) ∧ w' = w := by
  intro r hr
  have HX : Hid (r = (if (S K).1 < 0 then 0 else (S K).2.1 - (S K).1 + 1)) := hr
  clear hr
  have HG : Hid (∀ i (h : i < s.size), ((s[i]'h).toNat : Int) = bt s i) := get_bt s
  have HR : Hid (∀ k, 0 ≤ bt s k ∧ bt s k < 256) := fun k => ⟨bt_nonneg s k, by have := bt_le s k; omega⟩
  have H1 : Hid (∀ k, k < K → bt s k ≠ 101) := h1
  have H2 : Hid (K < s.size → bt s K = 101) := h2
  have HS : Hid (∀ k, k < K → S (k + 1) = dgS (S k) (bt s k)) := hS
  have HB : Hid (∀ k, k ≤ K → (-1 ≤ (S k).1 ∧ (S k).1 ≤ k) ∧ (-1 ≤ (S k).2.1 ∧ (S k).2.1 ≤ k) ∧ 0 ≤ (S k).2.2 ∧ (S k).2.2 ≤ k) := hb
  have H0 : Hid (S 0 = (-1, -1, 0)) := h0
  clear h1 h2 hS hb h0
  go_enter Tryz.func13, Tryz.ntmps13
  go_wp2
  go_loop [3, 4, 5, 6] (fun f l n i => ∃ j : Nat, j ≤ K ∧ i = .int .i64 j ∧ f = .int .i64 (S j).1 ∧ l = .int .i64 (S j).2.1 ∧ n = .int .i64 (S j).2.2) (fun _ _ _ i => s.size - (intOf i).toNat)
  case atStart => exact ⟨0, Nat.zero_le _, rfl, by rw [H0.out], by rw [H0.out], by rw [H0.out]⟩
  case round =>
    obtain ⟨j, hj, rfl, rfl, rfl, rfl⟩ := hrel
    obtain ⟨⟨b1, b2⟩, ⟨b3, b4⟩, b5, b6⟩ := HB.out j hj
    by_cases hjl : j < K
    · have hjs : j < s.size := Nat.lt_of_lt_of_le hjl hK
      have hji : (j : Int) < (s.size : Int) := by omega
      have gj : ((s[j]'hjs).toNat : Int) = bt s j := HG.out j hjs
      have hne : bt s j ≠ 101 := H1.out j hjl
      obtain ⟨r1, r2⟩ := HR.out j
      have HN : Hid (S (j + 1) = dgS (S j) (bt s j)) := HS.out j hjl
      generalize bt s j = c at *
      generalize S j = p at *
      obtain ⟨f, l, n⟩ := p
      simp only at b1 b2 b3 b4 b5 b6
      by_cases hlo : c < 48
      · have HN2 : Hid (S (j + 1) = (f, l, n)) := by show _ = _; rw [HN.out]; unfold dgS; rw [if_pos (.inl hlo)]
        clear HN
        go_wp2
        go_round
        case rel => exact ⟨j + 1, by omega, by go_num, by rw [HN2.out], by rw [HN2.out], by rw [HN2.out]⟩
        case measure => simp [intOf]; omega
      · by_cases hhi : 57 < c
        · have HN2 : Hid (S (j + 1) = (f, l, n)) := by show _ = _; rw [HN.out]; unfold dgS; rw [if_pos (.inr hhi)]
          clear HN
          go_wp2
          go_round
          case rel => exact ⟨j + 1, by omega, by go_num, by rw [HN2.out], by rw [HN2.out], by rw [HN2.out]⟩
          case measure => simp [intOf]; omega
        · by_cases h48 : 48 < c
          · by_cases hf : f < 0
            · have HN2 : Hid (S (j + 1) = (n, n, n + 1)) := by
                show _ = _
                rw [HN.out]
                unfold dgS
                rw [if_neg (by omega), if_pos ⟨h48, hf⟩, if_pos h48]
              clear HN
              go_wp2
              go_round
              case rel => exact ⟨j + 1, by omega, by go_num, by rw [HN2.out], by rw [HN2.out], by rw [HN2.out]⟩
              case measure => simp [intOf]; omega
            · have HN2 : Hid (S (j + 1) = (f, n, n + 1)) := by
                show _ = _
                rw [HN.out]
                unfold dgS
                rw [if_neg (by omega), if_neg (fun h => hf h.2), if_pos h48]
              clear HN
              go_wp2
              go_round
              case rel => exact ⟨j + 1, by omega, by go_num, by rw [HN2.out], by rw [HN2.out], by rw [HN2.out]⟩
              case measure => simp [intOf]; omega
          · have HN2 : Hid (S (j + 1) = (f, l, n + 1)) := by
              show _ = _
              rw [HN.out]
              unfold dgS
              rw [if_neg (by omega), if_neg (fun h => h48 h.1), if_neg h48]
            clear HN
            go_wp2
            go_round
            case rel => exact ⟨j + 1, by omega, by go_num, by rw [HN2.out], by rw [HN2.out], by rw [HN2.out]⟩
            case measure => simp [intOf]; omega
    · obtain rfl : j = K := by omega
      generalize hp : S j = p at *
      obtain ⟨f, l, n⟩ := p
      simp only at b1 b2 b3 b4 b5 b6
      have HP : Hid (S j = (f, l, n)) := hp
      clear hp
      by_cases hjs : j < s.size
      · have hji : (j : Int) < (s.size : Int) := by omega
        have gj : ((s[j]'hjs).toNat : Int) = bt s j := HG.out j hjs
        have he := H2.out hjs
        rw [he] at gj
        by_cases hf : f < 0
        · go_wp2
          go_ret
          exact ⟨by rw [HX.out, if_pos hf]; rfl, rfl⟩
        · go_wp2
          go_ret
          exact ⟨by rw [HX.out, if_neg (by omega)]; first | rfl | go_num, rfl⟩
      · have hji : ¬ (j : Int) < (s.size : Int) := by omega
        by_cases hf : f < 0
        · go_wp2
          go_ret
          exact ⟨by rw [HX.out, if_pos hf]; rfl, rfl⟩
        · go_wp2
          go_ret
          exact ⟨by rw [HX.out, if_neg (by omega)]; first | rfl | go_num, rfl⟩
theorem dgR_bounds (l : List UInt8) : ∀ k, k ≤ l.length → (-1 ≤ (dgR (l.take k)).1 ∧ (dgR (l.take k)).1 ≤ k) ∧ (-1 ≤ (dgR (l.take k)).2.1 ∧ (dgR (l.take k)).2.1 ≤ k) ∧ 0 ≤ (dgR (l.take k)).2.2 ∧ (dgR (l.take k)).2.2 ≤ k := by
  intro k
  induction k with
  | zero => intro _; rw [List.take_zero]; decide
  | succ k ih =>
    intro hk
    have ih := ih (by omega)
    rw [List.take_succ_eq_append_getElem (by omega), dgR_snoc]
    generalize dgR (l.take k) = p at *
    obtain ⟨f, m, n⟩ := p
    unfold dgS
    split
    · refine ⟨⟨ih.1.1, ?_⟩, ⟨ih.2.1.1, ?_⟩, ih.2.2.1, ?_⟩
      · have := ih.1.2; omega
      · have := ih.2.1.2; omega
      · have := ih.2.2.2; omega
    · obtain ⟨⟨i1, i2⟩, ⟨i3, i4⟩, i5, i6⟩ := ih
      have a1 : -1 ≤ f := i1
      have a2 : f ≤ k := i2
      have a3 : -1 ≤ m := i3
      have a4 : m ≤ k := i4
      have a5 : 0 ≤ n := i5
      have a6 : n ≤ k := i6
      refine ⟨?_, ?_, ?_⟩
      · show -1 ≤ (if _ then n else f) ∧ (if _ then n else f) ≤ ((k + 1 : Nat) : Int)
        split <;> omega
      · show -1 ≤ (if _ then n else m) ∧ (if _ then n else m) ≤ ((k + 1 : Nat) : Int)
        split <;> omega
      · show 0 ≤ n + 1 ∧ n + 1 ≤ ((k + 1 : Nat) : Int)
        omega
theorem digits_law (l : List UInt8) (hl : l.length ≤ 1099511627776) (w : World) : Calls Tryz.prog 13 #[.string (bl l)] w fun e w' => e = .returned (.int .i64 (dgN l)) ∧ w' = w := by
  have hpre : ∃ r, l = hdL l 101 ++ r ∧ (r = [] ∨ ∃ t, r = 101 :: t) := by
    by_cases h : (101 : UInt8) ∈ l
    · exact ⟨_, (hd_tl l 101 h).1, .inr ⟨_, rfl⟩⟩
    · exact ⟨[], by rw [(hd_none l 101 h).1, List.append_nil], .inl rfl⟩
  have hne : ∀ x ∈ hdL l 101, x ≠ 101 := fun x hx => by
    unfold hdL at hx
    have := List.all_takeWhile (p := fun x : UInt8 => x != 101) (l := l)
    have := List.all_eq_true.1 this x hx
    simpa using this
  obtain ⟨r, hr, hr2⟩ := hpre
  generalize hA : hdL l 101 = A at *
  have hAl : A.length ≤ l.length := by rw [hr, List.length_append]; omega
  have hrun := digits_run (bl l) A.length (fun k => dgR (A.take k)) w (by rw [bl_size]; exact hl) (by rw [bl_size]; exact hAl) (fun k hk e => by
      rw [bl_bt _ k (by omega)] at e
      have e2 : l[k]'(by omega) = A[k] := by
        have : l[k]? = some A[k] := by rw [hr, List.getElem?_append_left hk, List.getElem?_eq_getElem hk]
        rw [List.getElem?_eq_getElem (by omega)] at this
        exact Option.some.inj this
      rw [e2] at e
      exact hne A[k] (List.getElem_mem hk) (UInt8.toNat_inj.1 (by simpa using (show (A[k].toNat) = 101 by omega)))) (fun hk => by
      rcases hr2 with rfl | ⟨t, rfl⟩
      · rw [bl_size, hr, List.append_nil] at hk
        omega
      · rw [hr, bt_at]
        rfl) rfl (fun k hk => by
      have e2 : bt (bl l) k = (A[k].toNat : Int) := by
        have h3 : k < l.length := by omega
        rw [bl_bt _ k h3]
        have : l[k]? = some A[k] := by rw [hr, List.getElem?_append_left hk, List.getElem?_eq_getElem hk]
        rw [List.getElem?_eq_getElem h3] at this
        rw [Option.some.inj this]
      show dgR (A.take (k + 1)) = dgS (dgR (A.take k)) _
      rw [List.take_succ_eq_append_getElem hk, dgR_snoc, e2]) (fun k hk => dgR_bounds A k hk)
  refine hrun _ ?_
  unfold dgN
  rw [hA, List.take_length]
end Go.Proofs.YtnljpbpphdhnpaaGreatDoor

/- RealsBack: a float's text is read as it; what is read as it has no fewer digits; the law's walk. -/
namespace Go.Proofs.YtnljpbpphdhnpaaGreatDoor
open Go.RowKit Go.PlainAid

theorem fin_negN (x : Nat) (h : x < 4294967296) : negN (negN x) = x ∧ negN x < 4294967296 ∧ rungN (negN x) = rungN x ∧ svalZ (negN x) = -svalZ x ∧ ((x / 2147483648 % 2 == 1) && (negN x / 2147483648 % 2 == 1)) = false := by
  by_cases hx : 2147483648 ≤ x
  · have e : negN x = x - 2147483648 := by unfold negN; rw [if_pos hx]
    have hr : rungN (x - 2147483648) = rungN x := by unfold rungN; omega
    rw [e]
    refine ⟨by unfold negN; rw [if_neg (by omega)]; omega, by omega, hr, ?_, ?_⟩
    · unfold svalZ
      rw [hr, if_neg (by omega), if_pos (by omega)]
      omega
    · rw [show (x - 2147483648) / 2147483648 = 0 by omega]
      simp
  · have e : negN x = x + 2147483648 := by unfold negN; rw [if_neg hx]
    have hr : rungN (x + 2147483648) = rungN x := by unfold rungN; omega
    rw [e]
    refine ⟨by unfold negN; rw [if_pos (by omega)]; omega, by omega, hr, ?_, ?_⟩
    · unfold svalZ
      rw [hr, if_pos (by omega), if_neg (by omega)]
    · rw [show x / 2147483648 = 0 by omega]
      simp
theorem sub_self (x : Nat) (h : x < 4294967296) (hf : rungN x < 2139095040) : floatBits .sub .f32 x x = some 0 := by
  obtain ⟨h1, h2, h3, h4, h5⟩ := fin_negN x h
  show Ieee.single.sub x x = some 0
  have e := sub_neg x (negN x) h2
  rw [h1] at e
  rw [e, add_num x (negN x) hf (by rw [h3]; exact hf), h4, show svalZ x + -svalZ x = 0 by omega, if_pos rfl, h5]
  decide
/-- which real is the same as one that is a number -/
theorem same_is (x R : Nat) (hx : x < 4294967296) (hR : R < 4294967296) (hn : nanB R = false) (h : sameR x R = true) : x = R := by
  unfold sameR at h
  rw [hn] at h
  simp only [Bool.and_false, Bool.false_or, Bool.and_eq_true, beq_iff_eq] at h
  obtain ⟨he, hb⟩ := h
  unfold eqB at he
  simp only [Bool.and_eq_true, Bool.not_eq_true', decide_eq_true_eq] at he
  obtain ⟨⟨h1, _⟩, h3⟩ := he
  unfold belowB at hb
  rw [h1, hn] at hb
  simp only [Bool.not_false, Bool.true_and, decide_eq_decide] at hb
  have hv : valN (rungN x) = valN (rungN R) := by
    unfold svalZ at h3
    split at h3 <;> split at h3 <;> omega
  have hr : rungN x = rungN R := by
    rcases Nat.lt_trichotomy (rungN x) (rungN R) with g | g | g
    · have := valN_lt g
      omega
    · exact g
    · have := valN_lt g
      omega
  unfold rungN at hr
  omega
theorem same_self (x : Nat) : sameR x x = true := by
  unfold sameR eqB
  cases nanB x <;> simp
theorem same_nan (x y : Nat) (h1 : nanB x = true) (h2 : nanB y = true) : sameR x y = true := by
  unfold sameR
  rw [h1, h2]
  rfl
/-- where a float's digits begin -/
theorem exF_range (n : Nat) (h1 : 1 ≤ n) (h2 : n < 2139095040) : -46 ≤ exF n ∧ exF n ≤ 38 := by
  obtain ⟨q, s, P, hI, hl, _⟩ := fewest_is n h1 h2
  obtain ⟨_, e2⟩ := isD_told n q s P h1 h2 hI
  obtain ⟨i1, i2, i3, _, _⟩ := hI
  obtain ⟨l1, l2⟩ := hl
  have hQ := Q60_pos
  have a1 : 1 * Q60 ≤ valN n * Q60 := Nat.mul_le_mul_right _ (valN_pos h1)
  have a2 : valN n ≤ valN 2139095040 := Nat.le_of_lt (valN_lt h2)
  have a3 : valN (n + 1) ≤ valN 2139095040 := by
    rcases Nat.lt_or_ge (n + 1) 2139095040 with g | g
    · exact Nat.le_of_lt (valN_lt g)
    · rw [show n + 1 = 2139095040 by omega]; exact Nat.le_refl _
  have a4 : h2N n ≤ (2 * valN 2139095040) * Q60 := by
    unfold h2N
    exact Nat.mul_le_mul_right _ (by omega)
  have a5 : Q60 ≤ l2N n := by
    unfold l2N
    rw [Nat.add_mul]
    omega
  have t1 : tP (P + (s - 1)) ≤ q * tP P := by rw [tP_add]; exact Nat.mul_le_mul_right _ i2
  have t2 : q * tP P < tP (P + s) := by rw [tP_add]; exact Nat.mul_lt_mul_of_pos_right i3 (tP_pos P)
  have b1 : tP (P + (s - 1)) ≤ valN 2139095040 * Q60 := by
    rw [Nat.mul_assoc] at a4
    omega
  have b2 : Q60 < 2 * tP (P + s) := by omega
  have c1 : tP (P + (s - 1)) < tP 99 := Nat.lt_of_le_of_lt b1 (by unfold tP valN Q60; decide +kernel)
  have c2 : tP 14 < tP (P + s) := by
    have : 2 * tP 14 < Q60 := by unfold tP Q60; decide +kernel
    omega
  have d1 := tP_lt c1
  have d2 := tP_lt c2
  omega
/-- a float above 0 is read of its text -/
theorem val_back (n : Nat) (h1 : 1 ≤ n) (h2 : n < 2139095040) : valP (textB n) = some n := by
  obtain ⟨o1, o2, o3⟩ := textB_is n h1 h2
  obtain ⟨r1, r2⟩ := exF_range n h1 h2
  have hne : digs n ≠ [] := fun e => by
    have := digs_len n h1 h2
    have := ndF_le n h1 h2
    rw [e] at *
    simp at *
    omega
  have hb : nrst (dvL (digs n) * 10 ^ (exF n - (((digs n).length - 1 : Nat) : Int)).toNat) (10 ^ ((((digs n).length - 1 : Nat) : Int) - exF n).toNat) = n := back_is n h1 h2
  unfold valP
  rw [if_pos o1, o2, o3]
  unfold rowV
  rw [if_neg (by intro h; rcases h with h | h; exact hne h; omega), if_neg (by omega), hb, if_pos h2]
theorem valU (n : Nat) (h2 : n < 2139095040) : okL (textU n) = true ∧ valP (textU n) = some n ∧ (TL (textU n)).length = if n = 0 then 0 else (digs n).length := by
  by_cases h0 : n = 0
  · subst h0
    have e : textU 0 = [48, 46, 48] := rfl
    have o : okL [48, 46, 48] = true := by decide
    have t : TL [48, 46, 48] = [] := by decide
    rw [e]
    refine ⟨o, ?_, by rw [t]; rfl⟩
    unfold valP
    rw [if_pos o, t]
    unfold rowV
    rw [if_pos (.inl rfl)]
  · have e : textU n = textB n := by unfold textU; rw [if_neg h0, if_neg (by omega)]
    obtain ⟨o1, o2, _⟩ := textB_is n (by omega) h2
    rw [e, if_neg h0, o2]
    exact ⟨o1, val_back n (by omega) h2, rfl⟩
theorem ok_inf : okL [105, 110, 102] = false := by decide
theorem ok_nan : okL [110, 97, 110] = false := by decide
/-- what a text of a number that is finite looks like -/
theorem ok_head (l : List UInt8) (h : okL l = true) : minL l = false ∧ offL l = l := by
  obtain ⟨hW, hW0, _, _, hf⟩ := okL_form l h
  have hm : minL l = false := by
    cases hw : WL l with
    | nil => exact absurd hw hW0
    | cons c cs =>
      have hc := hW c (by rw [hw]; exact List.mem_cons_self ..)
      have : ∃ t, l = c :: t := by
        rcases hf with ⟨_, e⟩ | ⟨_, _, _, ⟨_, e⟩ | ⟨_, e⟩⟩
        all_goals
          rw [hw, List.cons_append] at e
          exact ⟨_, e⟩
      obtain ⟨t, rfl⟩ := this
      have : c ≠ 45 := fun e => by rw [e] at hc; exact absurd hc.1 (by decide)
      unfold minL
      simpa using this
  refine ⟨hm, ?_⟩
  unfold offL
  rw [hm]
  simp
/-- the text of a real is read as the same real -/
theorem text_back (x : Nat) (hx : x < 4294967296) : ∃ R, parseP (textR x) = some R ∧ R < 4294967296 ∧ sameR x R = true ∧ (rungN x < 2139095040 → okL (offL (textR x)) = true ∧ (TL (offL (textR x))).length = if rungN x = 0 then 0 else (digs (rungN x)).length) := by
  by_cases hn : nanB x = true
  · have e : textR x = [110, 97, 110] := by unfold textR; rw [if_pos hn]
    rw [e]
    refine ⟨2143289344, by unfold parseP; rw [if_pos rfl], by decide, same_nan _ _ hn (by decide), fun h => ?_⟩
    unfold nanB at hn
    have := of_decide_eq_true hn
    unfold rungN at h
    omega
  · have hn0 : nanB x = false := by simpa using hn
    have hle : x % 2147483648 ≤ 2139095040 := by
      unfold nanB at hn0
      have := of_decide_eq_false hn0
      omega
    by_cases hb : belowB x = true
    · have hx31 : 2147483648 ≤ x := by
        unfold belowB at hb
        simp at hb
        omega
      have e : textR x = 45 :: textU (x - 2147483648) := by unfold textR; rw [if_neg hn, if_pos hb]
      have hr : rungN x = x - 2147483648 := by unfold rungN; omega
      rw [e, hr]
      obtain ⟨m1, m2⟩ := off_min (textU (x - 2147483648))
      refine ⟨x, ?_, hx, same_self x, fun h => ?_⟩
      · unfold parseP
        rw [m1, m2, if_neg (fun h => by have := List.head_eq_of_cons_eq h; simp at this)]
        by_cases hi : x - 2147483648 = 2139095040
        · have : textU (x - 2147483648) = [105, 110, 102] := by rw [hi]; rfl
          rw [this, if_pos rfl, if_pos rfl, show x = 4286578688 by omega]
        · obtain ⟨v1, v2, _⟩ := valU (x - 2147483648) (by omega)
          rw [if_neg (fun h => by rw [h, ok_inf] at v1; cases v1), v2]
          show some (x - 2147483648 + 2147483648) = some x
          exact congrArg some (by omega)
      · obtain ⟨v1, _, v3⟩ := valU (x - 2147483648) h
        rw [m2]
        exact ⟨v1, v3⟩
    · have hb0 : belowB x = false := by simpa using hb
      have hx31 : x < 2147483648 := by
        unfold belowB at hb0
        rw [hn0] at hb0
        simp at hb0
        omega
      have e : textR x = textU x := by unfold textR; rw [if_neg hn, if_neg hb]
      have hr : rungN x = x := by unfold rungN; omega
      rw [e, hr]
      refine ⟨x, ?_, hx, same_self x, fun h => ?_⟩
      · by_cases hi : x = 2139095040
        · subst hi
          rfl
        · obtain ⟨v1, v2, _⟩ := valU x (by omega)
          obtain ⟨m1, m2⟩ := ok_head _ v1
          unfold parseP
          rw [m1, m2, if_neg (fun h => by rw [h, ok_nan] at v1; cases v1), if_neg (fun h => by rw [h, ok_inf] at v1; cases v1), v2]
          simp
      · obtain ⟨v1, _, v3⟩ := valU x h
        obtain ⟨m1, m2⟩ := ok_head _ v1
        rw [m2]
        exact ⟨v1, v3⟩
/-- what is read as a real in digits has no fewer than its text -/
theorem read_more (x : Nat) (hx : x < 4294967296) (l : List UInt8) (R : Nat) (hp : parseP l = some R) (hs : sameR x R = true) (h1 : l ≠ [110, 97, 110]) (h2 : l ≠ [105, 110, 102]) (h3 : l ≠ [45, 105, 110, 102]) :
    rungN x < 2139095040 ∧ dgN (textR x) ≤ dgN l := by
  have hoff : offL l ≠ [105, 110, 102] := fun e => by
    unfold offL at e
    split at e
    · rename_i hm
      have := min_form l hm
      unfold offL at this
      rw [if_pos hm, e] at this
      exact h3 this
    · exact h2 e
  unfold parseP at hp
  rw [if_neg h1, if_neg hoff] at hp
  cases hv : valP (offL l) with
  | none => rw [hv] at hp; cases hp
  | some S =>
    rw [hv] at hp
    simp only [Option.some.injEq] at hp
    have hok : okL (offL l) = true := by
      unfold valP at hv
      split at hv
      · assumption
      · cases hv
    unfold valP at hv
    rw [if_pos hok] at hv
    have hS : S < 2139095040 := by
      unfold rowV at hv
      split at hv
      · injection hv with hv; omega
      · split at hv
        · cases hv
        · split at hv
          · rename_i h9; injection hv with hv; omega
          · cases hv
    have hR : R < 4294967296 := by rw [← hp]; split <;> omega
    have hRr : rungN R = S := by rw [← hp]; unfold rungN; split <;> omega
    have hRn : nanB R = false := by
      unfold nanB
      unfold rungN at hRr
      exact decide_eq_false (by omega)
    have hxR := same_is x R hx hR hRn hs
    have hxS : rungN x = S := by rw [hxR, hRr]
    obtain ⟨_, _, _, _, ht⟩ := text_back x hx
    obtain ⟨t1, t2⟩ := ht (by omega)
    refine ⟨by omega, ?_⟩
    rw [dgN_ok _ t1, dgN_ok _ hok, t2, hxS]
    by_cases h0 : S = 0
    · rw [if_pos h0]
      omega
    · rw [if_neg h0]
      have hrow : ¬ (TL (offL l) = [] ∨ kL (offL l) < -46) := fun h => by
        unfold rowV at hv
        rw [if_pos h] at hv
        injection hv with hv
        omega
      have hrd : rdN (TL (offL l)) (kL (offL l)) = S := by
        unfold rowV at hv
        rw [if_neg hrow] at hv
        split at hv
        · cases hv
        · split at hv
          · injection hv
          · cases hv
      have hne : TL (offL l) ≠ [] := fun e => hrow (.inl e)
      obtain ⟨c0, cs, hE, c1, c2, _⟩ := TL_parts _ hok hne
      have hD : Dig (TL (offL l)) := by
        rw [hE]
        intro c hc
        rcases List.mem_cons.1 hc with rfl | hc
        · omega
        · exact c2 c hc
      have := fewer_is S (by omega) hS _ _ hD hne (by omega) hrd
      omega
theorem parse_lt (l : List UInt8) (R : Nat) (h : parseP l = some R) : R < 4294967296 := by
  have hv : ∀ m S, valP m = some S → S < 2139095040 := fun m S h => by
    unfold valP at h
    split at h
    · unfold rowV at h
      split at h
      · injection h with h; omega
      · split at h
        · cases h
        · split at h
          · rename_i h9; injection h with h; omega
          · cases h
    · cases h
  unfold parseP at h
  split at h
  · injection h with h; omega
  · split at h
    · injection h with h; split at h <;> omega
    · cases hv2 : valP (offL l) with
      | none => rw [hv2] at h; cases h
      | some S =>
        rw [hv2] at h
        injection h with h
        have := hv _ _ hv2
        split at h <;> omega
end Go.Proofs.YtnljpbpphdhnpaaGreatDoor

/- RealsBack: the law's walk. -/
namespace Go.Proofs.YtnljpbpphdhnpaaGreatDoor
open Go.RowKit Go.PlainAid

set_option maxRecDepth 1000000 in
set_option maxHeartbeats 2000000 in
theorem back_n (x y z : Nat) (s T : ByteArray) (w : World)
  (hX : Tabx w)
  (h6 : ∀ w', Below w.heap.size w w' → Calls Tryz.prog 6 #[.float .f32 x] w' fun e w'' => e = .returned (.string T) ∧ Below w'.heap.size w' w'')
  (h9t : ∀ w', Below w.heap.size w w' → Calls Tryz.prog 9 #[.string T] w' fun e w'' => e = .returned (.tuple #[.float .f32 y, .int .i64 0]) ∧ Below w'.heap.size w' w'')
  (h12t : ∀ w, Calls Tryz.prog 12 #[.float .f32 x, .float .f32 y] w fun e w' => e = .returned (.bool true) ∧ w' = w)
  (h9s : ∀ w', Below w.heap.size w w' → Calls Tryz.prog 9 #[.string s] w' fun e w'' => e = .returned (.tuple #[.float .f32 z, .int .i64 30]) ∧ Below w'.heap.size w' w'') :
    Calls Tryz.prog 5 #[.float .f32 x, .string s] w fun e w' => e = .returned (.bool true) ∧ Below w.heap.size w w' := by
  have HX : Hid (Tabx w) := hX
  have H6 : Hid (∀ w', Below w.heap.size w w' → Calls Tryz.prog 6 #[.float .f32 x] w' fun e w'' => e = .returned (.string T) ∧ Below w'.heap.size w' w'') := h6
  have H9t : Hid (∀ w', Below w.heap.size w w' → Calls Tryz.prog 9 #[.string T] w' fun e w'' => e = .returned (.tuple #[.float .f32 y, .int .i64 0]) ∧ Below w'.heap.size w' w'') := h9t
  have H9s : Hid (∀ w', Below w.heap.size w w' → Calls Tryz.prog 9 #[.string s] w' fun e w'' => e = .returned (.tuple #[.float .f32 z, .int .i64 30]) ∧ Below w'.heap.size w' w'') := h9s
  clear hX h6 h9t h9s
  go_enter Tryz.func5, Tryz.ntmps5
  go_wp2_with (first
    | (go_at_call 8; refine (awake_any _ HX.out).mono ?_; rintro e9 w1 ⟨rfl, hb1⟩; have HB1 : Hid (Below w.heap.size w w1) := hb1; clear hb1)
    | (go_at_call 6; refine (H6.out _ HB1.out).mono ?_; rintro e9 w2 ⟨rfl, hb2⟩; have HB2 : Hid (Below w.heap.size w w2) := HB1.out.trans (hb2.mono HB1.out.size); clear hb2)
    | (go_at_call 9; refine (H9t.out _ HB2.out).mono ?_; rintro e9 w3 ⟨rfl, hb3⟩; have HB3 : Hid (Below w.heap.size w w3) := HB2.out.trans (hb3.mono HB2.out.size); clear hb3 HB2)
    | (go_at_call 12; refine (h12t _).mono ?_; rintro e9 w9 ⟨rfl, hw9⟩; obtain rfl := hw9.symm; clear h12t)
    | (go_at_call 9; refine (H9s.out _ HB3.out).mono ?_; rintro e9 w4 ⟨rfl, hb4⟩; have HB4 : Hid (Below w.heap.size w w4) := HB3.out.trans (hb4.mono HB3.out.size); clear hb4))
  go_ret
  exact ⟨rfl, HB4.out⟩
set_option maxRecDepth 1000000 in
set_option maxHeartbeats 2000000 in
theorem back_d (x y z : Nat) (s T : ByteArray) (w : World)
  (hX : Tabx w)
  (h6 : ∀ w', Below w.heap.size w w' → Calls Tryz.prog 6 #[.float .f32 x] w' fun e w'' => e = .returned (.string T) ∧ Below w'.heap.size w' w'')
  (h9t : ∀ w', Below w.heap.size w w' → Calls Tryz.prog 9 #[.string T] w' fun e w'' => e = .returned (.tuple #[.float .f32 y, .int .i64 0]) ∧ Below w'.heap.size w' w'')
  (h12t : ∀ w, Calls Tryz.prog 12 #[.float .f32 x, .float .f32 y] w fun e w' => e = .returned (.bool true) ∧ w' = w)
  (h9s : ∀ w', Below w.heap.size w w' → Calls Tryz.prog 9 #[.string s] w' fun e w'' => e = .returned (.tuple #[.float .f32 z, .int .i64 0]) ∧ Below w'.heap.size w' w'')
  (h12s : ∀ w, Calls Tryz.prog 12 #[.float .f32 x, .float .f32 z] w fun e w' => e = .returned (.bool false) ∧ w' = w) :
    Calls Tryz.prog 5 #[.float .f32 x, .string s] w fun e w' => e = .returned (.bool true) ∧ Below w.heap.size w w' := by
  have HX : Hid (Tabx w) := hX
  have H6 : Hid (∀ w', Below w.heap.size w w' → Calls Tryz.prog 6 #[.float .f32 x] w' fun e w'' => e = .returned (.string T) ∧ Below w'.heap.size w' w'') := h6
  have H9t : Hid (∀ w', Below w.heap.size w w' → Calls Tryz.prog 9 #[.string T] w' fun e w'' => e = .returned (.tuple #[.float .f32 y, .int .i64 0]) ∧ Below w'.heap.size w' w'') := h9t
  have H9s : Hid (∀ w', Below w.heap.size w w' → Calls Tryz.prog 9 #[.string s] w' fun e w'' => e = .returned (.tuple #[.float .f32 z, .int .i64 0]) ∧ Below w'.heap.size w' w'') := h9s
  clear hX h6 h9t h9s
  go_enter Tryz.func5, Tryz.ntmps5
  go_wp2_with (first
    | (go_at_call 8; refine (awake_any _ HX.out).mono ?_; rintro e9 w1 ⟨rfl, hb1⟩; have HB1 : Hid (Below w.heap.size w w1) := hb1; clear hb1)
    | (go_at_call 6; refine (H6.out _ HB1.out).mono ?_; rintro e9 w2 ⟨rfl, hb2⟩; have HB2 : Hid (Below w.heap.size w w2) := HB1.out.trans (hb2.mono HB1.out.size); clear hb2)
    | (go_at_call 9; refine (H9t.out _ HB2.out).mono ?_; rintro e9 w3 ⟨rfl, hb3⟩; have HB3 : Hid (Below w.heap.size w w3) := HB2.out.trans (hb3.mono HB2.out.size); clear hb3 HB2)
    | (go_at_call 12; refine (h12t _).mono ?_; rintro e9 w9 ⟨rfl, hw9⟩; obtain rfl := hw9.symm; clear h12t)
    | (go_at_call 9; refine (H9s.out _ HB3.out).mono ?_; rintro e9 w4 ⟨rfl, hb4⟩; have HB4 : Hid (Below w.heap.size w w4) := HB3.out.trans (hb4.mono HB3.out.size); clear hb4)
    | (go_at_call 12; refine (h12s _).mono ?_; rintro e9 w9 ⟨rfl, hw9⟩; obtain rfl := hw9.symm))
  go_ret
  exact ⟨rfl, HB4.out⟩
set_option maxRecDepth 1000000 in
set_option maxHeartbeats 2000000 in
theorem back_s1 (x y z : Nat) (s T : ByteArray) (w : World)
  (hX : Tabx w)
  (h6 : ∀ w', Below w.heap.size w w' → Calls Tryz.prog 6 #[.float .f32 x] w' fun e w'' => e = .returned (.string T) ∧ Below w'.heap.size w' w'')
  (h9t : ∀ w', Below w.heap.size w w' → Calls Tryz.prog 9 #[.string T] w' fun e w'' => e = .returned (.tuple #[.float .f32 y, .int .i64 0]) ∧ Below w'.heap.size w' w'')
  (h12t : ∀ w, Calls Tryz.prog 12 #[.float .f32 x, .float .f32 y] w fun e w' => e = .returned (.bool true) ∧ w' = w)
  (h9s : ∀ w', Below w.heap.size w w' → Calls Tryz.prog 9 #[.string s] w' fun e w'' => e = .returned (.tuple #[.float .f32 z, .int .i64 0]) ∧ Below w'.heap.size w' w'')
  (h12s : ∀ w, Calls Tryz.prog 12 #[.float .f32 x, .float .f32 z] w fun e w' => e = .returned (.bool true) ∧ w' = w)
  (t1 : (s.toList == [110, 97, 110]) = true) :
    Calls Tryz.prog 5 #[.float .f32 x, .string s] w fun e w' => e = .returned (.bool true) ∧ Below w.heap.size w w' := by
  have HX : Hid (Tabx w) := hX
  have H6 : Hid (∀ w', Below w.heap.size w w' → Calls Tryz.prog 6 #[.float .f32 x] w' fun e w'' => e = .returned (.string T) ∧ Below w'.heap.size w' w'') := h6
  have H9t : Hid (∀ w', Below w.heap.size w w' → Calls Tryz.prog 9 #[.string T] w' fun e w'' => e = .returned (.tuple #[.float .f32 y, .int .i64 0]) ∧ Below w'.heap.size w' w'') := h9t
  have H9s : Hid (∀ w', Below w.heap.size w w' → Calls Tryz.prog 9 #[.string s] w' fun e w'' => e = .returned (.tuple #[.float .f32 z, .int .i64 0]) ∧ Below w'.heap.size w' w'') := h9s
  clear hX h6 h9t h9s
  go_enter Tryz.func5, Tryz.ntmps5
  go_wp2_with (first
    | (go_at_call 8; refine (awake_any _ HX.out).mono ?_; rintro e9 w1 ⟨rfl, hb1⟩; have HB1 : Hid (Below w.heap.size w w1) := hb1; clear hb1)
    | (go_at_call 6; refine (H6.out _ HB1.out).mono ?_; rintro e9 w2 ⟨rfl, hb2⟩; have HB2 : Hid (Below w.heap.size w w2) := HB1.out.trans (hb2.mono HB1.out.size); clear hb2)
    | (go_at_call 9; refine (H9t.out _ HB2.out).mono ?_; rintro e9 w3 ⟨rfl, hb3⟩; have HB3 : Hid (Below w.heap.size w w3) := HB2.out.trans (hb3.mono HB2.out.size); clear hb3 HB2)
    | (go_at_call 12; refine (h12t _).mono ?_; rintro e9 w9 ⟨rfl, hw9⟩; obtain rfl := hw9.symm; clear h12t)
    | (go_at_call 9; refine (H9s.out _ HB3.out).mono ?_; rintro e9 w4 ⟨rfl, hb4⟩; have HB4 : Hid (Below w.heap.size w w4) := HB3.out.trans (hb4.mono HB3.out.size); clear hb4)
    | (go_at_call 12; refine (h12s _).mono ?_; rintro e9 w9 ⟨rfl, hw9⟩; obtain rfl := hw9.symm))
  go_ret
  exact ⟨rfl, HB4.out⟩
set_option maxRecDepth 1000000 in
set_option maxHeartbeats 2000000 in
theorem back_s2 (x y z : Nat) (s T : ByteArray) (w : World)
  (hX : Tabx w)
  (h6 : ∀ w', Below w.heap.size w w' → Calls Tryz.prog 6 #[.float .f32 x] w' fun e w'' => e = .returned (.string T) ∧ Below w'.heap.size w' w'')
  (h9t : ∀ w', Below w.heap.size w w' → Calls Tryz.prog 9 #[.string T] w' fun e w'' => e = .returned (.tuple #[.float .f32 y, .int .i64 0]) ∧ Below w'.heap.size w' w'')
  (h12t : ∀ w, Calls Tryz.prog 12 #[.float .f32 x, .float .f32 y] w fun e w' => e = .returned (.bool true) ∧ w' = w)
  (h9s : ∀ w', Below w.heap.size w w' → Calls Tryz.prog 9 #[.string s] w' fun e w'' => e = .returned (.tuple #[.float .f32 z, .int .i64 0]) ∧ Below w'.heap.size w' w'')
  (h12s : ∀ w, Calls Tryz.prog 12 #[.float .f32 x, .float .f32 z] w fun e w' => e = .returned (.bool true) ∧ w' = w)
  (t1 : (s.toList == [110, 97, 110]) = false)
  (t2 : (s.toList == [105, 110, 102]) = true) :
    Calls Tryz.prog 5 #[.float .f32 x, .string s] w fun e w' => e = .returned (.bool true) ∧ Below w.heap.size w w' := by
  have HX : Hid (Tabx w) := hX
  have H6 : Hid (∀ w', Below w.heap.size w w' → Calls Tryz.prog 6 #[.float .f32 x] w' fun e w'' => e = .returned (.string T) ∧ Below w'.heap.size w' w'') := h6
  have H9t : Hid (∀ w', Below w.heap.size w w' → Calls Tryz.prog 9 #[.string T] w' fun e w'' => e = .returned (.tuple #[.float .f32 y, .int .i64 0]) ∧ Below w'.heap.size w' w'') := h9t
  have H9s : Hid (∀ w', Below w.heap.size w w' → Calls Tryz.prog 9 #[.string s] w' fun e w'' => e = .returned (.tuple #[.float .f32 z, .int .i64 0]) ∧ Below w'.heap.size w' w'') := h9s
  clear hX h6 h9t h9s
  go_enter Tryz.func5, Tryz.ntmps5
  go_wp2_with (first
    | (go_at_call 8; refine (awake_any _ HX.out).mono ?_; rintro e9 w1 ⟨rfl, hb1⟩; have HB1 : Hid (Below w.heap.size w w1) := hb1; clear hb1)
    | (go_at_call 6; refine (H6.out _ HB1.out).mono ?_; rintro e9 w2 ⟨rfl, hb2⟩; have HB2 : Hid (Below w.heap.size w w2) := HB1.out.trans (hb2.mono HB1.out.size); clear hb2)
    | (go_at_call 9; refine (H9t.out _ HB2.out).mono ?_; rintro e9 w3 ⟨rfl, hb3⟩; have HB3 : Hid (Below w.heap.size w w3) := HB2.out.trans (hb3.mono HB2.out.size); clear hb3 HB2)
    | (go_at_call 12; refine (h12t _).mono ?_; rintro e9 w9 ⟨rfl, hw9⟩; obtain rfl := hw9.symm; clear h12t)
    | (go_at_call 9; refine (H9s.out _ HB3.out).mono ?_; rintro e9 w4 ⟨rfl, hb4⟩; have HB4 : Hid (Below w.heap.size w w4) := HB3.out.trans (hb4.mono HB3.out.size); clear hb4)
    | (go_at_call 12; refine (h12s _).mono ?_; rintro e9 w9 ⟨rfl, hw9⟩; obtain rfl := hw9.symm))
  go_ret
  exact ⟨rfl, HB4.out⟩
set_option maxRecDepth 1000000 in
set_option maxHeartbeats 2000000 in
theorem back_s3 (x y z : Nat) (s T : ByteArray) (w : World)
  (hX : Tabx w)
  (h6 : ∀ w', Below w.heap.size w w' → Calls Tryz.prog 6 #[.float .f32 x] w' fun e w'' => e = .returned (.string T) ∧ Below w'.heap.size w' w'')
  (h9t : ∀ w', Below w.heap.size w w' → Calls Tryz.prog 9 #[.string T] w' fun e w'' => e = .returned (.tuple #[.float .f32 y, .int .i64 0]) ∧ Below w'.heap.size w' w'')
  (h12t : ∀ w, Calls Tryz.prog 12 #[.float .f32 x, .float .f32 y] w fun e w' => e = .returned (.bool true) ∧ w' = w)
  (h9s : ∀ w', Below w.heap.size w w' → Calls Tryz.prog 9 #[.string s] w' fun e w'' => e = .returned (.tuple #[.float .f32 z, .int .i64 0]) ∧ Below w'.heap.size w' w'')
  (h12s : ∀ w, Calls Tryz.prog 12 #[.float .f32 x, .float .f32 z] w fun e w' => e = .returned (.bool true) ∧ w' = w)
  (t1 : (s.toList == [110, 97, 110]) = false)
  (t2 : (s.toList == [105, 110, 102]) = false)
  (t3 : (s.toList == [45, 105, 110, 102]) = true) :
    Calls Tryz.prog 5 #[.float .f32 x, .string s] w fun e w' => e = .returned (.bool true) ∧ Below w.heap.size w w' := by
  have HX : Hid (Tabx w) := hX
  have H6 : Hid (∀ w', Below w.heap.size w w' → Calls Tryz.prog 6 #[.float .f32 x] w' fun e w'' => e = .returned (.string T) ∧ Below w'.heap.size w' w'') := h6
  have H9t : Hid (∀ w', Below w.heap.size w w' → Calls Tryz.prog 9 #[.string T] w' fun e w'' => e = .returned (.tuple #[.float .f32 y, .int .i64 0]) ∧ Below w'.heap.size w' w'') := h9t
  have H9s : Hid (∀ w', Below w.heap.size w w' → Calls Tryz.prog 9 #[.string s] w' fun e w'' => e = .returned (.tuple #[.float .f32 z, .int .i64 0]) ∧ Below w'.heap.size w' w'') := h9s
  clear hX h6 h9t h9s
  go_enter Tryz.func5, Tryz.ntmps5
  go_wp2_with (first
    | (go_at_call 8; refine (awake_any _ HX.out).mono ?_; rintro e9 w1 ⟨rfl, hb1⟩; have HB1 : Hid (Below w.heap.size w w1) := hb1; clear hb1)
    | (go_at_call 6; refine (H6.out _ HB1.out).mono ?_; rintro e9 w2 ⟨rfl, hb2⟩; have HB2 : Hid (Below w.heap.size w w2) := HB1.out.trans (hb2.mono HB1.out.size); clear hb2)
    | (go_at_call 9; refine (H9t.out _ HB2.out).mono ?_; rintro e9 w3 ⟨rfl, hb3⟩; have HB3 : Hid (Below w.heap.size w w3) := HB2.out.trans (hb3.mono HB2.out.size); clear hb3 HB2)
    | (go_at_call 12; refine (h12t _).mono ?_; rintro e9 w9 ⟨rfl, hw9⟩; obtain rfl := hw9.symm; clear h12t)
    | (go_at_call 9; refine (H9s.out _ HB3.out).mono ?_; rintro e9 w4 ⟨rfl, hb4⟩; have HB4 : Hid (Below w.heap.size w w4) := HB3.out.trans (hb4.mono HB3.out.size); clear hb4)
    | (go_at_call 12; refine (h12s _).mono ?_; rintro e9 w9 ⟨rfl, hw9⟩; obtain rfl := hw9.symm))
  go_ret
  exact ⟨rfl, HB4.out⟩
set_option maxRecDepth 1000000 in
set_option maxHeartbeats 2000000 in
theorem back_f (x y z : Nat) (s T : ByteArray) (a c : Int) (w : World)
  (hX : Tabx w)
  (h6 : ∀ w', Below w.heap.size w w' → Calls Tryz.prog 6 #[.float .f32 x] w' fun e w'' => e = .returned (.string T) ∧ Below w'.heap.size w' w'')
  (h9t : ∀ w', Below w.heap.size w w' → Calls Tryz.prog 9 #[.string T] w' fun e w'' => e = .returned (.tuple #[.float .f32 y, .int .i64 0]) ∧ Below w'.heap.size w' w'')
  (h12t : ∀ w, Calls Tryz.prog 12 #[.float .f32 x, .float .f32 y] w fun e w' => e = .returned (.bool true) ∧ w' = w)
  (h9s : ∀ w', Below w.heap.size w w' → Calls Tryz.prog 9 #[.string s] w' fun e w'' => e = .returned (.tuple #[.float .f32 z, .int .i64 0]) ∧ Below w'.heap.size w' w'')
  (h12s : ∀ w, Calls Tryz.prog 12 #[.float .f32 x, .float .f32 z] w fun e w' => e = .returned (.bool true) ∧ w' = w)
  (t1 : (s.toList == [110, 97, 110]) = false)
  (t2 : (s.toList == [105, 110, 102]) = false)
  (t3 : (s.toList == [45, 105, 110, 102]) = false)
  (h13s : ∀ w, Calls Tryz.prog 13 #[.string s] w fun e w' => e = .returned (.int .i64 a) ∧ w' = w)
  (h13t : ∀ w, Calls Tryz.prog 13 #[.string T] w fun e w' => e = .returned (.int .i64 c) ∧ w' = w)
  (hac : c ≤ a)
  (k1 : (FloatKind.f32.format.order x x == some Ordering.eq) = true)
  (hf : floatBits .sub .f32 x x = some 0) :
    Calls Tryz.prog 5 #[.float .f32 x, .string s] w fun e w' => e = .returned (.bool true) ∧ Below w.heap.size w w' := by
  have HX : Hid (Tabx w) := hX
  have H6 : Hid (∀ w', Below w.heap.size w w' → Calls Tryz.prog 6 #[.float .f32 x] w' fun e w'' => e = .returned (.string T) ∧ Below w'.heap.size w' w'') := h6
  have H9t : Hid (∀ w', Below w.heap.size w w' → Calls Tryz.prog 9 #[.string T] w' fun e w'' => e = .returned (.tuple #[.float .f32 y, .int .i64 0]) ∧ Below w'.heap.size w' w'') := h9t
  have H9s : Hid (∀ w', Below w.heap.size w w' → Calls Tryz.prog 9 #[.string s] w' fun e w'' => e = .returned (.tuple #[.float .f32 z, .int .i64 0]) ∧ Below w'.heap.size w' w'') := h9s
  clear hX h6 h9t h9s
  have hr := fun w => run_float_arith (P := Tryz.prog) w .sub 22 .f32 x x 0 hf
  have k2 : (FloatKind.f32.format.order 0 0 == some Ordering.eq) = true := by decide
  clear hf
  go_enter Tryz.func5, Tryz.ntmps5
  go_wp2_with (first
    | (go_at_call 8; refine (awake_any _ HX.out).mono ?_; rintro e9 w1 ⟨rfl, hb1⟩; have HB1 : Hid (Below w.heap.size w w1) := hb1; clear hb1)
    | (go_at_call 6; refine (H6.out _ HB1.out).mono ?_; rintro e9 w2 ⟨rfl, hb2⟩; have HB2 : Hid (Below w.heap.size w w2) := HB1.out.trans (hb2.mono HB1.out.size); clear hb2)
    | (go_at_call 9; refine (H9t.out _ HB2.out).mono ?_; rintro e9 w3 ⟨rfl, hb3⟩; have HB3 : Hid (Below w.heap.size w w3) := HB2.out.trans (hb3.mono HB2.out.size); clear hb3 HB2)
    | (go_at_call 12; refine (h12t _).mono ?_; rintro e9 w9 ⟨rfl, hw9⟩; obtain rfl := hw9.symm; clear h12t)
    | (go_at_call 9; refine (H9s.out _ HB3.out).mono ?_; rintro e9 w4 ⟨rfl, hb4⟩; have HB4 : Hid (Below w.heap.size w w4) := HB3.out.trans (hb4.mono HB3.out.size); clear hb4)
    | (go_at_call 12; refine (h12s _).mono ?_; rintro e9 w9 ⟨rfl, hw9⟩; obtain rfl := hw9.symm)
    | (go_at_call 13; refine (h13s _).mono ?_; rintro e9 w9 ⟨rfl, hw9⟩; obtain rfl := hw9.symm; clear h13s)
    | (go_at_call 13; refine (h13t _).mono ?_; rintro e9 w9 ⟨rfl, hw9⟩; obtain rfl := hw9.symm))
  go_ret
  exact ⟨rfl, HB4.out⟩
theorem textR_len (x : Nat) (hx : x < 4294967296) : (textR x).length ≤ 301 := by
  unfold textR
  split
  · decide
  · rename_i hn
    have hle : x % 2147483648 ≤ 2139095040 := by
      unfold nanB at hn
      simpa using hn
    split
    · rename_i hb
      unfold belowB at hb
      simp at hb
      have := textU_len (x - 2147483648) (by omega)
      rw [List.length_cons]
      omega
    · rename_i hb
      have : x < 2147483648 := by
        unfold belowB at hb
        simp [hn] at hb
        omega
      have := textU_len x (by omega)
      omega
theorem bl_to (T : ByteArray) (l : List UInt8) (h : T.data.toList = l) : T = bl l := by
  apply ByteArray.ext
  unfold bl
  rw [← h]
theorem back_law (x : Nat) (hx : x < 4294967296) (l : List UInt8) (hl : l.length ≤ 1000000000) (w : World) (hV : TabV w) (hX : Tabx w) (hT : TabAll w) :
    Calls Tryz.prog 5 #[.float .f32 x, .string (bl l)] w fun e w' => e = .returned (.bool true) ∧ Below w.heap.size w w' := by
  have h6 : ∀ w', Below w.heap.size w w' → Calls Tryz.prog 6 #[.float .f32 x] w' fun e w'' => e = .returned (.string (bl (textR x))) ∧ Below w'.heap.size w' w'' := fun w' hb => (text_any x hx w' (hV.below hb)).mono fun e w'' ⟨⟨T, he, hT⟩, hb2⟩ => ⟨by rw [he, bl_to T _ hT], hb2⟩
  obtain ⟨y, y1, y2, y3, _⟩ := text_back x hx
  have h9t : ∀ w', Below w.heap.size w w' → Calls Tryz.prog 9 #[.string (bl (textR x))] w' fun e w'' => e = .returned (.tuple #[.float .f32 y, .int .i64 0]) ∧ Below w'.heap.size w' w'' := fun w' hb => by
    have h := parse_any (textR x) (by have := textR_len x hx; omega) w' (hT.below hb)
    rw [y1] at h
    exact h
  have h12t := fun w => realSame_any x y hx y2 w
  rw [y3] at h12t
  have h9 := fun w' (hb : Below w.heap.size w w') => parse_any l hl w' (hT.below hb)
  cases hp : parseP l with
  | none =>
    rw [hp] at h9
    exact back_n x y 0 _ _ w hX h6 h9t h12t h9
  | some R =>
    rw [hp] at h9
    have hR : R < 4294967296 := parse_lt l R hp
    have h12s := fun w => realSame_any x R hx hR w
    cases hs : sameR x R with
    | false =>
      rw [hs] at h12s
      exact back_d x y R _ _ w hX h6 h9t h12t h9 h12s
    | true =>
      rw [hs] at h12s
      by_cases l1 : l = [110, 97, 110]
      · exact back_s1 x y R _ _ w hX h6 h9t h12t h9 h12s (by rw [bl_eqs, decide_eq_true l1])
      · have t1 : ((bl l).toList == [110, 97, 110]) = false := by rw [bl_eqs, decide_eq_false l1]
        by_cases l2 : l = [105, 110, 102]
        · exact back_s2 x y R _ _ w hX h6 h9t h12t h9 h12s t1 (by rw [bl_eqs, decide_eq_true l2])
        · have t2 : ((bl l).toList == [105, 110, 102]) = false := by rw [bl_eqs, decide_eq_false l2]
          by_cases l3 : l = [45, 105, 110, 102]
          · exact back_s3 x y R _ _ w hX h6 h9t h12t h9 h12s t1 t2 (by rw [bl_eqs, decide_eq_true l3])
          · have t3 : ((bl l).toList == [45, 105, 110, 102]) = false := by rw [bl_eqs, decide_eq_false l3]
            obtain ⟨f1, f2⟩ := read_more x hx l R hp hs l1 l2 l3
            have hn : nanB x = false := by
              unfold nanB
              unfold rungN at f1
              exact decide_eq_false (by omega)
            have k1 : (FloatKind.f32.format.order x x == some Ordering.eq) = true := by
              rw [eq_any]
              unfold eqB
              rw [hn]
              simp
            exact back_f x y R _ _ (dgN l) (dgN (textR x)) w hX h6 h9t h12t h9 h12s t1 t2 t3 (fun w => digits_law l (by omega) w) (fun w => digits_law (textR x) (by have := textR_len x hx; omega) w) f2 k1 (sub_self x hx f1)
end Go.Proofs.YtnljpbpphdhnpaaGreatDoor
