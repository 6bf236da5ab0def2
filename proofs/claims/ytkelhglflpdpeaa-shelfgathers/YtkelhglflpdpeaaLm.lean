/- Pick; a shelf made of a list. -/
import Derived.Test.YtkelhglflpdpeaaAw

namespace Go.Proofs.Ytkelhglflpdpeaa
open Go.RowKit Go.PlainAid

def pickZ (x n : Int) : Int := if n < 1 then 0 else x % n

theorem pickZ_lt (x : Int) (n : Nat) (h : 0 < n) : 0 ≤ pickZ x n ∧ pickZ x n < n := by
  unfold pickZ
  rw [if_neg (by omega)]
  exact ⟨Int.emod_nonneg _ (by omega), Int.emod_lt_of_pos _ (by omega)⟩

set_option maxHeartbeats 1600000 in
theorem pick_any (x n : Int) (h0 : -9223372036854775808 ≤ x) (h1 : x ≤ 9223372036854775807) (hn : n ≤ 9223372036854775807) (w : World) :
    Calls Try.prog 11 #[.int .i64 x, .int .i64 n] w fun e w' => e = .returned (.int .i64 (pickZ x n)) ∧ w' = w := by
  by_cases hn1 : n < 1
  · have hq : pickZ x n = 0 := by unfold pickZ; rw [if_pos hn1]
    rw [hq]
    clear hq
    go_enter Try.func11, Try.ntmps11
    go_wp2
    go_ret
    exact ⟨rfl, rfl⟩
  · have hq : pickZ x n = x % n := by unfold pickZ; rw [if_neg hn1]
    have hn0 : (n == 0) = false := by simp; omega
    have e1 : x.tmod n < 0 → x.tmod n + n = x % n := by
      intro h
      rw [Int.emod_eq_tmod]
      have hx : ¬ 0 ≤ x := by
        intro hx
        have := Int.tmod_nonneg n hx
        omega
      have hd : ¬ n ∣ x := by
        intro hd
        have := Int.tmod_eq_zero_of_dvd hd
        omega
      rw [if_neg (by simp [hx, hd])]
      omega
    have e2 : ¬ x.tmod n < 0 → x.tmod n = x % n := by
      intro h
      rw [Int.emod_eq_tmod]
      by_cases hx : 0 ≤ x
      · rw [if_pos (.inl hx)]; omega
      · by_cases hd : n ∣ x
        · rw [if_pos (.inr hd)]; omega
        · exfalso
          have h3 : x.tmod n ≤ 0 := by
            have := Int.tmod_nonneg n (show 0 ≤ -x by omega)
            rw [Int.neg_tmod] at this
            omega
          have h4 : x.tmod n = 0 := by omega
          exact hd (Int.dvd_of_tmod_eq_zero h4)
    have hlo : -9223372036854775808 ≤ x.tmod n ∧ x.tmod n < n := by
      have h5 := Int.emod_nonneg x (show n ≠ 0 by omega)
      have h6 := Int.emod_lt_of_pos x (show 0 < n by omega)
      by_cases h : x.tmod n < 0
      · have := e1 h
        omega
      · have := e2 h
        omega
    rw [hq]
    have HE : Hid ((x.tmod n < 0 → x.tmod n + n = x % n) ∧ (¬ x.tmod n < 0 → x.tmod n = x % n)) := ⟨e1, e2⟩
    clear hq e1 e2
    go_enter Try.func11, Try.ntmps11
    go_wp2
    all_goals go_ret
    · have h7 : x.tmod n < 0 := by assumption
      have h8 := HE.out.1 h7
      refine ⟨?_, rfl⟩
      show Ending.returned (Value.int .i64 (x.tmod n + n)) = _
      rw [h8]
    · have h7 : 0 ≤ x.tmod n := by assumption
      have h8 := HE.out.2 (by omega)
      refine ⟨?_, rfl⟩
      show Ending.returned (Value.int .i64 (x.tmod n)) = _
      rw [h8]

/-- what is made of a list, one added behind the other -/
def madeL (l : List Pr) : List Pr := l.foldl addL []
theorem madeL_snoc (l : List Pr) (x : Pr) : madeL (l ++ [x]) = addL (madeL l) x := by simp [madeL]
theorem madeL_ris (l : List Pr) : Ris (madeL l) := by
  unfold madeL
  have : ∀ (l a : List Pr), Ris a → Ris (l.foldl addL a) := by
    intro l
    induction l with
    | nil => intro a h; exact h
    | cons c t ih => intro a h; exact ih _ (add_ris h c)
  exact this l [] List.Pairwise.nil
theorem madeL_len (l : List Pr) : (madeL l).length ≤ l.length := by
  unfold madeL
  have : ∀ (l a : List Pr), (l.foldl addL a).length ≤ a.length + l.length := by
    intro l
    induction l with
    | nil => intro a; simp
    | cons c t ih => intro a; have h1 := ih (addL a c); have h2 := add_len a c; simp at h1 ⊢; omega
  simpa using this l []

set_option maxRecDepth 100000 in
set_option maxHeartbeats 2000000 in
theorem made_any (v : Value) (l : List Pr) (w : World) (h : Rd encP 2 w v l) (hl : l.length + 2 ≤ 1152921504606846976) :
    Calls Try.prog 25 #[v] w fun e w' => ∃ b, e = .returned (vA b) ∧ Sh w' b 10 (madeL l) ∧ Keep [] w w' ∧ w.heap.size ≤ b := by
  have HNew : Hid (Calls Try.prog 9 #[vF 10] w fun e w' => ∃ b, e = .returned (vA b) ∧ Sh w' b 10 [] ∧ Keep [] w w' ∧ w.heap.size ≤ b) := new_any 10 (by decide) w
  obtain ⟨ao, cap, rfl, hc1, hc2⟩ := h.form
  have HV : Hid (Rd encP 2 w (.slice ao l.length cap) l) := h
  have HL : Hid (l.length + 2 ≤ 1152921504606846976) := hl
  have hli : (l.length : Int) ≤ 1152921504606846976 := by omega
  clear h hl
  go_enter Try.func25, Try.ntmps25
  go_wp2_with (go_at_call 9; refine HNew.out.mono ?_; clear HNew; rintro e w1 ⟨b, rfl, s1, k1, hb⟩)
  have HS1 : Hid (Sh w1 b 10 [] ∧ Keep [] w w1 ∧ w.heap.size ≤ b) := ⟨s1, k1, hb⟩
  clear s1 k1 hb
  go_loopw [4] (fun iv wr => ∃ i : Nat, iv = .int .i64 (i : Int) ∧ i ≤ l.length ∧ Hid (Sh wr b 10 (madeL (l.take i)) ∧ Keep [] w wr)) (fun iv _ => l.length - (intOf iv).toNat)
  case atStart => exact ⟨0, rfl, Nat.zero_le _, by simpa [madeL] using HS1.out.1, HS1.out.2.1⟩
  case round =>
    obtain ⟨i, rfl, hi, HI⟩ := hrel
    by_cases hlt : i < l.length
    · have hlti : (i : Int) < (l.length : Int) := by omega
      have hi0 : (0 : Int) ≤ (i : Int) := by omega
      obtain ⟨b2, o2, c2, he, hb2, e0, e1⟩ := (HV.out.keep HI.out.2 (Off.nil _)).pair i hlt
      simp at he
      obtain ⟨rfl, rfl⟩ := he
      have HA : Hid (Calls Try.prog 13 #[vA b, vP l[i]] wr fun e w' => e = .returned (.bool (lk (madeL (l.take i)) l[i].k).isNone) ∧ Sh w' b 10 (madeL (l.take (i + 1))) ∧ Keep [b] wr w') := by
        have h1 := add_any b 10 (madeL (l.take i)) l[i] wr HI.out.1 (by have h2 := madeL_len (l.take i); rw [List.length_take] at h2; have := HL.out; omega)
        rw [← madeL_snoc, List.take_append_getElem hlt] at h1
        exact h1
      generalize l[i] = x at *
      go_wp2_with (go_at_call 13; refine HA.out.mono ?_; clear HA; rintro e w2 ⟨rfl, s2, k2⟩)
      go_roundw
      case rel => exact ⟨i + 1, by simp, by omega, s2, HI.out.2.more k2 (by intro y hy; simp at hy; subst hy; exact .inr HS1.out.2.2)⟩
      case measure => simp [intOf]; omega
    · obtain rfl : i = l.length := by omega
      have hnl : ¬ (l.length : Int) < (l.length : Int) := by omega
      go_wp2
      go_ret
      exact ⟨b, rfl, by have := HI.out.1; rwa [List.take_length] at this, HI.out.2, HS1.out.2.2⟩

end Go.Proofs.Ytkelhglflpdpeaa
