/- The document's number, walked. -/
import Derived.Test.YtmglbcldjhdhkaaTkRh
namespace Go.Proofs.Ytmglbcldjhdhkaa
open Go.RowKit Go.PlainAid

theorem at_drop {s : ByteArray} {i : Nat} {c : UInt8} {t : List UInt8} (h : s.toList.drop i = c :: t) : ∃ hi : i < s.size, ((s[i]'hi).toNat : Int) = (c.toNat : Int) ∧ s.toList.drop (i + 1) = t := by
  have hi : i < s.size := by
    by_cases e : i < s.size
    · exact e
    · rw [List.drop_of_length_le (by rw [toList_len]; omega)] at h; simp at h
  obtain ⟨d, hd, hb⟩ := bt_drop s i hi
  rw [hd] at h
  simp only [List.cons.injEq] at h
  obtain ⟨rfl, e⟩ := h
  exact ⟨hi, (get_bt s i hi).trans hb, e⟩
theorem neq_of {c k : UInt8} (h : c ≠ k) : ((c.toNat : Int) != (k.toNat : Int)) = true := by
  have := eqc c k
  rw [decide_eq_false h] at this
  simp [bne, this]
theorem beq_of {c k : UInt8} (h : c ≠ k) : ((c.toNat : Int) == (k.toNat : Int)) = false := by
  have := eqc c k
  rwa [decide_eq_false h] at this

set_option maxRecDepth 1000000 in
set_option maxHeartbeats 600000 in
theorem rnumber_any (s : ByteArray) (a : Nat) (w : World) (ha : a ≤ s.size) (hs : s.size ≤ 140737488355328) (h : okN (numGo 1 (s.toList.drop a))) :
    Calls Try.prog 59 #[.string s, .int .i64 (a : Int)] w fun e w' => e = .returned (.tuple #[.int .i64 ((a + (numGo 1 (s.toList.drop a)).1 : Nat) : Int), .bool (decide ((numGo 1 (s.toList.drop a)).2.1 ≠ 1))]) ∧ w' = w := by
  have hRD : Hid (∀ (i : Nat) w, i ≤ s.size → Calls Try.prog 64 #[.string s, .int .i64 (i : Int)] w fun e w' => e = .returned (.int .i64 ((i + dl (s.toList.drop i) : Nat) : Int)) ∧ w' = w) := fun i w hi => rowDigits_any s i w hi hs
  have hle : ∀ i, i ≤ s.size → i + dl (s.toList.drop i) ≤ s.size := fun i hi => by
    have := dl_le (s.toList.drop i)
    rw [List.length_drop, toList_len] at this
    omega
  have h1 := hle a ha
  rcases num_forms _ h with ⟨hn, e⟩ | ⟨t, hr, hd2, hrest⟩
  · rw [e]
    have hR1 : Hid (Calls Try.prog 64 #[.string s, .int .i64 (a : Int)] w fun e w' => e = .returned (.int .i64 ((a + dl (s.toList.drop a) : Nat) : Int)) ∧ w' = w) := hRD.out a w ha
    obtain ⟨E, hE⟩ : ∃ E, a + dl (s.toList.drop a) = E := ⟨_, rfl⟩
    rw [List.drop_drop, hE] at hn
    simp only
    rw [hE] at hR1 h1 ⊢
    clear hle hRD e h hE
    by_cases hlt : E < s.size
    · have hlti : ¬ ((s.size : Int) ≤ (E : Int)) := by omega
      have hlti2 : (E : Int) < (s.size : Int) := by omega
      have hdec : decide ((s.size : Int) ≤ (E : Int)) = false := by simp; omega
      obtain ⟨c, hc, hb⟩ := bt_drop s E hlt
      have hg : ((s[E]'hlt).toNat : Int) = (c.toNat : Int) := (get_bt s E hlt).trans hb
      have hne : ((c.toNat : Int) != 46) = true := neq_of (k := 46) (fun e => hn _ (by rw [hc, e]))
      clear hn hc hb
      go_enter Try.func59, Try.ntmps59
      go_wp2_with (go_at_call 64; refine (hR1.out).mono ?_; rintro e w' ⟨rfl, rfl⟩)
      go_ret2
      exact ⟨rfl, rfl⟩
    · have hlti : (s.size : Int) ≤ (E : Int) := by omega
      clear hn
      go_enter Try.func59, Try.ntmps59
      go_wp2_with (go_at_call 64; refine (hR1.out).mono ?_; rintro e w' ⟨rfl, rfl⟩)
      go_ret2
      exact ⟨rfl, rfl⟩
  · obtain ⟨E, hE⟩ : ∃ E, a + dl (s.toList.drop a) = E := ⟨_, rfl⟩
    rw [List.drop_drop, hE] at hr
    obtain ⟨hlt1, hg1, hd1⟩ := at_drop hr
    have h2 := hle (E + 1) (by omega)
    have hR1 : Hid (Calls Try.prog 64 #[.string s, .int .i64 (a : Int)] w fun e w' => e = .returned (.int .i64 ((a + dl (s.toList.drop a) : Nat) : Int)) ∧ w' = w) := hRD.out a w ha
    have hR2 : Hid (Calls Try.prog 64 #[.string s, .int .i64 ((E + 1 : Nat) : Int)] w fun e w' => e = .returned (.int .i64 ((E + 1 + dl (s.toList.drop (E + 1)) : Nat) : Int)) ∧ w' = w) := hRD.out (E + 1) w (by omega)
    obtain ⟨F, hF⟩ : ∃ F, E + 1 + dl t = F := ⟨_, rfl⟩
    rw [hd1, hF] at hR2 h2
    rw [hE] at hR1
    have hcast : ((E + 1 : Nat) : Int) = (E : Int) + 1 := by omega
    rw [hcast] at hR2
    clear hcast
    have hE1 : decide ((s.size : Int) ≤ (E : Int)) = false := by simp; omega
    have hE2 : (E : Int) < (s.size : Int) := by omega
    have hg1' : ((s[E]'hlt1).toNat : Int) = 46 := hg1
    clear hg1
    have hdF : ∀ r, t.drop (dl t) = r → s.toList.drop F = r := fun r e => by rw [← hF, ← List.drop_drop, hd1]; exact e
    rcases hrest with ⟨hn, e⟩ | ⟨u, hr3, hrest⟩
    · rw [e]
      have e0 : a + (dl (s.toList.drop a) + 1 + dl t) = F := by omega
      simp only
      rw [e0]
      clear e0 e h hle hRD hr hd1 hE hF
      by_cases hlt : F < s.size
      · have hlti2 : (F : Int) < (s.size : Int) := by omega
        obtain ⟨c, hc, hb⟩ := bt_drop s F hlt
        have hg : ((s[F]'hlt).toNat : Int) = (c.toNat : Int) := (get_bt s F hlt).trans hb
        have hne : ((c.toNat : Int) == 101) = false := beq_of (k := 101) (fun e => hn (s.toList.drop (F + 1)) (by rw [← hdF _ rfl, hc, e]))
        clear hn hc hb hdF
        go_enter Try.func59, Try.ntmps59
        go_wp2_with fail
        refine (hR1.out).mono ?_
        rintro e w' ⟨rfl, rfl⟩
        go_wp2_with fail
        refine (hR2.out).mono ?_
        rintro e w' ⟨rfl, rfl⟩
        go_wp2
        go_ret2
        exact ⟨rfl, rfl⟩
      · have hlti2 : ¬ (F : Int) < (s.size : Int) := by omega
        clear hn hdF
        go_enter Try.func59, Try.ntmps59
        go_wp2_with fail
        refine (hR1.out).mono ?_
        rintro e w' ⟨rfl, rfl⟩
        go_wp2_with fail
        refine (hR2.out).mono ?_
        rintro e w' ⟨rfl, rfl⟩
        go_wp2
        go_ret2
        exact ⟨rfl, rfl⟩
    · obtain ⟨hlt3, hg3, hd3⟩ := at_drop (hdF _ hr3)
      have hF2 : (F : Int) < (s.size : Int) := by omega
      have hg3' : ((s[F]'hlt3).toNat : Int) = 101 := hg3
      rcases hrest with ⟨v, rfl, hdv, e⟩ | ⟨hn, hdu, e⟩
      · rw [e]
        obtain ⟨hlt4, hg4, hd4⟩ := at_drop hd3
        have hR3 : Hid (Calls Try.prog 64 #[.string s, .int .i64 ((F + 1 + 1 : Nat) : Int)] w fun e w' => e = .returned (.int .i64 ((F + 1 + 1 + dl (s.toList.drop (F + 1 + 1)) : Nat) : Int)) ∧ w' = w) := hRD.out (F + 1 + 1) w (by omega)
        rw [hd4] at hR3
        have e0 : a + (dl (s.toList.drop a) + 1 + dl t + 1 + 1 + dl v) = F + 1 + 1 + dl v := by omega
        simp only
        rw [e0]
        have hcast : ((F + 1 + 1 : Nat) : Int) = (F : Int) + 1 + 1 := by omega
        rw [hcast] at hR3
        have hG2 : (F : Int) + 1 < (s.size : Int) := by omega
        have hg4' : ((s[F + 1]'hlt4).toNat : Int) = 45 := hg4
        generalize F + 1 + 1 + dl v = Z at hR3 ⊢
        clear e0 e h hle hRD hr hd1 hE hF hdF hr3 hd3 hd4 hg3 hg4 hcast
        go_enter Try.func59, Try.ntmps59
        go_wp2_with fail
        refine (hR1.out).mono ?_
        rintro e w' ⟨rfl, rfl⟩
        go_wp2_with fail
        refine (hR2.out).mono ?_
        rintro e w' ⟨rfl, rfl⟩
        go_wp2_with fail
        refine (hR3.out).mono ?_
        rintro e w' ⟨rfl, rfl⟩
        go_wp2
        go_ret2
        exact ⟨rfl, rfl⟩
      · rw [e]
        have hlt4 : F + 1 < s.size := by
          have : dl u ≤ u.length := dl_le u
          have h5 := congrArg List.length hd3
          rw [List.length_drop, toList_len] at h5
          omega
        obtain ⟨c, hc, hb⟩ := bt_drop s (F + 1) hlt4
        have hg : ((s[F + 1]'hlt4).toNat : Int) = (c.toNat : Int) := (get_bt s (F + 1) hlt4).trans hb
        have hne : ((c.toNat : Int) == 45) = false := beq_of (k := 45) (fun e => hn (s.toList.drop (F + 1 + 1)) (by rw [← hd3, hc, e]))
        have hR3 : Hid (Calls Try.prog 64 #[.string s, .int .i64 ((F + 1 : Nat) : Int)] w fun e w' => e = .returned (.int .i64 ((F + 1 + dl (s.toList.drop (F + 1)) : Nat) : Int)) ∧ w' = w) := hRD.out (F + 1) w (by omega)
        rw [hd3] at hR3
        have e0 : a + (dl (s.toList.drop a) + 1 + dl t + 1 + dl u) = F + 1 + dl u := by omega
        simp only
        rw [e0]
        have hcast : ((F + 1 : Nat) : Int) = (F : Int) + 1 := by omega
        rw [hcast] at hR3
        have hG2 : (F : Int) + 1 < (s.size : Int) := by omega
        generalize F + 1 + dl u = Z at hR3 ⊢
        clear e0 e h hle hRD hr hd1 hE hF hdF hr3 hd3 hg3 hcast hc hb hn
        go_enter Try.func59, Try.ntmps59
        go_wp2_with fail
        refine (hR1.out).mono ?_
        rintro e w' ⟨rfl, rfl⟩
        go_wp2_with fail
        refine (hR2.out).mono ?_
        rintro e w' ⟨rfl, rfl⟩
        go_wp2_with fail
        refine (hR3.out).mono ?_
        rintro e w' ⟨rfl, rfl⟩
        go_wp2
        go_ret2
        exact ⟨rfl, rfl⟩
end Go.Proofs.Ytmglbcldjhdhkaa
