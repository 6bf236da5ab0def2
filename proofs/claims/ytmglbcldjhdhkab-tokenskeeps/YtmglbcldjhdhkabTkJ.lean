/- Blanks and remarks. -/
import Derived.Test.YtmglbcldjhdhkabTkR
import Derived.WalkMore
namespace Go.Proofs.Ytmglbcldjhdhkab
open Go.RowKit Go.PlainAid

theorem w32b {x : Int} (h0 : 0 ≤ x) (h1 : x ≤ 255) : wrap32 x = x := by rw [← i32_is]; exact IntWalk.i32_in x ⟨by omega, by omega⟩
/-- the bytes of a character -/
theorem take_rw (s : ByteArray) (pos n : Nat) (h : pos + n ≤ s.size) : s.toList.drop pos = (s.toList.drop pos).take n ++ s.toList.drop (pos + n) ∧ ((s.toList.drop pos).take n).length = n := by
  refine ⟨?_, ?_⟩
  · rw [← List.drop_drop, List.take_append_drop]
  · rw [List.length_take, List.length_drop, toList_len]; omega
theorem high_mem (s : ByteArray) (pos n : Nat) (h : pos + n ≤ s.size) (hb : ∀ j, j < n → 128 ≤ bt s (pos + j)) : ∀ x ∈ (s.toList.drop pos).take n, 128 ≤ x.toNat := by
  intro x hx
  obtain ⟨j, hj, rfl⟩ := List.getElem_of_mem hx
  have hjn : j < n := by rw [(take_rw s pos n h).2] at hj; exact hj
  have := hb j hjn
  rw [bt_get s (pos + j) (by rw [toList_len]; omega)] at this
  rw [List.getElem_take, List.getElem_drop]
  omega
theorem skip_true_plain : ∀ (xs t : List UInt8), (∀ x ∈ xs, x ≠ 10) → skipN true (xs ++ t) = xs.length + skipN true t
  | [], t, _ => by simp
  | x :: xs, t, h => by
    rw [List.cons_append, skipN, if_neg (h x (by simp)), skip_true_plain xs t (fun y hy => h y (by simp [hy])), List.length_cons]
    omega
theorem skip_remark {l : List UInt8} (h : (l.take 2 == [47, 47]) = true) : skipN false l = skipN true l := by
  match l with
  | [] => simp at h
  | [c] => simp at h
  | c :: c2 :: t =>
    simp at h
    obtain ⟨rfl, rfl⟩ := h
    rw [skipN, if_neg (by decide), if_pos ⟨rfl, rfl⟩]
    conv => rhs; rw [skipN, if_neg (by decide)]
theorem skip_blank {c : UInt8} {t : List UInt8} (h : blankB (c.toNat : Int) = true) : skipN false (c :: t) = skipN false t + 1 := by rw [skipN, if_pos h]
theorem skip_stop {c : UInt8} {t : List UInt8} (h : blankB (c.toNat : Int) = false) (h2 : ((c :: t).take 2 == [47, 47]) = false) : skipN false (c :: t) = 0 := by
  rw [skipN, if_neg (by simp [h]), if_neg]
  rintro ⟨rfl, h3⟩
  cases t with
  | nil => simp at h3
  | cons d t =>
    simp at h3
    subst h3
    simp at h2
theorem class_blank (c : Int) : (classI c == 1) = blankB c := by
  unfold classI
  cases h1 : smallB c
  · cases h2 : digitB c
    · cases h3 : blankB c
      · simp only [Bool.false_eq_true, if_false]
        repeat' split
        all_goals rfl
      · simp
    · have : blankB c = false := by
        simp [digitB] at h2
        simp [blankB]
        omega
      simp [this]
  · have : blankB c = false := by
      simp [smallB] at h1
      simp [blankB]
      omega
    simp [this]

set_option maxHeartbeats 1000000 in
theorem prefix_any (s : ByteArray) (w : World) :
    Calls Try.prog 28 #[.string s, .string ⟨#[47, 47]⟩] w fun e w' => e = .returned (.bool (s.toList.take 2 == [47, 47])) ∧ w' = w := by
  by_cases h : 2 ≤ s.size
  · have h1 : (2 : Int) ≤ (s.size : Int) := by omega
    have h2 : Hid ((s.toList.take 2 == [47, 47]) = ((s.extract 0 2).toList == [47, 47])) := by show _ = _; rw [ext_mid, ba_toList]; simp
    go_enter Try.func28, Try.ntmps28
    go_wp2_with go_in
    go_ret
    exact ⟨by rw [h2.out]; rfl, rfl⟩
  · have h1 : ¬ (2 : Int) ≤ (s.size : Int) := by omega
    have h2 : Hid ((s.toList.take 2 == [47, 47]) = false) := by
      show _ = _
      have hl : s.toList.length < 2 := by rw [toList_len]; omega
      match s.toList, hl with
      | [], _ => rfl
      | [c], _ => simp
    go_enter Try.func28, Try.ntmps28
    go_wp2_with go_in
    go_ret
    exact ⟨by rw [h2.out]; rfl, rfl⟩

/-- an iterator of a text of one's own -/
structure Io (w wr : World) (u : ByteArray) (pos : Nat) : Prop where
  it : wr.heap[w.heap.size]? = some (.stringIter u pos)
  keep : Keep [] w wr
theorem Io.start (w : World) (u : ByteArray) : Io w (w.iter u 0) u 0 := ⟨World.iter_heap w u 0, Keep.alloc1 w _⟩
theorem Io.next {w wr : World} {u : ByteArray} {pos : Nat} (h : Io w wr u pos) (p : Nat) : Io w (wr.iterAt w.heap.size u p) u p :=
  ⟨Lib.iterAt_heap wr _ u pos p h.it, h.keep.iterAt (.inr (Nat.le_refl _)) u p⟩
theorem Io.pos {w wr : World} {u : ByteArray} {pos : Nat} (h : Io w wr u pos) : wr.iterPos w.heap.size = pos := by simp [World.iterPos, h.it]

set_option maxRecDepth 1000000 in
set_option maxHeartbeats 2000000 in
theorem skip_any (s : ByteArray) (at0 : Nat) (w : World) (hat : at0 ≤ s.size) (hs : s.size ≤ 9223372036854775806) :
    Calls Try.prog 15 #[.string s, .int .i64 (at0 : Int)] w fun e w' => e = .returned (.int .i64 ((at0 + skipN false (s.toList.drop at0) : Nat) : Int)) ∧ Keep [] w w' := by
  have hb := get_bt s
  go_enter Try.func15, Try.ntmps15
  go_wp2
  go_step3
  go_wp2
  go_step3
  go_wp2
  go_loopw [1] (fun z wr => ∃ (k : Nat), z = .int .i64 (k : Int) ∧ k ≤ s.size ∧ Hid (Keep [] w wr) ∧ Hid (at0 + skipN false (s.toList.drop at0) = k + skipN false (s.toList.drop k))) (fun z _ => s.size - (intOf z).toNat)
  case atStart => exact ⟨at0, rfl, hat, Keep.refl _ _, rfl⟩
  case round =>
    obtain ⟨k, rfl, hk, hkeep, hsk⟩ := hrel
    by_cases hlt : k < s.size
    · obtain ⟨c, hc, hbc⟩ := bt_drop s k hlt
      have hw0 : wrap32 (bt s k) = bt s k := w32b (bt_nonneg s k) (bt_le s k)
      cases hbl : blankB (bt s k)
      · have hk1 : (classI (bt s k) == 1) = false := by rw [class_blank, hbl]
        cases hpr : ((s.toList.drop k).take 2 == [47, 47])
        · have hz : Hid (skipN false (s.toList.drop k) = 0) := by
            show _ = _
            rw [hc] at hpr ⊢
            exact skip_stop (by rw [← hbc]; exact hbl) hpr
          have hpr' : ((s.extract k s.size).toList.take 2 == [47, 47]) = false := by rw [ext_drop, ba_toList]; exact hpr
          clear hc hbc hpr
          go_wp2_with (first | (go_at_call 27; refine (class_any _ _).mono ?_; rintro e w' ⟨rfl, hw'⟩; obtain rfl := hw'.symm) | (go_at_call 28; refine (prefix_any _ _).mono ?_; rintro e w' ⟨rfl, hw'⟩; obtain rfl := hw'.symm))
          rw [Exit.noGoto_ret]
          go_ret
          exact ⟨by rw [hsk.out, hz.out]; rfl, hkeep.out⟩
        · have hpr' : ((s.extract k s.size).toList.take 2 == [47, 47]) = true := by rw [ext_drop, ba_toList]; exact hpr
          have hex : Hid ((s.extract k s.size).toList = s.toList.drop k) := by show _ = _; rw [ext_drop, ba_toList]
          have hus : Hid ((s.extract k s.size).size = s.size - k) := by show _ = _; rw [← toList_len, hex.out, List.length_drop, toList_len]
          have hst : Hid (skipN false (s.toList.drop k) = skipN true (s.toList.drop k)) := skip_remark hpr
          have h2 : Hid (bt (s.extract k s.size) 0 ≠ 10) := by
            show _ ≠ _
            rw [bt_getD, hex.out]
            intro h
            cases hl : s.toList.drop k with
            | nil => rw [hl] at hpr; simp at hpr
            | cons c t =>
              rw [hl] at hpr h
              cases t with
              | nil => simp at hpr
              | cons d t =>
                simp at hpr
                obtain ⟨rfl, _⟩ := hpr
                simp at h
          clear hc hbc hpr
          go_wp2_with (first | (go_at_call 27; refine (class_any _ _).mono ?_; rintro e w' ⟨rfl, hw'⟩; obtain rfl := hw'.symm) | (go_at_call 28; refine (prefix_any _ _).mono ?_; rintro e w' ⟨rfl, hw'⟩; obtain rfl := hw'.symm))
          generalize hu : s.extract k s.size = u at hex hus hpr' h2 ⊢
          go_loopw [1] (fun z w2 => ∃ (pos : Nat), z = .int .i64 (k : Int) ∧ pos ≤ u.size ∧ Hid (Io wr w2 u pos) ∧ Hid (skipN true (s.toList.drop k) = pos + skipN true (s.toList.drop (k + pos)))) (fun _ w2 => u.size - w2.iterPos wr.heap.size)
          case atStart => exact ⟨0, rfl, Nat.zero_le _, Io.start wr u, by show _ = _; simp⟩
          case round =>
            obtain ⟨pos, rfl, hp, hio, hrel2⟩ := hrel
            have hpos := hio.out.pos
            by_cases hlt2 : pos < u.size
            · have hnx := next_some (P := Try.prog) _ _ u pos hio.out.it hlt2
              have hio2 : Hid _ := hio.out.next (pos + rw' u pos)
              obtain ⟨q1, q2⟩ := rw_pos u pos hlt2
              obtain ⟨d, hd, hbd⟩ := bt_drop u pos hlt2
              rw [hex.out, List.drop_drop, List.drop_drop, ← Nat.add_assoc] at hd
              have hd' : Hid _ := hd
              have hbd' : Hid _ := hbd
              have hus2 := hus.out
              clear hd hbd
              by_cases h10 : rn u pos = 10
              · have hlow : bt u pos < 128 := by
                  rcases Int.lt_or_le (bt u pos) 128 with h | h
                  · exact h
                  · have := (rn_high u pos hlt2 h).1; omega
                have hb10 := (rn_low u pos hlt2 hlow).1
                have hd10 : d = 10 := by apply UInt8.toNat_inj.1; show d.toNat = 10; have := hbd'.out; omega
                have hp0 : pos ≠ 0 := by intro e; subst e; exact h2.out (by omega)
                have hsk2 : Hid (at0 + skipN false (s.toList.drop at0) = k + pos + skipN false (s.toList.drop (k + pos))) := by
                  show _ = _
                  rw [hsk.out, hst.out, hrel2.out, hd'.out, hd10, skipN, skipN, if_pos rfl, if_pos (by decide)]
                  omega
                have hk2 : Hid _ := hkeep.out.trans' hio2.out.keep
                clear hb10 hd10 hlow hd' hbd' hsk hst hrel2
                rw [h10] at hnx
                go_wp2
                go_roundw
                case rel => exact ⟨k + pos, by go_num, by omega, hk2, hsk2⟩
                case measure => simp [intOf]; omega
              · have hrel3 : Hid (skipN true (s.toList.drop k) = pos + rw' u pos + skipN true (s.toList.drop (k + (pos + rw' u pos)))) := by
                  show _ = _
                  rw [hrel2.out]
                  have e := take_rw u pos (rw' u pos) q2
                  rw [hex.out, List.drop_drop, List.drop_drop] at e
                  have hne : ∀ x ∈ (s.toList.drop (k + pos)).take (rw' u pos), x ≠ 10 := by
                    intro x hx
                    rcases Int.lt_or_le (bt u pos) 128 with h | h
                    · have e1 := rn_low u pos hlt2 h
                      rw [e1.2, hd'.out] at hx
                      simp at hx
                      subst hx
                      intro h3
                      subst h3
                      apply h10
                      rw [e1.1, hbd'.out]
                      rfl
                    · have e1 := high_mem u pos (rw' u pos) q2 (rn_high u pos hlt2 h).2.2.2
                      rw [hex.out, List.drop_drop] at e1
                      have := e1 x hx
                      intro h3
                      subst h3
                      simp at this
                  rw [e.1, skip_true_plain _ _ hne, e.2]
                  omega
                clear hd' hbd' hrel2 hsk hst
                go_wp2
                go_roundw
                case rel => exact ⟨pos + rw' u pos, rfl, q2, hio2, hrel3⟩
                case measure => rw [hio2.out.pos, hpos]; omega
            · have hnx := next_none (P := Try.prog) _ _ u pos hio.out.it hlt2
              have hz : Hid (at0 + skipN false (s.toList.drop at0) = s.size) := by
                show _ = _
                have := hus.out
                rw [hsk.out, hst.out, hrel2.out, List.drop_eq_nil_of_le (by rw [toList_len]; omega)]
                simp only [skipN]
                omega
              go_wp2
              rw [Exit.noGoto_ret]
              go_ret
              exact ⟨by rw [hz.out]; rfl, hkeep.out.trans' hio.out.keep⟩
      · have hk1 : (classI (bt s k) == 1) = true := by rw [class_blank, hbl]
        have hsk2 : Hid (at0 + skipN false (s.toList.drop at0) = k + 1 + skipN false (s.toList.drop (k + 1))) := by
          show _ = _
          rw [hsk.out, hc, skip_blank (by rw [← hbc]; exact hbl)]
          omega
        clear hc hbc hsk
        go_wp2_with (go_at_call 27; refine (class_any _ _).mono ?_; rintro e w' ⟨rfl, hw'⟩; obtain rfl := hw'.symm)
        go_roundw
        case rel => exact ⟨k + 1, by go_num, by omega, hkeep, hsk2⟩
        case measure => simp [intOf]; omega
    · have hz : Hid (at0 + skipN false (s.toList.drop at0) = k) := by
        show _ = _
        rw [hsk.out, drop_end s k hlt]
        simp [skipN]
      go_wp2
      rw [Exit.noGoto_ret]
      go_ret
      exact ⟨by rw [hz.out]; rfl, hkeep.out⟩
end Go.Proofs.Ytmglbcldjhdhkab

