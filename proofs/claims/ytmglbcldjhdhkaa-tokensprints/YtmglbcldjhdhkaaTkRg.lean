/- The document's skip. -/
import Derived.Test.YtmglbcldjhdhkaaTkRf
namespace Go.Proofs.Ytmglbcldjhdhkaa
open Go.RowKit Go.PlainAid

set_option maxRecDepth 1000000 in
set_option maxHeartbeats 1000000 in
theorem rskip_any (s : ByteArray) (a : Nat) (w : World) (ha : a ≤ s.size) (hs : s.size ≤ 140737488355328) :
    Calls Try.prog 32 #[.string s, .int .i64 (a : Int)] w fun e w' => e = .returned (.int .i64 ((a + skipN false (s.toList.drop a) : Nat) : Int)) ∧ w' = w := by
  have HG : Hid (∀ i (h : i < s.size), ((s[i]'h).toNat : Int) = bt s i) := get_bt s
  have hB : Hid (∀ (c : UInt8) w, Calls Try.prog 54 #[.int .u8 (c.toNat : Int)] w fun e w' => e = .returned (.bool (blankB (c.toNat : Int))) ∧ w' = w) := fun c w => rblank_any _ w
  obtain ⟨R, hR⟩ : ∃ R, R = a + skipN false (s.toList.drop a) := ⟨_, rfl⟩
  rw [← hR]
  have hR0 : Hid (R = a + skipN false (s.toList.drop a)) := hR
  clear hR
  go_enter Try.func32, Try.ntmps32
  go_wp2
  go_loopw [1] (fun z1 wr => ∃ (k : Nat), z1 = .int .i64 (k : Int) ∧ k ≤ s.size ∧ wr = w ∧ Hid (R = k + skipN false (s.toList.drop k))) (fun z1 _ => s.size - (intOf z1).toNat)
  case atStart => exact ⟨a, rfl, ha, rfl, hR0⟩
  case round =>
    clear hR0
    obtain ⟨k, rfl, hk, rfl, hI⟩ := hrel
    by_cases hlt : k < s.size
    · have hlti : (k : Int) < (s.size : Int) := by omega
      obtain ⟨c, hc, hb2⟩ := bt_drop s k hlt
      have hgc : ((s[k]'hlt).toNat : Int) = (c.toNat : Int) := (HG.out k hlt).trans hb2
      have hdr : Hid _ := hc
      clear hc hb2
      cases hbl : blankB (c.toNat : Int)
      rotate_left
      · have hv : Hid (R = (k + 1) + skipN false (s.toList.drop (k + 1))) := by
          show _ = _
          rw [hI.out, hdr.out, skipN, if_pos hbl]
          omega
        clear hI
        go_wp2_with (go_at_call 54; refine (hB.out c _).mono ?_; rintro e w' ⟨rfl, rfl⟩; rw [hbl])
        go_roundw
        case rel => exact ⟨k + 1, by go_num, by omega, trivial, hv⟩
        case measure => simp [intOf]; omega
      · by_cases hsl : c = 47 ∧ (s.toList.drop (k + 1)).head? = some 47
        · obtain ⟨h47, hh⟩ := hsl
          have hlt2 : k + 1 < s.size := by
            by_cases e : k + 1 < s.size
            · exact e
            · rw [List.drop_of_length_le (by rw [toList_len]; omega)] at hh; simp at hh
          have hlt2i : (k : Int) + 1 < (s.size : Int) := by omega
          obtain ⟨d, hd, hb3⟩ := bt_drop s (k + 1) hlt2
          have hd47 : d = 47 := by rw [hd] at hh; simpa using hh
          have hgd : ((s[k + 1]'hlt2).toNat : Int) = (d.toNat : Int) := (HG.out (k + 1) hlt2).trans hb3
          have e47 : ((c.toNat : Int) == 47) = true := by rw [h47]; rfl
          have d47 : ((d.toNat : Int) == 47) = true := by rw [hd47]; rfl
          have hv : Hid (R = k + skipN true (s.toList.drop k)) := by
            show _ = _
            rw [hI.out, hdr.out, skipN, if_neg (by simp [hbl]), if_pos ⟨h47, hh⟩, skipN, if_neg (by rw [h47]; decide)]
          have h10 : Hid (∃ c', s.toList.drop k = c' :: s.toList.drop (k + 1) ∧ c' ≠ 10) := ⟨c, hdr.out, by rw [h47]; decide⟩
          clear hI hd hb3 hd47 hh h47
          go_wp2_with (go_at_call 54; refine (hB.out c _).mono ?_; rintro e w' ⟨rfl, rfl⟩; rw [hbl])
          clear hgd hgc hlt2i hlt2 e47 d47 hbl
          go_loopw [1] (fun z1 wq => ∃ (j : Nat), z1 = .int .i64 (j : Int) ∧ (k ≤ j ∧ j ≤ s.size) ∧ wq = w' ∧ Hid (R = j + skipN true (s.toList.drop j))) (fun z1 _ => s.size - (intOf z1).toNat)
          case atStart => exact ⟨k, rfl, ⟨Nat.le_refl _, hk⟩, rfl, hv⟩
          case round =>
            clear hv
            obtain ⟨j, rfl, ⟨hkj, hj⟩, rfl, hJ⟩ := hrel
            by_cases hjl : j < s.size
            · have hjli : (j : Int) < (s.size : Int) := by omega
              obtain ⟨d, hd, hb3⟩ := bt_drop s j hjl
              have hgd : ((s[j]'hjl).toNat : Int) = (d.toNat : Int) := (HG.out j hjl).trans hb3
              by_cases hd10 : d = 10
              · have d10 : ((d.toNat : Int) != 10) = false := by rw [hd10]; rfl
                have hnx : Hid (R = j + skipN false (s.toList.drop j)) := by
                  show _ = _
                  have e1 : skipN true (d :: s.toList.drop (j + 1)) = skipN false (s.toList.drop (j + 1)) + 1 := by rw [skipN, if_pos hd10]
                  have e2 : skipN false (d :: s.toList.drop (j + 1)) = skipN false (s.toList.drop (j + 1)) + 1 := by rw [skipN, if_pos (by rw [hd10]; decide)]
                  rw [hJ.out, hd, e1, e2]
                have hkj2 : k < j := by
                  rcases Nat.lt_or_ge k j with e | e
                  · exact e
                  · exfalso
                    have e2 : j = k := by omega
                    subst e2
                    obtain ⟨c', hc', hn'⟩ := h10.out
                    rw [hd] at hc'
                    simp only [List.cons.injEq] at hc'
                    exact hn' (hc'.1 ▸ hd10)
                clear hd hb3 hd10 hJ
                go_wp2
                go_roundw
                case rel => exact ⟨j, rfl, hj, trivial, hnx⟩
                case measure => simp [intOf]; omega
              · have d10 : ((d.toNat : Int) != 10) = true := by
                  have := eqc d 10
                  rw [decide_eq_false hd10] at this
                  have e2 : ((d.toNat : Int) == 10) = false := this
                  simp [bne, e2]
                have hnx : Hid (R = (j + 1) + skipN true (s.toList.drop (j + 1))) := by
                  show _ = _
                  rw [hJ.out, hd, skipN, if_neg hd10]
                  omega
                clear hd hb3 hd10 hJ
                go_wp2
                go_roundw
                case rel => exact ⟨j + 1, by go_num, by omega, trivial, hnx⟩
                case measure => simp [intOf]; omega
            · have hjli : ¬ (j : Int) < (s.size : Int) := by omega
              have hnx : Hid (R = j + skipN false (s.toList.drop j)) := by
                show _ = _
                rw [hJ.out, List.drop_of_length_le (by rw [toList_len]; omega)]
                rfl
              clear hJ
              go_wp2
              go_roundw
              case rel => exact ⟨j, rfl, hj, trivial, hnx⟩
              case measure => simp [intOf]; omega
        · have hv : Hid (R = k) := by
            show _ = _
            rw [hI.out, hdr.out, skipN, if_neg (by simp [hbl]), if_neg hsl]
            rfl
          by_cases h47 : c = 47
          · have e47 : ((c.toNat : Int) == 47) = true := by rw [h47]; rfl
            by_cases hlt2 : k + 1 < s.size
            · have hlt2i : (k : Int) + 1 < (s.size : Int) := by omega
              obtain ⟨d, hd, hb3⟩ := bt_drop s (k + 1) hlt2
              have hd47 : ¬ d = 47 := fun e => hsl ⟨h47, by rw [hd, e]; rfl⟩
              have hgd : ((s[k + 1]'hlt2).toNat : Int) = (d.toNat : Int) := (HG.out (k + 1) hlt2).trans hb3
              have d47 : ((d.toNat : Int) == 47) = false := by
                have := eqc d 47
                rw [decide_eq_false hd47] at this
                exact this
              clear hI hd hb3 hd47 h47 hsl
              go_wp2_with (go_at_call 54; refine (hB.out c _).mono ?_; rintro e w' ⟨rfl, rfl⟩; rw [hbl])
              go_ret
              exact ⟨by rw [hv.out]; rfl, rfl⟩
            · have hlt2i : ¬ (k : Int) + 1 < (s.size : Int) := by omega
              clear hI h47 hsl
              go_wp2_with (go_at_call 54; refine (hB.out c _).mono ?_; rintro e w' ⟨rfl, rfl⟩; rw [hbl])
              go_ret
              exact ⟨by rw [hv.out]; rfl, rfl⟩
          · have e47 : ((c.toNat : Int) == 47) = false := by
              have := eqc c 47
              rw [decide_eq_false h47] at this
              exact this
            by_cases hlt2 : k + 1 < s.size
            · have hlt2i : (k : Int) + 1 < (s.size : Int) := by omega
              clear hI h47 hsl
              go_wp2_with (go_at_call 54; refine (hB.out c _).mono ?_; rintro e w' ⟨rfl, rfl⟩; rw [hbl])
              go_ret
              exact ⟨by rw [hv.out]; rfl, rfl⟩
            · have hlt2i : ¬ (k : Int) + 1 < (s.size : Int) := by omega
              clear hI h47 hsl
              go_wp2_with (go_at_call 54; refine (hB.out c _).mono ?_; rintro e w' ⟨rfl, rfl⟩; rw [hbl])
              go_ret
              exact ⟨by rw [hv.out]; rfl, rfl⟩
    · have hlti : ¬ (k : Int) < (s.size : Int) := by omega
      have hv : Hid (R = k) := by
        show _ = _
        rw [hI.out, List.drop_of_length_le (by rw [toList_len]; omega)]
        rfl
      clear hI
      go_wp2
      go_ret
      exact ⟨by rw [hv.out]; rfl, rfl⟩
end Go.Proofs.Ytmglbcldjhdhkaa
