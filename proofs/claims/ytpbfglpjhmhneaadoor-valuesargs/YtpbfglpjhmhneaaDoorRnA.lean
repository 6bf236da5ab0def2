/- What Name of the document's answer answers, for every text, where its table of words lies in memory. -/
import Derived.Test.YtpbfglpjhmhneaaDoorINameW
import Derived.Test.YtpbfglpjhmhneaaDoorRvA
namespace Go.Proofs.YtpbfglpjhmhneaaDoor
open Go.RowKit Go.PlainAid

def ba (l : List UInt8) : ByteArray := ⟨l.toArray⟩
theorem ba_toList (l : List UInt8) : (ba l).toList = l := ByteArray.toList_mk l
def wordsL : List (List UInt8) := [[116, 121, 112, 101], [114, 101, 108, 97, 116, 105, 111, 110], [99, 111, 110, 100], [111, 114], [97, 110, 100], [110, 111, 116], [102, 114, 111, 109], [119, 105, 116, 104], [105, 110], [116, 114, 117, 101], [102, 97, 108, 115, 101], [110, 97, 110], [105, 110, 102]]
def wordAt (k : Nat) : List UInt8 := wordsL.getD k []
def Words (w : World) : Prop := ∀ k, k < 13 → w.cell? ⟨0, k, none⟩ = some (.string (ba (wordAt k)))
theorem Words.below {w w' : World} (h : Words w) (hb : Below w.heap.size w w') : Words w' := fun k hk => by
  rw [hb.cell (p := ⟨0, k, none⟩) (World.block_lt_of_cell? w _ (h k hk))]; exact h k hk
theorem Words.alloc {w : World} (h : Words w) {X : Obj} : Words (w.alloc X) := h.below ((Below.refl _ _).alloc (Nat.le_refl _) _)
theorem Words.drewN {w : World} (h : Words w) {n : Nat} : Words (w.drewN n) := h.below (below_drewN (Below.refl _ _) n)

theorem res_words (l : List UInt8) : resL l = wordsL.any (· == l) := by
  unfold resL wordsL
  simp only [List.any_cons, List.any_nil, Bool.or_false, Bool.or_assoc]
  simp only [Bool.beq_comm]
theorem res_at {l : List UInt8} {k : Nat} (hk : k < 13) (h : wordAt k = l) : resL l = true := by
  rw [res_words, List.any_eq_true]
  refine ⟨wordAt k, ?_, by simp [h]⟩
  unfold wordAt
  have : k < wordsL.length := hk
  rw [List.getD_eq_getElem?_getD, List.getElem?_eq_getElem this]
  exact List.getElem_mem this
theorem res_none {l : List UInt8} (h : ∀ k, k < 13 → wordAt k ≠ l) : resL l = false := by
  rw [res_words, List.any_eq_false]
  intro x hx
  obtain ⟨k, hk, rfl⟩ := List.getElem_of_mem hx
  have := h k hk
  unfold wordAt at this
  rw [List.getD_eq_getElem?_getD, List.getElem?_eq_getElem hk] at this
  simpa using this

set_option maxHeartbeats 400000 in
theorem rsmall_any (c : Int) (w : World) :
    Calls Tryd.prog 65 #[.int .u8 c] w fun e w' => e = .returned (.bool (smallB c)) ∧ w' = w := by
  by_cases h1 : 97 ≤ c <;> by_cases h2 : c ≤ 122
  all_goals
    have hb : smallB c = (decide (97 ≤ c) && decide (c ≤ 122)) := rfl
    simp only [h1, h2, decide_true, decide_false, Bool.and_true, Bool.and_false] at hb
    rw [hb]; clear hb
    go_enter Tryd.func65, Tryd.ntmps65
    go_wp2
    go_ret
    exact ⟨rfl, rfl⟩
set_option maxHeartbeats 400000 in
theorem rdigit_any (c : Int) (w : World) :
    Calls Tryd.prog 66 #[.int .u8 c] w fun e w' => e = .returned (.bool (digitB c)) ∧ w' = w := by
  by_cases h1 : 48 ≤ c <;> by_cases h2 : c ≤ 57
  all_goals
    have hb : digitB c = (decide (48 ≤ c) && decide (c ≤ 57)) := rfl
    simp only [h1, h2, decide_true, decide_false, Bool.and_true, Bool.and_false] at hb
    rw [hb]; clear hb
    go_enter Tryd.func66, Tryd.ntmps66
    go_wp2
    go_ret
    exact ⟨rfl, rfl⟩

set_option maxHeartbeats 1000000 in
theorem rname_any (s : ByteArray) (w : World) (hW : Words w) :
    Calls Tryd.prog 41 #[.string s] w fun e w' => e = .returned (.bool (nameL s.toList)) ∧ w' = w := by
  have hb := get_bt s
  have hba := ba_toList
  have HW : Hid (∀ k, k < 13 → w.cell? ⟨0, k, none⟩ = some (.string (ba (wordAt k)))) := hW
  clear hW
  have HL : Hid (nameL s.toList = (decide (1 ≤ s.size) && decide (s.size ≤ 32) && smallB (bt s 0) && !resL s.toList && s.toList.all (fun c => inNameB (c.toNat : Int)))) := by
    show _ = _
    rw [bt_hd, ← toList_len]; rfl
  by_cases h0 : s.size < 1
  · have z0 : (s.size : Int) < 1 := by omega
    go_enter Tryd.func41, Tryd.ntmps41
    go_wp2
    go_ret
    exact ⟨ret_bool (by rw [HL.out, show decide (1 ≤ s.size) = false from decide_eq_false (by omega)]; simp), rfl⟩
  have z0 : ¬ (s.size : Int) < 1 := by omega
  by_cases h1 : 32 < s.size
  · have z1 : (32 : Int) < (s.size : Int) := by omega
    go_enter Tryd.func41, Tryd.ntmps41
    go_wp2
    go_ret
    exact ⟨ret_bool (by rw [HL.out]; simp; omega), rfl⟩
  have z1 : ¬ (32 : Int) < (s.size : Int) := by omega
  cases h2 : smallB (bt s 0)
  · go_enter Tryd.func41, Tryd.ntmps41
    go_wp2_with (go_at_call 65; refine (rsmall_any _ _).mono ?_; rintro e w9 ⟨rfl, hw⟩; obtain rfl := hw.symm)
    go_ret
    exact ⟨ret_bool (by rw [HL.out, h2]; simp), rfl⟩
  go_enter Tryd.func41, Tryd.ntmps41
  go_wp2_with (go_at_call 65; refine (rsmall_any _ _).mono ?_; rintro e w9 ⟨rfl, hw⟩; obtain rfl := hw.symm)
  go_loop [3] (fun i => ∃ k : Nat, k ≤ s.size ∧ i = .int .i64 k ∧ Hid (∀ j, j < k → inNameB (bt s j) = true)) (fun i => s.size - (intOf i).toNat)
  case atStart => exact ⟨0, Nat.zero_le _, rfl, fun j hj => absurd hj (Nat.not_lt_zero j)⟩
  case round =>
    obtain ⟨k, hk, rfl, hall⟩ := hrel
    by_cases hlt : k < s.size
    · have HN : Hid (inNameB (bt s k) = (smallB (bt s k) || digitB (bt s k) || bt s k == 95)) := rfl
      cases hs : smallB (bt s k)
      · cases hd : digitB (bt s k)
        · cases hu : (bt s k == 95)
          · have hu' : (bt s k != 95) = true := by rw [bne, hu]; rfl
            go_wp2_with (first | (go_at_call 65; refine (rsmall_any _ _).mono ?_; rintro e w9 ⟨rfl, hw⟩; obtain rfl := hw.symm) | (go_at_call 66; refine (rdigit_any _ _).mono ?_; rintro e w9 ⟨rfl, hw⟩; obtain rfl := hw.symm))
            go_ret
            exact ⟨ret_bool (by rw [HL.out, all_not inNameB s k hlt (by rw [HN.out, hs, hd, hu]; rfl)]; simp), rfl⟩
          · have hu' : (bt s k != 95) = false := by rw [bne, hu]; rfl
            go_wp2_with (first | (go_at_call 65; refine (rsmall_any _ _).mono ?_; rintro e w9 ⟨rfl, hw⟩; obtain rfl := hw.symm) | (go_at_call 66; refine (rdigit_any _ _).mono ?_; rintro e w9 ⟨rfl, hw⟩; obtain rfl := hw.symm))
            go_round
            case rel => exact ⟨k + 1, by omega, by go_num, fun j hj => (by
              by_cases e : j = k
              · rw [e, HN.out, hs, hd, hu]; rfl
              · exact hall.out j (by omega))⟩
            case measure => simp [intOf]; omega
        · go_wp2_with (first | (go_at_call 65; refine (rsmall_any _ _).mono ?_; rintro e w9 ⟨rfl, hw⟩; obtain rfl := hw.symm) | (go_at_call 66; refine (rdigit_any _ _).mono ?_; rintro e w9 ⟨rfl, hw⟩; obtain rfl := hw.symm))
          go_round
          case rel => exact ⟨k + 1, by omega, by go_num, fun j hj => (by
            by_cases e : j = k
            · rw [e, HN.out, hs, hd]; rfl
            · exact hall.out j (by omega))⟩
          case measure => simp [intOf]; omega
      · go_wp2_with (first | (go_at_call 65; refine (rsmall_any _ _).mono ?_; rintro e w9 ⟨rfl, hw⟩; obtain rfl := hw.symm) | (go_at_call 66; refine (rdigit_any _ _).mono ?_; rintro e w9 ⟨rfl, hw⟩; obtain rfl := hw.symm))
        go_round
        case rel => exact ⟨k + 1, by omega, by go_num, fun j hj => (by
          by_cases e : j = k
          · rw [e, HN.out, hs]; rfl
          · exact hall.out j (by omega))⟩
        case measure => simp [intOf]; omega
    · have HA : Hid (s.toList.all (fun c => inNameB (c.toNat : Int)) = true) := all_of inNameB s (fun j hj => hall.out j (by omega))
      clear hall
      go_wp2
      go_loop [4] (fun i => ∃ k : Nat, k ≤ 13 ∧ i = .int .i64 k ∧ Hid (∀ j, j < k → wordAt j ≠ s.toList)) (fun i => 13 - (intOf i).toNat)
      case atStart => exact ⟨0, by omega, rfl, fun j hj => absurd hj (Nat.not_lt_zero j)⟩
      case round =>
        obtain ⟨q, hq, rfl, hal2⟩ := hrel
        by_cases hlq : q < 13
        · have hcell := HW.out q hlq
          cases hc : (wordAt q == s.toList)
          · go_wp2
            go_round
            case rel => exact ⟨q + 1, by omega, by go_num, fun j hj => (by
              by_cases e : j = q
              · rw [e]; simpa using hc
              · exact hal2.out j (by omega))⟩
            case measure => simp [intOf]; omega
          · go_wp2
            go_ret
            exact ⟨ret_bool (by rw [HL.out, res_at hlq (by simpa using hc)]; simp), rfl⟩
        · go_wp2
          go_ret
          exact ⟨ret_bool (by rw [HL.out, h2, HA.out, res_none (fun j hj => hal2.out j (by omega))]; simp; omega), rfl⟩
theorem Words.keep {w w' : World} {F : List Nat} (h : Words w) (k : Keep F w w') (h0 : 0 ∉ F) : Words w' := fun i hi => k.cell' (h i hi) h0
end Go.Proofs.YtpbfglpjhmhneaaDoor
