/- Is it too much: just if the bulk of all is above 2^30. -/
import Derived.Test.YtcmembmaaebdeabPutA
import Derived.Deep.QuietTactic
import Derived.BigQuiet
namespace Go.Proofs.Ytcmembmaaebdeab
open Go.RowKit Go.PlainAid Go.Lib

theorem take_put (l : List PutD) (i : Nat) (h : i < l.length) : l.take (i + 1) = l.take i ++ [l[i]] := by rw [List.take_add_one, List.getElem?_eq_getElem h]; rfl
theorem bulk_step (l : List PutD) (i : Nat) (h : i < l.length) : bulkAll (l.take (i + 1)) = bulkAll (l.take i) + l[i].bulk := by
  rw [take_put l i h, bulkAll_append]
  simp [bulkAll]
theorem bulk_take_le (l : List PutD) (i : Nat) : bulkAll (l.take i) ≤ bulkAll l := by
  have := bulkAll_append (l.take i) (l.drop i)
  rw [List.take_append_drop] at this
  omega

set_option maxRecDepth 1000000 in
set_option maxHeartbeats 6400000 in
theorem tooMuch_any (v : Value) (l : List PutD) (w : World) (hv : Puts w v l) (hsz : ∀ p ∈ l, p.text.size ≤ 140737488355328 ∧ p.raw.length ≤ 140737488355328) :
    Calls Try.prog 13 #[v] w fun e w' => e = .returned (.bool (decide (1073741824 < bulkAll l))) ∧ ∃ n, w' = w.drewN n := by
  obtain ⟨ao, cap, rfl, hlc, hcm, hex⟩ := hv.ex
  have HV := hv
  clear hv
  go_enter Try.func13, Try.ntmps13
  go_wp2
  go_loopw [3, 4] (fun lv iv wr => ∃ i n : Nat, iv = .int .i64 (i : Int) ∧ i ≤ l.length ∧ lv = .int .i64 ((1073741824 : Int) - (bulkAll (l.take i) : Int)) ∧ bulkAll (l.take i) ≤ 1073741824 ∧ wr = w.drewN n) (fun _ iv _ => l.length - (intOf iv).toNat)
  case atStart => exact ⟨0, 0, rfl, Nat.zero_le _, by simp [bulkAll], by simp [bulkAll], rfl⟩
  case round =>
    obtain ⟨i, nn, rfl, hi, rfl, hb, rfl⟩ := hrel
    by_cases hil : i < l.length
    · obtain ⟨b, o, rfl, hat⟩ := hex (by intro hz; rw [hz] at hil; simp at hil)
      have hA := hat i hil
      have hs := bulk_step l i hil
      have hz := hsz l[i] (List.getElem_mem hil)
      have hle := bulk_take_le l (i + 1)
      have c5 := hA.text
      obtain ⟨u, c6, hu⟩ := hA.raw
      obtain ⟨au, cu, rfl, hu1, hu2, _, _⟩ := hu.ex
      unfold PutD.bulk at hs
      have hili : (i : Int) < (l.length : Int) := by omega
      generalize l[i] = p at hs hz c5 c6 hA hu hu1
      generalize p.text = tx at hs hz c5
      generalize p.raw.length = rl at hs hz c6 hu1
      clear hA hu hat hex hsz HV
      generalize bulkAll (l.take i) = B at hb hs ⊢
      have HS : Hid (bulkAll (l.take (i + 1)) = B + (16 + tx.size + rl) ∧ bulkAll (l.take (i + 1)) ≤ bulkAll l) := ⟨hs, hle⟩
      clear hs hle
      by_cases hlt : (1073741824 : Int) - B - 16 - tx.size - rl < 0
      · go_wp2
        go_quiet (fail)
        go_wp2
        go_ret
        refine ⟨?_, _, rfl⟩
        have HD : decide (1073741824 < bulkAll l) = true := by
          have := HS.out
          simp only [decide_eq_true_eq]
          omega
        rw [HD]
        rfl
      · go_wp2
        go_quiet (fail)
        go_wp2
        go_roundw
        case rel =>
          have := HS.out
          exact ⟨i + 1, _, by go_num, by omega, by rw [this.1]; congr 1; omega, by omega, rfl⟩
        case measure => simp [intOf]; omega
    · have hili : ¬ ((i : Int) < (l.length : Int)) := by omega
      rw [List.take_of_length_le (by omega)] at hb
      have HD : Hid (decide (1073741824 < bulkAll l) = false) := by
        show decide (1073741824 < bulkAll l) = false
        simp; omega
      clear hex HV
      go_wp2
      go_ret
      exact ⟨by rw [HD.out]; rfl, nn, rfl⟩

end Go.Proofs.Ytcmembmaaebdeab

