/- The document's said: the number that digits and a power of ten say (ParM). -/
import Derived.Test.YtnljpbpphdhnpaaGreatDoorParN
import Derived.Deep.QuietTactic
import Derived.BigQuiet
namespace Go.Proofs.YtnljpbpphdhnpaaGreatDoor
open Go.RowKit Go.PlainAid

theorem big_one2 (w : World) (o : Obj) : Big ((w.alloc o).alloc (.cells #[.int .i64 1] TI)) (.slice (some ⟨w.heap.size + 1, 0, none⟩) 1 1) 1 1000 := by
  have := (Big.one (w.alloc o)).mono (show 1 ≤ 1000 by decide)
  simpa using this
set_option maxRecDepth 1000000 in
set_option maxHeartbeats 3200000 in
theorem said_empty (s : ByteArray) (e : Int) (w : World) (hs : s.size ≤ 2000000000) (hA : ∀ j, j < s.size → bt s j = 48) :
    Calls Tryz.prog 34 #[.string s, .int .i64 e] w fun r w' => ∃ va vb, r = .returned (.tuple #[.agg #[va, vb], .bool true]) ∧ (Big w' va 0 1000 ∧ Big w' vb 1 1000) ∧ Keep [] w w' := by
  have HG : Hid (∀ i (h : i < s.size), ((s[i]'h).toNat : Int) = bt s i) := get_bt s
  have HA : Hid (∀ j, j < s.size → bt s j = 48) := hA
  clear hA
  go_enter Tryz.func34, Tryz.ntmps34
  go_wp2
  go_loop [6] (fun i => ∃ j : Nat, j ≤ s.size ∧ i = .int .i64 j) (fun i => s.size - (intOf i).toNat)
  case atStart => exact ⟨0, Nat.zero_le _, rfl⟩
  case round =>
    obtain ⟨j, hj, rfl⟩ := hrel
    by_cases hja : j < s.size
    · have hji : (j : Int) < (s.size : Int) := by omega
      have gj : ((s[j]'hja).toNat : Int) = 48 := (HG.out j hja).trans (HA.out j hja)
      go_wp2
      go_round
      case rel => exact ⟨j + 1, by omega, by go_num⟩
      case measure => simp [intOf]; omega
    · obtain rfl : j = s.size := by omega
      clear hj hja
      go_wp2
      refine bodyPost_ret (v := .tuple #[.agg #[.slice none 0 0, .slice (some ⟨w.heap.size + 1, 0, none⟩) 1 1], .bool true]) (by simp [results, Tryz.results34, go_sem]) rfl ⟨_, _, rfl, ⟨⟨[], (Rw.nil _).bs, Lim.nil, Nrm.nil, rfl, by simp⟩, big_one2 w _⟩, (Keep.alloc1 w _).alloc _⟩
set_option maxRecDepth 1000000 in
set_option maxHeartbeats 3200000 in
theorem said_low (s f : ByteArray) (z : Nat) (e : Int) (w : World) (hs : s.size ≤ 2000000000) (he : -2000000000000 ≤ e ∧ e ≤ 2000000000000) (hze : z < s.size) (hA : ∀ j, j < z → bt s j = 48) (hzn : Hid (bt s z ≠ 48)) (hf : s.extract z s.size = f) (hfs : f.size = s.size - z) (hn : f.toList.isEmpty = false) (ho : (f.size : Int) + e < -100) :
    Calls Tryz.prog 34 #[.string s, .int .i64 e] w fun r w' => ∃ va vb, r = .returned (.tuple #[.agg #[va, vb], .bool true]) ∧ (Big w' va 0 1000 ∧ Big w' vb 1 1000) ∧ Keep [] w w' := by
  have HG : Hid (∀ i (h : i < s.size), ((s[i]'h).toNat : Int) = bt s i) := get_bt s
  have HA : Hid (∀ j, j < z → bt s j = 48) := hA
  have HF : Hid (f.size = s.size - z) := hfs
  clear hA
  obtain ⟨e1, e2⟩ := he
  have hfl : (f.size : Int) ≤ 2000000000 := by omega
  clear hfs
  go_enter Tryz.func34, Tryz.ntmps34
  go_wp2
  go_loop [6] (fun i => ∃ j : Nat, j ≤ z ∧ i = .int .i64 j) (fun i => z - (intOf i).toNat)
  case atStart => exact ⟨0, Nat.zero_le _, rfl⟩
  case round =>
    obtain ⟨j, hj, rfl⟩ := hrel
    by_cases hja : j < z
    · have hjs : j < s.size := by omega
      have hji : (j : Int) < (s.size : Int) := by omega
      have gj : ((s[j]'hjs).toNat : Int) = 48 := (HG.out j hjs).trans (HA.out j hja)
      go_wp2
      go_round
      case rel => exact ⟨j + 1, by omega, by go_num⟩
      case measure => simp [intOf]; omega
    · obtain rfl : z = j := by omega
      clear hj hja
      have hz2 : (z : Int) ≤ (s.size : Int) := by omega
      have hzi : (z : Int) < (s.size : Int) := by omega
      have gz : ((s[z]'hze).toNat : Int) = bt s z := HG.out z hze
      have hzb : (bt s z == 48) = false := by rw [beq_eq_false_iff_ne]; exact hzn.out
      clear hzn
      generalize bt s z = cz at *
      go_wp2
      refine bodyPost_ret (v := .tuple #[.agg #[.slice none 0 0, .slice (some ⟨w.heap.size + 1, 0, none⟩) 1 1], .bool true]) (by simp [results, Tryz.results34, go_sem]) rfl ⟨_, _, rfl, ⟨⟨[], (Rw.nil _).bs, Lim.nil, Nrm.nil, rfl, by simp⟩, big_one2 w _⟩, (Keep.alloc1 w _).alloc _⟩
set_option maxRecDepth 1000000 in
set_option maxHeartbeats 3200000 in
theorem said_over (s f : ByteArray) (z : Nat) (e : Int) (w : World) (hs : s.size ≤ 2000000000) (he : -2000000000000 ≤ e ∧ e ≤ 2000000000000) (hze : z < s.size) (hA : ∀ j, j < z → bt s j = 48) (hzn : Hid (bt s z ≠ 48)) (hf : s.extract z s.size = f) (hfs : f.size = s.size - z) (hn : f.toList.isEmpty = false) (ho : 100 < (f.size : Int) + e) :
    Calls Tryz.prog 34 #[.string s, .int .i64 e] w fun r w' => r = .returned (.tuple #[.agg #[.slice none 0 0, .slice none 0 0], .bool false]) ∧ Keep [] w w' := by
  have HG : Hid (∀ i (h : i < s.size), ((s[i]'h).toNat : Int) = bt s i) := get_bt s
  have HA : Hid (∀ j, j < z → bt s j = 48) := hA
  have HF : Hid (f.size = s.size - z) := hfs
  clear hA
  obtain ⟨e1, e2⟩ := he
  have hfl : (f.size : Int) ≤ 2000000000 := by omega
  clear hfs
  go_enter Tryz.func34, Tryz.ntmps34
  go_wp2
  go_loop [6] (fun i => ∃ j : Nat, j ≤ z ∧ i = .int .i64 j) (fun i => z - (intOf i).toNat)
  case atStart => exact ⟨0, Nat.zero_le _, rfl⟩
  case round =>
    obtain ⟨j, hj, rfl⟩ := hrel
    by_cases hja : j < z
    · have hjs : j < s.size := by omega
      have hji : (j : Int) < (s.size : Int) := by omega
      have gj : ((s[j]'hjs).toNat : Int) = 48 := (HG.out j hjs).trans (HA.out j hja)
      go_wp2
      go_round
      case rel => exact ⟨j + 1, by omega, by go_num⟩
      case measure => simp [intOf]; omega
    · obtain rfl : z = j := by omega
      clear hj hja
      have hz2 : (z : Int) ≤ (s.size : Int) := by omega
      have hzi : (z : Int) < (s.size : Int) := by omega
      have gz : ((s[z]'hze).toNat : Int) = bt s z := HG.out z hze
      have hzb : (bt s z == 48) = false := by rw [beq_eq_false_iff_ne]; exact hzn.out
      clear hzn
      generalize bt s z = cz at *
      go_wp2
      refine bodyPost_ret (v := .tuple #[.agg #[.slice none 0 0, .slice none 0 0], .bool false]) (by simp [results, Tryz.results34, go_sem]) rfl ⟨rfl, Keep.alloc1 w _⟩
end Go.Proofs.YtnljpbpphdhnpaaGreatDoor
