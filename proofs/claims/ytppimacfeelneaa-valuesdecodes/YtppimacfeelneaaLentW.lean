/- Lists that are lent with marksB behind them: what is lent, and that it is as it was. -/
import Derived.Test.YtppimacfeelneaaSameV
import Derived.Test.YtppimacfeelneaaFirst4
import Derived.Deep.QuietTactic
import Derived.BigQuiet
import Derived.Test.YtppimacfeelneaaBigM
namespace Go.Proofs.Ytppimacfeelneaa
open Go.RowKit Go.PlainAid Go.Lib

theorem Bs.byte (w : World) (x : UInt8) : Bs (w.alloc (.cells #[.int .u8 (x.toNat : Int)] TB)) (.slice (some ⟨w.heap.size, 0, none⟩) 1 1) [x] := by
  have h := Bs.one w x.toNat x.toNat_lt
  simpa using h
theorem take_snoc (l : List UInt8) (i : Nat) (h : i < l.length) : l.take (i + 1) = l.take i ++ [l.getD i 0] := by
  rw [List.take_succ_eq_append_getElem h, List.getD_eq_getElem?_getD, List.getElem?_eq_getElem h]
  rfl
def mkN (k i : Nat) : Nat := 11400714819323198485 * (1000003 * (k + 7) + i) % 18446744073709551616 / 72057594037927936
def mkB (k i : Nat) : UInt8 := (mkN k i).toUInt8
theorem mkN_lt (k i : Nat) : mkN k i < 256 := by unfold mkN; omega
theorem mkB_nat (k i : Nat) : (mkB k i).toNat = mkN k i := by
  have := mkN_lt k i
  unfold mkB
  simp
  omega

set_option maxHeartbeats 1600000 in
theorem mark_any (k i : Nat) (hk : k ≤ 1000) (hi : i ≤ 281474976710656) (w : World) :
    Calls Try.prog 86 #[.int .i64 (k : Int), .int .i64 (i : Int)] w fun e w' => e = .returned (.int .i64 ((1000003 * (k + 7) + i : Nat) : Int)) ∧ w' = w := by
  go_enter Try.func86, Try.ntmps86
  go_wp2
  go_ret
  refine ⟨?_, rfl⟩
  simp

set_option maxHeartbeats 1600000 in
theorem markByte_any (k i : Nat) (hk : k ≤ 1000) (hi : i ≤ 281474976710656) (w : World) :
    Calls Try.prog 46 #[.int .i64 (k : Int), .int .i64 (i : Int)] w fun e w' => e = .returned (.int .u8 ((mkB k i).toNat : Int)) ∧ w' = w := by
  have hM := mark_any k i hk hi w
  have hm : 1000003 * (k + 7) + i < 9223372036854775808 := by omega
  have hN : mkN k i = 11400714819323198485 * (1000003 * (k + 7) + i) % 18446744073709551616 / 72057594037927936 := rfl
  rw [mkB_nat]
  generalize 1000003 * (k + 7) + i = m at hM hm hN
  have h1 : IntKind.u64.wrap ((m : Int) * 11400714819323198485) / 72057594037927936 % 256 = (mkN k i : Int) := by
    have e : (m : Int) * 11400714819323198485 = ((11400714819323198485 * m : Nat) : Int) := by
      rw [Int.natCast_mul, Int.mul_comm]
      rfl
    rw [IntKind.wrap_u64, e, hN]
    generalize 11400714819323198485 * m = x
    omega
  have h2 := mkN_lt k i
  generalize mkN k i = n at h1 h2
  have HH1 : Hid (IntKind.u64.wrap ((m : Int) * 11400714819323198485) / 72057594037927936 % 256 = (n : Int)) := h1
  clear hN h1
  go_enter Try.func46, Try.ntmps46
  go_wp2_with fail
  refine hM.mono ?_
  rintro e9 w9 ⟨rfl, hw9⟩
  obtain rfl := hw9.symm
  go_wp2
  go_ret
  refine ⟨?_, rfl⟩
  show Ending.returned (Value.int .u8 (IntKind.u64.wrap ((m : Int) * 11400714819323198485) / 72057594037927936 % 256)) = _
  rw [HH1.out]

def marksB (k n : Nat) : List UInt8 := (List.range n).map (mkB k)
theorem marksB_succ (k n : Nat) : marksB k (n + 1) = marksB k n ++ [mkB k n] := by simp [marksB, List.range_succ]
theorem marksB_len (k n : Nat) : (marksB k n).length = n := by simp [marksB]

/-- v is lent: l, and behind it, in its spare room, 24 marksB -/
structure LentB (w : World) (v : Value) (l : List UInt8) : Prop where
  ex : ∃ g cap, v = .slice (some ⟨g, 0, none⟩) l.length cap ∧ Row w (.slice (some ⟨g, 0, none⟩) (l.length + 24) cap) (l ++ marksB 1 24)

set_option maxRecDepth 1000000 in
set_option maxHeartbeats 3200000 in
theorem lent_any (v : Value) (l : List UInt8) (w : World) (hv : Bs w v l) (hln : l.length + 24 ≤ 140737488355328) :
    Calls Try.prog 19 #[v] w fun e w' => ∃ v', e = .returned v' ∧ LentB w' v' l ∧ Fresh w w' v' ∧ Keep [] w w' := by
  obtain ⟨ao, cap, hve, hlc, hcm, _, hex⟩ := hv.ex
  subst hve
  go_enter Try.func19, Try.ntmps19
  go_wp2
  go_loopw [3, 4] (fun ov iv wr => ∃ (i : Nat), iv = .int .i64 (i : Int) ∧ i ≤ l.length ∧ Row wr ov (l.take i) ∧ Keep [] w wr ∧ Fresh w wr ov)
    (fun _ iv _ => l.length - (intOf iv).toNat)
  case atStart => exact ⟨0, rfl, Nat.zero_le _, Row.nil w, Keep.refl _ _, Fresh.nil _ _⟩
  case round =>
    obtain ⟨i, rfl, hi, hrow, hk, hf⟩ := hrel
    by_cases hil : i < l.length
    · obtain ⟨b, o, rfl, h3⟩ := hex (by intro hz; rw [hz] at hil; simp at hil)
      have hci := hk.cell' (h3 i hil) (by simp)
      have hx := take_snoc l i hil
      generalize l.getD i 0 = x at hci hx
      have hsrc := (Bs.byte wr x).src
      have hr2 : Row (wr.alloc (.cells #[.int .u8 (x.toNat : Int)] TB)) u3 (l.take i) := hrow.keep (Keep.alloc1 wr _) (Off.nil _)
      have HB : Hid ((l.take i).length + [x].length ≤ 140737488355328) := by
        show (l.take i).length + [x].length ≤ 140737488355328
        simp; omega
      have HKF : Hid (Keep [] w wr ∧ Fresh w wr u3) := ⟨hk, hf⟩
      have HX : Hid (l.take (i + 1) = l.take i ++ [x]) := hx
      have hili : (i : Int) < (l.length : Int) := by omega
      clear hx h3 hrow hk hf hex hv
      go_wp2_with (at_builtin; refine wp_app rfl (.tmp 12) (.tmp 17) 30 30 rfl underS _ (l.take i) rfl hr2 _ [x] rfl hsrc HB.out ?_)
      intro v' w1 g1 g2 g3 g4
      have HA : Hid (Keep [] w w1 ∧ Fresh w w1 v') := app_fresh HKF.out.1 HKF.out.2 g2 g3
      have HR : Hid (Row w1 v' (l.take (i + 1))) := by
        show Row w1 v' (l.take (i + 1))
        rw [HX.out]; exact g1
      clear g1 g2 g3 g4 hsrc hr2 hci
      go_wp2
      go_roundw
      case rel => exact ⟨i + 1, by go_num, by omega, HR.out, HA.out.1, HA.out.2⟩
      case measure => simp [intOf]; omega
    · have hili : ¬ ((i : Int) < (l.length : Int)) := by omega
      rw [List.take_of_length_le (by omega)] at hrow
      clear hex hv
      go_wp2
      go_loopw [3, 5] (fun ov jv wr => ∃ (j : Nat), jv = .int .i64 (j : Int) ∧ j ≤ 24 ∧ Row wr ov (l ++ marksB 1 j) ∧ Keep [] w wr ∧ Fresh w wr ov)
        (fun _ jv _ => 24 - (intOf jv).toNat)
      case atStart => exact ⟨0, rfl, Nat.zero_le _, by simpa [marksB] using hrow, hk, hf⟩
      case round =>
        obtain ⟨j, rfl, hj, hrow', hk', hf'⟩ := hrel
        clear hrow hk hf
        by_cases hjl : j < 24
        · have hjli : (j : Int) < 24 := by omega
          have hM := markByte_any 1 j (by omega) (by omega) wr
          have hx := marksB_succ 1 j
          generalize mkB 1 j = x at hM hx
          have hsrc := (Bs.byte wr x).src
          have hr2 : Row (wr.alloc (.cells #[.int .u8 (x.toNat : Int)] TB)) u3 (l ++ marksB 1 j) := hrow'.keep (Keep.alloc1 wr _) (Off.nil _)
          have HB : Hid ((l ++ marksB 1 j).length + [x].length ≤ 140737488355328) := by
            show (l ++ marksB 1 j).length + [x].length ≤ 140737488355328
            simp [marksB_len]; omega
          have HKF : Hid (Keep [] w wr ∧ Fresh w wr u3) := ⟨hk', hf'⟩
          have HX : Hid (l ++ marksB 1 (j + 1) = (l ++ marksB 1 j) ++ [x]) := by
            show l ++ marksB 1 (j + 1) = (l ++ marksB 1 j) ++ [x]
            rw [hx, List.append_assoc]
          clear hx hrow' hk' hf'
          go_wp2_with (first
            | (go_at_call 46; refine hM.mono ?_; rintro e9 w9 ⟨rfl, hw9⟩; obtain rfl := hw9.symm)
            | (at_builtin; refine wp_app rfl (.tmp 23) (.tmp 26) 30 30 rfl underS _ (l ++ marksB 1 j) rfl hr2 _ [x] rfl hsrc HB.out ?_))
          intro v' w1 g1 g2 g3 g4
          have HA : Hid (Keep [] w w1 ∧ Fresh w w1 v') := app_fresh HKF.out.1 HKF.out.2 g2 g3
          have HR : Hid (Row w1 v' (l ++ marksB 1 (j + 1))) := by
            show Row w1 v' (l ++ marksB 1 (j + 1))
            rw [HX.out, List.append_assoc]; exact g1
          clear g1 g2 g3 g4 hsrc hr2 hM
          go_wp2
          go_roundw
          case rel => exact ⟨j + 1, by go_num, by omega, HR.out, HA.out.1, HA.out.2⟩
          case measure => simp [intOf]; omega
        · have hjli : ¬ ((j : Int) < 24) := by omega
          have hj24 : j = 24 := by omega
          subst hj24
          obtain ⟨g, cp, hu3⟩ : ∃ g cp, u3 = .slice (some ⟨g, 0, none⟩) (l.length + 24) cp := by
            rcases hrow'.2 with ⟨_, h⟩ | ⟨g, cp, _, h, _⟩
            · simp [marksB_len] at h
            · refine ⟨g, cp, ?_⟩
              rw [h]
              simp [marksB_len]
          have hcp : l.length + 24 ≤ cp ∧ cp ≤ 9223372036854775807 := by
            obtain ⟨ao', cap', he, h1, h2, _⟩ := hrow'.bs.ex
            rw [hu3] at he
            simp [marksB_len] at he h1
            obtain ⟨_, rfl⟩ := he
            simp only [maxLen] at h2
            omega
          subst hu3
          have HL : Hid (LentB wr (.slice (some ⟨g, 0, none⟩) l.length cp) l ∧ Fresh w wr (.slice (some ⟨g, 0, none⟩) l.length cp) ∧ Keep [] w wr) := ⟨⟨g, cp, rfl, hrow'⟩, hf', hk'⟩
          clear hrow' hk' hf'
          go_wp2
          go_ret
          exact ⟨_, rfl, HL.out⟩

end Go.Proofs.Ytppimacfeelneaa

