/- The document's way of writing: Uint, bytes. -/
import Derived.Test.YtppimacfeelneaaDcA
import Derived.Test.YtppimacfeelneaaLentW
namespace Go.Proofs.Ytppimacfeelneaa
open Go.RowKit Go.PlainAid Go.Lib

set_option maxRecDepth 1000000 in
set_option maxHeartbeats 1600000 in
theorem dUint_any (x : Nat) (hx : x < 18446744073709551616) (v : Value) (l : List UInt8) (hl : l.length ≤ 100000) (w w0 : World) (hv : Row w0 v l) (hk0 : Keep [] w w0) (hf0 : Fresh w w0 v) :
    Calls Try.prog 91 #[v, .int .u64 (x : Int)] w0 fun e w' => ∃ v', e = .returned v' ∧ Row w' v' (l ++ uvarint x) ∧ Fresh w w' v' ∧ Keep [] w w' ∧ Sl v' (l ++ uvarint x).length := by
  have hlen := uvarint_length64 hx
  go_enter Try.func91, Try.ntmps91
  go_wp2
  go_loopw [1, 0] (fun xv ov wr => ∃ (y : Nat) (acc : List UInt8), xv = .int .u64 (y : Int) ∧ y < 18446744073709551616 ∧ l ++ uvarint x = acc ++ uvarint y ∧ Row wr ov acc ∧ Keep [] w wr ∧ Fresh w wr ov)
    (fun xv _ _ => (intOf xv).toNat)
  case atStart => exact ⟨x, l, rfl, hx, rfl, hv, hk0, hf0⟩
  case round =>
    obtain ⟨y, acc, rfl, hy, hu, hrow, hk, hf⟩ := hrel
    have hal : acc.length ≤ 100010 := by have h9 := congrArg List.length hu; simp only [List.length_append] at h9; omega
    clear hv hk0 hf0
    by_cases hy1 : 128 ≤ y
    · have hyi : (128 : Int) ≤ (y : Int) := by omega
      have HU : Hid (l ++ uvarint x = acc ++ [(y % 128 + 128).toUInt8] ++ uvarint (y / 128)) := by
        show l ++ uvarint x = acc ++ [(y % 128 + 128).toUInt8] ++ uvarint (y / 128)
        rw [hu, uvarint_big hy1]
        simp
      have hsrc := (Bs.one wr (y % 128 + 128) (by omega)).src
      have hr2 : Row (wr.alloc (.cells #[.int .u8 ((y % 128 + 128 : Nat) : Int)] TB)) u0 acc := hrow.keep (Keep.alloc1 wr _) (Off.nil _)
      have he : ((y % 128 + 128 : Nat) : Int) = (y : Int) % 128 + 128 := by omega
      rw [he] at hsrc hr2
      have HB : Hid (acc.length + [(y % 128 + 128).toUInt8].length ≤ 140737488355328) := by
        show acc.length + [(y % 128 + 128).toUInt8].length ≤ 140737488355328
        simp; omega
      have HKF : Hid (Keep [] w wr ∧ Fresh w wr u0) := ⟨hk, hf⟩
      clear hu hrow hk hf he
      generalize (y % 128 + 128).toUInt8 = cb at hsrc HB HU
      go_wp2_with (at_builtin; refine wp_app rfl (.tmp 7) (.tmp 12) 30 30 rfl underS _ acc rfl hr2 _ [cb] rfl hsrc HB.out ?_)
      intro v' w1 g1 g2 g3 g4
      have HA : Hid (Keep [] w w1 ∧ Fresh w w1 v') := app_fresh HKF.out.1 HKF.out.2 g2 g3
      have HR : Hid (Row w1 v' (acc ++ [cb])) := g1
      clear g1 g2 g3 g4 hsrc hr2
      go_wp2
      go_roundw
      case rel => exact ⟨y / 128, _, by go_num, by omega, HU.out, HR.out, HA.out.1, HA.out.2⟩
      case measure => simp [intOf]; omega
    · have hyi : ¬ ((128 : Int) ≤ (y : Int)) := by omega
      have HU : Hid (l ++ uvarint x = acc ++ [y.toUInt8]) := by
        show l ++ uvarint x = acc ++ [y.toUInt8]
        rw [hu, uvarint_small (by omega)]
      have hsrc := (Bs.one wr y (by omega)).src
      have hr2 : Row (wr.alloc (.cells #[.int .u8 (y : Int)] TB)) u0 acc := hrow.keep (Keep.alloc1 wr _) (Off.nil _)
      have HB : Hid (acc.length + [y.toUInt8].length ≤ 140737488355328) := by
        show acc.length + [y.toUInt8].length ≤ 140737488355328
        simp; omega
      have HKF : Hid (Keep [] w wr ∧ Fresh w wr u0) := ⟨hk, hf⟩
      clear hu hrow hk hf
      generalize y.toUInt8 = cb at hsrc HB HU
      go_wp2_with (at_builtin; refine wp_app rfl (.tmp 16) (.tmp 19) 30 30 rfl underS _ acc rfl hr2 _ [cb] rfl hsrc HB.out ?_)
      intro v' w1 g1 g2 g3 g4
      have HA : Hid (Keep [] w w1 ∧ Fresh w w1 v') := app_fresh HKF.out.1 HKF.out.2 g2 g3
      have HR : Hid (Row w1 v' (l ++ uvarint x) ∧ Sl v' (l ++ uvarint x).length) := by
        show Row w1 v' (l ++ uvarint x) ∧ Sl v' (l ++ uvarint x).length
        rw [HU.out]; exact ⟨g1, by simpa using g4⟩
      clear g1 g2 g3 g4 hsrc hr2
      go_wp2
      go_ret
      exact ⟨_, rfl, HR.out.1, HA.out.2, HA.out.1, HR.out.2⟩

set_option maxRecDepth 1000000 in
set_option maxHeartbeats 1600000 in
theorem dBytes_any (s : ByteArray) (hs : s.size ≤ 256) (v : Value) (l : List UInt8) (hl : l.length ≤ 50000) (w w0 : World) (hv : Row w0 v l) (hk0 : Keep [] w w0) (hf0 : Fresh w w0 v) :
    Calls Try.prog 93 #[v, .string s] w0 fun e w' => ∃ v', e = .returned v' ∧ Row w' v' (l ++ textB s) ∧ Fresh w w' v' ∧ Keep [] w w' ∧ Sl v' (l ++ textB s).length := by
  have hU := dUint_any s.size (by omega) v l (by omega) w w0 hv hk0 hf0
  have hlen := uvarint_length64 (x := s.size) (by omega)
  have hss : s.data.toList.length = s.size := by simp
  have hbt := get_bt s
  have hbt2 : ∀ i, i < s.size → bt s i = ((s.data.toList.getD i 0).toNat : Int) := by
    intro i hi
    rw [← hbt i hi, List.getD_eq_getElem?_getD, List.getElem?_eq_getElem (by rw [hss]; exact hi)]
    rfl
  clear hv hk0 hf0
  go_enter Try.func93, Try.ntmps93
  go_wp2_with fail
  refine hU.mono ?_
  rintro e1 w1 ⟨v1, rfl, r1, f1, k1, s1⟩
  have HI : Hid (Row w1 v1 (l ++ uvarint s.size) ∧ Fresh w w1 v1 ∧ Keep [] w w1 ∧ Sl v1 (l ++ uvarint s.size).length) := ⟨r1, f1, k1, s1⟩
  clear hU r1 f1 k1 s1
  go_wp2
  go_loopw [0, 5] (fun ov iv wr => ∃ (i : Nat), iv = .int .i64 (i : Int) ∧ i ≤ s.size ∧ Row wr ov (l ++ uvarint s.size ++ s.data.toList.take i) ∧ Keep [] w wr ∧ Fresh w wr ov ∧ Sl ov (l ++ uvarint s.size ++ s.data.toList.take i).length)
    (fun _ iv _ => s.size - (intOf iv).toNat)
  case atStart => exact ⟨0, rfl, Nat.zero_le _, by simpa using HI.out.1, HI.out.2.2.1, HI.out.2.1, by simpa using HI.out.2.2.2⟩
  case round =>
    obtain ⟨i, rfl, hi, hrow, hk, hf, hsl⟩ := hrel
    clear HI
    by_cases hil : i < s.size
    · have hili : (i : Int) < (s.size : Int) := by omega
      have hx := take_snoc s.data.toList i (by omega)
      have hb2 := hbt2 i hil
      generalize s.data.toList.getD i 0 = x at hx hb2
      have hsrc := (Bs.byte wr x).src
      have hr2 : Row (wr.alloc (.cells #[.int .u8 (x.toNat : Int)] TB)) u0 (l ++ uvarint s.size ++ s.data.toList.take i) := hrow.keep (Keep.alloc1 wr _) (Off.nil _)
      have HB : Hid ((l ++ uvarint s.size ++ s.data.toList.take i).length + [x].length ≤ 140737488355328) := by
        show (l ++ uvarint s.size ++ s.data.toList.take i).length + [x].length ≤ 140737488355328
        simp; omega
      have HX : Hid (l ++ uvarint s.size ++ s.data.toList.take (i + 1) = (l ++ uvarint s.size ++ s.data.toList.take i) ++ [x]) := by
        show l ++ uvarint s.size ++ s.data.toList.take (i + 1) = (l ++ uvarint s.size ++ s.data.toList.take i) ++ [x]
        rw [hx, List.append_assoc (l ++ uvarint s.size)]
      have HKF : Hid (Keep [] w wr ∧ Fresh w wr u0) := ⟨hk, hf⟩
      clear hx hrow hk hf hbt2 hsl
      generalize l ++ uvarint s.size ++ s.data.toList.take i = acc at hr2 HB HX
      go_wp2_with (at_builtin; refine wp_app rfl (.tmp 17) (.tmp 21) 30 30 rfl underS _ acc rfl hr2 _ [x] rfl hsrc HB.out ?_)
      intro v' w2 g1 g2 g3 g4
      have HA : Hid (Keep [] w w2 ∧ Fresh w w2 v') := app_fresh HKF.out.1 HKF.out.2 g2 g3
      have HR : Hid (Row w2 v' (l ++ uvarint s.size ++ s.data.toList.take (i + 1)) ∧ Sl v' (l ++ uvarint s.size ++ s.data.toList.take (i + 1)).length) := by
        show Row w2 v' (l ++ uvarint s.size ++ s.data.toList.take (i + 1)) ∧ Sl v' (l ++ uvarint s.size ++ s.data.toList.take (i + 1)).length
        rw [HX.out]; exact ⟨g1, by simpa using g4⟩
      clear g1 g2 g3 g4 hsrc hr2
      go_wp2
      go_roundw
      case rel => exact ⟨i + 1, by go_num, by omega, HR.out.1, HA.out.1, HA.out.2, HR.out.2⟩
      case measure => simp [intOf]; omega
    · have hili : ¬ ((i : Int) < (s.size : Int)) := by omega
      rw [List.take_of_length_le (by omega), List.append_assoc] at hrow hsl
      have HL : Hid (Row wr u0 (l ++ textB s) ∧ Fresh w wr u0 ∧ Keep [] w wr ∧ Sl u0 (l ++ textB s).length) := ⟨hrow, hf, hk, hsl⟩
      clear hrow hk hf hsl hbt2 hbt hss
      go_wp2
      go_ret
      exact ⟨u0, rfl, by simpa using HL.out⟩
end Go.Proofs.Ytppimacfeelneaa
