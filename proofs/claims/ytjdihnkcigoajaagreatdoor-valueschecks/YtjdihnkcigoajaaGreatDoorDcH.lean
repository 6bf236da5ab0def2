/- Values as they were: SameValue, KeptValue. -/
import Derived.Test.YtjdihnkcigoajaaGreatDoorLtC
import Derived.Test.YtjdihnkcigoajaaGreatDoorOwn
import Derived.Test.YtjdihnkcigoajaaGreatDoorDcT
import Derived.Test.YtjdihnkcigoajaaGreatDoorQuB
import Derived.Deep.QuietTactic
import Derived.BigQuiet
import Derived.Test.YtjdihnkcigoajaaGreatDoorBigA

namespace Go.Proofs.YtjdihnkcigoajaaGreatDoor
open Go.RowKit Go.PlainAid

set_option maxRecDepth 1000000 in
set_option maxHeartbeats 1600000 in
theorem sameValue_self (p : VD) (u v : Value) (w : World) (hu : Ts w u p.texts) (hv : Ts w v p.texts) :
    Calls Tryz.prog 28 #[p.val u, p.val v] w fun e w' => e = .returned (.bool true) ∧ Keep [] w w' := by
  have hT := fun w1 (k : Keep [] w w1) => sameTexts_self u v p.texts w1 (hu.keep k (Off.nil _)) (hv.keep k (Off.nil _))
  obtain ⟨ao, ca, rfl, _, _, _, _⟩ := hu.ex
  obtain ⟨bo, cb, rfl, _, _, _, _⟩ := hv.ex
  clear hu hv
  obtain ⟨kd, b, n, x, t, ts⟩ := p
  simp only [] at hT ⊢
  have hR := sameReal_self x
  have e1 : (kd == kd) = true := by simp
  have e2 : (b == b) = true := by simp
  have e3 : (n == n) = true := by simp
  have e4 : (t.toList == t.toList) = true := by simp
  have K0 : Hid (Keep [] w ((w.alloc (.cells #[.int .i64 kd, .bool b, .int .i64 n, .float .f32 x, .string t, .slice ao ts.length ca] 25)).alloc (.cells #[.int .i64 kd, .bool b, .int .i64 n, .float .f32 x, .string t, .slice bo ts.length cb] 25))) := (Keep.alloc1 w _).alloc _
  cases h3 : (kd == 3)
  · have h3' : (kd != 3) = true := by simp [bne, h3]
    cases hq : (FloatKind.f32.format.order x x == some Ordering.eq)
    all_goals
      go_enter Tryz.func28, Tryz.ntmps28
      go_wp2_with (first
        | (go_at_call 29; refine (hR _).mono ?_; rintro e9 w9 ⟨rfl, hw9⟩; obtain rfl := hw9.symm)
        | (go_at_call 53; refine (hT _ K0.out).mono ?_; rintro e9 w9 ⟨rfl, n9, rfl⟩))
      go_ret
      exact ⟨rfl, K0.out.drewN _⟩
  · have h3' : (kd != 3) = false := by simp [bne, h3]
    go_enter Tryz.func28, Tryz.ntmps28
    go_wp2_with (first
      | (go_at_call 29; refine (hR _).mono ?_; rintro e9 w9 ⟨rfl, hw9⟩; obtain rfl := hw9.symm)
      | (go_at_call 53; refine (hT _ K0.out).mono ?_; rintro e9 w9 ⟨rfl, n9, rfl⟩))
    go_ret
    exact ⟨rfl, K0.out.drewN _⟩

set_option maxRecDepth 1000000 in
set_option maxHeartbeats 1600000 in
theorem keptValue_any (p : VD) (g cap : Nat) (v : Value) (w : World) (hx : Ts w (.slice (some ⟨g, 0, none⟩) (p.texts.length + 24) cap) (p.texts ++ marks 24)) (hx2 : Ts w (.slice (some ⟨g, 0, none⟩) p.texts.length cap) p.texts) (hv : Ts w v p.texts) (hlen : p.texts.length ≤ 8796093021952) :
    Calls Tryz.prog 12 #[p.val (.slice (some ⟨g, 0, none⟩) p.texts.length cap), p.val v] w fun e w' => e = .returned (.bool true) ∧ Keep [] w w' := by
  have hS := fun w1 (k : Keep [] w w1) => sameValue_self p _ v w1 (hx2.keep k (Off.nil _)) (hv.keep k (Off.nil _))
  have hT := fun w1 (k : Keep [] w w1) => keptTexts_any g cap v p.texts w1 (hx.keep k (Off.nil _)) (hv.keep k (Off.nil _)) hlen
  obtain ⟨bo, cb, rfl, _, _, _, _⟩ := hv.ex
  clear hx hx2 hv hlen
  obtain ⟨kd, b, n, x, t, ts⟩ := p
  simp only [] at hT hS ⊢
  have hR := sameReal_self x
  have K0 : Hid (Keep [] w ((w.alloc (.cells #[.int .i64 kd, .bool b, .int .i64 n, .float .f32 x, .string t, .slice (some ⟨g, 0, none⟩) ts.length cap] 25)).alloc (.cells #[.int .i64 kd, .bool b, .int .i64 n, .float .f32 x, .string t, .slice bo ts.length cb] 25))) := (Keep.alloc1 w _).alloc _
  go_enter Tryz.func12, Tryz.ntmps12
  go_wp2_with fail
  refine (hS _ K0.out).mono ?_
  rintro e9 w1 ⟨rfl, k1⟩
  obtain ⟨⟨c0, c1, c2, c3, c4, c5⟩, ⟨d0, d1, d2, d3, d4, d5⟩⟩ := two_cells k1
  have HK1 : Hid (Keep [] w w1) := K0.out.trans' k1
  clear k1 hS
  go_wp2_with (first
    | (go_at_call 29; refine (hR _).mono ?_; rintro e9 w9 ⟨rfl, hw9⟩; obtain rfl := hw9.symm)
    | (go_at_call 30; refine (hT _ HK1.out).mono ?_; rintro e9 w2 ⟨rfl, k2⟩))
  go_ret
  exact ⟨rfl, HK1.out.trans' k2⟩
end Go.Proofs.YtjdihnkcigoajaaGreatDoor


/- Lists that are lent with marksB behind them: what is lent, and that it is as it was. -/
namespace Go.Proofs.YtjdihnkcigoajaaGreatDoor
open Go.RowKit Go.PlainAid Go.Lib

theorem take_snoc (l : List UInt8) (i : Nat) (h : i < l.length) : l.take (i + 1) = l.take i ++ [l.getD i 0] := by
  rw [List.take_succ_eq_append_getElem h, List.getD_eq_getElem?_getD, List.getElem?_eq_getElem h]
  rfl
def mkN (k i : Nat) : Nat := 11400714819323198485 * (1000003 * (k + 7) + i) % 18446744073709551616 / 72057594037927936
def mkB (k i : Nat) : UInt8 := (mkN k i).toUInt8
theorem mkN_lt (k i : Nat) : mkN k i < 256 := by unfold mkN; omega
theorem mkB_nat (k i : Nat) : (mkB k i).toNat = mkN k i := by
  have := mkN_lt k i
  unfold mkB
  simp
  omega

def marksB (k n : Nat) : List UInt8 := (List.range n).map (mkB k)
theorem marksB_succ (k n : Nat) : marksB k (n + 1) = marksB k n ++ [mkB k n] := by simp [marksB, List.range_succ]
theorem marksB_len (k n : Nat) : (marksB k n).length = n := by simp [marksB]

/-- v is lent: l, and behind it, in its spare room, 24 marksB -/
structure LentB (w : World) (v : Value) (l : List UInt8) : Prop where
  ex : ∃ g cap, v = .slice (some ⟨g, 0, none⟩) l.length cap ∧ Row w (.slice (some ⟨g, 0, none⟩) (l.length + 24) cap) (l ++ marksB 1 24)

end Go.Proofs.YtjdihnkcigoajaaGreatDoor



/- The document's way of writing: Uint, bytes. -/
namespace Go.Proofs.YtjdihnkcigoajaaGreatDoor
open Go.RowKit Go.PlainAid Go.Lib

set_option maxRecDepth 1000000 in
set_option maxHeartbeats 1600000 in
theorem dUint_any (x : Nat) (hx : x < 18446744073709551616) (v : Value) (l : List UInt8) (hl : l.length ≤ 100000) (w w0 : World) (hv : Row w0 v l) (hk0 : Keep [] w w0) (hf0 : Fresh w w0 v) :
    Calls Tryz.prog 25 #[v, .int .u64 (x : Int)] w0 fun e w' => ∃ v', e = .returned v' ∧ Row w' v' (l ++ uvarint x) ∧ Fresh w w' v' ∧ Keep [] w w' ∧ Sl v' (l ++ uvarint x).length := by
  have hlen := uvarint_length64 hx
  go_enter Tryz.func25, Tryz.ntmps25
  go_wp2
  go_loopw [1, 0] (fun xv ov wr => ∃ (y : Nat) (acc : List UInt8), xv = .int .u64 (y : Int) ∧ y < 18446744073709551616 ∧ l ++ uvarint x = acc ++ uvarint y ∧ Row wr ov acc ∧ Keep [] w wr ∧ Fresh w wr ov)
    (fun xv _ _ => (RowKit.intOf xv).toNat)
  case atStart => exact ⟨x, l, rfl, hx, rfl, hv, hk0, hf0⟩
  case round =>
    obtain ⟨y, acc, rfl, hy, hu, hrow, hk, hf⟩ := hrel
    have hal : acc.length ≤ 100010 := by have h9 := congrArg List.length hu; simp only [List.length_append] at h9; omega
    clear hv hk0 hf0
    by_cases hy1 : 128 ≤ y
    · have hyi : (128 : Int) ≤ (y : Int) := by omega
      have HU : Hid (l ++ uvarint x = acc ++ [(y % 128 + 128).toUInt8] ++ uvarint (y / 128)) := by
        show l ++ uvarint x = acc ++ [(y % 128 + 128).toUInt8] ++ uvarint (y / 128)
        rw [hu, uvarint_big hy1]
        simp
      have hsrc := (Bs.one wr (y % 128 + 128) (by omega)).src
      have hr2 : Row (wr.alloc (.cells #[.int .u8 ((y % 128 + 128 : Nat) : Int)] TB)) u0 acc := hrow.keep (Keep.alloc1 wr _) (Off.nil _)
      have he : ((y % 128 + 128 : Nat) : Int) = (y : Int) % 128 + 128 := by omega
      rw [he] at hsrc hr2
      have HB : Hid (acc.length + [(y % 128 + 128).toUInt8].length ≤ 140737488355328) := by
        show acc.length + [(y % 128 + 128).toUInt8].length ≤ 140737488355328
        simp; omega
      have HKF : Hid (Keep [] w wr ∧ Fresh w wr u0) := ⟨hk, hf⟩
      clear hu hrow hk hf he
      generalize (y % 128 + 128).toUInt8 = cb at hsrc HB HU
      go_wp2_with (at_builtin; refine wp_app rfl (.tmp 7) (.tmp 12) 31 31 rfl underS _ acc rfl hr2 _ [cb] rfl hsrc HB.out ?_)
      intro v' w1 g1 g2 g3 g4
      have HA : Hid (Keep [] w w1 ∧ Fresh w w1 v') := app_fresh HKF.out.1 HKF.out.2 g2 g3
      have HR : Hid (Row w1 v' (acc ++ [cb])) := g1
      clear g1 g2 g3 g4 hsrc hr2
      go_wp2
      go_roundw
      case rel => exact ⟨y / 128, _, by go_num, by omega, HU.out, HR.out, HA.out.1, HA.out.2⟩
      case measure => simp [RowKit.intOf]; omega
    · have hyi : ¬ ((128 : Int) ≤ (y : Int)) := by omega
      have HU : Hid (l ++ uvarint x = acc ++ [y.toUInt8]) := by
        show l ++ uvarint x = acc ++ [y.toUInt8]
        rw [hu, uvarint_small (by omega)]
      have hsrc := (Bs.one wr y (by omega)).src
      have hr2 : Row (wr.alloc (.cells #[.int .u8 (y : Int)] TB)) u0 acc := hrow.keep (Keep.alloc1 wr _) (Off.nil _)
      have HB : Hid (acc.length + [y.toUInt8].length ≤ 140737488355328) := by
        show acc.length + [y.toUInt8].length ≤ 140737488355328
        simp; omega
      have HKF : Hid (Keep [] w wr ∧ Fresh w wr u0) := ⟨hk, hf⟩
      clear hu hrow hk hf
      generalize y.toUInt8 = cb at hsrc HB HU
      go_wp2_with (at_builtin; refine wp_app rfl (.tmp 16) (.tmp 19) 31 31 rfl underS _ acc rfl hr2 _ [cb] rfl hsrc HB.out ?_)
      intro v' w1 g1 g2 g3 g4
      have HA : Hid (Keep [] w w1 ∧ Fresh w w1 v') := app_fresh HKF.out.1 HKF.out.2 g2 g3
      have HR : Hid (Row w1 v' (l ++ uvarint x) ∧ Sl v' (l ++ uvarint x).length) := by
        show Row w1 v' (l ++ uvarint x) ∧ Sl v' (l ++ uvarint x).length
        rw [HU.out]; exact ⟨g1, by simpa using g4⟩
      clear g1 g2 g3 g4 hsrc hr2
      go_wp2
      go_ret
      exact ⟨_, rfl, HR.out.1, HA.out.2, HA.out.1, HR.out.2⟩

set_option maxRecDepth 1000000 in
set_option maxHeartbeats 1600000 in
theorem dBytes_any (s : ByteArray) (hs : s.size ≤ 256) (v : Value) (l : List UInt8) (hl : l.length ≤ 50000) (w w0 : World) (hv : Row w0 v l) (hk0 : Keep [] w w0) (hf0 : Fresh w w0 v) :
    Calls Tryz.prog 27 #[v, .string s] w0 fun e w' => ∃ v', e = .returned v' ∧ Row w' v' (l ++ vtextB s) ∧ Fresh w w' v' ∧ Keep [] w w' ∧ Sl v' (l ++ vtextB s).length := by
  have hU := dUint_any s.size (by omega) v l (by omega) w w0 hv hk0 hf0
  have hlen := uvarint_length64 (x := s.size) (by omega)
  have hss : s.data.toList.length = s.size := by simp
  have hbt := get_bt s
  have hbt2 : ∀ i, i < s.size → bt s i = ((s.data.toList.getD i 0).toNat : Int) := by
    intro i hi
    rw [← hbt i hi, List.getD_eq_getElem?_getD, List.getElem?_eq_getElem (by rw [hss]; exact hi)]
    rfl
  clear hv hk0 hf0
  go_enter Tryz.func27, Tryz.ntmps27
  go_wp2_with fail
  refine hU.mono ?_
  rintro e1 w1 ⟨v1, rfl, r1, f1, k1, s1⟩
  have HI : Hid (Row w1 v1 (l ++ uvarint s.size) ∧ Fresh w w1 v1 ∧ Keep [] w w1 ∧ Sl v1 (l ++ uvarint s.size).length) := ⟨r1, f1, k1, s1⟩
  clear hU r1 f1 k1 s1
  go_wp2
  go_loopw [0, 5] (fun ov iv wr => ∃ (i : Nat), iv = .int .i64 (i : Int) ∧ i ≤ s.size ∧ Row wr ov (l ++ uvarint s.size ++ s.data.toList.take i) ∧ Keep [] w wr ∧ Fresh w wr ov ∧ Sl ov (l ++ uvarint s.size ++ s.data.toList.take i).length)
    (fun _ iv _ => s.size - (RowKit.intOf iv).toNat)
  case atStart => exact ⟨0, rfl, Nat.zero_le _, by simpa using HI.out.1, HI.out.2.2.1, HI.out.2.1, by simpa using HI.out.2.2.2⟩
  case round =>
    obtain ⟨i, rfl, hi, hrow, hk, hf, hsl⟩ := hrel
    clear HI
    by_cases hil : i < s.size
    · have hili : (i : Int) < (s.size : Int) := by omega
      have hx := take_snoc s.data.toList i (by omega)
      have hb2 := hbt2 i hil
      generalize s.data.toList.getD i 0 = x at hx hb2
      have hsrc := (Bs.byte wr x).src
      have hr2 : Row (wr.alloc (.cells #[.int .u8 (x.toNat : Int)] TB)) u0 (l ++ uvarint s.size ++ s.data.toList.take i) := hrow.keep (Keep.alloc1 wr _) (Off.nil _)
      have HB : Hid ((l ++ uvarint s.size ++ s.data.toList.take i).length + [x].length ≤ 140737488355328) := by
        show (l ++ uvarint s.size ++ s.data.toList.take i).length + [x].length ≤ 140737488355328
        simp; omega
      have HX : Hid (l ++ uvarint s.size ++ s.data.toList.take (i + 1) = (l ++ uvarint s.size ++ s.data.toList.take i) ++ [x]) := by
        show l ++ uvarint s.size ++ s.data.toList.take (i + 1) = (l ++ uvarint s.size ++ s.data.toList.take i) ++ [x]
        rw [hx, List.append_assoc (l ++ uvarint s.size)]
      have HKF : Hid (Keep [] w wr ∧ Fresh w wr u0) := ⟨hk, hf⟩
      clear hx hrow hk hf hbt2 hsl
      generalize l ++ uvarint s.size ++ s.data.toList.take i = acc at hr2 HB HX
      go_wp2_with (at_builtin; refine wp_app rfl (.tmp 17) (.tmp 21) 31 31 rfl underS _ acc rfl hr2 _ [x] rfl hsrc HB.out ?_)
      intro v' w2 g1 g2 g3 g4
      have HA : Hid (Keep [] w w2 ∧ Fresh w w2 v') := app_fresh HKF.out.1 HKF.out.2 g2 g3
      have HR : Hid (Row w2 v' (l ++ uvarint s.size ++ s.data.toList.take (i + 1)) ∧ Sl v' (l ++ uvarint s.size ++ s.data.toList.take (i + 1)).length) := by
        show Row w2 v' (l ++ uvarint s.size ++ s.data.toList.take (i + 1)) ∧ Sl v' (l ++ uvarint s.size ++ s.data.toList.take (i + 1)).length
        rw [HX.out]; exact ⟨g1, by simpa using g4⟩
      clear g1 g2 g3 g4 hsrc hr2
      go_wp2
      go_roundw
      case rel => exact ⟨i + 1, by go_num, by omega, HR.out.1, HA.out.1, HA.out.2, HR.out.2⟩
      case measure => simp [RowKit.intOf]; omega
    · have hili : ¬ ((i : Int) < (s.size : Int)) := by omega
      rw [List.take_of_length_le (by omega), List.append_assoc] at hrow hsl
      have HL : Hid (Row wr u0 (l ++ vtextB s) ∧ Fresh w wr u0 ∧ Keep [] w wr ∧ Sl u0 (l ++ vtextB s).length) := ⟨hrow, hf, hk, hsl⟩
      clear hrow hk hf hsl hbt2 hbt hss
      go_wp2
      go_ret
      exact ⟨u0, rfl, by simpa using HL.out⟩
end Go.Proofs.YtjdihnkcigoajaaGreatDoor

