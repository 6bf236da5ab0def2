/- The document's own bytes: its numbers, turned numbers, keys, texts, each for every input. -/
import Derived.Test.YtcmembmaaebdeaaPutW
namespace Go.Proofs.Ytcmembmaaebdeaa
open Go.RowKit Go.PlainAid Go.Lib

set_option maxRecDepth 1000000 in
set_option maxHeartbeats 3200000 in
theorem refUint_any (x : Nat) (hx : x < 18446744073709551616) (w : World) :
    Calls Try.prog 46 #[.int .u64 (x : Int)] w fun e w' => ∃ v', e = .returned v' ∧ Row w' v' (uvarint x) ∧ Fresh w w' v' ∧ Keep [] w w' := by
  have hlen := uvarint_length64 hx
  go_enter Try.func46, Try.ntmps46
  go_wp2
  go_loopw [0, 3] (fun xv ov wr => ∃ (y : Nat) (acc : List UInt8), xv = .int .u64 (y : Int) ∧ y < 18446744073709551616 ∧ uvarint x = acc ++ uvarint y ∧ Row wr ov acc ∧ Keep [] w wr ∧ Fresh w wr ov)
    (fun xv _ _ => (intOf xv).toNat)
  case atStart => exact ⟨x, [], rfl, hx, rfl, Row.nil w, Keep.refl _ _, Fresh.nil _ _⟩
  case round =>
    obtain ⟨y, acc, rfl, hy, hu, hrow, hk, hf⟩ := hrel
    have hal : acc.length ≤ 10 := by rw [hu] at hlen; simp at hlen; omega
    by_cases hy1 : 128 ≤ y
    · have hyi : (128 : Int) ≤ (y : Int) := by omega
      have HU : Hid (uvarint x = acc ++ [(y % 128 + 128).toUInt8] ++ uvarint (y / 128)) := by
        show uvarint x = acc ++ [(y % 128 + 128).toUInt8] ++ uvarint (y / 128)
        rw [hu, uvarint_big hy1]
        simp
      have hsrc := (Bs.one wr (y % 128 + 128) (by omega)).src
      have hr2 : Row (wr.alloc (.cells #[.int .u8 ((y % 128 + 128 : Nat) : Int)] TB)) u3 acc := hrow.keep (Keep.alloc1 wr _) (Off.nil _)
      have he : ((y % 128 + 128 : Nat) : Int) = (y : Int) % 128 + 128 := by omega
      rw [he] at hsrc hr2
      have HB : Hid (acc.length + [(y % 128 + 128).toUInt8].length ≤ 140737488355328) := by
        show acc.length + [(y % 128 + 128).toUInt8].length ≤ 140737488355328
        simp; omega
      have HKF : Hid (Keep [] w wr ∧ Fresh w wr u3) := ⟨hk, hf⟩
      clear hu hrow hk hf he
      generalize (y % 128 + 128).toUInt8 = cb at hsrc HB HU
      go_wp2_with (at_builtin; refine wp_app rfl (.tmp 6) (.tmp 11) 24 24 rfl underS _ acc rfl hr2 _ [cb] rfl hsrc HB.out ?_)
      intro v' w1 g1 g2 g3 g4
      have HA : Hid (Keep [] w w1 ∧ Fresh w w1 v') := app_fresh HKF.out.1 HKF.out.2 g2 g3
      have HR : Hid (Row w1 v' (acc ++ [cb])) := g1
      clear g1 g2 g3 g4 hsrc hr2
      go_wp2
      go_roundw
      case rel => exact ⟨y / 128, _, by go_num, by omega, HU.out, HR.out, HA.out.1, HA.out.2⟩
      case measure => simp [intOf]; omega
    · have hyi : ¬ ((128 : Int) ≤ (y : Int)) := by omega
      have HU : Hid (uvarint x = acc ++ [y.toUInt8]) := by
        show uvarint x = acc ++ [y.toUInt8]
        rw [hu, uvarint_small (by omega)]
      have hsrc := (Bs.one wr y (by omega)).src
      have hr2 : Row (wr.alloc (.cells #[.int .u8 (y : Int)] TB)) u3 acc := hrow.keep (Keep.alloc1 wr _) (Off.nil _)
      have HB : Hid (acc.length + [y.toUInt8].length ≤ 140737488355328) := by
        show acc.length + [y.toUInt8].length ≤ 140737488355328
        simp; omega
      have HKF : Hid (Keep [] w wr ∧ Fresh w wr u3) := ⟨hk, hf⟩
      clear hu hrow hk hf
      generalize y.toUInt8 = cb at hsrc HB HU
      go_wp2_with (at_builtin; refine wp_app rfl (.tmp 15) (.tmp 18) 24 24 rfl underS _ acc rfl hr2 _ [cb] rfl hsrc HB.out ?_)
      intro v' w1 g1 g2 g3 g4
      have HA : Hid (Keep [] w w1 ∧ Fresh w w1 v') := app_fresh HKF.out.1 HKF.out.2 g2 g3
      have HR : Hid (Row w1 v' (uvarint x)) := by
        show Row w1 v' (uvarint x)
        rw [HU.out]; exact g1
      clear g1 g2 g3 g4 hsrc hr2
      go_wp2
      go_ret
      exact ⟨_, rfl, HR.out, HA.out.2, HA.out.1⟩

set_option maxHeartbeats 1600000 in
theorem refTurned_any (x : Int) (h0 : -9223372036854775808 ≤ x) (h1 : x ≤ 9223372036854775807) (w : World) :
    Calls Try.prog 47 #[.int .i64 x] w fun e w' => e = .returned (.int .u64 ((zigzag x : Nat) : Int)) ∧ w' = w := by
  have hz : ((zigzag x : Nat) : Int) = if 0 ≤ x then 2 * x else -2 * x - 1 := by
    unfold zigzag
    split <;> omega
  by_cases hx : 0 ≤ x
  · rw [if_pos hx] at hz
    rw [hz]
    clear hz
    go_enter Try.func47, Try.ntmps47
    go_wp2
    go_ret
    exact ⟨rfl, rfl⟩
  · rw [if_neg hx] at hz
    rw [hz]
    clear hz
    go_enter Try.func47, Try.ntmps47
    go_wp2
    go_ret
    refine ⟨?_, rfl⟩
    show Ending.returned (Value.int .u64 (2 * -(x + 1) + 1)) = _
    congr 2
    omega

set_option maxHeartbeats 1600000 in
theorem refKey_any (x : Nat) (h : x < 4294967296) (w : World) :
    Calls Try.prog 49 #[.float .f32 x] w fun e w' => e = .returned (.int .u32 ((keyN x : Nat) : Int)) ∧ w' = w := by
  have h1 := run_f32bits x
  have n1 := neq_self x
  cases hn : nanB x with
  | true =>
    rw [hn] at n1
    rw [show keyN x = 4290772992 by unfold keyN; rw [if_pos hn]]
    go_enter Try.func49, Try.ntmps49
    go_wp2
    go_ret
    exact ⟨rfl, rfl⟩
  | false =>
    rw [hn] at n1
    by_cases hx : 2147483648 ≤ x
    · have hxi : (2147483648 : Int) ≤ (x : Int) := by omega
      have hk : ((keyN x : Nat) : Int) = 4294967295 - (x : Int) := by
        unfold keyN
        rw [if_neg (by simp [hn]), if_pos hx]
        omega
      rw [hk]
      go_enter Try.func49, Try.ntmps49
      go_wp2
      go_ret
      exact ⟨rfl, rfl⟩
    · have hxi : ¬ ((2147483648 : Int) ≤ (x : Int)) := by omega
      have hk : ((keyN x : Nat) : Int) = (x : Int) + 2147483648 := by
        unfold keyN
        rw [if_neg (by simp [hn]), if_neg hx]
        omega
      rw [hk]
      go_enter Try.func49, Try.ntmps49
      go_wp2
      go_ret
      exact ⟨rfl, rfl⟩

theorem refFour_any (k : Nat) (h : k < 4294967296) (w : World) :
    Calls Try.prog 48 #[.int .u32 (k : Int)] w fun e w' => ∃ v', e = .returned v' ∧ Bs w' v' (four k) ∧ Fresh w w' v' ∧ Keep [] w w' := by
  have hB := Bs.four w k
  have e1 : ((k / 16777216 % 256 : Nat) : Int) = (k : Int) / 16777216 := by omega
  have e2 : ((k / 65536 % 256 : Nat) : Int) = (k : Int) / 65536 % 256 := by omega
  have e3 : ((k / 256 % 256 : Nat) : Int) = (k : Int) / 256 % 256 := by omega
  have e4 : ((k % 256 : Nat) : Int) = (k : Int) % 256 := by omega
  rw [e1, e2, e3, e4] at hB
  have HB : Hid (Bs (w.alloc (.cells #[.int .u8 ((k : Int) / 16777216), .int .u8 ((k : Int) / 65536 % 256), .int .u8 ((k : Int) / 256 % 256), .int .u8 ((k : Int) % 256)] TB)) (.slice (some ⟨w.heap.size, 0, none⟩) 4 4) (four k)) := hB
  clear hB e1 e2 e3 e4
  go_enter Try.func48, Try.ntmps48
  go_wp2
  go_ret
  refine ⟨_, rfl, HB.out, fun x hx => ?_, Keep.alloc1 w _⟩
  simp [Value.ownBlock] at hx
  subst hx
  simp

set_option maxRecDepth 1000000 in
set_option maxHeartbeats 3200000 in
theorem refText_any (s : ByteArray) (hs : s.size ≤ 140737488350000) (w : World) :
    Calls Try.prog 50 #[.string s] w fun e w' => ∃ v', e = .returned v' ∧ Row w' v' (uvarint s.size ++ s.data.toList) ∧ Fresh w w' v' ∧ Keep [] w w' := by
  have hU := refUint_any s.size (by omega) w
  have hul := uvarint_length64 (show s.size < 18446744073709551616 by omega)
  have hss : s.data.toList.length = s.size := by simp
  have hbt := get_bt s
  have hbt2 : ∀ i, i < s.size → bt s i = ((s.data.toList.getD i 0).toNat : Int) := by
    intro i hi
    rw [← hbt i hi, List.getD_eq_getElem?_getD, List.getElem?_eq_getElem (by rw [hss]; exact hi)]
    rfl
  go_enter Try.func50, Try.ntmps50
  go_wp2_with fail
  refine hU.mono ?_
  rintro e1 w1 ⟨v1, rfl, R1, F1, K1⟩
  have HI : Hid (Row w1 v1 (uvarint s.size) ∧ Keep [] w w1 ∧ Fresh w w1 v1) := ⟨R1, K1, F1⟩
  clear hU R1 F1 K1
  go_wp2
  go_loopw [3, 4] (fun ov iv wr => ∃ (i : Nat), iv = .int .i64 (i : Int) ∧ i ≤ s.size ∧ Row wr ov (uvarint s.size ++ s.data.toList.take i) ∧ Keep [] w wr ∧ Fresh w wr ov)
    (fun _ iv _ => s.size - (intOf iv).toNat)
  case atStart => exact ⟨0, rfl, Nat.zero_le _, by simpa using HI.out.1, HI.out.2.1, HI.out.2.2⟩
  case round =>
    obtain ⟨i, rfl, hi, hrow, hk, hf⟩ := hrel
    clear HI
    by_cases hil : i < s.size
    · have hili : (i : Int) < (s.size : Int) := by omega
      have hx := take_snoc s.data.toList i (by omega)
      have hb2 := hbt2 i hil
      generalize s.data.toList.getD i 0 = x at hx hb2
      have hsrc := (Bs.byte wr x).src
      have hr2 : Row (wr.alloc (.cells #[.int .u8 (x.toNat : Int)] TB)) u3 (uvarint s.size ++ s.data.toList.take i) := hrow.keep (Keep.alloc1 wr _) (Off.nil _)
      have HB : Hid ((uvarint s.size ++ s.data.toList.take i).length + [x].length ≤ 140737488355328) := by
        show (uvarint s.size ++ s.data.toList.take i).length + [x].length ≤ 140737488355328
        simp; omega
      have HX : Hid (uvarint s.size ++ s.data.toList.take (i + 1) = (uvarint s.size ++ s.data.toList.take i) ++ [x]) := by
        show uvarint s.size ++ s.data.toList.take (i + 1) = (uvarint s.size ++ s.data.toList.take i) ++ [x]
        rw [hx, List.append_assoc]
      have HKF : Hid (Keep [] w wr ∧ Fresh w wr u3) := ⟨hk, hf⟩
      clear hx hrow hk hf hbt2
      generalize uvarint s.size ++ s.data.toList.take i = acc at hr2 HB HX
      go_wp2_with (at_builtin; refine wp_app rfl (.tmp 15) (.tmp 19) 24 24 rfl underS _ acc rfl hr2 _ [x] rfl hsrc HB.out ?_)
      intro v' w2 g1 g2 g3 g4
      have HA : Hid (Keep [] w w2 ∧ Fresh w w2 v') := app_fresh HKF.out.1 HKF.out.2 g2 g3
      have HR : Hid (Row w2 v' (uvarint s.size ++ s.data.toList.take (i + 1))) := by
        show Row w2 v' (uvarint s.size ++ s.data.toList.take (i + 1))
        rw [HX.out]; exact g1
      clear g1 g2 g3 g4 hsrc hr2
      go_wp2
      go_roundw
      case rel => exact ⟨i + 1, by go_num, by omega, HR.out, HA.out.1, HA.out.2⟩
      case measure => simp [intOf]; omega
    · have hili : ¬ ((i : Int) < (s.size : Int)) := by omega
      rw [List.take_of_length_le (by omega)] at hrow
      have HR : Hid (Row wr u3 (uvarint s.size ++ s.data.toList) ∧ Fresh w wr u3 ∧ Keep [] w wr) := ⟨hrow, hf, hk⟩
      clear hrow hk hf hbt2
      go_wp2
      go_ret
      exact ⟨_, rfl, HR.out⟩

set_option maxRecDepth 1000000 in
set_option maxHeartbeats 6400000 in
theorem bytes_any (p : PutD) (hp : p.Ok) (u : Value) (w : World) (hu : Bs w u p.raw) (ht : p.text.size ≤ 140737488350000) :
    Calls Try.prog 15 #[p.val u] w fun e w' => ∃ v', e = .returned v' ∧ Bs w' v' p.bytes ∧ Keep [] w w' ∧ (Fresh w w' v' ∨ v' = u) := by
  have hP := pick_any p.kind 6 hp.kind0 hp.kind1 (by omega) (w.alloc (p.blk u))
  rw [p.k_eq] at hP
  have K0 := Keep.alloc1 w (p.blk u)
  have U0 := hu.keep K0 (Off.nil _)
  have HK : Hid (Keep [] w (w.alloc (p.blk u)) ∧ Bs (w.alloc (p.blk u)) u p.raw) := ⟨K0, U0⟩
  clear K0 U0 hu
  have hk := p.k_lt
  have hc : p.k = 0 ∨ p.k = 1 ∨ p.k = 2 ∨ p.k = 3 ∨ p.k = 4 ∨ p.k = 5 := by omega
  have hbl : p.bytes = p.bytes := rfl
  conv at hbl => rhs; unfold PutD.bytes
  rcases hc with e | e | e | e | e | e <;> simp only [e, reduceIte, Nat.reduceEqDiff] at hbl hP <;> rw [hbl] <;> clear hbl
  · go_enter Try.func15, Try.ntmps15
    go_wp2_with fail
    refine hP.mono ?_
    rintro e1 w1 ⟨rfl, hw1⟩
    obtain rfl := hw1.symm
    clear hP
    have hB := Bs.one (w.alloc (p.blk u)) (p.uint % 256) (by omega)
    have he : ((p.uint % 256 : Nat) : Int) = (p.uint : Int) % 256 := by omega
    rw [he] at hB
    have HB : Hid (Bs ((w.alloc (p.blk u)).alloc (.cells #[.int .u8 ((p.uint : Int) % 256)] TB)) (.slice (some ⟨(w.alloc (p.blk u)).heap.size, 0, none⟩) 1 1) [(p.uint % 256).toUInt8]) := hB
    clear hB he
    have hgs : (w.alloc (p.blk u)).heap.size = w.heap.size + 1 := by simp
    go_wp2
    go_ret
    refine ⟨_, rfl, by simpa using HB.out, HK.out.1.alloc _, .inl fun x hx => ?_⟩
    simp [Value.ownBlock] at hx
    subst hx
    simp
  · go_enter Try.func15, Try.ntmps15
    go_wp2_with fail
    refine hP.mono ?_
    rintro e1 w1 ⟨rfl, hw1⟩
    obtain rfl := hw1.symm
    clear hP
    go_wp2_with fail
    refine (refUint_any p.uint hp.uint1 _).mono ?_
    rintro e2 w2 ⟨v2, rfl, R2, F2, K2⟩
    have HR : Hid (Bs w2 v2 (uvarint p.uint) ∧ Keep [] w w2 ∧ (Fresh w w2 v2 ∨ v2 = u)) := ⟨R2.bs, HK.out.1.trans' K2, .inl (F2.earlier HK.out.1.size)⟩
    clear R2 K2 F2
    go_wp2
    go_ret
    exact ⟨_, rfl, HR.out⟩
  · go_enter Try.func15, Try.ntmps15
    go_wp2_with fail
    refine hP.mono ?_
    rintro e1 w1 ⟨rfl, hw1⟩
    obtain rfl := hw1.symm
    clear hP
    go_wp2_with fail
    refine (refTurned_any p.int hp.int0 hp.int1 _).mono ?_
    rintro e2 w2 ⟨rfl, hw2⟩
    obtain rfl := hw2.symm
    go_wp2_with fail
    refine (refUint_any (zigzag p.int) (zigzag_lt hp.int0 hp.int1) _).mono ?_
    rintro e2 w2 ⟨v2, rfl, R2, F2, K2⟩
    have HR : Hid (Bs w2 v2 (uvarint (zigzag p.int)) ∧ Keep [] w w2 ∧ (Fresh w w2 v2 ∨ v2 = u)) := ⟨R2.bs, HK.out.1.trans' K2, .inl (F2.earlier HK.out.1.size)⟩
    clear R2 K2 F2
    go_wp2
    go_ret
    exact ⟨_, rfl, HR.out⟩
  · go_enter Try.func15, Try.ntmps15
    go_wp2_with fail
    refine hP.mono ?_
    rintro e1 w1 ⟨rfl, hw1⟩
    obtain rfl := hw1.symm
    clear hP
    go_wp2_with fail
    refine (refKey_any p.real hp.real1 _).mono ?_
    rintro e2 w2 ⟨rfl, hw2⟩
    obtain rfl := hw2.symm
    go_wp2_with fail
    refine (refFour_any (keyN p.real) (keyN_lt _ hp.real1) _).mono ?_
    rintro e2 w2 ⟨v2, rfl, R2, F2, K2⟩
    have HR : Hid (Bs w2 v2 (four (keyN p.real)) ∧ Keep [] w w2 ∧ (Fresh w w2 v2 ∨ v2 = u)) := ⟨R2, HK.out.1.trans' K2, .inl (F2.earlier HK.out.1.size)⟩
    clear R2 K2 F2
    go_wp2
    go_ret
    exact ⟨_, rfl, HR.out⟩
  · go_enter Try.func15, Try.ntmps15
    go_wp2_with fail
    refine hP.mono ?_
    rintro e1 w1 ⟨rfl, hw1⟩
    obtain rfl := hw1.symm
    clear hP
    go_wp2_with fail
    refine (refText_any p.text ht _).mono ?_
    rintro e2 w2 ⟨v2, rfl, R2, F2, K2⟩
    have HR : Hid (Bs w2 v2 (uvarint p.text.size ++ p.text.data.toList) ∧ Keep [] w w2 ∧ (Fresh w w2 v2 ∨ v2 = u)) := ⟨R2.bs, HK.out.1.trans' K2, .inl (F2.earlier HK.out.1.size)⟩
    clear R2 K2 F2
    go_wp2
    go_ret
    exact ⟨_, rfl, HR.out⟩
  · go_enter Try.func15, Try.ntmps15
    go_wp2_with fail
    refine hP.mono ?_
    rintro e1 w1 ⟨rfl, hw1⟩
    obtain rfl := hw1.symm
    clear hP
    go_wp2
    go_ret
    exact ⟨_, rfl, HK.out.2, HK.out.1, .inr rfl⟩

end Go.Proofs.Ytcmembmaaebdeaa
