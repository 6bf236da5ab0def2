/- The short form of a number is written by the loop of putShort. -/
import Derived.Test.YtjdihnkcigoajaaGreatDoorWrW
import Derived.Test.YtjdihnkcigoajaaGreatDoorSameR
import Derived.Laws.BitsAllLaws
import Derived.Deep.RegionWith
import Derived.Lib.LazyBuf

namespace Go.Proofs.YtjdihnkcigoajaaGreatDoor
open Go.RowKit Go.PlainAid Go.Lib

set_option maxHeartbeats 1600000 in
theorem putShort_any (b o : Nat) (l : List UInt8) (rb : Option Nat) (x : Nat) (w : World) (hx : x < 18446744073709551616) (hw : Wr w b o l rb) (hn : l.length + 10 ≤ 140737488355328) :
    Calls Tryz.prog 61 #[.pointer (some ⟨b, o, none⟩), .int .u64 (x : Int)] w fun e w' => e = .returned (.tuple #[]) ∧ ∃ rb', Wr w' b o (l ++ uvarint x) rb' ∧ Keep (b :: rb.toList) w w' ∧ Newer w w' rb rb' := by
  go_enter Tryz.func61, Tryz.ntmps61
  go_wp2
  go_loopw [1] (fun xv wr => ∃ (y : Nat) (p : List UInt8) (r : Option Nat), xv = .int .u64 (y : Int) ∧ y ≤ x ∧ p ++ uvarint y = uvarint x ∧ Wr wr b o (l ++ p) r ∧ Keep (b :: rb.toList) w wr ∧ Newer w wr rb r)
    (fun xv _ => (RowKit.intOf xv).toNat)
  case atStart => exact ⟨x, [], rb, rfl, Nat.le_refl _, rfl, by simpa using hw, Keep.refl _ _, Newer.refl _ _ _⟩
  case round =>
    obtain ⟨y, p, r, rfl, hyx, hp, hwr, hkr, hnr⟩ := hrel
    have hlen : p.length + (uvarint y).length ≤ 10 := by
      have h1 := uvarint_length64 hx
      rw [← hp, List.length_append] at h1
      exact h1
    have hpos := uvarint_pos y
    by_cases hy : y < 128
    · have hyi : ¬ ((128 : Int) ≤ (y : Int)) := by omega
      go_wp2_with fail
      refine (put_any b o (l ++ p) [y.toUInt8] r _ _ (hwr.alloc _) (Bs.one wr y (by omega)) (by simp; omega)).mono ?_
      rintro e w9 ⟨rfl, r', hw9, hk9, hn9⟩
      rw [uvarint_small hy] at hp
      rw [List.append_assoc, hp] at hw9
      have HK : Hid (Keep (b :: rb.toList) w w9) := (hkr.alloc _).more hk9 (fun z hz => by rcases hnr.foot z hz with h | h; exact .inl h; exact .inr h)
      have HN : Hid (Newer w w9 rb r') := hnr.trans (b := wr) (c := w9) (by
        rcases hn9 with h | h
        · exact .inl h
        · exact .inr fun k hk => ⟨by have := (h k hk).1; simp at this; omega, (h k hk).2⟩) hkr.size (by have := hk9.size; simp at this; omega)
      clear hk9 hn9 hkr hnr hwr
      go_wp2
      go_end0
      exact ⟨rfl, r', hw9, HK.out, HN.out⟩
    · have hyi : ((128 : Int) ≤ (y : Int)) := by omega
      have hor : bits .or .u8 ((y : Int) % 256) 128 = ((y % 128 + 128 : Nat) : Int) := by
        rw [u8_or128_any _ (by omega) (by omega)]
        omega
      go_wp2_with fail
      refine (put_any b o (l ++ p) [(y % 128 + 128).toUInt8] r _ _ (hwr.alloc _) (Bs.one wr (y % 128 + 128) (by omega)) (by simp; omega)).mono ?_
      rintro e w9 ⟨rfl, r', hw9, hk9, hn9⟩
      rw [uvarint_big (by omega)] at hp
      have HP : Hid (p ++ [(y % 128 + 128).toUInt8] ++ uvarint (y / 128) = uvarint x) := by
        rw [List.append_assoc]; exact hp
      have HK : Hid (Keep (b :: rb.toList) w w9) := (hkr.alloc _).more hk9 (fun z hz => by rcases hnr.foot z hz with h | h; exact .inl h; exact .inr h)
      have HN : Hid (Newer w w9 rb r') := hnr.trans (b := wr) (c := w9) (by
        rcases hn9 with h | h
        · exact .inl h
        · exact .inr fun k hk => ⟨by have := (h k hk).1; simp at this; omega, (h k hk).2⟩) hkr.size (by have := hk9.size; simp at this; omega)
      have HW : Hid (Wr w9 b o (l ++ (p ++ [(y % 128 + 128).toUInt8])) r') := by
        rw [← List.append_assoc]; exact hw9
      clear hk9 hn9 hkr hnr hwr hw9 hp
      go_wp2
      go_roundw
      case rel => exact ⟨y / 128, _, r', by go_num, by omega, HP.out, HW.out, HK.out, HN.out⟩
      case measure => simp [RowKit.intOf]; omega

end Go.Proofs.YtjdihnkcigoajaaGreatDoor



/- The turned form and the key of a number, and the number of each, for every input. -/
namespace Go.Proofs.YtjdihnkcigoajaaGreatDoor
open Go.RowKit Go.PlainAid Go.Lib

def unzig (u : Nat) : Int := if u % 2 = 0 then (u / 2 : Nat) else -((u / 2 : Nat) : Int) - 1

set_option maxRecDepth 1000000 in
theorem wrap64_small (x : Int) (h0 : -9223372036854775808 ≤ x) (h1 : x ≤ 9223372036854775807) : wrap64 x = x := by
  unfold wrap64
  omega

set_option maxRecDepth 1000000 in
theorem turned_eq (x : Int) (h0 : -9223372036854775808 ≤ x) (h1 : x ≤ 9223372036854775807) :
    bits .xor .u64 (IntKind.u64.wrap (wrap64 (x * 2))) (IntKind.u64.wrap (x / 9223372036854775808)) = ((zigzag x : Nat) : Int) := by
  have e1 : IntKind.u64.wrap (wrap64 (x * 2)) = (((2 * x) % 18446744073709551616).toNat : Int) := by
    rw [IntKind.wrap_u64]
    unfold wrap64
    omega
  rw [e1]
  by_cases hx : 0 ≤ x
  · have e2 : IntKind.u64.wrap (x / 9223372036854775808) = ((0 : Nat) : Int) := by rw [IntKind.wrap_u64]; omega
    rw [e2, u64_xor_nat _ _ (by omega) (by decide), zigzag_nonneg hx]
    simp
    omega
  · have e2 : IntKind.u64.wrap (x / 9223372036854775808) = ((18446744073709551615 : Nat) : Int) := by rw [IntKind.wrap_u64]; omega
    rw [e2, u64_xor_nat _ _ (by omega) (by decide), Nat.xor_comm]
    have h2 := xor_ones64 ((2 * x) % 18446744073709551616).toNat (by omega)
    rw [show (18446744073709551615 : Nat) = 2 ^ 64 - 1 by decide, h2]
    unfold zigzag
    rw [if_neg hx]
    omega

set_option maxRecDepth 1000000 in
set_option maxHeartbeats 800000 in
theorem turned_any (x : Int) (h0 : -9223372036854775808 ≤ x) (h1 : x ≤ 9223372036854775807) (w : World) :
    Calls Tryz.prog 62 #[.int .i64 x] w fun e w' => e = .returned (.int .u64 ((zigzag x : Nat) : Int)) ∧ w' = w := by
  have ht := turned_eq x h0 h1
  go_enter Tryz.func62, Tryz.ntmps62
  go_wp2
  go_ret
  exact ⟨rfl, rfl⟩

set_option maxRecDepth 1000000 in
theorem xor_i64_zero (x : Nat) (hx : x < 9223372036854775808) : bits .xor .i64 (x : Int) 0 = (x : Int) := by
  show IntKind.i64.wrap ((BitVec.ofInt 64 (x : Int) ^^^ BitVec.ofInt 64 0).toNat : Int) = _
  have h2 : (BitVec.ofInt 64 (x : Int)).toNat = x := by
    rw [BitVec.toNat_ofInt]; omega
  rw [BitVec.toNat_xor, h2, IntKind.wrap_i64]
  simp
  omega
set_option maxRecDepth 1000000 in
theorem xor_i64_comm (x y : Int) : bits .xor .i64 x y = bits .xor .i64 y x := by
  show IntKind.i64.wrap ((BitVec.ofInt 64 x ^^^ BitVec.ofInt 64 y).toNat : Int) = IntKind.i64.wrap ((BitVec.ofInt 64 y ^^^ BitVec.ofInt 64 x).toNat : Int)
  rw [BitVec.xor_comm]

set_option maxRecDepth 1000000 in
set_option maxHeartbeats 800000 in
theorem key_any (x : Nat) (h : x < 4294967296) (w : World) :
    Calls Tryz.prog 63 #[.float .f32 x] w fun e w' => e = .returned (.int .u32 ((keyN x : Nat) : Int)) ∧ w' = w := by
  have hfb := run_f32bits x w
  have hnn := neq_self x
  have h31 := and31 x h
  have hk : keyN x = if nanB x = true then 4290772992 else if 2147483648 ≤ x then 4294967295 - x else x + 2147483648 := rfl
  cases hb : nanB x
  · rw [hb] at hnn hk
    by_cases hx : 2147483648 ≤ x
    · rw [if_neg (by decide), if_pos hx] at hk
      rw [if_pos hx] at h31
      have hx1 := not32 x h
      have ht : (bits .and .u32 (x : Int) 2147483648 != 0) = true := by rw [h31]; rfl
      clear h31
      rw [hk]; clear hk
      go_enter Tryz.func63, Tryz.ntmps63
      go_wp2
      all_goals go_ret
      all_goals exact ⟨rfl, rfl⟩
    · rw [if_neg (by decide), if_neg hx] at hk
      rw [if_neg hx] at h31
      have hx1 := or31 x (by omega)
      have ht : (bits .and .u32 (x : Int) 2147483648 != 0) = false := by rw [h31]; rfl
      clear h31
      rw [hk]; clear hk
      go_enter Tryz.func63, Tryz.ntmps63
      go_wp2
      all_goals go_ret
      all_goals exact ⟨rfl, rfl⟩
  · rw [hb] at hnn hk
    rw [if_pos rfl] at hk
    rw [hk]; clear hk
    go_enter Tryz.func63, Tryz.ntmps63
    go_wp2
    all_goals go_ret
    all_goals exact ⟨rfl, rfl⟩

end Go.Proofs.YtjdihnkcigoajaaGreatDoor



/- What each method of a Writer writes and answers, for every Writer and every input, one that is not there too. -/
namespace Go.Proofs.YtjdihnkcigoajaaGreatDoor
open Go.RowKit Go.PlainAid Go.Lib

/-- behind it the Writer has r more -/
def Wrote (w w' : World) (b o : Nat) (l r : List UInt8) (rb : Option Nat) : Prop := ∃ rb', Wr w' b o (l ++ r) rb' ∧ Keep (b :: rb.toList) w w' ∧ Newer w w' rb rb'

theorem Wrote.after {w0 w w' : World} {b o : Nat} {l r : List UInt8} {rb : Option Nat} (h : Wrote w w' b o l r rb) (k : Keep [] w0 w) : Wrote w0 w' b o l r rb := by
  obtain ⟨rb', h1, h2, h3⟩ := h
  refine ⟨rb', h1, k.trans h2 (fun _ h => by cases h) (fun x hx => .inl hx), ?_⟩
  rcases h3 with h3 | h3
  · exact .inl h3
  · exact .inr fun x hx => ⟨Nat.le_trans k.size (h3 x hx).1, (h3 x hx).2⟩

def four (k : Nat) : List UInt8 := [(k / 16777216 % 256).toUInt8, (k / 65536 % 256).toUInt8, (k / 256 % 256).toUInt8, (k % 256).toUInt8]

theorem Bs.four (w : World) (k : Nat) :
    Bs (w.alloc (.cells #[.int .u8 ((k / 16777216 % 256 : Nat) : Int), .int .u8 ((k / 65536 % 256 : Nat) : Int), .int .u8 ((k / 256 % 256 : Nat) : Int), .int .u8 ((k % 256 : Nat) : Int)] TB)) (.slice (some ⟨w.heap.size, 0, none⟩) 4 4) (four k) := by
  have e : ∀ x, ((x % 256).toUInt8).toNat = x % 256 := fun x => by simp
  refine ⟨some ⟨w.heap.size, 0, none⟩, 4, rfl, Nat.le_refl _, by simp [maxLen], (by intro h; cases h), fun _ => ⟨w.heap.size, 0, rfl, fun j hj => ?_⟩⟩
  match j, hj with
  | 0, _ => simp [YtjdihnkcigoajaaGreatDoor.four]
  | 1, _ => simp [YtjdihnkcigoajaaGreatDoor.four]
  | 2, _ => simp [YtjdihnkcigoajaaGreatDoor.four]
  | 3, _ => simp [YtjdihnkcigoajaaGreatDoor.four]
  | n + 4, hj => exact absurd hj (by simp [YtjdihnkcigoajaaGreatDoor.four])

set_option maxHeartbeats 800000 in
theorem wByte_any (b o : Nat) (l : List UInt8) (rb : Option Nat) (c : Nat) (hc : c < 256) (w : World) (hw : Wr w b o l rb) (hn : l.length + 1 ≤ 140737488355328) :
    Calls Tryz.prog 18 #[.pointer (some ⟨b, o, none⟩), .int .u8 (c : Int)] w fun e w' => e = .returned (.tuple #[]) ∧ Wrote w w' b o l [c.toUInt8] rb := by
  go_enter Tryz.func18, Tryz.ntmps18
  go_wp2_with fail
  refine (put_any b o l [c.toUInt8] rb _ _ (hw.alloc _) (Bs.one w c hc) (by simpa using hn)).mono ?_
  rintro e w9 ⟨rfl, h9⟩
  have HW : Hid (Wrote w w9 b o l [c.toUInt8] rb) := Wrote.after (w := w.alloc _) h9 (Keep.alloc1 w _)
  clear h9
  go_wp2
  go_end0
  exact ⟨rfl, HW.out⟩

set_option maxHeartbeats 800000 in
theorem wUint_any (b o : Nat) (l : List UInt8) (rb : Option Nat) (x : Nat) (hx : x < 18446744073709551616) (w : World) (hw : Wr w b o l rb) (hn : l.length + 10 ≤ 140737488355328) :
    Calls Tryz.prog 43 #[.pointer (some ⟨b, o, none⟩), .int .u64 (x : Int)] w fun e w' => e = .returned (.tuple #[]) ∧ Wrote w w' b o l (uvarint x) rb := by
  go_enter Tryz.func43, Tryz.ntmps43
  go_wp2_with fail
  refine (putShort_any b o l rb x w hx hw hn).mono ?_
  rintro e w9 ⟨rfl, h9⟩
  have HW : Hid (Wrote w w9 b o l (uvarint x) rb) := h9
  clear h9
  go_wp2
  go_end0
  exact ⟨rfl, HW.out⟩

theorem putShort_from (b o : Nat) (l : List UInt8) (rb : Option Nat) (x : Nat) (w0 w : World) (hx : x < 18446744073709551616) (hw : Wr w0 b o l rb) (k : Keep [] w0 w) (hn : l.length + 10 ≤ 140737488355328) :
    Calls Tryz.prog 61 #[.pointer (some ⟨b, o, none⟩), .int .u64 (x : Int)] w fun e w' => e = .returned (.tuple #[]) ∧ Wrote w0 w' b o l (uvarint x) rb := by
  refine (putShort_any b o l rb x w hx (hw.keep k (by simp) (fun _ _ => by simp)) hn).mono ?_
  rintro e w9 ⟨rfl, h9⟩
  exact ⟨rfl, Wrote.after (w := w) h9 k⟩

set_option maxHeartbeats 800000 in
theorem wInt_any (b o : Nat) (l : List UInt8) (rb : Option Nat) (x : Int) (h0 : -9223372036854775808 ≤ x) (h1 : x ≤ 9223372036854775807) (w : World) (hw : Wr w b o l rb) (hn : l.length + 10 ≤ 140737488355328) :
    Calls Tryz.prog 40 #[.pointer (some ⟨b, o, none⟩), .int .i64 x] w fun e w' => e = .returned (.tuple #[]) ∧ Wrote w w' b o l (uvarint (zigzag x)) rb := by
  have hz := zigzag_lt h0 h1
  go_enter Tryz.func40, Tryz.ntmps40
  go_wp2
  go_region_with (first
    | (go_at_call 62; refine (turned_any x h0 h1 _).mono ?_; rintro e w8 ⟨rfl, rfl⟩)
    | (go_at_call 61; refine (putShort_from b o l rb (zigzag x) w _ hz hw (by repeat (first | exact Keep.refl _ _ | apply Keep.drew | apply Keep.drewN)) hn).mono ?_; rintro e w9 ⟨rfl, h9⟩))
  all_goals
    rename_i h9
    have HW : Hid (Wrote w _ b o l (uvarint (zigzag x)) rb) := h9
    clear h9
    go_wp2
    go_end0
    exact ⟨rfl, HW.out⟩

set_option maxHeartbeats 800000 in
theorem wReal_any (b o : Nat) (l : List UInt8) (rb : Option Nat) (x : Nat) (hx : x < 4294967296) (w : World) (hw : Wr w b o l rb) (hn : l.length + 4 ≤ 140737488355328) :
    Calls Tryz.prog 41 #[.pointer (some ⟨b, o, none⟩), .float .f32 x] w fun e w' => e = .returned (.tuple #[]) ∧ Wrote w w' b o l (four (keyN x)) rb := by
  have hk := keyN_lt x hx
  have hkey := key_any x hx w
  generalize keyN x = k at hk hkey ⊢
  go_enter Tryz.func41, Tryz.ntmps41
  go_wp2_with fail
  refine hkey.mono ?_
  rintro e w8 ⟨rfl, hw8⟩
  obtain rfl := hw8.symm
  go_wp2_with fail
  have hb4 := Bs.four w k
  have hput := put_any b o l (four k) rb _ _ (hw.alloc _) hb4 (by simpa [four] using hn)
  have e4 : Obj.cells #[Value.int .u8 ((k : Int) / 16777216), .int .u8 ((k : Int) / 65536 % 256), .int .u8 ((k : Int) / 256 % 256), .int .u8 ((k : Int) % 256)] 5 = Obj.cells #[.int .u8 ((k / 16777216 % 256 : Nat) : Int), .int .u8 ((k / 65536 % 256 : Nat) : Int), .int .u8 ((k / 256 % 256 : Nat) : Int), .int .u8 ((k % 256 : Nat) : Int)] TB := by
    rw [show ((k / 16777216 % 256 : Nat) : Int) = (k : Int) / 16777216 by omega]
    rfl
  rw [e4]
  refine hput.mono ?_
  rintro e w9 ⟨rfl, h9⟩
  have HW : Hid (Wrote w w9 b o l (four k) rb) := Wrote.after (w := w.alloc _) h9 (Keep.alloc1 w _)
  clear h9 hput hb4
  go_wp2
  go_end0
  exact ⟨rfl, HW.out⟩

set_option maxHeartbeats 800000 in
theorem wText_any (b o : Nat) (l : List UInt8) (rb : Option Nat) (s : ByteArray) (w : World) (hw : Wr w b o l rb) (hn : l.length + 10 + s.size ≤ 140737488355328) :
    Calls Tryz.prog 42 #[.pointer (some ⟨b, o, none⟩), .string s] w fun e w' => e = .returned (.tuple #[]) ∧ Wrote w w' b o l (uvarint s.size ++ s.data.toList) rb := by
  have hs : s.size < 18446744073709551616 := by omega
  have hl := uvarint_length64 hs
  go_enter Tryz.func42, Tryz.ntmps42
  go_wp2_with fail
  refine (putShort_any b o l rb s.size w hs hw (by omega)).mono ?_
  rintro e w8 ⟨rfl, r8, h8, k8, n8⟩
  go_wp2_with fail
  refine (putText_any b o (l ++ uvarint s.size) s r8 w8 h8 (by rw [List.length_append]; omega)).mono ?_
  rintro e w9 ⟨rfl, r9, h9, k9, n9⟩
  have HW : Hid (Wrote w w9 b o l (uvarint s.size ++ s.data.toList) rb) :=
    ⟨r9, by rw [← List.append_assoc]; exact h9, k8.more k9 (fun x hx => n8.foot x hx), n8.trans n9 k8.size k9.size⟩
  clear h9 k9 n9 h8 k8 n8
  go_wp2
  go_end0
  exact ⟨rfl, HW.out⟩

theorem Row.empty (w : World) : Row (w.alloc (.cells #[] TB)) (.slice (some ⟨w.heap.size, 0, none⟩) 0 0) [] :=
  World.ownsRow_made w #[] 0 (Nat.zero_le _) (Nat.zero_le _) rfl

theorem eqNil (a : Option Addr) (l c : Nat) (w : World) : (binOp .eql 31 (.slice a l c) (.slice none 0 0)).run Tryz.prog w = .ok (.bool a.isNone) w :=
  run_eql_slice_nil w 31 5 a l c underS

set_option maxRecDepth 1000000 in
set_option maxHeartbeats 800000 in
/-- bytes.Clone: other memory, the same bytes -/
theorem clone_any (v : Value) (l : List UInt8) (w : World) (hv : Bs w v l) (hn : l.length ≤ 140737488355328) :
    Calls Tryz.prog 65 #[v] w fun e w' => ∃ v', e = .returned v' ∧ Row w' v' l ∧ Fresh w w' v' ∧ Keep [] w w' ∧ Sl v' l.length := by
  by_cases hnil : v = .slice none 0 0
  · subst hnil
    obtain ⟨ao, cap, he, _⟩ := hv.ex
    have hl : l = [] := by
      simp at he
      exact List.eq_nil_of_length_eq_zero he.2.1.symm
    subst hl
    clear hn hv he
    have hq := eqNil none 0 0 w
    go_enter Tryz.func65, Tryz.ntmps65
    go_wp2
    go_ret
    exact ⟨_, rfl, Row.nil w, Fresh.nil w w, Keep.refl _ _, ⟨_, _, rfl⟩⟩
  · obtain ⟨ao, cap, he, h1, h2, h3, h4⟩ := hv.ex
    obtain ⟨a, rfl⟩ : ∃ a, ao = some a := by
      cases ao with
      | none =>
        have := h3 rfl
        subst this
        have : l.length = 0 := by omega
        rw [this] at he
        exact absurd he hnil
      | some a => exact ⟨a, rfl⟩
    have hsrc := (hv.keep (Keep.alloc1 w (.cells #[] TB)) (Off.nil v)).src
    have HV : Hid (Src Tryz.prog 1 TS (.slice (some a) l.length cap) l.length (bv l) (w.alloc (.cells #[] TB))) := by rw [← he]; exact hsrc
    have HL : Hid (([] : List UInt8).length + l.length ≤ 140737488355328) := by
      show ([] : List UInt8).length + l.length ≤ 140737488355328
      simpa using hn
    clear hsrc hv hnil h1 h2 h3 h4 hn
    subst he
    have hq := eqNil (some a) l.length cap w
    go_enter Tryz.func65, Tryz.ntmps65
    go_wp2_with (at_builtin; refine wp_app rfl (.tmp 5) (.tmp 6) 31 31 rfl underS _ [] rfl (Row.empty w) _ l rfl HV.out HL.out ?_)
    intro v' w1 h1 h2 h3 h4
    have HR : Hid (Row w1 v' l) := h1
    have HK : Hid (Keep [] w w1) := (Keep.alloc1 w _).more h2 (by intro x hx; simp [Value.ownBlock] at hx; subst hx; exact .inr (Nat.le_refl _))
    have HF : Hid (Fresh w w1 v') := by
      rcases h3 with h3 | h3
      · intro k hk
        rw [h3] at hk
        simp [Value.ownBlock] at hk
        subst hk
        have := h2.size
        simp at this
        exact ⟨Nat.le_refl _, by omega⟩
      · intro k hk
        have := h3 k hk
        simp at this
        exact ⟨by omega, this.2⟩
    have HSl : Hid (Sl v' l.length) := by
      show Sl v' l.length
      simpa using h4
    clear h1 h2 h3 h4
    go_wp2
    go_ret
    exact ⟨v', rfl, HR.out, HF.out, HK.out, HSl.out⟩

set_option maxHeartbeats 800000 in
theorem wBytes_any (b o : Nat) (l : List UInt8) (rb : Option Nat) (w : World) (hw : Wr w b o l rb) (hn : l.length ≤ 140737488355328) :
    Calls Tryz.prog 20 #[.pointer (some ⟨b, o, none⟩)] w fun e w' => ∃ v', e = .returned v' ∧ Row w' v' l ∧ Fresh w w' v' ∧ Keep [] w w' ∧ Sl v' l.length := by
  obtain ⟨hf, hne, v, hc, rfl, hrow⟩ := hw.ex
  have hcop : Calls Tryz.prog 44 #[.pointer (some ⟨b, o, none⟩)] w fun e w' => ∃ v', e = .returned v' ∧ Row w' v' l ∧ Fresh w w' v' ∧ Keep [] w w' ∧ Sl v' l.length := by
    go_enter Tryz.func44, Tryz.ntmps44
    go_wp2_with fail
    refine (clone_any v l w hrow.bs hn).mono ?_
    rintro e w9 ⟨v9, rfl, h9⟩
    have HH : Hid (Row w9 v9 l ∧ Fresh w w9 v9 ∧ Keep [] w w9 ∧ Sl v9 l.length) := h9
    clear h9
    go_wp2
    go_ret
    exact ⟨v9, rfl, HH.out⟩
  go_enter Tryz.func20, Tryz.ntmps20
  go_wp2_with fail
  refine hcop.mono ?_
  rintro e w9 ⟨v9, rfl, h9⟩
  have HH : Hid (Row w9 v9 l ∧ Fresh w w9 v9 ∧ Keep [] w w9 ∧ Sl v9 l.length) := h9
  clear h9 hcop
  go_wp2
  go_ret
  exact ⟨v9, rfl, HH.out⟩

set_option maxHeartbeats 800000 in
theorem wBytes_none (w : World) : Calls Tryz.prog 20 #[.pointer none] w fun e w' => e = .returned (.slice none 0 0) ∧ w' = w := by
  go_enter Tryz.func20, Tryz.ntmps20
  go_wp2
  go_ret
  exact ⟨rfl, rfl⟩

end Go.Proofs.YtjdihnkcigoajaaGreatDoor



/- What is read at the beginning of some bytes: a byte, a number's short form, a turned one, a key. -/
namespace Go.Proofs.YtjdihnkcigoajaaGreatDoor
open Go.RowKit Go.PlainAid Go.Lib

def numG : List UInt8 → Nat → Nat → Nat × Nat × Int
  | [], _, _ => (0, 0, 20)
  | c :: r, i, acc => if (0 < i ∧ c.toNat = 0) ∨ (i = 9 ∧ 1 < c.toNat) then (0, 0, 21) else if c.toNat < 128 then (acc + c.toNat % 128 * 128 ^ i, i + 1, 0) else numG r (i + 1) (acc + c.toNat % 128 * 128 ^ i)
def numL (l : List UInt8) : Nat × Nat × Int := numG l 0 0

theorem pow7 (i : Nat) : 2 ^ (7 * i) = 128 ^ i := by rw [Nat.pow_mul]
theorem pow128_le (i : Nat) (h : i ≤ 8) : 128 ^ i ≤ 72057594037927936 := Nat.le_trans (Nat.pow_le_pow_right (by decide) h) (by decide)

theorem step_lt (acc c i : Nat) (hacc : acc < 128 ^ i) (hi : i ≤ 9) (h9 : i = 9 → c ≤ 1) : acc + c % 128 * 128 ^ i < 18446744073709551616 := by
  by_cases h : i = 9
  · have := h9 h
    subst h
    have e : 128 ^ 9 = 9223372036854775808 := by decide
    rw [e] at hacc ⊢
    have : c % 128 ≤ 1 := by omega
    have := Nat.mul_le_mul_right 9223372036854775808 this
    omega
  · have h8 := pow128_le i (by omega)
    have : c % 128 ≤ 127 := by omega
    have := Nat.mul_le_mul this h8
    omega

theorem next_lt (acc c i : Nat) (hacc : acc < 128 ^ i) : acc + c % 128 * 128 ^ i < 128 ^ (i + 1) := by
  have : c % 128 ≤ 127 := by omega
  have := Nat.mul_le_mul_right (128 ^ i) this
  rw [Nat.pow_succ]
  omega

theorem or_step (acc c i : Nat) (hacc : acc < 128 ^ i) (hc : c < 256) (hi : i ≤ 9) (h9 : i = 9 → c ≤ 1) :
    bits .or .u64 (acc : Int) (IntKind.u64.wrap (IntKind.u64.wrap (bits .andNot .u8 (c : Int) 128) * 2 ^ (7 * i))) = ((acc + c % 128 * 128 ^ i : Nat) : Int) := by
  have h1 : bits .andNot .u8 (c : Int) 128 = ((c % 128 : Nat) : Int) := by
    have h2 := u8_andNot_nat c 128 hc (by decide)
    have e : ((128 : Nat) : Int) = 128 := rfl
    rw [e] at h2
    rw [h2]
    have h3 : c &&& 127 = c % 2 ^ 7 := Nat.and_two_pow_sub_one_eq_mod c 7
    rw [show 255 - 128 = 127 from rfl, h3]
  have h2 : IntKind.u64.wrap ((c % 128 : Nat) : Int) = ((c % 128 : Nat) : Int) := by rw [IntKind.wrap_u64]; omega
  have hlt := step_lt acc c i hacc hi h9
  have h3 : ((c % 128 : Nat) : Int) * 2 ^ (7 * i) = ((c % 128 * 128 ^ i : Nat) : Int) := by
    rw [← pow7 i]
    simp
  have h4 : IntKind.u64.wrap ((c % 128 * 128 ^ i : Nat) : Int) = ((c % 128 * 128 ^ i : Nat) : Int) := by rw [IntKind.wrap_u64]; omega
  rw [h1, h2, h3, h4, u64_or_nat acc (c % 128 * 128 ^ i) (by omega) (by omega)]
  have h5 := Nat.two_pow_add_eq_or_of_lt (i := 7 * i) (b := acc) (by rw [pow7]; exact hacc) (c % 128)
  rw [pow7, Nat.mul_comm] at h5
  rw [Nat.or_comm, ← h5, Nat.add_comm]

theorem drop_cons (l : List UInt8) (i : Nat) (h : i < l.length) : l.drop i = l.getD i 0 :: l.drop (i + 1) := by
  rw [List.drop_eq_getElem_cons h, List.getD_eq_getElem?_getD, List.getElem?_eq_getElem h]
  rfl

end Go.Proofs.YtjdihnkcigoajaaGreatDoor



/- A Reader in memory: what it has left and its error; what is asked of it without reading. -/
namespace Go.Proofs.YtjdihnkcigoajaaGreatDoor
open Go.RowKit Go.PlainAid Go.Lib

/-- at b, o lies a Reader that has l left, in the block rb (or in none), and the error e -/
structure Rd (w : World) (b o : Nat) (l : List UInt8) (e : Int) (rb : Option Nat) : Prop where
  f0 : w.frozen? ⟨b, o, none⟩ = false
  f1 : w.frozen? ⟨b, o + 1, none⟩ = false
  ne : rb ≠ some b
  lt : ∀ k, rb = some k → k < w.heap.size
  err : w.cell? ⟨b, o + 1, none⟩ = some (.int .i64 e)
  rest : (l = [] ∧ rb = none ∧ w.cell? ⟨b, o, none⟩ = some (.slice none 0 0)) ∨
    (∃ b2 o2 cap, rb = some b2 ∧ w.cell? ⟨b, o, none⟩ = some (.slice (some ⟨b2, o2, none⟩) l.length cap) ∧ l.length ≤ cap ∧ cap ≤ 9223372036854775807 ∧
      ∀ j, j < l.length → w.cell? ⟨b2, o2 + j, none⟩ = some (.int .u8 ((l.getD j 0).toNat : Int)))

theorem Rd.blt {w : World} {b o : Nat} {l : List UInt8} {e : Int} {rb : Option Nat} (h : Rd w b o l e rb) : b < w.heap.size := World.block_lt_of_cell? w _ h.err

theorem Rd.keep {F : List Nat} {w w' : World} {b o : Nat} {l : List UInt8} {e : Int} {rb : Option Nat} (h : Rd w b o l e rb) (k : Keep F w w') (hb : b ∉ F) (hr : ∀ x, rb = some x → x ∉ F) : Rd w' b o l e rb := by
  refine ⟨(k.frozen (p := ⟨b, o, none⟩) h.blt hb).trans h.f0, (k.frozen (p := ⟨b, o + 1, none⟩) h.blt hb).trans h.f1, h.ne, fun x hx => Nat.lt_of_lt_of_le (h.lt x hx) k.size, k.cell' h.err hb, ?_⟩
  rcases h.rest with ⟨h1, h2, h3⟩ | ⟨b2, o2, cap, h1, h2, h3, h4, h5⟩
  · exact .inl ⟨h1, h2, k.cell' h3 hb⟩
  · exact .inr ⟨b2, o2, cap, h1, k.cell' h2 hb, h3, h4, fun j hj => k.cell' (h5 j hj) (hr b2 h1)⟩

theorem Rd.len {w : World} {b o : Nat} {l : List UInt8} {e : Int} {rb : Option Nat} (h : Rd w b o l e rb) : l.length ≤ 9223372036854775807 := by
  rcases h.rest with ⟨h1, _⟩ | ⟨b2, o2, cap, h1, h2, h3, h4, h5⟩
  · rw [h1]; simp
  · omega

/-- the Reader goes on: n bytes are read, and its error is er -/
theorem Rd.stored {w w1 : World} {b o : Nat} {l : List UInt8} {e : Int} {rb : Option Nat} (h : Rd w b o l e rb) (k : Keep [] w w1) (l' : List UInt8) (er : Int) (v : Value)
    (hv : (l' = [] ∧ rb = none ∧ v = .slice none 0 0) ∨ (∃ b2 o2 cap, rb = some b2 ∧ v = .slice (some ⟨b2, o2, none⟩) l'.length cap ∧ l'.length ≤ cap ∧ cap ≤ 9223372036854775807 ∧
      ∀ j, j < l'.length → w.cell? ⟨b2, o2 + j, none⟩ = some (.int .u8 ((l'.getD j 0).toNat : Int)))) :
    Rd ((w1.setCell ⟨b, o, none⟩ v).setCell ⟨b, o + 1, none⟩ (.int .i64 er)) b o l' er rb ∧ Keep [b] w1 ((w1.setCell ⟨b, o, none⟩ v).setCell ⟨b, o + 1, none⟩ (.int .i64 er)) := by
  have h1 := h.keep k (by simp) (fun _ _ => by simp)
  have K : Keep [b] w1 ((w1.setCell ⟨b, o, none⟩ v).setCell ⟨b, o + 1, none⟩ (.int .i64 er)) :=
    ((Keep.refl [b] w1).setCell (p := ⟨b, o, none⟩) (.inl (by simp)) v).setCell (p := ⟨b, o + 1, none⟩) (.inl (by simp)) _
  refine ⟨⟨?_, ?_, h1.ne, fun x hx => Nat.lt_of_lt_of_le (h1.lt x hx) K.size, ?_, ?_⟩, K⟩
  · rw [World.frozen?_setCell, World.frozen?_setCell]; exact h1.f0
  · rw [World.frozen?_setCell, World.frozen?_setCell]; exact h1.f1
  · have h9 : (w1.setCell ⟨b, o, none⟩ v).cell? ⟨b, o + 1, none⟩ = some (.int .i64 e) := by
      rw [World.cell?_setCell_other _ _ _ _ (by simp)]
      exact h1.err
    exact World.cell?_setCell_same _ _ _ h9
  · have hself : ∃ u, w1.cell? ⟨b, o, none⟩ = some u := by
      rcases h1.rest with ⟨_, _, h3⟩ | ⟨b2, o2, cap, _, h3, _⟩
      · exact ⟨_, h3⟩
      · exact ⟨_, h3⟩
    obtain ⟨u, hu⟩ := hself
    have hc : ((w1.setCell ⟨b, o, none⟩ v).setCell ⟨b, o + 1, none⟩ (.int .i64 er)).cell? ⟨b, o, none⟩ = some v := by
      rw [World.cell?_setCell_other _ _ _ _ (by simp)]
      exact World.cell?_setCell_same _ _ _ hu
    rcases hv with ⟨h2, h3, rfl⟩ | ⟨b2, o2, cap, h2, rfl, h4, h5, h6⟩
    · exact .inl ⟨h2, h3, hc⟩
    · refine .inr ⟨b2, o2, cap, h2, hc, h4, h5, fun j hj => ?_⟩
      have hne : b2 ∉ [b] := by
        intro hm
        simp at hm
        subst hm
        exact h.ne h2
      exact K.cell' (k.cell' (h6 j hj) (by simp)) hne

def endE (l : List UInt8) (e : Int) : Int := if e = 0 then (if l = [] then 0 else 23) else e

end Go.Proofs.YtjdihnkcigoajaaGreatDoor


