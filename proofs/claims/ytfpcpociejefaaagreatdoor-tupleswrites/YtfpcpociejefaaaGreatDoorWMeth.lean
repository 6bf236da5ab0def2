/- What each method of a Writer writes and answers, for every Writer and every input, one that is not there too. -/
import Derived.Test.YtfpcpociejefaaaGreatDoorNumW
import Derived.Deep.RegionWith
import Derived.Lib.LazyBuf
namespace Go.Proofs.YtfpcpociejefaaaGreatDoor
open Go.RowKit Go.PlainAid Go.Lib
/-- behind it the Writer has r more -/
def Wrote (w w' : World) (b o : Nat) (l r : List UInt8) (rb : Option Nat) : Prop := ∃ rb', Wr w' b o (l ++ r) rb' ∧ Keep (b :: rb.toList) w w' ∧ Newer w w' rb rb'
theorem Wrote.after {w0 w w' : World} {b o : Nat} {l r : List UInt8} {rb : Option Nat} (h : Wrote w w' b o l r rb) (k : Keep [] w0 w) : Wrote w0 w' b o l r rb := by
 obtain ⟨rb', h1, h2, h3⟩ := h
 refine ⟨rb', h1, k.trans h2 (fun _ h => by cases h) (fun x hx => .inl hx), ?_⟩
 rcases h3 with h3 | h3
 ·exact .inl h3
 ·exact .inr fun x hx => ⟨Nat.le_trans k.size (h3 x hx).1, (h3 x hx).2⟩
def four (k : Nat) : List UInt8 := [(k / 16777216 % 256).toUInt8, (k / 65536 % 256).toUInt8, (k / 256 % 256).toUInt8, (k % 256).toUInt8]
theorem Bs.four (w : World) (k : Nat) :
  Bs (w.alloc (.cells #[.int .u8 ((k / 16777216 % 256 : Nat) : Int), .int .u8 ((k / 65536 % 256 : Nat) : Int), .int .u8 ((k / 256 % 256 : Nat) : Int), .int .u8 ((k % 256 : Nat) : Int)] TB)) (.slice (some ⟨w.heap.size, 0, none⟩) 4 4) (four k) := by
 have e : ∀ x, ((x % 256).toUInt8).toNat = x % 256 := fun x => by simp
 refine ⟨some ⟨w.heap.size, 0, none⟩, 4, rfl, Nat.le_refl _, by simp [maxLen], (by intro h; cases h), fun _ => ⟨w.heap.size, 0, rfl, fun j hj => ?_⟩⟩
 match j, hj with
 | 0, _ => simp [YtfpcpociejefaaaGreatDoor.four]
 | 1, _ => simp [YtfpcpociejefaaaGreatDoor.four]
 | 2, _ => simp [YtfpcpociejefaaaGreatDoor.four]
 | 3, _ => simp [YtfpcpociejefaaaGreatDoor.four]
 | n + 4, hj => exact absurd hj (by simp [YtfpcpociejefaaaGreatDoor.four])
set_option maxHeartbeats 800000 in
theorem wByte_any (b o : Nat) (l : List UInt8) (rb : Option Nat) (c : Nat) (hc : c < 256) (w : World) (hw : Wr w b o l rb) (hn : l.length + 1 ≤ 140737488355328) :
  Calls Tryz.prog 42 #[.pointer (some ⟨b, o, none⟩), .int .u8 (c : Int)] w fun e w' => e = .returned (.tuple #[]) ∧ Wrote w w' b o l [c.toUInt8] rb := by
 go_enter Tryz.func42, Tryz.ntmps42
 go_wp2_with fail
 refine (put_any b o l [c.toUInt8] rb _ _ (hw.alloc _) (Bs.one w c hc) (by simpa using hn)).mono ?_
 rintro e w9 ⟨rfl, h9⟩
 have HW : Hid (Wrote w w9 b o l [c.toUInt8] rb) := Wrote.after (w := w.alloc _) h9 (Keep.alloc1 w _)
 clear h9
 go_wp2
 go_end0
 exact ⟨rfl, HW.out⟩
set_option maxHeartbeats 800000 in
theorem wUint_any (b o : Nat) (l : List UInt8) (rb : Option Nat) (x : Nat) (hx : x < 18446744073709551616) (w : World) (hw : Wr w b o l rb) (hn : l.length + 10 ≤ 140737488355328) :
  Calls Tryz.prog 18 #[.pointer (some ⟨b, o, none⟩), .int .u64 (x : Int)] w fun e w' => e = .returned (.tuple #[]) ∧ Wrote w w' b o l (uvarint x) rb := by
 go_enter Tryz.func18, Tryz.ntmps18
 go_wp2_with fail
 refine (putShort_any b o l rb x w hx hw hn).mono ?_
 rintro e w9 ⟨rfl, h9⟩
 have HW : Hid (Wrote w w9 b o l (uvarint x) rb) := h9
 clear h9
 go_wp2
 go_end0
 exact ⟨rfl, HW.out⟩
theorem putShort_from (b o : Nat) (l : List UInt8) (rb : Option Nat) (x : Nat) (w0 w : World) (hx : x < 18446744073709551616) (hw : Wr w0 b o l rb) (k : Keep [] w0 w) (hn : l.length + 10 ≤ 140737488355328) :
  Calls Tryz.prog 39 #[.pointer (some ⟨b, o, none⟩), .int .u64 (x : Int)] w fun e w' => e = .returned (.tuple #[]) ∧ Wrote w0 w' b o l (uvarint x) rb := by
 refine (putShort_any b o l rb x w hx (hw.keep k (by simp) (fun _ _ => by simp)) hn).mono ?_
 rintro e w9 ⟨rfl, h9⟩
 exact ⟨rfl, Wrote.after (w := w) h9 k⟩
set_option maxHeartbeats 800000 in
theorem wInt_any (b o : Nat) (l : List UInt8) (rb : Option Nat) (x : Int) (h0 : -9223372036854775808 ≤ x) (h1 : x ≤ 9223372036854775807) (w : World) (hw : Wr w b o l rb) (hn : l.length + 10 ≤ 140737488355328) :
  Calls Tryz.prog 68 #[.pointer (some ⟨b, o, none⟩), .int .i64 x] w fun e w' => e = .returned (.tuple #[]) ∧ Wrote w w' b o l (uvarint (zigzag x)) rb := by
 have hz := zigzag_lt h0 h1
 go_enter Tryz.func68, Tryz.ntmps68
 go_wp2
 go_region_with (first
  | (go_at_call 92; refine (turned_any x h0 h1 _).mono ?_; rintro e w8 ⟨rfl, rfl⟩)
  | (go_at_call 39; refine (putShort_from b o l rb (zigzag x) w _ hz hw (by repeat (first | exact Keep.refl _ _ | apply Keep.drew | apply Keep.drewN)) hn).mono ?_; rintro e w9 ⟨rfl, h9⟩))
 all_goals
  rename_i h9
  have HW : Hid (Wrote w _ b o l (uvarint (zigzag x)) rb) := h9
  clear h9
  go_wp2
  go_end0
  exact ⟨rfl, HW.out⟩
set_option maxHeartbeats 800000 in
theorem wReal_any (b o : Nat) (l : List UInt8) (rb : Option Nat) (x : Nat) (hx : x < 4294967296) (w : World) (hw : Wr w b o l rb) (hn : l.length + 4 ≤ 140737488355328) :
  Calls Tryz.prog 69 #[.pointer (some ⟨b, o, none⟩), .float .f32 x] w fun e w' => e = .returned (.tuple #[]) ∧ Wrote w w' b o l (four (keyN x)) rb := by
 have hk := keyN_lt x hx
 have hkey := key_any x hx w
 generalize keyN x = k at hk hkey ⊢
 go_enter Tryz.func69, Tryz.ntmps69
 go_wp2_with fail
 refine hkey.mono ?_
 rintro e w8 ⟨rfl, hw8⟩
 obtain rfl := hw8.symm
 go_wp2_with fail
 have hb4 := Bs.four w k
 have hput := put_any b o l (four k) rb _ _ (hw.alloc _) hb4 (by simpa [four] using hn)
 have e4 : Obj.cells #[Value.int .u8 ((k : Int) / 16777216), .int .u8 ((k : Int) / 65536 % 256), .int .u8 ((k : Int) / 256 % 256), .int .u8 ((k : Int) % 256)] 5 = Obj.cells #[.int .u8 ((k / 16777216 % 256 : Nat) : Int), .int .u8 ((k / 65536 % 256 : Nat) : Int), .int .u8 ((k / 256 % 256 : Nat) : Int), .int .u8 ((k % 256 : Nat) : Int)] TB := by
  rw [show ((k / 16777216 % 256 : Nat) : Int) = (k : Int) / 16777216 by omega]
  rfl
 rw [e4]
 refine hput.mono ?_
 rintro e w9 ⟨rfl, h9⟩
 have HW : Hid (Wrote w w9 b o l (four k) rb) := Wrote.after (w := w.alloc _) h9 (Keep.alloc1 w _)
 clear h9 hput hb4
 go_wp2
 go_end0
 exact ⟨rfl, HW.out⟩
set_option maxHeartbeats 800000 in
theorem wText_any (b o : Nat) (l : List UInt8) (rb : Option Nat) (s : ByteArray) (w : World) (hw : Wr w b o l rb) (hn : l.length + 10 + s.size ≤ 140737488355328) :
  Calls Tryz.prog 17 #[.pointer (some ⟨b, o, none⟩), .string s] w fun e w' => e = .returned (.tuple #[]) ∧ Wrote w w' b o l (uvarint s.size ++ s.data.toList) rb := by
 have hs : s.size < 18446744073709551616 := by omega
 have hl := uvarint_length64 hs
 go_enter Tryz.func17, Tryz.ntmps17
 go_wp2_with fail
 refine (putShort_any b o l rb s.size w hs hw (by omega)).mono ?_
 rintro e w8 ⟨rfl, r8, h8, k8, n8⟩
 go_wp2_with fail
 refine (putText_any b o (l ++ uvarint s.size) s r8 w8 h8 (by rw [List.length_append]; omega)).mono ?_
 rintro e w9 ⟨rfl, r9, h9, k9, n9⟩
 have HW : Hid (Wrote w w9 b o l (uvarint s.size ++ s.data.toList) rb) :=
  ⟨r9, by rw [← List.append_assoc]; exact h9, k8.more k9 (fun x hx => n8.foot x hx), n8.trans n9 k8.size k9.size⟩
 clear h9 k9 n9 h8 k8 n8
 go_wp2
 go_end0
 exact ⟨rfl, HW.out⟩
theorem Row.empty (w : World) : Row (w.alloc (.cells #[] TB)) (.slice (some ⟨w.heap.size, 0, none⟩) 0 0) [] :=
 World.ownsRow_made w #[] 0 (Nat.zero_le _) (Nat.zero_le _) rfl
theorem eqNil (a : Option Addr) (l c : Nat) (w : World) : (binOp .eql 33 (.slice a l c) (.slice none 0 0)).run Tryz.prog w = .ok (.bool a.isNone) w :=
 run_eql_slice_nil w 33 5 a l c underS
set_option maxRecDepth 1000000 in
set_option maxHeartbeats 800000 in
/-- bytes.Clone: other memory, the same bytes -/
theorem clone_any (v : Value) (l : List UInt8) (w : World) (hv : Bs w v l) (hn : l.length ≤ 140737488355328) :
  Calls Tryz.prog 70 #[v] w fun e w' => ∃ v', e = .returned v' ∧ Row w' v' l ∧ Fresh w w' v' ∧ Keep [] w w' ∧ Sl v' l.length := by
 by_cases hnil : v = .slice none 0 0
 ·subst hnil
  obtain ⟨ao, cap, he, _⟩ := hv.ex
  have hl : l = [] := by
   simp at he
   exact List.eq_nil_of_length_eq_zero he.2.1.symm
  subst hl
  clear hn hv he
  have hq := eqNil none 0 0 w
  go_enter Tryz.func70, Tryz.ntmps70
  go_wp2
  go_ret
  exact ⟨_, rfl, Row.nil w, Fresh.nil w w, Keep.refl _ _, ⟨_, _, rfl⟩⟩
 ·obtain ⟨ao, cap, he, h1, h2, h3, h4⟩ := hv.ex
  obtain ⟨a, rfl⟩ : ∃ a, ao = some a := by
   cases ao with
   | none =>
    have := h3 rfl
    subst this
    have : l.length = 0 := by omega
    rw [this] at he
    exact absurd he hnil
   | some a => exact ⟨a, rfl⟩
  have hsrc := (hv.keep (Keep.alloc1 w (.cells #[] TB)) (Off.nil v)).src
  have HV : Hid (Src Tryz.prog 1 TS (.slice (some a) l.length cap) l.length (bv l) (w.alloc (.cells #[] TB))) := by rw [← he]; exact hsrc
  have HL : Hid (([] : List UInt8).length + l.length ≤ 140737488355328) := by
   show ([] : List UInt8).length + l.length ≤ 140737488355328
   simpa using hn
  clear hsrc hv hnil h1 h2 h3 h4 hn
  subst he
  have hq := eqNil (some a) l.length cap w
  go_enter Tryz.func70, Tryz.ntmps70
  go_wp2_with (at_builtin; refine wp_app rfl (.tmp 5) (.tmp 6) 33 33 rfl underS _ [] rfl (Row.empty w) _ l rfl HV.out HL.out ?_)
  intro v' w1 h1 h2 h3 h4
  have HR : Hid (Row w1 v' l) := h1
  have HK : Hid (Keep [] w w1) := (Keep.alloc1 w _).more h2 (by intro x hx; simp [Value.ownBlock] at hx; subst hx; exact .inr (Nat.le_refl _))
  have HF : Hid (Fresh w w1 v') := by
   rcases h3 with h3 | h3
   ·intro k hk
    rw [h3] at hk
    simp [Value.ownBlock] at hk
    subst hk
    have := h2.size
    simp at this
    exact ⟨Nat.le_refl _, by omega⟩
   ·intro k hk
    have := h3 k hk
    simp at this
    exact ⟨by omega, this.2⟩
  have HSl : Hid (Sl v' l.length) := by
   show Sl v' l.length
   simpa using h4
  clear h1 h2 h3 h4
  go_wp2
  go_ret
  exact ⟨v', rfl, HR.out, HF.out, HK.out, HSl.out⟩
set_option maxHeartbeats 800000 in
theorem wBytes_any (b o : Nat) (l : List UInt8) (rb : Option Nat) (w : World) (hw : Wr w b o l rb) (hn : l.length ≤ 140737488355328) :
  Calls Tryz.prog 20 #[.pointer (some ⟨b, o, none⟩)] w fun e w' => ∃ v', e = .returned v' ∧ Row w' v' l ∧ Fresh w w' v' ∧ Keep [] w w' ∧ Sl v' l.length := by
 obtain ⟨hf, hne, v, hc, rfl, hrow⟩ := hw.ex
 have hcop : Calls Tryz.prog 45 #[.pointer (some ⟨b, o, none⟩)] w fun e w' => ∃ v', e = .returned v' ∧ Row w' v' l ∧ Fresh w w' v' ∧ Keep [] w w' ∧ Sl v' l.length := by
  go_enter Tryz.func45, Tryz.ntmps45
  go_wp2_with fail
  refine (clone_any v l w hrow.bs hn).mono ?_
  rintro e w9 ⟨v9, rfl, h9⟩
  have HH : Hid (Row w9 v9 l ∧ Fresh w w9 v9 ∧ Keep [] w w9 ∧ Sl v9 l.length) := h9
  clear h9
  go_wp2
  go_ret
  exact ⟨v9, rfl, HH.out⟩
 go_enter Tryz.func20, Tryz.ntmps20
 go_wp2_with fail
 refine hcop.mono ?_
 rintro e w9 ⟨v9, rfl, h9⟩
 have HH : Hid (Row w9 v9 l ∧ Fresh w w9 v9 ∧ Keep [] w w9 ∧ Sl v9 l.length) := h9
 clear h9 hcop
 go_wp2
 go_ret
 exact ⟨v9, rfl, HH.out⟩
end Go.Proofs.YtfpcpociejefaaaGreatDoor
