/- What the Writer's parts write, each for every Writer and every input. -/
import Derived.Test.YtfpcpociejefaaaGreatDoorOwn
import Derived.Lib.Varint
import Derived.Lib.Zigzag
import Derived.Test.YtfpcpociejefaaaGreatDoorPsC
import Derived.Laws.BitsAllLaws

namespace Go.Proofs.YtfpcpociejefaaaGreatDoor
open Go.RowKit Go.PlainAid
/-- at b, o lies a Writer that has written l, in the block rb (or in none) -/
structure Wr (w : World) (b o : Nat) (l : List UInt8) (rb : Option Nat) : Prop where
 ex : w.frozen? ⟨b, o, none⟩ = false ∧ rb ≠ some b ∧ ∃ v, w.cell? ⟨b, o, none⟩ = some v ∧ v.ownBlock = rb ∧ Row w v l
/-- the block is the one of before, or a new one -/
def Newer (w w' : World) (rb rb' : Option Nat) : Prop := rb' = rb ∨ ∀ k, rb' = some k → w.heap.size ≤ k ∧ k < w'.heap.size
theorem Newer.refl (w w' : World) (rb : Option Nat) : Newer w w' rb rb := .inl rfl
theorem Newer.trans {a b c : World} {r s t : Option Nat} (h : Newer a b r s) (k : Newer b c s t) (hs : a.heap.size ≤ b.heap.size) (hs2 : b.heap.size ≤ c.heap.size) : Newer a c r t := by
 rcases k with rfl | k
 ·rcases h with rfl | h
  ·exact .inl rfl
  ·exact .inr fun x hx => ⟨(h x hx).1, Nat.lt_of_lt_of_le (h x hx).2 hs2⟩
 ·exact .inr fun x hx => ⟨Nat.le_trans hs (k x hx).1, (k x hx).2⟩
theorem Newer.foot {w w' : World} {r s : Option Nat} {b : Nat} (h : Newer w w' r s) : ∀ x ∈ b :: s.toList, x ∈ b :: r.toList ∨ w.heap.size ≤ x := by
 intro x hx
 rcases h with rfl | h
 ·exact .inl hx
 ·simp at hx
  rcases hx with rfl | hx
  ·exact .inl (by simp)
  ·exact .inr (h x hx).1
theorem Wr.lt {w : World} {b o : Nat} {l : List UInt8} {rb : Option Nat} (h : Wr w b o l rb) : b < w.heap.size := by
 obtain ⟨_, _, v, hc, _⟩ := h.ex
 exact World.block_lt_of_cell? w _ hc
theorem Wr.keep {F : List Nat} {w w' : World} {b o : Nat} {l : List UInt8} {rb : Option Nat} (h : Wr w b o l rb) (k : Keep F w w') (hb : b ∉ F) (hr : ∀ x, rb = some x → x ∉ F) : Wr w' b o l rb := by
 obtain ⟨hf, hne, v, hc, rfl, hrow⟩ := h.ex
 exact ⟨(k.frozen (World.block_lt_of_cell? w _ hc) hb).trans hf, hne, v, k.cell' hc hb, rfl, hrow.keep k hr⟩
theorem Wr.zero (w : World) (b o : Nat) (hc : w.cell? ⟨b, o, none⟩ = some (.slice none 0 0)) (hf : w.frozen? ⟨b, o, none⟩ = false) : Wr w b o [] none :=
 ⟨hf, by simp, _, hc, rfl, Row.nil w⟩
theorem stored {w1 : World} {b o : Nat} {v v' : Value} {l : List UInt8} (hc : w1.cell? ⟨b, o, none⟩ = some v) (hf : w1.frozen? ⟨b, o, none⟩ = false) (hr : Row w1 v' l) (hne : v'.ownBlock ≠ some b) :
  Wr (w1.setCell ⟨b, o, none⟩ v') b o l v'.ownBlock := by
 have hk := Keep.set1 w1 ⟨b, o, none⟩ v'
 refine ⟨by rw [World.frozen?_setCell]; exact hf, hne, v', World.cell?_setCell_same w1 _ v' hc, rfl, hr.keep hk ?_⟩
 intro k hk2 hm
 simp at hm
 subst hm
 exact hne hk2
set_option maxHeartbeats 800000 in
theorem put_any (b o : Nat) (l r : List UInt8) (rb : Option Nat) (u : Value) (w : World) (hw : Wr w b o l rb) (hu : Bs w u r) (hn : l.length + r.length ≤ 140737488355328) :
  Calls Tryz.prog 64 #[.pointer (some ⟨b, o, none⟩), u] w fun e w' => e = .returned (.tuple #[]) ∧ ∃ rb', Wr w' b o (l ++ r) rb' ∧ Keep (b :: rb.toList) w w' ∧ Newer w w' rb rb' := by
 obtain ⟨hf, hne, v, hc, rfl, hrow⟩ := hw.ex
 have hb : b < w.heap.size := World.block_lt_of_cell? w _ hc
 go_enter Tryz.func64, Tryz.ntmps64
 go_wp2_with (at_builtin; refine wp_app rfl (.tmp 8) (.tmp 9) 33 33 rfl underS v l rfl hrow u r rfl hu.src hn ?_)
 intro v' w1 h1 h2 h3 h4
 obtain ⟨a9, c9, hv9⟩ := h4
 have hbF : b ∉ v.ownBlock.toList := by
  intro hm
  simp at hm
  exact hne hm
 have k0 := h2.cell' hc hbF
 have e0 := (h2.frozen (p := ⟨b, o, none⟩) hb hbF).trans hf
 have hne' : v'.ownBlock ≠ some b := by
  rcases h3 with h3 | h3
  ·rw [h3]; exact hne
  ·intro hx
   have := (h3 b hx).1
   omega
 have S := stored k0 e0 h1 hne'
 have HS : Hid (Wr (w1.setCell ⟨b, o, none⟩ v') b o (l ++ r) v'.ownBlock) := S
 have HK : Hid (Keep (b :: v.ownBlock.toList) w (w1.setCell ⟨b, o, none⟩ v')) :=
  (h2.mono (fun x hx => .inl (by simp; right; simpa using hx))).setCell (.inl (by simp)) v'
 have HN : Hid (Newer w (w1.setCell ⟨b, o, none⟩ v') v.ownBlock v'.ownBlock) := by
  rcases h3 with h3 | h3
  ·exact .inl h3
  ·exact .inr fun k hk => ⟨(h3 k hk).1, by have := (h3 k hk).2; simpa [World.setCell] using this⟩
 subst hv9
 clear S h1 h2 h3 hu hrow
 go_wp2
 go_end0
 exact ⟨rfl, _, HS.out, HK.out, HN.out⟩
set_option maxHeartbeats 800000 in
theorem putText_any (b o : Nat) (l : List UInt8) (s : ByteArray) (rb : Option Nat) (w : World) (hw : Wr w b o l rb) (hn : l.length + s.size ≤ 140737488355328) :
  Calls Tryz.prog 40 #[.pointer (some ⟨b, o, none⟩), .string s] w fun e w' => e = .returned (.tuple #[]) ∧ ∃ rb', Wr w' b o (l ++ s.data.toList) rb' ∧ Keep (b :: rb.toList) w w' ∧ Newer w w' rb rb' := by
 obtain ⟨hf, hne, v, hc, rfl, hrow⟩ := hw.ex
 have hb : b < w.heap.size := World.block_lt_of_cell? w _ hc
 have hsrc : Src Tryz.prog 1 9 (.string s) s.data.toList.length (bv s.data.toList) w := by
  have := Src.ofString (P := Tryz.prog) w Tryz.underlying9 s
  rw [bv_byteCells] at this
  simpa using this
 have hn' : l.length + s.data.toList.length ≤ 140737488355328 := by simpa using hn
 go_enter Tryz.func40, Tryz.ntmps40
 go_wp2_with (at_builtin; refine wp_app rfl (.tmp 8) (.tmp 9) 33 9 rfl underS v l rfl hrow (.string s) s.data.toList rfl hsrc hn' ?_)
 intro v' w1 h1 h2 h3 h4
 obtain ⟨a9, c9, hv9⟩ := h4
 have hbF : b ∉ v.ownBlock.toList := by
  intro hm
  simp at hm
  exact hne hm
 have k0 := h2.cell' hc hbF
 have e0 := (h2.frozen (p := ⟨b, o, none⟩) hb hbF).trans hf
 have hne' : v'.ownBlock ≠ some b := by
  rcases h3 with h3 | h3
  ·rw [h3]; exact hne
  ·intro hx
   have := (h3 b hx).1
   omega
 have S := stored k0 e0 h1 hne'
 have HS : Hid (Wr (w1.setCell ⟨b, o, none⟩ v') b o (l ++ s.data.toList) v'.ownBlock) := S
 have HK : Hid (Keep (b :: v.ownBlock.toList) w (w1.setCell ⟨b, o, none⟩ v')) :=
  (h2.mono (fun x hx => .inl (by simp; right; simpa using hx))).setCell (.inl (by simp)) v'
 have HN : Hid (Newer w (w1.setCell ⟨b, o, none⟩ v') v.ownBlock v'.ownBlock) := by
  rcases h3 with h3 | h3
  ·exact .inl h3
  ·exact .inr fun k hk => ⟨(h3 k hk).1, by have := (h3 k hk).2; simpa [World.setCell] using this⟩
 subst hv9
 clear S h1 h2 h3 hrow hsrc
 go_wp2
 go_end0
 exact ⟨rfl, _, HS.out, HK.out, HN.out⟩
theorem Wr.alloc {w : World} {b o : Nat} {l : List UInt8} {rb : Option Nat} (h : Wr w b o l rb) (x : Obj) : Wr (w.alloc x) b o l rb := h.keep (Keep.alloc1 w x) (by simp) (fun _ _ => by simp)
end Go.Proofs.YtfpcpociejefaaaGreatDoor

/- The short form of a number is written by the loop of putShort. -/
namespace Go.Proofs.YtfpcpociejefaaaGreatDoor
open Go.RowKit Go.PlainAid Go.Lib
set_option maxHeartbeats 1600000 in
theorem putShort_any (b o : Nat) (l : List UInt8) (rb : Option Nat) (x : Nat) (w : World) (hx : x < 18446744073709551616) (hw : Wr w b o l rb) (hn : l.length + 10 ≤ 140737488355328) :
  Calls Tryz.prog 39 #[.pointer (some ⟨b, o, none⟩), .int .u64 (x : Int)] w fun e w' => e = .returned (.tuple #[]) ∧ ∃ rb', Wr w' b o (l ++ uvarint x) rb' ∧ Keep (b :: rb.toList) w w' ∧ Newer w w' rb rb' := by
 go_enter Tryz.func39, Tryz.ntmps39
 go_wp2
 go_loopw [1] (fun xv wr => ∃ (y : Nat) (p : List UInt8) (r : Option Nat), xv = .int .u64 (y : Int) ∧ y ≤ x ∧ p ++ uvarint y = uvarint x ∧ Wr wr b o (l ++ p) r ∧ Keep (b :: rb.toList) w wr ∧ Newer w wr rb r)
  (fun xv _ => (RowKit.intOf xv).toNat)
 case atStart => exact ⟨x, [], rb, rfl, Nat.le_refl _, rfl, by simpa using hw, Keep.refl _ _, Newer.refl _ _ _⟩
 case round =>
  obtain ⟨y, p, r, rfl, hyx, hp, hwr, hkr, hnr⟩ := hrel
  have hlen : p.length + (uvarint y).length ≤ 10 := by
   have h1 := uvarint_length64 hx
   rw [← hp, List.length_append] at h1
   exact h1
  have hpos := uvarint_pos y
  by_cases hy : y < 128
  ·have hyi : ¬ ((128 : Int) ≤ (y : Int)) := by omega
   go_wp2_with fail
   refine (put_any b o (l ++ p) [y.toUInt8] r _ _ (hwr.alloc _) (Bs.one wr y (by omega)) (by simp; omega)).mono ?_
   rintro e w9 ⟨rfl, r', hw9, hk9, hn9⟩
   rw [uvarint_small hy] at hp
   rw [List.append_assoc, hp] at hw9
   have HK : Hid (Keep (b :: rb.toList) w w9) := (hkr.alloc _).more hk9 (fun z hz => by rcases hnr.foot z hz with h | h; exact .inl h; exact .inr h)
   have HN : Hid (Newer w w9 rb r') := hnr.trans (b := wr) (c := w9) (by
    rcases hn9 with h | h
    ·exact .inl h
    ·exact .inr fun k hk => ⟨by have := (h k hk).1; simp at this; omega, (h k hk).2⟩) hkr.size (by have := hk9.size; simp at this; omega)
   clear hk9 hn9 hkr hnr hwr
   go_wp2
   go_end0
   exact ⟨rfl, r', hw9, HK.out, HN.out⟩
  ·have hyi : ((128 : Int) ≤ (y : Int)) := by omega
   have hor : bits .or .u8 ((y : Int) % 256) 128 = ((y % 128 + 128 : Nat) : Int) := by
    rw [u8_or128_any _ (by omega) (by omega)]
    omega
   go_wp2_with fail
   refine (put_any b o (l ++ p) [(y % 128 + 128).toUInt8] r _ _ (hwr.alloc _) (Bs.one wr (y % 128 + 128) (by omega)) (by simp; omega)).mono ?_
   rintro e w9 ⟨rfl, r', hw9, hk9, hn9⟩
   rw [uvarint_big (by omega)] at hp
   have HP : Hid (p ++ [(y % 128 + 128).toUInt8] ++ uvarint (y / 128) = uvarint x) := by
    rw [List.append_assoc]; exact hp
   have HK : Hid (Keep (b :: rb.toList) w w9) := (hkr.alloc _).more hk9 (fun z hz => by rcases hnr.foot z hz with h | h; exact .inl h; exact .inr h)
   have HN : Hid (Newer w w9 rb r') := hnr.trans (b := wr) (c := w9) (by
    rcases hn9 with h | h
    ·exact .inl h
    ·exact .inr fun k hk => ⟨by have := (h k hk).1; simp at this; omega, (h k hk).2⟩) hkr.size (by have := hk9.size; simp at this; omega)
   have HW : Hid (Wr w9 b o (l ++ (p ++ [(y % 128 + 128).toUInt8])) r') := by
    rw [← List.append_assoc]; exact hw9
   clear hk9 hn9 hkr hnr hwr hw9 hp
   go_wp2
   go_roundw
   case rel => exact ⟨y / 128, _, r', by go_num, by omega, HP.out, HW.out, HK.out, HN.out⟩
   case measure => simp [RowKit.intOf]; omega
end Go.Proofs.YtfpcpociejefaaaGreatDoor

/- The turned form and the key of a number, and the number of each, for every input. -/
namespace Go.Proofs.YtfpcpociejefaaaGreatDoor
open Go.RowKit Go.PlainAid Go.Lib
set_option maxRecDepth 1000000 in
theorem turned_eq (x : Int) (h0 : -9223372036854775808 ≤ x) (h1 : x ≤ 9223372036854775807) :
  bits .xor .u64 (IntKind.u64.wrap (wrap64 (x * 2))) (IntKind.u64.wrap (x / 9223372036854775808)) = ((zigzag x : Nat) : Int) := by
 have e1 : IntKind.u64.wrap (wrap64 (x * 2)) = (((2 * x) % 18446744073709551616).toNat : Int) := by
  rw [IntKind.wrap_u64]
  unfold wrap64
  omega
 rw [e1]
 by_cases hx : 0 ≤ x
 ·have e2 : IntKind.u64.wrap (x / 9223372036854775808) = ((0 : Nat) : Int) := by rw [IntKind.wrap_u64]; omega
  rw [e2, u64_xor_nat _ _ (by omega) (by decide), zigzag_nonneg hx]
  simp
  omega
 ·have e2 : IntKind.u64.wrap (x / 9223372036854775808) = ((18446744073709551615 : Nat) : Int) := by rw [IntKind.wrap_u64]; omega
  rw [e2, u64_xor_nat _ _ (by omega) (by decide), Nat.xor_comm]
  have h2 := xor_ones64 ((2 * x) % 18446744073709551616).toNat (by omega)
  rw [show (18446744073709551615 : Nat) = 2 ^ 64 - 1 by decide, h2]
  unfold zigzag
  rw [if_neg hx]
  omega
set_option maxRecDepth 1000000 in
set_option maxHeartbeats 800000 in
theorem turned_any (x : Int) (h0 : -9223372036854775808 ≤ x) (h1 : x ≤ 9223372036854775807) (w : World) :
  Calls Tryz.prog 92 #[.int .i64 x] w fun e w' => e = .returned (.int .u64 ((zigzag x : Nat) : Int)) ∧ w' = w := by
 have ht := turned_eq x h0 h1
 go_enter Tryz.func92, Tryz.ntmps92
 go_wp2
 go_ret
 exact ⟨rfl, rfl⟩
set_option maxRecDepth 1000000 in
set_option maxHeartbeats 800000 in
theorem key_any (x : Nat) (h : x < 4294967296) (w : World) :
  Calls Tryz.prog 93 #[.float .f32 x] w fun e w' => e = .returned (.int .u32 ((keyN x : Nat) : Int)) ∧ w' = w := by
 have hfb := run_f32bits x w
 have hnn := neq_self x
 have h31 := and31 x h
 have hk : keyN x = if nanB x = true then 4290772992 else if 2147483648 ≤ x then 4294967295 - x else x + 2147483648 := rfl
 cases hb : nanB x
 ·rw [hb] at hnn hk
  by_cases hx : 2147483648 ≤ x
  ·rw [if_neg (by decide), if_pos hx] at hk
   rw [if_pos hx] at h31
   have hx1 := not32 x h
   have ht : (bits .and .u32 (x : Int) 2147483648 != 0) = true := by rw [h31]; rfl
   clear h31
   rw [hk]; clear hk
   go_enter Tryz.func93, Tryz.ntmps93
   go_wp2
   all_goals go_ret
   all_goals exact ⟨rfl, rfl⟩
  ·rw [if_neg (by decide), if_neg hx] at hk
   rw [if_neg hx] at h31
   have hx1 := or31 x (by omega)
   have ht : (bits .and .u32 (x : Int) 2147483648 != 0) = false := by rw [h31]; rfl
   clear h31
   rw [hk]; clear hk
   go_enter Tryz.func93, Tryz.ntmps93
   go_wp2
   all_goals go_ret
   all_goals exact ⟨rfl, rfl⟩
 ·rw [hb] at hnn hk
  rw [if_pos rfl] at hk
  rw [hk]; clear hk
  go_enter Tryz.func93, Tryz.ntmps93
  go_wp2
  all_goals go_ret
  all_goals exact ⟨rfl, rfl⟩
end Go.Proofs.YtfpcpociejefaaaGreatDoor
