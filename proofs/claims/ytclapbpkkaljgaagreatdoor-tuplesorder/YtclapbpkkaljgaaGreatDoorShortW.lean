/- The short form of a number is written by the loop of putShort. -/
import Derived.Test.YtclapbpkkaljgaaGreatDoorWrW
namespace Go.Proofs.YtclapbpkkaljgaaGreatDoor
open Go.RowKit Go.PlainAid Go.Lib

set_option maxHeartbeats 1600000 in
theorem putShort_any (b o : Nat) (l : List UInt8) (rb : Option Nat) (x : Nat) (w : World) (hx : x < 18446744073709551616) (hw : Wr w b o l rb) (hn : l.length + 10 ≤ 140737488355328) :
    Calls Tryz.prog 123 #[.pointer (some ⟨b, o, none⟩), .int .u64 (x : Int)] w fun e w' => e = .returned (.tuple #[]) ∧ ∃ rb', Wr w' b o (l ++ uvarint x) rb' ∧ Keep (b :: rb.toList) w w' ∧ Newer w w' rb rb' := by
  go_enter Tryz.func123, Tryz.ntmps123
  go_wp2
  go_loopw [1] (fun xv wr => ∃ (y : Nat) (p : List UInt8) (r : Option Nat), xv = .int .u64 (y : Int) ∧ y ≤ x ∧ p ++ uvarint y = uvarint x ∧ Wr wr b o (l ++ p) r ∧ Keep (b :: rb.toList) w wr ∧ Newer w wr rb r)
    (fun xv _ => (intOf xv).toNat)
  case atStart => exact ⟨x, [], rb, rfl, Nat.le_refl _, rfl, by simpa using hw, Keep.refl _ _, Newer.refl _ _ _⟩
  case round =>
    obtain ⟨y, p, r, rfl, hyx, hp, hwr, hkr, hnr⟩ := hrel
    have hlen : p.length + (uvarint y).length ≤ 10 := by
      have h1 := uvarint_length64 hx
      rw [← hp, List.length_append] at h1
      exact h1
    have hpos := uvarint_pos y
    by_cases hy : y < 128
    · have hyi : ¬ ((128 : Int) ≤ (y : Int)) := by omega
      go_wp2_with fail
      refine (put_any b o (l ++ p) [y.toUInt8] r _ _ (hwr.alloc _) (Bs.one wr y (by omega)) (by simp; omega)).mono ?_
      rintro e w9 ⟨rfl, r', hw9, hk9, hn9⟩
      rw [uvarint_small hy] at hp
      rw [List.append_assoc, hp] at hw9
      have HK : Hid (Keep (b :: rb.toList) w w9) := (hkr.alloc _).more hk9 (fun z hz => by rcases hnr.foot z hz with h | h; exact .inl h; exact .inr h)
      have HN : Hid (Newer w w9 rb r') := hnr.trans (b := wr) (c := w9) (by
        rcases hn9 with h | h
        · exact .inl h
        · exact .inr fun k hk => ⟨by have := (h k hk).1; simp at this; omega, (h k hk).2⟩) hkr.size (by have := hk9.size; simp at this; omega)
      clear hk9 hn9 hkr hnr hwr
      go_wp2
      go_end0
      exact ⟨rfl, r', hw9, HK.out, HN.out⟩
    · have hyi : ((128 : Int) ≤ (y : Int)) := by omega
      have hor : bits .or .u8 ((y : Int) % 256) 128 = ((y % 128 + 128 : Nat) : Int) := by
        rw [u8_or128_any _ (by omega) (by omega)]
        omega
      go_wp2_with fail
      refine (put_any b o (l ++ p) [(y % 128 + 128).toUInt8] r _ _ (hwr.alloc _) (Bs.one wr (y % 128 + 128) (by omega)) (by simp; omega)).mono ?_
      rintro e w9 ⟨rfl, r', hw9, hk9, hn9⟩
      rw [uvarint_big (by omega)] at hp
      have HP : Hid (p ++ [(y % 128 + 128).toUInt8] ++ uvarint (y / 128) = uvarint x) := by
        rw [List.append_assoc]; exact hp
      have HK : Hid (Keep (b :: rb.toList) w w9) := (hkr.alloc _).more hk9 (fun z hz => by rcases hnr.foot z hz with h | h; exact .inl h; exact .inr h)
      have HN : Hid (Newer w w9 rb r') := hnr.trans (b := wr) (c := w9) (by
        rcases hn9 with h | h
        · exact .inl h
        · exact .inr fun k hk => ⟨by have := (h k hk).1; simp at this; omega, (h k hk).2⟩) hkr.size (by have := hk9.size; simp at this; omega)
      have HW : Hid (Wr w9 b o (l ++ (p ++ [(y % 128 + 128).toUInt8])) r') := by
        rw [← List.append_assoc]; exact hw9
      clear hk9 hn9 hkr hnr hwr hw9 hp
      go_wp2
      go_roundw
      case rel => exact ⟨y / 128, _, r', by go_num, by omega, HP.out, HW.out, HK.out, HN.out⟩
      case measure => simp [intOf]; omega

end Go.Proofs.YtclapbpkkaljgaaGreatDoor


