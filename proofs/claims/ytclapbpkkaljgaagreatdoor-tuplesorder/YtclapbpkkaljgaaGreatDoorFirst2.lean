/- What is read at the beginning of some bytes, for every slice of bytes: a byte, a number, a turned one, a key, a text, some bytes. -/
import Derived.Test.YtclapbpkkaljgaaGreatDoorRdW
import Derived.Laws.BytesString
namespace Go.Proofs.YtclapbpkkaljgaaGreatDoor
open Go.RowKit Go.PlainAid Go.Lib

theorem numG_size : ∀ (l : List UInt8) (i acc : Nat), (numG l i acc).2.2 ≠ 0 ∧ (numG l i acc).2.1 = 0 ∧ (numG l i acc).1 = 0 ∨ (numG l i acc).2.2 = 0 ∧ i < (numG l i acc).2.1 ∧ (numG l i acc).2.1 ≤ i + l.length
  | [], i, acc => .inl ⟨by simp [numG], rfl, rfl⟩
  | c :: r, i, acc => by
    rw [numG]
    split
    · exact .inl ⟨by simp, rfl, rfl⟩
    · split
      · exact .inr ⟨rfl, by simp, by simp⟩
      · rcases numG_size r (i + 1) (acc + c.toNat % 128 * 128 ^ i) with h | ⟨h1, h2, h3⟩
        · exact .inl h
        · exact .inr ⟨h1, by omega, by simp; omega⟩

theorem numG_lt : ∀ (l : List UInt8) (i acc : Nat), i ≤ 9 → acc < 128 ^ i → (numG l i acc).1 < 18446744073709551616 ∧ (numG l i acc).2.1 ≤ 10
  | [], i, acc, _, _ => by simp [numG]
  | c :: r, i, acc, hi, hacc => by
    rw [numG]
    split
    · simp
    · rename_i hE
      split
      · rename_i hD
        exact ⟨step_lt acc c.toNat i hacc hi (by omega), by simp; omega⟩
      · rename_i hD
        exact numG_lt r (i + 1) _ (by omega) (next_lt acc c.toNat i hacc)

theorem numL_size (l : List UInt8) : (numL l).2.1 ≤ l.length := by
  rcases numG_size l 0 0 with ⟨_, h, _⟩ | ⟨_, _, h⟩
  · unfold numL; rw [h]; exact Nat.zero_le _
  · unfold numL; omega
theorem numL_lt (l : List UInt8) : (numL l).1 < 18446744073709551616 := (numG_lt l 0 0 (by omega) (by decide)).1
theorem numL_zero (l : List UInt8) (h : (numL l).2.2 ≠ 0) : (numL l).1 = 0 ∧ (numL l).2.1 = 0 := by
  rcases numG_size l 0 0 with ⟨_, h1, h2⟩ | ⟨h1, _, _⟩
  · exact ⟨h2, h1⟩
  · exact absurd h1 h

set_option maxRecDepth 1000000 in
set_option maxHeartbeats 1600000 in
theorem oshort_any (v : Value) (l : List UInt8) (w : World) (hv : Bs w v l) :
    Calls Tryz.prog 62 #[v] w fun e w' => e = .returned (.tuple #[.int .u64 ((numL l).1 : Nat), .int .i64 ((numL l).2.1 : Nat), .int .i64 (numL l).2.2]) ∧ w' = w := by
  rcases hv.cases with ⟨rfl, ao, cap, rfl, _, _⟩ | ⟨_, b, o, cap, rfl, _, h1, h2, h3⟩
  · clear hv
    go_enter Tryz.func62, Tryz.ntmps62
    go_wp2
    go_loop [9] (fun iv => iv = .int .i64 0) (fun _ => 0)
    case atStart => rfl
    case round =>
      obtain rfl := hrel
      go_wp2
      refine bodyPost_ret (v := .tuple #[.int .u64 0, .int .i64 0, .int .i64 20]) (by simp [results, Tryz.results62, go_sem]) rfl ⟨rfl, rfl⟩
  · exact short_some b o cap l w h1 h2 h3

def byteL (l : List UInt8) : Nat × Nat × Int := match l with | [] => (0, 0, 20) | c :: _ => (c.toNat, 1, 0)

set_option maxRecDepth 1000000 in
set_option maxHeartbeats 1600000 in
theorem firstByte_any (v : Value) (l : List UInt8) (w : World) (hv : Bs w v l) :
    Calls Tryz.prog 98 #[v] w fun e w' => e = .returned (.tuple #[.int .u8 ((byteL l).1 : Nat), .int .i64 ((byteL l).2.1 : Nat), .int .i64 (byteL l).2.2]) ∧ w' = w := by
  rcases hv.cases with ⟨rfl, ao, cap, rfl, _, _⟩ | ⟨_, b, o, cap, rfl, h0, h1, h2, h3⟩
  · clear hv
    go_enter Tryz.func98, Tryz.ntmps98
    go_wp2
    refine bodyPost_ret (v := .tuple #[.int .u8 0, .int .i64 0, .int .i64 20]) (by simp [results, Tryz.results98, go_sem]) rfl ⟨rfl, rfl⟩
  · have hc0 := h3 0 h0
    rw [Nat.add_zero] at hc0
    have hl0 : ((l.length : Int) == 0) = false := by simp; omega
    have hl1 : (0 : Int) < (l.length : Int) := by omega
    have HB : Hid (byteL l = ((l.getD 0 0).toNat, 1, 0)) := by
      cases l with
      | nil => simp at h0
      | cons c r => rfl
    obtain ⟨c, hc⟩ : ∃ c, c = (l.getD 0 0).toNat := ⟨_, rfl⟩
    rw [← hc] at hc0
    have HC : Hid (c = (l.getD 0 0).toNat) := hc
    clear hv h3 hc
    go_enter Tryz.func98, Tryz.ntmps98
    go_wp2
    refine bodyPost_ret (v := .tuple #[.int .u8 (c : Int), .int .i64 1, .int .i64 0]) (by simp [results, Tryz.results98, go_sem]) rfl ⟨by rw [HB.out, ← HC.out]; rfl, rfl⟩

set_option maxRecDepth 1000000 in
set_option maxHeartbeats 1600000 in
theorem firstTurned_any (v : Value) (l : List UInt8) (w : World) (hv : Bs w v l) :
    Calls Tryz.prog 100 #[v] w fun e w' => e = .returned (.tuple #[.int .i64 (unzig (numL l).1), .int .i64 ((numL l).2.1 : Nat), .int .i64 (numL l).2.2]) ∧ w' = w := by
  have hS := oshort_any v l w hv
  have hU := unturned_any (numL l).1 (numL_lt l) w
  generalize numL l = N at hS hU ⊢
  obtain ⟨x, n, e⟩ := N
  simp only at hS hU ⊢
  clear hv
  go_enter Tryz.func100, Tryz.ntmps100
  go_wp2_with (first | (go_at_call 62; refine hS.mono ?_; rintro e9 w9 ⟨rfl, hw9⟩; obtain rfl := hw9.symm) | (go_at_call 121; refine hU.mono ?_; rintro e9 w9 ⟨rfl, hw9⟩; obtain rfl := hw9.symm))
  refine bodyPost_ret (v := .tuple #[.int .i64 (unzig x), .int .i64 (n : Int), .int .i64 e]) (by simp [results, Tryz.results100, go_sem]) rfl ⟨rfl, rfl⟩

end Go.Proofs.YtclapbpkkaljgaaGreatDoor


