/- The sum over bytes, for every slice of bytes; the letter of a number. -/
import Derived.Test.YtcmembmaaebdeabRdW
namespace Go.Proofs.Ytcmembmaaebdeab
open Go.RowKit Go.PlainAid Go.Lib

def sumStep (s : Nat) (x : UInt8) : Nat := 1099511628211 * (s ^^^ x.toNat) % 18446744073709551616
def sumL (l : List UInt8) : Nat := l.foldl sumStep 14695981039346656037

theorem sumStep_lt (s : Nat) (x : UInt8) : sumStep s x < 18446744073709551616 := by
  unfold sumStep
  exact Nat.mod_lt _ (by omega)
theorem sumL_lt (l : List UInt8) : sumL l < 18446744073709551616 := by
  unfold sumL
  rcases List.eq_nil_or_concat l with rfl | ⟨r, x, rfl⟩
  · rw [List.foldl_nil]; omega
  · simp only [List.concat_eq_append, List.foldl_append, List.foldl_cons, List.foldl_nil]
    exact sumStep_lt _ _
theorem sumL_snoc (l : List UInt8) (x : UInt8) : sumL (l ++ [x]) = sumStep (sumL l) x := by
  simp only [sumL, List.foldl_append, List.foldl_cons, List.foldl_nil]
theorem take_snoc (l : List UInt8) (i : Nat) (h : i < l.length) : l.take (i + 1) = l.take i ++ [l.getD i 0] := by
  rw [List.take_succ_eq_append_getElem h, List.getD_eq_getElem?_getD, List.getElem?_eq_getElem h]
  rfl

set_option maxRecDepth 1000000 in
set_option maxHeartbeats 1600000 in
theorem sum_any (v : Value) (l : List UInt8) (w : World) (hv : Bs w v l) :
    Calls Try.prog 7 #[v] w fun e w' => e = .returned (.int .u64 ((sumL l : Nat) : Int)) ∧ w' = w := by
  rcases hv.cases with ⟨rfl, ao, cap, rfl, _, _⟩ | ⟨_, b, o, cap, rfl, h0, h1, h2, h3⟩
  · clear hv
    go_enter Try.func7, Try.ntmps7
    go_wp2
    go_loop [3, 8] (fun sv iv => iv = .int .i64 0 ∧ sv = .int .u64 14695981039346656037) (fun _ _ => 0)
    case atStart => exact ⟨rfl, rfl⟩
    case round =>
      obtain ⟨rfl, rfl⟩ := hrel
      go_wp2
      go_ret
      exact ⟨rfl, rfl⟩
  · clear hv
    go_enter Try.func7, Try.ntmps7
    go_wp2
    go_loop [3, 8] (fun sv iv => ∃ i s : Nat, iv = .int .i64 (i : Int) ∧ sv = .int .u64 (s : Int) ∧ i ≤ l.length ∧ s = sumL (l.take i)) (fun _ iv => l.length - (intOf iv).toNat)
    case atStart => exact ⟨0, 14695981039346656037, rfl, rfl, Nat.zero_le _, rfl⟩
    case round =>
      obtain ⟨i, s, rfl, rfl, hi, hs⟩ := hrel
      have hslt : s < 18446744073709551616 := by rw [hs]; exact sumL_lt _
      by_cases hil : i < l.length
      · have hci := h3 i hil
        have hx := take_snoc l i hil
        have hn : sumL (l.take (i + 1)) = sumStep s (l.getD i 0) := by rw [hx, sumL_snoc, ← hs]
        generalize l.getD i 0 = x at hci hn hx
        have hx2 : bits .xor .u64 (s : Int) (x.toNat : Int) = ((s ^^^ x.toNat : Nat) : Int) := u64_xor_nat s x.toNat hslt (by have := x.toNat_lt; omega)
        have hw : IntKind.u64.wrap (((s ^^^ x.toNat : Nat) : Int) * 1099511628211) = ((sumStep s x : Nat) : Int) := by
          rw [IntKind.wrap_u64]
          unfold sumStep
          generalize s ^^^ x.toNat = y
          omega
        have HN : Hid (sumL (l.take (i + 1)) = sumStep s x) := hn
        have hxl : x.toNat < 256 := x.toNat_lt
        have hw2 : (((s ^^^ x.toNat : Nat) : Int) * 1099511628211) % 18446744073709551616 = ((sumStep s x : Nat) : Int) := by rw [← hw, IntKind.wrap_u64]
        generalize s ^^^ x.toNat = y at hx2 hw hw2
        generalize sumStep s x = z at hw hw2 HN
        generalize x.toNat = c at hci hx2 hxl
        have HS : Hid (s = sumL (l.take i)) := hs
        clear hn hx h3 hs
        have hili : (i : Int) < (l.length : Int) := by omega
        go_wp2
        go_round
        case rel => exact ⟨i + 1, z, by go_num, rfl, by omega, HN.out.symm⟩
        case measure => simp [intOf]; omega
      · have hili : ¬ ((i : Int) < (l.length : Int)) := by omega
        have HS : Hid (s = sumL l) := by
          show s = sumL l
          rw [hs, List.take_of_length_le (by omega)]
        clear hs h3
        go_wp2
        go_ret
        exact ⟨by rw [← HS.out]; rfl, rfl⟩

def alphabet : List UInt8 := [97, 98, 99, 100, 101, 102, 103, 104, 105, 106, 107, 108, 109, 110, 111, 112, 113, 114, 115, 116, 117, 118, 119, 120, 121, 122, 50, 51, 52, 53, 54, 55]
def lt (n : Nat) : UInt8 := alphabet.getD (n % 32) 0

set_option maxHeartbeats 1600000 in
theorem letter_any (n : Nat) (hn : n < 4294967296) (w : World) :
    Calls Try.prog 31 #[.int .u32 (n : Int)] w fun e w' => e = .returned (.int .u8 ((lt n).toNat : Int)) ∧ w' = w := by
  have h1 : bits .and .u32 (n : Int) 31 = ((n % 32 : Nat) : Int) := by
    have h2 := u32_and_nat n 31 hn (by decide)
    have e : ((31 : Nat) : Int) = 31 := rfl
    rw [e] at h2
    rw [h2]
    have h3 : n &&& 31 = n % 2 ^ 5 := Nat.and_two_pow_sub_one_eq_mod n 5
    rw [h3]
  have h2 : n % 32 < 32 := Nat.mod_lt _ (by decide)
  have HL : Hid (lt n = alphabet.getD (n % 32) 0) := rfl
  generalize n % 32 = k at h1 h2 HL
  go_enter Try.func31, Try.ntmps31
  go_wp2
  go_ret
  refine ⟨?_, rfl⟩
  rw [HL.out]
  have hall : ∀ k : Fin 32, ((⟨#[97, 98, 99, 100, 101, 102, 103, 104, 105, 106, 107, 108, 109, 110, 111, 112, 113, 114, 115, 116, 117, 118, 119, 120, 121, 122, 50, 51, 52, 53, 54, 55]⟩ : ByteArray)[k.val]'(by have := k.isLt; exact this)) = alphabet.getD k.val 0 := by decide
  have := hall ⟨k, h2⟩
  simp only at this
  show Ending.returned (Value.int .u8 (((⟨#[97, 98, 99, 100, 101, 102, 103, 104, 105, 106, 107, 108, 109, 110, 111, 112, 113, 114, 115, 116, 117, 118, 119, 120, 121, 122, 50, 51, 52, 53, 54, 55]⟩ : ByteArray)[k]'h2).toNat : Int)) = _
  rw [this]

end Go.Proofs.Ytcmembmaaebdeab

