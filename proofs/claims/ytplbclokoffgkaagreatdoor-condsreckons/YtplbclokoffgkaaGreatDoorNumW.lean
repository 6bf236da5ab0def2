/- What the Writer's parts write, each for every Writer and every input. -/
import Derived.Test.YtplbclokoffgkaaGreatDoorOwn
import Derived.Lib.Varint
import Derived.Lib.Zigzag
import Derived.Laws.BitsAllLaws

namespace Go.Proofs.YtplbclokoffgkaaGreatDoor
open Go.RowKit Go.PlainAid

/-- at b, o lies a Writer that has written l, in the block rb (or in none) -/
structure Wr (w : World) (b o : Nat) (l : List UInt8) (rb : Option Nat) : Prop where
  ex : w.frozen? ⟨b, o, none⟩ = false ∧ rb ≠ some b ∧ ∃ v, w.cell? ⟨b, o, none⟩ = some v ∧ v.ownBlock = rb ∧ Row w v l

/-- the block is the one of before, or a new one -/
def Newer (w w' : World) (rb rb' : Option Nat) : Prop := rb' = rb ∨ ∀ k, rb' = some k → w.heap.size ≤ k ∧ k < w'.heap.size

theorem Newer.refl (w w' : World) (rb : Option Nat) : Newer w w' rb rb := .inl rfl
theorem Newer.trans {a b c : World} {r s t : Option Nat} (h : Newer a b r s) (k : Newer b c s t) (hs : a.heap.size ≤ b.heap.size) (hs2 : b.heap.size ≤ c.heap.size) : Newer a c r t := by
  rcases k with rfl | k
  · rcases h with rfl | h
    · exact .inl rfl
    · exact .inr fun x hx => ⟨(h x hx).1, Nat.lt_of_lt_of_le (h x hx).2 hs2⟩
  · exact .inr fun x hx => ⟨Nat.le_trans hs (k x hx).1, (k x hx).2⟩
theorem Newer.foot {w w' : World} {r s : Option Nat} {b : Nat} (h : Newer w w' r s) : ∀ x ∈ b :: s.toList, x ∈ b :: r.toList ∨ w.heap.size ≤ x := by
  intro x hx
  rcases h with rfl | h
  · exact .inl hx
  · simp at hx
    rcases hx with rfl | hx
    · exact .inl (by simp)
    · exact .inr (h x hx).1

theorem Wr.lt {w : World} {b o : Nat} {l : List UInt8} {rb : Option Nat} (h : Wr w b o l rb) : b < w.heap.size := by
  obtain ⟨_, _, v, hc, _⟩ := h.ex
  exact World.block_lt_of_cell? w _ hc
theorem Wr.ltR {w : World} {b o : Nat} {l : List UInt8} {rb : Option Nat} (h : Wr w b o l rb) : ∀ k, rb = some k → k < w.heap.size := by
  obtain ⟨_, _, v, hc, rfl, hr⟩ := h.ex
  exact hr.lt
theorem Wr.keep {F : List Nat} {w w' : World} {b o : Nat} {l : List UInt8} {rb : Option Nat} (h : Wr w b o l rb) (k : Keep F w w') (hb : b ∉ F) (hr : ∀ x, rb = some x → x ∉ F) : Wr w' b o l rb := by
  obtain ⟨hf, hne, v, hc, rfl, hrow⟩ := h.ex
  exact ⟨(k.frozen (World.block_lt_of_cell? w _ hc) hb).trans hf, hne, v, k.cell' hc hb, rfl, hrow.keep k hr⟩
theorem Wr.zero (w : World) (b o : Nat) (hc : w.cell? ⟨b, o, none⟩ = some (.slice none 0 0)) (hf : w.frozen? ⟨b, o, none⟩ = false) : Wr w b o [] none :=
  ⟨hf, by simp, _, hc, rfl, Row.nil w⟩

theorem stored {w1 : World} {b o : Nat} {v v' : Value} {l : List UInt8} (hc : w1.cell? ⟨b, o, none⟩ = some v) (hf : w1.frozen? ⟨b, o, none⟩ = false) (hr : Row w1 v' l) (hne : v'.ownBlock ≠ some b) :
    Wr (w1.setCell ⟨b, o, none⟩ v') b o l v'.ownBlock := by
  have hk := Keep.set1 w1 ⟨b, o, none⟩ v'
  refine ⟨by rw [World.frozen?_setCell]; exact hf, hne, v', World.cell?_setCell_same w1 _ v' hc, rfl, hr.keep hk ?_⟩
  intro k hk2 hm
  simp at hm
  subst hm
  exact hne hk2

theorem Bs.one (w : World) (c : Nat) (hc : c < 256) : Bs (w.alloc (.cells #[.int .u8 (c : Int)] TB)) (.slice (some ⟨w.heap.size, 0, none⟩) 1 1) [c.toUInt8] := by
  refine ⟨some ⟨w.heap.size, 0, none⟩, 1, rfl, by simp, by simp [maxLen], (by intro h; cases h), fun _ => ⟨w.heap.size, 0, rfl, fun j hj => ?_⟩⟩
  have hj0 : j = 0 := by simpa using hj
  subst hj0
  have h1 : (c.toUInt8).toNat = c := by simp; omega
  simp [h1]

theorem Wr.alloc {w : World} {b o : Nat} {l : List UInt8} {rb : Option Nat} (h : Wr w b o l rb) (x : Obj) : Wr (w.alloc x) b o l rb := h.keep (Keep.alloc1 w x) (by simp) (fun _ _ => by simp)

end Go.Proofs.YtplbclokoffgkaaGreatDoor




/- The short form of a number is written by the loop of putShort. -/
namespace Go.Proofs.YtplbclokoffgkaaGreatDoor
open Go.RowKit Go.PlainAid Go.Lib

end Go.Proofs.YtplbclokoffgkaaGreatDoor




/- The turned form and the key of a number, and the number of each, for every input. -/
namespace Go.Proofs.YtplbclokoffgkaaGreatDoor
open Go.RowKit Go.PlainAid Go.Lib

set_option maxRecDepth 1000000 in
theorem run_f32bits (x : Nat) (w : World) : (callFunc 169 #[.float .f32 x]).run Tryz.prog w = .ok (.value (.int .u32 (x : Int))) w :=
  (run_callFunc_extern (e := Extern.MathFloatBits.float32bits) Tryz.func169 (by kernel_rfl) (by kernel_rfl) (by kernel_rfl) (by kernel_rfl) _ w).trans rfl
set_option maxRecDepth 1000000 in
theorem run_f32from (x : Nat) (w : World) : (callFunc 94 #[.int .u32 (x : Int)]).run Tryz.prog w = .ok (.value (.float .f32 x)) w :=
  (run_callFunc_extern (e := Extern.MathFloatBits.float32frombits) Tryz.func94 (by kernel_rfl) (by kernel_rfl) (by kernel_rfl) (by kernel_rfl) _ w).trans rfl

def nanB (x : Nat) : Bool := decide (2139095040 < x % 2147483648)
def keyN (x : Nat) : Nat := if nanB x = true then 4290772992 else if 2147483648 ≤ x then 4294967295 - x else x + 2147483648
def bitsK (k : Nat) : Nat := if 2147483648 ≤ k then k - 2147483648 else 4294967295 - k
def unkeyN (k : Nat) : Nat := if k = 4290772992 then 2143289344 else if nanB (bitsK k) = true then 0 else bitsK k
def keyB (k : Nat) : Bool := k == 4290772992 || !nanB (bitsK k)
def unzig (u : Nat) : Int := if u % 2 = 0 then (u / 2 : Nat) else -((u / 2 : Nat) : Int) - 1

set_option maxRecDepth 1000000 in
theorem keyN_lt (x : Nat) (h : x < 4294967296) : keyN x < 4294967296 := by unfold keyN; split; omega; split <;> omega

set_option maxRecDepth 1000000 in
theorem order_self (x : Nat) : (Ieee.single.order x x = some .eq) ↔ nanB x = false := by
  unfold Ieee.Format.order Ieee.Format.read nanB
  have e1 : Ieee.single.signWeight = 2147483648 := by decide
  have e2 : Ieee.single.infRung = 2139095040 := by decide
  have e3 : Ieee.single.binade = 8388608 := by decide
  rw [e1, e2, e3]
  simp only [decide_eq_false_iff_not, Nat.not_lt]
  split
  · simp [Ieee.Datum.order]; omega
  · split
    · simp [Ieee.Datum.order]; omega
    · split
      · simp [Ieee.Datum.order]; omega
      · simp [Ieee.Datum.order]; omega

set_option maxRecDepth 1000000 in
theorem neq_self (x : Nat) : (FloatKind.f32.format.order x x != some Ordering.eq) = nanB x := by
  have h := order_self x
  show (Ieee.single.order x x != some Ordering.eq) = nanB x
  cases hn : nanB x
  · rw [h.2 hn]; rfl
  · rw [hn] at h
    simpa using h

set_option maxRecDepth 1000000 in
theorem and31 (x : Nat) (h : x < 4294967296) : bits .and .u32 (x : Int) 2147483648 = if 2147483648 ≤ x then 2147483648 else 0 := by
  have h1 := u32_and_nat x 2147483648 h (by decide)
  have e : ((2147483648 : Nat) : Int) = 2147483648 := rfl
  rw [e] at h1
  rw [h1]
  have h2 : x &&& 2 ^ 31 = if 2147483648 ≤ x then 2 ^ 31 else 0 := by
    apply Nat.eq_of_testBit_eq
    intro i
    rw [Nat.testBit_and, Nat.testBit_two_pow]
    by_cases hi : 31 = i
    · subst hi
      split
      · rw [Nat.testBit_two_pow_self, Nat.testBit_eq_decide_div_mod_eq]
        simp
        omega
      · rw [Nat.testBit_lt_two_pow (by omega)]
        simp
    · split
      · rw [Nat.testBit_two_pow]; simp [hi]
      · simp [hi]
  rw [show (2147483648 : Nat) = 2 ^ 31 by decide] at h1 ⊢
  rw [h2]
  split <;> rfl
set_option maxRecDepth 1000000 in
theorem andNot31 (x : Nat) (h : x < 4294967296) (h1 : 2147483648 ≤ x) : bits .andNot .u32 (x : Int) 2147483648 = ((x - 2147483648 : Nat) : Int) := by
  have h2 := u32_andNot_nat x 2147483648 h (by decide)
  have e : ((2147483648 : Nat) : Int) = 2147483648 := rfl
  rw [e] at h2
  rw [h2]
  have h3 : x &&& 2147483647 = x % 2 ^ 31 := Nat.and_two_pow_sub_one_eq_mod x 31
  rw [show 4294967295 - 2147483648 = 2147483647 from rfl, h3]
  omega
set_option maxRecDepth 1000000 in
theorem or31 (x : Nat) (h : x < 2147483648) : bits .or .u32 (x : Int) 2147483648 = ((x + 2147483648 : Nat) : Int) := by
  have h1 := u32_or_nat x 2147483648 (by omega) (by decide)
  have e : ((2147483648 : Nat) : Int) = 2147483648 := rfl
  rw [e] at h1
  rw [h1]
  have h2 := Nat.two_pow_add_eq_or_of_lt (i := 31) (b := x) (by simpa using h) 1
  simp at h2
  rw [Nat.or_comm, ← h2]
  congr 1
  omega
set_option maxRecDepth 1000000 in
theorem xor_ones32 (b : Nat) (hb : b < 2 ^ 32) : (2 ^ 32 - 1) ^^^ b = 2 ^ 32 - 1 - b := by
  apply Nat.eq_of_testBit_eq
  intro i
  rw [Nat.testBit_xor, Nat.testBit_two_pow_sub_one, show 2 ^ 32 - 1 - b = 2 ^ 32 - (b + 1) by omega, Nat.testBit_two_pow_sub_succ hb]
  by_cases hi : i < 32
  · simp [hi]
  · have : b.testBit i = false := Nat.testBit_lt_two_pow (Nat.lt_of_lt_of_le hb (Nat.pow_le_pow_right (by decide) (by omega)))
    simp [hi, this]
set_option maxRecDepth 1000000 in
theorem not32 (x : Nat) (h : x < 4294967296) : bits .xor .u32 IntKind.u32.max (x : Int) = ((4294967295 - x : Nat) : Int) := by
  have h1 := u32_xor_nat 4294967295 x (by decide) h
  have e : IntKind.u32.max = ((4294967295 : Nat) : Int) := by decide
  rw [e, h1]
  have h2 := xor_ones32 x (by simpa using h)
  rw [show (4294967295 : Nat) = 2 ^ 32 - 1 by decide, h2]

set_option maxRecDepth 1000000 in
theorem wrap64_small (x : Int) (h0 : -9223372036854775808 ≤ x) (h1 : x ≤ 9223372036854775807) : wrap64 x = x := by
  unfold wrap64
  omega

set_option maxRecDepth 1000000 in
theorem turned_eq (x : Int) (h0 : -9223372036854775808 ≤ x) (h1 : x ≤ 9223372036854775807) :
    bits .xor .u64 (IntKind.u64.wrap (wrap64 (x * 2))) (IntKind.u64.wrap (x / 9223372036854775808)) = ((zigzag x : Nat) : Int) := by
  have e1 : IntKind.u64.wrap (wrap64 (x * 2)) = (((2 * x) % 18446744073709551616).toNat : Int) := by
    rw [IntKind.wrap_u64]
    unfold wrap64
    omega
  rw [e1]
  by_cases hx : 0 ≤ x
  · have e2 : IntKind.u64.wrap (x / 9223372036854775808) = ((0 : Nat) : Int) := by rw [IntKind.wrap_u64]; omega
    rw [e2, u64_xor_nat _ _ (by omega) (by decide), zigzag_nonneg hx]
    simp
    omega
  · have e2 : IntKind.u64.wrap (x / 9223372036854775808) = ((18446744073709551615 : Nat) : Int) := by rw [IntKind.wrap_u64]; omega
    rw [e2, u64_xor_nat _ _ (by omega) (by decide), Nat.xor_comm]
    have h2 := xor_ones64 ((2 * x) % 18446744073709551616).toNat (by omega)
    rw [show (18446744073709551615 : Nat) = 2 ^ 64 - 1 by decide, h2]
    unfold zigzag
    rw [if_neg hx]
    omega

set_option maxRecDepth 1000000 in
theorem xor_i64_zero (x : Nat) (hx : x < 9223372036854775808) : bits .xor .i64 (x : Int) 0 = (x : Int) := by
  show IntKind.i64.wrap ((BitVec.ofInt 64 (x : Int) ^^^ BitVec.ofInt 64 0).toNat : Int) = _
  have h2 : (BitVec.ofInt 64 (x : Int)).toNat = x := by
    rw [BitVec.toNat_ofInt]; omega
  rw [BitVec.toNat_xor, h2, IntKind.wrap_i64]
  simp
  omega
set_option maxRecDepth 1000000 in
theorem xor_i64_comm (x y : Int) : bits .xor .i64 x y = bits .xor .i64 y x := by
  show IntKind.i64.wrap ((BitVec.ofInt 64 x ^^^ BitVec.ofInt 64 y).toNat : Int) = IntKind.i64.wrap ((BitVec.ofInt 64 y ^^^ BitVec.ofInt 64 x).toNat : Int)
  rw [BitVec.xor_comm]

end Go.Proofs.YtplbclokoffgkaaGreatDoor



