/- What is written of one thing, as bytes, and that a read of it has it again; of a shorter beginning a read is refused. -/
import Derived.Test.YtcmembmaaebdeaaRMeth2
import Derived.Test.YtcmembmaaebdeaaFormsM
import Derived.Test.YtcmembmaaebdeaaHelpW
namespace Go.Proofs.Ytcmembmaaebdeaa
open Go.RowKit Go.PlainAid Go.Lib

theorem byte_back (n : Nat) (h : n < 256) : n.toUInt8.toNat = n := by simp; omega

theorem numG_fwd : ∀ (k x i acc : Nat) (r : List UInt8), x < 128 ^ (k + 1) → i + k ≤ 9 → (0 < i → 0 < x) → acc + x * 128 ^ i < 18446744073709551616 →
    numG (uvarint x ++ r) i acc = (acc + x * 128 ^ i, i + (uvarint x).length, 0)
  | k, x, i, acc, r, hx, hi, hp, hb => by
    by_cases h : x < 128
    · rw [uvarint_small h, List.singleton_append, numG, byte_back x (by omega)]
      have h9 : i = 9 → x ≤ 1 := by
        intro h9
        subst h9
        apply Nat.le_of_not_lt
        intro h2
        have h3 : 2 * 128 ^ 9 ≤ x * 128 ^ 9 := Nat.mul_le_mul_right _ h2
        have h4 : 2 * 128 ^ 9 = 18446744073709551616 := by decide
        omega
      rw [if_neg (by intro h1; rcases h1 with h1 | h1; (have := hp h1.1; omega); (have := h9 h1.1; omega)), if_pos h, Nat.mod_eq_of_lt h]
      rfl
    · cases k with
      | zero => simp at hx; omega
      | succ k =>
        rw [uvarint_big (by omega), List.cons_append, numG, byte_back _ (by omega)]
        rw [if_neg (by omega), if_neg (by omega)]
        have e : (x % 128 + 128) % 128 = x % 128 := by omega
        have e2 : acc + x % 128 * 128 ^ i + x / 128 * 128 ^ (i + 1) = acc + x * 128 ^ i := by
          have h1 : x = x % 128 + 128 * (x / 128) := by omega
          have h2 : x * 128 ^ i = x % 128 * 128 ^ i + 128 * (x / 128) * 128 ^ i := by
            rw [← Nat.add_mul, ← h1]
          rw [h2, Nat.pow_succ, Nat.add_assoc]
          congr 2
          rw [Nat.mul_comm (128 ^ i) 128, ← Nat.mul_assoc, Nat.mul_comm (x / 128) 128]
        have hx2 : x / 128 < 128 ^ (k + 1) := by
          rw [Nat.pow_succ] at hx
          omega
        rw [e, numG_fwd k (x / 128) (i + 1) _ r hx2 (by omega) (fun _ => by omega) (by rw [e2]; exact hb), e2]
        simp only [List.length_cons]
        congr 2
        omega

theorem numL_fwd (x : Nat) (r : List UInt8) (h : x < 18446744073709551616) : numL (uvarint x ++ r) = (x, (uvarint x).length, 0) := by
  unfold numL
  rw [numG_fwd 9 x 0 0 r (Nat.lt_of_lt_of_le h (by decide)) (by omega) (by omega) (by simpa using h)]
  simp

theorem numG_cut : ∀ (k x i acc m : Nat), x < 128 ^ (k + 1) → i + k ≤ 9 → m < (uvarint x).length → numG ((uvarint x).take m) i acc = (0, 0, 20)
  | k, x, i, acc, m, hx, hi, hm => by
    by_cases h : x < 128
    · rw [uvarint_small h] at hm ⊢
      simp at hm
      subst hm
      rfl
    · cases k with
      | zero => simp at hx; omega
      | succ k =>
        rw [uvarint_big (by omega)] at hm ⊢
        cases m with
        | zero => rfl
        | succ m =>
          rw [List.take_succ_cons, numG, byte_back _ (by omega), if_neg (by omega), if_neg (by omega)]
          have hx2 : x / 128 < 128 ^ (k + 1) := by
            rw [Nat.pow_succ] at hx
            omega
          exact numG_cut k (x / 128) (i + 1) _ m hx2 (by omega) (by simpa using hm)

theorem numL_cut (x m : Nat) (h : x < 18446744073709551616) (hm : m < (uvarint x).length) : numL ((uvarint x).take m) = (0, 0, 20) :=
  numG_cut 9 x 0 0 m (Nat.lt_of_lt_of_le h (by decide)) (by omega) hm

theorem unzig_zig (x : Int) (_h0 : -9223372036854775808 ≤ x) (_h1 : x ≤ 9223372036854775807) : unzig (zigzag x) = x := by
  unfold unzig zigzag
  split <;> split <;> omega

theorem four_len (k : Nat) : (four k).length = 4 := rfl

theorem be4_four (k : Nat) (h : k < 4294967296) (r : List UInt8) : be4 (four k ++ r) = k := by
  unfold be4 four
  simp only [List.cons_append, List.nil_append, List.getD_cons_zero, List.getD_cons_succ]
  rw [byte_back _ (by omega), byte_back _ (by omega), byte_back _ (by omega), byte_back _ (by omega)]
  omega

/-- one thing that is written -/
structure PutD where
  on : Int
  kind : Int
  uint : Nat
  int : Int
  real : Nat
  text : ByteArray
  raw : List UInt8

structure PutD.Ok (p : PutD) : Prop where
  on0 : -9223372036854775808 ≤ p.on
  on1 : p.on ≤ 9223372036854775807
  kind0 : -9223372036854775808 ≤ p.kind
  kind1 : p.kind ≤ 9223372036854775807
  uint1 : p.uint < 18446744073709551616
  int0 : -9223372036854775808 ≤ p.int
  int1 : p.int ≤ 9223372036854775807
  real1 : p.real < 4294967296
  text1 : p.text.size ≤ 9223372036854775807

def PutD.k (p : PutD) : Nat := (pickZ p.kind 6).toNat

theorem PutD.k_lt (p : PutD) : p.k < 6 := by
  have h := pickZ_lt p.kind 6 (by omega)
  have e : ((6 : Nat) : Int) = 6 := rfl
  rw [e] at h
  unfold PutD.k
  omega
theorem PutD.k_eq (p : PutD) : pickZ p.kind 6 = (p.k : Int) := by
  have h := pickZ_lt p.kind 6 (by omega)
  have e : ((6 : Nat) : Int) = 6 := rfl
  rw [e] at h
  unfold PutD.k
  omega

/-- its bytes -/
def PutD.bytes (p : PutD) : List UInt8 :=
  if p.k = 0 then [(p.uint % 256).toUInt8] else if p.k = 1 then uvarint p.uint else if p.k = 2 then uvarint (zigzag p.int) else if p.k = 3 then four (keyN p.real)
  else if p.k = 4 then uvarint p.text.size ++ p.text.data.toList else p.raw

def PutD.bulk (p : PutD) : Nat := 16 + p.text.size + p.raw.length

theorem PutD.bytes_len (p : PutD) (h : p.Ok) : p.bytes.length ≤ p.bulk := by
  have h1 := h.uint1
  have h2 := h.text1
  have h3 := uvarint_length64 h1
  have h4 := uvarint_length64 (zigzag_lt h.int0 h.int1)
  have h5 : (uvarint p.text.size).length ≤ 10 := uvarint_length64 (by omega)
  have h6 : p.text.data.toList.length = p.text.size := by simp
  unfold PutD.bytes PutD.bulk
  (repeat' split) <;> (try simp only [List.length_append, List.length_cons, List.length_nil, four_len]) <;> omega

/-- the error and how many bytes a read of its kind takes of l -/
def PutD.read (p : PutD) (l : List UInt8) : Nat × Int :=
  if p.k = 0 then (byteL l).2 else if p.k = 1 then (numL l).2 else if p.k = 2 then (turnL l).2 else if p.k = 3 then (realL l).2
  else if p.k = 4 then (textL l p.text.size).2 else (rawL l p.raw.length).2

/-- is the answer of a read of its kind what was written? -/
def PutD.fits (p : PutD) (l : List UInt8) : Bool :=
  if p.k = 0 then (byteL l).1 == p.uint % 256 else if p.k = 1 then (numL l).1 == p.uint else if p.k = 2 then (turnL l).1 == p.int else if p.k = 3 then ((realL l).1 == p.real || nanB (realL l).1 && nanB p.real)
  else if p.k = 4 then (textL l p.text.size).1 == p.text.data.toList else (rawL l p.raw.length).1 == p.raw

theorem textL_fwd (s r : List UInt8) (h : s.length < 18446744073709551616) : textL (uvarint s.length ++ s ++ r) s.length = (s, (uvarint s.length).length + s.length, 0) := by
  unfold textL
  rw [List.append_assoc, numL_fwd _ _ h]
  simp only [List.length_append]
  rw [if_neg (by omega), if_neg (by simp), if_neg (by omega), if_neg (by omega)]
  simp

theorem textL_cut (s : List UInt8) (m : Nat) (h : s.length < 18446744073709551616) (hm : m < (uvarint s.length ++ s).length) : (textL ((uvarint s.length ++ s).take m) s.length).2 = (0, 20) := by
  by_cases h1 : m < (uvarint s.length).length
  · rw [List.take_append_of_le_length (by omega)]
    unfold textL
    rw [numL_cut _ _ h h1, if_neg (by omega), if_pos (by simp)]
  · have h2 : (uvarint s.length ++ s).take m = uvarint s.length ++ s.take (m - (uvarint s.length).length) := by
      rw [List.take_append, List.take_of_length_le (by omega)]
    rw [h2]
    unfold textL
    rw [numL_fwd _ _ h]
    simp only [List.length_append] at hm ⊢
    rw [if_neg (by omega), if_neg (by simp), if_neg (by omega), if_pos (by simp; omega)]

theorem key_unkey (x : Nat) (h : x < 4294967296) : keyB (keyN x) = true ∧ (unkeyN (keyN x) = x ∨ nanB x = true ∧ nanB (unkeyN (keyN x)) = true) := by
  by_cases hn : nanB x = true
  · have e : keyN x = 4290772992 := by unfold keyN; rw [if_pos hn]
    rw [e]
    exact ⟨by decide, .inr ⟨hn, by decide⟩⟩
  · have hn' : nanB x = false := by simpa using hn
    have hx : ¬ 2139095040 < x % 2147483648 := by
      unfold nanB at hn
      simpa using hn
    have hb : bitsK (keyN x) = x := by
      unfold keyN bitsK
      rw [if_neg hn]
      split <;> split <;> omega
    have hk : keyN x ≠ 4290772992 := by
      unfold keyN
      rw [if_neg hn]
      split <;> omega
    refine ⟨by unfold keyB; rw [hb, hn']; simp, .inl ?_⟩
    unfold unkeyN
    rw [if_neg hk, hb, if_neg hn]

theorem PutD.there (p : PutD) (h : p.Ok) (hr : p.raw.length < 9223372036854775808) (r : List UInt8) : p.read (p.bytes ++ r) = (p.bytes.length, 0) ∧ p.fits (p.bytes ++ r) = true := by
  have h1 := h.uint1
  have h2 := h.text1
  unfold PutD.read PutD.fits PutD.bytes
  have hk := p.k_lt
  have hc : p.k = 0 ∨ p.k = 1 ∨ p.k = 2 ∨ p.k = 3 ∨ p.k = 4 ∨ p.k = 5 := by omega
  rcases hc with e | e | e | e | e | e <;> simp only [e, if_pos, Nat.reduceEqDiff, if_false]
  · simp [byteL]
  · rw [numL_fwd _ _ h1]; simp
  · unfold turnL
    rw [numL_fwd _ _ (zigzag_lt h.int0 h.int1)]
    simp [unzig_zig _ h.int0 h.int1]
  · have hkl := keyN_lt _ h.real1
    obtain ⟨g1, g2⟩ := key_unkey _ h.real1
    unfold realL
    rw [be4_four _ hkl, if_neg (by simp [four_len]), if_pos g1]
    refine ⟨rfl, ?_⟩
    rcases g2 with g2 | ⟨g2, g3⟩
    · simp [g2]
    · simp [g2, g3]
  · have e6 : p.text.data.toList.length = p.text.size := by simp
    have := textL_fwd p.text.data.toList r (by omega)
    rw [e6] at this
    rw [this]
    simp
  · unfold rawL
    rw [if_neg (by omega), if_neg (by simp; omega)]
    simp

theorem PutD.short (p : PutD) (h : p.Ok) (m : Nat) (hm : m < p.bytes.length) : p.read (p.bytes.take m) = (0, 20) := by
  have h1 := h.uint1
  have h2 := h.text1
  unfold PutD.read
  unfold PutD.bytes at hm ⊢
  have hk := p.k_lt
  have hc : p.k = 0 ∨ p.k = 1 ∨ p.k = 2 ∨ p.k = 3 ∨ p.k = 4 ∨ p.k = 5 := by omega
  rcases hc with e | e | e | e | e | e <;> simp only [e, if_pos, Nat.reduceEqDiff, if_false] at hm ⊢
  · simp at hm
    subst hm
    rfl
  · rw [numL_cut _ _ h1 hm]
  · unfold turnL
    rw [numL_cut _ _ (zigzag_lt h.int0 h.int1) hm]
  · rw [four_len] at hm
    unfold realL
    rw [if_pos (by simp [four_len]; omega)]
  · have e6 : p.text.data.toList.length = p.text.size := by simp
    have := textL_cut p.text.data.toList m (by omega)
    rw [e6] at this
    exact this hm
  · unfold rawL
    rw [if_neg (by omega), if_pos (by simp; omega)]

/-- the bytes of all -/
def bytesAll : List PutD → List UInt8
  | [] => []
  | p :: l => p.bytes ++ bytesAll l
def bulkAll : List PutD → Nat
  | [] => 0
  | p :: l => p.bulk + bulkAll l

theorem bytesAll_append (a b : List PutD) : bytesAll (a ++ b) = bytesAll a ++ bytesAll b := by
  induction a with
  | nil => rfl
  | cons p a ih => simp [bytesAll, ih]
theorem bytesAll_len (l : List PutD) (h : ∀ p ∈ l, p.Ok) : (bytesAll l).length ≤ bulkAll l := by
  induction l with
  | nil => simp [bytesAll, bulkAll]
  | cons p l ih =>
    have h1 := p.bytes_len (h p (by simp))
    have h2 := ih (fun q hq => h q (by simp [hq]))
    simp only [bytesAll, bulkAll, List.length_append]
    omega
theorem bulkAll_append (a b : List PutD) : bulkAll (a ++ b) = bulkAll a + bulkAll b := by
  induction a with
  | nil => simp [bulkAll]
  | cons p a ih => simp [bulkAll, ih]; omega
theorem bulkAll_len (l : List PutD) : 16 * l.length ≤ bulkAll l := by
  induction l with
  | nil => simp
  | cons p l ih => simp only [bulkAll, PutD.bulk, List.length_cons]; omega

end Go.Proofs.Ytcmembmaaebdeaa
