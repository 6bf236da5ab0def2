/- What is written of one thing, as bytes, and that a read of it has it again; of a shorter beginning a read is refused. -/
import Derived.Test.YtcmembmaaebdeabRMeth
import Derived.Test.YtcmembmaaebdeabHelpW
namespace Go.Proofs.Ytcmembmaaebdeab
open Go.RowKit Go.PlainAid Go.Lib

theorem byte_back (n : Nat) (h : n < 256) : n.toUInt8.toNat = n := by simp; omega

theorem four_len (k : Nat) : (four k).length = 4 := rfl

/-- one thing that is written -/
structure PutD where
  on : Int
  kind : Int
  uint : Nat
  int : Int
  real : Nat
  text : ByteArray
  raw : List UInt8

structure PutD.Ok (p : PutD) : Prop where
  on0 : -9223372036854775808 ≤ p.on
  on1 : p.on ≤ 9223372036854775807
  kind0 : -9223372036854775808 ≤ p.kind
  kind1 : p.kind ≤ 9223372036854775807
  uint1 : p.uint < 18446744073709551616
  int0 : -9223372036854775808 ≤ p.int
  int1 : p.int ≤ 9223372036854775807
  real1 : p.real < 4294967296
  text1 : p.text.size ≤ 9223372036854775807

def PutD.k (p : PutD) : Nat := (pickZ p.kind 6).toNat

theorem PutD.k_lt (p : PutD) : p.k < 6 := by
  have h := pickZ_lt p.kind 6 (by omega)
  have e : ((6 : Nat) : Int) = 6 := rfl
  rw [e] at h
  unfold PutD.k
  omega
theorem PutD.k_eq (p : PutD) : pickZ p.kind 6 = (p.k : Int) := by
  have h := pickZ_lt p.kind 6 (by omega)
  have e : ((6 : Nat) : Int) = 6 := rfl
  rw [e] at h
  unfold PutD.k
  omega

/-- its bytes -/
def PutD.bytes (p : PutD) : List UInt8 :=
  if p.k = 0 then [(p.uint % 256).toUInt8] else if p.k = 1 then uvarint p.uint else if p.k = 2 then uvarint (zigzag p.int) else if p.k = 3 then four (keyN p.real)
  else if p.k = 4 then uvarint p.text.size ++ p.text.data.toList else p.raw

def PutD.bulk (p : PutD) : Nat := 16 + p.text.size + p.raw.length

theorem PutD.bytes_len (p : PutD) (h : p.Ok) : p.bytes.length ≤ p.bulk := by
  have h1 := h.uint1
  have h2 := h.text1
  have h3 := uvarint_length64 h1
  have h4 := uvarint_length64 (zigzag_lt h.int0 h.int1)
  have h5 : (uvarint p.text.size).length ≤ 10 := uvarint_length64 (by omega)
  have h6 : p.text.data.toList.length = p.text.size := by simp
  unfold PutD.bytes PutD.bulk
  (repeat' split) <;> (try simp only [List.length_append, List.length_cons, List.length_nil, four_len]) <;> omega

/-- the bytes of all -/
def bytesAll : List PutD → List UInt8
  | [] => []
  | p :: l => p.bytes ++ bytesAll l
def bulkAll : List PutD → Nat
  | [] => 0
  | p :: l => p.bulk + bulkAll l

theorem bytesAll_append (a b : List PutD) : bytesAll (a ++ b) = bytesAll a ++ bytesAll b := by
  induction a with
  | nil => rfl
  | cons p a ih => simp [bytesAll, ih]
theorem bytesAll_len (l : List PutD) (h : ∀ p ∈ l, p.Ok) : (bytesAll l).length ≤ bulkAll l := by
  induction l with
  | nil => simp [bytesAll, bulkAll]
  | cons p l ih =>
    have h1 := p.bytes_len (h p (by simp))
    have h2 := ih (fun q hq => h q (by simp [hq]))
    simp only [bytesAll, bulkAll, List.length_append]
    omega
theorem bulkAll_append (a b : List PutD) : bulkAll (a ++ b) = bulkAll a + bulkAll b := by
  induction a with
  | nil => simp [bulkAll]
  | cons p a ih => simp [bulkAll, ih]; omega
theorem bulkAll_len (l : List PutD) : 16 * l.length ≤ bulkAll l := by
  induction l with
  | nil => simp
  | cons p l ih => simp only [bulkAll, PutD.bulk, List.length_cons]; omega

end Go.Proofs.Ytcmembmaaebdeab

