/- The pieces of a text, told as plain functions of its bytes: classes, rows, numbers, quoted texts, marks, blanks and remarks, lines and columns, the whole scan; and how tokens are printed. -/
import Derived.PlainAid
namespace Go.Proofs.Ytmglbcldjhdhkab
open Go.PlainAid

def smallB (c : Int) : Bool := decide (97 ≤ c) && decide (c ≤ 122)
def digitB (c : Int) : Bool := decide (48 ≤ c) && decide (c ≤ 57)
def inNameB (c : Int) : Bool := smallB c || digitB c || c == 95
def resL (l : List UInt8) : Bool :=
  l == [116, 121, 112, 101] || l == [114, 101, 108, 97, 116, 105, 111, 110] || l == [99, 111, 110, 100] || l == [111, 114] || l == [97, 110, 100] || l == [110, 111, 116] || l == [102, 114, 111, 109] || l == [119, 105, 116, 104] || l == [105, 110] || l == [116, 114, 117, 101] || l == [102, 97, 108, 115, 101] || l == [110, 97, 110] || l == [105, 110, 102]
def hd (l : List UInt8) : Int := match l with
  | [] => 0
  | c :: _ => (c.toNat : Int)
def nameL (l : List UInt8) : Bool := decide (1 ≤ l.length) && decide (l.length ≤ 32) && smallB (hd l) && !resL l && l.all (fun c => inNameB (c.toNat : Int))

def blankB (c : Int) : Bool := c == 32 || c == 9 || c == 10 || c == 13
def singleB (c : Int) : Bool := c == 91 || c == 93 || c == 40 || c == 41 || c == 44 || c == 58 || c == 35 || c == 42 || c == 43 || c == 45 || c == 47
def compareB (c : Int) : Bool := c == 61 || c == 60 || c == 62
def classI (c : Int) : Int :=
  if smallB c then 2 else if digitB c then 3 else if blankB c then 1 else if c = 95 then 4 else if c = 34 then 5 else if singleB c then 6 else if compareB c then 7 else if c = 33 then 8 else 0

abbrev nm (c : UInt8) : Bool := inNameB (c.toNat : Int)

/-- a piece that was found: its kind (0: none), its text, its size -/
structure Fd where
  kind : Int
  text : List UInt8
  size : Nat

def rowN (l : List UInt8) : Nat := (l.takeWhile nm).length
def rowL (l : List UInt8) : Fd :=
  if 32 < rowN l then ⟨0, [], 32⟩ else ⟨if nameL (l.take (rowN l)) then 1 else 2, l.take (rowN l), rowN l⟩

def stepI (st : Int) (c : Int) : Int :=
  if digitB c then (if st = 2 then 3 else if st = 4 ∨ st = 5 then 6 else st)
  else if c = 46 ∧ st = 1 then 2 else if c = 101 ∧ st = 3 then 4 else if c = 45 ∧ st = 4 then 5 else 0

/-- how far a number goes, the state in which it ends, and whether what stands behind it would have to be part of it -/
def numGo (st : Int) : List UInt8 → Nat × Int × Bool
  | [] => (0, st, false)
  | c :: t => if stepI st (c.toNat : Int) = 0 then (0, st, nm c) else ((numGo (stepI st (c.toNat : Int)) t).1 + 1, (numGo (stepI st (c.toNat : Int)) t).2)

def endedL (l : List UInt8) (n : Nat) (st : Int) : Fd :=
  if st = 1 then ⟨3, l.take n, n⟩ else if st = 3 ∨ st = 6 then ⟨4, l.take n, n⟩ else ⟨0, [], n⟩
def numberL (l : List UInt8) : Fd :=
  if (numGo 1 l).2.2 then ⟨0, [], (numGo 1 l).1⟩ else endedL l (numGo 1 l).1 (numGo 1 l).2.1

/-- a digit in base 16; none: -1 -/
def hexI (c : Int) : Int :=
  if 48 ≤ c ∧ c ≤ 57 then c - 48 else if 97 ≤ c ∧ c ≤ 102 then c - 87 else if 65 ≤ c ∧ c ≤ 70 then c - 55 else -1

/-- one byte more of a quoted text: the state (0 plain, 1 escaped, 2 high, 3 low), the high digit, what was read; none: it can't stand there (or ends it) -/
def qStep (st : Int) (d : UInt8) (acc : List UInt8) (c : UInt8) : Option (Int × UInt8 × List UInt8) :=
  if st = 0 then (if c = 34 then none else if c = 92 then some (1, d, acc) else if c.toNat < 32 then none else some (0, d, acc ++ [c]))
  else if st = 1 then (if c = 34 ∨ c = 92 then some (0, d, acc ++ [c]) else if c = 110 then some (0, d, acc ++ [10]) else if c = 120 then some (2, d, acc) else none)
  else if hexI c.toNat < 0 then none
  else if st = 2 then some (3, (hexI c.toNat).toNat.toUInt8, acc)
  else some (0, d, acc ++ [(d <<< 4) ||| (hexI c.toNat).toNat.toUInt8])

/-- the text that is meant, if it ends, and how many bytes were gone through -/
def qGo (st : Int) (d : UInt8) (acc : List UInt8) : List UInt8 → Option (List UInt8) × Nat
  | [] => (none, 0)
  | c :: t => if st = 0 ∧ c = 34 then (some acc, 1) else
    match qStep st d acc c with
    | none => (none, 0)
    | some (st', d', acc') => ((qGo st' d' acc' t).1, (qGo st' d' acc' t).2 + 1)

def quotedL (l : List UInt8) : Fd :=
  match (qGo 0 0 [] (l.drop 1)).1 with
  | some x => ⟨5, x, (qGo 0 0 [] (l.drop 1)).2 + 1⟩
  | none => ⟨0, [], (qGo 0 0 [] (l.drop 1)).2 + 1⟩

def pieceL : List UInt8 → Fd
  | [] => ⟨0, [], 0⟩
  | c :: t =>
    if classI c.toNat = 2 then rowL (c :: t)
    else if classI c.toNat = 3 then numberL (c :: t)
    else if classI c.toNat = 5 then quotedL (c :: t)
    else if classI c.toNat = 6 then ⟨6, [c], 1⟩
    else if classI c.toNat = 7 ∨ classI c.toNat = 8 then
      (if t.head? = some 61 then ⟨6, [c, 61], 2⟩ else if classI c.toNat = 7 then ⟨6, [c], 1⟩ else ⟨0, [], 1⟩)
    else ⟨0, [], 0⟩

/-- how many bytes of blanks and remarks a text begins with (true: within a remark) -/
def skipN : Bool → List UInt8 → Nat
  | _, [] => 0
  | false, c :: t => if blankB c.toNat then skipN false t + 1 else if c = 47 ∧ t.head? = some 47 then skipN true t + 1 else 0
  | true, c :: t => if c = 10 then skipN false t + 1 else skipN true t + 1

/-- line and column behind one byte more -/
def adv1 (p : Nat × Nat) (c : UInt8) : Nat × Nat := if c = 10 then (p.1 + 1, 1) else (p.1, p.2 + 1)
def adv (p : Nat × Nat) (l : List UInt8) : Nat × Nat := l.foldl adv1 p

structure TokD where
  kind : Int
  text : List UInt8
  line : Int
  col : Int

/-- none: no tokens, and the place -/
def scanF : Nat → List UInt8 → Nat × Nat → Option (List TokD) × (Nat × Nat)
  | 0, _, p => (none, p)
  | n + 1, l, p =>
    if l.length ≤ skipN false l then (some [⟨7, [], (adv p l).1, (adv p l).2⟩], (0, 0)) else
    if (pieceL (l.drop (skipN false l))).kind = 0 then (none, adv p (l.take (skipN false l + (pieceL (l.drop (skipN false l))).size))) else
    match scanF n (l.drop (skipN false l + (pieceL (l.drop (skipN false l))).size)) (adv p (l.take (skipN false l + (pieceL (l.drop (skipN false l))).size))) with
    | (some ts, q) => (some (⟨(pieceL (l.drop (skipN false l))).kind, (pieceL (l.drop (skipN false l))).text, (adv p (l.take (skipN false l))).1, (adv p (l.take (skipN false l))).2⟩ :: ts), q)
    | (none, q) => (none, q)

def scanL (l : List UInt8) : Option (List TokD) × (Int × Nat × Nat) :=
  if 65536 < l.length then (none, 3, 0, 0) else
  match scanF (l.length + 1) l (1, 1) with
  | (some ts, _) => (some ts, 0, 0, 0)
  | (none, q) => (none, 50, q)

/-- how a byte of a text is printed -/
def hexD (n : Nat) : UInt8 := if n < 10 then (48 + n).toUInt8 else (87 + n).toUInt8
def escB (c : UInt8) : List UInt8 :=
  if c = 34 ∨ c = 92 then [92, c] else if c = 10 then [92, 110] else if c.toNat < 32 ∨ 126 < c.toNat then [92, 120, hexD (c.toNat / 16), hexD (c.toNat % 16)] else [c]
def escL (l : List UInt8) : List UInt8 := l.flatMap escB
def quoteL (l : List UInt8) : List UInt8 := 34 :: (escL l ++ [34])

def printB (t : TokD) : Bool :=
  if t.kind = 1 ∨ t.kind = 2 ∨ t.kind = 3 ∨ t.kind = 4 ∨ t.kind = 6 then decide ((pieceL t.text).kind = t.kind) && decide ((pieceL t.text).size = t.text.length) else decide (t.kind = 5)
def oneL (t : TokD) : List UInt8 := if t.kind = 5 then quoteL t.text else t.text
def joinL : List TokD → List UInt8
  | [] => []
  | [t] => oneL t
  | t :: u :: ts => oneL t ++ 32 :: joinL (u :: ts)
def endB (t : TokD) : Bool := decide (t.kind = 7) && decide (t.text = [])
/-- all but a TokEnd at the end -/
def cutE (l : List TokD) : List TokD := match l.getLast? with
  | some t => if endB t then l.dropLast else l
  | none => l
def printL (l : List TokD) : List UInt8 × Int :=
  if (cutE l).all printB then (if 65536 < (joinL (cutE l)).length then ([], 3) else (joinL (cutE l), 0)) else ([], 50)

example : (scanL [97, 32, 60, 61, 32, 49, 46, 53, 32, 47, 47, 32, 120, 10, 34, 92, 120, 52, 65, 34]).1.map (fun l => l.map fun t => (t.kind, t.text, t.line, t.col)) = some [(1, [97], 1, 1), (6, [60, 61], 1, 3), (4, [49, 46, 53], 1, 6), (5, [74], 2, 1), (7, [], 2, 7)] := by decide
end Go.Proofs.Ytmglbcldjhdhkab

