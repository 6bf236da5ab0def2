/- What each method of a Writer writes and answers, for every Writer and every input, one that is not there too. -/
import Derived.Test.YtpbfglpjhmhneaaDoorNumW
import Derived.Deep.RegionWith
import Derived.Lib.LazyBuf
namespace Go.Proofs.YtpbfglpjhmhneaaDoor
open Go.RowKit Go.PlainAid Go.Lib

/-- behind it the Writer has r more -/
def Wrote (w w' : World) (b o : Nat) (l r : List UInt8) (rb : Option Nat) : Prop := ∃ rb', Wr w' b o (l ++ r) rb' ∧ Keep (b :: rb.toList) w w' ∧ Newer w w' rb rb'

theorem Wrote.after {w0 w w' : World} {b o : Nat} {l r : List UInt8} {rb : Option Nat} (h : Wrote w w' b o l r rb) (k : Keep [] w0 w) : Wrote w0 w' b o l r rb := by
  obtain ⟨rb', h1, h2, h3⟩ := h
  refine ⟨rb', h1, k.trans h2 (fun _ h => by cases h) (fun x hx => .inl hx), ?_⟩
  rcases h3 with h3 | h3
  · exact .inl h3
  · exact .inr fun x hx => ⟨Nat.le_trans k.size (h3 x hx).1, (h3 x hx).2⟩

def four (k : Nat) : List UInt8 := [(k / 16777216 % 256).toUInt8, (k / 65536 % 256).toUInt8, (k / 256 % 256).toUInt8, (k % 256).toUInt8]

theorem Bs.four (w : World) (k : Nat) :
    Bs (w.alloc (.cells #[.int .u8 ((k / 16777216 % 256 : Nat) : Int), .int .u8 ((k / 65536 % 256 : Nat) : Int), .int .u8 ((k / 256 % 256 : Nat) : Int), .int .u8 ((k % 256 : Nat) : Int)] TB)) (.slice (some ⟨w.heap.size, 0, none⟩) 4 4) (four k) := by
  have e : ∀ x, ((x % 256).toUInt8).toNat = x % 256 := fun x => by simp
  refine ⟨some ⟨w.heap.size, 0, none⟩, 4, rfl, Nat.le_refl _, by simp [maxLen], (by intro h; cases h), fun _ => ⟨w.heap.size, 0, rfl, fun j hj => ?_⟩⟩
  match j, hj with
  | 0, _ => simp [YtpbfglpjhmhneaaDoor.four]
  | 1, _ => simp [YtpbfglpjhmhneaaDoor.four]
  | 2, _ => simp [YtpbfglpjhmhneaaDoor.four]
  | 3, _ => simp [YtpbfglpjhmhneaaDoor.four]
  | n + 4, hj => exact absurd hj (by simp [YtpbfglpjhmhneaaDoor.four])

theorem Row.empty (w : World) : Row (w.alloc (.cells #[] TB)) (.slice (some ⟨w.heap.size, 0, none⟩) 0 0) [] :=
  World.ownsRow_made w #[] 0 (Nat.zero_le _) (Nat.zero_le _) rfl

theorem eqNil (a : Option Addr) (l c : Nat) (w : World) : (binOp .eql 49 (.slice a l c) (.slice none 0 0)).run Tryd.prog w = .ok (.bool a.isNone) w :=
  run_eql_slice_nil w 49 5 a l c underS

end Go.Proofs.YtpbfglpjhmhneaaDoor


