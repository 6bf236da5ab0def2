/- What Lets answers, for every filter and every tuple. -/
import Derived.Test.YtbflhpafejmelaaOwn
import Derived.PlainAid
namespace Go.Proofs.Ytbflhpafejmelaa
open Go.RowKit Go.PlainAid

/-- a filter's field, and a tuple's: nothing is said, or the same -/
def okB (a b : ByteArray) : Bool := (a.toList == ([] : List UInt8)) || (a.toList == b.toList)
structure K7 where
  a : ByteArray
  b : ByteArray
  c : ByteArray
  d : ByteArray
  e : ByteArray
  f : ByteArray
  g : ByteArray
def letsB (x y : K7) : Bool := okB x.a y.a && (okB x.b y.b && (okB x.c y.c && (okB x.d y.d && (okB x.e y.e && (okB x.f y.f && okB x.g y.g)))))
abbrev K7.fil (x : K7) : Value := .agg #[.string x.a, .string x.b, .string x.c, .string x.d, .string x.e, .string x.f, .string x.g]
abbrev K7.tup (x : K7) (u : Value) : Value := .agg #[.string x.a, .string x.b, .string x.c, .string x.d, .string x.e, .string x.f, .string x.g, u]
/-- the first k pairs are let through -/
def letsTo (x y : K7) (k : Nat) : Bool := (decide (k ≤ 0) || okB x.a y.a) && ((decide (k ≤ 1) || okB x.b y.b) && ((decide (k ≤ 2) || okB x.c y.c) && ((decide (k ≤ 3) || okB x.d y.d) && ((decide (k ≤ 4) || okB x.e y.e) && ((decide (k ≤ 5) || okB x.f y.f) && (decide (k ≤ 6) || okB x.g y.g))))))
theorem letsTo_all (x y : K7) : letsTo x y 7 = letsB x y := by simp [letsTo, letsB]

theorem ret_lets {a b : Bool} (h : b = a) : Ending.returned (.bool a) = .returned (.bool b) := by rw [h]
set_option maxRecDepth 1000000 in
set_option maxHeartbeats 4000000 in
theorem lets_any (x y : K7) (u : Value) (w : World) :
    Calls Try.prog 14 #[x.fil, y.tup u] w fun e w' => e = .returned (.bool (letsB x y)) ∧ Keep [] w w' := by
  obtain ⟨a, b, c, d, e, f, g⟩ := x
  obtain ⟨a', b', c', d', e', f', g'⟩ := y
  have i0 : ∀ w, (Instr.index 42 (.agg #[.string a, .string a', .string b, .string b', .string c, .string c', .string d, .string d', .string e, .string e', .string f, .string f', .string g, .string g']) (.int .i64 0)).run Try.prog w = .ok (.agg #[.string a, .string a']) w := fun _ => by kernel_rfl
  have i1 : ∀ w, (Instr.index 42 (.agg #[.string a, .string a', .string b, .string b', .string c, .string c', .string d, .string d', .string e, .string e', .string f, .string f', .string g, .string g']) (.int .i64 1)).run Try.prog w = .ok (.agg #[.string b, .string b']) w := fun _ => by kernel_rfl
  have i2 : ∀ w, (Instr.index 42 (.agg #[.string a, .string a', .string b, .string b', .string c, .string c', .string d, .string d', .string e, .string e', .string f, .string f', .string g, .string g']) (.int .i64 2)).run Try.prog w = .ok (.agg #[.string c, .string c']) w := fun _ => by kernel_rfl
  have i3 : ∀ w, (Instr.index 42 (.agg #[.string a, .string a', .string b, .string b', .string c, .string c', .string d, .string d', .string e, .string e', .string f, .string f', .string g, .string g']) (.int .i64 3)).run Try.prog w = .ok (.agg #[.string d, .string d']) w := fun _ => by kernel_rfl
  have i4 : ∀ w, (Instr.index 42 (.agg #[.string a, .string a', .string b, .string b', .string c, .string c', .string d, .string d', .string e, .string e', .string f, .string f', .string g, .string g']) (.int .i64 4)).run Try.prog w = .ok (.agg #[.string e, .string e']) w := fun _ => by kernel_rfl
  have i5 : ∀ w, (Instr.index 42 (.agg #[.string a, .string a', .string b, .string b', .string c, .string c', .string d, .string d', .string e, .string e', .string f, .string f', .string g, .string g']) (.int .i64 5)).run Try.prog w = .ok (.agg #[.string f, .string f']) w := fun _ => by kernel_rfl
  have i6 : ∀ w, (Instr.index 42 (.agg #[.string a, .string a', .string b, .string b', .string c, .string c', .string d, .string d', .string e, .string e', .string f, .string f', .string g, .string g']) (.int .i64 6)).run Try.prog w = .ok (.agg #[.string g, .string g']) w := fun _ => by kernel_rfl
  go_enter Try.func14, Try.ntmps14
  go_wp2
  go_loopw [53] (fun iv wr => ∃ k : Nat, iv = .int .i64 (k : Int) ∧ k ≤ 7 ∧ Hid (Keep [] w wr ∧ letsTo ⟨a, b, c, d, e, f, g⟩ ⟨a', b', c', d', e', f', g'⟩ k = true)) (fun iv _ => 7 - (intOf iv).toNat)
  case atStart => exact ⟨0, rfl, by omega, ((((Keep.refl _ _).alloc _).alloc _).alloc _), by simp [letsTo]⟩
  case round =>
    obtain ⟨k, rfl, hk, HI⟩ := hrel
    by_cases hlt : k < 7
    · rcases (show k = 0 ∨ k = 1 ∨ k = 2 ∨ k = 3 ∨ k = 4 ∨ k = 5 ∨ k = 6 by omega) with rfl | rfl | rfl | rfl | rfl | rfl | rfl
      · cases h1 : (a.toList == ([] : List UInt8))
        · have h1' : (a.toList != ([] : List UInt8)) = true := by rw [bne, h1]; rfl
          cases h2 : (a.toList == a'.toList)
          · have h2' : (a.toList != a'.toList) = true := by rw [bne, h2]; rfl
            go_wp2
            go_ret
            exact ⟨ret_lets (by simp [letsB, okB, h1, h2]), HI.out.1.alloc _⟩
          · have h2' : (a.toList != a'.toList) = false := by rw [bne, h2]; rfl
            go_wp2
            go_roundw
            case rel => exact ⟨1, by go_num, by omega, HI.out.1.alloc _, by have := HI.out.2; simp [letsTo, okB] at this ⊢; simp_all⟩
            case measure => simp [intOf]
        · have h1' : (a.toList != ([] : List UInt8)) = false := by rw [bne, h1]; rfl
          go_wp2
          go_roundw
          case rel => exact ⟨1, by go_num, by omega, HI.out.1.alloc _, by have := HI.out.2; simp [letsTo, okB] at this ⊢; simp_all⟩
          case measure => simp [intOf]
      · cases h1 : (b.toList == ([] : List UInt8))
        · have h1' : (b.toList != ([] : List UInt8)) = true := by rw [bne, h1]; rfl
          cases h2 : (b.toList == b'.toList)
          · have h2' : (b.toList != b'.toList) = true := by rw [bne, h2]; rfl
            go_wp2
            go_ret
            exact ⟨ret_lets (by simp [letsB, okB, h1, h2]), HI.out.1.alloc _⟩
          · have h2' : (b.toList != b'.toList) = false := by rw [bne, h2]; rfl
            go_wp2
            go_roundw
            case rel => exact ⟨2, by go_num, by omega, HI.out.1.alloc _, by have := HI.out.2; simp [letsTo, okB] at this ⊢; simp_all⟩
            case measure => simp [intOf]
        · have h1' : (b.toList != ([] : List UInt8)) = false := by rw [bne, h1]; rfl
          go_wp2
          go_roundw
          case rel => exact ⟨2, by go_num, by omega, HI.out.1.alloc _, by have := HI.out.2; simp [letsTo, okB] at this ⊢; simp_all⟩
          case measure => simp [intOf]
      · cases h1 : (c.toList == ([] : List UInt8))
        · have h1' : (c.toList != ([] : List UInt8)) = true := by rw [bne, h1]; rfl
          cases h2 : (c.toList == c'.toList)
          · have h2' : (c.toList != c'.toList) = true := by rw [bne, h2]; rfl
            go_wp2
            go_ret
            exact ⟨ret_lets (by simp [letsB, okB, h1, h2]), HI.out.1.alloc _⟩
          · have h2' : (c.toList != c'.toList) = false := by rw [bne, h2]; rfl
            go_wp2
            go_roundw
            case rel => exact ⟨3, by go_num, by omega, HI.out.1.alloc _, by have := HI.out.2; simp [letsTo, okB] at this ⊢; simp_all⟩
            case measure => simp [intOf]
        · have h1' : (c.toList != ([] : List UInt8)) = false := by rw [bne, h1]; rfl
          go_wp2
          go_roundw
          case rel => exact ⟨3, by go_num, by omega, HI.out.1.alloc _, by have := HI.out.2; simp [letsTo, okB] at this ⊢; simp_all⟩
          case measure => simp [intOf]
      · cases h1 : (d.toList == ([] : List UInt8))
        · have h1' : (d.toList != ([] : List UInt8)) = true := by rw [bne, h1]; rfl
          cases h2 : (d.toList == d'.toList)
          · have h2' : (d.toList != d'.toList) = true := by rw [bne, h2]; rfl
            go_wp2
            go_ret
            exact ⟨ret_lets (by simp [letsB, okB, h1, h2]), HI.out.1.alloc _⟩
          · have h2' : (d.toList != d'.toList) = false := by rw [bne, h2]; rfl
            go_wp2
            go_roundw
            case rel => exact ⟨4, by go_num, by omega, HI.out.1.alloc _, by have := HI.out.2; simp [letsTo, okB] at this ⊢; simp_all⟩
            case measure => simp [intOf]
        · have h1' : (d.toList != ([] : List UInt8)) = false := by rw [bne, h1]; rfl
          go_wp2
          go_roundw
          case rel => exact ⟨4, by go_num, by omega, HI.out.1.alloc _, by have := HI.out.2; simp [letsTo, okB] at this ⊢; simp_all⟩
          case measure => simp [intOf]
      · cases h1 : (e.toList == ([] : List UInt8))
        · have h1' : (e.toList != ([] : List UInt8)) = true := by rw [bne, h1]; rfl
          cases h2 : (e.toList == e'.toList)
          · have h2' : (e.toList != e'.toList) = true := by rw [bne, h2]; rfl
            go_wp2
            go_ret
            exact ⟨ret_lets (by simp [letsB, okB, h1, h2]), HI.out.1.alloc _⟩
          · have h2' : (e.toList != e'.toList) = false := by rw [bne, h2]; rfl
            go_wp2
            go_roundw
            case rel => exact ⟨5, by go_num, by omega, HI.out.1.alloc _, by have := HI.out.2; simp [letsTo, okB] at this ⊢; simp_all⟩
            case measure => simp [intOf]
        · have h1' : (e.toList != ([] : List UInt8)) = false := by rw [bne, h1]; rfl
          go_wp2
          go_roundw
          case rel => exact ⟨5, by go_num, by omega, HI.out.1.alloc _, by have := HI.out.2; simp [letsTo, okB] at this ⊢; simp_all⟩
          case measure => simp [intOf]
      · cases h1 : (f.toList == ([] : List UInt8))
        · have h1' : (f.toList != ([] : List UInt8)) = true := by rw [bne, h1]; rfl
          cases h2 : (f.toList == f'.toList)
          · have h2' : (f.toList != f'.toList) = true := by rw [bne, h2]; rfl
            go_wp2
            go_ret
            exact ⟨ret_lets (by simp [letsB, okB, h1, h2]), HI.out.1.alloc _⟩
          · have h2' : (f.toList != f'.toList) = false := by rw [bne, h2]; rfl
            go_wp2
            go_roundw
            case rel => exact ⟨6, by go_num, by omega, HI.out.1.alloc _, by have := HI.out.2; simp [letsTo, okB] at this ⊢; simp_all⟩
            case measure => simp [intOf]
        · have h1' : (f.toList != ([] : List UInt8)) = false := by rw [bne, h1]; rfl
          go_wp2
          go_roundw
          case rel => exact ⟨6, by go_num, by omega, HI.out.1.alloc _, by have := HI.out.2; simp [letsTo, okB] at this ⊢; simp_all⟩
          case measure => simp [intOf]
      · cases h1 : (g.toList == ([] : List UInt8))
        · have h1' : (g.toList != ([] : List UInt8)) = true := by rw [bne, h1]; rfl
          cases h2 : (g.toList == g'.toList)
          · have h2' : (g.toList != g'.toList) = true := by rw [bne, h2]; rfl
            go_wp2
            go_ret
            exact ⟨ret_lets (by simp [letsB, okB, h1, h2]), HI.out.1.alloc _⟩
          · have h2' : (g.toList != g'.toList) = false := by rw [bne, h2]; rfl
            go_wp2
            go_roundw
            case rel => exact ⟨7, by go_num, by omega, HI.out.1.alloc _, by have := HI.out.2; simp [letsTo, okB] at this ⊢; simp_all⟩
            case measure => simp [intOf]
        · have h1' : (g.toList != ([] : List UInt8)) = false := by rw [bne, h1]; rfl
          go_wp2
          go_roundw
          case rel => exact ⟨7, by go_num, by omega, HI.out.1.alloc _, by have := HI.out.2; simp [letsTo, okB] at this ⊢; simp_all⟩
          case measure => simp [intOf]
    · have hk7 : k = 7 := by omega
      subst hk7
      go_wp2
      go_ret
      exact ⟨ret_lets (by rw [← letsTo_all, HI.out.2]), HI.out.1⟩
/-- the same, with the answer said -/
theorem lets_said {a b c d e f g a' b' c' d' e' f' g' : ByteArray} {r : Bool} (h : letsB ⟨a, b, c, d, e, f, g⟩ ⟨a', b', c', d', e', f', g'⟩ = r) (u : Value) (w : World) :
    Calls Try.prog 14 #[.agg #[.string a, .string b, .string c, .string d, .string e, .string f, .string g], .agg #[.string a', .string b', .string c', .string d', .string e', .string f', .string g', u]] w fun e w' => e = .returned (.bool r) ∧ Keep [] w w' := by
  have := lets_any ⟨a, b, c, d, e, f, g⟩ ⟨a', b', c', d', e', f', g'⟩ u w
  rw [h] at this
  exact this
theorem okB_nil (s : ByteArray) : okB ByteArray.empty s = true := by simp [okB]
theorem okB_self (s : ByteArray) : okB s s = true := by simp [okB]
end Go.Proofs.Ytbflhpafejmelaa
