/- What is read at the beginning of some bytes, for every slice of bytes: a byte, a number, a turned one, a key, a text, some bytes. -/
import Derived.Test.YtpbfglpjhmhneaaDoorRdW
import Derived.Laws.BytesString

namespace Go.Proofs.YtpbfglpjhmhneaaDoor
open Go.RowKit Go.PlainAid Go.Lib

theorem numG_size : ∀ (l : List UInt8) (i acc : Nat), (numG l i acc).2.2 ≠ 0 ∧ (numG l i acc).2.1 = 0 ∧ (numG l i acc).1 = 0 ∨ (numG l i acc).2.2 = 0 ∧ i < (numG l i acc).2.1 ∧ (numG l i acc).2.1 ≤ i + l.length
  | [], i, acc => .inl ⟨by simp [numG], rfl, rfl⟩
  | c :: r, i, acc => by
    rw [numG]
    split
    · exact .inl ⟨by simp, rfl, rfl⟩
    · split
      · exact .inr ⟨rfl, by simp, by simp⟩
      · rcases numG_size r (i + 1) (acc + c.toNat % 128 * 128 ^ i) with h | ⟨h1, h2, h3⟩
        · exact .inl h
        · exact .inr ⟨h1, by omega, by simp; omega⟩

theorem numG_lt : ∀ (l : List UInt8) (i acc : Nat), i ≤ 9 → acc < 128 ^ i → (numG l i acc).1 < 18446744073709551616 ∧ (numG l i acc).2.1 ≤ 10
  | [], i, acc, _, _ => by simp [numG]
  | c :: r, i, acc, hi, hacc => by
    rw [numG]
    split
    · simp
    · rename_i hE
      split
      · rename_i hD
        exact ⟨step_lt acc c.toNat i hacc hi (by omega), by simp; omega⟩
      · rename_i hD
        exact numG_lt r (i + 1) _ (by omega) (next_lt acc c.toNat i hacc)

theorem numL_size (l : List UInt8) : (numL l).2.1 ≤ l.length := by
  rcases numG_size l 0 0 with ⟨_, h, _⟩ | ⟨_, _, h⟩
  · unfold numL; rw [h]; exact Nat.zero_le _
  · unfold numL; omega
theorem numL_lt (l : List UInt8) : (numL l).1 < 18446744073709551616 := (numG_lt l 0 0 (by omega) (by decide)).1
theorem numL_zero (l : List UInt8) (h : (numL l).2.2 ≠ 0) : (numL l).1 = 0 ∧ (numL l).2.1 = 0 := by
  rcases numG_size l 0 0 with ⟨_, h1, h2⟩ | ⟨h1, _, _⟩
  · exact ⟨h2, h1⟩
  · exact absurd h1 h

def byteL (l : List UInt8) : Nat × Nat × Int := match l with | [] => (0, 0, 20) | c :: _ => (c.toNat, 1, 0)

end Go.Proofs.YtpbfglpjhmhneaaDoor



/- What is read at the beginning of some bytes: a text, some bytes. -/
namespace Go.Proofs.YtpbfglpjhmhneaaDoor
open Go.RowKit Go.PlainAid Go.Lib

def rawL (l : List UInt8) (n : Int) : List UInt8 × Nat × Int := if n < 0 then ([], 0, 2) else if (l.length : Int) < n then ([], 0, 20) else (l.take n.toNat, n.toNat, 0)

theorem rawL_size (l : List UInt8) (n : Int) : (rawL l n).2.1 ≤ l.length := by
  unfold rawL
  split
  · simp
  · split
    · simp
    · simp; omega

theorem Bs.take {w : World} {ao : Option Addr} {l : List UInt8} {cap : Nat} (n : Nat) (hn : n ≤ l.length) (h : Bs w (.slice ao l.length cap) l) : Bs w (.slice ao n cap) (l.take n) := by
  obtain ⟨ao', cap', he, h1, h2, h3, h4⟩ := h.ex
  simp at he
  obtain ⟨rfl, rfl⟩ := he
  have hl : (l.take n).length = n := by simp; omega
  refine ⟨ao, cap, by rw [hl], by omega, h2, h3, fun hne => ?_⟩
  obtain ⟨b, o, hao, hc⟩ := h4 (by intro hz; rw [hz] at hne; simp at hne)
  refine ⟨b, o, hao, fun j hj => ?_⟩
  rw [hl] at hj
  rw [hc j (by omega)]
  simp [List.getD_eq_getElem?_getD, hj]

/-- what firstRaw leaves: its own bytes -/
def RawP (w : World) (r : List UInt8) (x : Value) (w1 : World) : Prop := Row w1 x r ∧ Fresh w w1 x ∧ Sl x r.length

end Go.Proofs.YtpbfglpjhmhneaaDoor



/- What is read at the beginning of some bytes: a text of at most so many bytes. -/
namespace Go.Proofs.YtpbfglpjhmhneaaDoor
open Go.RowKit Go.PlainAid Go.Lib

theorem push_fold : ∀ (l : List UInt8) (s : ByteArray), (l.map fun x => ((x.toNat : Nat) : Int)).foldl (fun r n => r.push (UInt8.ofNat n.toNat)) s = ⟨s.data ++ l.toArray⟩
  | [], s => by simp
  | x :: r, s => by
    rw [List.map_cons, List.foldl_cons, push_fold r]
    have hx : UInt8.ofNat ((x.toNat : Nat) : Int).toNat = x := by simp
    rw [hx]
    congr 1
    apply Array.ext'
    simp [ByteArray.push]

theorem run_str {w : World} {v : Value} {l : List UInt8} (h : Bs w v l) : (convert 49 9 v).run Tryd.prog w = .ok (.string ⟨l.toArray⟩) w := by
  have key : ∀ (a : Addr) (cap : Nat), (∀ j u, (bv l)[j]? = some u → w.cell? (a.add j) = some u) → (convert 49 9 (.slice (some a) l.length cap)).run Tryd.prog w = .ok (.string ⟨l.toArray⟩) w := by
    intro a cap hc
    rw [run_convert_bytes_string w 49 9 5 _ _ _ underS Tryd.underlying5 Tryd.underlying9]
    have hld : (loadCells a l.length).run Tryd.prog w = .ok ((l.map fun x => ((x.toNat : Nat) : Int)).map (Value.int .u8)).toArray w := by
      have := run_loadCells_list (P := Tryd.prog) w a (bv l) hc
      rw [bv_length] at this
      rw [this]
      simp [bv, Function.comp_def]
    rw [run_bytesToString w a l.length cap _ hld, push_fold]
    simp
  rcases h.cases with ⟨rfl, ao, cap, rfl, _, _⟩ | ⟨_, b, o, cap, rfl, _, _, _, hc⟩
  · cases ao with
    | none =>
      rw [run_convert_bytes_string w 49 9 5 _ _ _ underS Tryd.underlying5 Tryd.underlying9]
      rfl
    | some a => exact key a cap (fun j u hj => by simp [bv] at hj)
  · refine key _ cap (fun j u hu => ?_)
    have hj : j < l.length := by
      have := (List.getElem?_eq_some_iff.1 hu).1
      simpa [bv_length] using this
    rw [bv_get l j hj] at hu
    have hadd : (⟨b, o, none⟩ : Addr).add j = ⟨b, o + j, none⟩ := by unfold Addr.add; split <;> simp_all
    rw [hadd, hc j hj, List.getD_eq_getElem?_getD, List.getElem?_eq_getElem hj]
    exact hu

def textL (l : List UInt8) (most : Int) : List UInt8 × Nat × Int :=
  if most < 0 then ([], 0, 2) else if (numL l).2.2 ≠ 0 then ([], 0, (numL l).2.2) else if most < ((numL l).1 : Nat) then ([], 0, 3)
  else if l.length - (numL l).2.1 < (numL l).1 then ([], 0, 20) else ((l.drop (numL l).2.1).take (numL l).1, (numL l).2.1 + (numL l).1, 0)

theorem textL_size (l : List UInt8) (most : Int) : (textL l most).2.1 ≤ l.length := by
  have := numL_size l
  unfold textL
  repeat' split
  all_goals simp
  omega

end Go.Proofs.YtpbfglpjhmhneaaDoor


