/- What is read at the beginning of some bytes: a text, some bytes. -/
import Derived.Test.YtclapbpkkaljgaaGreatDoorFirst2
namespace Go.Proofs.YtclapbpkkaljgaaGreatDoor
open Go.RowKit Go.PlainAid Go.Lib

def rawL (l : List UInt8) (n : Int) : List UInt8 × Nat × Int := if n < 0 then ([], 0, 2) else if (l.length : Int) < n then ([], 0, 20) else (l.take n.toNat, n.toNat, 0)

theorem rawL_size (l : List UInt8) (n : Int) : (rawL l n).2.1 ≤ l.length := by
  unfold rawL
  split
  · simp
  · split
    · simp
    · simp; omega

theorem Bs.take {w : World} {ao : Option Addr} {l : List UInt8} {cap : Nat} (n : Nat) (hn : n ≤ l.length) (h : Bs w (.slice ao l.length cap) l) : Bs w (.slice ao n cap) (l.take n) := by
  obtain ⟨ao', cap', he, h1, h2, h3, h4⟩ := h.ex
  simp at he
  obtain ⟨rfl, rfl⟩ := he
  have hl : (l.take n).length = n := by simp; omega
  refine ⟨ao, cap, by rw [hl], by omega, h2, h3, fun hne => ?_⟩
  obtain ⟨b, o, hao, hc⟩ := h4 (by intro hz; rw [hz] at hne; simp at hne)
  refine ⟨b, o, hao, fun j hj => ?_⟩
  rw [hl] at hj
  rw [hc j (by omega)]
  simp [List.getD_eq_getElem?_getD, hj]

/-- what firstRaw leaves: its own bytes -/
def RawP (w : World) (r : List UInt8) (x : Value) (w1 : World) : Prop := Row w1 x r ∧ Fresh w w1 x ∧ Sl x r.length

end Go.Proofs.YtclapbpkkaljgaaGreatDoor


