/- What is read at the beginning of some bytes: a text, some bytes. -/
import Derived.Test.YtcmembmaaebdeabFirst2
namespace Go.Proofs.Ytcmembmaaebdeab
open Go.RowKit Go.PlainAid Go.Lib

def rawL (l : List UInt8) (n : Int) : List UInt8 × Nat × Int := if n < 0 then ([], 0, 2) else if (l.length : Int) < n then ([], 0, 20) else (l.take n.toNat, n.toNat, 0)

theorem rawL_size (l : List UInt8) (n : Int) : (rawL l n).2.1 ≤ l.length := by
  unfold rawL
  split
  · simp
  · split
    · simp
    · simp; omega

theorem Bs.take {w : World} {ao : Option Addr} {l : List UInt8} {cap : Nat} (n : Nat) (hn : n ≤ l.length) (h : Bs w (.slice ao l.length cap) l) : Bs w (.slice ao n cap) (l.take n) := by
  obtain ⟨ao', cap', he, h1, h2, h3, h4⟩ := h.ex
  simp at he
  obtain ⟨rfl, rfl⟩ := he
  have hl : (l.take n).length = n := by simp; omega
  refine ⟨ao, cap, by rw [hl], by omega, h2, h3, fun hne => ?_⟩
  obtain ⟨b, o, hao, hc⟩ := h4 (by intro hz; rw [hz] at hne; simp at hne)
  refine ⟨b, o, hao, fun j hj => ?_⟩
  rw [hl] at hj
  rw [hc j (by omega)]
  simp [List.getD_eq_getElem?_getD, hj]

/-- what firstRaw leaves: its own bytes -/
def RawP (w : World) (r : List UInt8) (x : Value) (w1 : World) : Prop := Row w1 x r ∧ Fresh w w1 x ∧ Sl x r.length

set_option maxRecDepth 1000000 in
set_option maxHeartbeats 1600000 in
theorem firstRaw_any (v : Value) (l : List UInt8) (n : Int) (w : World) (hv : Bs w v l) (hn : l.length ≤ 140737488355328) :
    Calls Try.prog 40 #[v, .int .i64 n] w fun e w1 => ∃ x, e = .returned (.tuple #[x, .int .i64 ((rawL l n).2.1 : Nat), .int .i64 (rawL l n).2.2]) ∧ RawP w (rawL l n).1 x w1 ∧ Keep [] w w1 := by
  obtain ⟨ao, cap, rfl, h1, h2, h3, h4⟩ := hv.ex
  simp only [maxLen] at h2
  by_cases hn0 : n < 0
  · have hq : rawL l n = ([], 0, 2) := by unfold rawL; rw [if_pos hn0]
    rw [hq]
    clear hq h4 hv
    go_enter Try.func40, Try.ntmps40
    go_wp2
    refine bodyPost_ret (v := .tuple #[.slice none 0 0, .int .i64 0, .int .i64 2]) (by simp [results, Try.results40, go_sem]) rfl ⟨_, rfl, ⟨Row.nil w, Fresh.nil _ _, ⟨_, _, rfl⟩⟩, Keep.refl _ _⟩
  · by_cases hn1 : (l.length : Int) < n
    · have hq : rawL l n = ([], 0, 20) := by unfold rawL; rw [if_neg hn0, if_pos hn1]
      rw [hq]
      clear hq h4 hv
      go_enter Try.func40, Try.ntmps40
      go_wp2
      refine bodyPost_ret (v := .tuple #[.slice none 0 0, .int .i64 0, .int .i64 20]) (by simp [results, Try.results40, go_sem]) rfl ⟨_, rfl, ⟨Row.nil w, Fresh.nil _ _, ⟨_, _, rfl⟩⟩, Keep.refl _ _⟩
    · obtain ⟨m, rfl⟩ : ∃ m : Nat, n = (m : Int) := ⟨n.toNat, by omega⟩
      have hm : m ≤ l.length := by omega
      have hq : rawL l (m : Int) = (l.take m, m, 0) := by unfold rawL; rw [if_neg hn0, if_neg hn1]; simp
      have HT : Hid ((l.take m).length ≤ 140737488355328) := by
        show (l.take m).length ≤ 140737488355328
        simp; omega
      have hC := clone_any (.slice ao m cap) (l.take m) w (hv.take m hm) HT.out
      rw [hq]
      clear hq h4 hv
      go_enter Try.func40, Try.ntmps40
      go_wp2_with fail
      refine hC.mono ?_
      rintro e9 w9 ⟨x9, rfl, g1, g2, g3, g4⟩
      have HP : Hid (RawP w (l.take m) x9 w9) := ⟨g1, g2, g4⟩
      have HK : Hid (Keep [] w w9) := g3
      clear g1 g2 g3 g4 hC
      go_wp2
      refine bodyPost_ret (v := .tuple #[x9, .int .i64 (m : Int), .int .i64 0]) (by simp [results, Try.results40, go_sem]) rfl ⟨x9, rfl, HP.out, HK.out⟩

set_option maxRecDepth 1000000 in
set_option maxHeartbeats 1600000 in
theorem raw1_any (v : Value) (l : List UInt8) (n : Int) (g : Nat) (w : World) (hv : Bs w v l) (hn : l.length ≤ 140737488355328) (hg : w.cell? ⟨g, 0, none⟩ = some (.int .i64 n)) :
    Calls Try.prog 39 #[v, .pointer (some ⟨g, 0, none⟩)] w fun e w1 => ∃ x, e = .returned (.tuple #[x, .int .i64 ((rawL l n).2.1 : Nat), .int .i64 (rawL l n).2.2]) ∧ RawP w (rawL l n).1 x w1 ∧ Keep [] w w1 := by
  have hF := firstRaw_any v l n w hv hn
  generalize rawL l n = R at hF ⊢
  obtain ⟨r, m, er⟩ := R
  simp only at hF ⊢
  clear hn hv
  go_enter Try.func39, Try.ntmps39
  go_wp2_with fail
  refine hF.mono ?_
  rintro e9 w9 ⟨x, rfl, g1, g2⟩
  have HP : Hid (RawP w r x w9) := g1
  have HK : Hid (Keep [] w w9) := g2
  clear g1 g2 hF
  go_wp2
  refine bodyPost_ret (v := .tuple #[x, .int .i64 (m : Int), .int .i64 er]) (by simp [results, Try.results39, go_sem]) rfl ⟨x, rfl, HP.out, HK.out⟩

end Go.Proofs.Ytcmembmaaebdeab

