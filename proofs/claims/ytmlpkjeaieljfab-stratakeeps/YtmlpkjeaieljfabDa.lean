/- The document's Fault; SameInts. -/
import Derived.Test.YtmlpkjeaieljfabGh
namespace Go.Proofs.Ytmlpkjeaieljfab
open Go.RowKit Go.PlainAid

set_option maxRecDepth 1000000 in
set_option maxHeartbeats 1000000 in
theorem sameInts_any (u v : Value) (l m : List Int) (w : World) (hu : Rd encI 1 w u l) (hv : Rd encI 1 w v m) : Calls Try.prog 15 #[u, v] w fun e w' => e = .returned (.bool (decide (l = m))) ∧ Keep [] w w' := by
  obtain ⟨ao, cap, rfl, h1, h2⟩ := hu.form
  obtain ⟨bo, cbp, rfl, h3, h4⟩ := hv.form
  have hU : Hid (Rd encI 1 w (.slice ao l.length cap) l) := hu
  have hV : Hid (Rd encI 1 w (.slice bo m.length cbp) m) := hv
  clear hu hv
  by_cases hlm : l.length = m.length
  · have hq : ((l.length : Int) != (m.length : Int)) = false := by simp [hlm]
    have HLM : Hid (l.length = m.length) := hlm
    have HD : Hid ((∀ j (h1 : j < l.length) (h2 : j < m.length), l[j] = m[j]) → decide (l = m) = true) := fun h => decide_eq_true (List.ext_getElem hlm h)
    have HD2 : Hid (∀ j (h1 : j < l.length) (h2 : j < m.length), l[j] ≠ m[j] → decide (l = m) = false) := fun j h1 h2 h => decide_eq_false (fun e => h (by subst e; rfl))
    generalize decide (l = m) = dd at HD HD2 ⊢
    clear hlm
    go_enter Try.func15, Try.ntmps15
    go_wp2
    go_loopw [5] (fun iv wr => ∃ i : Nat, iv = .int .i64 (i : Int) ∧ i ≤ l.length ∧ Hid (Keep [] w wr ∧ ∀ j (h1 : j < l.length) (h2 : j < m.length), j < i → l[j] = m[j])) (fun iv _ => l.length - (intOf iv).toNat)
    case atStart => exact ⟨0, rfl, Nat.zero_le _, Keep.refl _ _, fun j _ _ hj => by omega⟩
    case round =>
      obtain ⟨i, rfl, hi, HI⟩ := hrel
      by_cases hlt : i < l.length
      · have hlti : (i : Int) < (l.length : Int) := by omega
        have hlt2 : i < m.length := by rw [← HLM.out]; exact hlt
        have hlti2 : (i : Int) < (m.length : Int) := by omega
        obtain ⟨b, o, c, he, hb, c0⟩ := (hU.out.keep HI.out.1 (Off.nil _)).int i hlt
        simp at he
        obtain ⟨rfl, rfl⟩ := he
        obtain ⟨b2, o2, c2, he, hb2, c1⟩ := (hV.out.keep HI.out.1 (Off.nil _)).int i hlt2
        simp at he
        obtain ⟨rfl, rfl⟩ := he
        have HX : Hid (l[i] ≠ m[i] → dd = false) := HD2.out i hlt hlt2
        have HY : Hid (l[i] = m[i] → ∀ j (h1 : j < l.length) (h2 : j < m.length), j < i + 1 → l[j] = m[j]) := fun h j h1 h2 hj => by
          by_cases e : j < i
          · exact HI.out.2 j h1 h2 e
          · obtain rfl : j = i := by omega
            exact h
        generalize l[i] = x at c0 HX HY
        generalize m[i] = y at c1 HX HY
        by_cases hxy : x = y
        · subst hxy
          go_wp2
          go_quiet (fail)
          go_wp2
          go_roundw
          case rel => exact ⟨i + 1, by go_num, by omega, HI.out.1.trans' ((Keep.refl [] wr).drewN _), HY.out (by first | rfl | trivial)⟩
          case measure => simp [intOf]; omega
        · have hq2 : (x == y) = false := by simpa using hxy
          have HZ : Hid (dd = false) := HX.out hxy
          clear HX HY hxy
          go_wp2
          go_quiet (fail)
          go_wp2
          go_ret
          exact ⟨by rw [HZ.out]; rfl, HI.out.1.trans' ((Keep.refl [] wr).drewN _)⟩
      · have hlti : ¬ (i : Int) < (l.length : Int) := by omega
        go_wp2
        go_ret
        exact ⟨by rw [HD.out (fun j h1 h2 => HI.out.2 j h1 h2 (by omega))]; rfl, HI.out.1⟩
  · have hq : ((l.length : Int) != (m.length : Int)) = true := by simp; omega
    rw [show decide (l = m) = false from decide_eq_false (fun e => hlm (by rw [e]))]
    go_enter Try.func15, Try.ntmps15
    go_wp2
    go_ret
    exact ⟨rfl, Keep.refl _ _⟩
end Go.Proofs.Ytmlpkjeaieljfab

