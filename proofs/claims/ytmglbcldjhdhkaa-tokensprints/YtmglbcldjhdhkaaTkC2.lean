/- alike: two lists that have the same kinds and texts. -/
import Derived.Test.YtmglbcldjhdhkaaTkC1
namespace Go.Proofs.Ytmglbcldjhdhkaa
open Go.RowKit Go.PlainAid

def sameKT (a b : List TokD) : Prop := a.map (fun t => (t.kind, t.text)) = b.map (fun t => (t.kind, t.text))
theorem sameKT.len {a b : List TokD} (h : sameKT a b) : a.length = b.length := by
  have := congrArg List.length h
  simpa using this
theorem sameKT.at {a b : List TokD} (h : sameKT a b) (i : Nat) (h1 : i < a.length) (h2 : i < b.length) : b[i].kind = a[i].kind ∧ b[i].text = a[i].text := by
  have e : (a.map (fun t => (t.kind, t.text)))[i]? = (b.map (fun t => (t.kind, t.text)))[i]? := by rw [h]
  rw [List.getElem?_map, List.getElem?_map, List.getElem?_eq_getElem h1, List.getElem?_eq_getElem h2] at e
  simp only [Option.map_some, Option.some.injEq, Prod.mk.injEq] at e
  exact ⟨e.1.symm, e.2.symm⟩

set_option maxRecDepth 1000000 in
set_option maxHeartbeats 1000000 in
theorem alike_yes (v1 v2 : Value) (a b : List TokD) (w : World) (ha : Ts4 w v1 a) (hb : Ts4 w v2 b) (hs : sameKT (aheadL a) (aheadL b)) :
    Calls Try.prog 22 #[v1, v2] w fun e w' => e = .returned (.bool true) ∧ Keep [] w w' := by
  have HS : Hid _ := hs
  have hA : Hid (Calls Try.prog 21 #[v1] w fun e w' => ∃ v', e = .returned v' ∧ Ts4 w v' (aheadL a) ∧ w' = w) := ahead_any v1 a w ha
  have hB : Hid (Calls Try.prog 21 #[v2] w fun e w' => ∃ v', e = .returned v' ∧ Ts4 w v' (aheadL b) ∧ w' = w) := ahead_any v2 b w hb
  clear hs ha hb
  generalize aheadL a = x at HS hA
  generalize aheadL b = y at HS hB
  go_enter Try.func22, Try.ntmps22
  go_wp2_with fail
  refine (hA.out).mono ?_
  rintro e w1 ⟨v3, rfl, T1, rfl⟩
  have HT1 : Hid _ := T1
  clear T1
  go_wp2_with fail
  refine (hB.out).mono ?_
  rintro e w2 ⟨v4, rfl, T2, rfl⟩
  have HT2 : Hid _ := T2
  clear T2 hA hB
  obtain ⟨a3, c3, rfl, q1, q2, -⟩ := HT1.out.ex
  obtain ⟨a4, c4, rfl, -⟩ := HT2.out.ex
  have hlen : y.length = x.length := (sameKT.len HS.out).symm
  have hx63 : x.length ≤ 9223372036854775807 := by omega
  rw [hlen]
  rw [hlen] at HT2
  clear q1 q2
  go_wp2
  go_loopw [5] (fun z wr => ∃ (k : Nat), z = .int .i64 (k : Int) ∧ k ≤ x.length ∧ Hid (Keep [] w2 wr)) (fun z _ => x.length - (intOf z).toNat)
  case atStart => exact ⟨0, rfl, Nat.zero_le _, Keep.refl _ _⟩
  case round =>
    obtain ⟨k, rfl, hk, hI⟩ := hrel
    by_cases hlt : k < x.length
    · have hlti : (k : Int) < (x.length : Int) := by omega
      have hlt2 : k < y.length := by omega
      obtain ⟨-, b1, o1, rfl, c0, c1, -, -⟩ := (HT1.out.keep hI.out (Off.nil _)).at k hlt
      obtain ⟨-, b2, o2, rfl, d0, d1, -, -⟩ := (HT2.out.keep hI.out (Off.nil _)).at k hlt2
      obtain ⟨e1, e2⟩ := sameKT.at HS.out k hlt hlt2
      rw [e1] at d0
      rw [e2] at d1
      clear e1 e2
      have hK : Hid (Keep [] w2 wr) := hI.out
      generalize x[k].kind = tk at c0 d0
      generalize x[k].text = tt at c1 d1
      clear hI
      go_wp2
      go_quiet (fail)
      go_wp2
      go_roundw
      case rel => exact ⟨k + 1, by go_num, by omega, by first | exact hK.out.drewN _ | exact hK.out.drew | exact hK.out⟩
      case measure => simp [intOf]; omega
    · have hlti : ¬ (k : Int) < (x.length : Int) := by omega
      have hK := hI.out
      go_wp2
      go_ret
      exact ⟨rfl, hK⟩
end Go.Proofs.Ytmglbcldjhdhkaa
