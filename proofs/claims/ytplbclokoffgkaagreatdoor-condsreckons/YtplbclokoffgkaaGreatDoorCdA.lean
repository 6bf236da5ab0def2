/- Conditions: kinds and how many parts one is made of; a parameter's kind. -/
import Derived.Test.YtplbclokoffgkaaGreatDoorValW
namespace Go.Proofs.YtplbclokoffgkaaGreatDoor
open Go.RowKit Go.PlainAid

def kNum (k : Int) : Bool := decide (k = 2) || decide (k = 3)
def madeN (k : Int) : Int := if k = 1 ∨ k = 2 then 0 else if k = 3 ∨ k = 4 then 1 else 2
def numK (a b : Int) : Int := if kNum a = true ∧ kNum b = true then (if a = b then a else 3) else 0

theorem isNumber_any (k : Int) (w : World) : Calls Tryz.prog 89 #[.int .i64 k] w fun e w' => e = .returned (.bool (kNum k)) ∧ w' = w := by
  by_cases h2 : k = 2
  · subst h2
    go_enter Tryz.func89, Tryz.ntmps89
    go_wp2
    go_ret
    exact ⟨rfl, rfl⟩
  · by_cases h3 : k = 3
    · subst h3
      go_enter Tryz.func89, Tryz.ntmps89
      go_wp2
      go_ret
      exact ⟨rfl, rfl⟩
    · have e : kNum k = false := by unfold kNum; simp [h2, h3]
      rw [e]
      have hb2 : (k == 2) = false := by simpa using h2
      have hb3 : (k == 3) = false := by simpa using h3
      go_enter Tryz.func89, Tryz.ntmps89
      go_wp2
      go_ret
      exact ⟨rfl, rfl⟩
theorem boolIf_any (b : Bool) (w : World) : Calls Tryz.prog 63 #[.bool b] w fun e w' => e = .returned (.int .i64 (if b = true then 1 else 0)) ∧ w' = w := by
  cases b
  · go_enter Tryz.func63, Tryz.ntmps63
    go_wp2
    go_ret
    exact ⟨rfl, rfl⟩
  · go_enter Tryz.func63, Tryz.ntmps63
    go_wp2
    go_ret
    exact ⟨rfl, rfl⟩
theorem made_any (k : Int) (w : World) : Calls Tryz.prog 38 #[.int .i64 k] w fun e w' => e = .returned (.int .i64 (madeN k)) ∧ w' = w := by
  by_cases h1 : k = 1
  · subst h1
    go_enter Tryz.func38, Tryz.ntmps38
    go_wp2
    go_ret
    exact ⟨rfl, rfl⟩
  by_cases h2 : k = 2
  · subst h2
    go_enter Tryz.func38, Tryz.ntmps38
    go_wp2
    go_ret
    exact ⟨rfl, rfl⟩
  by_cases h3 : k = 3
  · subst h3
    go_enter Tryz.func38, Tryz.ntmps38
    go_wp2
    go_ret
    exact ⟨rfl, rfl⟩
  by_cases h4 : k = 4
  · subst h4
    go_enter Tryz.func38, Tryz.ntmps38
    go_wp2
    go_ret
    exact ⟨rfl, rfl⟩
  have e : madeN k = 2 := by unfold madeN; rw [if_neg (by omega), if_neg (by omega)]
  rw [e]
  clear e
  go_enter Tryz.func38, Tryz.ntmps38
  go_wp2
  go_ret
  exact ⟨rfl, rfl⟩
theorem numberKind_any (a b : Int) (w : World) : Calls Tryz.prog 62 #[.int .i64 a, .int .i64 b] w fun e w' => e = .returned (.int .i64 (numK a b)) ∧ w' = w := by
  have hA := fun w1 => isNumber_any a w1
  have hB := fun w1 => isNumber_any b w1
  cases ha : kNum a
  · have e : numK a b = 0 := by unfold numK; rw [if_neg (by simp [ha])]
    rw [e]
    rw [ha] at hA
    clear e ha hB
    go_enter Tryz.func62, Tryz.ntmps62
    go_wp2_with fail
    refine (hA _).mono ?_
    rintro e9 w9 ⟨rfl, hw9⟩
    obtain rfl := hw9.symm
    clear hw9
    go_wp2
    go_ret
    exact ⟨rfl, rfl⟩
  · rw [ha] at hA
    cases hb : kNum b
    · have e : numK a b = 0 := by unfold numK; rw [if_neg (by simp [hb])]
      rw [e]
      rw [hb] at hB
      clear e ha hb
      go_enter Tryz.func62, Tryz.ntmps62
      go_wp2_with fail
      refine (hA _).mono ?_
      rintro e9 w9 ⟨rfl, hw9⟩
      obtain rfl := hw9.symm
      clear hw9
      go_wp2_with fail
      refine (hB _).mono ?_
      rintro e9 w9 ⟨rfl, hw9⟩
      obtain rfl := hw9.symm
      clear hw9
      go_wp2
      go_ret
      exact ⟨rfl, rfl⟩
    · rw [hb] at hB
      by_cases hab : a = b
      · have e : numK a b = a := by unfold numK; rw [if_pos ⟨ha, hb⟩, if_pos hab]
        rw [e]
        clear e ha hb
        subst hab
        go_enter Tryz.func62, Tryz.ntmps62
        go_wp2_with fail
        refine (hA _).mono ?_
        rintro e9 w9 ⟨rfl, hw9⟩
        obtain rfl := hw9.symm
        clear hw9
        go_wp2_with fail
        refine (hB _).mono ?_
        rintro e9 w9 ⟨rfl, hw9⟩
        obtain rfl := hw9.symm
        clear hw9
        go_wp2
        go_ret
        exact ⟨rfl, rfl⟩
      · have e : numK a b = 3 := by unfold numK; rw [if_pos ⟨ha, hb⟩, if_neg hab]
        rw [e]
        clear e ha hb
        go_enter Tryz.func62, Tryz.ntmps62
        go_wp2_with fail
        refine (hA _).mono ?_
        rintro e9 w9 ⟨rfl, hw9⟩
        obtain rfl := hw9.symm
        clear hw9
        go_wp2_with fail
        refine (hB _).mono ?_
        rintro e9 w9 ⟨rfl, hw9⟩
        obtain rfl := hw9.symm
        clear hw9
        go_wp2
        go_ret
        exact ⟨rfl, rfl⟩

/-- a parameter; the slice v reads as the parameters l -/
structure PD where
  nm : ByteArray
  kind : Int
structure Pm (w : World) (v : Value) (l : List PD) : Prop where
  ex : ∃ ao cap, v = .slice ao l.length cap ∧ l.length ≤ cap ∧ cap ≤ 9223372036854775807 ∧ (l ≠ [] → ∃ b o, ao = some ⟨b, o, none⟩ ∧ ∀ i (h : i < l.length), w.cell? ⟨b, o + i * 2, none⟩ = some (.string l[i].nm) ∧ w.cell? ⟨b, o + i * 2 + 1, none⟩ = some (.int .i64 l[i].kind))
theorem Pm.keep0 {w w' : World} {v : Value} {l : List PD} (h : Pm w v l) (k : Keep [] w w') : Pm w' v l := by
  obtain ⟨ao, cap, rfl, h1, h2, h3⟩ := h.ex
  refine ⟨ao, cap, rfl, h1, h2, fun hl => ?_⟩
  obtain ⟨b, o, rfl, hc⟩ := h3 hl
  exact ⟨b, o, rfl, fun i hi => ⟨k.cell' (hc i hi).1 (by simp), k.cell' (hc i hi).2 (by simp)⟩⟩
def pKind : List PD → ByteArray → Int
  | [], _ => 0
  | p :: l, s => if (p.nm.toList == s.toList) = true then p.kind else pKind l s
theorem pKind_drop {l : List PD} {s : ByteArray} {k : Nat} (hk : k < l.length) : pKind (l.drop k) s = if (l[k].nm.toList == s.toList) = true then l[k].kind else pKind (l.drop (k + 1)) s := by
  rw [List.drop_eq_getElem_cons hk]
  rfl

set_option maxRecDepth 1000000 in
theorem paramKind_any (v : Value) (l : List PD) (s : ByteArray) (w : World) (hv : Pm w v l) : Calls Tryz.prog 11 #[v, .string s] w fun e w' => e = .returned (.int .i64 (pKind l s)) ∧ Keep [] w w' := by
  have HV : Hid (Pm w v l) := hv
  obtain ⟨R, HR⟩ : ∃ R, Hid (R = pKind l s) := ⟨_, show _ = _ from rfl⟩
  rw [← HR.out]
  obtain ⟨ao, ca, rfl, hl1, hl2, -⟩ := hv.ex
  clear hv
  go_enter Tryz.func11, Tryz.ntmps11
  go_wp2
  go_loopw [9] (fun iv wr => ∃ k : Nat, iv = .int .i64 (k : Int) ∧ k ≤ l.length ∧ Hid (Keep [] w wr ∧ R = pKind (l.drop k) s)) (fun iv _ => l.length - (intOf iv).toNat)
  case atStart => exact ⟨0, rfl, Nat.zero_le _, Keep.refl _ _, HR.out⟩
  case round =>
    obtain ⟨k, rfl, hk, HI⟩ := hrel
    by_cases hlt : k < l.length
    · have hlti : (k : Int) < (l.length : Int) := by omega
      obtain ⟨_, _, he, _, _, hne⟩ := (HV.out.keep0 HI.out.1).ex
      simp at he
      obtain ⟨rfl, rfl⟩ := he
      obtain ⟨b, o, rfl, hc⟩ := hne (by intro hz; rw [hz] at hlt; simp at hlt)
      obtain ⟨e0, e1⟩ := hc k hlt
      have hR := HI.out.2
      rw [pKind_drop hlt] at hR
      have HK : Hid (Keep [] w (wr.alloc (.cells #[.string l[k].nm, .int .i64 l[k].kind] 38))) := HI.out.1.alloc _
      clear hc hne HI
      cases hq : (l[k].nm.toList == s.toList)
      · rw [hq] at hR
        have HN : Hid (R = pKind (l.drop (k + 1)) s) := by show _ = _; simpa using hR
        clear hR
        generalize l[k] = x at e0 e1 hq HK
        go_wp2
        go_roundw
        case rel => exact ⟨k + 1, by go_num, by omega, HK.out, HN.out⟩
        case measure => simp [intOf]; omega
      · rw [hq] at hR
        have HN : Hid (R = l[k].kind) := by show _ = _; simpa using hR
        clear hR
        generalize l[k] = x at e0 e1 hq HK HN
        go_wp2
        go_ret
        exact ⟨by rw [HN.out]; rfl, HK.out⟩
    · have hlti : ¬ (k : Int) < (l.length : Int) := by omega
      have HN : Hid (R = 0 ∧ Keep [] w wr) := by
        obtain ⟨h1, h2⟩ := HI.out
        rw [List.drop_eq_nil_of_le (by omega)] at h2
        exact ⟨h2, h1⟩
      clear HI
      go_wp2
      go_ret
      exact ⟨by rw [HN.out.1]; rfl, HN.out.2⟩
end Go.Proofs.YtplbclokoffgkaaGreatDoor
