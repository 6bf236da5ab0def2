/- The document's Merge; the walk of ValuesArgs. -/
import Derived.Test.YtpbfglpjhmhneaaDoorMgE
import Derived.Test.YtpbfglpjhmhneaaDoorLgD
namespace Go.Proofs.YtpbfglpjhmhneaaDoor
open Go.RowKit Go.PlainAid

theorem Words.keep0 {w w' : World} (h : Words w) (k : Keep [] w w') : Words w' := h.below k.below

set_option maxRecDepth 1000000 in
theorem rMerge_no (u v : Value) (own ctx : List AD) (w : World) (hW : Words w) (hu : As w u own) (hv : As w v ctx) (h : ¬ (argsZ own = 0 ∧ argsZ ctx = 0)) :
    Calls Tryd.prog 8 #[u, v] w fun e w' => e = .returned (.tuple #[.slice none 0 0, .int .i64 41]) ∧ Keep [] w w' := by
  have h1 := fun w1 (k : Keep [] w w1) => rArgs_any u own w1 (hu.keep0 k) (hW.keep0 k)
  have h2 := fun w1 (k : Keep [] w w1) => rArgs_any v ctx w1 (hv.keep0 k) (hW.keep0 k)
  obtain ⟨ao, ca, rfl, -⟩ := hu.ex
  obtain ⟨bo, cb, rfl, -⟩ := hv.ex
  clear hu hv hW
  rcases argsZ_or own with e1 | e1
  · rcases argsZ_or ctx with e2 | e2
    · exact absurd ⟨e1, e2⟩ h
    · rw [e1] at h1
      rw [e2] at h2
      clear e1 e2 h
      go_enter Tryd.func8, Tryd.ntmps8
      go_wp2_with fail
      refine (h1 _ (Keep.refl _ _)).mono ?_
      rintro e9 w1 ⟨rfl, k1⟩
      have HK1 : Hid (Keep [] w w1) := k1
      clear k1 h1
      go_wp2_with fail
      refine (h2 _ HK1.out).mono ?_
      rintro e9 w2 ⟨rfl, k2⟩
      have HK2 : Hid (Keep [] w w2) := HK1.out.trans' k2
      clear k2 h2 HK1
      go_wp2
      go_ret2
      exact ⟨rfl, HK2.out⟩
  · rw [e1] at h1
    clear e1 h
    go_enter Tryd.func8, Tryd.ntmps8
    go_wp2_with fail
    refine (h1 _ (Keep.refl _ _)).mono ?_
    rintro e9 w1 ⟨rfl, k1⟩
    have HK1 : Hid (Keep [] w w1) := k1
    clear k1 h1
    go_wp2
    go_ret2
    exact ⟨rfl, HK1.out⟩

set_option maxRecDepth 1000000 in
theorem rMerge_yes (u v : Value) (own ctx : List AD) (w : World) (hW : Words w) (hu : As w u own) (hv : As w v ctx) (e1 : argsZ own = 0) (e2 : argsZ ctx = 0) (hsz : ∀ x ∈ ctx, x.nm.size ≤ 9223372036854775807) :
    Calls Tryd.prog 8 #[u, v] w fun e w' => ∃ z, e = .returned (.tuple #[z, .int .i64 0]) ∧ As w' z (laidL own ctx) ∧ Keep [] w w' := by
  have h1 := fun w1 (k : Keep [] w w1) => rArgs_any u own w1 (hu.keep0 k) (hW.keep0 k)
  have h2 := fun w1 (k : Keep [] w w1) => rArgs_any v ctx w1 (hv.keep0 k) (hW.keep0 k)
  have h3 := fun w1 (k : Keep [] w w1) => rLaid_any u v own ctx w1 (hu.keep0 k) (hv.keep0 k) (argsZ_is e1).1 (argsZ_is e2).1 hsz
  obtain ⟨ao, ca, rfl, -⟩ := hu.ex
  obtain ⟨bo, cb, rfl, -⟩ := hv.ex
  clear hu hv hW hsz
  rw [e1] at h1
  rw [e2] at h2
  clear e1 e2
  go_enter Tryd.func8, Tryd.ntmps8
  go_wp2_with fail
  refine (h1 _ (Keep.refl _ _)).mono ?_
  rintro e9 w1 ⟨rfl, k1⟩
  have HK1 : Hid (Keep [] w w1) := k1
  clear k1 h1
  go_wp2_with fail
  refine (h2 _ HK1.out).mono ?_
  rintro e9 w2 ⟨rfl, k2⟩
  have HK2 : Hid (Keep [] w w2) := HK1.out.trans' k2
  clear k2 h2 HK1
  go_wp2_with fail
  refine (h3 _ HK2.out).mono ?_
  rintro e9 w3 ⟨z, rfl, hz, k3⟩
  have HK3 : Hid (As w3 z (laidL own ctx) ∧ Keep [] w w3) := ⟨hz, HK2.out.trans' k3⟩
  clear k3 h3 HK2 hz
  go_wp2
  go_ret2
  exact ⟨z, rfl, HK3.out⟩

theorem nil_as {w : World} : As w (.slice none 0 0) [] := ⟨by simp, none, 0, rfl, by simp, by omega, fun h => absurd rfl h⟩
set_option maxRecDepth 1000000 in
set_option maxHeartbeats 6400000 in
theorem args_law_no (u v : Value) (own ctx : List AD) (w : World) (hW : Words w) (hu : As w u own) (hv : As w v ctx) (hl : own.length * 88 ≤ 140737488351232) (ht : ∀ x ∈ own, x.val.texts.length * 16 ≤ 140737488351232) (hl2 : ctx.length * 88 ≤ 140737488351232) (ht2 : ∀ x ∈ ctx, x.val.texts.length * 16 ≤ 140737488351232) (_hnm : ∀ x ∈ ctx, x.nm.size ≤ 9223372036854775807) (hno : ¬ (argsZ own = 0 ∧ argsZ ctx = 0)) :
    Calls Tryd.prog 3 #[u, v] w fun e w' => e = .returned (.bool true) ∧ Keep [] w w' := by
  have hL1 := fun w1 (k : Keep [] w w1) => lentArgs_any u own w1 (hu.keep0 k) hl ht
  have hL2 := fun w1 (k : Keep [] w w1) => lentArgs_any v ctx w1 (hv.keep0 k) hl2 ht2
  have hA := fun w1 lo g p (h : Lg w1 lo g p own) => args_any _ own w1 (h.as hu.ok)
  have hS := fun w1 lo g p lo2 g2 p2 (h1 : Lg w1 lo g p own) (h2 : Lg w1 lo2 g2 p2 ctx) => sameArgs_any _ _ own ctx w1 (h1.as hu.ok) (h2.as hv.ok)
  have hM := fun w1 lo g p lo2 g2 p2 (h1 : Lg w1 lo g p own) (h2 : Lg w1 lo2 g2 p2 ctx) => merge_no _ _ own ctx w1 (h1.as hu.ok) (h2.as hv.ok) hno
  have hM' := fun w1 (k : Keep [] w w1) => rMerge_no u v own ctx w1 (hW.keep0 k) (hu.keep0 k) (hv.keep0 k) hno
  have hA' := fun w1 (k : Keep [] w w1) => rArgs_any u own w1 (hu.keep0 k) (hW.keep0 k)
  have hS' := fun w1 (k : Keep [] w w1) => rSameArgs_any u v own ctx w1 (hu.keep0 k) (hv.keep0 k)
  have hK1 := fun w1 lo g p (k : Keep [] w w1) (h : Lg w1 lo g p own) => keptArgs_any lo g p u own w1 h (hu.keep0 k) hl ht
  have hK2 := fun w1 lo g p (k : Keep [] w w1) (h : Lg w1 lo g p ctx) => keptArgs_any lo g p v ctx w1 h (hv.keep0 k) hl2 ht2
  have hQ := fun w1 z z' l (h1 : As w1 z l) (h2 : As w1 z' l) => sameArgs_self z z' l w1 h1 h2
  obtain ⟨ao, ca, rfl, _, _, _⟩ := hu.ex
  obtain ⟨bo, cb, rfl, _, _, _⟩ := hv.ex
  clear hu hv hl ht hl2 ht2 hW hno
  generalize argsZ own = r at hA hA'
  generalize sameAL own ctx = s at hS hS'
  have hrr : (r != r) = false := by simp
  have hss : (s != s) = false := by simp
  go_enter Tryd.func3, Tryd.ntmps3
  go_wp2_with fail
  refine (hL1 _ (Keep.refl _ _)).mono ?_
  rintro e9 w1 ⟨g1, p1, rfl, lg, k9⟩
  have HK0 : Hid _ := k9
  have LA0 : Hid _ := lg
  clear k9 lg hL1
  go_wp2_with fail
  refine (hL2 _ HK0.out).mono ?_
  rintro e9 w2 ⟨g2, p2, rfl, lg, k9⟩
  have HK1 : Hid _ := HK0.out.trans' k9
  have LA1 : Hid _ := LA0.out.keep k9 (fun x hx => by cases hx)
  have LB1 : Hid _ := lg
  clear k9 lg hL2 HK0 LA0
  go_wp2_with fail
  refine (hA _ _ _ _ LA1.out).mono ?_
  rintro e9 w3 ⟨rfl, k9⟩
  have HK2 : Hid _ := HK1.out.trans' k9
  have LA2 : Hid _ := LA1.out.keep k9 (fun x hx => by cases hx)
  have LB2 : Hid _ := LB1.out.keep k9 (fun x hx => by cases hx)
  clear k9 HK1 LA1 LB1
  clear hA
  go_wp2_with fail
  refine (hS _ _ _ _ _ _ _ LA2.out LB2.out).mono ?_
  rintro e9 w4 ⟨rfl, k9⟩
  have HK3 : Hid _ := HK2.out.trans' k9
  have LA3 : Hid _ := LA2.out.keep k9 (fun x hx => by cases hx)
  have LB3 : Hid _ := LB2.out.keep k9 (fun x hx => by cases hx)
  clear k9 HK2 LA2 LB2
  clear hS
  go_wp2_with fail
  refine (hM _ _ _ _ _ _ _ LA3.out LB3.out).mono ?_
  rintro e9 w5 ⟨rfl, k9⟩
  have HK4 : Hid _ := HK3.out.trans' k9
  have LA4 : Hid _ := LA3.out.keep k9 (fun x hx => by cases hx)
  have LB4 : Hid _ := LB3.out.keep k9 (fun x hx => by cases hx)
  clear k9 HK3 LA3 LB3
  clear hM
  go_wp2_with fail
  refine (hM' _ HK4.out).mono ?_
  rintro e9 w6 ⟨rfl, k9⟩
  have HK5 : Hid _ := HK4.out.trans' k9
  have LA5 : Hid _ := LA4.out.keep k9 (fun x hx => by cases hx)
  have LB5 : Hid _ := LB4.out.keep k9 (fun x hx => by cases hx)
  clear k9 HK4 LA4 LB4
  clear hM'
  go_wp2_with fail
  refine (hA' _ HK5.out).mono ?_
  rintro e9 w7 ⟨rfl, k9⟩
  have HK6 : Hid _ := HK5.out.trans' k9
  have LA6 : Hid _ := LA5.out.keep k9 (fun x hx => by cases hx)
  have LB6 : Hid _ := LB5.out.keep k9 (fun x hx => by cases hx)
  clear k9 HK5 LA5 LB5
  clear hA'
  go_wp2_with fail
  refine (hS' _ HK6.out).mono ?_
  rintro e9 w8 ⟨rfl, k9⟩
  have HK7 : Hid _ := HK6.out.trans' k9
  have LA7 : Hid _ := LA6.out.keep k9 (fun x hx => by cases hx)
  have LB7 : Hid _ := LB6.out.keep k9 (fun x hx => by cases hx)
  clear k9 HK6 LA6 LB6
  clear hS'
  go_wp2_with fail
  refine (hQ _ _ _ _ (nil_as) (nil_as)).mono ?_
  rintro e9 w9 ⟨rfl, k9⟩
  have HK8 : Hid _ := HK7.out.trans' k9
  have LA8 : Hid _ := LA7.out.keep k9 (fun x hx => by cases hx)
  have LB8 : Hid _ := LB7.out.keep k9 (fun x hx => by cases hx)
  clear k9 HK7 LA7 LB7
  clear hQ
  go_wp2_with fail
  refine (hK1 _ _ _ _ HK8.out LA8.out).mono ?_
  rintro e9 w10 ⟨rfl, k9⟩
  have HK9 : Hid _ := HK8.out.trans' k9
  have LA9 : Hid _ := LA8.out.keep k9 (fun x hx => by cases hx)
  have LB9 : Hid _ := LB8.out.keep k9 (fun x hx => by cases hx)
  clear k9 HK8 LA8 LB8
  clear hK1
  go_wp2_with fail
  refine (hK2 _ _ _ _ HK9.out LB9.out).mono ?_
  rintro e9 w11 ⟨rfl, k9⟩
  have HK10 : Hid _ := HK9.out.trans' k9
  clear k9 HK9 LA9 LB9 hK2
  go_wp2
  go_ret
  exact ⟨rfl, HK10.out⟩

set_option maxRecDepth 1000000 in
set_option maxHeartbeats 6400000 in
theorem args_law_yes (u v : Value) (own ctx : List AD) (w : World) (hW : Words w) (hu : As w u own) (hv : As w v ctx) (hl : own.length * 88 ≤ 140737488351232) (ht : ∀ x ∈ own, x.val.texts.length * 16 ≤ 140737488351232) (hl2 : ctx.length * 88 ≤ 140737488351232) (ht2 : ∀ x ∈ ctx, x.val.texts.length * 16 ≤ 140737488351232) (hnm : ∀ x ∈ ctx, x.nm.size ≤ 9223372036854775807) (e1 : argsZ own = 0) (e2 : argsZ ctx = 0) :
    Calls Tryd.prog 3 #[u, v] w fun e w' => e = .returned (.bool true) ∧ Keep [] w w' := by
  have hL1 := fun w1 (k : Keep [] w w1) => lentArgs_any u own w1 (hu.keep0 k) hl ht
  have hL2 := fun w1 (k : Keep [] w w1) => lentArgs_any v ctx w1 (hv.keep0 k) hl2 ht2
  have hA := fun w1 lo g p (h : Lg w1 lo g p own) => args_any _ own w1 (h.as hu.ok)
  have hS := fun w1 lo g p lo2 g2 p2 (h1 : Lg w1 lo g p own) (h2 : Lg w1 lo2 g2 p2 ctx) => sameArgs_any _ _ own ctx w1 (h1.as hu.ok) (h2.as hv.ok)
  have hM := fun w1 lo g p lo2 g2 p2 (h1 : Lg w1 lo g p own) (h2 : Lg w1 lo2 g2 p2 ctx) => merge_yes _ _ own ctx w1 (h1.as hu.ok) (h2.as hv.ok) e1 e2 ht ht2
  have hM' := fun w1 (k : Keep [] w w1) => rMerge_yes u v own ctx w1 (hW.keep0 k) (hu.keep0 k) (hv.keep0 k) e1 e2 hnm
  have hA' := fun w1 (k : Keep [] w w1) => rArgs_any u own w1 (hu.keep0 k) (hW.keep0 k)
  have hS' := fun w1 (k : Keep [] w w1) => rSameArgs_any u v own ctx w1 (hu.keep0 k) (hv.keep0 k)
  have hK1 := fun w1 lo g p (k : Keep [] w w1) (h : Lg w1 lo g p own) => keptArgs_any lo g p u own w1 h (hu.keep0 k) hl ht
  have hK2 := fun w1 lo g p (k : Keep [] w w1) (h : Lg w1 lo g p ctx) => keptArgs_any lo g p v ctx w1 h (hv.keep0 k) hl2 ht2
  have hQ := fun w1 z z' l (h1 : As w1 z l) (h2 : As w1 z' l) => sameArgs_self z z' l w1 h1 h2
  obtain ⟨ao, ca, rfl, _, _, _⟩ := hu.ex
  obtain ⟨bo, cb, rfl, _, _, _⟩ := hv.ex
  clear hu hv hl ht hl2 ht2 hW hnm e1 e2
  generalize argsZ own = r at hA hA'
  generalize sameAL own ctx = s at hS hS'
  have hrr : (r != r) = false := by simp
  have hss : (s != s) = false := by simp
  go_enter Tryd.func3, Tryd.ntmps3
  go_wp2_with fail
  refine (hL1 _ (Keep.refl _ _)).mono ?_
  rintro e9 w1 ⟨g1, p1, rfl, lg, k9⟩
  have HK0 : Hid _ := k9
  have LA0 : Hid _ := lg
  clear k9 lg hL1
  go_wp2_with fail
  refine (hL2 _ HK0.out).mono ?_
  rintro e9 w2 ⟨g2, p2, rfl, lg, k9⟩
  have HK1 : Hid _ := HK0.out.trans' k9
  have LA1 : Hid _ := LA0.out.keep k9 (fun x hx => by cases hx)
  have LB1 : Hid _ := lg
  clear k9 lg hL2 HK0 LA0
  go_wp2_with fail
  refine (hA _ _ _ _ LA1.out).mono ?_
  rintro e9 w3 ⟨rfl, k9⟩
  have HK2 : Hid _ := HK1.out.trans' k9
  have LA2 : Hid _ := LA1.out.keep k9 (fun x hx => by cases hx)
  have LB2 : Hid _ := LB1.out.keep k9 (fun x hx => by cases hx)
  clear k9 HK1 LA1 LB1
  clear hA
  go_wp2_with fail
  refine (hS _ _ _ _ _ _ _ LA2.out LB2.out).mono ?_
  rintro e9 w4 ⟨rfl, k9⟩
  have HK3 : Hid _ := HK2.out.trans' k9
  have LA3 : Hid _ := LA2.out.keep k9 (fun x hx => by cases hx)
  have LB3 : Hid _ := LB2.out.keep k9 (fun x hx => by cases hx)
  clear k9 HK2 LA2 LB2
  clear hS
  go_wp2_with fail
  refine (hM _ _ _ _ _ _ _ LA3.out LB3.out).mono ?_
  rintro e9 w5 ⟨z1, rfl, az1, k9⟩
  have HK4 : Hid _ := HK3.out.trans' k9
  have LA4 : Hid _ := LA3.out.keep k9 (fun x hx => by cases hx)
  have LB4 : Hid _ := LB3.out.keep k9 (fun x hx => by cases hx)
  have AZ4 : Hid _ := az1
  clear az1
  clear k9 HK3 LA3 LB3
  clear hM
  go_wp2_with fail
  refine (hM' _ HK4.out).mono ?_
  rintro e9 w6 ⟨z2, rfl, az2, k9⟩
  have HK5 : Hid _ := HK4.out.trans' k9
  have LA5 : Hid _ := LA4.out.keep k9 (fun x hx => by cases hx)
  have LB5 : Hid _ := LB4.out.keep k9 (fun x hx => by cases hx)
  have AZ5 : Hid _ := AZ4.out.keep0 k9
  have BZ5 : Hid _ := az2
  clear az2 AZ4
  clear k9 HK4 LA4 LB4
  clear hM'
  go_wp2_with fail
  refine (hA' _ HK5.out).mono ?_
  rintro e9 w7 ⟨rfl, k9⟩
  have HK6 : Hid _ := HK5.out.trans' k9
  have LA6 : Hid _ := LA5.out.keep k9 (fun x hx => by cases hx)
  have LB6 : Hid _ := LB5.out.keep k9 (fun x hx => by cases hx)
  have AZ6 : Hid _ := AZ5.out.keep0 k9
  have BZ6 : Hid _ := BZ5.out.keep0 k9
  clear AZ5 BZ5
  clear k9 HK5 LA5 LB5
  clear hA'
  go_wp2_with fail
  refine (hS' _ HK6.out).mono ?_
  rintro e9 w8 ⟨rfl, k9⟩
  have HK7 : Hid _ := HK6.out.trans' k9
  have LA7 : Hid _ := LA6.out.keep k9 (fun x hx => by cases hx)
  have LB7 : Hid _ := LB6.out.keep k9 (fun x hx => by cases hx)
  have AZ7 : Hid _ := AZ6.out.keep0 k9
  have BZ7 : Hid _ := BZ6.out.keep0 k9
  clear AZ6 BZ6
  clear k9 HK6 LA6 LB6
  clear hS'
  go_wp2_with fail
  refine (hQ _ _ _ _ (AZ7.out) (BZ7.out)).mono ?_
  rintro e9 w9 ⟨rfl, k9⟩
  have HK8 : Hid _ := HK7.out.trans' k9
  have LA8 : Hid _ := LA7.out.keep k9 (fun x hx => by cases hx)
  have LB8 : Hid _ := LB7.out.keep k9 (fun x hx => by cases hx)
  clear k9 HK7 LA7 LB7
  clear hQ
  go_wp2_with fail
  refine (hK1 _ _ _ _ HK8.out LA8.out).mono ?_
  rintro e9 w10 ⟨rfl, k9⟩
  have HK9 : Hid _ := HK8.out.trans' k9
  have LA9 : Hid _ := LA8.out.keep k9 (fun x hx => by cases hx)
  have LB9 : Hid _ := LB8.out.keep k9 (fun x hx => by cases hx)
  clear k9 HK8 LA8 LB8
  clear hK1
  go_wp2_with fail
  refine (hK2 _ _ _ _ HK9.out LB9.out).mono ?_
  rintro e9 w11 ⟨rfl, k9⟩
  have HK10 : Hid _ := HK9.out.trans' k9
  clear k9 HK9 LA9 LB9 hK2
  go_wp2
  go_ret
  exact ⟨rfl, HK10.out⟩

theorem args_law (u v : Value) (own ctx : List AD) (w : World) (hW : Words w) (hu : As w u own) (hv : As w v ctx) (hl : own.length * 88 ≤ 140737488351232) (ht : ∀ x ∈ own, x.val.texts.length * 16 ≤ 140737488351232) (hl2 : ctx.length * 88 ≤ 140737488351232) (ht2 : ∀ x ∈ ctx, x.val.texts.length * 16 ≤ 140737488351232) (hnm : ∀ x ∈ ctx, x.nm.size ≤ 9223372036854775807) :
    Calls Tryd.prog 3 #[u, v] w fun e w' => e = .returned (.bool true) ∧ Keep [] w w' := by
  by_cases h : argsZ own = 0 ∧ argsZ ctx = 0
  · exact args_law_yes u v own ctx w hW hu hv hl ht hl2 ht2 hnm h.1 h.2
  · exact args_law_no u v own ctx w hW hu hv hl ht hl2 ht2 hnm h
end Go.Proofs.YtpbfglpjhmhneaaDoor
