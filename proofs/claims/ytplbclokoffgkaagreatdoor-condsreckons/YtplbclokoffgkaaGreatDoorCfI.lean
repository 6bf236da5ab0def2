/- Conditions: an argument is found; what is known of a parameter. -/
import Derived.Test.YtplbclokoffgkaaGreatDoorCfH
namespace Go.Proofs.YtplbclokoffgkaaGreatDoor
open Go.RowKit Go.PlainAid Go.Shelf

abbrev AgD.val (a : AgD) : Value := .agg #[.string a.nm, .int .i64 2, .bool false, .int .i64 a.vi, .float .f32 0, .string ⟨#[]⟩, .slice none 0 0]
set_option maxHeartbeats 1600000 in
theorem argCmp_any (a : AgD) (s : ByteArray) (w : World) : Calls Tryz.prog 70 #[a.val, .string s] w fun e w' => e = .returned (.int .i64 (cmpT a.nm.toList s.toList)) ∧ Keep [] w w' := by
  have hS := fun w1 => strCmp_any a.nm s w1
  go_enter Tryz.func70, Tryz.ntmps70
  go_wp2_with fail
  refine (hS _).mono ?_
  rintro e w5 ⟨rfl, hw5⟩
  obtain rfl := hw5.symm
  clear hw5
  go_wp2
  go_ret
  exact ⟨rfl, Keep.alloc1 _ _⟩

/-- the name s stands at p among the arguments, which rise -/
structure At (l : List AgD) (s : ByteArray) (p : Nat) : Prop where
  lt : p < l.length
  len : l.length ≤ 2
  lo : ∀ h (hh : h < l.length), h < p → cmpT l[h].nm.toList s.toList < 0
  eq : cmpT l[p].nm.toList s.toList = 0
  hi : ∀ h (hh : h < l.length), p < h → 0 < cmpT l[h].nm.toList s.toList

set_option maxRecDepth 1000000 in
set_option maxHeartbeats 6400000 in
theorem search_any (l : List AgD) (s : ByteArray) (p : Nat) (v : Value) (w : World) (hv : Ar w v l) (hA : At l s p) :
    Calls Tryz.prog 69 #[v, .string s, .func (.func 70) #[] #[]] w fun e w' => e = .returned (.tuple #[.int .i64 (p : Int), .bool true]) ∧ Keep [] w w' := by
  obtain ⟨b, o, cap, rfl, -⟩ := hv.ex
  have HV : Hid (Ar w (.slice (some ⟨b, o, none⟩) l.length cap) l) := hv
  have HA : Hid (At l s p) := hA
  have HX : Hid (∀ i (hi : i < l.length) (w1 : World), Keep [] w w1 → w1.cell? ⟨b, o + i * 7, none⟩ = some (.string l[i].nm) ∧ w1.cell? ⟨b, o + i * 7 + 1, none⟩ = some (.int .i64 2) ∧ w1.cell? ⟨b, o + i * 7 + 2, none⟩ = some (.bool false) ∧ w1.cell? ⟨b, o + i * 7 + 3, none⟩ = some (.int .i64 l[i].vi) ∧
      w1.cell? ⟨b, o + i * 7 + 4, none⟩ = some (.float .f32 0) ∧ w1.cell? ⟨b, o + i * 7 + 5, none⟩ = some (.string ⟨#[]⟩) ∧ w1.cell? ⟨b, o + i * 7 + 6, none⟩ = some (.slice none 0 0)) := fun i hi w1 k => by
    obtain ⟨b', o', cap', he, hc⟩ := (HV.out.keep0 k).ex
    simp at he
    obtain ⟨⟨rfl, rfl⟩, rfl⟩ := he
    exact hc i hi
  have h1 := hA.lt
  have h2 := hA.len
  clear hv hA
  go_enter Tryz.func69, Tryz.ntmps69
  go_wp2
  go_loopw [9, 10] (fun iv jv wr => ∃ i j : Nat, iv = .int .i64 (i : Int) ∧ jv = .int .i64 (j : Int) ∧ i ≤ p ∧ p ≤ j ∧ j ≤ l.length ∧ Hid (Keep [] w wr)) (fun iv jv _ => ((intOf jv) - (intOf iv)).toNat)
  case atStart => exact ⟨0, l.length, rfl, rfl, Nat.zero_le _, by omega, Nat.le_refl _, Keep.refl _ _⟩
  case round =>
    obtain ⟨i, j, rfl, rfl, hi, hj, hjn, HK⟩ := hrel
    have step : ∀ (h : Nat) (hh : h < l.length) (w1 : World), Calls Tryz.prog 70 #[(l[h]).val, .string s] w1 fun e w' => e = .returned (.int .i64 (cmpT l[h].nm.toList s.toList)) ∧ Keep [] w1 w' := fun h hh w1 => argCmp_any _ s w1
    have HST : Hid (type_of% step) := step
    clear step
    by_cases hlt : i < j
    · have hcs : (i = 0 ∧ j = 1) ∨ (i = 0 ∧ j = 2) ∨ (i = 1 ∧ j = 2) := by omega
      rcases hcs with ⟨rfl, rfl⟩ | ⟨rfl, rfl⟩ | ⟨rfl, rfl⟩
      · obtain ⟨z0, z1, z2, z3, z4, z5, z6⟩ := HX.out 0 (by omega) wr HK.out
        have HS0 := fun w1 => HST.out 0 (by omega) w1
        have hcp : (0 < p → cmpT (l[0]'(by omega)).nm.toList s.toList < 0) ∧ (p ≤ 0 → ¬ cmpT (l[0]'(by omega)).nm.toList s.toList < 0) := ⟨fun h => HA.out.lo 0 (by omega) h, fun h => by
          by_cases hq : p = 0
          · have := HA.out.eq
            subst hq
            omega
          · have := HA.out.hi 0 (by omega) (by omega)
            omega⟩
        have hln : (0 : Int) < (l.length : Int) := by omega
        generalize l[0]'(by omega) = a at *
        obtain ⟨an, av⟩ := a
        simp only [Nat.zero_mul, Nat.add_zero] at z0 z1 z2 z3 z4 z5 z6 HS0 hcp
        generalize cmpT an.toList s.toList = c at *
        have HCp : Hid (type_of% hcp) := hcp
        clear HST hcp
        by_cases hp : 0 < p
        · have hc0 : c < 0 := HCp.out.1 hp
          go_wp2_with fail
          refine (HS0 _).mono ?_
          rintro e w5 ⟨rfl, k5⟩
          have HK5 : Hid (Keep [] w w5) := HK.out.trans' k5
          clear k5 HS0 z0 z1 z2 z3 z4 z5 z6
          go_wp2
          go_roundw
          case rel => exact ⟨1, 1, rfl, rfl, by omega, by omega, by omega, HK5.out⟩
          case measure => (simp [intOf]; try omega)
        · have hc0 : ¬ c < 0 := HCp.out.2 (by omega)
          go_wp2_with fail
          refine (HS0 _).mono ?_
          rintro e w5 ⟨rfl, k5⟩
          have HK5 : Hid (Keep [] w w5) := HK.out.trans' k5
          clear k5 HS0 z0 z1 z2 z3 z4 z5 z6
          go_wp2
          go_roundw
          case rel => exact ⟨0, 0, rfl, rfl, by omega, by omega, by omega, HK5.out⟩
          case measure => (simp [intOf]; try omega)
      · obtain ⟨z0, z1, z2, z3, z4, z5, z6⟩ := HX.out 1 (by omega) wr HK.out
        have HS0 := fun w1 => HST.out 1 (by omega) w1
        have hcp : (1 < p → cmpT (l[1]'(by omega)).nm.toList s.toList < 0) ∧ (p ≤ 1 → ¬ cmpT (l[1]'(by omega)).nm.toList s.toList < 0) := ⟨fun h => HA.out.lo 1 (by omega) h, fun h => by
          by_cases hq : p = 1
          · have := HA.out.eq
            subst hq
            omega
          · have := HA.out.hi 1 (by omega) (by omega)
            omega⟩
        have hln : (1 : Int) < (l.length : Int) := by omega
        generalize l[1]'(by omega) = a at *
        obtain ⟨an, av⟩ := a
        simp only [Nat.one_mul] at z0 z1 z2 z3 z4 z5 z6 HS0 hcp
        generalize cmpT an.toList s.toList = c at *
        have HCp : Hid (type_of% hcp) := hcp
        clear HST hcp
        by_cases hp : 1 < p
        · have hc0 : c < 0 := HCp.out.1 hp
          go_wp2_with fail
          refine (HS0 _).mono ?_
          rintro e w5 ⟨rfl, k5⟩
          have HK5 : Hid (Keep [] w w5) := HK.out.trans' k5
          clear k5 HS0 z0 z1 z2 z3 z4 z5 z6
          go_wp2
          go_roundw
          case rel => exact ⟨2, 2, rfl, rfl, by omega, by omega, by omega, HK5.out⟩
          case measure => (simp [intOf]; try omega)
        · have hc0 : ¬ c < 0 := HCp.out.2 (by omega)
          go_wp2_with fail
          refine (HS0 _).mono ?_
          rintro e w5 ⟨rfl, k5⟩
          have HK5 : Hid (Keep [] w w5) := HK.out.trans' k5
          clear k5 HS0 z0 z1 z2 z3 z4 z5 z6
          go_wp2
          go_roundw
          case rel => exact ⟨0, 1, rfl, rfl, by omega, by omega, by omega, HK5.out⟩
          case measure => (simp [intOf]; try omega)
      · obtain ⟨z0, z1, z2, z3, z4, z5, z6⟩ := HX.out 1 (by omega) wr HK.out
        have HS0 := fun w1 => HST.out 1 (by omega) w1
        have hcp : (1 < p → cmpT (l[1]'(by omega)).nm.toList s.toList < 0) ∧ (p ≤ 1 → ¬ cmpT (l[1]'(by omega)).nm.toList s.toList < 0) := ⟨fun h => HA.out.lo 1 (by omega) h, fun h => by
          by_cases hq : p = 1
          · have := HA.out.eq
            subst hq
            omega
          · have := HA.out.hi 1 (by omega) (by omega)
            omega⟩
        have hln : (1 : Int) < (l.length : Int) := by omega
        generalize l[1]'(by omega) = a at *
        obtain ⟨an, av⟩ := a
        simp only [Nat.one_mul] at z0 z1 z2 z3 z4 z5 z6 HS0 hcp
        generalize cmpT an.toList s.toList = c at *
        have HCp : Hid (type_of% hcp) := hcp
        clear HST hcp
        by_cases hp : 1 < p
        · have hc0 : c < 0 := HCp.out.1 hp
          go_wp2_with fail
          refine (HS0 _).mono ?_
          rintro e w5 ⟨rfl, k5⟩
          have HK5 : Hid (Keep [] w w5) := HK.out.trans' k5
          clear k5 HS0 z0 z1 z2 z3 z4 z5 z6
          go_wp2
          go_roundw
          case rel => exact ⟨2, 2, rfl, rfl, by omega, by omega, by omega, HK5.out⟩
          case measure => (simp [intOf]; try omega)
        · have hc0 : ¬ c < 0 := HCp.out.2 (by omega)
          go_wp2_with fail
          refine (HS0 _).mono ?_
          rintro e w5 ⟨rfl, k5⟩
          have HK5 : Hid (Keep [] w w5) := HK.out.trans' k5
          clear k5 HS0 z0 z1 z2 z3 z4 z5 z6
          go_wp2
          go_roundw
          case rel => exact ⟨1, 1, rfl, rfl, by omega, by omega, by omega, HK5.out⟩
          case measure => (simp [intOf]; try omega)
    · obtain rfl : i = j := by omega
      obtain rfl : i = p := by omega
      obtain ⟨z0, z1, z2, z3, z4, z5, z6⟩ := HX.out i (by omega) wr HK.out
      have HS0 := fun w1 => HST.out i (by omega) w1
      rw [HA.out.eq] at HS0
      have hli : (i : Int) < (l.length : Int) := by omega
      have hliN : i < l.length := by omega
      generalize l[i]'(by omega) = a at *
      obtain ⟨an, av⟩ := a
      simp only at z0 z3 HS0
      clear HST
      go_wp2_with fail
      refine (HS0 _).mono ?_
      rintro e w5 ⟨rfl, k5⟩
      have HK5 : Hid (Keep [] w w5) := HK.out.trans' k5
      clear k5 HS0 z0 z1 z2 z3 z4 z5 z6
      go_wp2
      go_ret2
      exact ⟨rfl, HK5.out⟩
end Go.Proofs.YtplbclokoffgkaaGreatDoor
