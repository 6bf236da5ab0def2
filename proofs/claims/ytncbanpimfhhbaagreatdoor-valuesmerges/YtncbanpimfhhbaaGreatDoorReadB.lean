/- The one generic read, at each of its types: behind an error nothing is read; else what the first function answers is answered, and so much is read. -/
import Derived.Test.YtncbanpimfhhbaaGreatDoorRdW
namespace Go.Proofs.YtncbanpimfhhbaaGreatDoor
open Go.RowKit Go.PlainAid Go.Lib

set_option maxRecDepth 1000000 in
set_option maxHeartbeats 3200000 in
theorem read65_err (b o : Nat) (l : List UInt8) (e : Int) (rb : Option Nat) (w : World) (hr : Rd w b o l e rb) (he : e ≠ 0) (g : Value) :
    Calls Tryz.prog 93 #[.pointer (some ⟨b, o, none⟩), g] w fun x w' => x = .returned (.float .f32 0) ∧ w' = w := by
  have hE := err_any b o l e rb w hr
  have he2 : (e != 0) = true := by simpa using he
  go_enter Tryz.func93, Tryz.ntmps93
  go_wp2_with (go_at_call 123; refine hE.mono ?_; rintro e9 w9 ⟨rfl, hw9⟩; obtain rfl := hw9.symm)
  go_ret
  exact ⟨rfl, rfl⟩

set_option maxRecDepth 1000000 in
set_option maxHeartbeats 3200000 in
theorem read65_none (w : World) (g : Value) : Calls Tryz.prog 93 #[.pointer none, g] w fun x w' => x = .returned (.float .f32 0) ∧ w' = w := by
  have hE := err_none w
  go_enter Tryz.func93, Tryz.ntmps93
  go_wp2_with (go_at_call 123; refine hE.mono ?_; rintro e9 w9 ⟨rfl, hw9⟩; obtain rfl := hw9.symm)
  go_ret
  exact ⟨rfl, rfl⟩

set_option maxRecDepth 1000000 in
set_option maxHeartbeats 3200000 in
theorem read65_any (b o : Nat) (l : List UInt8) (rb : Option Nat) (w : World) (hr : Rd w b o l 0 rb) (n : Nat) (er : Int) (hn : n ≤ l.length) (P : Value → World → Prop)
    (hF : ∀ v, Bs w v l → Calls Tryz.prog 94 #[v] w fun e w1 => ∃ x, e = .returned (.tuple #[x, .int .i64 (n : Int), .int .i64 er]) ∧ P x w1 ∧ Keep [] w w1) :
    Calls Tryz.prog 93 #[.pointer (some ⟨b, o, none⟩), .func (.func 94) #[] #[]] w fun e w' => ∃ x, e = .returned x ∧ ∃ w1, P x w1 ∧ Keep [] w w1 ∧ Keep [b] w1 w' ∧ Rd w' b o (l.drop n) er rb := by
  have hE := err_any b o l 0 rb w hr
  have h1 := hr.err
  have hb := hr.blt
  have h2 := hr.f0
  have h3 := hr.f1
  rcases hr.rest with ⟨hl, hrb, hrest⟩ | ⟨b2, o2, cap, hrb, hrest, hlc, hcap, hc⟩
  · have hn0 : n = 0 := by rw [hl] at hn; simpa using hn
    have hF1 := hF (.slice none 0 0) (by rw [hl]; exact Bs.nil w)
    have HV : Hid (l.drop n = [] ∧ rb = none) := ⟨by rw [hl]; simp, hrb⟩
    have HR : Hid (Rd w b o l 0 rb) := hr
    clear hF hl hr hrb
    subst hn0
    go_enter Tryz.func93, Tryz.ntmps93
    go_wp2_with (go_at_call 123; refine hE.mono ?_; rintro e9 w9 ⟨rfl, hw9⟩; obtain rfl := hw9.symm)
    refine hF1.mono ?_
    rintro e9 w9 ⟨x, rfl, hP, hk⟩
    have HP : Hid (P x w9) := hP
    have k1 := hk.cell' h1 (by simp)
    have k2 := hk.cell' hrest (by simp)
    have k3 := (hk.frozen (p := ⟨b, o, none⟩) hb (by simp)).trans h2
    have k4 := (hk.frozen (p := ⟨b, o + 1, none⟩) hb (by simp)).trans h3
    have HK : Hid (Keep [] w w9) := hk
    have HS := Rd.stored HR.out hk (l.drop 0) er (.slice none 0 0) (.inl ⟨HV.out.1, HV.out.2, rfl⟩)
    have HS2 : Hid (Rd ((w9.setCell ⟨b, o, none⟩ (.slice none 0 0)).setCell ⟨b, o + 1, none⟩ (.int .i64 er)) b o (l.drop 0) er rb ∧ Keep [b] w9 ((w9.setCell ⟨b, o, none⟩ (.slice none 0 0)).setCell ⟨b, o + 1, none⟩ (.int .i64 er))) := HS
    clear hP hk hF1 HS h1 h2 h3 hrest hE
    go_wp2
    go_ret
    exact ⟨x, rfl, w9, HP.out, HK.out, HS2.out.2, HS2.out.1⟩
  · have hF1 := hF (.slice (some ⟨b2, o2, none⟩) l.length cap) ⟨some ⟨b2, o2, none⟩, cap, rfl, hlc, by simpa [maxLen] using hcap, (by intro h; cases h), fun _ => ⟨b2, o2, rfl, hc⟩⟩
    have HC : Hid (∀ j, j < (l.drop n).length → w.cell? ⟨b2, o2 + n + j, none⟩ = some (.int .u8 (((l.drop n).getD j 0).toNat : Int))) := by
      intro j hj
      have hj2 : n + j < l.length := by simp at hj; omega
      have := hc (n + j) hj2
      rw [← Nat.add_assoc] at this
      rw [this]
      simp [List.getD_eq_getElem?_getD]
    have HR : Hid (Rd w b o l 0 rb) := hr
    have HL : Hid ((l.drop n).length = l.length - n) := by
      show (l.drop n).length = l.length - n
      simp
    have HB : Hid (rb = some b2) := hrb
    clear hF hr hc hrb
    go_enter Tryz.func93, Tryz.ntmps93
    go_wp2_with (go_at_call 123; refine hE.mono ?_; rintro e9 w9 ⟨rfl, hw9⟩; obtain rfl := hw9.symm)
    refine hF1.mono ?_
    rintro e9 w9 ⟨x, rfl, hP, hk⟩
    have HP : Hid (P x w9) := hP
    have k1 := hk.cell' h1 (by simp)
    have k2 := hk.cell' hrest (by simp)
    have k3 := (hk.frozen (p := ⟨b, o, none⟩) hb (by simp)).trans h2
    have k4 := (hk.frozen (p := ⟨b, o + 1, none⟩) hb (by simp)).trans h3
    have HK : Hid (Keep [] w w9) := hk
    clear hP hk hF1 h1 h2 h3 hrest hE
    go_wp2
    all_goals go_ret
    · have hnc : cap = n := by assumption
      have hz : l.drop n = [] := List.drop_eq_nil_of_le (by omega)
      have HS := Rd.stored HR.out HK.out (l.drop n) er (.slice (some ⟨b2, o2, none⟩) (l.length - n) 0) (.inr ⟨b2, o2, 0, HB.out, by rw [HL.out], by rw [hz]; simp, by omega, fun j hj => by rw [hz] at hj; simp at hj⟩)
      exact ⟨x, rfl, w9, HP.out, HK.out, HS.2, HS.1⟩
    · have HS := Rd.stored HR.out HK.out (l.drop n) er (.slice (some ⟨b2, o2 + n, none⟩) (l.length - n) (cap - n)) (.inr ⟨b2, o2 + n, cap - n, HB.out, by rw [HL.out], by rw [HL.out]; omega, by omega, HC.out⟩)
      exact ⟨x, rfl, w9, HP.out, HK.out, HS.2, HS.1⟩

set_option maxRecDepth 1000000 in
set_option maxHeartbeats 3200000 in
theorem read67_err (b o : Nat) (l : List UInt8) (e : Int) (rb : Option Nat) (w : World) (hr : Rd w b o l e rb) (he : e ≠ 0) (g : Value) :
    Calls Tryz.prog 95 #[.pointer (some ⟨b, o, none⟩), g] w fun x w' => x = .returned (.string ByteArray.empty) ∧ w' = w := by
  have hE := err_any b o l e rb w hr
  have he2 : (e != 0) = true := by simpa using he
  go_enter Tryz.func95, Tryz.ntmps95
  go_wp2_with (go_at_call 123; refine hE.mono ?_; rintro e9 w9 ⟨rfl, hw9⟩; obtain rfl := hw9.symm)
  go_ret
  exact ⟨rfl, rfl⟩

set_option maxRecDepth 1000000 in
set_option maxHeartbeats 3200000 in
theorem read67_none (w : World) (g : Value) : Calls Tryz.prog 95 #[.pointer none, g] w fun x w' => x = .returned (.string ByteArray.empty) ∧ w' = w := by
  have hE := err_none w
  go_enter Tryz.func95, Tryz.ntmps95
  go_wp2_with (go_at_call 123; refine hE.mono ?_; rintro e9 w9 ⟨rfl, hw9⟩; obtain rfl := hw9.symm)
  go_ret
  exact ⟨rfl, rfl⟩

set_option maxRecDepth 1000000 in
set_option maxHeartbeats 3200000 in
theorem read67_any (b o : Nat) (l : List UInt8) (rb : Option Nat) (w : World) (hr : Rd w b o l 0 rb) (pc : Value) (n : Nat) (er : Int) (hn : n ≤ l.length) (P : Value → World → Prop)
    (hF : ∀ v, Bs w v l → Calls Tryz.prog 96 #[v, pc] w fun e w1 => ∃ x, e = .returned (.tuple #[x, .int .i64 (n : Int), .int .i64 er]) ∧ P x w1 ∧ Keep [] w w1) :
    Calls Tryz.prog 95 #[.pointer (some ⟨b, o, none⟩), .func (.func 96) #[] #[pc]] w fun e w' => ∃ x, e = .returned x ∧ ∃ w1, P x w1 ∧ Keep [] w w1 ∧ Keep [b] w1 w' ∧ Rd w' b o (l.drop n) er rb := by
  have hE := err_any b o l 0 rb w hr
  have h1 := hr.err
  have hb := hr.blt
  have h2 := hr.f0
  have h3 := hr.f1
  rcases hr.rest with ⟨hl, hrb, hrest⟩ | ⟨b2, o2, cap, hrb, hrest, hlc, hcap, hc⟩
  · have hn0 : n = 0 := by rw [hl] at hn; simpa using hn
    have hF1 := hF (.slice none 0 0) (by rw [hl]; exact Bs.nil w)
    have HV : Hid (l.drop n = [] ∧ rb = none) := ⟨by rw [hl]; simp, hrb⟩
    have HR : Hid (Rd w b o l 0 rb) := hr
    clear hF hl hr hrb
    subst hn0
    go_enter Tryz.func95, Tryz.ntmps95
    go_wp2_with (go_at_call 123; refine hE.mono ?_; rintro e9 w9 ⟨rfl, hw9⟩; obtain rfl := hw9.symm)
    refine hF1.mono ?_
    rintro e9 w9 ⟨x, rfl, hP, hk⟩
    have HP : Hid (P x w9) := hP
    have k1 := hk.cell' h1 (by simp)
    have k2 := hk.cell' hrest (by simp)
    have k3 := (hk.frozen (p := ⟨b, o, none⟩) hb (by simp)).trans h2
    have k4 := (hk.frozen (p := ⟨b, o + 1, none⟩) hb (by simp)).trans h3
    have HK : Hid (Keep [] w w9) := hk
    have HS := Rd.stored HR.out hk (l.drop 0) er (.slice none 0 0) (.inl ⟨HV.out.1, HV.out.2, rfl⟩)
    have HS2 : Hid (Rd ((w9.setCell ⟨b, o, none⟩ (.slice none 0 0)).setCell ⟨b, o + 1, none⟩ (.int .i64 er)) b o (l.drop 0) er rb ∧ Keep [b] w9 ((w9.setCell ⟨b, o, none⟩ (.slice none 0 0)).setCell ⟨b, o + 1, none⟩ (.int .i64 er))) := HS
    clear hP hk hF1 HS h1 h2 h3 hrest hE
    go_wp2
    go_ret
    exact ⟨x, rfl, w9, HP.out, HK.out, HS2.out.2, HS2.out.1⟩
  · have hF1 := hF (.slice (some ⟨b2, o2, none⟩) l.length cap) ⟨some ⟨b2, o2, none⟩, cap, rfl, hlc, by simpa [maxLen] using hcap, (by intro h; cases h), fun _ => ⟨b2, o2, rfl, hc⟩⟩
    have HC : Hid (∀ j, j < (l.drop n).length → w.cell? ⟨b2, o2 + n + j, none⟩ = some (.int .u8 (((l.drop n).getD j 0).toNat : Int))) := by
      intro j hj
      have hj2 : n + j < l.length := by simp at hj; omega
      have := hc (n + j) hj2
      rw [← Nat.add_assoc] at this
      rw [this]
      simp [List.getD_eq_getElem?_getD]
    have HR : Hid (Rd w b o l 0 rb) := hr
    have HL : Hid ((l.drop n).length = l.length - n) := by
      show (l.drop n).length = l.length - n
      simp
    have HB : Hid (rb = some b2) := hrb
    clear hF hr hc hrb
    go_enter Tryz.func95, Tryz.ntmps95
    go_wp2_with (go_at_call 123; refine hE.mono ?_; rintro e9 w9 ⟨rfl, hw9⟩; obtain rfl := hw9.symm)
    refine hF1.mono ?_
    rintro e9 w9 ⟨x, rfl, hP, hk⟩
    have HP : Hid (P x w9) := hP
    have k1 := hk.cell' h1 (by simp)
    have k2 := hk.cell' hrest (by simp)
    have k3 := (hk.frozen (p := ⟨b, o, none⟩) hb (by simp)).trans h2
    have k4 := (hk.frozen (p := ⟨b, o + 1, none⟩) hb (by simp)).trans h3
    have HK : Hid (Keep [] w w9) := hk
    clear hP hk hF1 h1 h2 h3 hrest hE
    go_wp2
    all_goals go_ret
    · have hnc : cap = n := by assumption
      have hz : l.drop n = [] := List.drop_eq_nil_of_le (by omega)
      have HS := Rd.stored HR.out HK.out (l.drop n) er (.slice (some ⟨b2, o2, none⟩) (l.length - n) 0) (.inr ⟨b2, o2, 0, HB.out, by rw [HL.out], by rw [hz]; simp, by omega, fun j hj => by rw [hz] at hj; simp at hj⟩)
      exact ⟨x, rfl, w9, HP.out, HK.out, HS.2, HS.1⟩
    · have HS := Rd.stored HR.out HK.out (l.drop n) er (.slice (some ⟨b2, o2 + n, none⟩) (l.length - n) (cap - n)) (.inr ⟨b2, o2 + n, cap - n, HB.out, by rw [HL.out], by rw [HL.out]; omega, by omega, HC.out⟩)
      exact ⟨x, rfl, w9, HP.out, HK.out, HS.2, HS.1⟩

end Go.Proofs.YtncbanpimfhhbaaGreatDoor


