/- Escapes within a quoted text. -/
import Derived.Test.YtmglbcldjhdhkabTkQ
namespace Go.Proofs.Ytmglbcldjhdhkab
open Go.RowKit Go.PlainAid

theorem hex_no {c : Int} (h : hexI c < 0) : ¬ (48 ≤ c ∧ c ≤ 57) ∧ ¬ (97 ≤ c ∧ c ≤ 102) ∧ ¬ (65 ≤ c ∧ c ≤ 70) := by
  unfold hexI at h
  split at h
  · omega
  · split at h
    · omega
    · split at h
      · omega
      · omega
theorem hex_lt (c : Int) : hexI c < 16 := by
  unfold hexI
  repeat' split
  all_goals omega

set_option maxHeartbeats 1000000 in
theorem base16_no (b : Nat) (c : Int) (w : World) (hc : hexI c < 0) :
    Calls Try.prog 50 #[.pointer (some ⟨b, 0, none⟩), .int .i32 c] w fun e w' => e = .returned (.bool false) ∧ w' = w := by
  obtain ⟨h1, h2, h3⟩ := hex_no hc
  clear hc
  have a1 : (decide (48 ≤ c) && decide (c ≤ 57)) = false := by simpa using h1
  have a2 : (decide (97 ≤ c) && decide (c ≤ 102)) = false := by simpa using h2
  have a3 : (decide (65 ≤ c) && decide (c ≤ 70)) = false := by simpa using h3
  clear h1 h2 h3
  by_cases k1 : 48 ≤ c <;> by_cases k2 : 97 ≤ c <;> by_cases k3 : 65 ≤ c
  all_goals
    first
    | (exfalso; omega)
    | (simp only [k1, k2, k3, decide_true, decide_false, Bool.true_and, Bool.false_and, decide_eq_false_iff_not] at a1 a2 a3
       go_enter Try.func50, Try.ntmps50
       go_wp2
       go_ret
       exact ⟨rfl, rfl⟩)

set_option maxHeartbeats 1000000 in
theorem base16_hi (B b : Nat) (d : UInt8) (out : List UInt8) (v : Value) (c : Int) (w : World) (hb : b < B) (hu : Uq B w b 2 d out v) (hc : ¬ hexI c < 0) :
    Calls Try.prog 50 #[.pointer (some ⟨b, 0, none⟩), .int .i32 c] w fun e w' => e = .returned (.bool true) ∧ Uq B w' b 3 (hexI c).toNat.toUInt8 out v ∧ Kp B b w w' := by
  obtain ⟨c0, c1, c2, f0, f1, f2⟩ := box3 hu.box
  have HU : Hid (Uq B ((w.setCell ⟨b, 2, none⟩ (.int .u8 (((hexI c).toNat.toUInt8).toNat : Int))).setCell ⟨b, 0, none⟩ (.int .i64 3)) b 3 (hexI c).toNat.toUInt8 out v) := (hu.digit hb _).state hb 3
  have HK : Hid (Kp B b w ((w.setCell ⟨b, 2, none⟩ (.int .u8 (((hexI c).toNat.toUInt8).toNat : Int))).setCell ⟨b, 0, none⟩ (.int .i64 3))) := (Kp.set w ⟨b, 2, none⟩ _ rfl).trans (Kp.set _ ⟨b, 0, none⟩ _ rfl)
  have hh : (((hexI c).toNat.toUInt8).toNat : Int) = hexI c := by
    have := hex_lt c
    rw [Nat.toUInt8_eq, UInt8.toNat_ofNat']
    omega
  rw [hh] at HU HK
  clear hu hh
  have hc' : Hid (¬ hexI c < 0) := hc
  clear hc
  by_cases d1 : 48 ≤ c ∧ c ≤ 57
  · have he : hexI c = c - 48 := by simp [hexI, d1]
    rw [he] at HU HK
    rw [he]
    clear hc' he
    obtain ⟨a1, a2⟩ := d1
    go_enter Try.func50, Try.ntmps50
    go_wp2
    go_ret
    exact ⟨rfl, HU.out, HK.out⟩
  by_cases d2 : 97 ≤ c ∧ c ≤ 102
  · have he : hexI c = c - 97 + 10 := by unfold hexI; rw [if_neg d1, if_pos d2]; omega
    rw [he] at HU HK
    rw [he]
    clear hc' he
    obtain ⟨a1, a2⟩ := d2
    have a3 : ¬ c ≤ 57 := by omega
    have a4 : 48 ≤ c := by omega
    clear d1
    go_enter Try.func50, Try.ntmps50
    go_wp2
    go_ret
    exact ⟨rfl, HU.out, HK.out⟩
  have d3 : 65 ≤ c ∧ c ≤ 70 := by
    have := hc'.out
    unfold hexI at this
    rw [if_neg d1, if_neg d2] at this
    split at this
    · assumption
    · omega
  have he : hexI c = c - 65 + 10 := by unfold hexI; rw [if_neg d1, if_neg d2, if_pos d3]; omega
  rw [he] at HU HK
  rw [he]
  clear hc' he
  obtain ⟨a1, a2⟩ := d3
  have a3 : ¬ c ≤ 57 := by omega
  have a4 : 48 ≤ c := by omega
  have a5 : ¬ 97 ≤ c := by omega
  clear d1 d2
  go_enter Try.func50, Try.ntmps50
  go_wp2
  go_ret
  exact ⟨rfl, HU.out, HK.out⟩

theorem or_tab : ∀ a : Fin 256, ∀ z : Fin 16, bits .or .u8 (((UInt8.ofNat a.val).toNat : Int) * 16 % 256) (z.val : Int) = ((((UInt8.ofNat a.val) <<< 4) ||| z.val.toUInt8).toNat : Int) := by decide +kernel
theorem or_u8 (d : UInt8) (z : Int) (h0 : 0 ≤ z) (h1 : z < 16) : bits .or .u8 ((d.toNat : Int) * 16 % 256) z = (((d <<< 4) ||| z.toNat.toUInt8).toNat : Int) := by
  have := or_tab ⟨d.toNat, d.toNat_lt⟩ ⟨z.toNat, by omega⟩
  simp only [UInt8.ofNat_toNat] at this
  rw [← this]
  congr 1
  omega

set_option maxHeartbeats 1000000 in
theorem base16_lo (B b : Nat) (d : UInt8) (out : List UInt8) (v : Value) (c : Int) (w : World) (hb : b < B) (hB : B ≤ w.heap.size) (hu : Uq B w b 3 d out v) (hc : ¬ hexI c < 0) (hn : out.length + 1 ≤ 140737488355328) :
    Calls Try.prog 50 #[.pointer (some ⟨b, 0, none⟩), .int .i32 c] w fun e w' => e = .returned (.bool true) ∧ ∃ v', Uq B w' b 0 d (out ++ [(d <<< 4) ||| (hexI c).toNat.toUInt8]) v' ∧ Kp B b w w' := by
  obtain ⟨c0, c1, c2, f0, f1, f2⟩ := box3 hu.box
  have hc' : Hid (¬ hexI c < 0) := hc
  have HU : Hid _ := hu
  clear hc hu
  by_cases d1 : 48 ≤ c ∧ c ≤ 57
  · have he : hexI c = c - 48 := by simp [hexI, d1]
    rw [he]
    clear hc' he
    obtain ⟨a1, a2⟩ := d1
    go_enter Try.func50, Try.ntmps50
    go_wp2_with (go_at_call 51; rw [or_u8 d _ (by omega) (by omega)]; refine (mean_any B b 3 d _ out v w hb hB HU.out hn).mono ?_; rintro e w1 ⟨rfl, v', U1, K1⟩)
    go_ret
    exact ⟨rfl, v', U1, K1⟩
  by_cases d2 : 97 ≤ c ∧ c ≤ 102
  · have he : hexI c = c - 97 + 10 := by unfold hexI; rw [if_neg d1, if_pos d2]; omega
    rw [he]
    clear hc' he
    obtain ⟨a1, a2⟩ := d2
    have a3 : ¬ c ≤ 57 := by omega
    have a4 : 48 ≤ c := by omega
    clear d1
    go_enter Try.func50, Try.ntmps50
    go_wp2_with (go_at_call 51; rw [or_u8 d _ (by omega) (by omega)]; refine (mean_any B b 3 d _ out v w hb hB HU.out hn).mono ?_; rintro e w1 ⟨rfl, v', U1, K1⟩)
    go_ret
    exact ⟨rfl, v', U1, K1⟩
  have d3 : 65 ≤ c ∧ c ≤ 70 := by
    have := hc'.out
    unfold hexI at this
    rw [if_neg d1, if_neg d2] at this
    split at this
    · assumption
    · omega
  have he : hexI c = c - 65 + 10 := by unfold hexI; rw [if_neg d1, if_neg d2, if_pos d3]; omega
  rw [he]
  clear hc' he
  obtain ⟨a1, a2⟩ := d3
  have a3 : ¬ c ≤ 57 := by omega
  have a4 : 48 ≤ c := by omega
  have a5 : ¬ 97 ≤ c := by omega
  clear d1 d2
  go_enter Try.func50, Try.ntmps50
  go_wp2_with (go_at_call 51; rw [or_u8 d _ (by omega) (by omega)]; refine (mean_any B b 3 d _ out v w hb hB HU.out hn).mono ?_; rintro e w1 ⟨rfl, v', U1, K1⟩)
  go_ret
  exact ⟨rfl, v', U1, K1⟩

end Go.Proofs.Ytmglbcldjhdhkab

