/- The library's setDigits and fmtEFG, each in one. -/
import Derived.Test.YtjdihnkcigoajaaGreatDoorSdT
import Derived.Test.YtjdihnkcigoajaaGreatDoorFmF
import Derived.Test.YtjdihnkcigoajaaGreatDoorShA

namespace Go.Proofs.YtjdihnkcigoajaaGreatDoor
open Go.RowKit Go.PlainAid

theorem setDigits_tz (b nd tz u : Nat) (p : Int) (w : World) (htz : tz < nd) (ht : tz < 10) (hn2 : nd ≤ 32) (hu : u < 10 ^ nd) (hu64 : u < 18446744073709551616) (hz : ∀ i, i < tz → u / 10 ^ i % 10 = 0) (h10 : u / 10 ^ tz % 10 ≠ 0) (hp1 : -1000 ≤ p) (hp2 : p ≤ 1000)
    (hZ : ∀ j, j < 32 → w.cell? ⟨b, j, none⟩ = some (.int .u8 0) ∧ w.frozen? ⟨b, j, none⟩ = false) :
    Calls Tryz.prog 145 #[.slice (some ⟨b, 0, none⟩) 32 32, .int .u64 (u : Nat), .int .i64 p, .int .i64 (nd : Nat)] w fun e w' =>
      e = .returned (.tuple #[.int .i64 ((nd : Int) + p), .int .i64 ((nd - tz : Nat) : Int)]) ∧ Keep [b] w w' ∧ (∀ j, j < nd → w'.cell? ⟨b, j, none⟩ = some (.int .u8 ((Lib.dg u (nd - 1 - j)).toNat : Int))) ∧ (∀ j, nd ≤ j → j < 32 → w'.cell? ⟨b, j, none⟩ = some (.int .u8 0)) := by
  obtain ⟨m, rfl⟩ : ∃ m, nd = m + tz + 1 := ⟨nd - tz - 1, by omega⟩
  rw [show m + tz + 1 - tz = m + 1 by omega, show ((m + 1 : Nat) : Int) = (m : Int) + 1 by omega]
  match tz, ht with
  | 0, _ =>
    have h := setDigits_0 b m u p w hn2 hu hu64 hz h10 hp1 hp2 hZ
    rw [show ((m + 0 + 1 : Nat) : Int) = (m : Int) + 0 + 1 by omega]
    exact h
  | 1, _ =>
    have h := setDigits_1 b m u p w hn2 hu hu64 hz h10 hp1 hp2 hZ
    rw [show ((m + 1 + 1 : Nat) : Int) = (m : Int) + 1 + 1 by omega]
    exact h
  | 2, _ =>
    have h := setDigits_2 b m u p w hn2 hu hu64 hz h10 hp1 hp2 hZ
    rw [show ((m + 2 + 1 : Nat) : Int) = (m : Int) + 2 + 1 by omega]
    exact h
  | 3, _ =>
    have h := setDigits_3 b m u p w hn2 hu hu64 hz h10 hp1 hp2 hZ
    rw [show ((m + 3 + 1 : Nat) : Int) = (m : Int) + 3 + 1 by omega]
    exact h
  | 4, _ =>
    have h := setDigits_4 b m u p w hn2 hu hu64 hz h10 hp1 hp2 hZ
    rw [show ((m + 4 + 1 : Nat) : Int) = (m : Int) + 4 + 1 by omega]
    exact h
  | 5, _ =>
    have h := setDigits_5 b m u p w hn2 hu hu64 hz h10 hp1 hp2 hZ
    rw [show ((m + 5 + 1 : Nat) : Int) = (m : Int) + 5 + 1 by omega]
    exact h
  | 6, _ =>
    have h := setDigits_6 b m u p w hn2 hu hu64 hz h10 hp1 hp2 hZ
    rw [show ((m + 6 + 1 : Nat) : Int) = (m : Int) + 6 + 1 by omega]
    exact h
  | 7, _ =>
    have h := setDigits_7 b m u p w hn2 hu hu64 hz h10 hp1 hp2 hZ
    rw [show ((m + 7 + 1 : Nat) : Int) = (m : Int) + 7 + 1 by omega]
    exact h
  | 8, _ =>
    have h := setDigits_8 b m u p w hn2 hu hu64 hz h10 hp1 hp2 hZ
    rw [show ((m + 8 + 1 : Nat) : Int) = (m : Int) + 8 + 1 by omega]
    exact h
  | 9, _ =>
    have h := setDigits_9 b m u p w hn2 hu hu64 hz h10 hp1 hp2 hZ
    rw [show ((m + 9 + 1 : Nat) : Int) = (m : Int) + 9 + 1 by omega]
    exact h

/-- an exponent's bytes -/
def expB (E : Int) : List UInt8 := (if E < 0 then 45 else 43) :: (if E.natAbs < 10 then [48, UInt8.ofNat (48 + E.natAbs)] else [UInt8.ofNat (48 + E.natAbs / 10), UInt8.ofNat (48 + E.natAbs % 10)])
/-- the bytes of the digits behind the first one -/
def fracB (D : List UInt8) (nd : Nat) : List UInt8 := if nd = 1 then [] else 46 :: (D.take nd).drop 1
theorem fmtE_all (w0 w : World) (v : Value) (l : List UInt8) (b cap : Nat) (D : List UInt8) (nd : Nat) (E : Int) (hF : Fm w0 w v l b cap D) (hl : l.length ≤ 1000) (hD : D.length ≤ 1000) (hn1 : 1 ≤ nd) (hn2 : nd ≤ D.length) (hc : cap ≤ 1000) (hE : -100 < E ∧ E < 100) :
    Calls Tryz.prog 143 #[v, .bool false, .slice (some ⟨b, 0, none⟩) D.length cap, .int .i64 (E + 1), .int .i64 nd, .int .i64 ((nd - 1 : Nat) : Int), .int .u8 101, .bool true] w fun e w' =>
      ∃ v', e = .returned v' ∧ Fm w0 w' v' (l ++ [D.getD 0 0] ++ fracB D nd ++ [101] ++ expB E) b cap D := by
  by_cases h1 : nd = 1
  · subst h1
    unfold fracB
    rw [if_pos rfl, List.append_nil]
    show Calls Tryz.prog 143 #[v, .bool false, .slice (some ⟨b, 0, none⟩) D.length cap, .int .i64 (E + 1), .int .i64 1, .int .i64 0, .int .u8 101, .bool true] w _
    by_cases hn : E < 0
    · obtain ⟨x, rfl⟩ : ∃ x : Nat, E = -(x : Int) := ⟨E.natAbs, by omega⟩
      rw [show -(x : Int) + 1 = 1 - (x : Int) by omega]
      unfold expB
      rw [if_pos hn, Int.natAbs_neg, Int.natAbs_natCast]
      by_cases h : x < 10
      · rw [if_pos h]
        refine (fmtE_ino w0 w v l b cap D x hF hl hD hn2 (by omega)).mono ?_
        rintro e w' ⟨v', he, h2⟩
        exact ⟨v', he, by simpa using h2⟩
      · rw [if_neg h]
        refine (fmtE_int w0 w v l b cap D x hF hl hD hn2 (by omega)).mono ?_
        rintro e w' ⟨v', he, h2⟩
        exact ⟨v', he, by simpa using h2⟩
    · obtain ⟨x, rfl⟩ : ∃ x : Nat, E = (x : Int) := ⟨E.natAbs, by omega⟩
      unfold expB
      rw [if_neg hn, Int.natAbs_natCast]
      by_cases h : x < 10
      · rw [if_pos h]
        refine (fmtE_ipo w0 w v l b cap D x hF hl hD hn2 (by omega)).mono ?_
        rintro e w' ⟨v', he, h2⟩
        exact ⟨v', he, by simpa using h2⟩
      · rw [if_neg h]
        refine (fmtE_ipt w0 w v l b cap D x hF hl hD hn2 (by omega)).mono ?_
        rintro e w' ⟨v', he, h2⟩
        exact ⟨v', he, by simpa using h2⟩
  · unfold fracB
    rw [if_neg h1, show ((nd - 1 : Nat) : Int) = (nd : Int) - 1 by omega]
    by_cases hn : E < 0
    · obtain ⟨x, rfl⟩ : ∃ x : Nat, E = -(x : Int) := ⟨E.natAbs, by omega⟩
      rw [show -(x : Int) + 1 = 1 - (x : Int) by omega]
      unfold expB
      rw [if_pos hn, Int.natAbs_neg, Int.natAbs_natCast]
      by_cases h : x < 10
      · rw [if_pos h]
        refine (fmtE_fno w0 w v l b cap D nd x hF hl hD (by omega) hn2 hc (by omega)).mono ?_
        rintro e w' ⟨v', he, h2⟩
        exact ⟨v', he, by simpa using h2⟩
      · rw [if_neg h]
        refine (fmtE_fnt w0 w v l b cap D nd x hF hl hD (by omega) hn2 hc (by omega)).mono ?_
        rintro e w' ⟨v', he, h2⟩
        exact ⟨v', he, by simpa using h2⟩
    · obtain ⟨x, rfl⟩ : ∃ x : Nat, E = (x : Int) := ⟨E.natAbs, by omega⟩
      unfold expB
      rw [if_neg hn, Int.natAbs_natCast]
      by_cases h : x < 10
      · rw [if_pos h]
        refine (fmtE_fpo w0 w v l b cap D nd x hF hl hD (by omega) hn2 hc (by omega)).mono ?_
        rintro e w' ⟨v', he, h2⟩
        exact ⟨v', he, by simpa using h2⟩
      · rw [if_neg h]
        refine (fmtE_fpt w0 w v l b cap D nd x hF hl hD (by omega) hn2 hc (by omega)).mono ?_
        rintro e w' ⟨v', he, h2⟩
        exact ⟨v', he, by simpa using h2⟩
end Go.Proofs.YtjdihnkcigoajaaGreatDoor


/- The library's numDigits, of any number up to 2^30. -/
namespace Go.Proofs.YtjdihnkcigoajaaGreatDoor
open Go.RowKit Go.PlainAid

/-- whole powers of ten, as they are laid -/
def TabU (w : World) : Prop := ∀ k, k < 11 → w.cell? ⟨1, k, none⟩ = some (.int .u64 ((10 ^ k : Nat) : Int))
def kN (d : Nat) : Nat := (d.log2 + 1) * 78913 / 262144
def ndN (d : Nat) : Nat := if 10 ^ kN d ≤ d then kN d + 1 else kN d
theorem len_facts : ∀ L, L < 31 → L * 78913 / 262144 < 10 ∧ 2 ^ L ≤ 10 ^ (L * 78913 / 262144 + 1) ∧ (1 ≤ L → 10 ^ (L * 78913 / 262144) ≤ 2 ^ (L - 1) * 10 ∧ (L * 78913 / 262144 = 0 → L ≤ 3)) := by decide
theorem ndN_ok (d : Nat) (h0 : 1 ≤ d) (h1 : d < 1073741824) : 1 ≤ ndN d ∧ ndN d ≤ 10 ∧ 10 ^ (ndN d - 1) ≤ d ∧ d < 10 ^ ndN d := by
  have hl : d.log2 < 30 := (Nat.log2_lt (by omega)).2 h1
  obtain ⟨f1, f2, f3⟩ := len_facts (d.log2 + 1) (by omega)
  obtain ⟨f4, f5⟩ := f3 (by omega)
  have g1 : 2 ^ d.log2 ≤ d := Nat.log2_self_le (by omega)
  have g2 : d < 2 ^ (d.log2 + 1) := Nat.lt_log2_self
  rw [Nat.add_sub_cancel] at f4
  unfold ndN
  unfold kN
  generalize (d.log2 + 1) * 78913 / 262144 = k at *
  by_cases h : 10 ^ k ≤ d
  · rw [if_pos h]
    refine ⟨by omega, by omega, by simpa using h, ?_⟩
    omega
  · rw [if_neg h]
    have hk : 1 ≤ k := by
      rcases Nat.eq_zero_or_pos k with h2 | h2
      · subst h2; simp at h; omega
      · exact h2
    obtain ⟨q, rfl⟩ : ∃ q, k = q + 1 := ⟨k - 1, by omega⟩
    rw [Nat.pow_succ] at f4
    refine ⟨hk, by omega, by rw [Nat.add_sub_cancel]; omega, by omega⟩
set_option maxRecDepth 1000000 in
theorem numDigits_any (d : Nat) (h0 : 1 ≤ d) (h1 : d < 1073741824) (w : World) (hT : TabU w) : Calls Tryz.prog 67 #[.int .u64 (d : Int)] w fun e w' => e = .returned (.int .i64 ((ndN d : Nat) : Int)) ∧ w' = w := by
  have hl : d.log2 < 30 := (Nat.log2_lt (by omega)).2 h1
  obtain ⟨f1, _, _⟩ := len_facts (d.log2 + 1) (by omega)
  have hlen : (Lib.bitLen (d : Int).toNat : Int) = ((d.log2 + 1 : Nat) : Int) := by rw [Int.toNat_natCast, bitLen_log d (by omega) (by omega)]
  have hL := len64_at (d : Int) (by omega) (by omega) _ hlen
  have hk : ((d.log2 + 1 : Nat) : Int) * 78913 / 262144 = ((kN d : Nat) : Int) := by unfold kN; omega
  have hG := log10_any ((d.log2 + 1 : Nat) : Int) (by omega)
  rw [hk] at hG
  have hk10 : kN d < 10 := f1
  have hc := hT (kN d) (by omega)
  have hnd : ((ndN d : Nat) : Int) = (kN d : Int) + (if decide (((10 ^ kN d : Nat) : Int) ≤ (d : Int)) = true then 1 else 0) := by
    unfold ndN
    generalize 10 ^ kN d = tt
    by_cases h : tt ≤ d
    · rw [if_pos h, if_pos (decide_eq_true (by omega))]; omega
    · rw [if_neg h, if_neg (by simp; omega)]; omega
  have hB := bool2i_any (decide (((10 ^ kN d : Nat) : Int) ≤ (d : Int)))
  have hb01 : 0 ≤ (if decide (((10 ^ kN d : Nat) : Int) ≤ (d : Int)) = true then (1 : Int) else 0) ∧ (if decide (((10 ^ kN d : Nat) : Int) ≤ (d : Int)) = true then (1 : Int) else 0) ≤ 1 := by split <;> omega
  rw [hnd]
  generalize (if decide (((10 ^ kN d : Nat) : Int) ≤ (d : Int)) = true then (1 : Int) else 0) = bb at *
  generalize kN d = k at *
  generalize ((10 ^ k : Nat) : Int) = t at *
  have hk2 : (k : Int) < 10 := by omega
  clear hlen hk hl f1 hnd h0 h1
  go_enter Tryz.func67, Tryz.ntmps67
  go_wp2_with fail
  refine (hL _).mono ?_
  rintro e9 w9 ⟨rfl, hw9⟩
  obtain rfl := hw9.symm
  clear hL
  go_wp2_with fail
  refine (hG _).mono ?_
  rintro e9 w9 ⟨rfl, hw9⟩
  obtain rfl := hw9.symm
  clear hG
  go_wp2_with fail
  refine (hB _).mono ?_
  rintro e9 w9 ⟨rfl, hw9⟩
  obtain rfl := hw9.symm
  clear hB
  go_wp2_with fail
  go_ret
  exact ⟨by simp, rfl⟩
end Go.Proofs.YtjdihnkcigoajaaGreatDoor

