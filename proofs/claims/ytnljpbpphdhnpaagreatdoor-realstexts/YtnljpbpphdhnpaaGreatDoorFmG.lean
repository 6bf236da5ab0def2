/- The library's setDigits and fmtEFG, each in one. -/
import Derived.Test.YtnljpbpphdhnpaaGreatDoorSdT
import Derived.Test.YtnljpbpphdhnpaaGreatDoorFmF
namespace Go.Proofs.YtnljpbpphdhnpaaGreatDoor
open Go.RowKit Go.PlainAid

theorem setDigits_tz (b nd tz u : Nat) (p : Int) (w : World) (htz : tz < nd) (ht : tz < 10) (hn2 : nd ≤ 32) (hu : u < 10 ^ nd) (hu64 : u < 18446744073709551616) (hz : ∀ i, i < tz → u / 10 ^ i % 10 = 0) (h10 : u / 10 ^ tz % 10 ≠ 0) (hp1 : -1000 ≤ p) (hp2 : p ≤ 1000)
    (hZ : ∀ j, j < 32 → w.cell? ⟨b, j, none⟩ = some (.int .u8 0) ∧ w.frozen? ⟨b, j, none⟩ = false) :
    Calls Tryz.prog 139 #[.slice (some ⟨b, 0, none⟩) 32 32, .int .u64 (u : Nat), .int .i64 p, .int .i64 (nd : Nat)] w fun e w' =>
      e = .returned (.tuple #[.int .i64 ((nd : Int) + p), .int .i64 ((nd - tz : Nat) : Int)]) ∧ Keep [b] w w' ∧ (∀ j, j < nd → w'.cell? ⟨b, j, none⟩ = some (.int .u8 ((Lib.dg u (nd - 1 - j)).toNat : Int))) ∧ (∀ j, nd ≤ j → j < 32 → w'.cell? ⟨b, j, none⟩ = some (.int .u8 0)) := by
  obtain ⟨m, rfl⟩ : ∃ m, nd = m + tz + 1 := ⟨nd - tz - 1, by omega⟩
  rw [show m + tz + 1 - tz = m + 1 by omega, show ((m + 1 : Nat) : Int) = (m : Int) + 1 by omega]
  match tz, ht with
  | 0, _ =>
    have h := setDigits_0 b m u p w hn2 hu hu64 hz h10 hp1 hp2 hZ
    rw [show ((m + 0 + 1 : Nat) : Int) = (m : Int) + 0 + 1 by omega]
    exact h
  | 1, _ =>
    have h := setDigits_1 b m u p w hn2 hu hu64 hz h10 hp1 hp2 hZ
    rw [show ((m + 1 + 1 : Nat) : Int) = (m : Int) + 1 + 1 by omega]
    exact h
  | 2, _ =>
    have h := setDigits_2 b m u p w hn2 hu hu64 hz h10 hp1 hp2 hZ
    rw [show ((m + 2 + 1 : Nat) : Int) = (m : Int) + 2 + 1 by omega]
    exact h
  | 3, _ =>
    have h := setDigits_3 b m u p w hn2 hu hu64 hz h10 hp1 hp2 hZ
    rw [show ((m + 3 + 1 : Nat) : Int) = (m : Int) + 3 + 1 by omega]
    exact h
  | 4, _ =>
    have h := setDigits_4 b m u p w hn2 hu hu64 hz h10 hp1 hp2 hZ
    rw [show ((m + 4 + 1 : Nat) : Int) = (m : Int) + 4 + 1 by omega]
    exact h
  | 5, _ =>
    have h := setDigits_5 b m u p w hn2 hu hu64 hz h10 hp1 hp2 hZ
    rw [show ((m + 5 + 1 : Nat) : Int) = (m : Int) + 5 + 1 by omega]
    exact h
  | 6, _ =>
    have h := setDigits_6 b m u p w hn2 hu hu64 hz h10 hp1 hp2 hZ
    rw [show ((m + 6 + 1 : Nat) : Int) = (m : Int) + 6 + 1 by omega]
    exact h
  | 7, _ =>
    have h := setDigits_7 b m u p w hn2 hu hu64 hz h10 hp1 hp2 hZ
    rw [show ((m + 7 + 1 : Nat) : Int) = (m : Int) + 7 + 1 by omega]
    exact h
  | 8, _ =>
    have h := setDigits_8 b m u p w hn2 hu hu64 hz h10 hp1 hp2 hZ
    rw [show ((m + 8 + 1 : Nat) : Int) = (m : Int) + 8 + 1 by omega]
    exact h
  | 9, _ =>
    have h := setDigits_9 b m u p w hn2 hu hu64 hz h10 hp1 hp2 hZ
    rw [show ((m + 9 + 1 : Nat) : Int) = (m : Int) + 9 + 1 by omega]
    exact h

/-- an exponent's bytes -/
def expB (E : Int) : List UInt8 := (if E < 0 then 45 else 43) :: (if E.natAbs < 10 then [48, UInt8.ofNat (48 + E.natAbs)] else [UInt8.ofNat (48 + E.natAbs / 10), UInt8.ofNat (48 + E.natAbs % 10)])
/-- the bytes of the digits behind the first one -/
def fracB (D : List UInt8) (nd : Nat) : List UInt8 := if nd = 1 then [] else 46 :: (D.take nd).drop 1
theorem fmtE_all (w0 w : World) (v : Value) (l : List UInt8) (b cap : Nat) (D : List UInt8) (nd : Nat) (E : Int) (hF : Fm w0 w v l b cap D) (hl : l.length ≤ 1000) (hD : D.length ≤ 1000) (hn1 : 1 ≤ nd) (hn2 : nd ≤ D.length) (hc : cap ≤ 1000) (hE : -100 < E ∧ E < 100) :
    Calls Tryz.prog 137 #[v, .bool false, .slice (some ⟨b, 0, none⟩) D.length cap, .int .i64 (E + 1), .int .i64 nd, .int .i64 ((nd - 1 : Nat) : Int), .int .u8 101, .bool true] w fun e w' =>
      ∃ v', e = .returned v' ∧ Fm w0 w' v' (l ++ [D.getD 0 0] ++ fracB D nd ++ [101] ++ expB E) b cap D := by
  by_cases h1 : nd = 1
  · subst h1
    unfold fracB
    rw [if_pos rfl, List.append_nil]
    show Calls Tryz.prog 137 #[v, .bool false, .slice (some ⟨b, 0, none⟩) D.length cap, .int .i64 (E + 1), .int .i64 1, .int .i64 0, .int .u8 101, .bool true] w _
    by_cases hn : E < 0
    · obtain ⟨x, rfl⟩ : ∃ x : Nat, E = -(x : Int) := ⟨E.natAbs, by omega⟩
      rw [show -(x : Int) + 1 = 1 - (x : Int) by omega]
      unfold expB
      rw [if_pos hn, Int.natAbs_neg, Int.natAbs_natCast]
      by_cases h : x < 10
      · rw [if_pos h]
        refine (fmtE_ino w0 w v l b cap D x hF hl hD hn2 (by omega)).mono ?_
        rintro e w' ⟨v', he, h2⟩
        exact ⟨v', he, by simpa using h2⟩
      · rw [if_neg h]
        refine (fmtE_int w0 w v l b cap D x hF hl hD hn2 (by omega)).mono ?_
        rintro e w' ⟨v', he, h2⟩
        exact ⟨v', he, by simpa using h2⟩
    · obtain ⟨x, rfl⟩ : ∃ x : Nat, E = (x : Int) := ⟨E.natAbs, by omega⟩
      unfold expB
      rw [if_neg hn, Int.natAbs_natCast]
      by_cases h : x < 10
      · rw [if_pos h]
        refine (fmtE_ipo w0 w v l b cap D x hF hl hD hn2 (by omega)).mono ?_
        rintro e w' ⟨v', he, h2⟩
        exact ⟨v', he, by simpa using h2⟩
      · rw [if_neg h]
        refine (fmtE_ipt w0 w v l b cap D x hF hl hD hn2 (by omega)).mono ?_
        rintro e w' ⟨v', he, h2⟩
        exact ⟨v', he, by simpa using h2⟩
  · unfold fracB
    rw [if_neg h1, show ((nd - 1 : Nat) : Int) = (nd : Int) - 1 by omega]
    by_cases hn : E < 0
    · obtain ⟨x, rfl⟩ : ∃ x : Nat, E = -(x : Int) := ⟨E.natAbs, by omega⟩
      rw [show -(x : Int) + 1 = 1 - (x : Int) by omega]
      unfold expB
      rw [if_pos hn, Int.natAbs_neg, Int.natAbs_natCast]
      by_cases h : x < 10
      · rw [if_pos h]
        refine (fmtE_fno w0 w v l b cap D nd x hF hl hD (by omega) hn2 hc (by omega)).mono ?_
        rintro e w' ⟨v', he, h2⟩
        exact ⟨v', he, by simpa using h2⟩
      · rw [if_neg h]
        refine (fmtE_fnt w0 w v l b cap D nd x hF hl hD (by omega) hn2 hc (by omega)).mono ?_
        rintro e w' ⟨v', he, h2⟩
        exact ⟨v', he, by simpa using h2⟩
    · obtain ⟨x, rfl⟩ : ∃ x : Nat, E = (x : Int) := ⟨E.natAbs, by omega⟩
      unfold expB
      rw [if_neg hn, Int.natAbs_natCast]
      by_cases h : x < 10
      · rw [if_pos h]
        refine (fmtE_fpo w0 w v l b cap D nd x hF hl hD (by omega) hn2 hc (by omega)).mono ?_
        rintro e w' ⟨v', he, h2⟩
        exact ⟨v', he, by simpa using h2⟩
      · rw [if_neg h]
        refine (fmtE_fpt w0 w v l b cap D nd x hF hl hD (by omega) hn2 hc (by omega)).mono ?_
        rintro e w' ⟨v', he, h2⟩
        exact ⟨v', he, by simpa using h2⟩
end Go.Proofs.YtnljpbpphdhnpaaGreatDoor
