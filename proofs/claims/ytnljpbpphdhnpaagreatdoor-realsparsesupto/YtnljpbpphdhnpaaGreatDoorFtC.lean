/- The library's setDigits and fmtEFG, each in one. -/
import Derived.Test.YtnljpbpphdhnpaaGreatDoorSdT
import Derived.Test.YtnljpbpphdhnpaaGreatDoorFmF
import Derived.Test.YtnljpbpphdhnpaaGreatDoorQuoM
import Derived.Test.YtnljpbpphdhnpaaGreatDoorFtA

namespace Go.Proofs.YtnljpbpphdhnpaaGreatDoor
open Go.RowKit Go.PlainAid

theorem setDigits_tz (b nd tz u : Nat) (p : Int) (w : World) (htz : tz < nd) (ht : tz < 10) (hn2 : nd ≤ 32) (hu : u < 10 ^ nd) (hu64 : u < 18446744073709551616) (hz : ∀ i, i < tz → u / 10 ^ i % 10 = 0) (h10 : u / 10 ^ tz % 10 ≠ 0) (hp1 : -1000 ≤ p) (hp2 : p ≤ 1000)
    (hZ : ∀ j, j < 32 → w.cell? ⟨b, j, none⟩ = some (.int .u8 0) ∧ w.frozen? ⟨b, j, none⟩ = false) :
    Calls Tryz.prog 139 #[.slice (some ⟨b, 0, none⟩) 32 32, .int .u64 (u : Nat), .int .i64 p, .int .i64 (nd : Nat)] w fun e w' =>
      e = .returned (.tuple #[.int .i64 ((nd : Int) + p), .int .i64 ((nd - tz : Nat) : Int)]) ∧ Keep [b] w w' ∧ (∀ j, j < nd → w'.cell? ⟨b, j, none⟩ = some (.int .u8 ((Lib.dg u (nd - 1 - j)).toNat : Int))) ∧ (∀ j, nd ≤ j → j < 32 → w'.cell? ⟨b, j, none⟩ = some (.int .u8 0)) := by
  obtain ⟨m, rfl⟩ : ∃ m, nd = m + tz + 1 := ⟨nd - tz - 1, by omega⟩
  rw [show m + tz + 1 - tz = m + 1 by omega, show ((m + 1 : Nat) : Int) = (m : Int) + 1 by omega]
  match tz, ht with
  | 0, _ =>
    have h := setDigits_0 b m u p w hn2 hu hu64 hz h10 hp1 hp2 hZ
    rw [show ((m + 0 + 1 : Nat) : Int) = (m : Int) + 0 + 1 by omega]
    exact h
  | 1, _ =>
    have h := setDigits_1 b m u p w hn2 hu hu64 hz h10 hp1 hp2 hZ
    rw [show ((m + 1 + 1 : Nat) : Int) = (m : Int) + 1 + 1 by omega]
    exact h
  | 2, _ =>
    have h := setDigits_2 b m u p w hn2 hu hu64 hz h10 hp1 hp2 hZ
    rw [show ((m + 2 + 1 : Nat) : Int) = (m : Int) + 2 + 1 by omega]
    exact h
  | 3, _ =>
    have h := setDigits_3 b m u p w hn2 hu hu64 hz h10 hp1 hp2 hZ
    rw [show ((m + 3 + 1 : Nat) : Int) = (m : Int) + 3 + 1 by omega]
    exact h
  | 4, _ =>
    have h := setDigits_4 b m u p w hn2 hu hu64 hz h10 hp1 hp2 hZ
    rw [show ((m + 4 + 1 : Nat) : Int) = (m : Int) + 4 + 1 by omega]
    exact h
  | 5, _ =>
    have h := setDigits_5 b m u p w hn2 hu hu64 hz h10 hp1 hp2 hZ
    rw [show ((m + 5 + 1 : Nat) : Int) = (m : Int) + 5 + 1 by omega]
    exact h
  | 6, _ =>
    have h := setDigits_6 b m u p w hn2 hu hu64 hz h10 hp1 hp2 hZ
    rw [show ((m + 6 + 1 : Nat) : Int) = (m : Int) + 6 + 1 by omega]
    exact h
  | 7, _ =>
    have h := setDigits_7 b m u p w hn2 hu hu64 hz h10 hp1 hp2 hZ
    rw [show ((m + 7 + 1 : Nat) : Int) = (m : Int) + 7 + 1 by omega]
    exact h
  | 8, _ =>
    have h := setDigits_8 b m u p w hn2 hu hu64 hz h10 hp1 hp2 hZ
    rw [show ((m + 8 + 1 : Nat) : Int) = (m : Int) + 8 + 1 by omega]
    exact h
  | 9, _ =>
    have h := setDigits_9 b m u p w hn2 hu hu64 hz h10 hp1 hp2 hZ
    rw [show ((m + 9 + 1 : Nat) : Int) = (m : Int) + 9 + 1 by omega]
    exact h

/-- an exponent's bytes -/
def expB (E : Int) : List UInt8 := (if E < 0 then 45 else 43) :: (if E.natAbs < 10 then [48, UInt8.ofNat (48 + E.natAbs)] else [UInt8.ofNat (48 + E.natAbs / 10), UInt8.ofNat (48 + E.natAbs % 10)])
/-- the bytes of the digits behind the first one -/
def fracB (D : List UInt8) (nd : Nat) : List UInt8 := if nd = 1 then [] else 46 :: (D.take nd).drop 1
theorem fmtE_all (w0 w : World) (v : Value) (l : List UInt8) (b cap : Nat) (D : List UInt8) (nd : Nat) (E : Int) (hF : Fm w0 w v l b cap D) (hl : l.length ≤ 1000) (hD : D.length ≤ 1000) (hn1 : 1 ≤ nd) (hn2 : nd ≤ D.length) (hc : cap ≤ 1000) (hE : -100 < E ∧ E < 100) :
    Calls Tryz.prog 137 #[v, .bool false, .slice (some ⟨b, 0, none⟩) D.length cap, .int .i64 (E + 1), .int .i64 nd, .int .i64 ((nd - 1 : Nat) : Int), .int .u8 101, .bool true] w fun e w' =>
      ∃ v', e = .returned v' ∧ Fm w0 w' v' (l ++ [D.getD 0 0] ++ fracB D nd ++ [101] ++ expB E) b cap D := by
  by_cases h1 : nd = 1
  · subst h1
    unfold fracB
    rw [if_pos rfl, List.append_nil]
    show Calls Tryz.prog 137 #[v, .bool false, .slice (some ⟨b, 0, none⟩) D.length cap, .int .i64 (E + 1), .int .i64 1, .int .i64 0, .int .u8 101, .bool true] w _
    by_cases hn : E < 0
    · obtain ⟨x, rfl⟩ : ∃ x : Nat, E = -(x : Int) := ⟨E.natAbs, by omega⟩
      rw [show -(x : Int) + 1 = 1 - (x : Int) by omega]
      unfold expB
      rw [if_pos hn, Int.natAbs_neg, Int.natAbs_natCast]
      by_cases h : x < 10
      · rw [if_pos h]
        refine (fmtE_ino w0 w v l b cap D x hF hl hD hn2 (by omega)).mono ?_
        rintro e w' ⟨v', he, h2⟩
        exact ⟨v', he, by simpa using h2⟩
      · rw [if_neg h]
        refine (fmtE_int w0 w v l b cap D x hF hl hD hn2 (by omega)).mono ?_
        rintro e w' ⟨v', he, h2⟩
        exact ⟨v', he, by simpa using h2⟩
    · obtain ⟨x, rfl⟩ : ∃ x : Nat, E = (x : Int) := ⟨E.natAbs, by omega⟩
      unfold expB
      rw [if_neg hn, Int.natAbs_natCast]
      by_cases h : x < 10
      · rw [if_pos h]
        refine (fmtE_ipo w0 w v l b cap D x hF hl hD hn2 (by omega)).mono ?_
        rintro e w' ⟨v', he, h2⟩
        exact ⟨v', he, by simpa using h2⟩
      · rw [if_neg h]
        refine (fmtE_ipt w0 w v l b cap D x hF hl hD hn2 (by omega)).mono ?_
        rintro e w' ⟨v', he, h2⟩
        exact ⟨v', he, by simpa using h2⟩
  · unfold fracB
    rw [if_neg h1, show ((nd - 1 : Nat) : Int) = (nd : Int) - 1 by omega]
    by_cases hn : E < 0
    · obtain ⟨x, rfl⟩ : ∃ x : Nat, E = -(x : Int) := ⟨E.natAbs, by omega⟩
      rw [show -(x : Int) + 1 = 1 - (x : Int) by omega]
      unfold expB
      rw [if_pos hn, Int.natAbs_neg, Int.natAbs_natCast]
      by_cases h : x < 10
      · rw [if_pos h]
        refine (fmtE_fno w0 w v l b cap D nd x hF hl hD (by omega) hn2 hc (by omega)).mono ?_
        rintro e w' ⟨v', he, h2⟩
        exact ⟨v', he, by simpa using h2⟩
      · rw [if_neg h]
        refine (fmtE_fnt w0 w v l b cap D nd x hF hl hD (by omega) hn2 hc (by omega)).mono ?_
        rintro e w' ⟨v', he, h2⟩
        exact ⟨v', he, by simpa using h2⟩
    · obtain ⟨x, rfl⟩ : ∃ x : Nat, E = (x : Int) := ⟨E.natAbs, by omega⟩
      unfold expB
      rw [if_neg hn, Int.natAbs_natCast]
      by_cases h : x < 10
      · rw [if_pos h]
        refine (fmtE_fpo w0 w v l b cap D nd x hF hl hD (by omega) hn2 hc (by omega)).mono ?_
        rintro e w' ⟨v', he, h2⟩
        exact ⟨v', he, by simpa using h2⟩
      · rw [if_neg h]
        refine (fmtE_fpt w0 w v l b cap D nd x hF hl hD (by omega) hn2 hc (by omega)).mono ?_
        rintro e w' ⟨v', he, h2⟩
        exact ⟨v', he, by simpa using h2⟩
end Go.Proofs.YtnljpbpphdhnpaaGreatDoor

/- The library's numDigits, of any number up to 2^30. -/
namespace Go.Proofs.YtnljpbpphdhnpaaGreatDoor
open Go.RowKit Go.PlainAid

/-- whole powers of ten, as they are laid -/
def TabU (w : World) : Prop := ∀ k, k < 11 → w.cell? ⟨4, k, none⟩ = some (.int .u64 ((10 ^ k : Nat) : Int))
def kN (d : Nat) : Nat := (d.log2 + 1) * 78913 / 262144
def ndN (d : Nat) : Nat := if 10 ^ kN d ≤ d then kN d + 1 else kN d
theorem len_facts : ∀ L, L < 31 → L * 78913 / 262144 < 10 ∧ 2 ^ L ≤ 10 ^ (L * 78913 / 262144 + 1) ∧ (1 ≤ L → 10 ^ (L * 78913 / 262144) ≤ 2 ^ (L - 1) * 10 ∧ (L * 78913 / 262144 = 0 → L ≤ 3)) := by decide
theorem ndN_ok (d : Nat) (h0 : 1 ≤ d) (h1 : d < 1073741824) : 1 ≤ ndN d ∧ ndN d ≤ 10 ∧ 10 ^ (ndN d - 1) ≤ d ∧ d < 10 ^ ndN d := by
  have hl : d.log2 < 30 := (Nat.log2_lt (by omega)).2 h1
  obtain ⟨f1, f2, f3⟩ := len_facts (d.log2 + 1) (by omega)
  obtain ⟨f4, f5⟩ := f3 (by omega)
  have g1 : 2 ^ d.log2 ≤ d := Nat.log2_self_le (by omega)
  have g2 : d < 2 ^ (d.log2 + 1) := Nat.lt_log2_self
  rw [Nat.add_sub_cancel] at f4
  unfold ndN
  unfold kN
  generalize (d.log2 + 1) * 78913 / 262144 = k at *
  by_cases h : 10 ^ k ≤ d
  · rw [if_pos h]
    refine ⟨by omega, by omega, by simpa using h, ?_⟩
    omega
  · rw [if_neg h]
    have hk : 1 ≤ k := by
      rcases Nat.eq_zero_or_pos k with h2 | h2
      · subst h2; simp at h; omega
      · exact h2
    obtain ⟨q, rfl⟩ : ∃ q, k = q + 1 := ⟨k - 1, by omega⟩
    rw [Nat.pow_succ] at f4
    refine ⟨hk, by omega, by rw [Nat.add_sub_cancel]; omega, by omega⟩
set_option maxRecDepth 1000000 in
theorem numDigits_any (d : Nat) (h0 : 1 ≤ d) (h1 : d < 1073741824) (w : World) (hT : TabU w) : Calls Tryz.prog 105 #[.int .u64 (d : Int)] w fun e w' => e = .returned (.int .i64 ((ndN d : Nat) : Int)) ∧ w' = w := by
  have hl : d.log2 < 30 := (Nat.log2_lt (by omega)).2 h1
  obtain ⟨f1, _, _⟩ := len_facts (d.log2 + 1) (by omega)
  have hlen : (Lib.bitLen (d : Int).toNat : Int) = ((d.log2 + 1 : Nat) : Int) := by rw [Int.toNat_natCast, bitLen_log d (by omega) (by omega)]
  have hL := len64_at (d : Int) (by omega) (by omega) _ hlen
  have hk : ((d.log2 + 1 : Nat) : Int) * 78913 / 262144 = ((kN d : Nat) : Int) := by unfold kN; omega
  have hG := log10_any ((d.log2 + 1 : Nat) : Int) (by omega)
  rw [hk] at hG
  have hk10 : kN d < 10 := f1
  have hc := hT (kN d) (by omega)
  have hnd : ((ndN d : Nat) : Int) = (kN d : Int) + (if decide (((10 ^ kN d : Nat) : Int) ≤ (d : Int)) = true then 1 else 0) := by
    unfold ndN
    generalize 10 ^ kN d = tt
    by_cases h : tt ≤ d
    · rw [if_pos h, if_pos (decide_eq_true (by omega))]; omega
    · rw [if_neg h, if_neg (by simp; omega)]; omega
  have hB := bool2i_any (decide (((10 ^ kN d : Nat) : Int) ≤ (d : Int)))
  have hb01 : 0 ≤ (if decide (((10 ^ kN d : Nat) : Int) ≤ (d : Int)) = true then (1 : Int) else 0) ∧ (if decide (((10 ^ kN d : Nat) : Int) ≤ (d : Int)) = true then (1 : Int) else 0) ≤ 1 := by split <;> omega
  rw [hnd]
  generalize (if decide (((10 ^ kN d : Nat) : Int) ≤ (d : Int)) = true then (1 : Int) else 0) = bb at *
  generalize kN d = k at *
  generalize ((10 ^ k : Nat) : Int) = t at *
  have hk2 : (k : Int) < 10 := by omega
  clear hlen hk hl f1 hnd h0 h1
  go_enter Tryz.func105, Tryz.ntmps105
  go_wp2_with fail
  refine (hL _).mono ?_
  rintro e9 w9 ⟨rfl, hw9⟩
  obtain rfl := hw9.symm
  clear hL
  go_wp2_with fail
  refine (hG _).mono ?_
  rintro e9 w9 ⟨rfl, hw9⟩
  obtain rfl := hw9.symm
  clear hG
  go_wp2_with fail
  refine (hB _).mono ?_
  rintro e9 w9 ⟨rfl, hw9⟩
  obtain rfl := hw9.symm
  clear hB
  go_wp2_with fail
  go_ret
  exact ⟨by simp, rfl⟩
end Go.Proofs.YtnljpbpphdhnpaaGreatDoor

/- The library's ftoa32 in the form e: what it stands on, for every float32 above 0. -/
namespace Go.Proofs.YtnljpbpphdhnpaaGreatDoor
open Go.RowKit Go.PlainAid

theorem and255 : ∀ v, v < 256 → bits .and .i64 ((v : Nat) : Int) 255 = ((v : Nat) : Int) := by decide +kernel
theorem and23 (n : Nat) (h : n < 18446744073709551616) : bits .and .u64 (n : Int) 8388607 = ((n % 8388608 : Nat) : Int) := by
  have := u64_and_nat n 8388607 h (by decide)
  rw [show (8388607 : Nat) = 2 ^ 23 - 1 by decide, Nat.and_two_pow_sub_one_eq_mod] at this
  exact this
theorem or23 (r : Nat) (h : r < 8388608) : bits .or .u64 ((r : Nat) : Int) 8388608 = ((8388608 + r : Nat) : Int) := by
  have h1 := u64_or_nat r 8388608 (by omega) (by decide)
  have h2 := Nat.two_pow_add_eq_or_of_lt (i := 23) (b := r) (by omega) 1
  rw [Nat.or_comm, show (8388608 : Nat) = 2 ^ 23 * 1 by decide, ← h2] at h1
  exact h1

/-- how many noughts a number ends in -/
def tzR : Nat → Nat → Nat
  | 0, _ => 0
  | k + 1, d => if d % 10 = 0 then tzR k (d / 10) + 1 else 0
theorem tzR_ok : ∀ k d, 1 ≤ d → d < 10 ^ (k + 1) → tzR k d ≤ k ∧ (∀ i, i < tzR k d → d / 10 ^ i % 10 = 0) ∧ d / 10 ^ tzR k d % 10 ≠ 0
  | 0, d, h1, h2 => ⟨Nat.le_refl _, fun i hi => absurd hi (Nat.not_lt_zero _), by show d / 10 ^ 0 % 10 ≠ 0; rw [Nat.pow_zero, Nat.div_one]; omega⟩
  | k + 1, d, h1, h2 => by
    unfold tzR
    by_cases h : d % 10 = 0
    · rw [if_pos h]
      rw [Nat.pow_succ] at h2
      obtain ⟨g1, g2, g3⟩ := tzR_ok k (d / 10) (by omega) (by omega)
      refine ⟨by omega, fun i hi => ?_, ?_⟩
      · match i with
        | 0 => rw [Nat.pow_zero, Nat.div_one]; exact h
        | i + 1 =>
          have := g2 i (by omega)
          rw [Nat.div_div_eq_div_mul] at this
          rw [Nat.pow_succ, Nat.mul_comm]
          exact this
      · rw [Nat.div_div_eq_div_mul] at g3
        rw [Nat.pow_succ, Nat.mul_comm]
        exact g3
    · rw [if_neg h]
      exact ⟨by omega, fun i hi => absurd hi (Nat.not_lt_zero _), by rw [Nat.pow_zero, Nat.div_one]; exact h⟩
def tzN (d : Nat) : Nat := tzR (ndN d - 1) d
theorem tzN_ok (d : Nat) (h0 : 1 ≤ d) (h1 : d < 1073741824) : tzN d < ndN d ∧ tzN d < 10 ∧ (∀ i, i < tzN d → d / 10 ^ i % 10 = 0) ∧ d / 10 ^ tzN d % 10 ≠ 0 := by
  obtain ⟨a1, a2, a3, a4⟩ := ndN_ok d h0 h1
  obtain ⟨b1, b2, b3⟩ := tzR_ok (ndN d - 1) d h0 (by rw [show ndN d - 1 + 1 = ndN d by omega]; exact a4)
  unfold tzN
  exact ⟨by omega, by omega, b2, b3⟩
theorem dF_bounds (n : Nat) (h1 : 1 ≤ n) (h2 : n < 2139095040) : 1 ≤ dF n ∧ dF n < 1073741824 := by
  obtain ⟨a1, a2, a3, a4, _⟩ := at_facts n h1 h2
  have hlo : 2 ≤ xlo n ∧ xlo n ≤ 4 * atM n := by unfold xlo; split <;> omega
  have bl := u4_bounds n (xlo n) h1 h2
  have bh := u4_bounds n (4 * atM n + 2) h1 h2
  have bm := u4_bounds n (4 * atM n) h1 h2
  unfold dF shN
  have ho : atM n % 2 < 2 := by omega
  generalize u4 n (xlo n) = ul at *
  generalize u4 n (4 * atM n + 2) = uh at *
  generalize u4 n (4 * atM n) = um at *
  generalize atM n % 2 = o at *
  unfold shD
  split
  · dsimp only; omega
  · split
    · unfold rndU; dsimp only; omega
    · dsimp only; omega
theorem pF_bounds (n : Nat) (h1 : 1 ≤ n) (h2 : n < 2139095040) : -60 ≤ pF n ∧ pF n ≤ 60 := by
  have := (row_of n h1 h2).1.1
  unfold pF
  have : (shN n).2 ≤ 1 := by
    unfold shN shD
    split
    · exact Nat.le_refl _
    · split <;> exact Nat.zero_le _
  omega

/-- the digits as they stand in the buffer -/
def digD (n : Nat) : List UInt8 := (List.range 32).map fun j => if j < ndN (dF n) then Lib.dg (dF n) (ndN (dF n) - 1 - j) else 0
/-- how many of them are told, the power of ten of the first one, and what is written -/
def ndF (n : Nat) : Nat := ndN (dF n) - tzN (dF n)
def exF (n : Nat) : Int := (ndN (dF n) : Int) + pF n - 1
def txtE (n : Nat) : List UInt8 := [(digD n).getD 0 0] ++ fracB (digD n) (ndF n) ++ [101] ++ expB (exF n)

theorem digD_len (n : Nat) : (digD n).length = 32 := by simp [digD]
theorem after_short2 (w0 w w2 : World) (v : Value) (nq k : Nat) (o : Obj) (hrow : Row w v []) (hk : Keep [] w0 w) (hf : Fresh w0 w v) (hU : TabU w) (e : w2 = (((w.drewN nq).alloc (.cells zeros32 160)).alloc o).drewN k) :
    Row w2 v [] ∧ Keep [] w0 w2 ∧ Fresh w0 w2 v ∧ TabU w2 ∧ (∀ j, j < 32 → w2.cell? ⟨w.heap.size, j, none⟩ = some (.int .u8 0) ∧ w2.frozen? ⟨w.heap.size, j, none⟩ = false) ∧ w.heap.size < w2.heap.size ∧ w.heap.size ∉ v.ownBlock.toList := by
  have hK : Keep [] w w2 := by
    rw [e]
    exact (((Keep.refl [] w).drewN nq).alloc _ |>.alloc _).drewN k
  have hs : w.heap.size < w2.heap.size := by
    rw [e]
    show w.heap.size < (((w.drewN nq).alloc (.cells zeros32 160)).alloc o).heap.size
    simp [World.drewN]
    omega
  refine ⟨hrow.keep hK (Off.nil _), hk.more hK (fun _ h => by cases h), hf.later hK.size, fun j hj => hK.cell' (hU j hj) (by simp), ?_, hs, ?_⟩
  · intro j hj
    have hz := zeros_new (w.drewN nq) 160 j hj
    have hK2 : Keep [] ((w.drewN nq).alloc (.cells zeros32 160)) w2 := by
      rw [e]; exact ((Keep.refl [] _).alloc _).drewN k
    have hlt : w.heap.size < ((w.drewN nq).alloc (.cells zeros32 160)).heap.size := by simp [World.drewN]
    exact ⟨(hK2.cell (p := ⟨w.heap.size, j, none⟩) hlt (by simp)).trans hz.1, (hK2.frozen (p := ⟨w.heap.size, j, none⟩) hlt (by simp)).trans hz.2⟩
  · intro hm
    simp at hm
    have := hrow.lt _ hm
    omega
theorem after_set2 (n : Nat) (w0 w2 w3 : World) (v : Value) (b : Nat) (hrow : Row w2 v []) (hk : Keep [] w0 w2) (hf : Fresh w0 w2 v) (hb0 : w0.heap.size ≤ b) (hoff : b ∉ v.ownBlock.toList) (h1 : Keep [b] w2 w3)
    (h2 : ∀ j, j < ndN (dF n) → w3.cell? ⟨b, j, none⟩ = some (.int .u8 ((Lib.dg (dF n) (ndN (dF n) - 1 - j)).toNat : Int))) (h3 : ∀ j, ndN (dF n) ≤ j → j < 32 → w3.cell? ⟨b, j, none⟩ = some (.int .u8 0)) : Fm w0 w3 v [] b 32 (digD n) := by
  have hlen := digD_len n
  have hne : digD n ≠ [] := fun h => by rw [h] at hlen; cases hlen
  refine ⟨hrow.keep h1 (fun k hk hn => ?_), ⟨some ⟨b, 0, none⟩, 32, by rw [hlen], by rw [hlen]; decide, by decide, (by intro h; cases h), fun _ => ⟨b, 0, rfl, fun j hj => ?_⟩⟩, hne, hoff, hk.more h1 (fun x hx => .inr ?_), hf.later h1.size⟩
  · simp at hn; subst hn; exact hoff (by simp [hk])
  · rw [Nat.zero_add]
    rw [hlen] at hj
    have hg : (digD n).getD j 0 = if j < ndN (dF n) then Lib.dg (dF n) (ndN (dF n) - 1 - j) else 0 := by
      unfold digD
      rw [List.getD_eq_getElem?_getD, List.getElem?_map, List.getElem?_range hj]
      rfl
    rw [hg]
    by_cases h8 : j < ndN (dF n)
    · rw [h2 j h8, if_pos h8]
    · rw [h3 j (by omega) hj, if_neg h8]
      rfl
  · simp at hx; subst hx; exact hb0
end Go.Proofs.YtnljpbpphdhnpaaGreatDoor
