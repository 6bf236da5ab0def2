/- The bytes of some letters, for every text: what Unarmor answers. -/
import Derived.Test.YtcmembmaaebdeabHelpW
namespace Go.Proofs.Ytcmembmaaebdeab
open Go.RowKit Go.PlainAid Go.Lib

def numC (c : Nat) : Option Nat := if 97 ≤ c ∧ c ≤ 122 then some (c - 97) else if 50 ≤ c ∧ c ≤ 55 then some (c - 50 + 26) else none
def unG : List UInt8 → Nat → Nat → Option (List UInt8)
  | [], h, b => if 5 ≤ b ∨ h % 2 ^ b ≠ 0 then none else some []
  | c :: r, h, b => match numC c.toNat with
    | none => none
    | some x => if 8 ≤ b + 5 then (unG r (32 * h % 4294967296 + x) (b - 3)).map (fun d => ((32 * h % 4294967296 + x) / 2 ^ (b - 3) % 256).toUInt8 :: d) else unG r (32 * h % 4294967296 + x) (b + 5)
def unL (l : List UInt8) : Option (List UInt8) := unG l 0 0

theorem numC_lt (c x : Nat) (h : numC c = some x) : x < 32 := by
  unfold numC at h
  split at h
  · simp at h; omega
  · split at h
    · simp at h; omega
    · simp at h

set_option maxHeartbeats 1600000 in
theorem number_some (c x : Nat) (hc : c < 256) (hx : numC c = some x) (w : World) :
    Calls Try.prog 32 #[.int .u8 (c : Int)] w fun e w' => e = .returned (.tuple #[.int .u32 (x : Int), .bool true]) ∧ w' = w := by
  unfold numC at hx
  by_cases h1 : 97 ≤ c ∧ c ≤ 122
  · rw [if_pos h1] at hx
    simp at hx
    have t1 : (97 : Int) ≤ (c : Int) := by omega
    have t2 : (c : Int) ≤ 122 := by omega
    have HX : Hid ((x : Int) = (c : Int) - 97) := by
      show (x : Int) = (c : Int) - 97
      omega
    clear hx h1
    go_enter Try.func32, Try.ntmps32
    go_wp2
    go_ret2
    exact ⟨by rw [HX.out]; rfl, rfl⟩
  · rw [if_neg h1] at hx
    by_cases h2 : 50 ≤ c ∧ c ≤ 55
    · rw [if_pos h2] at hx
      simp at hx
      have t1 : ¬ ((97 : Int) ≤ (c : Int)) := by omega
      have t2 : (50 : Int) ≤ (c : Int) := by omega
      have t3 : (c : Int) ≤ 55 := by omega
      have HX : Hid ((x : Int) = (c : Int) - 50 + 26) := by
        show (x : Int) = (c : Int) - 50 + 26
        omega
      clear hx h1 h2
      go_enter Try.func32, Try.ntmps32
      go_wp2
      go_ret2
      exact ⟨by rw [HX.out]; rfl, rfl⟩
    · rw [if_neg h2] at hx
      simp at hx

set_option maxHeartbeats 1600000 in
theorem number_none (c : Nat) (hc : c < 256) (hx : numC c = none) (w : World) :
    Calls Try.prog 32 #[.int .u8 (c : Int)] w fun e w' => e = .returned (.tuple #[.int .u32 0, .bool false]) ∧ w' = w := by
  unfold numC at hx
  have h1 : ¬ (97 ≤ c ∧ c ≤ 122) := by intro h; rw [if_pos h] at hx; simp at hx
  rw [if_neg h1] at hx
  have h2 : ¬ (50 ≤ c ∧ c ≤ 55) := by intro h; rw [if_pos h] at hx; simp at hx
  clear hx
  by_cases a1 : 97 ≤ c
  · have t1 : (97 : Int) ≤ (c : Int) := by omega
    have t2 : ¬ ((c : Int) ≤ 122) := by omega
    have t3 : (50 : Int) ≤ (c : Int) := by omega
    have t4 : ¬ ((c : Int) ≤ 55) := by omega
    clear h1 h2
    go_enter Try.func32, Try.ntmps32
    go_wp2
    go_ret2
    exact ⟨rfl, rfl⟩
  · have t1 : ¬ ((97 : Int) ≤ (c : Int)) := by omega
    by_cases a2 : 50 ≤ c
    · have t3 : (50 : Int) ≤ (c : Int) := by omega
      have t4 : ¬ ((c : Int) ≤ 55) := by omega
      clear h1 h2
      go_enter Try.func32, Try.ntmps32
      go_wp2
      go_ret2
      exact ⟨rfl, rfl⟩
    · have t3 : ¬ ((50 : Int) ≤ (c : Int)) := by omega
      clear h1 h2
      go_enter Try.func32, Try.ntmps32
      go_wp2
      go_ret2
      exact ⟨rfl, rfl⟩

theorem shl5_or (h x : Nat) (hx : x < 32) : bits .or .u32 (((32 * h % 4294967296 : Nat)) : Int) (x : Int) = ((32 * h % 4294967296 + x : Nat) : Int) := by
  have hm : 32 * h % 4294967296 < 4294967296 := Nat.mod_lt _ (by omega)
  rw [u32_or_nat _ _ hm (by omega)]
  have e : 32 * h % 4294967296 = 2 ^ 5 * (h % 134217728) := by
    have : (2 : Nat) ^ 5 = 32 := by decide
    rw [this]; omega
  have h5 := Nat.two_pow_add_eq_or_of_lt (i := 5) (b := x) (by simpa using hx) (h % 134217728)
  rw [e, ← h5]

theorem mask_eq (h b : Nat) (hh : h < 4294967296) (hb : b < 5) : bits .and .u32 (h : Int) ((2 ^ b - 1) % 4294967296) = ((h % 2 ^ b : Nat) : Int) := by
  have hp : 2 ^ b < 4294967296 := Nat.lt_of_lt_of_le (Nat.pow_lt_pow_right (by omega) hb) (by decide)
  have h1 : 0 < 2 ^ b := Nat.two_pow_pos b
  have e : (((2 : Int) ^ b - 1) % 4294967296) = ((2 ^ b - 1 : Nat) : Int) := by
    have e2 : (2 : Int) ^ b = ((2 ^ b : Nat) : Int) := by simp
    rw [e2]
    omega
  rw [e, u32_and_nat h (2 ^ b - 1) hh (by omega), Nat.and_two_pow_sub_one_eq_mod]

/-- what Unarmor leaves: the bytes and no error, or nothing and ErrArmor -/
def UnP (w : World) (r : Option (List UInt8)) (v : Value) (e : Int) (w1 : World) : Prop :=
  match r with
  | some d => e = 0 ∧ Row w1 v d ∧ Fresh w w1 v
  | none => e = 22 ∧ v = .slice none 0 0

set_option maxRecDepth 1000000 in
set_option maxHeartbeats 6400000 in
theorem unarmor_any (s : ByteArray) (w : World) (hln : s.size ≤ 1099511627776) :
    Calls Try.prog 12 #[.string s] w fun e w' => ∃ v er, e = .returned (.tuple #[v, .int .i64 er]) ∧ UnP w (unL s.data.toList) v er w' ∧ Keep [] w w' := by
  have hb := get_bt s
  have hll : s.data.toList.length = s.size := by simp
  have hbt : ∀ i, i < s.size → bt s i = ((s.data.toList.getD i 0).toNat : Int) := by
    intro i hi
    rw [← hb i hi, List.getD_eq_getElem?_getD, List.getElem?_eq_getElem (by rw [hll]; exact hi)]
    rfl
  go_enter Try.func12, Try.ntmps12
  go_wp2
  go_loopw [4, 5, 6, 12] (fun ov hv bv iv wr => ∃ (i h b : Nat) (p : List UInt8), iv = .int .i64 (i : Int) ∧ hv = .int .u32 (h : Int) ∧ bv = .int .i64 (b : Int) ∧ h < 4294967296 ∧ b < 8 ∧ i ≤ s.size ∧ p.length ≤ i ∧ unL s.data.toList = (unG (s.data.toList.drop i) h b).map (p ++ ·) ∧ Row wr ov p ∧ Keep [] w wr ∧ Fresh w wr ov)
    (fun _ _ _ iv _ => s.size - (intOf iv).toNat)
  case atStart => exact ⟨0, 0, 0, [], rfl, rfl, rfl, by omega, by omega, Nat.zero_le _, Nat.zero_le _, by simp [unL], Row.nil w, Keep.refl _ _, Fresh.nil _ _⟩
  case round =>
    obtain ⟨i, h, b, p, rfl, rfl, rfl, hh, hb8, hi, hp, hq, hrow, hk, hf⟩ := hrel
    by_cases hil : i < s.size
    · have hili : (i : Int) < (s.size : Int) := by omega
      have hx := hbt i hil
      rw [drop_cons _ i (by rw [hll]; exact hil), unG] at hq
      generalize s.data.toList.getD i 0 = x at hx hq
      have hxl : x.toNat < 256 := x.toNat_lt
      generalize x.toNat = c at hx hq hxl
      have HBT : Hid (∀ i, i < s.size → bt s i = ((s.data.toList.getD i 0).toNat : Int)) := hbt
      cases hc : numC c with
      | none =>
        rw [hc] at hq
        have hN := number_none c hxl hc wr
        have HQ : Hid (unL s.data.toList = none) := by
          show unL s.data.toList = none
          simpa using hq
        have HK : Hid (Keep [] w wr) := hk
        clear hq hbt hrow hk hf
        go_wp2_with (go_at_call 32; refine hN.mono ?_; rintro e9 w9 ⟨rfl, hw9⟩; obtain rfl := hw9.symm)
        go_ret2
        exact ⟨_, _, rfl, by rw [HQ.out]; exact ⟨rfl, rfl⟩, HK.out⟩
      | some y =>
        rw [hc] at hq
        simp only at hq
        have hN := number_some c y hxl hc wr
        have hy32 := numC_lt c y hc
        have hor := shl5_or h y hy32
        have hmod : ((h : Int) * 32) % 4294967296 = ((32 * h % 4294967296 : Nat) : Int) := by omega
        have hH : 32 * h % 4294967296 + y < 4294967296 := by omega
        obtain ⟨H, hHe⟩ : ∃ H, H = 32 * h % 4294967296 + y := ⟨_, rfl⟩
        rw [← hHe] at hq hor hH
        generalize 32 * h % 4294967296 = G at hor hmod hHe
        clear hbt hHe hc
        by_cases h8 : 8 ≤ b + 5
        · rw [if_pos h8] at hq
          have h8i : (8 : Int) ≤ (b : Int) + 5 := by omega
          have hcast : ((H / 2 ^ (b - 3) % 256 : Nat) : Int) = (H : Int) / 2 ^ (b - 3) % 256 := by simp
          have hB := Bs.one wr (H / 2 ^ (b - 3) % 256) (Nat.mod_lt _ (by omega))
          rw [hcast] at hB
          clear hcast
          generalize (H / 2 ^ (b - 3) % 256).toUInt8 = z at hB hq
          have hsrc := hB.src
          have hr2 : Row (wr.alloc (.cells #[.int .u8 ((H : Int) / 2 ^ (b - 3) % 256)] TB)) u4 p := hrow.keep (Keep.alloc1 wr _) (Off.nil _)
          have HB : Hid (p.length + [z].length ≤ 140737488355328) := by
            show p.length + [z].length ≤ 140737488355328
            simp; omega
          have HKF : Hid (Keep [] w wr ∧ Fresh w wr u4) := ⟨hk, hf⟩
          have HQ : Hid (unL s.data.toList = (unG (s.data.toList.drop (i + 1)) H (b - 3)).map ((p ++ [z]) ++ ·)) := by
            show unL s.data.toList = (unG (s.data.toList.drop (i + 1)) H (b - 3)).map ((p ++ [z]) ++ ·)
            rw [hq, Option.map_map]
            congr 1
            funext d
            simp
          clear hq hrow hk hf hB
          go_wp2_with (first
            | (go_at_call 32; refine hN.mono ?_; rintro e9 w9 ⟨rfl, hw9⟩; obtain rfl := hw9.symm)
            | (at_builtin; refine wp_app rfl (.tmp 34) (.tmp 39) 22 22 rfl underS _ p rfl hr2 _ [z] rfl hsrc HB.out ?_))
          intro v' w1 g1 g2 g3 g4
          have HA : Hid (Keep [] w w1 ∧ Fresh w w1 v') := app_fresh HKF.out.1 HKF.out.2 g2 g3
          have HR : Hid (Row w1 v' (p ++ [z])) := g1
          clear g1 g2 g3 g4 hsrc hr2 hN hmod hor
          go_wp2
          go_roundw
          case rel => exact ⟨i + 1, H, b - 3, p ++ [z], by go_num, rfl, by go_num, hH, by omega, by omega, by simp; omega, HQ.out, HR.out, HA.out.1, HA.out.2⟩
          case measure => simp [intOf]; omega
        · rw [if_neg h8] at hq
          have h8i : ¬ ((8 : Int) ≤ (b : Int) + 5) := by omega
          have HQ : Hid (unL s.data.toList = (unG (s.data.toList.drop (i + 1)) H (b + 5)).map (p ++ ·)) := hq
          have HR : Hid (Row wr u4 p ∧ Keep [] w wr ∧ Fresh w wr u4) := ⟨hrow, hk, hf⟩
          clear hq hrow hk hf
          go_wp2_with (go_at_call 32; refine hN.mono ?_; rintro e9 w9 ⟨rfl, hw9⟩; obtain rfl := hw9.symm)
          go_roundw
          case rel => exact ⟨i + 1, H, b + 5, p, by go_num, rfl, by go_num, hH, by omega, by omega, by omega, HQ.out, HR.out.1, HR.out.2.1, HR.out.2.2⟩
          case measure => simp [intOf]; omega
    · have hili : ¬ ((i : Int) < (s.size : Int)) := by omega
      rw [List.drop_of_length_le (by rw [hll]; omega), unG] at hq
      clear hbt
      by_cases h5 : 5 ≤ b
      · rw [if_pos (.inl h5)] at hq
        have h5i : (5 : Int) ≤ (b : Int) := by omega
        have HQ : Hid (unL s.data.toList = none) := by
          show unL s.data.toList = none
          simpa using hq
        have HK : Hid (Keep [] w wr) := hk
        clear hq hrow hk hf
        go_wp2
        go_ret2
        exact ⟨_, _, rfl, by rw [HQ.out]; exact ⟨rfl, rfl⟩, HK.out⟩
      · have h5i : ¬ ((5 : Int) ≤ (b : Int)) := by omega
        have hmk := mask_eq h b hh (by omega)
        by_cases hz : h % 2 ^ b = 0
        · rw [if_neg (by intro hx; rcases hx with hx | hx; exact h5 hx; exact hx hz)] at hq
          have ht : (bits .and .u32 (h : Int) ((2 ^ b - 1) % 4294967296) != 0) = false := by rw [hmk, hz]; rfl
          have HQ : Hid (unL s.data.toList = some p) := by
            show unL s.data.toList = some p
            simpa using hq
          have HR : Hid (Row wr u4 p ∧ Keep [] w wr ∧ Fresh w wr u4) := ⟨hrow, hk, hf⟩
          clear hq hrow hk hf hmk hz
          go_wp2
          go_ret2
          exact ⟨_, _, rfl, by rw [HQ.out]; exact ⟨rfl, HR.out.1, HR.out.2.2⟩, HR.out.2.1⟩
        · rw [if_pos (.inr hz)] at hq
          have ht : (bits .and .u32 (h : Int) ((2 ^ b - 1) % 4294967296) != 0) = true := by
            rw [hmk]
            simp only [bne_iff_ne]
            omega
          have HQ : Hid (unL s.data.toList = none) := by
            show unL s.data.toList = none
            simpa using hq
          have HK : Hid (Keep [] w wr) := hk
          clear hq hrow hk hf hmk hz
          go_wp2
          go_ret2
          exact ⟨_, _, rfl, by rw [HQ.out]; exact ⟨rfl, rfl⟩, HK.out⟩

end Go.Proofs.Ytcmembmaaebdeab

