/- Conditions: the kind of what comes of two kinds; of a part. -/
import Derived.Test.YtplbclokoffgkaaGreatDoorCdT
namespace Go.Proofs.YtplbclokoffgkaaGreatDoor
open Go.RowKit Go.PlainAid

/-- the kind of what comes of such kinds, of what is reckoned and compared -/
def resK (k a b : Int) : Int := if k = 3 then numK a a else if 5 ≤ k ∧ k ≤ 8 then numK a b else if a = b ∨ numK a b ≠ 0 then 1 else 0

set_option maxHeartbeats 1600000 in
theorem result_minus (a b : Int) (w : World) : Calls Tryz.prog 40 #[.int .i64 3, .agg #[.int .i64 a, .int .i64 b]] w fun e w' => e = .returned (.int .i64 (numK a a)) ∧ Keep [] w w' := by
  have hN := fun w1 => numberKind_any a a w1
  go_enter Tryz.func40, Tryz.ntmps40
  go_wp2_with fail
  refine (hN _).mono ?_
  rintro e9 w9 ⟨rfl, hw9⟩
  obtain rfl := hw9.symm
  clear hw9
  go_wp2
  go_ret
  exact ⟨rfl, Keep.alloc1 _ _⟩
set_option maxHeartbeats 1600000 in
theorem result_reckon (k a b : Int) (hk : k = 5 ∨ k = 6 ∨ k = 7 ∨ k = 8) (w : World) : Calls Tryz.prog 40 #[.int .i64 k, .agg #[.int .i64 a, .int .i64 b]] w fun e w' => e = .returned (.int .i64 (numK a b)) ∧ Keep [] w w' := by
  have hN := fun w1 => numberKind_any a b w1
  rcases hk with rfl | rfl | rfl | rfl
  all_goals
    go_enter Tryz.func40, Tryz.ntmps40
    go_wp2_with fail
    refine (hN _).mono ?_
    rintro e9 w9 ⟨rfl, hw9⟩
    obtain rfl := hw9.symm
    clear hw9
    go_wp2
    go_ret
    exact ⟨rfl, Keep.alloc1 _ _⟩
set_option maxHeartbeats 1600000 in
theorem result_cmp (k a b : Int) (hk : 9 ≤ k ∧ k ≤ 14) (w : World) : Calls Tryz.prog 40 #[.int .i64 k, .agg #[.int .i64 a, .int .i64 b]] w fun e w' => e = .returned (.int .i64 (if a = b ∨ numK a b ≠ 0 then 1 else 0)) ∧ Keep [] w w' := by
  have hN := fun w1 => numberKind_any a b w1
  have hB := fun (y : Bool) w1 => boolIf_any y w1
  have b3 : (k == 3) = false := by simp; omega
  have b4 : (k == 4) = false := by simp; omega
  have b5 : (k == 5) = false := by simp; omega
  have b6 : (k == 6) = false := by simp; omega
  have b7 : (k == 7) = false := by simp; omega
  have b8 : (k == 8) = false := by simp; omega
  have b15 : (k == 15) = false := by simp; omega
  have b16 : (k == 16) = false := by simp; omega
  have b17 : (k == 17) = false := by simp; omega
  clear hk
  by_cases hab : a = b
  · subst hab
    have he : (a == a) = true := by simp
    have e : (if a = a ∨ numK a a ≠ 0 then (1 : Int) else 0) = 1 := if_pos (.inl rfl)
    rw [e]
    clear e
    go_enter Tryz.func40, Tryz.ntmps40
    go_wp2_with fail
    refine (hB true _).mono ?_
    rintro e9 w9 ⟨rfl, hw9⟩
    obtain rfl := hw9.symm
    clear hw9
    go_wp2
    go_ret
    exact ⟨rfl, Keep.alloc1 _ _⟩
  · have he : (a == b) = false := by simpa using hab
    by_cases hz : numK a b = 0
    · have e : (if a = b ∨ numK a b ≠ 0 then (1 : Int) else 0) = 0 := if_neg (by simp [hab, hz])
      rw [e]
      rw [hz] at hN
      clear e hz
      go_enter Tryz.func40, Tryz.ntmps40
      go_wp2_with fail
      refine (hN _).mono ?_
      rintro e9 w9 ⟨rfl, hw9⟩
      obtain rfl := hw9.symm
      clear hw9
      go_wp2_with fail
      refine (hB false _).mono ?_
      rintro e9 w9 ⟨rfl, hw9⟩
      obtain rfl := hw9.symm
      clear hw9
      go_wp2
      go_ret
      exact ⟨rfl, Keep.alloc1 _ _⟩
    · have e : (if a = b ∨ numK a b ≠ 0 then (1 : Int) else 0) = 1 := if_pos (.inr hz)
      rw [e]
      clear e
      have hzb : (numK a b != 0) = true := by simpa using hz
      clear hz
      generalize numK a b = z at hzb hN
      go_enter Tryz.func40, Tryz.ntmps40
      go_wp2_with fail
      refine (hN _).mono ?_
      rintro e9 w9 ⟨rfl, hw9⟩
      obtain rfl := hw9.symm
      clear hw9
      go_wp2_with fail
      refine (hB true _).mono ?_
      rintro e9 w9 ⟨rfl, hw9⟩
      obtain rfl := hw9.symm
      clear hw9
      go_wp2
      go_ret
      exact ⟨rfl, Keep.alloc1 _ _⟩

/-- the first of a row of ints that is 0 -/
theorem index_two (b x y k : Int) (g n : Nat) (w : World) (hn : n ≤ 2) (h0 : w.cell? ⟨g, 0, none⟩ = some (.int .i64 x)) (h1 : w.cell? ⟨g, 1, none⟩ = some (.int .i64 y)) (hb : b = 0) (hk : k = if 1 ≤ n ∧ x = 0 then 0 else if 2 ≤ n ∧ y = 0 then 1 else -1) :
    Calls Tryz.prog 61 #[.slice (some ⟨g, 0, none⟩) n 2, .int .i64 b] w fun e w' => e = .returned (.int .i64 k) ∧ w' = w := by
  subst hb
  match n, hn with
  | 0, _ =>
    have hk2 : k = -1 := by rw [hk]; simp
    clear hk
    subst hk2
    go_enter Tryz.func61, Tryz.ntmps61
    go_wp2
    go_loop [8] (fun iv => iv = .int .i64 0) (fun _ => 1)
    case atStart => rfl
    case round =>
      subst hrel
      go_wp2
      go_ret
      exact ⟨rfl, rfl⟩
  | 1, _ =>
    by_cases hx : x = 0
    · subst hx
      have hk2 : k = 0 := by rw [hk]; simp
      clear hk
      subst hk2
      go_enter Tryz.func61, Tryz.ntmps61
      go_wp2
      go_loop [8] (fun iv => iv = .int .i64 0) (fun _ => 1)
      case atStart => rfl
      case round =>
        subst hrel
        go_wp2
        go_ret
        exact ⟨rfl, rfl⟩
    · have hk2 : k = -1 := by rw [hk]; simp [hx]
      clear hk
      subst hk2
      have hxb : ((0 : Int) == x) = false := by simp; omega
      go_enter Tryz.func61, Tryz.ntmps61
      go_wp2
      go_loop [8] (fun iv => iv = .int .i64 0 ∨ iv = .int .i64 1) (fun iv => 1 - (intOf iv).toNat)
      case atStart => exact .inl rfl
      case round =>
        rcases hrel with rfl | rfl
        · go_wp2
          go_round
          case rel => exact .inr rfl
          case measure => simp [intOf]
        · go_wp2
          go_ret
          exact ⟨rfl, rfl⟩
  | 2, _ =>
    by_cases hx : x = 0
    · subst hx
      have hk2 : k = 0 := by rw [hk]; simp
      clear hk
      subst hk2
      go_enter Tryz.func61, Tryz.ntmps61
      go_wp2
      go_loop [8] (fun iv => iv = .int .i64 0) (fun _ => 1)
      case atStart => rfl
      case round =>
        subst hrel
        go_wp2
        go_ret
        exact ⟨rfl, rfl⟩
    · have hxb : ((0 : Int) == x) = false := by simp; omega
      by_cases hy : y = 0
      · subst hy
        have hk2 : k = 1 := by rw [hk]; simp [hx]
        clear hk
        subst hk2
        go_enter Tryz.func61, Tryz.ntmps61
        go_wp2
        go_loop [8] (fun iv => iv = .int .i64 0 ∨ iv = .int .i64 1) (fun iv => 2 - (intOf iv).toNat)
        case atStart => exact .inl rfl
        case round =>
          rcases hrel with rfl | rfl
          · go_wp2
            go_round
            case rel => exact .inr rfl
            case measure => simp [intOf]
          · go_wp2
            go_ret
            exact ⟨rfl, rfl⟩
      · have hk2 : k = -1 := by rw [hk]; simp [hx, hy]
        clear hk
        subst hk2
        have hyb : ((0 : Int) == y) = false := by simp; omega
        go_enter Tryz.func61, Tryz.ntmps61
        go_wp2
        go_loop [8] (fun iv => iv = .int .i64 0 ∨ iv = .int .i64 1 ∨ iv = .int .i64 2) (fun iv => 2 - (intOf iv).toNat)
        case atStart => exact .inl rfl
        case round =>
          rcases hrel with rfl | rfl | rfl
          · go_wp2
            go_round
            case rel => exact .inr (.inl rfl)
            case measure => simp [intOf]
          · go_wp2
            go_round
            case rel => exact .inr (.inr rfl)
            case measure => simp [intOf]
          · go_wp2
            go_ret
            exact ⟨rfl, rfl⟩
end Go.Proofs.YtplbclokoffgkaaGreatDoor
