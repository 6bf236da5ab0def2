/- Conditions: the kind of what comes of two kinds; of a part. -/
import Derived.Test.YtplbclokoffgkaaGreatDoorCdT

namespace Go.Proofs.YtplbclokoffgkaaGreatDoor
open Go.RowKit Go.PlainAid

/-- the kind of what comes of such kinds, of what is reckoned and compared -/
def resK (k a b : Int) : Int := if k = 3 then numK a a else if 5 ≤ k ∧ k ≤ 8 then numK a b else if a = b ∨ numK a b ≠ 0 then 1 else 0

set_option maxHeartbeats 1600000 in
theorem result_minus (a b : Int) (w : World) : Calls Tryz.prog 40 #[.int .i64 3, .agg #[.int .i64 a, .int .i64 b]] w fun e w' => e = .returned (.int .i64 (numK a a)) ∧ Keep [] w w' := by
  have hN := fun w1 => numberKind_any a a w1
  go_enter Tryz.func40, Tryz.ntmps40
  go_wp2_with fail
  refine (hN _).mono ?_
  rintro e9 w9 ⟨rfl, hw9⟩
  obtain rfl := hw9.symm
  clear hw9
  go_wp2
  go_ret
  exact ⟨rfl, Keep.alloc1 _ _⟩
set_option maxHeartbeats 1600000 in
theorem result_reckon (k a b : Int) (hk : k = 5 ∨ k = 6 ∨ k = 7 ∨ k = 8) (w : World) : Calls Tryz.prog 40 #[.int .i64 k, .agg #[.int .i64 a, .int .i64 b]] w fun e w' => e = .returned (.int .i64 (numK a b)) ∧ Keep [] w w' := by
  have hN := fun w1 => numberKind_any a b w1
  rcases hk with rfl | rfl | rfl | rfl
  all_goals
    go_enter Tryz.func40, Tryz.ntmps40
    go_wp2_with fail
    refine (hN _).mono ?_
    rintro e9 w9 ⟨rfl, hw9⟩
    obtain rfl := hw9.symm
    clear hw9
    go_wp2
    go_ret
    exact ⟨rfl, Keep.alloc1 _ _⟩
set_option maxHeartbeats 1600000 in
theorem result_cmp (k a b : Int) (hk : 9 ≤ k ∧ k ≤ 14) (w : World) : Calls Tryz.prog 40 #[.int .i64 k, .agg #[.int .i64 a, .int .i64 b]] w fun e w' => e = .returned (.int .i64 (if a = b ∨ numK a b ≠ 0 then 1 else 0)) ∧ Keep [] w w' := by
  have hN := fun w1 => numberKind_any a b w1
  have hB := fun (y : Bool) w1 => boolIf_any y w1
  have b3 : (k == 3) = false := by simp; omega
  have b4 : (k == 4) = false := by simp; omega
  have b5 : (k == 5) = false := by simp; omega
  have b6 : (k == 6) = false := by simp; omega
  have b7 : (k == 7) = false := by simp; omega
  have b8 : (k == 8) = false := by simp; omega
  have b15 : (k == 15) = false := by simp; omega
  have b16 : (k == 16) = false := by simp; omega
  have b17 : (k == 17) = false := by simp; omega
  clear hk
  by_cases hab : a = b
  · subst hab
    have he : (a == a) = true := by simp
    have e : (if a = a ∨ numK a a ≠ 0 then (1 : Int) else 0) = 1 := if_pos (.inl rfl)
    rw [e]
    clear e
    go_enter Tryz.func40, Tryz.ntmps40
    go_wp2_with fail
    refine (hB true _).mono ?_
    rintro e9 w9 ⟨rfl, hw9⟩
    obtain rfl := hw9.symm
    clear hw9
    go_wp2
    go_ret
    exact ⟨rfl, Keep.alloc1 _ _⟩
  · have he : (a == b) = false := by simpa using hab
    by_cases hz : numK a b = 0
    · have e : (if a = b ∨ numK a b ≠ 0 then (1 : Int) else 0) = 0 := if_neg (by simp [hab, hz])
      rw [e]
      rw [hz] at hN
      clear e hz
      go_enter Tryz.func40, Tryz.ntmps40
      go_wp2_with fail
      refine (hN _).mono ?_
      rintro e9 w9 ⟨rfl, hw9⟩
      obtain rfl := hw9.symm
      clear hw9
      go_wp2_with fail
      refine (hB false _).mono ?_
      rintro e9 w9 ⟨rfl, hw9⟩
      obtain rfl := hw9.symm
      clear hw9
      go_wp2
      go_ret
      exact ⟨rfl, Keep.alloc1 _ _⟩
    · have e : (if a = b ∨ numK a b ≠ 0 then (1 : Int) else 0) = 1 := if_pos (.inr hz)
      rw [e]
      clear e
      have hzb : (numK a b != 0) = true := by simpa using hz
      clear hz
      generalize numK a b = z at hzb hN
      go_enter Tryz.func40, Tryz.ntmps40
      go_wp2_with fail
      refine (hN _).mono ?_
      rintro e9 w9 ⟨rfl, hw9⟩
      obtain rfl := hw9.symm
      clear hw9
      go_wp2_with fail
      refine (hB true _).mono ?_
      rintro e9 w9 ⟨rfl, hw9⟩
      obtain rfl := hw9.symm
      clear hw9
      go_wp2
      go_ret
      exact ⟨rfl, Keep.alloc1 _ _⟩

/-- the first of a row of ints that is 0 -/
theorem index_two (b x y k : Int) (g n : Nat) (w : World) (hn : n ≤ 2) (h0 : w.cell? ⟨g, 0, none⟩ = some (.int .i64 x)) (h1 : w.cell? ⟨g, 1, none⟩ = some (.int .i64 y)) (hb : b = 0) (hk : k = if 1 ≤ n ∧ x = 0 then 0 else if 2 ≤ n ∧ y = 0 then 1 else -1) :
    Calls Tryz.prog 61 #[.slice (some ⟨g, 0, none⟩) n 2, .int .i64 b] w fun e w' => e = .returned (.int .i64 k) ∧ w' = w := by
  subst hb
  match n, hn with
  | 0, _ =>
    have hk2 : k = -1 := by rw [hk]; simp
    clear hk
    subst hk2
    go_enter Tryz.func61, Tryz.ntmps61
    go_wp2
    go_loop [8] (fun iv => iv = .int .i64 0) (fun _ => 1)
    case atStart => rfl
    case round =>
      subst hrel
      go_wp2
      go_ret
      exact ⟨rfl, rfl⟩
  | 1, _ =>
    by_cases hx : x = 0
    · subst hx
      have hk2 : k = 0 := by rw [hk]; simp
      clear hk
      subst hk2
      go_enter Tryz.func61, Tryz.ntmps61
      go_wp2
      go_loop [8] (fun iv => iv = .int .i64 0) (fun _ => 1)
      case atStart => rfl
      case round =>
        subst hrel
        go_wp2
        go_ret
        exact ⟨rfl, rfl⟩
    · have hk2 : k = -1 := by rw [hk]; simp [hx]
      clear hk
      subst hk2
      have hxb : ((0 : Int) == x) = false := by simp; omega
      go_enter Tryz.func61, Tryz.ntmps61
      go_wp2
      go_loop [8] (fun iv => iv = .int .i64 0 ∨ iv = .int .i64 1) (fun iv => 1 - (intOf iv).toNat)
      case atStart => exact .inl rfl
      case round =>
        rcases hrel with rfl | rfl
        · go_wp2
          go_round
          case rel => exact .inr rfl
          case measure => simp [intOf]
        · go_wp2
          go_ret
          exact ⟨rfl, rfl⟩
  | 2, _ =>
    by_cases hx : x = 0
    · subst hx
      have hk2 : k = 0 := by rw [hk]; simp
      clear hk
      subst hk2
      go_enter Tryz.func61, Tryz.ntmps61
      go_wp2
      go_loop [8] (fun iv => iv = .int .i64 0) (fun _ => 1)
      case atStart => rfl
      case round =>
        subst hrel
        go_wp2
        go_ret
        exact ⟨rfl, rfl⟩
    · have hxb : ((0 : Int) == x) = false := by simp; omega
      by_cases hy : y = 0
      · subst hy
        have hk2 : k = 1 := by rw [hk]; simp [hx]
        clear hk
        subst hk2
        go_enter Tryz.func61, Tryz.ntmps61
        go_wp2
        go_loop [8] (fun iv => iv = .int .i64 0 ∨ iv = .int .i64 1) (fun iv => 2 - (intOf iv).toNat)
        case atStart => exact .inl rfl
        case round =>
          rcases hrel with rfl | rfl
          · go_wp2
            go_round
            case rel => exact .inr rfl
            case measure => simp [intOf]
          · go_wp2
            go_ret
            exact ⟨rfl, rfl⟩
      · have hk2 : k = -1 := by rw [hk]; simp [hx, hy]
        clear hk
        subst hk2
        have hyb : ((0 : Int) == y) = false := by simp; omega
        go_enter Tryz.func61, Tryz.ntmps61
        go_wp2
        go_loop [8] (fun iv => iv = .int .i64 0 ∨ iv = .int .i64 1 ∨ iv = .int .i64 2) (fun iv => 2 - (intOf iv).toNat)
        case atStart => exact .inl rfl
        case round =>
          rcases hrel with rfl | rfl | rfl
          · go_wp2
            go_round
            case rel => exact .inr (.inl rfl)
            case measure => simp [intOf]
          · go_wp2
            go_round
            case rel => exact .inr (.inr rfl)
            case measure => simp [intOf]
          · go_wp2
            go_ret
            exact ⟨rfl, rfl⟩
end Go.Proofs.YtplbclokoffgkaaGreatDoor

/- Conditions: the kind of a part. -/
namespace Go.Proofs.YtplbclokoffgkaaGreatDoor
open Go.RowKit Go.PlainAid

def hasZ (n : Nat) (x y : Int) : Bool := (decide (1 ≤ n) && decide (x = 0)) || (decide (2 ≤ n) && decide (y = 0))
theorem contains_two (x y : Int) (g n : Nat) (w : World) (hn : n ≤ 2) (h0 : w.cell? ⟨g, 0, none⟩ = some (.int .i64 x)) (h1 : w.cell? ⟨g, 1, none⟩ = some (.int .i64 y)) :
    Calls Tryz.prog 39 #[.slice (some ⟨g, 0, none⟩) n 2, .int .i64 0] w fun e w' => e = .returned (.bool (hasZ n x y)) ∧ w' = w := by
  obtain ⟨k, hk⟩ : ∃ k : Int, k = if 1 ≤ n ∧ x = 0 then 0 else if 2 ≤ n ∧ y = 0 then 1 else -1 := ⟨_, rfl⟩
  have hI := index_two 0 x y k g n w hn h0 h1 rfl hk
  have he : hasZ n x y = decide (0 ≤ k) := by
    unfold hasZ
    rw [hk]
    by_cases h2 : 1 ≤ n ∧ x = 0
    · rw [if_pos h2]; simp [h2.1, h2.2]
    · rw [if_neg h2]
      by_cases h3 : 2 ≤ n ∧ y = 0
      · rw [if_pos h3]; simp [h3.1, h3.2]
      · rw [if_neg h3]
        simp only [show decide ((0 : Int) ≤ -1) = false from rfl, Bool.or_eq_false_iff, Bool.and_eq_false_iff, decide_eq_false_iff_not]
        omega
  rw [he]
  clear hk he h0 h1
  by_cases hp : 0 ≤ k
  · rw [decide_eq_true hp]
    go_enter Tryz.func39, Tryz.ntmps39
    go_wp2_with fail
    refine hI.mono ?_
    rintro e9 w9 ⟨rfl, hw9⟩
    obtain rfl := hw9.symm
    clear hw9
    go_wp2
    go_ret
    exact ⟨rfl, rfl⟩
  · rw [decide_eq_false hp]
    go_enter Tryz.func39, Tryz.ntmps39
    go_wp2_with fail
    refine hI.mono ?_
    rintro e9 w9 ⟨rfl, hw9⟩
    obtain rfl := hw9.symm
    clear hw9
    go_wp2
    go_ret
    exact ⟨by simp [hp], rfl⟩

def errK (k e : Int) : Int := if k = 0 then e else 0
/-- the kind of a part that is made of the kinds a and b, and the error -/
def pk (ps : List PD) (x : Pt) (a b : Int) : Int × Int :=
  if x.kind = 1 then (x.vk, errK x.vk 70) else if x.kind = 2 then (pKind ps x.nm, errK (pKind ps x.nm) 71)
  else if hasZ (madeN x.kind).toNat a b = true then (0, 0) else (resK x.kind a b, errK (resK x.kind a b) 70)

set_option maxRecDepth 1000000 in
set_option maxHeartbeats 3200000 in
theorem partKind_leaf (nm : ByteArray) (ps : List PD) (vp vx : Value) (x : Pt) (a b R E : Int) (w : World) (hp : Pm w vp ps) (hx : (x.kind = 1 ∧ R = x.vk ∧ E = errK x.vk 70) ∨ (x.kind = 2 ∧ R = pKind ps x.nm ∧ E = errK (pKind ps x.nm) 71)) :
    Calls Tryz.prog 20 #[.agg #[.string nm, vp, vx], x.val, .agg #[.int .i64 a, .int .i64 b]] w fun e w' => e = .returned (.tuple #[.int .i64 R, .int .i64 E]) ∧ Keep [] w w' := by
  have HK : Hid (Keep [] w (((w.alloc (.cells #[.string nm, vp, vx] 25)).alloc (.cells x.cells 36)).alloc (.cells #[.int .i64 a, .int .i64 b] 69))) := ((Keep.alloc1 _ _).alloc _).alloc _
  have hPK := paramKind_any vp ps x.nm (((w.alloc (.cells #[.string nm, vp, vx] 25)).alloc (.cells x.cells 36)).alloc (.cells #[.int .i64 a, .int .i64 b] 69)) (hp.keep0 HK.out)
  obtain ⟨k, s, vk, vi⟩ := x
  simp only at hx hPK HK ⊢
  clear hp
  rcases hx with ⟨rfl, hR, hE⟩ | ⟨rfl, hR, hE⟩
  · clear hPK
    subst hR
    by_cases hz : R = 0
    · subst hz
      have : E = 70 := hE
      subst this
      clear hE
      go_enter Tryz.func20, Tryz.ntmps20
      go_wp2
      refine bodyPost_ret (v := .tuple #[.int .i64 (0), .int .i64 (70)]) (by simp [results, Tryz.results20, go_sem]) rfl ⟨rfl, HK.out⟩
    · have hzb : (R == 0) = false := by simpa using hz
      have : E = 0 := by rw [hE]; exact if_neg hz
      subst this
      clear hE hz
      go_enter Tryz.func20, Tryz.ntmps20
      go_wp2
      refine bodyPost_ret (v := .tuple #[.int .i64 (R), .int .i64 (0)]) (by simp [results, Tryz.results20, go_sem]) rfl ⟨rfl, HK.out⟩
  · rw [← hR] at hPK hE
    clear hR
    by_cases hz : R = 0
    · subst hz
      have : E = 71 := hE
      subst this
      clear hE
      go_enter Tryz.func20, Tryz.ntmps20
      go_wp2_with fail
      refine hPK.mono ?_
      rintro e9 w9 ⟨rfl, k9⟩
      have HK9 : Hid (Keep [] w w9) := HK.out.trans' k9
      clear k9
      go_wp2
      refine bodyPost_ret (v := .tuple #[.int .i64 (0), .int .i64 (71)]) (by simp [results, Tryz.results20, go_sem]) rfl ⟨rfl, HK9.out⟩
    · have hzb : (R == 0) = false := by simpa using hz
      have : E = 0 := by rw [hE]; exact if_neg hz
      subst this
      clear hE hz
      go_enter Tryz.func20, Tryz.ntmps20
      go_wp2_with fail
      refine hPK.mono ?_
      rintro e9 w9 ⟨rfl, k9⟩
      have HK9 : Hid (Keep [] w w9) := HK.out.trans' k9
      clear k9
      go_wp2
      refine bodyPost_ret (v := .tuple #[.int .i64 (R), .int .i64 (0)]) (by simp [results, Tryz.results20, go_sem]) rfl ⟨rfl, HK9.out⟩
end Go.Proofs.YtplbclokoffgkaaGreatDoor

/- Conditions: the kind of a part that is made of others. -/
namespace Go.Proofs.YtplbclokoffgkaaGreatDoor
open Go.RowKit Go.PlainAid

set_option maxRecDepth 1000000 in
set_option maxHeartbeats 3200000 in
theorem partKind_op (nm : ByteArray) (vp vx : Value) (k a b R : Int) (m : Nat) (w : World) (hk3 : 3 ≤ k) (hm : madeN k = (m : Int)) (hm2 : m ≤ 2) (hR : ∀ w1, Calls Tryz.prog 40 #[.int .i64 k, .agg #[.int .i64 a, .int .i64 b]] w1 fun e w' => e = .returned (.int .i64 R) ∧ Keep [] w1 w') :
    Calls Tryz.prog 20 #[.agg #[.string nm, vp, vx], .agg #[.int .i64 k, .string ⟨#[]⟩, .int .i64 0, .bool false, .int .i64 0, .float .f32 0, .string ⟨#[]⟩, .slice none 0 0], .agg #[.int .i64 a, .int .i64 b]] w fun e w' => e = .returned (.tuple #[.int .i64 (if hasZ m a b = true then 0 else R), .int .i64 (if hasZ m a b = true then 0 else errK R 70)]) ∧ Keep [] w w' := by
  have HK : Hid (Keep [] w (((w.alloc (.cells #[.string nm, vp, vx] 25)).alloc (.cells (Pt.mk k ⟨#[]⟩ 0 0).cells 36)).alloc (.cells #[.int .i64 a, .int .i64 b] 69))) := ((Keep.alloc1 _ _).alloc _).alloc _
  have hM := fun w1 => made_any k w1
  rw [hm] at hM
  have hmi : (m : Int) ≤ 2 := by omega
  have hC := contains_two a b (w.heap.size + 2) m (((w.alloc (.cells #[.string nm, vp, vx] 25)).alloc (.cells (Pt.mk k ⟨#[]⟩ 0 0).cells 36)).alloc (.cells #[.int .i64 a, .int .i64 b] 69)) hm2 (by go_simp) (by go_simp)
  have b1 : (k == 1) = false := by simp; omega
  have b2 : (k == 2) = false := by simp; omega
  have hm0 : (0 : Int) ≤ (m : Int) := by omega
  clear hk3 hm
  cases hz : hasZ m a b
  · rw [hz] at hC
    simp only [Bool.false_eq_true, if_false]
    clear hz
    by_cases hr : R = 0
    · subst hr
      have e : errK 0 70 = 70 := rfl
      rw [e]
      go_enter Tryz.func20, Tryz.ntmps20
      go_wp2_with fail
      refine (hM _).mono ?_
      rintro e9 w9 ⟨rfl, hw9⟩
      obtain rfl := hw9.symm
      clear hw9
      go_wp2_with fail
      refine hC.mono ?_
      rintro e9 w9 ⟨rfl, hw9⟩
      obtain rfl := hw9.symm
      clear hw9
      go_wp2_with fail
      refine (hR _).mono ?_
      rintro e9 w9 ⟨rfl, k9⟩
      have HK9 : Hid (Keep [] w w9) := HK.out.trans' k9
      clear k9
      go_wp2
      refine bodyPost_ret (v := .tuple #[.int .i64 0, .int .i64 70]) (by simp [results, Tryz.results20, go_sem]) rfl ⟨rfl, HK9.out⟩
    · have hrb : (R == 0) = false := by simpa using hr
      have e : errK R 70 = 0 := if_neg hr
      rw [e]
      clear hr e
      go_enter Tryz.func20, Tryz.ntmps20
      go_wp2_with fail
      refine (hM _).mono ?_
      rintro e9 w9 ⟨rfl, hw9⟩
      obtain rfl := hw9.symm
      clear hw9
      go_wp2_with fail
      refine hC.mono ?_
      rintro e9 w9 ⟨rfl, hw9⟩
      obtain rfl := hw9.symm
      clear hw9
      go_wp2_with fail
      refine (hR _).mono ?_
      rintro e9 w9 ⟨rfl, k9⟩
      have HK9 : Hid (Keep [] w w9) := HK.out.trans' k9
      clear k9
      go_wp2
      refine bodyPost_ret (v := .tuple #[.int .i64 R, .int .i64 0]) (by simp [results, Tryz.results20, go_sem]) rfl ⟨rfl, HK9.out⟩
  · rw [hz] at hC
    simp only [if_true]
    clear hz
    · skip
      go_enter Tryz.func20, Tryz.ntmps20
      go_wp2_with fail
      refine (hM _).mono ?_
      rintro e9 w9 ⟨rfl, hw9⟩
      obtain rfl := hw9.symm
      clear hw9
      go_wp2_with fail
      refine hC.mono ?_
      rintro e9 w9 ⟨rfl, hw9⟩
      obtain rfl := hw9.symm
      clear hw9
      go_wp2
      refine bodyPost_ret (v := .tuple #[.int .i64 0, .int .i64 0]) (by simp [results, Tryz.results20, go_sem]) rfl ⟨rfl, HK.out⟩
end Go.Proofs.YtplbclokoffgkaaGreatDoor

/- Conditions: what kindFault asks of each part (its closure). -/
namespace Go.Proofs.YtplbclokoffgkaaGreatDoor
open Go.RowKit Go.PlainAid

/-- the partKind of the part at i, whatever lies elsewhere -/
def PkAt (w : World) (nm : ByteArray) (vp vx : Value) (x : Pt) (a b R E : Int) : Prop := ∀ w1, Keep [] w w1 → Calls Tryz.prog 20 #[.agg #[.string nm, vp, vx], .agg #[.int .i64 x.kind, .string x.nm, .int .i64 x.vk, .bool false, .int .i64 x.vi, .float .f32 0, .string ⟨#[]⟩, .slice none 0 0], .agg #[.int .i64 a, .int .i64 b]] w1 fun e w' => e = .returned (.tuple #[.int .i64 R, .int .i64 E]) ∧ Keep [] w1 w'

set_option maxRecDepth 1000000 in
set_option maxHeartbeats 3200000 in
theorem kinds_one (nm : ByteArray) (vp vx : Value) (xs : List Pt) (i C B A : Nat) (a b R E : Int) (w : World) (hx : Pp w vx xs) (hi : i < xs.length)
    (c0 : w.cell? ⟨C, 0, none⟩ = some (.string nm)) (c1 : w.cell? ⟨C, 1, none⟩ = some vp) (c2 : w.cell? ⟨C, 2, none⟩ = some vx)
    (hP : PkAt w nm vp vx xs[i] a b R E) (e0 e1 : Int) (d0 : w.cell? ⟨B, 0, none⟩ = some (.int .i64 e0)) (d1 : w.cell? ⟨A, 0, none⟩ = some (.int .i64 e1)) (f0 : w.frozen? ⟨B, 0, none⟩ = false) (f1 : w.frozen? ⟨A, 0, none⟩ = false) (hAB : A ≠ B) :
    Calls Tryz.prog 19 #[.int .i64 (i : Int), .agg #[.int .i64 a, .int .i64 b], .pointer (some ⟨C, 0, none⟩), .pointer (some ⟨B, 0, none⟩), .pointer (some ⟨A, 0, none⟩)] w fun e w' => e = .returned (.int .i64 R) ∧ Keep [B, A] w w' ∧
      w'.cell? ⟨B, 0, none⟩ = some (.int .i64 (if E = 0 then e0 else E)) ∧ w'.cell? ⟨A, 0, none⟩ = some (.int .i64 (if E = 0 then e1 else (i : Int))) ∧ w'.frozen? ⟨B, 0, none⟩ = false ∧ w'.frozen? ⟨A, 0, none⟩ = false := by
  obtain ⟨g, o, ca, rfl, y0, y1, y2, y3, y4, y5, y6, y7⟩ := hx.at i hi
  have hil : (i : Int) < (xs.length : Int) := by omega
  generalize xs[i] = x at y0 y1 y2 y4 hP
  obtain ⟨xk, xn, xv, xi⟩ := x
  simp only at y0 y1 y2 y4
  have HD : Hid (w.cell? ⟨B, 0, none⟩ = some (.int .i64 e0) ∧ w.cell? ⟨A, 0, none⟩ = some (.int .i64 e1) ∧ w.frozen? ⟨B, 0, none⟩ = false ∧ w.frozen? ⟨A, 0, none⟩ = false) := ⟨d0, d1, f0, f1⟩
  have HP : Hid _ := hP ((w.alloc (.cells #[.int .i64 a, .int .i64 b] 69)).drew) (Keep.alloc1 _ _).drew
  have q0 := (Keep.alloc1 w (.cells #[.int .i64 a, .int .i64 b] 69)).cell' y0 (by simp)
  have q1 := (Keep.alloc1 w (.cells #[.int .i64 a, .int .i64 b] 69)).cell' y1 (by simp)
  have q2 := (Keep.alloc1 w (.cells #[.int .i64 a, .int .i64 b] 69)).cell' y2 (by simp)
  have q3 := (Keep.alloc1 w (.cells #[.int .i64 a, .int .i64 b] 69)).cell' y3 (by simp)
  have q4 := (Keep.alloc1 w (.cells #[.int .i64 a, .int .i64 b] 69)).cell' y4 (by simp)
  have q5 := (Keep.alloc1 w (.cells #[.int .i64 a, .int .i64 b] 69)).cell' y5 (by simp)
  have q6 := (Keep.alloc1 w (.cells #[.int .i64 a, .int .i64 b] 69)).cell' y6 (by simp)
  have q7 := (Keep.alloc1 w (.cells #[.int .i64 a, .int .i64 b] 69)).cell' y7 (by simp)
  have r0 := (Keep.alloc1 w (.cells #[.int .i64 a, .int .i64 b] 69)).cell' c0 (by simp)
  have r1 := (Keep.alloc1 w (.cells #[.int .i64 a, .int .i64 b] 69)).cell' c1 (by simp)
  have r2 := (Keep.alloc1 w (.cells #[.int .i64 a, .int .i64 b] 69)).cell' c2 (by simp)
  have s0 : (w.alloc (.cells #[.int .i64 a, .int .i64 b] 69)).cell? ⟨w.heap.size, 0, none⟩ = some (.int .i64 a) := by go_simp
  have s1 : (w.alloc (.cells #[.int .i64 a, .int .i64 b] 69)).cell? ⟨w.heap.size, 1, none⟩ = some (.int .i64 b) := by go_simp
  clear hP hx y0 y1 y2 y3 y4 y5 y6 y7 c0 c1 c2 d0 d1 f0 f1
  go_enter Tryz.func19, Tryz.ntmps19
  go_wp2_with fail
  generalize hW : w.alloc (.cells #[.int .i64 a, .int .i64 b] 69) = W at *
  have HW : Hid (Keep [] w W) := by show Keep [] w W; rw [← hW]; exact Keep.alloc1 _ _
  clear hW
  go_region_with (first | (go_at_call 20; refine Calls.mono HP.out ?_; rintro e9 w9 ⟨rfl, k9⟩))
  all_goals
    have K9 : Keep [] w w9 := (HW.out.drew).trans' k9
    have t0 := K9.cell' HD.out.1 (by simp)
    have t1 := K9.cell' HD.out.2.1 (by simp)
    have g0 := (K9.frozen (block_lt_of_cell HD.out.1) (by simp)).trans HD.out.2.2.1
    have g1 := (K9.frozen (block_lt_of_cell HD.out.2.1) (by simp)).trans HD.out.2.2.2
    have HK : Hid (Keep [] w w9) := K9
    clear K9 k9 HP q0 q1 q2 q3 q4 q5 q6 q7 r0 r1 r2 s0 s1 HD
    by_cases hE : E = 0
    · subst hE
      go_wp2
      go_ret
      exact ⟨rfl, HK.out.mono (by simp), t0, t1, g0, g1⟩
    · have hEb : (E != 0) = true := by simpa using hE
      have HE : Hid (E ≠ 0) := hE
      clear hE
      go_wp2
      go_ret
      refine ⟨rfl, ((HK.out.mono (by simp)).setCell (.inl (by simp)) _).setCell (.inl (by simp)) _, ?_, ?_, ?_, ?_⟩
      · try rw [if_neg HE.out]
        have h1 : (w9.setCell ⟨B, 0, none⟩ (.int .i64 E)).cell? ⟨B, 0, none⟩ = some (.int .i64 E) := by simp [go_sem, t0]
        rw [← h1]
        exact World.cell?_of_block ((Keep.set1 (w9.setCell ⟨B, 0, none⟩ (.int .i64 E)) ⟨A, 0, none⟩ (.int .i64 (i : Int))).block B (by have := block_lt_of_cell t0; simpa [World.setCell] using this) (by simpa using fun e => hAB e.symm))
      · try rw [if_neg HE.out]
        have h2 : (w9.setCell ⟨B, 0, none⟩ (.int .i64 E)).cell? ⟨A, 0, none⟩ = some (.int .i64 e1) := (Keep.set1 w9 ⟨B, 0, none⟩ (.int .i64 E)).cell' t1 (by simpa using hAB)
        simp [go_sem, h2]
      · simp [go_sem, g0]
      · simp [go_sem, g1]
end Go.Proofs.YtplbclokoffgkaaGreatDoor
