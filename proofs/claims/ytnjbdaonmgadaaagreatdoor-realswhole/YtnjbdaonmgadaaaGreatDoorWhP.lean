/- The walk of the statement on whole numbers. -/
import Derived.Test.YtnjbdaonmgadaaaGreatDoorPgN
import Derived.Test.YtnjbdaonmgadaaaGreatDoorAwK
namespace Go.Proofs.YtnjbdaonmgadaaaGreatDoor
open Go.RowKit Go.PlainAid

/-- what the calls answer -/
structure WhC (n m : Int) (x y xu xd : Nat) (cc c up dn k : Int) (wh : Bool) (S0 S1 : ByteArray) (w : World) : Prop where
  aw : Calls Tryz.prog 4 #[] w fun e w' => e = .returned (.bool true) ∧ Below w.heap.size w w'
  fx : ∀ w, Calls Tryz.prog 5 #[.int .i64 n] w fun e w' => e = .returned (.float .f32 x) ∧ w' = w
  fy : ∀ w, Calls Tryz.prog 5 #[.int .i64 m] w fun e w' => e = .returned (.float .f32 y) ∧ w' = w
  cm : ∀ w, Calls Tryz.prog 6 #[.float .f32 x, .float .f32 y] w fun e w' => e = .returned (.int .i64 cc) ∧ w' = w
  fi : ∀ w', Below w.heap.size w w' → Calls Tryz.prog 8 #[.int .i64 n, .int .i64 10] w' fun e w'' => e = .returned (.string S0) ∧ Below w'.heap.size w' w''
  pa : ∀ w', Below w.heap.size w w' → Calls Tryz.prog 7 #[.string S1] w' fun e w'' => e = .returned (.tuple #[.float .f32 x, .int .i64 0]) ∧ Below w'.heap.size w' w''
  sa : ∀ w, Calls Tryz.prog 9 #[.float .f32 x, .float .f32 x] w fun e w' => e = .returned (.bool true) ∧ w' = w
  c0 : ∀ w, Calls Tryz.prog 10 #[.float .f32 x, .int .i64 n] w fun e w' => e = .returned (.tuple #[.int .i64 c, .bool true]) ∧ w' = w
  nu : ∀ w, Calls Tryz.prog 11 #[.float .f32 x, .bool true] w fun e w' => e = .returned (.float .f32 xu) ∧ w' = w
  cu : ∀ w, Calls Tryz.prog 10 #[.float .f32 xu, .int .i64 n] w fun e w' => e = .returned (.tuple #[.int .i64 up, .bool true]) ∧ w' = w
  nd : ∀ w, Calls Tryz.prog 11 #[.float .f32 x, .bool false] w fun e w' => e = .returned (.float .f32 xd) ∧ w' = w
  cd : ∀ w, Calls Tryz.prog 10 #[.float .f32 xd, .int .i64 n] w fun e w' => e = .returned (.tuple #[.int .i64 dn, .bool true]) ∧ w' = w
  ti : ∀ w, Calls Tryz.prog 12 #[.float .f32 x] w fun e w' => e = .returned (.tuple #[.int .i64 k, .bool wh]) ∧ w' = w

/-- what is told of the answers -/
structure WhF (n c up dn k : Int) (wh : Bool) : Prop where
  tri : (c = -1 ∧ 0 < up) ∨ c = 0 ∨ (c = 1 ∧ dn < 0)
  small : -16777216 ≤ n → n ≤ 16777216 → wh = true ∧ k = n ∧ c = 0
  big : wh = true → (c = -1 → k < n) ∧ (c = 0 → k = n) ∧ (c = 1 → n < k)

set_option maxRecDepth 1000000 in
set_option maxHeartbeats 8000000 in
theorem way_lt (n m : Int) (x y xu xd : Nat) (cc c up dn k : Int) (wh : Bool) (S0 S1 : ByteArray) (w : World) (h : WhC n m x y xu xd cc c up dn k wh S0 S1 w) (hF : WhF n c up dn k wh) (hS : S0 ++ ⟨#[46, 48]⟩ = S1) (hz : S0.size ≤ 20)
    (t1 : n ≤ m) (t2 : ¬ m ≤ n) (t3 : ¬ 0 < cc) :
    Calls Tryz.prog 3 #[.int .i64 n, .int .i64 m] w fun e w' => e = .returned (.bool true) ∧ Below w.heap.size w w' := by
  have HH : Hid (WhC n m x y xu xd cc c up dn k wh S0 S1 w) := h
  have HF : Hid (WhF n c up dn k wh) := hF
  clear h hF
  go_enter Tryz.func3, Tryz.ntmps3
  go_wp2_with fail
  refine HH.out.aw.mono ?_
  rintro e9 w1 ⟨rfl, hb1⟩
  have HB1 : Hid (Below w.heap.size w w1) := hb1
  clear hb1
  go_wp2_with fail
  refine (HH.out.fx _).mono ?_
  rintro e9 w9 ⟨rfl, hw9⟩
  obtain rfl := hw9.symm
  clear hw9
  go_wp2_with fail
  refine (HH.out.fy _).mono ?_
  rintro e9 w9 ⟨rfl, hw9⟩
  obtain rfl := hw9.symm
  clear hw9
  go_wp2_with fail
  refine (HH.out.cm _).mono ?_
  rintro e9 w9 ⟨rfl, hw9⟩
  obtain rfl := hw9.symm
  clear hw9
  go_wp2_with fail
  refine (HH.out.fi _ HB1.out).mono ?_
  rintro e9 w2 ⟨rfl, hb2⟩
  have HB2 : Hid (Below w.heap.size w w2) := HB1.out.trans (hb2.mono HB1.out.size)
  clear hb2 HB1
  have n1 : ¬ 9223372036854775807 < S0.size + 2 := by omega
  have p2 : (⟨#[46, 48]⟩ : ByteArray).size = 2 := rfl
  go_wp2_with fail
  refine (HH.out.pa _ HB2.out).mono ?_
  rintro e9 w3 ⟨rfl, hb3⟩
  have HB3 : Hid (Below w.heap.size w w3) := HB2.out.trans (hb3.mono HB2.out.size)
  clear hb3 HB2 n1 p2 hS hz
  go_wp2_with fail
  refine (HH.out.sa _).mono ?_
  rintro e9 w9 ⟨rfl, hw9⟩
  obtain rfl := hw9.symm
  clear hw9
  go_wp2_with fail
  refine (HH.out.c0 _).mono ?_
  rintro e9 w9 ⟨rfl, hw9⟩
  obtain rfl := hw9.symm
  clear hw9
  go_wp2_with fail
  refine (HH.out.nu _).mono ?_
  rintro e9 w9 ⟨rfl, hw9⟩
  obtain rfl := hw9.symm
  clear hw9
  go_wp2_with fail
  refine (HH.out.cu _).mono ?_
  rintro e9 w9 ⟨rfl, hw9⟩
  obtain rfl := hw9.symm
  clear hw9
  go_wp2_with fail
  refine (HH.out.nd _).mono ?_
  rintro e9 w9 ⟨rfl, hw9⟩
  obtain rfl := hw9.symm
  clear hw9
  go_wp2_with fail
  refine (HH.out.cd _).mono ?_
  rintro e9 w9 ⟨rfl, hw9⟩
  obtain rfl := hw9.symm
  clear hw9
  rcases HF.out.tri with ⟨rfl, h2⟩ | rfl | ⟨rfl, h2⟩
  · have hup : ¬ up ≤ 0 := by omega
    go_wp2_with fail
    refine (HH.out.ti _).mono ?_
    rintro e9 w9 ⟨rfl, hw9⟩
    obtain rfl := hw9.symm
    clear hw9
    by_cases l1 : -16777216 ≤ n
    · by_cases l2 : n ≤ 16777216
      · obtain ⟨_, _, e3⟩ := HF.out.small l1 l2
        exact absurd e3 (by decide)
      · skip
        cases wh
        · clear HF HH
          go_wp2
          go_ret
          exact ⟨rfl, HB3.out⟩
        · obtain ⟨b1, b2, b3⟩ := HF.out.big rfl
          have k1 := b1 rfl
          have k2 : decide (n < k) = false := decide_eq_false (by omega)
          clear HF HH b1 b2 b3
          go_wp2
          go_ret
          exact ⟨rfl, HB3.out⟩
    · skip
      cases wh
      · clear HF HH
        go_wp2
        go_ret
        exact ⟨rfl, HB3.out⟩
      · obtain ⟨b1, b2, b3⟩ := HF.out.big rfl
        have k1 := b1 rfl
        have k2 : decide (n < k) = false := decide_eq_false (by omega)
        clear HF HH b1 b2 b3
        go_wp2
        go_ret
        exact ⟨rfl, HB3.out⟩
  · skip
    go_wp2_with fail
    refine (HH.out.ti _).mono ?_
    rintro e9 w9 ⟨rfl, hw9⟩
    obtain rfl := hw9.symm
    clear hw9
    by_cases l1 : -16777216 ≤ n
    · by_cases l2 : n ≤ 16777216
      · obtain ⟨e1, e2, _⟩ := HF.out.small l1 l2
        subst e1
        subst e2
        clear HF HH
        go_wp2
        go_ret
        exact ⟨rfl, HB3.out⟩
      · skip
        cases wh
        · clear HF HH
          go_wp2
          go_ret
          exact ⟨rfl, HB3.out⟩
        · obtain ⟨b1, b2, b3⟩ := HF.out.big rfl
          have k1 := b2 rfl
          subst k1
          clear HF HH b1 b2 b3
          go_wp2
          go_ret
          exact ⟨rfl, HB3.out⟩
    · skip
      cases wh
      · clear HF HH
        go_wp2
        go_ret
        exact ⟨rfl, HB3.out⟩
      · obtain ⟨b1, b2, b3⟩ := HF.out.big rfl
        have k1 := b2 rfl
        subst k1
        clear HF HH b1 b2 b3
        go_wp2
        go_ret
        exact ⟨rfl, HB3.out⟩
  · have hdn : ¬ 0 ≤ dn := by omega
    go_wp2_with fail
    refine (HH.out.ti _).mono ?_
    rintro e9 w9 ⟨rfl, hw9⟩
    obtain rfl := hw9.symm
    clear hw9
    by_cases l1 : -16777216 ≤ n
    · by_cases l2 : n ≤ 16777216
      · obtain ⟨_, _, e3⟩ := HF.out.small l1 l2
        exact absurd e3 (by decide)
      · skip
        cases wh
        · clear HF HH
          go_wp2
          go_ret
          exact ⟨rfl, HB3.out⟩
        · obtain ⟨b1, b2, b3⟩ := HF.out.big rfl
          have k1 := b3 rfl
          have k2 : decide (k < n) = false := decide_eq_false (by omega)
          clear HF HH b1 b2 b3
          go_wp2
          go_ret
          exact ⟨rfl, HB3.out⟩
    · skip
      cases wh
      · clear HF HH
        go_wp2
        go_ret
        exact ⟨rfl, HB3.out⟩
      · obtain ⟨b1, b2, b3⟩ := HF.out.big rfl
        have k1 := b3 rfl
        have k2 : decide (k < n) = false := decide_eq_false (by omega)
        clear HF HH b1 b2 b3
        go_wp2
        go_ret
        exact ⟨rfl, HB3.out⟩

set_option maxRecDepth 1000000 in
set_option maxHeartbeats 8000000 in
theorem way_eq (n m : Int) (x y xu xd : Nat) (cc c up dn k : Int) (wh : Bool) (S0 S1 : ByteArray) (w : World) (h : WhC n m x y xu xd cc c up dn k wh S0 S1 w) (hF : WhF n c up dn k wh) (hS : S0 ++ ⟨#[46, 48]⟩ = S1) (hz : S0.size ≤ 20)
    (t0 : n = m) (t3 : cc = 0) :
    Calls Tryz.prog 3 #[.int .i64 n, .int .i64 m] w fun e w' => e = .returned (.bool true) ∧ Below w.heap.size w w' := by
  subst t0
  subst t3
  have HH : Hid (WhC n n x y xu xd 0 c up dn k wh S0 S1 w) := h
  have HF : Hid (WhF n c up dn k wh) := hF
  clear h hF
  go_enter Tryz.func3, Tryz.ntmps3
  go_wp2_with fail
  refine HH.out.aw.mono ?_
  rintro e9 w1 ⟨rfl, hb1⟩
  have HB1 : Hid (Below w.heap.size w w1) := hb1
  clear hb1
  go_wp2_with fail
  refine (HH.out.fx _).mono ?_
  rintro e9 w9 ⟨rfl, hw9⟩
  obtain rfl := hw9.symm
  clear hw9
  go_wp2_with fail
  refine (HH.out.fy _).mono ?_
  rintro e9 w9 ⟨rfl, hw9⟩
  obtain rfl := hw9.symm
  clear hw9
  go_wp2_with fail
  refine (HH.out.cm _).mono ?_
  rintro e9 w9 ⟨rfl, hw9⟩
  obtain rfl := hw9.symm
  clear hw9
  go_wp2_with fail
  refine (HH.out.cm _).mono ?_
  rintro e9 w9 ⟨rfl, hw9⟩
  obtain rfl := hw9.symm
  clear hw9
  go_wp2_with fail
  refine (HH.out.fi _ HB1.out).mono ?_
  rintro e9 w2 ⟨rfl, hb2⟩
  have HB2 : Hid (Below w.heap.size w w2) := HB1.out.trans (hb2.mono HB1.out.size)
  clear hb2 HB1
  have n1 : ¬ 9223372036854775807 < S0.size + 2 := by omega
  have p2 : (⟨#[46, 48]⟩ : ByteArray).size = 2 := rfl
  go_wp2_with fail
  refine (HH.out.pa _ HB2.out).mono ?_
  rintro e9 w3 ⟨rfl, hb3⟩
  have HB3 : Hid (Below w.heap.size w w3) := HB2.out.trans (hb3.mono HB2.out.size)
  clear hb3 HB2 n1 p2 hS hz
  go_wp2_with fail
  refine (HH.out.sa _).mono ?_
  rintro e9 w9 ⟨rfl, hw9⟩
  obtain rfl := hw9.symm
  clear hw9
  go_wp2_with fail
  refine (HH.out.c0 _).mono ?_
  rintro e9 w9 ⟨rfl, hw9⟩
  obtain rfl := hw9.symm
  clear hw9
  go_wp2_with fail
  refine (HH.out.nu _).mono ?_
  rintro e9 w9 ⟨rfl, hw9⟩
  obtain rfl := hw9.symm
  clear hw9
  go_wp2_with fail
  refine (HH.out.cu _).mono ?_
  rintro e9 w9 ⟨rfl, hw9⟩
  obtain rfl := hw9.symm
  clear hw9
  go_wp2_with fail
  refine (HH.out.nd _).mono ?_
  rintro e9 w9 ⟨rfl, hw9⟩
  obtain rfl := hw9.symm
  clear hw9
  go_wp2_with fail
  refine (HH.out.cd _).mono ?_
  rintro e9 w9 ⟨rfl, hw9⟩
  obtain rfl := hw9.symm
  clear hw9
  rcases HF.out.tri with ⟨rfl, h2⟩ | rfl | ⟨rfl, h2⟩
  · have hup : ¬ up ≤ 0 := by omega
    go_wp2_with fail
    refine (HH.out.ti _).mono ?_
    rintro e9 w9 ⟨rfl, hw9⟩
    obtain rfl := hw9.symm
    clear hw9
    by_cases l1 : -16777216 ≤ n
    · by_cases l2 : n ≤ 16777216
      · obtain ⟨_, _, e3⟩ := HF.out.small l1 l2
        exact absurd e3 (by decide)
      · skip
        cases wh
        · clear HF HH
          go_wp2
          go_ret
          exact ⟨rfl, HB3.out⟩
        · obtain ⟨b1, b2, b3⟩ := HF.out.big rfl
          have k1 := b1 rfl
          have k2 : decide (n < k) = false := decide_eq_false (by omega)
          clear HF HH b1 b2 b3
          go_wp2
          go_ret
          exact ⟨rfl, HB3.out⟩
    · skip
      cases wh
      · clear HF HH
        go_wp2
        go_ret
        exact ⟨rfl, HB3.out⟩
      · obtain ⟨b1, b2, b3⟩ := HF.out.big rfl
        have k1 := b1 rfl
        have k2 : decide (n < k) = false := decide_eq_false (by omega)
        clear HF HH b1 b2 b3
        go_wp2
        go_ret
        exact ⟨rfl, HB3.out⟩
  · skip
    go_wp2_with fail
    refine (HH.out.ti _).mono ?_
    rintro e9 w9 ⟨rfl, hw9⟩
    obtain rfl := hw9.symm
    clear hw9
    by_cases l1 : -16777216 ≤ n
    · by_cases l2 : n ≤ 16777216
      · obtain ⟨e1, e2, _⟩ := HF.out.small l1 l2
        subst e1
        subst e2
        clear HF HH
        go_wp2
        go_ret
        exact ⟨rfl, HB3.out⟩
      · skip
        cases wh
        · clear HF HH
          go_wp2
          go_ret
          exact ⟨rfl, HB3.out⟩
        · obtain ⟨b1, b2, b3⟩ := HF.out.big rfl
          have k1 := b2 rfl
          subst k1
          clear HF HH b1 b2 b3
          go_wp2
          go_ret
          exact ⟨rfl, HB3.out⟩
    · skip
      cases wh
      · clear HF HH
        go_wp2
        go_ret
        exact ⟨rfl, HB3.out⟩
      · obtain ⟨b1, b2, b3⟩ := HF.out.big rfl
        have k1 := b2 rfl
        subst k1
        clear HF HH b1 b2 b3
        go_wp2
        go_ret
        exact ⟨rfl, HB3.out⟩
  · have hdn : ¬ 0 ≤ dn := by omega
    go_wp2_with fail
    refine (HH.out.ti _).mono ?_
    rintro e9 w9 ⟨rfl, hw9⟩
    obtain rfl := hw9.symm
    clear hw9
    by_cases l1 : -16777216 ≤ n
    · by_cases l2 : n ≤ 16777216
      · obtain ⟨_, _, e3⟩ := HF.out.small l1 l2
        exact absurd e3 (by decide)
      · skip
        cases wh
        · clear HF HH
          go_wp2
          go_ret
          exact ⟨rfl, HB3.out⟩
        · obtain ⟨b1, b2, b3⟩ := HF.out.big rfl
          have k1 := b3 rfl
          have k2 : decide (k < n) = false := decide_eq_false (by omega)
          clear HF HH b1 b2 b3
          go_wp2
          go_ret
          exact ⟨rfl, HB3.out⟩
    · skip
      cases wh
      · clear HF HH
        go_wp2
        go_ret
        exact ⟨rfl, HB3.out⟩
      · obtain ⟨b1, b2, b3⟩ := HF.out.big rfl
        have k1 := b3 rfl
        have k2 : decide (k < n) = false := decide_eq_false (by omega)
        clear HF HH b1 b2 b3
        go_wp2
        go_ret
        exact ⟨rfl, HB3.out⟩

set_option maxRecDepth 1000000 in
set_option maxHeartbeats 8000000 in
theorem way_gt (n m : Int) (x y xu xd : Nat) (cc c up dn k : Int) (wh : Bool) (S0 S1 : ByteArray) (w : World) (h : WhC n m x y xu xd cc c up dn k wh S0 S1 w) (hF : WhF n c up dn k wh) (hS : S0 ++ ⟨#[46, 48]⟩ = S1) (hz : S0.size ≤ 20)
    (t1 : ¬ n ≤ m) (t2 : m ≤ n) (t3 : ¬ cc < 0) :
    Calls Tryz.prog 3 #[.int .i64 n, .int .i64 m] w fun e w' => e = .returned (.bool true) ∧ Below w.heap.size w w' := by
  have HH : Hid (WhC n m x y xu xd cc c up dn k wh S0 S1 w) := h
  have HF : Hid (WhF n c up dn k wh) := hF
  clear h hF
  go_enter Tryz.func3, Tryz.ntmps3
  go_wp2_with fail
  refine HH.out.aw.mono ?_
  rintro e9 w1 ⟨rfl, hb1⟩
  have HB1 : Hid (Below w.heap.size w w1) := hb1
  clear hb1
  go_wp2_with fail
  refine (HH.out.fx _).mono ?_
  rintro e9 w9 ⟨rfl, hw9⟩
  obtain rfl := hw9.symm
  clear hw9
  go_wp2_with fail
  refine (HH.out.fy _).mono ?_
  rintro e9 w9 ⟨rfl, hw9⟩
  obtain rfl := hw9.symm
  clear hw9
  go_wp2_with fail
  refine (HH.out.cm _).mono ?_
  rintro e9 w9 ⟨rfl, hw9⟩
  obtain rfl := hw9.symm
  clear hw9
  go_wp2_with fail
  refine (HH.out.fi _ HB1.out).mono ?_
  rintro e9 w2 ⟨rfl, hb2⟩
  have HB2 : Hid (Below w.heap.size w w2) := HB1.out.trans (hb2.mono HB1.out.size)
  clear hb2 HB1
  have n1 : ¬ 9223372036854775807 < S0.size + 2 := by omega
  have p2 : (⟨#[46, 48]⟩ : ByteArray).size = 2 := rfl
  go_wp2_with fail
  refine (HH.out.pa _ HB2.out).mono ?_
  rintro e9 w3 ⟨rfl, hb3⟩
  have HB3 : Hid (Below w.heap.size w w3) := HB2.out.trans (hb3.mono HB2.out.size)
  clear hb3 HB2 n1 p2 hS hz
  go_wp2_with fail
  refine (HH.out.sa _).mono ?_
  rintro e9 w9 ⟨rfl, hw9⟩
  obtain rfl := hw9.symm
  clear hw9
  go_wp2_with fail
  refine (HH.out.c0 _).mono ?_
  rintro e9 w9 ⟨rfl, hw9⟩
  obtain rfl := hw9.symm
  clear hw9
  go_wp2_with fail
  refine (HH.out.nu _).mono ?_
  rintro e9 w9 ⟨rfl, hw9⟩
  obtain rfl := hw9.symm
  clear hw9
  go_wp2_with fail
  refine (HH.out.cu _).mono ?_
  rintro e9 w9 ⟨rfl, hw9⟩
  obtain rfl := hw9.symm
  clear hw9
  go_wp2_with fail
  refine (HH.out.nd _).mono ?_
  rintro e9 w9 ⟨rfl, hw9⟩
  obtain rfl := hw9.symm
  clear hw9
  go_wp2_with fail
  refine (HH.out.cd _).mono ?_
  rintro e9 w9 ⟨rfl, hw9⟩
  obtain rfl := hw9.symm
  clear hw9
  rcases HF.out.tri with ⟨rfl, h2⟩ | rfl | ⟨rfl, h2⟩
  · have hup : ¬ up ≤ 0 := by omega
    go_wp2_with fail
    refine (HH.out.ti _).mono ?_
    rintro e9 w9 ⟨rfl, hw9⟩
    obtain rfl := hw9.symm
    clear hw9
    by_cases l1 : -16777216 ≤ n
    · by_cases l2 : n ≤ 16777216
      · obtain ⟨_, _, e3⟩ := HF.out.small l1 l2
        exact absurd e3 (by decide)
      · skip
        cases wh
        · clear HF HH
          go_wp2
          go_ret
          exact ⟨rfl, HB3.out⟩
        · obtain ⟨b1, b2, b3⟩ := HF.out.big rfl
          have k1 := b1 rfl
          have k2 : decide (n < k) = false := decide_eq_false (by omega)
          clear HF HH b1 b2 b3
          go_wp2
          go_ret
          exact ⟨rfl, HB3.out⟩
    · skip
      cases wh
      · clear HF HH
        go_wp2
        go_ret
        exact ⟨rfl, HB3.out⟩
      · obtain ⟨b1, b2, b3⟩ := HF.out.big rfl
        have k1 := b1 rfl
        have k2 : decide (n < k) = false := decide_eq_false (by omega)
        clear HF HH b1 b2 b3
        go_wp2
        go_ret
        exact ⟨rfl, HB3.out⟩
  · skip
    go_wp2_with fail
    refine (HH.out.ti _).mono ?_
    rintro e9 w9 ⟨rfl, hw9⟩
    obtain rfl := hw9.symm
    clear hw9
    by_cases l1 : -16777216 ≤ n
    · by_cases l2 : n ≤ 16777216
      · obtain ⟨e1, e2, _⟩ := HF.out.small l1 l2
        subst e1
        subst e2
        clear HF HH
        go_wp2
        go_ret
        exact ⟨rfl, HB3.out⟩
      · skip
        cases wh
        · clear HF HH
          go_wp2
          go_ret
          exact ⟨rfl, HB3.out⟩
        · obtain ⟨b1, b2, b3⟩ := HF.out.big rfl
          have k1 := b2 rfl
          subst k1
          clear HF HH b1 b2 b3
          go_wp2
          go_ret
          exact ⟨rfl, HB3.out⟩
    · skip
      cases wh
      · clear HF HH
        go_wp2
        go_ret
        exact ⟨rfl, HB3.out⟩
      · obtain ⟨b1, b2, b3⟩ := HF.out.big rfl
        have k1 := b2 rfl
        subst k1
        clear HF HH b1 b2 b3
        go_wp2
        go_ret
        exact ⟨rfl, HB3.out⟩
  · have hdn : ¬ 0 ≤ dn := by omega
    go_wp2_with fail
    refine (HH.out.ti _).mono ?_
    rintro e9 w9 ⟨rfl, hw9⟩
    obtain rfl := hw9.symm
    clear hw9
    by_cases l1 : -16777216 ≤ n
    · by_cases l2 : n ≤ 16777216
      · obtain ⟨_, _, e3⟩ := HF.out.small l1 l2
        exact absurd e3 (by decide)
      · skip
        cases wh
        · clear HF HH
          go_wp2
          go_ret
          exact ⟨rfl, HB3.out⟩
        · obtain ⟨b1, b2, b3⟩ := HF.out.big rfl
          have k1 := b3 rfl
          have k2 : decide (k < n) = false := decide_eq_false (by omega)
          clear HF HH b1 b2 b3
          go_wp2
          go_ret
          exact ⟨rfl, HB3.out⟩
    · skip
      cases wh
      · clear HF HH
        go_wp2
        go_ret
        exact ⟨rfl, HB3.out⟩
      · obtain ⟨b1, b2, b3⟩ := HF.out.big rfl
        have k1 := b3 rfl
        have k2 : decide (k < n) = false := decide_eq_false (by omega)
        clear HF HH b1 b2 b3
        go_wp2
        go_ret
        exact ⟨rfl, HB3.out⟩

end Go.Proofs.YtnjbdaonmgadaaaGreatDoor
