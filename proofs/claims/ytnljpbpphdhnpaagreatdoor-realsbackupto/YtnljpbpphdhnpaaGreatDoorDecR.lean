/- The library's text of a power below, and the program's nearest there. -/
import Derived.Test.YtnljpbpphdhnpaaGreatDoorRdL
import Derived.Test.YtnljpbpphdhnpaaGreatDoorTxQ
import Derived.Lib.AppendIntMem
import Derived.Test.YtnljpbpphdhnpaaGreatDoorShelfE
import Derived.Test.YtnljpbpphdhnpaaGreatDoorUzV

namespace Go.Proofs.YtnljpbpphdhnpaaGreatDoor
open Go.RowKit Go.PlainAid

theorem format_down (k : Nat) (hk0 : 0 < k) (hk : k ≤ 46) (w : World) (hT : Lib.TabIs Tryz.prog w powN .u64 Lib.pow10Tab) :
    ∀ w', Below w.heap.size w w' → Calls Tryz.prog 56 #[.int .i64 (-(k : Int)), .int .i64 10] w' fun e w'' => e = .returned (.string (bl (45 :: Lib.decDigits k))) ∧ Below w'.heap.size w' w'' := fun w' hb => by
  refine (Any.strconv_FormatInt_10 Tryz.laysM173 (-(k : Int)) (by omega) (by omega) w' (Lib.tabBelow_of_tabIs hT w' hb)).mono ?_
  rintro e w'' ⟨rfl, j, os, rfl⟩
  refine ⟨?_, Lib.below_grow _ _ (Nat.le_refl _) j os⟩
  have e1 : Lib.itoa (-(k : Int)) = 45 :: Lib.decDigits k := by
    unfold Lib.itoa
    rw [if_pos (by omega)]
    congr 2
    omega
  rw [e1]
  rfl
end Go.Proofs.YtnljpbpphdhnpaaGreatDoor

/- The program's nearest where the library isn't asked. -/
namespace Go.Proofs.YtnljpbpphdhnpaaGreatDoor
open Go.RowKit Go.PlainAid

set_option maxRecDepth 1000000 in
theorem nearest_none (k : Int) (w : World) :
    Calls Tryz.prog 29 #[.agg #[.string ⟨#[]⟩, .int .i64 k]] w fun e w' => e = .returned (.tuple #[.float .f32 0, .bool true]) ∧ Below w.heap.size w w' := by
  go_enter Tryz.func29, Tryz.ntmps29
  go_wp2
  go_ret2
  exact ⟨rfl, by go_grown⟩
set_option maxRecDepth 1000000 in
theorem nearest_low (E : ByteArray) (k : Int) (w : World) (hne : E.toList.isEmpty = false) (hk : k < -46) :
    Calls Tryz.prog 29 #[.agg #[.string E, .int .i64 k]] w fun e w' => e = .returned (.tuple #[.float .f32 0, .bool true]) ∧ Below w.heap.size w w' := by
  go_enter Tryz.func29, Tryz.ntmps29
  go_wp2
  go_ret2
  exact ⟨rfl, by go_grown⟩
set_option maxRecDepth 1000000 in
theorem nearest_high (E : ByteArray) (k : Int) (w : World) (hne : E.toList.isEmpty = false) (hk : 38 < k) :
    Calls Tryz.prog 29 #[.agg #[.string E, .int .i64 k]] w fun e w' => e = .returned (.tuple #[.float .f32 0, .bool false]) ∧ Below w.heap.size w w' := by
  have hk2 : ¬ k < -46 := by omega
  go_enter Tryz.func29, Tryz.ntmps29
  go_wp2
  go_ret2
  exact ⟨rfl, by go_grown⟩
end Go.Proofs.YtnljpbpphdhnpaaGreatDoor

/- The program's atMostFar: of any digits the number that they are, or one of at least 2^40. -/
namespace Go.Proofs.YtnljpbpphdhnpaaGreatDoor
open Go.RowKit Go.PlainAid

/-- one digit more -/
def farS (n : Int) (c : Int) : Int := if n < 1099511627776 then n * 10 + (c - 48) else n
set_option maxRecDepth 1000000 in
set_option maxHeartbeats 1000000 in
theorem far_run (s : ByteArray) (F : Nat → Int) (w : World) (hs : s.size ≤ 1099511627776) (hd : ∀ k, k < s.size → 48 ≤ bt s k ∧ bt s k ≤ 57) (h0 : F 0 = 0) (hF : ∀ k, k < s.size → F (k + 1) = farS (F k) (bt s k)) (hb : ∀ k, k ≤ s.size → 0 ≤ F k ∧ F k ≤ 10995116277760) :
    Calls Tryz.prog 52 #[.string s] w fun e w' => e = .returned (.int .i64 (F s.size)) ∧ w' = w := by
  have HG : Hid (∀ i (h : i < s.size), ((s[i]'h).toNat : Int) = bt s i) := get_bt s
  have HD : Hid (∀ k, k < s.size → 48 ≤ bt s k ∧ bt s k ≤ 57) := hd
  have HF : Hid (∀ k, k < s.size → F (k + 1) = farS (F k) (bt s k)) := hF
  have HB : Hid (∀ k, k ≤ s.size → 0 ≤ F k ∧ F k ≤ 10995116277760) := hb
  have H0 : Hid (F 0 = 0) := h0
  clear hd hF hb h0
  go_enter Tryz.func52, Tryz.ntmps52
  go_wp2
  go_loop [3, 7] (fun n i => ∃ j : Nat, j ≤ s.size ∧ i = .int .i64 j ∧ n = .int .i64 (F j)) (fun _ i => s.size - (intOf i).toNat)
  case atStart => exact ⟨0, Nat.zero_le _, rfl, by rw [H0.out]⟩
  case round =>
    obtain ⟨j, hj, rfl, rfl⟩ := hrel
    by_cases hjl : j < s.size
    · have hji : (j : Int) < (s.size : Int) := by omega
      have gj : ((s[j]'hjl).toNat : Int) = bt s j := HG.out j hjl
      obtain ⟨r1, r2⟩ := HD.out j hjl
      obtain ⟨b1, b2⟩ := HB.out j hj
      have H1 : Hid (F (j + 1) = farS (F j) (bt s j)) := HF.out j hjl
      generalize bt s j = c at *
      generalize F j = n at *
      by_cases hn : n < 1099511627776
      · have e1 : farS n c = n * 10 + (c - 48) := by unfold farS; rw [if_pos hn]
        have H2 : Hid (F (j + 1) = n * 10 + (c - 48)) := by rw [← e1]; exact H1.out
        clear H1 e1
        go_wp2
        go_round
        case rel => exact ⟨j + 1, by omega, by go_num, by rw [H2.out]⟩
        case measure => simp [intOf]; omega
      · have e1 : farS n c = n := by unfold farS; rw [if_neg hn]
        have H2 : Hid (F (j + 1) = n) := by rw [← e1]; exact H1.out
        clear H1 e1
        go_wp2
        go_round
        case rel => exact ⟨j + 1, by omega, by go_num, by rw [H2.out]⟩
        case measure => simp [intOf]; omega
    · obtain rfl : j = s.size := by omega
      go_wp2
      go_ret
      exact ⟨rfl, rfl⟩
end Go.Proofs.YtnljpbpphdhnpaaGreatDoor

/- The program's atMostFar of a list of digits. -/
namespace Go.Proofs.YtnljpbpphdhnpaaGreatDoor
open Go.RowKit Go.PlainAid

def farL (l : List UInt8) : Int := l.foldl (fun n c => farS n (c.toNat : Int)) 0
theorem far_snoc (l : List UInt8) (c : UInt8) : farL (l ++ [c]) = farS (farL l) (c.toNat : Int) := by
  unfold farL; rw [List.foldl_append]; rfl
theorem far_take (l : List UInt8) (h : Dig l) : ∀ k, k ≤ l.length → (0 ≤ farL (l.take k) ∧ farL (l.take k) ≤ 10995116277760) ∧ (farL (l.take k) < 1099511627776 → farL (l.take k) = (dvL (l.take k) : Int)) ∧ (1099511627776 ≤ farL (l.take k) → 1099511627776 ≤ (dvL (l.take k) : Int)) := by
  intro k
  induction k with
  | zero => intro _; simp [farL, dvL]
  | succ k ih =>
    intro hk
    obtain ⟨⟨i1, i2⟩, i3, i4⟩ := ih (by omega)
    have ht : l.take (k + 1) = l.take k ++ [l[k]'(by omega)] := List.take_succ_eq_append_getElem (by omega)
    have hd := h (l[k]'(by omega)) (List.getElem_mem _)
    rw [ht, far_snoc, dv_snoc]
    generalize l[k]'(by omega) = c at *
    generalize farL (l.take k) = n at *
    generalize dvL (l.take k) = d at *
    unfold farS
    by_cases hn : n < 1099511627776
    · have := i3 hn
      rw [if_pos hn]
      refine ⟨⟨by omega, by omega⟩, fun _ => by omega, fun _ => by omega⟩
    · have := i4 (by omega)
      rw [if_neg hn]
      refine ⟨⟨by omega, by omega⟩, fun _ => by omega, fun _ => by omega⟩
theorem far_any (l : List UInt8) (h : Dig l) (hl : l.length ≤ 1099511627776) (w : World) :
    Calls Tryz.prog 52 #[.string (bl l)] w fun e w' => e = .returned (.int .i64 (farL l)) ∧ w' = w := by
  have hr := far_run (bl l) (fun k => farL (l.take k)) w (by rw [bl_size]; exact hl) (fun k hk => by
      rw [bl_size] at hk
      rw [bl_bt l k hk]
      have := h (l[k]) (List.getElem_mem hk)
      omega) (by simp [farL]) (fun k hk => by
      rw [bl_size] at hk
      rw [bl_bt l k hk]
      show farL (l.take (k + 1)) = farS (farL (l.take k)) _
      rw [List.take_succ_eq_append_getElem hk, far_snoc]) (fun k hk => by
      rw [bl_size] at hk
      exact (far_take l h k hk).1)
  rw [bl_size] at hr
  simp only [List.take_length] at hr
  exact hr
/-- what it says of the number -/
theorem far_dv (l : List UInt8) (h : Dig l) : (0 ≤ farL l ∧ farL l ≤ 10995116277760) ∧ (farL l < 1099511627776 → farL l = (dvL l : Int)) ∧ (1099511627776 ≤ farL l → 1099511627776 ≤ (dvL l : Int)) := by
  have := far_take l h l.length (Nat.le_refl _)
  rwa [List.take_length] at this
end Go.Proofs.YtnljpbpphdhnpaaGreatDoor

/- The library's ParseFloat of a number that is too great: an infinite one, and an error. -/
namespace Go.Proofs.YtnljpbpphdhnpaaGreatDoor
open Go.RowKit Go.PlainAid

set_option maxRecDepth 1000000 in
theorem prefix_inf (s : ByteArray) (r64 : Nat) (w : World) (hQ : Calls Tryz.prog 124 #[.string s] w fun e w' => e = .returned (.tuple #[.float .f32 2139095040, .int .i64 (s.size : Nat), errRange]) ∧ Below w.heap.size w w') (hC : ∀ w, (convert 22 80 (.float .f32 2139095040)).run Tryz.prog w = .ok (.float .f64 r64) w) :
    Calls Tryz.prog 99 #[.string s, .int .i64 32] w fun e w' => e = .returned (.tuple #[.float .f64 r64, .int .i64 (s.size : Nat), errRange]) ∧ Below w.heap.size w w' := by
  unfold errRange at hQ ⊢
  go_enter Tryz.func99, Tryz.ntmps99
  go_wp2_with (first | (go_at_call 124; refine hQ.mono ?_; rintro e9 w9 ⟨rfl, hb⟩))
  go_ret3
  exact ⟨rfl, hb⟩
set_option maxRecDepth 1000000 in
theorem ipf_inf (s : ByteArray) (r64 : Nat) (w : World) (hQ : Calls Tryz.prog 99 #[.string s, .int .i64 32] w fun e w' => e = .returned (.tuple #[.float .f64 r64, .int .i64 (s.size : Nat), errRange]) ∧ Below w.heap.size w w') :
    Calls Tryz.prog 79 #[.string s, .int .i64 32] w fun e w' => e = .returned (.tuple #[.float .f64 r64, errRange]) ∧ Below w.heap.size w w' := by
  unfold errRange at hQ ⊢
  go_enter Tryz.func79, Tryz.ntmps79
  go_wp2_with (first | (go_at_call 99; refine hQ.mono ?_; rintro e9 w9 ⟨rfl, hb⟩))
  go_ret2
  exact ⟨rfl, hb⟩
theorem err_range (fn s : ByteArray) (base bits : Int) (ev : Value) (w : World) (hlim : s.size ≤ 281474976710656) (hv : w.cell? ⟨3, 0, none⟩ = some ev) (hev : ev = .nilIface ∨ ∃ te pe, ev = .iface te pe) :
    Calls Tryz.prog 80 #[.string fn, .string s, .int .i64 base, .int .i64 bits, .iface 124 (.int .i64 1)] w fun e w' => ∃ K, e = .returned (.iface 125 (.pointer (some ⟨K, 0, none⟩))) ∧ w.heap.size ≤ K ∧ w'.heap[K]? = some (.cells #[.string fn, .string s, ev] 149 (0, 0)) ∧ Below w.heap.size w w' :=
  Any.strconv_toError_range Tryz.laysC245 fn s base bits ev w hlim hv hev
set_option maxRecDepth 1000000 in
theorem pf_inf_raw (s : ByteArray) (r64 : Nat) (w : World) (hE : ∀ w', Below w.heap.size w w' → Calls Tryz.prog 80 #[.string ⟨#[80, 97, 114, 115, 101, 70, 108, 111, 97, 116]⟩, .string s, .int .i64 0, .int .i64 32, .iface 124 (.int .i64 1)] w' fun e w'' => (∃ K, e = .returned (.iface 125 (.pointer (some ⟨K, 0, none⟩)))) ∧ Below w'.heap.size w' w'')
    (hQ : Calls Tryz.prog 79 #[.string s, .int .i64 32] w fun e w' => e = .returned (.tuple #[.float .f64 r64, errRange]) ∧ Below w.heap.size w w') :
    Calls Tryz.prog 55 #[.string s, .int .i64 32] w fun e w' => (∃ K, e = .returned (.tuple #[.float .f64 r64, .iface 125 (.pointer (some ⟨K, 0, none⟩))])) ∧ Below w.heap.size w w' := by
  unfold errRange at hQ
  have HE : Hid (∀ w', Below w.heap.size w w' → Calls Tryz.prog 80 #[.string ⟨#[80, 97, 114, 115, 101, 70, 108, 111, 97, 116]⟩, .string s, .int .i64 0, .int .i64 32, .iface 124 (.int .i64 1)] w' fun e w'' => (∃ K, e = .returned (.iface 125 (.pointer (some ⟨K, 0, none⟩)))) ∧ Below w'.heap.size w' w'') := hE
  clear hE
  go_enter Tryz.func55, Tryz.ntmps55
  go_wp2_with fail
  refine hQ.mono ?_
  rintro e9 w9 ⟨rfl, hb⟩
  go_wp2_with fail
  refine (HE.out _ hb).mono ?_
  rintro e9 w8 ⟨⟨K, rfl⟩, hb2⟩
  go_wp2
  go_ret2
  exact ⟨⟨K, rfl⟩, hb.trans (hb2.mono hb.size)⟩
end Go.Proofs.YtnljpbpphdhnpaaGreatDoor

/- The program's nearest of a number that is too great. -/
namespace Go.Proofs.YtnljpbpphdhnpaaGreatDoor
open Go.RowKit Go.PlainAid

set_option maxRecDepth 1000000 in
set_option maxHeartbeats 2000000 in
theorem nearest_rawE (E C0 C1 A1 A2 A3 A4 KT : ByteArray) (k : Int) (R r64 : Nat) (w : World) (hk0 : -46 ≤ k) (hk : k ≤ 38) (hE0 : 0 < E.size) (hE1 : E.size ≤ 1099511627000) (hne : E.toList.isEmpty = false)
    (s0 : E.extract 0 1 = C0) (s1 : E.extract 1 E.size = C1) (z0 : C0.size = 1) (z1 : C1.size ≤ 1099511627000) (zk : KT.size ≤ 3) (a1 : C0 ++ ⟨#[46]⟩ = A1) (a2 : A1 ++ C1 = A2) (a3 : A2 ++ ⟨#[101]⟩ = A3) (a4 : A3 ++ KT = A4) (q1 : A1.size = 2) (q2 : A2.size ≤ 1099511627100) (q3 : A3.size ≤ 1099511627200)
    (hF : ∀ w', Below w.heap.size w w' → Calls Tryz.prog 56 #[.int .i64 k, .int .i64 10] w' fun e w'' => e = .returned (.string KT) ∧ Below w'.heap.size w' w'')
    (hP : ∀ w', Below w.heap.size w w' → Calls Tryz.prog 55 #[.string A4, .int .i64 32] w' fun e w'' => (∃ K, e = .returned (.tuple #[.float .f64 r64, .iface 125 (.pointer (some ⟨K, 0, none⟩))])) ∧ Below w'.heap.size w' w'')
    (hC : ∀ w, (convert 80 22 (.float .f64 r64)).run Tryz.prog w = .ok (.float .f32 R) w) :
    Calls Tryz.prog 29 #[.agg #[.string E, .int .i64 k]] w fun e w' => e = .returned (.tuple #[.float .f32 R, .bool false]) ∧ Below w.heap.size w w' := by
  have hW0 : Below w.heap.size w (w.alloc (.cells #[.string E, .int .i64 k] 46)) := (Below.refl w.heap.size w).alloc (Nat.le_refl _) _
  have HP : Hid (∀ w', Below w.heap.size w w' → Calls Tryz.prog 55 #[.string A4, .int .i64 32] w' fun e w'' => (∃ K, e = .returned (.tuple #[.float .f64 r64, .iface 125 (.pointer (some ⟨K, 0, none⟩))])) ∧ Below w'.heap.size w' w'') := hP
  have HF : Hid (∀ w', Below w.heap.size w w' → Calls Tryz.prog 56 #[.int .i64 k, .int .i64 10] w' fun e w'' => e = .returned (.string KT) ∧ Below w'.heap.size w' w'') := hF
  clear hP hF
  have HW : Hid (∀ w', ((∀ b o, b < (w.alloc (.cells #[.string E, .int .i64 k] 46)).heap.size → w'.cell? ⟨b, o, none⟩ = (w.alloc (.cells #[.string E, .int .i64 k] 46)).cell? ⟨b, o, none⟩) ∧ Below (w.alloc (.cells #[.string E, .int .i64 k] 46)).heap.size (w.alloc (.cells #[.string E, .int .i64 k] 46)) w') → Below w.heap.size w w') := fun w' h => hW0.trans (h.2.mono (by simp))
  clear hW0
  have i1 : (1 : Int) ≤ (E.size : Int) := by omega
  have n2 : ¬ 9223372036854775807 < 2 + C1.size := by omega
  have n3 : ¬ 9223372036854775807 < A2.size + 1 := by omega
  have n4 : ¬ 9223372036854775807 < A3.size + KT.size := by omega
  have p46 : (⟨#[46]⟩ : ByteArray).size = 1 := rfl
  have p101 : (⟨#[101]⟩ : ByteArray).size = 1 := rfl
  go_enter Tryz.func29, Tryz.ntmps29
  go_wp2
  go_region_held3 (fun w' => (∀ b o, b < (w.alloc (.cells #[.string E, .int .i64 k] 46)).heap.size → w'.cell? ⟨b, o, none⟩ = (w.alloc (.cells #[.string E, .int .i64 k] 46)).cell? ⟨b, o, none⟩) ∧ Below (w.alloc (.cells #[.string E, .int .i64 k] 46)).heap.size (w.alloc (.cells #[.string E, .int .i64 k] 46)) w')
    (first | exact keep_start | exact keep_next (by assumption) (by assumption))
    (first | (go_at_call 56; refine (HF.out _ (HW.out _ (by assumption))).mono ?_; rintro e w1 ⟨rfl, hb⟩) | (go_at_call 55; refine (HP.out _ (HW.out _ (by assumption))).mono ?_; rintro e w1 ⟨⟨K, rfl⟩, hb⟩))
  all_goals rename_i hH
  all_goals go_wp2
  all_goals go_quiet (fail)
  all_goals go_wp2
  all_goals go_ret2
  all_goals exact ⟨rfl, below_drewN (HW.out _ hH) _⟩
end Go.Proofs.YtnljpbpphdhnpaaGreatDoor


/- The program's nearest where nothing is cut off and the number is too great: no real. -/
namespace Go.Proofs.YtnljpbpphdhnpaaGreatDoor
open Go.RowKit Go.PlainAid

/-- the library's variable of that error -/
def ErV (w : World) : Prop := ∃ ev, w.cell? ⟨3, 0, none⟩ = some ev ∧ (ev = .nilIface ∨ ∃ te pe, ev = .iface te pe)
theorem ErV.below {w w' : World} (h : ErV w) (hb : Below w.heap.size w w') : ErV w' := by
  obtain ⟨ev, h1, h2⟩ := h
  exact ⟨ev, cell_next hb h1, h2⟩
theorem pf_inf (s : ByteArray) (w : World) (hs : s.size ≤ 281474976710656) (hV : ErV w) (hA : Calls Tryz.prog 124 #[.string s] w fun e w' => e = .returned (.tuple #[.float .f32 2139095040, .int .i64 (s.size : Nat), errRange]) ∧ Below w.heap.size w w') :
    Calls Tryz.prog 55 #[.string s, .int .i64 32] w fun e w' => (∃ K, e = .returned (.tuple #[.float .f64 9218868437227405312, .iface 125 (.pointer (some ⟨K, 0, none⟩))])) ∧ Below w.heap.size w w' := by
  refine pf_inf_raw s _ w (fun w' hb => ?_) (ipf_inf s _ w (prefix_inf s _ w hA (fun w => run_convert_float_float w 22 80 .f32 .f64 _ _ (by kernel_rfl) Tryz.underlying80 (by decide))))
  obtain ⟨ev, h1, h2⟩ := hV.below hb
  refine (err_range _ s 0 32 ev w' hs h1 h2).mono ?_
  rintro e w'' ⟨K, he, _, _, hb2⟩
  exact ⟨⟨K, he⟩, hb2⟩
/-- at a power above -/
theorem nearest_over (c0 : UInt8) (cs : List UInt8) (k m : Nat) (p : Int) (h0 : 49 ≤ c0.toNat ∧ c0.toNat ≤ 57) (hc : Dig cs) (hl : cs.length ≤ 1099511626000) (hk : k ≤ 38) (hz : cutOff cs = false)
    (hp : (k : Int) - ((min cs.length 18 : Nat) : Int) = p) (hlw : LowB (dvL (c0 :: cs.take 18) * 10 ^ p.toNat) (10 ^ (-p).toNat) m) (hr : nearZ (dvL (c0 :: cs.take 18)) p m = 2139095040) (w : World) (hT : TabB w) (hV : ErV w) :
    Calls Tryz.prog 29 #[.agg #[.string (bl (c0 :: cs)), .int .i64 k]] w fun e w' => e = .returned (.tuple #[.float .f32 2139095040, .bool false]) ∧ Below w.heap.size w w' := by
  obtain ⟨hes, hes0, hes2⟩ := two_digits k (by omega)
  have hm : min cs.length 18 ≤ 18 := Nat.min_le_right _ _
  have hF : ∀ w', Below w.heap.size w w' → Calls Tryz.prog 56 #[.int .i64 k, .int .i64 10] w' fun e w'' => e = .returned (.string (bl (Lib.decDigits k))) ∧ Below w'.heap.size w' w'' := fun w' _ =>
    (Tryz.strconv_FormatInt_10_small k (by omega) w').mono (by rintro e w1 ⟨rfl, rfl⟩; exact ⟨rfl, Below.refl _ _⟩)
  have hsp := bl_extract [c0] cs
  have hlen := num_len c0 cs (Lib.decDigits k)
  have hP := fun w' (hb : Below w.heap.size w w') => pf_inf (bl (numT c0 cs (Lib.decDigits k))) w' (by rw [bl_size]; omega) (hV.below hb) (by
    have h := atof_up c0 cs (Lib.decDigits k) p m h0 hc (by omega) hes hes2 hes0 hz (by rw [dv_dec]; exact hp) (by omega) (by omega) hlw w' (hT.below hb)
    rw [hr] at h
    exact h)
  refine nearest_rawE (bl (c0 :: cs)) (bl [c0]) (bl cs) (bl [c0, 46]) (bl (c0 :: 46 :: cs)) (bl (c0 :: 46 :: (cs ++ [101]))) (bl (numT c0 cs (Lib.decDigits k))) (bl (Lib.decDigits k)) (k : Int) _ _ w (by omega) (by omega) (by rw [bl_size]; simp) (by rw [bl_size]; simp; omega) (nil_false _ (by simp)) hsp.1 (by rw [bl_size]; exact hsp.2) rfl (by rw [bl_size]; omega) (by rw [bl_size]; omega) (bl_app [c0] [46]) (bl_app [c0, 46] cs) ?_ ?_ rfl (by rw [bl_size]; simp; omega) (by rw [bl_size]; simp; omega) hF hP (fun w => run_convert_float_float w 80 22 .f64 .f32 _ _ (by kernel_rfl) Tryz.underlying22 (by decide))
  · exact bl_app (c0 :: 46 :: cs) [101]
  · have := bl_app (c0 :: 46 :: (cs ++ [101])) (Lib.decDigits k)
    simpa [numT] using this
end Go.Proofs.YtnljpbpphdhnpaaGreatDoor

/- The library's atof32 of more than nineteen digits, where what is cut off doesn't matter. -/
namespace Go.Proofs.YtnljpbpphdhnpaaGreatDoor
open Go.RowKit Go.PlainAid

set_option maxRecDepth 1000000 in
set_option maxHeartbeats 1000000 in
theorem atof32_same (s : ByteArray) (d R : Nat) (er er2 : Value) (p : Int) (w : World) (hd : (d : Int) ≠ 0) (hd2 : d + 1 < 18446744073709551616) (hp : -70 ≤ p ∧ p ≤ 40) (heq : (FloatKind.f32.format.order R R == some Ordering.eq) = true)
    (hS : ∀ w, Calls Tryz.prog 152 #[.string s] w fun e w' => e = .returned (.tuple #[.float .f64 0, .int .i64 0, .bool false]) ∧ w' = w)
    (hR : ∀ w, Calls Tryz.prog 153 #[.string s] w fun e w' => e = .returned (.tuple #[.int .u64 (d : Int), .int .i64 p, .bool false, .bool true, .bool false, .int .i64 (s.size : Nat), .bool true]) ∧ w' = w)
    (hQ : ∀ w', Below w.heap.size w w' → Calls Tryz.prog 158 #[.int .u64 (d : Int), .int .i64 p, .int .u32 0] w' fun e w'' => e = .returned (.tuple #[.float .f32 R, er]) ∧ Below w'.heap.size w' w'')
    (hQ2 : ∀ w', Below w.heap.size w w' → Calls Tryz.prog 158 #[.int .u64 ((d : Int) + 1), .int .i64 p, .int .u32 0] w' fun e w'' => e = .returned (.tuple #[.float .f32 R, er2]) ∧ Below w'.heap.size w' w'')
    (c2 : w.cell? ⟨5, 0, none⟩ = some (.bool true)) :
    Calls Tryz.prog 124 #[.string s] w fun e w' => e = .returned (.tuple #[.float .f32 R, .int .i64 (s.size : Nat), er]) ∧ Below w.heap.size w w' := by
  have hd0 : ((d : Int) == 0) = false := by simpa using hd
  clear hd
  obtain ⟨hp1, hp2⟩ := hp
  have HD : Hid ((d : Int) + 1 ≤ 18446744073709551615 ∧ (0 : Int) ≤ (d : Int) + 1) := ⟨by omega, by omega⟩
  have HEQ : Hid ((FloatKind.f32.format.order R R == some Ordering.eq) = true) := heq
  clear hd2 heq
  have HQ : Hid (∀ w', Below w.heap.size w w' → Calls Tryz.prog 158 #[.int .u64 (d : Int), .int .i64 p, .int .u32 0] w' fun e w'' => e = .returned (.tuple #[.float .f32 R, er]) ∧ Below w'.heap.size w' w'') := hQ
  have HQ2 : Hid (∀ w', Below w.heap.size w w' → Calls Tryz.prog 158 #[.int .u64 ((d : Int) + 1), .int .i64 p, .int .u32 0] w' fun e w'' => e = .returned (.tuple #[.float .f32 R, er2]) ∧ Below w'.heap.size w' w'') := hQ2
  clear hQ hQ2
  go_enter Tryz.func124, Tryz.ntmps124
  go_wp2_with fail
  refine (hS _).mono ?_
  rintro e9 w9 ⟨rfl, hw9⟩
  obtain rfl := hw9.symm
  clear hw9
  go_wp2_with fail
  refine (hR _).mono ?_
  rintro e9 w9 ⟨rfl, hw9⟩
  obtain rfl := hw9.symm
  clear hw9
  go_wp2_with fail
  refine (bool2w_p _).mono ?_
  rintro e9 w9 ⟨rfl, hw9⟩
  obtain rfl := hw9.symm
  clear hw9
  go_wp2_with fail
  refine (HQ.out _ (Below.refl _ _)).mono ?_
  rintro e9 w9 ⟨rfl, hb⟩
  clear hd0
  obtain ⟨hd3, hd4⟩ := HD.out
  go_wp2_with fail
  refine (HQ2.out _ hb).mono ?_
  rintro e9 w8 ⟨rfl, hb2⟩
  have heq := HEQ.out
  go_wp2
  go_ret3
  exact ⟨rfl, hb.trans (hb2.mono hb.size)⟩
theorem order_same (R : Nat) (h : R ≤ 2139095040) : (FloatKind.f32.format.order R R == some Ordering.eq) = true := by
  have hn : nanB R = false := nan_pos R h
  rw [(ord_facts R R hn hn).2.2]
  exact decide_eq_true rfl
end Go.Proofs.YtnljpbpphdhnpaaGreatDoor

/- The library's trim of a decimal whose first digit is no nought. -/
namespace Go.Proofs.YtnljpbpphdhnpaaGreatDoor
open Go.RowKit Go.PlainAid

/-- how many digits a decimal in memory has -/
def ndAt (w : World) (b : Nat) : Nat := (intOf ((w.cell? ⟨b, 800, none⟩).getD (.int .i64 0))).toNat
theorem DecC.ndAt {w : World} {b : Nat} {D : Nat → Int} {nd : Nat} {dp : Int} {tr : Bool} (h : DecC w b D nd dp tr) : ndAt w b = nd := by
  unfold Proofs.YtnljpbpphdhnpaaGreatDoor.ndAt
  rw [h.nd]
  simp [intOf]
set_option maxRecDepth 1000000 in
theorem trim_any (w : World) (b : Nat) (D : Nat → Int) (nd : Nat) (dp : Int) (tr : Bool) (h : DecC w b D nd dp tr) (hd : DgD D nd) (h0 : 0 < nd) (h8 : nd ≤ 800) (hn : D 0 ≠ 48) :
    Calls Tryz.prog 180 #[.pointer (some ⟨b, 0, none⟩)] w fun e w' => e = .returned (.tuple #[]) ∧ Keep [b] w w' ∧ ∃ m : Nat, DecC w' b D m dp tr ∧ 0 < m ∧ m ≤ nd ∧ (∀ j, m ≤ j → j < nd → D j = 48) ∧ D (m - 1) ≠ 48 := by
  have H : Hid (DecC w b D nd dp tr) := h
  have HD : Hid (DgD D nd) := hd
  have HN : Hid (D 0 ≠ 48) := hn
  clear h hd hn
  go_enter Tryz.func180, Tryz.ntmps180
  go_wp2
  go_loopw [] (fun wr => ∃ m : Nat, DecC wr b D m dp tr ∧ 0 < m ∧ m ≤ nd ∧ (∀ j, m ≤ j → j < nd → D j = 48) ∧ Keep [b] w wr) (fun wr => ndAt wr b)
  case atStart => exact ⟨nd, H.out, h0, Nat.le_refl _, fun j h1 h2 => by omega, Keep.refl _ _⟩
  case round =>
    obtain ⟨m, hc, hm0, hm1, hz, hk⟩ := hrel
    obtain ⟨i, rfl⟩ : ∃ i, m = i + 1 := ⟨m - 1, by omega⟩
    have c1 := hc.nd
    have c2 := hc.dg i (by omega)
    have c3 := hc.fz 800 (by omega)
    have hi800 : i < 800 := by omega
    have e1 : ((i + 1 : Nat) : Int) = (i : Int) + 1 := by omega
    have HC : Hid (DecC wr b D ((i + 1 : Nat) : Int) dp tr) := hc
    have HM : Hid ((∀ j, i + 1 ≤ j → j < nd → D j = 48) ∧ Keep [b] w wr) := ⟨hz, hk⟩
    rw [e1] at c1
    by_cases hx : D i = 48
    · rw [hx] at c2
      have hi0 : 0 < i := by
        rcases Nat.eq_zero_or_pos i with hi | hi
        · subst hi; exact absurd hx HN.out
        · exact hi
      have HX : Hid (D i = 48) := hx
      clear hc hz hk hx e1
      go_wp2
      go_quiet (fail)
      go_wp2
      go_roundw
      case rel =>
        refine ⟨i, (HC.out.drewN nq).put_nd i, hi0, by omega, fun j h1 h2 => ?_, (HM.out.2.drewN nq).setCell (.inl (by simp)) _⟩
        by_cases e : j = i
        · rw [e]; exact HX.out
        · exact HM.out.1 j (by omega) h2
      case measure =>
        rw [((HC.out.drewN nq).put_nd i).ndAt, HC.out.ndAt]; omega
    · have hxb : (D i == 48) = false := by simpa using hx
      have HX : Hid (D i ≠ 48) := hx
      clear hc hz hk hx e1
      go_wp2
      go_quiet (fail)
      go_wp2
      go_end0
      exact ⟨rfl, HM.out.2.drewN _, i + 1, HC.out.drewN _, hm0, hm1, HM.out.1, HX.out⟩
end Go.Proofs.YtnljpbpphdhnpaaGreatDoor

/- The library's rightShift of a decimal. -/
namespace Go.Proofs.YtnljpbpphdhnpaaGreatDoor
open Go.RowKit Go.PlainAid

theorem mask_pow (k n : Nat) (hk : k ≤ 60) (hn : n < 18446744073709551616) : bits .and .u64 (n : Int) ((2 ^ k : Nat) - 1 : Int) = ((n % 2 ^ k : Nat) : Int) := by
  have h1 : (2 ^ k : Nat) ≤ 2 ^ 60 := Nat.pow_le_pow_right (by decide) hk
  have h2 : 1 ≤ 2 ^ k := Nat.two_pow_pos k
  have e : ((2 ^ k : Nat) - 1 : Int) = ((2 ^ k - 1 : Nat) : Int) := by omega
  rw [e, u64_and_nat _ _ hn (by omega), Nat.and_two_pow_sub_one_eq_mod]
/-- what rightShift leaves: T digits of the quotient, cut at 800 -/
structure RDone (w : World) (b k r0 : Nat) (e : Nat → Nat) (nd : Nat) (dp : Int) (tr : Bool) : Prop where
  ex : ∃ (T m : Nat) (D : Nat → Int) (t2 : Bool), DecC w b D m (dp - ((r0 : Int) - 1)) t2 ∧ 0 < T ∧ nd - r0 ≤ T ∧ T ≤ nd - r0 + (k + 1) ∧ nR e k r0 T = 0 ∧ (800 < T → qR e k r0 (T - 1) ≠ 0) ∧ (∀ j, j < min T 800 → D j = (qR e k r0 j : Int) + 48) ∧ 0 < m ∧ m ≤ min T 800 ∧ (∀ j, m ≤ j → j < min T 800 → D j = 48) ∧ D (m - 1) ≠ 48 ∧ (T ≤ 800 → t2 = tr) ∧ (800 < T → t2 = true)
/-- the third loop's state -/
structure RLoop (w0 w : World) (b k r0 : Nat) (e : Nat → Nat) (nd : Nat) (dp : Int) (tr : Bool) (i : Nat) : Prop where
  ex : ∃ (D : Nat → Int) (t2 : Bool), DecC w b D nd (dp - ((r0 : Int) - 1)) t2 ∧ nd - r0 ≤ i ∧ i ≤ nd - r0 + (k + 1) ∧ (∀ j, j < min i 800 → D j = (qR e k r0 j : Int) + 48) ∧ (i ≤ 800 → t2 = tr) ∧ (∀ j, 800 ≤ j → j < i → qR e k r0 j ≠ 0 → t2 = true) ∧ (i = nd - r0 ∨ nR e k r0 (i - 1) ≠ 0) ∧ Keep [b] w0 w
/-- how many rounds are left -/
def itZ (z : Nat) : Nat → Nat → Nat
  | 0, n => n
  | t + 1, n => itZ z t (n % z * 10)
def stZ (z : Nat) : Nat → Nat → Nat
  | 0, _ => 0
  | f + 1, n => if n = 0 then 0 else stZ z f (n % z * 10) + 1
theorem stZ_more (z : Nat) : ∀ f t n, itZ z t n = 0 → t ≤ f → stZ z (f + 1) n = stZ z f n := by
  intro f
  induction f with
  | zero =>
    intro t n h ht
    obtain rfl : t = 0 := by omega
    have hn : n = 0 := h
    subst hn
    rfl
  | succ f ih =>
    intro t n h ht
    by_cases hn : n = 0
    · subst hn; rfl
    · cases t with
      | zero => exact absurd h hn
      | succ t =>
        have h2 := ih t (n % z * 10) h (by omega)
        show (if n = 0 then 0 else stZ z (f + 1) (n % z * 10) + 1) = (if n = 0 then 0 else stZ z f (n % z * 10) + 1)
        rw [if_neg hn, if_neg hn, h2]
theorem stZ_less (z f t n : Nat) (h : itZ z t n = 0) (ht : t ≤ f) (hn : n ≠ 0) : stZ z f (n % z * 10) < stZ z f n := by
  cases t with
  | zero => exact absurd h hn
  | succ t =>
    obtain ⟨g, rfl⟩ : ∃ g, f = g + 1 := ⟨f - 1, by omega⟩
    have h2 := stZ_more z g t (n % z * 10) h (by omega)
    rw [h2]
    show stZ z g (n % z * 10) < (if n = 0 then 0 else stZ z g (n % z * 10) + 1)
    rw [if_neg hn]; omega
theorem itZ_nR (e : Nat → Nat) (k r a : Nat) (h : ∀ j, r + a ≤ j → e j = 0) : ∀ t i, a ≤ i → itZ (2 ^ k) t (nR e k r i) = nR e k r (i + t) := by
  intro t
  induction t with
  | zero => intro i _; rfl
  | succ t ih =>
    intro i hi
    have h2 := ih (i + 1) (by omega)
    rw [nR_succ, h (r + i) (by omega), Nat.add_zero] at h2
    show itZ (2 ^ k) t (nR e k r i % 2 ^ k * 10) = _
    rw [h2, show i + 1 + t = i + (t + 1) by omega]
theorem left_end (e : Nat → Nat) (k r a i : Nat) (h : ∀ j, r + a ≤ j → e j = 0) (h1 : a ≤ i) (h2 : i ≤ a + (k + 1)) : itZ (2 ^ k) (a + (k + 1) - i) (nR e k r i) = 0 := by
  rw [itZ_nR e k r a h _ i h1, show i + (a + (k + 1) - i) = a + (k + 1) by omega]
  exact nR_end e k r a h
set_option maxRecDepth 1000000 in
set_option maxHeartbeats 1000000 in
theorem right_in (w : World) (b k r0 : Nat) (D : Nat → Int) (nd : Nat) (dp : Int) (tr : Bool) (h : DecC w b D nd dp tr) (hd : DgD D nd) (h0 : 0 < nd) (h8 : nd ≤ 800) (hp1 : -2000 ≤ dp) (hp2 : dp ≤ 2000) (hk1 : 1 ≤ k) (hk2 : k ≤ 60)
    (hr0 : 2 ^ k ≤ pD (eD D nd) r0) (hr1 : ∀ j, j < r0 → pD (eD D nd) j < 2 ^ k) (hr2 : r0 ≤ 1000) (hin : r0 ≤ nd) :
    Calls Tryz.prog 182 #[.pointer (some ⟨b, 0, none⟩), .int .u64 (k : Nat)] w fun e w' => e = .returned (.tuple #[]) ∧ Keep [b] w w' ∧ RDone w' b k r0 (eD D nd) nd dp tr := by
  have H : Hid (DecC w b D nd dp tr) := h
  have HD : Hid (DgD D nd) := hd
  have HR0 : Hid (2 ^ k ≤ pD (eD D nd) r0) := hr0
  have HR1 : Hid (∀ j, j < r0 → pD (eD D nd) j < 2 ^ k) := hr1
  have HE : Hid (∀ j, eD D nd j < 10) := fun j => eD_lt hd j
  have c800 := h.nd
  obtain ⟨z, hz⟩ : ∃ z : Nat, 2 ^ k = z := ⟨_, rfl⟩
  have hzi : (2 : Int) ^ k = (z : Int) := by rw [← hz]; simp
  have hz1 : 2 ≤ z := by
    rw [← hz]
    exact Nat.pow_le_pow_right (n := 2) (by decide) hk1
  have hz2 : z ≤ 1152921504606846976 := by
    rw [← hz]
    exact Nat.le_trans (Nat.pow_le_pow_right (n := 2) (by decide) hk2) (by decide)
  have HTOP : Hid (pD (eD D nd) r0 < 10 * z) := by
    show pD (eD D nd) r0 < 10 * z
    cases r0 with
    | zero => show 0 < _; omega
    | succ j =>
      have a1 := hr1 j (by omega)
      have a2 := eD_lt hd j
      rw [pD_succ]
      rw [hz] at a1
      omega
  have HNL : Hid (∀ i, nR (eD D nd) k r0 i < 10 * z) := by
    intro i
    rw [← hz]
    exact nR_lt _ k r0 (fun j => eD_lt hd j) (by rw [hz]; exact HTOP.out) i
  have HM : Hid (∀ n : Nat, n < 10 * z → bits .and .u64 (n : Int) ((z : Int) - 1) = ((n % z : Nat) : Int)) := by
    intro n hn
    rw [← hz]
    exact mask_pow k n hk2 (by rw [hz] at *; omega)
  have HZ : Hid (2 ^ k = z) := hz
  clear h hd hr0 hr1 hz
  go_enter Tryz.func182, Tryz.ntmps182
  go_wp2
  go_loop [4, 6] (fun r n => ∃ j : Nat, j ≤ r0 ∧ j ≤ nd ∧ r = .int .i64 j ∧ n = .int .u64 (pD (eD D nd) j : Nat)) (fun r _ => nd - (intOf r).toNat)
  case atStart => exact ⟨0, Nat.zero_le _, Nat.zero_le _, rfl, rfl⟩
  case round =>
    obtain ⟨j, hj, hjn, rfl, rfl⟩ := hrel
    by_cases hlt : j < r0
    · have hs := HR1.out j hlt
      rw [HZ.out] at hs
      by_cases hjn2 : j < nd
      · obtain ⟨d1, d2⟩ := HD.out j hjn2
        have c2 := H.out.dg j (by omega)
        have hS : Hid (pD (eD D nd) (j + 1) = pD (eD D nd) j * 10 + eD D nd j) := pD_succ _ _
        have hV : Hid (D j = (eD D nd j : Int) + 48) := eD_val HD.out j hjn2
        have hji : (j : Int) < (nd : Int) := by omega
        have hn2 := hs
        generalize pD (eD D nd) j = n at *
        have hq : (n : Int) / (z : Int) = 0 := by
          rw [show (n : Int) / (z : Int) = ((n / z : Nat) : Int) from rfl, Nat.div_eq_of_lt hs]; rfl
        clear hs
        generalize D j = c at *
        go_wp2
        go_round
        case rel => exact ⟨j + 1, by omega, by omega, by go_num, by rw [hS.out]; have := hV.out; congr 1; omega⟩
        case measure => simp [intOf]; omega
      · omega
    · obtain rfl : j = r0 := by omega
      have e1 : nR (eD D nd) k j 0 = pD (eD D nd) j := rfl
      have hq0 := HR0.out
      have hn2 := HTOP.out
      rw [HZ.out] at hq0
      obtain ⟨n, hn⟩ : ∃ n, pD (eD D nd) j = n := ⟨_, rfl⟩
      rw [hn] at hq0 hn2
      obtain ⟨q, hq⟩ : ∃ q, n / z = q := ⟨_, rfl⟩
      have hqi : (n : Int) / (z : Int) = (q : Int) := by rw [← hq]; rfl
      have hq1 : 1 ≤ q := by rw [← hq]; exact (Nat.le_div_iff_mul_le (by omega)).2 (by omega)
      have hqb : ((q : Int) == 0) = false := by simpa using (show (q : Int) ≠ 0 by omega)
      have HN : Hid (pD (eD D nd) j = n) := hn
      have c801 := H.out.dp
      have f801 := H.out.fz 801 (by omega)
      clear hn hq
      rw [HN.out]
      go_wp2
      have HC1 : Hid (DecC (w.setCell ⟨b, 801, none⟩ (.int .i64 (dp - ((j : Int) - 1)))) b D nd (dp - ((j : Int) - 1)) tr ∧ Keep [b] w (w.setCell ⟨b, 801, none⟩ (.int .i64 (dp - ((j : Int) - 1))))) := ⟨H.out.put_dp _, (Keep.refl [b] w).setCell (.inl (by simp)) _⟩
      rw [← HN.out]
      clear hq0 hn2 hqi hq1 hqb HN c800 c801 f801 e1
      go_loopw [4, 5, 6] (fun r wv n wr => ∃ i r1 : Nat, r1 = j + i ∧ r1 ≤ nd ∧ r = .int .i64 (r1 : Nat) ∧ wv = .int .i64 (i : Nat) ∧ n = .int .u64 (nR (eD D nd) k j i : Nat) ∧ ∃ D1, DecC wr b D1 nd (dp - ((j : Int) - 1)) tr ∧ (∀ x, x < i → D1 x = (qR (eD D nd) k j x : Int) + 48) ∧ (∀ x, i ≤ x → D1 x = D x) ∧ Keep [b] w wr) (fun r _ _ _ => nd - (intOf r).toNat)
      case atStart => exact ⟨0, j, rfl, hin, rfl, rfl, rfl, D, HC1.out.1, fun x hx => by omega, fun x _ => rfl, HC1.out.2⟩
      case round =>
        obtain ⟨i, r1, hr1, hr1n, rfl, rfl, rfl, D1, hc, hdn, hup, hkp⟩ := hrel
        have c800 := hc.nd
        by_cases hlt2 : r1 < nd
        · obtain ⟨d1, d2⟩ := HD.out r1 hlt2
          have c2 := hc.dg r1 (by omega)
          rw [hup r1 (by omega)] at c2
          have f2 := hc.fz i (by omega)
          have c3 := hc.dg i (by omega)
          have hS : Hid (nR (eD D nd) k j (i + 1) = nR (eD D nd) k j i % z * 10 + eD D nd r1) := by
            show _ = _
            rw [nR_succ, HZ.out, hr1]
          have hQ : Hid (qR (eD D nd) k j i = nR (eD D nd) k j i / z) := by
            show _ = _
            unfold qR; rw [HZ.out]
          have hV : Hid (D r1 = (eD D nd r1 : Int) + 48) := eD_val HD.out r1 hlt2
          have hnl := HNL.out i
          have hm := HM.out _ hnl
          have hji : (r1 : Int) < (nd : Int) := by omega
          have hi8 : i < 800 := by omega
          have HX : Hid (DecC wr b D1 nd (dp - ((j : Int) - 1)) tr ∧ (∀ x, x < i → D1 x = (qR (eD D nd) k j x : Int) + 48) ∧ (∀ x, i ≤ x → D1 x = D x) ∧ Keep [b] w wr) := ⟨hc, hdn, hup, hkp⟩
          generalize nR (eD D nd) k j i = n at *
          obtain ⟨q, hq⟩ : ∃ q, n / z = q := ⟨_, rfl⟩
          obtain ⟨m, hm2⟩ : ∃ m, n % z = m := ⟨_, rfl⟩
          have hqi : (n : Int) / (z : Int) = (q : Int) := by rw [← hq]; rfl
          have hq10 : q < 10 := by rw [← hq]; exact (Nat.div_lt_iff_lt_mul (by omega)).2 hnl
          have hmz : m < z := by rw [← hm2]; exact Nat.mod_lt _ (by omega)
          rw [hm2] at hm hS
          rw [hq] at hQ
          have HRR : Hid (r1 = j + i) := hr1
          have HIN : Hid (j ≤ nd) := hin
          clear hc hdn hup hkp hq hm2 hr1
          generalize D r1 = c at *
          go_wp2
          go_roundw
          case rel =>
            have hr1 := HRR.out
            refine ⟨i + 1, r1 + 1, by omega, by omega, by go_num, by go_num, ?_, upD D1 i ((q : Int) + 48), HX.out.1.put_d i _ hi8, fun x hx => ?_, fun x hx => ?_, HX.out.2.2.2.setCell (.inl (by simp)) _⟩
            · rw [hS.out]; have := hV.out; congr 1; omega
            · by_cases e : x = i
              · rw [e, upD_same, hQ.out]
              · rw [upD_other _ _ _ _ e]; exact HX.out.2.1 x (by omega)
            · rw [upD_other _ _ _ _ (by omega)]; exact HX.out.2.2.1 x (by omega)
          case measure => simp [intOf]; omega
        · obtain rfl : r1 = nd := by omega
          have HX : Hid (RLoop w wr b k j (eD D r1) r1 dp tr i) := ⟨D1, tr, hc, by omega, by omega, fun x hx => hdn x (by omega), fun _ => rfl, fun x h1 h2 => by omega, .inl (by omega), hkp⟩
          have hi8 : min i 800 = i := by omega
          have HA : Hid (r1 - j = i) := by show _ = _; omega
          clear hc hdn hup hkp
          go_wp2
          go_loopw [5, 6] (fun wv n wr => ∃ i : Nat, wv = .int .i64 ((min i 800 : Nat) : Int) ∧ n = .int .u64 (nR (eD D r1) k j i : Nat) ∧ RLoop w wr b k j (eD D r1) r1 dp tr i) (fun _ n _ => stZ z 62 (intOf n).toNat)
          case atStart => exact ⟨i, by rw [hi8], rfl, HX.out⟩
          case round =>
            obtain ⟨i, rfl, rfl, hl⟩ := hrel
            have HL : Hid (RLoop w wr b k j (eD D r1) r1 dp tr i) := hl
            obtain ⟨D2, t2, hc, ha1, ha2, hdn, ht1, ht2, hlast, hkp⟩ := hl.ex
            have hnl := HNL.out i
            have hm := HM.out _ hnl
            have hS : Hid (nR (eD D r1) k j (i + 1) = nR (eD D r1) k j i % z * 10) := by
              show _ = _
              rw [nR_succ, HZ.out, eD_out D r1 (j + i) (by omega), Nat.add_zero]
            have hQ : Hid (qR (eD D r1) k j i = nR (eD D r1) k j i / z) := by
              show _ = _
              unfold qR; rw [HZ.out]
            have hE : Hid (itZ z (r1 - j + (k + 1) - i) (nR (eD D r1) k j i) = 0) := by
              rw [← HZ.out]
              exact left_end (eD D r1) k j (r1 - j) i (fun j hj => eD_out D r1 j (by omega)) ha1 ha2
            by_cases hn0 : nR (eD D r1) k j i = 0
            · -- the end
              have hT : 0 < i := by
                rcases Nat.eq_zero_or_pos i with hi | hi
                · subst hi
                  have h1 : nR (eD D r1) k j 0 = pD (eD D r1) j := rfl
                  rw [h1] at hn0
                  have h2 := HR0.out
                  rw [hn0, HZ.out] at h2
                  omega
                · exact hi
              have hT9 : Hid (800 < i → qR (eD D r1) k j (i - 1) ≠ 0) := by
                intro hi
                rcases hlast with hl2 | hl2
                · omega
                · intro hq
                  unfold qR at hq
                  have h3 := Nat.div_add_mod (nR (eD D r1) k j (i - 1)) (2 ^ k)
                  have h4 : nR (eD D r1) k j (i - 1 + 1) = _ := nR_succ _ _ _ _
                  rw [show i - 1 + 1 = i by omega, hn0] at h4
                  rw [hq] at h3
                  omega
              have hT8 : Hid (800 < i → t2 = true) := fun hi => ht2 (i - 1) (by omega) (by omega) (hT9.out hi)
              have f800 := hc.fz 800 (by omega)
              have c8 := hc.nd
              have hq0 : Hid (1 ≤ qR (eD D r1) k j 0) := qR_top _ k j HR0.out
              have HQ9 : Hid (∀ x, qR (eD D r1) k j x < 10) := fun x => by
                show qR (eD D r1) k j x < 10
                exact qR_lt _ k j HE.out (by rw [HZ.out]; exact HTOP.out) x
              have HK2 : Hid (Keep [b] w (wr.setCell ⟨b, 800, none⟩ (.int .i64 ((min i 800 : Nat) : Int)))) := hkp.setCell (.inl (by simp)) _
              have HTR := trim_any (wr.setCell ⟨b, 800, none⟩ (.int .i64 ((min i 800 : Nat) : Int))) b D2 (min i 800) (dp - ((j : Int) - 1)) t2 (hc.put_nd _) (fun x hx => by
                  rw [hdn x hx]
                  have := HQ9.out x
                  omega) (by omega) (by omega) (by
                  rw [hdn 0 (by omega)]
                  have := hq0.out
                  omega)
              have HDN : Hid ((∀ x, x < min i 800 → D2 x = (qR (eD D r1) k j x : Int) + 48) ∧ nR (eD D r1) k j i = 0 ∧ (i ≤ 800 → t2 = tr) ∧ r1 - j ≤ i ∧ i ≤ r1 - j + (k + 1)) := ⟨hdn, hn0, ht1, ha1, ha2⟩
              rw [hn0]
              have hm8 : min i 800 ≤ 800 := by omega
              obtain ⟨M, hM⟩ : ∃ M, min i 800 = M := ⟨_, rfl⟩
              rw [hM] at HTR HK2 hm8 ⊢
              have HMM : Hid (min i 800 = M) := hM
              clear hc hdn ht1 ht2 hlast hkp hn0 hm hnl HL hM
              go_wp2_with (first | (go_at_call 180; refine HTR.mono ?_; rintro e9 w9 ⟨rfl, hk9, hm9⟩; have HF : Hid _ := And.intro hk9 hm9; clear hk9 hm9))
              go_end0
              obtain ⟨hk9, m, g1, g2, g3, g4, g5⟩ := HF.out
              refine ⟨rfl, HK2.out.trans' hk9, ⟨i, m, D2, t2, g1, hT, HDN.out.2.2.2.1, HDN.out.2.2.2.2, HDN.out.2.1, hT9.out, HDN.out.1, g2, ?_, ?_, g5, HDN.out.2.2.1, hT8.out⟩⟩
              · rw [HMM.out]; exact g3
              · rw [HMM.out]; exact g4
            · have hlt9 : i < r1 - j + (k + 1) := by
                rcases Nat.lt_or_ge i (r1 - j + (k + 1)) with h | h
                · exact h
                · obtain rfl : i = r1 - j + (k + 1) := by omega
                  exact absurd (nR_end (eD D r1) k j (r1 - j) (fun j hj => eD_out D r1 j (by omega))) hn0
              have HLT : Hid (i < r1 - j + (k + 1)) := hlt9
              have HA1 : Hid (r1 - j ≤ i) := ha1
              have HN0 : Hid (nR (eD D r1) k j i ≠ 0) := hn0
              have HLast : Hid (∀ x, x = i → nR (eD D r1) k j x ≠ 0) := fun x hx => by
                show nR (eD D r1) k j x ≠ 0
                rw [hx]; exact HN0.out
              have HDN : Hid ((∀ x, x < min i 800 → D2 x = (qR (eD D r1) k j x : Int) + 48) ∧ (i ≤ 800 → t2 = tr) ∧ (∀ x, 800 ≤ x → x < i → qR (eD D r1) k j x ≠ 0 → t2 = true) ∧ Keep [b] w wr) := ⟨hdn, ht1, ht2, hkp⟩
              have HSL : Hid (stZ z 62 (nR (eD D r1) k j i % z * 10) < stZ z 62 (nR (eD D r1) k j i)) := stZ_less z 62 _ _ hE.out (by omega) hn0
              have HC : Hid (DecC wr b D2 r1 (dp - ((j : Int) - 1)) t2) := hc
              have f803 := hc.fz 803 (by omega)
              have c803 := hc.tr
              generalize nR (eD D r1) k j i = n at *
              obtain ⟨q, hq⟩ : ∃ q, n / z = q := ⟨_, rfl⟩
              obtain ⟨m, hm2⟩ : ∃ m, n % z = m := ⟨_, rfl⟩
              have hqi : (n : Int) / (z : Int) = (q : Int) := by rw [← hq]; rfl
              have hq10 : q < 10 := by rw [← hq]; exact (Nat.div_lt_iff_lt_mul (by omega)).2 hnl
              have hmz : m < z := by rw [← hm2]; exact Nat.mod_lt _ (by omega)
              rw [hm2] at hm hS HSL
              rw [hq] at hQ
              by_cases hi8 : i < 800
              · have hmi : min i 800 = i := by omega
                have f2 := hc.fz i (by omega)
                have c3 := hc.dg i (by omega)
                rw [hmi]
                clear hc hdn ht1 ht2 hlast hkp hq hm2 HL hl hE ha1 ha2 hlt9 hmi
                go_wp2
                go_roundw
                case rel =>
                  have hd9 := HDN.out
                  rw [show min i 800 = i by omega] at hd9
                  refine ⟨i + 1, ?_, ?_, ⟨upD D2 i ((q : Int) + 48), t2, HC.out.put_d i _ hi8, ?_, ?_, fun x hx => ?_, fun _ => hd9.2.1 (by omega), fun x h1 h2 => by omega, .inr ?_, hd9.2.2.2.setCell (.inl (by simp)) _⟩⟩
                  · rw [show min (i + 1) 800 = i + 1 by omega]; go_num
                  · rw [hS.out]; go_num
                  · have := HA1.out; omega
                  · have := HLT.out; omega
                  · by_cases e : x = i
                    · rw [e, upD_same, hQ.out]
                    · rw [upD_other _ _ _ _ e]; exact hd9.1 x (by omega)
                  · exact HLast.out _ (by omega)
                case measure =>
                  have := HSL.out
                  simp [intOf]; exact this
              · have hmi : min i 800 = 800 := by omega
                rw [hmi]
                have HW : Hid (∀ t3 : Bool, ∀ w3, (t3 = true ∨ t3 = t2 ∧ q = 0) → DecC w3 b D2 r1 (dp - ((j : Int) - 1)) t3 → Keep [b] w w3 → RLoop w w3 b k j (eD D r1) r1 dp tr (i + 1)) := by
                  intro t3 w3 ht hc3 hk3
                  refine ⟨D2, t3, hc3, by have := HA1.out; omega, by have := HLT.out; omega, fun x hx => HDN.out.1 x (by omega), fun h => by omega, fun x h1 h2 h3 => ?_, .inr (HLast.out _ (by omega)), hk3⟩
                  rcases ht with rfl | ⟨rfl, hq0⟩
                  · rfl
                  · by_cases e : x = i
                    · subst e; rw [hQ.out, hq0] at h3; exact absurd rfl h3
                    · exact HDN.out.2.2.1 x h1 (by omega) h3
                have HI : Hid (min (i + 1) 800 = 800) := by show _ = _; omega
                clear hc hdn ht1 ht2 hlast hkp hq hm2 HL hl hE ha1 ha2 hlt9 hmi
                by_cases hq0 : q = 0
                · rw [hq0] at hqi
                  go_wp2
                  go_roundw
                  case rel => exact ⟨i + 1, by rw [HI.out], by rw [hS.out]; go_num, HW.out t2 _ (.inr ⟨rfl, hq0⟩) HC.out HDN.out.2.2.2⟩
                  case measure =>
                    have := HSL.out
                    simp [intOf]; exact this
                · have hqp : 0 < q := by omega
                  go_wp2
                  go_roundw
                  case rel => exact ⟨i + 1, by rw [HI.out], by rw [hS.out]; go_num, HW.out true _ (.inl rfl) (HC.out.put_tr true) (HDN.out.2.2.2.setCell (.inl (by simp)) _)⟩
                  case measure =>
                    have := HSL.out
                    simp [intOf]; exact this
end Go.Proofs.YtnljpbpphdhnpaaGreatDoor
