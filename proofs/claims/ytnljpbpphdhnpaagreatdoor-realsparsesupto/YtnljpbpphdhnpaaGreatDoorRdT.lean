/- The library's text of a power below, and the program's nearest there. -/
import Derived.Test.YtnljpbpphdhnpaaGreatDoorShelfE
import Derived.Test.YtnljpbpphdhnpaaGreatDoorTxQ
import Derived.Lib.AppendIntMem

namespace Go.Proofs.YtnljpbpphdhnpaaGreatDoor
open Go.RowKit Go.PlainAid

theorem format_down (k : Nat) (hk0 : 0 < k) (hk : k ≤ 46) (w : World) (hT : Lib.TabIs Tryz.prog w powN .u64 Lib.pow10Tab) :
    ∀ w', Below w.heap.size w w' → Calls Tryz.prog 56 #[.int .i64 (-(k : Int)), .int .i64 10] w' fun e w'' => e = .returned (.string (bl (45 :: Lib.decDigits k))) ∧ Below w'.heap.size w' w'' := fun w' hb => by
  refine (Any.strconv_FormatInt_10 Tryz.laysM173 (-(k : Int)) (by omega) (by omega) w' (Lib.tabBelow_of_tabIs hT w' hb)).mono ?_
  rintro e w'' ⟨rfl, j, os, rfl⟩
  refine ⟨?_, Lib.below_grow _ _ (Nat.le_refl _) j os⟩
  have e1 : Lib.itoa (-(k : Int)) = 45 :: Lib.decDigits k := by
    unfold Lib.itoa
    rw [if_pos (by omega)]
    congr 2
    omega
  rw [e1]
  rfl
end Go.Proofs.YtnljpbpphdhnpaaGreatDoor

/- The program's nearest where the library isn't asked. -/
namespace Go.Proofs.YtnljpbpphdhnpaaGreatDoor
open Go.RowKit Go.PlainAid

set_option maxRecDepth 1000000 in
theorem nearest_none (k : Int) (w : World) :
    Calls Tryz.prog 29 #[.agg #[.string ⟨#[]⟩, .int .i64 k]] w fun e w' => e = .returned (.tuple #[.float .f32 0, .bool true]) ∧ Below w.heap.size w w' := by
  go_enter Tryz.func29, Tryz.ntmps29
  go_wp2
  go_ret2
  exact ⟨rfl, by go_grown⟩
set_option maxRecDepth 1000000 in
theorem nearest_low (E : ByteArray) (k : Int) (w : World) (hne : E.toList.isEmpty = false) (hk : k < -46) :
    Calls Tryz.prog 29 #[.agg #[.string E, .int .i64 k]] w fun e w' => e = .returned (.tuple #[.float .f32 0, .bool true]) ∧ Below w.heap.size w w' := by
  go_enter Tryz.func29, Tryz.ntmps29
  go_wp2
  go_ret2
  exact ⟨rfl, by go_grown⟩
set_option maxRecDepth 1000000 in
theorem nearest_high (E : ByteArray) (k : Int) (w : World) (hne : E.toList.isEmpty = false) (hk : 38 < k) :
    Calls Tryz.prog 29 #[.agg #[.string E, .int .i64 k]] w fun e w' => e = .returned (.tuple #[.float .f32 0, .bool false]) ∧ Below w.heap.size w w' := by
  have hk2 : ¬ k < -46 := by omega
  go_enter Tryz.func29, Tryz.ntmps29
  go_wp2
  go_ret2
  exact ⟨rfl, by go_grown⟩
end Go.Proofs.YtnljpbpphdhnpaaGreatDoor

/- The program's atMostFar: of any digits the number that they are, or one of at least 2^40. -/
namespace Go.Proofs.YtnljpbpphdhnpaaGreatDoor
open Go.RowKit Go.PlainAid

/-- one digit more -/
def farS (n : Int) (c : Int) : Int := if n < 1099511627776 then n * 10 + (c - 48) else n
set_option maxRecDepth 1000000 in
set_option maxHeartbeats 1000000 in
theorem far_run (s : ByteArray) (F : Nat → Int) (w : World) (hs : s.size ≤ 1099511627776) (hd : ∀ k, k < s.size → 48 ≤ bt s k ∧ bt s k ≤ 57) (h0 : F 0 = 0) (hF : ∀ k, k < s.size → F (k + 1) = farS (F k) (bt s k)) (hb : ∀ k, k ≤ s.size → 0 ≤ F k ∧ F k ≤ 10995116277760) :
    Calls Tryz.prog 52 #[.string s] w fun e w' => e = .returned (.int .i64 (F s.size)) ∧ w' = w := by
  have HG : Hid (∀ i (h : i < s.size), ((s[i]'h).toNat : Int) = bt s i) := get_bt s
  have HD : Hid (∀ k, k < s.size → 48 ≤ bt s k ∧ bt s k ≤ 57) := hd
  have HF : Hid (∀ k, k < s.size → F (k + 1) = farS (F k) (bt s k)) := hF
  have HB : Hid (∀ k, k ≤ s.size → 0 ≤ F k ∧ F k ≤ 10995116277760) := hb
  have H0 : Hid (F 0 = 0) := h0
  clear hd hF hb h0
  go_enter Tryz.func52, Tryz.ntmps52
  go_wp2
  go_loop [3, 7] (fun n i => ∃ j : Nat, j ≤ s.size ∧ i = .int .i64 j ∧ n = .int .i64 (F j)) (fun _ i => s.size - (intOf i).toNat)
  case atStart => exact ⟨0, Nat.zero_le _, rfl, by rw [H0.out]⟩
  case round =>
    obtain ⟨j, hj, rfl, rfl⟩ := hrel
    by_cases hjl : j < s.size
    · have hji : (j : Int) < (s.size : Int) := by omega
      have gj : ((s[j]'hjl).toNat : Int) = bt s j := HG.out j hjl
      obtain ⟨r1, r2⟩ := HD.out j hjl
      obtain ⟨b1, b2⟩ := HB.out j hj
      have H1 : Hid (F (j + 1) = farS (F j) (bt s j)) := HF.out j hjl
      generalize bt s j = c at *
      generalize F j = n at *
      by_cases hn : n < 1099511627776
      · have e1 : farS n c = n * 10 + (c - 48) := by unfold farS; rw [if_pos hn]
        have H2 : Hid (F (j + 1) = n * 10 + (c - 48)) := by rw [← e1]; exact H1.out
        clear H1 e1
        go_wp2
        go_round
        case rel => exact ⟨j + 1, by omega, by go_num, by rw [H2.out]⟩
        case measure => simp [intOf]; omega
      · have e1 : farS n c = n := by unfold farS; rw [if_neg hn]
        have H2 : Hid (F (j + 1) = n) := by rw [← e1]; exact H1.out
        clear H1 e1
        go_wp2
        go_round
        case rel => exact ⟨j + 1, by omega, by go_num, by rw [H2.out]⟩
        case measure => simp [intOf]; omega
    · obtain rfl : j = s.size := by omega
      go_wp2
      go_ret
      exact ⟨rfl, rfl⟩
end Go.Proofs.YtnljpbpphdhnpaaGreatDoor

/- The program's atMostFar of a list of digits. -/
namespace Go.Proofs.YtnljpbpphdhnpaaGreatDoor
open Go.RowKit Go.PlainAid

def farL (l : List UInt8) : Int := l.foldl (fun n c => farS n (c.toNat : Int)) 0
theorem far_snoc (l : List UInt8) (c : UInt8) : farL (l ++ [c]) = farS (farL l) (c.toNat : Int) := by
  unfold farL; rw [List.foldl_append]; rfl
theorem far_take (l : List UInt8) (h : Dig l) : ∀ k, k ≤ l.length → (0 ≤ farL (l.take k) ∧ farL (l.take k) ≤ 10995116277760) ∧ (farL (l.take k) < 1099511627776 → farL (l.take k) = (dvL (l.take k) : Int)) ∧ (1099511627776 ≤ farL (l.take k) → 1099511627776 ≤ (dvL (l.take k) : Int)) := by
  intro k
  induction k with
  | zero => intro _; simp [farL, dvL]
  | succ k ih =>
    intro hk
    obtain ⟨⟨i1, i2⟩, i3, i4⟩ := ih (by omega)
    have ht : l.take (k + 1) = l.take k ++ [l[k]'(by omega)] := List.take_succ_eq_append_getElem (by omega)
    have hd := h (l[k]'(by omega)) (List.getElem_mem _)
    rw [ht, far_snoc, dv_snoc]
    generalize l[k]'(by omega) = c at *
    generalize farL (l.take k) = n at *
    generalize dvL (l.take k) = d at *
    unfold farS
    by_cases hn : n < 1099511627776
    · have := i3 hn
      rw [if_pos hn]
      refine ⟨⟨by omega, by omega⟩, fun _ => by omega, fun _ => by omega⟩
    · have := i4 (by omega)
      rw [if_neg hn]
      refine ⟨⟨by omega, by omega⟩, fun _ => by omega, fun _ => by omega⟩
theorem far_any (l : List UInt8) (h : Dig l) (hl : l.length ≤ 1099511627776) (w : World) :
    Calls Tryz.prog 52 #[.string (bl l)] w fun e w' => e = .returned (.int .i64 (farL l)) ∧ w' = w := by
  have hr := far_run (bl l) (fun k => farL (l.take k)) w (by rw [bl_size]; exact hl) (fun k hk => by
      rw [bl_size] at hk
      rw [bl_bt l k hk]
      have := h (l[k]) (List.getElem_mem hk)
      omega) (by simp [farL]) (fun k hk => by
      rw [bl_size] at hk
      rw [bl_bt l k hk]
      show farL (l.take (k + 1)) = farS (farL (l.take k)) _
      rw [List.take_succ_eq_append_getElem hk, far_snoc]) (fun k hk => by
      rw [bl_size] at hk
      exact (far_take l h k hk).1)
  rw [bl_size] at hr
  simp only [List.take_length] at hr
  exact hr
/-- what it says of the number -/
theorem far_dv (l : List UInt8) (h : Dig l) : (0 ≤ farL l ∧ farL l ≤ 10995116277760) ∧ (farL l < 1099511627776 → farL l = (dvL l : Int)) ∧ (1099511627776 ≤ farL l → 1099511627776 ≤ (dvL l : Int)) := by
  have := far_take l h l.length (Nat.le_refl _)
  rwa [List.take_length] at this
end Go.Proofs.YtnljpbpphdhnpaaGreatDoor

/- The library's ParseFloat of a number that is too great: an infinite one, and an error. -/
namespace Go.Proofs.YtnljpbpphdhnpaaGreatDoor
open Go.RowKit Go.PlainAid

set_option maxRecDepth 1000000 in
theorem prefix_inf (s : ByteArray) (r64 : Nat) (w : World) (hQ : Calls Tryz.prog 124 #[.string s] w fun e w' => e = .returned (.tuple #[.float .f32 2139095040, .int .i64 (s.size : Nat), errRange]) ∧ Below w.heap.size w w') (hC : ∀ w, (convert 22 80 (.float .f32 2139095040)).run Tryz.prog w = .ok (.float .f64 r64) w) :
    Calls Tryz.prog 99 #[.string s, .int .i64 32] w fun e w' => e = .returned (.tuple #[.float .f64 r64, .int .i64 (s.size : Nat), errRange]) ∧ Below w.heap.size w w' := by
  unfold errRange at hQ ⊢
  go_enter Tryz.func99, Tryz.ntmps99
  go_wp2_with (first | (go_at_call 124; refine hQ.mono ?_; rintro e9 w9 ⟨rfl, hb⟩))
  go_ret3
  exact ⟨rfl, hb⟩
set_option maxRecDepth 1000000 in
theorem ipf_inf (s : ByteArray) (r64 : Nat) (w : World) (hQ : Calls Tryz.prog 99 #[.string s, .int .i64 32] w fun e w' => e = .returned (.tuple #[.float .f64 r64, .int .i64 (s.size : Nat), errRange]) ∧ Below w.heap.size w w') :
    Calls Tryz.prog 79 #[.string s, .int .i64 32] w fun e w' => e = .returned (.tuple #[.float .f64 r64, errRange]) ∧ Below w.heap.size w w' := by
  unfold errRange at hQ ⊢
  go_enter Tryz.func79, Tryz.ntmps79
  go_wp2_with (first | (go_at_call 99; refine hQ.mono ?_; rintro e9 w9 ⟨rfl, hb⟩))
  go_ret2
  exact ⟨rfl, hb⟩
theorem err_range (fn s : ByteArray) (base bits : Int) (ev : Value) (w : World) (hlim : s.size ≤ 281474976710656) (hv : w.cell? ⟨3, 0, none⟩ = some ev) (hev : ev = .nilIface ∨ ∃ te pe, ev = .iface te pe) :
    Calls Tryz.prog 80 #[.string fn, .string s, .int .i64 base, .int .i64 bits, .iface 124 (.int .i64 1)] w fun e w' => ∃ K, e = .returned (.iface 125 (.pointer (some ⟨K, 0, none⟩))) ∧ w.heap.size ≤ K ∧ w'.heap[K]? = some (.cells #[.string fn, .string s, ev] 149 (0, 0)) ∧ Below w.heap.size w w' :=
  Any.strconv_toError_range Tryz.laysC245 fn s base bits ev w hlim hv hev
set_option maxRecDepth 1000000 in
theorem pf_inf_raw (s : ByteArray) (r64 : Nat) (w : World) (hE : ∀ w', Below w.heap.size w w' → Calls Tryz.prog 80 #[.string ⟨#[80, 97, 114, 115, 101, 70, 108, 111, 97, 116]⟩, .string s, .int .i64 0, .int .i64 32, .iface 124 (.int .i64 1)] w' fun e w'' => (∃ K, e = .returned (.iface 125 (.pointer (some ⟨K, 0, none⟩)))) ∧ Below w'.heap.size w' w'')
    (hQ : Calls Tryz.prog 79 #[.string s, .int .i64 32] w fun e w' => e = .returned (.tuple #[.float .f64 r64, errRange]) ∧ Below w.heap.size w w') :
    Calls Tryz.prog 55 #[.string s, .int .i64 32] w fun e w' => (∃ K, e = .returned (.tuple #[.float .f64 r64, .iface 125 (.pointer (some ⟨K, 0, none⟩))])) ∧ Below w.heap.size w w' := by
  unfold errRange at hQ
  have HE : Hid (∀ w', Below w.heap.size w w' → Calls Tryz.prog 80 #[.string ⟨#[80, 97, 114, 115, 101, 70, 108, 111, 97, 116]⟩, .string s, .int .i64 0, .int .i64 32, .iface 124 (.int .i64 1)] w' fun e w'' => (∃ K, e = .returned (.iface 125 (.pointer (some ⟨K, 0, none⟩)))) ∧ Below w'.heap.size w' w'') := hE
  clear hE
  go_enter Tryz.func55, Tryz.ntmps55
  go_wp2_with fail
  refine hQ.mono ?_
  rintro e9 w9 ⟨rfl, hb⟩
  go_wp2_with fail
  refine (HE.out _ hb).mono ?_
  rintro e9 w8 ⟨⟨K, rfl⟩, hb2⟩
  go_wp2
  go_ret2
  exact ⟨⟨K, rfl⟩, hb.trans (hb2.mono hb.size)⟩
end Go.Proofs.YtnljpbpphdhnpaaGreatDoor

/- The program's nearest of a number that is too great. -/
namespace Go.Proofs.YtnljpbpphdhnpaaGreatDoor
open Go.RowKit Go.PlainAid

set_option maxRecDepth 1000000 in
set_option maxHeartbeats 2000000 in
theorem nearest_rawE (E C0 C1 A1 A2 A3 A4 KT : ByteArray) (k : Int) (R r64 : Nat) (w : World) (hk0 : -46 ≤ k) (hk : k ≤ 38) (hE0 : 0 < E.size) (hE1 : E.size ≤ 1099511627000) (hne : E.toList.isEmpty = false)
    (s0 : E.extract 0 1 = C0) (s1 : E.extract 1 E.size = C1) (z0 : C0.size = 1) (z1 : C1.size ≤ 1099511627000) (zk : KT.size ≤ 3) (a1 : C0 ++ ⟨#[46]⟩ = A1) (a2 : A1 ++ C1 = A2) (a3 : A2 ++ ⟨#[101]⟩ = A3) (a4 : A3 ++ KT = A4) (q1 : A1.size = 2) (q2 : A2.size ≤ 1099511627100) (q3 : A3.size ≤ 1099511627200)
    (hF : ∀ w', Below w.heap.size w w' → Calls Tryz.prog 56 #[.int .i64 k, .int .i64 10] w' fun e w'' => e = .returned (.string KT) ∧ Below w'.heap.size w' w'')
    (hP : ∀ w', Below w.heap.size w w' → Calls Tryz.prog 55 #[.string A4, .int .i64 32] w' fun e w'' => (∃ K, e = .returned (.tuple #[.float .f64 r64, .iface 125 (.pointer (some ⟨K, 0, none⟩))])) ∧ Below w'.heap.size w' w'')
    (hC : ∀ w, (convert 80 22 (.float .f64 r64)).run Tryz.prog w = .ok (.float .f32 R) w) :
    Calls Tryz.prog 29 #[.agg #[.string E, .int .i64 k]] w fun e w' => e = .returned (.tuple #[.float .f32 R, .bool false]) ∧ Below w.heap.size w w' := by
  have hW0 : Below w.heap.size w (w.alloc (.cells #[.string E, .int .i64 k] 46)) := (Below.refl w.heap.size w).alloc (Nat.le_refl _) _
  have HP : Hid (∀ w', Below w.heap.size w w' → Calls Tryz.prog 55 #[.string A4, .int .i64 32] w' fun e w'' => (∃ K, e = .returned (.tuple #[.float .f64 r64, .iface 125 (.pointer (some ⟨K, 0, none⟩))])) ∧ Below w'.heap.size w' w'') := hP
  have HF : Hid (∀ w', Below w.heap.size w w' → Calls Tryz.prog 56 #[.int .i64 k, .int .i64 10] w' fun e w'' => e = .returned (.string KT) ∧ Below w'.heap.size w' w'') := hF
  clear hP hF
  have HW : Hid (∀ w', ((∀ b o, b < (w.alloc (.cells #[.string E, .int .i64 k] 46)).heap.size → w'.cell? ⟨b, o, none⟩ = (w.alloc (.cells #[.string E, .int .i64 k] 46)).cell? ⟨b, o, none⟩) ∧ Below (w.alloc (.cells #[.string E, .int .i64 k] 46)).heap.size (w.alloc (.cells #[.string E, .int .i64 k] 46)) w') → Below w.heap.size w w') := fun w' h => hW0.trans (h.2.mono (by simp))
  clear hW0
  have i1 : (1 : Int) ≤ (E.size : Int) := by omega
  have n2 : ¬ 9223372036854775807 < 2 + C1.size := by omega
  have n3 : ¬ 9223372036854775807 < A2.size + 1 := by omega
  have n4 : ¬ 9223372036854775807 < A3.size + KT.size := by omega
  have p46 : (⟨#[46]⟩ : ByteArray).size = 1 := rfl
  have p101 : (⟨#[101]⟩ : ByteArray).size = 1 := rfl
  go_enter Tryz.func29, Tryz.ntmps29
  go_wp2
  go_region_held3 (fun w' => (∀ b o, b < (w.alloc (.cells #[.string E, .int .i64 k] 46)).heap.size → w'.cell? ⟨b, o, none⟩ = (w.alloc (.cells #[.string E, .int .i64 k] 46)).cell? ⟨b, o, none⟩) ∧ Below (w.alloc (.cells #[.string E, .int .i64 k] 46)).heap.size (w.alloc (.cells #[.string E, .int .i64 k] 46)) w')
    (first | exact keep_start | exact keep_next (by assumption) (by assumption))
    (first | (go_at_call 56; refine (HF.out _ (HW.out _ (by assumption))).mono ?_; rintro e w1 ⟨rfl, hb⟩) | (go_at_call 55; refine (HP.out _ (HW.out _ (by assumption))).mono ?_; rintro e w1 ⟨⟨K, rfl⟩, hb⟩))
  all_goals rename_i hH
  all_goals go_wp2
  all_goals go_quiet (fail)
  all_goals go_wp2
  all_goals go_ret2
  all_goals exact ⟨rfl, below_drewN (HW.out _ hH) _⟩
end Go.Proofs.YtnljpbpphdhnpaaGreatDoor


/- The program's nearest where nothing is cut off and the number is too great: no real. -/
namespace Go.Proofs.YtnljpbpphdhnpaaGreatDoor
open Go.RowKit Go.PlainAid

/-- the library's variable of that error -/
def ErV (w : World) : Prop := ∃ ev, w.cell? ⟨3, 0, none⟩ = some ev ∧ (ev = .nilIface ∨ ∃ te pe, ev = .iface te pe)
theorem ErV.below {w w' : World} (h : ErV w) (hb : Below w.heap.size w w') : ErV w' := by
  obtain ⟨ev, h1, h2⟩ := h
  exact ⟨ev, cell_next hb h1, h2⟩
theorem pf_inf (s : ByteArray) (w : World) (hs : s.size ≤ 281474976710656) (hV : ErV w) (hA : Calls Tryz.prog 124 #[.string s] w fun e w' => e = .returned (.tuple #[.float .f32 2139095040, .int .i64 (s.size : Nat), errRange]) ∧ Below w.heap.size w w') :
    Calls Tryz.prog 55 #[.string s, .int .i64 32] w fun e w' => (∃ K, e = .returned (.tuple #[.float .f64 9218868437227405312, .iface 125 (.pointer (some ⟨K, 0, none⟩))])) ∧ Below w.heap.size w w' := by
  refine pf_inf_raw s _ w (fun w' hb => ?_) (ipf_inf s _ w (prefix_inf s _ w hA (fun w => run_convert_float_float w 22 80 .f32 .f64 _ _ (by kernel_rfl) Tryz.underlying80 (by decide))))
  obtain ⟨ev, h1, h2⟩ := hV.below hb
  refine (err_range _ s 0 32 ev w' hs h1 h2).mono ?_
  rintro e w'' ⟨K, he, _, _, hb2⟩
  exact ⟨⟨K, he⟩, hb2⟩
/-- at a power above -/
theorem nearest_over (c0 : UInt8) (cs : List UInt8) (k m : Nat) (p : Int) (h0 : 49 ≤ c0.toNat ∧ c0.toNat ≤ 57) (hc : Dig cs) (hl : cs.length ≤ 1099511626000) (hk : k ≤ 38) (hz : cutOff cs = false)
    (hp : (k : Int) - ((min cs.length 18 : Nat) : Int) = p) (hlw : LowB (dvL (c0 :: cs.take 18) * 10 ^ p.toNat) (10 ^ (-p).toNat) m) (hr : nearZ (dvL (c0 :: cs.take 18)) p m = 2139095040) (w : World) (hT : TabB w) (hV : ErV w) :
    Calls Tryz.prog 29 #[.agg #[.string (bl (c0 :: cs)), .int .i64 k]] w fun e w' => e = .returned (.tuple #[.float .f32 2139095040, .bool false]) ∧ Below w.heap.size w w' := by
  obtain ⟨hes, hes0, hes2⟩ := two_digits k (by omega)
  have hm : min cs.length 18 ≤ 18 := Nat.min_le_right _ _
  have hF : ∀ w', Below w.heap.size w w' → Calls Tryz.prog 56 #[.int .i64 k, .int .i64 10] w' fun e w'' => e = .returned (.string (bl (Lib.decDigits k))) ∧ Below w'.heap.size w' w'' := fun w' _ =>
    (Tryz.strconv_FormatInt_10_small k (by omega) w').mono (by rintro e w1 ⟨rfl, rfl⟩; exact ⟨rfl, Below.refl _ _⟩)
  have hsp := bl_extract [c0] cs
  have hlen := num_len c0 cs (Lib.decDigits k)
  have hP := fun w' (hb : Below w.heap.size w w') => pf_inf (bl (numT c0 cs (Lib.decDigits k))) w' (by rw [bl_size]; omega) (hV.below hb) (by
    have h := atof_up c0 cs (Lib.decDigits k) p m h0 hc (by omega) hes hes2 hes0 hz (by rw [dv_dec]; exact hp) (by omega) (by omega) hlw w' (hT.below hb)
    rw [hr] at h
    exact h)
  refine nearest_rawE (bl (c0 :: cs)) (bl [c0]) (bl cs) (bl [c0, 46]) (bl (c0 :: 46 :: cs)) (bl (c0 :: 46 :: (cs ++ [101]))) (bl (numT c0 cs (Lib.decDigits k))) (bl (Lib.decDigits k)) (k : Int) _ _ w (by omega) (by omega) (by rw [bl_size]; simp) (by rw [bl_size]; simp; omega) (nil_false _ (by simp)) hsp.1 (by rw [bl_size]; exact hsp.2) rfl (by rw [bl_size]; omega) (by rw [bl_size]; omega) (bl_app [c0] [46]) (bl_app [c0, 46] cs) ?_ ?_ rfl (by rw [bl_size]; simp; omega) (by rw [bl_size]; simp; omega) hF hP (fun w => run_convert_float_float w 80 22 .f64 .f32 _ _ (by kernel_rfl) Tryz.underlying22 (by decide))
  · exact bl_app (c0 :: 46 :: cs) [101]
  · have := bl_app (c0 :: 46 :: (cs ++ [101])) (Lib.decDigits k)
    simpa [numT] using this
end Go.Proofs.YtnljpbpphdhnpaaGreatDoor

/- The library's atof32 of more than nineteen digits, where what is cut off doesn't matter. -/
namespace Go.Proofs.YtnljpbpphdhnpaaGreatDoor
open Go.RowKit Go.PlainAid

set_option maxRecDepth 1000000 in
set_option maxHeartbeats 1000000 in
theorem atof32_same (s : ByteArray) (d R : Nat) (er er2 : Value) (p : Int) (w : World) (hd : (d : Int) ≠ 0) (hd2 : d + 1 < 18446744073709551616) (hp : -70 ≤ p ∧ p ≤ 40) (heq : (FloatKind.f32.format.order R R == some Ordering.eq) = true)
    (hS : ∀ w, Calls Tryz.prog 152 #[.string s] w fun e w' => e = .returned (.tuple #[.float .f64 0, .int .i64 0, .bool false]) ∧ w' = w)
    (hR : ∀ w, Calls Tryz.prog 153 #[.string s] w fun e w' => e = .returned (.tuple #[.int .u64 (d : Int), .int .i64 p, .bool false, .bool true, .bool false, .int .i64 (s.size : Nat), .bool true]) ∧ w' = w)
    (hQ : ∀ w', Below w.heap.size w w' → Calls Tryz.prog 158 #[.int .u64 (d : Int), .int .i64 p, .int .u32 0] w' fun e w'' => e = .returned (.tuple #[.float .f32 R, er]) ∧ Below w'.heap.size w' w'')
    (hQ2 : ∀ w', Below w.heap.size w w' → Calls Tryz.prog 158 #[.int .u64 ((d : Int) + 1), .int .i64 p, .int .u32 0] w' fun e w'' => e = .returned (.tuple #[.float .f32 R, er2]) ∧ Below w'.heap.size w' w'')
    (c2 : w.cell? ⟨5, 0, none⟩ = some (.bool true)) :
    Calls Tryz.prog 124 #[.string s] w fun e w' => e = .returned (.tuple #[.float .f32 R, .int .i64 (s.size : Nat), er]) ∧ Below w.heap.size w w' := by
  have hd0 : ((d : Int) == 0) = false := by simpa using hd
  clear hd
  obtain ⟨hp1, hp2⟩ := hp
  have HD : Hid ((d : Int) + 1 ≤ 18446744073709551615 ∧ (0 : Int) ≤ (d : Int) + 1) := ⟨by omega, by omega⟩
  have HEQ : Hid ((FloatKind.f32.format.order R R == some Ordering.eq) = true) := heq
  clear hd2 heq
  have HQ : Hid (∀ w', Below w.heap.size w w' → Calls Tryz.prog 158 #[.int .u64 (d : Int), .int .i64 p, .int .u32 0] w' fun e w'' => e = .returned (.tuple #[.float .f32 R, er]) ∧ Below w'.heap.size w' w'') := hQ
  have HQ2 : Hid (∀ w', Below w.heap.size w w' → Calls Tryz.prog 158 #[.int .u64 ((d : Int) + 1), .int .i64 p, .int .u32 0] w' fun e w'' => e = .returned (.tuple #[.float .f32 R, er2]) ∧ Below w'.heap.size w' w'') := hQ2
  clear hQ hQ2
  go_enter Tryz.func124, Tryz.ntmps124
  go_wp2_with fail
  refine (hS _).mono ?_
  rintro e9 w9 ⟨rfl, hw9⟩
  obtain rfl := hw9.symm
  clear hw9
  go_wp2_with fail
  refine (hR _).mono ?_
  rintro e9 w9 ⟨rfl, hw9⟩
  obtain rfl := hw9.symm
  clear hw9
  go_wp2_with fail
  refine (bool2w_p _).mono ?_
  rintro e9 w9 ⟨rfl, hw9⟩
  obtain rfl := hw9.symm
  clear hw9
  go_wp2_with fail
  refine (HQ.out _ (Below.refl _ _)).mono ?_
  rintro e9 w9 ⟨rfl, hb⟩
  clear hd0
  obtain ⟨hd3, hd4⟩ := HD.out
  go_wp2_with fail
  refine (HQ2.out _ hb).mono ?_
  rintro e9 w8 ⟨rfl, hb2⟩
  have heq := HEQ.out
  go_wp2
  go_ret3
  exact ⟨rfl, hb.trans (hb2.mono hb.size)⟩
theorem order_same (R : Nat) (h : R ≤ 2139095040) : (FloatKind.f32.format.order R R == some Ordering.eq) = true := by
  have hn : nanB R = false := nan_pos R h
  rw [(ord_facts R R hn hn).2.2]
  exact decide_eq_true rfl
end Go.Proofs.YtnljpbpphdhnpaaGreatDoor
