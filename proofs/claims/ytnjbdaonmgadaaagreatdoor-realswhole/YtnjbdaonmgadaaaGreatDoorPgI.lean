/- The library's ParseFloat of digits about a point and a power: the real nearest to the number. -/
import Derived.Test.YtnjbdaonmgadaaaGreatDoorPgH
namespace Go.Proofs.YtnjbdaonmgadaaaGreatDoor
open Go.RowKit Go.PlainAid

set_option maxRecDepth 1000000 in
theorem special_dig (s : ByteArray) (hn : 0 < s.size) (h : 48 ≤ bt s 0 ∧ bt s 0 ≤ 57) (w : World) : Calls Tryz.prog 115 #[.string s] w fun e w' => e = .returned (.tuple #[.float .f64 0, .int .i64 0, .bool false]) ∧ w' = w := by
  have g0 : ((s[0]'hn).toNat : Int) = bt s 0 := get_bt s 0 hn
  have tn : ¬ s = ByteArray.empty := by intro e; rw [e] at hn; exact absurd hn (by decide)
  have t1 : (bt s 0 == 43) = false := by simp; omega
  have t2 : (bt s 0 == 45) = false := by simp; omega
  have t3 : (bt s 0 == 105) = false := by simp; omega
  have t4 : (bt s 0 == 73) = false := by simp; omega
  have t5 : (bt s 0 == 110) = false := by simp; omega
  have t6 : (bt s 0 == 78) = false := by simp; omega
  generalize bt s 0 = c at *
  clear h
  go_enter Tryz.func115, Tryz.ntmps115
  go_wp2
  go_ret3
  exact ⟨rfl, rfl⟩

/-- what the library's tables hold, as far as a power is asked for -/
structure Tabq (w : World) (p : Nat) : Prop where
  pw : TabP w p
  fl : TabF w
  opt : w.cell? ⟨10, 0, none⟩ = some (.bool true)

set_option maxRecDepth 1000000 in
set_option maxHeartbeats 1000000 in
theorem atof32_raw (s : ByteArray) (d p R : Nat) (w : World) (hd : (d : Int) ≠ 0) (hp : p ≤ 18) (hS : ∀ w, Calls Tryz.prog 115 #[.string s] w fun e w' => e = .returned (.tuple #[.float .f64 0, .int .i64 0, .bool false]) ∧ w' = w)
    (hR : ∀ w, Calls Tryz.prog 116 #[.string s] w fun e w' => e = .returned (.tuple #[.int .u64 (d : Int), .int .i64 (p : Int), .bool false, .bool false, .bool false, .int .i64 (s.size : Nat), .bool true]) ∧ w' = w)
    (hX : Calls Tryz.prog 120 #[.int .u64 (d : Int), .int .i64 (p : Int), .bool false] w fun e w' => ExA R e ∧ w' = w)
    (hQ : Calls Tryz.prog 121 #[.int .u64 (d : Int), .int .i64 (p : Int), .int .u32 0] w fun e w' => e = .returned (.tuple #[.float .f32 R, .nilIface]) ∧ Below w.heap.size w w')
    (c2 : w.cell? ⟨10, 0, none⟩ = some (.bool true)) :
    Calls Tryz.prog 98 #[.string s] w fun e w' => e = .returned (.tuple #[.float .f32 R, .int .i64 (s.size : Nat), .nilIface]) ∧ Below w.heap.size w w' := by
  have hd0 : ((d : Int) == 0) = false := by simpa using hd
  clear hd
  go_enter Tryz.func98, Tryz.ntmps98
  go_wp2_with fail
  refine (hS _).mono ?_
  rintro e9 w9 ⟨rfl, hw9⟩
  obtain rfl := hw9.symm
  clear hw9
  go_wp2_with fail
  refine (hR _).mono ?_
  rintro e9 w9 ⟨rfl, hw9⟩
  obtain rfl := hw9.symm
  clear hw9
  go_wp2_with fail
  refine (bool2w_p _).mono ?_
  rintro e9 w9 ⟨rfl, hw9⟩
  obtain rfl := hw9.symm
  clear hw9
  go_wp2_with fail
  refine hX.mono ?_
  rintro e9 w9 ⟨hE, hw9⟩
  obtain rfl := hw9.symm
  clear hw9 hX
  rcases hE with ⟨f, rfl⟩ | rfl
  · go_wp2_with fail
    refine hQ.mono ?_
    rintro e9 w9 ⟨rfl, hb⟩
    go_wp2
    go_ret3
    exact ⟨rfl, hb⟩
  · go_wp2
    go_ret3
    exact ⟨rfl, Below.refl _ _⟩

set_option maxRecDepth 1000000 in
theorem prefix_any (s : ByteArray) (R r64 : Nat) (w : World) (hQ : Calls Tryz.prog 98 #[.string s] w fun e w' => e = .returned (.tuple #[.float .f32 R, .int .i64 (s.size : Nat), .nilIface]) ∧ Below w.heap.size w w') (hC : ∀ w, (convert 23 59 (.float .f32 R)).run Tryz.prog w = .ok (.float .f64 r64) w) :
    Calls Tryz.prog 74 #[.string s, .int .i64 32] w fun e w' => e = .returned (.tuple #[.float .f64 r64, .int .i64 (s.size : Nat), .nilIface]) ∧ Below w.heap.size w w' := by
  go_enter Tryz.func74, Tryz.ntmps74
  go_wp2_with (first | (go_at_call 98; refine hQ.mono ?_; rintro e9 w9 ⟨rfl, hb⟩))
  go_ret3
  exact ⟨rfl, hb⟩
set_option maxRecDepth 1000000 in
theorem ipf_any (s : ByteArray) (r64 : Nat) (w : World) (hQ : Calls Tryz.prog 74 #[.string s, .int .i64 32] w fun e w' => e = .returned (.tuple #[.float .f64 r64, .int .i64 (s.size : Nat), .nilIface]) ∧ Below w.heap.size w w') :
    Calls Tryz.prog 57 #[.string s, .int .i64 32] w fun e w' => e = .returned (.tuple #[.float .f64 r64, .nilIface]) ∧ Below w.heap.size w w' := by
  go_enter Tryz.func57, Tryz.ntmps57
  go_wp2_with (first | (go_at_call 74; refine hQ.mono ?_; rintro e9 w9 ⟨rfl, hb⟩))
  go_ret2
  exact ⟨rfl, hb⟩
set_option maxRecDepth 1000000 in
theorem pf_raw (s : ByteArray) (r64 : Nat) (w : World) (hQ : Calls Tryz.prog 57 #[.string s, .int .i64 32] w fun e w' => e = .returned (.tuple #[.float .f64 r64, .nilIface]) ∧ Below w.heap.size w w') :
    Calls Tryz.prog 37 #[.string s, .int .i64 32] w fun e w' => e = .returned (.tuple #[.float .f64 r64, .nilIface]) ∧ Below w.heap.size w w' := by
  go_enter Tryz.func37, Tryz.ntmps37
  go_wp2_with (first | (go_at_call 57; refine hQ.mono ?_; rintro e9 w9 ⟨rfl, hb⟩))
  go_ret2
  exact ⟨rfl, hb⟩

/-- digits, the first of them no nought, and the power at which it stands -/
theorem pf_any (c0 : UInt8) (cs es : List UInt8) (p : Nat) (h0 : 49 ≤ c0.toNat ∧ c0.toNat ≤ 57) (hc : Dig cs) (hl : cs.length ≤ 18) (he : Dig es) (hle : es.length ≤ 2) (hes : 0 < es.length) (hp : dvL es = p + cs.length) (hp18 : p ≤ 18)
    (hr : rndR (dvL (c0 :: cs) * 10 ^ p * P149) < 2139095040) (w : World) (hT : Tabq w p) :
    Calls Tryz.prog 37 #[.string (bl (numT c0 cs es)), .int .i64 32] w fun e w' => e = .returned (.tuple #[.float .f64 (fD (rndR (dvL (c0 :: cs) * 10 ^ p * P149)) (atE (rndR (dvL (c0 :: cs) * 10 ^ p * P149)))), .nilIface]) ∧ Below w.heap.size w w' := by
  have hlen := num_len c0 cs es
  have hdlt : dvL (c0 :: cs) < 10 ^ 19 := by
    have h1 := dv_lt (c0 :: cs) (by
      intro c hc'
      rcases List.mem_cons.1 hc' with rfl | hc'
      · omega
      · exact hc c hc')
    have h2 : 10 ^ (c0 :: cs).length ≤ 10 ^ 19 := Nat.pow_le_pow_right (by decide) (by simp; omega)
    omega
  have hpos : 0 < dvL (c0 :: cs) := by
    have : ∀ (l : List UInt8) (a : Nat), 0 < a → 0 < l.foldl (fun a c => a * 10 + (c.toNat - 48)) a := by
      intro l
      induction l with
      | nil => intro a h; exact h
      | cons c l ih => intro a h; exact ih _ (Nat.lt_of_lt_of_le (show 0 < a * 10 by omega) (Nat.le_add_right _ _))
    exact this cs _ (by simp; omega)
  have hR := fun w => read_any c0 cs es h0 hc hl he hle hes w
  rw [show (dvL es : Int) - (cs.length : Int) = (p : Int) by omega] at hR
  have hS := fun w => special_dig (bl (numT c0 cs es)) (by rw [bl_size]; omega) (by rw [num_at c0 cs es 0 (by omega)]; show 48 ≤ (c0.toNat : Int) ∧ (c0.toNat : Int) ≤ 57; omega) w
  have hA := atof32_raw (bl (numT c0 cs es)) (dvL (c0 :: cs)) p _ w (by omega) hp18 hS hR (exact_any _ p hpos (by omega) hp18 w hT.fl) (parse32_any _ p hpos (by omega) hp18 w hT.pw) hT.opt
  exact pf_raw _ _ w (ipf_any _ _ w (prefix_any _ _ _ w hA (fun w => run_convert_float_float w 23 59 .f32 .f64 _ _ (by kernel_rfl) Tryz.underlying59 (fD_wide _ hr))))
end Go.Proofs.YtnjbdaonmgadaaaGreatDoor
