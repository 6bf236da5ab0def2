/- The document's whole numbers of any length: number, times, powers. -/
import Derived.Test.YtfpcpociejefaaaGreatDoorBigA
import Derived.OwnWalk
import Derived.Handy
import Derived.Deep.RegionHeld3

namespace Go.Proofs.YtfpcpociejefaaaGreatDoor
open Go.RowKit Go.PlainAid
/-- v reads as the number N, in at most K parts -/
def Big (w : World) (v : Value) (N K : Nat) : Prop := ∃ l, Is w v l ∧ Lim l ∧ Nrm l ∧ bigV l = N ∧ l.length ≤ K
theorem Big.keep {F : List Nat} {w w' : World} {v : Value} {N K : Nat} (h : Big w v N K) (k : Keep F w w') (hn : Off v F) : Big w' v N K := by
 obtain ⟨l, h1, h2⟩ := h
 exact ⟨l, h1.keep k hn, h2⟩
theorem Big.mono {w : World} {v : Value} {N K L : Nat} (h : Big w v N K) (hk : K ≤ L) : Big w v N L := by
 obtain ⟨l, h1, h2, h3, h4, h5⟩ := h
 exact ⟨l, h1, h2, h3, h4, by omega⟩
/-- how number's loop stands: l is laid, y is left of X -/
structure NumI (w wr : World) (n : Value) (l : List Nat) (y X : Nat) : Prop where
 row : Rw wr n l
 fresh : Fresh w wr n
 keep : Keep [] w wr
 lim : Lim l
 val : bigV l + 1000000000 ^ l.length * y = X
 nrm : y = 0 → Nrm l
theorem NumI.len {w wr : World} {n : Value} {l : List Nat} {y X : Nat} (h : NumI w wr n l y X) (hX : X < 18446744073709551616) : l.length ≤ 3 ∧ (y ≠ 0 → l.length ≤ 2) := by
 have key : ∀ j, 1000000000 ^ j ≤ X → j ≤ 2 := fun j hj => by
  refine Decidable.byContradiction fun hn => ?_
  have : 1000000000 ^ 3 ≤ 1000000000 ^ j := Nat.pow_le_pow_right (by decide) (by omega)
  omega
 have hv := h.val
 by_cases hy : y = 0
 ·refine ⟨?_, fun h => absurd hy h⟩
  by_cases hl : l = []
  ·rw [hl]; simp
  ·have := bigV_low l (h.nrm hy) hl
   have := key (l.length - 1) (by rw [hy] at hv; omega)
   omega
 ·have h1 : 1000000000 ^ l.length * 1 ≤ 1000000000 ^ l.length * y := Nat.mul_le_mul_left _ (by omega)
  have := key l.length (by omega)
  exact ⟨by omega, fun _ => this⟩
theorem NumI.next {w wr w1 : World} {n n' : Value} {l : List Nat} {y X : Nat} (h : NumI w wr n l y X) (hy : 0 < y) (g1 : Rw w1 n' (l ++ [y % 1000000000])) (hk : Keep [] w w1) (hf : Fresh w w1 n') : NumI w w1 n' (l ++ [y % 1000000000]) (y / 1000000000) X := by
 refine ⟨g1, hf, hk, h.lim.snoc (by omega), ?_, fun hz => Nrm.snoc (by omega)⟩
 have hv := h.val
 rw [bigV_append]
 simp only [bigV, List.length_append, List.length_cons, List.length_nil, Nat.pow_succ, Nat.mul_zero, Nat.add_zero, Nat.zero_add]
 rw [Nat.add_assoc, Nat.mul_assoc, ← Nat.mul_add, Nat.mod_add_div]
 exact hv
set_option maxRecDepth 1000000 in
set_option maxHeartbeats 1600000 in
theorem number_big (X : Nat) (hX : X < 18446744073709551616) (w : World) : Calls Tryz.prog 138 #[.int .u64 (X : Int)] w fun e w' => ∃ v, e = .returned v ∧ Big w' v X 3 ∧ Fresh w w' v ∧ Keep [] w w' := by
 go_enter Tryz.func138, Tryz.ntmps138
 go_wp2
 go_loopw [0, 3] (fun xv n wr => ∃ (y : Nat) (l : List Nat), xv = .int .u64 (y : Int) ∧ y ≤ X ∧ Hid (NumI w wr n l y X)) (fun xv _ _ => (intOf xv).toNat)
 case atStart => exact ⟨X, [], rfl, Nat.le_refl _, (⟨Rw.nil w, Fresh.nil w w, Keep.refl _ w, Lim.nil, by simp [bigV], fun _ => Nrm.nil⟩ : NumI w w _ [] X X)⟩
 case round =>
  obtain ⟨y, l, rfl, hyX, HI⟩ := hrel
  by_cases h0 : y = 0
  ·subst h0
   go_wp2
   go_ret
   exact ⟨_, rfl, ⟨l, HI.out.row.bs, HI.out.lim, HI.out.nrm rfl, by simpa using HI.out.val, (HI.out.len hX).1⟩, HI.out.fresh, HI.out.keep⟩
  ·have hy : (0 : Int) < (y : Int) := by omega
   have hr := HI.out.row.keep (Keep.alloc1 wr (.cells #[.int .i64 ((y % 1000000000 : Nat) : Int)] TI)) (Off.nil _)
   have hs := (Is.one wr (y % 1000000000)).src
   have he : ((y % 1000000000 : Nat) : Int) = (y : Int) % 1000000000 := by omega
   rw [he] at hs hr
   have HB : Hid (l.length + [y % 1000000000].length ≤ 1000000000) := show l.length + [y % 1000000000].length ≤ 1000000000 by have := (HI.out.len hX).1; simp; omega
   have hb1 : (y : Int) ≤ 18446744073709551615 := by omega
   clear he
   go_wp2_with (at_builtin; refine wp_appI rfl (.tmp 6) (.tmp 10) 131 131 rfl underN _ l rfl hr _ [y % 1000000000] rfl hs HB.out ?_)
   intro v' w1 g1 g2 g3 g4
   have HA := app_fresh HI.out.keep HI.out.fresh g2 g3
   have HJ : Hid (NumI w w1 v' (l ++ [y % 1000000000]) (y / 1000000000) X) := HI.out.next (by omega) g1 HA.1 HA.2
   clear g1 g2 g3 g4 HA hr hs
   go_wp2
   go_roundw
   case rel => exact ⟨y / 1000000000, _, by go_num, by omega, HJ⟩
   case measure => (simp [intOf]; try omega)
/-- how times' loop stands: i parts are done, the carry is c -/
structure TimI (w wr : World) (ov : Value) (l out : List Nat) (i c k : Nat) : Prop where
 row : Rw wr ov out
 fresh : Fresh w wr ov
 keep : Keep [] w wr
 lim : Lim out
 val : bigV out + 1000000000 ^ i * c = bigV (l.take i) * k
 len : out.length = i
 low : c < k
theorem bigV_snoc (l : List Nat) (x : Nat) : bigV (l ++ [x]) = bigV l + 1000000000 ^ l.length * x := by
 rw [bigV_append]; simp [bigV]
theorem bigV_take (l : List Nat) (i : Nat) (hi : i < l.length) : bigV (l.take (i + 1)) = bigV (l.take i) + 1000000000 ^ i * l.getD i 0 := by
 rw [List.take_succ_eq_append_getElem hi, bigV_snoc, List.length_take, Nat.min_eq_left (by omega), List.getD_eq_getElem?_getD, List.getElem?_eq_getElem hi]
 rfl
theorem TimI.next {w wr w1 : World} {n n' : Value} {l out : List Nat} {i c k : Nat} (h : TimI w wr n l out i c k) (L : Lim l) (hi : i < l.length) (g1 : Rw w1 n' (out ++ [(l.getD i 0 * k + c) % 1000000000])) (hk : Keep [] w w1) (hf : Fresh w w1 n') :
  TimI w w1 n' l (out ++ [(l.getD i 0 * k + c) % 1000000000]) (i + 1) ((l.getD i 0 * k + c) / 1000000000) k := by
 have h1 := L.get i
 have h2 : l.getD i 0 * k + c < 1000000000 * k := by
  have := h.low
  have h3 : (l.getD i 0 + 1) * k ≤ 1000000000 * k := Nat.mul_le_mul_right _ (by omega)
  rw [Nat.succ_mul] at h3
  omega
 refine ⟨g1, hf, hk, h.lim.snoc (by omega), ?_, by simp [h.len], by omega⟩
 rw [bigV_snoc, h.len, bigV_take l i hi, Nat.pow_succ, Nat.add_mul, ← h.val, Nat.add_assoc, Nat.mul_assoc, ← Nat.mul_add, Nat.mod_add_div, Nat.mul_add, Nat.mul_assoc]
 omega
/-- how times stands at its end: the carry c is left to be laid -/
structure FinI (w wr : World) (ov : Value) (out : List Nat) (c L X : Nat) : Prop where
 row : Rw wr ov out
 fresh : Fresh w wr ov
 keep : Keep [] w wr
 lim : Lim out
 val : bigV out + 1000000000 ^ out.length * c = X
 len : out.length + (if c = 0 then 0 else 1) ≤ L + 1
 low : c < 1000000000
theorem TimI.fin {w wr : World} {n : Value} {l out : List Nat} {i c k : Nat} (h : TimI w wr n l out i c k) (hk9 : k ≤ 1000000000) (hi : i = l.length) : FinI w wr n out c l.length (bigV l * k) := by
 subst hi
 have hv := h.val
 rw [List.take_of_length_le (Nat.le_refl _)] at hv
 refine ⟨h.row, h.fresh, h.keep, h.lim, by rw [h.len]; exact hv, ?_, by have := h.low; omega⟩
 have := h.len
 split <;> omega
theorem FinI.next {w wr w1 : World} {n n' : Value} {out : List Nat} {c L X : Nat} (h : FinI w wr n out c L X) (hc : 0 < c) (g1 : Rw w1 n' (out ++ [c % 1000000000])) (hk : Keep [] w w1) (hf : Fresh w w1 n') : FinI w w1 n' (out ++ [c % 1000000000]) (c / 1000000000) L X := by
 have h1 := h.low
 have h2 := h.len
 rw [if_neg (by omega)] at h2
 refine ⟨g1, hf, hk, h.lim.snoc (by omega), ?_, by rw [if_pos (by omega)]; simp; omega, by omega⟩
 rw [bigV_snoc, Nat.mod_eq_of_lt h1, Nat.div_eq_of_lt h1, Nat.mul_zero, Nat.add_zero]
 exact h.val
theorem cut_big {w w' : World} {v v' : Value} {out : List Nat} {N K : Nat} (hc : Cut w' v v' out) (hL : Lim out) (hv : bigV out = N) (hn : out.length ≤ K) (hf : Fresh w w' v) : Big w' v' N K ∧ Fresh w w' v' := by
 obtain ⟨k, h1, h2, h3, h4, h5⟩ := hc
 refine ⟨⟨_, h2, hL.take k, h3, by rw [h4, hv], by simp; omega⟩, ?_⟩
 intro j hj
 rw [h5] at hj
 exact hf j hj
set_option maxRecDepth 1000000 in
set_option maxHeartbeats 3200000 in
theorem times_any (v : Value) (l : List Nat) (k : Nat) (w : World) (h : Is w v l) (L : Lim l) (hl : l.length ≤ 100000) (hk1 : 1 ≤ k) (hk2 : k ≤ 1000000000) :
  Calls Tryz.prog 151 #[v, .int .i64 (k : Int)] w fun e w' => ∃ v', e = .returned v' ∧ (Big w' v' (bigV l * k) (l.length + 1) ∧ Fresh w w' v') ∧ Keep [] w w' := by
 obtain ⟨ao, cap, rfl, hc1, hc2, _, hc4⟩ := h.ex
 have HC : Hid (l ≠ [] → ∃ b o, ao = some ⟨b, o, none⟩ ∧ ∀ j, j < l.length → w.cell? ⟨b, o + j, none⟩ = some (.int .i64 ((l.getD j 0 : Nat) : Int))) := hc4
 have HL : Hid (Lim l) := L
 clear hc4 h L
 simp only [maxLen] at hc2
 go_enter Tryz.func151, Tryz.ntmps151
 go_wp2
 go_loopw [5, 6, 7] (fun ov cv iv wr => ∃ (i c : Nat) (out : List Nat), cv = .int .i64 (c : Int) ∧ iv = .int .i64 (i : Int) ∧ i ≤ l.length ∧ Hid (TimI w wr ov l out i c k)) (fun _ _ iv _ => l.length - (intOf iv).toNat)
 case atStart => exact ⟨0, 0, [], rfl, rfl, Nat.zero_le _, (⟨Rw.nil w, Fresh.nil w w, Keep.refl _ w, Lim.nil, by simp [bigV], rfl, by omega⟩ : TimI w w _ l [] 0 0 k)⟩
 case round =>
  obtain ⟨i, c, out, rfl, rfl, hil, HI⟩ := hrel
  have hck : c < k := HI.out.low
  by_cases hi : i < l.length
  ·obtain ⟨b, o, rfl, hcell⟩ := HC.out (by intro hz; rw [hz] at hi; simp at hi)
   have hcw : wr.cell? ⟨b, o + i, none⟩ = some (.int .i64 ((l.getD i 0 : Nat) : Int)) := HI.out.keep.cell' (hcell i hi) (by simp)
   have hii : (i : Int) < (l.length : Int) := by omega
   have hlg := HL.out.get i
   have HN : Hid (∀ {w1 n'}, Rw w1 n' (out ++ [(l.getD i 0 * k + c) % 1000000000]) → Keep [] w w1 → Fresh w w1 n' → TimI w w1 n' l (out ++ [(l.getD i 0 * k + c) % 1000000000]) (i + 1) ((l.getD i 0 * k + c) / 1000000000) k) := fun a b c => HI.out.next HL.out hi a b c
   have HB : Hid (out.length + [(l.getD i 0 * k + c) % 1000000000].length ≤ 1000000000) := show out.length + [(l.getD i 0 * k + c) % 1000000000].length ≤ 1000000000 by have := HI.out.len; simp; omega
   clear hcell
   generalize l.getD i 0 = x at *
   have hp1 : x * k ≤ 999999999 * 1000000000 := Nat.mul_le_mul (by omega) hk2
   have hr := HI.out.row.keep (Keep.alloc1 wr (.cells #[.int .i64 (((x * k + c) % 1000000000 : Nat) : Int)] TI)) (Off.nil _)
   have hs := (Is.one wr ((x * k + c) % 1000000000)).src
   have he : (((x * k + c) % 1000000000 : Nat) : Int) = ((x : Int) * (k : Int) + (c : Int)) % 1000000000 := by
    rw [← Int.natCast_mul]; omega
   rw [he] at hs hr
   have q1 : (0 : Int) ≤ (x : Int) * (k : Int) := by rw [← Int.natCast_mul]; omega
   have q2 : (x : Int) * (k : Int) ≤ 999999999000000000 := by rw [← Int.natCast_mul]; omega
   have q3 : (c : Int) < 1000000000 := by omega
   have hd : (((x * k + c) / 1000000000 : Nat) : Int) = ((x : Int) * (k : Int) + (c : Int)) / 1000000000 := by
    rw [← Int.natCast_mul]; omega
   have HD : Hid ((((x * k + c) / 1000000000 : Nat) : Int) = ((x : Int) * (k : Int) + (c : Int)) / 1000000000) := hd
   generalize hpg : (x : Int) * (k : Int) = p at *
   have HPG : Hid ((x : Int) * (k : Int) = p) := hpg
   clear he hd hp1
   go_wp2_with (at_builtin; refine wp_appI rfl (.tmp 23) (.tmp 26) 131 131 rfl underN _ out rfl hr _ [(x * k + c) % 1000000000] rfl hs HB.out ?_)
   intro v' w1 g1 g2 g3 g4
   have HA := app_fresh HI.out.keep HI.out.fresh g2 g3
   have HJ : Hid (TimI w w1 v' l (out ++ [(x * k + c) % 1000000000]) (i + 1) ((x * k + c) / 1000000000) k) := HN.out g1 HA.1 HA.2
   clear g1 g2 g3 g4 HA hr hs hpg
   go_wp2
   go_roundw
   case rel => exact ⟨i + 1, (x * k + c) / 1000000000, _, by rw [HD.out], by go_num, by omega, HJ⟩
   case measure => (simp [intOf]; try omega)
  ·have hii : ¬ (i : Int) < (l.length : Int) := by omega
   have hlen : i = l.length := by omega
   have HF : Hid (FinI w wr u5 out c l.length (bigV l * k)) := HI.out.fin hk2 hlen
   clear HI HC HL hlen hck
   go_wp2
   go_loopw [5, 6] (fun ov cv wr => ∃ (c : Nat) (out : List Nat), cv = .int .i64 (c : Int) ∧ Hid (FinI w wr ov out c l.length (bigV l * k))) (fun _ cv _ => (intOf cv).toNat)
   case atStart => exact ⟨c, out, rfl, HF⟩
   case round =>
    clear HF
    obtain ⟨y, out2, rfl, HI⟩ := hrel
    by_cases h0 : y = 0
    ·subst h0
     have hP := plain_any u5 out2 wr HI.out.row.bs
     go_wp2_with (go_at_call 150; refine hP.mono ?_; rintro e9 w9 ⟨v9, rfl, hc9, hw9⟩; obtain rfl := hw9.symm)
     go_ret
     exact ⟨_, rfl, cut_big hc9 HI.out.lim (by simpa using HI.out.val) (by simpa using HI.out.len) HI.out.fresh, HI.out.keep⟩
    ·have hy : (0 : Int) < (y : Int) := by omega
     have hb1 : (y : Int) ≤ 9223372036854775807 := by have := HI.out.low; omega
     have hr := HI.out.row.keep (Keep.alloc1 wr (.cells #[.int .i64 ((y % 1000000000 : Nat) : Int)] TI)) (Off.nil _)
     have hs := (Is.one wr (y % 1000000000)).src
     have he : ((y % 1000000000 : Nat) : Int) = (y : Int) % 1000000000 := by omega
     rw [he] at hs hr
     have HB : Hid (out2.length + [y % 1000000000].length ≤ 1000000000) := show out2.length + [y % 1000000000].length ≤ 1000000000 by have := HI.out.len; simp; omega
     have hm : Hid (y / 1000000000 < y) := show y / 1000000000 < y by omega
     clear he
     go_wp2_with (at_builtin; refine wp_appI rfl (.tmp 32) (.tmp 35) 131 131 rfl underN _ out2 rfl hr _ [y % 1000000000] rfl hs HB.out ?_)
     intro v' w1 g1 g2 g3 g4
     have HA := app_fresh HI.out.keep HI.out.fresh g2 g3
     have HJ : Hid (FinI w w1 v' (out2 ++ [y % 1000000000]) (y / 1000000000) l.length (bigV l * k)) := HI.out.next (by omega) g1 HA.1 HA.2
     clear g1 g2 g3 g4 HA hr hs
     go_wp2
     go_roundw
     case rel => exact ⟨y / 1000000000, _, by go_num, HJ⟩
     case measure => (simp [intOf]; try omega)
theorem times_big (v : Value) (N K k : Nat) (w : World) (h : Big w v N K) (hK : K ≤ 100000) (hk1 : 1 ≤ k) (hk2 : k ≤ 1000000000) :
  Calls Tryz.prog 151 #[v, .int .i64 (k : Int)] w fun e w' => ∃ v', e = .returned v' ∧ (Big w' v' (N * k) (K + 1) ∧ Fresh w w' v') ∧ Keep [] w w' := by
 obtain ⟨l, h1, h2, h3, rfl, h5⟩ := h
 refine (times_any v l k w h1 h2 (by omega) hk1 hk2).mono ?_
 rintro e w' ⟨v', he, ⟨g1, g2⟩, g3⟩
 exact ⟨v', he, ⟨g1.mono (by omega), g2⟩, g3⟩
end Go.Proofs.YtfpcpociejefaaaGreatDoor

/- The document's whole numbers of any length: powers of two, and the worth of a float. -/
namespace Go.Proofs.YtfpcpociejefaaaGreatDoor
open Go.RowKit Go.PlainAid
set_option maxRecDepth 1000000 in
set_option maxHeartbeats 1600000 in
theorem powers_neg (v : Value) (k : Int) (hk : k ≤ 0) (w : World) : Calls Tryz.prog 137 #[v, .int .i64 2, .int .i64 k] w fun e w' => e = .returned v ∧ w' = w := by
 have h1 : ¬ (8 : Int) ≤ k := by omega
 have h2 : ¬ (0 : Int) < k := by omega
 go_enter Tryz.func137, Tryz.ntmps137
 go_wp2
 refine wp_loop_rounds 1 ?_
 rw [rounds_succ]
 go_wp2
 refine wp_loop_rounds 1 ?_
 rw [rounds_succ]
 go_wp2
 go_ret
 exact ⟨rfl, rfl⟩
structure PowI (w wr : World) (v nv : Value) (N K j : Nat) : Prop where
 big : Big wr nv (N * 2 ^ j) (K + j)
 own : nv = v ∨ Fresh w wr nv
 keep : Keep [] w wr
theorem PowI.next {w wr w1 : World} {v nv n1 : Value} {N K j : Nat} (h : PowI w wr v nv N K j) (d : Nat) (hd : 1 ≤ d) (g : Big w1 n1 (N * 2 ^ j * 2 ^ d) (K + j + 1) ∧ Fresh wr w1 n1) (k : Keep [] wr w1) : PowI w w1 v n1 N K (j + d) := by
 refine ⟨?_, .inr (g.2.earlier h.keep.size), h.keep.trans' k⟩
 rw [Nat.pow_add, ← Nat.mul_assoc]
 exact g.1.mono (by omega)
set_option maxRecDepth 1000000 in
set_option maxHeartbeats 3200000 in
theorem powers_two (v : Value) (N K k : Nat) (w : World) (h : Big w v N K) (hK : K ≤ 1000) (hk : k ≤ 1000) :
  Calls Tryz.prog 137 #[v, .int .i64 2, .int .i64 (k : Int)] w fun e w' => ∃ v', e = .returned v' ∧ (Big w' v' (N * 2 ^ k) (K + k) ∧ (v' = v ∨ Fresh w w' v')) ∧ Keep [] w w' := by
 have H0 : Hid (Big w v N K) := h
 clear h
 go_enter Tryz.func137, Tryz.ntmps137
 go_wp2
 go_loopw [0, 2] (fun nv kv wr => ∃ m : Nat, kv = .int .i64 (m : Int) ∧ m ≤ k ∧ Hid (PowI w wr v nv N K (k - m))) (fun _ kv _ => (intOf kv).toNat)
 case atStart => exact ⟨k, rfl, Nat.le_refl _, (⟨by simpa using H0.out, .inl rfl, Keep.refl _ w⟩ : PowI w w v v N K (k - k))⟩
 case round =>
  obtain ⟨m, rfl, hm, HI⟩ := hrel
  by_cases h8 : 8 ≤ m
  ·obtain ⟨j, rfl⟩ : ∃ j, m = j + 8 := ⟨m - 8, by omega⟩
   have hT := times_big u0 _ _ 256 wr HI.out.big (by omega) (by decide) (by decide)
   rw [show ((256 : Nat) : Int) = 256 from rfl] at hT
   have h8i : (8 : Int) ≤ ((j + 8 : Nat) : Int) := by omega
   go_wp2_with (go_at_call 151; refine hT.mono ?_; rintro e9 w9 ⟨v9, rfl, hb9, hk9⟩)
   have HJ : Hid (PowI w w9 v v9 N K (k - j)) := show PowI w w9 v v9 N K (k - j) by
    have := HI.out.next 8 (by decide) hb9 hk9
    rwa [show k - (j + 8) + 8 = k - j by omega] at this
   clear hb9 hk9 hT
   go_roundw
   case rel => exact ⟨j, by go_num, by omega, HJ⟩
   case measure => (simp [intOf]; try omega)
  ·have h8i : ¬ (8 : Int) ≤ (m : Int) := by omega
   go_wp2
   clear H0
   go_loopw [0, 7] (fun nv iv wr => ∃ i : Nat, iv = .int .i64 (i : Int) ∧ i ≤ m ∧ Hid (PowI w wr v nv N K (k - m + i))) (fun _ iv _ => m - (intOf iv).toNat)
   case atStart => exact ⟨0, rfl, Nat.zero_le _, HI⟩
   case round =>
    clear HI
    obtain ⟨i, rfl, hi, HI⟩ := hrel
    by_cases hl : i < m
    ·have hT := times_big u0 _ _ 2 wr HI.out.big (by omega) (by decide) (by decide)
     rw [show ((2 : Nat) : Int) = 2 from rfl] at hT
     have hli : (i : Int) < (m : Int) := by omega
     go_wp2_with (go_at_call 151; refine hT.mono ?_; rintro e9 w9 ⟨v9, rfl, hb9, hk9⟩)
     have HJ : Hid (PowI w w9 v v9 N K (k - m + (i + 1))) := HI.out.next 1 (by decide) hb9 hk9
     clear hb9 hk9 hT
     go_roundw
     case rel => exact ⟨i + 1, by go_num, by omega, HJ⟩
     case measure => (simp [intOf]; try omega)
    ·have hli : ¬ (i : Int) < (m : Int) := by omega
     go_wp2
     go_ret
     have h1 := HI.out
     rw [show k - m + i = k by omega] at h1
     exact ⟨_, rfl, ⟨h1.big, h1.own⟩, h1.keep⟩
end Go.Proofs.YtfpcpociejefaaaGreatDoor

/- The document's whole numbers of any length: the mathematics of product. -/
namespace Go.Proofs.YtfpcpociejefaaaGreatDoor
open Go.RowKit Go.PlainAid
theorem Rw.set {w : World} {g cap n : Nat} {l : List Nat} (h : Rw w (.slice (some ⟨g, 0, none⟩) n cap) l) (hn : l.length = n) (i : Nat) (y : Nat) :
  Rw (w.setCell ⟨g, i, none⟩ (.int .i64 (y : Int))) (.slice (some ⟨g, 0, none⟩) n cap) (l.set i y) := by
 subst hn
 have h1 := (World.ownsRow.stored h i (.int .i64 (y : Int))).1
 have h2 : (iv l).set i (.int .i64 (y : Int)) = iv (l.set i y) := by simp [iv, List.map_set]
 rw [h2] at h1
 show World.ownsRow _ _ _ _ _ (l.set i y).length _
 rw [List.length_set]
 exact h1
theorem bigV_set (l : List Nat) (p y : Nat) (hp : p < l.length) : bigV (l.set p y) + 1000000000 ^ p * l.getD p 0 = bigV l + 1000000000 ^ p * y := by
 have h1 := big_split l p hp
 have h2 := big_split (l.set p y) p (by simpa using hp)
 have e1 : (l.set p y).take p = l.take p := by rw [List.take_set_of_le (Nat.le_refl _)]
 have e2 : (l.set p y).drop (p + 1) = l.drop (p + 1) := by rw [List.drop_set_of_lt (by omega)]
 have e3 : (l.set p y).getD p 0 = y := by simp [List.getD_eq_getElem?_getD, hp]
 rw [e1, e2, e3] at h2
 rw [h1, h2, Nat.mul_add, Nat.mul_add]
 omega
theorem Lim.set {l : List Nat} (h : Lim l) (p y : Nat) (hy : y < 1000000000) : Lim (l.set p y) := fun x hx => by
 rcases List.mem_or_eq_of_mem_set hx with h1 | h1
 ·exact h x h1
 ·omega
theorem getD_set_ne (l : List Nat) (p j y : Nat) (h : p ≠ j) : (l.set p y).getD j 0 = l.getD j 0 := by
 simp [List.getD_eq_getElem?_getD, List.getElem?_set_ne h]
structure ProI (w wr : World) (g n : Nat) (out : List Nat) : Prop where
 row : Rw wr (.slice (some ⟨g, 0, none⟩) n n) out
 len : out.length = n
 keep : Keep [] w wr
 new : w.heap.size ≤ g
 lim : Lim out
theorem ProI.drewN {w wr : World} {g n : Nat} {out : List Nat} (h : ProI w wr g n out) (q : Nat) : ProI w (wr.drewN q) g n out :=
 ⟨h.row.keep ((Keep.refl [] wr).drewN q) (Off.nil _), h.len, h.keep.drewN q, h.new, h.lim⟩
theorem ProI.put {w wr : World} {g n : Nat} {out : List Nat} (h : ProI w wr g n out) (p y : Nat) (hy : y < 1000000000) : ProI w (wr.setCell ⟨g, p, none⟩ (.int .i64 (y : Int))) g n (out.set p y) :=
 ⟨h.row.set h.len p y, by rw [List.length_set]; exact h.len, h.keep.setCell (.inr h.new) _, h.new, h.lim.set p y hy⟩
theorem ProI.cell {w wr : World} {g n : Nat} {out : List Nat} (h : ProI w wr g n out) (p : Nat) (hp : p < n) : wr.cell? ⟨g, p, none⟩ = some (.int .i64 ((out.getD p 0 : Nat) : Int)) := by
 have h1 := h.row
 have hl := h.len
 subst hl
 have := World.ownsRow.cellAt h1 p (by omega)
 rw [this, iv_get out p hp, List.getD_eq_getElem?_getD, List.getElem?_eq_getElem hp]
 rfl
theorem ProI.frozen {w wr : World} {g n : Nat} {out : List Nat} (h : ProI w wr g n out) (p : Nat) : wr.frozen? ⟨g, p, none⟩ = false := by
 have h1 := h.row
 have hl := h.len
 subst hl
 exact World.ownsRow.frozenAt h1 p
/-- a row of product under way: i parts of a are done, k parts of b for the next, c is carried -/
structure InI (w wr : World) (g n : Nat) (out out0 : List Nat) (a b : List Nat) (i k c : Nat) : Prop where
 pro : ProI w wr g n out
 val : bigV out + 1000000000 ^ (i + k) * c = bigV out0 + 1000000000 ^ i * (a.getD i 0 * bigV (b.take k))
 zer : ∀ j, i + b.length ≤ j → out.getD j 0 = 0
 low : c < 1000000000
theorem InI.next {w wr : World} {g n : Nat} {out out0 a b : List Nat} {i k c : Nat} (h : InI w wr g n out out0 a b i k c) (La : Lim a) (Lb : Lim b) (hk : k < b.length) (hn : n = a.length + b.length + 1) (hi : i < a.length)
  (X : Nat) (hX : X = out.getD (i + k) 0 + a.getD i 0 * b.getD k 0 + c) (q : Nat) : InI w ((wr.drewN q).setCell ⟨g, i + k, none⟩ (.int .i64 ((X % 1000000000 : Nat) : Int))) g n (out.set (i + k) (X % 1000000000)) out0 a b i (k + 1) (X / 1000000000) := by
 refine ⟨(h.pro.drewN q).put (i + k) _ (by omega), ?_, fun j hj => ?_, ?_⟩
 ·have h1 := bigV_set out (i + k) (X % 1000000000) (by have := h.pro.len; omega)
  have h2 := h.val
  rw [bigV_take b k hk, Nat.mul_add (a.getD i 0), Nat.mul_add (1000000000 ^ i)]
  have h3 : 1000000000 ^ i * (a.getD i 0 * (1000000000 ^ k * b.getD k 0)) = 1000000000 ^ (i + k) * (a.getD i 0 * b.getD k 0) := by
   rw [Nat.pow_add, Nat.mul_assoc]
   congr 1
   rw [← Nat.mul_assoc, Nat.mul_comm (a.getD i 0), Nat.mul_assoc]
  have h4 : 1000000000 ^ (i + (k + 1)) * (X / 1000000000) + 1000000000 ^ (i + k) * (X % 1000000000) = 1000000000 ^ (i + k) * X := by
   rw [← Nat.add_assoc, Nat.pow_succ, Nat.mul_assoc, ← Nat.mul_add, Nat.div_add_mod]
  have h5 : 1000000000 ^ (i + k) * X = 1000000000 ^ (i + k) * out.getD (i + k) 0 + 1000000000 ^ (i + k) * (a.getD i 0 * b.getD k 0) + 1000000000 ^ (i + k) * c := by
   rw [hX, Nat.mul_add, Nat.mul_add]
  rw [h3]
  omega
 ·rw [getD_set_ne _ _ _ _ (by omega)]
  exact h.zer j hj
 ·have h1 := La.get i
  have h2 := Lb.get k
  have h3 := h.pro.lim.get (i + k)
  have h4 := h.low
  have h5 : a.getD i 0 * b.getD k 0 ≤ 999999999 * 999999999 := Nat.mul_le_mul (by omega) (by omega)
  omega
/-- product under way: i parts of a are done -/
structure OutI (w wr : World) (g n : Nat) (out : List Nat) (a b : List Nat) (i : Nat) : Prop where
 pro : ProI w wr g n out
 val : bigV out = bigV (a.take i) * bigV b
 zer : ∀ j, i + b.length ≤ j → out.getD j 0 = 0
theorem OutI.start {w wr : World} {g n : Nat} {out a b : List Nat} {i : Nat} (h : OutI w wr g n out a b i) : InI w wr g n out out a b i 0 0 := ⟨h.pro, by simp [bigV], h.zer, by decide⟩
theorem OutI.next {w w0 wr : World} {g n : Nat} {out out0 a b : List Nat} {i c : Nat} (h0 : OutI w w0 g n out0 a b i) (h : InI w wr g n out out0 a b i b.length c) (hn : n = a.length + b.length + 1) (hi : i < a.length) :
  OutI w (wr.setCell ⟨g, i + b.length, none⟩ (.int .i64 (c : Int))) g n (out.set (i + b.length) c) a b (i + 1) := by
 refine ⟨h.pro.put (i + b.length) c h.low, ?_, fun j hj => ?_⟩
 ·have h1 := bigV_set out (i + b.length) c (by have := h.pro.len; omega)
  rw [h.zer _ (Nat.le_refl _), Nat.mul_zero, Nat.add_zero] at h1
  rw [h1, h.val, h0.val, List.take_of_length_le (Nat.le_refl _), bigV_take a i hi, Nat.add_mul, Nat.mul_assoc]
 ·rw [getD_set_ne _ _ _ _ (by omega)]
  exact h.zer j (by omega)
theorem zeros_big (n : Nat) : bigV (List.replicate n 0) = 0 := bigV_none _ (fun _ hx => (List.mem_replicate.1 hx).2)
end Go.Proofs.YtfpcpociejefaaaGreatDoor

/- The document's whole numbers of any length: product. -/
namespace Go.Proofs.YtfpcpociejefaaaGreatDoor
open Go.RowKit Go.PlainAid
theorem wrap_ok (z : Int) (h1 : -9223372036854775808 ≤ z) (h2 : z ≤ 9223372036854775807) : IntKind.i64.wrap z = z := by
 unfold IntKind.wrap
 simp [IntKind.signed, IntKind.bits]
 omega
set_option maxRecDepth 1000000 in
set_option maxHeartbeats 6400000 in
theorem product_any (u v : Value) (a b : List Nat) (w : World) (hu : Is w u a) (hv : Is w v b) (La : Lim a) (Lb : Lim b) (ha : a.length ≤ 100000) (hb : b.length ≤ 100000) :
  Calls Tryz.prog 136 #[u, v] w fun e w' => ∃ v', e = .returned v' ∧ (Big w' v' (bigV a * bigV b) (a.length + b.length + 1) ∧ Fresh w w' v') ∧ Keep [] w w' := by
 obtain ⟨ao, ca, rfl, p1, p2, _, p4⟩ := hu.ex
 obtain ⟨bo, cb, rfl, q1, q2, _, q4⟩ := hv.ex
 simp only [maxLen] at p2 q2
 have HA : Hid (a ≠ [] → ∃ g o, ao = some ⟨g, o, none⟩ ∧ ∀ j, j < a.length → w.cell? ⟨g, o + j, none⟩ = some (.int .i64 ((a.getD j 0 : Nat) : Int))) := p4
 have HB : Hid (b ≠ [] → ∃ g o, bo = some ⟨g, o, none⟩ ∧ ∀ j, j < b.length → w.cell? ⟨g, o + j, none⟩ = some (.int .i64 ((b.getD j 0 : Nat) : Int))) := q4
 have HLm : Hid (Lim a ∧ Lim b) := ⟨La, Lb⟩
 clear hu hv p4 q4 La Lb
 obtain ⟨i3, hi3, hz3, hs3, hy3⟩ := info_parts infoI
 obtain ⟨n, HN⟩ : ∃ n : Nat, Hid (n = a.length + b.length + 1) := ⟨_, rfl⟩
 have hn1 : (a.length : Int) + (b.length : Int) + 1 = (n : Int) := by have := HN.out; omega
 have HB2 : Hid (i3.bytes * n ≤ 281474976710656) := show i3.bytes * n ≤ 281474976710656 by rw [hy3]; have := HN.out; omega
 have HB3 : Hid (n ≤ maxLen) := show n ≤ maxLen by simp only [maxLen]; have := HN.out; omega
 go_enter Tryz.func136, Tryz.ntmps136
 go_wp2_with (at_make; refine wpList_make_full _ rfl (.tmp 15) (.tmp 15) 131 rfl 0 3 i3 (.int .i64 0) 1 underN hi3 hz3 hs3 .i64 .i64 _ _ n rfl rfl rfl rfl HB2.out HB3.out (Nat.zero_le _) ?_)
 intro w1 r1 r2
 have HO : Hid (OutI w w1 w.heap.size n (List.replicate n 0) a b 0) := by
  have hr : Rw w1 (.slice (some ⟨w.heap.size, 0, none⟩) n n) (List.replicate n 0) := by
   show World.ownsRow _ _ _ _ _ (List.replicate n 0).length _
   rw [List.length_replicate]
   have e : (madeCells #[Value.int IntKind.i64 0] n).toList = iv (List.replicate n 0) := by
    rw [toList_madeCells_one]
    simp [iv]
   rw [← e]
   exact r1
  have hz : ∀ j, (List.replicate n 0).getD j 0 = 0 := fun j => by
   rw [List.getD_eq_getElem?_getD, List.getElem?_replicate]
   split <;> rfl
  exact (⟨⟨hr, by simp, Keep.mono (Keep.grown r2) (by simp), Nat.le_refl _, fun x hx => by rw [(List.mem_replicate.1 hx).2]; decide⟩, by rw [zeros_big]; simp [bigV], fun j _ => hz j⟩ : OutI w w1 w.heap.size n (List.replicate n 0) a b 0)
 clear r1 r2 HB2 HB3 hi3 hz3 hs3 hy3 hn1
 generalize w.heap.size = g at *
 go_wp2
 go_loopw [6] (fun iv9 wr => ∃ (i : Nat) (out : List Nat), iv9 = .int .i64 (i : Int) ∧ i ≤ a.length ∧ Hid (OutI w wr g n out a b i)) (fun iv9 _ => a.length - (intOf iv9).toNat)
 case atStart => exact ⟨0, _, rfl, Nat.zero_le _, HO⟩
 case round =>
  clear HO
  obtain ⟨i, out0, rfl, hia, HO⟩ := hrel
  by_cases hi : i < a.length
  ·have hii : (i : Int) < (a.length : Int) := by omega
   obtain ⟨ga, oa, rfl, hca0⟩ := HA.out (by intro hz; rw [hz] at hi; simp at hi)
   have HCA : Hid (w.cell? ⟨ga, oa + i, none⟩ = some (.int .i64 ((a.getD i 0 : Nat) : Int))) := hca0 i hi
   clear hca0
   go_wp2
   go_loopw [7, 8] (fun cv kv wr => ∃ (c k : Nat) (out : List Nat), cv = .int .i64 (c : Int) ∧ kv = .int .i64 (k : Int) ∧ k ≤ b.length ∧ Hid (InI w wr g n out out0 a b i k c)) (fun _ kv _ => b.length - (intOf kv).toNat)
   case atStart => exact ⟨0, 0, _, rfl, rfl, Nat.zero_le _, HO.out.start⟩
   case round =>
    obtain ⟨c, k, out, rfl, rfl, hkb, HI⟩ := hrel
    by_cases hk : k < b.length
    ·have hki : (k : Int) < (b.length : Int) := by omega
     obtain ⟨gb, ob, rfl, hcb0⟩ := HB.out (by intro hz; rw [hz] at hk; simp at hk)
     have hca : wr.cell? ⟨ga, oa + i, none⟩ = some (.int .i64 ((a.getD i 0 : Nat) : Int)) := HI.out.pro.keep.cell' HCA.out (by simp)
     have hcb : wr.cell? ⟨gb, ob + k, none⟩ = some (.int .i64 ((b.getD k 0 : Nat) : Int)) := HI.out.pro.keep.cell' (hcb0 k hk) (by simp)
     clear hcb0
     obtain ⟨p, HP⟩ : ∃ p : Nat, Hid (p = i + k) := ⟨_, rfl⟩
     have hpn : p < n := by have := HP.out; have := HN.out; omega
     have hco : wr.cell? ⟨g, p, none⟩ = some (.int .i64 ((out.getD p 0 : Nat) : Int)) := HI.out.pro.cell p hpn
     have hfz : wr.frozen? ⟨g, p, none⟩ = false := HI.out.pro.frozen p
     obtain ⟨X, HX⟩ : ∃ X : Nat, Hid (X = out.getD (i + k) 0 + a.getD i 0 * b.getD k 0 + c) := ⟨_, rfl⟩
     have HJ : Hid (∀ q, InI w ((wr.drewN q).setCell ⟨g, p, none⟩ (.int .i64 ((X % 1000000000 : Nat) : Int))) g n (out.set (i + k) (X % 1000000000)) out0 a b i (k + 1) (X / 1000000000)) := fun q => by
      rw [HP.out]
      exact HI.out.next HLm.out.1 HLm.out.2 hk HN.out hi X HX.out q
     have f1 := HLm.out.1.get i
     have f2 := HLm.out.2.get k
     have f3 := HI.out.pro.lim.get p
     have f4 := HI.out.low
     have f5 : a.getD i 0 * b.getD k 0 ≤ 999999999 * 999999999 := Nat.mul_le_mul (by omega) (by omega)
     have hx : X = out.getD p 0 + a.getD i 0 * b.getD k 0 + c := by rw [HP.out]; exact HX.out
     generalize a.getD i 0 = x at *
     generalize b.getD k 0 = y at *
     generalize out.getD p 0 = z at *
     have hs1 : IntKind.i64.wrap ((i : Int) + (k : Int)) = (p : Int) := by rw [wrap_ok _ (by omega) (by omega)]; have := HP.out; omega
     have hs2 : (i : Int) + (k : Int) = (p : Int) := by have := HP.out; omega
     have hm0 : (x : Int) * (y : Int) = ((x * y : Nat) : Int) := by rw [Int.natCast_mul]
     have hm1 : IntKind.i64.wrap ((x : Int) * (y : Int)) = ((x * y : Nat) : Int) := by rw [wrap_ok _ (by omega) (by omega)]; exact hm0
     generalize x * y = m at *
     have hm2 : IntKind.i64.wrap ((z : Int) + (m : Int)) = ((z + m : Nat) : Int) := by rw [wrap_ok _ (by omega) (by omega)]; omega
     have hm3 : IntKind.i64.wrap (((z + m : Nat) : Int) + (c : Int)) = (X : Int) := by rw [wrap_ok _ (by omega) (by omega)]; omega
     have hXb : (X : Int) ≤ 9223372036854775807 := by omega
     generalize z + m = s at *
     have hpni : (p : Int) < (n : Int) := by omega
     have he : ((X % 1000000000 : Nat) : Int) = (X : Int) % 1000000000 := by omega
     rw [he] at HJ
     clear hx he HP HX f1 f2 f3 f4 f5 HO HI HCA hm0 HN
     go_wp2
     go_quiet (fail)
     go_wp2
     go_roundw
     case rel => exact ⟨X / 1000000000, k + 1, _, by go_num, by go_num, by omega, HJ.out _⟩
     case measure => (simp [intOf]; try omega)
    ·have hki : ¬ (k : Int) < (b.length : Int) := by omega
     obtain rfl : k = b.length := by omega
     obtain ⟨p, HP⟩ : ∃ p : Nat, Hid (p = i + b.length) := ⟨_, rfl⟩
     have hpn : p < n := by have := HP.out; have := HN.out; omega
     have hco : wr.cell? ⟨g, p, none⟩ = some (.int .i64 0) := by
      rw [HI.out.pro.cell p hpn, HI.out.zer p (by have := HP.out; omega)]; rfl
     have hfz : wr.frozen? ⟨g, p, none⟩ = false := HI.out.pro.frozen p
     have HJ : Hid (OutI w (wr.setCell ⟨g, p, none⟩ (.int .i64 (c : Int))) g n (out.set (i + b.length) c) a b (i + 1)) := by
      rw [HP.out]
      exact HO.out.next HI.out HN.out hi
     have hs2 : (i : Int) + (b.length : Int) = (p : Int) := by have := HP.out; omega
     have hpni : (p : Int) < (n : Int) := by omega
     have f4 := HI.out.low
     clear HP HO HI HCA HN
     go_wp2
     go_roundw
     case rel => exact ⟨i + 1, _, by go_num, by omega, HJ⟩
     case measure => (simp [intOf]; try omega)
  ·have hii : ¬ (i : Int) < (a.length : Int) := by omega
   have hP := plain_any _ _ wr HO.out.pro.row.bs
   go_wp2_with (go_at_call 150; refine hP.mono ?_; rintro e9 w9 ⟨v9, rfl, hc9, hw9⟩; obtain rfl := hw9.symm)
   go_ret
   have hv := HO.out.val
   rw [List.take_of_length_le (by omega)] at hv
   exact ⟨_, rfl, cut_big hc9 HO.out.pro.lim hv (by rw [HO.out.pro.len, HN.out]; exact Nat.le_refl _) (fun k hk => by
    simp [Value.ownBlock] at hk
    subst hk
    exact ⟨HO.out.pro.new, HO.out.pro.row.lt g rfl⟩), HO.out.pro.keep⟩
theorem product_big (u v : Value) (M N K L : Nat) (w : World) (hu : Big w u M K) (hv : Big w v N L) (hK : K ≤ 100000) (hL : L ≤ 100000) :
  Calls Tryz.prog 136 #[u, v] w fun e w' => ∃ v', e = .returned v' ∧ (Big w' v' (M * N) (K + L + 1) ∧ Fresh w w' v') ∧ Keep [] w w' := by
 obtain ⟨a, h1, h2, h3, rfl, h5⟩ := hu
 obtain ⟨b, g1, g2, g3, rfl, g5⟩ := hv
 refine (product_any u v a b w h1 g1 h2 g2 (by omega) (by omega)).mono ?_
 rintro e w' ⟨v', he, ⟨j1, j2⟩, j3⟩
 exact ⟨v', he, ⟨j1.mono (by omega), j2⟩, j3⟩
end Go.Proofs.YtfpcpociejefaaaGreatDoor

/- The document's worth of a float, and how a number stands to it. -/
namespace Go.Proofs.YtfpcpociejefaaaGreatDoor
open Go.RowKit Go.PlainAid
theorem powers_int (v : Value) (N K : Nat) (k : Int) (w : World) (h : Big w v N K) (hK : K ≤ 1000) (hk : k ≤ 1000) :
  Calls Tryz.prog 137 #[v, .int .i64 2, .int .i64 k] w fun e w' => ∃ v', e = .returned v' ∧ (Big w' v' (N * 2 ^ k.toNat) (K + k.toNat) ∧ (v' = v ∨ Fresh w w' v')) ∧ Keep [] w w' := by
 by_cases h0 : k ≤ 0
 ·refine (powers_neg v k h0 w).mono ?_
  rintro e w' ⟨rfl, rfl⟩
  rw [show k.toNat = 0 by omega]
  exact ⟨v, rfl, ⟨by simpa using h, .inl rfl⟩, Keep.refl _ _⟩
 ·have hc := powers_two v N K k.toNat w h hK (by omega)
  rw [show ((k.toNat : Nat) : Int) = k by omega] at hc
  refine hc.mono ?_
  exact fun _ _ h => h
theorem Big.one (w : World) : Big (w.alloc (.cells #[.int .i64 1] TI)) (.slice (some ⟨w.heap.size, 0, none⟩) 1 1) 1 1 :=
 ⟨[1], Is.one w 1, fun x hx => by simp at hx; omega, fun _ => by decide, rfl, by simp⟩
theorem Big.sl {w : World} {v : Value} {N K : Nat} (h : Big w v N K) : ∃ a n c, v = .slice a n c := by
 obtain ⟨l, hl, _⟩ := h
 obtain ⟨ao, cap, he, _⟩ := hl.ex
 exact ⟨ao, _, cap, he⟩
theorem Fresh.off1 {w w' : World} {o : Obj} {v : Value} (h : Fresh (w.alloc o) w' v) : Off v [w.heap.size] := fun k hk hn => by
 have := (h k hk).1
 simp at this hn
 omega
set_option maxRecDepth 1000000 in
set_option maxHeartbeats 3200000 in
theorem worth_any (m : Nat) (e : Int) (hm : m < 18446744073709551616) (he1 : -500 ≤ e) (he2 : e ≤ 500) (w : World) :
  Calls Tryz.prog 134 #[.int .u64 (m : Int), .int .i64 e] w fun r w' => ∃ va vb, r = .returned (.agg #[va, vb]) ∧ (Big w' va (m * 2 ^ e.toNat) 1000 ∧ Big w' vb (2 ^ (-e).toNat) 1000) ∧ Keep [] w w' := by
 go_enter Tryz.func134, Tryz.ntmps134
 go_wp2_with fail
 refine (number_big m hm _).mono ?_
 rintro e9 w1 ⟨v1, rfl, hb1, hf1, hk1⟩
 go_wp2_with fail
 refine (powers_int v1 m 3 e _ hb1 (by omega) (by omega)).mono ?_
 rintro e9 w2 ⟨va, rfl, ⟨hba, hoa⟩, hka⟩
 go_wp2_with fail
 refine (powers_int _ 1 1 (-e) _ (Big.one w2) (by omega) (by omega)).mono ?_
 rintro e9 w3 ⟨vb, rfl, ⟨hbb, hob⟩, hkb⟩
 have K1 : Keep [] (w.alloc (Obj.cells #[Value.slice none 0 0, Value.slice none 0 0] 133)) w2 := hk1.trans' hka
 have K2 : Keep [] (w.alloc (Obj.cells #[Value.slice none 0 0, Value.slice none 0 0] 133)) w3 := (K1.alloc _).trans' hkb
 have K3 : Keep [] w2 w3 := (Keep.alloc1 w2 _).trans' hkb
 have s1 := hk1.size
 have s2 := hka.size
 simp at s1
 have HA : Hid (Big w3 va (m * 2 ^ e.toNat) 1000 ∧ Off va [w.heap.size]) := ⟨(hba.keep K3 (Off.nil _)).mono (by omega), by
  rcases hoa with rfl | h
  ·exact hf1.off1
  ·exact (h.earlier (w0 := w.alloc (Obj.cells #[Value.slice none 0 0, Value.slice none 0 0] 133)) (by simpa using s1)).off1⟩
 have HBb : Hid (Big w3 vb (2 ^ (-e).toNat) 1000 ∧ Off vb [w.heap.size]) := ⟨by rw [Nat.one_mul] at hbb; exact hbb.mono (by omega), by
  rcases hob with rfl | h
  ·intro k hk hn
   simp [Value.ownBlock] at hk hn
   omega
  ·intro k hk hn
   have := (h k hk).1
   simp at this hn
   omega⟩
 have HK : Hid (Keep [] w w3) := (show Keep [] w w3 from ((Keep.alloc1 w _).trans' K2))
 have hc0 : w3.cell? ⟨w.heap.size, 0, none⟩ = some (.slice none 0 0) := K2.cell' (by simp) (by simp)
 have hc1 : w3.cell? ⟨w.heap.size, 1, none⟩ = some (.slice none 0 0) := K2.cell' (by simp) (by simp)
 have hf0 : w3.frozen? ⟨w.heap.size, 0, none⟩ = false := (K2.frozen (by simp) (by simp)).trans (by simp)
 have hf9 : w3.frozen? ⟨w.heap.size, 1, none⟩ = false := (K2.frozen (by simp) (by simp)).trans (by simp)
 obtain ⟨ao, na, ca, rfl⟩ := hba.sl
 obtain ⟨bo, nb, cb, rfl⟩ := hbb.sl
 clear hb1 hf1 hk1 hba hoa hka hbb hob hkb K1 K2 K3 s1 s2
 have HG : Hid (w.heap.size ≤ w.heap.size) := Nat.le_refl _
 generalize hgg : w.heap.size = g at *
 have HG : Hid (w.heap.size ≤ g) := show w.heap.size ≤ g by omega
 clear hgg
 have hd1 : (w3.setCell ⟨g, 0, none⟩ (.slice ao na ca)).cell? ⟨g, 1, none⟩ = some (.slice none 0 0) := by rw [World.cell?_setCell_other _ _ _ _ (by simp)]; exact hc1
 have d1 : ((w3.setCell ⟨g, 0, none⟩ (.slice ao na ca)).setCell ⟨g, 1, none⟩ (.slice bo nb cb)).cell? ⟨g, 1, none⟩ = some (.slice bo nb cb) := World.cell?_setCell_same _ _ _ hd1
 have d0 : ((w3.setCell ⟨g, 0, none⟩ (.slice ao na ca)).setCell ⟨g, 1, none⟩ (.slice bo nb cb)).cell? ⟨g, 0, none⟩ = some (.slice ao na ca) := by
  rw [World.cell?_setCell_other _ _ _ _ (by simp)]; exact World.cell?_setCell_same _ _ _ hc0
 have KS : Keep [g] w3 ((w3.setCell ⟨g, 0, none⟩ (.slice ao na ca)).setCell ⟨g, 1, none⟩ (.slice bo nb cb)) := ((Keep.refl [g] w3).setCell (p := ⟨g, 0, none⟩) (.inl (by simp)) _).setCell (p := ⟨g, 1, none⟩) (.inl (by simp)) _
 have HR : Hid ((Big ((w3.setCell ⟨g, 0, none⟩ (.slice ao na ca)).setCell ⟨g, 1, none⟩ (.slice bo nb cb)) (.slice ao na ca) (m * 2 ^ e.toNat) 1000 ∧ Big ((w3.setCell ⟨g, 0, none⟩ (.slice ao na ca)).setCell ⟨g, 1, none⟩ (.slice bo nb cb)) (.slice bo nb cb) (2 ^ (-e).toNat) 1000) ∧ Keep [] w ((w3.setCell ⟨g, 0, none⟩ (.slice ao na ca)).setCell ⟨g, 1, none⟩ (.slice bo nb cb))) :=
  ⟨⟨HA.out.1.keep KS HA.out.2, HBb.out.1.keep KS HBb.out.2⟩, HK.out.more KS (by intro x hx; simp at hx; subst hx; exact .inr HG.out)⟩
 clear KS HA HBb HK hd1
 go_wp2
 generalize ((w3.setCell ⟨g, 0, none⟩ (.slice ao na ca)).setCell ⟨g, 1, none⟩ (.slice bo nb cb)) = W at d0 d1 HR ⊢
 refine bodyPost_ret (v := .agg #[.slice ao na ca, .slice bo nb cb]) (by simp [results, Tryz.results134, go_sem, d0, d1]) rfl ?_
 exact ⟨_, _, rfl, HR.out⟩
end Go.Proofs.YtfpcpociejefaaaGreatDoor

/- How a number stands to a float's worth: the document's against. -/
namespace Go.Proofs.YtfpcpociejefaaaGreatDoor
open Go.RowKit Go.PlainAid
theorem compare_nums (u v : Value) (M N K L : Nat) (w : World) (hu : Big w u M K) (hv : Big w v N L) : Calls Tryz.prog 135 #[u, v] w fun e w' => e = .returned (.int .i64 (cmpI (M : Nat) (N : Nat))) ∧ Keep [] w w' := by
 obtain ⟨a, h1, h2, h3, rfl, h5⟩ := hu
 obtain ⟨b, g1, g2, g3, rfl, g5⟩ := hv
 refine (compare_big u v a b w h1 g1 h2 g2 h3 g3).mono ?_
 rintro e w' ⟨rfl, n, rfl⟩
 exact ⟨rfl, (Keep.refl _ w).drewN n⟩
/-- what is held: the four parts -/
def Four (W : World) (p q : Nat) (a b c d : Value) (w : World) : Prop :=
 (w.cell? ⟨p, 0, none⟩ = some a ∧ w.cell? ⟨p, 1, none⟩ = some b ∧ w.cell? ⟨q, 0, none⟩ = some c ∧ w.cell? ⟨q, 1, none⟩ = some d) ∧ Keep [] W w
theorem Four.start {W : World} {p q : Nat} {a b c d : Value} (h : W.cell? ⟨p, 0, none⟩ = some a ∧ W.cell? ⟨p, 1, none⟩ = some b ∧ W.cell? ⟨q, 0, none⟩ = some c ∧ W.cell? ⟨q, 1, none⟩ = some d) : Four W p q a b c d W.drew := ⟨h, (Keep.refl _ W).drew⟩
theorem Four.next {W wi wj : World} {p q : Nat} {a b c d : Value} (hk : Keep [] wi wj) (h : Four W p q a b c d wi) : Four W p q a b c d wj :=
 ⟨⟨hk.cell' h.1.1 (by simp), hk.cell' h.1.2.1 (by simp), hk.cell' h.1.2.2.1 (by simp), hk.cell' h.1.2.2.2 (by simp)⟩, h.2.trans' hk⟩
set_option maxRecDepth 1000000 in
set_option maxHeartbeats 3200000 in
theorem against_at (fa fb : Value) (A B K L m P1 P2 : Nat) (e : Int) (w : World) (ha : Big w fa A K) (hb : Big w fb B L) (hK : K ≤ 3000) (hL : L ≤ 3000)
  (hw : ∀ w : World, Calls Tryz.prog 134 #[.int .u64 (m : Int), .int .i64 e] w fun r w' => ∃ va vb, r = .returned (.agg #[va, vb]) ∧ (Big w' va P1 1000 ∧ Big w' vb P2 1000) ∧ Keep [] w w') :
  Calls Tryz.prog 117 #[.agg #[fa, fb], .int .u64 (m : Int), .int .i64 e] w fun r w' => r = .returned (.int .i64 (cmpI (A * P2 : Nat) (P1 * B : Nat))) ∧ Keep [] w w' := by
 obtain ⟨ao, na, ca, rfl⟩ := ha.sl
 obtain ⟨bo, nb, cb, rfl⟩ := hb.sl
 have HA : Hid (Big w (.slice ao na ca) A K) := ha
 have HB : Hid (Big w (.slice bo nb cb) B L) := hb
 clear ha hb
 go_enter Tryz.func117, Tryz.ntmps117
 go_wp2_with fail
 refine (hw _).mono ?_
 rintro e9 w1 ⟨vc, vd, rfl, ⟨hc, hd⟩, hk1⟩
 obtain ⟨co, nc, cc, rfl⟩ := hc.sl
 obtain ⟨dO, nd, cd, rfl⟩ := hd.sl
 have HC : Hid (Big w1 (.slice co nc cc) P1 1000) := hc
 have HD : Hid (Big w1 (.slice dO nd cd) P2 1000) := hd
 have HK1 : Hid _ := hk1
 clear hc hd hk1
 go_wp2
 have KW : Keep [] w1 (w1.alloc (Obj.cells #[Value.slice co nc cc, Value.slice dO nd cd] 133)) := Keep.alloc1 _ _
 have hp : w.heap.size < w1.heap.size := by have := HK1.out.size; simp at this; omega
 have c0 : w1.cell? ⟨w.heap.size, 0, none⟩ = some (.slice ao na ca) := HK1.out.cell' (by simp) (by simp)
 have c1 : w1.cell? ⟨w.heap.size, 1, none⟩ = some (.slice bo nb cb) := HK1.out.cell' (by simp) (by simp)
 have HW : Hid (Big (w1.alloc (Obj.cells #[Value.slice co nc cc, Value.slice dO nd cd] 133)) (.slice ao na ca) A K ∧ Big (w1.alloc (Obj.cells #[Value.slice co nc cc, Value.slice dO nd cd] 133)) (.slice bo nb cb) B L ∧ Big (w1.alloc (Obj.cells #[Value.slice co nc cc, Value.slice dO nd cd] 133)) (.slice co nc cc) P1 1000 ∧ Big (w1.alloc (Obj.cells #[Value.slice co nc cc, Value.slice dO nd cd] 133)) (.slice dO nd cd) P2 1000 ∧ Keep [] w (w1.alloc (Obj.cells #[Value.slice co nc cc, Value.slice dO nd cd] 133))) := by
  have k1 : Keep [] w w1 := (Keep.alloc1 w _).trans' HK1.out
  exact ⟨(HA.out.keep k1 (Off.nil _)).keep KW (Off.nil _), (HB.out.keep k1 (Off.nil _)).keep KW (Off.nil _), HC.out.keep KW (Off.nil _), HD.out.keep KW (Off.nil _), k1.trans' KW⟩
 have h4 : (w1.alloc (Obj.cells #[Value.slice co nc cc, Value.slice dO nd cd] 133)).cell? ⟨w.heap.size, 0, none⟩ = some (.slice ao na ca) ∧ (w1.alloc (Obj.cells #[Value.slice co nc cc, Value.slice dO nd cd] 133)).cell? ⟨w.heap.size, 1, none⟩ = some (.slice bo nb cb) ∧ (w1.alloc (Obj.cells #[Value.slice co nc cc, Value.slice dO nd cd] 133)).cell? ⟨w1.heap.size, 0, none⟩ = some (.slice co nc cc) ∧ (w1.alloc (Obj.cells #[Value.slice co nc cc, Value.slice dO nd cd] 133)).cell? ⟨w1.heap.size, 1, none⟩ = some (.slice dO nd cd) :=
  ⟨KW.cell' c0 (by simp), KW.cell' c1 (by simp), by simp, by simp⟩
 clear HA HB HC HD HK1 KW c0 c1 hp
 generalize (w1.alloc (Obj.cells #[Value.slice co nc cc, Value.slice dO nd cd] 133)) = W at HW h4 ⊢
 generalize w.heap.size = p at h4 ⊢
 generalize w1.heap.size = q at h4 ⊢
 have hP1 := product_big (.slice ao na ca) (.slice dO nd cd) A P2 K 1000 W.drew (HW.out.1.keep ((Keep.refl [] W).drew) (Off.nil _)) (HW.out.2.2.2.1.keep ((Keep.refl [] W).drew) (Off.nil _)) (by omega) (by omega)
 have hP2 : ∀ w5, Keep [] W.drew w5 → _ := fun w5 hk5 => product_big (.slice co nc cc) (.slice bo nb cb) P1 B 1000 L w5 ((HW.out.2.2.1.keep ((Keep.refl [] W).drew) (Off.nil _)).keep hk5 (Off.nil _)) ((HW.out.2.1.keep ((Keep.refl [] W).drew) (Off.nil _)).keep hk5 (Off.nil _)) (by omega) (by omega)
 go_region_held3 (fun w' => (w'.cell? ⟨p, 0, none⟩ = some (.slice ao na ca) ∧ w'.cell? ⟨p, 1, none⟩ = some (.slice bo nb cb) ∧ w'.cell? ⟨q, 0, none⟩ = some (.slice co nc cc) ∧ w'.cell? ⟨q, 1, none⟩ = some (.slice dO nd cd)) ∧ Keep [] W w')
  (first | exact Four.start h4 | exact Four.next (by assumption) (by assumption))
  (first
  | (go_at_call_of 136 na; refine hP1.mono ?_; rintro e9 w5 ⟨v5, rfl, ⟨hb5, hf5⟩, hk5⟩)
  | (go_at_call_of 136 nc; refine (hP2 _ hk5).mono ?_; rintro e9 w6 ⟨v6, rfl, ⟨hb6, hf6⟩, hk6⟩)
  | (go_at_call 135; refine (compare_nums v5 v6 (A * P2) (P1 * B) _ _ _ (hb5.keep hk6 (Off.nil _)) hb6).mono ?_; rintro e9 w7 ⟨rfl, hk7⟩))
 go_wp2
 go_ret
 rename_i hH
 exact ⟨rfl, HW.out.2.2.2.2.trans' hH.2⟩
theorem against_any (fa fb : Value) (A B K L m : Nat) (e : Int) (w : World) (ha : Big w fa A K) (hb : Big w fb B L) (hK : K ≤ 3000) (hL : L ≤ 3000) (hm : m < 18446744073709551616) (he1 : -500 ≤ e) (he2 : e ≤ 500) :
  Calls Tryz.prog 117 #[.agg #[fa, fb], .int .u64 (m : Int), .int .i64 e] w fun r w' => r = .returned (.int .i64 (cmpI (A * 2 ^ (-e).toNat : Nat) (m * 2 ^ e.toNat * B : Nat))) ∧ Keep [] w w' :=
 against_at fa fb A B K L m _ _ e w ha hb hK hL (fun w => worth_any m e hm he1 he2 w)
end Go.Proofs.YtfpcpociejefaaaGreatDoor

/- The document's powers of ten, and a number beside one. -/
namespace Go.Proofs.YtfpcpociejefaaaGreatDoor
open Go.RowKit Go.PlainAid
set_option maxRecDepth 1000000 in
set_option maxHeartbeats 1600000 in
theorem powers_neg10 (v : Value) (k : Int) (hk : k ≤ 0) (w : World) : Calls Tryz.prog 137 #[v, .int .i64 10, .int .i64 k] w fun e w' => e = .returned v ∧ w' = w := by
 have h1 : ¬ (8 : Int) ≤ k := by omega
 have h2 : ¬ (0 : Int) < k := by omega
 go_enter Tryz.func137, Tryz.ntmps137
 go_wp2
 refine wp_loop_rounds 1 ?_
 rw [rounds_succ]
 go_wp2
 refine wp_loop_rounds 1 ?_
 rw [rounds_succ]
 go_wp2
 go_ret
 exact ⟨rfl, rfl⟩
structure PowT (w wr : World) (v nv : Value) (N K j : Nat) : Prop where
 big : Big wr nv (N * 10 ^ j) (K + j)
 own : nv = v ∨ Fresh w wr nv
 keep : Keep [] w wr
theorem PowT.next {w wr w1 : World} {v nv n1 : Value} {N K j : Nat} (h : PowT w wr v nv N K j) (d : Nat) (hd : 1 ≤ d) (g : Big w1 n1 (N * 10 ^ j * 10 ^ d) (K + j + 1) ∧ Fresh wr w1 n1) (k : Keep [] wr w1) : PowT w w1 v n1 N K (j + d) := by
 refine ⟨?_, .inr (g.2.earlier h.keep.size), h.keep.trans' k⟩
 rw [Nat.pow_add, ← Nat.mul_assoc]
 exact g.1.mono (by omega)
set_option maxRecDepth 1000000 in
set_option maxHeartbeats 3200000 in
theorem powers_ten (v : Value) (N K k : Nat) (w : World) (h : Big w v N K) (hK : K ≤ 1000) (hk : k ≤ 1000) :
  Calls Tryz.prog 137 #[v, .int .i64 10, .int .i64 (k : Int)] w fun e w' => ∃ v', e = .returned v' ∧ (Big w' v' (N * 10 ^ k) (K + k) ∧ (v' = v ∨ Fresh w w' v')) ∧ Keep [] w w' := by
 have H0 : Hid (Big w v N K) := h
 clear h
 go_enter Tryz.func137, Tryz.ntmps137
 go_wp2
 go_loopw [0, 2] (fun nv kv wr => ∃ m : Nat, kv = .int .i64 (m : Int) ∧ m ≤ k ∧ Hid (PowT w wr v nv N K (k - m))) (fun _ kv _ => (intOf kv).toNat)
 case atStart => exact ⟨k, rfl, Nat.le_refl _, (⟨by simpa using H0.out, .inl rfl, Keep.refl _ w⟩ : PowT w w v v N K (k - k))⟩
 case round =>
  obtain ⟨m, rfl, hm, HI⟩ := hrel
  by_cases h8 : 8 ≤ m
  ·obtain ⟨j, rfl⟩ : ∃ j, m = j + 8 := ⟨m - 8, by omega⟩
   have hT := times_big u0 _ _ 100000000 wr HI.out.big (by omega) (by decide) (by decide)
   rw [show ((100000000 : Nat) : Int) = 100000000 from rfl] at hT
   have h8i : (8 : Int) ≤ ((j + 8 : Nat) : Int) := by omega
   go_wp2_with (go_at_call 151; refine hT.mono ?_; rintro e9 w9 ⟨v9, rfl, hb9, hk9⟩)
   have HJ : Hid (PowT w w9 v v9 N K (k - j)) := show PowT w w9 v v9 N K (k - j) by
    have := HI.out.next 8 (by decide) hb9 hk9
    rwa [show k - (j + 8) + 8 = k - j by omega] at this
   clear hb9 hk9 hT
   go_roundw
   case rel => exact ⟨j, by go_num, by omega, HJ⟩
   case measure => (simp [intOf]; try omega)
  ·have h8i : ¬ (8 : Int) ≤ (m : Int) := by omega
   go_wp2
   clear H0
   go_loopw [0, 7] (fun nv iv wr => ∃ i : Nat, iv = .int .i64 (i : Int) ∧ i ≤ m ∧ Hid (PowT w wr v nv N K (k - m + i))) (fun _ iv _ => m - (intOf iv).toNat)
   case atStart => exact ⟨0, rfl, Nat.zero_le _, HI⟩
   case round =>
    clear HI
    obtain ⟨i, rfl, hi, HI⟩ := hrel
    by_cases hl : i < m
    ·have hT := times_big u0 _ _ 10 wr HI.out.big (by omega) (by decide) (by decide)
     rw [show ((10 : Nat) : Int) = 10 from rfl] at hT
     have hli : (i : Int) < (m : Int) := by omega
     go_wp2_with (go_at_call 151; refine hT.mono ?_; rintro e9 w9 ⟨v9, rfl, hb9, hk9⟩)
     have HJ : Hid (PowT w w9 v v9 N K (k - m + (i + 1))) := HI.out.next 1 (by decide) hb9 hk9
     clear hb9 hk9 hT
     go_roundw
     case rel => exact ⟨i + 1, by go_num, by omega, HJ⟩
     case measure => (simp [intOf]; try omega)
    ·have hli : ¬ (i : Int) < (m : Int) := by omega
     go_wp2
     go_ret
     have h1 := HI.out
     rw [show k - m + i = k by omega] at h1
     exact ⟨_, rfl, ⟨h1.big, h1.own⟩, h1.keep⟩
theorem powers_int10 (v : Value) (N K : Nat) (k : Int) (w : World) (h : Big w v N K) (hK : K ≤ 1000) (hk : k ≤ 1000) :
  Calls Tryz.prog 137 #[v, .int .i64 10, .int .i64 k] w fun e w' => ∃ v', e = .returned v' ∧ (Big w' v' (N * 10 ^ k.toNat) (K + k.toNat) ∧ (v' = v ∨ Fresh w w' v')) ∧ Keep [] w w' := by
 by_cases h0 : k ≤ 0
 ·refine (powers_neg10 v k h0 w).mono ?_
  rintro e w' ⟨rfl, rfl⟩
  rw [show k.toNat = 0 by omega]
  exact ⟨v, rfl, ⟨by simpa using h, .inl rfl⟩, Keep.refl _ _⟩
 ·have hc := powers_ten v N K k.toNat w h hK (by omega)
  rw [show ((k.toNat : Nat) : Int) = k by omega] at hc
  refine hc.mono ?_
  exact fun _ _ h => h
set_option maxRecDepth 1000000 in
set_option maxHeartbeats 3200000 in
theorem ten_any (m : Nat) (e : Int) (hm : m < 9223372036854775808) (he1 : -500 ≤ e) (he2 : e ≤ 500) (w : World) :
  Calls Tryz.prog 118 #[.int .i64 (m : Int), .int .i64 e] w fun r w' => ∃ va vb, r = .returned (.agg #[va, vb]) ∧ (Big w' va (m * 10 ^ e.toNat) 1000 ∧ Big w' vb (10 ^ (-e).toNat) 1000) ∧ Keep [] w w' := by
 go_enter Tryz.func118, Tryz.ntmps118
 go_wp2_with fail
 refine (number_big m (by omega) _).mono ?_
 rintro e9 w1 ⟨v1, rfl, hb1, hf1, hk1⟩
 go_wp2_with fail
 refine (powers_int10 v1 m 3 e _ hb1 (by omega) (by omega)).mono ?_
 rintro e9 w2 ⟨va, rfl, ⟨hba, hoa⟩, hka⟩
 go_wp2_with fail
 refine (powers_int10 _ 1 1 (-e) _ (Big.one w2) (by omega) (by omega)).mono ?_
 rintro e9 w3 ⟨vb, rfl, ⟨hbb, hob⟩, hkb⟩
 have K1 : Keep [] (w.alloc (Obj.cells #[Value.slice none 0 0, Value.slice none 0 0] 133)) w2 := hk1.trans' hka
 have K2 : Keep [] (w.alloc (Obj.cells #[Value.slice none 0 0, Value.slice none 0 0] 133)) w3 := (K1.alloc _).trans' hkb
 have K3 : Keep [] w2 w3 := (Keep.alloc1 w2 _).trans' hkb
 have s1 := hk1.size
 have s2 := hka.size
 simp at s1
 have HA : Hid (Big w3 va (m * 10 ^ e.toNat) 1000 ∧ Off va [w.heap.size]) := ⟨(hba.keep K3 (Off.nil _)).mono (by omega), by
  rcases hoa with rfl | h
  ·exact hf1.off1
  ·exact (h.earlier (w0 := w.alloc (Obj.cells #[Value.slice none 0 0, Value.slice none 0 0] 133)) (by simpa using s1)).off1⟩
 have HBb : Hid (Big w3 vb (10 ^ (-e).toNat) 1000 ∧ Off vb [w.heap.size]) := ⟨by rw [Nat.one_mul] at hbb; exact hbb.mono (by omega), by
  rcases hob with rfl | h
  ·intro k hk hn
   simp [Value.ownBlock] at hk hn
   omega
  ·intro k hk hn
   have := (h k hk).1
   simp at this hn
   omega⟩
 have HK : Hid (Keep [] w w3) := (show Keep [] w w3 from ((Keep.alloc1 w _).trans' K2))
 have hc0 : w3.cell? ⟨w.heap.size, 0, none⟩ = some (.slice none 0 0) := K2.cell' (by simp) (by simp)
 have hc1 : w3.cell? ⟨w.heap.size, 1, none⟩ = some (.slice none 0 0) := K2.cell' (by simp) (by simp)
 have hf0 : w3.frozen? ⟨w.heap.size, 0, none⟩ = false := (K2.frozen (by simp) (by simp)).trans (by simp)
 have hf9 : w3.frozen? ⟨w.heap.size, 1, none⟩ = false := (K2.frozen (by simp) (by simp)).trans (by simp)
 obtain ⟨ao, na, ca, rfl⟩ := hba.sl
 obtain ⟨bo, nb, cb, rfl⟩ := hbb.sl
 clear hb1 hf1 hk1 hba hoa hka hbb hob hkb K1 K2 K3 s1 s2
 have HG : Hid (w.heap.size ≤ w.heap.size) := Nat.le_refl _
 generalize hgg : w.heap.size = g at *
 have HG : Hid (w.heap.size ≤ g) := show w.heap.size ≤ g by omega
 clear hgg
 have hd1 : (w3.setCell ⟨g, 0, none⟩ (.slice ao na ca)).cell? ⟨g, 1, none⟩ = some (.slice none 0 0) := by rw [World.cell?_setCell_other _ _ _ _ (by simp)]; exact hc1
 have d1 : ((w3.setCell ⟨g, 0, none⟩ (.slice ao na ca)).setCell ⟨g, 1, none⟩ (.slice bo nb cb)).cell? ⟨g, 1, none⟩ = some (.slice bo nb cb) := World.cell?_setCell_same _ _ _ hd1
 have d0 : ((w3.setCell ⟨g, 0, none⟩ (.slice ao na ca)).setCell ⟨g, 1, none⟩ (.slice bo nb cb)).cell? ⟨g, 0, none⟩ = some (.slice ao na ca) := by
  rw [World.cell?_setCell_other _ _ _ _ (by simp)]; exact World.cell?_setCell_same _ _ _ hc0
 have KS : Keep [g] w3 ((w3.setCell ⟨g, 0, none⟩ (.slice ao na ca)).setCell ⟨g, 1, none⟩ (.slice bo nb cb)) := ((Keep.refl [g] w3).setCell (p := ⟨g, 0, none⟩) (.inl (by simp)) _).setCell (p := ⟨g, 1, none⟩) (.inl (by simp)) _
 have HR : Hid ((Big ((w3.setCell ⟨g, 0, none⟩ (.slice ao na ca)).setCell ⟨g, 1, none⟩ (.slice bo nb cb)) (.slice ao na ca) (m * 10 ^ e.toNat) 1000 ∧ Big ((w3.setCell ⟨g, 0, none⟩ (.slice ao na ca)).setCell ⟨g, 1, none⟩ (.slice bo nb cb)) (.slice bo nb cb) (10 ^ (-e).toNat) 1000) ∧ Keep [] w ((w3.setCell ⟨g, 0, none⟩ (.slice ao na ca)).setCell ⟨g, 1, none⟩ (.slice bo nb cb))) :=
  ⟨⟨HA.out.1.keep KS HA.out.2, HBb.out.1.keep KS HBb.out.2⟩, HK.out.more KS (by intro x hx; simp at hx; subst hx; exact .inr HG.out)⟩
 clear KS HA HBb HK hd1
 go_wp2
 generalize ((w3.setCell ⟨g, 0, none⟩ (.slice ao na ca)).setCell ⟨g, 1, none⟩ (.slice bo nb cb)) = W at d0 d1 HR ⊢
 refine bodyPost_ret (v := .agg #[.slice ao na ca, .slice bo nb cb]) (by simp [results, Tryz.results118, go_sem, d0, d1]) rfl ?_
 exact ⟨_, _, rfl, HR.out⟩
end Go.Proofs.YtfpcpociejefaaaGreatDoor
