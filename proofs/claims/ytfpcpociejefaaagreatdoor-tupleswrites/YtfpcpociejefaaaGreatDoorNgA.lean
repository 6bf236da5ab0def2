/- A float32 as a float64, and back. -/
import Derived.Test.YtfpcpociejefaaaGreatDoorNearW
import Derived.Test.YtfpcpociejefaaaGreatDoorFtD
import Derived.Test.YtfpcpociejefaaaGreatDoorTxA
import Derived.Lib.AtoiErrMem
import Derived.Lib.AppendIntMem

namespace Go.Proofs.YtfpcpociejefaaaGreatDoor
open Go.RowKit Go.PlainAid
theorem nearP (m : Nat) (e : Int) (h0 : 0 < m) (hm : m < 16777216) (lo : -200 ≤ e) (hi : e ≤ 200) : Ieee.double.nearest false m e = wD (m * 2 ^ (52 - m.log2)) ((m.log2 : Int) + e) := by
 obtain ⟨c1, c2, c3, c4⟩ := dconsts
 obtain ⟨_, k1, k2, k3⟩ := nearS m h0 hm
 generalize hl : m.log2 = L at *
 unfold Ieee.Format.nearest
 rw [if_neg (by omega)]
 simp only [c1, c2, c3, hl, show Ieee.double.fractionBits = 52 from rfl]
 rw [show max (e + (L : Int) - ((52 : Nat) : Int)) (-1074) = e + (L : Int) - 52 by omega]
 rw [show (e - (e + (L : Int) - 52)).toNat = 52 - L by omega, show ((e + (L : Int) - 52) - e).toNat = 0 by omega, Nat.shiftLeft_eq]
 have hcut : Ieee.Toward.cut .even false (m * 2 ^ (52 - L)) 0 = m * 2 ^ (52 - L) := by
  unfold Ieee.Toward.cut
  simp [Nat.mod_one]
 rw [hcut, show ((e + (L : Int) - 52) - -1074).toNat = ((L : Int) + e + 1022).toNat by omega]
 unfold Ieee.Format.word wD
 simp only [Bool.false_eq_true, if_false]
 rw [Nat.min_eq_left]
 have : ((L : Int) + e + 1022).toNat ≤ 1300 := by omega
 omega
theorem read_at (n : Nat) (h : n < 2139095040) : Ieee.single.read n = .number false (atM n) (atE n) := by
 have e1 : Ieee.single.signWeight = 2147483648 := by decide
 have e2 : Ieee.single.binade = 8388608 := by decide
 have e3 : Ieee.single.infRung = 2139095040 := by decide
 have e4 : Ieee.single.leastPlace = -149 := by decide
 unfold Ieee.Format.read
 simp only [e1, e2, e3, e4]
 have hm : n % 2147483648 = n := by omega
 have hs : (n / 2147483648 % 2 == 1) = false := by simp; omega
 rw [hm]
 unfold atM atE
 by_cases hb : n < 8388608
 ·rw [if_pos hb, if_pos hb, if_pos hb, hs]
 ·rw [if_neg hb, if_neg hb, if_neg hb, if_pos h, hs]
  congr 1
  omega
theorem fD_up (n : Nat) (h0 : 0 < n) (h : n < 2139095040) : floatToFloatBits .f32 n .f64 = some (fD n (atE n)) := by
 have hM0 : atM n ≠ 0 := by unfold atM; split <;> omega
 have a1 := atE_lo n
 have a2 := atE_hi n h
 obtain ⟨_, k1, k2, k3⟩ := nearS (atM n) (by omega) (atM_lt n)
 unfold floatToFloatBits
 rw [if_neg (by decide)]
 show (match Ieee.single.read n with | .nan _ _ => none | .infinity s => some (Ieee.double.write (.infinity s)) | .number s m e => if (Ieee.double.read (Ieee.double.write (.number s m e))).isInfinity then none else some (Ieee.double.write (.number s m e))) = _
 rw [read_at n h]
 have hw : Ieee.double.write (.number false (atM n) (atE n)) = fD n (atE n) := by
  unfold fD
  rw [if_neg hM0]
  exact nearP (atM n) (atE n) (by omega) (atM_lt n) (by omega) (by omega)
 simp only [hw]
 unfold fD
 rw [if_neg hM0, readD _ _ k1 k2 (by omega) (by omega)]
 rfl
theorem conv_up (n : Nat) (h0 : 0 < n) (h : n < 2139095040) (w : World) : (convert 58 149 (.float .f32 n)).run Tryz.prog w = .ok (.float .f64 (fD n (atE n))) w :=
 run_convert_float_float w 58 149 .f32 .f64 n (fD n (atE n)) (by kernel_rfl) Tryz.underlying149 (fD_up n h0 h)
theorem conv_down (n : Nat) (h : n < 2139095040) (w : World) : (convert 149 58 (.float .f64 (fD n (atE n)))).run Tryz.prog w = .ok (.float .f32 n) w :=
 run_convert_float_float w 149 58 .f64 .f32 (fD n (atE n)) n (by kernel_rfl) Tryz.underlying58 (fD_end n h)
/-- the library's tables, as far as a real's text reads them -/
structure TabT (w : World) : Prop where
 r : TabR w
 u : TabU w
 most : ∃ m, w.cell? ⟨5, 0, none⟩ = some (.int .i64 m)
theorem TabT.below {w w' : World} (h : TabT w) (hb : Below w.heap.size w w') : TabT w' := by
 obtain ⟨m, hm⟩ := h.most
 exact ⟨fun j hj => ⟨cell_next hb (h.r j hj).1, cell_next hb (h.r j hj).2⟩, fun k hk => cell_next hb (h.u k hk), m, cell_next hb hm⟩
theorem ftoa32_any (n : Nat) (h1 : 1 ≤ n) (h2 : n < 2139095040) (w0 w : World) (v : Value) (hT : TabR w) (hU : TabU w) (hrow : Row w v []) (hk : Keep [] w0 w) (hf : Fresh w0 w v) :
  Calls Tryz.prog 164 #[v, .float .f32 n, .int .u8 101, .int .i64 (-1)] w fun e w' => ∃ v', e = .returned v' ∧ Row w' v' (txtE n) ∧ Keep [] w0 w' := by
 by_cases h : n < 8388608
 ·exact ftoa32_sub n h1 h2 h w0 w v hT hU hrow hk hf
 ·exact ftoa32_nrm n h1 h2 (by omega) w0 w v hT hU hrow hk hf
set_option maxRecDepth 1000000 in
set_option maxHeartbeats 1000000 in
theorem iff_any (n : Nat) (h1 : 1 ≤ n) (h2 : n < 2139095040) (w : World) (hT : TabT w) : Calls Tryz.prog 153 #[.float .f64 (fD n (atE n)), .int .u8 101, .int .i64 (-1), .int .i64 32] w fun e w' => e = .returned (.string ⟨(txtE n).toArray⟩) ∧ Below w.heap.size w w' := by
 obtain ⟨i5, h5a, h5b, h5c, h5d⟩ := info_parts infoB
 have hC := conv_down n h2
 have HF : Hid (∀ (w0 w : World) (v : Value), TabR w → TabU w → Row w v [] → Keep [] w0 w → Fresh w0 w v → Calls Tryz.prog 164 #[v, .float .f32 n, .int .u8 101, .int .i64 (-1)] w fun e w' => ∃ v', e = .returned v' ∧ Row w' v' (txtE n) ∧ Keep [] w0 w') := fun w0 w v a b c d e => ftoa32_any n h1 h2 w0 w v a b c d e
 generalize fD n (atE n) = dd at *
 generalize txtE n = tx at *
 clear h1 h2
 go_enter Tryz.func153, Tryz.ntmps153
 go_wp2_with (first
  | (refine wpList_make_own w rfl (.const (.int .i64 0)) (.tmp 13) 33 rfl 0 5 i5 (.int .u8 0) 1 underS h5a h5b h5c .i64 .i64 24 24 rfl rfl rfl (by rw [h5d]; omega) (by decide) (Nat.zero_le _) ?_; intro w1 r1 g1; have HK : Hid (Keep [] w w1) := Keep.grown g1; have HR : Hid (Row w1 (.slice (some ⟨w.heap.size, 0, none⟩) 0 24) []) := r1; clear r1 g1)
  | (go_at_call 164; refine (HF.out w w1 _ (hT.below HK.out.below).r (hT.below HK.out.below).u HR.out HK.out (fun k hk => by simp [Value.ownBlock] at hk; subst hk; exact ⟨Nat.le_refl _, HR.out.lt _ rfl⟩)).mono ?_; rintro e9 w2 ⟨v2, rfl, hr2, hk2⟩; have hcv := run_str hr2.bs; have HK2 : Hid (Keep [] w w2) := hk2; clear hr2 hk2))
 go_ret
 exact ⟨rfl, HK2.out.below⟩
theorem ff_any (n : Nat) (h1 : 1 ≤ n) (h2 : n < 2139095040) (w : World) (hT : TabT w) : Calls Tryz.prog 142 #[.float .f64 (fD n (atE n)), .int .u8 101, .int .i64 (-1), .int .i64 32] w fun e w' => e = .returned (.string ⟨(txtE n).toArray⟩) ∧ Below w.heap.size w w' := by
 have h := iff_any n h1 h2 w hT
 go_enter Tryz.func142, Tryz.ntmps142
 go_wp2_with (first | (go_at_call 153; refine h.mono ?_; rintro e9 w2 ⟨rfl, hb⟩))
 go_ret
 exact ⟨rfl, hb⟩
end Go.Proofs.YtfpcpociejefaaaGreatDoor

/- What is written of a float32, taken apart: the bytes ahead of the e and behind it, the point struck. -/
namespace Go.Proofs.YtfpcpociejefaaaGreatDoor
open Go.RowKit Go.PlainAid
theorem indexByte_behind (c : UInt8) (b : List UInt8) : ∀ a : List UInt8, (∀ x ∈ a, x ≠ c) → Lib.indexByte (a ++ c :: b) c = (a.length : Int)
 | [], _ => by simp [Lib.indexByte]
 | x :: a, h => by
  have ih := indexByte_behind c b a (fun y hy => h y (List.mem_cons_of_mem _ hy))
  have hx : (x == c) = false := by simpa using h x (List.mem_cons_self ..)
  have hn : ((a.length : Int) == -1) = false := by simp
  show Lib.indexByte (x :: (a ++ c :: b)) c = _
  unfold Lib.indexByte
  rw [hx, ih, hn]
  simp
/-- an exponent's bytes say it -/
theorem atoi_exp_nat : ∀ x, x < 100 → Lib.atoi (expB ((x : Nat) : Int)) = some ((x : Nat) : Int) := by decide +kernel
theorem atoi_exp_neg : ∀ x, x < 100 → 1 ≤ x → Lib.atoi (expB (-((x : Nat) : Int))) = some (-((x : Nat) : Int)) := by decide +kernel
theorem atoi_exp (E : Int) (h : -100 < E ∧ E < 100) : Lib.atoi (expB E) = some E := by
 by_cases hn : E < 0
 ·obtain ⟨x, rfl⟩ : ∃ x : Nat, E = -(x : Int) := ⟨E.natAbs, by omega⟩
  exact atoi_exp_neg x (by omega) (by omega)
 ·obtain ⟨x, rfl⟩ : ∃ x : Nat, E = (x : Int) := ⟨E.natAbs, by omega⟩
  exact atoi_exp_nat x (by omega)
theorem expB_len (E : Int) : (expB E).length = 3 := by unfold expB; split <;> split <;> rfl
theorem dg_is (u j : Nat) : 48 ≤ (Lib.dg u j).toNat ∧ (Lib.dg u j).toNat ≤ 57 := by
 unfold Lib.dg
 rw [UInt8.toNat_ofNat']
 omega
/-- the digits that are told -/
def digs (n : Nat) : List UInt8 := (digD n).take (ndF n)
theorem ndF_le (n : Nat) (h1 : 1 ≤ n) (h2 : n < 2139095040) : 1 ≤ ndF n ∧ ndF n ≤ ndN (dF n) ∧ ndN (dF n) ≤ 10 := by
 obtain ⟨d1, d2⟩ := dF_bounds n h1 h2
 obtain ⟨t1, _⟩ := tzN_ok (dF n) d1 d2
 obtain ⟨m1, m2, _⟩ := ndN_ok (dF n) d1 d2
 unfold ndF
 omega
theorem digs_len (n : Nat) (h1 : 1 ≤ n) (h2 : n < 2139095040) : (digs n).length = ndF n := by
 have := ndF_le n h1 h2
 unfold digs
 rw [List.length_take, digD_len]
 omega
theorem digs_get (n j : Nat) (h1 : 1 ≤ n) (h2 : n < 2139095040) (hj : j < ndF n) : (digs n)[j]? = some (Lib.dg (dF n) (ndN (dF n) - 1 - j)) := by
 have := ndF_le n h1 h2
 unfold digs
 rw [List.getElem?_take, if_pos hj]
 unfold digD
 rw [List.getElem?_map, List.getElem?_range (by omega)]
 show some (if j < ndN (dF n) then _ else _) = _
 rw [if_pos (by omega)]
theorem digs_is (n : Nat) (h1 : 1 ≤ n) (h2 : n < 2139095040) : ∀ x ∈ digs n, 48 ≤ x.toNat ∧ x.toNat ≤ 57 := by
 intro x hx
 obtain ⟨j, hj⟩ := List.mem_iff_getElem?.1 hx
 have hlt : j < ndF n := by
  have := (List.getElem?_eq_some_iff.1 hj).1
  rw [digs_len n h1 h2] at this
  exact this
 rw [digs_get n j h1 h2 hlt] at hj
 cases hj
 exact dg_is _ _
/-- the bytes ahead of the e -/
def preE (n : Nat) : List UInt8 := match digs n with
 | [] => []
 | [a] => [a]
 | a :: b :: l => a :: 46 :: b :: l
theorem txtE_split (n : Nat) (h1 : 1 ≤ n) (h2 : n < 2139095040) : txtE n = preE n ++ 101 :: expB (exF n) := by
 have hb := ndF_le n h1 h2
 have hl := digs_len n h1 h2
 have h0 : (digD n).getD 0 0 = (digs n).getD 0 0 := by
  unfold digs
  rw [List.getD_eq_getElem?_getD, List.getD_eq_getElem?_getD, List.getElem?_take, if_pos (by omega)]
 have hf : fracB (digD n) (ndF n) = if ndF n = 1 then [] else 46 :: (digs n).drop 1 := rfl
 unfold txtE preE
 rw [h0, hf]
 match hd : digs n, hl with
 | [], hl => rw [← hl] at hb; simp at hb
 | [a], hl => rw [if_pos (by simpa using hl.symm)]; simp
 | a :: b :: l, hl => rw [if_neg (by rw [← hl]; simp)]; simp
theorem pre_noE (n : Nat) (h1 : 1 ≤ n) (h2 : n < 2139095040) : ∀ x ∈ preE n, x ≠ 101 := by
 have hd := digs_is n h1 h2
 intro x hx hx2
 subst hx2
 unfold preE at hx
 split at hx
 ·cases hx
 ·rename_i a e
  have := hd 101 (by rw [e]; exact hx)
  exact absurd this.2 (by decide)
 ·rename_i a b l e
  rcases List.mem_cons.1 hx with h | h
  ·have := hd 101 (by rw [e, h]; exact List.mem_cons_self ..)
   exact absurd this.2 (by decide)
  ·rcases List.mem_cons.1 h with h | h
   ·exact absurd h (by decide)
   ·have := hd 101 (by rw [e]; exact List.mem_cons_of_mem _ h)
    exact absurd this.2 (by decide)
/-- the point struck -/
theorem replace_pre (n : Nat) (h1 : 1 ≤ n) (h2 : n < 2139095040) : Lib.replace (preE n) [46] [] 1 = digs n := by
 have hd := digs_is n h1 h2
 have hl := digs_len n h1 h2
 have hb := ndF_le n h1 h2
 unfold preE
 match he : digs n, hl with
 | [], hl => rw [← hl] at hb; simp at hb
 | [a], _ =>
  have ha : ((46 : UInt8) == a) = false := by
   have := hd a (by rw [he]; exact List.mem_cons_self ..)
   rw [beq_eq_false_iff_ne]
   intro h
   subst h
   exact absurd this.1 (by decide)
  have hi : Lib.index [a] [46] = -1 := by
   unfold Lib.index
   rw [show ([46] : List UInt8).isPrefixOf [a] = false by simp [List.isPrefixOf, ha]]
   rfl
  have hc : Lib.count [a] [46] = 0 := by
   unfold Lib.count Lib.countFrom
   rw [hi]
   rfl
  unfold Lib.replace Lib.replaceNum
  rw [hc]
  rfl
 | a :: b :: l, _ =>
  have ha : ((46 : UInt8) == a) = false := by
   have := hd a (by rw [he]; exact List.mem_cons_self ..)
   rw [beq_eq_false_iff_ne]
   intro h
   subst h
   exact absurd this.1 (by decide)
  have hi0 : Lib.index (46 :: b :: l) [46] = 0 := by
   unfold Lib.index
   rw [if_pos (by simp [List.isPrefixOf])]
  have hi : Lib.index (a :: 46 :: b :: l) [46] = ((1 : Nat) : Int) := by
   unfold Lib.index
   rw [show ([46] : List UInt8).isPrefixOf (a :: 46 :: b :: l) = false by simp [List.isPrefixOf, ha], hi0]
   rfl
  have hc : 1 ≤ Lib.count (a :: 46 :: b :: l) [46] := by
   unfold Lib.count Lib.countFrom
   rw [hi]
   show 1 ≤ 1 + _
   omega
  have hn : Lib.replaceNum (a :: 46 :: b :: l) [46] 1 = 1 := by
   unfold Lib.replaceNum
   rw [if_neg (by omega)]
   rfl
  unfold Lib.replace
  rw [hn, if_neg (by decide), Lib.replaceK_hit [46] [] 0 _ 1 hi]
  rfl
theorem Tryz.strings_Replace_all (s old new : ByteArray) (n : Int) (m : Int) (w : World) (hs : s.size < 4294967281) (hm : w.cell? ⟨5, 0, none⟩ = some (.int .i64 m)) (h1 : 1 ≤ old.size) (hlen : s.size + Lib.countB s old * new.size ≤ 140737488355328) :
  Calls Tryz.prog 144 #[.string s, .string old, .string new, .int .i64 n] w fun e w' =>
   e = .returned (.string ⟨(Lib.replace s.data.toList old.data.toList new.data.toList n).toArray⟩) ∧ Below w.heap.size w w' := Go.Proofs.Any.strings_Replace Tryz.lays154 Tryz.Builder_Extra_154 s old new n m w hs hm h1 hlen
end Go.Proofs.YtfpcpociejefaaaGreatDoor

/- The program's shortest, for every float32 above 0: its digits and the power of ten of the first one. -/
namespace Go.Proofs.YtfpcpociejefaaaGreatDoor
open Go.RowKit Go.PlainAid
theorem exF_bounds (n : Nat) (h1 : 1 ≤ n) (h2 : n < 2139095040) : -100 < exF n ∧ exF n < 100 := by
 have := ndF_le n h1 h2
 have := pF_bounds n h1 h2
 unfold exF
 omega
theorem preE_len (n : Nat) (h1 : 1 ≤ n) (h2 : n < 2139095040) : (preE n).length ≤ 12 := by
 have hl := digs_len n h1 h2
 have hb := ndF_le n h1 h2
 unfold preE
 match digs n, hl with
 | [], _ => simp
 | [a], _ => simp
 | a :: b :: l, hl => simp at hl ⊢; omega
theorem txtE_len (n : Nat) (h1 : 1 ≤ n) (h2 : n < 2139095040) : (txtE n).length = (preE n).length + 4 := by
 rw [txtE_split n h1 h2, List.length_append, List.length_cons, expB_len]
theorem cut_txt (n : Nat) (h1 : 1 ≤ n) (h2 : n < 2139095040) (w : World) : Calls Tryz.prog 141 #[.string ⟨(txtE n).toArray⟩, .string ⟨#[101]⟩] w fun e w' => e = .returned (.tuple #[.string ⟨(preE n).toArray⟩, .string ⟨(expB (exF n)).toArray⟩, .bool true]) ∧ ∃ n, w' = w.drewN n := by
 have hp := preE_len n h1 h2
 have hl := txtE_len n h1 h2
 have hsz : (⟨(txtE n).toArray⟩ : ByteArray).size = (preE n).length + 4 := by show (txtE n).toArray.size = _; simp [hl]
 have h := cut_at ⟨(txtE n).toArray⟩ 101 (preE n).length (by rw [hsz]; omega) (by rw [hsz]; simp [maxLen]; omega) (by
  show Lib.indexByte (txtE n).toArray.toList 101 = _
  rw [List.toList_toArray, txtE_split n h1 h2]
  exact indexByte_behind 101 _ _ (pre_noE n h1 h2)) w
 have e1 : (⟨(txtE n).toArray⟩ : ByteArray).extract 0 (preE n).length = ⟨(preE n).toArray⟩ := by
  apply ByteArray.ext
  rw [ByteArray.data_extract]
  apply Array.ext'
  rw [txtE_split n h1 h2]
  simp
 have e2 : (⟨(txtE n).toArray⟩ : ByteArray).extract ((preE n).length + 1) (⟨(txtE n).toArray⟩ : ByteArray).size = ⟨(expB (exF n)).toArray⟩ := by
  apply ByteArray.ext
  rw [ByteArray.data_extract, hsz]
  apply Array.ext'
  rw [txtE_split n h1 h2]
  simp
  exact List.take_of_length_le (by rw [expB_len]; omega)
 rw [e1, e2] at h
 exact h
theorem atoi_txt (n : Nat) (h1 : 1 ≤ n) (h2 : n < 2139095040) (w : World) : Calls Tryz.prog 143 #[.string ⟨(expB (exF n)).toArray⟩] w fun e w' => e = .returned (.tuple #[.int .i64 (exF n), .nilIface]) ∧ Below w.heap.size w w' := by
 refine (Tryz.strconv_Atoi ⟨(expB (exF n)).toArray⟩ (exF n) (by show (expB (exF n)).toArray.size ≤ 18; simp [expB_len]) (by
  show Lib.atoi (expB (exF n)).toArray.toList = _
  rw [List.toList_toArray]
  exact atoi_exp _ (exF_bounds n h1 h2)) w).mono ?_
 rintro e w' ⟨rfl, t, rfl⟩
 exact ⟨rfl, Lib.bytesWorld_below w 5 t⟩
theorem replace_txt (n : Nat) (h1 : 1 ≤ n) (h2 : n < 2139095040) (w : World) (hm : ∃ m, w.cell? ⟨5, 0, none⟩ = some (.int .i64 m)) : Calls Tryz.prog 144 #[.string ⟨(preE n).toArray⟩, .string ⟨#[46]⟩, .string ⟨#[]⟩, .int .i64 1] w fun e w' => e = .returned (.string ⟨(digs n).toArray⟩) ∧ Below w.heap.size w w' := by
 obtain ⟨m, hm⟩ := hm
 have hp := preE_len n h1 h2
 have hsz : (⟨(preE n).toArray⟩ : ByteArray).size = (preE n).length := by show (preE n).toArray.size = _; simp
 refine (Tryz.strings_Replace_all ⟨(preE n).toArray⟩ ⟨#[46]⟩ ⟨#[]⟩ 1 m w (by rw [hsz]; omega) hm (by decide) (by rw [hsz, show (⟨#[]⟩ : ByteArray).size = 0 from rfl, Nat.mul_zero]; omega)).mono ?_
 rintro e w' ⟨rfl, hb⟩
 refine ⟨?_, hb⟩
 have e1 := replace_pre n h1 h2
 show Ending.returned (.string ⟨(Lib.replace (preE n).toArray.toList [46] [] 1).toArray⟩) = _
 rw [List.toList_toArray, e1]
set_option maxRecDepth 1000000 in
theorem shortest_any (n : Nat) (h1 : 1 ≤ n) (h2 : n < 2139095040) (w : World) (hT : TabT w) : Calls Tryz.prog 124 #[.float .f32 n] w fun e w' => e = .returned (.tuple #[.string ⟨(digs n).toArray⟩, .int .i64 (exF n)]) ∧ Below w.heap.size w w' := by
 have hC := conv_up n (by omega) h2
 have hF := ff_any n h1 h2 w hT
 have hCut := fun w => cut_txt n h1 h2 w
 have hA := fun w => atoi_txt n h1 h2 w
 have hR := fun w hm => replace_txt n h1 h2 w hm
 generalize fD n (atE n) = dd at *
 generalize txtE n = tx at *
 generalize preE n = px at *
 generalize expB (exF n) = ex at *
 generalize digs n = ds at *
 generalize exF n = kk at *
 clear h1 h2
 go_enter Tryz.func124, Tryz.ntmps124
 go_wp2_with (first
  | (go_at_call 142; refine hF.mono ?_; rintro e9 w1 ⟨rfl, hb1⟩; have HB1 : Hid (Below w.heap.size w w1) := hb1; clear hb1)
  | (go_at_call 141; refine (hCut _).mono ?_; rintro e9 w2 ⟨rfl, n2, hw2⟩; have HB2 : Hid (Below w.heap.size w w2) := (by rw [hw2]; exact below_drewN HB1.out n2); clear hw2)
  | (go_at_call 143; refine (hA _).mono ?_; rintro e9 w3 ⟨rfl, hb3⟩; have HB3 : Hid (Below w.heap.size w w3) := HB2.out.trans (hb3.mono HB2.out.size); clear hb3)
  | (go_at_call 144; refine (hR _ (hT.below HB3.out).most).mono ?_; rintro e9 w4 ⟨rfl, hb4⟩; have HB4 : Hid (Below w.heap.size w w4) := HB3.out.trans (hb4.mono HB3.out.size); clear hb4))
 go_ret2
 exact ⟨rfl, HB4.out⟩
end Go.Proofs.YtfpcpociejefaaaGreatDoor

/- The program's plain and orNought, for every row of digits. -/
namespace Go.Proofs.YtfpcpociejefaaaGreatDoor
open Go.RowKit Go.PlainAid
/-- digits about a point -/
def plainB (l : List UInt8) (k : Int) : List UInt8 :=
 if k < 0 then [48, 46] ++ List.replicate (-k - 1).toNat 48 ++ l
 else if (l.length : Int) ≤ k + 1 then l ++ List.replicate (k + 1 - l.length).toNat 48 ++ [46, 48]
 else l.take (k + 1).toNat ++ [46] ++ l.drop (k + 1).toNat
def orB (l : List UInt8) : List UInt8 := if l = [] then [48] else l
theorem ba_app (a b : ByteArray) : (a ++ b).data.toList = a.data.toList ++ b.data.toList := by
 rw [ByteArray.data_append, Array.toList_append]
theorem ba_take (s : ByteArray) (n : Nat) : (s.extract 0 n).data.toList = s.data.toList.take n := by
 rw [ByteArray.data_extract]
 simp
theorem ba_drop (s : ByteArray) (n : Nat) : (s.extract n s.size).data.toList = s.data.toList.drop n := by
 rw [ByteArray.data_extract, Array.toList_extract]
 exact List.take_of_length_le (by rw [List.length_drop, Array.length_toList]; exact Nat.le_refl _)
theorem rep48 (c : Nat) : Lib.repeatL [48] c = List.replicate c 48 := by
 induction c with
 | zero => rfl
 | succ c ih => rw [List.replicate_succ, ← ih]; rfl
set_option maxRecDepth 1000000 in
theorem orNought_any (s : ByteArray) (w : World) : Calls Tryz.prog 125 #[.string s] w fun e w' => (∃ T : ByteArray, e = .returned (.string T) ∧ T.data.toList = orB s.data.toList) ∧ w' = w := by
 by_cases h : s.data.toList = []
 ·have hs : s = ⟨#[]⟩ := by
   apply ByteArray.ext
   apply Array.ext'
   rw [h]
  subst hs
  go_enter Tryz.func125, Tryz.ntmps125
  go_wp2
  go_ret
  exact ⟨⟨_, rfl, rfl⟩, rfl⟩
 ·have hb : (s.toList == []) = false := by
   rw [Lib.toList_data]
   simpa using h
  go_enter Tryz.func125, Tryz.ntmps125
  go_wp2
  go_ret
  exact ⟨⟨_, rfl, by unfold orB; rw [if_neg h]⟩, rfl⟩
set_option maxRecDepth 1000000 in
theorem plain_neg (s : ByteArray) (x : Nat) (hs : s.size ≤ 1000) (hx : x ≤ 1000) (w : World) : Calls Tryz.prog 127 #[.string s, .int .i64 (-((x : Int) + 1))] w fun e w' => (∃ T : ByteArray, e = .returned (.string T) ∧ T.data.toList = plainB s.data.toList (-((x : Int) + 1))) ∧ Below w.heap.size w w' := by
 have hR := fun w => Tryz.strings_Repeat ⟨#[48]⟩ x w (by omega) (by show 1 * x ≤ _; omega)
 have e0 : (⟨(Lib.repeatL (⟨#[48]⟩ : ByteArray).data.toList x).toArray⟩ : ByteArray) = ⟨(List.replicate x 48).toArray⟩ := by
  show (⟨(Lib.repeatL [48] x).toArray⟩ : ByteArray) = _
  rw [rep48]
 rw [e0] at hR
 have HP : Hid (plainB s.data.toList (-((x : Int) + 1)) = [48, 46] ++ List.replicate x 48 ++ s.data.toList) := by
  show _ = _
  unfold plainB
  rw [if_pos (by omega), show (-(-((x : Int) + 1)) - 1).toNat = x by omega]
 have h1 : decide (-((x : Int) + 1) < 0) = true := decide_eq_true (by omega)
 have h2 : - -((x : Int) + 1) - 1 = (x : Int) := by omega
 have h3 : (x : Int) ≤ 1000 := by omega
 have hrs : (⟨(List.replicate x 48).toArray⟩ : ByteArray).size = x := by show (List.replicate x (48 : UInt8)).toArray.size = x; simp
 generalize hrr : (⟨(List.replicate x 48).toArray⟩ : ByteArray) = rr at *
 have HRR : Hid (rr.data.toList = List.replicate x 48) := by
  show _ = _
  rw [← hrr]
 clear e0 hrr
 go_enter Tryz.func127, Tryz.ntmps127
 go_wp2_with fail
 refine (hR _).mono ?_
 rintro e9 w1 ⟨rfl, hb⟩
 have HB : Hid (Below w.heap.size w w1) := hb
 clear hb
 go_wp2_with fail
 go_ret
 exact ⟨⟨_, rfl, by rw [HP.out, ba_app, ba_app, HRR.out]⟩, HB.out⟩
set_option maxRecDepth 1000000 in
theorem plain_long (s : ByteArray) (k : Nat) (hs : s.size ≤ 1000) (hk : k ≤ 1000) (hl : s.size ≤ k + 1) (w : World) : Calls Tryz.prog 127 #[.string s, .int .i64 (k : Int)] w fun e w' => (∃ T : ByteArray, e = .returned (.string T) ∧ T.data.toList = plainB s.data.toList (k : Int)) ∧ Below w.heap.size w w' := by
 obtain ⟨x, hx⟩ : ∃ x, k + 1 = s.size + x := ⟨k + 1 - s.size, by omega⟩
 have hR := fun w => Tryz.strings_Repeat ⟨#[48]⟩ x w (by omega) (by show 1 * x ≤ _; omega)
 have e0 : (⟨(Lib.repeatL (⟨#[48]⟩ : ByteArray).data.toList x).toArray⟩ : ByteArray) = ⟨(List.replicate x 48).toArray⟩ := by
  show (⟨(Lib.repeatL [48] x).toArray⟩ : ByteArray) = _
  rw [rep48]
 rw [e0] at hR
 have hsl : s.data.toList.length = s.size := Array.length_toList
 have HP : Hid (plainB s.data.toList (k : Int) = s.data.toList ++ List.replicate x 48 ++ [46] ++ [48]) := by
  show _ = _
  unfold plainB
  rw [if_neg (by omega), if_pos (by rw [hsl]; omega), hsl, show ((k : Int) + 1 - (s.size : Int)).toNat = x by omega]
  simp
 have h1 : decide ((k : Int) < 0) = false := decide_eq_false (by omega)
 have h2 : (k : Int) + 1 - (s.size : Int) = (x : Int) := by omega
 have h3 : (x : Int) ≤ 1001 ∧ (0 : Int) ≤ (x : Int) := by omega
 have h4 : decide ((s.size : Int) ≤ (k : Int) + 1) = true := decide_eq_true (by omega)
 have hki : (k : Int) ≤ 1000 := by omega
 have hrs : (⟨(List.replicate x 48).toArray⟩ : ByteArray).size = x := by show (List.replicate x (48 : UInt8)).toArray.size = x; simp
 generalize hrr : (⟨(List.replicate x 48).toArray⟩ : ByteArray) = rr at *
 have HRR : Hid (rr.data.toList = List.replicate x 48) := by
  show _ = _
  rw [← hrr]
 clear e0 hrr hx hl hsl
 go_enter Tryz.func127, Tryz.ntmps127
 go_wp2_with fail
 refine (hR _).mono ?_
 rintro e9 w1 ⟨rfl, hb⟩
 have HB : Hid (Below w.heap.size w w1) := hb
 clear hb
 go_wp2_with fail
 go_ret
 exact ⟨⟨_, rfl, by rw [HP.out, ba_app, ba_app, ba_app, HRR.out]⟩, HB.out⟩
set_option maxRecDepth 1000000 in
theorem plain_mid (s : ByteArray) (k : Nat) (hs : s.size ≤ 1000) (hl : k + 1 < s.size) (w : World) : Calls Tryz.prog 127 #[.string s, .int .i64 (k : Int)] w fun e w' => (∃ T : ByteArray, e = .returned (.string T) ∧ T.data.toList = plainB s.data.toList (k : Int)) ∧ Below w.heap.size w w' := by
 have hsl : s.data.toList.length = s.size := Array.length_toList
 have HP : Hid (plainB s.data.toList (k : Int) = s.data.toList.take (k + 1) ++ [46] ++ s.data.toList.drop (k + 1)) := by
  show _ = _
  unfold plainB
  rw [if_neg (by omega), if_neg (by rw [hsl]; omega), show ((k : Int) + 1).toNat = k + 1 by omega]
 have h1 : decide ((k : Int) < 0) = false := decide_eq_false (by omega)
 have h4 : decide ((s.size : Int) ≤ (k : Int) + 1) = false := decide_eq_false (by omega)
 have h5 : (k : Int) + 1 ≤ (s.size : Int) := by omega
 have h6 : (s.size : Int) ≤ 1000 := by omega
 clear hsl hl
 go_enter Tryz.func127, Tryz.ntmps127
 go_wp2_with fail
 go_quiet (fail)
 go_wp2_with fail
 go_ret
 exact ⟨⟨_, rfl, by rw [HP.out, ba_app, ba_app, ba_take, ba_drop]⟩, below_drewN (Below.refl _ _) nq⟩
end Go.Proofs.YtfpcpociejefaaaGreatDoor

/- The document's decimal of a digit. -/
namespace Go.Proofs.YtfpcpociejefaaaGreatDoor
open Go.RowKit Go.PlainAid
theorem one_str (w : World) (k : Int) : (convert 33 9 (.slice (some ⟨w.heap.size, 0, none⟩) 1 1)).run Tryz.prog (w.alloc (Obj.cells #[.int .u8 k] 5)) = .ok (.string ⟨#[UInt8.ofNat k.toNat]⟩) (w.alloc (Obj.cells #[.int .u8 k] 5)) := by
 generalize hw : w.alloc (Obj.cells #[.int .u8 k] 5) = w1
 have hc : w1.cell? ⟨w.heap.size, 0, none⟩ = some (.int .u8 k) := by
  rw [← hw]
  rw [World.cell?_alloc_new]
  rfl
 rw [run_convert_bytes_string w1 33 9 5 _ _ _ underS Tryz.underlying5 Tryz.underlying9]
 have hld : (loadCells ⟨w.heap.size, 0, none⟩ 1).run Tryz.prog w1 = .ok (([k] : List Int).map (Value.int .u8)).toArray w1 := by
  have := run_loadCells_list (P := Tryz.prog) w1 ⟨w.heap.size, 0, none⟩ [.int .u8 k] (by
   intro j u hu
   match j, hu with
   | 0, hu =>
    simp only [List.getElem?_cons_zero, Option.some.injEq] at hu
    rw [← hu, ← hc]
    rfl)
  exact this
 rw [run_bytesToString w1 _ 1 1 _ hld]
 rfl
set_option maxRecDepth 1000000 in
set_option maxHeartbeats 1600000 in
theorem decimal_digit (k : Nat) (hk : k < 10) (w : World) : Calls Tryz.prog 101 #[.int .i64 (k : Int)] w fun e w' => (∃ T : ByteArray, e = .returned (.string T) ∧ T.data.toList = [UInt8.ofNat (48 + k)]) ∧ Below w.heap.size w w' := by
 have hi : (k : Int) < 10 := by omega
 have hS := one_str w (48 + (k : Int))
 have hN : Hid ((48 + (k : Int)).toNat = 48 + k) := show (48 + (k : Int)).toNat = 48 + k by omega
 go_enter Tryz.func101, Tryz.ntmps101
 go_wp2
 go_ret
 refine ⟨⟨_, rfl, rfl⟩, ?_⟩
 exact Lib.below_grow _ w (Nat.le_refl _) 0 #[_]
end Go.Proofs.YtfpcpociejefaaaGreatDoor

/- The document's noughts, for up to a thousand of them. -/
namespace Go.Proofs.YtfpcpociejefaaaGreatDoor
open Go.RowKit Go.PlainAid
set_option maxRecDepth 1000000 in
set_option maxHeartbeats 1600000 in
theorem noughts_any (k : Nat) (hk : k ≤ 1000) (w : World) : Calls Tryz.prog 102 #[.int .i64 (k : Int)] w fun e w' => (∃ T : ByteArray, e = .returned (.string T) ∧ T.data.toList = List.replicate k 48) ∧ w' = w := by
 have hk3 : (k : Int) ≤ 1000 := by omega
 go_enter Tryz.func102, Tryz.ntmps102
 go_wp2
 go_loopw [3, 4] (fun sv iv wr => ∃ (T : ByteArray) (i : Nat), sv = .string T ∧ iv = .int .i64 (i : Int) ∧ i ≤ k ∧ Hid (T.data.toList = List.replicate i 48) ∧ wr = w) (fun _ iv _ => k - (intOf iv).toNat)
 case atStart => exact ⟨_, 0, rfl, rfl, Nat.zero_le _, (rfl : _ = _), rfl⟩
 case round =>
  obtain ⟨T, i, rfl, rfl, hik, hT, rfl⟩ := hrel
  by_cases h : i < k
  ·have hi : (i : Int) < (k : Int) := by omega
   have hTs : T.size = i := by
    show T.data.size = i
    rw [← Array.length_toList, hT.out, List.length_replicate]
   have hN : Hid ((T ++ ⟨#[48]⟩ : ByteArray).data.toList = List.replicate (i + 1) 48) := by
    show _ = _
    rw [ba_app, hT.out, List.replicate_succ']
   go_wp2
   go_roundw
   case rel => exact ⟨_, i + 1, rfl, by go_num, by omega, hN, trivial⟩
   case measure => (simp [intOf]; try omega)
  ·have hi : ¬ (i : Int) < (k : Int) := by omega
   obtain rfl : i = k := by omega
   go_wp2
   go_ret
   exact ⟨⟨_, rfl, hT.out⟩, rfl⟩
end Go.Proofs.YtfpcpociejefaaaGreatDoor
