/- FormatFloat and the program's Text at the one number that is asked for. -/
import Derived.Test.YtnljpbpphdhnpaaGreatDoorFtA
import Derived.Test.YtnljpbpphdhnpaaGreatDoorUzS
import Derived.Test.YtnljpbpphdhnpaaGreatDoorFtD

namespace Go.Proofs.YtnljpbpphdhnpaaGreatDoor
open Go.RowKit Go.PlainAid

theorem push_fold : ∀ (l : List UInt8) (s : ByteArray), (l.map fun x => ((x.toNat : Nat) : Int)).foldl (fun r n => r.push (UInt8.ofNat n.toNat)) s = ⟨s.data ++ l.toArray⟩
  | [], s => by simp
  | x :: r, s => by
    rw [List.map_cons, List.foldl_cons, push_fold r]
    have hx : UInt8.ofNat ((x.toNat : Nat) : Int).toNat = x := by simp
    rw [hx]
    congr 1
    apply Array.ext'
    simp [ByteArray.push]
theorem run_str {w : World} {v : Value} {l : List UInt8} (h : Bs w v l) : (convert 72 9 v).run Tryz.prog w = .ok (.string ⟨l.toArray⟩) w := by
  have key : ∀ (a : Addr) (cap : Nat), (∀ j u, (bv l)[j]? = some u → w.cell? (a.add j) = some u) → (convert 72 9 (.slice (some a) l.length cap)).run Tryz.prog w = .ok (.string ⟨l.toArray⟩) w := by
    intro a cap hc
    rw [run_convert_bytes_string w 72 9 5 _ _ _ underS Tryz.underlying5 Tryz.underlying9]
    have hld : (loadCells a l.length).run Tryz.prog w = .ok ((l.map fun x => ((x.toNat : Nat) : Int)).map (Value.int .u8)).toArray w := by
      have := run_loadCells_list (P := Tryz.prog) w a (bv l) hc
      rw [bv_length] at this
      rw [this]
      simp [bv, Function.comp_def]
    rw [run_bytesToString w a l.length cap _ hld, push_fold]
    simp
  rcases h.cases with ⟨rfl, ao, cap, rfl, _, _⟩ | ⟨_, b, o, cap, rfl, _, _, _, hc⟩
  · cases ao with
    | none =>
      rw [run_convert_bytes_string w 72 9 5 _ _ _ underS Tryz.underlying5 Tryz.underlying9]
      rfl
    | some a => exact key a cap (fun j u hj => by simp [bv] at hj)
  · refine key _ cap (fun j u hu => ?_)
    have hj : j < l.length := by
      have := (List.getElem?_eq_some_iff.1 hu).1
      simpa [bv_length] using this
    rw [bv_get l j hj] at hu
    have hadd : (⟨b, o, none⟩ : Addr).add j = ⟨b, o + j, none⟩ := by unfold Addr.add; split <;> simp_all
    rw [hadd, hc j hj, List.getD_eq_getElem?_getD, List.getElem?_eq_getElem hj]
    exact hu

/-- the library's tables, as far as Text reads them -/
structure Tabx (w : World) : Prop where
  tabs : Tabs w
  ten : w.cell? ⟨4, 7, none⟩ = some (.int .u64 10000000)
  most : ∃ m, w.cell? ⟨1, 0, none⟩ = some (.int .i64 m)
theorem Tabx.below {w w' : World} (h : Tabx w) (hb : Below w.heap.size w w') : Tabx w' := by
  obtain ⟨m, hm⟩ := h.most
  exact ⟨h.tabs.below hb, cell_next hb h.ten, m, cell_next hb hm⟩

abbrev sF : ByteArray := ⟨#[49, 46, 54, 55, 55, 55, 50, 49, 54, 101, 43, 48, 55]⟩

set_option maxRecDepth 1000000 in
set_option maxHeartbeats 1000000 in
theorem iff_p (w : World) (hT : Tabx w) : Calls Tryz.prog 84 #[.float .f64 4715268809856909312, .int .u8 101, .int .i64 (-1), .int .i64 32] w fun e w' => e = .returned (.string sF) ∧ Below w.heap.size w w' := by
  obtain ⟨i5, h5a, h5b, h5c, h5d⟩ := info_parts infoB
  have hC := conv_q
  go_enter Tryz.func84, Tryz.ntmps84
  go_wp2_with (first
    | (refine wpList_make_own w rfl (.const (.int .i64 0)) (.tmp 13) 72 rfl 0 5 i5 (.int .u8 0) 1 underS h5a h5b h5c .i64 .i64 24 24 rfl rfl rfl (by rw [h5d]; omega) (by decide) (Nat.zero_le _) ?_; intro w1 r1 g1; have HK : Hid (Keep [] w w1) := Keep.grown g1; have HR : Hid (Row w1 (.slice (some ⟨w.heap.size, 0, none⟩) 0 24) []) := r1; clear r1 g1)
    | (go_at_call 108; refine (ftoa32_p w w1 _ (hT.below HK.out.below).tabs (hT.below HK.out.below).ten HR.out HK.out (fun k hk => by simp [Value.ownBlock] at hk; subst hk; exact ⟨Nat.le_refl _, HR.out.lt _ rfl⟩)).mono ?_; rintro e9 w2 ⟨v2, rfl, hr2, hk2⟩; have hcv := run_str hr2.bs; have HK2 : Hid (Keep [] w w2) := hk2; clear hr2 hk2))
  go_ret
  exact ⟨rfl, HK2.out.below⟩
theorem ff_p (w : World) (hT : Tabx w) : Calls Tryz.prog 59 #[.float .f64 4715268809856909312, .int .u8 101, .int .i64 (-1), .int .i64 32] w fun e w' => e = .returned (.string sF) ∧ Below w.heap.size w w' := by
  have h := iff_p w hT
  go_enter Tryz.func59, Tryz.ntmps59
  go_wp2_with (first | (go_at_call 84; refine h.mono ?_; rintro e9 w2 ⟨rfl, hb⟩))
  go_ret
  exact ⟨rfl, hb⟩
end Go.Proofs.YtnljpbpphdhnpaaGreatDoor



/- A float32 as a float64, and back. -/
namespace Go.Proofs.YtnljpbpphdhnpaaGreatDoor
open Go.RowKit Go.PlainAid

theorem nearP (m : Nat) (e : Int) (h0 : 0 < m) (hm : m < 16777216) (lo : -200 ≤ e) (hi : e ≤ 200) : Ieee.double.nearest false m e = wD (m * 2 ^ (52 - m.log2)) ((m.log2 : Int) + e) := by
  obtain ⟨c1, c2, c3, c4⟩ := dconsts
  obtain ⟨_, k1, k2, k3⟩ := nearS m h0 hm
  generalize hl : m.log2 = L at *
  unfold Ieee.Format.nearest
  rw [if_neg (by omega)]
  simp only [c1, c2, c3, hl, show Ieee.double.fractionBits = 52 from rfl]
  rw [show max (e + (L : Int) - ((52 : Nat) : Int)) (-1074) = e + (L : Int) - 52 by omega]
  rw [show (e - (e + (L : Int) - 52)).toNat = 52 - L by omega, show ((e + (L : Int) - 52) - e).toNat = 0 by omega, Nat.shiftLeft_eq]
  have hcut : Ieee.Toward.cut .even false (m * 2 ^ (52 - L)) 0 = m * 2 ^ (52 - L) := by
    unfold Ieee.Toward.cut
    simp [Nat.mod_one]
  rw [hcut, show ((e + (L : Int) - 52) - -1074).toNat = ((L : Int) + e + 1022).toNat by omega]
  unfold Ieee.Format.word wD
  simp only [Bool.false_eq_true, if_false]
  rw [Nat.min_eq_left]
  have : ((L : Int) + e + 1022).toNat ≤ 1300 := by omega
  omega
theorem read_at (n : Nat) (h : n < 2139095040) : Ieee.single.read n = .number false (atM n) (atE n) := by
  have e1 : Ieee.single.signWeight = 2147483648 := by decide
  have e2 : Ieee.single.binade = 8388608 := by decide
  have e3 : Ieee.single.infRung = 2139095040 := by decide
  have e4 : Ieee.single.leastPlace = -149 := by decide
  unfold Ieee.Format.read
  simp only [e1, e2, e3, e4]
  have hm : n % 2147483648 = n := by omega
  have hs : (n / 2147483648 % 2 == 1) = false := by simp; omega
  rw [hm]
  unfold atM atE
  by_cases hb : n < 8388608
  · rw [if_pos hb, if_pos hb, if_pos hb, hs]
  · rw [if_neg hb, if_neg hb, if_neg hb, if_pos h, hs]
    congr 1
    omega
theorem fD_up (n : Nat) (h0 : 0 < n) (h : n < 2139095040) : floatToFloatBits .f32 n .f64 = some (fD n (atE n)) := by
  have hM0 : atM n ≠ 0 := by unfold atM; split <;> omega
  have a1 := atE_lo n
  have a2 := atE_hi n h
  obtain ⟨_, k1, k2, k3⟩ := nearS (atM n) (by omega) (atM_lt n)
  unfold floatToFloatBits
  rw [if_neg (by decide)]
  show (match Ieee.single.read n with | .nan _ _ => none | .infinity s => some (Ieee.double.write (.infinity s)) | .number s m e => if (Ieee.double.read (Ieee.double.write (.number s m e))).isInfinity then none else some (Ieee.double.write (.number s m e))) = _
  rw [read_at n h]
  have hw : Ieee.double.write (.number false (atM n) (atE n)) = fD n (atE n) := by
    unfold fD
    rw [if_neg hM0]
    exact nearP (atM n) (atE n) (by omega) (atM_lt n) (by omega) (by omega)
  simp only [hw]
  unfold fD
  rw [if_neg hM0, readD _ _ k1 k2 (by omega) (by omega)]
  rfl
theorem conv_up (n : Nat) (h0 : 0 < n) (h : n < 2139095040) (w : World) : (convert 22 80 (.float .f32 n)).run Tryz.prog w = .ok (.float .f64 (fD n (atE n))) w :=
  run_convert_float_float w 22 80 .f32 .f64 n (fD n (atE n)) (by kernel_rfl) Tryz.underlying80 (fD_up n h0 h)
theorem conv_down (n : Nat) (h : n < 2139095040) (w : World) : (convert 80 22 (.float .f64 (fD n (atE n)))).run Tryz.prog w = .ok (.float .f32 n) w :=
  run_convert_float_float w 80 22 .f64 .f32 (fD n (atE n)) n (by kernel_rfl) Tryz.underlying22 (fD_end n h)

/-- the library's tables, as far as a real's text reads them -/
structure TabT (w : World) : Prop where
  r : TabR w
  u : TabU w
  most : ∃ m, w.cell? ⟨1, 0, none⟩ = some (.int .i64 m)
theorem TabT.below {w w' : World} (h : TabT w) (hb : Below w.heap.size w w') : TabT w' := by
  obtain ⟨m, hm⟩ := h.most
  exact ⟨fun j hj => ⟨cell_next hb (h.r j hj).1, cell_next hb (h.r j hj).2⟩, fun k hk => cell_next hb (h.u k hk), m, cell_next hb hm⟩

theorem ftoa32_any (n : Nat) (h1 : 1 ≤ n) (h2 : n < 2139095040) (w0 w : World) (v : Value) (hT : TabR w) (hU : TabU w) (hrow : Row w v []) (hk : Keep [] w0 w) (hf : Fresh w0 w v) :
    Calls Tryz.prog 108 #[v, .float .f32 n, .int .u8 101, .int .i64 (-1)] w fun e w' => ∃ v', e = .returned v' ∧ Row w' v' (txtE n) ∧ Keep [] w0 w' := by
  by_cases h : n < 8388608
  · exact ftoa32_sub n h1 h2 h w0 w v hT hU hrow hk hf
  · exact ftoa32_nrm n h1 h2 (by omega) w0 w v hT hU hrow hk hf
set_option maxRecDepth 1000000 in
set_option maxHeartbeats 1000000 in
theorem iff_any (n : Nat) (h1 : 1 ≤ n) (h2 : n < 2139095040) (w : World) (hT : TabT w) : Calls Tryz.prog 84 #[.float .f64 (fD n (atE n)), .int .u8 101, .int .i64 (-1), .int .i64 32] w fun e w' => e = .returned (.string ⟨(txtE n).toArray⟩) ∧ Below w.heap.size w w' := by
  obtain ⟨i5, h5a, h5b, h5c, h5d⟩ := info_parts infoB
  have hC := conv_down n h2
  have HF : Hid (∀ (w0 w : World) (v : Value), TabR w → TabU w → Row w v [] → Keep [] w0 w → Fresh w0 w v → Calls Tryz.prog 108 #[v, .float .f32 n, .int .u8 101, .int .i64 (-1)] w fun e w' => ∃ v', e = .returned v' ∧ Row w' v' (txtE n) ∧ Keep [] w0 w') := fun w0 w v a b c d e => ftoa32_any n h1 h2 w0 w v a b c d e
  generalize fD n (atE n) = dd at *
  generalize txtE n = tx at *
  clear h1 h2
  go_enter Tryz.func84, Tryz.ntmps84
  go_wp2_with (first
    | (refine wpList_make_own w rfl (.const (.int .i64 0)) (.tmp 13) 72 rfl 0 5 i5 (.int .u8 0) 1 underS h5a h5b h5c .i64 .i64 24 24 rfl rfl rfl (by rw [h5d]; omega) (by decide) (Nat.zero_le _) ?_; intro w1 r1 g1; have HK : Hid (Keep [] w w1) := Keep.grown g1; have HR : Hid (Row w1 (.slice (some ⟨w.heap.size, 0, none⟩) 0 24) []) := r1; clear r1 g1)
    | (go_at_call 108; refine (HF.out w w1 _ (hT.below HK.out.below).r (hT.below HK.out.below).u HR.out HK.out (fun k hk => by simp [Value.ownBlock] at hk; subst hk; exact ⟨Nat.le_refl _, HR.out.lt _ rfl⟩)).mono ?_; rintro e9 w2 ⟨v2, rfl, hr2, hk2⟩; have hcv := run_str hr2.bs; have HK2 : Hid (Keep [] w w2) := hk2; clear hr2 hk2))
  go_ret
  exact ⟨rfl, HK2.out.below⟩
theorem ff_any (n : Nat) (h1 : 1 ≤ n) (h2 : n < 2139095040) (w : World) (hT : TabT w) : Calls Tryz.prog 59 #[.float .f64 (fD n (atE n)), .int .u8 101, .int .i64 (-1), .int .i64 32] w fun e w' => e = .returned (.string ⟨(txtE n).toArray⟩) ∧ Below w.heap.size w w' := by
  have h := iff_any n h1 h2 w hT
  go_enter Tryz.func59, Tryz.ntmps59
  go_wp2_with (first | (go_at_call 84; refine h.mono ?_; rintro e9 w2 ⟨rfl, hb⟩))
  go_ret
  exact ⟨rfl, hb⟩
end Go.Proofs.YtnljpbpphdhnpaaGreatDoor
