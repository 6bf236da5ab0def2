/- The library's FormatFloat at the one number that is asked for. -/
import Derived.Test.YtnljpbpphdhnpaaGreatDoorShA
import Derived.Lib.AtoiErrMem
import Derived.Test.YtnljpbpphdhnpaaGreatDoorRlA

namespace Go.Proofs.YtnljpbpphdhnpaaGreatDoor
open Go.RowKit Go.PlainAid

set_option maxRecDepth 1000000 in
theorem run_sbits (x : Nat) (w : World) : (callFunc 133 #[.float .f32 x]).run Tryz.prog w = .ok (.value (.int .u32 (x : Int))) w :=
  (run_callFunc_extern (e := Extern.MathFloatBits.float32bits) Tryz.func133 (by kernel_rfl) (by kernel_rfl) (by kernel_rfl) (by kernel_rfl) _ w).trans rfl

def zeros32 : Array Value := #[.int .u8 0, .int .u8 0, .int .u8 0, .int .u8 0, .int .u8 0, .int .u8 0, .int .u8 0, .int .u8 0, .int .u8 0, .int .u8 0, .int .u8 0, .int .u8 0, .int .u8 0, .int .u8 0, .int .u8 0, .int .u8 0, .int .u8 0, .int .u8 0, .int .u8 0, .int .u8 0, .int .u8 0, .int .u8 0, .int .u8 0, .int .u8 0, .int .u8 0, .int .u8 0, .int .u8 0, .int .u8 0, .int .u8 0, .int .u8 0, .int .u8 0, .int .u8 0]
theorem zeros32_at (j : Nat) (h : j < 32) : zeros32[j]? = some (.int .u8 0) := by
  have e : zeros32 = Array.replicate 32 (.int .u8 0) := rfl
  rw [e, Array.getElem?_replicate, if_pos h]
theorem zeros_new (w : World) (t : TypeId) (j : Nat) (h : j < 32) : (w.alloc (.cells zeros32 t)).cell? ⟨w.heap.size, j, none⟩ = some (.int .u8 0) ∧ (w.alloc (.cells zeros32 t)).frozen? ⟨w.heap.size, j, none⟩ = false := by
  refine ⟨?_, ?_⟩
  · rw [World.cell?_alloc_new, zeros32_at j h]
  · simp [go_sem]

/-- the state behind shortFloat: the digits' block is empty, all that was is as it was -/
theorem after_short (w0 w w2 : World) (v : Value) (nq n : Nat) (hrow : Row w v []) (hk : Keep [] w0 w) (hf : Fresh w0 w v) (hU : w.cell? ⟨4, 7, none⟩ = some (.int .u64 10000000)) (e : w2 = (((w.drewN nq).alloc (.cells zeros32 160)).alloc preW).drewN n) :
    Row w2 v [] ∧ Keep [] w0 w2 ∧ Fresh w0 w2 v ∧ w2.cell? ⟨4, 7, none⟩ = some (.int .u64 10000000) ∧ (∀ j, j < 32 → w2.cell? ⟨w.heap.size, j, none⟩ = some (.int .u8 0) ∧ w2.frozen? ⟨w.heap.size, j, none⟩ = false) ∧ w.heap.size < w2.heap.size ∧ w.heap.size ∉ v.ownBlock.toList := by
  have hK : Keep [] w w2 := by
    rw [e]
    exact (((Keep.refl [] w).drewN nq).alloc _ |>.alloc _).drewN n
  have hs : w.heap.size < w2.heap.size := by
    rw [e]
    show w.heap.size < (((w.drewN nq).alloc (.cells zeros32 160)).alloc preW).heap.size
    simp [World.drewN]
    omega
  refine ⟨hrow.keep hK (Off.nil _), hk.more hK (fun _ h => by cases h), hf.later hK.size, hK.cell' hU (by simp), ?_, hs, ?_⟩
  · intro j hj
    have hz := zeros_new (w.drewN nq) 160 j hj
    have hK2 : Keep [] ((w.drewN nq).alloc (.cells zeros32 160)) w2 := by
      rw [e]; exact ((Keep.refl [] _).alloc _).drewN n
    have hlt : w.heap.size < ((w.drewN nq).alloc (.cells zeros32 160)).heap.size := by simp [World.drewN]
    exact ⟨(hK2.cell (p := ⟨w.heap.size, j, none⟩) hlt (by simp)).trans hz.1, (hK2.frozen (p := ⟨w.heap.size, j, none⟩) hlt (by simp)).trans hz.2⟩
  · intro hm
    simp at hm
    have := hrow.lt _ hm
    omega

def DP : List UInt8 := [49, 54, 55, 55, 55, 50, 49, 54, 0, 0, 0, 0, 0, 0, 0, 0, 0, 0, 0, 0, 0, 0, 0, 0, 0, 0, 0, 0, 0, 0, 0, 0]
theorem after_set (w0 w2 w3 : World) (v : Value) (b : Nat) (hrow : Row w2 v []) (hk : Keep [] w0 w2) (hf : Fresh w0 w2 v) (hlt : b < w2.heap.size) (hb0 : w0.heap.size ≤ b) (hoff : b ∉ v.ownBlock.toList) (h1 : Keep [b] w2 w3)
    (h2 : ∀ j, j < 8 → w3.cell? ⟨b, j, none⟩ = some (.int .u8 ((Lib.dg 16777216 (8 - 1 - j)).toNat : Int))) (h3 : ∀ j, 8 ≤ j → j < 32 → w3.cell? ⟨b, j, none⟩ = some (.int .u8 0)) : Fm w0 w3 v [] b 32 DP := by
  refine ⟨hrow.keep h1 (fun k hk hn => ?_), ⟨some ⟨b, 0, none⟩, 32, rfl, by decide, by decide, (by intro h; cases h), fun _ => ⟨b, 0, rfl, fun j hj => ?_⟩⟩, by decide, hoff, hk.more h1 (fun x hx => .inr ?_), hf.later h1.size⟩
  · simp at hn; subst hn; exact hoff (by simp [hk])
  · rw [Nat.zero_add]
    have hj' : j < 32 := hj
    by_cases h8 : j < 8
    · rw [h2 j h8]
      have : ∀ j, j < 8 → ((Lib.dg 16777216 (8 - 1 - j)).toNat : Int) = ((DP.getD j 0).toNat : Int) := by decide
      rw [this j h8]
    · rw [h3 j (by omega) hj']
      have : ∀ j, j < 32 → 8 ≤ j → (0 : Int) = ((DP.getD j 0).toNat : Int) := by decide
      rw [← this j hj' (by omega)]
  · simp at hx; subst hx; exact hb0

set_option maxRecDepth 1000000 in
set_option maxHeartbeats 2000000 in
theorem ftoa32_p (w0 w : World) (v : Value) (hT : Tabs w) (hU : w.cell? ⟨4, 7, none⟩ = some (.int .u64 10000000)) (hrow : Row w v []) (hk : Keep [] w0 w) (hf : Fresh w0 w v) :
    Calls Tryz.prog 108 #[v, .float .f32 1266679808, .int .u8 101, .int .i64 (-1)] w fun e w' => ∃ v', e = .returned v' ∧ Row w' v' [49, 46, 54, 55, 55, 55, 50, 49, 54, 101, 43, 48, 55] ∧ Keep [] w0 w' := by
  have hb := run_sbits 1266679808
  have e : ((1266679808 : Nat) : Int) = 1266679808 := rfl
  rw [e] at hb; clear e
  have e1 : bits .and .i64 151 255 = 151 := by decide
  have e2 : bits .and .u64 1266679808 8388607 = 0 := by decide
  have e3 : bits .or .u64 0 8388608 = 8388608 := by decide
  have hL := len64_at 8388608 (by decide) (by decide) 24 (by decide)
  have HR : Hid (Row w v [] ∧ Keep [] w0 w ∧ Fresh w0 w v) := ⟨hrow, hk, hf⟩
  have HT : Hid (Tabs w ∧ w.cell? ⟨4, 7, none⟩ = some (.int .u64 10000000)) := ⟨hT, hU⟩
  clear hrow hk hf hT hU
  go_enter Tryz.func108, Tryz.ntmps108
  go_wp2
  go_quiet (fail)
  go_wp2_with (first
    | (go_at_call 129; refine (hL _).mono ?_; rintro e9 w9 ⟨rfl, hw9⟩; obtain rfl := hw9.symm)
    | (go_at_call 138; refine (short_p _ (cell_alloc (X := .cells zeros32 160) (W := w.drewN nq) HT.out.1.hi) (cell_alloc (X := .cells zeros32 160) (W := w.drewN nq) HT.out.1.lo)).mono ?_; rintro e9 w2 ⟨rfl, n9, hw2⟩; have HW : Hid _ := after_short w0 w w2 v nq n9 HR.out.1 HR.out.2.1 HR.out.2.2 HT.out.2 hw2; clear hw2))
  go_region_held3 (fun _ => True) (exact trivial)
    (first
    | (go_at_call 105; refine (numDigits_p w2.drew HW.out.2.2.2.1).mono ?_; rintro e9 w9 ⟨rfl, hw9⟩; obtain rfl := hw9.symm)
    | (go_at_call 139; refine (setDigits_any w.heap.size 8 16777216 0 w2.drew (by decide) (by decide) (by decide) (by decide) (by decide) (by decide) (by decide) HW.out.2.2.2.2.1).mono ?_; rintro e9 w3 ⟨rfl, g1, g2, g3⟩; have HX : Hid _ := after_set w0 w2 w3 v w.heap.size HW.out.1 HW.out.2.1 HW.out.2.2.1 HW.out.2.2.2.2.2.1 HR.out.2.1.size HW.out.2.2.2.2.2.2 ⟨g1.os, g1.tape, g1.output, g1.size, g1.block⟩ g2 g3; clear g1 g2 g3))
  go_wp2_with (first
    | (go_at_call 137; refine (fmtE_any w0 _ v [] w.heap.size 32 DP 8 8 HX.out (by decide) (by decide) (by decide) (by decide) (by decide) (by decide) (by decide)).mono ?_; rintro e9 w4 ⟨v4, rfl, hF4⟩; have HY : Hid _ := hF4; clear hF4))
  go_ret
  exact ⟨_, rfl, HY.out.row, HY.out.keep⟩
end Go.Proofs.YtnljpbpphdhnpaaGreatDoor



/- FormatFloat and the program's Text at the one number that is asked for. -/
namespace Go.Proofs.YtnljpbpphdhnpaaGreatDoor
open Go.RowKit Go.PlainAid

theorem push_fold : ∀ (l : List UInt8) (s : ByteArray), (l.map fun x => ((x.toNat : Nat) : Int)).foldl (fun r n => r.push (UInt8.ofNat n.toNat)) s = ⟨s.data ++ l.toArray⟩
  | [], s => by simp
  | x :: r, s => by
    rw [List.map_cons, List.foldl_cons, push_fold r]
    have hx : UInt8.ofNat ((x.toNat : Nat) : Int).toNat = x := by simp
    rw [hx]
    congr 1
    apply Array.ext'
    simp [ByteArray.push]
theorem run_str {w : World} {v : Value} {l : List UInt8} (h : Bs w v l) : (convert 72 9 v).run Tryz.prog w = .ok (.string ⟨l.toArray⟩) w := by
  have key : ∀ (a : Addr) (cap : Nat), (∀ j u, (bv l)[j]? = some u → w.cell? (a.add j) = some u) → (convert 72 9 (.slice (some a) l.length cap)).run Tryz.prog w = .ok (.string ⟨l.toArray⟩) w := by
    intro a cap hc
    rw [run_convert_bytes_string w 72 9 5 _ _ _ underS Tryz.underlying5 Tryz.underlying9]
    have hld : (loadCells a l.length).run Tryz.prog w = .ok ((l.map fun x => ((x.toNat : Nat) : Int)).map (Value.int .u8)).toArray w := by
      have := run_loadCells_list (P := Tryz.prog) w a (bv l) hc
      rw [bv_length] at this
      rw [this]
      simp [bv, Function.comp_def]
    rw [run_bytesToString w a l.length cap _ hld, push_fold]
    simp
  rcases h.cases with ⟨rfl, ao, cap, rfl, _, _⟩ | ⟨_, b, o, cap, rfl, _, _, _, hc⟩
  · cases ao with
    | none =>
      rw [run_convert_bytes_string w 72 9 5 _ _ _ underS Tryz.underlying5 Tryz.underlying9]
      rfl
    | some a => exact key a cap (fun j u hj => by simp [bv] at hj)
  · refine key _ cap (fun j u hu => ?_)
    have hj : j < l.length := by
      have := (List.getElem?_eq_some_iff.1 hu).1
      simpa [bv_length] using this
    rw [bv_get l j hj] at hu
    have hadd : (⟨b, o, none⟩ : Addr).add j = ⟨b, o + j, none⟩ := by unfold Addr.add; split <;> simp_all
    rw [hadd, hc j hj, List.getD_eq_getElem?_getD, List.getElem?_eq_getElem hj]
    exact hu

/-- the library's tables, as far as Text reads them -/
structure Tabx (w : World) : Prop where
  tabs : Tabs w
  ten : w.cell? ⟨4, 7, none⟩ = some (.int .u64 10000000)
  most : ∃ m, w.cell? ⟨1, 0, none⟩ = some (.int .i64 m)
theorem Tabx.below {w w' : World} (h : Tabx w) (hb : Below w.heap.size w w') : Tabx w' := by
  obtain ⟨m, hm⟩ := h.most
  exact ⟨h.tabs.below hb, cell_next hb h.ten, m, cell_next hb hm⟩

abbrev sF : ByteArray := ⟨#[49, 46, 54, 55, 55, 55, 50, 49, 54, 101, 43, 48, 55]⟩

set_option maxRecDepth 1000000 in
set_option maxHeartbeats 1000000 in
theorem iff_p (w : World) (hT : Tabx w) : Calls Tryz.prog 84 #[.float .f64 4715268809856909312, .int .u8 101, .int .i64 (-1), .int .i64 32] w fun e w' => e = .returned (.string sF) ∧ Below w.heap.size w w' := by
  obtain ⟨i5, h5a, h5b, h5c, h5d⟩ := info_parts infoB
  have hC := conv_q
  go_enter Tryz.func84, Tryz.ntmps84
  go_wp2_with (first
    | (refine wpList_make_own w rfl (.const (.int .i64 0)) (.tmp 13) 72 rfl 0 5 i5 (.int .u8 0) 1 underS h5a h5b h5c .i64 .i64 24 24 rfl rfl rfl (by rw [h5d]; omega) (by decide) (Nat.zero_le _) ?_; intro w1 r1 g1; have HK : Hid (Keep [] w w1) := Keep.grown g1; have HR : Hid (Row w1 (.slice (some ⟨w.heap.size, 0, none⟩) 0 24) []) := r1; clear r1 g1)
    | (go_at_call 108; refine (ftoa32_p w w1 _ (hT.below HK.out.below).tabs (hT.below HK.out.below).ten HR.out HK.out (fun k hk => by simp [Value.ownBlock] at hk; subst hk; exact ⟨Nat.le_refl _, HR.out.lt _ rfl⟩)).mono ?_; rintro e9 w2 ⟨v2, rfl, hr2, hk2⟩; have hcv := run_str hr2.bs; have HK2 : Hid (Keep [] w w2) := hk2; clear hr2 hk2))
  go_ret
  exact ⟨rfl, HK2.out.below⟩
theorem ff_p (w : World) (hT : Tabx w) : Calls Tryz.prog 59 #[.float .f64 4715268809856909312, .int .u8 101, .int .i64 (-1), .int .i64 32] w fun e w' => e = .returned (.string sF) ∧ Below w.heap.size w w' := by
  have h := iff_p w hT
  go_enter Tryz.func59, Tryz.ntmps59
  go_wp2_with (first | (go_at_call 84; refine h.mono ?_; rintro e9 w2 ⟨rfl, hb⟩))
  go_ret
  exact ⟨rfl, hb⟩
end Go.Proofs.YtnljpbpphdhnpaaGreatDoor



/- The program's Text at the one number that is asked for. -/
namespace Go.Proofs.YtnljpbpphdhnpaaGreatDoor
open Go.RowKit Go.PlainAid

abbrev sG : ByteArray := ⟨#[49, 46, 54, 55, 55, 55, 50, 49, 54]⟩
abbrev sH : ByteArray := ⟨#[49, 54, 55, 55, 55, 50, 49, 54]⟩

set_option maxRecDepth 1000000 in
theorem cutF (w : World) : Calls Tryz.prog 50 #[.string sF, .string ⟨#[101]⟩] w fun e w' => e = .returned (.tuple #[.string sG, .string ⟨#[43, 48, 55]⟩, .bool true]) ∧ ∃ n, w' = w.drewN n := by
  have h := cut_at sF 101 9 (by decide) (by decide) (by decide) w
  have e1 : sF.extract 0 9 = sG := by decide
  have e2 : sF.extract (9 + 1) sF.size = ⟨#[43, 48, 55]⟩ := by decide
  rw [e1, e2] at h
  exact h
theorem atoi_p (w : World) : Calls Tryz.prog 60 #[.string ⟨#[43, 48, 55]⟩] w fun e w' => e = .returned (.tuple #[.int .i64 7, .nilIface]) ∧ Below w.heap.size w w' := by
  refine (Tryz.strconv_Atoi ⟨#[43, 48, 55]⟩ 7 (by decide) (by decide) w).mono ?_
  rintro e w' ⟨rfl, t, rfl⟩
  exact ⟨rfl, Lib.bytesWorld_below w 5 t⟩
theorem replace_p (w : World) (hm : ∃ m, w.cell? ⟨1, 0, none⟩ = some (.int .i64 m)) : Calls Tryz.prog 61 #[.string sG, .string ⟨#[46]⟩, .string ⟨#[]⟩, .int .i64 1] w fun e w' => e = .returned (.string sH) ∧ Below w.heap.size w w' := by
  obtain ⟨m, hm⟩ := hm
  refine (Tryz.strings_Replace_some sG ⟨#[46]⟩ ⟨#[]⟩ 1 m w (by decide) hm (by decide) (by decide) (by decide) (by decide) (by decide)).mono ?_
  rintro e w' ⟨rfl, hb⟩
  have e1 : (⟨(Lib.replaceK (⟨#[46]⟩ : ByteArray).data.toList (⟨#[]⟩ : ByteArray).data.toList (Lib.replaceNum sG.data.toList (⟨#[46]⟩ : ByteArray).data.toList 1) sG.data.toList).toArray⟩ : ByteArray) = sH := by decide
  exact ⟨by rw [e1], hb⟩

set_option maxRecDepth 1000000 in
theorem shortest_p (w : World) (hT : Tabx w) : Calls Tryz.prog 37 #[.float .f32 1266679808] w fun e w' => e = .returned (.tuple #[.string sH, .int .i64 7]) ∧ Below w.heap.size w w' := by
  have hC := conv_p
  have hF := ff_p w hT
  go_enter Tryz.func37, Tryz.ntmps37
  go_wp2_with (first
    | (go_at_call 59; refine hF.mono ?_; rintro e9 w1 ⟨rfl, hb1⟩; have HB1 : Hid (Below w.heap.size w w1) := hb1; clear hb1)
    | (go_at_call 50; refine (cutF _).mono ?_; rintro e9 w2 ⟨rfl, n2, hw2⟩; have HB2 : Hid (Below w.heap.size w w2) := (by rw [hw2]; exact below_drewN HB1.out n2); clear hw2)
    | (go_at_call 60; refine (atoi_p _).mono ?_; rintro e9 w3 ⟨rfl, hb3⟩; have HB3 : Hid (Below w.heap.size w w3) := HB2.out.trans (hb3.mono HB2.out.size); clear hb3)
    | (go_at_call 61; refine (replace_p _ (hT.below HB3.out).most).mono ?_; rintro e9 w4 ⟨rfl, hb4⟩; have HB4 : Hid (Below w.heap.size w w4) := HB3.out.trans (hb4.mono HB3.out.size); clear hb4))
  go_ret2
  exact ⟨rfl, HB4.out⟩
theorem plain_p (w : World) : Calls Tryz.prog 40 #[.string sH, .int .i64 7] w fun e w' => e = .returned (.string ⟨#[49, 54, 55, 55, 55, 50, 49, 54, 46, 48]⟩) ∧ w' = w := by
  have hR := Tryz.strings_Repeat_zero ⟨#[48]⟩
  go_enter Tryz.func40, Tryz.ntmps40
  go_wp2_with (first | (go_at_call 63; refine (hR _).mono ?_; rintro e9 w9 ⟨rfl, hw9⟩; obtain rfl := hw9.symm))
  go_ret
  exact ⟨rfl, rfl⟩
theorem textAbove_p (w : World) (hT : Tabx w) : Calls Tryz.prog 16 #[.float .f32 1266679808] w fun e w' => e = .returned (.string ⟨#[49, 54, 55, 55, 55, 50, 49, 54, 46, 48]⟩) ∧ Below w.heap.size w w' := by
  have hS := shortest_p w hT
  have hI := infinite_any false
  simp only [Bool.false_eq_true, if_false] at hI
  have k1 : (FloatKind.f32.format.order 1266679808 0 == some Ordering.eq) = false := by decide
  have k2 : (FloatKind.f32.format.order 1266679808 2139095040 == some Ordering.eq) = false := by decide
  go_enter Tryz.func16, Tryz.ntmps16
  go_wp2_with (first
    | (go_at_call 27; refine (hI _).mono ?_; rintro e9 w9 ⟨rfl, hw9⟩; obtain rfl := hw9.symm)
    | (go_at_call 37; refine hS.mono ?_; rintro e9 w1 ⟨rfl, hb1⟩)
    | (go_at_call 40; refine (plain_p _).mono ?_; rintro e9 w9 ⟨rfl, hw9⟩; obtain rfl := hw9.symm))
  go_ret
  exact ⟨rfl, hb1⟩
theorem text_p (w : World) (hT : Tabx w) : Calls Tryz.prog 6 #[.float .f32 1266679808] w fun e w' => e = .returned (.string ⟨#[49, 54, 55, 55, 55, 50, 49, 54, 46, 48]⟩) ∧ Below w.heap.size w w' := by
  have hN : ∀ w, Calls Tryz.prog 14 #[.float .f32 1266679808] w fun e w' => e = .returned (.bool false) ∧ w' = w := fun w => isNan_any 1266679808 w
  have hB : ∀ w, Calls Tryz.prog 15 #[.float .f32 1266679808] w fun e w' => e = .returned (.bool false) ∧ w' = w := fun w => below0_any 1266679808 (by decide) w
  have hA := textAbove_p w hT
  go_enter Tryz.func6, Tryz.ntmps6
  go_wp2_with (first
    | (go_at_call 14; refine (hN _).mono ?_; rintro e9 w9 ⟨rfl, hw9⟩; obtain rfl := hw9.symm)
    | (go_at_call 15; refine (hB _).mono ?_; rintro e9 w9 ⟨rfl, hw9⟩; obtain rfl := hw9.symm)
    | (go_at_call 16; refine hA.mono ?_; rintro e9 w1 ⟨rfl, hb1⟩))
  go_ret
  exact ⟨rfl, hb1⟩
end Go.Proofs.YtnljpbpphdhnpaaGreatDoor



/- What is reckoned with two reals: the program's Do, for every kind and every two reals. -/
namespace Go.Proofs.YtnljpbpphdhnpaaGreatDoor
open Go.RowKit Go.PlainAid

theorem nan_aux (p q : Nat) (hp : p < 2) (hq : q < 8388607) : 2139095040 < (p * 2147483648 + 2139095040 + 1 + q) % 2147483648 ∧ p * 2147483648 + 2139095040 + 1 + q < 4294967296 := by
  have : p = 0 ∨ p = 1 := by omega
  rcases this with rfl | rfl <;> omega
theorem cut_nan (x y t : Nat) : nanB (Question.cut (.nanBits .f32 x y) t) = true ∧ Question.cut (.nanBits .f32 x y) t < 4294967296 := by
  unfold nanB
  simp only [Question.cut, Nat.reducePow, Nat.reduceSub]
  obtain ⟨h1, h2⟩ := nan_aux (t % 2) (t / 2 % 8388607) (Nat.mod_lt _ (by decide)) (Nat.mod_lt _ (by decide))
  exact ⟨decide_eq_true h1, h2⟩
/-- an operation that has no answer draws one that is no number -/
theorem run_nan (op : BinOp) (x y : Nat) (h : floatBits op .f32 x y = none) (ho : op = .add ∨ op = .sub ∨ op = .mul ∨ op = .quo) :
    ∃ r : World → Nat, (∀ w, nanB (r w) = true ∧ r w < 4294967296) ∧ ∀ w, (binOp op 22 (.float .f32 x) (.float .f32 y)).run Tryz.prog w = .ok (.float .f32 (r w)) w.drew := by
  refine ⟨fun w => Question.cut (.nanBits .f32 x y) (w.tape w.drawn (.nanBits .f32 x y)), fun w => ?_, fun w => ?_⟩
  · exact cut_nan x y _
  · rcases ho with rfl | rfl | rfl | rfl
    all_goals
      have h' := h
      simp only [floatBits] at h'
      simp [binOp, Op.floatArith, h', Question.forced, go_sem]

def opK (k : Int) : Option BinOp := if k = 5 then some .mul else if k = 6 then some .quo else if k = 7 then some .add else if k = 8 then some .sub else none
def doN (k : Int) (a b : Nat) : Nat := match opK k with
  | none => 2143289344
  | some op => match floatBits op .f32 a b with
    | none => 2143289344
    | some r => if nanB r then 2143289344 else r

set_option maxRecDepth 100000 in
set_option maxHeartbeats 1600000 in
theorem do_any (k : Int) (a b : Nat) (w : World) : Calls Tryz.prog 24 #[.int .i64 k, .float .f32 a, .float .f32 b] w fun e w' => e = .returned (.float .f32 (doN k a b)) ∧ ∃ n, w' = w.drewN n := by
  have hV := nan_any
  have hNN : ∀ w, Calls Tryz.prog 14 #[.float .f32 2143289344] w fun e w' => e = .returned (.bool true) ∧ w' = w := fun w => isNan_any 2143289344 w
  have hd : doN k a b = match opK k with
    | none => 2143289344
    | some op => match floatBits op .f32 a b with
      | none => 2143289344
      | some r => if nanB r then 2143289344 else r := rfl
  by_cases h5 : k = 5
  · subst h5
    have ho : opK 5 = some .mul := rfl
    rw [ho] at hd
    simp only [] at hd
    cases hf : floatBits .mul .f32 a b with
    | none =>
      obtain ⟨r, hr1, hr2⟩ := run_nan .mul a b hf (by simp)
      rw [hf] at hd
      rw [hd]
      have hN := fun w => isNan_any (r w)
      go_enter Tryz.func24, Tryz.ntmps24
      go_wp2_with (first | (go_at_call 26; refine (hV _).mono ?_; rintro e9 w9 ⟨rfl, hw9⟩; obtain rfl := hw9.symm) | (go_at_call 14; refine (hN _ _).mono ?_; rintro e9 w9 ⟨rfl, hw9⟩; obtain rfl := hw9.symm; rw [(hr1 _).1]))
      go_ret
      exact ⟨rfl, 1, rfl⟩
    | some z =>
      have hr := fun w => run_float_arith (P := Tryz.prog) w .mul 22 .f32 a b z hf
      rw [hf] at hd
      simp only [] at hd
      have hN := isNan_any z
      rw [hd]
      cases hz : nanB z <;> rw [hz] at hN
      all_goals
        simp only [Bool.false_eq_true, if_false, if_true]
        go_enter Tryz.func24, Tryz.ntmps24
        go_wp2_with (first | (go_at_call 26; refine (hV _).mono ?_; rintro e9 w9 ⟨rfl, hw9⟩; obtain rfl := hw9.symm) | (go_at_call 14; refine (hN _).mono ?_; rintro e9 w9 ⟨rfl, hw9⟩; obtain rfl := hw9.symm))
        go_ret
        exact ⟨rfl, 0, rfl⟩
  have t5 : (k == 5) = false := by simpa using h5
  by_cases h6 : k = 6
  · subst h6
    have ho : opK 6 = some .quo := rfl
    rw [ho] at hd
    simp only [] at hd
    cases hf : floatBits .quo .f32 a b with
    | none =>
      obtain ⟨r, hr1, hr2⟩ := run_nan .quo a b hf (by simp)
      rw [hf] at hd
      rw [hd]
      have hN := fun w => isNan_any (r w)
      go_enter Tryz.func24, Tryz.ntmps24
      go_wp2_with (first | (go_at_call 26; refine (hV _).mono ?_; rintro e9 w9 ⟨rfl, hw9⟩; obtain rfl := hw9.symm) | (go_at_call 14; refine (hN _ _).mono ?_; rintro e9 w9 ⟨rfl, hw9⟩; obtain rfl := hw9.symm; rw [(hr1 _).1]))
      go_ret
      exact ⟨rfl, 1, rfl⟩
    | some z =>
      have hr := fun w => run_float_arith (P := Tryz.prog) w .quo 22 .f32 a b z hf
      rw [hf] at hd
      simp only [] at hd
      have hN := isNan_any z
      rw [hd]
      cases hz : nanB z <;> rw [hz] at hN
      all_goals
        simp only [Bool.false_eq_true, if_false, if_true]
        go_enter Tryz.func24, Tryz.ntmps24
        go_wp2_with (first | (go_at_call 26; refine (hV _).mono ?_; rintro e9 w9 ⟨rfl, hw9⟩; obtain rfl := hw9.symm) | (go_at_call 14; refine (hN _).mono ?_; rintro e9 w9 ⟨rfl, hw9⟩; obtain rfl := hw9.symm))
        go_ret
        exact ⟨rfl, 0, rfl⟩
  have t6 : (k == 6) = false := by simpa using h6
  by_cases h7 : k = 7
  · subst h7
    have ho : opK 7 = some .add := rfl
    rw [ho] at hd
    simp only [] at hd
    cases hf : floatBits .add .f32 a b with
    | none =>
      obtain ⟨r, hr1, hr2⟩ := run_nan .add a b hf (by simp)
      rw [hf] at hd
      rw [hd]
      have hN := fun w => isNan_any (r w)
      go_enter Tryz.func24, Tryz.ntmps24
      go_wp2_with (first | (go_at_call 26; refine (hV _).mono ?_; rintro e9 w9 ⟨rfl, hw9⟩; obtain rfl := hw9.symm) | (go_at_call 14; refine (hN _ _).mono ?_; rintro e9 w9 ⟨rfl, hw9⟩; obtain rfl := hw9.symm; rw [(hr1 _).1]))
      go_ret
      exact ⟨rfl, 1, rfl⟩
    | some z =>
      have hr := fun w => run_float_arith (P := Tryz.prog) w .add 22 .f32 a b z hf
      rw [hf] at hd
      simp only [] at hd
      have hN := isNan_any z
      rw [hd]
      cases hz : nanB z <;> rw [hz] at hN
      all_goals
        simp only [Bool.false_eq_true, if_false, if_true]
        go_enter Tryz.func24, Tryz.ntmps24
        go_wp2_with (first | (go_at_call 26; refine (hV _).mono ?_; rintro e9 w9 ⟨rfl, hw9⟩; obtain rfl := hw9.symm) | (go_at_call 14; refine (hN _).mono ?_; rintro e9 w9 ⟨rfl, hw9⟩; obtain rfl := hw9.symm))
        go_ret
        exact ⟨rfl, 0, rfl⟩
  have t7 : (k == 7) = false := by simpa using h7
  by_cases h8 : k = 8
  · subst h8
    have ho : opK 8 = some .sub := rfl
    rw [ho] at hd
    simp only [] at hd
    cases hf : floatBits .sub .f32 a b with
    | none =>
      obtain ⟨r, hr1, hr2⟩ := run_nan .sub a b hf (by simp)
      rw [hf] at hd
      rw [hd]
      have hN := fun w => isNan_any (r w)
      go_enter Tryz.func24, Tryz.ntmps24
      go_wp2_with (first | (go_at_call 26; refine (hV _).mono ?_; rintro e9 w9 ⟨rfl, hw9⟩; obtain rfl := hw9.symm) | (go_at_call 14; refine (hN _ _).mono ?_; rintro e9 w9 ⟨rfl, hw9⟩; obtain rfl := hw9.symm; rw [(hr1 _).1]))
      go_ret
      exact ⟨rfl, 1, rfl⟩
    | some z =>
      have hr := fun w => run_float_arith (P := Tryz.prog) w .sub 22 .f32 a b z hf
      rw [hf] at hd
      simp only [] at hd
      have hN := isNan_any z
      rw [hd]
      cases hz : nanB z <;> rw [hz] at hN
      all_goals
        simp only [Bool.false_eq_true, if_false, if_true]
        go_enter Tryz.func24, Tryz.ntmps24
        go_wp2_with (first | (go_at_call 26; refine (hV _).mono ?_; rintro e9 w9 ⟨rfl, hw9⟩; obtain rfl := hw9.symm) | (go_at_call 14; refine (hN _).mono ?_; rintro e9 w9 ⟨rfl, hw9⟩; obtain rfl := hw9.symm))
        go_ret
        exact ⟨rfl, 0, rfl⟩
  have t8 : (k == 8) = false := by simpa using h8
  have ho : opK k = none := by unfold opK; rw [if_neg h5, if_neg h6, if_neg h7, if_neg h8]
  rw [ho] at hd
  rw [hd]
  clear hd ho h5 h6 h7 h8
  go_enter Tryz.func24, Tryz.ntmps24
  go_wp2_with (first | (go_at_call 26; refine (hV _).mono ?_; rintro e9 w9 ⟨rfl, hw9⟩; obtain rfl := hw9.symm) | (go_at_call 14; refine (hNN _).mono ?_; rintro e9 w9 ⟨rfl, hw9⟩; obtain rfl := hw9.symm))
  go_ret
  exact ⟨rfl, 0, rfl⟩
end Go.Proofs.YtnljpbpphdhnpaaGreatDoor


