/- The library's FormatFloat at the one number that is asked for. -/
import Derived.Test.YtjdihnkcigoajaaGreatDoorShF
import Derived.Test.YtjdihnkcigoajaaGreatDoorOwn
import Derived.Lib.Varint
import Derived.Lib.Zigzag

namespace Go.Proofs.YtjdihnkcigoajaaGreatDoor
open Go.RowKit Go.PlainAid

set_option maxRecDepth 1000000 in
theorem run_sbits (x : Nat) (w : World) : (callFunc 139 #[.float .f32 x]).run Tryz.prog w = .ok (.value (.int .u32 (x : Int))) w :=
  (run_callFunc_extern (e := Extern.MathFloatBits.float32bits) Tryz.func139 (by kernel_rfl) (by kernel_rfl) (by kernel_rfl) (by kernel_rfl) _ w).trans rfl

def zeros32 : Array Value := #[.int .u8 0, .int .u8 0, .int .u8 0, .int .u8 0, .int .u8 0, .int .u8 0, .int .u8 0, .int .u8 0, .int .u8 0, .int .u8 0, .int .u8 0, .int .u8 0, .int .u8 0, .int .u8 0, .int .u8 0, .int .u8 0, .int .u8 0, .int .u8 0, .int .u8 0, .int .u8 0, .int .u8 0, .int .u8 0, .int .u8 0, .int .u8 0, .int .u8 0, .int .u8 0, .int .u8 0, .int .u8 0, .int .u8 0, .int .u8 0, .int .u8 0, .int .u8 0]
theorem zeros32_at (j : Nat) (h : j < 32) : zeros32[j]? = some (.int .u8 0) := by
  have e : zeros32 = Array.replicate 32 (.int .u8 0) := rfl
  rw [e, Array.getElem?_replicate, if_pos h]
theorem zeros_new (w : World) (t : TypeId) (j : Nat) (h : j < 32) : (w.alloc (.cells zeros32 t)).cell? ⟨w.heap.size, j, none⟩ = some (.int .u8 0) ∧ (w.alloc (.cells zeros32 t)).frozen? ⟨w.heap.size, j, none⟩ = false := by
  refine ⟨?_, ?_⟩
  · rw [World.cell?_alloc_new, zeros32_at j h]
  · simp [go_sem]

/-- the state behind shortFloat: the digits' block is empty, all that was is as it was -/
theorem after_short (w0 w w2 : World) (v : Value) (nq n : Nat) (hrow : Row w v []) (hk : Keep [] w0 w) (hf : Fresh w0 w v) (hU : w.cell? ⟨1, 7, none⟩ = some (.int .u64 10000000)) (e : w2 = (((w.drewN nq).alloc (.cells zeros32 142)).alloc preW).drewN n) :
    Row w2 v [] ∧ Keep [] w0 w2 ∧ Fresh w0 w2 v ∧ w2.cell? ⟨1, 7, none⟩ = some (.int .u64 10000000) ∧ (∀ j, j < 32 → w2.cell? ⟨w.heap.size, j, none⟩ = some (.int .u8 0) ∧ w2.frozen? ⟨w.heap.size, j, none⟩ = false) ∧ w.heap.size < w2.heap.size ∧ w.heap.size ∉ v.ownBlock.toList := by
  have hK : Keep [] w w2 := by
    rw [e]
    exact (((Keep.refl [] w).drewN nq).alloc _ |>.alloc _).drewN n
  have hs : w.heap.size < w2.heap.size := by
    rw [e]
    show w.heap.size < (((w.drewN nq).alloc (.cells zeros32 142)).alloc preW).heap.size
    simp [World.drewN]
    omega
  refine ⟨hrow.keep hK (Off.nil _), hk.more hK (fun _ h => by cases h), hf.later hK.size, hK.cell' hU (by simp), ?_, hs, ?_⟩
  · intro j hj
    have hz := zeros_new (w.drewN nq) 142 j hj
    have hK2 : Keep [] ((w.drewN nq).alloc (.cells zeros32 142)) w2 := by
      rw [e]; exact ((Keep.refl [] _).alloc _).drewN n
    have hlt : w.heap.size < ((w.drewN nq).alloc (.cells zeros32 142)).heap.size := by simp [World.drewN]
    exact ⟨(hK2.cell (p := ⟨w.heap.size, j, none⟩) hlt (by simp)).trans hz.1, (hK2.frozen (p := ⟨w.heap.size, j, none⟩) hlt (by simp)).trans hz.2⟩
  · intro hm
    simp at hm
    have := hrow.lt _ hm
    omega

def DP : List UInt8 := [49, 54, 55, 55, 55, 50, 49, 54, 0, 0, 0, 0, 0, 0, 0, 0, 0, 0, 0, 0, 0, 0, 0, 0, 0, 0, 0, 0, 0, 0, 0, 0]
theorem after_set (w0 w2 w3 : World) (v : Value) (b : Nat) (hrow : Row w2 v []) (hk : Keep [] w0 w2) (hf : Fresh w0 w2 v) (hlt : b < w2.heap.size) (hb0 : w0.heap.size ≤ b) (hoff : b ∉ v.ownBlock.toList) (h1 : Keep [b] w2 w3)
    (h2 : ∀ j, j < 8 → w3.cell? ⟨b, j, none⟩ = some (.int .u8 ((Lib.dg 16777216 (8 - 1 - j)).toNat : Int))) (h3 : ∀ j, 8 ≤ j → j < 32 → w3.cell? ⟨b, j, none⟩ = some (.int .u8 0)) : Fm w0 w3 v [] b 32 DP := by
  refine ⟨hrow.keep h1 (fun k hk hn => ?_), ⟨some ⟨b, 0, none⟩, 32, rfl, by decide, by decide, (by intro h; cases h), fun _ => ⟨b, 0, rfl, fun j hj => ?_⟩⟩, by decide, hoff, hk.more h1 (fun x hx => .inr ?_), hf.later h1.size⟩
  · simp at hn; subst hn; exact hoff (by simp [hk])
  · rw [Nat.zero_add]
    have hj' : j < 32 := hj
    by_cases h8 : j < 8
    · rw [h2 j h8]
      have : ∀ j, j < 8 → ((Lib.dg 16777216 (8 - 1 - j)).toNat : Int) = ((DP.getD j 0).toNat : Int) := by decide
      rw [this j h8]
    · rw [h3 j (by omega) hj']
      have : ∀ j, j < 32 → 8 ≤ j → (0 : Int) = ((DP.getD j 0).toNat : Int) := by decide
      rw [← this j hj' (by omega)]
  · simp at hx; subst hx; exact hb0

set_option maxRecDepth 1000000 in
set_option maxHeartbeats 2000000 in
theorem ftoa32_p (w0 w : World) (v : Value) (hT : Tabs w) (hU : w.cell? ⟨1, 7, none⟩ = some (.int .u64 10000000)) (hrow : Row w v []) (hk : Keep [] w0 w) (hf : Fresh w0 w v) :
    Calls Tryz.prog 122 #[v, .float .f32 1266679808, .int .u8 101, .int .i64 (-1)] w fun e w' => ∃ v', e = .returned v' ∧ Row w' v' [49, 46, 54, 55, 55, 55, 50, 49, 54, 101, 43, 48, 55] ∧ Keep [] w0 w' := by
  have hb := run_sbits 1266679808
  have e : ((1266679808 : Nat) : Int) = 1266679808 := rfl
  rw [e] at hb; clear e
  have e1 : bits .and .i64 151 255 = 151 := by decide
  have e2 : bits .and .u64 1266679808 8388607 = 0 := by decide
  have e3 : bits .or .u64 0 8388608 = 8388608 := by decide
  have hL := len64_at 8388608 (by decide) (by decide) 24 (by decide)
  have HR : Hid (Row w v [] ∧ Keep [] w0 w ∧ Fresh w0 w v) := ⟨hrow, hk, hf⟩
  have HT : Hid (Tabs w ∧ w.cell? ⟨1, 7, none⟩ = some (.int .u64 10000000)) := ⟨hT, hU⟩
  clear hrow hk hf hT hU
  go_enter Tryz.func122, Tryz.ntmps122
  go_wp2
  go_quiet (fail)
  go_wp2_with (first
    | (go_at_call 86; refine (hL _).mono ?_; rintro e9 w9 ⟨rfl, hw9⟩; obtain rfl := hw9.symm)
    | (go_at_call 144; refine (short_p _ (cell_alloc (X := .cells zeros32 142) (W := w.drewN nq) HT.out.1.hi) (cell_alloc (X := .cells zeros32 142) (W := w.drewN nq) HT.out.1.lo)).mono ?_; rintro e9 w2 ⟨rfl, n9, hw2⟩; have HW : Hid _ := after_short w0 w w2 v nq n9 HR.out.1 HR.out.2.1 HR.out.2.2 HT.out.2 hw2; clear hw2))
  go_region_held3 (fun _ => True) (exact trivial)
    (first
    | (go_at_call 67; refine (numDigits_p w2.drew HW.out.2.2.2.1).mono ?_; rintro e9 w9 ⟨rfl, hw9⟩; obtain rfl := hw9.symm)
    | (go_at_call 145; refine (setDigits_any w.heap.size 8 16777216 0 w2.drew (by decide) (by decide) (by decide) (by decide) (by decide) (by decide) (by decide) HW.out.2.2.2.2.1).mono ?_; rintro e9 w3 ⟨rfl, g1, g2, g3⟩; have HX : Hid _ := after_set w0 w2 w3 v w.heap.size HW.out.1 HW.out.2.1 HW.out.2.2.1 HW.out.2.2.2.2.2.1 HR.out.2.1.size HW.out.2.2.2.2.2.2 ⟨g1.os, g1.tape, g1.output, g1.size, g1.block⟩ g2 g3; clear g1 g2 g3))
  go_wp2_with (first
    | (go_at_call 143; refine (fmtE_any w0 _ v [] w.heap.size 32 DP 8 8 HX.out (by decide) (by decide) (by decide) (by decide) (by decide) (by decide) (by decide)).mono ?_; rintro e9 w4 ⟨v4, rfl, hF4⟩; have HY : Hid _ := hF4; clear hF4))
  go_ret
  exact ⟨_, rfl, HY.out.row, HY.out.keep⟩
end Go.Proofs.YtjdihnkcigoajaaGreatDoor




/- FormatFloat and the program's Text at the one number that is asked for. -/
namespace Go.Proofs.YtjdihnkcigoajaaGreatDoor
open Go.RowKit Go.PlainAid

theorem push_fold : ∀ (l : List UInt8) (s : ByteArray), (l.map fun x => ((x.toNat : Nat) : Int)).foldl (fun r n => r.push (UInt8.ofNat n.toNat)) s = ⟨s.data ++ l.toArray⟩
  | [], s => by simp
  | x :: r, s => by
    rw [List.map_cons, List.foldl_cons, push_fold r]
    have hx : UInt8.ofNat ((x.toNat : Nat) : Int).toNat = x := by simp
    rw [hx]
    congr 1
    apply Array.ext'
    simp [ByteArray.push]
theorem run_str {w : World} {v : Value} {l : List UInt8} (h : Bs w v l) : (convert 31 9 v).run Tryz.prog w = .ok (.string ⟨l.toArray⟩) w := by
  have key : ∀ (a : Addr) (cap : Nat), (∀ j u, (bv l)[j]? = some u → w.cell? (a.add j) = some u) → (convert 31 9 (.slice (some a) l.length cap)).run Tryz.prog w = .ok (.string ⟨l.toArray⟩) w := by
    intro a cap hc
    rw [run_convert_bytes_string w 31 9 5 _ _ _ underS Tryz.underlying5 Tryz.underlying9]
    have hld : (loadCells a l.length).run Tryz.prog w = .ok ((l.map fun x => ((x.toNat : Nat) : Int)).map (Value.int .u8)).toArray w := by
      have := run_loadCells_list (P := Tryz.prog) w a (bv l) hc
      rw [bv_length] at this
      rw [this]
      simp [bv, Function.comp_def]
    rw [run_bytesToString w a l.length cap _ hld, push_fold]
    simp
  rcases h.cases with ⟨rfl, ao, cap, rfl, _, _⟩ | ⟨_, b, o, cap, rfl, _, _, _, hc⟩
  · cases ao with
    | none =>
      rw [run_convert_bytes_string w 31 9 5 _ _ _ underS Tryz.underlying5 Tryz.underlying9]
      rfl
    | some a => exact key a cap (fun j u hj => by simp [bv] at hj)
  · refine key _ cap (fun j u hu => ?_)
    have hj : j < l.length := by
      have := (List.getElem?_eq_some_iff.1 hu).1
      simpa [bv_length] using this
    rw [bv_get l j hj] at hu
    have hadd : (⟨b, o, none⟩ : Addr).add j = ⟨b, o + j, none⟩ := by unfold Addr.add; split <;> simp_all
    rw [hadd, hc j hj, List.getD_eq_getElem?_getD, List.getElem?_eq_getElem hj]
    exact hu

/-- the library's tables, as far as Text reads them -/
structure Tabx (w : World) : Prop where
  tabs : Tabs w
  ten : w.cell? ⟨1, 7, none⟩ = some (.int .u64 10000000)
  most : ∃ m, w.cell? ⟨4, 0, none⟩ = some (.int .i64 m)
theorem Tabx.below {w w' : World} (h : Tabx w) (hb : Below w.heap.size w w') : Tabx w' := by
  obtain ⟨m, hm⟩ := h.most
  exact ⟨h.tabs.below hb, cell_next hb h.ten, m, cell_next hb hm⟩

abbrev sF : ByteArray := ⟨#[49, 46, 54, 55, 55, 55, 50, 49, 54, 101, 43, 48, 55]⟩

set_option maxRecDepth 1000000 in
set_option maxHeartbeats 1000000 in
theorem iff_p (w : World) (hT : Tabx w) : Calls Tryz.prog 110 #[.float .f64 4715268809856909312, .int .u8 101, .int .i64 (-1), .int .i64 32] w fun e w' => e = .returned (.string sF) ∧ Below w.heap.size w w' := by
  obtain ⟨i5, h5a, h5b, h5c, h5d⟩ := info_parts infoB
  have hC := conv_q
  go_enter Tryz.func110, Tryz.ntmps110
  go_wp2_with (first
    | (refine wpList_make_own w rfl (.const (.int .i64 0)) (.tmp 13) 31 rfl 0 5 i5 (.int .u8 0) 1 underS h5a h5b h5c .i64 .i64 24 24 rfl rfl rfl (by rw [h5d]; omega) (by decide) (Nat.zero_le _) ?_; intro w1 r1 g1; have HK : Hid (Keep [] w w1) := Keep.grown g1; have HR : Hid (Row w1 (.slice (some ⟨w.heap.size, 0, none⟩) 0 24) []) := r1; clear r1 g1)
    | (go_at_call 122; refine (ftoa32_p w w1 _ (hT.below HK.out.below).tabs (hT.below HK.out.below).ten HR.out HK.out (fun k hk => by simp [Value.ownBlock] at hk; subst hk; exact ⟨Nat.le_refl _, HR.out.lt _ rfl⟩)).mono ?_; rintro e9 w2 ⟨v2, rfl, hr2, hk2⟩; have hcv := run_str hr2.bs; have HK2 : Hid (Keep [] w w2) := hk2; clear hr2 hk2))
  go_ret
  exact ⟨rfl, HK2.out.below⟩
theorem ff_p (w : World) (hT : Tabx w) : Calls Tryz.prog 98 #[.float .f64 4715268809856909312, .int .u8 101, .int .i64 (-1), .int .i64 32] w fun e w' => e = .returned (.string sF) ∧ Below w.heap.size w w' := by
  have h := iff_p w hT
  go_enter Tryz.func98, Tryz.ntmps98
  go_wp2_with (first | (go_at_call 110; refine h.mono ?_; rintro e9 w2 ⟨rfl, hb⟩))
  go_ret
  exact ⟨rfl, hb⟩
end Go.Proofs.YtjdihnkcigoajaaGreatDoor




/- What the Writer's parts write, each for every Writer and every input. -/
namespace Go.Proofs.YtjdihnkcigoajaaGreatDoor
open Go.RowKit Go.PlainAid

/-- at b, o lies a Writer that has written l, in the block rb (or in none) -/
structure Wr (w : World) (b o : Nat) (l : List UInt8) (rb : Option Nat) : Prop where
  ex : w.frozen? ⟨b, o, none⟩ = false ∧ rb ≠ some b ∧ ∃ v, w.cell? ⟨b, o, none⟩ = some v ∧ v.ownBlock = rb ∧ Row w v l

/-- the block is the one of before, or a new one -/
def Newer (w w' : World) (rb rb' : Option Nat) : Prop := rb' = rb ∨ ∀ k, rb' = some k → w.heap.size ≤ k ∧ k < w'.heap.size

theorem Newer.refl (w w' : World) (rb : Option Nat) : Newer w w' rb rb := .inl rfl
theorem Newer.trans {a b c : World} {r s t : Option Nat} (h : Newer a b r s) (k : Newer b c s t) (hs : a.heap.size ≤ b.heap.size) (hs2 : b.heap.size ≤ c.heap.size) : Newer a c r t := by
  rcases k with rfl | k
  · rcases h with rfl | h
    · exact .inl rfl
    · exact .inr fun x hx => ⟨(h x hx).1, Nat.lt_of_lt_of_le (h x hx).2 hs2⟩
  · exact .inr fun x hx => ⟨Nat.le_trans hs (k x hx).1, (k x hx).2⟩
theorem Newer.foot {w w' : World} {r s : Option Nat} {b : Nat} (h : Newer w w' r s) : ∀ x ∈ b :: s.toList, x ∈ b :: r.toList ∨ w.heap.size ≤ x := by
  intro x hx
  rcases h with rfl | h
  · exact .inl hx
  · simp at hx
    rcases hx with rfl | hx
    · exact .inl (by simp)
    · exact .inr (h x hx).1

theorem Wr.lt {w : World} {b o : Nat} {l : List UInt8} {rb : Option Nat} (h : Wr w b o l rb) : b < w.heap.size := by
  obtain ⟨_, _, v, hc, _⟩ := h.ex
  exact World.block_lt_of_cell? w _ hc
theorem Wr.ltR {w : World} {b o : Nat} {l : List UInt8} {rb : Option Nat} (h : Wr w b o l rb) : ∀ k, rb = some k → k < w.heap.size := by
  obtain ⟨_, _, v, hc, rfl, hr⟩ := h.ex
  exact hr.lt
theorem Wr.keep {F : List Nat} {w w' : World} {b o : Nat} {l : List UInt8} {rb : Option Nat} (h : Wr w b o l rb) (k : Keep F w w') (hb : b ∉ F) (hr : ∀ x, rb = some x → x ∉ F) : Wr w' b o l rb := by
  obtain ⟨hf, hne, v, hc, rfl, hrow⟩ := h.ex
  exact ⟨(k.frozen (World.block_lt_of_cell? w _ hc) hb).trans hf, hne, v, k.cell' hc hb, rfl, hrow.keep k hr⟩
theorem Wr.zero (w : World) (b o : Nat) (hc : w.cell? ⟨b, o, none⟩ = some (.slice none 0 0)) (hf : w.frozen? ⟨b, o, none⟩ = false) : Wr w b o [] none :=
  ⟨hf, by simp, _, hc, rfl, Row.nil w⟩

theorem stored {w1 : World} {b o : Nat} {v v' : Value} {l : List UInt8} (hc : w1.cell? ⟨b, o, none⟩ = some v) (hf : w1.frozen? ⟨b, o, none⟩ = false) (hr : Row w1 v' l) (hne : v'.ownBlock ≠ some b) :
    Wr (w1.setCell ⟨b, o, none⟩ v') b o l v'.ownBlock := by
  have hk := Keep.set1 w1 ⟨b, o, none⟩ v'
  refine ⟨by rw [World.frozen?_setCell]; exact hf, hne, v', World.cell?_setCell_same w1 _ v' hc, rfl, hr.keep hk ?_⟩
  intro k hk2 hm
  simp at hm
  subst hm
  exact hne hk2

set_option maxHeartbeats 800000 in
theorem put_any (b o : Nat) (l r : List UInt8) (rb : Option Nat) (u : Value) (w : World) (hw : Wr w b o l rb) (hu : Bs w u r) (hn : l.length + r.length ≤ 140737488355328) :
    Calls Tryz.prog 38 #[.pointer (some ⟨b, o, none⟩), u] w fun e w' => e = .returned (.tuple #[]) ∧ ∃ rb', Wr w' b o (l ++ r) rb' ∧ Keep (b :: rb.toList) w w' ∧ Newer w w' rb rb' := by
  obtain ⟨hf, hne, v, hc, rfl, hrow⟩ := hw.ex
  have hb : b < w.heap.size := World.block_lt_of_cell? w _ hc
  go_enter Tryz.func38, Tryz.ntmps38
  go_wp2_with (at_builtin; refine wp_app rfl (.tmp 8) (.tmp 9) 31 31 rfl underS v l rfl hrow u r rfl hu.src hn ?_)
  intro v' w1 h1 h2 h3 h4
  obtain ⟨a9, c9, hv9⟩ := h4
  have hbF : b ∉ v.ownBlock.toList := by
    intro hm
    simp at hm
    exact hne hm
  have k0 := h2.cell' hc hbF
  have e0 := (h2.frozen (p := ⟨b, o, none⟩) hb hbF).trans hf
  have hne' : v'.ownBlock ≠ some b := by
    rcases h3 with h3 | h3
    · rw [h3]; exact hne
    · intro hx
      have := (h3 b hx).1
      omega
  have S := stored k0 e0 h1 hne'
  have HS : Hid (Wr (w1.setCell ⟨b, o, none⟩ v') b o (l ++ r) v'.ownBlock) := S
  have HK : Hid (Keep (b :: v.ownBlock.toList) w (w1.setCell ⟨b, o, none⟩ v')) :=
    (h2.mono (fun x hx => .inl (by simp; right; simpa using hx))).setCell (.inl (by simp)) v'
  have HN : Hid (Newer w (w1.setCell ⟨b, o, none⟩ v') v.ownBlock v'.ownBlock) := by
    rcases h3 with h3 | h3
    · exact .inl h3
    · exact .inr fun k hk => ⟨(h3 k hk).1, by have := (h3 k hk).2; simpa [World.setCell] using this⟩
  subst hv9
  clear S h1 h2 h3 hu hrow
  go_wp2
  go_end0
  exact ⟨rfl, _, HS.out, HK.out, HN.out⟩

set_option maxHeartbeats 800000 in
theorem putText_any (b o : Nat) (l : List UInt8) (s : ByteArray) (rb : Option Nat) (w : World) (hw : Wr w b o l rb) (hn : l.length + s.size ≤ 140737488355328) :
    Calls Tryz.prog 64 #[.pointer (some ⟨b, o, none⟩), .string s] w fun e w' => e = .returned (.tuple #[]) ∧ ∃ rb', Wr w' b o (l ++ s.data.toList) rb' ∧ Keep (b :: rb.toList) w w' ∧ Newer w w' rb rb' := by
  obtain ⟨hf, hne, v, hc, rfl, hrow⟩ := hw.ex
  have hb : b < w.heap.size := World.block_lt_of_cell? w _ hc
  have hsrc : Src Tryz.prog 1 9 (.string s) s.data.toList.length (bv s.data.toList) w := by
    have := Src.ofString (P := Tryz.prog) w Tryz.underlying9 s
    rw [bv_byteCells] at this
    simpa using this
  have hn' : l.length + s.data.toList.length ≤ 140737488355328 := by simpa using hn
  go_enter Tryz.func64, Tryz.ntmps64
  go_wp2_with (at_builtin; refine wp_app rfl (.tmp 8) (.tmp 9) 31 9 rfl underS v l rfl hrow (.string s) s.data.toList rfl hsrc hn' ?_)
  intro v' w1 h1 h2 h3 h4
  obtain ⟨a9, c9, hv9⟩ := h4
  have hbF : b ∉ v.ownBlock.toList := by
    intro hm
    simp at hm
    exact hne hm
  have k0 := h2.cell' hc hbF
  have e0 := (h2.frozen (p := ⟨b, o, none⟩) hb hbF).trans hf
  have hne' : v'.ownBlock ≠ some b := by
    rcases h3 with h3 | h3
    · rw [h3]; exact hne
    · intro hx
      have := (h3 b hx).1
      omega
  have S := stored k0 e0 h1 hne'
  have HS : Hid (Wr (w1.setCell ⟨b, o, none⟩ v') b o (l ++ s.data.toList) v'.ownBlock) := S
  have HK : Hid (Keep (b :: v.ownBlock.toList) w (w1.setCell ⟨b, o, none⟩ v')) :=
    (h2.mono (fun x hx => .inl (by simp; right; simpa using hx))).setCell (.inl (by simp)) v'
  have HN : Hid (Newer w (w1.setCell ⟨b, o, none⟩ v') v.ownBlock v'.ownBlock) := by
    rcases h3 with h3 | h3
    · exact .inl h3
    · exact .inr fun k hk => ⟨(h3 k hk).1, by have := (h3 k hk).2; simpa [World.setCell] using this⟩
  subst hv9
  clear S h1 h2 h3 hrow hsrc
  go_wp2
  go_end0
  exact ⟨rfl, _, HS.out, HK.out, HN.out⟩

theorem Wr.alloc {w : World} {b o : Nat} {l : List UInt8} {rb : Option Nat} (h : Wr w b o l rb) (x : Obj) : Wr (w.alloc x) b o l rb := h.keep (Keep.alloc1 w x) (by simp) (fun _ _ => by simp)

end Go.Proofs.YtjdihnkcigoajaaGreatDoor


