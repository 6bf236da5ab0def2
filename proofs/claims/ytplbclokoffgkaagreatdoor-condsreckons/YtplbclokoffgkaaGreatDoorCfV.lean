/- Conditions: a condition of two whole numbers, x and y, asked. -/
import Derived.Test.YtplbclokoffgkaaGreatDoorCfU
import Derived.Test.YtplbclokoffgkaaGreatDoorCfL
namespace Go.Proofs.YtplbclokoffgkaaGreatDoor
open Go.RowKit Go.PlainAid Go.Shelf

abbrev PXY : List PD := [⟨⟨#[120]⟩, 2⟩, ⟨⟨#[121]⟩, 2⟩]
abbrev AXY (X Y : Int) : List AgD := [⟨⟨#[120]⟩, X⟩, ⟨⟨#[121]⟩, Y⟩]
theorem bl_x : (⟨#[120]⟩ : ByteArray).toList = [120] := by rw [ByteArray.toList_eq]
theorem bl_y : (⟨#[121]⟩ : ByteArray).toList = [121] := by rw [ByteArray.toList_eq]
theorem bl_c : (⟨#[99]⟩ : ByteArray).toList = [99] := by rw [ByteArray.toList_eq]
theorem nm_x : nameL (⟨#[120]⟩ : ByteArray).toList = true := by rw [bl_x]; decide
theorem nm_y : nameL (⟨#[121]⟩ : ByteArray).toList = true := by rw [bl_y]; decide
theorem nm_c : nameL (⟨#[99]⟩ : ByteArray).toList = true := by rw [bl_c]; decide
theorem pk_x : pKind PXY ⟨#[120]⟩ = 2 := by simp [pKind]
theorem pk_y : pKind PXY ⟨#[121]⟩ = 2 := by simp [pKind]
theorem dupXY : Dup PXY 2 := ⟨by simp, fun k hk h => by
    have : k = 0 ∨ k = 1 := by omega
    rcases this with rfl | rfl
    · rfl
    · simp [pKind], fun h => by simp at h⟩
theorem agXY (X Y : Int) (hX : In64 X) (hY : In64 Y) : AgOk (AXY X Y) := by
  refine ⟨fun a ha => ?_, fun t h => ?_⟩
  · simp at ha
    rcases ha with rfl | rfl
    · exact ⟨nm_x, hX⟩
    · exact ⟨nm_y, hY⟩
  · have : t = 0 := by simp at h; omega
    subst this
    show Op.bytesLess (⟨#[120]⟩ : ByteArray).toList (⟨#[121]⟩ : ByteArray).toList = true
    rw [bl_x, bl_y]
    decide
theorem at_x (X Y : Int) : At (AXY X Y) ⟨#[120]⟩ 0 := by
  refine ⟨by simp, by simp, fun h hh hl => by omega, ?_, fun h hh hl => ?_⟩
  · show cmpT (⟨#[120]⟩ : ByteArray).toList (⟨#[120]⟩ : ByteArray).toList = 0
    rw [bl_x]
    decide
  · have : h = 1 := by simp at hh; omega
    subst this
    show 0 < cmpT (⟨#[121]⟩ : ByteArray).toList (⟨#[120]⟩ : ByteArray).toList
    rw [bl_x, bl_y]
    decide
theorem at_y (X Y : Int) : At (AXY X Y) ⟨#[121]⟩ 1 := by
  refine ⟨by simp, by simp, fun h hh hl => ?_, ?_, fun h hh hl => by simp at hh; omega⟩
  · have : h = 0 := by omega
    subst this
    show cmpT (⟨#[120]⟩ : ByteArray).toList (⟨#[121]⟩ : ByteArray).toList < 0
    rw [bl_x, bl_y]
    decide
  · show cmpT (⟨#[121]⟩ : ByteArray).toList (⟨#[121]⟩ : ByteArray).toList = 0
    rw [bl_y]
    decide
theorem kn_all (X Y : Int) (L : List (List UInt8)) (h : L = [[120]] ∨ L = [[120], [121]]) : Kn PXY (AXY X Y) L := by
  intro s hs
  have : s = [120] ∨ s = [121] := by
    rcases h with rfl | rfl
    · simp at hs; exact .inl hs
    · simpa using hs
  rcases this with rfl | rfl
  · exact ⟨0, X, at_x X Y, fun _ => rfl, pk_x⟩
  · exact ⟨1, Y, at_y X Y, fun _ => rfl, pk_y⟩
theorem srt (L : List (List UInt8)) (h : L = [[120]] ∨ L = [[120], [121]]) : 1 ≤ L.length ∧ L.mergeSort (fun x y => decide (x ≤ y)) = L ∧ Lib.compact L = L := by
  rcases h with rfl | rfl
  · exact ⟨by decide, List.mergeSort_of_pairwise (by decide), by decide⟩
  · exact ⟨by decide, List.mergeSort_of_pairwise (by decide), by decide⟩

/-- all that is asked of an expression -/
structure Ex (X Y : Int) (xs : List Pt) (f : Wo) : Prop where
  tr : ∃ t : Tr, t.ok ∧ t.flat = xs
  ok : CdOk ⟨#[99]⟩ PXY xs
  kd : ∃ kv es, Kd PXY xs kv es ∧ kindE kv es xs.length = (0, 0)
  we : ∃ vals, We PXY (AXY X Y) xs vals ∧ vals.getD 0 Wo.no = f
  fo : f = .no ∨ ∃ b, f = .tr b
  nm : nmsL xs = [[120]] ∨ nmsL xs = [[120], [121]]
  l1 : 1 ≤ xs.length
  l2 : xs.length ≤ 20
theorem evalXY (X Y : Int) (hX : In64 X) (hY : In64 Y) (xs : List Pt) (f : Wo) (hE : Ex X Y xs f) (vp vx va : Value) (hsl : ((∃ a n c, vp = .slice a n c) ∧ ∃ a n c, vx = .slice a n c) ∧ ∃ a n c, va = .slice a n c) (w : World) (hp : Pm w vp PXY) (hx : Pp w vx xs) (ha : Ar w va (AXY X Y)) (hT : Tb w) (hlp : Lo w.heap.size vp) (hlx : Lo w.heap.size vx) (hla : Lo w.heap.size va) :
    Calls Tryz.prog 7 #[.agg #[.string ⟨#[99]⟩, vp, vx], va] w fun e w' => ∃ vl, (∃ a n c, vl = .slice a n c) ∧ e = .returned (.tuple #[.agg #[.bool f.kn, .bool f.mt, vl], .int .i64 0]) ∧ Keep [] w w' := by
  obtain ⟨t, ht, hxs⟩ := hE.tr
  obtain ⟨kv, es, hK, hk0⟩ := hE.kd
  obtain ⟨vals, hW, hfe⟩ := hE.we
  obtain ⟨s1, s2, s3⟩ := srt _ hE.nm
  have up : ∀ {w1 : World} {v : Value}, Lo w.heap.size v → Keep [] w w1 → Lo w1.heap.size v := fun h k x hx => Nat.lt_of_lt_of_le (h x hx) k.size
  refine eval_any ⟨#[99]⟩ vp vx va vals xs.length hE.l1 f hfe hE.fo hsl w (fun w1 k1 => ?_) (fun w1 k1 => ?_) (fun w1 k1 => ?_)
  · refine refused_any _ vp vx va 0 hsl.1 w1 (fun w2 k2 => ?_) (fun w2 k2 => ?_)
    · have h := ccheck_tree ⟨#[99]⟩ PXY t xs hxs kv es 2 ht hE.ok dupXY hK (by rw [hk0]; decide) hE.l1 hE.l2 vp vx w2 (hp.keep0 (k1.trans' k2)) (hx.keep0 (k1.trans' k2)) (hT.keep (k1.trans' k2) (by simp)) (up hlp (k1.trans' k2)) (up hlx (k1.trans' k2))
      rw [hk0] at h
      exact h
    · exact argsFault_fine (AXY X Y) va w2 (ha.keep0 (k1.trans' k2)) (agXY X Y hX hY) (by simp)
  · exact worths_any _ PXY xs (AXY X Y) vals hW vp vx va hsl.1.1 w1 (hp.keep0 k1) (hx.keep0 k1) (ha.keep0 k1) (by have := hE.l2; omega) (up hlp k1) (up hlx k1) (up hla k1)
  · exact lacks_none _ PXY xs (AXY X Y) vp vx va hsl.1 w1 (hp.keep0 k1) (hx.keep0 k1) (ha.keep0 k1) (by have := hE.l2; omega) s1 s2 s3 (kn_all X Y _ hE.nm)

abbrev D38 : Array Value := #[.string ⟨#[120]⟩, .int .i64 2, .string ⟨#[121]⟩, .int .i64 2]
abbrev D44 (X Y : Int) : Array Value := #[.string ⟨#[120]⟩, .int .i64 2, .bool false, .int .i64 X, .float .f32 0, .string ⟨#[]⟩, .slice none 0 0, .string ⟨#[121]⟩, .int .i64 2, .bool false, .int .i64 Y, .float .f32 0, .string ⟨#[]⟩, .slice none 0 0]
theorem pmXY {W : World} {g : Nat} (h : W.heap[g]? = some (.cells D38 38 (0, 0))) : Pm W (.slice (some ⟨g, 0, none⟩) 2 2) PXY := by
  refine ⟨some ⟨g, 0, none⟩, 2, rfl, by simp, by decide, fun _ => ⟨g, 0, rfl, fun i hi => ?_⟩⟩
  have hi1 : i < 2 := hi
  match i, hi1 with
  | 0, _ => constructor <;> (unfold World.cell?; rw [h]; rfl)
  | 1, _ => constructor <;> (unfold World.cell?; rw [h]; rfl)
theorem arXY {W : World} {g : Nat} {X Y : Int} (h : W.heap[g]? = some (.cells (D44 X Y) 44 (0, 0))) : Ar W (.slice (some ⟨g, 0, none⟩) 2 2) (AXY X Y) := by
  refine ⟨g, 0, 2, rfl, fun i hi => ?_⟩
  have hi1 : i < 2 := hi
  match i, hi1 with
  | 0, _ => refine ⟨?_, ?_, ?_, ?_, ?_, ?_, ?_⟩ <;> (unfold World.cell?; rw [h]; rfl)
  | 1, _ => refine ⟨?_, ?_, ?_, ?_, ?_, ?_, ?_⟩ <;> (unfold World.cell?; rw [h]; rfl)
theorem loB {W : World} {b : Nat} {o : Obj} {n c : Nat} (h : W.heap[b]? = some o) : Lo W.heap.size (.slice (some ⟨b, 0, none⟩) n c) := fun k hk => by
  simp [Value.ownBlock] at hk
  subst hk
  exact (Array.getElem?_eq_some_iff.1 h).1
set_option maxRecDepth 1000000 in
set_option maxHeartbeats 3200000 in
theorem ask_any (X Y : Int) (hX : In64 X) (hY : In64 Y) (xs : List Pt) (f : Wo) (hE : Ex X Y xs f) (vx : Value) (w : World) (hx : Pp w vx xs) (hT : Tb w) (hlx : Lo w.heap.size vx) :
    Calls Tryz.prog 8 #[vx, .int .i64 X, .int .i64 Y] w fun e w' => ∃ vl, (∃ a n c, vl = .slice a n c) ∧ e = .returned (.agg #[.bool f.kn, .bool f.mt, vl]) ∧ Keep [] w w' := by
  obtain ⟨ao, cap, rfl, -, -, -⟩ := hx.ex
  have hsf := store_f32
  simp only [Go.stored] at hsf
  have K4 : Keep [] w ((((w.alloc (.cells #[.bool false, .bool false, .slice none 0 0] 40)).alloc (.cells D38 38)).alloc (.cells #[.string ⟨#[99]⟩, .slice (some ⟨w.heap.size + 1, 0, none⟩) 2 2, .slice ao xs.length cap] 25)).alloc (.cells (D44 X Y) 44)) := (((Keep.alloc1 _ _).alloc _).alloc _).alloc _
  have b1 : ((((w.alloc (.cells #[.bool false, .bool false, .slice none 0 0] 40)).alloc (.cells D38 38)).alloc (.cells #[.string ⟨#[99]⟩, .slice (some ⟨w.heap.size + 1, 0, none⟩) 2 2, .slice ao xs.length cap] 25)).alloc (.cells (D44 X Y) 44)).heap[w.heap.size + 1]? = some (.cells D38 38 (0, 0)) := by
    refine (Below.heap_alloc _ _ _ (by simp only [World.size_alloc]; omega)).trans ((Below.heap_alloc _ _ _ (by simp)).trans ?_)
    have := heap_alloc_new' (w.alloc (.cells #[.bool false, .bool false, .slice none 0 0] 40)) (.cells D38 38)
    rwa [World.size_alloc] at this
  have b3 : ((((w.alloc (.cells #[.bool false, .bool false, .slice none 0 0] 40)).alloc (.cells D38 38)).alloc (.cells #[.string ⟨#[99]⟩, .slice (some ⟨w.heap.size + 1, 0, none⟩) 2 2, .slice ao xs.length cap] 25)).alloc (.cells (D44 X Y) 44)).heap[w.heap.size + 3]? = some (.cells (D44 X Y) 44 (0, 0)) := by
    have := heap_alloc_new' (((w.alloc (.cells #[.bool false, .bool false, .slice none 0 0] 40)).alloc (.cells D38 38)).alloc (.cells #[.string ⟨#[99]⟩, .slice (some ⟨w.heap.size + 1, 0, none⟩) 2 2, .slice ao xs.length cap] 25)) (.cells (D44 X Y) 44)
    rwa [World.size_alloc, World.size_alloc, World.size_alloc] at this
  have hV := evalXY X Y hX hY xs f hE (.slice (some ⟨w.heap.size + 1, 0, none⟩) 2 2) (.slice ao xs.length cap) (.slice (some ⟨w.heap.size + 3, 0, none⟩) 2 2) ⟨⟨⟨_, _, _, rfl⟩, _, _, _, rfl⟩, _, _, _, rfl⟩ _ (pmXY b1) (hx.keep0 K4) (arXY b3) (hT.keep K4 (by simp)) (loB b1) (fun k hk => Nat.lt_of_lt_of_le (hlx k hk) K4.size) (loB b3)
  have HK4 : Hid (Keep [] w ((((w.alloc (.cells #[.bool false, .bool false, .slice none 0 0] 40)).alloc (.cells D38 38)).alloc (.cells #[.string ⟨#[99]⟩, .slice (some ⟨w.heap.size + 1, 0, none⟩) 2 2, .slice ao xs.length cap] 25)).alloc (.cells (D44 X Y) 44))) := K4
  clear hX hY hE hx hT hlx K4 b1 b3
  go_enter Tryz.func8, Tryz.ntmps8
  go_wp2_with fail
  refine hV.mono ?_
  rintro e w5 ⟨vl, ⟨a9, n9, c9, rfl⟩, rfl, k5⟩
  have g0 : w5.cell? ⟨w.heap.size, 0, none⟩ = some (.bool false) := k5.cell' (by go_simp) (by simp)
  have g1 : w5.cell? ⟨w.heap.size, 1, none⟩ = some (.bool false) := k5.cell' (by go_simp) (by simp)
  have g2 : w5.cell? ⟨w.heap.size, 2, none⟩ = some (.slice none 0 0) := k5.cell' (by go_simp) (by simp)
  have f0 : w5.frozen? ⟨w.heap.size, 0, none⟩ = false := (k5.frozen (by simp only [World.size_alloc]; omega) (by simp)).trans (by go_simp)
  have f1 : w5.frozen? ⟨w.heap.size, 1, none⟩ = false := (k5.frozen (by simp only [World.size_alloc]; omega) (by simp)).trans (by go_simp)
  have f2 : w5.frozen? ⟨w.heap.size, 2, none⟩ = false := (k5.frozen (by simp only [World.size_alloc]; omega) (by simp)).trans (by go_simp)
  have HK5 : Hid (Keep [] w w5) := HK4.out.trans' k5
  have hlt : w.heap.size < w5.heap.size := by have := k5.size; simp at this; omega
  clear k5 hV HK4
  have s0 : (((w5.setCell ⟨w.heap.size, 0, none⟩ (.bool f.kn)).setCell ⟨w.heap.size, 1, none⟩ (.bool f.mt)).setCell ⟨w.heap.size, 2, none⟩ (.slice a9 n9 c9)).cell? ⟨w.heap.size, 0, none⟩ = some (.bool f.kn) := by simp [go_sem, g0]
  have m0 := (Keep.alloc1 (((w5.setCell ⟨w.heap.size, 0, none⟩ (.bool f.kn)).setCell ⟨w.heap.size, 1, none⟩ (.bool f.mt)).setCell ⟨w.heap.size, 2, none⟩ (.slice a9 n9 c9)) (.cells #[.bool f.kn, .bool f.mt, .slice a9 n9 c9] 40)).cell' s0 (by simp)
  have s1 : (((w5.setCell ⟨w.heap.size, 0, none⟩ (.bool f.kn)).setCell ⟨w.heap.size, 1, none⟩ (.bool f.mt)).setCell ⟨w.heap.size, 2, none⟩ (.slice a9 n9 c9)).cell? ⟨w.heap.size, 1, none⟩ = some (.bool f.mt) := by simp [go_sem, g1]
  have m1 := (Keep.alloc1 (((w5.setCell ⟨w.heap.size, 0, none⟩ (.bool f.kn)).setCell ⟨w.heap.size, 1, none⟩ (.bool f.mt)).setCell ⟨w.heap.size, 2, none⟩ (.slice a9 n9 c9)) (.cells #[.bool f.kn, .bool f.mt, .slice a9 n9 c9] 40)).cell' s1 (by simp)
  have s2 : (((w5.setCell ⟨w.heap.size, 0, none⟩ (.bool f.kn)).setCell ⟨w.heap.size, 1, none⟩ (.bool f.mt)).setCell ⟨w.heap.size, 2, none⟩ (.slice a9 n9 c9)).cell? ⟨w.heap.size, 2, none⟩ = some (.slice a9 n9 c9) := by simp [go_sem, g2]
  have m2 := (Keep.alloc1 (((w5.setCell ⟨w.heap.size, 0, none⟩ (.bool f.kn)).setCell ⟨w.heap.size, 1, none⟩ (.bool f.mt)).setCell ⟨w.heap.size, 2, none⟩ (.slice a9 n9 c9)) (.cells #[.bool f.kn, .bool f.mt, .slice a9 n9 c9] 40)).cell' s2 (by simp)
  clear s0 s1 s2
  go_wp2
  refine bodyPost_ret (v := .agg #[.bool f.kn, .bool f.mt, .slice a9 n9 c9]) (by simp [results, Tryz.results8, go_sem, m0, m1, m2]) rfl ⟨.slice a9 n9 c9, ⟨_, _, _, rfl⟩, rfl, ?_⟩
  repeat (first | exact HK5.out | refine Keep.alloc ?_ _ | refine Keep.setCell ?_ (.inr (by simp)) _)
end Go.Proofs.YtplbclokoffgkaaGreatDoor
