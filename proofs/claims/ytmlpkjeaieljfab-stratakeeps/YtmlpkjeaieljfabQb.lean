/- The library's search and insert, at a list of numbers of one's own. -/
import Derived.Test.YtmlpkjeaieljfabRg

namespace Go.Proofs.Ytmlpkjeaieljfab
open Go.RowKit Go.PlainAid Go.Sort Go.Shelf

/-- cells written into a block -/
theorem blk_set (g : Nat) (t : TypeId) : ∀ (vs : List Value) (o : Nat) (w : World) (l : List Value), w.heap[g]? = some (.cells l.toArray t (0, 0)) → o + vs.length ≤ l.length →
    (w.setCells g o vs).heap[g]? = some (.cells (l.take o ++ vs ++ l.drop (o + vs.length)).toArray t (0, 0)) ∧ Keep [g] w (w.setCells g o vs)
  | [], o, w, l, h, _ => by
    refine ⟨?_, Keep.refl _ _⟩
    rw [List.length_nil, Nat.add_zero, List.append_nil, List.take_append_drop]
    exact h
  | v :: vs, o, w, l, h, hl => by
    rw [List.length_cons] at hl
    have h1 : (w.setCell ⟨g, o, none⟩ v).heap[g]? = some (.cells (l.set o v).toArray t (0, 0)) := by
      have := heap_setCell_same w g o l.toArray t v h
      rw [this]
      simp
    obtain ⟨h2, h3⟩ := blk_set g t vs (o + 1) (w.setCell ⟨g, o, none⟩ v) (l.set o v) h1 (by rw [List.length_set]; omega)
    refine ⟨?_, (Keep.set1 w ⟨g, o, none⟩ v).trans' h3⟩
    show (((w.setCell ⟨g, o, none⟩ v).setCells g (o + 1) vs).heap[g]?) = _
    rw [h2]
    have e1 : (l.set o v).take (o + 1) = l.take o ++ [v] := by
      rw [List.take_set, List.take_add_one, List.getElem?_eq_getElem (by omega)]
      simp only [Option.toList_some]
      rw [List.set_append_right _ _ (by rw [List.length_take]; omega), List.length_take, Nat.min_eq_left (by omega), Nat.sub_self]
      rfl
    have e2 : (l.set o v).drop (o + 1 + vs.length) = l.drop (o + (v :: vs).length) := by
      rw [List.drop_set_of_lt (by omega), List.length_cons, show o + 1 + vs.length = o + (vs.length + 1) by omega]
    rw [e1, e2]
    simp

theorem sl_free {w : World} {g : Nat} {l : List Value} {t : TypeId} (h : w.heap[g]? = some (.cells l.toArray t (0, 0))) (j : Nat) : w.frozen? ⟨g, j, none⟩ = false := by
  simp [World.frozen?, h]

theorem shift_eq (cur M : List Value) (i : Nat) (u : Value) (h : cur.take M.length = M) (hi : i < M.length) (hr : M.length + 1 ≤ cur.length) :
    ((cur.take (i + 1) ++ M.drop i ++ cur.drop (i + 1 + (M.drop i).length)).take i ++ [u] ++ (cur.take (i + 1) ++ M.drop i ++ cur.drop (i + 1 + (M.drop i).length)).drop (i + [u].length)).take (M.length + 1) = M.take i ++ [u] ++ M.drop i := by
  have e1 : (cur.take (i + 1) ++ M.drop i ++ cur.drop (i + 1 + (M.drop i).length)).take i = M.take i := by
    rw [List.append_assoc, List.take_append_of_le_length (by rw [List.length_take]; omega), List.take_take, Nat.min_eq_left (by omega)]
    conv => rhs; rw [← h]
    rw [List.take_take, Nat.min_eq_left (by omega)]
  have e2 : (cur.take (i + 1) ++ M.drop i ++ cur.drop (i + 1 + (M.drop i).length)).drop (i + [u].length) = M.drop i ++ cur.drop (i + 1 + (M.drop i).length) := by
    rw [List.append_assoc]
    exact List.drop_left' (by rw [List.length_take]; simp; omega)
  rw [e1, e2, ← List.append_assoc]
  exact List.take_left' (by simp; omega)
theorem grow_eq (M Z : List Value) (i : Nat) (u : Value) (hi : i < M.length) :
    (((M.take i ++ Z).take i ++ [u] ++ (M.take i ++ Z).drop (i + [u].length)).take (i + 1)) ++ M.drop i ++ (((M.take i ++ Z).take i ++ [u] ++ (M.take i ++ Z).drop (i + [u].length)).drop (i + 1 + (M.drop i).length)) = (M.take i ++ [u] ++ M.drop i) ++ Z.drop (M.length + 1 - i) := by
  have l1 : (M.take i).length = i := by rw [List.length_take]; omega
  have e1 : (M.take i ++ Z).take i = M.take i := List.take_left' l1
  have e2 : (M.take i ++ Z).drop (i + [u].length) = Z.drop 1 := by
    rw [List.drop_append, List.drop_eq_nil_of_le (by rw [l1]; simp), List.nil_append, l1]
    congr 1
    simp
  have l2 : (M.take i ++ [u]).length = i + 1 := by rw [List.length_append, l1]; rfl
  have e3 : (M.take i ++ [u] ++ Z.drop 1).drop (i + 1 + (M.drop i).length) = Z.drop (M.length + 1 - i) := by
    have l3 : (M.drop i).length = M.length - i := List.length_drop
    rw [l3, List.drop_append, List.drop_eq_nil_of_le (by rw [l2]; omega), List.nil_append, l2, List.drop_drop]
    congr 1
    omega
  rw [e1, e2, List.take_left' l2, e3]

/-- a slice with something inserted -/
def InsR (w w' : World) (v : Value) (W : List Nat) (i r : Nat) (v' : Value) : Prop := RowC w' 3 1 v' (W.length + 1) ((W.take i ++ r :: W.drop i).flatMap encN) ∧ Keep v.ownBlock.toList w w' ∧ (v'.ownBlock = v.ownBlock ∨ Fresh w w' v') ∧ Sl v' (W.length + 1)

theorem eN_one (W : List Nat) : ∀ v ∈ W.map eN, v.oneCell' = true := fun v hv => by
  obtain ⟨x, _, rfl⟩ := List.mem_map.1 hv
  rfl

theorem ins_any (v : Value) (W : List Nat) (r i vb : Nat) (w : World) (h : Rw 3 encN 1 w v W) (hi : i ≤ W.length) (hl : W.length ≤ 100000) (hb : Bx w vb 3 (.int .i64 (r : Int))) (hoff : v.ownBlock ≠ some vb) :
    Calls Try.prog 72 #[v, .int .i64 (i : Int), .slice (some ⟨vb, 0, none⟩) 1 1] w fun e w' => ∃ v', e = .returned v' ∧ InsR w w' v W i r v' := by
  have hvs : ∀ (j : Nat) (u : Value), [Value.int .i64 (r : Int)][j]? = some u → w.cell? ⟨vb, 0 + j, none⟩ = some u := fun j u hj => by
    rw [List.getElem?_singleton] at hj
    split at hj
    · rename_i e
      subst e
      rw [← hj]
      exact hb.cell
    · cases hj
  have h1v : ∀ u ∈ [Value.int .i64 (r : Int)], u.oneCell' = true := fun u hu => by
    simp at hu; subst hu; rfl
  have hflat : ∀ l : List Nat, l.flatMap encN = l.map eN := map_encN
  have hlen : ∀ l : List Nat, (l.map eN).length = l.length := fun l => by simp
  have t3 : Try.insInt_ren.t 3 = 3 := rfl
  unfold InsR
  rw [hflat]
  have hins : (W.take i ++ r :: W.drop i).map eN = (W.map eN).take i ++ [Value.int .i64 (r : Int)] ++ (W.map eN).drop i := by
    simp [eN, List.map_take, List.map_drop]
  have hil : ((W.map eN).take i ++ [Value.int .i64 (r : Int)] ++ (W.map eN).drop i).length = W.length + 1 := by simp; omega
  rw [hins]
  have hml : W.length + 1 ≤ maxLen := by simp only [maxLen]; omega
  have grow : ∀ (c : Nat) (w2 : World) (l : List Value), w2.heap[w.heap.size]? = some (.cells (((W.map eN).take i ++ [Value.int .i64 (r : Int)] ++ (W.map eN).drop i) ++ l).toArray 3 (0, 0)) → l.length = c - (W.length + 1) → W.length + 1 ≤ c → c ≤ maxLen → RowC w2 3 1 (.slice (some ⟨w.heap.size, 0, none⟩) (W.length + 1) c) (W.length + 1) ((W.map eN).take i ++ [Value.int .i64 (r : Int)] ++ (W.map eN).drop i) := fun c w2 l h1 h2 h3 h4 => by
    refine ⟨by rw [hil]; omega, .inr ⟨_, c, _, rfl, Nat.zero_le _, h1, h3, h4, ?_, ?_⟩⟩
    · rw [List.size_toArray, List.length_append, hil]; omega
    · simp only []
      rw [List.take_append_of_le_length (by rw [hil]; omega), List.take_of_length_le (by rw [hil]; omega)]
  have fresh : ∀ (c : Nat) (w2 : World), w.heap.size < w2.heap.size → Fresh w w2 (.slice (some ⟨w.heap.size, 0, none⟩) (W.length + 1) c) := fun c w2 h1 k hk => by
    simp [Value.ownBlock] at hk
    omega
  have hown := h
  unfold Rw at hown
  rw [hflat] at hown
  rcases hown.2 with ⟨hv, _⟩ | ⟨g, cap, cur, rfl, _, hg, hnc, hcm, hcs, htake⟩
  · rcases h.cases encN_len with ⟨rfl, rfl⟩ | ⟨g, cap, e, _⟩
    · obtain rfl : i = 0 := by simpa using hi
      have hc := Any2.slices_Insert_int_end_grow Try.insInt none 0 0 vb 0 1 1 [] [.int .i64 (r : Int)] w (by omega) (by omega) (by omega) (by omega) rfl rfl (fun _ => rfl) (fun a e => by cases e) hvs h1v
      rw [t3] at hc
      refine Calls.mono hc ?_
      rintro e w' ⟨rfl, rfl⟩
      have hge := grownCap_ge w 1 0 3
      have hcm := grownCap_le_maxLen w 1 0 3 hml
      refine ⟨_, rfl, grow (grownCap w 1 0 3) _ (Builtin.zeroCells (Value.int .i64 0).cells (grownCap w 1 0 3 - 1)).toList ?_ ?_ hge hcm, (((Keep.refl _ w).drew).alloc _), .inr (fresh _ _ (by simp)), ⟨_, _, rfl⟩⟩
      · refine (heap_alloc_new w.drew _).trans ?_
        simp
      · simp [size_zeroCells, Value.cells]
    · rw [hv] at e; simp at e
  · have hgv : g ≠ vb := fun e => hoff (by simp [Value.ownBlock, e])
    have hgl : w.heap[g]? = some (.cells cur.toList.toArray 3 (0, 0)) := by simpa using hg
    have hcl : cur.toList.length = cap := by rw [Array.length_toList, hcs]; omega
    rw [Nat.mul_one] at htake
    have hcell : ∀ (j : Nat) (u : Value), (W.map eN)[j]? = some u → w.cell? ⟨g, 0 + j, none⟩ = some u := fun j u hj => by
      rw [Nat.zero_add, blk_cell hgl j]
      have hj2 : j < W.length := by have := (List.getElem?_eq_some_iff.1 hj).1; simpa using this
      rw [← htake, List.getElem?_take_of_lt hj2] at hj
      exact hj
    have hfree := sl_free hgl
    have hcap : cap ≤ 9223372036854775807 := by simp only [maxLen] at hcm; omega
    by_cases hroom : W.length + 1 ≤ cap
    · have hsp : ∀ j, j < W.length + 1 → (w.cell? ⟨g, 0 + j, none⟩).isSome = true := fun j hj => by
        rw [Nat.zero_add, blk_cell hgl j, List.getElem?_eq_getElem (by omega)]; rfl
      by_cases hin : i < W.length
      · have hc := Any2.slices_Insert_int_shift Try.insInt g 0 W.length cap i vb 0 1 1 (W.map eN) [.int .i64 (r : Int)] w hin (by omega) hroom hcap (fun e => hgv e.symm) (by simp) rfl hcell hsp (fun j _ => hfree _) hvs (eN_one W) h1v 3 3 1 cap (by simp [World.shape?, show w.heap[vb]? = _ from hb]) (by simp [World.shape?, hg, hcs]) (by omega) hb.free (sl_free (l := [.int .i64 (r : Int)]) hb _)
        refine Calls.mono hc ?_
        rintro e w' ⟨rfl, rfl⟩
        have hd : ((W.map eN).drop i).length = W.length - i := by simp
        obtain ⟨b1, k1⟩ := blk_set g 3 ((W.map eN).drop i) (0 + (i + 1)) w.drew cur.toList hgl (by rw [hd]; omega)
        obtain ⟨b2, k2⟩ := blk_set g 3 [.int .i64 (r : Int)] (0 + i) _ _ b1 (by simp; omega)
        refine ⟨_, rfl, ⟨by rw [hil]; omega, .inr ⟨g, cap, _, rfl, Nat.zero_le _, b2, hroom, hcm, ?_, ?_⟩⟩, ?_, .inl rfl, ⟨_, _, rfl⟩⟩
        · simp [hcs]; omega
        · simp only [Nat.zero_add, Nat.mul_one]
          have hh := shift_eq cur.toList (W.map eN) i (.int .i64 (r : Int)) (by rw [hlen]; exact htake) (by rw [hlen]; exact hin) (by rw [hlen]; omega)
          rw [hlen] at hh
          exact hh
        · exact ((Keep.refl _ w).drew.trans' k1).trans' k2
      · obtain rfl : i = W.length := by omega
        have hc := Any2.slices_Insert_int_end_room Try.insInt g 0 W.length cap vb 0 1 1 [.int .i64 (r : Int)] w (by omega) hroom hcap rfl (fun j hj => by rw [Nat.add_assoc]; exact hsp _ (by omega)) (fun j _ => hfree _) hvs h1v
        refine Calls.mono hc ?_
        rintro e w' ⟨rfl, rfl⟩
        obtain ⟨b1, k1⟩ := blk_set g 3 [.int .i64 (r : Int)] (0 + W.length) w cur.toList hgl (by simp; omega)
        refine ⟨_, rfl, ⟨by rw [hil]; omega, .inr ⟨g, cap, _, rfl, Nat.zero_le _, b1, hroom, hcm, ?_, ?_⟩⟩, k1, .inl rfl, ⟨_, _, rfl⟩⟩
        · simp [hcs]; omega
        · simp only [Nat.zero_add, Nat.mul_one]
          rw [htake, List.take_append_of_le_length (by simp), List.take_of_length_le (by simp), List.take_of_length_le (by simp), List.drop_eq_nil_of_le (by simp), List.append_nil]
    · by_cases hin : i < W.length
      · have hc := Any2.slices_Insert_int_grow Try.insInt g 0 W.length cap i vb 0 1 1 (W.map eN) [.int .i64 (r : Int)] w hin (by omega) hnc (by omega) (by omega) (by simp) rfl hcell hvs (eN_one W) h1v
        rw [t3] at hc
        refine Calls.mono hc ?_
        rintro e w' ⟨rfl, rfl⟩
        have hge := grownCap_ge w (W.length + 1) cap 3
        have hcm := grownCap_le_maxLen w (W.length + 1) cap 3 hml
        obtain ⟨Z, hZ⟩ : ∃ Z : List Value, Z = (Builtin.zeroCells (Value.int .i64 0).cells (W.length + 1 - i)).toList ++ (Builtin.zeroCells (Value.int .i64 0).cells (grownCap w (W.length + 1) cap 3 - (W.length + 1))).toList := ⟨_, rfl⟩
        have hZl : Z.length = W.length + 1 - i + (grownCap w (W.length + 1) cap 3 - (W.length + 1)) := by rw [hZ]; simp [size_zeroCells, Value.cells]
        have b0 := heap_alloc_new w (.cells ((W.map eN).take i ++ Z).toArray 3 (0, 0))
        have e0 : ((W.map eN).take i).toArray ++ Builtin.zeroCells (Value.int .i64 0).cells (W.length + 1 - i) ++ Builtin.zeroCells (Value.int .i64 0).cells (grownCap w (W.length + 1) cap 3 - (W.length + 1)) = ((W.map eN).take i ++ Z).toArray := by
          rw [hZ]; simp
        rw [e0]
        obtain ⟨b1, k1⟩ := blk_set w.heap.size 3 [.int .i64 (r : Int)] i (w.alloc (.cells ((W.map eN).take i ++ Z).toArray 3 (0, 0))).drew _ b0 (by simp; omega)
        obtain ⟨b2, k2⟩ := blk_set w.heap.size 3 ((W.map eN).drop i) (i + 1) (((w.alloc (.cells ((W.map eN).take i ++ Z).toArray 3 (0, 0))).drew.setCells w.heap.size i [.int .i64 (r : Int)]).drew) _ b1 (by simp; omega)
        rw [grow_eq _ _ _ _ (by rw [hlen]; exact hin)] at b2
        have kk : Keep [] w ((((w.alloc (.cells ((W.map eN).take i ++ Z).toArray 3 (0, 0))).drew.setCells w.heap.size i [.int .i64 (r : Int)]).drew).setCells w.heap.size (i + 1) ((W.map eN).drop i)) := by
          refine ((((Keep.alloc1 w _).drew.more k1 (fun x hx => .inr ?_)).drew).more k2 (fun x hx => .inr ?_))
          · simp at hx; omega
          · simp at hx; omega
        refine ⟨_, rfl, grow (grownCap w (W.length + 1) cap 3) _ _ b2 ?_ hge hcm, kk.mono (fun _ h => by cases h), .inr (fresh _ _ (Nat.lt_of_lt_of_le (Nat.lt_of_lt_of_le (by simp) k1.size) k2.size)), ⟨_, _, rfl⟩⟩
        rw [List.length_drop, hlen, hZl]
        omega
      · obtain rfl : i = W.length := by omega
        have hc := Any2.slices_Insert_int_end_grow Try.insInt (some ⟨g, 0, none⟩) W.length cap vb 0 1 1 (W.map eN) [.int .i64 (r : Int)] w (by omega) hnc (by omega) (by omega) (by simp) rfl (fun e => by cases e) (fun a e j u hj => by cases e; rw [Addr.add_lit]; exact hcell j u hj) hvs h1v
        rw [t3] at hc
        refine Calls.mono hc ?_
        rintro e w' ⟨rfl, rfl⟩
        have hge := grownCap_ge w (W.length + 1) cap 3
        have hcm := grownCap_le_maxLen w (W.length + 1) cap 3 hml
        refine ⟨_, rfl, grow (grownCap w (W.length + 1) cap 3) _ (Builtin.zeroCells (Value.int .i64 0).cells (grownCap w (W.length + 1) cap 3 - (W.length + 1))).toList ?_ ?_ hge hcm, (((Keep.refl _ w).drew).alloc _), .inr (fresh _ _ (by simp)), ⟨_, _, rfl⟩⟩
        · refine (heap_alloc_new w.drew _).trans ?_
          rw [List.take_of_length_le (by simp), List.drop_eq_nil_of_le (by simp), List.append_nil]
          simp
        · simp [size_zeroCells, Value.cells]

instance : Inhabited Nat := ⟨0⟩
/-- the comparison of the search: the greater one comes ahead -/
theorem cmpR_any (x r : Int) (w : World) : Calls Try.prog 71 #[.int .i64 x, .int .i64 r] w fun e w' => e = .returned (.int .i64 (Lib.compareInt r x)) ∧ w' = w := by
  have HC : Hid (∀ w, Calls Try.prog 37 #[.int .i64 r, .int .i64 x] w fun e w' => e = .returned (.int .i64 (Lib.compareInt r x)) ∧ w' = w) := fun w => compare_any r x w
  go_enter Try.func71, Try.ntmps71
  go_wp2_with (go_at_call 37; refine (HC.out _).mono ?_; rintro e w' ⟨rfl, rfl⟩)
  go_ret
  exact ⟨rfl, rfl⟩

/-- where r comes in a falling list -/
def ptW (W : List Nat) (r : Nat) : Nat := W.countP (fun x => decide (r < x))

theorem search_any (v : Value) (W : List Nat) (r : Nat) (w : World) (h : Rw 3 encN 1 w v W) (hd : W.Pairwise (· ≥ ·)) (hl : W.length ≤ 100000) :
    Calls Try.prog 70 #[v, .int .i64 (r : Int), .func (.func 71) #[] #[]] w fun e w' => ∃ b, e = .returned (.tuple #[.int .i64 (ptW W r : Int), .bool b]) ∧ Keep [] w w' := by
  rcases h.cases encN_len with ⟨rfl, rfl⟩ | ⟨g, cap, rfl, h1, h2, h3, h4, h5⟩
  · have hc := Any.slices_BinarySearchFunc_none Try.searchInt none 0 (.int .i64 (r : Int)) (.func (.func 71) #[] #[]) w
    refine Calls.mono hc ?_
    rintro e w' ⟨rfl, rfl⟩
    exact ⟨false, rfl, Keep.refl _ _⟩
  · have hlt : ∀ x : Nat, (Lib.compareInt (r : Int) (x : Int) < 0) ↔ r < x := fun x => by
      rcases cmp3 (r : Int) (x : Int) with ⟨a, b⟩ | ⟨a, b⟩ | ⟨a, b⟩ <;> rw [b] <;> omega
    have hH : Holds eN w g 0 W.toArray := fun j hj => by
      have hj' : j < W.length := by simpa using hj
      have := h4 j hj' 0 (by omega)
      refine ⟨?_, h5 _⟩
      rw [Nat.zero_add]
      rw [Nat.mul_one, Nat.add_zero] at this
      rw [this, getElem!_pos _ j hj]
      rfl
    have hc := Any.slices_BinarySearchFunc Try.searchInt eN (fun _ => rfl) (.int .i64 (r : Int)) (fun x => Lib.compareInt (r : Int) (x : Int)) 71 #[] g 0 cap W.toArray w (enters_of Try.func71 (by kernel_rfl) rfl)
      (fun m os dk hs x => (cmpR_any (x : Int) (r : Int) _).mono (fun e w' h => by
        obtain ⟨rfl, rfl⟩ := h
        exact ⟨rfl, 0, #[], by simp [World.drewN]⟩)) hH h3 (by simp; omega) (fun a b hab hb hx => by
        have hb' : b < W.length := by simpa using hb
        rw [getElem!_pos _ b hb] at hx
        rw [getElem!_pos _ a (by omega)]
        simp only [hlt] at hx ⊢
        by_cases e : a = b
        · subst e; exact hx
        · have := List.pairwise_iff_getElem.1 hd a b (by omega) hb' (by omega)
          simp at hx ⊢
          omega)
    refine Calls.mono hc ?_
    rintro e w' ⟨rfl, m, os, rfl⟩
    have hp : (W.toArray.toList.countP (fun x : Nat => decide (Lib.compareInt (r : Int) (x : Int) < 0))) = ptW W r := by
      unfold ptW
      congr 1
      funext x
      simp only [hlt]
    refine ⟨_, by rw [hp], ?_⟩
    have hs : sortWorld eN w g 0 m W.toArray os = grow (Sort.ahead w m) os := by
      unfold sortWorld
      rw [putRow_self eN (Sort.ahead w m) g 0 W.toArray hH]
    rw [hs]
    exact ⟨rfl, rfl, rfl, by show w.heap.size ≤ (w.heap ++ os).size; simp, fun k hk _ => by show (w.heap ++ os)[k]? = _; rw [Array.getElem?_append_left hk]⟩
end Go.Proofs.Ytmlpkjeaieljfab

/- What waits: queue's closures wait and take. -/
namespace Go.Proofs.Ytmlpkjeaieljfab
open Go.RowKit Go.PlainAid Go.Sort Go.Shelf

/-- r put into a falling list -/
def insW (W : List Nat) (r : Nat) : List Nat := W.take (ptW W r) ++ r :: W.drop (ptW W r)
theorem ptW_le (W : List Nat) (r : Nat) : ptW W r ≤ W.length := List.countP_le_length
theorem insW_len (W : List Nat) (r : Nat) : (insW W r).length = W.length + 1 := by
  have := ptW_le W r
  simp [insW]
  omega
theorem insW_mem (W : List Nat) (r x : Nat) : x ∈ insW W r ↔ x = r ∨ x ∈ W := by
  unfold insW
  rw [List.mem_append, List.mem_cons]
  conv => rhs; rw [← List.take_append_drop (ptW W r) W, List.mem_append]
  constructor
  · rintro (h | h | h)
    · exact .inr (.inl h)
    · exact .inl h
    · exact .inr (.inr h)
  · rintro (h | h | h)
    · exact .inr (.inl h)
    · exact .inl h
    · exact .inr (.inr h)
theorem insW_cons (x : Nat) (W : List Nat) (r : Nat) (h : (x :: W).Pairwise (· ≥ ·)) : insW (x :: W) r = if r < x then x :: insW W r else r :: x :: W := by
  by_cases hx : r < x
  · rw [if_pos hx]
    unfold insW ptW
    rw [List.countP_cons_of_pos (by simpa using hx)]
    simp
  · rw [if_neg hx]
    have h0 : ptW (x :: W) r = 0 := by
      unfold ptW
      rw [List.countP_eq_zero]
      intro y hy
      simp at hy
      rcases hy with rfl | hy
      · simpa using hx
      · have := (List.pairwise_cons.1 h).1 y hy
        simp
        omega
    unfold insW
    rw [h0]
    rfl
theorem insW_fall : ∀ (W : List Nat) (r : Nat), W.Pairwise (· > ·) → r ∉ W → (insW W r).Pairwise (· > ·)
  | [], r, _, _ => by simp [insW, ptW]
  | x :: W, r, h, hr => by
    rw [insW_cons x W r (h.imp (fun {a b} hab => Nat.le_of_lt hab))]
    simp at hr
    have hc := List.pairwise_cons.1 h
    split
    · rename_i hx
      refine List.pairwise_cons.2 ⟨fun y hy => ?_, insW_fall W r hc.2 hr.2⟩
      rcases (insW_mem W r y).1 hy with rfl | hy
      · exact hx
      · exact hc.1 y hy
    · rename_i hx
      refine List.pairwise_cons.2 ⟨fun y hy => ?_, h⟩
      simp at hy
      rcases hy with rfl | hy
      · omega
      · have := hc.1 y hy
        omega

theorem insW_weak : ∀ (W : List Nat) (r : Nat), W.Pairwise (· ≥ ·) → (insW W r).Pairwise (· ≥ ·)
  | [], r, _ => by simp [insW, ptW]
  | x :: W, r, h => by
    rw [insW_cons x W r h]
    have hc := List.pairwise_cons.1 h
    split
    · rename_i hx
      refine List.pairwise_cons.2 ⟨fun y hy => ?_, insW_weak W r hc.2⟩
      rcases (insW_mem W r y).1 hy with rfl | hy
      · exact Nat.le_of_lt hx
      · exact hc.1 y hy
    · rename_i hx
      refine List.pairwise_cons.2 ⟨fun y hy => ?_, h⟩
      simp at hy
      rcases hy with rfl | hy
      · omega
      · have := hc.1 y hy
        omega

theorem Wt.ins {B : Nat} {w w' : World} {bw : Nat} {W : List Nat} {v v' : Value} {r : Nat} (hbw : bw < B) (hB : B ≤ w.heap.size) (hbx : Bx w bw 28 v) (hv : ∀ x, v.ownBlock = some x → B ≤ x) (hr0 : Rw 3 encN 1 w v W) (hi : InsR w w' v W (ptW W r) r v') : Wt B (w'.setCell ⟨bw, 0, none⟩ v') bw (insW W r) ∧ Kp B [bw] w (w'.setCell ⟨bw, 0, none⟩ v') ∧ Bx w' bw 28 v := by
  obtain ⟨hr, hk, hf, -⟩ := hi
  have hb' : ∀ x, v'.ownBlock = some x → B ≤ x := fun x hx => by
    rcases hf with e | e
    · rw [e] at hx; exact hv x hx
    · have := (e x hx).1; omega
  have hnb : bw ∉ v.ownBlock.toList := fun hm => by
    have := hv bw (by simpa using hm)
    omega
  have hx' : Bx w' bw 28 v := hbx.keep hk hnb
  refine ⟨⟨v', hx'.set v', ?_, hb'⟩, ?_, hx'⟩
  · unfold Rw
    rw [insW_len]
    exact RowC.keep hr (Keep.set1 w' ⟨bw, 0, none⟩ v') (fun x hx hm => by have := hb' x hx; simp at hm; omega)
  · refine (Kp.of hk hB (fun x hx => .inr (hv x (by simpa using hx))) (RowC.isC hr0)).trans (Kp.of (Keep.set1 w' ⟨bw, 0, none⟩ v') (Nat.le_trans hB hk.size) (fun x hx => .inl (by simpa using hx)) (fun x hx => by simp at hx; subst hx; exact hx'.isC))

set_option maxRecDepth 1000000 in
set_option maxHeartbeats 1000000 in
theorem wait_any {B bw : Nat} (r : Nat) (W : List Nat) (w : World) (hW : Wt B w bw W) (hf : W.Pairwise (· ≥ ·)) (hl : W.length ≤ 100000) (hbw : bw < B) (hB : B ≤ w.heap.size) :
    Calls Try.prog 69 #[.int .i64 (r : Int), .pointer (some ⟨bw, 0, none⟩)] w fun e w' => e = .returned (.tuple #[]) ∧ Wt B w' bw (insW W r) ∧ Kp B [bw] w w' := by
  obtain ⟨v, h1, h2, h3⟩ := hW.ex
  have c0 := h1.cell
  have HS : Hid (∀ (_ : True), Calls Try.prog 70 #[v, .int .i64 (r : Int), .func (.func 71) #[] #[]] w fun e w' => ∃ b, e = .returned (.tuple #[.int .i64 (ptW W r : Int), .bool b]) ∧ Keep [] w w') := fun _ => search_any v W r w h2 hf hl
  have H0 : Hid (Bx w bw 28 v ∧ Rw 3 encN 1 w v W ∧ ∀ x, v.ownBlock = some x → B ≤ x) := ⟨h1, h2, h3⟩
  have hpl := ptW_le W r
  clear h1 h2 h3 hW hf
  go_enter Try.func69, Try.ntmps69
  go_wp2_with fail
  refine (HS.out trivial).mono ?_
  rintro e w1 ⟨b, rfl, k1⟩
  have c1 : w1.cell? ⟨bw, 0, none⟩ = some v := k1.cell' c0 (by simp)
  have HI : Hid (∀ (_ : True), Calls Try.prog 72 #[v, .int .i64 (ptW W r : Int), .slice (some ⟨w1.heap.size, 0, none⟩) 1 1] (w1.alloc (.cells #[.int .i64 (r : Int)] 3 (0, 0))) fun e w' => ∃ v', e = .returned v' ∧ InsR (w1.alloc (.cells #[.int .i64 (r : Int)] 3 (0, 0))) w' v W (ptW W r) r v') := fun _ => by
    have h0 := H0.out
    refine ins_any v W r (ptW W r) w1.heap.size _ ((h0.2.1.keep k1 (Off.nil _)).keep (Keep.alloc1 w1 _) (Off.nil _)) hpl hl (heap_alloc_new w1 _) (fun e => ?_)
    have := h0.2.1.lt _ e
    have := k1.size
    omega
  have HJ : Hid (∀ w' v', InsR (w1.alloc (.cells #[.int .i64 (r : Int)] 3 (0, 0))) w' v W (ptW W r) r v' → Wt B (w'.setCell ⟨bw, 0, none⟩ v') bw (insW W r) ∧ Kp B [bw] w (w'.setCell ⟨bw, 0, none⟩ v') ∧ Bx w' bw 28 v) := fun w' v' hi => by
    have h0 := H0.out
    have k2 : Keep [] w (w1.alloc (.cells #[.int .i64 (r : Int)] 3 (0, 0))) := k1.alloc _
    have := Wt.ins hbw (Nat.le_trans hB k2.size) (h0.1.keep k2 (by simp)) h0.2.2 (h0.2.1.keep k2 (Off.nil _)) hi
    exact ⟨this.1, (Kp.of k2 hB (by simp)).trans this.2.1, this.2.2⟩
  clear H0 HS k1
  generalize ptW W r = p at HI HJ
  go_wp2_with fail
  refine (HI.out trivial).mono ?_
  rintro e w2 ⟨v', rfl, hi⟩
  have hj := HJ.out _ _ hi
  obtain ⟨a, c, rfl⟩ := hi.2.2.2
  have c2 := hj.2.2.cell
  have f2 := hj.2.2.free
  have H2 : Hid (Wt B (w2.setCell ⟨bw, 0, none⟩ (.slice a (W.length + 1) c)) bw (insW W r) ∧ Kp B [bw] w (w2.setCell ⟨bw, 0, none⟩ (.slice a (W.length + 1) c))) := ⟨hj.1, hj.2.1⟩
  clear hj hi HI HJ c0 c1
  go_wp2
  go_end0
  exact ⟨rfl, H2.out⟩

set_option maxRecDepth 1000000 in
theorem qtake_any {B bw : Nat} (k : Nat) (W : List Nat) (w : World) (hW : Wt B w bw (W ++ [k])) (hbw : bw < B) (hB : B ≤ w.heap.size) :
    Calls Try.prog 73 #[.pointer (some ⟨bw, 0, none⟩)] w fun e w' => e = .returned (.int .i64 (k : Int)) ∧ Wt B w' bw W ∧ Kp B [bw] w w' := by
  obtain ⟨g, cap, c0, f0, h1, h2, c1, h3, h4⟩ := hW.pop hbw hB
  have H3 : Hid (Wt B (w.setCell ⟨bw, 0, none⟩ (.slice (some ⟨g, 0, none⟩) W.length cap)) bw W ∧ Kp B [bw] w (w.setCell ⟨bw, 0, none⟩ (.slice (some ⟨g, 0, none⟩) W.length cap))) := ⟨h3, h4⟩
  clear h3 h4 hW
  have hl : (W.length : Int) < (W.length : Int) + 1 := by omega
  go_enter Try.func73, Try.ntmps73
  go_wp2
  go_ret
  exact ⟨rfl, H3.out⟩

set_option maxRecDepth 1000000 in
theorem queue_any (w : World) : Calls Try.prog 48 #[] w fun e w' => e = .returned (.tuple #[.func (.func 69) #[] #[.pointer (some ⟨w.heap.size, 0, none⟩)], .func (.func 73) #[] #[.pointer (some ⟨w.heap.size, 0, none⟩)]]) ∧ w' = w.alloc (.cells #[.slice none 0 0] 28) := by
  have hmf : ∀ (fn : Fn) (first cap : Array Value) (w : World), (Instr.makeFunc fn first cap).run Try.prog w = .ok (.func fn first cap) w := fun _ _ _ _ => rfl
  go_enter Try.func48, Try.ntmps48
  go_wp2
  go_ret2
  exact ⟨rfl, rfl⟩
end Go.Proofs.Ytmlpkjeaieljfab

