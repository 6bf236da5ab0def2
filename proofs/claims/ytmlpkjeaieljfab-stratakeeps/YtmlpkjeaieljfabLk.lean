/- What is lent: LentArcs, LentInts; mark, CopyArcs. -/
import Derived.Test.YtmlpkjeaieljfabSp
namespace Go.Proofs.Ytmlpkjeaieljfab
open Go.RowKit Go.PlainAid

/-- a list of one's own, new since w -/
structure Ow {α : Type} (E : TypeId) (enc : α → List Value) (k : Nat) (w wr : World) (v : Value) (l : List α) : Prop where
  row : Rw E enc k wr v l
  keep : Keep [] w wr
  new : ∀ x, v.ownBlock = some x → w.heap.size ≤ x
theorem Ow.nil {α : Type} {E : TypeId} {enc : α → List Value} {k : Nat} {w wr : World} (h : Keep [] w wr) : Ow E enc k w wr (.slice none 0 0) [] := ⟨Rw.nil E enc k wr, h, fun x hx => by simp [Value.ownBlock] at hx⟩
theorem Ow.step {α : Type} {E : TypeId} {enc : α → List Value} {k : Nat} {w wr wr' : World} {v : Value} {l : List α} (h : Ow E enc k w wr v l) (kp : Keep [] wr wr') : Ow E enc k w wr' v l := ⟨h.row.keep kp (Off.nil _), h.keep.trans' kp, h.new⟩
theorem Ow.fresh {α : Type} {E : TypeId} {enc : α → List Value} {k : Nat} {w wr : World} {v : Value} {l : List α} (h : Ow E enc k w wr v l) : Fresh w wr v := fun x hx => ⟨h.new x hx, h.row.lt x hx⟩
theorem Ow.push {α : Type} {E : TypeId} {enc : α → List Value} {k : Nat} {w wr wr' : World} {v v' : Value} {l : List α} {x : α} {o : Obj} (h : Ow E enc k w wr v l) (hr : RowC wr' E k v' (l.length + 1) (l.flatMap enc ++ enc x)) (hk : Keep v.ownBlock.toList (wr.alloc o) wr') (hf : v'.ownBlock = v.ownBlock ∨ Fresh (wr.alloc o) wr' v') : Ow E enc k w wr' v' (l ++ [x]) := by
  refine ⟨?_, (h.keep.alloc o).more hk (fun y hy => .inr (h.new y (by simpa using hy))), fun y hy => ?_⟩
  · unfold Rw
    rw [List.length_append, List.flatMap_append, List.flatMap_cons, List.flatMap_nil, List.append_nil]
    exact hr
  · rcases hf with e | e
    · rw [e] at hy; exact h.new y hy
    · have := (e y hy).1
      have := h.keep.size
      simp at *
      omega

theorem src_az (w : World) (x : Az) : Src Try.prog 3 22 (.slice (some ⟨w.heap.size, 0, none⟩) 1 1) 1 (encZ x) (w.alloc (.cells #[.int .i64 x.f, .int .i64 x.t, .bool x.g] 31 (0, 0))) := by
  refine Src.ofSlice _ Try.underlying22 ⟨w.heap.size, 0, none⟩ 1 1 (encZ x) rfl (fun j u hu => ?_) (fun u hu => ?_)
  · have hadd : (⟨w.heap.size, 0, none⟩ : Addr).add j = ⟨w.heap.size, 0 + j, none⟩ := by unfold Addr.add; split <;> simp_all
    have hb := heap_alloc_new w (.cells #[.int .i64 x.f, .int .i64 x.t, .bool x.g] 31 (0, 0))
    rw [hadd, Nat.zero_add]
    simp only [World.cell?, hb]
    simpa [encZ] using hu
  · simp [encZ] at hu
    rcases hu with rfl | rfl | rfl <;> rfl
theorem src_iz (w : World) (x : Int) : Src Try.prog 1 28 (.slice (some ⟨w.heap.size, 0, none⟩) 1 1) 1 (encI x) (w.alloc (.cells #[.int .i64 x] 3 (0, 0))) := by
  refine Src.ofSlice _ Try.underlying28 ⟨w.heap.size, 0, none⟩ 1 1 (encI x) rfl (fun j u hu => ?_) (fun u hu => ?_)
  · have hj : j = 0 := by
      have := (List.getElem?_eq_some_iff.1 hu).1
      simpa [encI] using this
    subst hj
    simp [encI] at hu
    subst hu
    simp [Addr.add]
  · simp [encI] at hu
    subst hu
    rfl

theorem mark_any (k i : Int) (w : World) (hk : 0 ≤ k ∧ k ≤ 1000000) (hi : 0 ≤ i ∧ i ≤ 140737488355328) : Calls Try.prog 24 #[.int .i64 k, .int .i64 i] w fun e w' => e = .returned (.int .i64 (1000003 * (k + 7) + i)) ∧ w' = w := by
  have h1 : IntKind.i64.wrap (k + 7) = k + 7 := wrap_ok _ (by omega) (by omega)
  have h2 : IntKind.i64.wrap (1000003 * (k + 7)) = 1000003 * (k + 7) := wrap_ok _ (by omega) (by omega)
  have h3 : IntKind.i64.wrap (1000003 * (k + 7) + i) = 1000003 * (k + 7) + i := wrap_ok _ (by omega) (by omega)
  go_enter Try.func24, Try.ntmps24
  go_wp2
  go_ret
  exact ⟨rfl, rfl⟩
theorem mark1_any (i : Nat) (w : World) (hi : i < 24) : Calls Try.prog 24 #[.int .i64 1, .int .i64 (i : Int)] w fun e w' => e = .returned (.int .i64 (8000024 + (i : Int))) ∧ w' = w := by
  have := mark_any 1 (i : Int) w (by omega) (by omega)
  rwa [show (1000003 : Int) * (1 + 7) + (i : Int) = 8000024 + (i : Int) by omega] at this

def markA (i : Nat) : Az := ⟨8000024 + (i : Int), -7, false⟩
def marksA (n : Nat) : List Az := (List.range n).map markA
theorem marksA_len (n : Nat) : (marksA n).length = n := by simp [marksA]
theorem marksA_snoc (n : Nat) : marksA (n + 1) = marksA n ++ [markA n] := by simp [marksA, List.range_succ]
theorem marksA_get (n i : Nat) (h : i < (marksA n).length) : (marksA n)[i] = markA i := by simp [marksA]

set_option maxRecDepth 1000000 in
set_option maxHeartbeats 1000000 in
theorem lentA_any (v : Value) (l : List Az) (w : World) (h : Rd encZ 3 w v l) (hlen : l.length * 24 ≤ 140737488351232) :
    Calls Try.prog 13 #[v] w fun e w' => ∃ g cap, e = .returned (.slice (some ⟨g, 0, none⟩) l.length cap) ∧ Rw 31 encZ 3 w' (.slice (some ⟨g, 0, none⟩) (l.length + 24) cap) (l ++ marksA 24) ∧ Keep [] w w' ∧ w.heap.size ≤ g := by
  have hT : Hid (Rd encZ 3 w v l) := h
  obtain ⟨ao, cap, rfl, -, -⟩ := h.form
  clear h
  go_enter Try.func13, Try.ntmps13
  go_wp2
  go_loopw [3, 4] (fun z3 z4 wr => ∃ (k : Nat), z4 = .int .i64 (k : Int) ∧ k ≤ l.length ∧ Hid (Ow 31 encZ 3 w wr z3 (l.take k))) (fun _ z4 _ => l.length - (intOf z4).toNat)
  case atStart => exact ⟨0, rfl, Nat.zero_le _, Ow.nil (Keep.refl _ _)⟩
  case round =>
    obtain ⟨k, rfl, hk, hI⟩ := hrel
    by_cases hlt : k < l.length
    · have hlti : (k : Int) < (l.length : Int) := by omega
      obtain ⟨bb, oo, cc, he, hb, c0, c1, c2⟩ := (hT.out.keep hI.out.keep (Off.nil _)).arc k hlt
      simp at he
      obtain ⟨rfl, rfl⟩ := he
      have hd : Hid (l.take (k + 1) = l.take k ++ [l[k]]) := List.take_succ_eq_append_getElem hlt
      generalize l[k] = t at c0 c1 c2 hd
      have hal : Hid (((l.take k).length + 1) * 24 ≤ 140737488355328 ∧ (l.take k).length + 1 ≤ maxLen) := by
        show _ ∧ _
        rw [List.length_take]
        refine ⟨by omega, ?_⟩
        unfold maxLen; omega
      have HS : Hid _ := src_az wr t
      have HR : Hid _ := RowC.keep hI.out.row (Keep.alloc1 wr (.cells #[.int .i64 t.f, .int .i64 t.t, .bool t.g] 31 (0, 0))) (Off.nil _)
      go_wp2_with (at_builtin; refine wp_appC infoA rfl rfl (.tmp 12) (.tmp 17) 22 22 rfl Try.underlying22 u3 (l.take k).length ((l.take k).flatMap encZ) rfl HR.out _ 1 (encZ t) rfl HS.out hal.out.1 hal.out.2 ?_)
      intro v9 w9 R9 K9 F9 S9 _
      have hx : Hid (Ow 31 encZ 3 w w9 v9 (l.take (k + 1))) := by
        rw [hd.out]
        refine hI.out.push ?_ K9 F9
        rw [List.length_take, Nat.min_eq_left (by omega)]
        exact R9
      obtain ⟨a9, c9, rfl⟩ := S9
      clear R9 K9 F9 HR HS hI
      go_wp2
      go_roundw
      case rel => exact ⟨k + 1, by go_num, by omega, hx⟩
      case measure => simp [intOf]; omega
    · have hlti : ¬ (k : Int) < (l.length : Int) := by omega
      have hI2 : Hid (Ow 31 encZ 3 w wr u3 (l ++ marksA 0)) := by
        have := hI.out
        rw [List.take_of_length_le (by omega)] at this
        rw [show marksA 0 = [] from rfl, List.append_nil]
        exact this
      clear hI
      go_wp2
      go_loopw [3, 5] (fun z3 z5 wr => ∃ (j : Nat), z5 = .int .i64 (j : Int) ∧ j ≤ 24 ∧ Hid (Ow 31 encZ 3 w wr z3 (l ++ marksA j))) (fun _ z5 _ => 24 - (intOf z5).toNat)
      case atStart => exact ⟨0, rfl, by omega, hI2⟩
      case round =>
        clear hI2
        obtain ⟨j, rfl, hj, hI⟩ := hrel
        by_cases hjl : j < 24
        · have hji : (j : Int) < 24 := by omega
          have HM : Hid (∀ w, Calls Try.prog 24 #[.int .i64 1, .int .i64 (j : Int)] w fun e w' => e = .returned (.int .i64 (8000024 + (j : Int))) ∧ w' = w) := fun w => mark1_any j w hjl
          have hal : Hid (((l ++ marksA j).length + 1) * 24 ≤ 140737488355328 ∧ (l ++ marksA j).length + 1 ≤ maxLen) := by
            show _ ∧ _
            rw [List.length_append, marksA_len]
            refine ⟨by omega, ?_⟩
            unfold maxLen; omega
          have hsn : Hid (l ++ marksA (j + 1) = (l ++ marksA j) ++ [markA j]) := by show _ = _; rw [marksA_snoc, List.append_assoc]
          go_wp2_with fail
          refine (HM.out _).mono ?_
          rintro e w1 ⟨rfl, hw1⟩
          obtain rfl := hw1.symm
          have HS : Hid _ := src_az wr (markA j)
          have HR : Hid _ := RowC.keep hI.out.row (Keep.alloc1 wr (.cells #[.int .i64 (8000024 + (j : Int)), .int .i64 (-7), .bool false] 31 (0, 0))) (Off.nil _)
          clear HM
          go_wp2_with (at_builtin; refine wp_appC infoA rfl rfl (.tmp 23) (.tmp 27) 22 22 rfl Try.underlying22 u3 (l ++ marksA j).length ((l ++ marksA j).flatMap encZ) rfl HR.out _ 1 (encZ (markA j)) rfl HS.out hal.out.1 hal.out.2 ?_)
          intro v9 w9 R9 K9 F9 S9 _
          have hx : Hid (Ow 31 encZ 3 w w9 v9 (l ++ marksA (j + 1))) := by
            rw [hsn.out]
            refine hI.out.push ?_ K9 F9
            rw [List.length_append, List.flatMap_append, List.append_assoc]
            exact R9
          obtain ⟨a9, c9, rfl⟩ := S9
          clear R9 K9 F9 HR HS hI
          go_wp2
          go_roundw
          case rel => exact ⟨j + 1, by go_num, by omega, hx⟩
          case measure => simp [intOf]; omega
        · have hji : ¬ (j : Int) < 24 := by omega
          have hje : j = 24 := by omega
          subst hje
          obtain ⟨h1, h2, h3⟩ := hI.out
          have hll : (l ++ marksA 24).length = l.length + 24 := by rw [List.length_append, marksA_len]
          rcases RowC.cases h1 with ⟨h0, -⟩ | ⟨g, cap9, e, hc1, hc2, -⟩
          · rw [hll] at h0; omega
          rw [hll] at e hc1
          have hfin : Hid (Rw 31 encZ 3 wr (.slice (some ⟨g, 0, none⟩) (l.length + 24) cap9) (l ++ marksA 24) ∧ Keep [] w wr ∧ w.heap.size ≤ g) := ⟨by rw [← e]; exact h1, h2, h3 g (by rw [e]; rfl)⟩
          subst e
          have hcl : l.length ≤ cap9 := by omega
          clear hI h1 h2 h3
          go_wp2
          go_ret
          exact ⟨g, cap9, rfl, hfin.out⟩

set_option maxRecDepth 1000000 in
set_option maxHeartbeats 1000000 in
theorem copyA_any (v : Value) (l : List Az) (w : World) (h : Rd encZ 3 w v l) (hlen : l.length * 24 ≤ 140737488351232) :
    Calls Try.prog 9 #[v] w fun e w' => ∃ v', e = .returned v' ∧ Ow 31 encZ 3 w w' v' l := by
  have hT : Hid (Rd encZ 3 w v l) := h
  obtain ⟨ao, cap, rfl, -, -⟩ := h.form
  clear h
  go_enter Try.func9, Try.ntmps9
  go_wp2
  go_loopw [3, 4] (fun z3 z4 wr => ∃ (k : Nat), z4 = .int .i64 (k : Int) ∧ k ≤ l.length ∧ Hid (Ow 31 encZ 3 w wr z3 (l.take k))) (fun _ z4 _ => l.length - (intOf z4).toNat)
  case atStart => exact ⟨0, rfl, Nat.zero_le _, Ow.nil (Keep.refl _ _)⟩
  case round =>
    obtain ⟨k, rfl, hk, hI⟩ := hrel
    by_cases hlt : k < l.length
    · have hlti : (k : Int) < (l.length : Int) := by omega
      obtain ⟨bb, oo, cc, he, hb, c0, c1, c2⟩ := (hT.out.keep hI.out.keep (Off.nil _)).arc k hlt
      simp at he
      obtain ⟨rfl, rfl⟩ := he
      have hd : Hid (l.take (k + 1) = l.take k ++ [l[k]]) := List.take_succ_eq_append_getElem hlt
      generalize l[k] = t at c0 c1 c2 hd
      have hal : Hid (((l.take k).length + 1) * 24 ≤ 140737488355328 ∧ (l.take k).length + 1 ≤ maxLen) := by
        show _ ∧ _
        rw [List.length_take]
        refine ⟨by omega, ?_⟩
        unfold maxLen; omega
      have HS : Hid _ := src_az wr t
      have HR : Hid _ := RowC.keep hI.out.row (Keep.alloc1 wr (.cells #[.int .i64 t.f, .int .i64 t.t, .bool t.g] 31 (0, 0))) (Off.nil _)
      go_wp2_with (at_builtin; refine wp_appC infoA rfl rfl (.tmp 11) (.tmp 16) 22 22 rfl Try.underlying22 u3 (l.take k).length ((l.take k).flatMap encZ) rfl HR.out _ 1 (encZ t) rfl HS.out hal.out.1 hal.out.2 ?_)
      intro v9 w9 R9 K9 F9 S9 _
      have hx : Hid (Ow 31 encZ 3 w w9 v9 (l.take (k + 1))) := by
        rw [hd.out]
        refine hI.out.push ?_ K9 F9
        rw [List.length_take, Nat.min_eq_left (by omega)]
        exact R9
      obtain ⟨a9, c9, rfl⟩ := S9
      clear R9 K9 F9 HR HS hI
      go_wp2
      go_roundw
      case rel => exact ⟨k + 1, by go_num, by omega, hx⟩
      case measure => simp [intOf]; omega
    · have hlti : ¬ (k : Int) < (l.length : Int) := by omega
      have hI2 : Hid (Ow 31 encZ 3 w wr u3 l) := by
        have := hI.out
        rwa [List.take_of_length_le (by omega)] at this
      obtain ⟨a9, c9, rfl, -, -⟩ := (hI2.out.row.rd encZ_len).form
      clear hI
      go_wp2
      go_ret
      exact ⟨_, rfl, hI2.out⟩

def markI (i : Nat) : Int := 8000024 + (i : Int)
def marksI (n : Nat) : List Int := (List.range n).map markI
theorem marksI_len (n : Nat) : (marksI n).length = n := by simp [marksI]
theorem marksI_snoc (n : Nat) : marksI (n + 1) = marksI n ++ [markI n] := by simp [marksI, List.range_succ]
theorem marksI_get (n i : Nat) (h : i < (marksI n).length) : (marksI n)[i] = markI i := by simp [marksI]

end Go.Proofs.Ytmlpkjeaieljfab

