/- Conditions: how far a tree that is written as a list has come: unbegun, fault, add, end. -/
import Derived.Test.YtplbclokoffgkaaGreatDoorCdD
import Derived.RegionTactic
import Derived.ChangeAlike
import Derived.BigRegion
import Derived.Deep.LoopGhost
import Derived.BigQuiet
import Derived.Deep.QuietTactic
import Derived.Deep.RegionWith
import Derived.Deep.RegionHeld3
import Derived.Lib.AppendIntMem

namespace Go.Proofs.YtplbclokoffgkaaGreatDoor
open Go.RowKit Go.PlainAid

/-- the first m of a row of one's own -/
theorem RowC.take {w : World} {E : TypeId} {s : Nat} {ao : Option Addr} {n cap : Nat} {xs : List Value} (h : RowC w E s (.slice ao n cap) n xs) (m : Nat) (hm : m ≤ n) (hn : ao ≠ none) : RowC w E s (.slice ao m cap) m (xs.take (m * s)) := by
  rcases h.2 with ⟨h1, _⟩ | ⟨g, cap', cur, he, hb, hg, hnc, hcm, hcs, htake⟩
  · simp at h1; exact absurd h1.1 hn
  · simp at he
    obtain ⟨rfl, rfl⟩ := he
    have hl : xs.length = n * s := h.1
    have hms : m * s ≤ n * s := Nat.mul_le_mul_right _ hm
    refine ⟨by rw [List.length_take, hl]; omega, .inr ⟨g, cap, cur, rfl, hb, hg, by omega, hcm, hcs, ?_⟩⟩
    rw [← htake, List.take_take, Nat.min_eq_left hms]
/-- one cell of a row of one's own is written -/
theorem RowC.set {w : World} {E : TypeId} {s : Nat} {g n cap : Nat} {xs : List Value} (h : RowC w E s (.slice (some ⟨g, 0, none⟩) n cap) n xs) (j : Nat) (u : Value) : RowC (w.setCell ⟨g, j, none⟩ u) E s (.slice (some ⟨g, 0, none⟩) n cap) n (xs.set j u) := by
  rcases h.2 with ⟨h1, _⟩ | ⟨g', cap', cur, he, hb, hg, hnc, hcm, hcs, htake⟩
  · simp at h1
  · simp at he
    obtain ⟨rfl, rfl⟩ := he
    have hms : n * s ≤ cap * s := Nat.mul_le_mul_right _ hnc
    refine ⟨by rw [List.length_set]; exact h.1, .inr ⟨g, cap, cur.setIfInBounds j u, rfl, hb, ?_, hnc, hcm, by rw [Array.size_setIfInBounds]; exact hcs, ?_⟩⟩
    · exact heap_setCell_same w g j cur E u hg
    · rw [Array.toList_setIfInBounds, List.take_set, htake]

theorem infoI : (Tryz.prog.info? 3).map (fun i => (i.zero, i.size, i.bytes)) = some (some (.int .i64 0), 1, 8) := by kernel_rfl
theorem underI : Tryz.prog.underlying 67 = some (.slice 3) := Tryz.underlying67
def iz (l : List Int) : List Value := l.map fun x => .int .i64 x
theorem iz_length (l : List Int) : (iz l).length = l.length := by simp [iz]

/-- an outline at the block b: how many kids each lacks, how many nodes came; v: the list as it lies -/
structure Ol (w : World) (b : Nat) (l : List Int) (n : Nat) (v : Value) : Prop where
  blk : w.heap[b]? = some (.cells #[v, .int .i64 (n : Int)] 183 (0, 0))
  row : RowC w 3 1 v l.length (iz l)
  off : v.ownBlock ≠ some b
theorem Ol.keep {F : List Nat} {w w' : World} {b : Nat} {l : List Int} {n : Nat} {v : Value} (h : Ol w b l n v) (k : Keep F w w') (hb : b ∉ F) (hv : Off v F) : Ol w' b l n v :=
  ⟨(k.block b (Array.getElem?_eq_some_iff.1 h.blk).1 hb).trans h.blk, h.row.keep k hv, h.off⟩
theorem Ol.lt {w : World} {b : Nat} {l : List Int} {n : Nat} {v : Value} (h : Ol w b l n v) : b < w.heap.size := (Array.getElem?_eq_some_iff.1 h.blk).1
theorem Ol.cell0 {w : World} {b : Nat} {l : List Int} {n : Nat} {v : Value} (h : Ol w b l n v) : w.cell? ⟨b, 0, none⟩ = some v := by
  simp [World.cell?, h.blk]
theorem Ol.sl {w : World} {b : Nat} {l : List Int} {n : Nat} {v : Value} (h : Ol w b l n v) : ∃ a c, v = .slice a l.length c ∧ l.length ≤ c := by
  rcases h.row.cases with ⟨h1, _, h3⟩ | ⟨g, cap, h3, h4, _⟩
  · exact ⟨none, 0, by rw [h3, h1], by omega⟩
  · exact ⟨_, cap, h3, h4⟩

theorem Ol.cell1 {w : World} {b : Nat} {l : List Int} {n : Nat} {v : Value} (h : Ol w b l n v) : w.cell? ⟨b, 1, none⟩ = some (.int .i64 (n : Int)) := by simp [World.cell?, h.blk]
theorem Ol.free {w : World} {b : Nat} {l : List Int} {n : Nat} {v : Value} (h : Ol w b l n v) (j : Nat) : w.frozen? ⟨b, j, none⟩ = false := by simp [World.frozen?, h.blk]

theorem unbegun_any (w : World) : Calls Tryz.prog 110 #[] w fun e w' => ∃ g, e = .returned (.agg #[.slice (some ⟨g, 0, none⟩) 1 1, .int .i64 0]) ∧ Keep [] w w' ∧ w.heap.size ≤ g ∧ RowC w' 3 1 (.slice (some ⟨g, 0, none⟩) 1 1) 1 (iz [1]) := by
  go_enter Tryz.func110, Tryz.ntmps110
  go_wp2
  refine bodyPost_ret (v := .agg #[.slice (some ⟨w.heap.size + 1, 0, none⟩) 1 1, .int .i64 0]) (by simp [results, Tryz.results110, go_sem]) rfl ⟨w.heap.size + 1, rfl, ((Keep.alloc1 _ _).alloc _), by omega, ?_⟩
  refine ⟨rfl, .inr ⟨w.heap.size + 1, 1, #[.int .i64 1], rfl, by omega, ?_, by omega, by simp [maxLen], rfl, rfl⟩⟩
  have := heap_alloc_new (w.alloc (.cells #[.slice (some ⟨w.heap.size + 1, 0, none⟩) 1 1, .int .i64 0] 183)) (.cells #[.int .i64 1] 3)
  simpa using this

theorem fault_any (b : Nat) (l : List Int) (n : Nat) (v : Value) (w : World) (h : Ol w b l n v) (hl : l ≠ []) (h16 : l.length ≤ 16) : Calls Tryz.prog 111 #[.pointer (some ⟨b, 0, none⟩), .bool true] w fun e w' => e = .returned (.int .i64 0) ∧ w' = w := by
  obtain ⟨a, c, rfl, _⟩ := h.sl
  have c0 := h.cell0
  have hp : 0 < l.length := List.length_pos_iff.2 hl
  have h0 : ((l.length : Int) == 0) = false := by simp [hl]
  have h1 : ¬ (16 : Int) < (l.length : Int) := by omega
  clear h hl hp h16
  go_enter Tryz.func111, Tryz.ntmps111
  go_wp2
  go_ret
  exact ⟨rfl, rfl⟩
theorem end_any (b : Nat) (n : Nat) (v : Value) (w : World) (h : Ol w b [] n v) : Calls Tryz.prog 115 #[.pointer (some ⟨b, 0, none⟩)] w fun e w' => e = .returned (.int .i64 0) ∧ w' = w := by
  obtain ⟨a, c, rfl, _⟩ := h.sl
  have c0 := h.cell0
  clear h
  go_enter Tryz.func115, Tryz.ntmps115
  go_wp2
  go_ret
  exact ⟨rfl, rfl⟩

/-- without the noughts at the end -/
def trimZ (l : List Int) : List Int := (l.reverse.dropWhile (fun x => x == 0)).reverse
theorem trimZ_nil : trimZ [] = [] := rfl
theorem trimZ_zero (l : List Int) : trimZ (l ++ [0]) = trimZ l := by simp [trimZ]
theorem trimZ_ne (l : List Int) (x : Int) (h : (x == 0) = false) : trimZ (l ++ [x]) = l ++ [x] := by simp [trimZ, h]

/-- a list in a field of the block b, written -/
theorem ol_put {w1 : World} {b : Nat} {l l' : List Int} {n : Nat} {v v' : Value} (h : Ol w1 b l n v) (hr : RowC w1 3 1 v' l'.length (iz l')) (ho : v'.ownBlock ≠ some b) : Ol (w1.setCell ⟨b, 0, none⟩ v') b l' n v' := by
  refine ⟨?_, hr.keep (Keep.set1 _ _ _) (fun k hk => ?_), ho⟩
  · exact heap_setCell_same w1 b 0 _ 183 v' h.blk
  · simp; intro e; subst e; exact ho hk

set_option maxHeartbeats 3200000 in
theorem add_any (b : Nat) (l : List Int) (x kids : Int) (n : Nat) (v : Value) (w : World) (h : Ol w b (l ++ [x]) n v) (hl : l.length ≤ 100) (hn : n ≤ 1000) (hx0 : 1 ≤ x) (hx1 : x ≤ 100) :
    Calls Tryz.prog 114 #[.pointer (some ⟨b, 0, none⟩), .int .i64 kids] w fun e w' => e = .returned (.tuple #[]) ∧ ∃ v', Ol w' b (trimZ (l ++ [x - 1, kids])) (n + 1) v' ∧ Keep (b :: v.ownBlock.toList) w w' ∧ (v'.ownBlock = v.ownBlock ∨ Fresh w w' v') := by
  have h0 := h
  rcases h.row.cases with ⟨h1, _, _⟩ | ⟨g, c, rfl, hc1, hc2, hg, hcell, hfr⟩
  · simp at h1
  have hgb : g ≠ b := fun e => h.off (by rw [e]; rfl)
  have o1 : Ol (w.setCell ⟨b, 1, none⟩ (.int .i64 ((n : Int) + 1))) b (l ++ [x]) (n + 1) (.slice (some ⟨g, 0, none⟩) (l ++ [x]).length c) :=
    ⟨by simpa using heap_setCell_same w b 1 _ 183 (.int .i64 ((n : Int) + 1)) h.blk, h.row.keep (Keep.set1 _ _ _) (fun k hk => by simp [Value.ownBlock] at hk; subst hk; simpa using hgb), h.off⟩
  have k1 : Keep [b] w (w.setCell ⟨b, 1, none⟩ (.int .i64 ((n : Int) + 1))) := Keep.set1 w ⟨b, 1, none⟩ _
  have c1 := h.cell1
  have f1 := h.free 1
  have HX : Hid ((l ++ [x]).length ≤ c ∧ c ≤ 9223372036854775807 ∧ g < w.heap.size) := ⟨hc1, hc2, hg⟩
  clear h h0 hcell hfr hc1 hc2 hg
  go_enter Tryz.func114, Tryz.ntmps114
  go_wp2
  generalize w.setCell ⟨b, 1, none⟩ (.int .i64 ((n : Int) + 1)) = w1 at o1 k1 ⊢
  have HK1 : Hid (Keep [b] w w1) := k1
  have HO1 : Hid (Ol w1 b (l ++ [x]) (n + 1) (.slice (some ⟨g, 0, none⟩) (l ++ [x]).length c)) := o1
  have c0 := o1.cell0
  have f0 := o1.free 0
  have e1 : w1.cell? ⟨g, l.length, none⟩ = some (.int .i64 x) := by
    rw [World.ownsRow.cellAt o1.row l.length (by simp)]
    simp [iz]
  have fg := World.ownsRow.frozenAt o1.row l.length
  rw [List.length_append, List.length_singleton] at c0
  clear k1 o1 c1 f1
  have i1 : (0 : Int) ≤ (l.length : Int) := by omega
  have i2 : (l.length : Int) < (l.length : Int) + 1 := by omega
  go_region
  have HO2 : Hid (Ol (w1.setCell ⟨g, l.length, none⟩ (.int .i64 (x - 1))).drew b (l ++ [x - 1]) (n + 1) (.slice (some ⟨g, 0, none⟩) (l.length + 1) c)) := by
    have o := HO1.out
    have k2 : Keep [g] w1 (w1.setCell ⟨g, l.length, none⟩ (.int .i64 (x - 1))).drew := (Keep.set1 w1 ⟨g, l.length, none⟩ _).drew
    refine ⟨?_, ?_, o.off⟩
    · have := (k2.block b (Array.getElem?_eq_some_iff.1 o.blk).1 (by simpa using fun e => hgb e.symm)).trans o.blk
      simpa using this
    · have r := RowC.set o.row l.length (.int .i64 (x - 1))
      have e : (iz (l ++ [x])).set l.length (.int .i64 (x - 1)) = iz (l ++ [x - 1]) := by simp [iz]
      rw [e] at r
      have r2 := RowC.keep r (Keep.drew (Keep.refl [] _)) (Off.nil _)
      simpa using r2
  have HK2 : Hid (Keep [b, g] w (w1.setCell ⟨g, l.length, none⟩ (.int .i64 (x - 1))).drew) :=
    (HK1.out.trans (Keep.set1 w1 ⟨g, l.length, none⟩ (.int .i64 (x - 1))) (H := [b, g]) (fun y hy => .inl (by simp at hy; simp [hy])) (fun y hy => .inl (by simp at hy; simp [hy]))).drew
  clear HO1 HK1 c0 f0 e1 fg
  generalize (w1.setCell ⟨g, l.length, none⟩ (.int .i64 (x - 1))).drew = w2 at HO2 HK2 ⊢
  have c0 := HO2.out.cell0
  have f0 := HO2.out.free 0
  have HR : Hid (RowC (w2.alloc (.cells #[.int .i64 kids] 3)) 3 1 (.slice (some ⟨g, 0, none⟩) (l.length + 1) c) (l.length + 1) (iz (l ++ [x - 1]))) := by
    have := HO2.out.row.keep (Keep.alloc1 w2 (.cells #[.int .i64 kids] 3)) (Off.nil _)
    rw [List.length_append, List.length_singleton] at this
    exact this
  have HS : Hid (Src Tryz.prog 1 67 (.slice (some ⟨w2.heap.size, 0, none⟩) 1 1) 1 (iz [kids]) (w2.alloc (.cells #[.int .i64 kids] 3))) :=
    Src.ofSlice _ underI ⟨w2.heap.size, 0, none⟩ 1 1 (iz [kids]) rfl (by
      intro j u hu
      match j with
      | 0 => simp [iz] at hu; subst hu; simp [Addr.add, go_sem]
      | j + 1 => simp [iz] at hu) (by intro u hu; simp [iz] at hu; subst hu; rfl)
  go_wp2_with (at_builtin; refine wp_appC infoI rfl rfl (.tmp 29) (.tmp 31) 67 67 rfl underI (.slice (some ⟨g, 0, none⟩) (l.length + 1) c) (l.length + 1) (iz (l ++ [x - 1])) rfl HR.out _ 1 (iz [kids]) rfl HS.out (by omega) (by simp [maxLen]; omega) ?_)
  intro v9 w9 R9 K9 F9 S9 R8
  have e9 : iz (l ++ [x - 1]) ++ iz [kids] = iz (l ++ [x - 1, kids]) := by simp [iz]
  rw [e9] at R9
  obtain ⟨a9, c9, rfl⟩ := S9
  have hn9 : (Value.slice a9 (l.length + 1 + 1) c9).ownBlock ≠ some b := by
    rcases F9 with f | f
    · rw [f]; simp [Value.ownBlock]; exact hgb
    · intro e
      have h1 := (f b e).1
      have h2 := HO2.out.lt
      simp at h1
      omega
  have ob : Ol w9 b (l ++ [x - 1]) (n + 1) (.slice (some ⟨g, 0, none⟩) (l.length + 1) c) := by
    have oa := HO2.out.keep (Keep.alloc1 w2 (.cells #[.int .i64 kids] 3)) (by simp) (Off.nil _)
    refine ⟨(K9.block b oa.lt (by simp [Value.ownBlock]; exact fun e => hgb e.symm)).trans oa.blk, by simpa using R8, oa.off⟩
  have HO9 : Hid (Ol (w9.setCell ⟨b, 0, none⟩ (.slice a9 (l.length + 1 + 1) c9)) b (l ++ [x - 1, kids]) (n + 1) (.slice a9 (l.length + 1 + 1) c9)) :=
    ol_put ob (by simpa using R9) hn9
  have c9' := ob.cell0
  have f9' := ob.free 0
  have hg9 : ∃ g9, a9 = some ⟨g9, 0, none⟩ := by
    rcases R9.cases with ⟨h1, _, _⟩ | ⟨g9, cap9, h1, _⟩
    · omega
    · simp at h1
      exact ⟨g9, h1.1⟩
  obtain ⟨g9, rfl⟩ := hg9
  have HK9 : Hid (Keep [b, g] w (w9.setCell ⟨b, 0, none⟩ (.slice (some ⟨g9, 0, none⟩) (l.length + 1 + 1) c9))) := by
    have ka : Keep [b, g] w w9 := (HK2.out.alloc (.cells #[.int .i64 kids] 3)).trans K9 (fun y hy => .inl hy) (fun y hy => .inl (by simp [Value.ownBlock] at hy; simp [hy]))
    exact ka.setCell (.inl (by simp)) _
  have HF9 : Hid (g9 = g ∨ w.heap.size ≤ g9) := by
    rcases F9 with f | f
    · simp [Value.ownBlock] at f; exact .inl f
    · have h1 := (f g9 rfl).1
      have h2 := HK2.out.size
      simp at h1
      exact .inr (by omega)
  have hne9 : g9 ≠ b := fun e => hn9 (by rw [e]; rfl)
  clear ob R9 K9 F9 R8 HO2 HK2 HR HS c0 f0 hn9 e9
  go_wp2
  generalize w9.setCell ⟨b, 0, none⟩ (.slice (some ⟨g9, 0, none⟩) (l.length + 1 + 1) c9) = wA at HO9 HK9 ⊢
  obtain ⟨L, HL⟩ : ∃ L, Hid (L = l ++ [x - 1, kids]) := ⟨_, show _ = _ from rfl⟩
  rw [← HL.out] at HO9
  have HLl : Hid (L.length = l.length + 1 + 1) := by show _ = _; rw [HL.out]; simp
  rw [← HLl.out] at HO9
  clear c9' f9' i1 i2
  go_loopg [] (L.length) (fun k wr => ∃ l' : List Int, l'.length = k ∧ Hid (l'.length ≤ L.length ∧ Ol wr b l' (n + 1) (.slice (some ⟨g9, 0, none⟩) l'.length c9) ∧ trimZ l' = trimZ L ∧ Keep [b, g] w wr))
  case atStart => exact ⟨L, rfl, Nat.le_refl _, HO9.out, rfl, HK9.out⟩
  case round =>
    obtain ⟨l', hk', HI⟩ := hrel
    subst hk'
    rcases List.eq_nil_or_concat l' with rfl | ⟨l2, y, rfl⟩
    · have c0 := HI.out.2.1.cell0
      go_wp2_with fail
      go_quiet (fail)
      go_wp2
      go_end0
      refine ⟨rfl, .slice (some ⟨g9, 0, none⟩) 0 c9, ?_, ?_, ?_⟩
      · have o := HI.out.2.1
        have e : trimZ (l ++ [x - 1, kids]) = [] := by rw [← HL.out, ← HI.out.2.2.1]; rfl
        rw [e]
        exact o.keep ((Keep.refl [] wr).drewN _) (by simp) (Off.nil _)
      · exact HI.out.2.2.2.drewN _
      · rcases HF9.out with e | e
        · exact .inl (by rw [e]; rfl)
        · refine .inr (fun k hk => ?_)
          simp [Value.ownBlock] at hk
          subst hk
          refine ⟨e, ?_⟩
          have := HI.out.2.1.row.lt g9 rfl
          simpa using this
    · have e2 : (l2.concat y).length = l2.length + 1 := by simp
      rw [e2] at HI
      have c0 := HI.out.2.1.cell0
      have f0 := HI.out.2.1.free 0
      have hlt : l2.length + 1 ≤ 200 := by
        have h1 := HI.out.1
        have h2 := HLl.out
        omega
      have e1 : wr.cell? ⟨g9, l2.length, none⟩ = some (.int .i64 y) := by
        have r := HI.out.2.1.row
        rw [e2] at r
        rw [World.ownsRow.cellAt r l2.length (by omega)]
        simp [iz]
      have i0 : decide ((0 : Int) < (l2.length : Int) + 1) = true := by simp
      have i1 : (0 : Int) ≤ (l2.length : Int) := by omega
      have i2 : (l2.length : Int) < (l2.length : Int) + 1 := by omega
      have i3 : (l2.length : Int) ≤ (c9 : Int) := by
        obtain ⟨a7, c7, e7, h7⟩ := HI.out.2.1.sl
        simp at e7 h7
        omega
      cases hy : (y == 0)
      · go_wp2_with fail
        go_quiet (fail)
        go_wp2
        go_end0
        refine ⟨rfl, .slice (some ⟨g9, 0, none⟩) (l2.length + 1) c9, ?_, ?_, ?_⟩
        · have o := HI.out.2.1
          have e : trimZ (l ++ [x - 1, kids]) = l2.concat y := by rw [← HL.out, ← HI.out.2.2.1]; simpa using trimZ_ne l2 y hy
          rw [e]
          exact o.keep ((Keep.refl [] wr).drewN _) (by simp) (Off.nil _)
        · exact HI.out.2.2.2.drewN _
        · rcases HF9.out with e | e
          · exact .inl (by rw [e]; rfl)
          · refine .inr (fun k hk => ?_)
            simp [Value.ownBlock] at hk
            subst hk
            refine ⟨e, ?_⟩
            have := HI.out.2.1.row.lt g9 rfl
            simpa using this
      · go_wp2_with fail
        go_quiet (fail)
        go_wp2
        go_region
        go_wp2
        go_roundg l2.length
        case measure => simp
        case rel =>
          refine ⟨l2, rfl, by have := HI.out.1; omega, ?_, ?_, ?_⟩
          · have r := RowC.take (by have r := HI.out.2.1.row; rw [e2] at r; exact r) l2.length (by omega) (by simp)
            have er : (iz (l2.concat y)).take (l2.length * 1) = iz l2 := by simp [iz]
            rw [er] at r
            have r2 := RowC.keep r ((Keep.refl [] wr).drewN (nq + 1)) (Off.nil _)
            have o2 := HI.out.2.1.keep ((Keep.refl [] wr).drewN (nq + 1)) (by simp) (Off.nil _)
            exact ol_put o2 r2 (by simp [Value.ownBlock]; exact hne9)
          · rw [← HI.out.2.2.1]
            have : y = 0 := by simpa using hy
            rw [this]
            simpa using (trimZ_zero l2).symm
          · exact (HI.out.2.2.2.drewN (nq + 1)).setCell (.inl (by simp)) _
end Go.Proofs.YtplbclokoffgkaaGreatDoor

/- Conditions: expressions as they lie in memory; what is wrong with one: nothing, where its parts are right and make a tree. -/
namespace Go.Proofs.YtplbclokoffgkaaGreatDoor
open Go.RowKit Go.PlainAid

/-- the slice v reads as the parts l -/
structure Pp (w : World) (v : Value) (l : List Pt) : Prop where
  ex : ∃ ao cap, v = .slice ao l.length cap ∧ l.length ≤ cap ∧ cap ≤ 9223372036854775807 ∧ (l ≠ [] → ∃ b o, ao = some ⟨b, o, none⟩ ∧ ∀ i (h : i < l.length),
    w.cell? ⟨b, o + i * 8, none⟩ = some (.int .i64 l[i].kind) ∧ w.cell? ⟨b, o + i * 8 + 1, none⟩ = some (.string l[i].nm) ∧ w.cell? ⟨b, o + i * 8 + 2, none⟩ = some (.int .i64 l[i].vk) ∧ w.cell? ⟨b, o + i * 8 + 3, none⟩ = some (.bool false) ∧
    w.cell? ⟨b, o + i * 8 + 4, none⟩ = some (.int .i64 l[i].vi) ∧ w.cell? ⟨b, o + i * 8 + 5, none⟩ = some (.float .f32 0) ∧ w.cell? ⟨b, o + i * 8 + 6, none⟩ = some (.string ⟨#[]⟩) ∧ w.cell? ⟨b, o + i * 8 + 7, none⟩ = some (.slice none 0 0))
theorem Pp.keep0 {w w' : World} {v : Value} {l : List Pt} (h : Pp w v l) (k : Keep [] w w') : Pp w' v l := by
  obtain ⟨ao, cap, rfl, h1, h2, h3⟩ := h.ex
  refine ⟨ao, cap, rfl, h1, h2, fun hl => ?_⟩
  obtain ⟨b, o, rfl, hc⟩ := h3 hl
  refine ⟨b, o, rfl, fun i hi => ?_⟩
  obtain ⟨c0, c1, c2, c3, c4, c5, c6, c7⟩ := hc i hi
  exact ⟨k.cell' c0 (by simp), k.cell' c1 (by simp), k.cell' c2 (by simp), k.cell' c3 (by simp), k.cell' c4 (by simp), k.cell' c5 (by simp), k.cell' c6 (by simp), k.cell' c7 (by simp)⟩

/-- what the operations' table says of a kind: its rank and its sign -/
def rankN (k : Int) : Int := if k = 1 ∨ k = 2 then 8 else if k = 3 then 7 else if k = 4 then 3 else if k = 5 ∨ k = 6 then 6 else if k = 7 ∨ k = 8 then 5 else if k = 16 then 2 else if k = 17 then 1 else 4
def signN (k : Int) : ByteArray := if k = 3 ∨ k = 8 then ⟨#[45]⟩ else if k = 4 then ⟨#[110, 111, 116]⟩ else if k = 5 then ⟨#[42]⟩ else if k = 6 then ⟨#[47]⟩ else if k = 7 then ⟨#[43]⟩ else if k = 9 then ⟨#[61, 61]⟩ else if k = 10 then ⟨#[33, 61]⟩ else if k = 11 then ⟨#[60]⟩ else if k = 12 then ⟨#[60, 61]⟩ else if k = 13 then ⟨#[62]⟩ else if k = 14 then ⟨#[62, 61]⟩ else if k = 15 then ⟨#[105, 110]⟩ else if k = 16 then ⟨#[97, 110, 100]⟩ else if k = 17 then ⟨#[111, 114]⟩ else ⟨#[]⟩
/-- the names of the kinds of values -/
def kindS (k : Int) : ByteArray := if k = 1 then ⟨#[98, 111, 111, 108]⟩ else if k = 2 then ⟨#[105, 110, 116]⟩ else if k = 3 then ⟨#[114, 101, 97, 108]⟩ else if k = 4 then ⟨#[116, 101, 120, 116]⟩ else ⟨#[116, 101, 120, 116, 115]⟩
/-- the name of the table of powers -/
abbrev laidN : List (String × DataW Unit) := Rows.condsNumbersRow.laid
abbrev powN : String := (laidN[3]'(by decide)).1
/-- the tables lie where they were laid -/
structure Tb (w : World) : Prop where
  made : ∀ k : Nat, 1 ≤ k → k ≤ 17 → w.cell? ⟨1, k * 3 + 1, none⟩ = some (.int .i64 (madeN (k : Int)))
  rank : ∀ k : Nat, 1 ≤ k → k ≤ 17 → w.cell? ⟨1, k * 3, none⟩ = some (.int .i64 (rankN (k : Int)))
  sign : ∀ k : Nat, 1 ≤ k → k ≤ 17 → w.cell? ⟨1, k * 3 + 2, none⟩ = some (.string (signN (k : Int)))
  kind : ∀ k : Nat, 1 ≤ k → k ≤ 5 → w.cell? ⟨0, k, none⟩ = some (.string (kindS (k : Int)))
  big : 15 ≤ w.heap.size
  pow : Lib.TabIs Tryz.prog w powN .u64 Lib.pow10Tab
theorem pow_named : Tryz.prog.globalNamed powN = some 5 := by kernel_rfl
theorem Tb.keep {F : List Nat} {w w' : World} (h : Tb w) (k : Keep F w w') (h1 : ∀ x, x < 15 → x ∉ F) : Tb w' := by
  refine ⟨fun i a b => k.cell' (h.made i a b) (h1 1 (by omega)), fun i a b => k.cell' (h.rank i a b) (h1 1 (by omega)), fun i a b => k.cell' (h.sign i a b) (h1 1 (by omega)), fun i a b => k.cell' (h.kind i a b) (h1 0 (by omega)), Nat.le_trans h.big k.size, ?_⟩
  have hp := h.pow
  have hb := h.big
  unfold Lib.TabIs World.var? at hp ⊢
  rw [pow_named] at hp ⊢
  simp only [Option.bind_some] at hp ⊢
  rw [k.block 5 (by omega) (h1 5 (by omega))]
  exact hp

/-- the outline behind a part of that kind -/
def stk1 (s : List Int) (k : Int) : List Int := trimZ (s.dropLast ++ [s.getLastD 0 - 1, madeN k])
/-- the kinds make a tree -/
def wfK : List Int → List Int → Bool
  | [], s => s.isEmpty
  | k :: l, s => !s.isEmpty && decide (s.length ≤ 16) && decide (1 ≤ s.getLastD 0) && decide (s.getLastD 0 ≤ 100) && decide (1 ≤ k) && decide (k ≤ 17) && wfK l (stk1 s k)
theorem last_split {s : List Int} (h : s ≠ []) : s = s.dropLast ++ [s.getLastD 0] := by
  have e := List.dropLast_concat_getLast h
  rw [List.getLastD_eq_getLast?, List.getLast?_eq_some_getLast h]
  exact e.symm

set_option maxRecDepth 1000000 in
set_option maxHeartbeats 6400000 in
theorem expr_fine (v : Value) (l : List Pt) (w : World) (hv : Pp w v l) (hT : Tb w) (hl : l.length ≤ 100) (hok : ∀ p ∈ l, p.Ok ∧ p.fine) (hwf : wfK (l.map Pt.kind) [1] = true) :
    Calls Tryz.prog 84 #[v] w fun e w' => e = .returned (.tuple #[.int .i64 0, .int .i64 (l.length : Int)]) ∧ Keep [] w w' := by
  have HV : Hid (Pp w v l ∧ Tb w ∧ ∀ p ∈ l, p.Ok ∧ p.fine) := ⟨hv, hT, hok⟩
  have HW : Hid (wfK (l.map Pt.kind) [1] = true) := hwf
  obtain ⟨ao, ca, rfl, hl1, hl2, -⟩ := hv.ex
  clear hv hT hok hwf
  have hsf := store_f32
  simp only [Go.stored] at hsf
  have h128 : ¬ (128 : Int) < (l.length : Int) := by omega
  go_enter Tryz.func84, Tryz.ntmps84
  go_wp2_with fail
  refine (unbegun_any _).mono ?_
  rintro e9 w1 ⟨g, rfl, k1, hg, r1⟩
  have HK1 : Hid (Keep [] w w1 ∧ w.heap.size ≤ g ∧ RowC w1 3 1 (.slice (some ⟨g, 0, none⟩) 1 1) 1 (iz [1])) := ⟨k1, hg, r1⟩
  have hgl : g < w1.heap.size := r1.lt g rfl
  have hz1 : Hid (w.heap.size ≤ w1.heap.size) := k1.size
  clear k1 hg r1
  go_wp2
  go_loopw [15] (fun iv wr => ∃ (k : Nat) (s : List Int) (u : Value), iv = .int .i64 (k : Int) ∧ k ≤ l.length ∧ Hid (Keep [] w wr ∧ Ol wr w1.heap.size s k u ∧ (∀ x, u.ownBlock = some x → w.heap.size ≤ x) ∧ wfK ((l.map Pt.kind).drop k) s = true)) (fun iv _ => l.length - (intOf iv).toNat)
  case atStart =>
    refine ⟨0, [1], .slice (some ⟨g, 0, none⟩) 1 1, rfl, Nat.zero_le _, HK1.out.1.alloc _, ⟨by simpa using heap_alloc_new w1 (.cells #[.slice (some ⟨g, 0, none⟩) 1 1, .int .i64 0] 183), HK1.out.2.2.keep (Keep.alloc1 _ _) (Off.nil _), by simp [Value.ownBlock]; omega⟩, ?_, HW.out⟩
    intro x hx
    simp [Value.ownBlock] at hx
    subst hx
    exact HK1.out.2.1
  case round =>
    obtain ⟨k, s, u, rfl, hk, HI⟩ := hrel
    by_cases hlt : k < l.length
    · have hlti : (k : Int) < (l.length : Int) := by omega
      obtain ⟨kI, oI, fI, wI⟩ := HI.out
      obtain ⟨hP, hT, hok⟩ := HV.out
      obtain ⟨_, _, he, _, _, hne⟩ := (hP.keep0 kI).ex
      simp at he
      obtain ⟨rfl, rfl⟩ := he
      obtain ⟨b, o, rfl, hc⟩ := hne (by intro hz; rw [hz] at hlt; simp at hlt)
      obtain ⟨c0, c1, c2, c3, c4, c5, c6, c7⟩ := hc k hlt
      obtain ⟨pok, pfine⟩ := hok _ (List.getElem_mem hlt)
      have hd : (l.map Pt.kind).drop k = l[k].kind :: (l.map Pt.kind).drop (k + 1) := by
        rw [List.drop_eq_getElem_cons (by simpa using hlt)]; simp
      rw [hd] at wI
      simp only [wfK, Bool.and_eq_true, Bool.not_eq_true', decide_eq_true_eq] at wI
      obtain ⟨⟨⟨⟨⟨⟨w0, w16⟩, wl⟩, wu⟩, wk1⟩, wk2⟩, wn⟩ := wI
      have hs : s ≠ [] := by intro e; rw [e] at w0; simp at w0
      have HT := hT.keep kI (by simp)
      generalize l[k] = x at c0 c1 c2 c3 c4 c5 c6 c7 pok pfine wk1 wk2 wn
      obtain ⟨xk, xs, xv, xi⟩ := x
      simp only at c0 c1 c2 c3 c4 c5 c6 c7 wk1 wk2 wn
      obtain ⟨kn, rfl⟩ : ∃ kn : Nat, xk = (kn : Int) := ⟨xk.toNat, by omega⟩
      have hm := HT.made kn (by omega) (by omega)
      have HP : Hid ((Pt.mk (kn : Int) xs xv xi).Ok ∧ (Pt.mk (kn : Int) xs xv xi).fine) := ⟨pok, pfine⟩
      have HN : Hid (wfK ((l.map Pt.kind).drop (k + 1)) (stk1 s (kn : Int)) = true ∧ 1 ≤ s.getLastD 0 ∧ s.getLastD 0 ≤ 100 ∧ s.length ≤ 16 ∧ s ≠ []) := ⟨wn, wl, wu, w16, hs⟩
      have hkn1 : (kn : Int) ≤ 17 := by omega
      clear hc hne hd w0 w16 wl wu wn hs pok pfine hP hT hok HT
      go_wp2_with fail
      refine (isPart_any _ _).mono ?_
      rintro e8 w8 ⟨rfl, hw8⟩
      obtain rfl := hw8.symm
      have hpb : partB (kn : Int) = true := by unfold partB; simp; omega
      rw [hpb]
      clear hw8 hpb
      have HOa : Hid (Ol (wr.alloc (.cells (Pt.mk (kn : Int) xs xv xi).cells 36)) w1.heap.size s k u ∧ Keep [] w (wr.alloc (.cells (Pt.mk (kn : Int) xs xv xi).cells 36)) ∧ (∀ x, u.ownBlock = some x → w.heap.size ≤ x)) := ⟨oI.keep (Keep.alloc1 _ _) (by simp) (Off.nil _), kI.alloc _, fI⟩
      clear oI kI fI HI
      go_wp2_with fail
      refine (fault_any _ s k u _ HOa.out.1 HN.out.2.2.2.2 HN.out.2.2.2.1).mono ?_
      rintro e8 w8 ⟨rfl, hw8⟩
      obtain rfl := hw8.symm
      clear hw8
      go_wp2_with fail
      refine (partFault_fine (Pt.mk (kn : Int) xs xv xi) HP.out.1 HP.out.2 _).mono ?_
      rintro e8 w8 ⟨rfl, k8⟩
      have x0 : w8.cell? ⟨wr.heap.size, 0, none⟩ = some (.int .i64 (kn : Int)) := k8.cell' (by go_simp) (by simp)
      have hm8 : w8.cell? ⟨1, kn * 3 + 1, none⟩ = some (.int .i64 (madeN (kn : Int))) := k8.cell' ((Keep.alloc1 wr _).cell' hm (by simp)) (by simp)
      have HOb : Hid (Ol w8 w1.heap.size s k u ∧ Keep [] w w8 ∧ (∀ x, u.ownBlock = some x → w.heap.size ≤ x)) := ⟨HOa.out.1.keep k8 (by simp) (Off.nil _), HOa.out.2.1.trans' k8, HOa.out.2.2⟩
      clear k8 hm HOa
      have hA : ∀ w', w' = w8 → Calls Tryz.prog 114 #[.pointer (some ⟨w1.heap.size, 0, none⟩), .int .i64 (madeN (kn : Int))] w' fun e w9 => e = .returned (.tuple #[]) ∧ ∃ v', Ol w9 w1.heap.size (stk1 s (kn : Int)) (k + 1) v' ∧ Keep (w1.heap.size :: u.ownBlock.toList) w8 w9 ∧ (v'.ownBlock = u.ownBlock ∨ Fresh w8 w9 v') := by
        intro w' hw'
        rw [hw']
        obtain ⟨_, n1, n2, n3, n4⟩ := HN.out
        have o := HOb.out.1
        rw [last_split n4] at o
        exact add_any w1.heap.size s.dropLast (s.getLastD 0) (madeN (kn : Int)) k u w8 o (by rw [List.length_dropLast]; omega) (by omega) n1 n2
      generalize hmm : madeN (kn : Int) = mm at hm8 hA
      have HA : Hid (∀ w', w' = w8 → Calls Tryz.prog 114 #[.pointer (some ⟨w1.heap.size, 0, none⟩), .int .i64 mm] w' fun e w9 => e = .returned (.tuple #[]) ∧ ∃ v', Ol w9 w1.heap.size (stk1 s (kn : Int)) (k + 1) v' ∧ Keep (w1.heap.size :: u.ownBlock.toList) w8 w9 ∧ (v'.ownBlock = u.ownBlock ∨ Fresh w8 w9 v')) := hA
      clear hA hmm
      go_wp2_with fail
      refine (HA.out _ rfl).mono ?_
      rintro e9 w9 ⟨rfl, v9, o9, k9, f9⟩
      have HR : Hid (Keep [] w w9 ∧ Ol w9 w1.heap.size (stk1 s (kn : Int)) (k + 1) v9 ∧ (∀ x, v9.ownBlock = some x → w.heap.size ≤ x) ∧ wfK ((l.map Pt.kind).drop (k + 1)) (stk1 s (kn : Int)) = true) := by
        obtain ⟨_, kb, fb⟩ := HOb.out
        refine ⟨kb.more k9 (fun x hx => ?_), o9, fun x hx => ?_, HN.out.1⟩
        · simp at hx
          rcases hx with rfl | hx
          · exact .inr hz1.out
          · exact .inr (fb x (by simpa using hx))
        · rcases f9 with e | e
          · exact fb x (by rw [← e]; exact hx)
          · exact Nat.le_trans kb.size (e x hx).1
      clear o9 k9 f9 HA HOb HN HP x0 hm8
      go_wp2
      go_roundw
      case rel => exact ⟨k + 1, _, v9, by go_num, by omega, HR.out⟩
      case measure => simp [intOf]; omega
    · have hlti : ¬ (k : Int) < (l.length : Int) := by omega
      obtain rfl : k = l.length := by omega
      have hs : s = [] := by
        have := HI.out.2.2.2
        rw [List.drop_eq_nil_of_le (by simp)] at this
        simpa [wfK] using this
      subst hs
      have HO : Hid (Ol wr w1.heap.size [] l.length u ∧ Keep [] w wr) := ⟨HI.out.2.1, HI.out.1⟩
      clear HI
      have c1 := HO.out.1.cell1
      have hE := fun n => end_any w1.heap.size l.length u (wr.drewN n) (HO.out.1.keep ((Keep.refl [] wr).drewN n) (by simp) (Off.nil _))
      go_wp2_with fail
      go_quiet (first | (go_at_call 115; exact Calls.quiet_of_same (hE _)))
      go_wp2
      refine bodyPost_ret (v := .tuple #[.int .i64 0, .int .i64 (l.length : Int)]) (by simp [results, Tryz.results84, go_sem]) rfl ⟨rfl, HO.out.2.drewN _⟩
end Go.Proofs.YtplbclokoffgkaaGreatDoor
