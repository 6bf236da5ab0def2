/- LentArgs: a list of arguments of one's own, with marks behind its end. -/
import Derived.Test.YtbflhpafejmelaaLgB
namespace Go.Proofs.Ytbflhpafejmelaa
open Go.RowKit Go.PlainAid

theorem As.keep0 {w w' : World} {v : Value} {l : List AD} (h : As w v l) (k : Keep [] w w') : As w' v l := by
  obtain ⟨ao, cap, rfl, h1, h2, h3⟩ := h.ex
  refine ⟨h.ok, ao, cap, rfl, h1, h2, fun hl => ?_⟩
  obtain ⟨b, o, rfl, hc⟩ := h3 hl
  exact ⟨b, o, rfl, fun i hi => by obtain ⟨u, q1, q2⟩ := hc i hi; exact ⟨u, q1.keep k, q2.keep k (Off.nil _)⟩⟩
theorem As.at {w : World} {v : Value} {l : List AD} (h : As w v l) (k : Nat) (hk : k < l.length) : ∃ b o cap u, v = .slice (some ⟨b, o, none⟩) l.length cap ∧ l.length ≤ cap ∧ cap ≤ 9223372036854775807 ∧ ArgC w b (o + k * 7) l[k] u ∧ Ts w u l[k].val.texts := by
  obtain ⟨ao, cap, rfl, h1, h2, h4⟩ := h.ex
  obtain ⟨b, o, rfl, hc⟩ := h4 (by intro e; rw [e] at hk; simp at hk)
  obtain ⟨u, q1, q2⟩ := hc k hk
  exact ⟨b, o, cap, u, rfl, h1, h2, q1, q2⟩

/-- what holds while the arguments are copied -/
structure LiP (w wr : World) (z : Value) (ps : List (AD × Value)) (q : List (AD × Value)) : Prop where
  row : RowP wr z (ps ++ q)
  kp : Keep [] w wr
  own : ∀ x, z.ownBlock = some x → w.heap.size ≤ x
  ul : ∀ p ∈ ps, UL wr w.heap.size z p
theorem LiP.start (w : World) : LiP w w (.slice none 0 0) [] [] := ⟨World.ownsRow_nil _ 0 49 7, Keep.refl _ _, fun x hx => by simp [Value.ownBlock] at hx, fun p hp => by cases hp⟩
theorem LiP.keep {w wr w' : World} {z : Value} {ps q : List (AD × Value)} (h : LiP w wr z ps q) (k : Keep [] wr w') : LiP w w' z ps q :=
  ⟨RowC.keep h.row k (Off.nil _), h.kp.trans' k, h.own, fun p hp => (h.ul p hp).keep k (fun x hx => by cases hx) (fun x hx => .inl hx)⟩
theorem flat_snoc (ps : List (AD × Value)) (p : AD × Value) : (ps ++ [p]).flatMap cells7 = ps.flatMap cells7 ++ cells7 p := by simp
/-- behind an append: a copied argument -/
theorem LiP.more {w w1 w9 : World} {z z9 : Value} {ps : List (AD × Value)} {p : AD × Value} (h : LiP w w1 z ps []) (hp : UL w1 w.heap.size z p) (R9 : RowC w9 49 7 z9 (ps.length + 1) (ps.flatMap cells7 ++ cells7 p)) (K9 : Keep z.ownBlock.toList w1 w9) (F9 : z9.ownBlock = z.ownBlock ∨ Fresh w1 w9 z9) : LiP w w9 z9 (ps ++ [p]) [] := by
  have hz : ∀ x, z9.ownBlock = some x → z.ownBlock = some x ∨ w1.heap.size ≤ x := fun x hx => by
    rcases F9 with e | e
    · exact .inl (by rw [← e]; exact hx)
    · exact .inr (e x hx).1
  have hF : ∀ x ∈ z.ownBlock.toList, (∃ y, z.ownBlock = some y ∧ x = y) ∨ x < w.heap.size ∨ w1.heap.size ≤ x := fun x hx => .inl ⟨x, by simpa using hx, rfl⟩
  refine ⟨?_, h.kp.more K9 (fun x hx => .inr (h.own x (by simpa using hx))), fun x hx => ?_, fun r hr => ?_⟩
  · rw [List.append_nil]
    unfold RowP
    rw [flat_snoc, List.length_append]
    exact R9
  · have := h.kp.size
    rcases hz x hx with e | e
    · exact h.own x e
    · omega
  · rcases List.mem_append.1 hr with hr | hr
    · exact (h.ul r hr).keep K9 hF hz
    · simp at hr
      subst hr
      exact hp.keep K9 hF hz
/-- behind an append: a mark -/
theorem LiP.mark {w w1 w9 : World} {z z9 : Value} {ps q : List (AD × Value)} {p : AD × Value} (h : LiP w w1 z ps q) (R9 : RowC w9 49 7 z9 ((ps ++ q).length + 1) ((ps ++ q).flatMap cells7 ++ cells7 p)) (K9 : Keep z.ownBlock.toList w1 w9) (F9 : z9.ownBlock = z.ownBlock ∨ Fresh w1 w9 z9) : LiP w w9 z9 ps (q ++ [p]) := by
  have hz : ∀ x, z9.ownBlock = some x → z.ownBlock = some x ∨ w1.heap.size ≤ x := fun x hx => by
    rcases F9 with e | e
    · exact .inl (by rw [← e]; exact hx)
    · exact .inr (e x hx).1
  have hF : ∀ x ∈ z.ownBlock.toList, (∃ y, z.ownBlock = some y ∧ x = y) ∨ x < w.heap.size ∨ w1.heap.size ≤ x := fun x hx => .inl ⟨x, by simpa using hx, rfl⟩
  refine ⟨?_, h.kp.more K9 (fun x hx => .inr (h.own x (by simpa using hx))), fun x hx => ?_, fun r hr => (h.ul r hr).keep K9 hF hz⟩
  · unfold RowP
    rw [show ps ++ (q ++ [p]) = (ps ++ q) ++ [p] by simp, flat_snoc, List.length_append]
    exact R9
  · have := h.kp.size
    rcases hz x hx with e | e
    · exact h.own x e
    · omega
theorem map_take {ps : List (AD × Value)} {l : List AD} {k : Nat} (h : ps.map (fun p : AD × Value => p.1) = l.take k) (hk : k < l.length) (u : Value) : (ps ++ [(l[k], u)]).map (fun p : AD × Value => p.1) = l.take (k + 1) := by
  rw [List.map_append, h, List.take_succ_eq_append_getElem hk]
  rfl

set_option maxRecDepth 1000000 in
set_option maxHeartbeats 3200000 in
theorem lentArgs_any (v : Value) (l : List AD) (w : World) (h : As w v l) (hl : l.length * 88 ≤ 140737488351232) (ht : ∀ x ∈ l, x.val.texts.length * 16 ≤ 140737488351232) :
    Calls Try.prog 16 #[v] w fun e w' => ∃ g cap, e = .returned (.slice (some ⟨g, 0, none⟩) l.length cap) ∧ Lg w' w.heap.size g cap l ∧ Keep [] w w' := by
  have hT : Hid (As w v l) := h
  have HL : Hid (∀ i (hi : i < l.length), l[i].val.texts.length ≤ 8796093021952) := fun i hi => by have := ht l[i] (List.getElem_mem hi); omega
  obtain ⟨ao, cap, rfl, -⟩ := h.ex
  clear h ht
  go_enter Try.func16, Try.ntmps16
  go_wp2
  go_loopw [3, 4] (fun z3 z4 wr => ∃ (k : Nat), z4 = .int .i64 (k : Int) ∧ k ≤ l.length ∧ Hid (∃ ps : List (AD × Value), ps.map (fun p : AD × Value => p.1) = l.take k ∧ LiP w wr z3 ps [])) (fun _ z4 _ => l.length - (intOf z4).toNat)
  case atStart => exact ⟨0, rfl, Nat.zero_le _, [], rfl, LiP.start w⟩
  case round =>
    obtain ⟨k, rfl, hk, hI⟩ := hrel
    by_cases hlt : k < l.length
    · have hlti : (k : Int) < (l.length : Int) := by omega
      obtain ⟨ps, hps0, hLi0⟩ := hI.out
      have hps : Hid (ps.map (fun p : AD × Value => p.1) = l.take k) := hps0
      have hLi : Hid (LiP w wr u3 ps []) := hLi0
      have hpl : Hid (ps.length = k) := by
        have := congrArg List.length hps0
        simp at this
        show ps.length = k
        omega
      clear hps0 hLi0 hI
      obtain ⟨bb, oo, cc, uu, he, hcc, hcc2, hA, hU⟩ := (hT.out.keep0 hLi.out.kp).at k hlt
      simp at he
      obtain ⟨rfl, rfl⟩ := he
      have hmt : Hid (∀ u, (ps ++ [(l[k], u)]).map (fun p : AD × Value => p.1) = l.take (k + 1)) := fun u => map_take hps.out hlt u
      have hCx : Hid (∀ w1, Keep [] wr w1 → Calls Try.prog 29 #[l[k].agg uu] w1 fun e w' => ∃ g cap, e = .returned (l[k].agg (.slice (some ⟨g, 0, none⟩) l[k].val.texts.length cap)) ∧ (Ts w' (.slice (some ⟨g, 0, none⟩) (l[k].val.texts.length + 24) cap) (l[k].val.texts ++ marks 24) ∧ Ts w' (.slice (some ⟨g, 0, none⟩) l[k].val.texts.length cap) l[k].val.texts) ∧ Keep [] w1 w' ∧ w1.heap.size ≤ g) := fun w1 k1 => lentArg_any l[k] uu w1 (hU.keep k1 (Off.nil _)) (HL.out k hlt)
      obtain ⟨a1, c1, rfl, _, _, _, _⟩ := hU.ex
      clear hU
      generalize l[k] = x at hA hmt hCx
      obtain ⟨n0, n1, n2, n3, n4, n5, n6⟩ := hA
      have hal : Hid ((ps.length + 1) * 88 ≤ 140737488355328 ∧ ps.length + 1 ≤ maxLen) := by
        have := hpl.out
        show _ ∧ _
        refine ⟨by omega, ?_⟩
        unfold maxLen; omega
      go_wp2_with fail
      refine (hCx.out _ (Keep.refl _ _)).mono ?_
      rintro e w1 ⟨g1, cap1, rfl, ⟨t1, t2⟩, k1, hg1⟩
      have hLi1 : Hid (LiP w w1 u3 ps []) := hLi.out.keep k1
      have hUL : Hid (UL w1 w.heap.size u3 (x, .slice (some ⟨g1, 0, none⟩) x.val.texts.length cap1)) := by
        refine ⟨g1, cap1, rfl, t1, t2, by have := hLi.out.kp.size; omega, ?_, fun y hy e => ?_⟩
        · obtain ⟨b9, o9, c9, e9, _, _, hc9⟩ := t1.at 0 (by rw [List.length_append, marks_len]; omega)
          simp at e9
          have := World.block_lt_of_cell? _ _ hc9
          simp only at this
          omega
        · have := RowC.lt hLi.out.row y hy
          omega
      have HS : Hid _ := src_arg w1 x (some ⟨g1, 0, none⟩) x.val.texts.length cap1
      have HR : Hid (RowC (w1.alloc (blk7 x (.slice (some ⟨g1, 0, none⟩) x.val.texts.length cap1))) 49 7 u3 ps.length (ps.flatMap cells7)) := by
        have := RowC.keep hLi1.out.row (Keep.alloc1 w1 (blk7 x (.slice (some ⟨g1, 0, none⟩) x.val.texts.length cap1))) (Off.nil _)
        show RowC _ _ _ _ _ _
        simpa using this
      clear t1 t2 k1 hg1 hCx hLi n0 n1 n2 n3 n4 n5 n6
      go_wp2_with (at_builtin; refine wp_appC infoA rfl rfl (.tmp 12) (.tmp 18) 26 26 rfl Try.underlying26 u3 ps.length (ps.flatMap cells7) rfl HR.out _ 1 _ rfl HS.out hal.out.1 hal.out.2 ?_)
      intro v9 w9 R9 K9 F9 S9 _
      obtain ⟨a9, c9, rfl⟩ := S9
      have hx : Hid (LiP w w9 (.slice a9 (ps.length + 1) c9) (ps ++ [(x, .slice (some ⟨g1, 0, none⟩) x.val.texts.length cap1)]) []) :=
        (hLi1.out.keep (Keep.alloc1 w1 (blk7 x (.slice (some ⟨g1, 0, none⟩) x.val.texts.length cap1)))).more (hUL.out.keep (Keep.alloc1 w1 _) (fun x hx => by cases hx) (fun x hx => .inl hx)) R9 K9 F9
      clear R9 K9 F9 HR HS hLi1 hUL
      go_wp2
      go_roundw
      case rel => exact ⟨k + 1, by go_num, by omega, _, hmt.out _, hx.out⟩
      case measure => simp [intOf]; omega
    · have hlti : ¬ (k : Int) < (l.length : Int) := by omega
      obtain ⟨ps, hps0, hLi0⟩ := hI.out
      have hps : Hid (ps.map (fun p : AD × Value => p.1) = l) := by
        rw [List.take_of_length_le (by omega)] at hps0
        exact hps0
      have hLi : Hid (LiP w wr u3 ps (mkAs 0)) := hLi0
      have hpl : Hid (ps.length = l.length) := by
        have := congrArg List.length hps.out
        show ps.length = l.length
        simpa using this
      clear hps0 hLi0 hI
      go_wp2
      go_loopw [3, 5] (fun z3 z5 wr => ∃ (j : Nat), z5 = .int .i64 (j : Int) ∧ j ≤ 24 ∧ Hid (LiP w wr z3 ps (mkAs j))) (fun _ z5 _ => 24 - (intOf z5).toNat)
      case atStart => exact ⟨0, rfl, by omega, hLi⟩
      case round =>
        clear hLi
        obtain ⟨j, rfl, hj, hLi⟩ := hrel
        by_cases hjl : j < 24
        · have hji : (j : Int) < 24 := by omega
          have HM : Hid (∀ w, Calls Try.prog 30 #[.int .i64 1, .int .i64 (j : Int)] w fun e w' => e = .returned (.string (markS j)) ∧ Keep [] w w') := fun w => markText_any j hjl w
          obtain ⟨rs, hrs⟩ : ∃ rs, Hid (rs = ps ++ mkAs j) := ⟨_, show _ = _ from rfl⟩
          have hal : Hid ((rs.length + 1) * 88 ≤ 140737488355328 ∧ rs.length + 1 ≤ maxLen) := by
            have := hpl.out
            show _ ∧ _
            rw [hrs.out, List.length_append, mkAs_len]
            refine ⟨by omega, ?_⟩
            unfold maxLen; omega
          have hsn : Hid (mkAs (j + 1) = mkAs j ++ [(⟨markS j, ⟨0, false, 0, 0, ByteArray.empty, []⟩⟩, .slice none 0 0)]) := mkAs_snoc j
          go_wp2_with fail
          refine (HM.out _).mono ?_
          rintro e w1 ⟨rfl, k1⟩
          have hLi1 : Hid (LiP w w1 u3 ps (mkAs j)) := hLi.out.keep k1
          clear k1 hLi HM
          generalize hmk : markS j = mk at hsn ⊢
          clear hmk
          have HS : Hid _ := src_arg w1 ⟨mk, ⟨0, false, 0, 0, ByteArray.empty, []⟩⟩ none 0 0
          have HR : Hid (RowC (w1.alloc (blk7 ⟨mk, ⟨0, false, 0, 0, ByteArray.empty, []⟩⟩ (.slice none 0 0))) 49 7 u3 rs.length (rs.flatMap cells7)) := by
            rw [hrs.out]
            exact RowC.keep hLi1.out.row (Keep.alloc1 w1 (blk7 ⟨mk, ⟨0, false, 0, 0, ByteArray.empty, []⟩⟩ (.slice none 0 0))) (Off.nil _)
          go_wp2_with (at_builtin; refine wp_appC infoA rfl rfl (.tmp 24) (.tmp 28) 26 26 rfl Try.underlying26 u3 rs.length (rs.flatMap cells7) rfl HR.out _ 1 _ rfl HS.out hal.out.1 hal.out.2 ?_)
          intro v9 w9 R9 K9 F9 S9 _
          obtain ⟨a9, c9, rfl⟩ := S9
          have hx : Hid (LiP w w9 (.slice a9 (rs.length + 1) c9) ps (mkAs (j + 1))) := by
            show LiP _ _ _ _ _
            rw [hsn.out]
            rw [hrs.out] at R9 F9 ⊢
            exact (hLi1.out.keep (Keep.alloc1 w1 (blk7 ⟨mk, ⟨0, false, 0, 0, ByteArray.empty, []⟩⟩ (.slice none 0 0)))).mark R9 K9 F9
          clear R9 K9 F9 HR HS hLi1
          clear hrs
          go_wp2
          go_roundw
          case rel => exact ⟨j + 1, by go_num, by omega, hx⟩
          case measure => simp [intOf]; omega
        · have hji : ¬ (j : Int) < 24 := by omega
          have hje : j = 24 := by omega
          subst hje
          have hll : (ps ++ mkAs 24).length = l.length + 24 := by rw [List.length_append, mkAs_len, hpl.out]
          rcases RowC.cases hLi.out.row with ⟨h0, -⟩ | ⟨g, cap9, e, hc1, hc2, -⟩
          · rw [hll] at h0; omega
          rw [hll] at e hc1
          have hfin : Hid (Lg wr w.heap.size g cap9 l ∧ Keep [] w wr) := by
            refine ⟨?_, hLi.out.kp⟩
            have := Lg.ofRow (lo := w.heap.size) hLi.out.row (by rw [e, hpl.out]) (hLi.out.own g (by rw [e]; rfl)) hLi.out.ul
            rwa [hps.out] at this
          subst e
          have hcl : l.length ≤ cap9 := by omega
          clear hLi hll
          go_wp2
          go_ret
          exact ⟨g, cap9, rfl, hfin.out⟩
end Go.Proofs.Ytbflhpafejmelaa
