/- The document's Quote. -/
import Derived.Test.YtmglbcldjhdhkaaTkRm
import Derived.Test.YtmglbcldjhdhkaaTkY

namespace Go.Proofs.Ytmglbcldjhdhkaa
open Go.RowKit Go.PlainAid

/-- a row of bytes of one's own, in memory that is new -/
structure Qq (w wr : World) (v : Value) (acc : List UInt8) : Prop where
  row : Row wr v acc
  keep : Keep [] w wr
  far : ∀ y, v.ownBlock = some y → w.heap.size ≤ y
theorem Qq.app {w wr w' : World} {v v' : Value} {acc : List UInt8} (h : Qq w wr v acc) (x : UInt8) (r : Row w' v' (acc ++ [x])) (k : Keep v.ownBlock.toList (wr.alloc (.cells #[.int .u8 (x.toNat : Int)] 5 (0, 0))) w') (f : v'.ownBlock = v.ownBlock ∨ Fresh (wr.alloc (.cells #[.int .u8 (x.toNat : Int)] 5 (0, 0))) w' v') : Qq w w' v' (acc ++ [x]) := by
  refine ⟨r, (h.keep.alloc _).more k (fun y hy => .inr (h.far y (by simpa using hy))), fun y hy => ?_⟩
  rcases f with e | e
  · rw [e] at hy; exact h.far y hy
  · have h1 := (e y hy).1
    have h2 := h.keep.size
    simp at h1
    omega

set_option maxRecDepth 1000000 in
set_option maxHeartbeats 2000000 in
theorem rquote_any (s : ByteArray) (w : World) (hs : s.size ≤ 140737488351232 / 8) :
    Calls Try.prog 44 #[.string s] w fun e w' => e = .returned (.string (ba (quoteL s.toList))) ∧ Keep [] w w' := by
  have HG : Hid (∀ i (h : i < s.size), ((s[i]'h).toNat : Int) = bt s i) := get_bt s
  have h0 : Hid (∃ acc', acc' = 34 :: escL (s.toList.take 0) ∧ Qq w (w.alloc (.cells #[.int .u8 34] 5 (0, 0))) (.slice (some ⟨w.heap.size, 0, none⟩) 1 1) acc') := by
    refine ⟨[34], rfl, ?_, Keep.alloc1 w _, fun y hy => by simp [Value.ownBlock] at hy; omega⟩
    exact World.ownsRow_lit w #[.int .u8 34] 1 (Nat.zero_le _) (by unfold maxLen; omega) rfl
  go_enter Try.func44, Try.ntmps44
  go_wp2
  go_loopw [3, 4] (fun z3 z4 wr => ∃ (k : Nat), z4 = .int .i64 (k : Int) ∧ k ≤ s.size ∧ Hid (∃ acc', acc' = 34 :: escL (s.toList.take k) ∧ Qq w wr z3 acc')) (fun _ z4 _ => s.size - (intOf z4).toNat)
  case atStart => exact ⟨0, rfl, Nat.zero_le _, h0⟩
  case round =>
    clear h0
    obtain ⟨k, rfl, hk, hI⟩ := hrel
    obtain ⟨acc, hacc0, hq0⟩ := hI.out
    have hacc : Hid (acc = 34 :: escL (s.toList.take k)) := hacc0
    have Hq0 : Hid (Qq w wr u3 acc) := hq0
    have hal : acc.length + 16 ≤ 140737488355328 := by
      have h1 := escL_len (s.toList.take k)
      rw [List.length_take, toList_len] at h1
      rw [hacc0]
      simp
      omega
    clear hI hacc0 hq0
    by_cases hlt : k < s.size
    · have hlti : (k : Int) < (s.size : Int) := by omega
      obtain ⟨c, hc, hesc0⟩ := escL_take s k hlt
      have hg : ((s[k]'hlt).toNat : Int) = (c.toNat : Int) := (HG.out k hlt).trans hc
      have hesc : Hid _ := hesc0
      have hcl : c.toNat < 256 := c.toNat_lt
      clear hc hesc0
      by_cases q1 : c = 34 ∨ c = 92
      · have he : Hid (escB c = [92, c]) := by show _ = _; unfold escB; rw [if_pos q1]
        rcases q1 with q | q
        · have e34 : ((c.toNat : Int) == 34) = true := by rw [q]; rfl
          clear q
          have hr1 : Hid (Row (wr.alloc (.cells #[.int .u8 ((92 : UInt8).toNat : Int)] 5 (0, 0))) u3 (acc)) := Hq0.out.row.keep (Keep.alloc1 wr _) (Off.nil _)
          go_wp2_with (at_builtin; refine wp_app rfl (.tmp 41) (.tmp 42) 35 35 rfl underS u3 (acc) rfl hr1.out _ [(92 : UInt8)] rfl (Bs.one wr (92 : UInt8)).src (by simp; omega) ?_)
          intro v1 w1 R1 K1 F1 S1
          obtain ⟨a1, c1, rfl⟩ := S1
          have Hq1 : Hid (Qq w w1 (.slice a1 (acc.length + 1) c1) ((acc) ++ [(92 : UInt8)])) := by
            have := Hq0.out.app (92 : UInt8) (by simpa using R1) K1 (by simpa using F1)
            show Qq _ _ _ _
            simpa using this
          clear R1 K1 F1 hr1
          have hr2 : Hid (Row (w1.alloc (.cells #[.int .u8 (c.toNat : Int)] 5 (0, 0))) (.slice a1 (acc.length + 1) c1) ((acc) ++ [(92 : UInt8)])) := Hq1.out.row.keep (Keep.alloc1 w1 _) (Off.nil _)
          go_wp2_with (at_builtin; refine wp_app rfl (.tmp 44) (.tmp 46) 35 35 rfl underS (.slice a1 (acc.length + 1) c1) ((acc) ++ [(92 : UInt8)]) rfl hr2.out _ [c] rfl (Bs.one w1 c).src (by simp; omega) ?_)
          intro v2 w2 R2 K2 F2 S2
          obtain ⟨a2, c2, rfl⟩ := S2
          have Hq2 : Hid (Qq w w2 (.slice a2 (acc.length + 1 + 1) c2) (((acc) ++ [(92 : UInt8)]) ++ [c])) := by
            have := Hq1.out.app c (by simpa using R2) K2 (by simpa using F2)
            show Qq _ _ _ _
            simpa using this
          clear R2 K2 F2 hr2
          have hnx : Hid (∃ acc', acc' = 34 :: escL (s.toList.take (k + 1)) ∧ Qq w w2 (.slice a2 (acc.length + 1 + 1) c2) acc') := ⟨_, by rw [hesc.out, he.out, hacc.out]; simp, Hq2.out⟩
          clear Hq0 Hq1 Hq2
          go_wp2
          go_roundw
          case rel => exact ⟨k + 1, by go_num, by omega, by first | exact hnx | (simp only [List.length_append] at hnx ⊢; exact hnx) | simpa using hnx⟩
          case measure => simp [intOf]; omega

        · have e34 : ((c.toNat : Int) == 34) = false := by rw [q]; rfl
          have e92 : ((c.toNat : Int) == 92) = true := by rw [q]; rfl
          clear q
          have hr1 : Hid (Row (wr.alloc (.cells #[.int .u8 ((92 : UInt8).toNat : Int)] 5 (0, 0))) u3 (acc)) := Hq0.out.row.keep (Keep.alloc1 wr _) (Off.nil _)
          go_wp2_with (at_builtin; refine wp_app rfl (.tmp 41) (.tmp 42) 35 35 rfl underS u3 (acc) rfl hr1.out _ [(92 : UInt8)] rfl (Bs.one wr (92 : UInt8)).src (by simp; omega) ?_)
          intro v1 w1 R1 K1 F1 S1
          obtain ⟨a1, c1, rfl⟩ := S1
          have Hq1 : Hid (Qq w w1 (.slice a1 (acc.length + 1) c1) ((acc) ++ [(92 : UInt8)])) := by
            have := Hq0.out.app (92 : UInt8) (by simpa using R1) K1 (by simpa using F1)
            show Qq _ _ _ _
            simpa using this
          clear R1 K1 F1 hr1
          have hr2 : Hid (Row (w1.alloc (.cells #[.int .u8 (c.toNat : Int)] 5 (0, 0))) (.slice a1 (acc.length + 1) c1) ((acc) ++ [(92 : UInt8)])) := Hq1.out.row.keep (Keep.alloc1 w1 _) (Off.nil _)
          go_wp2_with (at_builtin; refine wp_app rfl (.tmp 44) (.tmp 46) 35 35 rfl underS (.slice a1 (acc.length + 1) c1) ((acc) ++ [(92 : UInt8)]) rfl hr2.out _ [c] rfl (Bs.one w1 c).src (by simp; omega) ?_)
          intro v2 w2 R2 K2 F2 S2
          obtain ⟨a2, c2, rfl⟩ := S2
          have Hq2 : Hid (Qq w w2 (.slice a2 (acc.length + 1 + 1) c2) (((acc) ++ [(92 : UInt8)]) ++ [c])) := by
            have := Hq1.out.app c (by simpa using R2) K2 (by simpa using F2)
            show Qq _ _ _ _
            simpa using this
          clear R2 K2 F2 hr2
          have hnx : Hid (∃ acc', acc' = 34 :: escL (s.toList.take (k + 1)) ∧ Qq w w2 (.slice a2 (acc.length + 1 + 1) c2) acc') := ⟨_, by rw [hesc.out, he.out, hacc.out]; simp, Hq2.out⟩
          clear Hq0 Hq1 Hq2
          go_wp2
          go_roundw
          case rel => exact ⟨k + 1, by go_num, by omega, by first | exact hnx | (simp only [List.length_append] at hnx ⊢; exact hnx) | simpa using hnx⟩
          case measure => simp [intOf]; omega

      · have e34 : ((c.toNat : Int) == 34) = false := beq_of (k := 34) (fun e => q1 (.inl e))
        have e92 : ((c.toNat : Int) == 92) = false := beq_of (k := 92) (fun e => q1 (.inr e))
        by_cases q2 : c = 10
        · have he : Hid (escB c = [92, 110]) := by show _ = _; subst q2; rfl
          have e10 : ((c.toNat : Int) == 10) = true := by rw [q2]; rfl
          clear q1 q2
          have hr1 : Hid (Row (wr.alloc (.cells #[.int .u8 ((92 : UInt8).toNat : Int)] 5 (0, 0))) u3 (acc)) := Hq0.out.row.keep (Keep.alloc1 wr _) (Off.nil _)
          go_wp2_with (at_builtin; refine wp_app rfl (.tmp 51) (.tmp 52) 35 35 rfl underS u3 (acc) rfl hr1.out _ [(92 : UInt8)] rfl (Bs.one wr (92 : UInt8)).src (by simp; omega) ?_)
          intro v1 w1 R1 K1 F1 S1
          obtain ⟨a1, c1, rfl⟩ := S1
          have Hq1 : Hid (Qq w w1 (.slice a1 (acc.length + 1) c1) ((acc) ++ [(92 : UInt8)])) := by
            have := Hq0.out.app (92 : UInt8) (by simpa using R1) K1 (by simpa using F1)
            show Qq _ _ _ _
            simpa using this
          clear R1 K1 F1 hr1
          have hr2 : Hid (Row (w1.alloc (.cells #[.int .u8 ((110 : UInt8).toNat : Int)] 5 (0, 0))) (.slice a1 (acc.length + 1) c1) ((acc) ++ [(92 : UInt8)])) := Hq1.out.row.keep (Keep.alloc1 w1 _) (Off.nil _)
          go_wp2_with (at_builtin; refine wp_app rfl (.tmp 54) (.tmp 55) 35 35 rfl underS (.slice a1 (acc.length + 1) c1) ((acc) ++ [(92 : UInt8)]) rfl hr2.out _ [(110 : UInt8)] rfl (Bs.one w1 (110 : UInt8)).src (by simp; omega) ?_)
          intro v2 w2 R2 K2 F2 S2
          obtain ⟨a2, c2, rfl⟩ := S2
          have Hq2 : Hid (Qq w w2 (.slice a2 (acc.length + 1 + 1) c2) (((acc) ++ [(92 : UInt8)]) ++ [(110 : UInt8)])) := by
            have := Hq1.out.app (110 : UInt8) (by simpa using R2) K2 (by simpa using F2)
            show Qq _ _ _ _
            simpa using this
          clear R2 K2 F2 hr2
          have hnx : Hid (∃ acc', acc' = 34 :: escL (s.toList.take (k + 1)) ∧ Qq w w2 (.slice a2 (acc.length + 1 + 1) c2) acc') := ⟨_, by rw [hesc.out, he.out, hacc.out]; simp, Hq2.out⟩
          clear Hq0 Hq1 Hq2
          go_wp2
          go_roundw
          case rel => exact ⟨k + 1, by go_num, by omega, by first | exact hnx | (simp only [List.length_append] at hnx ⊢; exact hnx) | simpa using hnx⟩
          case measure => simp [intOf]; omega

        · have e10 : ((c.toNat : Int) == 10) = false := beq_of (k := 10) q2
          by_cases q3 : c.toNat < 32 ∨ 126 < c.toNat
          · have he : Hid (escB c = [92, 120, hexD (c.toNat / 16), hexD (c.toNat % 16)]) := by show _ = _; unfold escB; rw [if_neg q1, if_neg q2, if_pos q3]
            obtain ⟨n1, hn1⟩ : ∃ n1, c.toNat / 16 = n1 := ⟨_, rfl⟩
            obtain ⟨n2, hn2⟩ : ∃ n2, c.toNat % 16 = n2 := ⟨_, rfl⟩
            rw [hn1, hn2] at he
            have hb3 : n1 < 16 := by omega
            have hb4 : n2 < 16 := by omega
            have hd1 : (c.toNat : Int).tdiv 16 = (n1 : Int) := by rw [Int.tdiv_eq_ediv_of_nonneg (by omega)]; omega
            have hd2 : (c.toNat : Int).tmod 16 = (n2 : Int) := by rw [Int.tmod_eq_emod_of_nonneg (by omega)]; omega
            have hd3 : (c.toNat : Int) / 16 = (n1 : Int) := by omega
            have hd4 : (c.toNat : Int) % 16 = (n2 : Int) := by omega
            have hb1 : (n1 : Int) < 16 := by omega
            have hb2 : (n2 : Int) < 16 := by omega
            have hx1 : (litH[n1]'hb3) = hexD n1 := lit_dig ⟨n1, hb3⟩
            have hx2 : (litH[n2]'hb4) = hexD n2 := lit_dig ⟨n2, hb4⟩
            have h32 : (32 ≤ (c.toNat : Int) ∧ decide ((c.toNat : Int) ≤ 126) = false) ∨ (decide (32 ≤ (c.toNat : Int)) = false) := by
              rcases q3 with e | e
              · right; simp; omega
              · left; refine ⟨by omega, ?_⟩; simp; omega
            clear q1 q2 q3
            generalize hexD n1 = y1 at hx1 he
            generalize hexD n2 = y2 at hx2 he
            clear hn1 hn2
            rcases h32 with ⟨h32, h126⟩ | h32
            all_goals
              have hr1 : Hid (Row (wr.alloc (.cells #[.int .u8 ((92 : UInt8).toNat : Int)] 5 (0, 0))) u3 (acc)) := Hq0.out.row.keep (Keep.alloc1 wr _) (Off.nil _)
              go_wp2_with (at_builtin; refine wp_app rfl (.tmp 16) (.tmp 17) 35 35 rfl underS u3 (acc) rfl hr1.out _ [(92 : UInt8)] rfl (Bs.one wr (92 : UInt8)).src (by simp; omega) ?_)
              intro v1 w1 R1 K1 F1 S1
              obtain ⟨a1, c1, rfl⟩ := S1
              have Hq1 : Hid (Qq w w1 (.slice a1 (acc.length + 1) c1) ((acc) ++ [(92 : UInt8)])) := by
                have := Hq0.out.app (92 : UInt8) (by simpa using R1) K1 (by simpa using F1)
                show Qq _ _ _ _
                simpa using this
              clear R1 K1 F1 hr1
              have hr2 : Hid (Row (w1.alloc (.cells #[.int .u8 ((120 : UInt8).toNat : Int)] 5 (0, 0))) (.slice a1 (acc.length + 1) c1) ((acc) ++ [(92 : UInt8)])) := Hq1.out.row.keep (Keep.alloc1 w1 _) (Off.nil _)
              go_wp2_with (at_builtin; refine wp_app rfl (.tmp 19) (.tmp 20) 35 35 rfl underS (.slice a1 (acc.length + 1) c1) ((acc) ++ [(92 : UInt8)]) rfl hr2.out _ [(120 : UInt8)] rfl (Bs.one w1 (120 : UInt8)).src (by simp; omega) ?_)
              intro v2 w2 R2 K2 F2 S2
              obtain ⟨a2, c2, rfl⟩ := S2
              have Hq2 : Hid (Qq w w2 (.slice a2 (acc.length + 1 + 1) c2) (((acc) ++ [(92 : UInt8)]) ++ [(120 : UInt8)])) := by
                have := Hq1.out.app (120 : UInt8) (by simpa using R2) K2 (by simpa using F2)
                show Qq _ _ _ _
                simpa using this
              clear R2 K2 F2 hr2
              have hr3 : Hid (Row (w2.alloc (.cells #[.int .u8 (y1.toNat : Int)] 5 (0, 0))) (.slice a2 (acc.length + 1 + 1) c2) (((acc) ++ [(92 : UInt8)]) ++ [(120 : UInt8)])) := Hq2.out.row.keep (Keep.alloc1 w2 _) (Off.nil _)
              go_wp2_with (at_builtin; refine wp_app rfl (.tmp 22) (.tmp 26) 35 35 rfl underS (.slice a2 (acc.length + 1 + 1) c2) (((acc) ++ [(92 : UInt8)]) ++ [(120 : UInt8)]) rfl hr3.out _ [y1] rfl (Bs.one w2 y1).src (by simp; omega) ?_)
              intro v3 w3 R3 K3 F3 S3
              obtain ⟨a3, c3, rfl⟩ := S3
              have Hq3 : Hid (Qq w w3 (.slice a3 (acc.length + 1 + 1 + 1) c3) ((((acc) ++ [(92 : UInt8)]) ++ [(120 : UInt8)]) ++ [y1])) := by
                have := Hq2.out.app y1 (by simpa using R3) K3 (by simpa using F3)
                show Qq _ _ _ _
                simpa using this
              clear R3 K3 F3 hr3
              have hr4 : Hid (Row (w3.alloc (.cells #[.int .u8 (y2.toNat : Int)] 5 (0, 0))) (.slice a3 (acc.length + 1 + 1 + 1) c3) ((((acc) ++ [(92 : UInt8)]) ++ [(120 : UInt8)]) ++ [y1])) := Hq3.out.row.keep (Keep.alloc1 w3 _) (Off.nil _)
              go_wp2_with (at_builtin; refine wp_app rfl (.tmp 28) (.tmp 32) 35 35 rfl underS (.slice a3 (acc.length + 1 + 1 + 1) c3) ((((acc) ++ [(92 : UInt8)]) ++ [(120 : UInt8)]) ++ [y1]) rfl hr4.out _ [y2] rfl (Bs.one w3 y2).src (by simp; omega) ?_)
              intro v4 w4 R4 K4 F4 S4
              obtain ⟨a4, c4, rfl⟩ := S4
              have Hq4 : Hid (Qq w w4 (.slice a4 (acc.length + 1 + 1 + 1 + 1) c4) (((((acc) ++ [(92 : UInt8)]) ++ [(120 : UInt8)]) ++ [y1]) ++ [y2])) := by
                have := Hq3.out.app y2 (by simpa using R4) K4 (by simpa using F4)
                show Qq _ _ _ _
                simpa using this
              clear R4 K4 F4 hr4
              have hnx : Hid (∃ acc', acc' = 34 :: escL (s.toList.take (k + 1)) ∧ Qq w w4 (.slice a4 (acc.length + 1 + 1 + 1 + 1) c4) acc') := ⟨_, by rw [hesc.out, he.out, hacc.out]; simp, Hq4.out⟩
              clear Hq0 Hq1 Hq2 Hq3 Hq4
              go_wp2
              go_roundw
              case rel => exact ⟨k + 1, by go_num, by omega, by first | exact hnx | (simp only [List.length_append] at hnx ⊢; exact hnx) | simpa using hnx⟩
              case measure => simp [intOf]; omega
          · have he : Hid (escB c = [c]) := by show _ = _; unfold escB; rw [if_neg q1, if_neg q2, if_neg q3]
            have h32 : 32 ≤ (c.toNat : Int) := by omega
            have h126 : (c.toNat : Int) ≤ 126 := by omega
            clear q1 q2 q3
            have hr1 : Hid (Row (wr.alloc (.cells #[.int .u8 (c.toNat : Int)] 5 (0, 0))) u3 (acc)) := Hq0.out.row.keep (Keep.alloc1 wr _) (Off.nil _)
            go_wp2_with (at_builtin; refine wp_app rfl (.tmp 64) (.tmp 66) 35 35 rfl underS u3 (acc) rfl hr1.out _ [c] rfl (Bs.one wr c).src (by simp; omega) ?_)
            intro v1 w1 R1 K1 F1 S1
            obtain ⟨a1, c1, rfl⟩ := S1
            have Hq1 : Hid (Qq w w1 (.slice a1 (acc.length + 1) c1) ((acc) ++ [c])) := by
              have := Hq0.out.app c (by simpa using R1) K1 (by simpa using F1)
              show Qq _ _ _ _
              simpa using this
            clear R1 K1 F1 hr1
            have hnx : Hid (∃ acc', acc' = 34 :: escL (s.toList.take (k + 1)) ∧ Qq w w1 (.slice a1 (acc.length + 1) c1) acc') := ⟨_, by rw [hesc.out, he.out, hacc.out]; simp, Hq1.out⟩
            clear Hq0 Hq1
            go_wp2
            go_roundw
            case rel => exact ⟨k + 1, by go_num, by omega, by first | exact hnx | (simp only [List.length_append] at hnx ⊢; exact hnx) | simpa using hnx⟩
            case measure => simp [intOf]; omega

    · have hlti : ¬ (k : Int) < (s.size : Int) := by omega
      have hfin : Hid (acc = 34 :: escL s.toList) := by
        show _ = _
        rw [hacc.out, List.take_of_length_le (by rw [toList_len]; omega)]
      have hr1 : Hid (Row (wr.alloc (.cells #[.int .u8 34] 5 (0, 0))) u3 acc) := Hq0.out.row.keep (Keep.alloc1 wr _) (Off.nil _)
      go_wp2_with (at_builtin; refine wp_app rfl (.tmp 68) (.tmp 69) 35 35 rfl underS u3 acc rfl hr1.out _ [34] rfl (Bs.one wr 34).src (by simp; omega) ?_)
      intro v1 w1 R1 K1 F1 S1
      have hst := run_str R1.bs
      have hK : Hid (Keep [] w w1) := (Hq0.out.app 34 (by simpa using R1) K1 (by simpa using F1)).keep
      obtain ⟨a1, c1, rfl⟩ := S1
      have hv : Hid (ba (acc ++ [34]) = ba (quoteL s.toList)) := by show _ = _; rw [hfin.out]; rfl
      clear R1 K1 F1 hr1
      go_wp2
      go_ret
      exact ⟨by rw [← hv.out]; rfl, hK.out⟩
end Go.Proofs.Ytmglbcldjhdhkaa

/- The document's size and one. -/
namespace Go.Proofs.Ytmglbcldjhdhkaa
open Go.RowKit Go.PlainAid

/-- the length of a quoted text, or too much -/
def szOk (l : List UInt8) (n : Nat) : Prop := (n = (quoteL l).length ∨ (65536 < n ∧ 65536 < (quoteL l).length)) ∧ n ≤ 65600
theorem quote_len (l : List UInt8) : (quoteL l).length = 2 + (escL l).length := by simp [quoteL]; omega
theorem esc_mono (l : List UInt8) (k : Nat) : (escL (l.take k)).length ≤ (escL l).length := by
  have e : escL l = escL (l.take k) ++ escL (l.drop k) := by unfold escL; rw [← List.flatMap_append, List.take_append_drop]
  rw [e, List.length_append]
  omega

set_option maxRecDepth 1000000 in
set_option maxHeartbeats 1000000 in
theorem rsize_any (s : ByteArray) (w : World) (hs : s.size ≤ 9223372036854775800) :
    Calls Try.prog 43 #[.string s] w fun e w' => ∃ n : Nat, szOk s.toList n ∧ e = .returned (.int .i64 (n : Int)) ∧ w' = w := by
  have HG : Hid (∀ i (h : i < s.size), ((s[i]'h).toNat : Int) = bt s i) := get_bt s
  go_enter Try.func43, Try.ntmps43
  go_wp2
  go_loopw [3, 4] (fun z3 z4 wr => ∃ (k n : Nat), z3 = .int .i64 (n : Int) ∧ z4 = .int .i64 (k : Int) ∧ k ≤ s.size ∧ n ≤ 65600 ∧ wr = w ∧ Hid (n = 2 + (escL (s.toList.take k)).length)) (fun _ z4 _ => s.size - (intOf z4).toNat)
  case atStart => exact ⟨0, 2, rfl, rfl, Nat.zero_le _, by omega, rfl, by show _ = _; simp [escL]⟩
  case round =>
    obtain ⟨k, n, rfl, rfl, hk, hn, rfl, hI⟩ := hrel
    by_cases hlt : k < s.size
    · have hlti : (k : Int) < (s.size : Int) := by omega
      by_cases hbig : 65536 < n
      · have hbi : ¬ (n : Int) ≤ 65536 := by omega
        have hbd : decide ((n : Int) ≤ 65536) = false := by simp; omega
        have hfin : Hid (szOk s.toList n) := by
          refine ⟨.inr ⟨hbig, ?_⟩, hn⟩
          have := esc_mono s.toList k
          rw [quote_len]
          have := hI.out
          omega
        clear hI
        go_wp2
        go_ret
        exact ⟨n, hfin.out, rfl, rfl⟩
      · have hbi : (n : Int) ≤ 65536 := by omega
        obtain ⟨c, hc, hesc0⟩ := escL_take s k hlt
        have hg : ((s[k]'hlt).toNat : Int) = (c.toNat : Int) := (HG.out k hlt).trans hc
        have hesc : Hid ((escL (s.toList.take (k + 1))).length = (escL (s.toList.take k)).length + (escB c).length) := by show _ = _; rw [hesc0]; simp
        have hcl : c.toNat < 256 := c.toNat_lt
        clear hc hesc0
        by_cases q1 : c = 34 ∨ c = 92 ∨ c = 10
        · have hnx : Hid (n + 2 = 2 + (escL (s.toList.take (k + 1))).length) := by
            show _ = _
            have he : (escB c).length = 2 := by rcases q1 with e | e | e <;> subst e <;> rfl
            have := hI.out
            rw [hesc.out, he]
            omega
          clear hI hesc
          rcases q1 with q | q | q
          · have e34 : ((c.toNat : Int) == 34) = true := by rw [q]; rfl
            clear q
            go_wp2
            go_roundw
            case rel => exact ⟨k + 1, n + 2, by go_num, by go_num, by omega, by omega, trivial, hnx⟩
            case measure => simp [intOf]; omega
          · have e34 : ((c.toNat : Int) == 34) = false := by rw [q]; rfl
            have e92 : ((c.toNat : Int) == 92) = true := by rw [q]; rfl
            clear q
            go_wp2
            go_roundw
            case rel => exact ⟨k + 1, n + 2, by go_num, by go_num, by omega, by omega, trivial, hnx⟩
            case measure => simp [intOf]; omega
          · have e34 : ((c.toNat : Int) == 34) = false := by rw [q]; rfl
            have e92 : ((c.toNat : Int) == 92) = false := by rw [q]; rfl
            have e10 : ((c.toNat : Int) == 10) = true := by rw [q]; rfl
            clear q
            go_wp2
            go_roundw
            case rel => exact ⟨k + 1, n + 2, by go_num, by go_num, by omega, by omega, trivial, hnx⟩
            case measure => simp [intOf]; omega
        · have n34 : c ≠ 34 := fun e => q1 (.inl e)
          have n92 : c ≠ 92 := fun e => q1 (.inr (.inl e))
          have n10 : c ≠ 10 := fun e => q1 (.inr (.inr e))
          have e34 : ((c.toNat : Int) == 34) = false := beq_of (k := 34) n34
          have e92 : ((c.toNat : Int) == 92) = false := beq_of (k := 92) n92
          have e10 : ((c.toNat : Int) == 10) = false := beq_of (k := 10) n10
          by_cases q3 : c.toNat < 32 ∨ 126 < c.toNat
          · have hnx : Hid (n + 4 = 2 + (escL (s.toList.take (k + 1))).length) := by
              show _ = _
              have he : (escB c).length = 4 := by unfold escB; rw [if_neg (by simp [n34, n92]), if_neg n10, if_pos q3]; rfl
              have := hI.out
              rw [hesc.out, he]
              omega
            have h32 : (32 ≤ (c.toNat : Int) ∧ decide ((c.toNat : Int) ≤ 126) = false) ∨ (decide (32 ≤ (c.toNat : Int)) = false) := by
              rcases q3 with e | e
              · right; simp; omega
              · left; refine ⟨by omega, ?_⟩; simp; omega
            clear hI hesc q1 q3 n34 n92 n10
            rcases h32 with ⟨h32, h126⟩ | h32
            all_goals
              go_wp2
              go_roundw
              case rel => exact ⟨k + 1, n + 4, by go_num, by go_num, by omega, by omega, trivial, hnx⟩
              case measure => simp [intOf]; omega
          · have hnx : Hid (n + 1 = 2 + (escL (s.toList.take (k + 1))).length) := by
              show _ = _
              have he : (escB c).length = 1 := by unfold escB; rw [if_neg (by simp [n34, n92]), if_neg n10, if_neg q3]; rfl
              have := hI.out
              rw [hesc.out, he]
              omega
            have h32 : 32 ≤ (c.toNat : Int) := by omega
            have h126 : (c.toNat : Int) ≤ 126 := by omega
            clear hI hesc q1 q3 n34 n92 n10
            go_wp2
            go_roundw
            case rel => exact ⟨k + 1, n + 1, by go_num, by go_num, by omega, by omega, trivial, hnx⟩
            case measure => simp [intOf]; omega
    · have hlti : ¬ (k : Int) < (s.size : Int) := by omega
      have hfin : Hid (szOk s.toList n) := by
        refine ⟨.inl ?_, hn⟩
        rw [quote_len, hI.out, List.take_of_length_le (by rw [toList_len]; omega)]
      clear hI
      go_wp2
      go_ret
      exact ⟨n, hfin.out, rfl, rfl⟩

theorem run_le : ∀ (l : List UInt8) (m : Mc), (runM m l).1 ≤ l.length
  | [], m => by simp [runM]
  | c :: t, m => by
    cases h : takeM m c with
    | none => rw [run_stop h]; simp
    | some m' => rw [run_cons h]; have := run_le t m'; simp; omega
/-- one piece and nothing else -/
theorem one_alone (l : List UInt8) (hk : (pieceL l).kind ≠ 0) (hsz : (pieceL l).size = l.length) : skipN false l = 0 ∧ ∃ m', runM ⟨0, 0⟩ l = (l.length, m') ∧ finM m' = [] := by
  cases l with
  | nil => simp [pieceL] at hk
  | cons c t =>
    have hb : blankB (c.toNat : Int) = false := by
      cases e : blankB (c.toNat : Int)
      · rfl
      · exact absurd (piece_blank (blank_class e)) hk
    have hs : ¬ (c = 47 ∧ t.head? = some 47) := by
      rintro ⟨rfl, e⟩
      rw [piece_slash] at hsz
      cases t with
      | nil => simp at e
      | cons d t => simp at hsz
    refine ⟨by rw [skipN, if_neg (by simp [hb]), if_neg hs], ?_⟩
    obtain ⟨m', g, r⟩ := (do_piece ⟨0, 0⟩ c t rfl hb hs).1 hk
    rw [hsz, List.drop_length] at r
    have g2 := g.2
    rw [hsz, List.drop_length] at g2
    exact ⟨m', by rw [g2]; simp [runM], r⟩
theorem alone_one (l : List UInt8) (hl : l ≠ []) (hsk : skipN false l = 0) (hr : ∃ m', runM ⟨0, 0⟩ l = (l.length, m') ∧ finM m' = []) : (pieceL l).kind ≠ 0 := by
  intro hk
  cases l with
  | nil => exact hl rfl
  | cons c t =>
    obtain ⟨hb, hs⟩ := skip_zero hsk
    obtain ⟨hle, m2, e, hor⟩ := (do_piece ⟨0, 0⟩ c t rfl hb hs).2 hk
    obtain ⟨m', e2, hf⟩ := hr
    rw [e] at e2
    simp only [Prod.mk.injEq] at e2
    obtain ⟨e3, rfl⟩ := e2
    rcases hor with h | h
    · omega
    · exact h hf

set_option maxRecDepth 1000000 in
set_option maxHeartbeats 1000000 in
theorem rone_any (s : ByteArray) (kd : Int) (w : World) (hs : s.size ≤ 65536) (hkd : kd ≠ 0) :
    Calls Try.prog 63 #[.string s, .int .i64 kd] w fun e w' => e = .returned (.bool (decide ((pieceL s.toList).kind = kd) && decide ((pieceL s.toList).size = s.toList.length))) ∧ Keep [] w w' := by
  have hRun : Hid (∀ w, Calls Try.prog 30 #[.string s] w fun e w' => e = .returned (.tuple #[.int .i64 ((runM ⟨0, 0⟩ s.toList).1 : Int), .agg #[.int .i64 (runM ⟨0, 0⟩ s.toList).2.st, .int .i64 (runM ⟨0, 0⟩ s.toList).2.n]]) ∧ Keep [] w w') := fun w => run_any s w (by omega)
  have hFin : Hid (∀ w, Calls Try.prog 31 #[.string s] w fun e w' => e = .returned (.string (ba (finM (runM ⟨0, 0⟩ s.toList).2))) ∧ Keep [] w w') := fun w => finish_any s w (by omega)
  have hSk : Hid (∀ w, Calls Try.prog 32 #[.string s, .int .i64 0] w fun e w' => e = .returned (.int .i64 ((skipN false s.toList : Nat) : Int)) ∧ w' = w) := fun w => by
    have := rskip_any s 0 w (Nat.zero_le _) (by omega)
    rw [Nat.zero_add, List.drop_zero] at this
    exact this
  have hi : ¬ (65536 : Int) < (s.size : Int) := by omega
  have hA := one_alone s.toList
  have hB := alone_one s.toList
  have hP := fun w (ha : 0 < s.size) (hk : (pieceL s.toList).kind ≠ 0) => by
    have := rpiece_any s 0 w hs ha (by rw [List.drop_zero]; exact hk)
    rw [List.drop_zero, Nat.zero_add] at this
    exact this
  have hlen : s.toList.length = s.size := toList_len s
  by_cases hall : s.toList ≠ [] ∧ skipN false s.toList = 0 ∧ ∃ m', runM ⟨0, 0⟩ s.toList = (s.toList.length, m') ∧ finM m' = []
  · obtain ⟨hne, hsk, m', hr, hf⟩ := hall
    have hk := hB hne hsk ⟨m', hr, hf⟩
    have hpos : 0 < s.size := by
      rw [← hlen]
      exact List.length_pos_iff.2 hne
    have HP : Hid (∀ w, Calls Try.prog 33 #[.string s, .int .i64 0] w fun e w' => e = .returned (.tuple #[.agg #[.int .i64 (pieceL s.toList).kind, .string (ba (pieceL s.toList).text), .int .i64 0, .int .i64 0], .int .i64 ((pieceL s.toList).size : Int)]) ∧ Keep [] w w') := fun w => hP w hpos hk
    rw [hr] at hRun hFin
    rw [hf] at hFin
    rw [hsk] at hSk
    rw [hlen] at hRun ⊢
    have hemp : s.toList.isEmpty = false := by cases e : s.toList with | nil => exact absurd e hne | cons _ _ => rfl
    have hFin2 : Hid (∀ w, Calls Try.prog 31 #[.string s] w fun e w' => e = .returned (.string ⟨#[]⟩) ∧ Keep [] w w') := hFin.out
    have hSk2 : Hid (∀ w, Calls Try.prog 32 #[.string s, .int .i64 0] w fun e w' => e = .returned (.int .i64 0) ∧ w' = w) := hSk.out
    simp only at hRun
    generalize m'.st = ms at hRun
    generalize m'.n = mn at hRun
    generalize pieceL s.toList = f at HP ⊢
    obtain ⟨fk, ft, fs⟩ := f
    simp only at HP ⊢
    have hgoal : Hid ((decide (fk = kd) && decide (fs = s.size)) = (((fs : Int) == (s.size : Int)) && (fk == kd))) := by
      show _ = _
      by_cases e1 : fk = kd <;> by_cases e2 : fs = s.size
      · subst e1; subst e2; simp
      · have e3 : ¬ (fs : Int) = (s.size : Int) := by omega
        simp [e2, e3]
      · subst e2; simp [e1]
      · have e3 : ¬ (fs : Int) = (s.size : Int) := by omega
        simp [e1, e2, e3]
    rw [hgoal.out]
    clear hA hB hP hgoal hne hk hr hf hSk hFin hsk
    cases e1 : ((fs : Int) == (s.size : Int))
    · go_enter Try.func63, Try.ntmps63
      go_wp2_with (first | (go_at_call 30; refine (hRun.out _).mono ?_; rintro e w1 ⟨rfl, k1⟩) | (go_at_call 31; refine (hFin2.out _).mono ?_; rintro e w2 ⟨rfl, k2⟩) | (go_at_call 32; refine (hSk2.out _).mono ?_; rintro e w' ⟨rfl, rfl⟩) | (go_at_call 33; refine (HP.out _).mono ?_; rintro e w3 ⟨rfl, k3⟩))
      go_ret
      exact ⟨rfl, (((k1.alloc _).trans' k2).trans' k3).alloc _⟩
    · go_enter Try.func63, Try.ntmps63
      go_wp2_with (first | (go_at_call 30; refine (hRun.out _).mono ?_; rintro e w1 ⟨rfl, k1⟩) | (go_at_call 31; refine (hFin2.out _).mono ?_; rintro e w2 ⟨rfl, k2⟩) | (go_at_call 32; refine (hSk2.out _).mono ?_; rintro e w' ⟨rfl, rfl⟩) | (go_at_call 33; refine (HP.out _).mono ?_; rintro e w3 ⟨rfl, k3⟩))
      go_ret
      exact ⟨rfl, (((k1.alloc _).trans' k2).trans' k3).alloc _⟩
  · have hfalse : Hid ((decide ((pieceL s.toList).kind = kd) && decide ((pieceL s.toList).size = s.toList.length)) = false) := by
      show _ = _
      rw [Bool.and_eq_false_iff, decide_eq_false_iff_not, decide_eq_false_iff_not]
      by_cases e1 : (pieceL s.toList).kind = kd
      · right
        intro e2
        have hk : (pieceL s.toList).kind ≠ 0 := by rw [e1]; exact hkd
        obtain ⟨h1, h2⟩ := hA hk e2
        refine hall ⟨?_, h1, h2⟩
        intro e
        rw [e] at hk
        simp [pieceL] at hk
      · exact .inl e1
    rw [hfalse.out]
    have hruns := run_le s.toList ⟨0, 0⟩
    rw [hlen] at hruns
    have hfin0 : Hid (finM (runM ⟨0, 0⟩ s.toList).2 = [] → (runM ⟨0, 0⟩ s.toList).1 = s.size → s.toList ≠ [] → skipN false s.toList = 0 → False) := by
      intro a b c d
      exact hall ⟨c, d, (runM ⟨0, 0⟩ s.toList).2, Prod.ext (by rw [hlen]; exact b) rfl, a⟩
    clear hA hB hP hfalse hall
    generalize runM ⟨0, 0⟩ s.toList = r at *
    obtain ⟨k, ms, mn⟩ := r
    simp only at hRun hFin hruns hfin0
    cases hemp : s.toList.isEmpty with
    | true =>
      go_enter Try.func63, Try.ntmps63
      go_wp2_with (first | (go_at_call 30; refine (hRun.out _).mono ?_; rintro e w1 ⟨rfl, k1⟩))
      go_ret
      exact ⟨rfl, k1.alloc _⟩
    | false =>
      have hne : s.toList ≠ [] := by intro e; rw [e] at hemp; simp at hemp
      by_cases hlt : k < s.size
      · have hlti : (k : Int) < (s.size : Int) := by omega
        clear hfin0 hne
        go_enter Try.func63, Try.ntmps63
        go_wp2_with (first | (go_at_call 30; refine (hRun.out _).mono ?_; rintro e w1 ⟨rfl, k1⟩))
        go_ret
        exact ⟨rfl, k1.alloc _⟩
      · have hlti : ¬ (k : Int) < (s.size : Int) := by omega
        have hdec : decide ((k : Int) < (s.size : Int)) = false := by simp; omega
        have hke : k = s.size := by omega
        cases hfe : (ba (finM ⟨ms, mn⟩)).toList.isEmpty with
        | false =>
          clear hfin0 hne hke
          generalize finM ⟨ms, mn⟩ = fm at hFin hfe
          go_enter Try.func63, Try.ntmps63
          go_wp2_with (first | (go_at_call 30; refine (hRun.out _).mono ?_; rintro e w1 ⟨rfl, k1⟩) | (go_at_call 31; refine (hFin.out _).mono ?_; rintro e w2 ⟨rfl, k2⟩))
          go_ret
          exact ⟨rfl, (k1.alloc _).trans' k2⟩
        | true =>
          have hf : finM ⟨ms, mn⟩ = [] := by
            rw [ba_toList] at hfe
            exact List.isEmpty_iff.1 hfe
          have hsk : skipN false s.toList ≠ 0 := fun e => hfin0.out hf hke hne e
          have hsi : (((skipN false s.toList : Nat) : Int) == 0) = false := by simp; omega
          have hFin2 : Hid (∀ w, Calls Try.prog 31 #[.string s] w fun e w' => e = .returned (.string ⟨#[]⟩) ∧ Keep [] w w') := by
            rw [hf] at hFin
            exact hFin.out
          clear hfin0 hne hke hfe hf hFin
          generalize skipN false s.toList = sk at hSk hsk hsi
          go_enter Try.func63, Try.ntmps63
          go_wp2_with (first | (go_at_call 30; refine (hRun.out _).mono ?_; rintro e w1 ⟨rfl, k1⟩) | (go_at_call 31; refine (hFin2.out _).mono ?_; rintro e w2 ⟨rfl, k2⟩) | (go_at_call 32; refine (hSk.out _).mono ?_; rintro e w' ⟨rfl, rfl⟩))
          go_ret
          exact ⟨rfl, (k1.alloc _).trans' k2⟩
end Go.Proofs.Ytmglbcldjhdhkaa

/- The document's realPiece. -/
namespace Go.Proofs.Ytmglbcldjhdhkaa
open Go.RowKit Go.PlainAid

def tailR (v : List UInt8) : Bool := decide (v ≠ []) && decide (dl v = v.length)
def expR (u : List UInt8) : Bool := match u with
  | [] => false
  | e :: v => if e = 45 then tailR v else tailR (e :: v)
def fracR (t : List UInt8) : Bool :=
  if dl t = 0 then false else match t.drop (dl t) with
  | [] => true
  | d :: u => if d = 101 then expR u else false
def realP (l : List UInt8) : Bool :=
  if dl l = 0 then false else match l.drop (dl l) with
  | [] => false
  | c :: t => if c = 46 then fracR t else false

set_option maxRecDepth 1000000 in
set_option maxHeartbeats 600000 in
theorem rreal_any (s : ByteArray) (w : World) (hs : s.size ≤ 140737488355328) :
    Calls Try.prog 65 #[.string s] w fun e w' => e = .returned (.bool (realP s.toList)) ∧ w' = w := by
  have hRD : Hid (∀ (i : Nat) w, i ≤ s.size → Calls Try.prog 64 #[.string s, .int .i64 (i : Int)] w fun e w' => e = .returned (.int .i64 ((i + dl (s.toList.drop i) : Nat) : Int)) ∧ w' = w) := fun i w hi => rowDigits_any s i w hi hs
  have hle : ∀ i, i ≤ s.size → i + dl (s.toList.drop i) ≤ s.size := fun i hi => by
    have := dl_le (s.toList.drop i)
    rw [List.length_drop, toList_len] at this
    omega
  have h1 := hle 0 (by omega)
  have hR1 : Hid (Calls Try.prog 64 #[.string s, .int .i64 0] w fun e w' => e = .returned (.int .i64 ((dl s.toList : Nat) : Int)) ∧ w' = w) := by
    have := hRD.out 0 w (by omega)
    rw [Nat.zero_add, List.drop_zero] at this
    exact this
  rw [Nat.zero_add, List.drop_zero] at h1
  unfold realP
  by_cases ha : dl s.toList = 0
  · rw [if_pos ha]
    have hai : (((dl s.toList : Nat) : Int) == 0) = true := by rw [ha]; rfl
    generalize dl s.toList = A at *
    subst ha
    go_enter Try.func65, Try.ntmps65
    go_wp2_with (go_at_call 64; refine (hR1.out).mono ?_; rintro e w' ⟨rfl, rfl⟩)
    go_ret
    exact ⟨rfl, rfl⟩
  rw [if_neg ha]
  have hai : (((dl s.toList : Nat) : Int) == 0) = false := by simp; omega
  obtain ⟨A, hA⟩ : ∃ A, dl s.toList = A := ⟨_, rfl⟩
  rw [hA] at hai ha h1 hR1 ⊢
  clear hA
  cases hr : s.toList.drop A with
  | nil =>
    have hAs : A = s.size := by
      have := congrArg List.length hr
      rw [List.length_drop, toList_len] at this
      simp at this; omega
    have hlti : (s.size : Int) ≤ (A : Int) := by omega
    clear hr hRD hle hAs
    go_enter Try.func65, Try.ntmps65
    go_wp2_with (go_at_call 64; refine (hR1.out).mono ?_; rintro e w' ⟨rfl, rfl⟩)
    go_ret
    exact ⟨rfl, rfl⟩
  | cons c t =>
    obtain ⟨hlt1, hg1, hd1⟩ := at_drop hr
    have hE1 : decide ((s.size : Int) ≤ (A : Int)) = false := by simp; omega
    have hE2 : (A : Int) < (s.size : Int) := by omega
    have hE3 : ¬ (s.size : Int) ≤ (A : Int) := by omega
    by_cases h46 : c = 46
    · subst h46
      simp only [if_true]
      have hg1' : ((s[A]'hlt1).toNat : Int) = 46 := hg1
      have h2 := hle (A + 1) (by omega)
      have hR2 : Hid (Calls Try.prog 64 #[.string s, .int .i64 ((A + 1 : Nat) : Int)] w fun e w' => e = .returned (.int .i64 ((A + 1 + dl (s.toList.drop (A + 1)) : Nat) : Int)) ∧ w' = w) := hRD.out (A + 1) w (by omega)
      have hcast : ((A + 1 : Nat) : Int) = (A : Int) + 1 := by omega
      rw [hcast, hd1] at hR2
      rw [hd1] at h2
      have hdF : ∀ i, s.toList.drop (A + 1 + i) = t.drop i := fun i => by rw [← List.drop_drop, hd1]
      clear hg1 hr
      unfold fracR
      by_cases hb : dl t = 0
      · rw [if_pos hb]
        rw [hb, Nat.add_zero, hcast] at hR2
        clear hRD hle hdF
        go_enter Try.func65, Try.ntmps65
        go_wp2_with fail
        refine (hR1.out).mono ?_
        rintro e w' ⟨rfl, rfl⟩
        go_wp2_with fail
        refine (hR2.out).mono ?_
        rintro e w' ⟨rfl, rfl⟩
        go_wp2
        go_ret
        exact ⟨rfl, rfl⟩
      rw [if_neg hb]
      have hdB := hdF (dl t)
      obtain ⟨B, hB⟩ : ∃ B, A + 1 + dl t = B := ⟨_, rfl⟩
      rw [hB] at hR2 h2 hdB
      have hbi : ((B : Int) == (A : Int) + 1) = false := by simp; omega
      rw [← hdB]
      cases hr2 : s.toList.drop B with
      | nil =>
        have hBs : B = s.size := by
          have := congrArg List.length hr2
          rw [List.length_drop, toList_len] at this
          simp at this; omega
        have hbe : ((B : Int) == (s.size : Int)) = true := by simp; omega
        clear hRD hle hdF hr2 hdB hB hBs
        go_enter Try.func65, Try.ntmps65
        go_wp2_with fail
        refine (hR1.out).mono ?_
        rintro e w' ⟨rfl, rfl⟩
        go_wp2_with fail
        refine (hR2.out).mono ?_
        rintro e w' ⟨rfl, rfl⟩
        go_wp2
        go_ret
        exact ⟨rfl, rfl⟩
      | cons d u =>
        obtain ⟨hlt2, hg2, hd2⟩ := at_drop hr2
        have hbe : ((B : Int) == (s.size : Int)) = false := by simp; omega
        have hF2 : (B : Int) < (s.size : Int) := by omega
        clear hdF hdB hB hr2
        by_cases h101 : d = 101
        · subst h101
          simp only [if_true]
          have hg2' : ((s[B]'hlt2).toNat : Int) = 101 := hg2
          clear hg2
          cases hu : u with
          | nil =>
            rw [hu] at hd2
            have hBs : B + 1 = s.size := by
              have := congrArg List.length hd2
              rw [List.length_drop, toList_len] at this
              simp at this; omega
            have hcl : ¬ (B : Int) + 1 < (s.size : Int) := by omega
            clear hRD hle hd2 hu hBs
            go_enter Try.func65, Try.ntmps65
            go_wp2_with fail
            refine (hR1.out).mono ?_
            rintro e w' ⟨rfl, rfl⟩
            go_wp2_with fail
            refine (hR2.out).mono ?_
            rintro e w' ⟨rfl, rfl⟩
            go_wp2
            go_ret
            exact ⟨rfl, rfl⟩
          | cons e v =>
            rw [hu] at hd2
            obtain ⟨hlt3, hg3, hd3⟩ := at_drop hd2
            have hcl : (B : Int) + 1 < (s.size : Int) := by omega
            by_cases h45 : e = 45
            · subst h45
              simp only [expR, if_true]
              have hg3' : ((s[B + 1]'hlt3).toNat : Int) = 45 := hg3
              clear hg3
              cases hv : v with
              | nil =>
                rw [hv] at hd3
                have hBs : B + 1 + 1 = s.size := by
                  have := congrArg List.length hd3
                  rw [List.length_drop, toList_len] at this
                  simp at this; omega
                have hcl2 : ¬ (B : Int) + 1 + 1 < (s.size : Int) := by omega
                clear hRD hle hd2 hu hd3 hv hBs
                go_enter Try.func65, Try.ntmps65
                go_wp2_with fail
                refine (hR1.out).mono ?_
                rintro e w' ⟨rfl, rfl⟩
                go_wp2_with fail
                refine (hR2.out).mono ?_
                rintro e w' ⟨rfl, rfl⟩
                go_wp2
                go_ret
                exact ⟨rfl, rfl⟩
              | cons f x =>
                rw [hv] at hd3
                obtain ⟨hlt4, -, -⟩ := at_drop hd3
                have hcl2 : (B : Int) + 1 + 1 < (s.size : Int) := by omega
                have hR3 : Hid (Calls Try.prog 64 #[.string s, .int .i64 ((B + 1 + 1 : Nat) : Int)] w fun e w' => e = .returned (.int .i64 ((B + 1 + 1 + dl (s.toList.drop (B + 1 + 1)) : Nat) : Int)) ∧ w' = w) := hRD.out (B + 1 + 1) w (by omega)
                have hcast2 : ((B + 1 + 1 : Nat) : Int) = (B : Int) + 1 + 1 := by omega
                rw [hcast2, hd3] at hR3
                have hgoal : Hid (tailR (f :: x) = (((B + 1 + 1 + dl (f :: x) : Nat) : Int) == (s.size : Int))) := by
                  show _ = _
                  have h5 := congrArg List.length hd3
                  rw [List.length_drop, toList_len] at h5
                  unfold tailR
                  rw [show decide (f :: x ≠ []) = true from by simp, Bool.true_and]
                  by_cases e1 : dl (f :: x) = (f :: x).length
                  · have : ((B + 1 + 1 + dl (f :: x) : Nat) : Int) = (s.size : Int) := by omega
                    rw [this, decide_eq_true e1]; simp
                  · have : ¬ ((B + 1 + 1 + dl (f :: x) : Nat) : Int) = (s.size : Int) := by omega
                    rw [decide_eq_false e1]; exact (beq_eq_false_iff_ne.2 this).symm
                rw [hgoal.out]
                generalize B + 1 + 1 + dl (f :: x) = Z at hR3 ⊢
                clear hRD hle hd2 hu hd3 hv hgoal hcast2
                go_enter Try.func65, Try.ntmps65
                go_wp2_with fail
                refine (hR1.out).mono ?_
                rintro e w' ⟨rfl, rfl⟩
                go_wp2_with fail
                refine (hR2.out).mono ?_
                rintro e w' ⟨rfl, rfl⟩
                go_wp2_with fail
                refine (hR3.out).mono ?_
                rintro e w' ⟨rfl, rfl⟩
                go_wp2
                go_ret
                exact ⟨rfl, rfl⟩
            · simp only [expR, if_neg h45]
              have hne : ((e.toNat : Int) == 45) = false := beq_of (k := 45) h45
              have hR3 : Hid (Calls Try.prog 64 #[.string s, .int .i64 ((B + 1 : Nat) : Int)] w fun e w' => e = .returned (.int .i64 ((B + 1 + dl (s.toList.drop (B + 1)) : Nat) : Int)) ∧ w' = w) := hRD.out (B + 1) w (by omega)
              have hcast2 : ((B + 1 : Nat) : Int) = (B : Int) + 1 := by omega
              rw [hcast2, hd2] at hR3
              have hgoal : Hid (tailR (e :: v) = (((B + 1 + dl (e :: v) : Nat) : Int) == (s.size : Int))) := by
                show _ = _
                have h5 := congrArg List.length hd2
                rw [List.length_drop, toList_len] at h5
                unfold tailR
                rw [show decide (e :: v ≠ []) = true from by simp, Bool.true_and]
                by_cases e1 : dl (e :: v) = (e :: v).length
                · have : ((B + 1 + dl (e :: v) : Nat) : Int) = (s.size : Int) := by omega
                  rw [this, decide_eq_true e1]; simp
                · have : ¬ ((B + 1 + dl (e :: v) : Nat) : Int) = (s.size : Int) := by omega
                  rw [decide_eq_false e1]; exact (beq_eq_false_iff_ne.2 this).symm
              rw [hgoal.out]
              generalize B + 1 + dl (e :: v) = Z at hR3 ⊢
              clear hRD hle hd2 hu hd3 hgoal hcast2 h45
              go_enter Try.func65, Try.ntmps65
              go_wp2_with fail
              refine (hR1.out).mono ?_
              rintro e w' ⟨rfl, rfl⟩
              go_wp2_with fail
              refine (hR2.out).mono ?_
              rintro e w' ⟨rfl, rfl⟩
              go_wp2_with fail
              refine (hR3.out).mono ?_
              rintro e w' ⟨rfl, rfl⟩
              go_wp2
              go_ret
              exact ⟨rfl, rfl⟩
        · simp only [if_neg h101]
          have hne : ((d.toNat : Int) != 101) = true := neq_of (k := 101) h101
          clear hRD hle h101 hd2
          go_enter Try.func65, Try.ntmps65
          go_wp2_with fail
          refine (hR1.out).mono ?_
          rintro e w' ⟨rfl, rfl⟩
          go_wp2_with fail
          refine (hR2.out).mono ?_
          rintro e w' ⟨rfl, rfl⟩
          go_wp2
          go_ret
          exact ⟨rfl, rfl⟩
    · simp only [if_neg h46]
      have hne : ((c.toNat : Int) != 46) = true := neq_of (k := 46) h46
      clear hRD hle h46 hr hd1
      go_enter Try.func65, Try.ntmps65
      go_wp2_with (go_at_call 64; refine (hR1.out).mono ?_; rintro e w' ⟨rfl, rfl⟩)
      go_ret
      exact ⟨rfl, rfl⟩
end Go.Proofs.Ytmglbcldjhdhkaa

/- What may be printed: the document's May. -/
namespace Go.Proofs.Ytmglbcldjhdhkaa
open Go.RowKit Go.PlainAid

theorem row_kind3 (l : List UInt8) : (rowL l).kind = 0 ∨ (rowL l).kind = 1 ∨ (rowL l).kind = 2 := by
  unfold rowL
  split
  · exact .inl rfl
  · show (if _ then (1 : Int) else 2) = 0 ∨ (if _ then (1 : Int) else 2) = 1 ∨ (if _ then (1 : Int) else 2) = 2
    split <;> simp
theorem row_size (l : List UInt8) : (rowL l).size ≤ 32 := by
  unfold rowL
  split
  · exact Nat.le_refl _
  · show rowN l ≤ 32
    omega
theorem quoted_kind (l : List UInt8) : (quotedL l).kind = 0 ∨ (quotedL l).kind = 5 := by
  unfold quotedL
  split
  · exact .inr rfl
  · exact .inl rfl
theorem number_kind (l : List UInt8) : (numberL l).kind = 0 ∨ (numberL l).kind = 3 ∨ (numberL l).kind = 4 := by
  unfold numberL endedL
  split
  · exact .inl rfl
  · split
    · exact .inr (.inl rfl)
    · split
      · exact .inr (.inr rfl)
      · exact .inl rfl
/-- a piece of two kinds is a number -/
theorem piece_is_num (l : List UInt8) (h : (pieceL l).kind = 3 ∨ (pieceL l).kind = 4) : 1 ≤ dl l ∧ pieceL l = numberL l := by
  cases l with
  | nil => simp [pieceL] at h
  | cons c t =>
    rw [pieceL] at h ⊢
    by_cases h2 : classI (c.toNat : Int) = 2
    · rw [if_pos h2] at h
      have := row_kind3 (c :: t)
      omega
    · rw [if_neg h2] at h ⊢
      by_cases h3 : classI (c.toNat : Int) = 3
      · rw [if_pos h3]
        exact ⟨by rw [dl_cons (class3 h3)]; omega, rfl⟩
      · rw [if_neg h3] at h
        by_cases h5 : classI (c.toNat : Int) = 5
        · rw [if_pos h5] at h
          have := quoted_kind (c :: t)
          omega
        · rw [if_neg h5] at h
          exfalso
          split at h
          · simp at h
          · split at h
            · split at h
              · simp at h
              · split at h <;> simp at h
            · simp at h
/-- a piece of a short kind is short -/
theorem piece_short (l : List UInt8) (h : (pieceL l).kind = 1 ∨ (pieceL l).kind = 2 ∨ (pieceL l).kind = 6) : (pieceL l).size ≤ 32 := by
  cases l with
  | nil => simp [pieceL] at h
  | cons c t =>
    rw [pieceL] at h ⊢
    by_cases h2 : classI (c.toNat : Int) = 2
    · rw [if_pos h2]
      exact row_size _
    · rw [if_neg h2] at h ⊢
      by_cases h3 : classI (c.toNat : Int) = 3
      · rw [if_pos h3] at h
        have := number_kind (c :: t)
        omega
      · rw [if_neg h3] at h ⊢
        by_cases h5 : classI (c.toNat : Int) = 5
        · rw [if_pos h5] at h
          have := quoted_kind (c :: t)
          omega
        · rw [if_neg h5]
          split
          · show 1 ≤ 32; omega
          · split
            · split
              · show 2 ≤ 32; omega
              · split
                · show 1 ≤ 32; omega
                · show 1 ≤ 32; omega
            · show 0 ≤ 32; omega
theorem digit_class {c : UInt8} (h : dg c = true) : classI (c.toNat : Int) = 3 := by
  have h0 : smallB (c.toNat : Int) = false := by
    cases e : smallB (c.toNat : Int)
    · rfl
    · unfold smallB at e
      unfold dg digitB at h
      simp only [Bool.and_eq_true, decide_eq_true_eq] at e h
      omega
  unfold classI
  rw [if_neg (by simp [h0]), if_pos h]
theorem piece_num (l : List UInt8) (h : 1 ≤ dl l) : pieceL l = numberL l := by
  cases l with
  | nil => simp [dl] at h
  | cons c t =>
    cases hd : dg c
    · rw [dl_zero hd] at h; omega
    · rw [pieceL]
      rw [if_neg (by rw [digit_class hd]; omega), if_pos (digit_class hd)]
theorem number_of {l : List UInt8} {n : Nat} {st : Int} (h : numGo 1 l = (n, st, false)) : numberL l = endedL l n st := by
  unfold numberL
  rw [h]
  rfl
theorem number_ok {l : List UInt8} (h : (numberL l).kind ≠ 0) : okN (numGo 1 l) ∧ numberL l = endedL l (numGo 1 l).1 (numGo 1 l).2.1 := by
  unfold numberL at h ⊢
  by_cases hb : (numGo 1 l).2.2 = true
  · rw [if_pos hb] at h
    exact absurd rfl h
  · rw [if_neg hb] at h ⊢
    refine ⟨⟨by simpa using hb, ?_⟩, rfl⟩
    unfold endedL at h
    by_cases e1 : (numGo 1 l).2.1 = 1
    · exact .inl e1
    · rw [if_neg e1] at h
      by_cases e2 : (numGo 1 l).2.1 = 3 ∨ (numGo 1 l).2.1 = 6
      · exact .inr e2
      · rw [if_neg e2] at h
        exact absurd rfl h
theorem ended_size (l : List UInt8) (n : Nat) (st : Int) : (endedL l n st).size = n := by
  unfold endedL
  split
  · rfl
  · split <;> rfl
theorem drop_len {l : List UInt8} {n : Nat} {c : UInt8} {t : List UInt8} (h : l.drop n = c :: t) : l.length = n + 1 + t.length := by
  have := congrArg List.length h
  rw [List.length_drop, List.length_cons] at this
  omega

/-- a whole number is a row of digits -/
theorem may_int (l : List UInt8) : (decide ((pieceL l).kind = 3) && decide ((pieceL l).size = l.length)) = (decide (dl l = l.length) && decide (l ≠ [])) := by
  rw [Bool.eq_iff_iff]
  simp only [Bool.and_eq_true, decide_eq_true_eq]
  constructor
  · rintro ⟨hk, hsz⟩
    obtain ⟨hd, e⟩ := piece_is_num l (.inl hk)
    rw [e] at hk hsz
    obtain ⟨hok, e2⟩ := number_ok (l := l) (by omega)
    rw [e2] at hk hsz
    rw [ended_size] at hsz
    refine ⟨?_, by intro e; rw [e] at hd; simp [dl] at hd⟩
    rcases num_forms l hok with ⟨-, e3⟩ | ⟨t, hr, hd2, ⟨-, e3⟩ | ⟨u, hr3, ⟨v, rfl, hdv, e3⟩ | ⟨hn, hdu, e3⟩⟩⟩
    · rw [e3] at hsz; exact hsz
    all_goals
      rw [e3] at hk
      simp [endedL] at hk
  · rintro ⟨hd, hne⟩
    have hpos : 0 < l.length := List.length_pos_iff.2 hne
    have e := num_digits 1 (.inl rfl) l
    rw [List.drop_of_length_le (by omega)] at e
    have e3 : numGo 1 l = (dl l, 1, false) := by rw [e]; simp [numGo]
    rw [piece_num l (by omega), number_of e3]
    exact ⟨by simp [endedL], by rw [ended_size]; exact hd⟩
theorem may_real (l : List UInt8) : (decide ((pieceL l).kind = 4) && decide ((pieceL l).size = l.length)) = realP l := by
  rw [Bool.eq_iff_iff]
  simp only [Bool.and_eq_true, decide_eq_true_eq]
  constructor
  · rintro ⟨hk, hsz⟩
    obtain ⟨hd, e⟩ := piece_is_num l (.inr hk)
    rw [e] at hk hsz
    obtain ⟨hok, e2⟩ := number_ok (l := l) (by omega)
    rw [e2] at hk hsz
    rw [ended_size] at hsz
    unfold realP
    rw [if_neg (by omega)]
    rcases num_forms l hok with ⟨-, e3⟩ | ⟨t, hr, hd2, hrest⟩
    · rw [e3] at hk
      simp [endedL] at hk
    rw [hr]
    have hl := drop_len hr
    simp only [if_true]
    unfold fracR
    rw [if_neg (by omega)]
    rcases hrest with ⟨-, e3⟩ | ⟨u, hr3, ⟨v, rfl, hdv, e3⟩ | ⟨hn, hdu, e3⟩⟩
    · rw [e3] at hsz
      simp only at hsz
      rw [List.drop_of_length_le (by omega)]
    · rw [e3] at hsz
      simp only at hsz
      have hl3 := drop_len hr3
      rw [List.length_cons] at hl3
      rw [hr3]
      simp only [if_true, expR]
      unfold tailR
      have hv : v ≠ [] := by intro e; rw [e] at hdv; simp [dl] at hdv
      rw [decide_eq_true hv, decide_eq_true (by omega)]
      rfl
    · rw [e3] at hsz
      simp only at hsz
      have hl3 := drop_len hr3
      rw [hr3]
      simp only [if_true]
      cases u with
      | nil => simp [dl] at hdu
      | cons x v =>
        have hx : x ≠ 45 := fun e => hn v (by rw [e])
        rw [expR, if_neg hx]
        unfold tailR
        rw [decide_eq_true (by simp), decide_eq_true (by omega)]
        rfl
  · intro h
    unfold realP at h
    by_cases hd : dl l = 0
    · rw [if_pos hd] at h; simp at h
    rw [if_neg hd] at h
    have e1 := num_digits 1 (.inl rfl) l
    cases hr : l.drop (dl l) with
    | nil => rw [hr] at h; simp at h
    | cons c t =>
      rw [hr] at h e1
      have hl := drop_len hr
      by_cases h46 : c = 46
      · subst h46
        simp only [if_true] at h
        have hs2 : stepI 1 ((46 : UInt8).toNat : Int) = 2 := by decide
        have e2 : numGo 1 (46 :: t) = ((numGo 2 t).1 + 1, (numGo 2 t).2) := by rw [numGo, hs2]; simp
        rw [e2] at e1
        unfold fracR at h
        by_cases hd2 : dl t = 0
        · rw [if_pos hd2] at h; simp at h
        rw [if_neg hd2] at h
        have e3 := num_first 2 3 (fun c hc => by unfold stepI; rw [if_pos hc]; simp) (.inl rfl) t (by omega)
        rw [e3] at e1
        have fin : ∀ n st, (st = 3 ∨ st = 6) → numGo 1 l = (n, st, false) → n = l.length → (pieceL l).kind = 4 ∧ (pieceL l).size = l.length := by
          intro n st hst en hn
          rw [piece_num l (by omega), number_of en, ended_size]
          refine ⟨?_, hn⟩
          unfold endedL
          rw [if_neg (by omega), if_pos hst]
        cases hr3 : t.drop (dl t) with
        | nil =>
          rw [hr3] at e1
          have := congrArg List.length hr3
          rw [List.length_drop, List.length_nil] at this
          have hle := dl_le t
          exact fin _ 3 (.inl rfl) (by rw [e1]; rfl) (by simp only [numGo]; omega)
        | cons d u =>
          rw [hr3] at h e1
          have hl3 := drop_len hr3
          by_cases h101 : d = 101
          · subst h101
            simp only [if_true] at h
            have hs4 : stepI 3 ((101 : UInt8).toNat : Int) = 4 := by decide
            have e4 : numGo 3 (101 :: u) = ((numGo 4 u).1 + 1, (numGo 4 u).2) := by rw [numGo, hs4]; simp
            rw [e4] at e1
            cases u with
            | nil => simp [expR] at h
            | cons x v =>
              by_cases h45 : x = 45
              · subst h45
                simp only [expR, if_true] at h
                unfold tailR at h
                simp only [Bool.and_eq_true, decide_eq_true_eq] at h
                obtain ⟨hv, hdv⟩ := h
                have hpos : 0 < v.length := List.length_pos_iff.2 hv
                have hs5 : stepI 4 ((45 : UInt8).toNat : Int) = 5 := by decide
                have e5 : numGo 4 (45 :: v) = ((numGo 5 v).1 + 1, (numGo 5 v).2) := by rw [numGo, hs5]; simp
                have e6 := num_first 5 6 (fun c hc => by unfold stepI; rw [if_pos hc]; simp) (.inr rfl) v (by omega)
                rw [List.drop_of_length_le (by omega)] at e6
                rw [e5, e6] at e1
                rw [List.length_cons] at hl3
                exact fin _ 6 (.inr rfl) (by rw [e1]; rfl) (by simp only [numGo]; omega)
              · rw [expR, if_neg h45] at h
                unfold tailR at h
                simp only [Bool.and_eq_true, decide_eq_true_eq] at h
                obtain ⟨-, hdv⟩ := h
                have hpos : 0 < (x :: v).length := by simp
                have e6 := num_first 4 6 (fun c hc => by unfold stepI; rw [if_pos hc]; simp) (.inr rfl) (x :: v) (by omega)
                rw [List.drop_of_length_le (by omega)] at e6
                rw [e6] at e1
                exact fin _ 6 (.inr rfl) (by rw [e1]; rfl) (by simp only [numGo]; omega)
          · simp only [if_neg h101] at h
            simp at h
      · simp only [if_neg h46] at h
        simp at h

def mayB (t : TokD) (last : Bool) : Bool := printB t || (endB t && last)
theorem may_short {t : TokD} (h : t.kind = 1 ∨ t.kind = 2 ∨ t.kind = 6) : mayB t = fun _ => (decide (t.text.length ≤ 32) && (decide ((pieceL t.text).kind = t.kind) && decide ((pieceL t.text).size = t.text.length))) := by
  funext last
  have he : endB t = false := by unfold endB; rw [decide_eq_false (by omega)]; rfl
  unfold mayB printB
  rw [he, if_pos (by omega), Bool.false_and, Bool.or_false]
  by_cases e1 : (pieceL t.text).kind = t.kind
  · by_cases e2 : (pieceL t.text).size = t.text.length
    · have := piece_short t.text (by omega)
      rw [decide_eq_true (show t.text.length ≤ 32 by omega), Bool.true_and]
    · rw [decide_eq_false e2]; simp
  · rw [decide_eq_false e1]; simp

end Go.Proofs.Ytmglbcldjhdhkaa

/- The document's May, walked. -/
namespace Go.Proofs.Ytmglbcldjhdhkaa
open Go.RowKit Go.PlainAid

theorem may_num {t : TokD} (h : t.kind = 3) (last : Bool) : mayB t last = (decide (dl t.text = t.text.length) && decide (t.text ≠ [])) := by
  have he : endB t = false := by unfold endB; rw [decide_eq_false (by omega)]; rfl
  unfold mayB printB
  rw [he, if_pos (by omega), Bool.false_and, Bool.or_false, h, may_int]
theorem may_flo {t : TokD} (h : t.kind = 4) (last : Bool) : mayB t last = realP t.text := by
  have he : endB t = false := by unfold endB; rw [decide_eq_false (by omega)]; rfl
  unfold mayB printB
  rw [he, if_pos (by omega), Bool.false_and, Bool.or_false, h, may_real]
theorem may_txt {t : TokD} (h : t.kind = 5) (last : Bool) : mayB t last = true := by
  unfold mayB printB
  rw [if_neg (by omega), decide_eq_true h]
  rfl
theorem may_end {t : TokD} (h : t.kind = 7) (last : Bool) : mayB t last = (decide (t.text = []) && last) := by
  unfold mayB printB endB
  rw [if_neg (by omega), decide_eq_false (show ¬ t.kind = 5 by omega), decide_eq_true h]
  rfl
theorem may_none {t : TokD} (h1 : t.kind ≠ 1) (h2 : t.kind ≠ 2) (h3 : t.kind ≠ 3) (h4 : t.kind ≠ 4) (h5 : t.kind ≠ 5) (h6 : t.kind ≠ 6) (h7 : t.kind ≠ 7) (last : Bool) : mayB t last = false := by
  unfold mayB printB endB
  rw [if_neg (by omega), decide_eq_false h5, decide_eq_false h7]
  rfl

set_option maxRecDepth 1000000 in
set_option maxHeartbeats 1000000 in
theorem rmay_any (t : TokD) (last : Bool) (w : World) (htx : t.text.length ≤ 2147483647) :
    Calls Try.prog 42 #[.agg #[.int .i64 t.kind, .string (ba t.text), .int .i64 t.line, .int .i64 t.col], .bool last] w fun e w' => e = .returned (.bool (mayB t last)) ∧ Keep [] w w' := by
  have hsz : (ba t.text).size = t.text.length := ba_size _
  have hOne : Hid (t.text.length ≤ 32 → t.kind ≠ 0 → ∀ w, Calls Try.prog 63 #[.string (ba t.text), .int .i64 t.kind] w fun e w' => e = .returned (.bool (decide ((pieceL t.text).kind = t.kind) && decide ((pieceL t.text).size = t.text.length))) ∧ Keep [] w w') := fun h h0 w => by
    have := rone_any (ba t.text) t.kind w (by omega) h0
    rwa [ba_toList] at this
  have hRow : Hid (∀ w, Calls Try.prog 64 #[.string (ba t.text), .int .i64 0] w fun e w' => e = .returned (.int .i64 ((dl t.text : Nat) : Int)) ∧ w' = w) := fun w => by
    have := rowDigits_any (ba t.text) 0 w (by omega) (by omega)
    rw [Nat.zero_add, List.drop_zero, ba_toList] at this
    exact this
  have hReal : Hid (∀ w, Calls Try.prog 65 #[.string (ba t.text)] w fun e w' => e = .returned (.bool (realP t.text)) ∧ w' = w) := fun w => by
    have := rreal_any (ba t.text) w (by omega)
    rwa [ba_toList] at this
  have hs1 := fun h => congrFun (may_short (t := t) h) last
  have hs3 := fun h => may_num (t := t) h last
  have hs4 := fun h => may_flo (t := t) h last
  have hs5 := fun h => may_txt (t := t) h last
  have hs7 := fun h => may_end (t := t) h last
  have hs0 := fun h1 h2 h3 h4 h5 h6 h7 => may_none (t := t) h1 h2 h3 h4 h5 h6 h7 last
  generalize mayB t last = R at *
  obtain ⟨tk, tx, tl, tc⟩ := t
  simp only at *
  have hemp : (ba tx).toList.isEmpty = tx.isEmpty := by rw [ba_toList]
  by_cases h126 : tk = 1 ∨ tk = 2 ∨ tk = 6
  · rw [hs1 h126]
    clear hs1 hs3 hs4 hs5 hs7 hs0 hRow hReal
    have hOne2 : Hid (tx.length ≤ 32 → ∀ w, Calls Try.prog 63 #[.string (ba tx), .int .i64 tk] w fun e w' => e = .returned (.bool (decide ((pieceL tx).kind = tk) && decide ((pieceL tx).size = tx.length))) ∧ Keep [] w w') := fun h => hOne.out h (by omega)
    clear hOne
    by_cases hl : tx.length ≤ 32
    · rw [decide_eq_true hl, Bool.true_and]
      have hO : Hid (∀ w, Calls Try.prog 63 #[.string (ba tx), .int .i64 tk] w fun e w' => e = .returned (.bool (decide ((pieceL tx).kind = tk) && decide ((pieceL tx).size = tx.length))) ∧ Keep [] w w') := hOne2.out hl
      have hli : ((ba tx).size : Int) ≤ 32 := by omega
      clear hOne2
      generalize (decide ((pieceL tx).kind = tk) && decide ((pieceL tx).size = tx.length)) = r at *
      rcases h126 with rfl | rfl | rfl
      all_goals
        go_enter Try.func42, Try.ntmps42
        go_wp2_with (go_at_call 63; refine (hO.out _).mono ?_; rintro e w1 ⟨rfl, k1⟩)
        go_ret
        exact ⟨rfl, (Keep.alloc1 w _).trans' k1⟩
    · rw [decide_eq_false hl, Bool.false_and]
      have hli : ¬ ((ba tx).size : Int) ≤ 32 := by omega
      have hld : decide (((ba tx).size : Int) ≤ 32) = false := by simp; omega
      clear hOne2
      rcases h126 with rfl | rfl | rfl
      all_goals
        go_enter Try.func42, Try.ntmps42
        go_wp2
        go_ret
        exact ⟨rfl, Keep.alloc1 w _⟩
  have n1 : (tk == 1) = false := by simp; omega
  have n2 : (tk == 2) = false := by simp; omega
  have n6 : (tk == 6) = false := by simp; omega
  by_cases h3 : tk = 3
  · subst h3
    rw [hs3 rfl]
    have hR : Hid ((decide (dl tx = tx.length) && decide (tx ≠ [])) = ((((dl tx : Nat) : Int) == ((ba tx).size : Int)) && !(ba tx).toList.isEmpty)) := by
      show _ = _
      have h1 : decide (dl tx = tx.length) = (((dl tx : Nat) : Int) == ((ba tx).size : Int)) := by
        rw [hsz]
        by_cases e : dl tx = tx.length
        · rw [decide_eq_true e, e]; simp
        · rw [decide_eq_false e]; exact (beq_eq_false_iff_ne.2 (by omega)).symm
      rw [h1, hemp]
      cases tx <;> simp
    rw [hR.out]
    clear hs1 hs3 hs4 hs5 hs7 hs0 hOne hReal hR hsz hemp h126
    cases e1 : (((dl tx : Nat) : Int) == ((ba tx).size : Int))
    · go_enter Try.func42, Try.ntmps42
      go_wp2
      go_quiet (first | (go_at_call 64; refine (hRow.out _).mono ?_; rintro e w1 ⟨rfl, rfl⟩; exact ⟨rfl, _, rfl⟩))
      go_wp2
      go_ret
      exact ⟨rfl, by first | exact (Keep.alloc1 w _).drewN _ | exact (Keep.alloc1 w _).drew⟩
    · cases e2 : (ba tx).toList.isEmpty
      all_goals
        go_enter Try.func42, Try.ntmps42
        go_wp2
        go_quiet (first | (go_at_call 64; refine (hRow.out _).mono ?_; rintro e w1 ⟨rfl, rfl⟩; exact ⟨rfl, _, rfl⟩))
        go_wp2
        go_ret
        exact ⟨rfl, by first | exact (Keep.alloc1 w _).drewN _ | exact (Keep.alloc1 w _).drew⟩
  have n3 : (tk == 3) = false := by simp; omega
  by_cases h4 : tk = 4
  · subst h4
    rw [hs4 rfl]
    clear hs1 hs3 hs4 hs5 hs7 hs0 hOne hRow
    go_enter Try.func42, Try.ntmps42
    go_wp2_with (go_at_call 65; refine (hReal.out _).mono ?_; rintro e w1 ⟨rfl, rfl⟩)
    go_ret
    exact ⟨rfl, Keep.alloc1 w _⟩
  have n4 : (tk == 4) = false := by simp; omega
  by_cases h5 : tk = 5
  · subst h5
    rw [hs5 rfl]
    clear hs1 hs3 hs4 hs5 hs7 hs0 hOne hRow hReal
    go_enter Try.func42, Try.ntmps42
    go_wp2
    go_ret
    exact ⟨rfl, Keep.alloc1 w _⟩
  have n5 : (tk == 5) = false := by simp; omega
  by_cases h7 : tk = 7
  · subst h7
    rw [hs7 rfl]
    have hR : Hid ((decide (tx = []) && last) = ((ba tx).toList.isEmpty && last)) := by
      show _ = _
      rw [hemp]
      cases tx <;> simp
    rw [hR.out]
    clear hs1 hs3 hs4 hs5 hs7 hs0 hOne hRow hReal hR hsz hemp h126
    cases e2 : (ba tx).toList.isEmpty
    all_goals
      go_enter Try.func42, Try.ntmps42
      go_wp2
      go_ret
      exact ⟨rfl, Keep.alloc1 w _⟩
  have n7 : (tk == 7) = false := by simp; omega
  rw [hs0 (by omega) (by omega) h3 h4 h5 (by omega) h7]
  clear hs1 hs3 hs4 hs5 hs7 hs0 hOne hRow hReal
  go_enter Try.func42, Try.ntmps42
  go_wp2
  go_ret
  exact ⟨rfl, Keep.alloc1 w _⟩
end Go.Proofs.Ytmglbcldjhdhkaa
