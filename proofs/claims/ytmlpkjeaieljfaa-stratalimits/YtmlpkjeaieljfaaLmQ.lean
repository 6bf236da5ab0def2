/- StrataLimits: the walk. -/
import Derived.Test.YtmlpkjeaieljfaaLmP
namespace Go.Proofs.Ytmlpkjeaieljfaa
open Go.RowKit Go.PlainAid

theorem Fl.cells {w : World} {g M i : Nat} {L : List Ar} {wr : World} (h : Fl w g M i L wr) (j : Nat) (hj : j < M) : ∃ a b c, wr.cell? ⟨g, j * 3, none⟩ = some (.int .i64 a) ∧ wr.cell? ⟨g, j * 3 + 1, none⟩ = some (.int .i64 b) ∧ wr.cell? ⟨g, j * 3 + 2, none⟩ = some (.bool c) ∧ ∀ k, wr.frozen? ⟨g, k, none⟩ = false := by
  have hl := h.len
  rcases h.row.cases encA_len with ⟨e1, e2⟩ | ⟨g', cap', e, h1, h2, h3, h4, h5⟩
  · simp at e2
  · simp only [Value.slice.injEq, Option.some.injEq, Addr.mk.injEq] at e
    obtain ⟨⟨rfl, -⟩, -, rfl⟩ := e
    have q := h4 j (by omega)
    exact ⟨_, _, _, q 0 (by omega), q 1 (by omega), q 2 (by omega), h5⟩

set_option maxRecDepth 1000000 in
set_option maxHeartbeats 8000000 in
theorem limits_law (w : World) : Calls Try.prog 6 #[] w fun e w' => e = .returned (.bool true) ∧ Keep [] w w' := by
  obtain ⟨i4, hi4, hz4, hs4, hy4⟩ := info_parts infoA
  have HB2 : Hid (i4.bytes * 262145 ≤ 281474976710656) := show i4.bytes * 262145 ≤ 281474976710656 by rw [hy4]; omega
  have HB3 : Hid (262145 ≤ maxLen) := show 262145 ≤ maxLen by simp only [maxLen]; omega
  go_enter Try.func6, Try.ntmps6
  go_wp2_with (refine wpList_make_full w rfl (.const (.int .i64 262145)) (.const (.int .i64 262145)) 22 rfl 0 36 i4 (.agg #[.int .i64 0, .int .i64 0, .bool false]) 3 Try.underlying22 hi4 hz4 hs4 .i64 .i64 262145 262145 262145 rfl rfl rfl rfl HB2.out HB3.out (Nat.zero_le _) ?_; intro w1 r1 r2)
  obtain ⟨g, HGG⟩ : ∃ g : Nat, Hid (g = w.heap.size) := ⟨_, show _ = _ from rfl⟩
  rw [← HGG.out] at r1 ⊢
  have H1 : Hid (∃ L, Fl w g 262145 0 L w1) := by
    have r3 : RowC w1 36 3 (.slice (some ⟨g, 0, none⟩) 262145 262145) 262145 (madeCells #[.int .i64 0, .int .i64 0, .bool false] (262145 * 3)).toList := r1
    generalize 262145 = M at r3 ⊢
    rw [made_arcs] at r3
    refine ⟨List.replicate M arc0, ?_, by simp, fun j hj => by omega, Keep.mono (Keep.grown r2) (by simp), by rw [HGG.out]; exact Nat.le_refl _⟩
    unfold Rw
    rw [List.length_replicate]
    exact r3
  clear r1 r2 HB2 HB3 hi4 hz4 hs4 hy4 HGG
  go_wp2
  go_loopw [2] (fun iv wr => ∃ (i : Nat), iv = .int .i64 (i : Int) ∧ i ≤ 262145 ∧ Hid (∃ L, Fl w g 262145 i L wr)) (fun iv _ => 262145 - (intOf iv).toNat)
  case atStart => exact ⟨0, rfl, by omega, H1⟩
  case round =>
    clear H1
    obtain ⟨i, rfl, hi, HI⟩ := hrel
    by_cases hlt : i < 262145
    · have hlti : (i : Int) < 262145 := by omega
      obtain ⟨L, hL⟩ := HI.out
      obtain ⟨ca, cb, cc, c0, c1, c2, hfz⟩ := hL.cells i hlt
      have z0 := hfz (i * 3)
      have z1 := hfz (i * 3 + 1)
      have z2 := hfz (i * 3 + 2)
      have HN : Hid (∃ L', Fl w g 262145 (i + 1) L' (((wr.setCell ⟨g, i * 3, none⟩ (.int .i64 ((i % 4095 : Nat) : Int))).setCell ⟨g, i * 3 + 1, none⟩ (.int .i64 (((i % 4095 : Nat) : Int) + 1))).setCell ⟨g, i * 3 + 2, none⟩ (.bool (decide (0 < i % 3))))) := ⟨_, hL.next hlt⟩
      have hr1 : Int.tmod (i : Int) 4095 = ((i % 4095 : Nat) : Int) := by
        rw [Int.tmod_eq_emod_of_nonneg (by omega)]
        omega
      have hr2 : Int.tmod (i : Int) 3 = ((i % 3 : Nat) : Int) := by
        rw [Int.tmod_eq_emod_of_nonneg (by omega)]
        omega
      obtain ⟨f, HF⟩ : ∃ f : Nat, Hid (f = i % 4095) := ⟨_, show _ = _ from rfl⟩
      obtain ⟨q, HQ⟩ : ∃ q : Nat, Hid (q = i % 3) := ⟨_, show _ = _ from rfl⟩
      have hf4 : f < 4095 := by rw [HF.out]; omega
      rw [← HF.out] at hr1 HN
      rw [← HQ.out] at hr2 HN
      clear hL hfz HI HF HQ
      go_wp2
      go_roundw
      case rel => exact ⟨i + 1, by go_num, by omega, HN⟩
      case measure => simp [intOf]; omega
    · have hlti : ¬ (i : Int) < 262145 := by omega
      have hie : i = 262145 := by omega
      have HR : Hid (∃ L, Fl w g 262145 262145 L wr) := by rw [← hie]; rw [hie] at HI ⊢; exact HI
      have HR1 : Hid (Rd encA 3 wr (.slice (some ⟨g, 0, none⟩) 4095 262145) ((List.range 4095).map fun i => arcAt (0 + i))) := by
        obtain ⟨L, hL⟩ := HR.out
        exact hL.piece 0 4095 262145 (by omega) (by omega) (by simp [maxLen])
      have HR2 : Hid (Rd encA 3 wr (.slice (some ⟨g, 0, none⟩) 262145 262145) ((List.range 262145).map fun i => arcAt (0 + i))) := by
        obtain ⟨L, hL⟩ := HR.out
        exact hL.piece 0 262145 262145 (by omega) (by omega) (by simp [maxLen])
      have HR3 : Hid (Rd encA 3 wr (.slice (some ⟨g, 3, none⟩) 262144 262144) ((List.range 262144).map fun i => arcAt (1 + i))) := by
        obtain ⟨L, hL⟩ := HR.out
        exact hL.piece 1 262144 262144 (by omega) (by omega) (by simp [maxLen])
      have HR4 : Hid (Rd encA 3 wr (.slice (some ⟨g, 0, none⟩) 262144 262145) ((List.range 262144).map fun i => arcAt (0 + i))) := by
        obtain ⟨L, hL⟩ := HR.out
        exact hL.piece 0 262144 262145 (by omega) (by omega) (by simp [maxLen])
      have HKw : Hid (Keep [] w wr) := by
        obtain ⟨L, hL⟩ := HR.out
        exact hL.keep
      have hc1 := chain_range 0 4095 (by omega) (by omega)
      have hc3 := chain_range 1 262144 (by omega) (by omega)
      have hc4 := chain_range 0 262144 (by omega) (by omega)
      have HC1 : Hid (Chain ((List.range 4095).map fun i => arcAt (0 + i)) ∧ ((List.range 4095).map fun i => arcAt (0 + i)).length ≤ 262144 ∧ ∀ a ∈ (List.range 4095).map (fun i => arcAt (0 + i)), a.g = decide (0 < a.f % 3)) := ⟨hc1, by rw [List.length_map, List.length_range]; omega, chain_neg⟩
      have HC2 : Hid (262144 < (((List.range 262145).map fun i => arcAt (0 + i)).map Ar.z).length) := by show _ < _; rw [List.length_map, List.length_map, List.length_range]; omega
      have HC3 : Hid (Chain ((List.range 262144).map fun i => arcAt (1 + i)) ∧ ((List.range 262144).map fun i => arcAt (1 + i)).length ≤ 262144) := ⟨hc3, by rw [List.length_map, List.length_range]; omega⟩
      have HC4 : Hid (Chain ((List.range 262144).map fun i => arcAt (0 + i)) ∧ ((List.range 262144).map fun i => arcAt (0 + i)).length ≤ 262144) := ⟨hc4, by rw [List.length_map, List.length_range]; omega⟩
      generalize (List.range 4095).map (fun i => arcAt (0 + i)) = A1 at HR1 HC1
      generalize (List.range 262145).map (fun i => arcAt (0 + i)) = A2 at HR2 HC2
      generalize (List.range 262144).map (fun i => arcAt (1 + i)) = A3 at HR3 HC3
      generalize (List.range 262144).map (fun i => arcAt (0 + i)) = A4 at HR4 HC4
      clear hc1 hc3 hc4 HR HI hlt hi hie
      go_wp2_with fail
      refine (strata_ch _ A1 _ HR1.out HC1.out.1 HC1.out.2.1 HC1.out.2.2).mono ?_
      rintro e w2 ⟨g2, s2, rfl, q1, q2, q3⟩
      have H2 : Hid (Arr 3 eN w2 g2 4096 s2 ∧ (s2.getD 0 0 = 2730 ∧ s2.getD 4095 0 = 0) ∧ Keep [] wr w2) := ⟨q1, q2, q3⟩
      clear q1 q2 q3 HR1 HC1
      go_wp2_with fail
      have hs3 := strata_no 4097 (.slice none 0 0) [] w2 (Rd.nil encZ 3 w2) (by decide)
      rw [show faultZ 4097 [] = 2 by decide] at hs3
      refine hs3.mono ?_
      rintro e w3 ⟨rfl, k3⟩
      have H3 : Hid (Arr 3 eN w3 g2 4096 s2 ∧ (s2.getD 0 0 = 2730 ∧ s2.getD 4095 0 = 0) ∧ Keep [] wr w3) := ⟨H2.out.1.keep k3 (by simp), H2.out.2.1, H2.out.2.2.trans' k3⟩
      clear k3 H2 hs3
      go_wp2_with fail
      have hf2 : faultZ 4096 (A2.map Ar.z) = 3 := by
        unfold faultZ
        rw [if_neg (by omega), if_pos HC2.out]
      have hs4 := parts_no 4096 _ (A2.map Ar.z) w3 (HR2.out.keep H3.out.2.2 (Off.nil _)).z (by rw [hf2]; omega)
      rw [hf2] at hs4
      have HS4 : Hid (type_of% hs4) := hs4
      clear hf2 hs4
      refine HS4.out.mono ?_
      rintro e w4 ⟨rfl, k4⟩
      have H4 : Hid (Arr 3 eN w4 g2 4096 s2 ∧ (s2.getD 0 0 = 2730 ∧ s2.getD 4095 0 = 0) ∧ Keep [] wr w4) := ⟨H3.out.1.keep k4 (by simp), H3.out.2.1, H3.out.2.2.trans' k4⟩
      clear k4 H3 HS4 HR2 HC2
      go_wp2_with fail
      refine (parts_ch _ A3 _ (HR3.out.keep H4.out.2.2 (Off.nil _)) HC3.out.1 HC3.out.2).mono ?_
      rintro e w5 ⟨g5, s5, rfl, q1, q2, q3⟩
      have H5 : Hid (Keep [] wr w5) := H4.out.2.2.trans' q3
      have b0 : w5.cell? ⟨g2, 0, none⟩ = some (.int .i64 2730) := by rw [(H4.out.1.keep q3 (by simp)).cell 0 0 (by omega), H4.out.2.1.1]; rfl
      have b1 : w5.cell? ⟨g2, 4095, none⟩ = some (.int .i64 0) := by rw [(H4.out.1.keep q3 (by simp)).cell 0 4095 (by omega), H4.out.2.1.2]; rfl
      have b2 : w5.cell? ⟨g5, 0, none⟩ = some (.int .i64 4095) := by rw [q1.cell 0 0 (by omega), q2.1]; rfl
      have b3 : w5.cell? ⟨g5, 4095, none⟩ = some (.int .i64 0) := by rw [q1.cell 0 4095 (by omega), q2.2]; rfl
      clear q1 q2 q3 H4 HR3 HC3
      go_wp2_with fail
      have HU : Hid (Rd encI 1 (w5.alloc (.cells #[.int .i64 4094] 3)) (.slice (some ⟨w5.heap.size, 0, none⟩) 1 1) [4094] ∧ w5.heap.size < (w5.alloc (.cells #[.int .i64 4094] 3)).heap.size) := ⟨Rd.lit encI_len w5 [4094] _ 3 rfl (by decide), by simp⟩
      have HK6 : Hid (Keep [] w5 (w5.alloc (.cells #[.int .i64 4094] 3))) := Keep.alloc1 w5 _
      generalize w5.alloc (.cells #[.int .i64 4094] 3) = w6 at HU HK6 ⊢
      refine (reach_ch _ _ A4 _ (HR4.out.keep (H5.out.trans' HK6.out) (Off.nil _)) HC4.out.1 HC4.out.2 HU.out.1 (fun x hx => by simp [Value.ownBlock] at hx; subst hx; exact HU.out.2)).mono ?_
      rintro e w7 ⟨a7, c7, rfl, k7⟩
      have H7 : Hid (Keep [] wr w7) := (H5.out.trans' HK6.out).trans' k7
      clear k7 HK6 HU H5 b0 b1 b2 b3
      go_wp2_with fail
      refine (ring_ch _ A4 _ (HR4.out.keep H7.out (Off.nil _)) HC4.out.1 HC4.out.2).mono ?_
      rintro e w8 ⟨a8, c8, rfl, k8⟩
      have H8 : Hid (Keep [] wr w8) := H7.out.trans' k8
      clear k8 H7 HR4 HC4
      go_wp2_with fail
      refine (awake_any _).mono ?_
      rintro e w9 ⟨rfl, k9⟩
      have H9 : Hid (Keep [] w w9) := (HKw.out.trans' H8.out).trans' k9
      clear k9 H8 HKw
      go_wp2
      go_ret
      exact ⟨rfl, H9.out⟩
end Go.Proofs.Ytmlpkjeaieljfaa
