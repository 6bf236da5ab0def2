/- awake: the four calls at fixed graphs. -/
import Derived.Test.YtmlpkjeaieljfabAm
import Derived.Test.YtmlpkjeaieljfabDa
namespace Go.Proofs.Ytmlpkjeaieljfab
open Go.RowKit Go.PlainAid

theorem Rd.form' {α : Type} {enc : α → List Value} {k : Nat} {w : World} {v : Value} {l : List α} (h : Rd enc k w v l) : ∃ ao cap, v = .slice ao l.length cap := by
  obtain ⟨ao, cap, e, -, -⟩ := h.form
  exact ⟨ao, cap, e⟩

theorem parts_A0 (v : Value) (w : World) (h : Rd encA 3 w v A0) : Calls Try.prog 8 #[.int .i64 4, v] w fun e w' => ∃ a c, e = .returned (.tuple #[.slice a 4 c, .int .i64 0]) ∧ Rd encI 1 w' (.slice a 4 c) [1, 0, 0, 2] ∧ Keep [] w w' := by
  refine (parts_yes 4 v A0 w h (by decide)).mono ?_
  rintro e w' ⟨v', rfl, g, p, rfl, -, h3, ⟨h4, -⟩, h5⟩
  obtain rfl := parts0 h3.len h4
  exact ⟨_, _, rfl, h3.ints, h5⟩
theorem strata_A0 (v : Value) (w : World) (h : Rd encA 3 w v A0) : Calls Try.prog 10 #[.int .i64 4, v] w fun e w' => ∃ a c, e = .returned (.tuple #[.slice a 4 c, .int .i64 0]) ∧ Rd encI 1 w' (.slice a 4 c) [0, 0, 0, 1] ∧ Keep [] w w' := by
  refine (strata_own levels_own 4 v A0 w h (by decide)).mono ?_
  rintro e w' ⟨p, ⟨h4, -⟩, ⟨-, v', rfl, g, s, rfl, -, h6, h7, h8⟩ | ⟨h5, -⟩⟩
  · obtain rfl := levels0 h6.len h7
    exact ⟨_, _, rfl, h6.ints, h8⟩
  · exact absurd (noBad0 h4) h5
theorem reach_A0 (v u : Value) (w : World) (h : Rd encA 3 w v A0) (hu : Rd encI 1 w u [0]) (hb : ∀ x, u.ownBlock = some x → x < w.heap.size) : Calls Try.prog 11 #[.int .i64 4, v, u] w fun e w' => ∃ a c, e = .returned (.tuple #[.slice a 3 c, .int .i64 0]) ∧ Rd encI 1 w' (.slice a 3 c) [0, 1, 2] ∧ Keep [] w w' := by
  refine (reach_yes 4 v u A0 [0] w h (by decide) hu hb).mono ?_
  intro e w' h1
  unfold RcR at h1
  rw [if_pos (by decide)] at h1
  obtain ⟨v', m, rfl, h2, h3⟩ := h1
  rw [reach0 h3] at h2
  obtain ⟨a, c, rfl⟩ := (h2.row.rd encN_len).form'
  exact ⟨a, c, rfl, (h2.row.rd encN_len).ints, h2.keep⟩
theorem ring_A1 (v : Value) (w : World) (h : Rd encA 3 w v A1) : Calls Try.prog 14 #[.int .i64 2, v] w fun e w' => ∃ a c, e = .returned (.tuple #[.slice a 1 c, .int .i64 0]) ∧ Rd encI 1 w' (.slice a 1 c) [1] ∧ Keep [] w w' := by
  refine (ring_yes 2 v A1 w h (by decide)).mono ?_
  rintro e w' ⟨v', rfl, p, ⟨h4, -⟩, h2⟩
  rw [ring1 h4] at h2
  obtain ⟨a, c, rfl⟩ := (h2.row.rd encN_len).form'
  exact ⟨a, c, rfl, (h2.row.rd encN_len).ints, h2.keep⟩

set_option maxRecDepth 1000000 in
set_option maxHeartbeats 2000000 in
theorem awake_any (w : World) : Calls Try.prog 5 #[] w fun e w' => e = .returned (.bool true) ∧ Keep [] w w' := by
  go_enter Try.func5, Try.ntmps5
  go_wp2_with fail
  have HA : Hid (Rd encA 3 (w.alloc (.cells #[.int .i64 0, .int .i64 1, .bool false, .int .i64 1, .int .i64 2, .bool false, .int .i64 2, .int .i64 1, .bool false, .int .i64 3, .int .i64 1, .bool true] 31)) (.slice (some ⟨w.heap.size, 0, none⟩) 4 4) A0) := Rd.lit encA_len w A0 _ 31 rfl (by decide)
  have HK : Hid (Keep [] w (w.alloc (.cells #[.int .i64 0, .int .i64 1, .bool false, .int .i64 1, .int .i64 2, .bool false, .int .i64 2, .int .i64 1, .bool false, .int .i64 3, .int .i64 1, .bool true] 31))) := Keep.alloc1 w _
  generalize w.alloc (.cells #[.int .i64 0, .int .i64 1, .bool false, .int .i64 1, .int .i64 2, .bool false, .int .i64 2, .int .i64 1, .bool false, .int .i64 3, .int .i64 1, .bool true] 31) = w1 at HA HK ⊢
  obtain ⟨b0, HB0⟩ : ∃ b0 : Nat, Hid (b0 = w.heap.size) := ⟨_, show _ = _ from rfl⟩
  rw [← HB0.out] at HA ⊢
  clear HB0
  refine (parts_A0 _ _ HA.out).mono ?_
  rintro e w2 ⟨a2, c2, rfl, r2, k2⟩
  have H2 : Hid (Rd encI 1 w2 (.slice a2 4 c2) [1, 0, 0, 2] ∧ Keep [] w w2 ∧ Rd encA 3 w2 (.slice (some ⟨b0, 0, none⟩) 4 4) A0) := ⟨r2, HK.out.trans' k2, HA.out.keep k2 (Off.nil _)⟩
  clear HA HK r2 k2
  go_wp2_with fail
  refine (strata_A0 _ _ H2.out.2.2).mono ?_
  rintro e w3 ⟨a3, c3, rfl, r3, k3⟩
  have H3 : Hid (Rd encI 1 w3 (.slice a2 4 c2) [1, 0, 0, 2] ∧ Rd encI 1 w3 (.slice a3 4 c3) [0, 0, 0, 1] ∧ Keep [] w w3 ∧ Rd encA 3 w3 (.slice (some ⟨b0, 0, none⟩) 4 4) A0) := ⟨H2.out.1.keep k3 (Off.nil _), r3, H2.out.2.1.trans' k3, H2.out.2.2.keep k3 (Off.nil _)⟩
  clear H2 r3 k3
  go_wp2_with fail
  have HR : Hid (Rd encI 1 (w3.alloc (.cells #[.int .i64 0] 3)) (.slice (some ⟨w3.heap.size, 0, none⟩) 1 1) [0] ∧ w3.heap.size < (w3.alloc (.cells #[.int .i64 0] 3)).heap.size) := ⟨Rd.lit encI_len w3 [0] _ 3 rfl (by decide), by simp⟩
  have HK4 : Hid (Keep [] w3 (w3.alloc (.cells #[.int .i64 0] 3))) := Keep.alloc1 w3 _
  generalize w3.alloc (.cells #[.int .i64 0] 3) = w4 at HR HK4 ⊢
  refine (reach_A0 _ _ _ (H3.out.2.2.2.keep HK4.out (Off.nil _)) HR.out.1 (fun x hx => by simp [Value.ownBlock] at hx; subst hx; exact HR.out.2)).mono ?_
  rintro e w5 ⟨a5, c5, rfl, r5, k5⟩
  have H5 : Hid (Rd encI 1 w5 (.slice a2 4 c2) [1, 0, 0, 2] ∧ Rd encI 1 w5 (.slice a3 4 c3) [0, 0, 0, 1] ∧ Rd encI 1 w5 (.slice a5 3 c5) [0, 1, 2] ∧ Keep [] w w5) := by
    have k := HK4.out.trans' k5
    exact ⟨H3.out.1.keep k (Off.nil _), H3.out.2.1.keep k (Off.nil _), r5, H3.out.2.2.1.trans' k⟩
  clear H3 r5 k5 HR HK4
  go_wp2_with fail
  have HA : Hid (Rd encA 3 (w5.alloc (.cells #[.int .i64 1, .int .i64 1, .bool true] 31)) (.slice (some ⟨w5.heap.size, 0, none⟩) 1 1) A1) := Rd.lit encA_len w5 A1 _ 31 rfl (by decide)
  have HK6 : Hid (Keep [] w5 (w5.alloc (.cells #[.int .i64 1, .int .i64 1, .bool true] 31))) := Keep.alloc1 w5 _
  generalize w5.alloc (.cells #[.int .i64 1, .int .i64 1, .bool true] 31) = w6 at HA HK6 ⊢
  refine (ring_A1 _ _ HA.out).mono ?_
  rintro e w7 ⟨a7, c7, rfl, r7, k7⟩
  have H7 : Hid (Rd encI 1 w7 (.slice a2 4 c2) [1, 0, 0, 2] ∧ Rd encI 1 w7 (.slice a3 4 c3) [0, 0, 0, 1] ∧ Rd encI 1 w7 (.slice a5 3 c5) [0, 1, 2] ∧ Rd encI 1 w7 (.slice a7 1 c7) [1] ∧ Keep [] w w7) := by
    have k := HK6.out.trans' k7
    exact ⟨H5.out.1.keep k (Off.nil _), H5.out.2.1.keep k (Off.nil _), H5.out.2.2.1.keep k (Off.nil _), r7, H5.out.2.2.2.trans' k⟩
  clear H5 r7 k7 HA HK6
  have HS : Hid (∀ (u v : Value) (l : List Int) (w : World), Rd encI 1 w u l → Rd encI 1 w v l → Calls Try.prog 15 #[u, v] w fun e w' => e = .returned (.bool true) ∧ Keep [] w w') := fun u v l w h1 h2 => by
    have := sameInts_any u v l l w h1 h2
    rwa [show decide (l = l) = true from decide_eq_true rfl] at this
  go_wp2_with fail
  refine (HS.out _ _ [1, 0, 0, 2] _ (H7.out.1.keep (Keep.alloc1 w7 _) (Off.nil _)) (Rd.lit encI_len w7 [1, 0, 0, 2] _ 3 rfl (by decide))).mono ?_
  rintro e w8 ⟨rfl, k8⟩
  have H8 : Hid (Keep [] w7 w8) := (Keep.alloc1 w7 _).trans' k8
  clear k8
  go_wp2_with fail
  refine (HS.out _ _ [0, 0, 0, 1] _ ((H7.out.2.1.keep H8.out (Off.nil _)).keep (Keep.alloc1 w8 _) (Off.nil _)) (Rd.lit encI_len w8 [0, 0, 0, 1] _ 3 rfl (by decide))).mono ?_
  rintro e w9 ⟨rfl, k9⟩
  have H9 : Hid (Keep [] w7 w9) := (H8.out.alloc _).trans' k9
  clear k9 H8
  go_wp2_with fail
  refine (HS.out _ _ [0, 1, 2] _ ((H7.out.2.2.1.keep H9.out (Off.nil _)).keep (Keep.alloc1 w9 _) (Off.nil _)) (Rd.lit encI_len w9 [0, 1, 2] _ 3 rfl (by decide))).mono ?_
  rintro e w10 ⟨rfl, k10⟩
  have H10 : Hid (Keep [] w7 w10) := (H9.out.alloc _).trans' k10
  clear k10 H9
  go_wp2_with fail
  refine (HS.out _ _ [1] _ ((H7.out.2.2.2.1.keep H10.out (Off.nil _)).keep (Keep.alloc1 w10 _) (Off.nil _)) (Rd.lit encI_len w10 [1] _ 3 rfl (by decide))).mono ?_
  rintro e w11 ⟨rfl, k11⟩
  have H11 : Hid (Keep [] w w11) := (H7.out.2.2.2.2.trans' (H10.out.alloc _)).trans' k11
  clear k11 H10 H7 HS
  go_wp2
  go_ret
  exact ⟨rfl, H11.out⟩
end Go.Proofs.Ytmlpkjeaieljfab

