/- StrataOrdered: the walk. -/
import Derived.Test.YtmlpkjeaieljfaaOa
namespace Go.Proofs.Ytmlpkjeaieljfaa
open Go.RowKit Go.PlainAid

/-- the graph and its numbers lie as they lay -/
structure Og (w wr : World) (va : Value) (N g : Nat) (A : List Ar) (p : List Nat) : Prop where
  arcs : Rd encA 3 wr va A
  parr : Arr 3 eN wr g N p
  keep : Keep [] w wr
theorem Og.step {w wr w' : World} {va : Value} {N g : Nat} {A : List Ar} {p : List Nat} (h : Og w wr va N g A p) (k : Keep [] wr w') : Og w w' va N g A p := ⟨h.arcs.keep k (Off.nil _), h.parr.keep k (by simp), h.keep.trans' k⟩
/-- the greatest number so far -/
def MostOf (p : List Nat) (a : Nat) (m : Int) : Prop := -1 ≤ m ∧ (∀ x, x < a → (p.getD x 0 : Int) ≤ m) ∧ (m = -1 ∨ ∃ x, x < a ∧ m = (p.getD x 0 : Int))
theorem MostOf.next {p : List Nat} {a : Nat} {m : Int} (h : MostOf p a m) : MostOf p (a + 1) (max m (p.getD a 0 : Int)) := by
  refine ⟨by have := h.1; omega, fun x hx => ?_, ?_⟩
  · by_cases e : x < a
    · have := h.2.1 x e; omega
    · obtain rfl : x = a := by omega
      omega
  · by_cases hm : m ≤ (p.getD a 0 : Int)
    · exact .inr ⟨a, by omega, by omega⟩
    · rcases h.2.2 with e | ⟨x, hx, e⟩
      · omega
      · exact .inr ⟨x, by omega, by omega⟩

set_option maxRecDepth 1000000 in
set_option maxHeartbeats 8000000 in
theorem ordered_law (n : Int) (va : Value) (l : List Az) (w : World) (h : Rd encZ 3 w va l) (hn : -9223372036854775808 ≤ n ∧ n ≤ 9223372036854775807) (hl : ∀ x ∈ l, (-9223372036854775808 ≤ x.f ∧ x.f ≤ 9223372036854775807) ∧ (-9223372036854775808 ≤ x.t ∧ x.t ≤ 9223372036854775807)) :
    Calls Try.prog 7 #[.int .i64 n, va] w fun e w' => e = .returned (.bool true) ∧ Keep [] w w' := by
  obtain ⟨ao, cap, rfl⟩ := h.form'
  have HFi : Hid (∀ w', Keep [] w w' → Calls Try.prog 24 #[.int .i64 n, .slice ao l.length cap] w' fun e w2 => ∃ v', e = .returned (.tuple #[.int .i64 (fitN n : Int), v']) ∧ Ow 36 encA 3 w' w2 v' (fitA n l)) := fun w' k => fit_any n _ l w' (h.keep k (Off.nil _)) hn hl
  have hN := fitN_lt n
  have HA : Hid ((∀ a ∈ fitA n l, a.f < fitN n ∧ a.t < fitN n) ∧ (fitA n l).length ≤ 400) := ⟨fitA_node n l, fitA_len n l⟩
  generalize fitN n = N at HFi HA hN
  generalize fitA n l = A at HFi HA
  clear h hl hn
  go_enter Try.func7, Try.ntmps7
  go_wp2_with fail
  refine (awake_any _).mono ?_
  rintro e w1 ⟨rfl, k1⟩
  have HK1 : Hid (Keep [] w w1) := k1
  clear k1
  go_wp2_with fail
  refine (HFi.out _ HK1.out).mono ?_
  rintro e w2 ⟨v2, rfl, o2⟩
  obtain ⟨a2, c2, rfl, hc1, hc2⟩ := (o2.row.rd encA_len).form
  have H2 : Hid (Rd encA 3 w2 (.slice a2 A.length c2) A ∧ Keep [] w w2) := ⟨o2.row.rd encA_len, HK1.out.trans' o2.keep⟩
  clear o2 HFi HK1
  have hA4 : A.length ≤ 400 := HA.out.2
  go_wp2_with fail
  refine (copyA_own _ A _ H2.out.1 (by omega)).mono ?_
  rintro e w3 ⟨v3, rfl, r3, k3⟩
  have H3 : Hid (Rd encA 3 w3 v3 A ∧ Rd encA 3 w3 (.slice a2 A.length c2) A ∧ Keep [] w w3) := ⟨r3, H2.out.1.keep k3 (Off.nil _), H2.out.2.trans' k3⟩
  clear r3 k3 H2
  go_wp2_with fail
  refine (parts_yes N _ A _ H3.out.1 (fault_small (by omega) (by omega) HA.out.1)).mono ?_
  rintro e w4 ⟨v4, rfl, g, p, rfl, q1, q2, ⟨q3, q4⟩, q5⟩
  have H4 : Hid (Og w w4 (.slice a2 A.length c2) N g A p) := ⟨H3.out.2.1.keep q5 (Off.nil _), q2, H3.out.2.2.trans' q5⟩
  have HP : Hid (Numbered (Ec A) N (fun x => p.getD x 0) ∧ ∀ x, x < N → p.getD x 0 < N) := ⟨q3, q4⟩
  clear q1 q2 q3 q4 q5 H3
  have HCp : Hid (∀ wr, Og w wr (.slice a2 A.length c2) N g A p → Calls Try.prog 25 #[.slice a2 A.length c2] wr fun e w' => ∃ v', e = .returned v' ∧ Rd encA 3 w' v' A ∧ Keep [] wr w') := fun wr ho => copyA_own _ A wr ho.arcs (by omega)
  have HRe : Hid (∀ (wr : World) (v : Value) (x : Nat) (o : Nat × Nat), Rd encA 3 wr v A → x < N → Calls Try.prog 21 #[.int .i64 (N : Int), v, .slice (some ⟨wr.heap.size, 0, none⟩) 1 1] (wr.alloc (.cells #[.int .i64 (x : Int)] 3 o)) fun e w' => RoR wr w' N A x e) := fun wr v x o hr hx => reach_one N x v A wr o hr (by omega) (by omega) HA.out.1 hx
  go_wp2
  go_loopw [8, 9] (fun mv av wr => ∃ (m : Int) (a : Nat), mv = .int .i64 m ∧ av = .int .i64 (a : Int) ∧ a ≤ N ∧ Hid (MostOf p a m) ∧ Hid (Og w wr (.slice a2 A.length c2) N g A p)) (fun _ av _ => N - (intOf av).toNat)
  case atStart => exact ⟨-1, 0, rfl, rfl, Nat.zero_le _, ⟨by omega, fun x hx => by omega, .inl rfl⟩, H4⟩
  case round =>
    clear H4
    obtain ⟨m, a, rfl, rfl, ha, HM, HO⟩ := hrel
    by_cases hlt : a < N
    · have hlti : (a : Int) < (N : Int) := by omega
      go_wp2_with fail
      refine (HCp.out _ HO.out).mono ?_
      rintro e w5 ⟨v5, rfl, r5, k5⟩
      have H5 : Hid (Rd encA 3 w5 v5 A ∧ Og w w5 (.slice a2 A.length c2) N g A p) := ⟨r5, HO.out.step k5⟩
      clear r5 k5 HO
      go_wp2_with fail
      refine (HRe.out w5 v5 a _ H5.out.1 hlt).mono ?_
      rintro e w6 ⟨b6, c6, R, rfl, r6, s6, k6⟩
      obtain ⟨rn, HRN⟩ : ∃ rn : Nat, Hid (rn = R.length) := ⟨_, show _ = _ from rfl⟩
      rw [← HRN.out] at r6 ⊢
      have H6 : Hid (Rd encI 1 w6 (.slice b6 rn c6) (ofN R) ∧ (∀ x, x ∈ R ↔ x < N ∧ Rch (Ec A) a x) ∧ Og w w6 (.slice a2 A.length c2) N g A p) := ⟨r6, s6, H5.out.2.step k6⟩
      clear r6 s6 k6 H5
      have c0 : w6.cell? ⟨g, a, none⟩ = some (.int .i64 (p.getD a 0 : Int)) := H6.out.2.2.parr.cell 0 a hlt
      have HHa : Hid (∀ (_ : True), Calls Try.prog 26 #[.slice b6 rn c6, .int .i64 (a : Int)] w6 fun e w' => e = .returned (.bool true) ∧ w' = w6) := fun _ => by
        obtain ⟨b, hb, hc⟩ := has_one _ R a w6 H6.out.1
        have : b = true := hb.2 ((H6.out.2.1 a).2 ⟨hlt, .refl⟩)
        rwa [this] at hc
      obtain ⟨x, HX⟩ : ∃ x : Nat, Hid (x = p.getD a 0) := ⟨_, show _ = _ from rfl⟩
      rw [← HX.out] at c0
      have hxN : x < N := by rw [HX.out]; exact HP.out.2 a hlt
      have hx0 : ¬ (x : Int) < 0 := by omega
      have HMn : Hid (MostOf p (a + 1) (max m (x : Int))) := by rw [HX.out]; exact HM.out.next
      go_wp2_with fail
      refine (HHa.out trivial).mono ?_
      rintro e w7 ⟨rfl, hw⟩
      obtain rfl := hw.symm
      clear HHa
      have H7 : Hid (Og w w6 (.slice a2 A.length c2) N g A p ∧ Rd encI 1 w6 (.slice b6 rn c6) (ofN R)) := ⟨H6.out.2.2, H6.out.1⟩
      have HR : Hid (∀ x, x ∈ R ↔ x < N ∧ Rch (Ec A) a x) := H6.out.2.1
      clear H6 HM
      go_wp2
      go_loopw [12] (fun bv wr => ∃ b : Nat, bv = .int .i64 (b : Int) ∧ b ≤ a ∧ Hid (Og w wr (.slice a2 A.length c2) N g A p ∧ Rd encI 1 wr (.slice b6 rn c6) (ofN R))) (fun bv _ => a - (intOf bv).toNat)
      case atStart => exact ⟨0, rfl, Nat.zero_le _, H7⟩
      case round =>
        clear H7 c0
        obtain ⟨b, rfl, hb, HO⟩ := hrel
        by_cases hblt : b < a
        · have hblti : (b : Int) < (a : Int) := by omega
          have hbN : b < N := by omega
          have hbNi : (b : Int) < (N : Int) := by omega
          go_wp2_with fail
          refine (HCp.out _ HO.out.1).mono ?_
          rintro e w7 ⟨v7, rfl, r7, k7⟩
          have H7 : Hid (Rd encA 3 w7 v7 A ∧ Og w w7 (.slice a2 A.length c2) N g A p ∧ Rd encI 1 w7 (.slice b6 rn c6) (ofN R)) := ⟨r7, HO.out.1.step k7, HO.out.2.keep k7 (Off.nil _)⟩
          clear r7 k7 HO
          go_wp2_with fail
          refine (HRe.out w7 v7 b _ H7.out.1 hbN).mono ?_
          rintro e w8 ⟨b8, c8, R2, rfl, r8, s8, k8⟩
          obtain ⟨rm, HRM⟩ : ∃ rn : Nat, Hid (rn = R2.length) := ⟨_, show _ = _ from rfl⟩
          rw [← HRM.out] at r8 ⊢
          have HO8 : Hid (Og w w8 (.slice a2 A.length c2) N g A p ∧ Rd encI 1 w8 (.slice b6 rn c6) (ofN R) ∧ Rd encI 1 w8 (.slice b8 rm c8) (ofN R2)) := ⟨H7.out.2.1.step k8, H7.out.2.2.keep k8 (Off.nil _), r8⟩
          have HR2 : Hid (∀ x, x ∈ R2 ↔ x < N ∧ Rch (Ec A) b x) := s8
          clear r8 s8 k8 H7
          have HH1 : Hid (∀ n, Calls Try.prog 26 #[.slice b6 rn c6, .int .i64 (b : Int)] (w8.drewN n) fun e w' => e = .returned (.bool (decide ((b : Int) ∈ ofN R))) ∧ w' = w8.drewN n) := fun n => has_any _ (ofN R) b _ (HO8.out.2.1.keep ((Keep.refl [] w8).drewN n) (Off.nil _))
          have HH2 : Hid (∀ n, Calls Try.prog 26 #[.slice b8 rm c8, .int .i64 (a : Int)] (w8.drewN n) fun e w' => e = .returned (.bool (decide ((a : Int) ∈ ofN R2))) ∧ w' = w8.drewN n) := fun n => has_any _ (ofN R2) a _ (HO8.out.2.2.keep ((Keep.refl [] w8).drewN n) (Off.nil _))
          have c1 : w8.cell? ⟨g, a, none⟩ = some (.int .i64 (x : Int)) := by rw [HX.out]; exact HO8.out.1.parr.cell 0 a hlt
          obtain ⟨y, HY⟩ : ∃ y : Nat, Hid (y = p.getD b 0) := ⟨_, show _ = _ from rfl⟩
          have c2' : w8.cell? ⟨g, b, none⟩ = some (.int .i64 (y : Int)) := by rw [HY.out]; exact HO8.out.1.parr.cell 0 b hbN
          have hgl : g < w8.heap.size := HO8.out.1.parr.lt
          have HSame : Hid (x = y ↔ (decide ((b : Int) ∈ ofN R) = true ∧ decide ((a : Int) ∈ ofN R2) = true)) := by
            show _ ↔ _
            rw [decide_eq_true_iff, decide_eq_true_iff, mem_ofN, mem_ofN, HR.out b, HR2.out a, HX.out, HY.out]
            have := HP.out.1.same a b hlt hbN
            rw [this]
            exact ⟨fun h => ⟨⟨hbN, h.1⟩, hlt, h.2⟩, fun h => ⟨h.1.2, h.2.2⟩⟩
          generalize decide ((b : Int) ∈ ofN R) = h1 at HH1 HSame
          generalize decide ((a : Int) ∈ ofN R2) = h2 at HH2 HSame
          clear HY HR2 HRM
          cases h1 with
          | false =>
            have hq : ((x : Int) == (y : Int)) = false := by
              have := HSame.out
              simp at this
              simp
              omega
            clear HSame
            go_wp2
            go_quiet (first | (go_at_call_of 26 b6; exact Calls.quiet_of_same (HH1.out _)) | (go_at_call_of 26 b8; exact Calls.quiet_of_same (HH2.out _)))
            go_wp2
            go_roundw
            case rel => exact ⟨b + 1, by go_num, by omega, (HO8.out.1.step ((Keep.refl [] w8).drewN _)), HO8.out.2.1.keep ((Keep.refl [] w8).drewN _) (Off.nil _)⟩
            case measure => simp [intOf]; omega
          | true =>
            cases h2 with
            | false =>
              have hq : ((x : Int) == (y : Int)) = false := by
                have := HSame.out
                simp at this
                simp
                omega
              clear HSame
              go_wp2
              go_quiet (first | (go_at_call_of 26 b6; exact Calls.quiet_of_same (HH1.out _)) | (go_at_call_of 26 b8; exact Calls.quiet_of_same (HH2.out _)))
              go_wp2
              go_roundw
              case rel => exact ⟨b + 1, by go_num, by omega, (HO8.out.1.step ((Keep.refl [] w8).drewN _)), HO8.out.2.1.keep ((Keep.refl [] w8).drewN _) (Off.nil _)⟩
              case measure => simp [intOf]; omega
            | true =>
              have hq : ((x : Int) == (y : Int)) = true := by
                have := HSame.out
                simp at this
                simp [this]
              clear HSame
              go_wp2
              go_quiet (first | (go_at_call_of 26 b6; exact Calls.quiet_of_same (HH1.out _)) | (go_at_call_of 26 b8; exact Calls.quiet_of_same (HH2.out _)))
              go_wp2
              go_roundw
              case rel => exact ⟨b + 1, by go_num, by omega, (HO8.out.1.step ((Keep.refl [] w8).drewN _)), HO8.out.2.1.keep ((Keep.refl [] w8).drewN _) (Off.nil _)⟩
              case measure => simp [intOf]; omega
        · have hblti : ¬ (b : Int) < (a : Int) := by omega
          have HO2 : Hid (Og w wr (.slice a2 A.length c2) N g A p) := HO.out.1
          clear HO HR
          go_wp2
          go_roundw
          case rel => exact ⟨max m (x : Int), a + 1, rfl, by go_num, by omega, HMn, HO2⟩
          case measure => simp [intOf]; omega
    · have hlti : ¬ (a : Int) < (N : Int) := by omega
      obtain rfl : a = N := by omega
      clear HCp HRe hlt ha
      go_wp2
      go_loopw [15] (fun iv wr => ∃ i : Nat, iv = .int .i64 (i : Int) ∧ i ≤ A.length ∧ Hid (Og w wr (.slice a2 A.length c2) a g A p)) (fun iv _ => A.length - (intOf iv).toNat)
      case atStart => exact ⟨0, rfl, Nat.zero_le _, HO⟩
      case round =>
        clear HO
        obtain ⟨i, rfl, hi, HO⟩ := hrel
        by_cases hlt : i < A.length
        · have hlti : (i : Int) < (A.length : Int) := by omega
          obtain ⟨b, o, c, he, hb, e0, e1, -⟩ := HO.out.arcs.arcA i hlt
          simp at he
          obtain ⟨rfl, rfl⟩ := he
          have hmem := List.getElem_mem hlt
          have hnd := HA.out.1 A[i] hmem
          have hdn := HP.out.1.down A[i].f A[i].t ⟨A[i], hmem, rfl, rfl⟩
          generalize A[i].f = f at e0 hnd hdn
          generalize A[i].t = t at e1 hnd hdn
          have hfi : (f : Int) < (a : Int) := by omega
          have hti : (t : Int) < (a : Int) := by omega
          have g0 : wr.cell? ⟨g, f, none⟩ = some (.int .i64 (p.getD f 0 : Int)) := HO.out.parr.cell 0 f hnd.1
          have g1 : wr.cell? ⟨g, t, none⟩ = some (.int .i64 (p.getD t 0 : Int)) := HO.out.parr.cell 0 t hnd.2
          generalize p.getD f 0 = x at g0 hdn
          generalize p.getD t 0 = y at g1 hdn
          have hxy : ¬ (x : Int) < (y : Int) := by omega
          clear hmem hdn
          go_wp2
          go_quiet (fail)
          go_wp2
          go_roundw
          case rel => exact ⟨i + 1, by go_num, by omega, HO.out.step ((Keep.refl [] wr).drewN _)⟩
          case measure => simp [intOf]; omega
        · have hlti : ¬ (i : Int) < (A.length : Int) := by omega
          have HFk : Hid (∀ (k : Nat) (z : Int), (k : Int) ≤ m → FirstOf (ofN p) (k : Int) z → ∃ y : Nat, z = (y : Int) ∧ y < a ∧ p.getD y 0 = k ∧ ∀ j, j < y → p.getD j 0 ≠ k) := fun k z hk hf => by
            have hpl := HO.out.parr.len
            have hg : ∀ j (hj : j < (ofN p).length), (ofN p)[j] = ((p.getD j 0 : Nat) : Int) := fun j hj => by
              unfold ofN at hj ⊢
              rw [List.length_map] at hj
              rw [List.getElem_map, List.getD_eq_getElem?_getD, List.getElem?_eq_getElem hj]
              rfl
            have hol : (ofN p).length = a := by unfold ofN; rw [List.length_map]; exact hpl
            have hex : ∃ y, y < a ∧ p.getD y 0 = k := by
              rcases HM.out.2.2 with e | ⟨x, hx, e⟩
              · omega
              · by_cases e2 : p.getD x 0 = k
                · exact ⟨x, hx, e2⟩
                · exact HP.out.1.full x hx k (by omega)
            rcases hf with ⟨_, h2⟩ | ⟨y, rfl, hy, h2, h3⟩
            · obtain ⟨y, hy, e⟩ := hex
              exact absurd (by rw [hg y (by omega), e]) (h2 y (by omega))
            · rw [hg y hy] at h2
              refine ⟨y, rfl, by omega, by omega, fun j hj e => h3 j (by omega) hj ?_⟩
              rw [hg j (by omega), e]
          have HLe : Hid (∀ (k : Nat) (wr : World), (k : Int) ≤ m → Og w wr (.slice a2 A.length c2) a g A p → Calls Try.prog 27 #[.slice (some ⟨g, 0, none⟩) a a, .int .i64 (k : Int)] wr fun e w' => ∃ y : Nat, e = .returned (.int .i64 (y : Int)) ∧ (y < a ∧ p.getD y 0 = k ∧ ∀ j, j < y → p.getD j 0 ≠ k) ∧ w' = wr) := fun k wr hk ho => by
            refine (least_any _ (ofN p) (k : Int) wr ho.parr.ints).mono ?_
            rintro e w' ⟨z, rfl, hz, rfl⟩
            obtain ⟨y, rfl, hy⟩ := HFk.out k z hk hz
            exact ⟨y, rfl, hy, rfl⟩
          have HMb : Hid (-1 ≤ m) := HM.out.1
          have hmb : m < 40 := by
            rcases HM.out.2.2 with e | ⟨x, hx, e⟩
            · omega
            · have := HP.out.2 x hx; omega
          clear HFk HM hlt hi
          go_wp2
          go_loopw [16] (fun kv wr => ∃ k : Nat, kv = .int .i64 (k : Int) ∧ k ≤ 40 ∧ Hid (Og w wr (.slice a2 A.length c2) a g A p)) (fun kv _ => 41 - (intOf kv).toNat)
          case atStart => exact ⟨0, rfl, by omega, HO⟩
          case round =>
            clear HO hlti
            obtain ⟨k, rfl, hk4, HO⟩ := hrel
            by_cases hk : (k : Int) ≤ m
            · have HL1 : Hid (∀ (_ : True), Calls Try.prog 27 #[.slice (some ⟨g, 0, none⟩) a a, .int .i64 (k : Int)] wr fun e w' => ∃ y : Nat, e = .returned (.int .i64 (y : Int)) ∧ (y < a ∧ p.getD y 0 = k ∧ ∀ j, j < y → p.getD j 0 ≠ k) ∧ w' = wr) := fun _ => HLe.out k wr hk HO.out
              go_wp2_with fail
              refine (HL1.out trivial).mono ?_
              rintro e w5 ⟨y, rfl, hy, hw⟩
              obtain rfl := hw.symm
              have HYk : Hid (y < a ∧ p.getD y 0 = k ∧ ∀ j, j < y → p.getD j 0 ≠ k) := hy
              have hy0 : ¬ (y : Int) < 0 := by omega
              clear hy HL1
              go_wp2
              go_loopw [17] (fun qv wr => ∃ q : Nat, qv = .int .i64 (q : Int) ∧ k < q ∧ q ≤ 41 ∧ Hid (Og w wr (.slice a2 A.length c2) a g A p)) (fun qv _ => 42 - (intOf qv).toNat)
              case atStart => exact ⟨k + 1, by go_num, by omega, by omega, HO⟩
              case round =>
                clear HO
                obtain ⟨q, rfl, hkq, hq4, HO⟩ := hrel
                by_cases hq : (q : Int) ≤ m
                · have HL1 : Hid (∀ (_ : True), Calls Try.prog 27 #[.slice (some ⟨g, 0, none⟩) a a, .int .i64 (q : Int)] wr fun e w' => ∃ y : Nat, e = .returned (.int .i64 (y : Int)) ∧ (y < a ∧ p.getD y 0 = q ∧ ∀ j, j < y → p.getD j 0 ≠ q) ∧ w' = wr) := fun _ => HLe.out q wr hq HO.out
                  have HL2 : Hid (∀ (_ : True), Calls Try.prog 27 #[.slice (some ⟨g, 0, none⟩) a a, .int .i64 (k : Int)] wr fun e w' => ∃ y : Nat, e = .returned (.int .i64 (y : Int)) ∧ (y < a ∧ p.getD y 0 = k ∧ ∀ j, j < y → p.getD j 0 ≠ k) ∧ w' = wr) := fun _ => HLe.out k wr hk HO.out
                  have HHe : Hid (∀ (_ : True), Calls Try.prog 28 #[.slice a2 A.length c2, .slice (some ⟨g, 0, none⟩) a a, .int .i64 (q : Int), .int .i64 (k : Int)] wr fun e w' => HldR wr w' e A p q k) := fun _ => held_any a g q k _ A p wr HO.out.arcs HA.out.1 HO.out.parr
                  go_wp2_with fail
                  refine (HL1.out trivial).mono ?_
                  rintro e w5 ⟨z, rfl, hz, hw⟩
                  obtain rfl := hw.symm
                  have HZq : Hid (z < a ∧ p.getD z 0 = q ∧ ∀ j, j < z → p.getD j 0 ≠ q) := hz
                  clear hz HL1
                  go_wp2_with fail
                  refine (HL2.out trivial).mono ?_
                  rintro e w5 ⟨y2, rfl, hy2, hw⟩
                  obtain rfl := hw.symm
                  have HY2 : Hid (y2 < a ∧ p.getD y2 0 = k ∧ ∀ j, j < y2 → p.getD j 0 ≠ k) := hy2
                  clear hy2 HL2
                  by_cases hzy : (z : Int) < (y2 : Int)
                  · have HHl : Hid (Hld A p q k) := order_held HP.out.1 HA.out.1 HY2.out.1 HZq.out.1 HY2.out.2.1 HZq.out.2.1 hkq HY2.out.2.2 (by omega)
                    go_wp2_with fail
                    refine (HHe.out trivial).mono ?_
                    rintro e w5 ⟨b, rfl, hb, hw⟩
                    obtain rfl := hw.symm
                    obtain rfl : b = true := hb.2 HHl.out
                    clear hb HHe HHl
                    go_wp2
                    go_roundw
                    case rel => exact ⟨q + 1, by go_num, by omega, by omega, HO⟩
                    case measure => simp [intOf]; omega
                  · clear HHe
                    go_wp2
                    go_roundw
                    case rel => exact ⟨q + 1, by go_num, by omega, by omega, HO⟩
                    case measure => simp [intOf]; omega
                · go_wp2
                  go_roundw
                  case rel => exact ⟨k + 1, by go_num, by omega, HO⟩
                  case measure => simp [intOf]; omega
            · have HE : Hid (Keep [] w wr) := HO.out.keep
              clear HO
              go_wp2
              go_ret
              exact ⟨rfl, HE.out⟩
end Go.Proofs.Ytmlpkjeaieljfaa
