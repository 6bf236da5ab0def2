/- The least number of a bad part: badPart. -/
import Derived.Test.YtmlpkjeaieljfabPa

namespace Go.Proofs.Ytmlpkjeaieljfab
open Go.RowKit Go.PlainAid Go.Sort

def badF (p : List Nat) (bad : Int) (a : Ar) : Int := if a.g = true ∧ p.getD a.f 0 = p.getD a.t 0 ∧ (bad = -1 ∨ ((p.getD a.f 0 : Nat) : Int) < bad) then ((p.getD a.f 0 : Nat) : Int) else bad
def badL (p : List Nat) (A : List Ar) : Int := A.foldl (badF p) (-1)
theorem badL_next (p : List Nat) (A : List Ar) (i : Nat) (hi : i < A.length) : badL p (A.take (i + 1)) = badF p (badL p (A.take i)) A[i] := by
  unfold badL
  rw [List.take_succ_eq_append_getElem hi, List.foldl_append]
  rfl

set_option maxRecDepth 1000000 in
set_option maxHeartbeats 4000000 in
theorem badPart_any (va vf : Value) (n gp : Nat) (A : List Ar) (F p : List Nat) (w : World) (hg : Gph w va vf n A F) (hp : Arr 3 eN w gp n p) :
    Calls Try.prog 20 #[.agg #[va, vf], .slice (some ⟨gp, 0, none⟩) n n] w fun e w' => e = .returned (.int .i64 (badL p A)) ∧ Keep [] w w' := by
  obtain ⟨a1, c1, rfl, -, -⟩ := hg.arcs.form
  obtain ⟨b2, o2, c2, rfl, -, -, -, -⟩ := hg.firstLen
  have hn := hg.big.2
  have hA := hg.big.1
  have HG : Hid (Gph w (.slice a1 A.length c1) (.slice (some ⟨b2, o2, none⟩) (n + 1) c2) n A F ∧ Arr 3 eN w gp n p) := ⟨hg, hp⟩
  clear hg hp
  go_enter Try.func20, Try.ntmps20
  go_wp2
  go_loopw [5, 12] (fun bv iv wr => ∃ (i : Nat) (bad : Int), bv = .int .i64 bad ∧ iv = .int .i64 (i : Int) ∧ i ≤ A.length ∧ Hid (bad = badL p (A.take i)) ∧ Hid (Keep [] w wr)) (fun _ iv _ => A.length - (intOf iv).toNat)
  case atStart => exact ⟨0, -1, rfl, rfl, Nat.zero_le _, rfl, Keep.alloc1 w _⟩
  case round =>
    obtain ⟨i, bad, rfl, rfl, hi, HBd, HK⟩ := hrel
    by_cases hlt : i < A.length
    · have hlti : (i : Int) < (A.length : Int) := by omega
      have HAR : Hid (Rd encA 3 wr (.slice a1 A.length c1) A ∧ Arr 3 eN wr gp n p) := ⟨HG.out.1.arcs.keep HK.out (Off.nil _), HG.out.2.keep HK.out (by simp)⟩
      obtain ⟨b, o, c, he, hb, e0, e1, e2⟩ := HAR.out.1.arcA i hlt
      simp at he
      obtain ⟨rfl, rfl⟩ := he
      have hnd := HG.out.1.ok.node A[i] (List.getElem_mem hlt)
      have HNx : Hid (badL p (A.take (i + 1)) = badF p bad A[i]) := by rw [badL_next p A i hlt, HBd.out]; rfl
      unfold badF at HNx
      obtain ⟨f, hf⟩ : ∃ f : Nat, f = A[i].f := ⟨_, rfl⟩
      obtain ⟨t, ht⟩ : ∃ t : Nat, t = A[i].t := ⟨_, rfl⟩
      obtain ⟨gg, hgg⟩ : ∃ gg : Bool, gg = A[i].g := ⟨_, rfl⟩
      rw [← hf] at e0
      rw [← ht] at e1
      rw [← hgg] at e2
      rw [← hf, ← ht] at hnd
      rw [← hf, ← ht, ← hgg] at HNx
      have hfi : (f : Int) < (n : Int) := by omega
      have hti : (t : Int) < (n : Int) := by omega
      obtain ⟨x, hx⟩ : ∃ x : Nat, x = p.getD f 0 := ⟨_, rfl⟩
      obtain ⟨y, hy⟩ : ∃ y : Nat, y = p.getD t 0 := ⟨_, rfl⟩
      have g0 : wr.cell? ⟨gp, f, none⟩ = some (.int .i64 (x : Int)) := by rw [hx]; exact HAR.out.2.cell 0 f hnd.1
      have g1 : wr.cell? ⟨gp, t, none⟩ = some (.int .i64 (y : Int)) := by rw [hy]; exact HAR.out.2.cell 0 t hnd.2
      have hgl : gp < wr.heap.size := HAR.out.2.lt
      rw [← hx, ← hy] at HNx
      clear hf ht hgg hx hy HAR HBd
      have HRel : Hid (∀ (z : Int), badL p (A.take (i + 1)) = z → ∀ w', Keep [] wr w' → ∃ (i' : Nat) (bad : Int), Value.int .i64 z = .int .i64 bad ∧ Value.int .i64 ((i : Int) + 1) = .int .i64 (i' : Int) ∧ i' ≤ A.length ∧ Hid (bad = badL p (A.take i')) ∧ Hid (Keep [] w w')) := fun z hz w' k => ⟨i + 1, z, rfl, by congr 1, by omega, hz.symm, HK.out.trans' k⟩
      cases gg with
      | false =>
        have HZ : Hid (badL p (A.take (i + 1)) = bad) := by rw [HNx.out, if_neg (by simp)]; rfl
        clear HNx
        go_wp2
        go_roundw
        case rel => exact HRel.out _ HZ.out _ ((Keep.refl [] wr).alloc _)
        case measure => simp [intOf]; omega
      | true =>
        by_cases hxy : x = y
        · have hq : ((x : Int) == (y : Int)) = true := by simp [hxy]
          by_cases hb1 : bad = -1
          · subst hb1
            have HZ : Hid (badL p (A.take (i + 1)) = (x : Int)) := by rw [HNx.out, if_pos ⟨rfl, hxy, .inl rfl⟩]; rfl
            clear HNx hxy
            go_wp2
            go_roundw
            case rel => exact HRel.out _ HZ.out _ ((Keep.refl [] wr).alloc _)
            case measure => simp [intOf]; omega
          · have hq2 : (bad == -1) = false := by simpa using hb1
            by_cases hlt2 : (x : Int) < bad
            · have HZ : Hid (badL p (A.take (i + 1)) = (x : Int)) := by rw [HNx.out, if_pos ⟨rfl, hxy, .inr hlt2⟩]; rfl
              clear HNx hxy
              go_wp2
              go_roundw
              case rel => exact HRel.out _ HZ.out _ ((Keep.refl [] wr).alloc _)
              case measure => simp [intOf]; omega
            · have HZ : Hid (badL p (A.take (i + 1)) = bad) := by rw [HNx.out, if_neg (by rintro ⟨_, _, h | h⟩; exact hb1 h; exact hlt2 h)]; rfl
              clear HNx hxy
              go_wp2
              go_roundw
              case rel => exact HRel.out _ HZ.out _ ((Keep.refl [] wr).alloc _)
              case measure => simp [intOf]; omega
        · have hq : ((x : Int) == (y : Int)) = false := by simp; omega
          have HZ : Hid (badL p (A.take (i + 1)) = bad) := by rw [HNx.out, if_neg (by rintro ⟨_, h, _⟩; exact hxy h)]; rfl
          clear HNx
          go_wp2
          go_roundw
          case rel => exact HRel.out _ HZ.out _ ((Keep.refl [] wr).alloc _)
          case measure => simp [intOf]; omega
    · have hlti : ¬ (i : Int) < (A.length : Int) := by omega
      have HE : Hid (bad = badL p A) := by
        have := HBd.out
        rwa [List.take_of_length_le (by omega)] at this
      clear HBd
      go_wp2
      go_ret
      exact ⟨by rw [HE.out]; rfl, HK.out⟩
end Go.Proofs.Ytmlpkjeaieljfab

/- The calls that all may make: Parts. -/
namespace Go.Proofs.Ytmlpkjeaieljfab
open Go.RowKit Go.PlainAid Go.Sort

def Az.a (z : Az) : Ar := ⟨z.f.toNat, z.t.toNat, z.g⟩
/-- a graph that is not refused -/
structure Fine (n : Int) (l : List Az) (N : Nat) (A : List Ar) : Prop where
  n : n = (N : Int)
  l : l = A.map Ar.z
  small : N ≤ 4096 ∧ A.length ≤ 262144
  node : ∀ a ∈ A, a.f < N ∧ a.t < N
theorem fine_of {n : Int} {l : List Az} (h : faultZ n l = 0) : ∃ N A, Fine n l N A := by
  unfold faultZ at h
  by_cases h1 : n < 0 ∨ 4096 < n
  · rw [if_pos h1] at h; simp at h
  rw [if_neg h1] at h
  by_cases h2 : 262144 < l.length
  · rw [if_pos h2] at h; simp at h
  rw [if_neg h2] at h
  by_cases h3 : l.all (arcB n) = true
  · have hz : ∀ z ∈ l, (0 ≤ z.f ∧ z.f < n) ∧ (0 ≤ z.t ∧ z.t < n) := fun z hz => by
      have := List.all_eq_true.1 h3 z hz
      simpa [arcB, nodeB] using this
    refine ⟨n.toNat, l.map Az.a, by omega, ?_, ⟨by omega, by simp; omega⟩, fun a ha => ?_⟩
    · rw [List.map_map]
      refine (List.map_id l).symm.trans (List.map_congr_left fun z hz2 => ?_)
      have := hz z hz2
      obtain ⟨f, t, g⟩ := z
      simp only [Function.comp, Az.a, Ar.z, id]
      simp at this
      congr 1 <;> omega
    · obtain ⟨z, hz2, rfl⟩ := List.mem_map.1 ha
      have := hz z hz2
      exact ⟨by show z.f.toNat < n.toNat; omega, by show z.t.toNat < n.toNat; omega⟩
  · rw [if_neg h3] at h; simp at h

theorem Ec.same {A B : List Ar} (h : ∀ a, a ∈ A ↔ a ∈ B) : Ec A = Ec B := by
  funext x y
  exact propext ⟨fun ⟨a, ha, e⟩ => ⟨a, (h a).1 ha, e⟩, fun ⟨a, ha, e⟩ => ⟨a, (h a).2 ha, e⟩⟩

theorem parts_no (n : Int) (v : Value) (l : List Az) (w : World) (h : Rd encZ 3 w v l) (hf : faultZ n l ≠ 0) :
    Calls Try.prog 8 #[.int .i64 n, v] w fun e w' => e = .returned (.tuple #[.slice none 0 0, .int .i64 (faultZ n l)]) ∧ Keep [] w w' := by
  have HC : Hid (∀ (_ : True), Calls Try.prog 17 #[.int .i64 n, v] w fun e w' => e = .returned (.int .i64 (faultZ n l)) ∧ Keep [] w w') := fun _ => refused_any n v l w h
  generalize faultZ n l = f at HC hf
  have hq : (f != 0) = true := by simpa using hf
  clear h
  go_enter Try.func8, Try.ntmps8
  go_wp2_with fail
  refine (HC.out trivial).mono ?_
  rintro e w1 ⟨rfl, k1⟩
  have HK : Hid (Keep [] w w1) := k1
  clear k1 HC hf
  go_wp2
  go_ret2
  exact ⟨rfl, HK.out⟩

set_option maxRecDepth 1000000 in
theorem parts_yes (n : Nat) (v : Value) (A : List Ar) (w : World) (h : Rd encA 3 w v A) (hf : faultZ (n : Int) (A.map Ar.z) = 0) :
    Calls Try.prog 8 #[.int .i64 (n : Int), v] w fun e w' => ∃ v', e = .returned (.tuple #[v', .int .i64 0]) ∧ PaR w w' v' n A := by
  obtain ⟨ao, cap, rfl, -, -⟩ := h.form
  obtain ⟨N, B, hfn⟩ := fine_of hf
  have hN : n = N := by have := hfn.n; omega
  have hB : A = B := by
    have := hfn.l
    have hza : ∀ l : List Ar, (l.map Ar.z).map Az.a = l := fun l => by
      rw [List.map_map]
      exact (List.map_congr_left (g := id) fun a _ => by cases a; rfl).trans (List.map_id l)
    rw [← hza A, this, hza B]
  subst hN hB
  have HC : Hid (∀ (_ : True), Calls Try.prog 17 #[.int .i64 (n : Int), .slice ao A.length cap] w fun e w' => e = .returned (.int .i64 0) ∧ Keep [] w w') := fun _ => by
    have := refused_any (n : Int) (.slice ao A.length cap) (A.map Ar.z) w h.z
    rwa [hf] at this
  have HG : Hid (∀ w', Keep [] w w' → Calls Try.prog 18 #[.int .i64 (n : Int), .slice ao A.length cap] w' fun e w2 => ∃ va vf, e = .returned (.agg #[va, vf]) ∧ GphR w' w2 va vf n A) := fun w' k => graphOf_any n _ A w' (h.keep k (Off.nil _)) hfn.small.2 hfn.small.1 hfn.node
  clear h hf
  go_enter Try.func8, Try.ntmps8
  go_wp2_with fail
  refine (HC.out trivial).mono ?_
  rintro e w1 ⟨rfl, k1⟩
  have HK : Hid (Keep [] w w1) := k1
  clear k1 HC
  go_wp2_with fail
  refine (HG.out _ HK.out).mono ?_
  rintro e w2 ⟨va, vf, rfl, A2, F2, p1, p2, p3, p4, p5⟩
  have HP : Hid (∀ (_ : True), Calls Try.prog 19 #[.agg #[va, vf]] w2 fun e w' => ∃ v, e = .returned v ∧ PaR w2 w' v n A2) := fun _ => parts_own va vf n A2 F2 w2 p1 (fun x hx => (p2 x hx).2) (fun x hx => (p3 x hx).2)
  have HE : Hid (∀ w' v, PaR w2 w' v n A2 → PaR w w' v n A) := fun w' v ⟨g, p, e1, e2, e3, e4, e5⟩ => by
    have kk := HK.out.trans' p5
    rw [Ec.same p4] at e4
    exact ⟨g, p, e1, by have := kk.size; omega, e3, e4, kk.trans' e5⟩
  clear p1 p2 p3 p4 p5 HG
  go_wp2_with fail
  refine (HP.out trivial).mono ?_
  rintro e w3 ⟨v3, rfl, h3⟩
  have H3 : Hid (PaR w w3 v3 n A) := HE.out _ _ h3
  obtain ⟨g3, p3, rfl, -⟩ := h3
  clear HP HE
  go_wp2
  go_ret2
  exact ⟨_, rfl, H3.out⟩
end Go.Proofs.Ytmlpkjeaieljfab

/- The calls that all may make: Ring. -/
namespace Go.Proofs.Ytmlpkjeaieljfab
open Go.RowKit Go.PlainAid Go.Sort

set_option maxRecDepth 1000000 in
set_option maxHeartbeats 1000000 in
theorem nodesWhere_keep (n fp : Nat) (cb : Array Value) (p : Nat → Bool) (w : World) (hn : n ≤ 100000) (enters : ∀ args w, (callFunc fp args).run Try.prog w = .ok (.enter fp args) w) (hP : ∀ k w', k < n → Keep [] w w' → Calls Try.prog fp (#[.int .i64 (k : Int)] ++ cb) w' fun e w2 => e = .returned (.bool (p k)) ∧ Keep [] w' w2) :
    Calls Try.prog 25 #[.int .i64 (n : Int), .func (.func fp) #[] cb] w fun e w' => ∃ v, e = .returned v ∧ Nw w w' v ((List.range n).filter p) := by
  have HP : Hid (∀ k w', k < n → Keep [] w w' → Calls Try.prog fp (#[.int .i64 (k : Int)] ++ cb) w' fun e w2 => e = .returned (.bool (p k)) ∧ Keep [] w' w2) := hP
  clear hP
  go_enter Try.func25, Try.ntmps25
  go_wp2
  go_loopw [5, 8] (fun lv iv wr => ∃ i : Nat, iv = .int .i64 (i : Int) ∧ i ≤ n ∧ Hid (Nw w wr lv ((List.range i).filter p))) (fun _ iv _ => n - (intOf iv).toNat)
  case atStart => exact ⟨0, rfl, Nat.zero_le _, Rw.nil 3 encN 1 w, fun x hx => by simp [Value.ownBlock] at hx, Keep.refl _ _⟩
  case round =>
    obtain ⟨i, rfl, hi, HN⟩ := hrel
    by_cases hlt : i < n
    · have hlti : (i : Int) < (n : Int) := by omega
      have HC : Hid (∀ (_ : True), Calls Try.prog fp (#[.int .i64 (i : Int)] ++ cb) wr fun e w2 => e = .returned (.bool (p i)) ∧ Keep [] wr w2) := fun _ => HP.out i wr hlt HN.out.keep
      have HL : Hid (((List.range i).filter p).length ≤ i) := by show _ ≤ _; have := List.length_filter_le p (List.range i); simpa using this
      have hsn : Hid ((List.range (i + 1)).filter p = (List.range i).filter p ++ if p i then [i] else []) := by
        show _ = _
        rw [List.range_succ, List.filter_append]
        cases hpi : p i <;> simp [hpi]
      generalize (List.range i).filter p = l at HN HL hsn
      go_wp2_with fail
      refine (HC.out trivial).mono ?_
      rintro e w1 ⟨rfl, hw⟩
      have HN1 : Hid (Nw w w1 u5 l) := HN.out.step hw
      clear HN hw
      cases hpi : p i with
      | true =>
        have hal : Hid ((l.length + 1) * 8 ≤ 140737488355328 ∧ l.length + 1 ≤ maxLen) := by
          have := HL.out
          refine ⟨by omega, ?_⟩
          unfold maxLen; omega
        have HR : Hid (RowC (w1.alloc (.cells #[.int .i64 (i : Int)] 3 (0, 0))) 3 1 u5 l.length (l.flatMap encN)) := RowC.keep HN1.out.row (Keep.alloc1 w1 _) (Off.nil _)
        have HS : Hid _ := src_nat w1 i
        rw [hpi, if_pos rfl] at hsn
        clear hpi HC HP
        go_wp2_with (at_builtin; refine wp_appC infoI rfl rfl (.tmp 14) (.tmp 16) 28 28 rfl Try.underlying28 _ l.length (l.flatMap encN) rfl HR.out _ 1 _ rfl HS.out hal.out.1 hal.out.2 ?_)
        intro v9 w9 R9 K9 F9 S9 _
        have H9 : Hid (Nw w w9 v9 (l ++ [i])) := HN1.out.push R9 K9 F9
        clear R9 K9 F9 HR HS HN1
        rw [← hsn.out] at H9
        go_wp2
        go_roundw
        case rel => exact ⟨i + 1, by go_num, by omega, H9⟩
        case measure => simp [intOf]; omega
      | false =>
        rw [hpi] at hsn
        have H9 : Hid (Nw w w1 u5 l) := HN1
        have hs2 : l = (List.range (i + 1)).filter p := by rw [hsn.out]; simp
        rw [hs2] at H9
        clear hpi HC HP HN1 hs2
        go_wp2
        go_roundw
        case rel => exact ⟨i + 1, by go_num, by omega, H9⟩
        case measure => simp [intOf]; omega
    · have hlti : ¬ (i : Int) < (n : Int) := by omega
      obtain rfl : i = n := by omega
      clear HP
      go_wp2
      go_ret
      exact ⟨_, rfl, HN.out⟩

theorem badL_app (p : List Nat) (A : List Ar) (a : Ar) : badL p (A ++ [a]) = badF p (badL p A) a := by
  unfold badL
  rw [List.foldl_append]
  rfl
/-- the least one, if there is one -/
theorem badL_spec (p : List Nat) : ∀ (n : Nat) (A : List Ar), A.length = n → (badL p A = -1 ∧ ∀ a ∈ A, ¬ (a.g = true ∧ p.getD a.f 0 = p.getD a.t 0)) ∨ ∃ a ∈ A, (a.g = true ∧ p.getD a.f 0 = p.getD a.t 0) ∧ badL p A = ((p.getD a.f 0 : Nat) : Int) ∧ ∀ b ∈ A, b.g = true → p.getD b.f 0 = p.getD b.t 0 → p.getD a.f 0 ≤ p.getD b.f 0
  | 0, A, h => by
    obtain rfl : A = [] := List.eq_nil_of_length_eq_zero h
    exact .inl ⟨rfl, by simp⟩
  | n + 1, A, h => by
    obtain ⟨B, x, rfl⟩ : ∃ B x, A = B ++ [x] := by
      rcases List.eq_nil_or_concat A with e | ⟨B, x, e⟩
      · rw [e] at h; simp at h
      · exact ⟨B, x, by rw [e, List.concat_eq_append]⟩
    have ih := badL_spec p n B (by simpa using h)
    rw [badL_app]
    by_cases hx : x.g = true ∧ p.getD x.f 0 = p.getD x.t 0
    · rcases ih with ⟨h1, h2⟩ | ⟨a, ha, h1, h2, h3⟩
      · refine .inr ⟨x, by simp, hx, ?_, fun b hb g1 g2 => ?_⟩
        · unfold badF
          rw [if_pos ⟨hx.1, hx.2, .inl h1⟩]
        · rcases List.mem_append.1 hb with e | e
          · exact absurd ⟨g1, g2⟩ (h2 b e)
          · simp at e; subst e; exact Nat.le_refl _
      · by_cases hl : p.getD x.f 0 < p.getD a.f 0
        · refine .inr ⟨x, by simp, hx, ?_, fun b hb g1 g2 => ?_⟩
          · unfold badF
            rw [if_pos ⟨hx.1, hx.2, .inr (by rw [h2]; omega)⟩]
          · rcases List.mem_append.1 hb with e | e
            · have := h3 b e g1 g2; omega
            · simp at e; subst e; exact Nat.le_refl _
        · refine .inr ⟨a, by simp [ha], h1, ?_, fun b hb g1 g2 => ?_⟩
          · unfold badF
            rw [if_neg (by rw [h2]; rintro ⟨_, _, e | e⟩ <;> omega), h2]
          · rcases List.mem_append.1 hb with e | e
            · exact h3 b e g1 g2
            · simp at e; subst e; omega
    · have e0 : badF p (badL p B) x = badL p B := by
        unfold badF
        rw [if_neg (fun h => hx ⟨h.1, h.2.1⟩)]
      rw [e0]
      rcases ih with ⟨h1, h2⟩ | ⟨a, ha, h1, h2, h3⟩
      · refine .inl ⟨h1, fun a ha => ?_⟩
        rcases List.mem_append.1 ha with e | e
        · exact h2 a e
        · simp at e; subst e; exact hx
      · refine .inr ⟨a, by simp [ha], h1, h2, fun b hb g1 g2 => ?_⟩
        rcases List.mem_append.1 hb with e | e
        · exact h3 b e g1 g2
        · simp at e; subst e; exact absurd ⟨g1, g2⟩ hx
theorem badL_same {p : List Nat} {A B : List Ar} (h : ∀ a, a ∈ A ↔ a ∈ B) : badL p A = badL p B := by
  rcases badL_spec p _ A rfl with ⟨h1, h2⟩ | ⟨a, ha, h1, h2, h3⟩
  · rcases badL_spec p _ B rfl with ⟨g1, g2⟩ | ⟨b, hb, g1, g2, g3⟩
    · rw [h1, g1]
    · exact absurd g1 (h2 b ((h b).2 hb))
  · rcases badL_spec p _ B rfl with ⟨g1, g2⟩ | ⟨b, hb, g1, g2, g3⟩
    · exact absurd h1 (g2 a ((h a).1 ha))
    · have e1 := h3 b ((h b).2 hb) g1.1 g1.2
      have e2 := g3 a ((h a).1 ha) h1.1 h1.2
      rw [h2, g2]
      omega

set_option maxRecDepth 1000000 in
theorem inBad_any (b8 b9 gp n k : Nat) (bad : Int) (p : List Nat) (w : World) (hb : w.cell? ⟨b8, 0, none⟩ = some (.slice (some ⟨gp, 0, none⟩) n n)) (hc : w.cell? ⟨b9, 0, none⟩ = some (.int .i64 bad)) (hp : Arr 3 eN w gp n p) (hk : k < n) :
    Calls Try.prog 26 #[.int .i64 (k : Int), .pointer (some ⟨b8, 0, none⟩), .pointer (some ⟨b9, 0, none⟩)] w fun e w' => e = .returned (.bool (decide (((p.getD k 0 : Nat) : Int) = bad))) ∧ Keep [] w w' := by
  have hki : (k : Int) < (n : Int) := by omega
  obtain ⟨x, hx⟩ : ∃ x : Nat, x = p.getD k 0 := ⟨_, rfl⟩
  have c0 : w.cell? ⟨gp, k, none⟩ = some (.int .i64 (x : Int)) := by rw [hx]; exact hp.cell 0 k hk
  rw [← hx]
  clear hx hp
  go_enter Try.func26, Try.ntmps26
  go_wp2
  go_quiet (fail)
  go_wp2
  go_ret
  exact ⟨by simp; rfl, (Keep.refl [] w).drewN _⟩
end Go.Proofs.Ytmlpkjeaieljfab

/- The calls that all may make: Ring. -/
namespace Go.Proofs.Ytmlpkjeaieljfab
open Go.RowKit Go.PlainAid Go.Sort

theorem ring_no (n : Int) (v : Value) (l : List Az) (w : World) (h : Rd encZ 3 w v l) (hf : faultZ n l ≠ 0) :
    Calls Try.prog 14 #[.int .i64 n, v] w fun e w' => e = .returned (.tuple #[.slice none 0 0, .int .i64 (faultZ n l)]) ∧ Keep [] w w' := by
  have HC : Hid (∀ (_ : True), Calls Try.prog 17 #[.int .i64 n, v] w fun e w' => e = .returned (.int .i64 (faultZ n l)) ∧ Keep [] w w') := fun _ => refused_any n v l w h
  generalize faultZ n l = f at HC hf
  have hq : (f != 0) = true := by simpa using hf
  clear h
  go_enter Try.func14, Try.ntmps14
  go_wp2_with fail
  refine (HC.out trivial).mono ?_
  rintro e w1 ⟨rfl, k1⟩
  have HK : Hid (Keep [] w w1) := k1
  clear k1 HC hf
  go_wp2
  go_ret2
  exact ⟨rfl, HK.out⟩

/-- what Ring answers -/
def RiR (w w' : World) (v : Value) (n : Nat) (A : List Ar) : Prop := ∃ p : List Nat, (Numbered (Ec A) n (fun x => p.getD x 0) ∧ ∀ x, x < n → p.getD x 0 < n) ∧ Nw w w' v ((List.range n).filter (fun k => decide (((p.getD k 0 : Nat) : Int) = badL p A)))

set_option maxRecDepth 1000000 in
set_option maxHeartbeats 1000000 in
theorem ring_yes (n : Nat) (v : Value) (A : List Ar) (w : World) (h : Rd encA 3 w v A) (hf : faultZ (n : Int) (A.map Ar.z) = 0) :
    Calls Try.prog 14 #[.int .i64 (n : Int), v] w fun e w' => ∃ v', e = .returned (.tuple #[v', .int .i64 0]) ∧ RiR w w' v' n A := by
  have hmf : ∀ (fn : Fn) (first cap : Array Value) (w : World), (Instr.makeFunc fn first cap).run Try.prog w = .ok (.func fn first cap) w := fun _ _ _ _ => rfl
  obtain ⟨ao, cap, rfl, -, -⟩ := h.form
  obtain ⟨N, B, hfn⟩ := fine_of hf
  have hN : n = N := by have := hfn.n; omega
  have hB : A = B := by
    have := hfn.l
    have hza : ∀ l : List Ar, (l.map Ar.z).map Az.a = l := fun l => by
      rw [List.map_map]
      exact (List.map_congr_left (g := id) fun a _ => by cases a; rfl).trans (List.map_id l)
    rw [← hza A, this, hza B]
  subst hN hB
  have hn := hfn.small.1
  have HC : Hid (∀ (_ : True), Calls Try.prog 17 #[.int .i64 (n : Int), .slice ao A.length cap] w fun e w' => e = .returned (.int .i64 0) ∧ Keep [] w w') := fun _ => by
    have := refused_any (n : Int) (.slice ao A.length cap) (A.map Ar.z) w h.z
    rwa [hf] at this
  have HG : Hid (∀ w', Keep [] w w' → Calls Try.prog 18 #[.int .i64 (n : Int), .slice ao A.length cap] w' fun e w2 => ∃ va vf, e = .returned (.agg #[va, vf]) ∧ GphR w' w2 va vf n A) := fun w' k => graphOf_any n _ A w' (h.keep k (Off.nil _)) hfn.small.2 hfn.small.1 hfn.node
  clear h hf hfn
  go_enter Try.func14, Try.ntmps14
  go_wp2_with fail
  refine (HC.out trivial).mono ?_
  rintro e w1 ⟨rfl, k1⟩
  have HK : Hid (Keep [] w w1) := k1
  clear k1 HC
  go_wp2_with fail
  refine (HG.out _ HK.out).mono ?_
  rintro e w2 ⟨va, vf, rfl, A2, F2, p1, p2, p3, p4, p5⟩
  obtain ⟨a1, c1, rfl, -, -⟩ := p1.arcs.form
  obtain ⟨b2, o2, c2, rfl, -, -, -, -⟩ := p1.firstLen
  have HP : Hid (∀ w', Keep [] w2 w' → Calls Try.prog 19 #[.agg #[.slice a1 A2.length c1, .slice (some ⟨b2, o2, none⟩) (n + 1) c2]] w' fun e w3 => ∃ v, e = .returned v ∧ PaR w' w3 v n A2) := fun w' k => parts_own _ _ n A2 F2 w' (p1.keep k (Off.nil _) (Off.nil _)) (fun x hx => Nat.lt_of_lt_of_le (p2 x hx).2 k.size) (fun x hx => Nat.lt_of_lt_of_le (p3 x hx).2 k.size)
  have HBd : Hid (∀ w' gp p, Keep [] w2 w' → Arr 3 eN w' gp n p → Calls Try.prog 20 #[.agg #[.slice a1 A2.length c1, .slice (some ⟨b2, o2, none⟩) (n + 1) c2], .slice (some ⟨gp, 0, none⟩) n n] w' fun e w3 => e = .returned (.int .i64 (badL p A2)) ∧ Keep [] w' w3) := fun w' gp p k hp => badPart_any _ _ n gp A2 F2 p w' (p1.keep k (Off.nil _) (Off.nil _)) hp
  have H2 : Hid (Keep [] w w2 ∧ ∀ a, a ∈ A2 ↔ a ∈ A) := ⟨HK.out.trans' p5, p4⟩
  obtain ⟨b7, HB7⟩ : ∃ b7 : Nat, Hid (b7 = w2.heap.size) := ⟨_, show _ = _ from rfl⟩
  clear p1 p2 p3 p4 p5 HG
  go_wp2_with fail
  rw [← HB7.out]
  refine (HP.out _ (Keep.alloc1 w2 _)).mono ?_
  rintro e w3 ⟨v3, rfl, gp, p, rfl, q1, q2, q3, q4⟩
  have hb0 := heap_alloc_new w2 (.cells #[.slice a1 A2.length c1, .slice (some ⟨b2, o2, none⟩) (n + 1) c2] 45)
  rw [← HB7.out] at hb0
  have d0 : w3.cell? ⟨b7, 0, none⟩ = some (.slice a1 A2.length c1) := q4.cell' (by simp only [World.cell?, hb0]; rfl) (by simp)
  have d1 : w3.cell? ⟨b7, 1, none⟩ = some (.slice (some ⟨b2, o2, none⟩) (n + 1) c2) := q4.cell' (by simp only [World.cell?, hb0]; rfl) (by simp)
  have hl3 : b7 < w3.heap.size := World.block_lt_of_cell? _ _ d0
  have H3 : Hid (Arr 3 eN w3 gp n p ∧ (Numbered (Ec A2) n (fun x => p.getD x 0) ∧ ∀ x, x < n → p.getD x 0 < n) ∧ Keep [] w2 w3) := ⟨q2, q3, (Keep.alloc1 w2 _).trans' q4⟩
  obtain ⟨b8, HB8⟩ : ∃ b8 : Nat, Hid (b8 = w3.heap.size) := ⟨_, show _ = _ from rfl⟩
  clear q1 q2 q3 q4 hb0 HP
  have HB5 : Hid (∀ o, Calls Try.prog 20 #[.agg #[.slice a1 A2.length c1, .slice (some ⟨b2, o2, none⟩) (n + 1) c2], .slice (some ⟨gp, 0, none⟩) n n] (w3.alloc o) fun e w4 => e = .returned (.int .i64 (badL p A2)) ∧ Keep [] (w3.alloc o) w4) := fun o => HBd.out _ gp p (H3.out.2.2.alloc o) (H3.out.1.keep (Keep.alloc1 w3 o) (by simp))
  clear HBd
  go_wp2_with fail
  refine (HB5.out _).mono ?_
  rintro e w4 ⟨rfl, k4⟩
  have e0 : w4.cell? ⟨b8, 0, none⟩ = some (.slice (some ⟨gp, 0, none⟩) n n) := by
    have hb := heap_alloc_new w3 (.cells #[.slice (some ⟨gp, 0, none⟩) n n] 28)
    rw [← HB8.out] at hb
    exact k4.cell' (by simp only [World.cell?, hb]; rfl) (by simp)
  obtain ⟨b9, HB9⟩ : ∃ b9 : Nat, Hid (b9 = w4.heap.size) := ⟨_, show _ = _ from rfl⟩
  have H4 : Hid (w4.cell? ⟨b8, 0, none⟩ = some (.slice (some ⟨gp, 0, none⟩) n n) ∧ Keep [] w3 w4) := ⟨e0, (Keep.alloc1 w3 _).trans' k4⟩
  clear k4 HB5 e0 d0 d1
  obtain ⟨bad, HBA⟩ : ∃ bad : Int, Hid (bad = badL p A2) := ⟨_, show _ = _ from rfl⟩
  have HW : Hid (∀ (_ : True), Calls Try.prog 25 #[.int .i64 (n : Int), .func (.func 26) #[] #[.pointer (some ⟨b8, 0, none⟩), .pointer (some ⟨b9, 0, none⟩)]] (w4.alloc (.cells #[.int .i64 bad] 3)) fun e w' => ∃ v, e = .returned v ∧ Nw (w4.alloc (.cells #[.int .i64 bad] 3)) w' v ((List.range n).filter (fun k => decide (((p.getD k 0 : Nat) : Int) = bad)))) := fun _ => by
    have hb := heap_alloc_new w4 (.cells #[.int .i64 bad] 3)
    rw [← HB9.out] at hb
    refine nodesWhere_keep n 26 _ (fun k => decide (((p.getD k 0 : Nat) : Int) = bad)) _ (by omega) (enters_of Try.func26 (by kernel_rfl) rfl) (fun k w' hk kk => ?_)
    have k5 := (Keep.alloc1 w4 (.cells #[.int .i64 bad] 3)).trans' kk
    exact inBad_any b8 b9 gp n k bad p w' (k5.cell' H4.out.1 (by simp)) (kk.cell' (by simp only [World.cell?, hb]; rfl) (by simp)) ((H3.out.1.keep H4.out.2 (by simp)).keep k5 (by simp)) hk
  rw [← HBA.out, ← HB8.out]
  go_wp2_with fail
  rw [← HB9.out]
  refine (HW.out trivial).mono ?_
  rintro e w5 ⟨v5, rfl, nw⟩
  have HE : Hid (RiR w w5 v5 n A) := by
    have kk := (H2.out.1.trans' H3.out.2.2).trans' H4.out.2
    have hne := H3.out.2.1
    rw [Ec.same H2.out.2] at hne
    refine ⟨p, hne, ?_⟩
    rw [← badL_same H2.out.2, ← HBA.out]
    exact ⟨nw.row, fun x hx => by have := nw.new x hx; have := kk.size; simp at *; omega, (kk.alloc _).trans' nw.keep⟩
  obtain ⟨a5, c5, rfl, -, -⟩ := (nw.row.rd encN_len).form
  clear nw HW
  go_wp2
  go_ret2
  exact ⟨_, rfl, HE.out⟩
end Go.Proofs.Ytmlpkjeaieljfab

/- The calls that all may make: Reach. -/
namespace Go.Proofs.Ytmlpkjeaieljfab
open Go.RowKit Go.PlainAid Go.Sort

theorem reach_no (n : Int) (v u : Value) (l : List Az) (w : World) (h : Rd encZ 3 w v l) (hf : faultZ n l ≠ 0) :
    Calls Try.prog 11 #[.int .i64 n, v, u] w fun e w' => e = .returned (.tuple #[.slice none 0 0, .int .i64 (faultZ n l)]) ∧ Keep [] w w' := by
  have HC : Hid (∀ (_ : True), Calls Try.prog 17 #[.int .i64 n, v] w fun e w' => e = .returned (.int .i64 (faultZ n l)) ∧ Keep [] w w') := fun _ => refused_any n v l w h
  generalize faultZ n l = f at HC hf
  have hq : (f != 0) = true := by simpa using hf
  clear h
  go_enter Try.func11, Try.ntmps11
  go_wp2_with fail
  refine (HC.out trivial).mono ?_
  rintro e w1 ⟨rfl, k1⟩
  have HK : Hid (Keep [] w w1) := k1
  clear k1 HC hf
  go_wp2
  go_ret2
  exact ⟨rfl, HK.out⟩

theorem Rd.nats {w : World} {v : Value} {L : List Int} (h : Rd encI 1 w v L) (hp : ∀ x ∈ L, 0 ≤ x) : Rd encN 1 w v (L.map Int.toNat) := by
  obtain ⟨ao, cap, rfl, h1, h2, h3, h4⟩ := h.ex
  refine ⟨ao, cap, by rw [List.length_map], by rw [List.length_map]; exact h1, h2, h3, fun hl => ?_⟩
  obtain ⟨b, o, rfl, hb, hc⟩ := h4 (by simpa using hl)
  refine ⟨b, o, rfl, hb, fun j hj i hi => ?_⟩
  have hj' : j < L.length := by simpa using hj
  obtain rfl : i = 0 := by omega
  rw [hc j hj' 0 (by omega), List.getElem_map]
  have := hp _ (List.getElem_mem hj')
  simp only [encI, encN, eN]
  rw [Int.toNat_of_nonneg this]

/-- what Reach answers -/
def RcR (w w' : World) (n : Nat) (A : List Ar) (L : List Int) (e : Ending) : Prop :=
  if L.all (nodeB (n : Int)) = true then ∃ v' m, e = .returned (.tuple #[v', .int .i64 0]) ∧ Nw w w' v' ((List.range n).filter fun k => m.getD k false) ∧ ∀ x, Mk m x ↔ ∃ k ∈ L, Rch (Ec A) k.toNat x
  else e = .returned (.tuple #[.slice none 0 0, .int .i64 80]) ∧ Keep [] w w'

set_option maxRecDepth 1000000 in
set_option maxHeartbeats 2000000 in
theorem reach_yes (n : Nat) (v u : Value) (A : List Ar) (L : List Int) (w : World) (h : Rd encA 3 w v A) (hf : faultZ (n : Int) (A.map Ar.z) = 0) (hL : Rd encI 1 w u L) (hu : ∀ x, u.ownBlock = some x → x < w.heap.size) :
    Calls Try.prog 11 #[.int .i64 (n : Int), v, u] w fun e w' => RcR w w' n A L e := by
  obtain ⟨ao, cap, rfl, -, -⟩ := h.form
  obtain ⟨uo, ucap, rfl, hu1, hu2⟩ := hL.form
  obtain ⟨N, B, hfn⟩ := fine_of hf
  have hN : n = N := by have := hfn.n; omega
  have hB : A = B := by
    have := hfn.l
    have hza : ∀ l : List Ar, (l.map Ar.z).map Az.a = l := fun l => by
      rw [List.map_map]
      exact (List.map_congr_left (g := id) fun a _ => by cases a; rfl).trans (List.map_id l)
    rw [← hza A, this, hza B]
  subst hN hB
  have hn := hfn.small.1
  have HC : Hid (∀ (_ : True), Calls Try.prog 17 #[.int .i64 (n : Int), .slice ao A.length cap] w fun e w' => e = .returned (.int .i64 0) ∧ Keep [] w w') := fun _ => by
    have := refused_any (n : Int) (.slice ao A.length cap) (A.map Ar.z) w h.z
    rwa [hf] at this
  have HG : Hid (∀ w', Keep [] w w' → Calls Try.prog 18 #[.int .i64 (n : Int), .slice ao A.length cap] w' fun e w2 => ∃ va vf, e = .returned (.agg #[va, vf]) ∧ GphR w' w2 va vf n A) := fun w' k => graphOf_any n _ A w' (h.keep k (Off.nil _)) hfn.small.2 hfn.small.1 hfn.node
  have HL : Hid (Rd encI 1 w (.slice uo L.length ucap) L ∧ ∀ x, (Value.slice uo L.length ucap).ownBlock = some x → x < w.heap.size) := ⟨hL, hu⟩
  have HI : Hid (∀ k w, Calls Try.prog 22 #[.int .i64 (n : Int), .int .i64 k] w fun e w' => e = .returned (.bool (nodeB (n : Int) k)) ∧ w' = w) := isNode_any (n : Int)
  clear h hf hfn hL hu
  go_enter Try.func11, Try.ntmps11
  go_wp2_with fail
  refine (HC.out trivial).mono ?_
  rintro e w1 ⟨rfl, k1⟩
  have HK : Hid (Keep [] w w1) := k1
  clear k1 HC
  go_wp2
  go_loopw [19] (fun iv wr => ∃ i : Nat, iv = .int .i64 (i : Int) ∧ i ≤ L.length ∧ Hid (Keep [] w wr ∧ ∀ j (hj : j < L.length), j < i → nodeB (n : Int) L[j] = true)) (fun iv _ => L.length - (intOf iv).toNat)
  case atStart => exact ⟨0, rfl, Nat.zero_le _, HK.out, fun j _ hj => by omega⟩
  case round =>
    clear HK
    obtain ⟨i, rfl, hi, HJ⟩ := hrel
    by_cases hlt : i < L.length
    · have hlti : (i : Int) < (L.length : Int) := by omega
      obtain ⟨b, o, c, he, hb, c0⟩ := (HL.out.1.keep HJ.out.1 (Off.nil _)).int i hlt
      simp at he
      obtain ⟨rfl, rfl⟩ := he
      obtain ⟨x, hx⟩ : ∃ x : Int, x = L[i] := ⟨_, rfl⟩
      rw [← hx] at c0
      by_cases hxn : nodeB (n : Int) x = true
      · have HJ2 : Hid (Keep [] w wr ∧ ∀ j (hj : j < L.length), j < i + 1 → nodeB (n : Int) L[j] = true) := ⟨HJ.out.1, fun j hj hji => by
          by_cases e : j = i
          · subst e; rw [← hx]; exact hxn
          · exact HJ.out.2 j hj (by omega)⟩
        clear HJ hx
        go_wp2_with (go_at_call 22; refine (HI.out x _).mono ?_; rintro e w' ⟨rfl, rfl⟩)
        go_roundw
        case rel => exact ⟨i + 1, by go_num, by omega, HJ2⟩
        case measure => simp [intOf]; omega
      · have hxf : nodeB (n : Int) x = false := by simpa using hxn
        have HE : Hid (RcR w wr n A L (.returned (.tuple #[.slice none 0 0, .int .i64 80]))) := by
          unfold RcR
          rw [if_neg (fun hall => hxn (by rw [hx]; exact List.all_eq_true.1 hall _ (List.getElem_mem hlt)))]
          exact ⟨rfl, HJ.out.1⟩
        clear HJ hx hxn
        go_wp2_with (go_at_call 22; refine (HI.out x _).mono ?_; rintro e w' ⟨rfl, rfl⟩)
        go_ret2
        exact HE.out
    · have hlti : ¬ (i : Int) < (L.length : Int) := by omega
      have hall : L.all (nodeB (n : Int)) = true := List.all_eq_true.2 fun x hx => by
        obtain ⟨j, hj, rfl⟩ := List.mem_iff_getElem.1 hx
        exact HJ.out.2 j hj (by omega)
      have HA : Hid (∀ x ∈ L, 0 ≤ x ∧ x < (n : Int)) := fun x hx => by
        have := List.all_eq_true.1 hall x hx
        simpa [nodeB] using this
      have HAll : Hid (L.all (nodeB (n : Int)) = true) := hall
      have HK : Hid (Keep [] w wr) := HJ.out.1
      clear HJ hall
      go_wp2_with fail
      refine (HG.out _ HK.out).mono ?_
      rintro e w2 ⟨va, vf, rfl, A2, F2, p1, p2, p3, p4, p5⟩
      have HR : Hid (∀ (_ : True), Calls Try.prog 23 #[.agg #[va, vf], .slice uo L.length ucap] w2 fun e w' => ∃ v' m, e = .returned v' ∧ Nw w2 w' v' ((List.range n).filter fun k => m.getD k false) ∧ ∀ x, Mk m x ↔ ∃ k ∈ L.map Int.toNat, Rch (Ec A2) k x) := fun _ => by
        have kk := HK.out.trans' p5
        refine reached_own va vf n A2 F2 _ (L.map Int.toNat) w2 p1 (fun x hx => (p2 x hx).2) (fun x hx => (p3 x hx).2) (fun x hx => Nat.lt_of_lt_of_le (HL.out.2 x hx) kk.size) ((HL.out.1.keep kk (Off.nil _)).nats (fun x hx => (HA.out x hx).1)) (fun k hk => ?_)
        obtain ⟨x, hx, rfl⟩ := List.mem_map.1 hk
        have := HA.out x hx
        omega
      have HE : Hid (∀ w' v' m, Nw w2 w' v' ((List.range n).filter fun k => m.getD k false) → (∀ x, Mk m x ↔ ∃ k ∈ L.map Int.toNat, Rch (Ec A2) k x) → RcR w w' n A L (.returned (.tuple #[v', .int .i64 0]))) := fun w' v' m nw hm => by
        have kk := HK.out.trans' p5
        unfold RcR
        rw [if_pos HAll.out]
        rw [Ec.same p4] at hm
        refine ⟨v', m, rfl, ⟨nw.row, fun x hx => Nat.le_trans kk.size (nw.new x hx), kk.trans' nw.keep⟩, fun x => (hm x).trans ⟨fun ⟨k, hk, h⟩ => ?_, fun ⟨k, hk, h⟩ => ⟨k.toNat, List.mem_map.2 ⟨k, hk, rfl⟩, h⟩⟩⟩
        obtain ⟨y, hy, rfl⟩ := List.mem_map.1 hk
        exact ⟨y, hy, h⟩
      clear p1 p2 p3 p4 p5 HG
      go_wp2_with fail
      refine (HR.out trivial).mono ?_
      rintro e w3 ⟨v3, m, rfl, nw, hm⟩
      have H3 : Hid _ := HE.out _ _ _ nw hm
      obtain ⟨a3, c3, rfl, -, -⟩ := (nw.row.rd encN_len).form
      clear HR HE nw hm
      go_wp2
      go_ret2
      exact H3.out
end Go.Proofs.Ytmlpkjeaieljfab

