/- StrataLeast: the walk. -/
import Derived.Test.YtmlpkjeaieljfaaOrP
namespace Go.Proofs.Ytmlpkjeaieljfaa
open Go.RowKit Go.PlainAid

theorem Numbered.getD_eq {A : List Ar} {n : Nat} {p q : List Nat} (hn : ∀ a ∈ A, a.f < n ∧ a.t < n) (hp : Numbered (Ec A) n (fun x => p.getD x 0)) (hq : Numbered (Ec A) n (fun x => q.getD x 0)) : ∀ x, x < n → q.getD x 0 = p.getD x 0 := fun x hx => hq.uniq (ec_lt hn) hp x hx
theorem NoBad.congr {A : List Ar} {n : Nat} {p q : List Nat} (hn : ∀ a ∈ A, a.f < n ∧ a.t < n) (h : ∀ x, x < n → q.getD x 0 = p.getD x 0) : NoBad A (fun x => q.getD x 0) ↔ NoBad A (fun x => p.getD x 0) := by
  constructor
  · intro hb a ha g e
    exact hb a ha g (by show q.getD a.f 0 = q.getD a.t 0; rw [h _ (hn a ha).1, h _ (hn a ha).2]; exact e)
  · intro hb a ha g e
    have e2 : q.getD a.f 0 = q.getD a.t 0 := e
    rw [h _ (hn a ha).1, h _ (hn a ha).2] at e2
    exact hb a ha g e2
theorem noBad_iff (p : List Nat) (A : List Ar) : NoBad A (fun x => p.getD x 0) ↔ badL p A = -1 := by
  rcases badL_spec p _ A rfl with ⟨h1, h2⟩ | ⟨a, ha, h1, h2, _⟩
  · exact ⟨fun _ => h1, fun _ b hb hg e => h2 b hb ⟨hg, e⟩⟩
  · exact ⟨fun h => absurd h1.2 (h a ha h1.1), fun h => by omega⟩
/-- Strata's answer, by the numbers -/
def StP (w w' : World) (n : Nat) (A : List Ar) (p : List Nat) (e : Ending) : Prop := (NoBad A (fun x => p.getD x 0) ∧ ∃ g s, e = .returned (.tuple #[.slice (some ⟨g, 0, none⟩) n n, .int .i64 0]) ∧ Arr 3 eN w' g n s ∧ Least A n (fun x => s.getD x 0) ∧ Keep [] w w') ∨ (¬ NoBad A (fun x => p.getD x 0) ∧ e = .returned (.tuple #[.slice none 0 0, .int .i64 81]) ∧ Keep [] w w')
theorem strata_p (n : Nat) (v : Value) (A : List Ar) (p : List Nat) (w : World) (h : Rd encA 3 w v A) (hf : faultZ (n : Int) (A.map Ar.z) = 0) (hn : ∀ a ∈ A, a.f < n ∧ a.t < n) (hp : Numbered (Ec A) n (fun x => p.getD x 0)) : Calls Try.prog 16 #[.int .i64 (n : Int), v] w fun e w' => StP w w' n A p e := by
  refine (strata_own levels_own n v A w h hf).mono ?_
  rintro e w' ⟨q, ⟨h4, -⟩, ⟨h5, v', rfl, g, s, rfl, -, h6, h7, h8⟩ | ⟨h5, rfl, h8⟩⟩
  · exact .inl ⟨(NoBad.congr hn (hp.getD_eq hn h4)).1 h5, g, s, rfl, h6, h7, h8⟩
  · exact .inr ⟨fun hb => h5 ((NoBad.congr hn (hp.getD_eq hn h4)).2 hb), rfl, h8⟩
theorem ring_p (n : Nat) (v : Value) (A : List Ar) (p : List Nat) (w : World) (h : Rd encA 3 w v A) (hf : faultZ (n : Int) (A.map Ar.z) = 0) (hn : ∀ a ∈ A, a.f < n ∧ a.t < n) (hp : Numbered (Ec A) n (fun x => p.getD x 0)) : Calls Try.prog 17 #[.int .i64 (n : Int), v] w fun e w' => ∃ v', e = .returned (.tuple #[v', .int .i64 0]) ∧ Nw w w' v' ((List.range n).filter (fun k => decide (((p.getD k 0 : Nat) : Int) = badL p A))) := by
  refine (ring_yes n v A w h hf).mono ?_
  rintro e w' ⟨v', rfl, q, ⟨h4, -⟩, hnw⟩
  refine ⟨v', rfl, ?_⟩
  have hg := hp.getD_eq hn h4
  have : (List.range n).filter (fun k => decide (((p.getD k 0 : Nat) : Int) = badL p A)) = (List.range n).filter (fun k => decide (((q.getD k 0 : Nat) : Int) = badL q A)) := by
    rw [badL_congr hn hg]
    refine List.filter_congr fun x hx => ?_
    rw [hg x (List.mem_range.1 hx)]
  rw [this]
  exact hnw
theorem filt_succ (q : Nat → Bool) (i : Nat) : (List.range (i + 1)).filter q = (List.range i).filter q ++ if q i then [i] else [] := by
  rw [List.range_succ, List.filter_append]
  cases hpi : q i <;> simp [hpi]
theorem filt_at {P : Nat → Bool} {i : Nat} (hP : P i = true) : ∀ n, i < n → ∃ r, (List.range n).filter P = (List.range i).filter P ++ i :: r
  | 0, h => by omega
  | n + 1, h => by
    rw [filt_succ]
    by_cases e : i = n
    · subst e
      rw [hP]
      exact ⟨[], rfl⟩
    · obtain ⟨r, hr⟩ := filt_at hP n (by omega)
      rw [hr]
      exact ⟨r ++ if P n then [n] else [], by simp⟩

/-- what is asked for so far -/
structure Wn (A : List Ar) (n : Nat) (p s : List Nat) (i : Nat) (W : List Nat) : Prop where
  len : W.length = n
  same : ∀ a b, a < n → b < n → p.getD a 0 = p.getD b 0 → W.getD a 0 = W.getD b 0
  le : ∀ a, a < n → W.getD a 0 ≤ s.getD a 0
  up : ∀ a ∈ A.take i, p.getD a.t 0 ≠ p.getD a.f 0 → s.getD a.t 0 + ngN a.g ≤ W.getD a.f 0
theorem Wn.skip {A : List Ar} {n : Nat} {p s : List Nat} {i : Nat} {W : List Nat} (h : Wn A n p s i W) (hi : i < A.length) (he : p.getD A[i].t 0 = p.getD A[i].f 0) : Wn A n p s (i + 1) W := by
  refine ⟨h.len, h.same, h.le, fun a ha hne => ?_⟩
  rw [List.take_succ_eq_append_getElem hi] at ha
  rcases List.mem_append.1 ha with h3 | h3
  · exact h.up a h3 hne
  · simp at h3; subst h3; exact absurd he hne
theorem Wn.take {A : List Ar} {n : Nat} {p s : List Nat} {i : Nat} {W W' : List Nat} (h : Wn A n p s i W) (hi : i < A.length) (hn : ∀ a ∈ A, a.f < n ∧ a.t < n) (hp : Numbered (Ec A) n (fun x => p.getD x 0)) (hs : Least A n (fun x => s.getD x 0)) (hl : W'.length = n)
    (hw : ∀ a, a < n → W'.getD a 0 = if p.getD a 0 = p.getD A[i].f 0 then max (W.getD a 0) (s.getD A[i].t 0 + ngN A[i].g) else W.getD a 0) : Wn A n p s (i + 1) W' := by
  have hm := List.getElem_mem hi
  have hnd := hn _ hm
  refine ⟨hl, fun a b ha hb e => ?_, fun a ha => ?_, fun a ha hne => ?_⟩
  · rw [hw a ha, hw b hb, e, h.same a b ha hb e]
  · rw [hw a ha]
    split
    · rename_i e
      have h1 := h.le a ha
      have h2 := hs.sol A[i] hm
      have h3 : Mut (Ec A) a A[i].f := (hp.same a A[i].f ha hnd.1).1 e
      have h4 := hs.sol.rch h3.1
      exact Nat.max_le.2 ⟨h1, by omega⟩
    · exact h.le a ha
  · rw [List.take_succ_eq_append_getElem hi] at ha
    rcases List.mem_append.1 ha with h3 | h3
    · have hf := (hn a (List.mem_of_mem_take h3)).1
      have := h.up a h3 hne
      rw [hw _ hf]
      split
      · exact Nat.le_trans this (Nat.le_max_left _ _)
      · exact this
    · simp at h3; subst h3
      rw [hw _ hnd.1, if_pos rfl]
      exact Nat.le_max_right _ _
theorem Wn.done {A : List Ar} {n : Nat} {p s W : List Nat} (h : Wn A n p s A.length W) (hn : ∀ a ∈ A, a.f < n ∧ a.t < n) (hb : NoBad A (fun x => p.getD x 0)) (hs : Least A n (fun x => s.getD x 0)) (hl : s.length = n) : s = W := by
  refine list_getD (n := n) hl h.len (fun x hx => Nat.le_antisymm ?_ (h.le x hx))
  refine hs.least (fun x => W.getD x 0) (fun a ha => ?_) x hx
  have hnd := hn a ha
  by_cases e : p.getD a.t 0 = p.getD a.f 0
  · have : ngN a.g = 0 := by
      unfold ngN
      split
      · rename_i hg
        exact absurd e.symm (hb a ha hg)
      · rfl
    simp only [this, Nat.add_zero]
    exact Nat.le_of_eq (h.same _ _ hnd.2 hnd.1 e)
  · have h1 := h.up a (by rw [List.take_of_length_le (Nat.le_refl _)]; exact ha) e
    have h2 := h.le a.t hnd.2
    simp only
    omega

/-- while it is asked for -/
structure Lw2 (w : World) (gw : Nat) (va : Value) (n g gs : Nat) (A : List Ar) (p s W : List Nat) (wr : World) : Prop where
  og : Og w wr va n g A p
  sarr : Arr 3 eN wr gs n s
  warr : Arr 3 eN wr gw n W
  ord : g < gw ∧ w.heap.size ≤ gw
  sne : ∀ x, x = gs → x < gw
theorem Lw2.step {w : World} {gw : Nat} {va : Value} {n g gs : Nat} {A : List Ar} {p s W : List Nat} {wr w' : World} (h : Lw2 w gw va n g gs A p s W wr) (k : Keep [] wr w') : Lw2 w gw va n g gs A p s W w' := ⟨h.og.step k, h.sarr.keep k (by simp), h.warr.keep k (by simp), h.ord, h.sne⟩
theorem Lw2.put {w : World} {gw : Nat} {va : Value} {n g gs : Nat} {A : List Ar} {p s W : List Nat} {wr : World} (h : Lw2 w gw va n g gs A p s W wr) (a z : Nat) (hoff : Off va [gw]) : Lw2 w gw va n g gs A p s (W.set a z) (wr.setCell ⟨gw, a, none⟩ (.int .i64 (z : Int))) := by
  have k : Keep [gw] wr (wr.setCell ⟨gw, a, none⟩ (.int .i64 (z : Int))) := Keep.set1 wr ⟨gw, a, none⟩ _
  have h1 := h.ord
  have h2 := h.sne gs rfl
  exact ⟨⟨h.og.arcs.keep k hoff, h.og.parr.keep k (by simp; omega), h.og.keep.more k (fun x hx => .inr (by simp at hx; omega))⟩, h.sarr.keep k (by simp; omega), h.warr.put a z, h.ord, h.sne⟩

set_option maxRecDepth 1000000 in
set_option maxHeartbeats 16000000 in
theorem least_law (n : Int) (va : Value) (l : List Az) (w : World) (h : Rd encZ 3 w va l) (hn : -9223372036854775808 ≤ n ∧ n ≤ 9223372036854775807) (hl : ∀ x ∈ l, (-9223372036854775808 ≤ x.f ∧ x.f ≤ 9223372036854775807) ∧ (-9223372036854775808 ≤ x.t ∧ x.t ≤ 9223372036854775807)) :
    Calls Try.prog 8 #[.int .i64 n, va] w fun e w' => e = .returned (.bool true) ∧ Keep [] w w' := by
  obtain ⟨ao, cap, rfl⟩ := h.form'
  have HFi : Hid (∀ w', Keep [] w w' → Calls Try.prog 24 #[.int .i64 n, .slice ao l.length cap] w' fun e w2 => ∃ v', e = .returned (.tuple #[.int .i64 (fitN n : Int), v']) ∧ Ow 36 encA 3 w' w2 v' (fitA n l)) := fun w' k => fit_any n _ l w' (h.keep k (Off.nil _)) hn hl
  have hN := fitN_lt n
  have HA : Hid ((∀ a ∈ fitA n l, a.f < fitN n ∧ a.t < fitN n) ∧ (fitA n l).length ≤ 400) := ⟨fitA_node n l, fitA_len n l⟩
  generalize fitN n = N at HFi HA hN
  generalize fitA n l = A at HFi HA
  clear h hl hn
  go_enter Try.func8, Try.ntmps8
  go_wp2_with fail
  refine (awake_any _).mono ?_
  rintro e w1 ⟨rfl, k1⟩
  have HK1 : Hid (Keep [] w w1) := k1
  clear k1
  go_wp2_with fail
  refine (HFi.out _ HK1.out).mono ?_
  rintro e w2 ⟨v2, rfl, o2⟩
  obtain ⟨a2, c2, rfl, hc1, hc2⟩ := (o2.row.rd encA_len).form
  have H2 : Hid (Rd encA 3 w2 (.slice a2 A.length c2) A ∧ Keep [] w w2) := ⟨o2.row.rd encA_len, HK1.out.trans' o2.keep⟩
  clear o2 HFi HK1
  have hA4 : A.length ≤ 400 := HA.out.2
  have HFt : Hid (faultZ (N : Int) (A.map Ar.z) = 0) := fault_small (by omega) (by omega) HA.out.1
  go_wp2_with fail
  refine (copyA_own _ A _ H2.out.1 (by omega)).mono ?_
  rintro e w3 ⟨v3, rfl, r3, k3⟩
  have H3 : Hid (Rd encA 3 w3 v3 A ∧ Rd encA 3 w3 (.slice a2 A.length c2) A ∧ Keep [] w w3) := ⟨r3, H2.out.1.keep k3 (Off.nil _), H2.out.2.trans' k3⟩
  clear r3 k3 H2
  go_wp2_with fail
  refine (parts_yes N _ A _ H3.out.1 HFt.out).mono ?_
  rintro e w4 ⟨v4, rfl, g, p, rfl, q1, q2, ⟨q3, q4⟩, q5⟩
  have H4 : Hid (Og w w4 (.slice a2 A.length c2) N g A p) := ⟨H3.out.2.1.keep q5 (Off.nil _), q2, H3.out.2.2.trans' q5⟩
  have HP : Hid (Numbered (Ec A) N (fun x => p.getD x 0) ∧ ∀ x, x < N → p.getD x 0 < N) := ⟨q3, q4⟩
  clear q1 q2 q3 q4 q5 H3
  go_wp2_with fail
  refine (copyA_own _ A _ H4.out.arcs (by omega)).mono ?_
  rintro e w5 ⟨v5, rfl, r5, k5⟩
  have H5 : Hid (Rd encA 3 w5 v5 A ∧ Og w w5 (.slice a2 A.length c2) N g A p) := ⟨r5, H4.out.step k5⟩
  clear r5 k5 H4
  go_wp2_with fail
  refine (strata_p N _ A p _ H5.out.1 HFt.out HA.out.1 HP.out.1).mono ?_
  rintro e w6 (⟨hnb, gs, sl, rfl, q1, q2, q3⟩ | ⟨hnb, rfl, q3⟩)
  · have H6 : Hid (Og w w6 (.slice a2 A.length c2) N g A p ∧ Arr 3 eN w6 gs N sl) := ⟨H5.out.2.step q3, q1⟩
    have HS : Hid (NoBad A (fun x => p.getD x 0) ∧ Least A N (fun x => sl.getD x 0)) := ⟨hnb, q2⟩
    clear hnb q1 q2 q3 H5
    go_wp2_with fail
    refine (copyA_own _ A _ H6.out.1.arcs (by omega)).mono ?_
    rintro e w7 ⟨v7, rfl, r7, k7⟩
    have H7 : Hid (Rd encA 3 w7 v7 A ∧ Og w w7 (.slice a2 A.length c2) N g A p ∧ Arr 3 eN w7 gs N sl ∧ w.heap.size ≤ w7.heap.size) := ⟨r7, H6.out.1.step k7, H6.out.2.keep k7 (by simp), (H6.out.1.step k7).keep.size⟩
    clear r7 k7 H6
    go_wp2_with fail
    refine (ring_p N _ A p _ H7.out.1 HFt.out HA.out.1 HP.out.1).mono ?_
    rintro e w8 ⟨v8, rfl, nw⟩
    obtain ⟨R, HRR⟩ : ∃ R, Hid (R = (List.range N).filter (fun k => decide (((p.getD k 0 : Nat) : Int) = badL p A))) := ⟨_, show _ = _ from rfl⟩
    rw [← HRR.out] at nw
    obtain ⟨b8, c8, rfl, hb8, hc8⟩ := (nw.row.rd encN_len).form
    have H8 : Hid ((Og w w8 (.slice a2 A.length c2) N g A p ∧ Rd encI 1 w8 (.slice b8 R.length c8) (ofN R)) ∧ Arr 3 eN w8 gs N sl ∧ ∀ x, x = gs → x < w8.heap.size) := ⟨⟨H7.out.2.1.step nw.keep, (nw.row.rd encN_len).ints⟩, H7.out.2.2.1.keep nw.keep (by simp), fun x hx => by rw [hx]; exact (H7.out.2.2.1.keep nw.keep (by simp)).lt⟩
    clear nw H7
    go_wp2
    go_loopw [12, 13] (fun bv iv wr => ∃ (i : Nat) (bad : Int), bv = .int .i64 bad ∧ iv = .int .i64 (i : Int) ∧ i ≤ A.length ∧ Hid (bad = badL p (A.take i)) ∧ Eqx wr w8) (fun _ iv _ => A.length - (intOf iv).toNat)
    case atStart => exact ⟨0, -1, rfl, rfl, Nat.zero_le _, rfl, rfl⟩
    case round =>
      obtain ⟨i, bad, rfl, rfl, hi, HBd, HK⟩ := hrel
      obtain rfl := (show wr = w8 from HK).symm
      clear HK
      by_cases hlt : i < A.length
      · have hlti : (i : Int) < (A.length : Int) := by omega
        obtain ⟨b, o, c, he, hb, e0, e1, e2⟩ := H8.out.1.1.arcs.arcA i hlt
        simp at he
        obtain ⟨rfl, rfl⟩ := he
        have hnd := HA.out.1 A[i] (List.getElem_mem hlt)
        have HNx : Hid (badL p (A.take (i + 1)) = badF p bad A[i]) := by rw [badL_next p A i hlt, HBd.out]; rfl
        unfold badF at HNx
        have HGe : Hid (-1 ≤ bad) := by
          rw [HBd.out]
          show -1 ≤ badL p (A.take i)
          rcases badL_spec p _ (A.take i) rfl with ⟨h, _⟩ | ⟨a, _, _, h, _⟩
          · rw [h]; omega
          · rw [h]; omega
        obtain ⟨f, hf⟩ : ∃ f : Nat, f = A[i].f := ⟨_, rfl⟩
        obtain ⟨t, ht⟩ : ∃ t : Nat, t = A[i].t := ⟨_, rfl⟩
        obtain ⟨gg, hgg⟩ : ∃ gg : Bool, gg = A[i].g := ⟨_, rfl⟩
        rw [← hf] at e0
        rw [← ht] at e1
        rw [← hgg] at e2
        rw [← hf, ← ht] at hnd
        rw [← hf, ← ht, ← hgg] at HNx
        have hfi : (f : Int) < (N : Int) := by omega
        have hti : (t : Int) < (N : Int) := by omega
        obtain ⟨x, hx⟩ : ∃ x : Nat, x = p.getD f 0 := ⟨_, rfl⟩
        obtain ⟨y, hy⟩ : ∃ y : Nat, y = p.getD t 0 := ⟨_, rfl⟩
        have g0 : w8.cell? ⟨g, f, none⟩ = some (.int .i64 (x : Int)) := by rw [hx]; exact H8.out.1.1.parr.cell 0 f hnd.1
        have g1 : w8.cell? ⟨g, t, none⟩ = some (.int .i64 (y : Int)) := by rw [hy]; exact H8.out.1.1.parr.cell 0 t hnd.2
        rw [← hx, ← hy] at HNx
        clear hf ht hgg hx hy HBd
        have HRel : Hid (∀ (z : Int), badL p (A.take (i + 1)) = z → ∃ (i' : Nat) (bad : Int), Value.int .i64 z = .int .i64 bad ∧ Value.int .i64 ((i : Int) + 1) = .int .i64 (i' : Int) ∧ i' ≤ A.length ∧ Hid (bad = badL p (A.take i')) ∧ Eqx w8 w8) := fun z hz => ⟨i + 1, z, rfl, by congr 1, by omega, hz.symm, rfl⟩
        cases gg with
        | false =>
          have HZ : Hid (badL p (A.take (i + 1)) = bad) := by rw [HNx.out, if_neg (by simp)]; rfl
          clear HNx
          go_wp2
          go_roundw
          case rel => exact HRel.out _ HZ.out
          case measure => simp [intOf]; omega
        | true =>
          by_cases hxy : x = y
          · have hq : ((y : Int) == (x : Int)) = true := by simp [hxy]
            by_cases hb1 : bad < 0
            · have HZ : Hid (badL p (A.take (i + 1)) = (x : Int)) := by rw [HNx.out, if_pos ⟨rfl, hxy, .inl (by have := HGe.out; omega)⟩]; rfl
              clear HNx hxy
              go_wp2
              go_roundw
              case rel => exact HRel.out _ HZ.out
              case measure => simp [intOf]; omega
            · by_cases hlt2 : (x : Int) < bad
              · have HZ : Hid (badL p (A.take (i + 1)) = (x : Int)) := by rw [HNx.out, if_pos ⟨rfl, hxy, .inr hlt2⟩]; rfl
                clear HNx hxy
                go_wp2
                go_roundw
                case rel => exact HRel.out _ HZ.out
                case measure => simp [intOf]; omega
              · have HZ : Hid (badL p (A.take (i + 1)) = bad) := by rw [HNx.out, if_neg (by rintro ⟨_, _, h | h⟩; omega; exact hlt2 h)]; rfl
                clear HNx hxy
                go_wp2
                go_roundw
                case rel => exact HRel.out _ HZ.out
                case measure => simp [intOf]; omega
          · have hq : ((y : Int) == (x : Int)) = false := by simp; omega
            have HZ : Hid (badL p (A.take (i + 1)) = bad) := by rw [HNx.out, if_neg (by rintro ⟨_, h, _⟩; exact hxy h)]; rfl
            clear HNx
            go_wp2
            go_roundw
            case rel => exact HRel.out _ HZ.out
            case measure => simp [intOf]; omega
      · have hlti : ¬ (i : Int) < (A.length : Int) := by omega
        have hbad : bad = badL p A := by
          have := HBd.out
          rwa [List.take_of_length_le (by omega)] at this
        have hb1 : bad = -1 := by rw [hbad]; exact (noBad_iff p A).1 HS.out.1
        have HR : Hid (R = (List.range N).filter (fun k => decide (((p.getD k 0 : Nat) : Int) = bad))) := by rw [hbad]; exact HRR.out
        clear HBd hlt hi HRR hbad
        go_wp2
        go_loopw [15, 16] (fun kv iv wr => ∃ (k i : Nat), kv = .int .i64 (k : Int) ∧ iv = .int .i64 (i : Int) ∧ i ≤ N ∧ Hid (k = ((List.range i).filter (fun k => decide (((p.getD k 0 : Nat) : Int) = bad))).length) ∧ Eqx wr w8) (fun _ iv _ => N - (intOf iv).toNat)
        case atStart => exact ⟨0, 0, rfl, rfl, Nat.zero_le _, rfl, rfl⟩
        case round =>
          clear hlti
          obtain ⟨k, i, rfl, rfl, hi, HKi, HK⟩ := hrel
          obtain rfl := (show wr = w8 from HK).symm
          clear HK
          by_cases hlt : i < N
          · have hlti : (i : Int) < (N : Int) := by omega
            obtain ⟨x, HX⟩ : ∃ x : Nat, Hid (x = p.getD i 0) := ⟨_, show _ = _ from rfl⟩
            have c0 : w8.cell? ⟨g, i, none⟩ = some (.int .i64 (x : Int)) := by rw [HX.out]; exact H8.out.1.1.parr.cell 0 i hlt
            have hk40 : k ≤ i := by
              rw [HKi.out]
              have := List.length_filter_le (fun k => decide (((p.getD k 0 : Nat) : Int) = bad)) (List.range i)
              simpa using this
            have hsn : Hid ((List.range (i + 1)).filter (fun k => decide (((p.getD k 0 : Nat) : Int) = bad)) = (List.range i).filter (fun k => decide (((p.getD k 0 : Nat) : Int) = bad)) ++ if decide (((p.getD i 0 : Nat) : Int) = bad) then [i] else []) := filt_succ (fun k => decide (((p.getD k 0 : Nat) : Int) = bad)) i
            by_cases hp : (x : Int) = bad
            · exfalso
              omega
            · have hq : ((x : Int) != bad) = true := by simpa using hp
              have HKn : Hid (k = ((List.range (i + 1)).filter (fun k => decide (((p.getD k 0 : Nat) : Int) = bad))).length) := by
                show _ = _
                rw [hsn.out, ← HX.out, if_neg (by simpa using hp), List.append_nil, ← HKi.out]
                all_goals rfl
              clear hp HKi hsn HX
              go_wp2
              go_roundw
              case rel => exact ⟨k, i + 1, rfl, by go_num, by omega, HKn, rfl⟩
              case measure => simp [intOf]; omega
          · have hlti : ¬ (i : Int) < (N : Int) := by omega
            obtain rfl : i = N := by omega
            have hkl : k = R.length := by rw [HR.out]; exact HKi.out
            have hq : ((k : Int) != (R.length : Int)) = false := by simp [hkl]
            clear HKi hkl HR hlt hi
            have hb0 : ¬ (0 : Int) ≤ bad := by omega
            obtain ⟨i3, hi3, hz3, hs3, hy3⟩ := info_parts infoI
            have HB2 : Hid (i3.bytes * i ≤ 281474976710656) := show i3.bytes * i ≤ 281474976710656 by rw [hy3]; omega
            have HB3 : Hid (i ≤ maxLen) := show i ≤ maxLen by simp only [maxLen]; omega
            go_wp2_with (at_make; refine wpList_make_full _ rfl (.tmp 152) (.tmp 152) 26 rfl 0 3 i3 (.int .i64 0) 1 Try.underlying26 hi3 hz3 hs3 .i64 .i64 _ _ i rfl rfl rfl rfl HB2.out HB3.out (Nat.zero_le _) ?_)
            intro w9 r1 r2
            obtain ⟨gw, HGW⟩ : ∃ gw : Nat, Hid (gw = w8.heap.size) := ⟨_, show _ = _ from rfl⟩
            rw [← HGW.out] at r1 ⊢
            have H9 : Hid (Lw2 w gw (.slice a2 A.length c2) i g gs A p sl (List.replicate i 0) w9) := by
              have k9 : Keep [] w8 w9 := Keep.mono (Keep.grown r2) (by simp)
              have h1 := H8.out.1.1.parr.lt
              have h2 := H8.out.2.1.lt
              have h3 := HGW.out
              have h4 := H8.out.1.1.keep.size
              exact ⟨H8.out.1.1.step k9, H8.out.2.1.keep k9 (by simp), Arr.made (e := eN) (z := 0) r1, by omega, fun x hx => by have := H8.out.2.2 x hx; omega⟩
            have HW0 : Hid (Wn A i p sl 0 (List.replicate i 0)) := ⟨by simp, fun a b _ _ _ => by rw [getD_replicate, getD_replicate], fun a _ => by rw [getD_replicate]; exact Nat.zero_le _, fun a ha => by simp at ha⟩
            have HOf : Hid (A ≠ [] → Off (.slice a2 A.length c2) [gw]) := fun hne x hx hm => by
              obtain ⟨b, o, c, e, hb, -⟩ := H8.out.1.1.arcs.at 0 (List.length_pos_iff.2 hne)
              rw [e] at hx
              simp [Value.ownBlock] at hx hm
              have := HGW.out
              omega
            clear r1 r2 HB2 HB3 hi3 hz3 hs3 hy3 H8 HGW
            go_wp2
            go_loopw [18] (fun jv wr => ∃ (j : Nat) (W : List Nat), jv = .int .i64 (j : Int) ∧ j ≤ A.length ∧ Hid (Lw2 w gw (.slice a2 A.length c2) i g gs A p sl W wr) ∧ Hid (Wn A i p sl j W)) (fun jv _ => A.length - (intOf jv).toNat)
            case atStart => exact ⟨0, _, rfl, Nat.zero_le _, H9, HW0⟩
            case round =>
              clear H9 HW0 hlti
              obtain ⟨j, W, rfl, hj, HL, HW⟩ := hrel
              by_cases hlt : j < A.length
              · have hlti : (j : Int) < (A.length : Int) := by omega
                obtain ⟨b, o, c, he, hb, e0, e1, e2⟩ := HL.out.og.arcs.arcA j hlt
                simp at he
                obtain ⟨rfl, rfl⟩ := he
                have hmem := List.getElem_mem hlt
                have hnd := HA.out.1 A[j] hmem
                obtain ⟨f, hf⟩ : ∃ f : Nat, Hid (f = A[j].f) := ⟨_, show _ = _ from rfl⟩
                obtain ⟨t, ht⟩ : ∃ t : Nat, Hid (t = A[j].t) := ⟨_, show _ = _ from rfl⟩
                obtain ⟨gg, hgg⟩ : ∃ gg : Bool, Hid (gg = A[j].g) := ⟨_, show _ = _ from rfl⟩
                rw [← hf.out] at e0
                rw [← ht.out] at e1
                rw [← hgg.out] at e2
                rw [← hf.out, ← ht.out] at hnd
                have hfi : (f : Int) < (i : Int) := by omega
                have hti : (t : Int) < (i : Int) := by omega
                obtain ⟨x, HX⟩ : ∃ x : Nat, Hid (x = p.getD f 0) := ⟨_, show _ = _ from rfl⟩
                obtain ⟨y, HY⟩ : ∃ y : Nat, Hid (y = p.getD t 0) := ⟨_, show _ = _ from rfl⟩
                obtain ⟨z, HZ⟩ : ∃ z : Nat, Hid (z = sl.getD t 0) := ⟨_, show _ = _ from rfl⟩
                have g0 : wr.cell? ⟨g, f, none⟩ = some (.int .i64 (x : Int)) := by rw [HX.out]; exact HL.out.og.parr.cell 0 f hnd.1
                have g1 : wr.cell? ⟨g, t, none⟩ = some (.int .i64 (y : Int)) := by rw [HY.out]; exact HL.out.og.parr.cell 0 t hnd.2
                have g2 : wr.cell? ⟨gs, t, none⟩ = some (.int .i64 (z : Int)) := by rw [HZ.out]; exact HL.out.sarr.cell 0 t hnd.2
                have hz4 : z ≤ 40 := by
                  have h1 := HS.out.2.least _ (sol_parts HP.out.1 HS.out.1) t hnd.2
                  have h2 := HP.out.2 t hnd.2
                  rw [HZ.out]
                  omega
                by_cases hxy : y = x
                · have hq : ((y : Int) == (x : Int)) = true := by simp [hxy]
                  have HWn : Hid (Wn A i p sl (j + 1) W) := HW.out.skip hlt (by rw [← ht.out, ← hf.out, ← HX.out, ← HY.out]; exact hxy)
                  clear hxy HW HX HY HZ hf ht hgg hmem
                  go_wp2
                  go_quiet (fail)
                  go_wp2
                  go_roundw
                  case rel => exact ⟨j + 1, W, by go_num, by omega, HL.out.step ((Keep.refl [] wr).drewN _), HWn⟩
                  case measure => simp [intOf]; omega
                · have hq : ((y : Int) == (x : Int)) = false := by simp; omega
                  have HIn : Hid (∀ W', W'.length = i → (∀ a, a < i → W'.getD a 0 = if p.getD a 0 = x then max (W.getD a 0) (z + ngN gg) else W.getD a 0) → Wn A i p sl (j + 1) W') := fun W' hl hw => HW.out.take hlt HA.out.1 HP.out.1 HS.out.2 hl (fun a ha => by rw [hw a ha, HX.out, hf.out, HZ.out, ht.out, hgg.out])
                  have HWl : Hid (W.length = i) := HW.out.len
                  have HL2 : Hid (∀ n, Lw2 w gw (.slice (some ⟨b, o, none⟩) A.length c2) i g gs A p sl W (wr.drewN n)) := fun n => HL.out.step ((Keep.refl [] wr).drewN _)
                  have HFx : Hid (x = p.getD f 0 ∧ f < i) := ⟨HX.out, hnd.1⟩
                  have HE0 : Hid (∀ w', Lw2 w gw (.slice (some ⟨b, o, none⟩) A.length c2) i g gs A p sl W w' → True) := fun _ _ => trivial
                  clear hxy HW HX HY HZ ht hgg hmem HL HE0
                  cases gg with
                  | false =>
                    have HD0 : Hid (∀ a, a < i → W.getD a 0 = if a < 0 ∧ p.getD a 0 = x then max (W.getD a 0) (z) else W.getD a 0) := fun a _ => by rw [if_neg (by omega)]
                    simp only [ngN, Bool.false_eq_true, if_false, Nat.add_zero] at HIn
                    go_wp2
                    go_quiet (fail)
                    have HL3 := HL2.out nq
                    have HL4 : Hid (Lw2 w gw (.slice (some ⟨b, o, none⟩) A.length c2) i g gs A p sl W (wr.drewN nq)) := HL3
                    have e0' : (wr.drewN nq).cell? ⟨b, o + j * 3, none⟩ = some (.int .i64 (f : Int)) := e0
                    have e1' : (wr.drewN nq).cell? ⟨b, o + j * 3 + 1, none⟩ = some (.int .i64 (t : Int)) := e1
                    have e2' : (wr.drewN nq).cell? ⟨b, o + j * 3 + 2, none⟩ = some (.bool false) := e2
                    have g2' : (wr.drewN nq).cell? ⟨gs, t, none⟩ = some (.int .i64 (z : Int)) := g2
                    clear HL3 HL2 g0 g1 g2 e0 e1 e2 hb
                    generalize wr.drewN nq = wq at *
                    go_wp2
                    go_loopw [20] (fun av wr => ∃ (a : Nat) (W' : List Nat), av = .int .i64 (a : Int) ∧ a ≤ i ∧ Hid (Lw2 w gw (.slice (some ⟨b, o, none⟩) A.length c2) i g gs A p sl W' wr ∧ W'.length = i) ∧ Hid (∀ y, y < i → W'.getD y 0 = if y < a ∧ p.getD y 0 = x then max (W.getD y 0) (z) else W.getD y 0)) (fun av _ => i - (intOf av).toNat)
                    case atStart => exact ⟨0, W, rfl, Nat.zero_le _, ⟨HL4.out, HWl.out⟩, HD0⟩
                    case round =>
                      clear HL4 HD0 e0' e1' e2' g2'
                      obtain ⟨a, W', rfl, ha, HL, HD⟩ := hrel
                      by_cases halt : a < i
                      · have halti : (a : Int) < (i : Int) := by omega
                        obtain ⟨b', o', c', he, hb, e0, -, -⟩ := HL.out.1.og.arcs.arcA j hlt
                        simp at he
                        obtain ⟨⟨rfl, rfl⟩, he⟩ := he
                        clear he
                        rw [← hf.out] at e0
                        have g0 : wr.cell? ⟨g, f, none⟩ = some (.int .i64 (x : Int)) := by rw [HFx.out.1]; exact HL.out.1.og.parr.cell 0 f HFx.out.2
                        obtain ⟨v, HV⟩ : ∃ v : Nat, Hid (v = p.getD a 0) := ⟨_, show _ = _ from rfl⟩
                        obtain ⟨u, HU⟩ : ∃ u : Nat, Hid (u = W'.getD a 0) := ⟨_, show _ = _ from rfl⟩
                        have g3 : wr.cell? ⟨g, a, none⟩ = some (.int .i64 (v : Int)) := by rw [HV.out]; exact HL.out.1.og.parr.cell 0 a halt
                        have g4 : wr.cell? ⟨gw, a, none⟩ = some (.int .i64 (u : Int)) := by rw [HU.out]; exact HL.out.1.warr.cell 0 a halt
                        have f4 := HL.out.1.warr.free a
                        by_cases hv : v = x
                        · have hq2 : ((v : Int) == (x : Int)) = true := by simp [hv]
                          have HPu : Hid (∀ n, Lw2 w gw (.slice (some ⟨b, o, none⟩) A.length c2) i g gs A p sl (W'.set a (max u (z))) ((wr.drewN n).setCell ⟨gw, a, none⟩ (.int .i64 (max (u : Int) ((z : Int))))) ∧ (W'.set a (max u (z))).length = i) := fun n => by
                            have h1 := (HL.out.1.step ((Keep.refl [] wr).drewN n)).put a (max u (z)) (HOf.out (by intro e; rw [e] at hlt; simp at hlt))
                            rw [show (((max u (z)) : Nat) : Int) = max (u : Int) ((z : Int)) by omega] at h1
                            exact ⟨h1, by rw [List.length_set]; exact HL.out.2⟩
                          have HDn : Hid (∀ y, y < i → (W'.set a (max u (z))).getD y 0 = if y < a + 1 ∧ p.getD y 0 = x then max (W.getD y 0) (z) else W.getD y 0) := fun y hy => by
                            have hl := HL.out.2
                            rw [getD_set _ _ _ _ _ (by omega)]
                            by_cases e : y = a
                            · rw [if_pos e, e, if_pos ⟨by omega, by rw [← HV.out]; exact hv⟩, HU.out]
                              have := HD.out a halt
                              rw [if_neg (by omega)] at this
                              rw [this]
                            · rw [if_neg e, HD.out y hy]
                              by_cases e2 : y < a ∧ p.getD y 0 = x
                              · rw [if_pos e2, if_pos ⟨by omega, e2.2⟩]
                              · rw [if_neg e2, if_neg (fun h => e2 ⟨by omega, h.2⟩)]
                          clear hv HV HU HL HD
                          go_wp2
                          go_quiet (fail)
                          go_wp2
                          go_roundw
                          case rel => exact ⟨a + 1, _, by go_num, by omega, HPu.out _, HDn⟩
                          case measure => simp [intOf]; omega
                        · have hq2 : ((v : Int) == (x : Int)) = false := by simp; omega
                          have HDn : Hid (∀ y, y < i → W'.getD y 0 = if y < a + 1 ∧ p.getD y 0 = x then max (W.getD y 0) (z) else W.getD y 0) := fun y hy => by
                            rw [HD.out y hy]
                            by_cases e2 : y < a ∧ p.getD y 0 = x
                            · rw [if_pos e2, if_pos ⟨by omega, e2.2⟩]
                            · rw [if_neg e2, if_neg (fun h => e2 ⟨Nat.lt_of_le_of_ne (by omega) (fun e => hv (by rw [HV.out, ← e]; exact h.2)), h.2⟩)]
                          have HPn : Hid (∀ n, Lw2 w gw (.slice (some ⟨b, o, none⟩) A.length c2) i g gs A p sl W' (wr.drewN n) ∧ W'.length = i) := fun n => ⟨HL.out.1.step ((Keep.refl [] wr).drewN n), HL.out.2⟩
                          clear hv HV HU HL HD g4 f4
                          go_wp2
                          go_quiet (fail)
                          go_wp2
                          go_roundw
                          case rel => exact ⟨a + 1, W', by go_num, by omega, HPn.out _, HDn⟩
                          case measure => simp [intOf]; omega
                      · have halti : ¬ (a : Int) < (i : Int) := by omega
                        have HWn : Hid (Wn A i p sl (j + 1) W') := HIn.out W' HL.out.2 (fun y hy => by
                          rw [HD.out y hy]
                          by_cases e2 : p.getD y 0 = x
                          · rw [if_pos ⟨by omega, e2⟩, if_pos e2]
                          · rw [if_neg (fun h => e2 h.2), if_neg e2])
                        have HL5 : Hid (Lw2 w gw (.slice (some ⟨b, o, none⟩) A.length c2) i g gs A p sl W' wr) := HL.out.1
                        clear HL HD HIn
                        go_wp2
                        go_roundw
                        case rel => exact ⟨j + 1, W', by go_num, by omega, HL5, HWn⟩
                        case measure => simp [intOf]; omega
                  | true =>
                    have HD0 : Hid (∀ a, a < i → W.getD a 0 = if a < 0 ∧ p.getD a 0 = x then max (W.getD a 0) (z + 1) else W.getD a 0) := fun a _ => by rw [if_neg (by omega)]
                    simp only [ngN, if_true] at HIn
                    go_wp2
                    go_quiet (fail)
                    have HL3 := HL2.out nq
                    have HL4 : Hid (Lw2 w gw (.slice (some ⟨b, o, none⟩) A.length c2) i g gs A p sl W (wr.drewN nq)) := HL3
                    have e0' : (wr.drewN nq).cell? ⟨b, o + j * 3, none⟩ = some (.int .i64 (f : Int)) := e0
                    have e1' : (wr.drewN nq).cell? ⟨b, o + j * 3 + 1, none⟩ = some (.int .i64 (t : Int)) := e1
                    have e2' : (wr.drewN nq).cell? ⟨b, o + j * 3 + 2, none⟩ = some (.bool true) := e2
                    have g2' : (wr.drewN nq).cell? ⟨gs, t, none⟩ = some (.int .i64 (z : Int)) := g2
                    clear HL3 HL2 g0 g1 g2 e0 e1 e2 hb
                    generalize wr.drewN nq = wq at *
                    go_wp2
                    go_loopw [20] (fun av wr => ∃ (a : Nat) (W' : List Nat), av = .int .i64 (a : Int) ∧ a ≤ i ∧ Hid (Lw2 w gw (.slice (some ⟨b, o, none⟩) A.length c2) i g gs A p sl W' wr ∧ W'.length = i) ∧ Hid (∀ y, y < i → W'.getD y 0 = if y < a ∧ p.getD y 0 = x then max (W.getD y 0) (z + 1) else W.getD y 0)) (fun av _ => i - (intOf av).toNat)
                    case atStart => exact ⟨0, W, rfl, Nat.zero_le _, ⟨HL4.out, HWl.out⟩, HD0⟩
                    case round =>
                      clear HL4 HD0 e0' e1' e2' g2'
                      obtain ⟨a, W', rfl, ha, HL, HD⟩ := hrel
                      by_cases halt : a < i
                      · have halti : (a : Int) < (i : Int) := by omega
                        obtain ⟨b', o', c', he, hb, e0, -, -⟩ := HL.out.1.og.arcs.arcA j hlt
                        simp at he
                        obtain ⟨⟨rfl, rfl⟩, he⟩ := he
                        clear he
                        rw [← hf.out] at e0
                        have g0 : wr.cell? ⟨g, f, none⟩ = some (.int .i64 (x : Int)) := by rw [HFx.out.1]; exact HL.out.1.og.parr.cell 0 f HFx.out.2
                        obtain ⟨v, HV⟩ : ∃ v : Nat, Hid (v = p.getD a 0) := ⟨_, show _ = _ from rfl⟩
                        obtain ⟨u, HU⟩ : ∃ u : Nat, Hid (u = W'.getD a 0) := ⟨_, show _ = _ from rfl⟩
                        have g3 : wr.cell? ⟨g, a, none⟩ = some (.int .i64 (v : Int)) := by rw [HV.out]; exact HL.out.1.og.parr.cell 0 a halt
                        have g4 : wr.cell? ⟨gw, a, none⟩ = some (.int .i64 (u : Int)) := by rw [HU.out]; exact HL.out.1.warr.cell 0 a halt
                        have f4 := HL.out.1.warr.free a
                        by_cases hv : v = x
                        · have hq2 : ((v : Int) == (x : Int)) = true := by simp [hv]
                          have HPu : Hid (∀ n, Lw2 w gw (.slice (some ⟨b, o, none⟩) A.length c2) i g gs A p sl (W'.set a (max u (z + 1))) ((wr.drewN n).setCell ⟨gw, a, none⟩ (.int .i64 (max (u : Int) ((z : Int) + 1)))) ∧ (W'.set a (max u (z + 1))).length = i) := fun n => by
                            have h1 := (HL.out.1.step ((Keep.refl [] wr).drewN n)).put a (max u (z + 1)) (HOf.out (by intro e; rw [e] at hlt; simp at hlt))
                            rw [show (((max u (z + 1)) : Nat) : Int) = max (u : Int) ((z : Int) + 1) by omega] at h1
                            exact ⟨h1, by rw [List.length_set]; exact HL.out.2⟩
                          have HDn : Hid (∀ y, y < i → (W'.set a (max u (z + 1))).getD y 0 = if y < a + 1 ∧ p.getD y 0 = x then max (W.getD y 0) (z + 1) else W.getD y 0) := fun y hy => by
                            have hl := HL.out.2
                            rw [getD_set _ _ _ _ _ (by omega)]
                            by_cases e : y = a
                            · rw [if_pos e, e, if_pos ⟨by omega, by rw [← HV.out]; exact hv⟩, HU.out]
                              have := HD.out a halt
                              rw [if_neg (by omega)] at this
                              rw [this]
                            · rw [if_neg e, HD.out y hy]
                              by_cases e2 : y < a ∧ p.getD y 0 = x
                              · rw [if_pos e2, if_pos ⟨by omega, e2.2⟩]
                              · rw [if_neg e2, if_neg (fun h => e2 ⟨by omega, h.2⟩)]
                          clear hv HV HU HL HD
                          go_wp2
                          go_quiet (fail)
                          go_wp2
                          go_roundw
                          case rel => exact ⟨a + 1, _, by go_num, by omega, HPu.out _, HDn⟩
                          case measure => simp [intOf]; omega
                        · have hq2 : ((v : Int) == (x : Int)) = false := by simp; omega
                          have HDn : Hid (∀ y, y < i → W'.getD y 0 = if y < a + 1 ∧ p.getD y 0 = x then max (W.getD y 0) (z + 1) else W.getD y 0) := fun y hy => by
                            rw [HD.out y hy]
                            by_cases e2 : y < a ∧ p.getD y 0 = x
                            · rw [if_pos e2, if_pos ⟨by omega, e2.2⟩]
                            · rw [if_neg e2, if_neg (fun h => e2 ⟨Nat.lt_of_le_of_ne (by omega) (fun e => hv (by rw [HV.out, ← e]; exact h.2)), h.2⟩)]
                          have HPn : Hid (∀ n, Lw2 w gw (.slice (some ⟨b, o, none⟩) A.length c2) i g gs A p sl W' (wr.drewN n) ∧ W'.length = i) := fun n => ⟨HL.out.1.step ((Keep.refl [] wr).drewN n), HL.out.2⟩
                          clear hv HV HU HL HD g4 f4
                          go_wp2
                          go_quiet (fail)
                          go_wp2
                          go_roundw
                          case rel => exact ⟨a + 1, W', by go_num, by omega, HPn.out _, HDn⟩
                          case measure => simp [intOf]; omega
                      · have halti : ¬ (a : Int) < (i : Int) := by omega
                        have HWn : Hid (Wn A i p sl (j + 1) W') := HIn.out W' HL.out.2 (fun y hy => by
                          rw [HD.out y hy]
                          by_cases e2 : p.getD y 0 = x
                          · rw [if_pos ⟨by omega, e2⟩, if_pos e2]
                          · rw [if_neg (fun h => e2 h.2), if_neg e2])
                        have HL5 : Hid (Lw2 w gw (.slice (some ⟨b, o, none⟩) A.length c2) i g gs A p sl W' wr) := HL.out.1
                        clear HL HD HIn
                        go_wp2
                        go_roundw
                        case rel => exact ⟨j + 1, W', by go_num, by omega, HL5, HWn⟩
                        case measure => simp [intOf]; omega
              · have hlti : ¬ (j : Int) < (A.length : Int) := by omega
                have hWe : sl = W := (show j = A.length by omega) ▸ HW.out |>.done HA.out.1 HS.out.1 HS.out.2 HL.out.sarr.len
                have HSm : Hid (∀ (_ : True), Calls Try.prog 14 #[.slice (some ⟨gs, 0, none⟩) i i, .slice (some ⟨gw, 0, none⟩) i i] wr fun e w' => e = .returned (.bool true) ∧ Keep [] wr w') := fun _ => same_yes _ _ (ofN sl) wr HL.out.sarr.ints (by rw [hWe]; exact HL.out.warr.ints)
                have HKK : Hid (Keep [] w wr) := HL.out.og.keep
                clear hWe HL HW
                go_wp2_with fail
                refine (HSm.out trivial).mono ?_
                rintro e w10 ⟨rfl, k10⟩
                have HE : Hid (Keep [] w w10) := HKK.out.trans' k10
                clear k10 HSm HKK
                go_wp2
                go_ret
                exact ⟨rfl, HE.out⟩
  · have H6 : Hid (Og w w6 (.slice a2 A.length c2) N g A p ∧ True) := ⟨H5.out.2.step q3, trivial⟩
    have HNB : Hid (¬ NoBad A (fun x => p.getD x 0)) := hnb
    clear hnb q3 H5
    go_wp2_with fail
    refine (copyA_own _ A _ H6.out.1.arcs (by omega)).mono ?_
    rintro e w7 ⟨v7, rfl, r7, k7⟩
    have H7 : Hid (Rd encA 3 w7 v7 A ∧ Og w w7 (.slice a2 A.length c2) N g A p ∧ True) := ⟨r7, H6.out.1.step k7, trivial⟩
    clear r7 k7 H6
    go_wp2_with fail
    refine (ring_p N _ A p _ H7.out.1 HFt.out HA.out.1 HP.out.1).mono ?_
    rintro e w8 ⟨v8, rfl, nw⟩
    obtain ⟨R, HRR⟩ : ∃ R, Hid (R = (List.range N).filter (fun k => decide (((p.getD k 0 : Nat) : Int) = badL p A))) := ⟨_, show _ = _ from rfl⟩
    rw [← HRR.out] at nw
    obtain ⟨b8, c8, rfl, hb8, hc8⟩ := (nw.row.rd encN_len).form
    have H8 : Hid ((Og w w8 (.slice a2 A.length c2) N g A p ∧ Rd encI 1 w8 (.slice b8 R.length c8) (ofN R)) ∧ True) := ⟨⟨H7.out.2.1.step nw.keep, (nw.row.rd encN_len).ints⟩, trivial⟩
    clear nw H7
    go_wp2
    go_loopw [12, 13] (fun bv iv wr => ∃ (i : Nat) (bad : Int), bv = .int .i64 bad ∧ iv = .int .i64 (i : Int) ∧ i ≤ A.length ∧ Hid (bad = badL p (A.take i)) ∧ Eqx wr w8) (fun _ iv _ => A.length - (intOf iv).toNat)
    case atStart => exact ⟨0, -1, rfl, rfl, Nat.zero_le _, rfl, rfl⟩
    case round =>
      obtain ⟨i, bad, rfl, rfl, hi, HBd, HK⟩ := hrel
      obtain rfl := (show wr = w8 from HK).symm
      clear HK
      by_cases hlt : i < A.length
      · have hlti : (i : Int) < (A.length : Int) := by omega
        obtain ⟨b, o, c, he, hb, e0, e1, e2⟩ := H8.out.1.1.arcs.arcA i hlt
        simp at he
        obtain ⟨rfl, rfl⟩ := he
        have hnd := HA.out.1 A[i] (List.getElem_mem hlt)
        have HNx : Hid (badL p (A.take (i + 1)) = badF p bad A[i]) := by rw [badL_next p A i hlt, HBd.out]; rfl
        unfold badF at HNx
        have HGe : Hid (-1 ≤ bad) := by
          rw [HBd.out]
          show -1 ≤ badL p (A.take i)
          rcases badL_spec p _ (A.take i) rfl with ⟨h, _⟩ | ⟨a, _, _, h, _⟩
          · rw [h]; omega
          · rw [h]; omega
        obtain ⟨f, hf⟩ : ∃ f : Nat, f = A[i].f := ⟨_, rfl⟩
        obtain ⟨t, ht⟩ : ∃ t : Nat, t = A[i].t := ⟨_, rfl⟩
        obtain ⟨gg, hgg⟩ : ∃ gg : Bool, gg = A[i].g := ⟨_, rfl⟩
        rw [← hf] at e0
        rw [← ht] at e1
        rw [← hgg] at e2
        rw [← hf, ← ht] at hnd
        rw [← hf, ← ht, ← hgg] at HNx
        have hfi : (f : Int) < (N : Int) := by omega
        have hti : (t : Int) < (N : Int) := by omega
        obtain ⟨x, hx⟩ : ∃ x : Nat, x = p.getD f 0 := ⟨_, rfl⟩
        obtain ⟨y, hy⟩ : ∃ y : Nat, y = p.getD t 0 := ⟨_, rfl⟩
        have g0 : w8.cell? ⟨g, f, none⟩ = some (.int .i64 (x : Int)) := by rw [hx]; exact H8.out.1.1.parr.cell 0 f hnd.1
        have g1 : w8.cell? ⟨g, t, none⟩ = some (.int .i64 (y : Int)) := by rw [hy]; exact H8.out.1.1.parr.cell 0 t hnd.2
        rw [← hx, ← hy] at HNx
        clear hf ht hgg hx hy HBd
        have HRel : Hid (∀ (z : Int), badL p (A.take (i + 1)) = z → ∃ (i' : Nat) (bad : Int), Value.int .i64 z = .int .i64 bad ∧ Value.int .i64 ((i : Int) + 1) = .int .i64 (i' : Int) ∧ i' ≤ A.length ∧ Hid (bad = badL p (A.take i')) ∧ Eqx w8 w8) := fun z hz => ⟨i + 1, z, rfl, by congr 1, by omega, hz.symm, rfl⟩
        cases gg with
        | false =>
          have HZ : Hid (badL p (A.take (i + 1)) = bad) := by rw [HNx.out, if_neg (by simp)]; rfl
          clear HNx
          go_wp2
          go_roundw
          case rel => exact HRel.out _ HZ.out
          case measure => simp [intOf]; omega
        | true =>
          by_cases hxy : x = y
          · have hq : ((y : Int) == (x : Int)) = true := by simp [hxy]
            by_cases hb1 : bad < 0
            · have HZ : Hid (badL p (A.take (i + 1)) = (x : Int)) := by rw [HNx.out, if_pos ⟨rfl, hxy, .inl (by have := HGe.out; omega)⟩]; rfl
              clear HNx hxy
              go_wp2
              go_roundw
              case rel => exact HRel.out _ HZ.out
              case measure => simp [intOf]; omega
            · by_cases hlt2 : (x : Int) < bad
              · have HZ : Hid (badL p (A.take (i + 1)) = (x : Int)) := by rw [HNx.out, if_pos ⟨rfl, hxy, .inr hlt2⟩]; rfl
                clear HNx hxy
                go_wp2
                go_roundw
                case rel => exact HRel.out _ HZ.out
                case measure => simp [intOf]; omega
              · have HZ : Hid (badL p (A.take (i + 1)) = bad) := by rw [HNx.out, if_neg (by rintro ⟨_, _, h | h⟩; omega; exact hlt2 h)]; rfl
                clear HNx hxy
                go_wp2
                go_roundw
                case rel => exact HRel.out _ HZ.out
                case measure => simp [intOf]; omega
          · have hq : ((y : Int) == (x : Int)) = false := by simp; omega
            have HZ : Hid (badL p (A.take (i + 1)) = bad) := by rw [HNx.out, if_neg (by rintro ⟨_, h, _⟩; exact hxy h)]; rfl
            clear HNx
            go_wp2
            go_roundw
            case rel => exact HRel.out _ HZ.out
            case measure => simp [intOf]; omega
      · have hlti : ¬ (i : Int) < (A.length : Int) := by omega
        have hbad : bad = badL p A := by
          have := HBd.out
          rwa [List.take_of_length_le (by omega)] at this
        have hb0 : (0 : Int) ≤ bad := by
          have h1 : -1 ≤ badL p A := by
            rcases badL_spec p _ A rfl with ⟨h, _⟩ | ⟨a, _, _, h, _⟩
            · rw [h]; omega
            · rw [h]; omega
          have h2 : badL p A ≠ -1 := fun e => HNB.out ((noBad_iff p A).2 e)
          omega
        have HR : Hid (R = (List.range N).filter (fun k => decide (((p.getD k 0 : Nat) : Int) = bad))) := by rw [hbad]; exact HRR.out
        clear HBd hlt hi HRR hbad
        go_wp2
        go_loopw [15, 16] (fun kv iv wr => ∃ (k i : Nat), kv = .int .i64 (k : Int) ∧ iv = .int .i64 (i : Int) ∧ i ≤ N ∧ Hid (k = ((List.range i).filter (fun k => decide (((p.getD k 0 : Nat) : Int) = bad))).length) ∧ Eqx wr w8) (fun _ iv _ => N - (intOf iv).toNat)
        case atStart => exact ⟨0, 0, rfl, rfl, Nat.zero_le _, rfl, rfl⟩
        case round =>
          clear hlti
          obtain ⟨k, i, rfl, rfl, hi, HKi, HK⟩ := hrel
          obtain rfl := (show wr = w8 from HK).symm
          clear HK
          by_cases hlt : i < N
          · have hlti : (i : Int) < (N : Int) := by omega
            obtain ⟨x, HX⟩ : ∃ x : Nat, Hid (x = p.getD i 0) := ⟨_, show _ = _ from rfl⟩
            have c0 : w8.cell? ⟨g, i, none⟩ = some (.int .i64 (x : Int)) := by rw [HX.out]; exact H8.out.1.1.parr.cell 0 i hlt
            have hk40 : k ≤ i := by
              rw [HKi.out]
              have := List.length_filter_le (fun k => decide (((p.getD k 0 : Nat) : Int) = bad)) (List.range i)
              simpa using this
            have hsn : Hid ((List.range (i + 1)).filter (fun k => decide (((p.getD k 0 : Nat) : Int) = bad)) = (List.range i).filter (fun k => decide (((p.getD k 0 : Nat) : Int) = bad)) ++ if decide (((p.getD i 0 : Nat) : Int) = bad) then [i] else []) := filt_succ (fun k => decide (((p.getD k 0 : Nat) : Int) = bad)) i
            by_cases hp : (x : Int) = bad
            · have hq : ((x : Int) != bad) = false := by simpa using hp
              have hat := filt_at (P := fun k => decide (((p.getD k 0 : Nat) : Int) = bad)) (i := i) (by rw [← HX.out]; exact decide_eq_true hp) N hlt
              have HAt : Hid (∃ r, R = (List.range i).filter (fun k => decide (((p.getD k 0 : Nat) : Int) = bad)) ++ i :: r) := by
                obtain ⟨r, hr⟩ := hat
                exact ⟨r, by rw [HR.out]; exact hr⟩
              clear hat
              have hkR : k < R.length := by
                obtain ⟨r, hr⟩ := HAt.out
                rw [hr, HKi.out]
                simp
              have hkRi : ¬ (R.length : Int) ≤ (k : Int) := by omega
              have hkRi2 : (k : Int) < (R.length : Int) := by omega
              have hol : (ofN R).length = R.length := by unfold ofN; rw [List.length_map]
              obtain ⟨b, o, c, he, -, c1⟩ := H8.out.1.2.int k (by rw [hol]; exact hkR)
              rw [hol] at he
              simp at he
              obtain ⟨rfl, rfl⟩ := he
              have c2 : w8.cell? ⟨b, o + k, none⟩ = some (.int .i64 (i : Int)) := by
                rw [c1]
                obtain ⟨r, hr⟩ := HAt.out
                have h3 : (ofN R)[k]'(by rw [hol]; exact hkR) = ((R[k] : Nat) : Int) := by simp only [ofN, List.getElem_map]
                rw [h3]
                have h4 : R[k] = i := by
                  have h5 : R[k]? = some i := by
                    rw [hr, HKi.out, List.getElem?_append_right (Nat.le_refl _)]
                    simp
                  rw [List.getElem?_eq_getElem hkR] at h5
                  simpa using h5
                rw [h4]
              have HKn : Hid (k + 1 = ((List.range (i + 1)).filter (fun k => decide (((p.getD k 0 : Nat) : Int) = bad))).length) := by
                show _ = _
                rw [hsn.out, ← HX.out, if_pos (decide_eq_true hp), List.length_append, ← HKi.out]
                all_goals rfl
              clear hp HAt c1 HKi hsn HX hol
              go_wp2
              go_roundw
              case rel => exact ⟨k + 1, i + 1, by go_num, by go_num, by omega, HKn, rfl⟩
              case measure => simp [intOf]; omega
            · have hq : ((x : Int) != bad) = true := by simpa using hp
              have HKn : Hid (k = ((List.range (i + 1)).filter (fun k => decide (((p.getD k 0 : Nat) : Int) = bad))).length) := by
                show _ = _
                rw [hsn.out, ← HX.out, if_neg (by simpa using hp), List.append_nil, ← HKi.out]
                all_goals rfl
              clear hp HKi hsn HX
              go_wp2
              go_roundw
              case rel => exact ⟨k, i + 1, rfl, by go_num, by omega, HKn, rfl⟩
              case measure => simp [intOf]; omega
          · have hlti : ¬ (i : Int) < (N : Int) := by omega
            obtain rfl : i = N := by omega
            have hkl : k = R.length := by rw [HR.out]; exact HKi.out
            have hq : ((k : Int) != (R.length : Int)) = false := by simp [hkl]
            clear HKi hkl HR hlt hi
            have HE : Hid (Keep [] w w8) := H8.out.1.1.keep
            clear H8
            go_wp2
            go_ret
            exact ⟨rfl, HE.out⟩
end Go.Proofs.Ytmlpkjeaieljfaa
