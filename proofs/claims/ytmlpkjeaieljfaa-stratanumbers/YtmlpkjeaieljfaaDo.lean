/- The document's Strata. -/
import Derived.Test.YtmlpkjeaieljfaaDn
namespace Go.Proofs.Ytmlpkjeaieljfaa
open Go.RowKit Go.PlainAid

open Classical in
/-- the numbers are fewer than the nodes -/
theorem Numbered.lt {E : Nat → Nat → Prop} {n : Nat} {p : Nat → Nat} (h : Numbered E n p) (x : Nat) (hx : x < n) : p x < n := by
  have hex : ∀ k, k < p x + 1 → ∃ y, y < n ∧ p y = k := fun k hk => by
    by_cases e : k = p x
    · exact ⟨x, hx, e.symm⟩
    · exact h.full x hx k (by omega)
  have hch : ∃ f : Nat → Nat, ∀ k, k < p x + 1 → f k < n ∧ p (f k) = k := ⟨fun k => if h : k < p x + 1 then Classical.choose (hex k h) else 0, fun k hk => by
    simp only [dif_pos hk]
    exact Classical.choose_spec (hex k hk)⟩
  obtain ⟨f, hf⟩ := hch
  have hnd : ((List.range (p x + 1)).map f).Nodup := by
    rw [List.nodup_iff_pairwise_ne, List.pairwise_map]
    refine (List.nodup_range (n := p x + 1)).imp_of_mem ?_
    intro a b ha hb hab e
    have h1 := (hf a (List.mem_range.1 ha)).2
    have h2 := (hf b (List.mem_range.1 hb)).2
    rw [e] at h1
    exact hab (h1.symm.trans h2)
  have := nodup_len (n := n) hnd (fun y hy => by
    obtain ⟨k, hk, rfl⟩ := List.mem_map.1 hy
    exact (hf k (List.mem_range.1 hk)).1)
  simp at this
  omega

theorem sum_le_map {l : List Nat} {g h : Nat → Nat} (hle : ∀ x ∈ l, g x ≤ h x) : (l.map g).sum ≤ (l.map h).sum := by
  induction l with
  | nil => simp
  | cons a l ih =>
    simp only [List.map_cons, List.sum_cons]
    have := hle a (by simp)
    have := ih (fun x hx => hle x (by simp [hx]))
    omega
theorem sum_lt_map {l : List Nat} {g h : Nat → Nat} (hle : ∀ x ∈ l, g x ≤ h x) {y : Nat} (hy : y ∈ l) (hlt : g y < h y) : (l.map g).sum < (l.map h).sum := by
  induction l with
  | nil => simp at hy
  | cons a l ih =>
    simp only [List.map_cons, List.sum_cons]
    have h1 := hle a (by simp)
    rcases List.mem_cons.1 hy with e | e
    · subst e
      have := sum_le_map (l := l) (fun x hx => hle x (by simp [hx]))
      omega
    · have := ih (fun x hx => hle x (by simp [hx])) e
      omega
/-- how far the heights may rise yet -/
def slack (P : Nat → Nat) (n : Nat) (s : List Nat) : Nat := ((List.range n).map fun x => P x - s.getD x 0).sum
theorem slack_set {P : Nat → Nat} {n : Nat} {s : List Nat} (hl : s.length = n) {f z : Nat} (hf : f < n) (h1 : s.getD f 0 < z) (h2 : z ≤ P f) : slack P n (s.set f z) < slack P n s := by
  refine sum_lt_map (fun x _ => ?_) (List.mem_range.2 hf) ?_
  · rw [getD_set _ _ _ _ _ (by omega)]
    by_cases e : x = f
    · rw [if_pos e, e]; omega
    · rw [if_neg e]; exact Nat.le_refl _
  · rw [getD_set _ _ _ _ _ (by omega), if_pos rfl]
    omega
theorem eN_inj (x y : Nat) (h : eN x = eN y) : x = y := by simp [eN] at h; omega

/-- a ring is told just where something bad is -/
theorem ring_empty {N : Nat} {A : List Ar} (hn : ∀ a ∈ A, a.f < N ∧ a.t < N) : ringL N A = [] ↔ NoBad A (fun x => (partL N A).getD x 0) := by
  unfold ringL
  rcases badL_spec (partL N A) _ A rfl with ⟨h1, h2⟩ | ⟨a, ha, h1, h2, _⟩
  · refine ⟨fun _ b hb hg e => h2 b hb ⟨hg, e⟩, fun _ => ?_⟩
    rw [h1, List.filter_eq_nil_iff]
    intro x _
    simp
  · refine ⟨fun h => ?_, fun h => absurd h1.2 (h a ha h1.1)⟩
    rw [List.filter_eq_nil_iff] at h
    have := h a.f (List.mem_range.2 (hn a ha).1)
    rw [h2] at this
    simp at this

/-- heights that are right so far -/
structure Sa (w : World) (g n : Nat) (A : List Ar) (s : List Nat) (wr : World) : Prop where
  arr : Arr 3 eN wr g n s
  keep : Keep [] w wr
  new : w.heap.size ≤ g
  right : ∀ t, Sol A t → ∀ x, x < n → s.getD x 0 ≤ t x
theorem Sa.raise {w : World} {g n : Nat} {A : List Ar} {s : List Nat} {wr : World} (h : Sa w g n A s wr) (hn : ∀ a ∈ A, a.f < n ∧ a.t < n) {a : Ar} (ha : a ∈ A) : Sa w g n A (s.set a.f (s.getD a.t 0 + ngN a.g)) (wr.setCell ⟨g, a.f, none⟩ (.int .i64 ((s.getD a.t 0 + ngN a.g : Nat) : Int))) := by
  have hl := h.arr.len
  have hnd := hn a ha
  refine ⟨h.arr.put a.f _, h.keep.more (Keep.set1 wr ⟨g, a.f, none⟩ _) (fun x hx => .inr (by simp at hx; have := h.new; omega)), h.new, fun t ht x hx => ?_⟩
  rw [getD_set _ _ _ _ _ (by omega)]
  by_cases e : x = a.f
  · rw [if_pos e, e]
    have h1 := h.right t ht a.t hnd.2
    have h2 := ht a ha
    omega
  · rw [if_neg e]; exact h.right t ht x hx

set_option maxRecDepth 1000000 in
set_option maxHeartbeats 4000000 in
theorem rStrata_ans (n : Int) (v : Value) (l : List Az) (w : World) (h : Rd encZ 3 w v l) : Calls Try.prog 18 #[.int .i64 n, v] w fun e w' => AnsR w w' e (strataAns n l) := by
  have HC : Hid (∀ (_ : True), Calls Try.prog 19 #[.int .i64 n, v] w fun e w' => ∃ a c, e = .returned (.tuple #[.slice a (ringAns n l).1.length c, .int .i64 (ringAns n l).2]) ∧ Keep [] w w') := fun _ => by
    refine (rRing_ans n v l w h).mono ?_
    rintro e w' ⟨v', rfl, h1⟩
    obtain ⟨a, c, rfl⟩ := (h1.row.rd encI_len).form'
    exact ⟨a, c, rfl, h1.keep⟩
  by_cases hf : faultZ n l = 0
  · rw [show ringAns n l = (ofN (ringL n.toNat (l.map Az.a)), 0) by unfold ringAns; rw [if_pos hf]] at HC
    obtain ⟨N, A, rfl, rfl, h1, h2, h3, h4, h5, h6⟩ := fine_all hf
    rw [h1, h2] at HC
    by_cases hnb : NoBad A (fun x => (partL N A).getD x 0)
    · rw [show strataAns ((N : Nat) : Int) (A.map Ar.z) = (ofN (levL N A), 0) by unfold strataAns; rw [if_pos hf, h1, h2, if_pos hnb]]
      have hre : ringL N A = [] := (ring_empty h5).2 hnb
      rw [hre] at HC
      have HA : Hid (Rd encA 3 w v A ∧ ∀ a ∈ A, a.f < N ∧ a.t < N) := ⟨h.a, h5⟩
      obtain ⟨ao, cap, rfl, hc1, hc2⟩ := h.a.form
      -- some heights that are bounded
      have hP : ∃ P : Nat → Nat, Sol A P ∧ ∀ x, x < N → P x ≤ 4096 := by
        by_cases hex : ∃ p : List Nat, p.length = N ∧ Numbered (Ec A) N (fun x => p.getD x 0)
        · obtain ⟨p, hl, hp⟩ := hex
          rw [partL_eq h5 hl hp] at hnb
          exact ⟨_, sol_parts hp hnb, fun x hx => by have := hp.lt x hx; omega⟩
        · have : partL N A = [] := by unfold partL; rw [dif_neg hex]
          rw [this] at hnb
          refine ⟨fun _ => 0, fun a ha => ?_, fun x _ => Nat.zero_le _⟩
          have : a.g = false := by
            cases hg : a.g
            · rfl
            · exact absurd rfl (hnb a ha hg)
          simp [ngN, this]
      obtain ⟨P, HPS, HPB⟩ := hP
      have HP : Hid (Sol A P ∧ ∀ x, x < N → P x ≤ 4096) := ⟨HPS, HPB⟩
      obtain ⟨i3, hi3, hz3, hs3, hy3⟩ := info_parts infoI
      have HB2 : Hid (i3.bytes * N ≤ 281474976710656) := show i3.bytes * N ≤ 281474976710656 by rw [hy3]; omega
      have HB3 : Hid (N ≤ maxLen) := show N ≤ maxLen by simp only [maxLen]; omega
      clear h h1 h2 h5 h6 hf hnb hre HPS HPB
      go_enter Try.func18, Try.ntmps18
      go_wp2_with fail
      refine (HC.out trivial).mono ?_
      rintro e w1 ⟨a1, c1, rfl, k1⟩
      have HK : Hid (Keep [] w w1) := k1
      clear k1 HC
      rw [show (ofN []).length = 0 from rfl]
      go_wp2_with (at_make; refine wpList_make_full _ rfl (.tmp 24) (.tmp 24) 26 rfl 0 3 i3 (.int .i64 0) 1 Try.underlying26 hi3 hz3 hs3 .i64 .i64 _ _ N rfl rfl rfl rfl HB2.out HB3.out (Nat.zero_le _) ?_)
      intro w2 r1 r2
      obtain ⟨g, HGG⟩ : ∃ g : Nat, Hid (g = w1.heap.size) := ⟨_, show _ = _ from rfl⟩
      rw [← HGG.out] at r1 ⊢
      have H1 : Hid (Sa w g N A (List.replicate N 0) w2) := ⟨Arr.made (e := eN) (z := 0) r1, HK.out.trans' (Keep.mono (Keep.grown r2) (by simp)), by rw [HGG.out]; exact HK.out.size, fun t _ x _ => by rw [getD_replicate]; exact Nat.zero_le _⟩
      clear r1 r2 HB2 HB3 hi3 hz3 hs3 hy3 HGG
      obtain ⟨mz, hmz⟩ := arr_fn (E := 3) eN_inj g N (slack P N)
      have HMZ : Hid (∀ w m, Arr 3 eN w g N m → mz w = slack P N m) := hmz
      clear hmz
      go_wp2
      go_loopw [9] (fun bv wr => ∃ (b : Bool) (s : List Nat), bv = .bool b ∧ Hid (Sa w g N A s wr) ∧ Hid (b = false → Sol A (fun x => s.getD x 0))) (fun bv wr => 2 * mz wr + boolN bv)
      case atStart => exact ⟨true, _, rfl, H1, fun h => by cases h⟩
      case round =>
        clear H1
        obtain ⟨b, s, rfl, HI, HC⟩ := hrel
        cases b with
        | true =>
          obtain ⟨mu, HMU⟩ : ∃ mu : Nat, Hid (mu = slack P N s) := ⟨_, show _ = _ from rfl⟩
          have HM0 : Hid (2 * mz wr + boolN (.bool true) = 2 * mu + 1) := by
            show _ = _
            rw [HMZ.out _ _ HI.out.arr, HMU.out]; rfl
          have HI2 : Hid (Sa w g N A s wr ∧ slack P N s ≤ mu) := ⟨HI.out, by rw [HMU.out]; exact Nat.le_refl _⟩
          obtain ⟨mz0, hz0⟩ : ∃ z : Nat, z = mz wr := ⟨_, rfl⟩
          rw [← hz0] at HM0
          clear HC HI HMU
          go_wp2
          go_loopw [9, 10] (fun bv iv wr => ∃ (b : Bool) (i : Nat) (s : List Nat), bv = .bool b ∧ iv = .int .i64 (i : Int) ∧ i ≤ A.length ∧ Hid (Sa w g N A s wr ∧ slack P N s ≤ mu) ∧ Hid ((b = true → slack P N s < mu) ∧ (b = false → ∀ a ∈ A.take i, s.getD a.t 0 + ngN a.g ≤ s.getD a.f 0))) (fun _ iv _ => A.length - (intOf iv).toNat)
          case atStart => exact ⟨false, 0, s, rfl, rfl, Nat.zero_le _, HI2, ⟨(fun h => by cases h), fun _ a ha => by simp at ha⟩⟩
          case round =>
            clear HI2 s
            obtain ⟨b, i, s, rfl, rfl, hi, HI, HC⟩ := hrel
            by_cases hlt : i < A.length
            · have hlti : (i : Int) < (A.length : Int) := by omega
              obtain ⟨bb, oo, cc, he, hb, e0, e1, e2⟩ := (HA.out.1.keep HI.out.1.keep (Off.nil _)).arcA i hlt
              simp at he
              obtain ⟨rfl, rfl⟩ := he
              have hmem := List.getElem_mem hlt
              have hnd := HA.out.2 A[i] hmem
              have hsl := HI.out.1.arr.len
              have HN : Hid (s.getD A[i].t 0 + ngN A[i].g ≤ s.getD A[i].f 0 → (b = false → ∀ a ∈ A.take (i + 1), s.getD a.t 0 + ngN a.g ≤ s.getD a.f 0)) := fun h h2 a ha => by
                rw [List.take_succ_eq_append_getElem hlt] at ha
                rcases List.mem_append.1 ha with h3 | h3
                · exact HC.out.2 h2 a h3
                · simp at h3; subst h3; exact h
              have HR : Hid (Sa w g N A (s.set A[i].f (s.getD A[i].t 0 + ngN A[i].g)) (wr.setCell ⟨g, A[i].f, none⟩ (.int .i64 ((s.getD A[i].t 0 + ngN A[i].g : Nat) : Int)))) := HI.out.1.raise HA.out.2 hmem
              have HW : Hid (s.getD A[i].t 0 + ngN A[i].g ≤ P A[i].f ∧ s.getD A[i].t 0 ≤ 4096) := by
                have h1 := HI.out.1.right P HP.out.1 A[i].t hnd.2
                have h2 := HP.out.1 A[i] hmem
                have h3 := HP.out.2 A[i].t hnd.2
                exact ⟨by omega, by omega⟩
              generalize A[i].f = f at e0 hnd HN HR HW
              generalize A[i].t = t at e1 hnd HN HR HW
              generalize A[i].g = gg at e2 HN HR HW
              clear hmem
              have hfi : (f : Int) < (N : Int) := by omega
              have hti : (t : Int) < (N : Int) := by omega
              obtain ⟨x, HX⟩ : ∃ x : Nat, Hid (x = s.getD f 0) := ⟨_, show _ = _ from rfl⟩
              obtain ⟨y, HY⟩ : ∃ y : Nat, Hid (y = s.getD t 0) := ⟨_, show _ = _ from rfl⟩
              have g0 : wr.cell? ⟨g, f, none⟩ = some (.int .i64 (x : Int)) := by rw [HX.out]; exact HI.out.1.arr.cell 0 f hnd.1
              have g1 : wr.cell? ⟨g, t, none⟩ = some (.int .i64 (y : Int)) := by rw [HY.out]; exact HI.out.1.arr.cell 0 t hnd.2
              have f0 := HI.out.1.arr.free f
              rw [← HX.out, ← HY.out] at HN
              rw [← HY.out] at HR HW
              have hy4 : y ≤ 4096 := HW.out.2
              have HS : Hid (x < y + ngN gg → slack P N (s.set f (y + ngN gg)) < mu) := fun h => by
                have h1 := slack_set (P := P) hsl hnd.1 (z := y + ngN gg) (by rw [← HX.out]; exact h) HW.out.1
                have h2 := HI.out.2
                omega
              have HI3 : Hid (Sa w g N A s wr ∧ slack P N s ≤ mu) := HI
              clear HI HX HY HW hsl
              cases gg with
              | false =>
                simp only [ngN, Bool.false_eq_true, if_false, Nat.add_zero] at HN HR HS
                by_cases hxy : x < y
                · have hxyi : (x : Int) < (y : Int) := by omega
                  have HJ : Hid (Sa w g N A (s.set f y) (wr.setCell ⟨g, f, none⟩ (.int .i64 (y : Int))) ∧ slack P N (s.set f y) ≤ mu) := ⟨HR.out, Nat.le_of_lt (HS.out hxy)⟩
                  have HX : Hid ((true = true → slack P N (s.set f y) < mu) ∧ (true = false → ∀ a ∈ A.take (i + 1), (s.set f y).getD a.t 0 + ngN a.g ≤ (s.set f y).getD a.f 0)) := ⟨fun _ => HS.out hxy, fun h => by cases h⟩
                  clear HN HC HI3 HS HR
                  go_wp2
                  go_roundw
                  case rel => exact ⟨true, i + 1, _, rfl, by go_num, by omega, HJ, HX⟩
                  case measure => simp [intOf]; omega
                · have hxyi : ¬ (x : Int) < (y : Int) := by omega
                  have HX : Hid ((b = true → slack P N s < mu) ∧ (b = false → ∀ a ∈ A.take (i + 1), s.getD a.t 0 + ngN a.g ≤ s.getD a.f 0)) := ⟨HC.out.1, HN.out (by omega)⟩
                  clear HN HC HS HR
                  go_wp2
                  go_roundw
                  case rel => exact ⟨b, i + 1, s, rfl, by go_num, by omega, HI3, HX⟩
                  case measure => simp [intOf]; omega
              | true =>
                simp only [ngN, if_true] at HN HR HS
                by_cases hxy : x < y + 1
                · have hxyi : (x : Int) < (y : Int) + 1 := by omega
                  have HJ : Hid (Sa w g N A (s.set f (y + 1)) (wr.setCell ⟨g, f, none⟩ (.int .i64 ((y : Int) + 1))) ∧ slack P N (s.set f (y + 1)) ≤ mu) := ⟨HR.out, Nat.le_of_lt (HS.out hxy)⟩
                  have HX : Hid ((true = true → slack P N (s.set f (y + 1)) < mu) ∧ (true = false → ∀ a ∈ A.take (i + 1), (s.set f (y + 1)).getD a.t 0 + ngN a.g ≤ (s.set f (y + 1)).getD a.f 0)) := ⟨fun _ => HS.out hxy, fun h => by cases h⟩
                  clear HN HC HI3 HS HR
                  go_wp2
                  go_roundw
                  case rel => exact ⟨true, i + 1, _, rfl, by go_num, by omega, HJ, HX⟩
                  case measure => simp [intOf]; omega
                · have hxyi : ¬ (x : Int) < (y : Int) + 1 := by omega
                  have HX : Hid ((b = true → slack P N s < mu) ∧ (b = false → ∀ a ∈ A.take (i + 1), s.getD a.t 0 + ngN a.g ≤ s.getD a.f 0)) := ⟨HC.out.1, HN.out (by omega)⟩
                  clear HN HC HS HR
                  go_wp2
                  go_roundw
                  case rel => exact ⟨b, i + 1, s, rfl, by go_num, by omega, HI3, HX⟩
                  case measure => simp [intOf]; omega
            · have hlti : ¬ (i : Int) < (A.length : Int) := by omega
              have HI2 : Hid (Sa w g N A s wr) := HI.out.1
              have HC2 : Hid (b = false → Sol A (fun x => s.getD x 0)) := fun h a ha => HC.out.2 h a (by rw [List.take_of_length_le (by omega)]; exact ha)
              have HMe : Hid (2 * mz wr + boolN (.bool b) < 2 * mz0 + boolN (.bool true)) := by
                show _ < _
                rw [HM0.out, HMZ.out _ _ HI.out.1.arr]
                have h2 := HI.out.2
                cases b with
                | true => have := HC.out.1 rfl; simp only [boolN]; omega
                | false => simp only [boolN]; omega
              clear HI HC
              go_wp2
              go_roundw
              case rel => exact ⟨b, s, rfl, HI2, HC2⟩
              case measure => have := HMe.out; rw [hz0] at this; exact this
        | false =>
          have HE : Hid (AnsR w wr (.returned (.tuple #[.slice (some ⟨g, 0, none⟩) N N, .int .i64 0])) (ofN (levL N A), 0)) := by
            rw [levL_eq HI.out.arr.len ⟨HC.out rfl, HI.out.right⟩]
            exact ⟨_, rfl, HI.out.arr.ow HI.out.new HI.out.keep⟩
          clear HI HC
          go_wp2
          go_ret2
          exact HE.out
    · rw [show strataAns ((N : Nat) : Int) (A.map Ar.z) = ([], 81) by unfold strataAns; rw [if_pos hf, h1, h2, if_neg hnb]]
      have hre : (ofN (ringL N A)).length ≠ 0 := fun e => hnb ((ring_empty h5).1 (by unfold ofN at e; rw [List.length_map] at e; exact List.eq_nil_of_length_eq_zero e))
      generalize (ofN (ringL N A)).length = z at HC hre
      have hzi : (0 : Int) < (z : Int) := by omega
      clear h h1 h2 h3 h4 h5 h6 hf hnb hre
      go_enter Try.func18, Try.ntmps18
      go_wp2_with fail
      refine (HC.out trivial).mono ?_
      rintro e w1 ⟨a1, c1, rfl, k1⟩
      have HE : Hid (AnsR w w1 (.returned (.tuple #[.slice none 0 0, .int .i64 81])) ([], 81)) := ⟨_, rfl, ow_none k1⟩
      clear HC k1
      go_wp2
      go_ret2
      exact HE.out
  · rw [show ringAns n l = ([], faultZ n l) by unfold ringAns; rw [if_neg hf]] at HC
    rw [show strataAns n l = ([], faultZ n l) by unfold strataAns; rw [if_neg hf]]
    generalize faultZ n l = f at HC hf
    have hq : (f != 0) = true := by simpa using hf
    clear h hf
    go_enter Try.func18, Try.ntmps18
    go_wp2_with fail
    refine (HC.out trivial).mono ?_
    rintro e w1 ⟨a1, c1, rfl, k1⟩
    have HE : Hid (AnsR w w1 (.returned (.tuple #[.slice none 0 0, .int .i64 f])) ([], f)) := ⟨_, rfl, ow_none k1⟩
    clear HC k1
    go_wp2
    go_ret2
    exact HE.out
end Go.Proofs.Ytmlpkjeaieljfaa
