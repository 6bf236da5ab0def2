/- Sums and differences of the document's whole numbers of any length, part by part. -/
import Derived.Test.YthdibaeelbkghaaGreatDoorBigB
import Derived.Test.YthdibaeelbkghaaGreatDoorBigF

namespace Go.Proofs.YthdibaeelbkghaaGreatDoor
open Go.RowKit Go.PlainAid

theorem bigV_step (l : List Nat) (i : Nat) : bigV (l.take (i + 1)) = bigV (l.take i) + 1000000000 ^ i * l.getD i 0 := by
  by_cases hi : i < l.length
  · exact bigV_take l i hi
  · rw [List.take_of_length_le (by omega), List.take_of_length_le (by omega), List.getD_eq_getElem?_getD, List.getElem?_eq_none (by omega)]
    simp
theorem nrm_low {l : List Nat} (L : Lim l) (h : l ≠ [] → 1000000000 ^ (l.length - 1) ≤ bigV l) : Nrm l := by
  intro hl h0
  have h1 := h hl
  have h2 : 0 < l.length := List.length_pos_iff.2 hl
  have h3 := bigV_step l (l.length - 1)
  rw [List.take_of_length_le (by omega), h0, Nat.mul_zero, Nat.add_zero] at h3
  have h4 := bigV_lt (l.take (l.length - 1)) (L.take _)
  rw [List.length_take, Nat.min_eq_left (by omega)] at h4
  omega

/-- how sum's loop stands: i parts are laid, the carry is c -/
structure SumI (w wr : World) (ov : Value) (a b out : List Nat) (i c : Nat) : Prop where
  row : Rw wr ov out
  fresh : Fresh w wr ov
  keep : Keep [] w wr
  lim : Lim out
  val : bigV out + 1000000000 ^ i * c = bigV (a.take i) + bigV (b.take i)
  len : out.length = i
  low : c ≤ 1
  nrm : out ≠ [] → 1000000000 ^ (out.length - 1) ≤ bigV a + bigV b
  top : i ≤ max a.length b.length ∨ (i = max a.length b.length + 1 ∧ c = 0)

theorem SumI.next {w wr w1 : World} {n n' : Value} {a b out : List Nat} {i c : Nat} (h : SumI w wr n a b out i c) (La : Lim a) (Lb : Lim b) (Na : Nrm a) (Nb : Nrm b) (hgo : i < a.length ∨ i < b.length ∨ 0 < c)
    (g1 : Rw w1 n' (out ++ [(c + a.getD i 0 + b.getD i 0) % 1000000000])) (hk : Keep [] w w1) (hf : Fresh w w1 n') :
    SumI w w1 n' a b (out ++ [(c + a.getD i 0 + b.getD i 0) % 1000000000]) (i + 1) ((c + a.getD i 0 + b.getD i 0) / 1000000000) := by
  have ha := La.get i
  have hb := Lb.get i
  have hc := h.low
  have hv := h.val
  have hl := h.len
  have sa : ∀ l : List Nat, bigV (l.take i) ≤ bigV l := fun l => by
    have := bigV_append (l.take i) (l.drop i)
    rw [List.take_append_drop] at this; omega
  refine ⟨g1, hf, hk, h.lim.snoc (by omega), ?_, by simp [hl], by omega, ?_, ?_⟩
  · rw [bigV_snoc, hl, bigV_step a, bigV_step b, Nat.pow_succ, Nat.add_assoc, Nat.mul_assoc, ← Nat.mul_add, Nat.mod_add_div]
    rw [Nat.mul_add, Nat.mul_add]
    generalize 1000000000 ^ i * a.getD i 0 = p at *
    generalize 1000000000 ^ i * b.getD i 0 = q at *
    generalize 1000000000 ^ i * c = r at *
    omega
  · intro _
    rw [List.length_append, hl]
    simp only [List.length_cons, List.length_nil, Nat.zero_add, Nat.add_sub_cancel]
    rcases hgo with hg | hg | hg
    · have h1 := bigV_low a Na (by intro e; rw [e] at hg; simp at hg)
      have h2 : 1000000000 ^ i ≤ 1000000000 ^ (a.length - 1) := Nat.pow_le_pow_right (by decide) (by omega)
      omega
    · have h1 := bigV_low b Nb (by intro e; rw [e] at hg; simp at hg)
      have h2 : 1000000000 ^ i ≤ 1000000000 ^ (b.length - 1) := Nat.pow_le_pow_right (by decide) (by omega)
      omega
    · have h1 : c = 1 := by omega
      rw [h1, Nat.mul_one] at hv
      have h2 := sa a
      have h3 := sa b
      omega
  · have ht := h.top
    by_cases hm : i < max a.length b.length
    · exact .inl (by omega)
    · have h1 : a.getD i 0 = 0 := by rw [List.getD_eq_getElem?_getD, List.getElem?_eq_none (by omega)]; rfl
      have h2 : b.getD i 0 = 0 := by rw [List.getD_eq_getElem?_getD, List.getElem?_eq_none (by omega)]; rfl
      rw [h1, h2]
      refine .inr ⟨by omega, by omega⟩
theorem SumI.fin {w wr : World} {n : Value} {a b out : List Nat} {i : Nat} (h : SumI w wr n a b out i 0) (ha : a.length ≤ i) (hb : b.length ≤ i) : Big wr n (bigV a + bigV b) (max a.length b.length + 1) := by
  have hv := h.val
  rw [List.take_of_length_le ha, List.take_of_length_le hb, Nat.mul_zero, Nat.add_zero] at hv
  have hn := h.nrm
  rw [← hv] at hn
  refine ⟨out, h.row.bs, h.lim, nrm_low h.lim hn, hv, ?_⟩
  have h1 := h.top
  have h2 := h.len
  omega

/-- how less' loop stands -/
structure LesI (w wr : World) (ov : Value) (a b out : List Nat) (i c : Nat) : Prop where
  row : Rw wr ov out
  fresh : Fresh w wr ov
  keep : Keep [] w wr
  lim : Lim out
  val : bigV out + bigV (b.take i) = bigV (a.take i) + 1000000000 ^ i * c
  len : out.length = i
  low : c ≤ 1

theorem LesI.next {w wr w1 : World} {n n' : Value} {a b out : List Nat} {i c x c' : Nat} (h : LesI w wr n a b out i c) (hx : x < 1000000000) (hc : c' ≤ 1) (he : x + b.getD i 0 + c = a.getD i 0 + 1000000000 * c')
    (g1 : Rw w1 n' (out ++ [x])) (hk : Keep [] w w1) (hf : Fresh w w1 n') : LesI w w1 n' a b (out ++ [x]) (i + 1) c' := by
  have hv := h.val
  have hl := h.len
  refine ⟨g1, hf, hk, h.lim.snoc hx, ?_, by simp [hl], hc⟩
  have he2 : 1000000000 ^ i * x + 1000000000 ^ i * b.getD i 0 + 1000000000 ^ i * c = 1000000000 ^ i * a.getD i 0 + 1000000000 ^ i * 1000000000 * c' := by
    rw [← Nat.mul_add, ← Nat.mul_add, he, Nat.mul_add, ← Nat.mul_assoc]
  rw [bigV_snoc, hl, bigV_step a, bigV_step b, Nat.pow_succ]
  generalize 1000000000 ^ i * 1000000000 * c' = p at *
  generalize 1000000000 ^ i * a.getD i 0 = q at *
  generalize 1000000000 ^ i * b.getD i 0 = r at *
  generalize 1000000000 ^ i * c = s at *
  generalize 1000000000 ^ i * x = t at *
  omega
theorem LesI.fin {w wr : World} {n : Value} {a b out : List Nat} {i c : Nat} (h : LesI w wr n a b out i c) (La : Lim a) (Nb : Nrm b) (hi : i = a.length) (hba : bigV b ≤ bigV a) : bigV out = bigV a - bigV b ∧ out.length = a.length := by
  subst hi
  have hv := h.val
  have hl := h.len
  have hbl : b.length ≤ a.length := by
    refine Nat.le_of_not_lt fun hlt => ?_
    have := big_shorter a b hlt La Nb
    omega
  rw [List.take_of_length_le (Nat.le_refl _), List.take_of_length_le hbl] at hv
  have h1 := bigV_lt out h.lim
  rw [hl] at h1
  have h2 := h.low
  refine ⟨?_, hl⟩
  have : c = 0 ∨ c = 1 := by omega
  rcases this with rfl | rfl
  · omega
  · omega
end Go.Proofs.YthdibaeelbkghaaGreatDoor

/- The document's sum and less. -/
namespace Go.Proofs.YthdibaeelbkghaaGreatDoor
open Go.RowKit Go.PlainAid

theorem getD_none {l : List Nat} {i : Nat} (h : ¬ i < l.length) : l.getD i 0 = 0 := by
  rw [List.getD_eq_getElem?_getD, List.getElem?_eq_none (by omega)]; rfl

set_option maxRecDepth 1000000 in
set_option maxHeartbeats 3200000 in
theorem sum_any (u v : Value) (a b : List Nat) (w : World) (hu : Is w u a) (hv : Is w v b) (La : Lim a) (Lb : Lim b) (Na : Nrm a) (Nb : Nrm b) (ha : a.length ≤ 100000) (hb : b.length ≤ 100000) :
    Calls Tryz.prog 29 #[u, v] w fun e w' => ∃ v', e = .returned v' ∧ (Big w' v' (bigV a + bigV b) (max a.length b.length + 1) ∧ Fresh w w' v') ∧ Keep [] w w' := by
  obtain ⟨ao, ca, rfl, p1, p2, _, p4⟩ := hu.ex
  obtain ⟨bo, cb, rfl, q1, q2, _, q4⟩ := hv.ex
  simp only [maxLen] at p2 q2
  have HA : Hid (a ≠ [] → ∃ b o, ao = some ⟨b, o, none⟩ ∧ ∀ j, j < a.length → w.cell? ⟨b, o + j, none⟩ = some (.int .i64 ((a.getD j 0 : Nat) : Int))) := p4
  have HB : Hid (b ≠ [] → ∃ b' o, bo = some ⟨b', o, none⟩ ∧ ∀ j, j < b.length → w.cell? ⟨b', o + j, none⟩ = some (.int .i64 ((b.getD j 0 : Nat) : Int))) := q4
  have HL : Hid (Lim a ∧ Lim b ∧ Nrm a ∧ Nrm b) := ⟨La, Lb, Na, Nb⟩
  clear p4 q4 hu hv La Lb Na Nb
  go_enter Tryz.func29, Tryz.ntmps29
  go_wp2
  go_loopw [5, 6, 7] (fun ov cv iv wr => ∃ (i c : Nat) (out : List Nat), cv = .int .i64 (c : Int) ∧ iv = .int .i64 (i : Int) ∧ Hid (SumI w wr ov a b out i c)) (fun _ _ iv _ => max a.length b.length + 1 - (intOf iv).toNat)
  case atStart => exact ⟨0, 0, [], rfl, rfl, (⟨Rw.nil w, Fresh.nil w w, Keep.refl _ w, Lim.nil, by simp [bigV], rfl, by omega, fun h => absurd rfl h, .inl (by omega)⟩ : SumI w w _ a b [] 0 0)⟩
  case round =>
    obtain ⟨i, c, out, rfl, rfl, HI⟩ := hrel
    have hc1 : c ≤ 1 := HI.out.low
    have hin : i ≤ 100001 := by have := HI.out.top; omega
    have hgen : ∀ x : Nat, x = c + a.getD i 0 + b.getD i 0 → x ≤ 1999999999 → (i < a.length ∨ i < b.length ∨ 0 < c) →
        Rw (wr.alloc (.cells #[.int .i64 ((x : Int) % 1000000000)] TI)) u5 out ∧ Src Tryz.prog 1 TN (.slice (some ⟨wr.heap.size, 0, none⟩) 1 1) 1 (iv [x % 1000000000]) (wr.alloc (.cells #[.int .i64 ((x : Int) % 1000000000)] TI)) ∧ out.length + [x % 1000000000].length ≤ 1000000000 ∧
        ∀ {w1 n'}, Rw w1 n' (out ++ [x % 1000000000]) → Keep [] w w1 → Fresh w w1 n' → SumI w w1 n' a b (out ++ [x % 1000000000]) (i + 1) (x / 1000000000) := by
      intro x hx hx2 hgo
      have he : ((x % 1000000000 : Nat) : Int) = (x : Int) % 1000000000 := by omega
      have hr := HI.out.row.keep (Keep.alloc1 wr (.cells #[.int .i64 ((x % 1000000000 : Nat) : Int)] TI)) (Off.nil _)
      have hs := (Is.one wr (x % 1000000000)).src
      rw [he] at hr hs
      refine ⟨hr, hs, by have := HI.out.len; simp; omega, fun a b c => ?_⟩
      subst hx
      exact HI.out.next HL.out.1 HL.out.2.1 HL.out.2.2.1 HL.out.2.2.2 hgo a b c
    have HG : Hid _ := hgen
    clear hgen
    by_cases h1 : i < a.length
    · obtain ⟨p, o, rfl, hcell⟩ := HA.out (by intro hz; rw [hz] at h1; simp at h1)
      have hcw : wr.cell? ⟨p, o + i, none⟩ = some (.int .i64 ((a.getD i 0 : Nat) : Int)) := HI.out.keep.cell' (hcell i h1) (by simp)
      have h1i : (i : Int) < (a.length : Int) := by omega
      have hla := HL.out.1.get i
      clear hcell
      by_cases h2 : i < b.length
      · obtain ⟨q, o2, rfl, hcell2⟩ := HB.out (by intro hz; rw [hz] at h2; simp at h2)
        have hcw2 : wr.cell? ⟨q, o2 + i, none⟩ = some (.int .i64 ((b.getD i 0 : Nat) : Int)) := HI.out.keep.cell' (hcell2 i h2) (by simp)
        have h2i : (i : Int) < (b.length : Int) := by omega
        have hlb := HL.out.2.1.get i
        clear hcell2
        obtain ⟨hr, hs, hl, hn⟩ := HG.out _ rfl (by omega) (.inl h1)
        have HN : Hid _ := @hn
        have HLn : Hid _ := hl
        clear hn hl HG
        generalize a.getD i 0 = x at *
        generalize b.getD i 0 = y at *
        rw [show ((c + x + y : Nat) : Int) = (c : Int) + (x : Int) + (y : Int) by omega] at hr hs
        go_wp2_with (at_builtin; refine wp_appI rfl (.tmp 46) (.tmp 49) 44 44 rfl underN _ out rfl hr _ [(c + x + y) % 1000000000] rfl hs HLn.out ?_)
        intro v' w1 g1 g2 g3 g4
        have HF := app_fresh HI.out.keep HI.out.fresh g2 g3
        have HJ : Hid (SumI w w1 v' a b (out ++ [(c + x + y) % 1000000000]) (i + 1) ((c + x + y) / 1000000000)) := HN.out g1 HF.1 HF.2
        clear g1 g2 g3 g4 HF hr hs
        go_wp2
        go_roundw
        case rel => exact ⟨i + 1, (c + x + y) / 1000000000, _, by go_num, by go_num, HJ⟩
        case measure => (simp [intOf]; try omega)
      · have h2i : ¬ (i : Int) < (b.length : Int) := by omega
        obtain ⟨hr, hs, hl, hn⟩ := HG.out (c + a.getD i 0) (by rw [getD_none h2]; rfl) (by omega) (.inl h1)
        have HN : Hid _ := @hn
        have HLn : Hid _ := hl
        clear hn hl HG
        generalize a.getD i 0 = x at *
        rw [show ((c + x : Nat) : Int) = (c : Int) + (x : Int) by omega] at hr hs
        go_wp2_with (at_builtin; refine wp_appI rfl (.tmp 46) (.tmp 49) 44 44 rfl underN _ out rfl hr _ [(c + x) % 1000000000] rfl hs HLn.out ?_)
        intro v' w1 g1 g2 g3 g4
        have HF := app_fresh HI.out.keep HI.out.fresh g2 g3
        have HJ : Hid (SumI w w1 v' a b (out ++ [(c + x) % 1000000000]) (i + 1) ((c + x) / 1000000000)) := HN.out g1 HF.1 HF.2
        clear g1 g2 g3 g4 HF hr hs
        go_wp2
        go_roundw
        case rel => exact ⟨i + 1, (c + x) / 1000000000, _, by go_num, by go_num, HJ⟩
        case measure => (simp [intOf]; try omega)
    · have h1i : ¬ (i : Int) < (a.length : Int) := by omega
      by_cases h2 : i < b.length
      · obtain ⟨q, o2, rfl, hcell2⟩ := HB.out (by intro hz; rw [hz] at h2; simp at h2)
        have hcw2 : wr.cell? ⟨q, o2 + i, none⟩ = some (.int .i64 ((b.getD i 0 : Nat) : Int)) := HI.out.keep.cell' (hcell2 i h2) (by simp)
        have h2i : (i : Int) < (b.length : Int) := by omega
        have hlb := HL.out.2.1.get i
        clear hcell2
        obtain ⟨hr, hs, hl, hn⟩ := HG.out (c + b.getD i 0) (by rw [getD_none h1]; rfl) (by omega) (.inr (.inl h2))
        have HN : Hid _ := @hn
        have HLn : Hid _ := hl
        clear hn hl HG
        generalize b.getD i 0 = x at *
        rw [show ((c + x : Nat) : Int) = (c : Int) + (x : Int) by omega] at hr hs
        go_wp2_with (at_builtin; refine wp_appI rfl (.tmp 46) (.tmp 49) 44 44 rfl underN _ out rfl hr _ [(c + x) % 1000000000] rfl hs HLn.out ?_)
        intro v' w1 g1 g2 g3 g4
        have HF := app_fresh HI.out.keep HI.out.fresh g2 g3
        have HJ : Hid (SumI w w1 v' a b (out ++ [(c + x) % 1000000000]) (i + 1) ((c + x) / 1000000000)) := HN.out g1 HF.1 HF.2
        clear g1 g2 g3 g4 HF hr hs
        go_wp2
        go_roundw
        case rel => exact ⟨i + 1, (c + x) / 1000000000, _, by go_num, by go_num, HJ⟩
        case measure => (simp [intOf]; try omega)
      · have h2i : ¬ (i : Int) < (b.length : Int) := by omega
        by_cases h3 : c = 0
        · subst h3
          have HR : Hid ((Big wr u5 (bigV a + bigV b) (max a.length b.length + 1) ∧ Fresh w wr u5) ∧ Keep [] w wr) := ⟨⟨HI.out.fin (by omega) (by omega), HI.out.fresh⟩, HI.out.keep⟩
          clear HG
          go_wp2
          go_ret
          exact ⟨_, rfl, HR.out⟩
        · obtain rfl : c = 1 := by omega
          have HT : Hid (i ≤ max a.length b.length) := show i ≤ max a.length b.length by have := HI.out.top; omega
          obtain ⟨hr, hs, hl, hn⟩ := HG.out 1 (by rw [getD_none h1, getD_none h2]) (by omega) (.inr (.inr (by omega)))
          have HN : Hid _ := @hn
          have HLn : Hid _ := hl
          clear hn hl HG h3
          go_wp2_with (at_builtin; refine wp_appI rfl (.tmp 46) (.tmp 49) 44 44 rfl underN _ out rfl hr _ [1 % 1000000000] rfl hs HLn.out ?_)
          intro v' w1 g1 g2 g3 g4
          have HF := app_fresh HI.out.keep HI.out.fresh g2 g3
          have HJ : Hid (SumI w w1 v' a b (out ++ [1 % 1000000000]) (i + 1) (1 / 1000000000)) := HN.out g1 HF.1 HF.2
          clear g1 g2 g3 g4 HF hr hs
          go_wp2
          go_roundw
          case rel => exact ⟨i + 1, 1 / 1000000000, _, by go_num, by go_num, HJ⟩
          case measure => (have := HT.out; simp [intOf]; try omega)

theorem sum_big (u v : Value) (M N K L : Nat) (w : World) (hu : Big w u M K) (hv : Big w v N L) (hK : K ≤ 100000) (hL : L ≤ 100000) :
    Calls Tryz.prog 29 #[u, v] w fun e w' => ∃ v', e = .returned v' ∧ (Big w' v' (M + N) (max K L + 1) ∧ Fresh w w' v') ∧ Keep [] w w' := by
  obtain ⟨a, h1, h2, h3, rfl, h5⟩ := hu
  obtain ⟨b, g1, g2, g3, rfl, g5⟩ := hv
  refine (sum_any u v a b w h1 g1 h2 g2 h3 g3 (by omega) (by omega)).mono ?_
  rintro e w' ⟨v', he, ⟨k1, k2⟩, k3⟩
  exact ⟨v', he, ⟨k1.mono (by omega), k2⟩, k3⟩
end Go.Proofs.YthdibaeelbkghaaGreatDoor

/- The document's less. -/
namespace Go.Proofs.YthdibaeelbkghaaGreatDoor
open Go.RowKit Go.PlainAid

set_option maxRecDepth 1000000 in
set_option maxHeartbeats 3200000 in
theorem less_any (u v : Value) (a b : List Nat) (w : World) (hu : Is w u a) (hv : Is w v b) (La : Lim a) (Lb : Lim b) (Nb : Nrm b) (ha : a.length ≤ 100000) (hba : bigV b ≤ bigV a) :
    Calls Tryz.prog 31 #[u, v] w fun e w' => ∃ v', e = .returned v' ∧ (Big w' v' (bigV a - bigV b) a.length ∧ Fresh w w' v') ∧ Keep [] w w' := by
  obtain ⟨ao, ca, rfl, p1, p2, _, p4⟩ := hu.ex
  obtain ⟨bo, cb, rfl, q1, q2, _, q4⟩ := hv.ex
  simp only [maxLen] at p2 q2
  have HA : Hid (a ≠ [] → ∃ b o, ao = some ⟨b, o, none⟩ ∧ ∀ j, j < a.length → w.cell? ⟨b, o + j, none⟩ = some (.int .i64 ((a.getD j 0 : Nat) : Int))) := p4
  have HB : Hid (b ≠ [] → ∃ b' o, bo = some ⟨b', o, none⟩ ∧ ∀ j, j < b.length → w.cell? ⟨b', o + j, none⟩ = some (.int .i64 ((b.getD j 0 : Nat) : Int))) := q4
  have HL : Hid (Lim a ∧ Lim b ∧ Nrm b ∧ bigV b ≤ bigV a) := ⟨La, Lb, Nb, hba⟩
  clear p4 q4 hu hv La Lb Nb hba
  go_enter Tryz.func31, Tryz.ntmps31
  go_wp2
  go_loopw [5, 6, 7] (fun ov cv iv wr => ∃ (i c : Nat) (out : List Nat), cv = .int .i64 (c : Int) ∧ iv = .int .i64 (i : Int) ∧ i ≤ a.length ∧ Hid (LesI w wr ov a b out i c)) (fun _ _ iv _ => a.length - (intOf iv).toNat)
  case atStart => exact ⟨0, 0, [], rfl, rfl, Nat.zero_le _, (⟨Rw.nil w, Fresh.nil w w, Keep.refl _ w, Lim.nil, by simp [bigV], rfl, by omega⟩ : LesI w w _ a b [] 0 0)⟩
  case round =>
    obtain ⟨i, c, out, rfl, rfl, hil, HI⟩ := hrel
    have hc1 : c ≤ 1 := HI.out.low
    have hgen : ∀ x c' : Nat, x < 1000000000 → c' ≤ 1 → x + b.getD i 0 + c = a.getD i 0 + 1000000000 * c' →
        Rw (wr.alloc (.cells #[.int .i64 (x : Int)] TI)) u5 out ∧ Src Tryz.prog 1 TN (.slice (some ⟨wr.heap.size, 0, none⟩) 1 1) 1 (iv [x]) (wr.alloc (.cells #[.int .i64 (x : Int)] TI)) ∧ out.length + [x].length ≤ 1000000000 ∧
        ∀ {w1 n'}, Rw w1 n' (out ++ [x]) → Keep [] w w1 → Fresh w w1 n' → LesI w w1 n' a b (out ++ [x]) (i + 1) c' := by
      intro x c' hx hc' he
      exact ⟨HI.out.row.keep (Keep.alloc1 wr _) (Off.nil _), (Is.one wr x).src, by have := HI.out.len; simp; omega, fun a b d => HI.out.next hx hc' he a b d⟩
    have HG : Hid _ := hgen
    clear hgen
    by_cases h1 : i < a.length
    · obtain ⟨p, o, rfl, hcell⟩ := HA.out (by intro hz; rw [hz] at h1; simp at h1)
      have hcw : wr.cell? ⟨p, o + i, none⟩ = some (.int .i64 ((a.getD i 0 : Nat) : Int)) := HI.out.keep.cell' (hcell i h1) (by simp)
      have h1i : (i : Int) < (a.length : Int) := by omega
      have hla := HL.out.1.get i
      clear hcell
      by_cases h2 : i < b.length
      · obtain ⟨q, o2, rfl, hcell2⟩ := HB.out (by intro hz; rw [hz] at h2; simp at h2)
        have hcw2 : wr.cell? ⟨q, o2 + i, none⟩ = some (.int .i64 ((b.getD i 0 : Nat) : Int)) := HI.out.keep.cell' (hcell2 i h2) (by simp)
        have h2i : (i : Int) < (b.length : Int) := by omega
        have hlb := HL.out.2.1.get i
        clear hcell2
        generalize a.getD i 0 = x at *
        generalize b.getD i 0 = y at *
        by_cases hn : c + y ≤ x
        · obtain ⟨hr, hs, hl, hn'⟩ := HG.out (x - (c + y)) 0 (by omega) (by omega) (by omega)
          have HN : Hid _ := @hn'
          have HLn : Hid _ := hl
          have hneg : ¬ (x : Int) - (c : Int) - (y : Int) < 0 := by omega
          clear hn' hl HG
          rw [show ((x - (c + y) : Nat) : Int) = (x : Int) - (c : Int) - (y : Int) by omega] at hr hs
          go_wp2_with (at_builtin; refine wp_appI rfl (.tmp 35) (.tmp 37) 44 44 rfl underN _ out rfl hr _ [x - (c + y)] rfl hs HLn.out ?_)
          intro v' w1 g1 g2 g3 g4
          have HF := app_fresh HI.out.keep HI.out.fresh g2 g3
          have HJ : Hid (LesI w w1 v' a b (out ++ [x - (c + y)]) (i + 1) 0) := HN.out g1 HF.1 HF.2
          clear g1 g2 g3 g4 HF hr hs
          go_wp2
          go_roundw
          case rel => exact ⟨i + 1, 0, _, rfl, by go_num, by omega, HJ⟩
          case measure => (simp [intOf]; try omega)
        · obtain ⟨hr, hs, hl, hn'⟩ := HG.out (x + 1000000000 - (c + y)) 1 (by omega) (by omega) (by omega)
          have HN : Hid _ := @hn'
          have HLn : Hid _ := hl
          have hneg : (x : Int) - (c : Int) - (y : Int) < 0 := by omega
          clear hn' hl HG
          rw [show ((x + 1000000000 - (c + y) : Nat) : Int) = (x : Int) - (c : Int) - (y : Int) + 1000000000 by omega] at hr hs
          go_wp2_with (at_builtin; refine wp_appI rfl (.tmp 35) (.tmp 37) 44 44 rfl underN _ out rfl hr _ [x + 1000000000 - (c + y)] rfl hs HLn.out ?_)
          intro v' w1 g1 g2 g3 g4
          have HF := app_fresh HI.out.keep HI.out.fresh g2 g3
          have HJ : Hid (LesI w w1 v' a b (out ++ [x + 1000000000 - (c + y)]) (i + 1) 1) := HN.out g1 HF.1 HF.2
          clear g1 g2 g3 g4 HF hr hs
          go_wp2
          go_roundw
          case rel => exact ⟨i + 1, 1, _, rfl, by go_num, by omega, HJ⟩
          case measure => (simp [intOf]; try omega)
      · have h2i : ¬ (i : Int) < (b.length : Int) := by omega
        have HZ := HG.out
        rw [getD_none h2] at HZ
        have HG2 : Hid _ := HZ
        clear HZ HG
        generalize a.getD i 0 = x at *
        by_cases hn : c ≤ x
        · obtain ⟨hr, hs, hl, hn'⟩ := HG2.out (x - c) 0 (by omega) (by omega) (by omega)
          have HN : Hid _ := @hn'
          have HLn : Hid _ := hl
          have hneg : ¬ (x : Int) - (c : Int) < 0 := by omega
          clear hn' hl HG2
          rw [show ((x - c : Nat) : Int) = (x : Int) - (c : Int) by omega] at hr hs
          go_wp2_with (at_builtin; refine wp_appI rfl (.tmp 35) (.tmp 37) 44 44 rfl underN _ out rfl hr _ [x - c] rfl hs HLn.out ?_)
          intro v' w1 g1 g2 g3 g4
          have HF := app_fresh HI.out.keep HI.out.fresh g2 g3
          have HJ : Hid (LesI w w1 v' a b (out ++ [x - c]) (i + 1) 0) := HN.out g1 HF.1 HF.2
          clear g1 g2 g3 g4 HF hr hs
          go_wp2
          go_roundw
          case rel => exact ⟨i + 1, 0, _, rfl, by go_num, by omega, HJ⟩
          case measure => (simp [intOf]; try omega)
        · obtain ⟨hr, hs, hl, hn'⟩ := HG2.out (x + 1000000000 - c) 1 (by omega) (by omega) (by omega)
          have HN : Hid _ := @hn'
          have HLn : Hid _ := hl
          have hneg : (x : Int) - (c : Int) < 0 := by omega
          clear hn' hl HG2
          rw [show ((x + 1000000000 - c : Nat) : Int) = (x : Int) - (c : Int) + 1000000000 by omega] at hr hs
          go_wp2_with (at_builtin; refine wp_appI rfl (.tmp 35) (.tmp 37) 44 44 rfl underN _ out rfl hr _ [x + 1000000000 - c] rfl hs HLn.out ?_)
          intro v' w1 g1 g2 g3 g4
          have HF := app_fresh HI.out.keep HI.out.fresh g2 g3
          have HJ : Hid (LesI w w1 v' a b (out ++ [x + 1000000000 - c]) (i + 1) 1) := HN.out g1 HF.1 HF.2
          clear g1 g2 g3 g4 HF hr hs
          go_wp2
          go_roundw
          case rel => exact ⟨i + 1, 1, _, rfl, by go_num, by omega, HJ⟩
          case measure => (simp [intOf]; try omega)
    · have h1i : ¬ (i : Int) < (a.length : Int) := by omega
      have hlen : i = a.length := by omega
      have hfin := HI.out.fin HL.out.1 HL.out.2.2.1 hlen HL.out.2.2.2
      have HV : Hid (bigV out = bigV a - bigV b ∧ out.length = a.length) := hfin
      have hP := plain_any u5 out wr HI.out.row.bs
      clear HG hlen hfin
      go_wp2_with (go_at_call 42; refine hP.mono ?_; rintro e9 w9 ⟨v9, rfl, hc9, hw9⟩; obtain rfl := hw9.symm)
      go_ret
      exact ⟨_, rfl, cut_big hc9 HI.out.lim HV.out.1 (by rw [HV.out.2]; exact Nat.le_refl _) HI.out.fresh, HI.out.keep⟩

theorem less_big (u v : Value) (M N K L : Nat) (w : World) (hu : Big w u M K) (hv : Big w v N L) (hK : K ≤ 100000) (hMN : N ≤ M) :
    Calls Tryz.prog 31 #[u, v] w fun e w' => ∃ v', e = .returned v' ∧ (Big w' v' (M - N) K ∧ Fresh w w' v') ∧ Keep [] w w' := by
  obtain ⟨a, h1, h2, h3, rfl, h5⟩ := hu
  obtain ⟨b, g1, g2, g3, rfl, g5⟩ := hv
  refine (less_any u v a b w h1 g1 h2 g2 g3 (by omega) hMN).mono ?_
  rintro e w' ⟨v', he, ⟨k1, k2⟩, k3⟩
  exact ⟨v', he, ⟨k1.mono (by omega), k2⟩, k3⟩
end Go.Proofs.YthdibaeelbkghaaGreatDoor
