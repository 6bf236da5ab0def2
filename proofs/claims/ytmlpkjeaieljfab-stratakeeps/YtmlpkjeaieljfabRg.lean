/- Which nodes are in one part: rings. -/
import Derived.Test.YtmlpkjeaieljfabHe
namespace Go.Proofs.Ytmlpkjeaieljfab
open Go.RowKit Go.PlainAid Go.Sort

/-- rings, counted by their least nodes -/
structure Rings (E : Nat → Nat → Prop) (n : Nat) (R : List Nat) (m : Nat) : Prop where
  len : R.length = n
  lt : ∀ x, x < n → R.getD x 0 < m
  same : ∀ x y, x < n → y < n → (R.getD x 0 = R.getD y 0 ↔ Mut E x y)
  rise : ∀ x, x < n → ∀ r, r < R.getD x 0 → ∃ y, y < x ∧ R.getD y 0 = r
  full : ∀ r, r < m → ∃ x, x < n ∧ R.getD x 0 = r
  le : m ≤ n

/-- within the loop of rings -/
structure RI (n : Nat) (h : List Int) (i : Nat) (R : List Nat) (b : List Int) (c : Nat) : Prop where
  new : ∀ z : Nat, z < n → b.getD z 0 = -1 → ∀ x, x < i → h.getD x 0 ≠ (z : Int)
  old : ∀ z : Nat, z < n → b.getD z 0 ≠ -1 → ∃ r : Nat, b.getD z 0 = (r : Int) ∧ r < c
  val : ∀ x (z : Nat), x < i → z < n → h.getD x 0 = (z : Int) → b.getD z 0 = (R.getD x 0 : Int)
  inj : ∀ z z' : Nat, z < n → z' < n → b.getD z 0 ≠ -1 → b.getD z 0 = b.getD z' 0 → z = z'
  full : ∀ r, r < c → ∃ x, x < i ∧ R.getD x 0 = r
  rise : ∀ x, x < i → ∀ r, r < R.getD x 0 → ∃ y, y < x ∧ R.getD y 0 = r
  lt : ∀ x, x < i → R.getD x 0 < c
  le : c ≤ i

theorem RI.start (n : Nat) (h : List Int) (R : List Nat) : RI n h 0 R (List.replicate n (-1)) 0 := by
  have hb : ∀ z : Nat, z < n → (List.replicate n (-1 : Int)).getD z 0 = -1 := fun z hz => by rw [List.getD_eq_getElem?_getD, List.getElem?_replicate, if_pos hz]; rfl
  exact ⟨fun _ _ _ x hx => by omega, fun z hz h => absurd (hb z hz) h, fun x _ hx => by omega, fun z _ hz _ h _ => absurd (hb z hz) h, fun r hr => by omega, fun x hx => by omega, fun x hx => by omega, Nat.le_refl _⟩

/-- a ring that was met -/
theorem RI.met {n : Nat} {h : List Int} {i : Nat} {R : List Nat} {b : List Int} {c : Nat} (hi : RI n h i R b c) (hin : i < n) (hR : R.length = n) {z q : Nat} (hz : z < n) (hh : h.getD i 0 = (z : Int)) (hq : b.getD z 0 = (q : Int)) : RI n h (i + 1) (R.set i q) b c := by
  have hg : ∀ x, (R.set i q).getD x 0 = if x = i then q else R.getD x 0 := fun x => getD_set _ _ _ _ _ (by omega)
  have hqc : q < c := by
    obtain ⟨r, h1, h2⟩ := hi.old z hz (by rw [hq]; omega)
    omega
  refine ⟨fun z' hz' hb x hx => ?_, hi.old, fun x z' hx hz' hx2 => ?_, hi.inj, fun r hr => ?_, fun x hx r hr => ?_, fun x hx => ?_, by have := hi.le; omega⟩
  · by_cases hxi : x = i
    · subst hxi
      rw [hh]
      intro e
      have : z = z' := by omega
      subst this
      rw [hq] at hb
      omega
    · exact hi.new z' hz' hb x (by omega)
  · rw [hg]
    by_cases hxi : x = i
    · subst hxi
      rw [if_pos rfl]
      have : z = z' := by omega
      subst this
      exact hq
    · rw [if_neg hxi]
      exact hi.val x z' (by omega) hz' hx2
  · obtain ⟨x, h1, h2⟩ := hi.full r hr
    exact ⟨x, by omega, by rw [hg, if_neg (by omega)]; exact h2⟩
  · rw [hg] at hr
    by_cases hxi : x = i
    · rw [if_pos hxi] at hr
      obtain ⟨y, h1, h2⟩ := hi.full r (by omega)
      exact ⟨y, by omega, by rw [hg, if_neg (by omega)]; exact h2⟩
    · rw [if_neg hxi] at hr
      obtain ⟨y, h1, h2⟩ := hi.rise x (by omega) r hr
      exact ⟨y, h1, by rw [hg, if_neg (by omega)]; exact h2⟩
  · rw [hg]
    split
    · exact hqc
    · exact hi.lt x (by omega)

/-- a new ring -/
theorem RI.fresh {n : Nat} {h : List Int} {i : Nat} {R : List Nat} {b : List Int} {c : Nat} (hi : RI n h i R b c) (hin : i < n) (hR : R.length = n) (hbl : b.length = n) {z : Nat} (hz : z < n) (hh : h.getD i 0 = (z : Int)) (hq : b.getD z 0 = -1) : RI n h (i + 1) (R.set i c) (b.set z (c : Int)) (c + 1) := by
  have hg : ∀ x, (R.set i c).getD x 0 = if x = i then c else R.getD x 0 := fun x => getD_set _ _ _ _ _ (by omega)
  have hb : ∀ x, (b.set z (c : Int)).getD x 0 = if x = z then (c : Int) else b.getD x 0 := fun x => getD_set _ _ _ _ _ (by omega)
  refine ⟨fun z' hz' hb' x hx => ?_, fun z' hz' hne => ?_, fun x z' hx hz' hx2 => ?_, fun z1 z2 h1 h2 hne he => ?_, fun r hr => ?_, fun x hx r hr => ?_, fun x hx => ?_, by have := hi.le; omega⟩
  · rw [hb] at hb'
    by_cases hzz : z' = z
    · rw [if_pos hzz] at hb'; omega
    · rw [if_neg hzz] at hb'
      by_cases hxi : x = i
      · subst hxi; rw [hh]; omega
      · exact hi.new z' hz' hb' x (by omega)
  · rw [hb] at hne ⊢
    by_cases hzz : z' = z
    · rw [if_pos hzz]; exact ⟨c, rfl, by omega⟩
    · rw [if_neg hzz] at hne ⊢
      obtain ⟨r, h1, h2⟩ := hi.old z' hz' hne
      exact ⟨r, h1, by omega⟩
  · rw [hb, hg]
    by_cases hxi : x = i
    · subst hxi
      have : z' = z := by omega
      rw [if_pos this, if_pos rfl]
    · have hne : z' ≠ z := fun e => hi.new z hz hq x (by omega) (by rw [hx2, e])
      rw [if_neg hne, if_neg hxi]
      exact hi.val x z' (by omega) hz' hx2
  · rw [hb, hb] at he
    rw [hb] at hne
    by_cases e1 : z1 = z <;> by_cases e2 : z2 = z
    · omega
    · rw [if_pos e1, if_neg e2] at he
      obtain ⟨r, h3, h4⟩ := hi.old z2 h2 (by rw [← he]; omega)
      omega
    · rw [if_neg e1, if_pos e2] at he
      rw [if_neg e1] at hne
      obtain ⟨r, h3, h4⟩ := hi.old z1 h1 hne
      omega
    · rw [if_neg e1, if_neg e2] at he
      rw [if_neg e1] at hne
      exact hi.inj z1 z2 h1 h2 hne he
  · by_cases hrc : r = c
    · exact ⟨i, by omega, by rw [hg, if_pos rfl, hrc]⟩
    · obtain ⟨x, h1, h2⟩ := hi.full r (by omega)
      exact ⟨x, by omega, by rw [hg, if_neg (by omega)]; exact h2⟩
  · rw [hg] at hr
    by_cases hxi : x = i
    · rw [if_pos hxi] at hr
      obtain ⟨y, h1, h2⟩ := hi.full r (by omega)
      exact ⟨y, by omega, by rw [hg, if_neg (by omega)]; exact h2⟩
    · rw [if_neg hxi] at hr
      obtain ⟨y, h1, h2⟩ := hi.rise x (by omega) r hr
      exact ⟨y, h1, by rw [hg, if_neg (by omega)]; exact h2⟩
  · rw [hg]
    split
    · omega
    · have := hi.lt x (by omega); omega

theorem RI.done {E : Nat → Nat → Prop} {n : Nat} {h : List Int} {R : List Nat} {b : List Int} {c : Nat} (hi : RI n h n R b c) (hR : R.length = n) (hh : ∀ x, x < n → ∃ r : Nat, r < n ∧ h.getD x 0 = (r : Int)) (hm : ∀ x y, x < n → y < n → (h.getD x 0 = h.getD y 0 ↔ Mut E x y)) : Rings E n R c := by
  refine ⟨hR, hi.lt, fun x y hx hy => ?_, hi.rise, hi.full, hi.le⟩
  obtain ⟨z1, h1, e1⟩ := hh x hx
  obtain ⟨z2, h2, e2⟩ := hh y hy
  rw [← hm x y hx hy, e1, e2]
  have v1 := hi.val x z1 hx h1 e1
  have v2 := hi.val y z2 hy h2 e2
  constructor
  · intro e
    have := hi.inj z1 z2 h1 h2 (by rw [v1]; omega) (by rw [v1, v2, e])
    omega
  · intro e
    have : z1 = z2 := by omega
    subst this
    omega

/-- what rings answers -/
def RgR (w w' : World) (v : Value) (m n : Nat) (A : List Ar) : Prop := ∃ g R, v = .slice (some ⟨g, 0, none⟩) n n ∧ w.heap.size ≤ g ∧ Arr 3 eN w' g n R ∧ Rings (Ec A) n R m ∧ Keep [] w w'

/-- the memory of the loop -/
structure Rm (w : World) (gh gr gb n : Nat) (h : List Int) (R : List Nat) (b : List Int) (wr : World) : Prop where
  hd : Arr 3 eI wr gh n h
  rg : Arr 3 eN wr gr n R
  by' : Arr 3 eI wr gb n b
  keep : Keep [] w wr
  ord : w.heap.size ≤ gh ∧ gh < gr ∧ gr < gb
theorem Rm.putR {w : World} {gh gr gb n : Nat} {h : List Int} {R : List Nat} {b : List Int} {wr : World} (m : Rm w gh gr gb n h R b wr) (i q : Nat) : Rm w gh gr gb n h (R.set i q) b (wr.setCell ⟨gr, i, none⟩ (.int .i64 (q : Int))) := by
  have o := m.ord
  have k : Keep [gr] wr (wr.setCell ⟨gr, i, none⟩ (.int .i64 (q : Int))) := Keep.set1 wr ⟨gr, i, none⟩ _
  exact ⟨m.hd.keep k (by simp; omega), m.rg.put i q, m.by'.keep k (by simp; omega), m.keep.more k (fun r hr => .inr (by simp at hr; omega)), o⟩
theorem Rm.putB {w : World} {gh gr gb n : Nat} {h : List Int} {R : List Nat} {b : List Int} {wr : World} (m : Rm w gh gr gb n h R b wr) (i q : Nat) : Rm w gh gr gb n h R (b.set i (q : Int)) (wr.setCell ⟨gb, i, none⟩ (.int .i64 (q : Int))) := by
  have o := m.ord
  have k : Keep [gb] wr (wr.setCell ⟨gb, i, none⟩ (.int .i64 (q : Int))) := Keep.set1 wr ⟨gb, i, none⟩ _
  exact ⟨m.hd.keep k (by simp; omega), m.rg.keep k (by simp; omega), m.by'.put i (q : Int), m.keep.more k (fun r hr => .inr (by simp at hr; omega)), o⟩

set_option maxRecDepth 1000000 in
set_option maxHeartbeats 4000000 in
theorem rings_own (va vf : Value) (n : Nat) (A : List Ar) (F : List Nat) (w : World) (hg : Gph w va vf n A F) (hva : ∀ x, va.ownBlock = some x → x < w.heap.size) (hvf : ∀ x, vf.ownBlock = some x → x < w.heap.size) :
    Calls Try.prog 31 #[.agg #[va, vf]] w fun e w' => ∃ v m, e = .returned (.tuple #[v, .int .i64 ((m : Nat) : Int)]) ∧ RgR w w' v m n A := by
  obtain ⟨a1, c1, rfl, -, -⟩ := hg.arcs.form
  obtain ⟨b2, o2, c2, rfl, -, -, -, -⟩ := hg.firstLen
  have hn := hg.big.2
  have HH : Hid (∀ w', Keep [] w w' → Calls Try.prog 46 #[.agg #[.slice a1 A.length c1, .slice (some ⟨b2, o2, none⟩) (n + 1) c2]] w' fun e w2 => ∃ v, e = .returned v ∧ HdR w' w2 v n A) := fun w' k => heads_own _ _ n A F _ (hg.keep k (Off.nil _) (Off.nil _)) (fun x hx => Nat.lt_of_lt_of_le (hva x hx) k.size) (fun x hx => Nat.lt_of_lt_of_le (hvf x hx) k.size)
  obtain ⟨i3, hi3, hz3, hs3, hy3⟩ := info_parts infoI
  have HB2 : Hid (i3.bytes * n ≤ 281474976710656) := show i3.bytes * n ≤ 281474976710656 by rw [hy3]; omega
  have HB3 : Hid (n ≤ maxLen) := show n ≤ maxLen by simp only [maxLen]; omega
  clear hg hva hvf
  go_enter Try.func31, Try.ntmps31
  go_wp2_with fail
  refine (HH.out _ (Keep.alloc1 w _)).mono ?_
  rintro e w1 ⟨v, rfl, gh, h, rfl, p1, p2, p3, p4, p5⟩
  have hgs : gh < w1.heap.size := p2.lt
  have H1 : Hid (w.heap.size < gh ∧ Arr 3 eI w1 gh n h ∧ (∀ x, x < n → ∃ r : Nat, r < n ∧ h.getD x 0 = (r : Int)) ∧ (∀ x y, x < n → y < n → (h.getD x 0 = h.getD y 0 ↔ Mut (Ec A) x y)) ∧ Keep [] w w1) := ⟨by simp at p1; omega, p2, p3, p4, (Keep.alloc1 w _).trans' p5⟩
  clear p1 p2 p3 p4 p5 HH
  go_wp2_with (at_make; refine wpList_make_full _ rfl (.tmp 13) (.tmp 13) 28 rfl 0 3 i3 (.int .i64 0) 1 Try.underlying28 hi3 hz3 hs3 .i64 .i64 _ _ n rfl rfl rfl rfl HB2.out HB3.out (Nat.zero_le _) ?_)
  intro w2 r1 r2
  obtain ⟨gr, HGR⟩ : ∃ gr : Nat, Hid (gr = w1.heap.size) := ⟨_, show _ = _ from rfl⟩
  rw [← HGR.out] at r1 ⊢
  have H2 : Hid (Arr 3 eN w2 gr n (List.replicate n 0) ∧ Keep [] w1 w2 ∧ gr < w2.heap.size) := ⟨Arr.made (e := eN) (z := 0) r1, Keep.mono (Keep.grown r2) (by simp), (Arr.made (e := eN) (z := 0) r1).lt⟩
  clear r1 r2 HB2 HB3 hi3 hz3 hs3 hy3
  obtain ⟨b1, HB1⟩ : ∃ b1 : Nat, Hid (b1 = w2.heap.size) := ⟨_, show _ = _ from rfl⟩
  have HRp : Hid (∀ (_ : True), Calls Try.prog 47 #[.slice (some ⟨b1, 0, none⟩) 1 1, .int .i64 (n : Int)] (w2.alloc (.cells #[.int .i64 (-1)] 3)) fun e w' => e = .returned (.slice (some ⟨b1 + 1, 0, none⟩) n n) ∧ Arr 3 eI w' (b1 + 1) n (List.replicate n (-1)) ∧ Keep [] (w2.alloc (.cells #[.int .i64 (-1)] 3)) w') := fun _ => by
    have hb := heap_alloc_new w2 (.cells #[.int .i64 (-1)] 3)
    rw [← HB1.out] at hb
    have h := repeat_any b1 n (-1) (w2.alloc (.cells #[.int .i64 (-1)] 3)) (by simp only [World.cell?, hb]; rfl) hn
    rw [show (w2.alloc (.cells #[.int .i64 (-1)] 3)).heap.size = b1 + 1 by rw [HB1.out]; simp] at h
    exact h
  go_wp2_with fail
  rw [← HB1.out]
  refine (HRp.out trivial).mono ?_
  rintro e w3 ⟨rfl, ar3, k3⟩
  obtain ⟨gb, HGB⟩ : ∃ gb : Nat, Hid (gb = b1 + 1) := ⟨_, show _ = _ from rfl⟩
  rw [← HGB.out] at ar3 ⊢
  have HM : Hid (Rm w gh gr gb n h (List.replicate n 0) (List.replicate n (-1)) w3) := by
    have k23 : Keep [] w2 w3 := (Keep.alloc1 w2 _).trans' k3
    have h1 := H1.out
    have h2 := H2.out
    exact ⟨(h1.2.1.keep h2.2.1 (by simp)).keep k23 (by simp), h2.1.keep k23 (by simp), ar3, (h1.2.2.2.2.trans' h2.2.1).trans' k23, by omega, by rw [HGR.out]; exact hgs, by rw [HGB.out, HB1.out]; omega⟩
  clear ar3 k3 HRp HB1 HGB HGR H2 hgs
  go_wp2
  go_loopw [6, 21] (fun cv iv wr => ∃ (i c : Nat) (R : List Nat) (b : List Int), cv = .int .i64 (c : Int) ∧ iv = .int .i64 (i : Int) ∧ i ≤ n ∧ c ≤ i ∧ Hid (Rm w gh gr gb n h R b wr) ∧ Hid (RI n h i R b c)) (fun _ iv _ => n - (intOf iv).toNat)
  case atStart => exact ⟨0, 0, _, _, rfl, rfl, Nat.zero_le _, Nat.le_refl _, HM, RI.start _ _ _⟩
  case round =>
    clear HM
    obtain ⟨i, c, R, b, rfl, rfl, hi, hc, HM, HI⟩ := hrel
    by_cases hlt : i < n
    · have hlti : (i : Int) < (n : Int) := by omega
      obtain ⟨z, hz, hzz⟩ := H1.out.2.2.1 i hlt
      have hzi : (z : Int) < (n : Int) := by omega
      have c0 : wr.cell? ⟨gh, i, none⟩ = some (.int .i64 (z : Int)) := by rw [HM.out.hd.cell 0 i hlt, hzz]; rfl
      by_cases hb : b.getD z 0 = -1
      · have c2 : wr.cell? ⟨gb, z, none⟩ = some (.int .i64 (-1)) := by rw [HM.out.by'.cell 0 z hz, hb]; rfl
        have f2 := HM.out.by'.free z
        have f1 := HM.out.rg.free i
        have HJ : Hid (Rm w gh gr gb n h (R.set i c) (b.set z (c : Int)) ((wr.setCell ⟨gb, z, none⟩ (.int .i64 (c : Int))).setCell ⟨gr, i, none⟩ (.int .i64 (c : Int))) ∧ RI n h (i + 1) (R.set i c) (b.set z (c : Int)) (c + 1)) := ⟨(HM.out.putB z c).putR i c, HI.out.fresh hlt HM.out.rg.len HM.out.by'.len hz hzz hb⟩
        have g1 : (wr.setCell ⟨gb, z, none⟩ (.int .i64 (c : Int))).frozen? ⟨gr, i, none⟩ = false := (HM.out.putB z c).rg.free i
        have g2 : (wr.setCell ⟨gb, z, none⟩ (.int .i64 (c : Int))).cell? ⟨gb, z, none⟩ = some (.int .i64 (c : Int)) := by
          have hl := HM.out.by'.len
          rw [(HM.out.putB z c).by'.cell 0 z hz, getD_set _ _ _ _ _ (by omega), if_pos rfl]; rfl
        have g3 : (wr.setCell ⟨gb, z, none⟩ (.int .i64 (c : Int))).cell? ⟨gr, i, none⟩ = some (.int .i64 (R.getD i 0 : Int)) := (HM.out.putB z c).rg.cell 0 i hlt
        clear HM HI hb hzz
        go_wp2
        go_roundw
        case rel => exact ⟨i + 1, c + 1, _, _, by go_num, by go_num, by omega, by omega, HJ.out.1, HJ.out.2⟩
        case measure => simp [intOf]; omega
      · obtain ⟨q, hq, hqc⟩ := HI.out.old z hz hb
        have c2 : wr.cell? ⟨gb, z, none⟩ = some (.int .i64 (q : Int)) := by rw [HM.out.by'.cell 0 z hz, hq]; rfl
        have hqe : ((q : Int) == -1) = false := by simp
        have f1 := HM.out.rg.free i
        have c3 : wr.cell? ⟨gr, i, none⟩ = some (.int .i64 (R.getD i 0 : Int)) := HM.out.rg.cell 0 i hlt
        have HJ : Hid (Rm w gh gr gb n h (R.set i q) b (wr.setCell ⟨gr, i, none⟩ (.int .i64 (q : Int))) ∧ RI n h (i + 1) (R.set i q) b c) := ⟨HM.out.putR i q, HI.out.met hlt HM.out.rg.len hz hzz hq⟩
        clear HM HI hb hzz hq
        go_wp2
        go_roundw
        case rel => exact ⟨i + 1, c, _, _, rfl, by go_num, by omega, by omega, HJ.out.1, HJ.out.2⟩
        case measure => simp [intOf]; omega
    · have hlti : ¬ (i : Int) < (n : Int) := by omega
      have hin : i = n := by omega
      have HE : Hid (RgR w wr (.slice (some ⟨gr, 0, none⟩) n n) c n A) := by
        have hI := HI.out
        rw [hin] at hI
        exact ⟨gr, R, rfl, by have := HM.out.ord; omega, HM.out.rg, hI.done HM.out.rg.len H1.out.2.2.1 H1.out.2.2.2.1, HM.out.keep⟩
      clear HM HI hin
      go_wp2
      go_ret2
      exact ⟨_, _, rfl, HE.out⟩
end Go.Proofs.Ytmlpkjeaieljfab

