/- The order of the rings: mathematics. -/
import Derived.Test.YtmlpkjeaieljfabQb

namespace Go.Proofs.Ytmlpkjeaieljfab

def rp (R : List Nat) (a : Ar) : Nat × Nat := (R.getD a.f 0, R.getD a.t 0)
/-- the arcs between two rings -/
def prs (R : List Nat) (A : List Ar) : List (Nat × Nat) := (A.map (rp R)).filter (fun q => decide (q.1 ≠ q.2))
theorem prs_next (R : List Nat) (A : List Ar) (i : Nat) (hi : i < A.length) : prs R (A.take (i + 1)) = prs R (A.take i) ++ if (rp R A[i]).1 ≠ (rp R A[i]).2 then [rp R A[i]] else [] := by
  unfold prs
  rw [List.take_succ_eq_append_getElem hi, List.map_append, List.filter_append]
  congr 1
  by_cases h : (rp R A[i]).1 ≠ (rp R A[i]).2 <;> simp [h]
theorem prs_mem {R : List Nat} {A : List Ar} {q : Nat × Nat} : q ∈ prs R A ↔ (∃ a ∈ A, rp R a = q) ∧ q.1 ≠ q.2 := by
  simp [prs]

def comL (P : List (Nat × Nat)) (s : Nat) : List Nat := (P.filter (fun q => decide (q.2 = s))).map (·.1)
def owe (P : List (Nat × Nat)) (T : List Nat) (c : Nat) : Nat := P.countP (fun q => decide (q.1 = c ∧ q.2 ∉ T))
theorem owe_zero {P : List (Nat × Nat)} {T : List Nat} {c : Nat} : owe P T c = 0 ↔ ∀ q ∈ P, q.1 = c → q.2 ∈ T := by
  unfold owe
  rw [List.countP_eq_zero]
  constructor
  · intro h q hq e
    have := h q hq
    simp at this
    exact this e
  · intro h q hq
    simp
    exact h q hq
theorem comL_app (P : List (Nat × Nat)) (q : Nat × Nat) (s : Nat) : comL (P ++ [q]) s = if s = q.2 then comL P s ++ [q.1] else comL P s := by
  unfold comL
  rw [List.filter_append, List.map_append]
  by_cases h : s = q.2
  · rw [if_pos h, h]; simp
  · rw [if_neg h]
    simp
    exact fun e => h e.symm
theorem owe_app (P : List (Nat × Nat)) (q : Nat × Nat) (c : Nat) : owe (P ++ [q]) [] c = if c = q.1 then owe P [] c + 1 else owe P [] c := by
  unfold owe
  rw [List.countP_append]
  by_cases h : c = q.1
  · rw [if_pos h, h]; simp
  · rw [if_neg h]
    have h2 : ¬ q.1 = c := fun e => h e.symm
    simp [h2]
theorem comL_count (P : List (Nat × Nat)) (r c : Nat) : (comL P r).countP (fun x => decide (x = c)) = P.countP (fun q => decide (q.1 = c ∧ q.2 = r)) := by
  unfold comL
  rw [List.countP_map, List.countP_filter]
  congr 1
  funext q
  simp
theorem owe_split (P : List (Nat × Nat)) (T : List Nat) (r c : Nat) (hr : r ∉ T) : owe P T c = owe P (T ++ [r]) c + (comL P r).countP (fun x => decide (x = c)) := by
  rw [comL_count]
  unfold owe
  induction P with
  | nil => rfl
  | cons q P ih =>
    rw [List.countP_cons, List.countP_cons, List.countP_cons, ih]
    by_cases h1 : q.1 = c
    · by_cases h2 : q.2 = r
      · have h3 : q.2 ∉ T := by rw [h2]; exact hr
        simp [h1, h2, hr]
        omega
      · by_cases h3 : q.2 ∈ T
        · simp [h1, h2, h3]
        · simp [h1, h2, h3]
          omega
    · simp [h1]

/-- an order of rings so far -/
structure Ok (P : List (Nat × Nat)) (m : Nat) (T : List Nat) : Prop where
  nodup : T.Nodup
  lt : ∀ t ∈ T, t < m
  out : ∀ k, k < T.length → ∀ q ∈ P, q.1 = T.getD k 0 → q.2 ∈ T.take k
  least : ∀ k, k < T.length → ∀ c, c < m → c ∉ T.take k → (∀ q ∈ P, q.1 = c → q.2 ∈ T.take k) → T.getD k 0 ≤ c

theorem Ok.zero {P : List (Nat × Nat)} {m : Nat} {T : List Nat} (h : Ok P m T) : ∀ t ∈ T, ∀ q ∈ P, q.1 = t → q.2 ∈ T := fun t ht q hq e => by
  obtain ⟨k, hk, he⟩ := List.mem_iff_getElem.1 ht
  refine List.mem_of_mem_take (h.out k hk q hq ?_)
  rw [e, ← he, List.getD_eq_getElem?_getD, List.getElem?_eq_getElem hk]
  rfl
theorem getD_app {T : List Nat} {r k : Nat} : (T ++ [r]).getD k 0 = if k < T.length then T.getD k 0 else if k = T.length then r else 0 := by
  rw [List.getD_eq_getElem?_getD, List.getD_eq_getElem?_getD]
  by_cases h : k < T.length
  · rw [if_pos h, List.getElem?_append_left h]
  · rw [if_neg h, List.getElem?_append_right (by omega)]
    by_cases h2 : k = T.length
    · rw [if_pos h2, h2]; simp
    · rw [if_neg h2, List.getElem?_eq_none (by simp; omega)]; rfl
theorem Ok.next {P : List (Nat × Nat)} {m : Nat} {T : List Nat} (h : Ok P m T) {r : Nat} (hr : r < m) (hn : r ∉ T) (ho : ∀ q ∈ P, q.1 = r → q.2 ∈ T) (hl : ∀ c, c < m → c ∉ T → (∀ q ∈ P, q.1 = c → q.2 ∈ T) → r ≤ c) : Ok P m (T ++ [r]) := by
  have ht : ∀ k, k < (T ++ [r]).length → (T ++ [r]).take k = T.take k := fun k hk => by
    rw [List.length_append, List.length_singleton] at hk
    rw [List.take_append_of_le_length (by omega)]
  refine ⟨?_, fun t ht => ?_, fun k hk q hq e => ?_, fun k hk c hc hcn hcr => ?_⟩
  · rw [List.nodup_append]
    refine ⟨h.nodup, by simp, fun a ha b hb e => ?_⟩
    simp at hb
    subst hb
    subst e
    exact hn ha
  · rw [List.mem_append] at ht
    rcases ht with ht | ht
    · exact h.lt t ht
    · simp at ht; omega
  · rw [ht k hk]
    rw [getD_app] at e
    rw [List.length_append, List.length_singleton] at hk
    by_cases hkl : k < T.length
    · rw [if_pos hkl] at e
      exact h.out k hkl q hq e
    · obtain rfl : k = T.length := by omega
      rw [if_neg hkl, if_pos rfl] at e
      rw [List.take_length]
      exact ho q hq e
  · rw [ht k hk] at hcn hcr
    rw [getD_app]
    rw [List.length_append, List.length_singleton] at hk
    by_cases hkl : k < T.length
    · rw [if_pos hkl]
      exact h.least k hkl c hc hcn hcr
    · obtain rfl : k = T.length := by omega
      rw [if_neg hkl, if_pos rfl]
      rw [List.take_length] at hcn hcr
      exact hl c hc hcn hcr

/-- between two rings -/
structure St (P : List (Nat × Nat)) (m : Nat) (T O W : List Nat) : Prop where
  ok : Ok P m T
  len : O.length = m
  fall : W.Pairwise (· > ·)
  mem : ∀ x, x ∈ W ↔ x < m ∧ x ∉ T ∧ O.getD x 0 = 0
  cnt : ∀ c, c < m → O.getD c 0 = owe P T c
/-- among the comers of r -/
structure Mid (P : List (Nat × Nat)) (m : Nat) (T : List Nat) (r j : Nat) (O W : List Nat) : Prop where
  ok : Ok P m (T ++ [r])
  len : O.length = m
  fall : W.Pairwise (· > ·)
  mem : ∀ x, x ∈ W ↔ x < m ∧ x ∉ T ++ [r] ∧ O.getD x 0 = 0
  cnt : ∀ c, c < m → O.getD c 0 + ((comL P r).take j).countP (fun x => decide (x = c)) = owe P T c
  new : r ∉ T

theorem fall_last {W : List Nat} {r : Nat} (h : (W ++ [r]).Pairwise (· > ·)) : ∀ x ∈ W, r < x := fun x hx => (List.pairwise_append.1 h).2.2 x hx r (by simp)

theorem St.take {P : List (Nat × Nat)} {m : Nat} {T O W : List Nat} {r : Nat} (h : St P m T O (W ++ [r])) : Mid P m T r 0 O W ∧ r < m := by
  have hr := (h.mem r).1 (by simp)
  have hz : owe P T r = 0 := by rw [← h.cnt r hr.1]; exact hr.2.2
  refine ⟨⟨h.ok.next hr.1 hr.2.1 (owe_zero.1 hz) (fun c hc hcn hcr => ?_), h.len, (List.pairwise_append.1 h.fall).1, fun x => ?_, fun c hc => by simpa using h.cnt c hc, hr.2.1⟩, hr.1⟩
  · have : c ∈ W ++ [r] := (h.mem c).2 ⟨hc, hcn, by rw [h.cnt c hc]; exact owe_zero.2 hcr⟩
    rw [List.mem_append] at this
    rcases this with hw | hw
    · have := fall_last h.fall c hw; omega
    · simp at hw; omega
  · have hm := h.mem x
    rw [List.mem_append] at hm
    constructor
    · intro hx
      have h1 := hm.1 (.inl hx)
      refine ⟨h1.1, fun hc => ?_, h1.2.2⟩
      rw [List.mem_append] at hc
      rcases hc with hc | hc
      · exact h1.2.1 hc
      · simp at hc
        have := fall_last h.fall x hx
        omega
    · rintro ⟨h1, h2, h3⟩
      rw [List.mem_append] at h2
      rcases hm.2 ⟨h1, fun hc => h2 (.inl hc), h3⟩ with hx | hx
      · exact hx
      · exact absurd (.inr hx) h2

theorem Mid.step {P : List (Nat × Nat)} {m : Nat} {T : List Nat} {r j : Nat} {O W : List Nat} (h : Mid P m T r j O W) (hP : ∀ q ∈ P, q.1 < m) (hj : j < (comL P r).length) : (comL P r).getD j 0 < m ∧ 0 < O.getD ((comL P r).getD j 0) 0 ∧ Mid P m T r (j + 1) (O.set ((comL P r).getD j 0) (O.getD ((comL P r).getD j 0) 0 - 1)) (if O.getD ((comL P r).getD j 0) 0 - 1 = 0 then insW W ((comL P r).getD j 0) else W) := by
  have hc : (comL P r).getD j 0 = (comL P r)[j] := by rw [List.getD_eq_getElem?_getD, List.getElem?_eq_getElem hj]; rfl
  rw [hc]
  generalize hcc : (comL P r)[j] = c
  have hmem : c ∈ comL P r := hcc ▸ List.getElem_mem hj
  have hcm : c < m := by
    unfold comL at hmem
    obtain ⟨q, hq, rfl⟩ := List.mem_map.1 hmem
    exact hP q (List.mem_filter.1 hq).1
  have htk : ∀ x, ((comL P r).take (j + 1)).countP (fun y => decide (y = x)) = ((comL P r).take j).countP (fun y => decide (y = x)) + if c = x then 1 else 0 := fun x => by
    rw [List.take_succ_eq_append_getElem hj, List.countP_append, hcc]
    by_cases h1 : c = x <;> simp [h1]
  have hle : ((comL P r).take (j + 1)).countP (fun y => decide (y = c)) ≤ owe P T c := by
    rw [owe_split P T r c h.new]
    have := List.Sublist.countP_le (p := fun y => decide (y = c)) (List.take_sublist (j + 1) (comL P r))
    omega
  have hpos : 0 < O.getD c 0 := by
    have h1 := h.cnt c hcm
    have h2 := htk c
    rw [if_pos rfl] at h2
    omega
  have hnew : c ∉ T ++ [r] := fun hx => by
    have h1 := h.cnt c hcm
    have h2 : owe P (T ++ [r]) c = 0 := owe_zero.2 (h.ok.zero c hx)
    rw [List.mem_append] at hx
    have h3 : owe P T c = 0 := by
      rcases hx with hx | hx
      · obtain ⟨k, hk, he⟩ := List.mem_iff_getElem.1 hx
        refine owe_zero.2 (fun q hq e => ?_)
        have := h.ok.out k (by rw [List.length_append]; omega) q hq (by rw [getD_app, if_pos hk, e, ← he, List.getD_eq_getElem?_getD, List.getElem?_eq_getElem hk]; rfl)
        rw [List.take_append_of_le_length (by omega)] at this
        exact List.mem_of_mem_take this
      · simp at hx
        subst hx
        refine owe_zero.2 (fun q hq e => ?_)
        have := h.ok.out T.length (by rw [List.length_append]; simp) q hq (by rw [getD_app, if_neg (by omega), if_pos rfl, e])
        rwa [List.take_append_of_le_length (by omega), List.take_length] at this
    omega
  have hl := h.len
  have hg : ∀ x, (O.set c (O.getD c 0 - 1)).getD x 0 = if x = c then O.getD c 0 - 1 else O.getD x 0 := fun x => getD_set _ _ _ _ _ (by omega)
  have hcW : c ∉ W := fun hx => by have := ((h.mem c).1 hx).2.2; omega
  refine ⟨hcm, hpos, ⟨h.ok, by rw [List.length_set]; exact hl, ?_, fun x => ?_, fun x hx => ?_, h.new⟩⟩
  · split
    · exact insW_fall W c h.fall hcW
    · exact h.fall
  · rw [hg]
    have hmx := h.mem x
    by_cases hz : O.getD c 0 - 1 = 0
    · rw [if_pos hz, insW_mem]
      by_cases hxc : x = c
      · rw [if_pos hxc]
        simp only [hxc, true_or, true_iff]
        exact ⟨hcm, hnew, hz⟩
      · rw [if_neg hxc]
        simp only [hxc, false_or]
        exact hmx
    · rw [if_neg hz]
      by_cases hxc : x = c
      · rw [if_pos hxc]
        rw [hxc]
        constructor
        · intro hh; exact absurd hh hcW
        · intro hh; exact absurd hh.2.2 hz
      · rw [if_neg hxc]
        exact hmx
  · rw [hg, htk]
    have h1 := h.cnt x hx
    by_cases hxc : x = c
    · subst hxc
      rw [if_pos rfl, if_pos rfl]
      omega
    · rw [if_neg hxc, if_neg (fun e => hxc e.symm)]
      omega

theorem Mid.done {P : List (Nat × Nat)} {m : Nat} {T : List Nat} {r : Nat} {O W : List Nat} (h : Mid P m T r (comL P r).length O W) : St P m (T ++ [r]) O W := by
  refine ⟨h.ok, h.len, h.fall, h.mem, fun c hc => ?_⟩
  have h1 := h.cnt c hc
  rw [List.take_length, owe_split P T r c h.new] at h1
  omega

/-- no ring waits for itself -/
def Acy (P : List (Nat × Nat)) : Prop := ∀ S : Nat → Prop, (∃ r, S r) → (∀ r, S r → ∃ q ∈ P, q.1 = r ∧ S q.2) → False

theorem exists_out (T : List Nat) (m : Nat) (h : T.length < m) : ∃ c, c < m ∧ c ∉ T := by
  apply Classical.byContradiction
  intro hn
  have hall : ∀ c, c < m → c ∈ T := fun c hc => Classical.byContradiction (fun hx => hn ⟨c, hc, hx⟩)
  have h1 : ((List.range m).map (fun c => T.idxOf c)).Nodup := by
    rw [List.Nodup, List.pairwise_map]
    refine List.Pairwise.imp_of_mem (R := (· ≠ ·)) (fun {a b} ha hb hne e => hne ?_) List.nodup_range
    have ha' := hall a (by simpa using ha)
    have hb' := hall b (by simpa using hb)
    have e1 := List.getElem_idxOf (List.idxOf_lt_length_of_mem ha')
    have e2 := List.getElem_idxOf (List.idxOf_lt_length_of_mem hb')
    rw [← e1, ← e2]
    congr 1
  have h2 := nodup_len (n := T.length) h1 (fun x hx => by
    obtain ⟨c, hc, rfl⟩ := List.mem_map.1 hx
    exact List.idxOf_lt_length_of_mem (hall c (by simpa using hc)))
  simp at h2
  omega

theorem St.some {P : List (Nat × Nat)} {m : Nat} {T O W : List Nat} (h : St P m T O W) (hP : ∀ q ∈ P, q.2 < m) (ha : Acy P) (hT : T.length < m) : W ≠ [] := fun hW => by
  subst hW
  obtain ⟨c, hc, hcn⟩ := exists_out T m hT
  refine ha (fun c => c < m ∧ c ∉ T) ⟨c, hc, hcn⟩ (fun r hr => ?_)
  have h0 : ¬ owe P T r = 0 := fun e => by
    have := (h.mem r).2 ⟨hr.1, hr.2, by rw [h.cnt r hr.1]; exact e⟩
    simp at this
  rw [owe_zero] at h0
  apply Classical.byContradiction
  intro hn
  refine h0 (fun q hq e => Classical.byContradiction fun hx => hn ⟨q, hq, e, hP q hq, hx⟩)

/-- who can come at once -/
structure Qs (P : List (Nat × Nat)) (m i : Nat) (O W : List Nat) : Prop where
  fall : W.Pairwise (· > ·)
  mem : ∀ x, x ∈ W ↔ x < m ∧ i ≤ x ∧ O.getD x 0 = 0
theorem Qs.next {P : List (Nat × Nat)} {m i : Nat} {O W : List Nat} (h : Qs P m (i + 1) O W) (hi : i < m) : Qs P m i O (if O.getD i 0 = 0 then insW W i else W) := by
  have hn : i ∉ W := fun hx => by have := ((h.mem i).1 hx).2.1; omega
  refine ⟨?_, fun x => ?_⟩
  · split
    · exact insW_fall W i h.fall hn
    · exact h.fall
  · have hm := h.mem x
    by_cases hz : O.getD i 0 = 0
    · rw [if_pos hz, insW_mem, hm]
      constructor
      · rintro (rfl | hx)
        · exact ⟨hi, Nat.le_refl _, hz⟩
        · exact ⟨hx.1, by omega, hx.2.2⟩
      · rintro ⟨h1, h2, h3⟩
        by_cases hxi : x = i
        · exact .inl hxi
        · exact .inr ⟨h1, by omega, h3⟩
    · rw [if_neg hz, hm]
      constructor
      · rintro ⟨h1, h2, h3⟩
        exact ⟨h1, by omega, h3⟩
      · rintro ⟨h1, h2, h3⟩
        refine ⟨h1, ?_, h3⟩
        by_cases hxi : x = i
        · subst hxi; exact absurd h3 hz
        · omega
theorem Qs.start {P : List (Nat × Nat)} {m : Nat} {O W : List Nat} (h : Qs P m 0 O W) (hl : O.length = m) (hc : ∀ c, c < m → O.getD c 0 = owe P [] c) : St P m [] O W :=
  ⟨⟨List.nodup_nil, fun _ h => by simp at h, fun _ h => by simp at h, fun _ h => by simp at h⟩, hl, h.fall, fun x => by rw [h.mem x]; simp, hc⟩
theorem fall_len {m : Nat} {W : List Nat} (h : W.Pairwise (· > ·)) (hm : ∀ x ∈ W, x < m) : W.length ≤ m :=
  nodup_len (n := m) (h.imp (fun {a b} hab => by omega)) hm
end Go.Proofs.Ytmlpkjeaieljfab

/- The order of the rings: memory. -/
namespace Go.Proofs.Ytmlpkjeaieljfab
open Go.RowKit Go.PlainAid Go.Sort

abbrev nilS : Value := .slice none 0 0
theorem infoS : (Try.prog.info? 28).map (fun i => (i.zero, i.size, i.bytes)) = some (some (.slice none 0 0), 1, 24) := by kernel_rfl

/-- a list of lists of one's own -/
structure Cv (B : Nat) (w : World) (gc m : Nat) (C : Nat → List Nat) (vs : List Value) : Prop where
  arr : Arr 28 id w gc m vs
  row : ∀ s, s < m → Rw 3 encN 1 w (vs.getD s nilS) (C s)
  own : ∀ s, s < m → ∀ x, (vs.getD s nilS).ownBlock = some x → B ≤ x
  apart : ∀ s t, s < m → t < m → s ≠ t → ∀ x, (vs.getD s nilS).ownBlock = some x → (vs.getD t nilS).ownBlock ≠ some x
def Cm (B : Nat) (w : World) (gc m : Nat) (C : Nat → List Nat) : Prop := ∃ vs, Cv B w gc m C vs

theorem Cv.keep {B : Nat} {w w' : World} {gc m : Nat} {C : Nat → List Nat} {vs : List Value} {F : List Nat} (h : Cv B w gc m C vs) (k : Keep F w w') (hF : ∀ x ∈ F, x < B) (hg : gc ∉ F) : Cv B w' gc m C vs :=
  ⟨h.arr.keep k hg, fun s hs => (h.row s hs).keep k (fun x hx hm => by have := h.own s hs x hx; have := hF x hm; omega), h.own, h.apart⟩
theorem Cm.keep {B : Nat} {w w' : World} {gc m : Nat} {C : Nat → List Nat} {F : List Nat} (h : Cm B w gc m C) (k : Keep F w w') (hF : ∀ x ∈ F, x < B) (hg : gc ∉ F) : Cm B w' gc m C := by
  obtain ⟨vs, hv⟩ := h
  exact ⟨vs, hv.keep k hF hg⟩
theorem Cm.start {B : Nat} {w : World} {gc m : Nat} (h : Arr 28 id w gc m (List.replicate m nilS)) : Cm B w gc m (fun _ => []) := by
  have hg : ∀ s, s < m → (List.replicate m nilS).getD s nilS = nilS := fun s _ => getD_replicate m s nilS
  refine ⟨_, h, fun s hs => ?_, fun s hs x hx => ?_, fun s t hs _ _ x hx => ?_⟩
  · rw [hg s hs]; exact Rw.nil 3 encN 1 w
  · rw [hg s hs] at hx; simp [Value.ownBlock] at hx
  · rw [hg s hs] at hx; simp [Value.ownBlock] at hx

/-- one list goes on -/
theorem Cv.push {B : Nat} {w w' : World} {gc m : Nat} {C : Nat → List Nat} {vs : List Value} {to k : Nat} {v' : Value} (h : Cv B w gc m C vs) (hto : to < m) (hgc : gc < B) (hB : B ≤ w.heap.size)
    (hr : RowC w' 3 1 v' ((C to).length + 1) ((C to).flatMap encN ++ [.int .i64 (k : Int)])) (hk : Keep (vs.getD to nilS).ownBlock.toList w w') (hf : v'.ownBlock = (vs.getD to nilS).ownBlock ∨ Fresh w w' v') :
    Cm B (w'.setCell ⟨gc, to, none⟩ v') gc m (fun s => if s = to then C s ++ [k] else C s) ∧ Kp B [gc] w (w'.setCell ⟨gc, to, none⟩ v') ∧ Arr 28 id w' gc m vs := by
  have hov := h.own to hto
  have hnb : gc ∉ (vs.getD to nilS).ownBlock.toList := fun hm => by
    have := hov gc (by simpa using hm)
    omega
  have ha : Arr 28 id w' gc m vs := h.arr.keep hk hnb
  have hb' : ∀ x, v'.ownBlock = some x → B ≤ x := fun x hx => by
    rcases hf with e | e
    · rw [e] at hx; exact hov x hx
    · have := (e x hx).1; omega
  have hl := h.arr.len
  have hg : ∀ s, (vs.set to v').getD s nilS = if s = to then v' else vs.getD s nilS := fun s => getD_set _ _ _ _ _ (by omega)
  have ks : Keep [gc] w' (w'.setCell ⟨gc, to, none⟩ v') := Keep.set1 w' ⟨gc, to, none⟩ v'
  have hlt : ∀ s, s < m → ∀ x, (vs.getD s nilS).ownBlock = some x → x < w.heap.size := fun s hs x hx => (h.row s hs).lt x hx
  have hfr : ∀ s, s < m → s ≠ to → ∀ x, (vs.getD s nilS).ownBlock = some x → v'.ownBlock ≠ some x := fun s hs hne x hx hv => by
    rcases hf with e | e
    · rw [e] at hv
      exact h.apart s to hs hto hne x hx hv
    · have := (e x hv).1
      have := hlt s hs x hx
      omega
  refine ⟨⟨_, ha.put to v', fun s hs => ?_, fun s hs x hx => ?_, fun s t hs ht hne x hx hx2 => ?_⟩, ?_, ha⟩
  · rw [hg]
    by_cases hst : s = to
    · subst hst
      rw [if_pos rfl, if_pos rfl]
      unfold Rw
      rw [List.length_append, List.flatMap_append]
      exact RowC.keep hr ks (fun x hx hm => by have := hb' x hx; simp at hm; omega)
    · rw [if_neg hst, if_neg hst]
      refine ((h.row s hs).keep hk (fun x hx hm => ?_)).keep ks (fun x hx hm => ?_)
      · exact h.apart s to hs hto hst x hx (by simpa using hm)
      · have := h.own s hs x hx
        simp at hm
        omega
  · rw [hg] at hx
    by_cases hst : s = to
    · rw [if_pos hst] at hx; exact hb' x hx
    · rw [if_neg hst] at hx; exact h.own s hs x hx
  · rw [hg] at hx hx2
    by_cases hs2 : s = to
    · rw [if_pos hs2] at hx
      rw [if_neg (fun e => hne (by omega))] at hx2
      exact hfr t ht (fun e => hne (by omega)) x hx2 hx
    · rw [if_neg hs2] at hx
      by_cases ht2 : t = to
      · rw [if_pos ht2] at hx2
        exact hfr s hs hs2 x hx hx2
      · rw [if_neg ht2] at hx2
        exact h.apart s t hs ht hne x hx hx2
  · refine (Kp.of hk hB (fun x hx => .inr (hov x (by simpa using hx))) (RowC.isC (h.row to hto))).trans (Kp.of ks (Nat.le_trans hB hk.size) (fun x hx => .inl (by simpa using hx)) (fun x hx => by simp at hx; subst hx; exact ha.isC))

/-- the first loop of numbers: who is owed what, who comes -/
structure N1 (B go gc m : Nat) (R : List Nat) (A : List Ar) (w0 wr : World) (O : List Nat) (i : Nat) : Prop where
  ow : Arr 3 eN wr go m O
  cnt : ∀ c, c < m → O.getD c 0 = owe (prs R (A.take i)) [] c
  cm : Cm B wr gc m (comL (prs R (A.take i)))
  kp : Kp B [go, gc] w0 wr
  size : B ≤ wr.heap.size
  bds : go < B ∧ gc < B ∧ go ≠ gc
theorem N1.same {B go gc m : Nat} {R : List Nat} {A : List Ar} {w0 wr : World} {O : List Nat} {i : Nat} (h : N1 B go gc m R A w0 wr O i) (hi : i < A.length) (he : (rp R A[i]).1 = (rp R A[i]).2) {w1 : World} (k : Keep [] wr w1) : N1 B go gc m R A w0 w1 O (i + 1) := by
  have e : prs R (A.take (i + 1)) = prs R (A.take i) := by rw [prs_next R A i hi, if_neg (by simpa using he), List.append_nil]
  refine ⟨h.ow.keep k (by simp), ?_, ?_, h.kp.trans (Kp.of k h.size (by simp)), Nat.le_trans h.size k.size, h.bds⟩
  · rw [e]; exact h.cnt
  · rw [e]; exact h.cm.keep k (by simp) (by simp)

theorem comL_next (P : List (Nat × Nat)) (q : Nat × Nat) : comL (P ++ [q]) = fun s => if s = q.2 then comL P s ++ [q.1] else comL P s := funext fun s => comL_app P q s

/-- an arc between two rings: the owed one is counted; then the comer is put behind the others -/
theorem N1.step {B go gc m : Nat} {R : List Nat} {A : List Ar} {w0 wr : World} {O : List Nat} {i x y : Nat} (h : N1 B go gc m R A w0 wr O i) (hi : i < A.length) (hx : (rp R A[i]).1 = x) (hy : (rp R A[i]).2 = y) (hne : x ≠ y) (hxm : x < m) (hym : y < m) {vs : List Value} (hv0 : Cv B wr gc m (comL (prs R (A.take i))) vs) {w1 : World} (k1 : Keep [] wr w1) (o2 : Obj) :
    Cv B ((w1.setCell ⟨go, x, none⟩ (.int .i64 ((O.getD x 0 + 1 : Nat) : Int))).alloc o2) gc m (comL (prs R (A.take i))) vs ∧
      ∀ w9 v9, RowC w9 3 1 v9 ((comL (prs R (A.take i)) y).length + 1) ((comL (prs R (A.take i)) y).flatMap encN ++ [.int .i64 (x : Int)]) → Keep (vs.getD y nilS).ownBlock.toList ((w1.setCell ⟨go, x, none⟩ (.int .i64 ((O.getD x 0 + 1 : Nat) : Int))).alloc o2) w9 → (v9.ownBlock = (vs.getD y nilS).ownBlock ∨ Fresh ((w1.setCell ⟨go, x, none⟩ (.int .i64 ((O.getD x 0 + 1 : Nat) : Int))).alloc o2) w9 v9) →
        N1 B go gc m R A w0 (w9.setCell ⟨gc, y, none⟩ v9) (O.set x (O.getD x 0 + 1)) (i + 1) ∧ Arr 28 id w9 gc m vs := by
  have hb := h.bds
  have a1 : Arr 3 eN w1 go m O := h.ow.keep k1 (by simp)
  have k2 : Keep [go] w1 (w1.setCell ⟨go, x, none⟩ (.int .i64 ((O.getD x 0 + 1 : Nat) : Int))) := Keep.set1 _ ⟨go, x, none⟩ _
  have a2 : Arr 3 eN (w1.setCell ⟨go, x, none⟩ (.int .i64 ((O.getD x 0 + 1 : Nat) : Int))) go m (O.set x (O.getD x 0 + 1)) := a1.put x _
  have k3 := Keep.alloc1 (w1.setCell ⟨go, x, none⟩ (.int .i64 ((O.getD x 0 + 1 : Nat) : Int))) o2
  have hv := ((hv0.keep k1 (by simp) (by simp)).keep k2 (by simp; exact hb.1) (by simp; omega)).keep k3 (by simp) (by simp)
  have hs3 : B ≤ ((w1.setCell ⟨go, x, none⟩ (.int .i64 ((O.getD x 0 + 1 : Nat) : Int))).alloc o2).heap.size := Nat.le_trans h.size (Nat.le_trans k1.size (Nat.le_trans k2.size k3.size))
  have kp3 : Kp B [go, gc] wr ((w1.setCell ⟨go, x, none⟩ (.int .i64 ((O.getD x 0 + 1 : Nat) : Int))).alloc o2) := ((Kp.of k1 h.size (by simp)).trans (Kp.of k2 (Nat.le_trans h.size k1.size) (fun z hz => .inl (by simp at hz; simp [hz])) (fun z hz => by simp at hz; subst hz; exact a1.isC))).trans (Kp.of k3 (Nat.le_trans h.size (Nat.le_trans k1.size k2.size)) (by simp))
  refine ⟨hv, fun w9 v9 hr hk hf => ?_⟩
  obtain ⟨p1, p2, p3⟩ := hv.push hym hb.2.1 hs3 hr hk hf
  have e : prs R (A.take (i + 1)) = prs R (A.take i) ++ [(x, y)] := by
    rw [prs_next R A i hi, hx, hy, if_pos hne]
    congr 2
    exact Prod.ext hx hy
  have hgl := h.ow.len
  refine ⟨⟨p2.arr (a2.keep k3 (by simp)) hb.1 (by simp; omega), fun c hc => ?_, ?_, h.kp.trans (kp3.trans (p2.mono (by simp))), Nat.le_trans hs3 p2.size, hb⟩, p3⟩
  · rw [e, owe_app, getD_set _ _ _ _ _ (by omega), ← h.cnt c hc]
    by_cases hcx : c = x
    · rw [if_pos hcx, if_pos hcx, hcx]
    · rw [if_neg hcx, if_neg hcx]
  · rw [e, comL_next]
    exact p1
theorem owe_le (R : List Nat) (A : List Ar) (i c : Nat) : owe (prs R (A.take i)) [] c ≤ A.length := by
  have h1 : owe (prs R (A.take i)) [] c ≤ (prs R (A.take i)).length := List.countP_le_length
  have h2 : (prs R (A.take i)).length ≤ ((A.take i).map (rp R)).length := List.length_filter_le _ _
  rw [List.length_map, List.length_take] at h2
  omega
theorem comL_le (R : List Nat) (A : List Ar) (i c : Nat) : (comL (prs R (A.take i)) c).length ≤ A.length := by
  have h1 : (comL (prs R (A.take i)) c).length ≤ (prs R (A.take i)).length := by unfold comL; rw [List.length_map]; exact List.length_filter_le _ _
  have h2 : (prs R (A.take i)).length ≤ ((A.take i).map (rp R)).length := List.length_filter_le _ _
  rw [List.length_map, List.length_take] at h2
  omega
end Go.Proofs.Ytmlpkjeaieljfab

/- The order of the rings: who can come at once. -/
namespace Go.Proofs.Ytmlpkjeaieljfab
open Go.RowKit Go.PlainAid Go.Sort Go.Shelf

theorem owe_le' (R : List Nat) (A : List Ar) (c : Nat) : owe (prs R A) [] c ≤ A.length := by
  have := owe_le R A A.length c
  rwa [List.take_length] at this

/-- between two rounds -/
structure Qq (B bq m : Nat) (P : List (Nat × Nat)) (O : List Nat) (w6 : World) (ok : Prop) (c : Nat) (W : World) : Prop where
  ex : ∃ Wl, Wt B W bq Wl ∧ Wl.Pairwise (· ≥ ·) ∧ Wl.length ≤ c ∧ (ok → Qs P m (m - c) O Wl)
  blk : ∀ k, k < B → k ≠ bq → W.heap[k]? = w6.heap[k]?
  oth : W.os = w6.os ∧ W.tape = w6.tape ∧ W.output = w6.output ∧ B ≤ W.heap.size
  bd : bq < B

theorem Qq.grow {B bq m : Nat} {P : List (Nat × Nat)} {O : List Nat} {w6 : World} {ok : Prop} {c : Nat} {W W' : World} {row : Option Nat} (h : Qq B bq m P O w6 ok c W) (hg : W.grownBy W' row) (hr : ∀ r, row = some r → B ≤ r ∧ ∃ o : Obj, W.heap[r]? = some o ∧ o.isCells = false) : Qq B bq m P O w6 ok c W' := by
  have k := Keep.grown hg
  have hR : ∀ r ∈ row.toList, B ≤ r := fun r hm => (hr r (by simpa using hm)).1
  have hN : ∀ r ∈ row.toList, ¬ IsC W r := fun r hm => by
    obtain ⟨_, o, h1, h2⟩ := hr r (by simpa using hm)
    exact notC_of h1 h2
  obtain ⟨Wl, h1, h2, h3, h4⟩ := h.ex
  refine ⟨⟨Wl, h1.grow k hN, h2, h3, h4⟩, fun i hi1 hi2 => ?_, ⟨k.os.trans h.oth.1, k.tape.trans h.oth.2.1, k.output.trans h.oth.2.2.1, Nat.le_trans h.oth.2.2.2 k.size⟩, h.bd⟩
  exact (k.block i (Nat.lt_of_lt_of_le hi1 h.oth.2.2.2) (fun hm => by have := hR _ hm; omega)).trans (h.blk i hi1 hi2)

theorem back_at {nn : Nat} {O : List Nat} {hO : ∀ k ∈ O, k < nn} {pre : List (Pl nn)} {x : Pl nn} (hp : pre ++ [x] <+: backL nn O hO) (hl : pre.length < O.length) : x.1 = (O.length - 1 - pre.length, O.getD (O.length - 1 - pre.length) 0) := by
  have hbl := backL_len nn O hO
  obtain ⟨t, ht⟩ := hp
  have hj : pre.length < (backL nn O hO).length := by omega
  have e : (backL nn O hO)[pre.length] = x := by
    have : (backL nn O hO)[pre.length]? = some x := by rw [← ht]; simp
    rw [List.getElem?_eq_getElem hj] at this
    exact Option.some.inj this
  rw [← e]
  exact backL_get nn O hO pre.length hj

theorem Qq.next {B bq m nn : Nat} {P : List (Nat × Nat)} {O : List Nat} {w6 : World} {hO : ∀ k ∈ O, k < nn} {pre : List (Pl nn)} {x : Pl nn} {W W' : World} {Wl : List Nat} (hb : Qq B bq m P O w6 (pre <+: backL nn O hO) pre.length W) (hl : pre.length < m) (hm : O.length = m) (hf : Wl.Pairwise (· ≥ ·)) (hn : Wl.length ≤ pre.length) (hq : pre <+: backL nn O hO → Qs P m (m - pre.length) O Wl)
    (hw : Wt B W' bq (if x.1.2 = 0 then insW Wl x.1.1 else Wl)) (kp : Kp B [bq] W W') : Qq B bq m P O w6 (pre ++ [x] <+: backL nn O hO) (pre ++ [x]).length W' := by
  refine ⟨⟨_, hw, ?_, ?_, fun hp => ?_⟩, fun i h1 h2 => (kp.block i h1 (by simpa using h2)).trans (hb.blk i h1 h2), ⟨kp.os.trans hb.oth.1, kp.tape.trans hb.oth.2.1, kp.output.trans hb.oth.2.2.1, Nat.le_trans hb.oth.2.2.2 kp.size⟩, hb.bd⟩
  · split
    · exact insW_weak Wl _ hf
    · exact hf
  · rw [List.length_append, List.length_singleton]
    split
    · rw [insW_len]; omega
    · omega
  · have hx := back_at hp (by omega)
    have hq' := hq ((List.prefix_append pre [x]).trans hp)
    rw [hm] at hx
    rw [List.length_append, List.length_singleton, show m - (pre.length + 1) = m - 1 - pre.length by omega]
    rw [show m - pre.length = (m - 1 - pre.length) + 1 by omega] at hq'
    have := hq'.next (by omega)
    rw [hx]
    exact this
end Go.Proofs.Ytmlpkjeaieljfab

/- The order of the rings: the last loop's memory. -/
namespace Go.Proofs.Ytmlpkjeaieljfab
open Go.RowKit Go.PlainAid Go.Sort Go.Shelf

/-- a variable with a list of its own -/
structure Wv (w : World) (bw : Nat) (v : Value) (W : List Nat) : Prop where
  bx : Bx w bw 28 v
  row : Rw 3 encN 1 w v W
  off : v.ownBlock ≠ some bw
def WvR (bw : Nat) (v : Value) (w w' : World) (W' : List Nat) : Prop := ∃ v', Wv w' bw v' W' ∧ Keep (bw :: v.ownBlock.toList) w w' ∧ (v'.ownBlock = v.ownBlock ∨ Fresh w w' v')

set_option maxRecDepth 1000000 in
set_option maxHeartbeats 1000000 in
theorem wait_ex {bw : Nat} (r : Nat) (v : Value) (W : List Nat) (w : World) (hW : Wv w bw v W) (hf : W.Pairwise (· ≥ ·)) (hl : W.length ≤ 100000) :
    Calls Try.prog 69 #[.int .i64 (r : Int), .pointer (some ⟨bw, 0, none⟩)] w fun e w' => e = .returned (.tuple #[]) ∧ WvR bw v w w' (insW W r) := by
  have c0 := hW.bx.cell
  have HS : Hid (∀ (_ : True), Calls Try.prog 70 #[v, .int .i64 (r : Int), .func (.func 71) #[] #[]] w fun e w' => ∃ b, e = .returned (.tuple #[.int .i64 (ptW W r : Int), .bool b]) ∧ Keep [] w w') := fun _ => search_any v W r w hW.row hf hl
  have H0 : Hid (Wv w bw v W) := hW
  have hpl := ptW_le W r
  clear hW hf
  go_enter Try.func69, Try.ntmps69
  go_wp2_with fail
  refine (HS.out trivial).mono ?_
  rintro e w1 ⟨b, rfl, k1⟩
  have c1 : w1.cell? ⟨bw, 0, none⟩ = some v := k1.cell' c0 (by simp)
  have HI : Hid (∀ (_ : True), Calls Try.prog 72 #[v, .int .i64 (ptW W r : Int), .slice (some ⟨w1.heap.size, 0, none⟩) 1 1] (w1.alloc (.cells #[.int .i64 (r : Int)] 3 (0, 0))) fun e w' => ∃ v', e = .returned v' ∧ InsR (w1.alloc (.cells #[.int .i64 (r : Int)] 3 (0, 0))) w' v W (ptW W r) r v') := fun _ => by
    have h0 := H0.out
    refine ins_any v W r (ptW W r) w1.heap.size _ ((h0.row.keep k1 (Off.nil _)).keep (Keep.alloc1 w1 _) (Off.nil _)) hpl hl (heap_alloc_new w1 _) (fun e => ?_)
    have := h0.row.lt _ e
    have := k1.size
    omega
  have HJ : Hid (∀ w' v', InsR (w1.alloc (.cells #[.int .i64 (r : Int)] 3 (0, 0))) w' v W (ptW W r) r v' → WvR bw v w (w'.setCell ⟨bw, 0, none⟩ v') (insW W r) ∧ Bx w' bw 28 v) := fun w' v' hi => by
    have h0 := H0.out
    have k2 : Keep [] w (w1.alloc (.cells #[.int .i64 (r : Int)] 3 (0, 0))) := k1.alloc _
    obtain ⟨hr, hk, hfr, -⟩ := hi
    have hnb : bw ∉ v.ownBlock.toList := fun hm => h0.off (by simpa using hm)
    have hx' : Bx w' bw 28 v := (h0.bx.keep k2 (by simp)).keep hk hnb
    have hbl := h0.bx.lt
    have hfr2 : v'.ownBlock = v.ownBlock ∨ Fresh w w' v' := by
      rcases hfr with e | e
      · exact .inl e
      · exact .inr (e.earlier k2.size)
    have hob : v'.ownBlock ≠ some bw := fun e => by
      rcases hfr2 with e2 | e2
      · rw [e2] at e; exact h0.off e
      · have := (e2 bw e).1; omega
    have ks := Keep.set1 w' ⟨bw, 0, none⟩ v'
    refine ⟨⟨v', ⟨hx'.set v', ?_, hob⟩, ?_, ?_⟩, hx'⟩
    · unfold Rw
      rw [insW_len]
      exact RowC.keep hr ks (fun x hx hm => by simp at hm; subst hm; exact hob hx)
    · refine Keep.trans (Keep.trans k2 hk (by simp) (fun x hx => .inl (List.mem_cons_of_mem _ hx))) ks (fun x hx => .inl hx) (fun x hx => .inl (by simp at hx; simp [hx]))
    · rcases hfr2 with e | e
      · exact .inl e
      · exact .inr (e.later ks.size)
  clear H0 HS k1
  generalize ptW W r = p at HI HJ
  go_wp2_with fail
  refine (HI.out trivial).mono ?_
  rintro e w2 ⟨v', rfl, hi⟩
  have hj := HJ.out _ _ hi
  obtain ⟨a, c, rfl⟩ := hi.2.2.2
  have c2 := hj.2.cell
  have f2 := hj.2.free
  have H2 : Hid (WvR bw v w (w2.setCell ⟨bw, 0, none⟩ (.slice a (W.length + 1) c)) (insW W r)) := hj.1
  clear hj hi HI HJ c0 c1
  go_wp2
  go_end0
  exact ⟨rfl, H2.out⟩

set_option maxRecDepth 1000000 in
theorem qtake_ex {bw : Nat} (k : Nat) (v : Value) (W : List Nat) (w : World) (hW : Wv w bw v (W ++ [k])) :
    Calls Try.prog 73 #[.pointer (some ⟨bw, 0, none⟩)] w fun e w' => e = .returned (.int .i64 (k : Int)) ∧ WvR bw v w w' W := by
  have hl : (W ++ [k]).length = W.length + 1 := by simp
  have h1 := hW.bx
  rcases hW.row.cases encN_len with ⟨he, _⟩ | ⟨g, cap, rfl, h4, h5, h6, h7, h8⟩
  · simp at he
  rw [hl] at h1 h4
  have c0 := h1.cell
  have f0 := h1.free
  have c1 : w.cell? ⟨g, W.length, none⟩ = some (.int .i64 (k : Int)) := by
    have := h7 W.length (by omega) 0 (by omega)
    rw [Nat.mul_one, Nat.add_zero] at this
    rw [this]
    simp [encN, eN]
  have H3 : Hid (WvR bw (.slice (some ⟨g, 0, none⟩) (W ++ [k]).length cap) w (w.setCell ⟨bw, 0, none⟩ (.slice (some ⟨g, 0, none⟩) W.length cap)) W) := by
    have hr : RowC w 3 1 (.slice (some ⟨g, 0, none⟩) (W.length + 1) cap) (W.length + 1) ((W ++ [k]).flatMap encN) := by
      have h2 := hW.row
      unfold Rw at h2
      rwa [hl] at h2
    have ht := RowC.take hr W.length (by omega) (by simp)
    have e : ((W ++ [k]).flatMap encN).take (W.length * 1) = W.flatMap encN := by
      rw [List.flatMap_append]
      exact List.take_left' (by rw [flat_len encN_len])
    rw [e] at ht
    have hgb : g ≠ bw := fun e => hW.off (by simp [Value.ownBlock, e])
    have ks := Keep.set1 w ⟨bw, 0, none⟩ (.slice (some ⟨g, 0, none⟩) W.length cap)
    exact ⟨_, ⟨h1.set _, RowC.keep ht ks (fun x hx hm => by simp [Value.ownBlock] at hx; simp at hm; omega), fun e => hgb (by simpa [Value.ownBlock] using e)⟩, ks.mono (fun x hx => .inl (by simp at hx; simp [hx])), .inl rfl⟩
  clear h1 hW h7 h8
  have hli : (W.length : Int) < (W.length : Int) + 1 := by omega
  go_enter Try.func73, Try.ntmps73
  go_wp2
  go_ret
  exact ⟨rfl, H3.out⟩

/-- what stays in the last loop -/
structure N0 (w0 : World) (B C go gc bq gn bv Dd m : Nat) (od : Obj) (P : List (Nat × Nat)) (vs : List Value) (wr : World) : Prop where
  arr : Arr 28 id wr gc m vs
  row : ∀ s, s < m → Rw 3 encN 1 wr (vs.getD s nilS) (comL P s)
  rng : ∀ s, s < m → ∀ x, (vs.getD s nilS).ownBlock = some x → B ≤ x ∧ x < bq
  fn : wr.cell? ⟨bv, 0, none⟩ = some (.func (.func 69) #[] #[.pointer (some ⟨bq, 0, none⟩)])
  dd : wr.heap[Dd]? = some od
  keep : Keep [] w0 wr
  ord : w0.heap.size ≤ go ∧ go < gc ∧ gc < B ∧ B ≤ bq ∧ bq < bv ∧ bv < C ∧ C ≤ Dd ∧ Dd < gn
theorem N0.on {w0 : World} {B C go gc bq gn bv Dd m : Nat} {od : Obj} {P : List (Nat × Nat)} {vs : List Value} {wr w' : World} {F : List Nat} (h : N0 w0 B C go gc bq gn bv Dd m od P vs wr) (k : Keep F wr w') (hF : ∀ x ∈ F, x = go ∨ x = bq ∨ x = gn ∨ (C ≤ x ∧ x ≠ Dd)) : N0 w0 B C go gc bq gn bv Dd m od P vs w' := by
  have o := h.ord
  refine ⟨h.arr.keep k (fun hm => ?_), fun s hs => (h.row s hs).keep k (fun x hx hm => ?_), h.rng, k.cell' h.fn (fun hm => ?_), (k.block Dd (Array.getElem?_eq_some_iff.1 h.dd).1 (fun hm => ?_)).trans h.dd, h.keep.more k (fun x hx => .inr ?_), o⟩
  · rcases hF _ hm with e | e | e | e <;> omega
  · have := h.rng s hs x hx
    rcases hF _ hm with e | e | e | e <;> omega
  · have e := hF _ hm
    simp at e
    rcases e with e | e | e | e <;> omega
  · rcases hF _ hm with e | e | e | e <;> omega
  · rcases hF _ hx with e | e | e | e <;> omega

structure N3 (w0 : World) (B C go gc bq gn bv Dd m : Nat) (od : Obj) (P : List (Nat × Nat)) (vs : List Value) (T O N : List Nat) (v : Value) (W : List Nat) (wr : World) : Prop where
  c : N0 w0 B C go gc bq gn bv Dd m od P vs wr
  wv : Wv wr bq v W
  own : ∀ x, v.ownBlock = some x → C ≤ x ∧ x ≠ gn ∧ x ≠ Dd
  ow : Arr 3 eN wr go m O
  nm : Arr 3 eN wr gn m N
  nu : ∀ k, k < T.length → N.getD (T.getD k 0) 0 = k

theorem N3.wvr {w0 : World} {B C go gc bq gn bv Dd m : Nat} {od : Obj} {P : List (Nat × Nat)} {vs : List Value} {T O N : List Nat} {v : Value} {W W' : List Nat} {wr w' : World} (h : N3 w0 B C go gc bq gn bv Dd m od P vs T O N v W wr) (hr : WvR bq v wr w' W') : ∃ v', N3 w0 B C go gc bq gn bv Dd m od P vs T O N v' W' w' := by
  obtain ⟨v', h1, h2, h3⟩ := hr
  have o := h.c.ord
  have hgn := h.nm.lt
  have hF : ∀ x ∈ bq :: v.ownBlock.toList, x = bq ∨ (C ≤ x ∧ x ≠ gn ∧ x ≠ Dd) := fun x hx => by
    rcases List.mem_cons.1 hx with e | e
    · exact .inl e
    · exact .inr (h.own x (by simpa using e))
  refine ⟨v', h.c.on h2 (fun x hx => ?_), h1, fun x hx => ?_, h.ow.keep h2 (fun hm => ?_), h.nm.keep h2 (fun hm => ?_), h.nu⟩
  · rcases hF x hx with e | e
    · exact .inr (.inl e)
    · exact .inr (.inr (.inr ⟨e.1, e.2.2⟩))
  · rcases h3 with e | e
    · rw [e] at hx; exact h.own x hx
    · have := (e x hx).1
      omega
  · rcases hF _ hm with e | e <;> omega
  · rcases hF _ hm with e | e
    · omega
    · exact e.2.1 rfl
/-- a ring gets its number -/
theorem N3.num {w0 : World} {B C go gc bq gn bv Dd m : Nat} {od : Obj} {P : List (Nat × Nat)} {vs : List Value} {T O N : List Nat} {v : Value} {W : List Nat} {wr : World} {r : Nat} (h : N3 w0 B C go gc bq gn bv Dd m od P vs T O N v W wr) (hr : r < m) (hn : r ∉ T) : N3 w0 B C go gc bq gn bv Dd m od P vs (T ++ [r]) O (N.set r T.length) v W (wr.setCell ⟨gn, r, none⟩ (.int .i64 (T.length : Int))) := by
  have o := h.c.ord
  have k : Keep [gn] wr (wr.setCell ⟨gn, r, none⟩ (.int .i64 (T.length : Int))) := Keep.set1 wr ⟨gn, r, none⟩ _
  have hl := h.nm.len
  refine ⟨h.c.on k (by simp), ⟨h.wv.bx.keep k (by simp; omega), h.wv.row.keep k (fun x hx hm => by simp at hm; exact (h.own x hx).2.1 hm), h.wv.off⟩, h.own, h.ow.keep k (by simp; omega), h.nm.put r T.length, fun j hj => ?_⟩
  rw [getD_set _ _ _ _ _ (by omega), getD_app]
  rw [List.length_append, List.length_singleton] at hj
  by_cases hjl : j < T.length
  · rw [if_pos hjl]
    have : T.getD j 0 ≠ r := fun e => hn (by
      rw [← e, List.getD_eq_getElem?_getD, List.getElem?_eq_getElem hjl]
      exact List.getElem_mem hjl)
    rw [if_neg this]
    exact h.nu j hjl
  · obtain rfl : j = T.length := by omega
    rw [if_neg hjl, if_pos rfl, if_pos rfl]
/-- one less is owed -/
theorem N3.owe {w0 : World} {B C go gc bq gn bv Dd m : Nat} {od : Obj} {P : List (Nat × Nat)} {vs : List Value} {T O N : List Nat} {v : Value} {W : List Nat} {wr : World} (h : N3 w0 B C go gc bq gn bv Dd m od P vs T O N v W wr) (c x : Nat) : N3 w0 B C go gc bq gn bv Dd m od P vs T (O.set c x) N v W (wr.setCell ⟨go, c, none⟩ (.int .i64 (x : Int))) := by
  have o := h.c.ord
  have k : Keep [go] wr (wr.setCell ⟨go, c, none⟩ (.int .i64 (x : Int))) := Keep.set1 wr ⟨go, c, none⟩ _
  exact ⟨h.c.on k (by simp), ⟨h.wv.bx.keep k (by simp; omega), h.wv.row.keep k (fun y hy hm => by simp at hm; have := h.own y hy; omega), h.wv.off⟩, h.own, h.ow.put c x, h.nm.keep k (by simp; omega), h.nu⟩
theorem N3.drew {w0 : World} {B C go gc bq gn bv Dd m : Nat} {od : Obj} {P : List (Nat × Nat)} {vs : List Value} {T O N : List Nat} {v : Value} {W : List Nat} {wr : World} (h : N3 w0 B C go gc bq gn bv Dd m od P vs T O N v W wr) (q : Nat) : N3 w0 B C go gc bq gn bv Dd m od P vs T O N v W (wr.drewN q) := by
  have k := (Keep.refl [] wr).drewN q
  exact ⟨h.c.on k (by simp), ⟨h.wv.bx.keep k (by simp), h.wv.row.keep k (Off.nil _), h.wv.off⟩, h.own, h.ow.keep k (by simp), h.nm.keep k (by simp), h.nu⟩
end Go.Proofs.Ytmlpkjeaieljfab

