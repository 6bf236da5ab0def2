/- Parts and their numbers: mathematics. -/
import Derived.Test.YtmlpkjeaieljfabNd

namespace Go.Proofs.Ytmlpkjeaieljfab

theorem countP_less {p q : Nat → Bool} : ∀ (l : List Nat), (∀ x ∈ l, p x = true → q x = true) → ∀ y ∈ l, q y = true → p y = false → l.countP p < l.countP q
  | [], _, y, hy, _, _ => by simp at hy
  | a :: l, h, y, hy, h1, h2 => by
    have hle : l.countP p ≤ l.countP q := List.countP_mono_left (fun x hx hp => h x (List.mem_cons_of_mem _ hx) hp)
    rw [List.countP_cons, List.countP_cons]
    rcases List.mem_cons.1 hy with e | e
    · subst e
      rw [h1, h2]
      simp
      omega
    · have ih := countP_less l (fun x hx => h x (List.mem_cons_of_mem _ hx)) y e h1 h2
      have ha := h a (by simp)
      by_cases hp : p a = true
      · rw [hp, ha hp]; simp; exact ih
      · have hp' : p a = false := by simpa using hp
        rw [hp']
        simp
        split <;> omega

open Classical in
theorem Rings.acy {A : List Ar} {n m : Nat} {R : List Nat} (hR : Rings (Ec A) n R m) (hn : ∀ a ∈ A, a.f < n ∧ a.t < n) : Acy (prs R A) := by
  rintro S ⟨r0, h0⟩ hstep
  have key : ∀ k r, S r → (List.range m).countP (fun s => decide (∃ x y, x < n ∧ y < n ∧ R.getD x 0 = r ∧ R.getD y 0 = s ∧ Rch (Ec A) x y)) ≤ k → False := by
    intro k
    induction k with
    | zero =>
      intro r hr hk
      obtain ⟨q, hq, rfl, hs⟩ := hstep r hr
      obtain ⟨⟨a, ha, rfl⟩, hne⟩ := prs_mem.1 hq
      have hnd := hn a ha
      refine Nat.not_lt.2 hk (List.countP_pos_iff.2 ⟨(rp R a).1, List.mem_range.2 (hR.lt a.f hnd.1), ?_⟩)
      simp only [decide_eq_true_iff]
      exact ⟨a.f, a.f, hnd.1, hnd.1, rfl, rfl, .refl⟩
    | succ k ih =>
      intro r hr hk
      obtain ⟨q, hq, rfl, hs⟩ := hstep r hr
      obtain ⟨⟨a, ha, rfl⟩, hne⟩ := prs_mem.1 hq
      have hnd := hn a ha
      have harc : Rch (Ec A) a.f a.t := Rch.one ⟨a, ha, rfl, rfl⟩
      refine ih _ hs (Nat.le_of_lt_succ (Nat.lt_of_lt_of_le ?_ hk))
      refine countP_less _ (fun s _ h => ?_) (rp R a).1 (List.mem_range.2 (hR.lt a.f hnd.1)) ?_ ?_
      · simp only [decide_eq_true_iff] at h ⊢
        obtain ⟨x, y, hx, hy, e1, e2, h3⟩ := h
        have hm : Mut (Ec A) x a.t := (hR.same x a.t hx hnd.2).1 e1
        exact ⟨a.f, y, hnd.1, hy, rfl, e2, (harc.trans hm.2).trans h3⟩
      · simp only [decide_eq_true_iff]
        exact ⟨a.f, a.f, hnd.1, hnd.1, rfl, rfl, .refl⟩
      · simp only [decide_eq_false_iff_not]
        rintro ⟨x, y, hx, hy, e1, e2, h3⟩
        have hm : Mut (Ec A) x a.t := (hR.same x a.t hx hnd.2).1 e1
        have hm2 : Mut (Ec A) y a.f := (hR.same y a.f hy hnd.1).1 e2
        exact hne ((hR.same a.f a.t hnd.1 hnd.2).2 ⟨harc, (hm.2.trans h3).trans hm2.1⟩)
  exact key _ r0 h0 (Nat.le_refl _)

/-- the numbers of the parts, as the document asks for them -/
structure Numbered (E : Nat → Nat → Prop) (n : Nat) (p : Nat → Nat) : Prop where
  same : ∀ x y, x < n → y < n → (p x = p y ↔ Mut E x y)
  full : ∀ x, x < n → ∀ k, k < p x → ∃ y, y < n ∧ p y = k
  down : ∀ x y, E x y → p y ≤ p x
  least : ∀ x z, x < n → z < n → p x ≤ p z → (∀ u v, Mut E u z → E u v → p v < p x ∨ Mut E v z) → ∃ y, y < n ∧ p y = p x ∧ y ≤ z

theorem numbered_of {A : List Ar} {n m : Nat} {R T N : List Nat} (hR : Rings (Ec A) n R m) (hn : ∀ a ∈ A, a.f < n ∧ a.t < n) (hT : T.length = m) (hk : Ok (prs R A) m T) (hN : ∀ k, k < m → N.getD (T.getD k 0) 0 = k) : Numbered (Ec A) n (fun x => N.getD (R.getD x 0) 0) ∧ ∀ x, x < n → N.getD (R.getD x 0) 0 < m := by
  have hg : ∀ k (h : k < T.length), T.getD k 0 = T[k] := fun k h => by rw [List.getD_eq_getElem?_getD, List.getElem?_eq_getElem h]; rfl
  have hall : ∀ c, c < m → c ∈ T := fun c hc => Classical.byContradiction fun hx => by
    have h1 : (c :: T).Nodup := List.nodup_cons.2 ⟨hx, hk.nodup⟩
    have := nodup_len (n := m) h1 (fun y hy => (List.mem_cons.1 hy).elim (fun e => by omega) (fun e => hk.lt y e))
    simp at this
    omega
  have hinv : ∀ c, c < m → N.getD c 0 < m ∧ T.getD (N.getD c 0) 0 = c := fun c hc => by
    obtain ⟨k, hk1, he⟩ := List.mem_iff_getElem.1 (hall c hc)
    have h1 := hN k (by omega)
    rw [hg k hk1, he] at h1
    rw [h1]
    exact ⟨by omega, by rw [hg k hk1, he]⟩
  have htk : ∀ c k, c < m → k ≤ m → (c ∈ T.take k ↔ N.getD c 0 < k) := fun c k hc hkm => by
    constructor
    · intro h
      obtain ⟨j, hj, he⟩ := List.mem_iff_getElem.1 h
      rw [List.length_take] at hj
      rw [List.getElem_take] at he
      have h1 := hN j (by omega)
      rw [hg j (by omega), he] at h1
      omega
    · intro h
      have h1 := (hinv c hc).2
      rw [hg _ (by omega)] at h1
      rw [← h1]
      exact List.mem_iff_getElem.2 ⟨N.getD c 0, by rw [List.length_take]; omega, List.getElem_take⟩
  have hinj : ∀ c d, c < m → d < m → N.getD c 0 = N.getD d 0 → c = d := fun c d hc hd e => by
    rw [← (hinv c hc).2, ← (hinv d hd).2, e]
  refine ⟨⟨fun x y hx hy => ?_, fun x hx k hkx => ?_, fun x y hxy => ?_, fun x z hx hz hxz hrd => ?_⟩, fun x hx => (hinv _ (hR.lt x hx)).1⟩
  · rw [← hR.same x y hx hy]
    exact ⟨fun e => hinj _ _ (hR.lt x hx) (hR.lt y hy) e, fun e => by show N.getD _ 0 = N.getD _ 0; rw [e]⟩
  · have hkm : k < m := Nat.lt_trans hkx (hinv _ (hR.lt x hx)).1
    obtain ⟨y, hy, he⟩ := hR.full (T.getD k 0) (hk.lt _ (by rw [hg k (by omega)]; exact List.getElem_mem _))
    exact ⟨y, hy, by show N.getD _ 0 = k; rw [he]; exact hN k hkm⟩
  · obtain ⟨a, ha, rfl, rfl⟩ := hxy
    have hnd := hn a ha
    show N.getD _ 0 ≤ N.getD _ 0
    by_cases e : R.getD a.f 0 = R.getD a.t 0
    · rw [e]; exact Nat.le_refl _
    · have hq : (R.getD a.f 0, R.getD a.t 0) ∈ prs R A := prs_mem.2 ⟨⟨a, ha, rfl⟩, e⟩
      have hi := hinv _ (hR.lt a.f hnd.1)
      have := hk.out (N.getD (R.getD a.f 0) 0) (by omega) _ hq hi.2.symm
      exact Nat.le_of_lt ((htk _ _ (hR.lt a.t hnd.2) (by omega)).1 this)
  · have hi := hinv _ (hR.lt x hx)
    have hzm := hR.lt z hz
    have hle : R.getD x 0 ≤ R.getD z 0 := by
      have h1 := hk.least (N.getD (R.getD x 0) 0) (by omega) (R.getD z 0) hzm (fun hm => by
        have := (htk _ _ hzm (by omega)).1 hm
        have hxz' : N.getD (R.getD x 0) 0 ≤ N.getD (R.getD z 0) 0 := hxz
        omega) (fun q hq e => by
        obtain ⟨⟨a, ha, rfl⟩, hne⟩ := prs_mem.1 hq
        have hnd := hn a ha
        have hm : Mut (Ec A) a.f z := (hR.same a.f z hnd.1 hz).1 e
        rcases hrd a.f a.t hm ⟨a, ha, rfl, rfl⟩ with h | h
        · exact (htk _ _ (hR.lt a.t hnd.2) (by omega)).2 h
        · exact absurd (e.trans ((hR.same a.t z hnd.2 hz).2 h).symm) hne)
      rwa [hi.2] at h1
    by_cases e : R.getD x 0 = R.getD z 0
    · exact ⟨z, hz, by show N.getD _ 0 = N.getD _ 0; rw [e], Nat.le_refl _⟩
    · obtain ⟨y, hy, he⟩ := hR.rise z hz (R.getD x 0) (by omega)
      exact ⟨y, by omega, by show N.getD _ 0 = N.getD _ 0; rw [he], by omega⟩

/-- there is but one numbering -/
theorem Numbered.uniq {E : Nat → Nat → Prop} {n : Nat} {p q : Nat → Nat} (hE : ∀ x y, E x y → x < n ∧ y < n) (hp : Numbered E n p) (hq : Numbered E n q) : ∀ x, x < n → p x = q x := by
  have mut_lt : ∀ {x y}, Mut E x y → y < n → x < n := fun {x y} h hy => Rch.lt hE h.2 hy
  -- for every k: the nodes numbered k are the same
  have key : ∀ k, ∀ x, x < n → (p x < k ∨ q x < k) → p x = q x := by
    intro k
    induction k with
    | zero => intro x _ h; omega
    | succ k ih =>
      -- a node with p = k, and one with q = k
      have two : ∀ {p q : Nat → Nat}, Numbered E n p → Numbered E n q → (∀ x, x < n → (p x < k ∨ q x < k) → p x = q x) → ∀ x, x < n → p x = k → q x = k := by
        intro p q hp hq ih x hx hxk
        have hqx : k ≤ q x := Nat.le_of_not_lt fun h => by have := ih x hx (.inr h); omega
        -- some node has q = k
        obtain ⟨z, hz, hzk⟩ : ∃ z, z < n ∧ q z = k := by
          by_cases e : q x = k
          · exact ⟨x, hx, e⟩
          · exact hq.full x hx k (by omega)
        have hpz : k ≤ p z := Nat.le_of_not_lt fun h => by have := ih z hz (.inl h); omega
        -- each ready part of p is ready in q, and the other way
        have ready : ∀ {p q : Nat → Nat}, Numbered E n p → Numbered E n q → (∀ x, x < n → (p x < k ∨ q x < k) → p x = q x) → ∀ x, x < n → p x = k → ∀ u v, Mut E u x → E u v → q v < k ∨ Mut E v x := by
          intro p q hp hq ih x hx hxk u v hu huv
          have hun := mut_lt hu hx
          have hvn := (hE u v huv).2
          have h1 := hp.down u v huv
          have h2 : p u = p x := (hp.same u x hun hx).2 hu
          by_cases e : p v = p x
          · exact .inr ((hp.same v x hvn hx).1 e)
          · have h3 : p v < k := by omega
            have := ih v hvn (.inl h3)
            exact .inl (by omega)
        obtain ⟨y1, hy1, e1, l1⟩ := hq.least z x hz hx (by omega) (by rw [hzk]; exact ready hp hq ih x hx hxk)
        obtain ⟨y2, hy2, e2, l2⟩ := hp.least x z hx hz (by omega) (by rw [hxk]; exact ready hq hp (fun x hx h => (ih x hx h.symm).symm) z hz hzk)
        -- the least node of p's part k and of q's part k
        have least : ∀ d, ∀ a b, a < n → b < n → p a = k → q b = k → a + b ≤ d → ∃ c, c < n ∧ p c = k ∧ q c = k := by
          intro d
          induction d with
          | zero =>
            intro a b ha hb hpa hqb hd
            obtain rfl : a = 0 := by omega
            obtain rfl : b = 0 := by omega
            exact ⟨0, ha, hpa, hqb⟩
          | succ d ihd =>
            intro a b ha hb hpa hqb hd
            by_cases hab : a = b
            · subst hab; exact ⟨a, ha, hpa, hqb⟩
            · have hqa : k ≤ q a := Nat.le_of_not_lt fun h => by have := ih a ha (.inr h); omega
              have hpb : k ≤ p b := Nat.le_of_not_lt fun h => by have := ih b hb (.inl h); omega
              by_cases hlt : a < b
              · obtain ⟨y, hy, e, l⟩ := hq.least b a hb ha (by omega) (by rw [hqb]; exact ready hp hq ih a ha hpa)
                exact ihd a y ha hy hpa (by omega) (by omega)
              · obtain ⟨y, hy, e, l⟩ := hp.least a b ha hb (by omega) (by rw [hpa]; exact ready hq hp (fun x hx h => (ih x hx h.symm).symm) b hb hqb)
                exact ihd y b hy hb (by omega) hqb (by omega)
        obtain ⟨c, hc, hpc, hqc⟩ := least (x + z) x z hx hz hxk hzk (Nat.le_refl _)
        have hm : Mut E x c := (hp.same x c hx hc).1 (by omega)
        rw [(hq.same x c hx hc).2 hm, hqc]
      intro x hx h
      by_cases h1 : p x < k ∨ q x < k
      · exact ih x hx h1
      · rcases h with h | h
        · have e : p x = k := by omega
          rw [e, two hp hq ih x hx e]
        · have e : q x = k := by omega
          rw [e, two hq hp (fun x hx h => (ih x hx h.symm).symm) x hx e]
  exact fun x hx => key (p x + 1) x hx (.inl (Nat.lt_succ_self _))
end Go.Proofs.Ytmlpkjeaieljfab

/- Parts and their numbers: parts. -/
namespace Go.Proofs.Ytmlpkjeaieljfab
open Go.RowKit Go.PlainAid Go.Sort

/-- what parts answers -/
def PaR (w w' : World) (v : Value) (n : Nat) (A : List Ar) : Prop := ∃ g p, v = .slice (some ⟨g, 0, none⟩) n n ∧ w.heap.size ≤ g ∧ Arr 3 eN w' g n p ∧ (Numbered (Ec A) n (fun x => p.getD x 0) ∧ ∀ x, x < n → p.getD x 0 < n) ∧ Keep [] w w'

/-- the loop of parts -/
structure Pt (w : World) (gr gn gp n m : Nat) (R N p : List Nat) (i : Nat) (wr : World) : Prop where
  rg : Arr 3 eN wr gr n R
  nm : Arr 3 eN wr gn m N
  pt : Arr 3 eN wr gp n p
  dn : ∀ x, x < i → p.getD x 0 = N.getD (R.getD x 0) 0
  keep : Keep [] w wr
  ord : w.heap.size ≤ gr ∧ gr < gn ∧ gn < gp
theorem Pt.next {w : World} {gr gn gp n m : Nat} {R N p : List Nat} {i : Nat} {wr : World} (h : Pt w gr gn gp n m R N p i wr) (hi : i < n) {x : Nat} (hx : x = N.getD (R.getD i 0) 0) : Pt w gr gn gp n m R N (p.set i x) (i + 1) (wr.setCell ⟨gp, i, none⟩ (.int .i64 (x : Int))) := by
  have o := h.ord
  have k : Keep [gp] wr (wr.setCell ⟨gp, i, none⟩ (.int .i64 (x : Int))) := Keep.set1 wr ⟨gp, i, none⟩ _
  have hl := h.pt.len
  refine ⟨h.rg.keep k (by simp; omega), h.nm.keep k (by simp; omega), h.pt.put i x, fun y hy => ?_, h.keep.more k (fun r hr => .inr (by simp at hr; omega)), o⟩
  rw [getD_set _ _ _ _ _ (by omega)]
  by_cases e : y = i
  · rw [if_pos e, e]; exact hx
  · rw [if_neg e]; exact h.dn y (by omega)

set_option maxRecDepth 1000000 in
set_option maxHeartbeats 4000000 in
theorem parts_own (va vf : Value) (n : Nat) (A : List Ar) (F : List Nat) (w : World) (hg : Gph w va vf n A F) (hva : ∀ x, va.ownBlock = some x → x < w.heap.size) (hvf : ∀ x, vf.ownBlock = some x → x < w.heap.size) :
    Calls Try.prog 19 #[.agg #[va, vf]] w fun e w' => ∃ v, e = .returned v ∧ PaR w w' v n A := by
  obtain ⟨a1, c1, rfl, -, -⟩ := hg.arcs.form
  obtain ⟨b2, o2, c2, rfl, -, -, -, -⟩ := hg.firstLen
  have hn := hg.big.2
  have HG : Hid (Gph w (.slice a1 A.length c1) (.slice (some ⟨b2, o2, none⟩) (n + 1) c2) n A F) := hg
  have HR : Hid (∀ w', Keep [] w w' → Calls Try.prog 31 #[.agg #[.slice a1 A.length c1, .slice (some ⟨b2, o2, none⟩) (n + 1) c2]] w' fun e w2 => ∃ v m, e = .returned (.tuple #[v, .int .i64 ((m : Nat) : Int)]) ∧ RgR w' w2 v m n A) := fun w' k => rings_own _ _ n A F _ (hg.keep k (Off.nil _) (Off.nil _)) (fun x hx => Nat.lt_of_lt_of_le (hva x hx) k.size) (fun x hx => Nat.lt_of_lt_of_le (hvf x hx) k.size)
  have HN : Hid (∀ w' m gr R, Keep [] w w' → Arr 3 eN w' gr n R → Rings (Ec A) n R m → Calls Try.prog 32 #[.agg #[.slice a1 A.length c1, .slice (some ⟨b2, o2, none⟩) (n + 1) c2], .slice (some ⟨gr, 0, none⟩) n n, .int .i64 (m : Int)] w' fun e w2 => ∃ v, e = .returned v ∧ NmR w' w2 v m (prs R A)) := fun w' m gr R k h1 h2 => numbers_own _ _ n m gr A F R w' (hg.keep k (Off.nil _) (Off.nil _)) (fun x hx => Nat.lt_of_lt_of_le (hva x hx) k.size) h1 h2 (h2.acy hg.ok.node)
  obtain ⟨i3, hi3, hz3, hs3, hy3⟩ := info_parts infoI
  have HB2 : Hid (i3.bytes * n ≤ 281474976710656) := show i3.bytes * n ≤ 281474976710656 by rw [hy3]; omega
  have HB3 : Hid (n ≤ maxLen) := show n ≤ maxLen by simp only [maxLen]; omega
  clear hg hva hvf
  go_enter Try.func19, Try.ntmps19
  go_wp2_with fail
  refine (HR.out _ (Keep.alloc1 w _)).mono ?_
  rintro e w1 ⟨v, m, rfl, gr, R, rfl, p1, p2, p3, p4⟩
  obtain ⟨h0, HH0⟩ : ∃ h0 : Nat, Hid (h0 = w.heap.size) := ⟨_, show _ = _ from rfl⟩
  have hmn := p3.le
  have k01 : Keep [] w w1 := (Keep.alloc1 w _).trans' p4
  have d0 : w1.cell? ⟨h0, 0, none⟩ = some (.slice a1 A.length c1) ∧ w1.cell? ⟨h0, 1, none⟩ = some (.slice (some ⟨b2, o2, none⟩) (n + 1) c2) := by
    have hb := heap_alloc_new w (.cells #[.slice a1 A.length c1, .slice (some ⟨b2, o2, none⟩) (n + 1) c2] 45)
    rw [← HH0.out] at hb
    exact ⟨p4.cell' (by simp only [World.cell?, hb]; rfl) (by simp), p4.cell' (by simp only [World.cell?, hb]; rfl) (by simp)⟩
  obtain ⟨d0, d1⟩ := d0
  have HN1 : Hid (∀ (_ : True), Calls Try.prog 32 #[.agg #[.slice a1 A.length c1, .slice (some ⟨b2, o2, none⟩) (n + 1) c2], .slice (some ⟨gr, 0, none⟩) n n, .int .i64 (m : Int)] w1 fun e w2 => ∃ v, e = .returned v ∧ NmR w1 w2 v m (prs R A)) := fun _ => HN.out w1 m gr R k01 p2 p3
  have H1 : Hid (w.heap.size ≤ gr ∧ Arr 3 eN w1 gr n R ∧ Rings (Ec A) n R m ∧ Keep [] w w1) := ⟨by simp at p1; omega, p2, p3, k01⟩
  clear p1 p2 p3 p4 k01 HR HN
  rw [← HH0.out]
  go_wp2_with fail
  refine (HN1.out trivial).mono ?_
  rintro e w2 ⟨v, rfl, gn, N, T, rfl, p1, p2, p3, p4⟩
  have H2 : Hid (w1.heap.size ≤ gn ∧ Arr 3 eN w2 gn m N ∧ (T.length = m ∧ Ok (prs R A) m T ∧ ∀ k, k < m → N.getD (T.getD k 0) 0 = k) ∧ Keep [] w1 w2) := ⟨p1, p2, p3, p4⟩
  clear p1 p2 p3 p4 HN1 d0 d1
  go_wp2_with (at_make; refine wpList_make_full _ rfl (.tmp 19) (.tmp 19) 28 rfl 0 3 i3 (.int .i64 0) 1 Try.underlying28 hi3 hz3 hs3 .i64 .i64 _ _ n rfl rfl rfl rfl HB2.out HB3.out (Nat.zero_le _) ?_)
  intro w3 r1 r2
  obtain ⟨gp, HGP⟩ : ∃ gp : Nat, Hid (gp = w2.heap.size) := ⟨_, show _ = _ from rfl⟩
  rw [← HGP.out] at r1 ⊢
  have HT : Hid (Pt w gr gn gp n m R N (List.replicate n 0) 0 w3) := by
    have k3 : Keep [] w2 w3 := Keep.mono (Keep.grown r2) (by simp)
    have h1 := H1.out
    have h2 := H2.out
    have l1 := h1.2.1.lt
    have l2 := h2.2.1.lt
    have hgp := HGP.out
    exact ⟨(h1.2.1.keep h2.2.2.2 (by simp)).keep k3 (by simp), h2.2.1.keep k3 (by simp), Arr.made (e := eN) (z := 0) r1, fun x hx => by omega, (h1.2.2.2.trans' h2.2.2.2).trans' k3, by omega⟩
  have HRm : Hid (∀ x, x < n → R.getD x 0 < m) := H1.out.2.2.1.lt
  clear r1 r2 HB2 HB3 hi3 hz3 hs3 hy3
  go_wp2
  go_loopw [23] (fun iv wr => ∃ (i : Nat) (p : List Nat), iv = .int .i64 (i : Int) ∧ i ≤ n ∧ Hid (Pt w gr gn gp n m R N p i wr)) (fun iv _ => n - (intOf iv).toNat)
  case atStart => exact ⟨0, _, rfl, Nat.zero_le _, HT⟩
  case round =>
    clear HT
    obtain ⟨i, p, rfl, hi, HT⟩ := hrel
    by_cases hlt : i < n
    · have hlti : (i : Int) < (n : Int) := by omega
      obtain ⟨r, hr⟩ : ∃ r : Nat, r = R.getD i 0 := ⟨_, rfl⟩
      obtain ⟨x, hx⟩ : ∃ x : Nat, x = N.getD r 0 := ⟨_, rfl⟩
      have hrm : r < m := by rw [hr]; exact HRm.out i hlt
      have hri : (r : Int) < (m : Int) := by omega
      have e0 : wr.cell? ⟨gr, i, none⟩ = some (.int .i64 (r : Int)) := by rw [hr]; exact HT.out.rg.cell 0 i hlt
      have e1 : wr.cell? ⟨gn, r, none⟩ = some (.int .i64 (x : Int)) := by rw [hx]; exact HT.out.nm.cell 0 r hrm
      have e2 : wr.cell? ⟨gp, i, none⟩ = some (.int .i64 (p.getD i 0 : Int)) := HT.out.pt.cell 0 i hlt
      have f2 := HT.out.pt.free i
      have HJ : Hid (Pt w gr gn gp n m R N (p.set i x) (i + 1) (wr.setCell ⟨gp, i, none⟩ (.int .i64 (x : Int)))) := HT.out.next hlt (by rw [hx, hr])
      clear HT hr hx
      go_wp2
      go_roundw
      case rel => exact ⟨i + 1, _, by go_num, by omega, HJ⟩
      case measure => simp [intOf]; omega
    · have hlti : ¬ (i : Int) < (n : Int) := by omega
      have HE : Hid (PaR w wr (.slice (some ⟨gp, 0, none⟩) n n) n A) := by
        have ht := HT.out
        have h2 := H2.out.2.2.1
        obtain ⟨q1, q2⟩ := numbered_of H1.out.2.2.1 HG.out.ok.node h2.1 h2.2.1 h2.2.2
        have hd : ∀ x, x < n → p.getD x 0 = N.getD (R.getD x 0) 0 := fun x hx => ht.dn x (by omega)
        have hEn : ∀ x y, Ec A x y → x < n ∧ y < n := fun x y h => by
          obtain ⟨a, ha, rfl, rfl⟩ := h
          exact HG.out.ok.node a ha
        refine ⟨gp, p, rfl, by have := ht.ord; omega, ht.pt, ⟨⟨fun x y hx hy => ?_, fun x hx k hk => ?_, fun x y hxy => ?_, fun x z hx hz hxz hrd => ?_⟩, fun x hx => ?_⟩, ht.keep⟩
        · show p.getD x 0 = p.getD y 0 ↔ _
          rw [hd x hx, hd y hy]; exact q1.same x y hx hy
        · rw [hd x hx] at hk
          obtain ⟨y, hy, e⟩ := q1.full x hx k hk
          exact ⟨y, hy, by show p.getD y 0 = k; rw [hd y hy]; exact e⟩
        · have h3 := hEn x y hxy
          show p.getD y 0 ≤ p.getD x 0
          rw [hd x h3.1, hd y h3.2]; exact q1.down x y hxy
        · have hxz' : p.getD x 0 ≤ p.getD z 0 := hxz
          rw [hd x hx, hd z hz] at hxz'
          obtain ⟨y, hy, e, l⟩ := q1.least x z hx hz hxz' (fun u v hu huv => by
            have h3 := hEn u v huv
            have := hrd u v hu huv
            rw [hd v h3.2, hd x hx] at this
            exact this)
          exact ⟨y, hy, by show p.getD y 0 = p.getD x 0; rw [hd y hy, hd x hx]; exact e, l⟩
        · rw [hd x hx]
          exact Nat.lt_of_lt_of_le (q2 x hx) hmn
      clear HT
      go_wp2
      go_ret
      exact ⟨_, rfl, HE.out⟩
end Go.Proofs.Ytmlpkjeaieljfab

