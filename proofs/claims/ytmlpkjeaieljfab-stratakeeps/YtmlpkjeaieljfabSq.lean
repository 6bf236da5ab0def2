/- What spreads from a node: spreader's closure, and spreader. -/
import Derived.Test.YtmlpkjeaieljfabSp
namespace Go.Proofs.Ytmlpkjeaieljfab
open Go.RowKit Go.PlainAid Go.Sort

def lenAt (w : World) (b : Nat) : Nat := match w.cell? ⟨b, 0, none⟩ with
  | some (.slice _ n _) => n
  | _ => 0
theorem Wt.lenAt {B : Nat} {w : World} {bw : Nat} {W : List Nat} (h : Wt B w bw W) : lenAt w bw = W.length := by
  obtain ⟨v, h1, h2, -⟩ := h.ex
  unfold Ytmlpkjeaieljfab.lenAt
  rw [h1.cell]
  rcases h2.cases encN_len with ⟨rfl, rfl⟩ | ⟨g, cap, rfl, -⟩ <;> rfl
theorem Wt.form {B : Nat} {w : World} {bw : Nat} {W : List Nat} (h : Wt B w bw W) : ∃ ao cap, w.cell? ⟨bw, 0, none⟩ = some (.slice ao W.length cap) := by
  obtain ⟨v, h1, h2, -⟩ := h.ex
  rcases h2.cases encN_len with ⟨rfl, rfl⟩ | ⟨g, cap, rfl, -⟩
  · exact ⟨none, 0, h1.cell⟩
  · exact ⟨_, cap, h1.cell⟩

theorem count_set (m : List Bool) (k : Nat) (hk : k < m.length) (h : m.getD k false = false) : (m.set k true).count false + 1 = m.count false := by
  induction m generalizing k with
  | nil => simp at hk
  | cons b m ih =>
    cases k with
    | zero =>
      simp at h
      subst h
      simp
    | succ k =>
      have := ih k (by simpa using hk) (by simpa using h)
      simp only [List.set_cons_succ, List.count_cons]
      omega
theorem set_same (m : List Bool) (k : Nat) (h : m.getD k false = true) : m.set k true = m := by
  apply List.ext_getElem?
  intro j
  rw [List.getElem?_set]
  by_cases hj : k = j
  · subst hj
    by_cases hk : k < m.length
    · rw [if_pos rfl, if_pos hk, List.getElem?_eq_getElem hk]
      rw [List.getD_eq_getElem?_getD, List.getElem?_eq_getElem hk] at h
      simp at h
      rw [h]
    · rw [if_pos rfl, if_neg hk, List.getElem?_eq_none (by omega)]
  · rw [if_neg hj]

/-- what a spread leans on: the boxes, the graph -/
structure Fx (B bs bt bg bf bw fm : Nat) (cb : Array Value) (G : List Nat) (va vf : Value) (n : Nat) (A : List Ar) (F : List Nat) (w : World) : Prop where
  cs : w.cell? ⟨bs, 0, none⟩ = some (.func (.func 52) #[] #[.pointer (some ⟨bf, 0, none⟩), .pointer (some ⟨bw, 0, none⟩)])
  ct : w.cell? ⟨bt, 0, none⟩ = some (.func (.func 53) #[] #[.pointer (some ⟨bw, 0, none⟩)])
  cg0 : w.cell? ⟨bg, 0, none⟩ = some va
  cg1 : w.cell? ⟨bg, 1, none⟩ = some vf
  cf : w.cell? ⟨bf, 0, none⟩ = some (.func (.func fm) #[] cb)
  gph : Gph w va vf n A F
  lt : ∀ x, x = bs ∨ x = bt ∨ x = bg ∨ x = bf ∨ va.ownBlock = some x ∨ vf.ownBlock = some x → x < B ∧ x ∉ bw :: G
  bwB : bw < B
  size : B ≤ w.heap.size
  bwG : bw ∉ G
  ltG : ∀ x ∈ G, x < B

theorem Fx.kp {B bs bt bg bf bw fm : Nat} {cb : Array Value} {G : List Nat} {va vf : Value} {n : Nat} {A : List Ar} {F : List Nat} {w w' : World} (h : Fx B bs bt bg bf bw fm cb G va vf n A F w) (k : Kp B (bw :: G) w w') : Fx B bs bt bg bf bw fm cb G va vf n A F w' where
  cs := (k.cell (h.lt bs (by simp)).1 (h.lt bs (by simp)).2).trans h.cs
  ct := (k.cell (h.lt bt (by simp)).1 (h.lt bt (by simp)).2).trans h.ct
  cg0 := (k.cell (h.lt bg (by simp)).1 (h.lt bg (by simp)).2).trans h.cg0
  cg1 := (k.cell (h.lt bg (by simp)).1 (h.lt bg (by simp)).2).trans h.cg1
  cf := (k.cell (h.lt bf (by simp)).1 (h.lt bf (by simp)).2).trans h.cf
  gph := ⟨k.rd h.gph.arcs (fun x hx => h.lt x (by simp [hx])), k.rd h.gph.first (fun x hx => h.lt x (by simp [hx])), h.gph.ok, h.gph.big⟩
  lt := h.lt
  bwB := h.bwB
  size := Nat.le_trans h.size k.size
  bwG := h.bwG
  ltG := h.ltG

/-- the marks as a plain predicate -/
def Mk (m : List Bool) (x : Nat) : Prop := m.getD x false = true
theorem Mk.set {m : List Bool} {y : Nat} (hy : y < m.length) (x : Nat) : Mk (m.set y true) x ↔ Mk m x ∨ x = y := by
  unfold Mk
  rw [getD_set _ _ _ _ _ hy]
  by_cases h : x = y
  · simp [h]
  · simp [h]

/-- the state between two takes -/
structure So (B bs bt bg bf bw fm : Nat) (cb : Array Value) (G : List Nat) (T : World → List Bool → Prop) (va vf : Value) (n : Nat) (A : List Ar) (F : List Nat) (w : World) (M : Nat → Prop) (s : Nat) (wr : World) (m : List Bool) (W : List Nat) (k : Option Nat) (P : List Nat) : Prop where
  fx : Fx B bs bt bg bf bw fm cb G va vf n A F wr
  t : T wr m
  wt : Wt B wr bw W
  wk : Wk (Ec A) M s (Mk m) W k P
  ms : Mk m s
  kp : Kp B (bw :: G) w wr
  wl : ∀ x ∈ W, x < n
  cnt : W.length + m.count false ≤ n

theorem Fx.cells {B bs bt bg bf bw fm : Nat} {cb : Array Value} {G : List Nat} {va vf : Value} {n : Nat} {A : List Ar} {F : List Nat} {w : World} (h : Fx B bs bt bg bf bw fm cb G va vf n A F w) :
    w.cell? ⟨bg, 0, none⟩ = some va ∧ w.cell? ⟨bg, 1, none⟩ = some vf ∧ w.cell? ⟨bt, 0, none⟩ = some (.func (.func 53) #[] #[.pointer (some ⟨bw, 0, none⟩)]) ∧ Hid (Fx B bs bt bg bf bw fm cb G va vf n A F w) := ⟨h.cg0, h.cg1, h.ct, h⟩

/-- a target was shown -/
theorem So.next {B bs bt bg bf bw fm : Nat} {cb : Array Value} {G : List Nat} {T : World → List Bool → Prop} {va vf : Value} {n : Nat} {A : List Ar} {F : List Nat} {w : World} {M : Nat → Prop} {s : Nat} {wr wr' : World} {m : List Bool} {W : List Nat} {k t : Nat} {P : List Nat} (h : So B bs bt bg bf bw fm cb G T va vf n A F w M s wr m W (some k) P) (hl : m.length = n) (ht : t < n) (he : Ec A k t)
    (t' : T wr' (m.set t true)) (wt' : Wt B wr' bw (if m.getD t false then W else W ++ [t])) (kp' : Kp B (bw :: G) wr wr') :
    So B bs bt bg bf bw fm cb G T va vf n A F w M s wr' (m.set t true) (if m.getD t false then W else W ++ [t]) (some k) (P ++ [t]) ∧ 2 * (m.set t true).count false + (if m.getD t false then W else W ++ [t]).length ≤ 2 * m.count false + W.length := by
  cases hm : m.getD t false with
  | true =>
    rw [set_same m t hm] at t' ⊢
    rw [hm] at wt'
    exact ⟨⟨h.fx.kp kp', t', wt', h.wk.skip hm, h.ms, h.kp.trans kp', h.wl, h.cnt⟩, Nat.le_refl _⟩
  | false =>
    rw [hm] at wt'
    have hc := count_set m t (by omega) hm
    refine ⟨⟨h.fx.kp kp', t', wt', (h.wk.mark (by unfold Mk; rw [hm]; simp) he).congr (fun x => (Mk.set (by omega) x).symm), (Mk.set (by omega) _).2 (.inl h.ms), h.kp.trans kp', fun x hx => ?_, ?_⟩, ?_⟩
    · simp at hx
      rcases hx with hx | rfl
      · exact h.wl x hx
      · exact ht
    · have := h.cnt
      simp
      omega
    · simp
      omega
theorem So.taken {B bs bt bg bf bw fm : Nat} {cb : Array Value} {G : List Nat} {T : World → List Bool → Prop} {va vf : Value} {n : Nat} {A : List Ar} {F : List Nat} {w : World} {M : Nat → Prop} {s : Nat} {wr wr' : World} {m : List Bool} {W : List Nat} {k : Nat} (h : So B bs bt bg bf bw fm cb G T va vf n A F w M s wr m (W ++ [k]) none []) (hM : MeetOk B bw fm n cb G T) (wt' : Wt B wr' bw W) (kp' : Kp B [bw] wr wr') :
    So B bs bt bg bf bw fm cb G T va vf n A F w M s wr' m W (some k) [] where
  fx := h.fx.kp (kp'.mono (by simp))
  t := hM.keep _ _ _ h.t kp'
  wt := wt'
  wk := h.wk.take
  ms := h.ms
  kp := h.kp.trans (kp'.mono (by simp))
  wl x hx := h.wl x (by simp [hx])
  cnt := by have := h.cnt; simp at this; omega
theorem So.left {B bs bt bg bf bw fm : Nat} {cb : Array Value} {G : List Nat} {T : World → List Bool → Prop} {va vf : Value} {n : Nat} {A : List Ar} {F : List Nat} {w : World} {M : Nat → Prop} {s : Nat} {wr : World} {m : List Bool} {W : List Nat} {k : Nat} (h : So B bs bt bg bf bw fm cb G T va vf n A F w M s wr m W (some k) ((outL A F k).map Ar.t)) (hk : k < n) : So B bs bt bg bf bw fm cb G T va vf n A F w M s wr m W none [] := by
  refine ⟨h.fx, h.t, h.wt, h.wk.left (fun y hy => ?_), h.ms, h.kp, h.wl, h.cnt⟩
  obtain ⟨a, ha, hf, rfl⟩ := hy
  exact List.mem_map.2 ⟨a, (h.fx.gph.ok.out k hk a).2 ⟨ha, hf⟩, rfl⟩

abbrev Sc (B bs bt bg bf bw fm : Nat) (cb : Array Value) (G : List Nat) (va vf : Value) (n : Nat) (A : List Ar) (F : List Nat) (w : World) : Prop :=
  w.cell? ⟨bg, 0, none⟩ = some va ∧ w.cell? ⟨bg, 1, none⟩ = some vf ∧ w.cell? ⟨bt, 0, none⟩ = some (.func (.func 53) #[] #[.pointer (some ⟨bw, 0, none⟩)]) ∧ Hid (Fx B bs bt bg bf bw fm cb G va vf n A F w)
theorem sc_drew {B bs bt bg bf bw fm : Nat} {cb : Array Value} {G : List Nat} {va vf : Value} {n : Nat} {A : List Ar} {F : List Nat} {w : World} (h : Hid (Fx B bs bt bg bf bw fm cb G va vf n A F w)) : Sc B bs bt bg bf bw fm cb G va vf n A F w.drew :=
  (h.out.kp (Kp.of ((Keep.refl [] w).drew) h.out.size (by simp))).cells
theorem sc_take {B bs bt bg bf bw fm : Nat} {cb : Array Value} {G : List Nat} {va vf : Value} {n : Nat} {A : List Ar} {F : List Nat} {w w' : World} (k : Kp B [bw] w w') (h : Sc B bs bt bg bf bw fm cb G va vf n A F w) : Sc B bs bt bg bf bw fm cb G va vf n A F w' :=
  (h.2.2.2.out.kp (k.mono (by simp))).cells
theorem sc_gw {B bs bt bg bf bw fm : Nat} {cb : Array Value} {G : List Nat} {va vf : Value} {n : Nat} {A : List Ar} {F : List Nat} {w w' : World} (k : Gw w w') (h : Sc B bs bt bg bf bw fm cb G va vf n A F w) : Sc B bs bt bg bf bw fm cb G va vf n A F w' :=
  (h.2.2.2.out.kp (Kp.of k.keep h.2.2.2.out.size (by simp))).cells

set_option maxRecDepth 1000000 in
set_option maxHeartbeats 4000000 in
theorem spread_any {B bs bt bg bf bw fm : Nat} {cb : Array Value} {G : List Nat} {T : World → List Bool → Prop} {va vf : Value} {n : Nat} {A : List Ar} {F : List Nat} (hM : MeetOk B bw fm n cb G T) (huniq : ∀ w m m', T w m → T w m' → m = m') (s : Nat) (m : List Bool) (w : World) (hs : s < n) (hfx : Fx B bs bt bg bf bw fm cb G va vf n A F w) (hT : T w m) (hW : Wt B w bw []) :
    Calls Try.prog 54 #[.int .i64 (s : Int), .pointer (some ⟨bs, 0, none⟩), .pointer (some ⟨bw, 0, none⟩), .pointer (some ⟨bg, 0, none⟩), .pointer (some ⟨bt, 0, none⟩)] w fun e w' => e = .returned (.tuple #[]) ∧ ∃ m', (T w' m' ∧ Wt B w' bw []) ∧ (∀ x, Mk m' x ↔ Mk m x ∨ RM (Ec A) (Mk m) s x) ∧ Kp B (bw :: G) w w' := by
  have hn := hfx.gph.big.2
  obtain ⟨mz, hmz⟩ : ∃ mz : World → Nat, ∀ w m, T w m → mz w = m.count false := by
    have h : ∀ w, ∃ c : Nat, ∀ m, T w m → c = m.count false := fun w => by
      by_cases h : ∃ m, T w m
      · obtain ⟨m, hm⟩ := h
        exact ⟨m.count false, fun m' hm' => by rw [huniq w m m' hm hm']⟩
      · exact ⟨0, fun m hm => absurd ⟨m, hm⟩ h⟩
    exact ⟨fun w => Classical.choose (h w), fun w m hm => Classical.choose_spec (h w) m hm⟩
  have HMZ : Hid (∀ w m, T w m → mz w = m.count false) := hmz
  have HM : Hid (MeetOk B bw fm n cb G T) := hM
  have HF0 : Hid (Fx B bs bt bg bf bw fm cb G va vf n A F w) := hfx
  have hSh := show_any hM s m [] w hs hT hW hfx.cf hfx.bwB hfx.size hfx.bwG hfx.ltG (by simp)
  have HSh : Hid (type_of% hSh) := hSh
  clear hSh
  have HT : Hid (T w m) := hT
  have c0 := hfx.cs
  clear hM huniq hmz hfx hT hW
  go_enter Try.func54, Try.ntmps54
  go_wp2_with fail
  refine HSh.out.mono ?_
  rintro e w1 ⟨rfl, t1, wt1, k1⟩
  clear HSh c0
  have hml : m.length = n := HM.out.len _ _ HT.out
  by_cases hm : m.getD s false = true
  · rw [if_pos hm] at wt1
    have HE : Hid (T w1 m ∧ Wt B w1 bw [] ∧ Kp B (bw :: G) w w1) := ⟨by rw [set_same m s hm] at t1; exact t1, wt1, k1⟩
    obtain ⟨ao, cap, cw⟩ := wt1.form
    clear t1 wt1 k1
    go_wp2
    refine wp_loop_rounds 1 ?_
    rw [rounds_succ]
    go_wp2
    go_end0
    refine ⟨rfl, m, ⟨HE.out.1, HE.out.2.1⟩, fun x => ⟨.inl, fun h => ?_⟩, HE.out.2.2⟩
    rcases h with h | h
    · exact h
    · exact absurd hm h.not0
  · rw [if_neg hm, List.nil_append] at wt1
    have hmf : m.getD s false = false := by simpa using hm
    have H0 : Hid (So B bs bt bg bf bw fm cb G T va vf n A F w (Mk m) s w1 (m.set s true) [s] none []) := by
      refine ⟨HF0.out.kp k1, t1, wt1, (Wk.start hm).congr (fun x => (Mk.set (by omega) x).symm), (Mk.set (by omega) s).2 (.inr rfl), k1, fun x hx => by simp at hx; omega, ?_⟩
      have := count_set m s (by omega) hmf
      have := List.count_le_length (l := m) (a := false)
      simp
      omega
    clear t1 wt1 k1 HF0 HT
    go_wp2
    go_loopw [] (fun wr => ∃ (m2 : List Bool) (W : List Nat), Hid (So B bs bt bg bf bw fm cb G T va vf n A F w (Mk m) s wr m2 W none [])) (fun wr => 2 * mz wr + lenAt wr bw)
    case atStart => exact ⟨_, _, H0⟩
    case round =>
      clear H0
      obtain ⟨m2, W, HS⟩ := hrel
      rcases List.eq_nil_or_concat W with rfl | ⟨W', k, rfl⟩
      · obtain ⟨ao, cap, cw⟩ := HS.out.wt.form
        go_wp2
        go_end0
        exact ⟨rfl, m2, ⟨HS.out.t, HS.out.wt⟩, HS.out.wk.stop HS.out.ms, HS.out.kp⟩
      · rw [List.concat_eq_append] at HS
        obtain ⟨ao, cap, cw⟩ := HS.out.wt.form
        rw [List.length_append, List.length_singleton] at cw
        have hkn : k < n := HS.out.wl k (by simp)
        have HFx : Hid (Fx B bs bt bg bf bw fm cb G va vf n A F wr) := HS.out.fx
        have HTk : Hid (∀ w9, Kp B [bw] wr w9 → Wt B w9 bw (W' ++ [k]) → Calls Try.prog 53 #[.pointer (some ⟨bw, 0, none⟩)] w9 fun e w' => e = .returned (.int .i64 (k : Int)) ∧ Wt B w' bw W' ∧ Kp B [bw] w9 w') := fun w9 k9 h9 => take_any k W' w9 h9 HFx.out.bwB (Nat.le_trans HFx.out.size k9.size)
        have HTd : Hid (∀ q, Calls Try.prog 53 #[.pointer (some ⟨bw, 0, none⟩)] (wr.drewN q) fun e w' => e = .returned (.int .i64 (k : Int)) ∧ Wt B w' bw W' ∧ Kp B [bw] (wr.drewN q) w') := fun q => HTk.out _ (Kp.of ((Keep.refl [] wr).drewN q) HFx.out.size (by simp)) (HS.out.wt.kp ((Keep.refl [] wr).drewN q))
        have hTd1 : Calls Try.prog 53 #[.pointer (some ⟨bw, 0, none⟩)] wr.drew fun e w' => e = .returned (.int .i64 (k : Int)) ∧ Wt B w' bw W' ∧ Kp B [bw] wr.drew w' := HTd.out 1
        have HTd1 : Hid (type_of% hTd1) := hTd1
        clear HTk HTd hTd1
        have HLv : Hid (∀ w9, Fx B bs bt bg bf bw fm cb G va vf n A F w9 → Calls Try.prog 38 #[.agg #[va, vf], .int .i64 (k : Int)] w9 fun e w' => ∃ v', e = .returned v' ∧ Lv w' va A F k v' ∧ Gw w9 w') := fun w9 h9 => leaving_any va vf n A F k w9 h9.gph hkn
        have hlen : (0 : Int) < (W'.length : Int) + 1 := by omega
        go_wp2
        go_region_held3 (fun w' => w'.cell? ⟨bg, 0, none⟩ = some va ∧ w'.cell? ⟨bg, 1, none⟩ = some vf ∧ w'.cell? ⟨bt, 0, none⟩ = some (.func (.func 53) #[] #[.pointer (some ⟨bw, 0, none⟩)]) ∧ Hid (Fx B bs bt bg bf bw fm cb G va vf n A F w'))
          (first | assumption | exact sc_drew HFx | exact sc_take (by assumption) (by assumption) | exact sc_gw (by assumption) (by assumption))
          (first | (go_at_call 53; refine HTd1.out.mono ?_; rintro e w5 ⟨rfl, wt5, k5⟩) | (go_at_call 38; refine (HLv.out _ (show Sc B bs bt bg bf bw fm cb G va vf n A F _ from by assumption).2.2.2.out).mono ?_; rintro e w6 ⟨v6, rfl, lv6, g6⟩; obtain ⟨a6, c6, rfl, hc6, hd6⟩ := lv6.rd.form))
        have HI : Hid (So B bs bt bg bf bw fm cb G T va vf n A F w (Mk m) s w6 m2 W' (some k) []) := HS.out.taken HM.out (wt5.kp g6.keep) ((Kp.of ((Keep.refl [] wr).drew) HFx.out.size (by simp)).trans (k5.trans (Kp.of g6.keep (Nat.le_trans HFx.out.size k5.size) (by simp))))
        have HV : Hid (Lv w6 va A F k (.slice a6 (outL A F k).length c6)) := lv6
        obtain ⟨mu, HMU⟩ : ∃ mu : Nat, Hid (mu = 2 * m2.count false + (W'.length + 1)) := ⟨_, show _ = _ from rfl⟩
        have HW0 : Hid (2 * mz wr + lenAt wr bw = mu) := by
          show _ = _
          rw [HMU.out, HMZ.out _ _ HS.out.t, HS.out.wt.lenAt]
          simp
        clear HS HFx HTd1 HLv wt5 k5 g6 lv6 cw
        rename_i hHx
        clear hHx
        obtain ⟨L, HL⟩ : ∃ L, Hid (L = outL A F k) := ⟨_, show _ = _ from rfl⟩
        rw [← HL.out] at HV hc6 ⊢
        have HE : Hid (∀ a ∈ L, a.t < n ∧ Ec A k a.t) := fun a ha => by
          rw [HL.out] at ha
          have hok := HI.out.fx.gph.ok
          have hx := (hok.out k hkn a).1 ha
          exact ⟨(hok.node a hx.1).2, a, hx.1, hx.2, rfl⟩
        have hLn : L.length ≤ 262144 := by
          rw [HL.out]
          have hbig := HI.out.fx.gph.big.1
          have := outL_len HI.out.fx.gph.ok k hkn
          have := HI.out.fx.gph.ok.le (k + 1) hkn
          omega
        go_wp2
        go_loopw [19] (fun iv wr => ∃ (i : Nat) (m3 : List Bool) (W3 : List Nat), iv = .int .i64 (i : Int) ∧ i ≤ L.length ∧ Hid (So B bs bt bg bf bw fm cb G T va vf n A F w (Mk m) s wr m3 W3 (some k) ((L.take i).map Ar.t)) ∧ Hid (Lv wr va A F k (.slice a6 L.length c6)) ∧ Hid (2 * m3.count false + W3.length < mu)) (fun iv _ => L.length - (intOf iv).toNat)
        case atStart => exact ⟨0, m2, W', rfl, Nat.zero_le _, HI, HV, by have := HMU.out; show _ < _; omega⟩
        case round =>
          clear HI HV
          obtain ⟨i, m3, W3, rfl, hi, HI, HV, HC⟩ := hrel
          by_cases hlt : i < L.length
          · have hlti : (i : Int) < (L.length : Int) := by omega
            obtain ⟨b, o, c, he, hb, c0, c1, c2⟩ := (show Rd encA 3 wr (.slice a6 L.length c6) L by have := HV.out.rd; rwa [← HL.out] at this).arcA i hlt
            simp at he
            obtain ⟨rfl, rfl⟩ := he
            have ht := HE.out L[i] (List.getElem_mem hlt)
            have HTN : Hid ((L.take (i + 1)).map Ar.t = (L.take i).map Ar.t ++ [L[i].t]) := by show _ = _; rw [List.take_succ_eq_append_getElem hlt, List.map_append]; rfl
            generalize (L[i].f : Int) = f at c0
            generalize L[i].g = g0 at c2
            generalize L[i].t = t at c1 ht HTN
            have hcn := HI.out.cnt
            have hm3 : m3.length = n := HM.out.len _ _ HI.out.t
            have hbl : b < B ∧ b ∉ bw :: G := HI.out.fx.lt b (by
              have := HV.out.own b rfl
              simp [this])
            have HSh : Hid (∀ o', Calls Try.prog 52 #[.int .i64 (t : Int), .pointer (some ⟨bf, 0, none⟩), .pointer (some ⟨bw, 0, none⟩)] (wr.alloc o') fun e w' => e = .returned (.tuple #[]) ∧ T w' (m3.set t true) ∧ Wt B w' bw (if m3.getD t false then W3 else W3 ++ [t]) ∧ Kp B (bw :: G) (wr.alloc o') w') := fun o' => by
              have ka : Kp B (bw :: G) wr (wr.alloc o') := Kp.of (Keep.alloc1 wr o') HI.out.fx.size (by simp)
              have hfx := HI.out.fx.kp ka
              exact show_any HM.out t m3 W3 _ ht.1 (HM.out.keep _ _ _ HI.out.t (Kp.of (Keep.alloc1 wr o') HI.out.fx.size (by simp))) (HI.out.wt.kp (Keep.alloc1 wr o')) hfx.cf hfx.bwB hfx.size hfx.bwG hfx.ltG (by omega)
            have HJ : Hid (∀ o' w', T w' (m3.set t true) → Wt B w' bw (if m3.getD t false then W3 else W3 ++ [t]) → Kp B (bw :: G) (wr.alloc o') w' → So B bs bt bg bf bw fm cb G T va vf n A F w (Mk m) s w' (m3.set t true) (if m3.getD t false then W3 else W3 ++ [t]) (some k) ((L.take (i + 1)).map Ar.t) ∧ Lv w' va A F k (.slice (some ⟨b, o, none⟩) L.length c6) ∧ 2 * (m3.set t true).count false + (if m3.getD t false then W3 else W3 ++ [t]).length < mu) := fun o' w' h1 h2 h3 => by
              have kk : Kp B (bw :: G) wr w' := (Kp.of (Keep.alloc1 wr o') HI.out.fx.size (by simp)).trans h3
              have hx := HI.out.next hm3 ht.1 ht.2 h1 h2 kk
              rw [HTN.out]
              refine ⟨hx.1, ⟨kk.rd HV.out.rd (fun x hx => ?_), HV.out.own⟩, Nat.lt_of_le_of_lt hx.2 HC.out⟩
              have := HV.out.own x hx
              exact HI.out.fx.lt x (by simp [this])
            have cs := HI.out.fx.cs
            have hbs : bs < wr.heap.size := Nat.lt_of_lt_of_le (HI.out.fx.lt bs (by simp)).1 HI.out.fx.size
            clear HI HV HC hbl
            go_wp2_with fail
            refine (HSh.out _).mono ?_
            rintro e w9 ⟨rfl, t9, wt9, k9⟩
            have H9 : Hid _ := HJ.out _ _ t9 wt9 k9
            clear HSh HJ t9 wt9 k9 cs
            go_wp2
            go_roundw
            case rel => exact ⟨i + 1, _, _, by go_num, by omega, H9.out.1, H9.out.2.1, H9.out.2.2⟩
            case measure => simp [intOf]; omega
          · have hlti : ¬ (i : Int) < (L.length : Int) := by omega
            have HZ : Hid (So B bs bt bg bf bw fm cb G T va vf n A F w (Mk m) s wr m3 W3 none []) := by
              have := HI.out
              rw [List.take_of_length_le (by omega), HL.out] at this
              exact this.left hkn
            clear HI HV
            go_wp2
            go_roundw
            case rel => exact ⟨m3, W3, HZ⟩
            case measure =>
              rw [HW0.out, HMZ.out _ _ HZ.out.t, HZ.out.wt.lenAt]
              exact HC.out
end Go.Proofs.Ytmlpkjeaieljfab

