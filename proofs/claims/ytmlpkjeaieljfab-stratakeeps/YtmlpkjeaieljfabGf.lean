/- Two arcs compared: compareArcs, cmp.Compare, cmp.Or. -/
import Derived.Test.YtmlpkjeaieljfabGn
import Derived.Sort.Grow
import Derived.Sort.Statements
import Derived.Lib.Small

namespace Go.Proofs.Ytmlpkjeaieljfab
open Go.RowKit Go.PlainAid Go.Sort

theorem isNaN_any (x : Int) (w : World) : Calls Try.prog 51 #[.int .i64 x] w fun e w' => e = .returned (.bool false) ∧ w' = w := by
  go_enter Try.func51, Try.ntmps51
  go_wp2
  go_ret
  exact ⟨by simp, rfl⟩

theorem compare_any (x y : Int) (w : World) : Calls Try.prog 37 #[.int .i64 x, .int .i64 y] w fun e w' => e = .returned (.int .i64 (Lib.compareInt x y)) ∧ w' = w := by
  by_cases h1 : x < y
  · rw [show Lib.compareInt x y = -1 by simp [Lib.compareInt, h1]]
    go_enter Try.func37, Try.ntmps37
    go_wp2_with (first | (go_at_call_of 51 x; refine (isNaN_any x _).mono ?_; rintro e w' ⟨rfl, rfl⟩) | (go_at_call_of 51 y; refine (isNaN_any y _).mono ?_; rintro e w' ⟨rfl, rfl⟩))
    go_ret
    exact ⟨rfl, rfl⟩
  by_cases h2 : y < x
  · rw [show Lib.compareInt x y = 1 by simp [Lib.compareInt, h1, h2]]
    go_enter Try.func37, Try.ntmps37
    go_wp2_with (first | (go_at_call_of 51 x; refine (isNaN_any x _).mono ?_; rintro e w' ⟨rfl, rfl⟩) | (go_at_call_of 51 y; refine (isNaN_any y _).mono ?_; rintro e w' ⟨rfl, rfl⟩))
    go_ret
    exact ⟨rfl, rfl⟩
  · rw [show Lib.compareInt x y = 0 by simp [Lib.compareInt, h1, h2]]
    go_enter Try.func37, Try.ntmps37
    go_wp2_with (first | (go_at_call_of 51 x; refine (isNaN_any x _).mono ?_; rintro e w' ⟨rfl, rfl⟩) | (go_at_call_of 51 y; refine (isNaN_any y _).mono ?_; rintro e w' ⟨rfl, rfl⟩))
    go_ret
    exact ⟨rfl, rfl⟩

def orI (a b c : Int) : Int := if a ≠ 0 then a else if b ≠ 0 then b else c

set_option maxRecDepth 100000 in
theorem or_any (a b c : Int) (w : World) (g : Nat) (h0 : w.cell? ⟨g, 0, none⟩ = some (.int .i64 a)) (h1 : w.cell? ⟨g, 1, none⟩ = some (.int .i64 b)) (h2 : w.cell? ⟨g, 2, none⟩ = some (.int .i64 c)) :
    Calls Try.prog 45 #[.slice (some ⟨g, 0, none⟩) 3 3] w fun e w' => e = .returned (.int .i64 (orI a b c)) ∧ w' = w := by
  by_cases ha : a = 0
  · by_cases hb : b = 0
    · by_cases hc : c = 0
      · rw [show orI a b c = 0 by simp [orI, ha, hb, hc]]
        go_enter Try.func45, Try.ntmps45
        go_wp2
        refine wp_loop_rounds 4 ?_
        rw [rounds_succ]; go_wp2
        rw [rounds_succ]; go_wp2
        rw [rounds_succ]; go_wp2
        rw [rounds_succ]; go_wp2
        go_ret
        exact ⟨rfl, rfl⟩
      · rw [show orI a b c = c by simp [orI, ha, hb]]
        have hn : (c != 0) = true := by simpa using hc
        go_enter Try.func45, Try.ntmps45
        go_wp2
        refine wp_loop_rounds 4 ?_
        rw [rounds_succ]; go_wp2
        rw [rounds_succ]; go_wp2
        rw [rounds_succ]; go_wp2
        go_ret
        exact ⟨rfl, rfl⟩
    · rw [show orI a b c = b by simp [orI, ha, hb]]
      have hn : (b != 0) = true := by simpa using hb
      go_enter Try.func45, Try.ntmps45
      go_wp2
      refine wp_loop_rounds 4 ?_
      rw [rounds_succ]; go_wp2
      rw [rounds_succ]; go_wp2
      go_ret
      exact ⟨rfl, rfl⟩
  · rw [show orI a b c = a by simp [orI, ha]]
    have hn : (a != 0) = true := by simpa using ha
    go_enter Try.func45, Try.ntmps45
    go_wp2
    refine wp_loop_rounds 4 ?_
    rw [rounds_succ]; go_wp2
    go_ret
    exact ⟨rfl, rfl⟩

theorem or_new (a b c : Int) (w : World) : Calls Try.prog 45 #[.slice (some ⟨w.heap.size, 0, none⟩) 3 3] (w.alloc (.cells #[.int .i64 a, .int .i64 b, .int .i64 c] 3)) fun e w' => e = .returned (.int .i64 (orI a b c)) ∧ w' = w.alloc (.cells #[.int .i64 a, .int .i64 b, .int .i64 c] 3) :=
  or_any a b c _ _ (by simp) (by simp) (by simp)

/-- nothing but new blocks, and some draws -/
def Gw (W w' : World) : Prop := ∃ q os, w' = grow (W.drewN q) os
theorem Gw.refl (W : World) : Gw W W := ⟨0, #[], by simp [World.drewN]⟩
theorem Gw.drew {W w : World} (h : Gw W w) : Gw W w.drew := by
  obtain ⟨q, os, rfl⟩ := h
  exact ⟨q + 1, os, rfl⟩
theorem Gw.drewN {W w : World} (h : Gw W w) (n : Nat) : Gw W (w.drewN n) := by
  obtain ⟨q, os, rfl⟩ := h
  exact ⟨q + n, os, by simp [World.drewN, grow, Nat.add_assoc]⟩
theorem Gw.alloc {W w : World} (h : Gw W w) (o : Obj) : Gw W (w.alloc o) := by
  obtain ⟨q, os, rfl⟩ := h
  exact ⟨q, os ++ #[o], by rw [alloc_eq_grow, grow_grow]⟩
theorem Gw.keep {W w : World} (h : Gw W w) : Keep [] W w := by
  obtain ⟨q, os, rfl⟩ := h
  refine ⟨rfl, rfl, rfl, by simp, fun k hk _ => ?_⟩
  show (W.heap ++ os)[k]? = _
  rw [Array.getElem?_append_left hk]
theorem Gw.trans {a b c : World} (h : Gw a b) (k : Gw b c) : Gw a c := by
  obtain ⟨q, os, rfl⟩ := h
  obtain ⟨q', os', rfl⟩ := k
  refine ⟨q + q', os ++ os', ?_⟩
  show World.mk ((a.heap ++ os) ++ os') _ (a.drawn + q + q') _ _ = World.mk (a.heap ++ (os ++ os')) _ (a.drawn + (q + q')) _ _
  rw [Array.append_assoc, Nat.add_assoc]
  rfl

def ng (g : Bool) : Int := if g then 1 else 0
/-- two arcs compared -/
def cmpA (x y : Ar) : Int := orI (Lib.compareInt x.f y.f) (Lib.compareInt x.t y.t) (Lib.compareInt (ng x.g) (ng y.g))

theorem gw_start {W : World} : (∀ b o, b < W.heap.size → W.drew.cell? ⟨b, o, none⟩ = W.cell? ⟨b, o, none⟩) ∧ Gw W W.drew := ⟨fun _ _ _ => rfl, (Gw.refl _).drew⟩
theorem gw_next {W wi wj : World} (hb : Gw wi wj) (h : (∀ b o, b < W.heap.size → wi.cell? ⟨b, o, none⟩ = W.cell? ⟨b, o, none⟩) ∧ Gw W wi) : (∀ b o, b < W.heap.size → wj.cell? ⟨b, o, none⟩ = W.cell? ⟨b, o, none⟩) ∧ Gw W wj :=
  ⟨fun _ _ hl => (h.2.trans hb).keep.cell hl (by simp), h.2.trans hb⟩

set_option maxRecDepth 1000000 in
set_option maxHeartbeats 4000000 in
theorem compareArcs_any (x y : Ar) (w : World) : Calls Try.prog 29 #[.agg #[.int .i64 (x.f : Int), .int .i64 (x.t : Int), .bool x.g], .agg #[.int .i64 (y.f : Int), .int .i64 (y.t : Int), .bool y.g]] w fun e w' => e = .returned (.int .i64 (cmpA x y)) ∧ Gw w w' := by
  have HC : Hid (∀ a b w, Calls Try.prog 37 #[.int .i64 a, .int .i64 b] w fun e w' => e = .returned (.int .i64 (Lib.compareInt a b)) ∧ w' = w) := compare_any
  unfold cmpA
  generalize (x.f : Int) = xf
  generalize (x.t : Int) = xt
  generalize x.g = xg
  generalize (y.f : Int) = yf
  generalize (y.t : Int) = yt
  generalize y.g = yg
  have HN : Hid (∀ f t g w, Calls Try.prog 39 #[.agg #[.int .i64 f, .int .i64 t, .bool g]] w fun e w' => e = .returned (.int .i64 (ng g)) ∧ Gw w w') := fun f t g w => (negWeight_any f t g w).mono fun e w' ⟨h1, h2⟩ => ⟨h1, by rw [h2]; exact (Gw.refl w).alloc _⟩
  go_enter Try.func29, Try.ntmps29
  go_wp2
  go_region_held3 (fun w' => (∀ b o, b < ((w.alloc (.cells #[.int .i64 xf, .int .i64 xt, .bool xg] 31)).alloc (.cells #[.int .i64 yf, .int .i64 yt, .bool yg] 31)).heap.size → w'.cell? ⟨b, o, none⟩ = ((w.alloc (.cells #[.int .i64 xf, .int .i64 xt, .bool xg] 31)).alloc (.cells #[.int .i64 yf, .int .i64 yt, .bool yg] 31)).cell? ⟨b, o, none⟩) ∧ Gw ((w.alloc (.cells #[.int .i64 xf, .int .i64 xt, .bool xg] 31)).alloc (.cells #[.int .i64 yf, .int .i64 yt, .bool yg] 31)) w')
    (first | assumption | exact gw_start | exact gw_next (by assumption) (by assumption) | exact gw_next ((Gw.refl _).alloc _) (by assumption))
    (first | (go_at_call_of 37 xf; refine (HC.out _ _ _).mono ?_; rintro e w' ⟨rfl, rfl⟩) | (go_at_call_of 37 xt; refine (HC.out _ _ _).mono ?_; rintro e w' ⟨rfl, rfl⟩) | (go_at_call 39; refine (HN.out _ _ _ _).mono ?_; rintro e w1 ⟨rfl, hb⟩) | (go_at_call 37; refine (HC.out _ _ _).mono ?_; rintro e w' ⟨rfl, rfl⟩) | (go_at_call 45; refine (or_new _ _ _ _).mono ?_; rintro e w' ⟨rfl, rfl⟩))
  all_goals go_wp2
  all_goals go_ret
  rename_i hH
  exact ⟨rfl, (((Gw.refl w).alloc _).alloc _).trans hH.2⟩
end Go.Proofs.Ytmlpkjeaieljfab

/- Arcs copied, and each kept once: slices.Clone, onceEach. -/
namespace Go.Proofs.Ytmlpkjeaieljfab
open Go.RowKit Go.PlainAid Go.Sort

/-- an append that stays in the row -/
theorem wp_appIn {P : Program} {E : TypeId} {z : Value} {sz nb : Nat} (hinfo : (P.info? E).map (fun i => (i.zero, i.size, i.bytes)) = some (some z, sz, nb))
    {ops : Array Oper} {rest : List Oper} {o : Oper} {a : Act} {w : World} {Q : Exit → Act → World → Prop} (hgd : o.guard = none) (s x : Operand) (t tx : TypeId)
    (ho : o.op = .call { callee := .builtin .append, args := #[s, x], argTypes := #[t, tx] }) (ht : P.underlying t = some (.slice E))
    (g m L cap : Nat) (xs : List Value) (hv : a.eval s = .slice (some ⟨g, 0, none⟩) m cap) (hown : RowC w E sz (.slice (some ⟨g, 0, none⟩) L cap) L xs) (u : Value) (k : Nat) (ys : List Value) (hu : a.eval x = u) (hs : Src P sz tx u k ys w) (hfit : m + k ≤ L)
    (h : ∀ w', RowC w' E sz (.slice (some ⟨g, 0, none⟩) L cap) L (xs.take (m * sz) ++ ys ++ xs.drop ((m + k) * sz)) → Keep [g] w w' → wpList P ops Q rest (a.put o.dst (.slice (some ⟨g, 0, none⟩) (m + k) cap)) w') : wpList P ops Q (o :: rest) a w := by
  obtain ⟨i, hi, hz, hsize, hby⟩ := info_parts hinfo
  have hyl : ys.length = k * sz := hs.newsLen
  have hs' : Src P i.size tx u k ys w := by rw [hsize]; exact hs
  have hmul : (m + k) * sz = m * sz + k * sz := Nat.add_mul _ _ _
  rcases hown.2 with ⟨h1, _⟩ | ⟨g', cap', cur, he, hbg, hg, hnc, hcm, hcs, htake⟩
  · simp at h1
  simp at he
  obtain ⟨rfl, rfl⟩ := he
  have hxl : xs.length = L * sz := hown.1
  have hmL : (m + k) * sz ≤ L * sz := Nat.mul_le_mul_right _ hfit
  have hLc : L * sz ≤ cap * sz := Nat.mul_le_mul_right _ hnc
  have hcl : cur.toList.length = cap * sz := by rw [Array.length_toList, hcs]
  have hroom : m + k ≤ cap := by omega
  have hft : m * i.size + ys.length ≤ cur.size := by rw [hsize, hcs, hyl]; omega
  have hst := run_storeCells_at P g (m * i.size) E ys 0 cur w hg (by simpa using hft) hs'.one
  simp only [Nat.add_zero] at hst
  have hr : (Builtin.append_ #[t, tx] o.type #[.slice (some ⟨g, 0, none⟩) m cap, u]).run P w = .ok (.slice (some ⟨g, 0, none⟩) (m + k) cap) (w.setRow g (cur.toList.take (m * i.size) ++ ys ++ cur.toList.drop (m * i.size + ys.length)).toArray) := by
    rcases hs'.kind with ⟨e', hk⟩ | hk <;>
      simp [Builtin.append_, run_underlying ht, run_underlying hk, sizeOf, typeInfo, hi, hs'.len, hroom, hs'.cells, Addr.add_lit, hst]
  refine wpList_plain hgd fun K hK => ?_
  unfold Oper.wp execOp
  simp only [ho, resolve, invoke, builtin, Sem.run_bind, Sem.run_pure, Result.andThen_ok, List.map_toArray, List.map_cons, List.map_nil, hv, hu, hr]
  refine hK _ _ (h _ ⟨?_, .inr ⟨g, cap, _, rfl, Nat.zero_le _, setRow_heap w g cur _ E _ hg, hnc, hcm, ?_, ?_⟩⟩ ?_)
  · simp only [List.length_append, List.length_take, List.length_drop, hxl, hyl]; omega
  · rw [hsize]
    simp only [List.size_toArray, List.length_append, List.length_take, List.length_drop, hcl, hyl]
    omega
  · rw [hsize, ← htake]
    simp only []
    rw [List.take_append, List.take_append, List.take_take, List.take_take, List.drop_take]
    simp only [List.length_append, List.length_take, hcl, hyl]
    rw [show min (L * sz) (m * sz) = m * sz by omega, show min (m * sz) (L * sz) = m * sz by omega, List.take_of_length_le (l := ys) (by rw [hyl]; omega)]
    rw [show L * sz - (min (m * sz) (cap * sz) + k * sz) = L * sz - (m + k) * sz by omega, hmul]
  · exact ⟨rfl, rfl, rfl, by simp, fun k _ hk => setRow_other w g k _ (fun e => hk (by simp [e]))⟩

theorem Rd.src {α : Type} {enc : α → List Value} {k : Nat} (hk : ∀ x, (enc x).length = k) (h1 : ∀ x, ∀ u ∈ enc x, u.oneCell' = true) (hk0 : 0 < k) {P : Program} {T E : TypeId} (hT : P.underlying T = some (.slice E)) {w : World} {v : Value} {l : List α} (h : Rd enc k w v l) : Src P k T v l.length (l.flatMap enc) w := by
  have hone : ∀ u ∈ l.flatMap enc, u.oneCell' = true := by
    intro u hu
    obtain ⟨x, _, hx⟩ := List.mem_flatMap.1 hu
    exact h1 x u hx
  obtain ⟨ao, cap, rfl, g1, g2, g3, g4⟩ := h.ex
  by_cases hl : l = []
  · subst hl
    cases ao with
    | none => exact Src.ofNil w hT cap
    | some a => exact Src.ofSlice w hT a 0 cap [] (by simp) (fun j u h => by simp at h) (fun u h => by cases h)
  · obtain ⟨b, o, rfl, hb, hc⟩ := g4 hl
    refine Src.ofSlice w hT ⟨b, o, none⟩ l.length cap _ (flat_len hk l) (fun j u hu => ?_) hone
    have hj : j < l.length * k := by
      have := (List.getElem?_eq_some_iff.1 hu).1
      rwa [flat_len hk l] at this
    have hadd : (⟨b, o, none⟩ : Addr).add j = ⟨b, o + j, none⟩ := by unfold Addr.add; split <;> simp_all
    have hd : j / k < l.length := Nat.div_lt_of_lt_mul (by rw [Nat.mul_comm]; exact hj)
    have hm : j % k < k := Nat.mod_lt _ hk0
    have he : j / k * k + j % k = j := by rw [Nat.mul_comm]; exact Nat.div_add_mod j k
    have h2 := hc (j / k) hd (j % k) hm
    have h3 := flat_get hk l (j / k) (j % k) hd hm
    rw [he, hu] at h3
    rw [hadd, show o + j = o + j / k * k + j % k by omega, h2, ← h3]

theorem encA_one : ∀ x : Ar, ∀ u ∈ encA x, u.oneCell' = true := by
  intro x u hu
  simp [encA] at hu
  rcases hu with rfl | rfl | rfl <;> rfl
theorem encI_one : ∀ x : Int, ∀ u ∈ encI x, u.oneCell' = true := by
  intro x u hu
  simp [encI] at hu
  subst hu; rfl

/-- a row made of no elements -/
theorem run_noneA (w : World) : RowC (w.alloc (.cells #[] 31)) 31 3 (.slice (some ⟨w.heap.size, 0, none⟩) 0 0) 0 [] :=
  ⟨rfl, .inr ⟨w.heap.size, 0, #[], rfl, Nat.zero_le _, heap_alloc_new w _, Nat.le_refl _, by simp [maxLen], rfl, rfl⟩⟩

set_option maxRecDepth 1000000 in
set_option maxHeartbeats 1000000 in
theorem cloneA_any (v : Value) (l : List Ar) (w : World) (h : Rd encA 3 w v l) (hl : l.length ≤ 262144) :
    Calls Try.prog 27 #[v] w fun e w' => ∃ v', e = .returned v' ∧ (Rw 31 encA 3 w' v' l ∧ Fresh w w' v') ∧ Keep [] w w' := by
  have q22 : ∀ (w : World) (a : Option Addr) (n c n' c' : Nat), (binOp .eql 22 (.slice a n c) (.slice none n' c')).run Try.prog w = .ok (.bool a.isNone) w := fun w a n c n' c' => Lib.run_eql_slice_nil w _ _ a n c n' c' Try.underlying22
  obtain ⟨ao, cap, rfl, h1, h2, h3, -⟩ := h.ex
  cases ao with
  | none =>
    have hl0 : l = [] := List.eq_nil_of_length_eq_zero (by have := h3 rfl; omega)
    subst hl0
    clear h
    go_enter Try.func27, Try.ntmps27
    go_wp2
    go_ret
    exact ⟨_, rfl, ⟨Rw.nil 31 encA 3 w, Fresh.nil _ _⟩, Keep.refl _ _⟩
  | some p =>
    have HS : Hid (Src Try.prog 3 22 (.slice (some p) l.length cap) l.length (l.flatMap encA) (w.alloc (.cells #[] 31))) := Rd.src encA_len encA_one (by omega) Try.underlying22 (h.keep (Keep.alloc1 w _) (Off.nil _))
    have HR : Hid _ := run_noneA w
    have hal : Hid ((0 + l.length) * 24 ≤ 140737488355328 ∧ 0 + l.length ≤ maxLen) := by
      refine ⟨by omega, ?_⟩
      unfold maxLen; omega
    clear h
    go_enter Try.func27, Try.ntmps27
    go_wp2_with (at_builtin; refine wp_appC infoA rfl rfl (.tmp 5) (.tmp 6) 22 22 rfl Try.underlying22 _ 0 [] rfl HR.out _ l.length (l.flatMap encA) rfl HS.out hal.out.1 hal.out.2 ?_)
    intro v9 w9 R9 K9 F9 S9 _
    go_wp2
    go_ret
    refine ⟨v9, rfl, ⟨?_, fun k hk => ?_⟩, ?_⟩
    · simpa [Rw] using R9
    · rcases F9 with e | e
      · rw [e] at hk
        simp [Value.ownBlock] at hk
        subst hk
        have := K9.size
        simp at this
        exact ⟨Nat.le_refl _, by omega⟩
      · have := e k hk
        simp at this
        exact ⟨by omega, this.2⟩
    · exact (Keep.alloc1 w _).more K9 (fun x hx => .inr (by simp [Value.ownBlock] at hx; omega))
end Go.Proofs.Ytmlpkjeaieljfab

/- Each arc kept once, in the same room: onceEach. -/
namespace Go.Proofs.Ytmlpkjeaieljfab
open Go.RowKit Go.PlainAid Go.Sort

/-- the row behind i arcs: the first m are those that are kept -/
structure Once (w wr : World) (g cap : Nat) (l cur : List Ar) (i m : Nat) : Prop where
  row : Rw 31 encA 3 wr (.slice (some ⟨g, 0, none⟩) l.length cap) cur
  len : cur.length = l.length
  mi : m ≤ i
  rest : ∀ j, i ≤ j → cur[j]? = l[j]?
  sub : (cur.take m).Sublist (l.take i)
  all : ∀ a ∈ l.take i, a ∈ cur.take m
  keep : Keep [g] w wr

theorem Once.cells {w wr : World} {g cap : Nat} {l cur : List Ar} {i m : Nat} (h : Once w wr g cap l cur i m) (j : Nat) (hj : j < cur.length) : wr.cell? ⟨g, j * 3, none⟩ = some (.int .i64 (cur[j].f : Int)) ∧ wr.cell? ⟨g, j * 3 + 1, none⟩ = some (.int .i64 (cur[j].t : Int)) ∧ wr.cell? ⟨g, j * 3 + 2, none⟩ = some (.bool cur[j].g) := by
  rcases h.row.cases encA_len with ⟨h1, _⟩ | ⟨g', cap', he, _, _, _, hc, _⟩
  · rw [h1] at hj; simp at hj
  · simp at he
    obtain ⟨rfl, _⟩ := he
    exact ⟨hc j hj 0 (by omega), hc j hj 1 (by omega), hc j hj 2 (by omega)⟩

theorem Once.skip {w wr wr' : World} {g cap : Nat} {l cur : List Ar} {i m : Nat} (h : Once w wr g cap l cur i (m + 1)) (hi : i < l.length) (hm : m < cur.length) (he : l[i] = cur[m]) (k : Keep [] wr wr') : Once w wr' g cap l cur (i + 1) (m + 1) where
  row := h.row.keep k (Off.nil _)
  len := h.len
  mi := by have := h.mi; omega
  rest j hj := h.rest j (by omega)
  sub := h.sub.trans (List.take_sublist_take_left (by omega))
  all a ha := by
    rw [List.take_succ_eq_append_getElem hi] at ha
    rw [List.mem_append, List.mem_singleton] at ha
    rcases ha with ha | rfl
    · exact h.all a ha
    · rw [he, List.take_succ_eq_append_getElem hm]
      exact List.mem_append_right _ (List.mem_singleton.2 rfl)
  keep := h.keep.more k (fun x hx => by cases hx)

theorem Once.put {w wr wr' : World} {g cap : Nat} {l cur : List Ar} {i m : Nat} (h : Once w wr g cap l cur i m) (hi : i < l.length) (hr : RowC wr' 31 3 (.slice (some ⟨g, 0, none⟩) l.length cap) l.length ((cur.flatMap encA).take (m * 3) ++ encA l[i] ++ (cur.flatMap encA).drop ((m + 1) * 3))) (k : Keep [g] wr wr') : Once w wr' g cap l (cur.set m l[i]) (i + 1) (m + 1) where
  row := by
    have hmi := h.mi
    have hml : m < cur.length := by rw [h.len]; omega
    have hdec : cur.flatMap encA = (cur.take m).flatMap encA ++ (encA cur[m] ++ (cur.drop (m + 1)).flatMap encA) := by
      conv => lhs; rw [← List.take_append_drop m cur, List.drop_eq_getElem_cons hml]
      rw [List.flatMap_append, List.flatMap_cons]
    have e1 : (cur.flatMap encA).take (m * 3) = (cur.take m).flatMap encA := by
      rw [hdec]
      exact List.take_left' (by rw [flat_len encA_len, List.length_take]; congr 1; omega)
    have e2 : (cur.flatMap encA).drop ((m + 1) * 3) = (cur.drop (m + 1)).flatMap encA := by
      rw [hdec, ← List.append_assoc]
      exact List.drop_left' (by rw [List.length_append, flat_len encA_len, List.length_take, encA_len]; omega)
    rw [e1, e2] at hr
    unfold Rw
    rw [List.length_set, h.len]
    have e3 : (cur.set m l[i]).flatMap encA = (cur.take m).flatMap encA ++ encA l[i] ++ (cur.drop (m + 1)).flatMap encA := by
      rw [List.set_eq_take_append_cons_drop, if_pos hml, List.flatMap_append, List.flatMap_cons, List.append_assoc]
    rw [e3]
    exact hr
  len := by rw [List.length_set]; exact h.len
  mi := by have := h.mi; omega
  rest j hj := by
    have := h.mi
    rw [List.getElem?_set_ne (by omega)]
    exact h.rest j (by omega)
  sub := by
    have hmi := h.mi
    have hml : m < cur.length := by rw [h.len]; omega
    have e : (cur.set m l[i]).take (m + 1) = cur.take m ++ [l[i]] := by
      rw [List.take_succ_eq_append_getElem (by simpa using hml), List.getElem_set_self, List.take_set_of_le (Nat.le_refl _)]
    rw [e, List.take_succ_eq_append_getElem hi]
    exact h.sub.append (List.Sublist.refl _)
  all a ha := by
    have hmi := h.mi
    have hml : m < cur.length := by rw [h.len]; omega
    have e : (cur.set m l[i]).take (m + 1) = cur.take m ++ [l[i]] := by
      rw [List.take_succ_eq_append_getElem (by simpa using hml), List.getElem_set_self, List.take_set_of_le (Nat.le_refl _)]
    rw [e]
    rw [List.take_succ_eq_append_getElem hi] at ha
    rw [List.mem_append, List.mem_singleton] at ha ⊢
    rcases ha with ha | rfl
    · exact .inl (h.all a ha)
    · exact .inr rfl
  keep := h.keep.more k (fun x hx => by simp at hx; subst hx; exact .inl (by simp))

theorem src_arc (w : World) (f t : Int) (g : Bool) : Src Try.prog 3 22 (.slice (some ⟨w.heap.size, 0, none⟩) 1 1) 1 [.int .i64 f, .int .i64 t, .bool g] (w.alloc (.cells #[.int .i64 f, .int .i64 t, .bool g] 31 (0, 0))) := by
  refine Src.ofSlice _ Try.underlying22 ⟨w.heap.size, 0, none⟩ 1 1 _ rfl (fun j u hu => ?_) (fun u hu => ?_)
  · have hj : j < 3 := (List.getElem?_eq_some_iff.1 hu).1
    rcases (show j = 0 ∨ j = 1 ∨ j = 2 by omega) with rfl | rfl | rfl <;>
      · simp at hu
        subst hu
        simp [Addr.add]
  · simp at hu
    rcases hu with rfl | rfl | rfl <;> rfl

set_option maxRecDepth 1000000 in
set_option maxHeartbeats 4000000 in
theorem onceEach_any (g cap : Nat) (l : List Ar) (w : World) (h : Rw 31 encA 3 w (.slice (some ⟨g, 0, none⟩) l.length cap) l) (hl : l.length ≤ 262144) :
    Calls Try.prog 30 #[.slice (some ⟨g, 0, none⟩) l.length cap] w fun e w' => ∃ v', e = .returned v' ∧ ∃ K, (Rd encA 3 w' v' K ∧ v'.ownBlock = some g) ∧ (K.Sublist l ∧ ∀ a ∈ l, a ∈ K) ∧ Keep [g] w w' := by
  have hcap : l.length ≤ cap ∧ cap ≤ 9223372036854775807 ∧ g < w.heap.size := by
    rcases h.cases encA_len with ⟨_, h2⟩ | ⟨g', cap', he, h2, h3, h4, _⟩
    · simp at h2
    · simp at he
      obtain ⟨rfl, rfl⟩ := he
      exact ⟨h2, h3, h4⟩
  obtain ⟨hc1, hc2, hgw⟩ := hcap
  have H0 : Hid (Once w w g cap l l 0 0) := ⟨h, rfl, Nat.le_refl _, fun _ _ => rfl, by simp, fun a ha => by simp at ha, Keep.refl _ _⟩
  clear h
  go_enter Try.func30, Try.ntmps30
  go_wp2
  go_loopw [3, 10] (fun kv iv wr => ∃ (i m : Nat) (cur : List Ar), kv = .slice (some ⟨g, 0, none⟩) m cap ∧ iv = .int .i64 (i : Int) ∧ i ≤ l.length ∧ Hid (Once w wr g cap l cur i m)) (fun _ iv _ => l.length - (intOf iv).toNat)
  case atStart => exact ⟨0, 0, l, rfl, rfl, Nat.zero_le _, H0⟩
  case round =>
    clear H0
    obtain ⟨i, m, cur, rfl, rfl, hi, HO⟩ := hrel
    have hmi := HO.out.mi
    by_cases hlt : i < l.length
    · have hlti : (i : Int) < (l.length : Int) := by omega
      have hcl := HO.out.len
      have hx : cur[i]'(by omega) = l[i] := by
        have := HO.out.rest i (Nat.le_refl _)
        rw [List.getElem?_eq_getElem (by omega), List.getElem?_eq_getElem hlt] at this
        exact Option.some.inj this
      obtain ⟨c0, c1, c2⟩ := HO.out.cells i (by omega)
      rw [hx] at c0 c1 c2
      have hgr : g < wr.heap.size := Nat.lt_of_lt_of_le hgw HO.out.keep.size
      obtain ⟨f, HF⟩ : ∃ f : Int, Hid (f = (l[i].f : Int)) := ⟨(l[i].f : Int), show _ = _ from rfl⟩
      obtain ⟨t, HT⟩ : ∃ t : Int, Hid (t = (l[i].t : Int)) := ⟨(l[i].t : Int), show _ = _ from rfl⟩
      obtain ⟨b, HB⟩ : ∃ b : Bool, Hid (b = l[i].g) := ⟨l[i].g, show _ = _ from rfl⟩
      rw [← HF.out] at c0
      rw [← HT.out] at c1
      rw [← HB.out] at c2
      have HS : Hid (∀ q, Src Try.prog 3 22 (.slice (some ⟨wr.heap.size + 1, 0, none⟩) 1 1) 1 [.int .i64 f, .int .i64 t, .bool b] (((wr.alloc (.cells #[.int .i64 f, .int .i64 t, .bool b] 31 (0, 0))).drewN q).alloc (.cells #[.int .i64 f, .int .i64 t, .bool b] 31 (0, 0)))) := fun q => by
        have h := src_arc ((wr.alloc (.cells #[.int .i64 f, .int .i64 t, .bool b] 31 (0, 0))).drewN q) f t b
        have e : ((wr.alloc (.cells #[.int .i64 f, .int .i64 t, .bool b] 31 (0, 0))).drewN q).heap.size = wr.heap.size + 1 := by simp
        rwa [e] at h
      have HR : Hid (∀ q, RowC (((wr.alloc (.cells #[.int .i64 f, .int .i64 t, .bool b] 31 (0, 0))).drewN q).alloc (.cells #[.int .i64 f, .int .i64 t, .bool b] 31 (0, 0))) 31 3 (.slice (some ⟨g, 0, none⟩) l.length cap) l.length (cur.flatMap encA)) := fun q => by
        have := HO.out.row.keep ((((Keep.refl [] wr).alloc (.cells #[.int .i64 f, .int .i64 t, .bool b] 31 (0, 0))).drewN q).alloc (.cells #[.int .i64 f, .int .i64 t, .bool b] 31 (0, 0))) (Off.nil _)
        unfold Rw at this
        rwa [hcl] at this
      have HP : Hid (∀ q w', RowC w' 31 3 (.slice (some ⟨g, 0, none⟩) l.length cap) l.length ((cur.flatMap encA).take (m * 3) ++ [.int .i64 f, .int .i64 t, .bool b] ++ (cur.flatMap encA).drop ((m + 1) * 3)) → Keep [g] (((wr.alloc (.cells #[.int .i64 f, .int .i64 t, .bool b] 31 (0, 0))).drewN q).alloc (.cells #[.int .i64 f, .int .i64 t, .bool b] 31 (0, 0))) w' → Once w w' g cap l (cur.set m l[i]) (i + 1) (m + 1)) := fun q w' hr hk => by
        refine HO.out.put hlt ?_ ((((((Keep.refl [] wr).alloc _).drewN q).alloc _).mono (by simp)).trans' hk)
        rw [HF.out, HT.out, HB.out] at hr
        exact hr
      clear hx
      cases m with
      | zero =>
        go_wp2
        go_quiet (fail)
        go_wp2_with (at_builtin; refine wp_appIn infoA rfl (.tmp 27) (.tmp 29) 22 22 rfl Try.underlying22 g 0 l.length cap (cur.flatMap encA) rfl (HR.out _) _ 1 _ rfl (HS.out _) (by omega) ?_)
        intro w9 R9 K9
        have H9 : Hid _ := HP.out _ _ R9 K9
        clear HP HR HS R9 K9 HO
        go_wp2
        go_roundw
        case rel => exact ⟨i + 1, 1, _, rfl, by go_num, by omega, H9⟩
        case measure => simp [intOf]; omega
      | succ m =>
        obtain ⟨d0, d1, d2⟩ := HO.out.cells m (by omega)
        obtain ⟨f', HF'⟩ : ∃ f' : Int, Hid (f' = (cur[m].f : Int)) := ⟨_, show _ = _ from rfl⟩
        obtain ⟨t', HT'⟩ : ∃ t' : Int, Hid (t' = (cur[m].t : Int)) := ⟨_, show _ = _ from rfl⟩
        obtain ⟨b', HB'⟩ : ∃ b' : Bool, Hid (b' = cur[m].g) := ⟨_, show _ = _ from rfl⟩
        rw [← HF'.out] at d0
        rw [← HT'.out] at d1
        rw [← HB'.out] at d2
        have hml : (m : Int) < ((m + 1 : Nat) : Int) := by omega
        have k1 : IntKind.i64.wrap ((m : Int) + 1 - 1) = (m : Int) := by rw [wrap_ok _ (by omega) (by omega)]; omega
        have k2 : IntKind.i64.wrap (m : Int) = (m : Int) := by rw [wrap_ok _ (by omega) (by omega)]
        have k3 : (((m + 1 : Nat) : Int) == 0) = false := by simp; omega
        have k4 : ((m : Int) + 1 == 0) = false := by simp; omega
        have k5 : decide ((m : Int) + 1 = 0) = false := by simp; omega
        have k6 : (m : Int) < (m : Int) + 1 := by omega
        by_cases he : f' = f ∧ t' = t ∧ b' = b
        · obtain ⟨rfl, rfl, rfl⟩ := he
          have HK : Hid (∀ w', Keep [] wr w' → Once w w' g cap l cur (i + 1) (m + 1)) := fun w' hk => by
            refine HO.out.skip hlt (by omega) ?_ hk
            have e1 := HF.out.symm.trans HF'.out
            have e2 := HT.out.symm.trans HT'.out
            have e3 := HB.out.symm.trans HB'.out
            revert e1 e2 e3
            generalize l[i] = x
            generalize cur[m] = y
            cases x; cases y
            simp only [Ar.mk.injEq]
            intro e1 e2 e3
            exact ⟨by omega, by omega, e3⟩
          clear HP HR HS
          go_wp2
          go_quiet (fail)
          go_wp2
          go_roundw
          case rel => exact ⟨i + 1, m + 1, cur, rfl, by go_num, by omega, HK.out _ (((Keep.refl [] wr).alloc _).drewN _)⟩
          case measure => simp [intOf]; omega
        · clear HF' HT' HB'
          rcases (show ¬ f' = f ∨ (f' = f ∧ ¬ t' = t) ∨ (f' = f ∧ t' = t ∧ ¬ b' = b) from by
            by_cases h1 : f' = f
            · by_cases h2 : t' = t
              · exact .inr (.inr ⟨h1, h2, fun h3 => he ⟨h1, h2, h3⟩⟩)
              · exact .inr (.inl ⟨h1, h2⟩)
            · exact .inl h1) with h | ⟨rfl, h⟩ | ⟨rfl, rfl, h⟩
          · have hb : (f' == f) = false := by simpa using h
            clear he h
            go_wp2
            go_quiet (fail)
            go_wp2_with (at_builtin; refine wp_appIn infoA rfl (.tmp 27) (.tmp 29) 22 22 rfl Try.underlying22 g (m + 1) l.length cap (cur.flatMap encA) rfl (HR.out _) _ 1 _ rfl (HS.out _) (by omega) ?_)
            intro w9 R9 K9
            have H9 : Hid _ := HP.out _ _ (by rw [List.append_assoc]; exact R9) K9
            clear HP HR HS R9 K9 HO
            go_wp2
            go_roundw
            case rel => exact ⟨i + 1, m + 1 + 1, _, rfl, by go_num, by omega, H9⟩
            case measure => simp [intOf]; omega
          · have hb : (t' == t) = false := by simpa using h
            clear he h
            go_wp2
            go_quiet (fail)
            go_wp2_with (at_builtin; refine wp_appIn infoA rfl (.tmp 27) (.tmp 29) 22 22 rfl Try.underlying22 g (m + 1) l.length cap (cur.flatMap encA) rfl (HR.out _) _ 1 _ rfl (HS.out _) (by omega) ?_)
            intro w9 R9 K9
            have H9 : Hid _ := HP.out _ _ (by rw [List.append_assoc]; exact R9) K9
            clear HP HR HS R9 K9 HO
            go_wp2
            go_roundw
            case rel => exact ⟨i + 1, m + 1 + 1, _, rfl, by go_num, by omega, H9⟩
            case measure => simp [intOf]; omega
          · have hb : (b' == b) = false := by simpa using h
            clear he h
            go_wp2
            go_quiet (fail)
            go_wp2_with (at_builtin; refine wp_appIn infoA rfl (.tmp 27) (.tmp 29) 22 22 rfl Try.underlying22 g (m + 1) l.length cap (cur.flatMap encA) rfl (HR.out _) _ 1 _ rfl (HS.out _) (by omega) ?_)
            intro w9 R9 K9
            have H9 : Hid _ := HP.out _ _ (by rw [List.append_assoc]; exact R9) K9
            clear HP HR HS R9 K9 HO
            go_wp2
            go_roundw
            case rel => exact ⟨i + 1, m + 1 + 1, _, rfl, by go_num, by omega, H9⟩
            case measure => simp [intOf]; omega
    · have hlti : ¬ (i : Int) < (l.length : Int) := by omega
      obtain rfl : i = l.length := by omega
      go_wp2
      go_ret
      have hO := HO.out
      refine ⟨.slice (some ⟨g, 0, none⟩) m cap, rfl, cur.take m, ⟨?_, rfl⟩, ⟨?_, ?_⟩, hO.keep⟩
      · have hr := hO.row
        have hcl := hO.len
        have hlm : (cur.take m).length = m := by rw [List.length_take]; omega
        have hr2 : Rw 31 encA 3 wr (.slice (some ⟨g, 0, none⟩) m cap) (cur.take m) := by
          unfold Rw at hr ⊢
          rw [hcl] at hr
          have := RowC.take hr m hmi (by simp)
          rw [hlm]
          have e : (cur.flatMap encA).take (m * 3) = (cur.take m).flatMap encA := by
            conv => lhs; rw [← List.take_append_drop m cur, List.flatMap_append]
            exact List.take_left' (by rw [flat_len encA_len, hlm])
          rwa [e] at this
        exact hr2.rd encA_len
      · have := hO.sub
        rwa [List.take_length] at this
      · have := hO.all
        rwa [List.take_length] at this
end Go.Proofs.Ytmlpkjeaieljfab

