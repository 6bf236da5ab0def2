/- The walk into the depth: two lists; its closures enter and leave. -/
import Derived.Test.YtmlpkjeaieljfabRf
import Derived.Deep.RegionLaw

namespace Go.Proofs.Ytmlpkjeaieljfab
open Go.RowKit Go.PlainAid Go.Sort

/-- two variables that hold lists of numbers of their own, laid since B, apart -/
structure W2 (B : Nat) (w : World) (bw bd : Nat) (W D : List Nat) : Prop where
  ex : ∃ v u, (Bx w bw 28 v ∧ Rw 3 encN 1 w v W ∧ ∀ x, v.ownBlock = some x → B ≤ x) ∧ (Bx w bd 28 u ∧ Rw 3 encN 1 w u D ∧ ∀ x, u.ownBlock = some x → B ≤ x) ∧ ∀ x, v.ownBlock = some x → u.ownBlock ≠ some x

theorem W2.keep {B : Nat} {w w' : World} {bw bd : Nat} {W D F : List Nat} (h : W2 B w bw bd W D) (k : Keep F w w') (h1 : bw ∉ F) (h2 : bd ∉ F) (hF : ∀ x ∈ F, x < B) : W2 B w' bw bd W D := by
  obtain ⟨v, u, ⟨a1, a2, a3⟩, ⟨b1, b2, b3⟩, hne⟩ := h.ex
  exact ⟨v, u, ⟨a1.keep k h1, a2.keep k (fun x hx hm => by have := a3 x hx; have := hF x hm; omega), a3⟩, ⟨b1.keep k h2, b2.keep k (fun x hx hm => by have := b3 x hx; have := hF x hm; omega), b3⟩, hne⟩
theorem W2.wt {B : Nat} {w : World} {bw bd : Nat} {W D : List Nat} (h : W2 B w bw bd W D) : Wt B w bw W := by
  obtain ⟨v, u, h1, _, _⟩ := h.ex
  exact ⟨v, h1⟩
theorem W2.wd {B : Nat} {w : World} {bw bd : Nat} {W D : List Nat} (h : W2 B w bw bd W D) : Wt B w bd D := by
  obtain ⟨v, u, _, h1, _⟩ := h.ex
  exact ⟨u, h1⟩
theorem W2.turn {B : Nat} {w : World} {bw bd : Nat} {W D : List Nat} (h : W2 B w bw bd W D) : W2 B w bd bw D W := by
  obtain ⟨v, u, h1, h2, h3⟩ := h.ex
  exact ⟨u, v, h2, h1, fun x hx hx' => h3 x hx' hx⟩

/-- a number is put behind the first list -/
theorem W2.push {B : Nat} {w w' : World} {bw bd : Nat} {W D : List Nat} {v v' u : Value} {k : Nat} (hbw : bw < B) (hbd : bd < B) (hne : bw ≠ bd) (hB : B ≤ w.heap.size) (a : Bx w bw 28 v ∧ Rw 3 encN 1 w v W ∧ ∀ x, v.ownBlock = some x → B ≤ x) (b : Bx w bd 28 u ∧ Rw 3 encN 1 w u D ∧ ∀ x, u.ownBlock = some x → B ≤ x) (hd : ∀ x, v.ownBlock = some x → u.ownBlock ≠ some x)
    (hr : RowC w' 3 1 v' (W.length + 1) (W.flatMap encN ++ [.int .i64 (k : Int)])) (hk : Keep v.ownBlock.toList w w') (hf : v'.ownBlock = v.ownBlock ∨ Fresh w w' v') : W2 B (w'.setCell ⟨bw, 0, none⟩ v') bw bd (W ++ [k]) D ∧ Kp B [bw] w (w'.setCell ⟨bw, 0, none⟩ v') := by
  obtain ⟨h1, h2⟩ := Wt.push (k := k) hbw hB a.1 a.2.2 a.2.1 hr hk hf
  obtain ⟨v2, g1, g2, g3⟩ := h1.ex
  have hv2 : v2 = v' := by
    have e1 := g1.cell
    have hx : Bx w' bw 28 v := a.1.keep hk (fun hm => by have := a.2.2 bw (by simpa using hm); omega)
    rw [(hx.set v').cell] at e1
    cases e1
    rfl
  subst hv2
  have hul : ∀ x, u.ownBlock = some x → x < w.heap.size := b.2.1.lt
  refine ⟨⟨v2, u, ⟨g1, g2, g3⟩, ⟨h2.bx b.1 hbd (by simpa using hne.symm), ?_, b.2.2⟩, fun x hx hx' => ?_⟩, h2⟩
  · have r1 := b.2.1.keep hk (fun x hx hm => hd x (by simpa using hm) hx)
    exact r1.keep (Keep.set1 w' ⟨bw, 0, none⟩ v2) (fun x hx hm => by have := b.2.2 x hx; simp at hm; omega)
  · rcases hf with e | e
    · rw [e] at hx; exact hd x hx hx'
    · have := (e x hx).1; have := hul x hx'; omega

theorem run_noneI (w : World) : RowC (w.alloc (.cells #[] 3)) 3 1 (.slice (some ⟨w.heap.size, 0, none⟩) 0 0) 0 [] :=
  ⟨rfl, .inr ⟨w.heap.size, 0, #[], rfl, Nat.zero_le _, heap_alloc_new w _, Nat.le_refl _, by simp [maxLen], rfl, rfl⟩⟩
theorem encN_one : ∀ x : Nat, ∀ u ∈ encN x, u.oneCell' = true := by
  intro x u hu
  simp [encN, eN] at hu
  subst hu; rfl

set_option maxRecDepth 1000000 in
set_option maxHeartbeats 1000000 in
theorem cloneI_any (b o n cap : Nat) (l : List Nat) (w : World) (h : Rd encN 1 w (.slice (some ⟨b, o, none⟩) n cap) l) (hl : l.length = n) (hn : n ≤ 262144) :
    Calls Try.prog 88 #[.slice (some ⟨b, o, none⟩) n cap] w fun e w' => ∃ v', e = .returned v' ∧ (Rw 3 encN 1 w' v' l ∧ Fresh w w' v') ∧ Keep [] w w' := by
  have q26 : ∀ (w : World) (a : Option Addr) (n c n' c' : Nat), (binOp .eql 28 (.slice a n c) (.slice none n' c')).run Try.prog w = .ok (.bool a.isNone) w := fun w a n c n' c' => Lib.run_eql_slice_nil w _ _ a n c n' c' Try.underlying28
  subst hl
  have HS : Hid (Src Try.prog 1 28 (.slice (some ⟨b, o, none⟩) l.length cap) l.length (l.flatMap encN) (w.alloc (.cells #[] 3))) := Rd.src encN_len encN_one (by omega) Try.underlying28 (h.keep (Keep.alloc1 w _) (Off.nil _))
  have HR : Hid _ := run_noneI w
  have hal : Hid ((0 + l.length) * 8 ≤ 140737488355328 ∧ 0 + l.length ≤ maxLen) := by
    refine ⟨by omega, ?_⟩
    unfold maxLen; omega
  clear h
  go_enter Try.func88, Try.ntmps88
  go_wp2_with (at_builtin; refine wp_appC infoI rfl rfl (.tmp 5) (.tmp 6) 28 28 rfl Try.underlying28 _ 0 [] rfl HR.out _ l.length (l.flatMap encN) rfl HS.out hal.out.1 hal.out.2 ?_)
  intro v9 w9 R9 K9 F9 S9 _
  go_wp2
  go_ret
  refine ⟨v9, rfl, ⟨?_, fun k hk => ?_⟩, ?_⟩
  · simpa [Rw] using R9
  · rcases F9 with e | e
    · rw [e] at hk
      simp [Value.ownBlock] at hk
      subst hk
      have := K9.size
      simp at this
      exact ⟨Nat.le_refl _, by omega⟩
    · have := e k hk
      simp at this
      exact ⟨by omega, this.2⟩
  · exact (Keep.alloc1 w _).more K9 (fun x hx => .inr (by simp [Value.ownBlock] at hx; omega))

set_option maxRecDepth 1000000 in
set_option maxHeartbeats 1000000 in
theorem enter_any {B bw bd bm gm n : Nat} (k : Nat) (m : List Bool) (W D : List Nat) (w : World) (hk : k < n) (hm : Met bm gm n w m) (hW : W2 B w bw bd W D) (hbw : bw < B) (hbd : bd < B) (hne : bw ≠ bd) (hB : B ≤ w.heap.size) (hbm : bm < B) (hgm : gm < B) (h1 : bm ≠ bw) (h2 : gm ≠ bw) (h3 : bm ≠ gm) (h4 : gm ≠ bd) (hlen : W.length ≤ 100000) :
    Calls Try.prog 89 #[.int .i64 (k : Int), .pointer (some ⟨bm, 0, none⟩), .pointer (some ⟨bw, 0, none⟩)] w fun e w' => e = .returned (.tuple #[]) ∧ Met bm gm n w' (m.set k true) ∧ W2 B w' bw bd (if m.getD k false then W else W ++ [k]) D ∧ Kp B [bw, gm] w w' := by
  have c0 := hm.box
  have c1 := hm.arr.cell false k hk
  have f1 := hm.arr.free k
  have hn := hm.arr.facts.1
  have hki : (k : Int) < (n : Int) := by omega
  simp only [eB] at c1
  cases hmk : m.getD k false with
  | true =>
    rw [hmk] at c1
    have HE : Hid (Met bm gm n w (m.set k true) ∧ W2 B w bw bd W D ∧ Kp B [bw, gm] w w) := ⟨by rw [set_same m k hmk]; exact hm, hW, Kp.refl _ _ _⟩
    clear hm hW hmk
    go_enter Try.func89, Try.ntmps89
    go_wp2
    go_end0
    exact ⟨rfl, HE.out⟩
  | false =>
    rw [hmk] at c1
    have kg : Keep [gm] w (w.setCell ⟨gm, k, none⟩ (.bool true)) := Keep.set1 w ⟨gm, k, none⟩ _
    have hm1 : Met bm gm n (w.setCell ⟨gm, k, none⟩ (.bool true)) (m.set k true) := ⟨kg.cell' hm.box (by simpa using h3), hm.arr.put k true⟩
    have hW1 : W2 B (w.setCell ⟨gm, k, none⟩ (.bool true)) bw bd W D := hW.keep kg (by simpa using fun e => h2 e.symm) (by simpa using fun e => h4 e.symm) (by simp; omega)
    obtain ⟨v, u, ⟨a1, a2, a3⟩, ⟨b1, b2, b3⟩, hap⟩ := hW1.ex
    have HK1 : Hid (Kp B [bw, gm] w (w.setCell ⟨gm, k, none⟩ (.bool true))) := Kp.of kg hB (fun x hx => .inl (by simp at hx; simp [hx])) (fun x hx => by simp at hx; subst hx; exact hm.arr.isC)
    have ka : Keep [] (w.setCell ⟨gm, k, none⟩ (.bool true)) ((w.setCell ⟨gm, k, none⟩ (.bool true)).alloc (.cells #[.int .i64 (k : Int)] 3 (0, 0))) := Keep.alloc1 _ _
    have HA : Hid ((Bx ((w.setCell ⟨gm, k, none⟩ (.bool true)).alloc (.cells #[.int .i64 (k : Int)] 3 (0, 0))) bw 28 v ∧ Rw 3 encN 1 ((w.setCell ⟨gm, k, none⟩ (.bool true)).alloc (.cells #[.int .i64 (k : Int)] 3 (0, 0))) v W ∧ ∀ x, v.ownBlock = some x → B ≤ x) ∧ (Bx ((w.setCell ⟨gm, k, none⟩ (.bool true)).alloc (.cells #[.int .i64 (k : Int)] 3 (0, 0))) bd 28 u ∧ Rw 3 encN 1 ((w.setCell ⟨gm, k, none⟩ (.bool true)).alloc (.cells #[.int .i64 (k : Int)] 3 (0, 0))) u D ∧ ∀ x, u.ownBlock = some x → B ≤ x) ∧ ∀ x, v.ownBlock = some x → u.ownBlock ≠ some x) := ⟨⟨a1.keep ka (by simp), a2.keep ka (Off.nil _), a3⟩, ⟨b1.keep ka (by simp), b2.keep ka (Off.nil _), b3⟩, hap⟩
    have HS : Hid (Src Try.prog 1 28 (.slice (some ⟨w.heap.size, 0, none⟩) 1 1) 1 [.int .i64 (k : Int)] ((w.setCell ⟨gm, k, none⟩ (.bool true)).alloc (.cells #[.int .i64 (k : Int)] 3 (0, 0)))) := by
      have h := src_nat (w.setCell ⟨gm, k, none⟩ (.bool true)) k
      rwa [show (w.setCell ⟨gm, k, none⟩ (.bool true)).heap.size = w.heap.size by simp] at h
    have hal : Hid ((W.length + 1) * 8 ≤ 140737488355328 ∧ W.length + 1 ≤ maxLen) := by
      refine ⟨by omega, ?_⟩
      unfold maxLen; omega
    have HM1 : Hid (Met bm gm n (w.setCell ⟨gm, k, none⟩ (.bool true)) (m.set k true)) := hm1
    have hcw0 : w.cell? ⟨bw, 0, none⟩ = some v := by
      have := kg.cell (p := ⟨bw, 0, none⟩) (by simp; omega) (by simpa using fun e => h2 e.symm)
      rw [← this]; exact a1.cell
    have hsz : (w.setCell ⟨gm, k, none⟩ (.bool true)).heap.size = w.heap.size := by simp
    have HSz : Hid (B ≤ ((w.setCell ⟨gm, k, none⟩ (.bool true)).alloc (.cells #[.int .i64 (k : Int)] 3 (0, 0))).heap.size ∧ B ≤ (w.setCell ⟨gm, k, none⟩ (.bool true)).heap.size) := ⟨by simp; omega, by simp; omega⟩
    clear hm hW hmk hW1 hm1 a1 a2 a3 b1 b2 b3 hap ka kg hsz
    go_enter Try.func89, Try.ntmps89
    go_wp2_with (at_builtin; refine wp_appC infoI rfl rfl (.tmp 12) (.tmp 14) 28 28 rfl Try.underlying28 v W.length (W.flatMap encN) rfl HA.out.1.2.1 _ 1 _ rfl HS.out hal.out.1 hal.out.2 ?_)
    intro v9 w9 R9 K9 F9 S9 _
    have h9 := W2.push (k := k) hbw hbd hne HSz.out.1 HA.out.1 HA.out.2.1 HA.out.2.2 R9 K9 F9
    have hx9 : Bx w9 bw 28 v := HA.out.1.1.keep K9 (fun hm => by have := HA.out.1.2.2 bw (by simpa using hm); omega)
    have c9 := hx9.cell
    have f9 := hx9.free
    obtain ⟨a9, q9, rfl⟩ := S9
    have H9 : Hid (Met bm gm n (w9.setCell ⟨bw, 0, none⟩ (.slice a9 (W.length + 1) q9)) (m.set k true) ∧ W2 B (w9.setCell ⟨bw, 0, none⟩ (.slice a9 (W.length + 1) q9)) bw bd (W ++ [k]) D ∧ Kp B [bw, gm] w (w9.setCell ⟨bw, 0, none⟩ (.slice a9 (W.length + 1) q9))) := by
      have hk2 : Kp B [bw] (w.setCell ⟨gm, k, none⟩ (.bool true)) (w9.setCell ⟨bw, 0, none⟩ (.slice a9 (W.length + 1) q9)) := (Kp.of (Keep.alloc1 _ _) HSz.out.2 (by simp)).trans h9.2
      exact ⟨⟨(hk2.cell hbm (by simpa using h1)).trans HM1.out.box, hk2.arr HM1.out.arr hgm (by simpa using h2)⟩, h9.1, HK1.out.trans (hk2.mono (by simp))⟩
    clear h9 R9 K9 F9 HS HA HM1 HK1 hx9
    go_wp2
    go_end0
    exact ⟨rfl, H9.out⟩
end Go.Proofs.Ytmlpkjeaieljfab

/- The walk into the depth: leave. -/
namespace Go.Proofs.Ytmlpkjeaieljfab
open Go.RowKit Go.PlainAid Go.Sort

theorem src_natD (w : World) (x : Nat) : Src Try.prog 1 28 (.slice (some ⟨w.heap.size, 0, none⟩) 1 1) 1 [.int .i64 (x : Int)] ((w.alloc (.cells #[.int .i64 (x : Int)] 3 (0, 0))).drew) := by
  refine Src.ofSlice _ Try.underlying28 ⟨w.heap.size, 0, none⟩ 1 1 _ rfl (fun j u hu => ?_) (fun u hu => ?_)
  · have hj : j = 0 := by
      have := (List.getElem?_eq_some_iff.1 hu).1
      simpa using this
    subst hj
    simp at hu
    subst hu
    simp [Addr.add]
  · simp at hu
    subst hu
    rfl

theorem W2.pop {B : Nat} {w : World} {bw bd : Nat} {W D : List Nat} {k g cap : Nat} (hbw : bw < B) (hne : bw ≠ bd) (hB : B ≤ w.heap.size) (h : W2 B w bw bd (W ++ [k]) D) (hc : w.cell? ⟨bw, 0, none⟩ = some (.slice (some ⟨g, 0, none⟩) (W.length + 1) cap)) :
    W2 B (w.setCell ⟨bw, 0, none⟩ (.slice (some ⟨g, 0, none⟩) W.length cap)) bw bd W D ∧ Kp B [bw] w (w.setCell ⟨bw, 0, none⟩ (.slice (some ⟨g, 0, none⟩) W.length cap)) := by
  obtain ⟨v, u, a, b, hap⟩ := h.ex
  have hv : v = .slice (some ⟨g, 0, none⟩) (W.length + 1) cap := by
    have := a.1.cell
    rw [hc] at this
    exact (Option.some.inj this).symm
  subst hv
  obtain ⟨g', cap', c0, f0, h1, h2, c1, h3, h4⟩ := (show Wt B w bw (W ++ [k]) from ⟨_, a⟩).pop hbw hB
  rw [hc] at c0
  simp at c0
  obtain ⟨rfl, rfl⟩ := c0
  obtain ⟨v2, g1, g2, g3⟩ := h3.ex
  have hv2 : v2 = .slice (some ⟨g, 0, none⟩) W.length cap := by
    have e1 := g1.cell
    rw [(a.1.set _).cell] at e1
    exact (Option.some.inj e1).symm
  subst hv2
  have ks : Keep [bw] w (w.setCell ⟨bw, 0, none⟩ (.slice (some ⟨g, 0, none⟩) W.length cap)) := Keep.set1 w ⟨bw, 0, none⟩ _
  exact ⟨⟨_, u, ⟨g1, g2, g3⟩, ⟨b.1.keep ks (by simpa using hne.symm), b.2.1.keep ks (fun x hx hm => by have := b.2.2 x hx; simp at hm; omega), b.2.2⟩, fun x hx => hap x (by simpa [Value.ownBlock] using hx)⟩, h4⟩

set_option maxRecDepth 1000000 in
set_option maxHeartbeats 1000000 in
theorem leave_any {B bw bd : Nat} (k : Nat) (W D : List Nat) (w : World) (hW : W2 B w bw bd (W ++ [k]) D) (hbw : bw < B) (hbd : bd < B) (hne : bw ≠ bd) (hB : B ≤ w.heap.size) (hlen : D.length ≤ 100000) (hlen2 : W.length ≤ 100000) :
    Calls Try.prog 90 #[.pointer (some ⟨bw, 0, none⟩), .pointer (some ⟨bd, 0, none⟩)] w fun e w' => e = .returned (.tuple #[]) ∧ W2 B w' bw bd W (D ++ [k]) ∧ Kp B [bw, bd] w w' := by
  obtain ⟨g, cap, c0, f0, h1, h2, c1, -, -⟩ := hW.wt.pop hbw hB
  obtain ⟨v, u, ha, hb, hap⟩ := hW.ex
  have hcu : w.cell? ⟨bd, 0, none⟩ = some u := hb.1.cell
  have hv : v = .slice (some ⟨g, 0, none⟩) (W.length + 1) cap := by
    have := ha.1.cell
    rw [c0] at this
    exact (Option.some.inj this).symm
  have hl : (W.length : Int) < (W.length : Int) + 1 := by omega
  have HK : Hid (∀ w', Keep [] w w' → W2 B w' bd bw D (W ++ [k]) ) := fun w' kk => (hW.keep kk (by simp) (by simp) (by simp)).turn
  have HR : Hid (∀ w', Keep [] w w' → RowC w' 3 1 u D.length (D.flatMap encN)) := fun w' kk => RowC.keep hb.2.1 kk (Off.nil _)
  have HS : Hid (Src Try.prog 1 28 (.slice (some ⟨w.heap.size, 0, none⟩) 1 1) 1 [.int .i64 (k : Int)] ((w.alloc (.cells #[.int .i64 (k : Int)] 3 (0, 0))).drew)) := src_natD w k
  have hal : Hid ((D.length + 1) * 8 ≤ 140737488355328 ∧ D.length + 1 ≤ maxLen) := by
    refine ⟨by omega, ?_⟩
    unfold maxLen; omega
  have kW : IntKind.i64.wrap ((W.length : Int) + 1 - 1) = (W.length : Int) := by rw [wrap_ok _ (by omega) (by omega)]; omega
  have HX : Hid (∀ w', Keep [] w w' → (Bx w' bd 28 u ∧ Rw 3 encN 1 w' u D ∧ ∀ x, u.ownBlock = some x → B ≤ x) ∧ (Bx w' bw 28 v ∧ Rw 3 encN 1 w' v (W ++ [k]) ∧ ∀ x, v.ownBlock = some x → B ≤ x) ∧ ∀ x, u.ownBlock = some x → v.ownBlock ≠ some x) := fun w' kk => ⟨⟨hb.1.keep kk (by simp), hb.2.1.keep kk (Off.nil _), hb.2.2⟩, ⟨ha.1.keep kk (by simp), ha.2.1.keep kk (Off.nil _), ha.2.2⟩, fun x hx hx' => hap x hx' hx⟩
  have HV : Hid (v = .slice (some ⟨g, 0, none⟩) (W.length + 1) cap) := hv
  have hcu2 : (w.alloc (.cells #[.int .i64 (k : Int)] 3 (0, 0))).cell? ⟨bd, 0, none⟩ = some u := (Keep.alloc1 w _).cell' hcu (by simp)
  clear hW ha hb hap hv HK
  go_enter Try.func90, Try.ntmps90
  go_wp2
  go_region_law (refine step_appC infoI rfl rfl (.tmp 6) (.tmp 11) 28 28 rfl Try.underlying28 u D.length (D.flatMap encN) rfl (HR.out _ (((Keep.refl [] w).alloc _).drew)) _ 1 _ rfl HS.out hal.out.1 hal.out.2 ?_; intro v9 w9 R9 K9 F9 S9 _; obtain ⟨x1, x2, x3⟩ := HX.out _ (((Keep.refl [] w).alloc (.cells #[.int .i64 (k : Int)] 3 (0, 0))).drew); have h9 := W2.push (k := k) hbd hbw hne.symm (by simp; omega) x1 x2 x3 R9 K9 F9; have hx9 := x1.1.keep K9 (fun hm => by have := x1.2.2 bd (by simpa using hm); omega); have hy9 := x2.1.keep K9 (fun hm => by have := x1.2.2 bw (by simpa using hm); omega); have c9 := hx9.cell; have f9 := hx9.free; have e9 := hy9.cell; have i9 := hy9.free; rw [HV.out] at e9; obtain ⟨a9, q9, rfl⟩ := S9; have H9 : Hid _ := h9; clear h9 R9 K9 F9 hx9 hy9 x1 x2 x3)
  all_goals
    have HF : Hid (W2 B ((w9.setCell ⟨bd, 0, none⟩ (.slice a9 (D.length + 1) q9)).setCell ⟨bw, 0, none⟩ (.slice (some ⟨g, 0, none⟩) W.length cap)) bw bd W (D ++ [k]) ∧ Kp B [bw, bd] w ((w9.setCell ⟨bd, 0, none⟩ (.slice a9 (D.length + 1) q9)).setCell ⟨bw, 0, none⟩ (.slice (some ⟨g, 0, none⟩) W.length cap))) := by
      have k0 : Kp B [bw, bd] w ((w.alloc (.cells #[.int .i64 (k : Int)] 3 (0, 0))).drew) := Kp.of (((Keep.refl [] w).alloc _).drew) hB (by simp)
      have hsz : B ≤ (w9.setCell ⟨bd, 0, none⟩ (.slice a9 (D.length + 1) q9)).heap.size := Nat.le_trans hB (k0.trans (H9.out.2.mono (by simp))).size
      have hp := W2.pop (g := g) (cap := cap) hbw hne hsz H9.out.1.turn (by rw [World.cell?_setCell_other (a := ⟨bd, 0, none⟩) (b := ⟨bw, 0, none⟩) (h := fun h => hne (congrArg Addr.block h).symm)]; exact e9)
      exact ⟨hp.1, (k0.trans (H9.out.2.mono (by simp))).trans (hp.2.mono (by simp))⟩
    clear H9 HR HS HX
    go_wp2
    go_end0
    exact ⟨rfl, HF.out⟩
end Go.Proofs.Ytmlpkjeaieljfab

/- The walk into the depth: what is true between its steps. -/
namespace Go.Proofs.Ytmlpkjeaieljfab
open Go.RowKit Go.PlainAid Go.Sort

/-- an array whose room may be greater -/
structure Ark (w : World) (g n cap : Nat) (l : List Nat) : Prop where
  row : RowC w 3 1 (.slice (some ⟨g, 0, none⟩) n cap) n (l.map eN)
  len : l.length = n
theorem map_encN (l : List Nat) : l.flatMap encN = l.map eN := by
  induction l with
  | nil => rfl
  | cons a l ih => rw [List.flatMap_cons, ih]; rfl
theorem Ark.facts {w : World} {g n cap : Nat} {l : List Nat} (h : Ark w g n cap l) : n ≤ cap ∧ cap ≤ 9223372036854775807 ∧ g < w.heap.size ∧ (∀ j, j < n → w.cell? ⟨g, j, none⟩ = some (.int .i64 ((l.getD j 0 : Nat) : Int))) ∧ ∀ j, w.frozen? ⟨g, j, none⟩ = false := by
  have hl := h.len
  rcases h.row.cases with ⟨_, _, h3⟩ | ⟨g', cap', he, h1, h2, h3, h4, h5⟩
  · simp at h3
  · simp at he
    obtain ⟨rfl, rfl⟩ := he
    refine ⟨h1, h2, h3, fun j hj => ?_, h5⟩
    rw [h4 j (by omega), List.getElem?_map, List.getD_eq_getElem?_getD, List.getElem?_eq_getElem (by omega)]
    rfl
theorem Ark.put {w : World} {g n cap : Nat} {l : List Nat} (h : Ark w g n cap l) (p y : Nat) : Ark (w.setCell ⟨g, p, none⟩ (.int .i64 (y : Int))) g n cap (l.set p y) := by
  refine ⟨?_, by rw [List.length_set]; exact h.len⟩
  rw [List.map_set]
  exact h.row.set p (eN y)
theorem Ark.kp {B : Nat} {F : List Nat} {w w' : World} (k : Kp B F w w') {g n cap : Nat} {l : List Nat} (h : Ark w g n cap l) (hb : g < B) (hn : g ∉ F) : Ark w' g n cap l := by
  refine ⟨?_, h.len⟩
  refine ⟨h.row.1, ?_⟩
  rcases h.row.2 with hz | ⟨g', cap', cur, he, hb', hg, r⟩
  · exact .inl hz
  · simp at he
    obtain ⟨rfl, rfl⟩ := he
    exact .inr ⟨g, cap, cur, rfl, hb', (k.block g hb hn).trans hg, r⟩

def natAt (w : World) (g j : Nat) : Nat := match w.cell? ⟨g, j, none⟩ with
  | some (.int _ z) => z.toNat
  | _ => 0
def sumAt (w : World) (g n : Nat) : Nat := ((List.range n).map fun j => natAt w g j).sum
theorem range_getD (l : List Nat) : (List.range l.length).map (fun j => l.getD j 0) = l := by
  apply List.ext_getElem (by simp)
  intro i h1 h2
  simp [List.getD_eq_getElem?_getD, h2]
theorem Ark.sumAt {w : World} {g n cap : Nat} {l : List Nat} (h : Ark w g n cap l) : sumAt w g n = l.sum := by
  unfold Ytmlpkjeaieljfab.sumAt
  conv => rhs; rw [← range_getD l]
  rw [h.len]
  congr 1
  apply List.map_congr_left
  intro j hj
  unfold natAt
  rw [h.facts.2.2.2.1 j (by simpa using hj)]
  simp
theorem sum_set (l : List Nat) (k : Nat) (hk : k < l.length) : (l.set k (l.getD k 0 + 1)).sum = l.sum + 1 := by
  induction l generalizing k with
  | nil => simp at hk
  | cons a l ih =>
    cases k with
    | zero => simp; omega
    | succ k =>
      have := ih k (by simpa using hk)
      simp only [List.set_cons_succ, List.sum_cons, List.getD_cons_succ] at this ⊢
      omega
theorem sum_le (l : List Nat) (M : Nat) (h : ∀ x ∈ l, x ≤ M) : l.sum ≤ l.length * M := by
  induction l with
  | nil => simp
  | cons a l ih =>
    have h1 := h a (by simp)
    have h2 := ih (fun x hx => h x (by simp [hx]))
    simp only [List.sum_cons, List.length_cons, Nat.add_mul]
    omega

/-- the boxes and blocks of the walk -/
structure Dx (B h0 bm gm gn bw bd : Nat) (va vf : Value) (n : Nat) (A : List Ar) (F : List Nat) (w : World) : Prop where
  cg0 : w.cell? ⟨h0, 0, none⟩ = some va
  cg1 : w.cell? ⟨h0, 1, none⟩ = some vf
  gph : Gph w va vf n A F
  lt : ∀ x, x = h0 ∨ va.ownBlock = some x ∨ vf.ownBlock = some x → x < B ∧ x ∉ [bw, bd, gm, gn]
  size : B ≤ w.heap.size
  bounds : bm < B ∧ gm < B ∧ gn < B ∧ bw < B ∧ bd < B
  apart : bm ≠ gm ∧ bm ≠ gn ∧ bm ≠ bw ∧ bm ≠ bd ∧ gm ≠ gn ∧ gm ≠ bw ∧ gm ≠ bd ∧ gn ≠ bw ∧ gn ≠ bd ∧ bw ≠ bd
theorem Dx.kp {B h0 bm gm gn bw bd : Nat} {va vf : Value} {n : Nat} {A : List Ar} {F : List Nat} {w w' : World} (h : Dx B h0 bm gm gn bw bd va vf n A F w) (k : Kp B [bw, bd, gm, gn] w w') : Dx B h0 bm gm gn bw bd va vf n A F w' where
  cg0 := (k.cell (h.lt h0 (by simp)).1 (h.lt h0 (by simp)).2).trans h.cg0
  cg1 := (k.cell (h.lt h0 (by simp)).1 (h.lt h0 (by simp)).2).trans h.cg1
  gph := ⟨k.rd h.gph.arcs (fun x hx => h.lt x (by simp [hx])), k.rd h.gph.first (fun x hx => h.lt x (by simp [hx])), h.gph.ok, h.gph.big⟩
  lt := h.lt
  size := Nat.le_trans h.size k.size
  bounds := h.bounds
  apart := h.apart

structure Ds (B h0 bm gm gn bw bd cap : Nat) (va vf : Value) (n : Nat) (A : List Ar) (F : List Nat) (w wr : World) (m : List Bool) (W D N : List Nat) : Prop where
  dx : Dx B h0 bm gm gn bw bd va vf n A F wr
  met : Met bm gm n wr m
  w2 : W2 B wr bw bd W D
  nx : Ark wr gn (n + 1) cap N
  mark : ∀ x, Mk m x ↔ x ∈ D ∨ x ∈ W
  df : Df (Ec A) D W
  lt : ∀ x, x ∈ D ∨ x ∈ W → x < n
  lo : ∀ k, k < n → F.getD k 0 ≤ N.getD k 0 ∧ N.getD k 0 ≤ F.getD (k + 1) 0
  last : N.getD n 0 ≤ A.length
  seen : ∀ k, k < n → ∀ i a, F.getD k 0 ≤ i → i < N.getD k 0 → A[i]? = some a → Mk m a.t
  kp : Kp B [bw, bd, gm, gn] w wr

theorem nodup_len {n : Nat} {l : List Nat} (h : l.Nodup) (hl : ∀ x ∈ l, x < n) : l.length ≤ n := by
  induction n generalizing l with
  | zero =>
    cases l with
    | nil => simp
    | cons a l => exact absurd (hl a (by simp)) (by omega)
  | succ n ih =>
    have h1 := ih (h.erase n) (fun x hx => by
      have := (h.mem_erase_iff).1 hx
      have := hl x this.2
      omega)
    have h2 := List.length_erase (a := n) (l := l)
    split at h2 <;> omega

theorem Ds.count {B h0 bm gm gn bw bd cap : Nat} {va vf : Value} {n : Nat} {A : List Ar} {F : List Nat} {w wr : World} {m : List Bool} {W D N : List Nat} (h : Ds B h0 bm gm gn bw bd cap va vf n A F w wr m W D N) : D.length + W.length ≤ n ∧ N.sum ≤ (n + 1) * 262144 := by
  constructor
  · have := nodup_len h.df.nodup (fun x hx => h.lt x (by simpa using hx))
    simpa using this
  · have hl := h.nx.len
    have hb := h.dx.gph.big.1
    have := sum_le N 262144 (fun x hx => by
      obtain ⟨j, hj, rfl⟩ := List.getElem_of_mem hx
      have e : N.getD j 0 = N[j] := by rw [List.getD_eq_getElem?_getD, List.getElem?_eq_getElem hj]; rfl
      by_cases hjn : j < n
      · have h1 := (h.lo j hjn).2
        have h2 := h.dx.gph.ok.le (j + 1) hjn
        omega
      · obtain rfl : j = n := by omega
        have := h.last
        omega)
    rwa [hl] at this

/-- entered, from where nothing waits or from the last one -/
theorem Ds.enter {B h0 bm gm gn bw bd cap : Nat} {va vf : Value} {n : Nat} {A : List Ar} {F : List Nat} {w wr wr' : World} {m : List Bool} {W D N : List Nat} {t : Nat} (h : Ds B h0 bm gm gn bw bd cap va vf n A F w wr m W D N) (ht : t < n) (hr : ∀ s ∈ W, Rch (Ec A) s t) (hm : Met bm gm n wr' (m.set t true)) (hw : W2 B wr' bw bd (if m.getD t false then W else W ++ [t]) D) (k : Kp B [bw, gm] wr wr') :
    Ds B h0 bm gm gn bw bd cap va vf n A F w wr' (m.set t true) (if m.getD t false then W else W ++ [t]) D N ∧ Mk (m.set t true) t := by
  have hml := h.met.arr.len
  have k' : Kp B [bw, bd, gm, gn] wr wr' := k.mono (fun x hx => by simp at hx ⊢; rcases hx with h | h <;> simp [h])
  have hnx : Ark wr' gn (n + 1) cap N := Ark.kp k h.nx h.dx.bounds.2.2.1 (by have := h.dx.apart; simp; omega)
  have hmk : ∀ x, Mk (m.set t true) x ↔ Mk m x ∨ x = t := Mk.set (by omega)
  cases hmt : m.getD t false with
  | true =>
    rw [hmt] at hw
    have e := set_same m t hmt
    rw [e] at hm hmk ⊢
    exact ⟨⟨h.dx.kp k', hm, hw, hnx, h.mark, h.df, h.lt, h.lo, h.last, h.seen, h.kp.trans k'⟩, hmt⟩
  | false =>
    rw [hmt] at hw
    have hnt : ¬ Mk m t := by unfold Mk; rw [hmt]; simp
    have hn2 := (not_congr (h.mark t)).1 hnt
    refine ⟨⟨h.dx.kp k', hm, hw, hnx, fun x => ?_, h.df.push (fun hx => hn2 (.inl hx)) (fun hx => hn2 (.inr hx)) hr, fun x hx => ?_, h.lo, h.last, fun k hk i a h1 h2 h3 => (hmk _).2 (.inl (h.seen k hk i a h1 h2 h3)), h.kp.trans k'⟩, (hmk t).2 (.inr rfl)⟩
    · rw [hmk, h.mark]
      simp
      constructor
      · rintro ((h1 | h1) | h1)
        · exact .inl h1
        · exact .inr (.inl h1)
        · exact .inr (.inr h1)
      · rintro (h1 | h1 | h1)
        · exact .inl (.inl h1)
        · exact .inl (.inr h1)
        · exact .inr h1
    · rcases hx with hx | hx
      · exact h.lt x (.inl hx)
      · simp at hx
        rcases hx with hx | rfl
        · exact h.lt x (.inr hx)
        · exact ht

/-- the last one is left -/
theorem Ds.leave {B h0 bm gm gn bw bd cap : Nat} {va vf : Value} {n : Nat} {A : List Ar} {F : List Nat} {w wr wr' : World} {m : List Bool} {W D N : List Nat} {k : Nat} (h : Ds B h0 bm gm gn bw bd cap va vf n A F w wr m (W ++ [k]) D N) (hN : N.getD k 0 = F.getD (k + 1) 0) (hw : W2 B wr' bw bd W (D ++ [k])) (kp' : Kp B [bw, bd] wr wr') : Ds B h0 bm gm gn bw bd cap va vf n A F w wr' m W (D ++ [k]) N := by
  have k' : Kp B [bw, bd, gm, gn] wr wr' := kp'.mono (fun x hx => by simp at hx ⊢; rcases hx with h | h <;> simp [h])
  have ha := h.dx.apart
  have hb := h.dx.bounds
  have hkn : k < n := h.lt k (.inr (by simp))
  refine ⟨h.dx.kp k', ⟨(kp'.cell hb.1 (by simp; omega)).trans h.met.box, kp'.arr h.met.arr hb.2.1 (by simp; omega)⟩, hw, Ark.kp kp' h.nx hb.2.2.1 (by simp; omega), fun x => ?_, h.df.pop (fun v hv => ?_), fun x hx => h.lt x ?_, h.lo, h.last, h.seen, h.kp.trans k'⟩
  · rw [h.mark]
    simp
    constructor
    · rintro (h1 | h1 | h1)
      · exact .inl (.inl h1)
      · exact .inr h1
      · exact .inl (.inr h1)
    · rintro ((h1 | h1) | h1)
      · exact .inl h1
      · exact .inr (.inr h1)
      · exact .inr (.inl h1)
  · obtain ⟨a, haA, hf, rfl⟩ := hv
    obtain ⟨i, hi, rfl⟩ := List.getElem_of_mem haA
    have := (h.dx.gph.ok.from k i hkn hi).1 hf
    exact (h.mark _).1 (h.seen k hkn i A[i] this.1 (by omega) (List.getElem?_eq_getElem hi))
  · simp at hx ⊢
    rcases hx with (hx | hx) | hx
    · exact .inl hx
    · exact .inr (.inr hx)
    · exact .inr (.inl hx)

/-- the next arc of the last one -/
theorem Ds.arc {B h0 bm gm gn bw bd cap : Nat} {va vf : Value} {n : Nat} {A : List Ar} {F : List Nat} {w wr wr' : World} {m : List Bool} {W D N : List Nat} {k x : Nat} (h : Ds B h0 bm gm gn bw bd cap va vf n A F w wr m (W ++ [k]) D N) (hx : N.getD k 0 = x) (hN : x < F.getD (k + 1) 0) (hxA : x < A.length) (hm : Met bm gm n wr' (m.set A[x].t true)) (hw : W2 B wr' bw bd (if m.getD A[x].t false then W ++ [k] else (W ++ [k]) ++ [A[x].t]) D) (kp' : Kp B [bw, gm] ((wr.setCell ⟨gn, k, none⟩ (.int .i64 ((x + 1 : Nat) : Int)))) wr') :
    Ds B h0 bm gm gn bw bd cap va vf n A F w wr' (m.set A[x].t true) (if m.getD A[x].t false then W ++ [k] else (W ++ [k]) ++ [A[x].t]) D (N.set k (x + 1)) := by
  have ha := h.dx.apart
  have hb := h.dx.bounds
  have hkn : k < n := h.lt k (.inr (by simp))
  have hlo := h.lo k hkn
  have hnl := h.nx.len
  have hf : A[x].f = k := (h.dx.gph.ok.from k x hkn hxA).2 ⟨by omega, hN⟩
  have ht : A[x].t < n := (h.dx.gph.ok.node _ (List.getElem_mem hxA)).2
  have kset : Keep [gn] wr (wr.setCell ⟨gn, k, none⟩ (.int .i64 ((x + 1 : Nat) : Int))) := Keep.set1 wr ⟨gn, k, none⟩ _
  have k1 : Kp B [bw, bd, gm, gn] wr (wr.setCell ⟨gn, k, none⟩ (.int .i64 ((x + 1 : Nat) : Int))) := Kp.of kset h.dx.size (fun y hy => .inl (by simp at hy; simp [hy])) (fun y hy => by simp at hy; subst hy; exact RowC.isC h.nx.row _ (by simp [Value.ownBlock]))
  have k2 : Kp B [bw, bd, gm, gn] wr wr' := k1.trans (kp'.mono (fun y hy => by simp at hy ⊢; rcases hy with h | h <;> simp [h]))
  have hnx : Ark wr' gn (n + 1) cap (N.set k (x + 1)) := Ark.kp kp' (h.nx.put k (x + 1)) hb.2.2.1 (by simp; omega)
  have hg : ∀ j, (N.set k (x + 1)).getD j 0 = if j = k then x + 1 else N.getD j 0 := fun j => getD_set N k j _ 0 (by omega)
  have hch : ∀ s ∈ W ++ [k], Rch (Ec A) s A[x].t := fun s hs => by
    have he : Ec A k A[x].t := ⟨A[x], List.getElem_mem hxA, hf, rfl⟩
    simp at hs
    rcases hs with hs | rfl
    · exact ((List.pairwise_append.1 h.df.chain).2.2 s hs k (by simp)).tail he
    · exact .one he
  -- first the entering, at the counts as they were
  have hpre : ∀ y, Mk m y → Mk (m.set A[x].t true) y := fun y hy => (Mk.set (by have := h.met.arr.len; omega) y).2 (.inl hy)
  have hself : Mk (m.set A[x].t true) A[x].t := (Mk.set (by have := h.met.arr.len; omega) _).2 (.inr rfl)
  have hseen : ∀ j, j < n → ∀ i a, F.getD j 0 ≤ i → i < (N.set k (x + 1)).getD j 0 → A[i]? = some a → Mk (m.set A[x].t true) a.t := fun j hj i a h1 h2 h3 => by
    rw [hg] at h2
    by_cases hjk : j = k
    · rw [if_pos hjk] at h2
      subst hjk
      by_cases hix : i < x
      · exact hpre _ (h.seen j hj i a h1 (by omega) h3)
      · obtain rfl : i = x := by omega
        rw [List.getElem?_eq_getElem hxA] at h3
        cases h3
        exact hself
    · rw [if_neg hjk] at h2
      exact hpre _ (h.seen j hj i a h1 h2 h3)
  have hlo' : ∀ j, j < n → F.getD j 0 ≤ (N.set k (x + 1)).getD j 0 ∧ (N.set k (x + 1)).getD j 0 ≤ F.getD (j + 1) 0 := fun j hj => by
    rw [hg]
    by_cases hjk : j = k
    · subst hjk
      rw [if_pos rfl]
      exact ⟨by omega, by omega⟩
    · rw [if_neg hjk]
      exact h.lo j hj
  have hlast : (N.set k (x + 1)).getD n 0 ≤ A.length := by
    rw [hg, if_neg (by omega)]
    exact h.last
  have hmk : ∀ y, Mk (m.set A[x].t true) y ↔ Mk m y ∨ y = A[x].t := Mk.set (by have := h.met.arr.len; omega)
  cases hmt : m.getD A[x].t false with
  | true =>
    rw [hmt] at hw
    have e := set_same m _ hmt
    rw [e] at hm hseen ⊢
    exact ⟨h.dx.kp k2, hm, hw, hnx, h.mark, h.df, h.lt, hlo', hlast, hseen, h.kp.trans k2⟩
  | false =>
    rw [hmt] at hw
    have hnt : ¬ Mk m A[x].t := by unfold Mk; rw [hmt]; simp
    have hn2 := (not_congr (h.mark _)).1 hnt
    refine ⟨h.dx.kp k2, hm, hw, hnx, fun y => ?_, h.df.push (fun hx => hn2 (.inl hx)) (fun hx => hn2 (.inr hx)) hch, fun y hy => ?_, hlo', hlast, hseen, h.kp.trans k2⟩
    · rw [hmk, h.mark, if_neg (by simp), List.mem_append (s := W ++ [k]), List.mem_singleton]
      constructor
      · rintro ((h1 | h1) | h1)
        · exact .inl h1
        · exact .inr (.inl h1)
        · exact .inr (.inr h1)
      · rintro (h1 | h1 | h1)
        · exact .inl (.inl h1)
        · exact .inl (.inr h1)
        · exact .inr h1
    · rw [if_neg (by simp), List.mem_append (s := W ++ [k]), List.mem_singleton] at hy
      rcases hy with hy | hy | hy
      · exact h.lt y (.inl hy)
      · exact h.lt y (.inr hy)
      · rw [hy]; exact ht
end Go.Proofs.Ytmlpkjeaieljfab

/- The walk into the depth: ends. -/
namespace Go.Proofs.Ytmlpkjeaieljfab
open Go.RowKit Go.PlainAid Go.Sort

/-- what is done, in its order -/
def EndR (w w' : World) (v : Value) (n : Nat) (A : List Ar) : Prop := ∃ D, Nw w w' v D ∧ Df (Ec A) D [] ∧ ∀ x, x ∈ D ↔ x < n

theorem Rw.ark {w : World} {v : Value} {l : List Nat} {n : Nat} (h : Rw 3 encN 1 w v l) (hl : l.length = n + 1) : ∃ g cap, v = .slice (some ⟨g, 0, none⟩) (n + 1) cap ∧ Ark w g (n + 1) cap l := by
  rcases h.cases encN_len with ⟨e, _⟩ | ⟨g, cap, rfl, -⟩
  · rw [e] at hl; simp at hl
  · refine ⟨g, cap, by rw [hl], ?_, hl⟩
    unfold Rw at h
    rw [hl, map_encN] at h
    exact h

abbrev Sd (h0 gn k x b o : Nat) (va vf : Value) (t : Nat) (B bm gm bw bd : Nat) (n : Nat) (A : List Ar) (F : List Nat) (w : World) : Prop :=
  w.cell? ⟨h0, 0, none⟩ = some va ∧ w.cell? ⟨h0, 1, none⟩ = some vf ∧ w.cell? ⟨gn, k, none⟩ = some (.int .i64 ((x : Int) + 1)) ∧ w.cell? ⟨b, o + x * 3 + 1, none⟩ = some (.int .i64 (t : Int)) ∧ Hid (b < B ∧ b ∉ [bw, bd, gm, gn] ∧ Dx B h0 bm gm gn bw bd va vf n A F w)
theorem sd_kp {h0 gn k x b o : Nat} {va vf : Value} {t : Nat} {B bm gm bw bd : Nat} {n : Nat} {A : List Ar} {F : List Nat} {w w' : World} (kp : Kp B [bw, gm] w w') (h : Sd h0 gn k x b o va vf t B bm gm bw bd n A F w) : Sd h0 gn k x b o va vf t B bm gm bw bd n A F w' := by
  obtain ⟨h1, h2, h3, h4, h5⟩ := h
  have k' : Kp B [bw, bd, gm, gn] w w' := kp.mono (fun x hx => by simp at hx ⊢; rcases hx with h | h <;> simp [h])
  have hd := h5.out.2.2.kp k'
  have ha := h5.out.2.2.apart
  have hb := h5.out.2.2.bounds
  have hbn := h5.out.2.1
  simp at hbn
  exact ⟨hd.cg0, hd.cg1, (kp.cell hb.2.2.1 (by simp; omega)).trans h3, (kp.cell h5.out.1 (by simp; omega)).trans h4, h5.out.1, h5.out.2.1, hd⟩
theorem sd_drew {h0 gn k x b o : Nat} {va vf : Value} {t : Nat} {B bm gm bw bd : Nat} {n : Nat} {A : List Ar} {F : List Nat} {w : World} (h : Sd h0 gn k x b o va vf t B bm gm bw bd n A F w) : Sd h0 gn k x b o va vf t B bm gm bw bd n A F w.drew :=
  sd_kp (Kp.of ((Keep.refl [] w).drew) h.2.2.2.2.out.2.2.size (by simp)) h

set_option maxRecDepth 1000000 in
set_option maxHeartbeats 8000000 in
theorem ends_own (va vf : Value) (n : Nat) (A : List Ar) (F : List Nat) (w : World) (hg : Gph w va vf n A F) (hva : ∀ x, va.ownBlock = some x → x < w.heap.size) (hvf : ∀ x, vf.ownBlock = some x → x < w.heap.size) :
    Calls Try.prog 67 #[.agg #[va, vf]] w fun e w' => ∃ v, e = .returned v ∧ EndR w w' v n A := by
  have hmf : ∀ (fn : Fn) (first cap : Array Value) (w : World), (Instr.makeFunc fn first cap).run Try.prog w = .ok (.func fn first cap) w := fun _ _ _ _ => rfl
  obtain ⟨a1, c1, rfl, -, -⟩ := hg.arcs.form
  obtain ⟨b2, o2, c2, rfl, -, -, -, -⟩ := hg.firstLen
  have hn := hg.big.2
  have HG : Hid (Gph w (.slice a1 A.length c1) (.slice (some ⟨b2, o2, none⟩) (n + 1) c2) n A F) := hg
  have HV : Hid ((∀ x, (Value.slice a1 A.length c1).ownBlock = some x → x < w.heap.size) ∧ (∀ x, (Value.slice (some ⟨b2, o2, none⟩) (n + 1) c2).ownBlock = some x → x < w.heap.size)) := ⟨hva, hvf⟩
  have HNo : Hid (∀ w', Keep [] w w' → Calls Try.prog 33 #[.agg #[.slice a1 A.length c1, .slice (some ⟨b2, o2, none⟩) (n + 1) c2]] w' fun e w2 => e = .returned (.int .i64 (n : Int)) ∧ w2 = w'.alloc (.cells #[.slice a1 A.length c1, .slice (some ⟨b2, o2, none⟩) (n + 1) c2] 45)) := fun w' k => nodes_any _ _ n A F _ (hg.keep k (Off.nil _) (Off.nil _))
  have HCl : Hid (∀ w', Keep [] w w' → Calls Try.prog 88 #[.slice (some ⟨b2, o2, none⟩) (n + 1) c2] w' fun e w2 => ∃ v', e = .returned v' ∧ (Rw 3 encN 1 w2 v' F ∧ Fresh w' w2 v') ∧ Keep [] w' w2) := fun w' k => cloneI_any b2 o2 (n + 1) c2 F w' (hg.first.keep k (Off.nil _)) hg.ok.len (by omega)
  obtain ⟨i4, hi4, hz4, hs4, hy4⟩ := info_parts infoBool
  have HB2 : Hid (i4.bytes * n ≤ 281474976710656) := show i4.bytes * n ≤ 281474976710656 by rw [hy4]; omega
  have HB3 : Hid (n ≤ maxLen) := show n ≤ maxLen by simp only [maxLen]; omega
  clear hg hva hvf
  go_enter Try.func67, Try.ntmps67
  go_wp2_with fail
  refine (HNo.out _ (Keep.alloc1 w _)).mono ?_
  rintro e w1 ⟨rfl, hw1⟩
  have HW1 : Hid (w1 = (w.alloc (.cells #[.slice a1 A.length c1, .slice (some ⟨b2, o2, none⟩) (n + 1) c2] 45)).alloc (.cells #[.slice a1 A.length c1, .slice (some ⟨b2, o2, none⟩) (n + 1) c2] 45)) := hw1
  clear hw1
  go_wp2_with (at_make; refine wpList_make_full _ rfl (.tmp 12) (.tmp 12) 62 rfl 0 4 i4 (.bool false) 1 Try.underlying62 hi4 hz4 hs4 .i64 .i64 _ _ n rfl rfl rfl rfl HB2.out HB3.out (Nat.zero_le _) ?_)
  intro w2 r1 r2
  have H2 : Hid (Arr 4 eB w2 w1.heap.size n (List.replicate n false) ∧ Keep [] w1 w2 ∧ w1.heap.size < w2.heap.size) := ⟨Arr.made (e := eB) (z := false) r1, Keep.mono (Keep.grown r2) (by simp), (Arr.made (e := eB) (z := false) r1).lt⟩
  clear r1 r2 HB2 HB3 hi4 hz4 hs4 hy4
  obtain ⟨h0, HH0⟩ : ∃ h0 : Nat, Hid (h0 = w.heap.size) := ⟨_, show _ = _ from rfl⟩
  obtain ⟨gm, HGM⟩ : ∃ gm : Nat, Hid (gm = w1.heap.size) := ⟨_, show _ = _ from rfl⟩
  obtain ⟨bm, HBM⟩ : ∃ bm : Nat, Hid (bm = w2.heap.size) := ⟨_, show _ = _ from rfl⟩
  have hh0 : w1.heap.size = h0 + 2 := by rw [HW1.out, HH0.out]; simp
  have hcel : w1.cell? ⟨h0, 0, none⟩ = some (.slice a1 A.length c1) ∧ w1.cell? ⟨h0, 1, none⟩ = some (.slice (some ⟨b2, o2, none⟩) (n + 1) c2) := by
    rw [HW1.out, HH0.out]
    have hb := blk_next (o' := .cells #[.slice a1 A.length c1, .slice (some ⟨b2, o2, none⟩) (n + 1) c2] 45) (heap_alloc_new w (.cells #[.slice a1 A.length c1, .slice (some ⟨b2, o2, none⟩) (n + 1) c2] 45))
    exact ⟨by simp only [World.cell?, hb]; rfl, by simp only [World.cell?, hb]; rfl⟩
  have d0 : w2.cell? ⟨h0, 0, none⟩ = some (.slice a1 A.length c1) := H2.out.2.1.cell' hcel.1 (by simp)
  have d1 : w2.cell? ⟨h0, 1, none⟩ = some (.slice (some ⟨b2, o2, none⟩) (n + 1) c2) := H2.out.2.1.cell' hcel.2 (by simp)
  have hlt0 : h0 < w2.heap.size := by have := H2.out.2.2; omega
  rw [← HGM.out] at H2 ⊢
  rw [← HH0.out]
  have k02 : Hid (Keep [] w w2) := by
    have k1 : Keep [] w w1 := by rw [HW1.out]; exact ((Keep.refl [] w).alloc _).alloc _
    exact k1.trans' H2.out.2.1
  clear hcel
  go_wp2_with fail
  rw [← HBM.out]
  refine (HCl.out _ (k02.out.alloc _)).mono ?_
  rintro e w4 ⟨vn, rfl, ⟨rn, fn⟩, k4⟩
  obtain ⟨gn, cn, rfl, akn⟩ := rn.ark HG.out.ok.len
  obtain ⟨Hn, HHn⟩ : ∃ Hn : Nat, Hid (Hn = w4.heap.size) := ⟨_, show _ = _ from rfl⟩
  have HZ : Hid (bm < gn ∧ gn < Hn ∧ gm < bm ∧ h0 < gm ∧ w.heap.size ≤ h0 ∧ bm < Hn) := by
    have h1 := fn gn rfl
    simp at h1
    have h2 := k4.size
    simp at h2
    have hgm : gm < bm := by rw [HBM.out]; exact H2.out.2.2
    refine ⟨by rw [HBM.out]; omega, by rw [HHn.out]; exact h1.2, hgm, by rw [HGM.out, hh0]; omega, by rw [HH0.out]; exact Nat.le_refl _, by rw [HHn.out, HBM.out]; omega⟩
  have e0 : w4.cell? ⟨h0, 0, none⟩ = some (.slice a1 A.length c1) := ((Keep.alloc1 w2 _).trans' k4).cell' d0 (by simp)
  have e1 : w4.cell? ⟨h0, 1, none⟩ = some (.slice (some ⟨b2, o2, none⟩) (n + 1) c2) := ((Keep.alloc1 w2 _).trans' k4).cell' d1 (by simp)
  have hbx : w4.cell? ⟨bm, 0, none⟩ = some (.slice (some ⟨gm, 0, none⟩) n n) := by
    refine k4.cell' ?_ (by simp)
    have := heap_alloc_new w2 (.cells #[.slice (some ⟨gm, 0, none⟩) n n] 62)
    rw [← HBM.out] at this
    simp only [World.cell?, this]
    rfl
  have H4 : Hid (Keep [] w w4 ∧ Ark w4 gn (n + 1) cn F ∧ Met bm gm n w4 (List.replicate n false)) := ⟨(k02.out.alloc _).trans' k4, akn, hbx, (H2.out.1.keep (Keep.alloc1 w2 _) (by simp)).keep k4 (by simp)⟩
  have hl4 : h0 < w4.heap.size := by have := HZ.out; have := HHn.out; omega
  clear rn fn k4 akn d0 d1 H2 k02 hlt0 HW1 hh0 HCl hbx
  go_wp2_with fail
  rw [← HHn.out]
  refine (HNo.out _ ((H4.out.1.alloc _).alloc _)).mono ?_
  rintro e w6 ⟨rfl, hw6⟩
  have HD : Hid (Ds (Hn + 2) h0 bm gm gn Hn (Hn + 1) cn (.slice a1 A.length c1) (.slice (some ⟨b2, o2, none⟩) (n + 1) c2) n A F w6 w6 (List.replicate n false) [] [] F) := by
    obtain ⟨z1, z2, z3, z4, z5, z6⟩ := HZ.out
    have k6 : Keep [] w4 w6 := by rw [hw6]; exact (((Keep.refl [] w4).alloc _).alloc _).alloc _
    have kw6 : Keep [] w w6 := H4.out.1.trans' k6
    have hs6 : w6.heap.size = Hn + 3 := by rw [hw6, HHn.out]; simp
    have hb1 : Bx w6 Hn 28 (.slice none 0 0) := by
      rw [hw6, HHn.out]
      exact blk_next (blk_next (heap_alloc_new w4 _))
    have hb2 : Bx w6 (Hn + 1) 28 (.slice none 0 0) := by
      rw [hw6, HHn.out, show w4.heap.size + 1 = (w4.alloc (.cells #[.slice none 0 0] 28)).heap.size by simp]
      exact blk_next (heap_alloc_new _ _)
    refine ⟨⟨k6.cell' e0 (by simp), k6.cell' e1 (by simp), HG.out.keep kw6 (Off.nil _) (Off.nil _), fun x hx => ?_, by omega, by omega, by omega⟩, ⟨k6.cell' H4.out.2.2.box (by simp), H4.out.2.2.arr.keep k6 (by simp)⟩, ⟨_, _, ⟨hb1, Rw.nil 3 encN 1 _, fun x hx => by simp [Value.ownBlock] at hx⟩, ⟨hb2, Rw.nil 3 encN 1 _, fun x hx => by simp [Value.ownBlock] at hx⟩, fun x hx => by simp [Value.ownBlock] at hx⟩, ⟨RowC.keep H4.out.2.1.row k6 (Off.nil _), H4.out.2.1.len⟩, fun x => ?_, Df.start, fun x hx => by simp at hx, fun k hk => ⟨Nat.le_refl _, HG.out.ok.mono k hk⟩, HG.out.ok.le n (Nat.le_refl _), fun k hk i a h1 h2 => by omega, Kp.refl _ _ _⟩
    · rcases hx with rfl | hx | hx
      · simp; omega
      · have := HV.out.1 x hx
        simp; omega
      · have := HV.out.2 x hx
        simp; omega
    · unfold Mk
      rw [getD_replicate]
      simp
  have HK6 : Hid (Keep [] w w6 ∧ Hn < w6.heap.size) := by
    have k6 : Keep [] w4 w6 := by rw [hw6]; exact (((Keep.refl [] w4).alloc _).alloc _).alloc _
    exact ⟨H4.out.1.trans' k6, by rw [hw6, HHn.out]; simp; omega⟩
  clear hw6 H4 e0 e1 hl4 HNo HHn HBM HGM HH0
  obtain ⟨Hd, HHd⟩ : ∃ Hd : Nat, Hid (Hd = Hn + 1) := ⟨_, show _ = _ from rfl⟩
  rw [← HHd.out] at HD ⊢
  go_wp2
  go_loopw [21] (fun iv wr => ∃ (i : Nat) (m : List Bool) (D N : List Nat), iv = .int .i64 (i : Int) ∧ i ≤ n ∧ Hid (Ds (Hn + 2) h0 bm gm gn Hn Hd cn (.slice a1 A.length c1) (.slice (some ⟨b2, o2, none⟩) (n + 1) c2) n A F w6 wr m [] D N) ∧ Hid (∀ x, x < i → Mk m x)) (fun iv _ => n - (intOf iv).toNat)
  case atStart => exact ⟨0, _, _, _, rfl, Nat.zero_le _, HD, fun x hx => by omega⟩
  case round =>
    clear HD
    obtain ⟨i, m, D, N, rfl, hi, HD, HX⟩ := hrel
    by_cases hlt : i < n
    · have hlti : (i : Int) < (n : Int) := by omega
      have HEn : Hid (∀ (_ : True), Calls Try.prog 89 #[.int .i64 (i : Int), .pointer (some ⟨bm, 0, none⟩), .pointer (some ⟨Hn, 0, none⟩)] wr fun e w' => e = .returned (.tuple #[]) ∧ Met bm gm n w' (m.set i true) ∧ W2 (Hn + 2) w' Hn Hd (if m.getD i false then [] else [] ++ [i]) D ∧ Kp (Hn + 2) [Hn, gm] wr w') := fun _ => by
        have hb := HD.out.dx.bounds
        have ha := HD.out.dx.apart
        exact enter_any i m [] D wr hlt HD.out.met HD.out.w2 hb.2.2.2.1 hb.2.2.2.2 (by omega) HD.out.dx.size hb.1 hb.2.1 (by omega) (by omega) (by omega) (by omega) (by simp)
      have HJ : Hid (∀ w', Met bm gm n w' (m.set i true) → W2 (Hn + 2) w' Hn Hd (if m.getD i false then [] else [] ++ [i]) D → Kp (Hn + 2) [Hn, gm] wr w' → Ds (Hn + 2) h0 bm gm gn Hn Hd cn (.slice a1 A.length c1) (.slice (some ⟨b2, o2, none⟩) (n + 1) c2) n A F w6 w' (m.set i true) (if m.getD i false then [] else [] ++ [i]) D N ∧ ∀ x, x < i + 1 → Mk (m.set i true) x) := fun w' h1 h2 h3 => by
        have hx := HD.out.enter hlt (fun s hs => by simp at hs) h1 h2 h3
        refine ⟨hx.1, fun x hx2 => ?_⟩
        by_cases hxi : x = i
        · rw [hxi]; exact hx.2
        · have hml := HD.out.met.arr.len
          exact (Mk.set (by omega) x).2 (.inl (HX.out x (by omega)))
      clear HD HX
      go_wp2_with fail
      refine (HEn.out trivial).mono ?_
      rintro e w7 ⟨rfl, g1, g2, g3⟩
      have H7 : Hid _ := HJ.out _ g1 g2 g3
      clear g1 g2 g3 HEn HJ
      generalize (if m.getD i false = true then [] else [] ++ [i]) = W7 at H7
      generalize m.set i true = m7 at H7
      go_wp2
      go_loopw [] (fun wr => ∃ (m : List Bool) (W D N : List Nat), Hid (Ds (Hn + 2) h0 bm gm gn Hn Hd cn (.slice a1 A.length c1) (.slice (some ⟨b2, o2, none⟩) (n + 1) c2) n A F w6 wr m W D N) ∧ Hid (∀ x, x < i + 1 → Mk m x)) (fun wr => ((n + 1) * 262144 + 2 * n) - (sumAt wr gn (n + 1) + lenAt wr Hn + 2 * lenAt wr Hd))
      case atStart => exact ⟨_, _, _, _, H7.out.1, H7.out.2⟩
      case round =>
        clear H7
        obtain ⟨m, W, D, N, HD, HX⟩ := hrel
        have HM : Hid (sumAt wr gn (n + 1) + lenAt wr Hn + 2 * lenAt wr Hd = N.sum + W.length + 2 * D.length) := by
          show _ = _
          rw [HD.out.nx.sumAt, HD.out.w2.wt.lenAt, HD.out.w2.wd.lenAt]
        rcases List.eq_nil_or_concat W with rfl | ⟨W', k, rfl⟩
        · obtain ⟨ao, cap, cw⟩ := HD.out.w2.wt.form
          go_wp2
          go_roundw
          case rel => exact ⟨i + 1, m, D, N, by go_num, by omega, HD, HX⟩
          case measure => simp [intOf]; omega
        · rw [List.concat_eq_append] at HD HM
          obtain ⟨g, cap, cw, -, hcp, hcp2, ck, -, -⟩ := HD.out.w2.wt.pop HD.out.dx.bounds.2.2.2.1 HD.out.dx.size
          have hkn : k < n := HD.out.lt k (.inr (by simp))
          have hwl := HD.out.count.1
          have hns := HD.out.count.2
          rw [List.length_append, List.length_singleton] at hwl HM
          have hlen : (0 : Int) < (W'.length : Int) + 1 := by omega
          have hlen2 : (W'.length : Int) < (W'.length : Int) + 1 := by omega
          have hki : (k : Int) < (n : Int) + 1 := by omega
          obtain ⟨k1, HK1⟩ : ∃ k1 : Nat, Hid (k1 = k + 1) := ⟨_, show _ = _ from rfl⟩
          have hk1 : (k : Int) + 1 = (k1 : Int) := by have := HK1.out; omega
          have hk2 : IntKind.i64.wrap ((k : Int) + 1) = (k1 : Int) := by rw [wrap_ok _ (by omega) (by omega)]; exact hk1
          have hk3 : (k1 : Int) < (n : Int) + 1 := by have := HK1.out; omega
          obtain ⟨x, HXx⟩ : ∃ x : Nat, Hid (x = N.getD k 0) := ⟨_, show _ = _ from rfl⟩
          obtain ⟨y, HY⟩ : ∃ y : Nat, Hid (y = F.getD (k + 1) 0) := ⟨_, show _ = _ from rfl⟩
          have cx : wr.cell? ⟨gn, k, none⟩ = some (.int .i64 (x : Int)) := by rw [HXx.out]; exact HD.out.nx.facts.2.2.2.1 k (by omega)
          have fx : wr.frozen? ⟨gn, k, none⟩ = false := HD.out.nx.facts.2.2.2.2 k
          have hcn : n + 1 ≤ cn ∧ cn ≤ 9223372036854775807 := ⟨HD.out.nx.facts.1, HD.out.nx.facts.2.1⟩
          have cy : wr.cell? ⟨b2, o2 + k1, none⟩ = some (.int .i64 (y : Int)) := by
            obtain ⟨b', o', c', he, _, _, _, hc⟩ := HD.out.dx.gph.firstLen
            simp at he
            obtain ⟨⟨rfl, rfl⟩, rfl⟩ := he
            rw [HY.out, HK1.out]
            exact hc (k + 1) (by omega)
          have g0 := HD.out.dx.cg0
          have g1 := HD.out.dx.cg1
          have hxy : x ≤ y := by rw [HXx.out, HY.out]; exact (HD.out.lo k hkn).2
          have hyA : y ≤ A.length := by rw [HY.out]; exact HD.out.dx.gph.ok.le (k + 1) hkn
          have hAb := HD.out.dx.gph.big.1
          by_cases hxe : x = y
          · have hq1 : ((x : Int) == (y : Int)) = true := by simp [hxe]
            have HLv : Hid (∀ w', Keep [] wr w' → Calls Try.prog 90 #[.pointer (some ⟨Hn, 0, none⟩), .pointer (some ⟨Hd, 0, none⟩)] w' fun e w2 => e = .returned (.tuple #[]) ∧ W2 (Hn + 2) w2 Hn Hd W' (D ++ [k]) ∧ Kp (Hn + 2) [Hn, Hd] w' w2) := fun w' kk => by
              have hb := HD.out.dx.bounds
              have ha := HD.out.dx.apart
              exact leave_any k W' D w' (HD.out.w2.keep kk (by simp) (by simp) (by simp)) hb.2.2.2.1 hb.2.2.2.2 (by omega) (Nat.le_trans HD.out.dx.size kk.size) (by omega) (by omega)
            have HJ : Hid (∀ w' w2, Keep [] wr w' → W2 (Hn + 2) w2 Hn Hd W' (D ++ [k]) → Kp (Hn + 2) [Hn, Hd] w' w2 → Ds (Hn + 2) h0 bm gm gn Hn Hd cn (.slice a1 A.length c1) (.slice (some ⟨b2, o2, none⟩) (n + 1) c2) n A F w6 w2 m W' (D ++ [k]) N) := fun w' w2 kk h1 h2 => by
              refine HD.out.leave ?_ h1 ((Kp.of kk HD.out.dx.size (by simp)).trans h2)
              rw [← HXx.out, ← HY.out, hxe]
            subst hxe
            clear HD hxy hyA
            go_wp2
            go_quiet (fail)
            go_wp2_with fail
            refine (HLv.out _ ((Keep.refl [] wr).drewN _)).mono ?_
            rintro e w9 ⟨rfl, q1, q2⟩
            have H9 : Hid _ := HJ.out _ _ ((Keep.refl [] wr).drewN _) q1 q2
            clear HLv HJ q1 q2
            go_wp2
            go_roundw
            case rel => exact ⟨m, W', D ++ [k], N, H9, HX⟩
            case measure =>
              have hc := H9.out.count
              have h1 := HM.out
              have h2 : sumAt w9 gn (n + 1) + lenAt w9 Hn + 2 * lenAt w9 Hd = N.sum + W'.length + 2 * (D ++ [k]).length := by rw [H9.out.nx.sumAt, H9.out.w2.wt.lenAt, H9.out.w2.wd.lenAt]
              rw [h1, h2]
              rw [List.length_append, List.length_singleton] at *
              omega
          · have hq1 : ((x : Int) == (y : Int)) = false := by simp; omega
            have hq2 : ¬ (x : Int) = (y : Int) := by omega
            have hxA : x < A.length := by omega
            obtain ⟨b, o, c, he, hbw2, -, ct, -⟩ := HD.out.dx.gph.arcs.arcA x hxA
            simp at he
            obtain ⟨rfl, rfl⟩ := he
            have HB0 : Hid (b < Hn + 2 ∧ b ∉ [Hn, Hd, gm, gn]) := HD.out.dx.lt b (by simp [Value.ownBlock])
            have htn : A[x].t < n := (HD.out.dx.gph.ok.node _ (List.getElem_mem hxA)).2
            have hx1 : ((x + 1 : Nat) : Int) = (x : Int) + 1 := by omega
            have HKs : Hid (∀ q, Keep [gn] wr ((wr.drewN q).setCell ⟨gn, k, none⟩ (.int .i64 ((x : Int) + 1)))) := fun q => (((Keep.refl [] wr).drewN q).mono (by simp)).trans' (Keep.set1 _ ⟨gn, k, none⟩ _)
            have HSd : Hid (∀ q, Sd h0 gn k x b o (.slice (some ⟨b, o, none⟩) A.length c1) (.slice (some ⟨b2, o2, none⟩) (n + 1) c2) A[x].t (Hn + 2) bm gm Hn Hd n A F ((wr.drewN q).setCell ⟨gn, k, none⟩ (.int .i64 ((x : Int) + 1)))) := fun q => by
              have kk : Kp (Hn + 2) [Hn, Hd, gm, gn] wr ((wr.drewN q).setCell ⟨gn, k, none⟩ (.int .i64 ((x : Int) + 1))) := Kp.of (HKs.out q) HD.out.dx.size (fun y hy => .inl (by simp at hy; simp [hy])) (fun y hy => by simp at hy; subst hy; exact RowC.isC HD.out.nx.row _ (by simp [Value.ownBlock]))
              have hd := HD.out.dx.kp kk
              refine ⟨hd.cg0, hd.cg1, ?_, (kk.cell HB0.out.1 HB0.out.2).trans ct, HB0.out.1, HB0.out.2, hd⟩
              have := (HD.out.nx.put k (x + 1)).facts.2.2.2.1 k (by omega)
              rw [getD_set _ _ _ _ _ (by have := HD.out.nx.len; omega), if_pos rfl, hx1] at this
              exact this
            have HEn : Hid (∀ w', Keep [gn] wr w' → Calls Try.prog 89 #[.int .i64 ((A[x].t : Nat) : Int), .pointer (some ⟨bm, 0, none⟩), .pointer (some ⟨Hn, 0, none⟩)] w' fun e w2 => e = .returned (.tuple #[]) ∧ Met bm gm n w2 (m.set A[x].t true) ∧ W2 (Hn + 2) w2 Hn Hd (if m.getD A[x].t false then W' ++ [k] else (W' ++ [k]) ++ [A[x].t]) D ∧ Kp (Hn + 2) [Hn, gm] w' w2) := fun w' kk => by
              have hb := HD.out.dx.bounds
              have ha := HD.out.dx.apart
              exact enter_any A[x].t m (W' ++ [k]) D w' htn ⟨kk.cell' HD.out.met.box (by simp; omega), HD.out.met.arr.keep kk (by simp; omega)⟩ (HD.out.w2.keep kk (by simp; omega) (by simp; omega) (by simp; omega)) hb.2.2.2.1 hb.2.2.2.2 (by omega) (Nat.le_trans HD.out.dx.size kk.size) hb.1 hb.2.1 (by omega) (by omega) (by omega) (by omega) (by simp; omega)
            have HJ : Hid (∀ q w2, Met bm gm n w2 (m.set A[x].t true) → W2 (Hn + 2) w2 Hn Hd (if m.getD A[x].t false then W' ++ [k] else (W' ++ [k]) ++ [A[x].t]) D → Kp (Hn + 2) [Hn, gm] (((wr.drewN q).setCell ⟨gn, k, none⟩ (.int .i64 ((x : Int) + 1))).drew) w2 → Ds (Hn + 2) h0 bm gm gn Hn Hd cn (.slice (some ⟨b, o, none⟩) A.length c1) (.slice (some ⟨b2, o2, none⟩) (n + 1) c2) n A F w6 w2 (m.set A[x].t true) (if m.getD A[x].t false then W' ++ [k] else (W' ++ [k]) ++ [A[x].t]) D (N.set k (x + 1)) ∧ (∀ z, z < i + 1 → Mk (m.set A[x].t true) z) ∧ N.sum + (W'.length + 1) < (N.set k (x + 1)).sum + (if m.getD A[x].t false then W' ++ [k] else (W' ++ [k]) ++ [A[x].t]).length) := fun q w2 h1 h2 h3 => by
              have kk : Kp (Hn + 2) [Hn, gm] (wr.setCell ⟨gn, k, none⟩ (.int .i64 ((x + 1 : Nat) : Int))) w2 := by
                refine Kp.trans ?_ h3
                rw [hx1]
                exact ⟨rfl, rfl, rfl, Nat.le_refl _, fun _ _ _ => rfl, fun _ _ h _ => h⟩
              refine ⟨HD.out.arc HXx.out.symm (by rw [← HY.out]; omega) hxA h1 h2 kk, fun z hz => (Mk.set (by have := HD.out.met.arr.len; omega) z).2 (.inl (HX.out z hz)), ?_⟩
              have hs := sum_set N k (by have := HD.out.nx.len; omega)
              rw [← HXx.out] at hs
              rw [hs]
              split <;> simp <;> omega
            have hxi : (x : Int) < (A.length : Int) := by omega
            have kx1 : IntKind.i64.wrap ((x : Int) + 1 - 1) = (x : Int) := by rw [wrap_ok _ (by omega) (by omega)]; omega
            have kx2 : IntKind.i64.wrap (x : Int) = (x : Int) := by rw [wrap_ok _ (by omega) (by omega)]
            generalize A[x].t = t at ct htn HSd HEn HJ
            clear HD hxy hyA hx1
            go_wp2
            go_quiet (fail)
            go_wp2
            go_region_held3 (fun w' => w'.cell? ⟨h0, 0, none⟩ = some (.slice (some ⟨b, o, none⟩) A.length c1) ∧ w'.cell? ⟨h0, 1, none⟩ = some (.slice (some ⟨b2, o2, none⟩) (n + 1) c2) ∧ w'.cell? ⟨gn, k, none⟩ = some (.int .i64 ((x : Int) + 1)) ∧ w'.cell? ⟨b, o + x * 3 + 1, none⟩ = some (.int .i64 (t : Int)) ∧ Hid (b < Hn + 2 ∧ b ∉ [Hn, Hd, gm, gn] ∧ Dx (Hn + 2) h0 bm gm gn Hn Hd (.slice (some ⟨b, o, none⟩) A.length c1) (.slice (some ⟨b2, o2, none⟩) (n + 1) c2) n A F w'))
              (first | assumption | exact sd_drew (HSd.out _) | exact sd_kp (by assumption) (by assumption))
              (first | (go_at_call 89; refine (HEn.out _ ((HKs.out _).drew)).mono ?_; rintro e w9 ⟨rfl, q1, q2, q3⟩))
            all_goals
              have H9 : Hid _ := HJ.out _ _ q1 q2 q3
              rename_i hHx
              clear hHx HEn HJ HSd HKs q1 q2 q3
              go_wp2
              go_roundw
              case rel => exact ⟨_, _, D, _, H9.out.1, H9.out.2.1⟩
              case measure =>
                have hc := H9.out.1.count
                have h1 := HM.out
                have h2 := H9.out.2.2
                rw [h1, H9.out.1.nx.sumAt, H9.out.1.w2.wt.lenAt, H9.out.1.w2.wd.lenAt]
                omega
    · have hlti : ¬ (i : Int) < (n : Int) := by omega
      obtain ⟨v, u, -, hu, -⟩ := HD.out.w2.ex
      have cu := hu.1.cell
      have HE : Hid (EndR w wr u n A) := by
        have hz := HZ.out
        refine ⟨D, ⟨hu.2.1, fun x hx => by have := hu.2.2 x hx; omega, Kp.keep HK6.out.1 HD.out.kp (by omega) (by simp; have := HHd.out; omega)⟩, HD.out.df, fun x => ⟨fun hx => HD.out.lt x (.inl hx), fun hx => ?_⟩⟩
        have := (HD.out.mark x).1 (HX.out x (by omega))
        simpa using this
      clear HD HX hu
      go_wp2
      go_ret
      exact ⟨_, rfl, HE.out⟩
end Go.Proofs.Ytmlpkjeaieljfab

