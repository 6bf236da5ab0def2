/- ShelfWalks: All and From of any shelf: left, told once more, within one another, of a shelf that has changed. -/
import Derived.Test.YtkelhglflpdpeaaWk
import Derived.Test.YtkelhglflpdpeaaRs
import Derived.Test.YtkelhglflpdpeaaAw
import Derived.Deep.Cut
import Derived.RangeFuncNested
import Derived.Laws.EntriesVeiled

namespace Go.Proofs.Ytkelhglflpdpeaa
open Go.RowKit Go.PlainAid Go.Shelf
attribute [local go_sem] Oper.semAt_some

set_option maxRecDepth 100000 in
set_option maxHeartbeats 2000000 in
theorem rRising_all (v : Value) (l : List Pr) (w : World) (h : Rd encP 2 w v l) (hl : l.length ≤ 8796093021952) :
    Calls Try.prog 24 #[v] w fun e w' => ∃ v', e = .returned v' ∧ Rw 29 encP 2 w' v' (madeL l) ∧ Keep [] w w' := by
  obtain ⟨ao, cap, rfl, hc1, hc2⟩ := h.form
  have HV : Hid (Rd encP 2 w (.slice ao l.length cap) l) := h
  have HL : Hid (l.length ≤ 8796093021952) := by show _ ≤ _; omega
  have hli : (l.length : Int) ≤ 8796093021952 := by omega
  clear h hl
  go_enter Try.func24, Try.ntmps24
  go_wp2_with fail
  go_loopw [3, 4] (fun ov iv wr => ∃ i : Nat, iv = .int .i64 (i : Int) ∧ i ≤ l.length ∧ Hid (Rw 29 encP 2 wr ov (madeL (l.take i)) ∧ Keep [] w wr)) (fun ov iv _ => l.length - (intOf iv).toNat)
  case atStart => exact ⟨0, rfl, Nat.zero_le _, Rw.nil _ _ _ _, Keep.refl _ _⟩
  case round =>
    obtain ⟨i, rfl, hi, HI⟩ := hrel
    by_cases hlt : i < l.length
    · have hlti : (i : Int) < (l.length : Int) := by omega
      have hi0 : (0 : Int) ≤ (i : Int) := by omega
      obtain ⟨b, o, c2, he, hb, e0, e1⟩ := (HV.out.keep HI.out.2 (Off.nil _)).pair i hlt
      simp at he
      obtain ⟨rfl, rfl⟩ := he
      have hml := madeL_len (l.take i)
      rw [List.length_take] at hml
      have HP := rPut_any _ (madeL (l.take i)) l[i] false wr (HI.out.1.rd encP_len) (madeL_ris _) (by have := HL.out; omega)
      rw [if_neg (by decide), ← madeL_snoc, List.take_append_getElem hlt] at HP
      have HPP : Hid (type_of% HP) := HP
      generalize l[i] = x at *
      clear HP hml
      go_wp2_with fail
      refine HPP.out.mono ?_
      clear HPP
      rintro e w2 ⟨v2, rfl, r2, k2⟩
      have HF : Hid (Rw 29 encP 2 w2 v2 (madeL (l.take (i + 1))) ∧ Keep [] w w2) := ⟨r2, HI.out.2.trans' k2⟩
      clear r2 k2
      go_wp2_with fail
      go_roundw
      case rel => exact ⟨i + 1, by simp, by omega, HF.out⟩
      case measure => simp [intOf]; omega
    · obtain rfl : i = l.length := by omega
      have hnl : ¬ (l.length : Int) < (l.length : Int) := by omega
      rw [List.take_length] at HI
      go_wp2
      go_ret
      exact ⟨_, rfl, HI.out.1, HI.out.2⟩


theorem walk_next {w : World} {x : Pr} {k : Int} {q : Bool} {bx bk bq bw ba bf A1 A2 F1 F2 : Nat} {vw : Value} {want : List Pr} {N : Nat} {bn M : Nat} {W : World} {W0 : World} {pre : List Pr} {y : Pr} {p : Nat} (h : Wn w x k q bx bk bq bw ba bf A1 A2 F1 F2 vw want N bn M p W) (hk : Keep [] W0 W) (z : Int) (hz : z = ((p + 1 : Nat) : Int)) (hp : (pre ++ [y]).length = p + 1) :
    KeepsFrom M W0 (W.setCell ⟨bn, 0, none⟩ (.int .i64 z)) ∧ KT W0 (W.setCell ⟨bn, 0, none⟩ (.int .i64 z)) ∧ Wn w x k q bx bk bq bw ba bf A1 A2 F1 F2 vw want N bn M (pre ++ [y]).length (W.setCell ⟨bn, 0, none⟩ (.int .i64 z)) := by
  subst hz
  rw [hp]
  obtain ⟨h1, h2, h3⟩ := h.setN (p + 1)
  exact ⟨Keep.from (R := [bn]) ((hk.mono (by simp)).trans' h2) (by intro r hr; simp at hr; have := h.hb; omega), hk.kt0.trans h3, h1⟩

theorem walk_next2 {w : World} {x : Pr} {k : Int} {q : Bool} {bx bk bq bw ba bf A1 A2 F1 F2 : Nat} {vw : Value} {want : List Pr} {N : Nat} {bn M : Nat} {W : World} {W0 : World} {pre : List Pr} {y : Pr} {p D : Nat} (h : Wn w x k q bx bk bq bw ba bf A1 A2 F1 F2 vw want N bn M p W) (hk : Keep [] W0 W) (z : Int) (hz : z = ((p + 1 : Nat) : Int)) (hp : (pre ++ [y]).length = p + 1) (hD : W.heap[D]? = some (.deferred (some []))) :
    KeepsFrom M W0 (W.setCell ⟨bn, 0, none⟩ (.int .i64 z)) ∧ KT W0 (W.setCell ⟨bn, 0, none⟩ (.int .i64 z)) ∧ Wn w x k q bx bk bq bw ba bf A1 A2 F1 F2 vw want N bn M (pre ++ [y]).length (W.setCell ⟨bn, 0, none⟩ (.int .i64 z)) ∧ (W.setCell ⟨bn, 0, none⟩ (.int .i64 z)).heap[D]? = some (.deferred (some [])) := by
  obtain ⟨h1, h2, h3⟩ := walk_next h hk z hz hp
  exact ⟨h1, h2, h3, ((Keep.set1 W ⟨bn, 0, none⟩ _).block _ (Array.getElem?_eq_some_iff.1 hD).1 (by simp; intro e; rw [e, h.n] at hD; cases hD)).trans hD⟩

set_option maxRecDepth 100000 in
set_option maxHeartbeats 16000000 in
theorem walks_law (v0 : Value) (l : List Pr) (x : Pr) (k : Int) (w : World) (h0 : Rd encP 2 w v0 l) (hl : l.length ≤ 8796093021952) (hk : -9223372036854775808 ≤ k ∧ k ≤ 9223372036854775807) :
    Calls Try.prog 4 #[v0, vP x, .int .i64 k] w fun e w' => e = .returned (.bool true) ∧ Keep [] w w' := by
  obtain ⟨ao, cap, rfl, hc1, hc2⟩ := h0.form
  have HV : Hid (Rd encP 2 w (.slice ao l.length cap) l) := h0
  have HLl : Hid (l.length ≤ 8796093021952) := hl
  have hlz : (l.length : Int) ≤ 8796093021952 := by omega
  have hl0 : (0 : Int) ≤ (l.length : Int) := by omega
  have HRi : Hid (∀ w9, Keep [] w w9 → Calls Try.prog 24 #[.slice ao l.length cap] w9 fun e w' => ∃ a c, e = .returned (.slice a (madeL l).length c) ∧ Rw 29 encP 2 w' (.slice a (madeL l).length c) (madeL l) ∧ Keep [] w9 w') := fun w9 kk => (rRising_all _ l w9 (h0.keep kk (Off.nil _)) hl).mono (by
    rintro e w' ⟨v', he, hr, hk⟩
    obtain ⟨a5, c5, rfl, _, _⟩ := (hr.rd encP_len).form
    exact ⟨a5, c5, he, hr, hk⟩)
  have HMa : Hid (∀ w9, Keep [] w w9 → Calls Try.prog 25 #[.slice ao l.length cap] w9 fun e w' => ∃ b, e = .returned (vA b) ∧ Sh w' b 10 (madeL l) ∧ Keep [] w9 w' ∧ w9.heap.size ≤ b) := fun w9 kk => made_any _ l w9 (h0.keep kk (Off.nil _)) (by omega)
  have HRis : Hid (Ris (madeL l)) := madeL_ris l
  have HWl : Hid ((madeL l).length ≤ l.length) := madeL_len l
  obtain ⟨want, HWt⟩ : ∃ want : List Pr, Hid (want = madeL l) := ⟨_, show _ = _ from rfl⟩
  rw [← HWt.out] at HRi HMa HWl HRis
  clear h0 hl HWt
  refine (callsIn_wide (n := 6)).1 ?_
  refine callsIn_of_wp_marks Try.func4 rfl trivial ?_ rfl
  simp only [Try.ntmps4, List.size_toArray, List.length_cons, List.length_nil, Nat.reduceAdd, Nat.reduceSub, Array.replicate_succ, Array.replicate_zero, List.push_toArray, List.append_toArray, List.nil_append, List.cons_append]
  refine wpIn_wide.2 ?_
  go_wp2_with fail
  have K1 : Keep [] w (((w.alloc (.cells #[.int .i64 x.k, .int .i64 x.m] 29)).alloc (.cells #[.int .i64 k] 3)).alloc (.cells #[.bool false] 4)) := ((Keep.alloc1 _ _).alloc _).alloc _
  have b1 : (((w.alloc (.cells #[.int .i64 x.k, .int .i64 x.m] 29)).alloc (.cells #[.int .i64 k] 3)).alloc (.cells #[.bool false] 4)).heap[w.heap.size]? = some (.cells #[.int .i64 x.k, .int .i64 x.m] 29 (0, 0)) := (Below.heap_alloc _ _ _ (by simp only [World.size_alloc]; omega)).trans ((Below.heap_alloc _ _ _ (by simp)).trans (heap_alloc_new _ _))
  have b2 : (((w.alloc (.cells #[.int .i64 x.k, .int .i64 x.m] 29)).alloc (.cells #[.int .i64 k] 3)).alloc (.cells #[.bool false] 4)).heap[w.heap.size + 1]? = some (.cells #[.int .i64 k] 3 (0, 0)) := (Below.heap_alloc _ _ _ (by simp)).trans (by have := heap_alloc_new (w.alloc (.cells #[.int .i64 x.k, .int .i64 x.m] 29)) (.cells #[.int .i64 k] 3); rwa [World.size_alloc] at this)
  have b3 : (((w.alloc (.cells #[.int .i64 x.k, .int .i64 x.m] 29)).alloc (.cells #[.int .i64 k] 3)).alloc (.cells #[.bool false] 4)).heap[w.heap.size + 1 + 1]? = some (.cells #[.bool false] 4 (0, 0)) := by have := heap_alloc_new ((w.alloc (.cells #[.int .i64 x.k, .int .i64 x.m] 29)).alloc (.cells #[.int .i64 k] 3)) (.cells #[.bool false] 4); rwa [World.size_alloc, World.size_alloc] at this
  obtain ⟨bx, HBx⟩ : ∃ bx : Nat, Hid (bx = w.heap.size) := ⟨_, show _ = _ from rfl⟩
  obtain ⟨bk, HBk⟩ : ∃ bk : Nat, Hid (bk = w.heap.size + 1) := ⟨_, show _ = _ from rfl⟩
  obtain ⟨bq, HBq⟩ : ∃ bq : Nat, Hid (bq = w.heap.size + 1 + 1) := ⟨_, show _ = _ from rfl⟩
  rw [← HBx.out] at b1
  rw [← HBk.out] at b2
  rw [← HBq.out] at b3
  try simp only [Nat.add_assoc, Nat.reduceAdd] at HBq ⊢
  rw [← HBq.out, ← HBk.out, ← HBx.out]
  have HG : Hid (w.heap.size ≤ bq) := by show _ ≤ _; have := HBq.out; omega
  clear HBx HBk HBq
  generalize ((w.alloc (.cells #[.int .i64 x.k, .int .i64 x.m] 29)).alloc (.cells #[.int .i64 k] 3)).alloc (.cells #[.bool false] 4) = w1 at *
  refine (HRi.out _ K1).mono ?_
  clear HRi
  rintro e w2 ⟨aw, cw, rfl, r2, k2⟩
  go_wp2_with fail
  have K3 : Keep [] w1 (w2.alloc (.cells #[.slice aw want.length cw] 25)) := k2.alloc _
  have b4 : (w2.alloc (.cells #[.slice aw want.length cw] 25)).heap[w2.heap.size]? = some (.cells #[.slice aw want.length cw] 25 (0, 0)) := heap_alloc_new _ _
  have r3 := r2.keep (Keep.alloc1 w2 (.cells #[.slice aw want.length cw] 25)) (Off.nil _)
  generalize w2.alloc (.cells #[.slice aw want.length cw] 25) = w3 at *
  generalize w2.heap.size = bw at *
  clear r2 k2
  refine (HMa.out _ (K1.trans' K3)).mono ?_
  clear HMa
  rintro e W0 ⟨b, rfl, s4, k4, g4⟩
  have KK := K3.trans' k4
  have m1 : W0.heap[bx]? = some (.cells #[.int .i64 x.k, .int .i64 x.m] 29 (0, 0)) := (KK.block _ (Array.getElem?_eq_some_iff.1 b1).1 (by simp)).trans b1
  have m2 : W0.heap[bk]? = some (.cells #[.int .i64 k] 3 (0, 0)) := (KK.block _ (Array.getElem?_eq_some_iff.1 b2).1 (by simp)).trans b2
  have m3 : W0.heap[bq]? = some (.cells #[.bool false] 4 (0, 0)) := (KK.block _ (Array.getElem?_eq_some_iff.1 b3).1 (by simp)).trans b3
  have m4 : W0.heap[bw]? = some (.cells #[.slice aw want.length cw] 25 (0, 0)) := (k4.block _ (Array.getElem?_eq_some_iff.1 b4).1 (by simp)).trans b4
  have HM : Hid ((W0.heap[bx]? = some (.cells #[.int .i64 x.k, .int .i64 x.m] 29 (0, 0)) ∧ W0.heap[bk]? = some (.cells #[.int .i64 k] 3 (0, 0)) ∧ W0.heap[bq]? = some (.cells #[.bool false] 4 (0, 0)) ∧ W0.heap[bw]? = some (.cells #[.slice aw want.length cw] 25 (0, 0))) ∧ Rw 29 encP 2 W0 (.slice aw want.length cw) want ∧ Keep [] w W0) := ⟨⟨m1, m2, m3, m4⟩, r3.keep k4 (Off.nil _), K1.trans' KK⟩
  have HS0 : Hid (Sh W0 b 10 want ∧ w.heap.size ≤ b) := ⟨s4, by have := K1.size; have := K3.size; omega⟩
  obtain ⟨⟨x0, x1⟩, _, _⟩ := two_facts m1
  have HXlt : Hid (bx < W0.heap.size) := (Array.getElem?_eq_some_iff.1 m1).1
  clear b1 b2 b3 b4 m1 m2 m3 m4 r3 s4 g4 k4 KK K3 K1
  have HAl : Hid (∀ w9, Keep [] W0 w9 → Calls Try.prog 22 #[vA b] w9 fun e w' => ∃ B1 B2, e = .returned (vSq B1 B2) ∧ Sq w' B1 B2 want ∧ Keep [] w9 w') := fun w9 kk => (shAll_any b 10 want w9 (HS0.out.1.keep0 kk) (by have := HWl.out; have := HLl.out; omega)).mono (by rintro e w' ⟨_, he, B1, B2, rfl, q, j, _, _⟩; exact ⟨B1, B2, he, q, j⟩)
  have HFo : Hid (∀ w9, Keep [] W0 w9 → Calls Try.prog 26 #[vA b, vP x] w9 fun e w' => ∃ B1 B2, e = .returned (vSq B1 B2) ∧ Sq w' B1 B2 (want.drop (rnk want x.k)) ∧ Keep [] w9 w') := fun w9 kk => (shFrom_any b 10 want x w9 (HS0.out.1.keep0 kk) (by have := HWl.out; have := HLl.out; omega)).mono (by rintro e w' ⟨_, he, B1, B2, rfl, q, j, _, _⟩; exact ⟨B1, B2, he, q, j⟩)
  obtain ⟨fr, HFr⟩ : ∃ fr : List Pr, Hid (fr = want.drop (rnk want x.k)) := ⟨_, show _ = _ from rfl⟩
  rw [← HFr.out] at HFo
  go_upto_region 5 with (fail)
  go_cut [9, 10] from 15 (fun s9 s10 wq => ∃ c5 c6 A1 A2 F1 F2, s9 = .pointer (some ⟨c5, 0, none⟩) ∧ s10 = .pointer (some ⟨c6, 0, none⟩) ∧ Keep [] W0 wq ∧ wq.heap[c5]? = some (.cells #[vSq A1 A2] 44 (0, 0)) ∧ wq.heap[c6]? = some (.cells #[vSq F1 F2] 44 (0, 0)) ∧ Sq wq A1 A2 want ∧ Sq wq F1 F2 fr)
  case first =>
    refine wp_region_heldP (S := (fun w' : World => w'.cell? ⟨bx, 0, none⟩ = some (.int .i64 x.k) ∧ w'.cell? ⟨bx, 1, none⟩ = some (.int .i64 x.m))) (by kernel_rfl) (⟨x0, x1⟩) (fun hHeld => ?_)
    try dsimp only at hHeld
    refine wpAnyH_take (i := 0) (oi := { dst := some 21, op := Go.Op.move (Go.Operand.tmp 8), type := 23, pos := "law.go:125", after := #[], guard := none }) (v := ?_) rfl (by kernel_rfl) (by kernel_rfl) (by kernel_rfl) (fun _ _ _ => plain_panic) (Or.inl ⟨by rfl, ?_⟩) (by assumption) ?_
    rotate_left
    · intro w7 hSw
      try dsimp only at hSw
      first | (go_simp; done) | (go_simp; with_reducible rfl)
    try simp only [Act.put, List.setIfInBounds_toArray, List.set_cons_zero, List.set_cons_succ]
    refine wpAnyH_take (i := 2) (oi := { dst := some 23, op := Go.Op.move (Go.Operand.tmp 8), type := 23, pos := "law.go:125", after := #[], guard := none }) (v := ?_) rfl (by kernel_rfl) (by kernel_rfl) (by kernel_rfl) (fun _ _ _ => plain_panic) (Or.inl ⟨by rfl, ?_⟩) (by assumption) ?_
    rotate_left
    · intro w7 hSw
      try dsimp only at hSw
      first | (go_simp; done) | (go_simp; with_reducible rfl)
    try simp only [Act.put, List.setIfInBounds_toArray, List.set_cons_zero, List.set_cons_succ]
    refine wpAnyH_take (i := 3) (oi := { dst := some 24, op := Go.Op.load 29 (Go.Operand.tmp 4), type := 29, pos := "law.go:125", after := #[], guard := none }) (v := ?_) rfl (by kernel_rfl) (by kernel_rfl) (by kernel_rfl) (fun _ _ _ => plain_panic) (Or.inl ⟨by rfl, ?_⟩) (by assumption) ?_
    rotate_left
    · intro w7 hSw
      try dsimp only at hSw
      first | (go_simp; done) | (go_simp; with_reducible rfl)
    try simp only [Act.put, List.setIfInBounds_toArray, List.set_cons_zero, List.set_cons_succ]
    have HR : Hid (R5 W0 want fr none none none none W0.drew) := ⟨(Keep.refl [] _).drew, fun _ e => (by cases e), fun _ e => (by cases e), fun _ _ e => (by cases e), fun _ e => (by cases e), fun _ e => (by cases e)⟩
    generalize W0.drew = Vz at *
    refine wpAnyH_ready (rs := [1, 5, 6]) (by kernel_rfl) (by simp) ?_
    refine AllReadyH.cons (o := { dst := some 22, op := Go.Op.call { callee := Go.Callee.value (Go.Operand.func 22), args := #[Go.Operand.tmp 21], argTypes := #[23] }, type := 44, pos := "law.go:125", after := #[{ on := 0, ground := Go.Ground.data }], guard := none }) rfl (fun K hK => ?_) (AllReadyH.cons (o := { dst := some 9, op := Go.Op.alloc 44, type := 0, pos := "law.go:125", after := #[], guard := none }) rfl (fun K hK => ?_) (AllReadyH.cons (o := { dst := some 10, op := Go.Op.alloc 44, type := 0, pos := "law.go:125", after := #[], guard := none }) rfl (fun K hK => ?_) AllReadyH.nil))
    · go_simp
      refine (HAl.out _ HR.out.kp).mono ?_
      rintro e V1 ⟨A1, A2, rfl, q1, k1⟩
      have HR' : Hid (R5 W0 want fr _ _ _ _ V1) := HR.out.c1 k1 q1
      go_wp2_with fail
      refine hK.out _ _ ⟨k1.cell' hHeld.1 (by simp), k1.cell' hHeld.2 (by simp)⟩ (fun hHeld2 => ?_)
      try dsimp only at hHeld2
      clear hK hHeld HR k1 q1
      have hHeld := hHeld2
      clear hHeld2
      have HR := HR'
      clear HR'
      try simp only [Act.put, List.setIfInBounds_toArray, List.set_cons_zero, List.set_cons_succ]
      refine wpAnyH_ready (rs := [4, 5, 6]) (by kernel_rfl) (by simp) ?_
      refine AllReadyH.cons (o := { dst := some 25, op := Go.Op.call { callee := Go.Callee.value (Go.Operand.func 26), args := #[Go.Operand.tmp 23, Go.Operand.tmp 24], argTypes := #[23, 29] }, type := 44, pos := "law.go:125", after := #[{ on := 2, ground := Go.Ground.data }, { on := 3, ground := Go.Ground.data }, { on := 1, ground := Go.Ground.chain }], guard := none }) rfl (fun K hK => ?_) (AllReadyH.cons (o := { dst := some 9, op := Go.Op.alloc 44, type := 0, pos := "law.go:125", after := #[], guard := none }) rfl (fun K hK => ?_) (AllReadyH.cons (o := { dst := some 10, op := Go.Op.alloc 44, type := 0, pos := "law.go:125", after := #[], guard := none }) rfl (fun K hK => ?_) AllReadyH.nil))
      · go_simp
        refine (HFo.out _ HR.out.kp).mono ?_
        rintro e V2 ⟨F1, F2, rfl, q2, k2⟩
        have HR' : Hid (R5 W0 want fr _ _ _ _ V2) := HR.out.c2 k2 q2
        go_wp2_with fail
        refine hK.out _ _ ⟨k2.cell' hHeld.1 (by simp), k2.cell' hHeld.2 (by simp)⟩ (fun hHeld2 => ?_)
        try dsimp only at hHeld2
        clear hK hHeld HR k2 q2
        have hHeld := hHeld2
        clear hHeld2
        have HR := HR'
        clear HR'
        try simp only [Act.put, List.setIfInBounds_toArray, List.set_cons_zero, List.set_cons_succ]
        refine wpAnyH_ready (rs := [5, 6]) (by kernel_rfl) (by simp) ?_
        refine AllReadyH.cons (o := { dst := some 9, op := Go.Op.alloc 44, type := 0, pos := "law.go:125", after := #[], guard := none }) rfl (fun K hK => ?_) (AllReadyH.cons (o := { dst := some 10, op := Go.Op.alloc 44, type := 0, pos := "law.go:125", after := #[], guard := none }) rfl (fun K hK => ?_) AllReadyH.nil)
        · go_simp
          have HR' := HR.out.a5
          have HR'' : Hid (type_of% HR') := HR'
          refine hK.out _ _ ⟨(Keep.alloc1 _ _).cell' hHeld.1 (by simp), (Keep.alloc1 _ _).cell' hHeld.2 (by simp)⟩ (fun hHeld2 => ?_)
          try dsimp only at hHeld2
          clear hK hHeld HR HR'
          have hHeld := hHeld2
          clear hHeld2
          have HR := HR''
          clear HR''
          generalize V2.alloc (.cells #[.nilFunc] 44) = V3 at *
          generalize V2.heap.size = c5 at *
          try simp only [Act.put, List.setIfInBounds_toArray, List.set_cons_zero, List.set_cons_succ]
          refine wpAnyH_ready (rs := [6]) (by kernel_rfl) (by simp) ?_
          refine AllReadyH.cons (o := { dst := some 10, op := Go.Op.alloc 44, type := 0, pos := "law.go:125", after := #[], guard := none }) rfl (fun K hK => ?_) AllReadyH.nil
          · go_simp
            have HR' := HR.out.a6
            have HR'' : Hid (type_of% HR') := HR'
            refine hK.out _ _ ⟨(Keep.alloc1 _ _).cell' hHeld.1 (by simp), (Keep.alloc1 _ _).cell' hHeld.2 (by simp)⟩ (fun hHeld2 => ?_)
            try dsimp only at hHeld2
            clear hK hHeld HR HR'
            have hHeld := hHeld2
            clear hHeld2
            have HR := HR''
            clear HR''
            generalize V3.alloc (.cells #[.nilFunc] 44) = V4 at *
            generalize V3.heap.size = c6 at *
            try simp only [Act.put, List.setIfInBounds_toArray, List.set_cons_zero, List.set_cons_succ]
            refine wpAnyH_ready (rs := [7]) (by kernel_rfl) (by simp) ?_
            refine AllReadyH.cons (o := { dst := none, op := Go.Op.store 44 (Go.Operand.tmp 9) (Go.Operand.tmp 22), type := 0, pos := "law.go:125", after := #[{ on := 5, ground := Go.Ground.data }, { on := 1, ground := Go.Ground.data }, { on := 4, ground := Go.Ground.chain }, { on := 0, ground := Go.Ground.phase }, { on := 1, ground := Go.Ground.phase }, { on := 2, ground := Go.Ground.textOnly Go.Departure.lateStores }, { on := 3, ground := Go.Ground.textOnly Go.Departure.lateStores }, { on := 4, ground := Go.Ground.textOnly Go.Departure.lateStoresUnsure }, { on := 5, ground := Go.Ground.phase }, { on := 6, ground := Go.Ground.phase }], guard := none }) rfl (fun K hK => ?_) AllReadyH.nil
            · obtain ⟨m5, n5⟩ := HR.out.b5 _ rfl
              obtain ⟨m6, n6⟩ := HR.out.b6 _ rfl
              have hne := HR.out.ne _ _ rfl rfl
              have f5 := one_free m5
              have f6 := one_free m6
              have d5 := one_cell m5
              have d6 := one_cell m6
              have m7 : (V4.setCell ⟨c5, 0, none⟩ (vSq A1 A2)).heap[c6]? = some (.cells #[.nilFunc] 44 (0, 0)) := ((Keep.set1 V4 ⟨c5, 0, none⟩ (vSq A1 A2)).block _ (Array.getElem?_eq_some_iff.1 m6).1 (by simpa using fun e => hne e.symm)).trans m6
              have f7 := one_free m7
              have d7 := one_cell m7
              have HF := HR.out.fin
              have HF' : Hid (type_of% HF) := HF
              have hx5 : ¬ bx = c5 := by have := HXlt.out; omega
              have hx6 : ¬ bx = c6 := by have := HXlt.out; omega
              clear HF m5 m6 m7 n5 n6 hne
              go_simp
              refine hK.out _ _ ⟨(Keep.set1 V4 ⟨c5, 0, none⟩ (vSq A1 A2)).cell' hHeld.1 (by simpa using hx5), (Keep.set1 V4 ⟨c5, 0, none⟩ (vSq A1 A2)).cell' hHeld.2 (by simpa using hx5)⟩ (fun hHeld2 => ?_)
              try dsimp only at hHeld2
              clear hK hHeld HR
              have hHeld := hHeld2
              clear hHeld2
              try simp only [Act.put, List.setIfInBounds_toArray, List.set_cons_zero, List.set_cons_succ]
              refine wpAnyH_ready (rs := [8]) (by kernel_rfl) (by simp) ?_
              refine AllReadyH.cons (o := { dst := none, op := Go.Op.store 44 (Go.Operand.tmp 10) (Go.Operand.tmp 25), type := 0, pos := "law.go:125", after := #[{ on := 6, ground := Go.Ground.data }, { on := 4, ground := Go.Ground.data }, { on := 7, ground := Go.Ground.chain }, { on := 0, ground := Go.Ground.phase }, { on := 1, ground := Go.Ground.phase }, { on := 2, ground := Go.Ground.phase }, { on := 3, ground := Go.Ground.phase }, { on := 4, ground := Go.Ground.phase }, { on := 5, ground := Go.Ground.phase }, { on := 6, ground := Go.Ground.phase }, { on := 7, ground := Go.Ground.phase }], guard := none }) rfl (fun K hK => ?_) AllReadyH.nil
              go_simp
              refine hK.out _ _ ⟨(Keep.set1 _ ⟨c6, 0, none⟩ (vSq F1 F2)).cell' hHeld.1 (by simpa using hx6), (Keep.set1 _ ⟨c6, 0, none⟩ (vSq F1 F2)).cell' hHeld.2 (by simpa using hx6)⟩ (fun _ => ?_)
              clear hK hHeld f5 f6 f7 d5 d6 d7
              try simp only [Act.put, List.setIfInBounds_toArray, List.set_cons_zero, List.set_cons_succ]
              refine wpAnyH_done (by kernel_rfl) ⟨rfl, ?_⟩ _
              go_wp2_with fail
              go_meet
              case rel => exact ⟨c5, c6, A1, A2, F1, F2, rfl, rfl, HF'.out⟩
        · go_simp
          have HR' := HR.out.a6
          have HR'' : Hid (type_of% HR') := HR'
          refine hK.out _ _ ⟨(Keep.alloc1 _ _).cell' hHeld.1 (by simp), (Keep.alloc1 _ _).cell' hHeld.2 (by simp)⟩ (fun hHeld2 => ?_)
          try dsimp only at hHeld2
          clear hK hHeld HR HR'
          have hHeld := hHeld2
          clear hHeld2
          have HR := HR''
          clear HR''
          generalize V2.alloc (.cells #[.nilFunc] 44) = V6 at *
          generalize V2.heap.size = c6 at *
          try simp only [Act.put, List.setIfInBounds_toArray, List.set_cons_zero, List.set_cons_succ]
          refine wpAnyH_ready (rs := [5]) (by kernel_rfl) (by simp) ?_
          refine AllReadyH.cons (o := { dst := some 9, op := Go.Op.alloc 44, type := 0, pos := "law.go:125", after := #[], guard := none }) rfl (fun K hK => ?_) AllReadyH.nil
          · go_simp
            have HR' := HR.out.a5
            have HR'' : Hid (type_of% HR') := HR'
            refine hK.out _ _ ⟨(Keep.alloc1 _ _).cell' hHeld.1 (by simp), (Keep.alloc1 _ _).cell' hHeld.2 (by simp)⟩ (fun hHeld2 => ?_)
            try dsimp only at hHeld2
            clear hK hHeld HR HR'
            have hHeld := hHeld2
            clear hHeld2
            have HR := HR''
            clear HR''
            generalize V6.alloc (.cells #[.nilFunc] 44) = V7 at *
            generalize V6.heap.size = c5 at *
            try simp only [Act.put, List.setIfInBounds_toArray, List.set_cons_zero, List.set_cons_succ]
            refine wpAnyH_ready (rs := [7]) (by kernel_rfl) (by simp) ?_
            refine AllReadyH.cons (o := { dst := none, op := Go.Op.store 44 (Go.Operand.tmp 9) (Go.Operand.tmp 22), type := 0, pos := "law.go:125", after := #[{ on := 5, ground := Go.Ground.data }, { on := 1, ground := Go.Ground.data }, { on := 4, ground := Go.Ground.chain }, { on := 0, ground := Go.Ground.phase }, { on := 1, ground := Go.Ground.phase }, { on := 2, ground := Go.Ground.textOnly Go.Departure.lateStores }, { on := 3, ground := Go.Ground.textOnly Go.Departure.lateStores }, { on := 4, ground := Go.Ground.textOnly Go.Departure.lateStoresUnsure }, { on := 5, ground := Go.Ground.phase }, { on := 6, ground := Go.Ground.phase }], guard := none }) rfl (fun K hK => ?_) AllReadyH.nil
            · obtain ⟨m5, n5⟩ := HR.out.b5 _ rfl
              obtain ⟨m6, n6⟩ := HR.out.b6 _ rfl
              have hne := HR.out.ne _ _ rfl rfl
              have f5 := one_free m5
              have f6 := one_free m6
              have d5 := one_cell m5
              have d6 := one_cell m6
              have m7 : (V7.setCell ⟨c5, 0, none⟩ (vSq A1 A2)).heap[c6]? = some (.cells #[.nilFunc] 44 (0, 0)) := ((Keep.set1 V7 ⟨c5, 0, none⟩ (vSq A1 A2)).block _ (Array.getElem?_eq_some_iff.1 m6).1 (by simpa using fun e => hne e.symm)).trans m6
              have f7 := one_free m7
              have d7 := one_cell m7
              have HF := HR.out.fin
              have HF' : Hid (type_of% HF) := HF
              have hx5 : ¬ bx = c5 := by have := HXlt.out; omega
              have hx6 : ¬ bx = c6 := by have := HXlt.out; omega
              clear HF m5 m6 m7 n5 n6 hne
              go_simp
              refine hK.out _ _ ⟨(Keep.set1 V7 ⟨c5, 0, none⟩ (vSq A1 A2)).cell' hHeld.1 (by simpa using hx5), (Keep.set1 V7 ⟨c5, 0, none⟩ (vSq A1 A2)).cell' hHeld.2 (by simpa using hx5)⟩ (fun hHeld2 => ?_)
              try dsimp only at hHeld2
              clear hK hHeld HR
              have hHeld := hHeld2
              clear hHeld2
              try simp only [Act.put, List.setIfInBounds_toArray, List.set_cons_zero, List.set_cons_succ]
              refine wpAnyH_ready (rs := [8]) (by kernel_rfl) (by simp) ?_
              refine AllReadyH.cons (o := { dst := none, op := Go.Op.store 44 (Go.Operand.tmp 10) (Go.Operand.tmp 25), type := 0, pos := "law.go:125", after := #[{ on := 6, ground := Go.Ground.data }, { on := 4, ground := Go.Ground.data }, { on := 7, ground := Go.Ground.chain }, { on := 0, ground := Go.Ground.phase }, { on := 1, ground := Go.Ground.phase }, { on := 2, ground := Go.Ground.phase }, { on := 3, ground := Go.Ground.phase }, { on := 4, ground := Go.Ground.phase }, { on := 5, ground := Go.Ground.phase }, { on := 6, ground := Go.Ground.phase }, { on := 7, ground := Go.Ground.phase }], guard := none }) rfl (fun K hK => ?_) AllReadyH.nil
              go_simp
              refine hK.out _ _ ⟨(Keep.set1 _ ⟨c6, 0, none⟩ (vSq F1 F2)).cell' hHeld.1 (by simpa using hx6), (Keep.set1 _ ⟨c6, 0, none⟩ (vSq F1 F2)).cell' hHeld.2 (by simpa using hx6)⟩ (fun _ => ?_)
              clear hK hHeld f5 f6 f7 d5 d6 d7
              try simp only [Act.put, List.setIfInBounds_toArray, List.set_cons_zero, List.set_cons_succ]
              refine wpAnyH_done (by kernel_rfl) ⟨rfl, ?_⟩ _
              go_wp2_with fail
              go_meet
              case rel => exact ⟨c5, c6, A1, A2, F1, F2, rfl, rfl, HF'.out⟩
      · go_simp
        have HR' := HR.out.a5
        have HR'' : Hid (type_of% HR') := HR'
        refine hK.out _ _ ⟨(Keep.alloc1 _ _).cell' hHeld.1 (by simp), (Keep.alloc1 _ _).cell' hHeld.2 (by simp)⟩ (fun hHeld2 => ?_)
        try dsimp only at hHeld2
        clear hK hHeld HR HR'
        have hHeld := hHeld2
        clear hHeld2
        have HR := HR''
        clear HR''
        generalize V1.alloc (.cells #[.nilFunc] 44) = V9 at *
        generalize V1.heap.size = c5 at *
        try simp only [Act.put, List.setIfInBounds_toArray, List.set_cons_zero, List.set_cons_succ]
        refine wpAnyH_ready (rs := [4, 6]) (by kernel_rfl) (by simp) ?_
        refine AllReadyH.cons (o := { dst := some 25, op := Go.Op.call { callee := Go.Callee.value (Go.Operand.func 26), args := #[Go.Operand.tmp 23, Go.Operand.tmp 24], argTypes := #[23, 29] }, type := 44, pos := "law.go:125", after := #[{ on := 2, ground := Go.Ground.data }, { on := 3, ground := Go.Ground.data }, { on := 1, ground := Go.Ground.chain }], guard := none }) rfl (fun K hK => ?_) (AllReadyH.cons (o := { dst := some 10, op := Go.Op.alloc 44, type := 0, pos := "law.go:125", after := #[], guard := none }) rfl (fun K hK => ?_) AllReadyH.nil)
        · go_simp
          refine (HFo.out _ HR.out.kp).mono ?_
          rintro e V10 ⟨F1, F2, rfl, q10, k10⟩
          have HR' : Hid (R5 W0 want fr _ _ _ _ V10) := HR.out.c2 k10 q10
          go_wp2_with fail
          refine hK.out _ _ ⟨k10.cell' hHeld.1 (by simp), k10.cell' hHeld.2 (by simp)⟩ (fun hHeld2 => ?_)
          try dsimp only at hHeld2
          clear hK hHeld HR k10 q10
          have hHeld := hHeld2
          clear hHeld2
          have HR := HR'
          clear HR'
          try simp only [Act.put, List.setIfInBounds_toArray, List.set_cons_zero, List.set_cons_succ]
          refine wpAnyH_ready (rs := [6]) (by kernel_rfl) (by simp) ?_
          refine AllReadyH.cons (o := { dst := some 10, op := Go.Op.alloc 44, type := 0, pos := "law.go:125", after := #[], guard := none }) rfl (fun K hK => ?_) AllReadyH.nil
          · go_simp
            have HR' := HR.out.a6
            have HR'' : Hid (type_of% HR') := HR'
            refine hK.out _ _ ⟨(Keep.alloc1 _ _).cell' hHeld.1 (by simp), (Keep.alloc1 _ _).cell' hHeld.2 (by simp)⟩ (fun hHeld2 => ?_)
            try dsimp only at hHeld2
            clear hK hHeld HR HR'
            have hHeld := hHeld2
            clear hHeld2
            have HR := HR''
            clear HR''
            generalize V10.alloc (.cells #[.nilFunc] 44) = V11 at *
            generalize V10.heap.size = c6 at *
            try simp only [Act.put, List.setIfInBounds_toArray, List.set_cons_zero, List.set_cons_succ]
            refine wpAnyH_ready (rs := [7]) (by kernel_rfl) (by simp) ?_
            refine AllReadyH.cons (o := { dst := none, op := Go.Op.store 44 (Go.Operand.tmp 9) (Go.Operand.tmp 22), type := 0, pos := "law.go:125", after := #[{ on := 5, ground := Go.Ground.data }, { on := 1, ground := Go.Ground.data }, { on := 4, ground := Go.Ground.chain }, { on := 0, ground := Go.Ground.phase }, { on := 1, ground := Go.Ground.phase }, { on := 2, ground := Go.Ground.textOnly Go.Departure.lateStores }, { on := 3, ground := Go.Ground.textOnly Go.Departure.lateStores }, { on := 4, ground := Go.Ground.textOnly Go.Departure.lateStoresUnsure }, { on := 5, ground := Go.Ground.phase }, { on := 6, ground := Go.Ground.phase }], guard := none }) rfl (fun K hK => ?_) AllReadyH.nil
            · obtain ⟨m5, n5⟩ := HR.out.b5 _ rfl
              obtain ⟨m6, n6⟩ := HR.out.b6 _ rfl
              have hne := HR.out.ne _ _ rfl rfl
              have f5 := one_free m5
              have f6 := one_free m6
              have d5 := one_cell m5
              have d6 := one_cell m6
              have m7 : (V11.setCell ⟨c5, 0, none⟩ (vSq A1 A2)).heap[c6]? = some (.cells #[.nilFunc] 44 (0, 0)) := ((Keep.set1 V11 ⟨c5, 0, none⟩ (vSq A1 A2)).block _ (Array.getElem?_eq_some_iff.1 m6).1 (by simpa using fun e => hne e.symm)).trans m6
              have f7 := one_free m7
              have d7 := one_cell m7
              have HF := HR.out.fin
              have HF' : Hid (type_of% HF) := HF
              have hx5 : ¬ bx = c5 := by have := HXlt.out; omega
              have hx6 : ¬ bx = c6 := by have := HXlt.out; omega
              clear HF m5 m6 m7 n5 n6 hne
              go_simp
              refine hK.out _ _ ⟨(Keep.set1 V11 ⟨c5, 0, none⟩ (vSq A1 A2)).cell' hHeld.1 (by simpa using hx5), (Keep.set1 V11 ⟨c5, 0, none⟩ (vSq A1 A2)).cell' hHeld.2 (by simpa using hx5)⟩ (fun hHeld2 => ?_)
              try dsimp only at hHeld2
              clear hK hHeld HR
              have hHeld := hHeld2
              clear hHeld2
              try simp only [Act.put, List.setIfInBounds_toArray, List.set_cons_zero, List.set_cons_succ]
              refine wpAnyH_ready (rs := [8]) (by kernel_rfl) (by simp) ?_
              refine AllReadyH.cons (o := { dst := none, op := Go.Op.store 44 (Go.Operand.tmp 10) (Go.Operand.tmp 25), type := 0, pos := "law.go:125", after := #[{ on := 6, ground := Go.Ground.data }, { on := 4, ground := Go.Ground.data }, { on := 7, ground := Go.Ground.chain }, { on := 0, ground := Go.Ground.phase }, { on := 1, ground := Go.Ground.phase }, { on := 2, ground := Go.Ground.phase }, { on := 3, ground := Go.Ground.phase }, { on := 4, ground := Go.Ground.phase }, { on := 5, ground := Go.Ground.phase }, { on := 6, ground := Go.Ground.phase }, { on := 7, ground := Go.Ground.phase }], guard := none }) rfl (fun K hK => ?_) AllReadyH.nil
              go_simp
              refine hK.out _ _ ⟨(Keep.set1 _ ⟨c6, 0, none⟩ (vSq F1 F2)).cell' hHeld.1 (by simpa using hx6), (Keep.set1 _ ⟨c6, 0, none⟩ (vSq F1 F2)).cell' hHeld.2 (by simpa using hx6)⟩ (fun _ => ?_)
              clear hK hHeld f5 f6 f7 d5 d6 d7
              try simp only [Act.put, List.setIfInBounds_toArray, List.set_cons_zero, List.set_cons_succ]
              refine wpAnyH_done (by kernel_rfl) ⟨rfl, ?_⟩ _
              go_wp2_with fail
              go_meet
              case rel => exact ⟨c5, c6, A1, A2, F1, F2, rfl, rfl, HF'.out⟩
        · go_simp
          have HR' := HR.out.a6
          have HR'' : Hid (type_of% HR') := HR'
          refine hK.out _ _ ⟨(Keep.alloc1 _ _).cell' hHeld.1 (by simp), (Keep.alloc1 _ _).cell' hHeld.2 (by simp)⟩ (fun hHeld2 => ?_)
          try dsimp only at hHeld2
          clear hK hHeld HR HR'
          have hHeld := hHeld2
          clear hHeld2
          have HR := HR''
          clear HR''
          generalize V9.alloc (.cells #[.nilFunc] 44) = V13 at *
          generalize V9.heap.size = c6 at *
          try simp only [Act.put, List.setIfInBounds_toArray, List.set_cons_zero, List.set_cons_succ]
          refine wpAnyH_ready (rs := [4]) (by kernel_rfl) (by simp) ?_
          refine AllReadyH.cons (o := { dst := some 25, op := Go.Op.call { callee := Go.Callee.value (Go.Operand.func 26), args := #[Go.Operand.tmp 23, Go.Operand.tmp 24], argTypes := #[23, 29] }, type := 44, pos := "law.go:125", after := #[{ on := 2, ground := Go.Ground.data }, { on := 3, ground := Go.Ground.data }, { on := 1, ground := Go.Ground.chain }], guard := none }) rfl (fun K hK => ?_) AllReadyH.nil
          · go_simp
            refine (HFo.out _ HR.out.kp).mono ?_
            rintro e V14 ⟨F1, F2, rfl, q14, k14⟩
            have HR' : Hid (R5 W0 want fr _ _ _ _ V14) := HR.out.c2 k14 q14
            go_wp2_with fail
            refine hK.out _ _ ⟨k14.cell' hHeld.1 (by simp), k14.cell' hHeld.2 (by simp)⟩ (fun hHeld2 => ?_)
            try dsimp only at hHeld2
            clear hK hHeld HR k14 q14
            have hHeld := hHeld2
            clear hHeld2
            have HR := HR'
            clear HR'
            try simp only [Act.put, List.setIfInBounds_toArray, List.set_cons_zero, List.set_cons_succ]
            refine wpAnyH_ready (rs := [7]) (by kernel_rfl) (by simp) ?_
            refine AllReadyH.cons (o := { dst := none, op := Go.Op.store 44 (Go.Operand.tmp 9) (Go.Operand.tmp 22), type := 0, pos := "law.go:125", after := #[{ on := 5, ground := Go.Ground.data }, { on := 1, ground := Go.Ground.data }, { on := 4, ground := Go.Ground.chain }, { on := 0, ground := Go.Ground.phase }, { on := 1, ground := Go.Ground.phase }, { on := 2, ground := Go.Ground.textOnly Go.Departure.lateStores }, { on := 3, ground := Go.Ground.textOnly Go.Departure.lateStores }, { on := 4, ground := Go.Ground.textOnly Go.Departure.lateStoresUnsure }, { on := 5, ground := Go.Ground.phase }, { on := 6, ground := Go.Ground.phase }], guard := none }) rfl (fun K hK => ?_) AllReadyH.nil
            · obtain ⟨m5, n5⟩ := HR.out.b5 _ rfl
              obtain ⟨m6, n6⟩ := HR.out.b6 _ rfl
              have hne := HR.out.ne _ _ rfl rfl
              have f5 := one_free m5
              have f6 := one_free m6
              have d5 := one_cell m5
              have d6 := one_cell m6
              have m7 : (V14.setCell ⟨c5, 0, none⟩ (vSq A1 A2)).heap[c6]? = some (.cells #[.nilFunc] 44 (0, 0)) := ((Keep.set1 V14 ⟨c5, 0, none⟩ (vSq A1 A2)).block _ (Array.getElem?_eq_some_iff.1 m6).1 (by simpa using fun e => hne e.symm)).trans m6
              have f7 := one_free m7
              have d7 := one_cell m7
              have HF := HR.out.fin
              have HF' : Hid (type_of% HF) := HF
              have hx5 : ¬ bx = c5 := by have := HXlt.out; omega
              have hx6 : ¬ bx = c6 := by have := HXlt.out; omega
              clear HF m5 m6 m7 n5 n6 hne
              go_simp
              refine hK.out _ _ ⟨(Keep.set1 V14 ⟨c5, 0, none⟩ (vSq A1 A2)).cell' hHeld.1 (by simpa using hx5), (Keep.set1 V14 ⟨c5, 0, none⟩ (vSq A1 A2)).cell' hHeld.2 (by simpa using hx5)⟩ (fun hHeld2 => ?_)
              try dsimp only at hHeld2
              clear hK hHeld HR
              have hHeld := hHeld2
              clear hHeld2
              try simp only [Act.put, List.setIfInBounds_toArray, List.set_cons_zero, List.set_cons_succ]
              refine wpAnyH_ready (rs := [8]) (by kernel_rfl) (by simp) ?_
              refine AllReadyH.cons (o := { dst := none, op := Go.Op.store 44 (Go.Operand.tmp 10) (Go.Operand.tmp 25), type := 0, pos := "law.go:125", after := #[{ on := 6, ground := Go.Ground.data }, { on := 4, ground := Go.Ground.data }, { on := 7, ground := Go.Ground.chain }, { on := 0, ground := Go.Ground.phase }, { on := 1, ground := Go.Ground.phase }, { on := 2, ground := Go.Ground.phase }, { on := 3, ground := Go.Ground.phase }, { on := 4, ground := Go.Ground.phase }, { on := 5, ground := Go.Ground.phase }, { on := 6, ground := Go.Ground.phase }, { on := 7, ground := Go.Ground.phase }], guard := none }) rfl (fun K hK => ?_) AllReadyH.nil
              go_simp
              refine hK.out _ _ ⟨(Keep.set1 _ ⟨c6, 0, none⟩ (vSq F1 F2)).cell' hHeld.1 (by simpa using hx6), (Keep.set1 _ ⟨c6, 0, none⟩ (vSq F1 F2)).cell' hHeld.2 (by simpa using hx6)⟩ (fun _ => ?_)
              clear hK hHeld f5 f6 f7 d5 d6 d7
              try simp only [Act.put, List.setIfInBounds_toArray, List.set_cons_zero, List.set_cons_succ]
              refine wpAnyH_done (by kernel_rfl) ⟨rfl, ?_⟩ _
              go_wp2_with fail
              go_meet
              case rel => exact ⟨c5, c6, A1, A2, F1, F2, rfl, rfl, HF'.out⟩
      · go_simp
        have HR' := HR.out.a6
        have HR'' : Hid (type_of% HR') := HR'
        refine hK.out _ _ ⟨(Keep.alloc1 _ _).cell' hHeld.1 (by simp), (Keep.alloc1 _ _).cell' hHeld.2 (by simp)⟩ (fun hHeld2 => ?_)
        try dsimp only at hHeld2
        clear hK hHeld HR HR'
        have hHeld := hHeld2
        clear hHeld2
        have HR := HR''
        clear HR''
        generalize V1.alloc (.cells #[.nilFunc] 44) = V16 at *
        generalize V1.heap.size = c6 at *
        try simp only [Act.put, List.setIfInBounds_toArray, List.set_cons_zero, List.set_cons_succ]
        refine wpAnyH_ready (rs := [4, 5]) (by kernel_rfl) (by simp) ?_
        refine AllReadyH.cons (o := { dst := some 25, op := Go.Op.call { callee := Go.Callee.value (Go.Operand.func 26), args := #[Go.Operand.tmp 23, Go.Operand.tmp 24], argTypes := #[23, 29] }, type := 44, pos := "law.go:125", after := #[{ on := 2, ground := Go.Ground.data }, { on := 3, ground := Go.Ground.data }, { on := 1, ground := Go.Ground.chain }], guard := none }) rfl (fun K hK => ?_) (AllReadyH.cons (o := { dst := some 9, op := Go.Op.alloc 44, type := 0, pos := "law.go:125", after := #[], guard := none }) rfl (fun K hK => ?_) AllReadyH.nil)
        · go_simp
          refine (HFo.out _ HR.out.kp).mono ?_
          rintro e V17 ⟨F1, F2, rfl, q17, k17⟩
          have HR' : Hid (R5 W0 want fr _ _ _ _ V17) := HR.out.c2 k17 q17
          go_wp2_with fail
          refine hK.out _ _ ⟨k17.cell' hHeld.1 (by simp), k17.cell' hHeld.2 (by simp)⟩ (fun hHeld2 => ?_)
          try dsimp only at hHeld2
          clear hK hHeld HR k17 q17
          have hHeld := hHeld2
          clear hHeld2
          have HR := HR'
          clear HR'
          try simp only [Act.put, List.setIfInBounds_toArray, List.set_cons_zero, List.set_cons_succ]
          refine wpAnyH_ready (rs := [5]) (by kernel_rfl) (by simp) ?_
          refine AllReadyH.cons (o := { dst := some 9, op := Go.Op.alloc 44, type := 0, pos := "law.go:125", after := #[], guard := none }) rfl (fun K hK => ?_) AllReadyH.nil
          · go_simp
            have HR' := HR.out.a5
            have HR'' : Hid (type_of% HR') := HR'
            refine hK.out _ _ ⟨(Keep.alloc1 _ _).cell' hHeld.1 (by simp), (Keep.alloc1 _ _).cell' hHeld.2 (by simp)⟩ (fun hHeld2 => ?_)
            try dsimp only at hHeld2
            clear hK hHeld HR HR'
            have hHeld := hHeld2
            clear hHeld2
            have HR := HR''
            clear HR''
            generalize V17.alloc (.cells #[.nilFunc] 44) = V18 at *
            generalize V17.heap.size = c5 at *
            try simp only [Act.put, List.setIfInBounds_toArray, List.set_cons_zero, List.set_cons_succ]
            refine wpAnyH_ready (rs := [7]) (by kernel_rfl) (by simp) ?_
            refine AllReadyH.cons (o := { dst := none, op := Go.Op.store 44 (Go.Operand.tmp 9) (Go.Operand.tmp 22), type := 0, pos := "law.go:125", after := #[{ on := 5, ground := Go.Ground.data }, { on := 1, ground := Go.Ground.data }, { on := 4, ground := Go.Ground.chain }, { on := 0, ground := Go.Ground.phase }, { on := 1, ground := Go.Ground.phase }, { on := 2, ground := Go.Ground.textOnly Go.Departure.lateStores }, { on := 3, ground := Go.Ground.textOnly Go.Departure.lateStores }, { on := 4, ground := Go.Ground.textOnly Go.Departure.lateStoresUnsure }, { on := 5, ground := Go.Ground.phase }, { on := 6, ground := Go.Ground.phase }], guard := none }) rfl (fun K hK => ?_) AllReadyH.nil
            · obtain ⟨m5, n5⟩ := HR.out.b5 _ rfl
              obtain ⟨m6, n6⟩ := HR.out.b6 _ rfl
              have hne := HR.out.ne _ _ rfl rfl
              have f5 := one_free m5
              have f6 := one_free m6
              have d5 := one_cell m5
              have d6 := one_cell m6
              have m7 : (V18.setCell ⟨c5, 0, none⟩ (vSq A1 A2)).heap[c6]? = some (.cells #[.nilFunc] 44 (0, 0)) := ((Keep.set1 V18 ⟨c5, 0, none⟩ (vSq A1 A2)).block _ (Array.getElem?_eq_some_iff.1 m6).1 (by simpa using fun e => hne e.symm)).trans m6
              have f7 := one_free m7
              have d7 := one_cell m7
              have HF := HR.out.fin
              have HF' : Hid (type_of% HF) := HF
              have hx5 : ¬ bx = c5 := by have := HXlt.out; omega
              have hx6 : ¬ bx = c6 := by have := HXlt.out; omega
              clear HF m5 m6 m7 n5 n6 hne
              go_simp
              refine hK.out _ _ ⟨(Keep.set1 V18 ⟨c5, 0, none⟩ (vSq A1 A2)).cell' hHeld.1 (by simpa using hx5), (Keep.set1 V18 ⟨c5, 0, none⟩ (vSq A1 A2)).cell' hHeld.2 (by simpa using hx5)⟩ (fun hHeld2 => ?_)
              try dsimp only at hHeld2
              clear hK hHeld HR
              have hHeld := hHeld2
              clear hHeld2
              try simp only [Act.put, List.setIfInBounds_toArray, List.set_cons_zero, List.set_cons_succ]
              refine wpAnyH_ready (rs := [8]) (by kernel_rfl) (by simp) ?_
              refine AllReadyH.cons (o := { dst := none, op := Go.Op.store 44 (Go.Operand.tmp 10) (Go.Operand.tmp 25), type := 0, pos := "law.go:125", after := #[{ on := 6, ground := Go.Ground.data }, { on := 4, ground := Go.Ground.data }, { on := 7, ground := Go.Ground.chain }, { on := 0, ground := Go.Ground.phase }, { on := 1, ground := Go.Ground.phase }, { on := 2, ground := Go.Ground.phase }, { on := 3, ground := Go.Ground.phase }, { on := 4, ground := Go.Ground.phase }, { on := 5, ground := Go.Ground.phase }, { on := 6, ground := Go.Ground.phase }, { on := 7, ground := Go.Ground.phase }], guard := none }) rfl (fun K hK => ?_) AllReadyH.nil
              go_simp
              refine hK.out _ _ ⟨(Keep.set1 _ ⟨c6, 0, none⟩ (vSq F1 F2)).cell' hHeld.1 (by simpa using hx6), (Keep.set1 _ ⟨c6, 0, none⟩ (vSq F1 F2)).cell' hHeld.2 (by simpa using hx6)⟩ (fun _ => ?_)
              clear hK hHeld f5 f6 f7 d5 d6 d7
              try simp only [Act.put, List.setIfInBounds_toArray, List.set_cons_zero, List.set_cons_succ]
              refine wpAnyH_done (by kernel_rfl) ⟨rfl, ?_⟩ _
              go_wp2_with fail
              go_meet
              case rel => exact ⟨c5, c6, A1, A2, F1, F2, rfl, rfl, HF'.out⟩
        · go_simp
          have HR' := HR.out.a5
          have HR'' : Hid (type_of% HR') := HR'
          refine hK.out _ _ ⟨(Keep.alloc1 _ _).cell' hHeld.1 (by simp), (Keep.alloc1 _ _).cell' hHeld.2 (by simp)⟩ (fun hHeld2 => ?_)
          try dsimp only at hHeld2
          clear hK hHeld HR HR'
          have hHeld := hHeld2
          clear hHeld2
          have HR := HR''
          clear HR''
          generalize V16.alloc (.cells #[.nilFunc] 44) = V20 at *
          generalize V16.heap.size = c5 at *
          try simp only [Act.put, List.setIfInBounds_toArray, List.set_cons_zero, List.set_cons_succ]
          refine wpAnyH_ready (rs := [4]) (by kernel_rfl) (by simp) ?_
          refine AllReadyH.cons (o := { dst := some 25, op := Go.Op.call { callee := Go.Callee.value (Go.Operand.func 26), args := #[Go.Operand.tmp 23, Go.Operand.tmp 24], argTypes := #[23, 29] }, type := 44, pos := "law.go:125", after := #[{ on := 2, ground := Go.Ground.data }, { on := 3, ground := Go.Ground.data }, { on := 1, ground := Go.Ground.chain }], guard := none }) rfl (fun K hK => ?_) AllReadyH.nil
          · go_simp
            refine (HFo.out _ HR.out.kp).mono ?_
            rintro e V21 ⟨F1, F2, rfl, q21, k21⟩
            have HR' : Hid (R5 W0 want fr _ _ _ _ V21) := HR.out.c2 k21 q21
            go_wp2_with fail
            refine hK.out _ _ ⟨k21.cell' hHeld.1 (by simp), k21.cell' hHeld.2 (by simp)⟩ (fun hHeld2 => ?_)
            try dsimp only at hHeld2
            clear hK hHeld HR k21 q21
            have hHeld := hHeld2
            clear hHeld2
            have HR := HR'
            clear HR'
            try simp only [Act.put, List.setIfInBounds_toArray, List.set_cons_zero, List.set_cons_succ]
            refine wpAnyH_ready (rs := [7]) (by kernel_rfl) (by simp) ?_
            refine AllReadyH.cons (o := { dst := none, op := Go.Op.store 44 (Go.Operand.tmp 9) (Go.Operand.tmp 22), type := 0, pos := "law.go:125", after := #[{ on := 5, ground := Go.Ground.data }, { on := 1, ground := Go.Ground.data }, { on := 4, ground := Go.Ground.chain }, { on := 0, ground := Go.Ground.phase }, { on := 1, ground := Go.Ground.phase }, { on := 2, ground := Go.Ground.textOnly Go.Departure.lateStores }, { on := 3, ground := Go.Ground.textOnly Go.Departure.lateStores }, { on := 4, ground := Go.Ground.textOnly Go.Departure.lateStoresUnsure }, { on := 5, ground := Go.Ground.phase }, { on := 6, ground := Go.Ground.phase }], guard := none }) rfl (fun K hK => ?_) AllReadyH.nil
            · obtain ⟨m5, n5⟩ := HR.out.b5 _ rfl
              obtain ⟨m6, n6⟩ := HR.out.b6 _ rfl
              have hne := HR.out.ne _ _ rfl rfl
              have f5 := one_free m5
              have f6 := one_free m6
              have d5 := one_cell m5
              have d6 := one_cell m6
              have m7 : (V21.setCell ⟨c5, 0, none⟩ (vSq A1 A2)).heap[c6]? = some (.cells #[.nilFunc] 44 (0, 0)) := ((Keep.set1 V21 ⟨c5, 0, none⟩ (vSq A1 A2)).block _ (Array.getElem?_eq_some_iff.1 m6).1 (by simpa using fun e => hne e.symm)).trans m6
              have f7 := one_free m7
              have d7 := one_cell m7
              have HF := HR.out.fin
              have HF' : Hid (type_of% HF) := HF
              have hx5 : ¬ bx = c5 := by have := HXlt.out; omega
              have hx6 : ¬ bx = c6 := by have := HXlt.out; omega
              clear HF m5 m6 m7 n5 n6 hne
              go_simp
              refine hK.out _ _ ⟨(Keep.set1 V21 ⟨c5, 0, none⟩ (vSq A1 A2)).cell' hHeld.1 (by simpa using hx5), (Keep.set1 V21 ⟨c5, 0, none⟩ (vSq A1 A2)).cell' hHeld.2 (by simpa using hx5)⟩ (fun hHeld2 => ?_)
              try dsimp only at hHeld2
              clear hK hHeld HR
              have hHeld := hHeld2
              clear hHeld2
              try simp only [Act.put, List.setIfInBounds_toArray, List.set_cons_zero, List.set_cons_succ]
              refine wpAnyH_ready (rs := [8]) (by kernel_rfl) (by simp) ?_
              refine AllReadyH.cons (o := { dst := none, op := Go.Op.store 44 (Go.Operand.tmp 10) (Go.Operand.tmp 25), type := 0, pos := "law.go:125", after := #[{ on := 6, ground := Go.Ground.data }, { on := 4, ground := Go.Ground.data }, { on := 7, ground := Go.Ground.chain }, { on := 0, ground := Go.Ground.phase }, { on := 1, ground := Go.Ground.phase }, { on := 2, ground := Go.Ground.phase }, { on := 3, ground := Go.Ground.phase }, { on := 4, ground := Go.Ground.phase }, { on := 5, ground := Go.Ground.phase }, { on := 6, ground := Go.Ground.phase }, { on := 7, ground := Go.Ground.phase }], guard := none }) rfl (fun K hK => ?_) AllReadyH.nil
              go_simp
              refine hK.out _ _ ⟨(Keep.set1 _ ⟨c6, 0, none⟩ (vSq F1 F2)).cell' hHeld.1 (by simpa using hx6), (Keep.set1 _ ⟨c6, 0, none⟩ (vSq F1 F2)).cell' hHeld.2 (by simpa using hx6)⟩ (fun _ => ?_)
              clear hK hHeld f5 f6 f7 d5 d6 d7
              try simp only [Act.put, List.setIfInBounds_toArray, List.set_cons_zero, List.set_cons_succ]
              refine wpAnyH_done (by kernel_rfl) ⟨rfl, ?_⟩ _
              go_wp2_with fail
              go_meet
              case rel => exact ⟨c5, c6, A1, A2, F1, F2, rfl, rfl, HF'.out⟩
    · go_simp
      have HR' := HR.out.a5
      have HR'' : Hid (type_of% HR') := HR'
      refine hK.out _ _ ⟨(Keep.alloc1 _ _).cell' hHeld.1 (by simp), (Keep.alloc1 _ _).cell' hHeld.2 (by simp)⟩ (fun hHeld2 => ?_)
      try dsimp only at hHeld2
      clear hK hHeld HR HR'
      have hHeld := hHeld2
      clear hHeld2
      have HR := HR''
      clear HR''
      generalize Vz.alloc (.cells #[.nilFunc] 44) = V23 at *
      generalize Vz.heap.size = c5 at *
      try simp only [Act.put, List.setIfInBounds_toArray, List.set_cons_zero, List.set_cons_succ]
      refine wpAnyH_ready (rs := [1, 6]) (by kernel_rfl) (by simp) ?_
      refine AllReadyH.cons (o := { dst := some 22, op := Go.Op.call { callee := Go.Callee.value (Go.Operand.func 22), args := #[Go.Operand.tmp 21], argTypes := #[23] }, type := 44, pos := "law.go:125", after := #[{ on := 0, ground := Go.Ground.data }], guard := none }) rfl (fun K hK => ?_) (AllReadyH.cons (o := { dst := some 10, op := Go.Op.alloc 44, type := 0, pos := "law.go:125", after := #[], guard := none }) rfl (fun K hK => ?_) AllReadyH.nil)
      · go_simp
        refine (HAl.out _ HR.out.kp).mono ?_
        rintro e V24 ⟨A1, A2, rfl, q24, k24⟩
        have HR' : Hid (R5 W0 want fr _ _ _ _ V24) := HR.out.c1 k24 q24
        go_wp2_with fail
        refine hK.out _ _ ⟨k24.cell' hHeld.1 (by simp), k24.cell' hHeld.2 (by simp)⟩ (fun hHeld2 => ?_)
        try dsimp only at hHeld2
        clear hK hHeld HR k24 q24
        have hHeld := hHeld2
        clear hHeld2
        have HR := HR'
        clear HR'
        try simp only [Act.put, List.setIfInBounds_toArray, List.set_cons_zero, List.set_cons_succ]
        refine wpAnyH_ready (rs := [4, 6]) (by kernel_rfl) (by simp) ?_
        refine AllReadyH.cons (o := { dst := some 25, op := Go.Op.call { callee := Go.Callee.value (Go.Operand.func 26), args := #[Go.Operand.tmp 23, Go.Operand.tmp 24], argTypes := #[23, 29] }, type := 44, pos := "law.go:125", after := #[{ on := 2, ground := Go.Ground.data }, { on := 3, ground := Go.Ground.data }, { on := 1, ground := Go.Ground.chain }], guard := none }) rfl (fun K hK => ?_) (AllReadyH.cons (o := { dst := some 10, op := Go.Op.alloc 44, type := 0, pos := "law.go:125", after := #[], guard := none }) rfl (fun K hK => ?_) AllReadyH.nil)
        · go_simp
          refine (HFo.out _ HR.out.kp).mono ?_
          rintro e V25 ⟨F1, F2, rfl, q25, k25⟩
          have HR' : Hid (R5 W0 want fr _ _ _ _ V25) := HR.out.c2 k25 q25
          go_wp2_with fail
          refine hK.out _ _ ⟨k25.cell' hHeld.1 (by simp), k25.cell' hHeld.2 (by simp)⟩ (fun hHeld2 => ?_)
          try dsimp only at hHeld2
          clear hK hHeld HR k25 q25
          have hHeld := hHeld2
          clear hHeld2
          have HR := HR'
          clear HR'
          try simp only [Act.put, List.setIfInBounds_toArray, List.set_cons_zero, List.set_cons_succ]
          refine wpAnyH_ready (rs := [6]) (by kernel_rfl) (by simp) ?_
          refine AllReadyH.cons (o := { dst := some 10, op := Go.Op.alloc 44, type := 0, pos := "law.go:125", after := #[], guard := none }) rfl (fun K hK => ?_) AllReadyH.nil
          · go_simp
            have HR' := HR.out.a6
            have HR'' : Hid (type_of% HR') := HR'
            refine hK.out _ _ ⟨(Keep.alloc1 _ _).cell' hHeld.1 (by simp), (Keep.alloc1 _ _).cell' hHeld.2 (by simp)⟩ (fun hHeld2 => ?_)
            try dsimp only at hHeld2
            clear hK hHeld HR HR'
            have hHeld := hHeld2
            clear hHeld2
            have HR := HR''
            clear HR''
            generalize V25.alloc (.cells #[.nilFunc] 44) = V26 at *
            generalize V25.heap.size = c6 at *
            try simp only [Act.put, List.setIfInBounds_toArray, List.set_cons_zero, List.set_cons_succ]
            refine wpAnyH_ready (rs := [7]) (by kernel_rfl) (by simp) ?_
            refine AllReadyH.cons (o := { dst := none, op := Go.Op.store 44 (Go.Operand.tmp 9) (Go.Operand.tmp 22), type := 0, pos := "law.go:125", after := #[{ on := 5, ground := Go.Ground.data }, { on := 1, ground := Go.Ground.data }, { on := 4, ground := Go.Ground.chain }, { on := 0, ground := Go.Ground.phase }, { on := 1, ground := Go.Ground.phase }, { on := 2, ground := Go.Ground.textOnly Go.Departure.lateStores }, { on := 3, ground := Go.Ground.textOnly Go.Departure.lateStores }, { on := 4, ground := Go.Ground.textOnly Go.Departure.lateStoresUnsure }, { on := 5, ground := Go.Ground.phase }, { on := 6, ground := Go.Ground.phase }], guard := none }) rfl (fun K hK => ?_) AllReadyH.nil
            · obtain ⟨m5, n5⟩ := HR.out.b5 _ rfl
              obtain ⟨m6, n6⟩ := HR.out.b6 _ rfl
              have hne := HR.out.ne _ _ rfl rfl
              have f5 := one_free m5
              have f6 := one_free m6
              have d5 := one_cell m5
              have d6 := one_cell m6
              have m7 : (V26.setCell ⟨c5, 0, none⟩ (vSq A1 A2)).heap[c6]? = some (.cells #[.nilFunc] 44 (0, 0)) := ((Keep.set1 V26 ⟨c5, 0, none⟩ (vSq A1 A2)).block _ (Array.getElem?_eq_some_iff.1 m6).1 (by simpa using fun e => hne e.symm)).trans m6
              have f7 := one_free m7
              have d7 := one_cell m7
              have HF := HR.out.fin
              have HF' : Hid (type_of% HF) := HF
              have hx5 : ¬ bx = c5 := by have := HXlt.out; omega
              have hx6 : ¬ bx = c6 := by have := HXlt.out; omega
              clear HF m5 m6 m7 n5 n6 hne
              go_simp
              refine hK.out _ _ ⟨(Keep.set1 V26 ⟨c5, 0, none⟩ (vSq A1 A2)).cell' hHeld.1 (by simpa using hx5), (Keep.set1 V26 ⟨c5, 0, none⟩ (vSq A1 A2)).cell' hHeld.2 (by simpa using hx5)⟩ (fun hHeld2 => ?_)
              try dsimp only at hHeld2
              clear hK hHeld HR
              have hHeld := hHeld2
              clear hHeld2
              try simp only [Act.put, List.setIfInBounds_toArray, List.set_cons_zero, List.set_cons_succ]
              refine wpAnyH_ready (rs := [8]) (by kernel_rfl) (by simp) ?_
              refine AllReadyH.cons (o := { dst := none, op := Go.Op.store 44 (Go.Operand.tmp 10) (Go.Operand.tmp 25), type := 0, pos := "law.go:125", after := #[{ on := 6, ground := Go.Ground.data }, { on := 4, ground := Go.Ground.data }, { on := 7, ground := Go.Ground.chain }, { on := 0, ground := Go.Ground.phase }, { on := 1, ground := Go.Ground.phase }, { on := 2, ground := Go.Ground.phase }, { on := 3, ground := Go.Ground.phase }, { on := 4, ground := Go.Ground.phase }, { on := 5, ground := Go.Ground.phase }, { on := 6, ground := Go.Ground.phase }, { on := 7, ground := Go.Ground.phase }], guard := none }) rfl (fun K hK => ?_) AllReadyH.nil
              go_simp
              refine hK.out _ _ ⟨(Keep.set1 _ ⟨c6, 0, none⟩ (vSq F1 F2)).cell' hHeld.1 (by simpa using hx6), (Keep.set1 _ ⟨c6, 0, none⟩ (vSq F1 F2)).cell' hHeld.2 (by simpa using hx6)⟩ (fun _ => ?_)
              clear hK hHeld f5 f6 f7 d5 d6 d7
              try simp only [Act.put, List.setIfInBounds_toArray, List.set_cons_zero, List.set_cons_succ]
              refine wpAnyH_done (by kernel_rfl) ⟨rfl, ?_⟩ _
              go_wp2_with fail
              go_meet
              case rel => exact ⟨c5, c6, A1, A2, F1, F2, rfl, rfl, HF'.out⟩
        · go_simp
          have HR' := HR.out.a6
          have HR'' : Hid (type_of% HR') := HR'
          refine hK.out _ _ ⟨(Keep.alloc1 _ _).cell' hHeld.1 (by simp), (Keep.alloc1 _ _).cell' hHeld.2 (by simp)⟩ (fun hHeld2 => ?_)
          try dsimp only at hHeld2
          clear hK hHeld HR HR'
          have hHeld := hHeld2
          clear hHeld2
          have HR := HR''
          clear HR''
          generalize V24.alloc (.cells #[.nilFunc] 44) = V28 at *
          generalize V24.heap.size = c6 at *
          try simp only [Act.put, List.setIfInBounds_toArray, List.set_cons_zero, List.set_cons_succ]
          refine wpAnyH_ready (rs := [4]) (by kernel_rfl) (by simp) ?_
          refine AllReadyH.cons (o := { dst := some 25, op := Go.Op.call { callee := Go.Callee.value (Go.Operand.func 26), args := #[Go.Operand.tmp 23, Go.Operand.tmp 24], argTypes := #[23, 29] }, type := 44, pos := "law.go:125", after := #[{ on := 2, ground := Go.Ground.data }, { on := 3, ground := Go.Ground.data }, { on := 1, ground := Go.Ground.chain }], guard := none }) rfl (fun K hK => ?_) AllReadyH.nil
          · go_simp
            refine (HFo.out _ HR.out.kp).mono ?_
            rintro e V29 ⟨F1, F2, rfl, q29, k29⟩
            have HR' : Hid (R5 W0 want fr _ _ _ _ V29) := HR.out.c2 k29 q29
            go_wp2_with fail
            refine hK.out _ _ ⟨k29.cell' hHeld.1 (by simp), k29.cell' hHeld.2 (by simp)⟩ (fun hHeld2 => ?_)
            try dsimp only at hHeld2
            clear hK hHeld HR k29 q29
            have hHeld := hHeld2
            clear hHeld2
            have HR := HR'
            clear HR'
            try simp only [Act.put, List.setIfInBounds_toArray, List.set_cons_zero, List.set_cons_succ]
            refine wpAnyH_ready (rs := [7]) (by kernel_rfl) (by simp) ?_
            refine AllReadyH.cons (o := { dst := none, op := Go.Op.store 44 (Go.Operand.tmp 9) (Go.Operand.tmp 22), type := 0, pos := "law.go:125", after := #[{ on := 5, ground := Go.Ground.data }, { on := 1, ground := Go.Ground.data }, { on := 4, ground := Go.Ground.chain }, { on := 0, ground := Go.Ground.phase }, { on := 1, ground := Go.Ground.phase }, { on := 2, ground := Go.Ground.textOnly Go.Departure.lateStores }, { on := 3, ground := Go.Ground.textOnly Go.Departure.lateStores }, { on := 4, ground := Go.Ground.textOnly Go.Departure.lateStoresUnsure }, { on := 5, ground := Go.Ground.phase }, { on := 6, ground := Go.Ground.phase }], guard := none }) rfl (fun K hK => ?_) AllReadyH.nil
            · obtain ⟨m5, n5⟩ := HR.out.b5 _ rfl
              obtain ⟨m6, n6⟩ := HR.out.b6 _ rfl
              have hne := HR.out.ne _ _ rfl rfl
              have f5 := one_free m5
              have f6 := one_free m6
              have d5 := one_cell m5
              have d6 := one_cell m6
              have m7 : (V29.setCell ⟨c5, 0, none⟩ (vSq A1 A2)).heap[c6]? = some (.cells #[.nilFunc] 44 (0, 0)) := ((Keep.set1 V29 ⟨c5, 0, none⟩ (vSq A1 A2)).block _ (Array.getElem?_eq_some_iff.1 m6).1 (by simpa using fun e => hne e.symm)).trans m6
              have f7 := one_free m7
              have d7 := one_cell m7
              have HF := HR.out.fin
              have HF' : Hid (type_of% HF) := HF
              have hx5 : ¬ bx = c5 := by have := HXlt.out; omega
              have hx6 : ¬ bx = c6 := by have := HXlt.out; omega
              clear HF m5 m6 m7 n5 n6 hne
              go_simp
              refine hK.out _ _ ⟨(Keep.set1 V29 ⟨c5, 0, none⟩ (vSq A1 A2)).cell' hHeld.1 (by simpa using hx5), (Keep.set1 V29 ⟨c5, 0, none⟩ (vSq A1 A2)).cell' hHeld.2 (by simpa using hx5)⟩ (fun hHeld2 => ?_)
              try dsimp only at hHeld2
              clear hK hHeld HR
              have hHeld := hHeld2
              clear hHeld2
              try simp only [Act.put, List.setIfInBounds_toArray, List.set_cons_zero, List.set_cons_succ]
              refine wpAnyH_ready (rs := [8]) (by kernel_rfl) (by simp) ?_
              refine AllReadyH.cons (o := { dst := none, op := Go.Op.store 44 (Go.Operand.tmp 10) (Go.Operand.tmp 25), type := 0, pos := "law.go:125", after := #[{ on := 6, ground := Go.Ground.data }, { on := 4, ground := Go.Ground.data }, { on := 7, ground := Go.Ground.chain }, { on := 0, ground := Go.Ground.phase }, { on := 1, ground := Go.Ground.phase }, { on := 2, ground := Go.Ground.phase }, { on := 3, ground := Go.Ground.phase }, { on := 4, ground := Go.Ground.phase }, { on := 5, ground := Go.Ground.phase }, { on := 6, ground := Go.Ground.phase }, { on := 7, ground := Go.Ground.phase }], guard := none }) rfl (fun K hK => ?_) AllReadyH.nil
              go_simp
              refine hK.out _ _ ⟨(Keep.set1 _ ⟨c6, 0, none⟩ (vSq F1 F2)).cell' hHeld.1 (by simpa using hx6), (Keep.set1 _ ⟨c6, 0, none⟩ (vSq F1 F2)).cell' hHeld.2 (by simpa using hx6)⟩ (fun _ => ?_)
              clear hK hHeld f5 f6 f7 d5 d6 d7
              try simp only [Act.put, List.setIfInBounds_toArray, List.set_cons_zero, List.set_cons_succ]
              refine wpAnyH_done (by kernel_rfl) ⟨rfl, ?_⟩ _
              go_wp2_with fail
              go_meet
              case rel => exact ⟨c5, c6, A1, A2, F1, F2, rfl, rfl, HF'.out⟩
      · go_simp
        have HR' := HR.out.a6
        have HR'' : Hid (type_of% HR') := HR'
        refine hK.out _ _ ⟨(Keep.alloc1 _ _).cell' hHeld.1 (by simp), (Keep.alloc1 _ _).cell' hHeld.2 (by simp)⟩ (fun hHeld2 => ?_)
        try dsimp only at hHeld2
        clear hK hHeld HR HR'
        have hHeld := hHeld2
        clear hHeld2
        have HR := HR''
        clear HR''
        generalize V23.alloc (.cells #[.nilFunc] 44) = V31 at *
        generalize V23.heap.size = c6 at *
        try simp only [Act.put, List.setIfInBounds_toArray, List.set_cons_zero, List.set_cons_succ]
        refine wpAnyH_ready (rs := [1]) (by kernel_rfl) (by simp) ?_
        refine AllReadyH.cons (o := { dst := some 22, op := Go.Op.call { callee := Go.Callee.value (Go.Operand.func 22), args := #[Go.Operand.tmp 21], argTypes := #[23] }, type := 44, pos := "law.go:125", after := #[{ on := 0, ground := Go.Ground.data }], guard := none }) rfl (fun K hK => ?_) AllReadyH.nil
        · go_simp
          refine (HAl.out _ HR.out.kp).mono ?_
          rintro e V32 ⟨A1, A2, rfl, q32, k32⟩
          have HR' : Hid (R5 W0 want fr _ _ _ _ V32) := HR.out.c1 k32 q32
          go_wp2_with fail
          refine hK.out _ _ ⟨k32.cell' hHeld.1 (by simp), k32.cell' hHeld.2 (by simp)⟩ (fun hHeld2 => ?_)
          try dsimp only at hHeld2
          clear hK hHeld HR k32 q32
          have hHeld := hHeld2
          clear hHeld2
          have HR := HR'
          clear HR'
          try simp only [Act.put, List.setIfInBounds_toArray, List.set_cons_zero, List.set_cons_succ]
          refine wpAnyH_ready (rs := [4]) (by kernel_rfl) (by simp) ?_
          refine AllReadyH.cons (o := { dst := some 25, op := Go.Op.call { callee := Go.Callee.value (Go.Operand.func 26), args := #[Go.Operand.tmp 23, Go.Operand.tmp 24], argTypes := #[23, 29] }, type := 44, pos := "law.go:125", after := #[{ on := 2, ground := Go.Ground.data }, { on := 3, ground := Go.Ground.data }, { on := 1, ground := Go.Ground.chain }], guard := none }) rfl (fun K hK => ?_) AllReadyH.nil
          · go_simp
            refine (HFo.out _ HR.out.kp).mono ?_
            rintro e V33 ⟨F1, F2, rfl, q33, k33⟩
            have HR' : Hid (R5 W0 want fr _ _ _ _ V33) := HR.out.c2 k33 q33
            go_wp2_with fail
            refine hK.out _ _ ⟨k33.cell' hHeld.1 (by simp), k33.cell' hHeld.2 (by simp)⟩ (fun hHeld2 => ?_)
            try dsimp only at hHeld2
            clear hK hHeld HR k33 q33
            have hHeld := hHeld2
            clear hHeld2
            have HR := HR'
            clear HR'
            try simp only [Act.put, List.setIfInBounds_toArray, List.set_cons_zero, List.set_cons_succ]
            refine wpAnyH_ready (rs := [7]) (by kernel_rfl) (by simp) ?_
            refine AllReadyH.cons (o := { dst := none, op := Go.Op.store 44 (Go.Operand.tmp 9) (Go.Operand.tmp 22), type := 0, pos := "law.go:125", after := #[{ on := 5, ground := Go.Ground.data }, { on := 1, ground := Go.Ground.data }, { on := 4, ground := Go.Ground.chain }, { on := 0, ground := Go.Ground.phase }, { on := 1, ground := Go.Ground.phase }, { on := 2, ground := Go.Ground.textOnly Go.Departure.lateStores }, { on := 3, ground := Go.Ground.textOnly Go.Departure.lateStores }, { on := 4, ground := Go.Ground.textOnly Go.Departure.lateStoresUnsure }, { on := 5, ground := Go.Ground.phase }, { on := 6, ground := Go.Ground.phase }], guard := none }) rfl (fun K hK => ?_) AllReadyH.nil
            · obtain ⟨m5, n5⟩ := HR.out.b5 _ rfl
              obtain ⟨m6, n6⟩ := HR.out.b6 _ rfl
              have hne := HR.out.ne _ _ rfl rfl
              have f5 := one_free m5
              have f6 := one_free m6
              have d5 := one_cell m5
              have d6 := one_cell m6
              have m7 : (V33.setCell ⟨c5, 0, none⟩ (vSq A1 A2)).heap[c6]? = some (.cells #[.nilFunc] 44 (0, 0)) := ((Keep.set1 V33 ⟨c5, 0, none⟩ (vSq A1 A2)).block _ (Array.getElem?_eq_some_iff.1 m6).1 (by simpa using fun e => hne e.symm)).trans m6
              have f7 := one_free m7
              have d7 := one_cell m7
              have HF := HR.out.fin
              have HF' : Hid (type_of% HF) := HF
              have hx5 : ¬ bx = c5 := by have := HXlt.out; omega
              have hx6 : ¬ bx = c6 := by have := HXlt.out; omega
              clear HF m5 m6 m7 n5 n6 hne
              go_simp
              refine hK.out _ _ ⟨(Keep.set1 V33 ⟨c5, 0, none⟩ (vSq A1 A2)).cell' hHeld.1 (by simpa using hx5), (Keep.set1 V33 ⟨c5, 0, none⟩ (vSq A1 A2)).cell' hHeld.2 (by simpa using hx5)⟩ (fun hHeld2 => ?_)
              try dsimp only at hHeld2
              clear hK hHeld HR
              have hHeld := hHeld2
              clear hHeld2
              try simp only [Act.put, List.setIfInBounds_toArray, List.set_cons_zero, List.set_cons_succ]
              refine wpAnyH_ready (rs := [8]) (by kernel_rfl) (by simp) ?_
              refine AllReadyH.cons (o := { dst := none, op := Go.Op.store 44 (Go.Operand.tmp 10) (Go.Operand.tmp 25), type := 0, pos := "law.go:125", after := #[{ on := 6, ground := Go.Ground.data }, { on := 4, ground := Go.Ground.data }, { on := 7, ground := Go.Ground.chain }, { on := 0, ground := Go.Ground.phase }, { on := 1, ground := Go.Ground.phase }, { on := 2, ground := Go.Ground.phase }, { on := 3, ground := Go.Ground.phase }, { on := 4, ground := Go.Ground.phase }, { on := 5, ground := Go.Ground.phase }, { on := 6, ground := Go.Ground.phase }, { on := 7, ground := Go.Ground.phase }], guard := none }) rfl (fun K hK => ?_) AllReadyH.nil
              go_simp
              refine hK.out _ _ ⟨(Keep.set1 _ ⟨c6, 0, none⟩ (vSq F1 F2)).cell' hHeld.1 (by simpa using hx6), (Keep.set1 _ ⟨c6, 0, none⟩ (vSq F1 F2)).cell' hHeld.2 (by simpa using hx6)⟩ (fun _ => ?_)
              clear hK hHeld f5 f6 f7 d5 d6 d7
              try simp only [Act.put, List.setIfInBounds_toArray, List.set_cons_zero, List.set_cons_succ]
              refine wpAnyH_done (by kernel_rfl) ⟨rfl, ?_⟩ _
              go_wp2_with fail
              go_meet
              case rel => exact ⟨c5, c6, A1, A2, F1, F2, rfl, rfl, HF'.out⟩
    · go_simp
      have HR' := HR.out.a6
      have HR'' : Hid (type_of% HR') := HR'
      refine hK.out _ _ ⟨(Keep.alloc1 _ _).cell' hHeld.1 (by simp), (Keep.alloc1 _ _).cell' hHeld.2 (by simp)⟩ (fun hHeld2 => ?_)
      try dsimp only at hHeld2
      clear hK hHeld HR HR'
      have hHeld := hHeld2
      clear hHeld2
      have HR := HR''
      clear HR''
      generalize Vz.alloc (.cells #[.nilFunc] 44) = V35 at *
      generalize Vz.heap.size = c6 at *
      try simp only [Act.put, List.setIfInBounds_toArray, List.set_cons_zero, List.set_cons_succ]
      refine wpAnyH_ready (rs := [1, 5]) (by kernel_rfl) (by simp) ?_
      refine AllReadyH.cons (o := { dst := some 22, op := Go.Op.call { callee := Go.Callee.value (Go.Operand.func 22), args := #[Go.Operand.tmp 21], argTypes := #[23] }, type := 44, pos := "law.go:125", after := #[{ on := 0, ground := Go.Ground.data }], guard := none }) rfl (fun K hK => ?_) (AllReadyH.cons (o := { dst := some 9, op := Go.Op.alloc 44, type := 0, pos := "law.go:125", after := #[], guard := none }) rfl (fun K hK => ?_) AllReadyH.nil)
      · go_simp
        refine (HAl.out _ HR.out.kp).mono ?_
        rintro e V36 ⟨A1, A2, rfl, q36, k36⟩
        have HR' : Hid (R5 W0 want fr _ _ _ _ V36) := HR.out.c1 k36 q36
        go_wp2_with fail
        refine hK.out _ _ ⟨k36.cell' hHeld.1 (by simp), k36.cell' hHeld.2 (by simp)⟩ (fun hHeld2 => ?_)
        try dsimp only at hHeld2
        clear hK hHeld HR k36 q36
        have hHeld := hHeld2
        clear hHeld2
        have HR := HR'
        clear HR'
        try simp only [Act.put, List.setIfInBounds_toArray, List.set_cons_zero, List.set_cons_succ]
        refine wpAnyH_ready (rs := [4, 5]) (by kernel_rfl) (by simp) ?_
        refine AllReadyH.cons (o := { dst := some 25, op := Go.Op.call { callee := Go.Callee.value (Go.Operand.func 26), args := #[Go.Operand.tmp 23, Go.Operand.tmp 24], argTypes := #[23, 29] }, type := 44, pos := "law.go:125", after := #[{ on := 2, ground := Go.Ground.data }, { on := 3, ground := Go.Ground.data }, { on := 1, ground := Go.Ground.chain }], guard := none }) rfl (fun K hK => ?_) (AllReadyH.cons (o := { dst := some 9, op := Go.Op.alloc 44, type := 0, pos := "law.go:125", after := #[], guard := none }) rfl (fun K hK => ?_) AllReadyH.nil)
        · go_simp
          refine (HFo.out _ HR.out.kp).mono ?_
          rintro e V37 ⟨F1, F2, rfl, q37, k37⟩
          have HR' : Hid (R5 W0 want fr _ _ _ _ V37) := HR.out.c2 k37 q37
          go_wp2_with fail
          refine hK.out _ _ ⟨k37.cell' hHeld.1 (by simp), k37.cell' hHeld.2 (by simp)⟩ (fun hHeld2 => ?_)
          try dsimp only at hHeld2
          clear hK hHeld HR k37 q37
          have hHeld := hHeld2
          clear hHeld2
          have HR := HR'
          clear HR'
          try simp only [Act.put, List.setIfInBounds_toArray, List.set_cons_zero, List.set_cons_succ]
          refine wpAnyH_ready (rs := [5]) (by kernel_rfl) (by simp) ?_
          refine AllReadyH.cons (o := { dst := some 9, op := Go.Op.alloc 44, type := 0, pos := "law.go:125", after := #[], guard := none }) rfl (fun K hK => ?_) AllReadyH.nil
          · go_simp
            have HR' := HR.out.a5
            have HR'' : Hid (type_of% HR') := HR'
            refine hK.out _ _ ⟨(Keep.alloc1 _ _).cell' hHeld.1 (by simp), (Keep.alloc1 _ _).cell' hHeld.2 (by simp)⟩ (fun hHeld2 => ?_)
            try dsimp only at hHeld2
            clear hK hHeld HR HR'
            have hHeld := hHeld2
            clear hHeld2
            have HR := HR''
            clear HR''
            generalize V37.alloc (.cells #[.nilFunc] 44) = V38 at *
            generalize V37.heap.size = c5 at *
            try simp only [Act.put, List.setIfInBounds_toArray, List.set_cons_zero, List.set_cons_succ]
            refine wpAnyH_ready (rs := [7]) (by kernel_rfl) (by simp) ?_
            refine AllReadyH.cons (o := { dst := none, op := Go.Op.store 44 (Go.Operand.tmp 9) (Go.Operand.tmp 22), type := 0, pos := "law.go:125", after := #[{ on := 5, ground := Go.Ground.data }, { on := 1, ground := Go.Ground.data }, { on := 4, ground := Go.Ground.chain }, { on := 0, ground := Go.Ground.phase }, { on := 1, ground := Go.Ground.phase }, { on := 2, ground := Go.Ground.textOnly Go.Departure.lateStores }, { on := 3, ground := Go.Ground.textOnly Go.Departure.lateStores }, { on := 4, ground := Go.Ground.textOnly Go.Departure.lateStoresUnsure }, { on := 5, ground := Go.Ground.phase }, { on := 6, ground := Go.Ground.phase }], guard := none }) rfl (fun K hK => ?_) AllReadyH.nil
            · obtain ⟨m5, n5⟩ := HR.out.b5 _ rfl
              obtain ⟨m6, n6⟩ := HR.out.b6 _ rfl
              have hne := HR.out.ne _ _ rfl rfl
              have f5 := one_free m5
              have f6 := one_free m6
              have d5 := one_cell m5
              have d6 := one_cell m6
              have m7 : (V38.setCell ⟨c5, 0, none⟩ (vSq A1 A2)).heap[c6]? = some (.cells #[.nilFunc] 44 (0, 0)) := ((Keep.set1 V38 ⟨c5, 0, none⟩ (vSq A1 A2)).block _ (Array.getElem?_eq_some_iff.1 m6).1 (by simpa using fun e => hne e.symm)).trans m6
              have f7 := one_free m7
              have d7 := one_cell m7
              have HF := HR.out.fin
              have HF' : Hid (type_of% HF) := HF
              have hx5 : ¬ bx = c5 := by have := HXlt.out; omega
              have hx6 : ¬ bx = c6 := by have := HXlt.out; omega
              clear HF m5 m6 m7 n5 n6 hne
              go_simp
              refine hK.out _ _ ⟨(Keep.set1 V38 ⟨c5, 0, none⟩ (vSq A1 A2)).cell' hHeld.1 (by simpa using hx5), (Keep.set1 V38 ⟨c5, 0, none⟩ (vSq A1 A2)).cell' hHeld.2 (by simpa using hx5)⟩ (fun hHeld2 => ?_)
              try dsimp only at hHeld2
              clear hK hHeld HR
              have hHeld := hHeld2
              clear hHeld2
              try simp only [Act.put, List.setIfInBounds_toArray, List.set_cons_zero, List.set_cons_succ]
              refine wpAnyH_ready (rs := [8]) (by kernel_rfl) (by simp) ?_
              refine AllReadyH.cons (o := { dst := none, op := Go.Op.store 44 (Go.Operand.tmp 10) (Go.Operand.tmp 25), type := 0, pos := "law.go:125", after := #[{ on := 6, ground := Go.Ground.data }, { on := 4, ground := Go.Ground.data }, { on := 7, ground := Go.Ground.chain }, { on := 0, ground := Go.Ground.phase }, { on := 1, ground := Go.Ground.phase }, { on := 2, ground := Go.Ground.phase }, { on := 3, ground := Go.Ground.phase }, { on := 4, ground := Go.Ground.phase }, { on := 5, ground := Go.Ground.phase }, { on := 6, ground := Go.Ground.phase }, { on := 7, ground := Go.Ground.phase }], guard := none }) rfl (fun K hK => ?_) AllReadyH.nil
              go_simp
              refine hK.out _ _ ⟨(Keep.set1 _ ⟨c6, 0, none⟩ (vSq F1 F2)).cell' hHeld.1 (by simpa using hx6), (Keep.set1 _ ⟨c6, 0, none⟩ (vSq F1 F2)).cell' hHeld.2 (by simpa using hx6)⟩ (fun _ => ?_)
              clear hK hHeld f5 f6 f7 d5 d6 d7
              try simp only [Act.put, List.setIfInBounds_toArray, List.set_cons_zero, List.set_cons_succ]
              refine wpAnyH_done (by kernel_rfl) ⟨rfl, ?_⟩ _
              go_wp2_with fail
              go_meet
              case rel => exact ⟨c5, c6, A1, A2, F1, F2, rfl, rfl, HF'.out⟩
        · go_simp
          have HR' := HR.out.a5
          have HR'' : Hid (type_of% HR') := HR'
          refine hK.out _ _ ⟨(Keep.alloc1 _ _).cell' hHeld.1 (by simp), (Keep.alloc1 _ _).cell' hHeld.2 (by simp)⟩ (fun hHeld2 => ?_)
          try dsimp only at hHeld2
          clear hK hHeld HR HR'
          have hHeld := hHeld2
          clear hHeld2
          have HR := HR''
          clear HR''
          generalize V36.alloc (.cells #[.nilFunc] 44) = V40 at *
          generalize V36.heap.size = c5 at *
          try simp only [Act.put, List.setIfInBounds_toArray, List.set_cons_zero, List.set_cons_succ]
          refine wpAnyH_ready (rs := [4]) (by kernel_rfl) (by simp) ?_
          refine AllReadyH.cons (o := { dst := some 25, op := Go.Op.call { callee := Go.Callee.value (Go.Operand.func 26), args := #[Go.Operand.tmp 23, Go.Operand.tmp 24], argTypes := #[23, 29] }, type := 44, pos := "law.go:125", after := #[{ on := 2, ground := Go.Ground.data }, { on := 3, ground := Go.Ground.data }, { on := 1, ground := Go.Ground.chain }], guard := none }) rfl (fun K hK => ?_) AllReadyH.nil
          · go_simp
            refine (HFo.out _ HR.out.kp).mono ?_
            rintro e V41 ⟨F1, F2, rfl, q41, k41⟩
            have HR' : Hid (R5 W0 want fr _ _ _ _ V41) := HR.out.c2 k41 q41
            go_wp2_with fail
            refine hK.out _ _ ⟨k41.cell' hHeld.1 (by simp), k41.cell' hHeld.2 (by simp)⟩ (fun hHeld2 => ?_)
            try dsimp only at hHeld2
            clear hK hHeld HR k41 q41
            have hHeld := hHeld2
            clear hHeld2
            have HR := HR'
            clear HR'
            try simp only [Act.put, List.setIfInBounds_toArray, List.set_cons_zero, List.set_cons_succ]
            refine wpAnyH_ready (rs := [7]) (by kernel_rfl) (by simp) ?_
            refine AllReadyH.cons (o := { dst := none, op := Go.Op.store 44 (Go.Operand.tmp 9) (Go.Operand.tmp 22), type := 0, pos := "law.go:125", after := #[{ on := 5, ground := Go.Ground.data }, { on := 1, ground := Go.Ground.data }, { on := 4, ground := Go.Ground.chain }, { on := 0, ground := Go.Ground.phase }, { on := 1, ground := Go.Ground.phase }, { on := 2, ground := Go.Ground.textOnly Go.Departure.lateStores }, { on := 3, ground := Go.Ground.textOnly Go.Departure.lateStores }, { on := 4, ground := Go.Ground.textOnly Go.Departure.lateStoresUnsure }, { on := 5, ground := Go.Ground.phase }, { on := 6, ground := Go.Ground.phase }], guard := none }) rfl (fun K hK => ?_) AllReadyH.nil
            · obtain ⟨m5, n5⟩ := HR.out.b5 _ rfl
              obtain ⟨m6, n6⟩ := HR.out.b6 _ rfl
              have hne := HR.out.ne _ _ rfl rfl
              have f5 := one_free m5
              have f6 := one_free m6
              have d5 := one_cell m5
              have d6 := one_cell m6
              have m7 : (V41.setCell ⟨c5, 0, none⟩ (vSq A1 A2)).heap[c6]? = some (.cells #[.nilFunc] 44 (0, 0)) := ((Keep.set1 V41 ⟨c5, 0, none⟩ (vSq A1 A2)).block _ (Array.getElem?_eq_some_iff.1 m6).1 (by simpa using fun e => hne e.symm)).trans m6
              have f7 := one_free m7
              have d7 := one_cell m7
              have HF := HR.out.fin
              have HF' : Hid (type_of% HF) := HF
              have hx5 : ¬ bx = c5 := by have := HXlt.out; omega
              have hx6 : ¬ bx = c6 := by have := HXlt.out; omega
              clear HF m5 m6 m7 n5 n6 hne
              go_simp
              refine hK.out _ _ ⟨(Keep.set1 V41 ⟨c5, 0, none⟩ (vSq A1 A2)).cell' hHeld.1 (by simpa using hx5), (Keep.set1 V41 ⟨c5, 0, none⟩ (vSq A1 A2)).cell' hHeld.2 (by simpa using hx5)⟩ (fun hHeld2 => ?_)
              try dsimp only at hHeld2
              clear hK hHeld HR
              have hHeld := hHeld2
              clear hHeld2
              try simp only [Act.put, List.setIfInBounds_toArray, List.set_cons_zero, List.set_cons_succ]
              refine wpAnyH_ready (rs := [8]) (by kernel_rfl) (by simp) ?_
              refine AllReadyH.cons (o := { dst := none, op := Go.Op.store 44 (Go.Operand.tmp 10) (Go.Operand.tmp 25), type := 0, pos := "law.go:125", after := #[{ on := 6, ground := Go.Ground.data }, { on := 4, ground := Go.Ground.data }, { on := 7, ground := Go.Ground.chain }, { on := 0, ground := Go.Ground.phase }, { on := 1, ground := Go.Ground.phase }, { on := 2, ground := Go.Ground.phase }, { on := 3, ground := Go.Ground.phase }, { on := 4, ground := Go.Ground.phase }, { on := 5, ground := Go.Ground.phase }, { on := 6, ground := Go.Ground.phase }, { on := 7, ground := Go.Ground.phase }], guard := none }) rfl (fun K hK => ?_) AllReadyH.nil
              go_simp
              refine hK.out _ _ ⟨(Keep.set1 _ ⟨c6, 0, none⟩ (vSq F1 F2)).cell' hHeld.1 (by simpa using hx6), (Keep.set1 _ ⟨c6, 0, none⟩ (vSq F1 F2)).cell' hHeld.2 (by simpa using hx6)⟩ (fun _ => ?_)
              clear hK hHeld f5 f6 f7 d5 d6 d7
              try simp only [Act.put, List.setIfInBounds_toArray, List.set_cons_zero, List.set_cons_succ]
              refine wpAnyH_done (by kernel_rfl) ⟨rfl, ?_⟩ _
              go_wp2_with fail
              go_meet
              case rel => exact ⟨c5, c6, A1, A2, F1, F2, rfl, rfl, HF'.out⟩
      · go_simp
        have HR' := HR.out.a5
        have HR'' : Hid (type_of% HR') := HR'
        refine hK.out _ _ ⟨(Keep.alloc1 _ _).cell' hHeld.1 (by simp), (Keep.alloc1 _ _).cell' hHeld.2 (by simp)⟩ (fun hHeld2 => ?_)
        try dsimp only at hHeld2
        clear hK hHeld HR HR'
        have hHeld := hHeld2
        clear hHeld2
        have HR := HR''
        clear HR''
        generalize V35.alloc (.cells #[.nilFunc] 44) = V43 at *
        generalize V35.heap.size = c5 at *
        try simp only [Act.put, List.setIfInBounds_toArray, List.set_cons_zero, List.set_cons_succ]
        refine wpAnyH_ready (rs := [1]) (by kernel_rfl) (by simp) ?_
        refine AllReadyH.cons (o := { dst := some 22, op := Go.Op.call { callee := Go.Callee.value (Go.Operand.func 22), args := #[Go.Operand.tmp 21], argTypes := #[23] }, type := 44, pos := "law.go:125", after := #[{ on := 0, ground := Go.Ground.data }], guard := none }) rfl (fun K hK => ?_) AllReadyH.nil
        · go_simp
          refine (HAl.out _ HR.out.kp).mono ?_
          rintro e V44 ⟨A1, A2, rfl, q44, k44⟩
          have HR' : Hid (R5 W0 want fr _ _ _ _ V44) := HR.out.c1 k44 q44
          go_wp2_with fail
          refine hK.out _ _ ⟨k44.cell' hHeld.1 (by simp), k44.cell' hHeld.2 (by simp)⟩ (fun hHeld2 => ?_)
          try dsimp only at hHeld2
          clear hK hHeld HR k44 q44
          have hHeld := hHeld2
          clear hHeld2
          have HR := HR'
          clear HR'
          try simp only [Act.put, List.setIfInBounds_toArray, List.set_cons_zero, List.set_cons_succ]
          refine wpAnyH_ready (rs := [4]) (by kernel_rfl) (by simp) ?_
          refine AllReadyH.cons (o := { dst := some 25, op := Go.Op.call { callee := Go.Callee.value (Go.Operand.func 26), args := #[Go.Operand.tmp 23, Go.Operand.tmp 24], argTypes := #[23, 29] }, type := 44, pos := "law.go:125", after := #[{ on := 2, ground := Go.Ground.data }, { on := 3, ground := Go.Ground.data }, { on := 1, ground := Go.Ground.chain }], guard := none }) rfl (fun K hK => ?_) AllReadyH.nil
          · go_simp
            refine (HFo.out _ HR.out.kp).mono ?_
            rintro e V45 ⟨F1, F2, rfl, q45, k45⟩
            have HR' : Hid (R5 W0 want fr _ _ _ _ V45) := HR.out.c2 k45 q45
            go_wp2_with fail
            refine hK.out _ _ ⟨k45.cell' hHeld.1 (by simp), k45.cell' hHeld.2 (by simp)⟩ (fun hHeld2 => ?_)
            try dsimp only at hHeld2
            clear hK hHeld HR k45 q45
            have hHeld := hHeld2
            clear hHeld2
            have HR := HR'
            clear HR'
            try simp only [Act.put, List.setIfInBounds_toArray, List.set_cons_zero, List.set_cons_succ]
            refine wpAnyH_ready (rs := [7]) (by kernel_rfl) (by simp) ?_
            refine AllReadyH.cons (o := { dst := none, op := Go.Op.store 44 (Go.Operand.tmp 9) (Go.Operand.tmp 22), type := 0, pos := "law.go:125", after := #[{ on := 5, ground := Go.Ground.data }, { on := 1, ground := Go.Ground.data }, { on := 4, ground := Go.Ground.chain }, { on := 0, ground := Go.Ground.phase }, { on := 1, ground := Go.Ground.phase }, { on := 2, ground := Go.Ground.textOnly Go.Departure.lateStores }, { on := 3, ground := Go.Ground.textOnly Go.Departure.lateStores }, { on := 4, ground := Go.Ground.textOnly Go.Departure.lateStoresUnsure }, { on := 5, ground := Go.Ground.phase }, { on := 6, ground := Go.Ground.phase }], guard := none }) rfl (fun K hK => ?_) AllReadyH.nil
            · obtain ⟨m5, n5⟩ := HR.out.b5 _ rfl
              obtain ⟨m6, n6⟩ := HR.out.b6 _ rfl
              have hne := HR.out.ne _ _ rfl rfl
              have f5 := one_free m5
              have f6 := one_free m6
              have d5 := one_cell m5
              have d6 := one_cell m6
              have m7 : (V45.setCell ⟨c5, 0, none⟩ (vSq A1 A2)).heap[c6]? = some (.cells #[.nilFunc] 44 (0, 0)) := ((Keep.set1 V45 ⟨c5, 0, none⟩ (vSq A1 A2)).block _ (Array.getElem?_eq_some_iff.1 m6).1 (by simpa using fun e => hne e.symm)).trans m6
              have f7 := one_free m7
              have d7 := one_cell m7
              have HF := HR.out.fin
              have HF' : Hid (type_of% HF) := HF
              have hx5 : ¬ bx = c5 := by have := HXlt.out; omega
              have hx6 : ¬ bx = c6 := by have := HXlt.out; omega
              clear HF m5 m6 m7 n5 n6 hne
              go_simp
              refine hK.out _ _ ⟨(Keep.set1 V45 ⟨c5, 0, none⟩ (vSq A1 A2)).cell' hHeld.1 (by simpa using hx5), (Keep.set1 V45 ⟨c5, 0, none⟩ (vSq A1 A2)).cell' hHeld.2 (by simpa using hx5)⟩ (fun hHeld2 => ?_)
              try dsimp only at hHeld2
              clear hK hHeld HR
              have hHeld := hHeld2
              clear hHeld2
              try simp only [Act.put, List.setIfInBounds_toArray, List.set_cons_zero, List.set_cons_succ]
              refine wpAnyH_ready (rs := [8]) (by kernel_rfl) (by simp) ?_
              refine AllReadyH.cons (o := { dst := none, op := Go.Op.store 44 (Go.Operand.tmp 10) (Go.Operand.tmp 25), type := 0, pos := "law.go:125", after := #[{ on := 6, ground := Go.Ground.data }, { on := 4, ground := Go.Ground.data }, { on := 7, ground := Go.Ground.chain }, { on := 0, ground := Go.Ground.phase }, { on := 1, ground := Go.Ground.phase }, { on := 2, ground := Go.Ground.phase }, { on := 3, ground := Go.Ground.phase }, { on := 4, ground := Go.Ground.phase }, { on := 5, ground := Go.Ground.phase }, { on := 6, ground := Go.Ground.phase }, { on := 7, ground := Go.Ground.phase }], guard := none }) rfl (fun K hK => ?_) AllReadyH.nil
              go_simp
              refine hK.out _ _ ⟨(Keep.set1 _ ⟨c6, 0, none⟩ (vSq F1 F2)).cell' hHeld.1 (by simpa using hx6), (Keep.set1 _ ⟨c6, 0, none⟩ (vSq F1 F2)).cell' hHeld.2 (by simpa using hx6)⟩ (fun _ => ?_)
              clear hK hHeld f5 f6 f7 d5 d6 d7
              try simp only [Act.put, List.setIfInBounds_toArray, List.set_cons_zero, List.set_cons_succ]
              refine wpAnyH_done (by kernel_rfl) ⟨rfl, ?_⟩ _
              go_wp2_with fail
              go_meet
              case rel => exact ⟨c5, c6, A1, A2, F1, F2, rfl, rfl, HF'.out⟩
  case rest =>
    obtain ⟨c5, c6, A1, A2, F1, F2, rfl, rfl, k5, h5, h6, q1, q2⟩ := hcut
    rw [HFr.out] at q2
    have HW0 : Hid (Wk w x k false bx bk bq bw c5 c6 A1 A2 F1 F2 (.slice aw want.length cw) want wc.heap.size wc) := by
      obtain ⟨⟨g1, g2, g3, g4⟩, g5, g6⟩ := HM.out
      have t : ∀ b o, W0.heap[b]? = some o → wc.heap[b]? = some o := fun b o hb => (k5.block _ (Array.getElem?_eq_some_iff.1 hb).1 (by simp)).trans hb
      have lt : ∀ b o, wc.heap[b]? = some o → b < wc.heap.size := fun b o hb => (Array.getElem?_eq_some_iff.1 hb).1
      exact ⟨t _ _ g1, t _ _ g2, t _ _ g3, t _ _ g4, h5, h6, q1, q2, g5.keep k5 (Off.nil _), g6.trans' k5, ⟨lt _ _ (t _ _ g1), lt _ _ (t _ _ g2), lt _ _ (t _ _ g3), lt _ _ (t _ _ g4), lt _ _ h5, lt _ _ h6, q1.lt.1, q1.lt.2, q2.lt.1, q2.lt.2, (g5.keep k5 (Off.nil _)).lt⟩, HG.out, Nat.le_trans g6.size k5.size⟩
    have HSc : Hid (Sh wc b 10 want ∧ w.heap.size ≤ b) := ⟨HS0.out.1.keep0 k5, HS0.out.2⟩
    obtain ⟨N, HN⟩ : ∃ N : Nat, Hid (N = wc.heap.size) := ⟨_, show _ = _ from rfl⟩
    rw [← HN.out] at HW0
    have HNl : Hid (N ≤ wc.heap.size) := by show _ ≤ _; have := HN.out; omega
    clear k5 h5 h6 q1 q2 HM HS0 x0 x1 HXlt HAl HFo HN
    try (rename_i f0 f1 _; clear f0 f1)
    go_wp2_with fail
    go_loopw [11] (fun iv wr => ∃ i : Nat, iv = .int .i64 (i : Int) ∧ i ≤ l.length ∧ Hid (Wk w x k false bx bk bq bw c5 c6 A1 A2 F1 F2 (.slice aw want.length cw) want N wr ∧ N ≤ wr.heap.size ∧ ∃ L', Sh wr b 10 L' ∧ L'.length ≤ want.length + i)) (fun iv _ => l.length - (intOf iv).toNat)
    case atStart => exact ⟨0, rfl, Nat.zero_le _, HW0.out, HNl.out, want, HSc.out.1, by omega⟩
    case round =>
      obtain ⟨i, rfl, hi, HI⟩ := hrel
      clear HW0 HNl
      by_cases hlt : i < l.length
      · have hlti : (i : Int) < (l.length : Int) := by omega
        have hi0 : (0 : Int) ≤ (i : Int) := by omega
        obtain ⟨hWk, hNs, L', hS', hL'⟩ := HI.out
        obtain ⟨bb, oo, c2, he, hb, e0, e1⟩ := (HV.out.keep hWk.kp (Off.nil _)).pair i hlt
        simp at he
        obtain ⟨rfl, rfl⟩ := he
        have HWk : Hid (Wk w x k false bx bk bq bw c5 c6 A1 A2 F1 F2 (.slice aw want.length cw) want N wr ∧ N ≤ wr.heap.size) := ⟨hWk, hNs⟩
        have HSL : Hid (Sh wr b 10 L' ∧ L'.length ≤ want.length + i) := ⟨hS', hL'⟩
        have HLB : Hid (L'.length ≤ 17592186043904) := by show _ ≤ _; have := HLl.out; have := HWl.out; omega
        have hblt := hWk.kp
        have hbv : bb < w.heap.size := by
          obtain ⟨b9, o9, c9, he9, hb9, _, _⟩ := HV.out.pair i hlt
          simp at he9
          omega
        have e2 := e0
        clear hWk hNs hS' hL' HI hblt
        generalize l[i] = y at *
        go_wp2_with fail
        refine (rem_any b 10 L' y _ HSL.out.1 (by have := HLB.out; omega)).mono ?_
        rintro e w6 ⟨rfl, s6, k6⟩
        have f0 : w6.cell? ⟨bb, oo + i * 2, none⟩ = some (.int .i64 y.k) := k6.cell' e0 (by simp; have := HSc.out.2; omega)
        go_wp2_with fail
        refine (add_any b 10 (remL L' y) ⟨_, -9⟩ _ s6 (by have := rem_len L' y; have := HLB.out; omega)).mono ?_
        rintro e w7 ⟨rfl, s7, k7⟩
        have HF : Hid (Wk w x k false bx bk bq bw c5 c6 A1 A2 F1 F2 (.slice aw want.length cw) want N w7 ∧ N ≤ w7.heap.size ∧ ∃ L', Sh w7 b 10 L' ∧ L'.length ≤ want.length + (i + 1)) := by
          obtain ⟨p, T, a9, _⟩ := HSL.out.1.ex
          have K : Keep [b] wr w7 := k6.trans' k7
          refine ⟨HWk.out.1.keep K (HSL.out.1.kt K) (fun r hr => ?_), Nat.le_trans HWk.out.2 K.size, _, s7, ?_⟩
          · simp at hr
            subst hr
            exact ⟨HSc.out.2, .inr ⟨_, a9⟩⟩
          · refine Nat.le_trans (add_len _ _) ?_
            have := rem_len L' y
            have := HSL.out.2
            omega
        clear s6 k6 s7 k7
        go_wp2
        go_roundw
        case rel =>
          first
            | exact ⟨i + 1, by simp, by omega, HF.out⟩
            | (repeat apply Exists.intro
               refine ⟨⟨i + 1, ?_, by omega, HF.out⟩, rfl⟩
               simp)
        case measure => simp [intOf]; omega
      · obtain rfl : i = l.length := by omega
        have hnl : ¬ (l.length : Int) < (l.length : Int) := by omega
        obtain ⟨hWk, hNs, _⟩ := HI.out
        have HWk : Hid (Wk w x k false bx bk bq bw c5 c6 A1 A2 F1 F2 (.slice aw want.length cw) want N wr ∧ N ≤ wr.heap.size) := ⟨hWk, hNs⟩
        have ca := one_cell hWk.ha
        have cf := one_cell hWk.hf
        have heq : ∀ w, Sem.run Try.prog (binOp BinOp.eql 44 (vSq A1 A2) Value.nilFunc) w = .ok (.bool false) w := fun w => rfl
        have heq2 : ∀ w, Sem.run Try.prog (binOp BinOp.eql 44 (vSq F1 F2) Value.nilFunc) w = .ok (.bool false) w := fun w => rfl
        clear hWk hNs HI HSc HV hi hlt
        have ca2 : (wr.alloc (.cells #[.int .i64 0] 3)).cell? ⟨c5, 0, none⟩ = some (vSq A1 A2) := (Keep.alloc1 _ _).cell' ca (by simp)
        have cf2 : (wr.alloc (.cells #[.int .i64 0] 3)).cell? ⟨c6, 0, none⟩ = some (vSq F1 F2) := (Keep.alloc1 _ _).cell' cf (by simp)
        go_wp2_with fail
        have HN0 : Hid (Wn w x k false bx bk bq bw c5 c6 A1 A2 F1 F2 (.slice aw want.length cw) want N wr.heap.size (wr.alloc (.cells #[.int .i64 0] 3)).heap.size 0 (wr.alloc (.cells #[.int .i64 0] 3))) := ⟨HWk.out.1.keep0 (Keep.alloc1 _ _), heap_alloc_new _ _, ⟨HWk.out.2, by simp⟩, Nat.le_refl _⟩
        have HFm : Hid (∀ w9 {m9 M9 bn9 : Nat}, Wn w x k false bx bk bq bw c5 c6 A1 A2 F1 F2 (.slice aw want.length cw) want N bn9 M9 m9 w9 → Calls Try.prog 28 #[.slice aw want.length cw, vP x] w9 fun e w' => ∃ v', e = .returned v' ∧ Rd encP 2 w' v' (want.drop (rnk want x.k)) ∧ Keep [] w9 w') := fun w9 _ _ _ h => rFrom_any _ want x w9 (h.wk.row.rd encP_len) (by have := HWl.out; have := HLl.out; omega)
        have HTd : Hid (∀ w9 v9 {m9 M9 bn9 : Nat}, Wn w x k false bx bk bq bw c5 c6 A1 A2 F1 F2 (.slice aw want.length cw) want N bn9 M9 m9 w9 → Rd encP 2 w9 v9 (want.drop (rnk want x.k)) → Calls Try.prog 27 #[vSq F1 F2, v9] w9 fun e w' => e = .returned (.bool true) ∧ Keep [] w9 w') := fun w9 v9 _ _ _ h hr => told_yes F1 F2 _ v9 w9 h.wk.frm hr
        have HTa : Hid (∀ w9 {m9 M9 bn9 : Nat}, Wn w x k false bx bk bq bw c5 c6 A1 A2 F1 F2 (.slice aw want.length cw) want N bn9 M9 m9 w9 → Calls Try.prog 27 #[vSq A1 A2, .slice aw want.length cw] w9 fun e w' => e = .returned (.bool true) ∧ Keep [] w9 w') := fun w9 _ _ _ h => told_yes A1 A2 _ _ w9 h.wk.all (h.wk.row.rd encP_len)
        have HAw : Hid (∀ w9, Calls Try.prog 23 #[] w9 fun e w' => e = .returned (.bool true) ∧ Keep [] w9 w') := fun w9 => awake_any w9
        clear ca cf ca2 cf2 HWk heq heq2
        generalize wr.alloc (.cells #[.int .i64 0] 3) = w8 at *
        generalize wr.heap.size = bn at *
        refine range_sq (B1 := A1) (B2 := A2) (L := want) (w := w8) rfl rfl HN0.out.wk.all (fun pre W => Wn w x k false bx bk bq bw c5 c6 A1 A2 F1 F2 (.slice aw want.length cw) want N bn w8.heap.size pre.length W) (fun c p W => ¬ p <+: want ∨ (c = .exit 2 ∧ ∃ m, Wn w x k false bx bk bq bw c5 c6 A1 A2 F1 F2 (.slice aw want.length cw) want N bn w8.heap.size m W ∧ ((m : Int) = k ∨ m = want.length)))
          (fun s A B row hs hg hr => hs.grow hg (fun r e => hr r e)) (fun c s A B row hs hg hr => hs.imp id (fun ⟨h1, m, h2, h3⟩ => ⟨h1, m, h2.grow hg (fun r e => hr r e), h3⟩)) HN0.out (fun pre W o h => h.keep0 (Keep.alloc1 _ _)) (fun pre W h => h.hM)
          (fun W => ∃ m, Wn w x k false bx bk bq bw c5 c6 A1 A2 F1 F2 (.slice aw want.length cw) want N bn w8.heap.size m W ∧ ((m : Int) = k ∨ m = want.length)) (fun W h => ⟨_, h, .inr rfl⟩) (fun c pre W hp h => h.elim (fun h => absurd hp h) id) ?fr ?assign ?body ?rest
        case assign =>
          intro l9 y W K B hB hK
          gi_wp2
          rw [← hB]
          exact hK
        case body =>
          rintro l9 pre y W By hl9 hi hBy hby hpl
          obtain ⟨⟨c9, c10⟩, _, _⟩ := two_facts hby
          have HI : Hid (Wn w x k false bx bk bq bw c5 c6 A1 A2 F1 F2 (.slice aw want.length cw) want N bn w8.heap.size pre.length W) := hi
          obtain ⟨d0, d1, d2, d3, d4, d5, d6⟩ := hi.cells
          obtain ⟨f0, f1, f2⟩ := hi.frees
          have hmx : Try.prog.follows .mixedOrders = true := by kernel_rfl
          have hli : (pre.length : Int) < (want.length : Int) := by omega
          have hp0 : (0 : Int) ≤ (pre.length : Int) := by omega
          have hlq : ¬ (want.length : Int) ≤ (pre.length : Int) := by omega
          have hlqN : ¬ want.length ≤ pre.length := by omega
          have hdec : decide (want.length ≤ pre.length) = false := by simp; omega
          obtain ⟨gb, go_, cc, he, hb, e0, e1⟩ := (hi.wk.row.rd encP_len).pair pre.length hpl
          simp at he
          obtain ⟨rfl, rfl⟩ := he
          have HZ : Hid (∀ (q : Pr), want[pre.length] = q → y ≠ q → ¬ (pre ++ [y]) <+: want) := by
            rintro q rfl hne ⟨t, ht⟩
            apply hne
            have h2 : (pre ++ [y] ++ t)[pre.length]'(by simp) = want[pre.length] := by simp only [ht]
            rw [← h2]
            simp
          have HLn : Hid (pre.length < want.length) := hpl
          generalize want[pre.length] = q at *
          clear hi hby
          obtain ⟨d, HD⟩ : ∃ d : Bool, Hid (d = !decide (y.k = q.k ∧ y.m = q.m)) := ⟨_, show _ = _ from rfl⟩
          have hcmp : ∀ w, Sem.run Try.prog (binOp BinOp.neq 29 (.agg #[.int .i64 y.k, .int .i64 y.m]) (.agg #[.int .i64 q.k, .int .i64 q.m])) w = .ok (.bool d) w := fun w => by
            rw [HD.out]
            by_cases hk : y.k = q.k
            · by_cases hm : y.m = q.m
              · simp [go_sem, hk, hm]
              · simp [go_sem, hk, hm]
            · simp [go_sem, hk]
          have HDT : Hid (d = true → ¬ (pre ++ [y]) <+: want) := fun h => HZ.out q rfl (fun e => by rw [HD.out, e] at h; simp at h)
          clear HZ HD
          gi_wp2_with fail
          refine wpIn_region_held (S := (fun w' : World => w'.cell? ⟨bn, 0, none⟩ = some (.int .i64 (pre.length : Int)) ∧ w'.cell? ⟨bw, 0, none⟩ = some (.slice (some ⟨gb, go_, none⟩) want.length cw) ∧ w'.cell? ⟨By, 0, none⟩ = some (.int .i64 y.k) ∧ w'.cell? ⟨By, 1, none⟩ = some (.int .i64 y.m) ∧ w'.cell? ⟨gb, go_ + pre.length * 2, none⟩ = some (.int .i64 q.k) ∧ w'.cell? ⟨gb, go_ + pre.length * 2 + 1, none⟩ = some (.int .i64 q.m))) (by kernel_rfl) (by kernel_rfl) (⟨d0, d2, c9, c10, e0, e1⟩) (fun hHeld => ?_)
          try dsimp only at hHeld
          refine wpAnyH_take (i := 0) (oi := { dst := some 55, op := Go.Op.load 3 (Go.Operand.tmp 12), type := 3, pos := "law.go:135", after := #[], guard := none }) (v := ?_) rfl (by kernel_rfl) (by kernel_rfl) (by kernel_rfl) (fun _ _ _ => plain_panic) (Or.inl ⟨by rfl, ?_⟩) (by assumption) ?_
          rotate_left
          · intro w7 hSw
            try dsimp only at hSw
            first | (go_simp; done) | (go_simp; with_reducible rfl)
          try simp only [Act.put, List.setIfInBounds_toArray, List.set_cons_zero, List.set_cons_succ]
          refine wpAnyH_take (i := 1) (oi := { dst := some 56, op := Go.Op.load 25 (Go.Operand.tmp 7), type := 25, pos := "law.go:135", after := #[], guard := none }) (v := ?_) rfl (by kernel_rfl) (by kernel_rfl) (by kernel_rfl) (fun _ _ _ => plain_panic) (Or.inl ⟨by rfl, ?_⟩) (by assumption) ?_
          rotate_left
          · intro w7 hSw
            try dsimp only at hSw
            first | (go_simp; done) | (go_simp; with_reducible rfl)
          try simp only [Act.put, List.setIfInBounds_toArray, List.set_cons_zero, List.set_cons_succ]
          refine wpAnyH_take (i := 2) (oi := { dst := some 57, op := Go.Op.call { callee := Go.Callee.builtin Go.Builtin.len, args := #[Go.Operand.tmp 56], argTypes := #[25] }, type := 3, pos := "law.go:135", after := #[{ on := 1, ground := Go.Ground.data }], guard := none }) (v := ?_) rfl (by kernel_rfl) (by kernel_rfl) (by kernel_rfl) (fun _ _ _ => plain_panic) (Or.inl ⟨by rfl, ?_⟩) (by assumption) ?_
          rotate_left
          · intro w7 hSw
            try dsimp only at hSw
            first | (go_simp; done) | (go_simp; with_reducible rfl)
          try simp only [Act.put, List.setIfInBounds_toArray, List.set_cons_zero, List.set_cons_succ]
          refine wpAnyH_take (i := 3) (oi := { dst := some 58, op := Go.Op.binOp Go.BinOp.geq 3 (Go.Operand.tmp 55) (Go.Operand.tmp 57) 3, type := 4, pos := "law.go:135", after := #[{ on := 0, ground := Go.Ground.data }, { on := 2, ground := Go.Ground.data }], guard := none }) (v := ?_) rfl (by kernel_rfl) (by kernel_rfl) (by kernel_rfl) (fun _ _ _ => plain_panic) (Or.inl ⟨by rfl, ?_⟩) (by assumption) ?_
          rotate_left
          · intro w7 hSw
            try dsimp only at hSw
            first | (go_simp; done) | (go_simp; with_reducible rfl)
          try simp only [Act.put, List.setIfInBounds_toArray, List.set_cons_zero, List.set_cons_succ]
          refine wpAnyH_take (i := 4) (oi := { dst := some 59, op := Go.Op.move (Go.Operand.tmp 58), type := 4, pos := "law.go:135", after := #[{ on := 3, ground := Go.Ground.data }], guard := none }) (v := ?_) rfl (by kernel_rfl) (by kernel_rfl) (by kernel_rfl) (fun _ _ _ => plain_panic) (Or.inl ⟨by rfl, ?_⟩) (by assumption) ?_
          rotate_left
          · intro w7 hSw
            try dsimp only at hSw
            first | (go_simp; done) | (go_simp; with_reducible rfl)
          try simp only [Act.put, List.setIfInBounds_toArray, List.set_cons_zero, List.set_cons_succ]
          refine wpAnyH_take (i := 5) (oi := { dst := some 60, op := Go.Op.load 29 (Go.Operand.tmp 13), type := 29, pos := "law.go:135", after := #[{ on := 4, ground := Go.Ground.guard }], guard := some (4, false) }) (v := ?_) rfl (by kernel_rfl) (by kernel_rfl) (by kernel_rfl) (fun _ _ _ => plain_panic) (Or.inl ⟨by rfl, ?_⟩) (by assumption) ?_
          rotate_left
          · intro w7 hSw
            try dsimp only at hSw
            first | (go_simp; done) | (go_simp; with_reducible rfl)
          try simp only [Act.put, List.setIfInBounds_toArray, List.set_cons_zero, List.set_cons_succ]
          refine wpAnyH_take (i := 6) (oi := { dst := some 61, op := Go.Op.load 25 (Go.Operand.tmp 7), type := 25, pos := "law.go:135", after := #[{ on := 4, ground := Go.Ground.guard }], guard := some (4, false) }) (v := ?_) rfl (by kernel_rfl) (by kernel_rfl) (by kernel_rfl) (fun _ _ _ => plain_panic) (Or.inl ⟨by rfl, ?_⟩) (by assumption) ?_
          rotate_left
          · intro w7 hSw
            try dsimp only at hSw
            first | (go_simp; done) | (go_simp; with_reducible rfl)
          try simp only [Act.put, List.setIfInBounds_toArray, List.set_cons_zero, List.set_cons_succ]
          refine wpAnyH_take (i := 7) (oi := { dst := some 62, op := Go.Op.load 3 (Go.Operand.tmp 12), type := 3, pos := "law.go:135", after := #[{ on := 4, ground := Go.Ground.guard }], guard := some (4, false) }) (v := ?_) rfl (by kernel_rfl) (by kernel_rfl) (by kernel_rfl) (fun _ _ _ => plain_panic) (Or.inl ⟨by rfl, ?_⟩) (by assumption) ?_
          rotate_left
          · intro w7 hSw
            try dsimp only at hSw
            first | (go_simp; done) | (go_simp; with_reducible rfl)
          try simp only [Act.put, List.setIfInBounds_toArray, List.set_cons_zero, List.set_cons_succ]
          refine wpAnyH_take (i := 8) (oi := { dst := some 63, op := Go.Op.indexAddr 25 (Go.Operand.tmp 61) (Go.Operand.tmp 62), type := 0, pos := "law.go:135", after := #[{ on := 6, ground := Go.Ground.data }, { on := 7, ground := Go.Ground.data }, { on := 4, ground := Go.Ground.guard }], guard := some (4, false) }) (v := ?_) rfl (by kernel_rfl) (by kernel_rfl) (by kernel_rfl) (fun _ _ _ => plain_panic) (Or.inl ⟨by rfl, ?_⟩) (by assumption) ?_
          rotate_left
          · intro w7 hSw
            try dsimp only at hSw
            first | (go_simp; done) | (go_simp; with_reducible rfl)
          try simp only [Act.put, List.setIfInBounds_toArray, List.set_cons_zero, List.set_cons_succ]
          refine wpAnyH_take (i := 9) (oi := { dst := some 64, op := Go.Op.load 29 (Go.Operand.tmp 63), type := 29, pos := "law.go:135", after := #[{ on := 8, ground := Go.Ground.data }, { on := 4, ground := Go.Ground.guard }], guard := some (4, false) }) (v := ?_) rfl (by kernel_rfl) (by kernel_rfl) (by kernel_rfl) (fun _ _ _ => plain_panic) (Or.inl ⟨by rfl, ?_⟩) (by assumption) ?_
          rotate_left
          · intro w7 hSw
            try dsimp only at hSw
            first | (go_simp; done) | (go_simp; with_reducible rfl)
          try simp only [Act.put, List.setIfInBounds_toArray, List.set_cons_zero, List.set_cons_succ]
          refine wpAnyH_take (i := 10) (oi := { dst := some 65, op := Go.Op.binOp Go.BinOp.neq 29 (Go.Operand.tmp 60) (Go.Operand.tmp 64) 29, type := 4, pos := "law.go:135", after := #[{ on := 5, ground := Go.Ground.data }, { on := 9, ground := Go.Ground.data }, { on := 4, ground := Go.Ground.guard }], guard := some (4, false) }) (v := ?_) rfl (by kernel_rfl) (by kernel_rfl) (by kernel_rfl) (fun _ _ _ => plain_panic) (Or.inl ⟨by rfl, ?_⟩) (by assumption) ?_
          rotate_left
          · intro w7 hSw
            try dsimp only at hSw
            first | (go_simp; done) | (go_simp; with_reducible rfl)
          try simp only [Act.put, List.setIfInBounds_toArray, List.set_cons_zero, List.set_cons_succ]
          refine wpAnyH_take (i := 11) (oi := { dst := some 66, op := Go.Op.pick (Go.Operand.tmp 59) (Go.Operand.const (Go.Value.bool true)) (Go.Operand.tmp 65), type := 4, pos := "law.go:135", after := #[{ on := 4, ground := Go.Ground.data }, { on := 10, ground := Go.Ground.data }], guard := none }) (v := ?_) rfl (by kernel_rfl) (by kernel_rfl) (by kernel_rfl) (fun _ _ _ => plain_panic) (Or.inl ⟨by rfl, ?_⟩) (by assumption) ?_
          rotate_left
          · intro w7 hSw
            try dsimp only at hSw
            first | (go_simp; done) | (go_simp; with_reducible rfl)
          try simp only [Act.put, List.setIfInBounds_toArray, List.set_cons_zero, List.set_cons_succ]
          refine wpAnyH_done (by kernel_rfl) ⟨rfl, ?_⟩ _
          clear hlq hlqN hdec hcmp c9 c10 e0 e1 hb
          cases d
          · clear HDT
            by_cases hkk : (pre.length : Int) = k
            · have HKK : Hid ((pre.length : Int) = k) := hkk
              subst hkk
              gi_wp2
              exact ⟨(Keep.refl [] _).drew.from (by simp), .inr ⟨rfl, pre.length, HI.out.keep0 ((Keep.refl [] _).drew), .inl rfl⟩⟩
            · gi_wp2_with fail
              have g0 := d0
              by_cases h3 : pre.length < 3
              · have h3z : (pre.length : Int) < 3 := by omega
                refine wpIn_region_held (S := (fun w' : World => w'.cell? ⟨bn, 0, none⟩ = some (.int .i64 (pre.length : Int)) ∧ w'.cell? ⟨c6, 0, none⟩ = some (vSq F1 F2) ∧ w'.cell? ⟨bw, 0, none⟩ = some (.slice (some ⟨gb, go_, none⟩) want.length cw) ∧ w'.cell? ⟨bx, 0, none⟩ = some (.int .i64 x.k) ∧ w'.cell? ⟨bx, 1, none⟩ = some (.int .i64 x.m))) (by kernel_rfl) (by kernel_rfl) (⟨d0, d4, d2, d5, d6⟩) (fun hHeld => ?_)
                try dsimp only at hHeld
                refine wpAnyH_take (i := 0) (oi := { dst := some 70, op := Go.Op.load 3 (Go.Operand.tmp 12), type := 3, pos := "law.go:141", after := #[], guard := none }) (v := ?_) rfl (by kernel_rfl) (by kernel_rfl) (by kernel_rfl) (fun _ _ _ => plain_panic) (Or.inl ⟨by rfl, ?_⟩) (by assumption) ?_
                rotate_left
                · intro w7 hSw
                  try dsimp only at hSw
                  first | (go_simp; done) | (go_simp; with_reducible rfl)
                try simp only [Act.put, List.setIfInBounds_toArray, List.set_cons_zero, List.set_cons_succ]
                refine wpAnyH_take (i := 1) (oi := { dst := some 71, op := Go.Op.binOp Go.BinOp.lss 3 (Go.Operand.tmp 70) (Go.Operand.const (Go.Value.int Go.IntKind.i64 3)) 3, type := 4, pos := "law.go:141", after := #[{ on := 0, ground := Go.Ground.data }], guard := none }) (v := ?_) rfl (by kernel_rfl) (by kernel_rfl) (by kernel_rfl) (fun _ _ _ => plain_panic) (Or.inl ⟨by rfl, ?_⟩) (by assumption) ?_
                rotate_left
                · intro w7 hSw
                  try dsimp only at hSw
                  first | (go_simp; done) | (go_simp; with_reducible rfl)
                try simp only [Act.put, List.setIfInBounds_toArray, List.set_cons_zero, List.set_cons_succ]
                refine wpAnyH_take (i := 2) (oi := { dst := some 72, op := Go.Op.move (Go.Operand.tmp 71), type := 4, pos := "law.go:141", after := #[{ on := 1, ground := Go.Ground.data }], guard := none }) (v := ?_) rfl (by kernel_rfl) (by kernel_rfl) (by kernel_rfl) (fun _ _ _ => plain_panic) (Or.inl ⟨by rfl, ?_⟩) (by assumption) ?_
                rotate_left
                · intro w7 hSw
                  try dsimp only at hSw
                  first | (go_simp; done) | (go_simp; with_reducible rfl)
                try simp only [Act.put, List.setIfInBounds_toArray, List.set_cons_zero, List.set_cons_succ]
                refine wpAnyH_take (i := 3) (oi := { dst := some 73, op := Go.Op.load 44 (Go.Operand.tmp 10), type := 44, pos := "law.go:141", after := #[{ on := 2, ground := Go.Ground.guard }], guard := some (2, true) }) (v := ?_) rfl (by kernel_rfl) (by kernel_rfl) (by kernel_rfl) (fun _ _ _ => plain_panic) (Or.inl ⟨by rfl, ?_⟩) (by assumption) ?_
                rotate_left
                · intro w7 hSw
                  try dsimp only at hSw
                  first | (go_simp; done) | (go_simp; with_reducible rfl)
                try simp only [Act.put, List.setIfInBounds_toArray, List.set_cons_zero, List.set_cons_succ]
                refine wpAnyH_take (i := 4) (oi := { dst := some 74, op := Go.Op.load 25 (Go.Operand.tmp 7), type := 25, pos := "law.go:141", after := #[{ on := 2, ground := Go.Ground.guard }], guard := some (2, true) }) (v := ?_) rfl (by kernel_rfl) (by kernel_rfl) (by kernel_rfl) (fun _ _ _ => plain_panic) (Or.inl ⟨by rfl, ?_⟩) (by assumption) ?_
                rotate_left
                · intro w7 hSw
                  try dsimp only at hSw
                  first | (go_simp; done) | (go_simp; with_reducible rfl)
                try simp only [Act.put, List.setIfInBounds_toArray, List.set_cons_zero, List.set_cons_succ]
                refine wpAnyH_take (i := 5) (oi := { dst := some 75, op := Go.Op.load 29 (Go.Operand.tmp 4), type := 29, pos := "law.go:141", after := #[{ on := 2, ground := Go.Ground.guard }], guard := some (2, true) }) (v := ?_) rfl (by kernel_rfl) (by kernel_rfl) (by kernel_rfl) (fun _ _ _ => plain_panic) (Or.inl ⟨by rfl, ?_⟩) (by assumption) ?_
                rotate_left
                · intro w7 hSw
                  try dsimp only at hSw
                  first | (go_simp; done) | (go_simp; with_reducible rfl)
                try simp only [Act.put, List.setIfInBounds_toArray, List.set_cons_zero, List.set_cons_succ]
                refine wpAnyH_ready (rs := [6]) (by kernel_rfl) (by simp) ?_
                refine AllReadyH.cons (o := { dst := some 76, op := Go.Op.call { callee := Go.Callee.value (Go.Operand.func 28), args := #[Go.Operand.tmp 74, Go.Operand.tmp 75], argTypes := #[25, 29] }, type := 25, pos := "law.go:141", after := #[{ on := 4, ground := Go.Ground.data }, { on := 5, ground := Go.Ground.data }, { on := 2, ground := Go.Ground.chain }, { on := 2, ground := Go.Ground.guard }], guard := some (2, true) }) rfl (fun K hK => ?_) AllReadyH.nil
                go_simp
                refine (HFm.out _ (HI.out.keep0 ((Keep.refl [] _).drew.drew))).mono ?_; rintro e w5 ⟨v5, rfl, r5, k5⟩
                go_wp2_with fail
                refine hK.out _ _ (⟨k5.cell' hHeld.1 (by simp), k5.cell' hHeld.2.1 (by simp), k5.cell' hHeld.2.2.1 (by simp), k5.cell' hHeld.2.2.2.1 (by simp), k5.cell' hHeld.2.2.2.2 (by simp)⟩) (fun hHeld2 => ?_)
                try dsimp only at hHeld2
                clear hK hHeld
                have hHeld := hHeld2
                clear hHeld2
                try simp only [Act.put, List.setIfInBounds_toArray, List.set_cons_zero, List.set_cons_succ]
                refine wpAnyH_ready (rs := [7]) (by kernel_rfl) (by simp) ?_
                refine AllReadyH.cons (o := { dst := some 77, op := Go.Op.call { callee := Go.Callee.value (Go.Operand.func 27), args := #[Go.Operand.tmp 73, Go.Operand.tmp 76], argTypes := #[44, 25] }, type := 4, pos := "law.go:141", after := #[{ on := 3, ground := Go.Ground.data }, { on := 6, ground := Go.Ground.data }, { on := 6, ground := Go.Ground.chain }, { on := 2, ground := Go.Ground.guard }], guard := some (2, true) }) rfl (fun K hK => ?_) AllReadyH.nil
                go_simp
                refine (HTd.out _ _ (HI.out.keep0 ((Keep.refl [] _).drew.drew.trans' k5)) r5).mono ?_; rintro e w6 ⟨rfl, k6⟩
                go_wp2_with fail
                refine hK.out _ _ (⟨k6.cell' hHeld.1 (by simp), k6.cell' hHeld.2.1 (by simp), k6.cell' hHeld.2.2.1 (by simp), k6.cell' hHeld.2.2.2.1 (by simp), k6.cell' hHeld.2.2.2.2 (by simp)⟩) (fun hHeld2 => ?_)
                try dsimp only at hHeld2
                clear hK hHeld
                have hHeld := hHeld2
                clear hHeld2
                try simp only [Act.put, List.setIfInBounds_toArray, List.set_cons_zero, List.set_cons_succ]
                refine wpAnyH_take (i := 8) (oi := { dst := some 78, op := Go.Op.unOp Go.UnOp.not 4 (Go.Operand.tmp 77), type := 4, pos := "law.go:141", after := #[{ on := 7, ground := Go.Ground.data }, { on := 2, ground := Go.Ground.guard }], guard := some (2, true) }) (v := ?_) rfl (by kernel_rfl) (by kernel_rfl) (by kernel_rfl) (fun _ _ _ => plain_panic) (Or.inl ⟨by rfl, ?_⟩) (by assumption) ?_
                rotate_left
                · intro w7 hSw
                  try dsimp only at hSw
                  first | (go_simp; done) | (go_simp; with_reducible rfl)
                try simp only [Act.put, List.setIfInBounds_toArray, List.set_cons_zero, List.set_cons_succ]
                refine wpAnyH_take (i := 9) (oi := { dst := some 79, op := Go.Op.pick (Go.Operand.tmp 72) (Go.Operand.tmp 78) (Go.Operand.const (Go.Value.bool false)), type := 4, pos := "law.go:141", after := #[{ on := 2, ground := Go.Ground.data }, { on := 8, ground := Go.Ground.data }], guard := none }) (v := ?_) rfl (by kernel_rfl) (by kernel_rfl) (by kernel_rfl) (fun _ _ _ => plain_panic) (Or.inl ⟨by rfl, ?_⟩) (by assumption) ?_
                rotate_left
                · intro w7 hSw
                  try dsimp only at hSw
                  first | (go_simp; done) | (go_simp; with_reducible rfl)
                try simp only [Act.put, List.setIfInBounds_toArray, List.set_cons_zero, List.set_cons_succ]
                refine wpAnyH_done (by kernel_rfl) ⟨rfl, ?_⟩ _
                have HI2 : Hid (Wn w x k false bx bk bq bw c5 c6 A1 A2 F1 F2 (.slice (some ⟨gb, go_, none⟩) want.length cw) want N bn w8.heap.size pre.length w6) := (HI.out.keep0 ((Keep.refl [] _).drew.drew.trans' k5)).keep0 k6
                have HK2 : Hid (Keep [] W w6) := ((Keep.refl [] _).drew.drew.trans' k5).trans' k6
                clear d0 d1 d2 d3 d4 d5 d6 f0 f1 f2 g0 hHeld r5 k5 k6
                obtain ⟨d0, _, _, _, _, _, _⟩ := HI2.out.cells
                obtain ⟨f0, _, _⟩ := HI2.out.frees
                gi_wp2
                refine walk_next HI2.out HK2.out _ ?_ (by simp)
                have hw := HLn.out
                have hw2 := HWl.out
                have hw3 := HLl.out
                have e64 : wrap64 ((pre.length : Int) + 1) = (pre.length : Int) + 1 := by unfold wrap64; omega
                first | (rw [e64]; simp; done) | (simp; done) | (simp [e64]; done)
              · have h3z : ¬ (pre.length : Int) < 3 := by omega
                refine wpIn_region_held (S := (fun w' : World => w'.cell? ⟨bn, 0, none⟩ = some (.int .i64 (pre.length : Int)) ∧ w'.cell? ⟨c6, 0, none⟩ = some (vSq F1 F2) ∧ w'.cell? ⟨bw, 0, none⟩ = some (.slice (some ⟨gb, go_, none⟩) want.length cw) ∧ w'.cell? ⟨bx, 0, none⟩ = some (.int .i64 x.k) ∧ w'.cell? ⟨bx, 1, none⟩ = some (.int .i64 x.m))) (by kernel_rfl) (by kernel_rfl) (⟨d0, d4, d2, d5, d6⟩) (fun hHeld => ?_)
                try dsimp only at hHeld
                refine wpAnyH_take (i := 0) (oi := { dst := some 70, op := Go.Op.load 3 (Go.Operand.tmp 12), type := 3, pos := "law.go:141", after := #[], guard := none }) (v := ?_) rfl (by kernel_rfl) (by kernel_rfl) (by kernel_rfl) (fun _ _ _ => plain_panic) (Or.inl ⟨by rfl, ?_⟩) (by assumption) ?_
                rotate_left
                · intro w7 hSw
                  try dsimp only at hSw
                  first | (go_simp; done) | (go_simp; with_reducible rfl)
                try simp only [Act.put, List.setIfInBounds_toArray, List.set_cons_zero, List.set_cons_succ]
                refine wpAnyH_take (i := 1) (oi := { dst := some 71, op := Go.Op.binOp Go.BinOp.lss 3 (Go.Operand.tmp 70) (Go.Operand.const (Go.Value.int Go.IntKind.i64 3)) 3, type := 4, pos := "law.go:141", after := #[{ on := 0, ground := Go.Ground.data }], guard := none }) (v := ?_) rfl (by kernel_rfl) (by kernel_rfl) (by kernel_rfl) (fun _ _ _ => plain_panic) (Or.inl ⟨by rfl, ?_⟩) (by assumption) ?_
                rotate_left
                · intro w7 hSw
                  try dsimp only at hSw
                  first | (go_simp; done) | (go_simp; with_reducible rfl)
                try simp only [Act.put, List.setIfInBounds_toArray, List.set_cons_zero, List.set_cons_succ]
                refine wpAnyH_take (i := 2) (oi := { dst := some 72, op := Go.Op.move (Go.Operand.tmp 71), type := 4, pos := "law.go:141", after := #[{ on := 1, ground := Go.Ground.data }], guard := none }) (v := ?_) rfl (by kernel_rfl) (by kernel_rfl) (by kernel_rfl) (fun _ _ _ => plain_panic) (Or.inl ⟨by rfl, ?_⟩) (by assumption) ?_
                rotate_left
                · intro w7 hSw
                  try dsimp only at hSw
                  first | (go_simp; done) | (go_simp; with_reducible rfl)
                try simp only [Act.put, List.setIfInBounds_toArray, List.set_cons_zero, List.set_cons_succ]
                refine wpAnyH_take (i := 3) (oi := { dst := some 73, op := Go.Op.load 44 (Go.Operand.tmp 10), type := 44, pos := "law.go:141", after := #[{ on := 2, ground := Go.Ground.guard }], guard := some (2, true) }) (v := undef) rfl (by kernel_rfl) (by kernel_rfl) (by kernel_rfl) (fun _ _ _ => plain_panic) (Or.inr ⟨by rfl, rfl⟩) (by assumption) ?_
                try simp only [Act.put, List.setIfInBounds_toArray, List.set_cons_zero, List.set_cons_succ]
                refine wpAnyH_take (i := 4) (oi := { dst := some 74, op := Go.Op.load 25 (Go.Operand.tmp 7), type := 25, pos := "law.go:141", after := #[{ on := 2, ground := Go.Ground.guard }], guard := some (2, true) }) (v := undef) rfl (by kernel_rfl) (by kernel_rfl) (by kernel_rfl) (fun _ _ _ => plain_panic) (Or.inr ⟨by rfl, rfl⟩) (by assumption) ?_
                try simp only [Act.put, List.setIfInBounds_toArray, List.set_cons_zero, List.set_cons_succ]
                refine wpAnyH_take (i := 5) (oi := { dst := some 75, op := Go.Op.load 29 (Go.Operand.tmp 4), type := 29, pos := "law.go:141", after := #[{ on := 2, ground := Go.Ground.guard }], guard := some (2, true) }) (v := undef) rfl (by kernel_rfl) (by kernel_rfl) (by kernel_rfl) (fun _ _ _ => plain_panic) (Or.inr ⟨by rfl, rfl⟩) (by assumption) ?_
                try simp only [Act.put, List.setIfInBounds_toArray, List.set_cons_zero, List.set_cons_succ]
                refine wpAnyH_take (i := 6) (oi := { dst := some 76, op := Go.Op.call { callee := Go.Callee.value (Go.Operand.func 28), args := #[Go.Operand.tmp 74, Go.Operand.tmp 75], argTypes := #[25, 29] }, type := 25, pos := "law.go:141", after := #[{ on := 4, ground := Go.Ground.data }, { on := 5, ground := Go.Ground.data }, { on := 2, ground := Go.Ground.chain }, { on := 2, ground := Go.Ground.guard }], guard := some (2, true) }) (v := undef) rfl (by kernel_rfl) (by kernel_rfl) (by kernel_rfl) (fun _ _ _ => plain_panic) (Or.inr ⟨by rfl, rfl⟩) (by assumption) ?_
                try simp only [Act.put, List.setIfInBounds_toArray, List.set_cons_zero, List.set_cons_succ]
                refine wpAnyH_take (i := 7) (oi := { dst := some 77, op := Go.Op.call { callee := Go.Callee.value (Go.Operand.func 27), args := #[Go.Operand.tmp 73, Go.Operand.tmp 76], argTypes := #[44, 25] }, type := 4, pos := "law.go:141", after := #[{ on := 3, ground := Go.Ground.data }, { on := 6, ground := Go.Ground.data }, { on := 6, ground := Go.Ground.chain }, { on := 2, ground := Go.Ground.guard }], guard := some (2, true) }) (v := undef) rfl (by kernel_rfl) (by kernel_rfl) (by kernel_rfl) (fun _ _ _ => plain_panic) (Or.inr ⟨by rfl, rfl⟩) (by assumption) ?_
                try simp only [Act.put, List.setIfInBounds_toArray, List.set_cons_zero, List.set_cons_succ]
                refine wpAnyH_take (i := 8) (oi := { dst := some 78, op := Go.Op.unOp Go.UnOp.not 4 (Go.Operand.tmp 77), type := 4, pos := "law.go:141", after := #[{ on := 7, ground := Go.Ground.data }, { on := 2, ground := Go.Ground.guard }], guard := some (2, true) }) (v := undef) rfl (by kernel_rfl) (by kernel_rfl) (by kernel_rfl) (fun _ _ _ => plain_panic) (Or.inr ⟨by rfl, rfl⟩) (by assumption) ?_
                try simp only [Act.put, List.setIfInBounds_toArray, List.set_cons_zero, List.set_cons_succ]
                refine wpAnyH_take (i := 9) (oi := { dst := some 79, op := Go.Op.pick (Go.Operand.tmp 72) (Go.Operand.tmp 78) (Go.Operand.const (Go.Value.bool false)), type := 4, pos := "law.go:141", after := #[{ on := 2, ground := Go.Ground.data }, { on := 8, ground := Go.Ground.data }], guard := none }) (v := ?_) rfl (by kernel_rfl) (by kernel_rfl) (by kernel_rfl) (fun _ _ _ => plain_panic) (Or.inl ⟨by rfl, ?_⟩) (by assumption) ?_
                rotate_left
                · intro w7 hSw
                  try dsimp only at hSw
                  first | (go_simp; done) | (go_simp; with_reducible rfl)
                try simp only [Act.put, List.setIfInBounds_toArray, List.set_cons_zero, List.set_cons_succ]
                refine wpAnyH_done (by kernel_rfl) ⟨rfl, ?_⟩ _
                have HI2 : Hid (Wn w x k false bx bk bq bw c5 c6 A1 A2 F1 F2 (.slice (some ⟨gb, go_, none⟩) want.length cw) want N bn w8.heap.size pre.length W.drew.drew) := HI.out.keep0 ((Keep.refl [] _).drew.drew)
                have HK2 : Hid (Keep [] W W.drew.drew) := (Keep.refl [] _).drew.drew
                clear d0 d1 d2 d3 d4 d5 d6 f0 f1 f2 g0 hHeld
                generalize W.drew.drew = w6 at *
                obtain ⟨d0, _, _, _, _, _, _⟩ := HI2.out.cells
                obtain ⟨f0, _, _⟩ := HI2.out.frees
                gi_wp2
                refine walk_next HI2.out HK2.out _ ?_ (by simp)
                have hw := HLn.out
                have hw2 := HWl.out
                have hw3 := HLl.out
                have e64 : wrap64 ((pre.length : Int) + 1) = (pre.length : Int) + 1 := by unfold wrap64; omega
                first | (rw [e64]; simp; done) | (simp; done) | (simp [e64]; done)
          · have HDU := HDT.out rfl
            have HDV : Hid (type_of% HDU) := HDU
            have HQl := HI.out.qlt.1
            clear HDT HDU
            gi_wp2
            exact ⟨Keep.from (R := [bq]) (((Keep.refl _ W).drew.setCell (.inl (by simp)) _)) (by intro r hr; simp at hr; omega), .inl HDV.out⟩
        case rest =>
          rintro D W hD ⟨m, hm, hmk⟩ hK
          have HI : Hid (Wn w x k false bx bk bq bw c5 c6 A1 A2 F1 F2 (.slice aw want.length cw) want N bn w8.heap.size m W) := hm
          have HD : Hid (W.heap[D]? = some (.deferred (some []))) := hK
          have HDw : Hid (w.heap.size ≤ D ∧ bq < D) := by have := hm.hb; have := hm.wk.ge; have := hm.wk.lt; show _ ∧ _; omega
          obtain ⟨d0, d1, d2, d3, d4, d5, d6⟩ := hm.cells
          have HBn : Hid (bn ≠ bq) := by have := hm.hb; have := hm.wk.lt; show _ ≠ _; omega
          have HBw : Hid (bw ≠ bq) := fun e => by have h1 := hm.wk.hv; rw [e, hm.wk.hq] at h1; cases h1
          have HBx : Hid (bx ≠ bq) := fun e => by have h1 := hm.wk.hx; rw [e, hm.wk.hq] at h1; cases h1
          clear hm hK
          go_upto_region 22 with (fail)
          go_cut [96] from 54 (fun s96 wq => s96 = .bool false ∧ Hid (∃ m, Wn w x k false bx bk bq bw c5 c6 A1 A2 F1 F2 (.slice aw want.length cw) want N bn w8.heap.size m wq ∧ wq.heap[D]? = some (.deferred (some []))))
          case first =>
            have HRel : Hid (∀ wq, Keep [] W wq → ∃ m, Wn w x k false bx bk bq bw c5 c6 A1 A2 F1 F2 (.slice aw want.length cw) want N bn w8.heap.size m wq ∧ wq.heap[D]? = some (.deferred (some []))) := fun wq kk => ⟨m, HI.out.keep0 kk, (kk.block _ (Array.getElem?_eq_some_iff.1 HD.out).1 (by simp)).trans HD.out⟩
            by_cases hkk : (m : Int) = k
            · subst hkk
              go_wp2_with fail
              refine (HTa.out _ HI.out).mono ?_
              rintro e w5 ⟨rfl, k5⟩
              go_wp2_with fail
              go_meet
              case rel => exact ⟨rfl, HRel.out _ k5⟩
            · obtain rfl : m = want.length := hmk.resolve_left hkk
              clear hmk
              go_wp2_with fail
              refine (HTa.out _ HI.out).mono ?_
              rintro e w5 ⟨rfl, k5⟩
              go_wp2_with fail
              go_meet
              case rel => exact ⟨rfl, HRel.out _ k5⟩
          case rest =>
            obtain ⟨rfl, HQ⟩ := hcut
            obtain ⟨m2, hm2, hd2⟩ := HQ.out
            obtain ⟨e0, e1, e2, e3, e4, e5, e6⟩ := hm2.cells
            have f0 := hm2.frees.1
            have hs := hm2.setN 0
            have h6 : (wc.setCell ⟨bn, 0, none⟩ (.int .i64 0)).cell? ⟨c6, 0, none⟩ = some (vSq F1 F2) := hs.1.cells.2.2.2.2.1
            have HN2 : Hid (Wn w x k false bx bk bq bw c5 c6 A1 A2 F1 F2 (.slice aw want.length cw) want N bn (wc.setCell ⟨bn, 0, none⟩ (.int .i64 0)).heap.size 0 (wc.setCell ⟨bn, 0, none⟩ (.int .i64 0))) := hs.1.raise (Nat.le_trans hm2.hM hs.2.1.size) (Nat.le_refl _)
            have HD2 : Hid ((wc.setCell ⟨bn, 0, none⟩ (.int .i64 0)).heap[D]? = some (.deferred (some []))) := (hs.2.1.block _ (Array.getElem?_eq_some_iff.1 hd2).1 (by simp; intro e; rw [e, hm2.n] at hd2; cases hd2)).trans hd2
            clear hs hm2 hd2 HQ HI HD hmk d0 d1 d2 d3 d4 d5 d6
            go_wp2_with fail
            generalize wc.setCell ⟨bn, 0, none⟩ (.int .i64 0) = w9 at *
            have HDl : Hid (D < w9.heap.size) := (Array.getElem?_eq_some_iff.1 HD2.out).1
            refine range_sq (B1 := F1) (B2 := F2) (L := (want.drop (rnk want x.k))) (w := w9) rfl rfl HN2.out.wk.frm (fun pre W => Wn w x k false bx bk bq bw c5 c6 A1 A2 F1 F2 (.slice aw want.length cw) want N bn w9.heap.size pre.length W ∧ W.heap[D]? = some (.deferred (some []))) (fun c p W => ¬ p <+: (want.drop (rnk want x.k)))
              (fun s A B row hs hg hr => ⟨hs.1.grow hg (fun r e => hr r e), ((Keep.grown hg).block _ (Array.getElem?_eq_some_iff.1 hs.2).1 (fun hm => by have := (hr D (by simpa using hm)).1; have := HDl.out; omega)).trans hs.2⟩) (fun c s A B row hs hg hr => hs) ⟨HN2.out, HD2.out⟩ (fun pre W o h => ⟨h.1.keep0 (Keep.alloc1 _ _), ((Keep.alloc1 W o).block _ (Array.getElem?_eq_some_iff.1 h.2).1 (by simp)).trans h.2⟩) (fun pre W h => h.1.hM)
              (fun W => Wn w x k false bx bk bq bw c5 c6 A1 A2 F1 F2 (.slice aw want.length cw) want N bn w9.heap.size (want.drop (rnk want x.k)).length W ∧ W.heap[D]? = some (.deferred (some []))) (fun W h => h) (fun c pre W hp h => absurd hp h) ?fr2 ?assign2 ?body2 ?rest2
            case assign2 =>
              intro l9 y W K B hB hK
              gi_wp2
              rw [← hB]
              exact hK
            case body2 =>
              rintro l9 pre y W By hl9 ⟨hi, hD9⟩ hBy hby hpl
              obtain ⟨⟨z0, z1⟩, _, _⟩ := two_facts hby
              have HI : Hid (Wn w x k false bx bk bq bw c5 c6 A1 A2 F1 F2 (.slice aw want.length cw) want N bn w9.heap.size pre.length W ∧ W.heap[D]? = some (.deferred (some []))) := ⟨hi, hD9⟩
              obtain ⟨d0, d1, d2, d3, d4, d5, d6⟩ := hi.cells
              obtain ⟨f0, f1, f2⟩ := hi.frees
              have hpw : pre.length < want.length := by rw [List.length_drop] at hpl; omega
              have HLn : Hid (pre.length < want.length) := hpw
              have hlq : ¬ (want.length : Int) ≤ (pre.length : Int) := by omega
              have hlqN : ¬ want.length ≤ pre.length := by omega
              have hdec : decide (want.length ≤ pre.length) = false := by simp; omega
              have hdd : ∀ n, (Fence.wide.inRound l9).depth.isSome = true → 1 ≤ n := fun _ h => by cases h
              have HQl := hi.qlt.1
              clear hi hD9 hby
              by_cases hyx : y.k < x.k
              · have HNo : Hid (¬ (pre ++ [y]) <+: (want.drop (rnk want x.k))) := fun hp => by
                  have h1 := ris_high HRis.out x.k y (hp.subset (by simp))
                  omega
                refine wpIn_block (wpIn_seq (wpIn_seq (wpIn_region_seqP (by kernel_rfl) ?_)))
                go_wp2
                refine ⟨rfl, ?_⟩
                simp only [Exit.then]
                gi_wp2
                exact ⟨Keep.from (R := [bq]) ((Keep.refl _ W).setCell (.inl (by simp)) _) (by intro r hr; simp at hr; omega), HNo.out⟩
              · by_cases h2 : pre.length < 2
                · have h2z : (pre.length : Int) < 2 := by omega
                  refine wpIn_block (wpIn_seq (wpIn_seq (wpIn_region_seqP (by kernel_rfl) ?_)))
                  go_wp2_with fail
                  refine (HTa.out _ HI.out.1).mono ?_
                  rintro e w5 ⟨rfl, k5⟩
                  go_wp2
                  refine ⟨rfl, ?_⟩
                  simp only [Exit.then]
                  have HI2 : Hid (Wn w x k false bx bk bq bw c5 c6 A1 A2 F1 F2 (.slice aw want.length cw) want N bn w9.heap.size pre.length w5) := HI.out.1.keep0 k5
                  have hDb : w5.heap[D]? = some (.deferred (some [])) := (k5.block _ (Array.getElem?_eq_some_iff.1 HI.out.2).1 (by simp)).trans HI.out.2
                  have HDb : Hid (type_of% hDb) := hDb
                  have HK5 : Hid (Keep [] W w5) := k5
                  clear hDb k5 d0 d1 d2 d3 d4 d5 d6 f0 f1 f2
                  have g0 := HI2.out.cells.1
                  have g1 := HI2.out.frees.1
                  gi_wp2
                  refine walk_next2 HI2.out HK5.out _ ?_ (by simp) HDb.out
                  have hw := HLn.out
                  have hw2 := HWl.out
                  have hw3 := HLl.out
                  have e64 : wrap64 ((pre.length : Int) + 1) = (pre.length : Int) + 1 := by unfold wrap64; omega
                  first | (rw [e64]; simp; done) | (simp; done) | (simp [e64]; done)
                · have h2z : ¬ (pre.length : Int) < 2 := by omega
                  refine wpIn_block (wpIn_seq (wpIn_seq (wpIn_region_seqP (by kernel_rfl) ?_)))
                  go_wp2
                  refine ⟨rfl, ?_⟩
                  simp only [Exit.then]
                  gi_wp2
                  refine walk_next2 HI.out.1 (Keep.refl [] _) _ ?_ (by simp) HI.out.2
                  have hw := HLn.out
                  have hw2 := HWl.out
                  have hw3 := HLl.out
                  have e64 : wrap64 ((pre.length : Int) + 1) = (pre.length : Int) + 1 := by unfold wrap64; omega
                  first | (rw [e64]; simp; done) | (simp; done) | (simp [e64]; done)
            case rest2 =>
              rintro D2 W hD2 ⟨hi, hD9⟩ hK2
              have HI : Hid (Wn w x k false bx bk bq bw c5 c6 A1 A2 F1 F2 (.slice aw want.length cw) want N bn w9.heap.size (want.drop (rnk want x.k)).length W) := hi
              have HDs : Hid (W.heap[D]? = some (.deferred (some [])) ∧ W.heap[D2]? = some (.deferred (some [])) ∧ w9.heap.size ≤ D2 ∧ D < w9.heap.size) := ⟨hD9, hK2, hD2, HDl.out⟩
              obtain ⟨d0, d1, d2, d3, d4, d5, d6⟩ := hi.cells
              clear hi hD9 hK2 HTa HTd
              go_wp2_with fail
              refine wp_region_heldP (S := (fun w' : World => w'.cell? ⟨bn, 0, none⟩ = some (.int .i64 ((want.drop (rnk want x.k)).length : Int)) ∧ w'.cell? ⟨bw, 0, none⟩ = some (.slice aw want.length cw) ∧ w'.cell? ⟨bx, 0, none⟩ = some (.int .i64 x.k) ∧ w'.cell? ⟨bx, 1, none⟩ = some (.int .i64 x.m))) (by kernel_rfl) (⟨d0, d2, d5, d6⟩) (fun hHeld => ?_)
              try dsimp only at hHeld
              refine wpAnyH_take (i := 0) (oi := { dst := some 122, op := Go.Op.load 3 (Go.Operand.tmp 12), type := 3, pos := "law.go:156", after := #[], guard := none }) (v := ?_) rfl (by kernel_rfl) (by kernel_rfl) (by kernel_rfl) (fun _ _ _ => plain_panic) (Or.inl ⟨by rfl, ?_⟩) (by assumption) ?_
              rotate_left
              · intro w7 hSw
                try dsimp only at hSw
                first | (go_simp; done) | (go_simp; with_reducible rfl)
              try simp only [Act.put, List.setIfInBounds_toArray, List.set_cons_zero, List.set_cons_succ]
              refine wpAnyH_take (i := 1) (oi := { dst := some 123, op := Go.Op.load 25 (Go.Operand.tmp 7), type := 25, pos := "law.go:156", after := #[], guard := none }) (v := ?_) rfl (by kernel_rfl) (by kernel_rfl) (by kernel_rfl) (fun _ _ _ => plain_panic) (Or.inl ⟨by rfl, ?_⟩) (by assumption) ?_
              rotate_left
              · intro w7 hSw
                try dsimp only at hSw
                first | (go_simp; done) | (go_simp; with_reducible rfl)
              try simp only [Act.put, List.setIfInBounds_toArray, List.set_cons_zero, List.set_cons_succ]
              refine wpAnyH_take (i := 2) (oi := { dst := some 124, op := Go.Op.load 29 (Go.Operand.tmp 4), type := 29, pos := "law.go:156", after := #[], guard := none }) (v := ?_) rfl (by kernel_rfl) (by kernel_rfl) (by kernel_rfl) (fun _ _ _ => plain_panic) (Or.inl ⟨by rfl, ?_⟩) (by assumption) ?_
              rotate_left
              · intro w7 hSw
                try dsimp only at hSw
                first | (go_simp; done) | (go_simp; with_reducible rfl)
              try simp only [Act.put, List.setIfInBounds_toArray, List.set_cons_zero, List.set_cons_succ]
              refine wpAnyH_ready (rs := [3]) (by kernel_rfl) (by simp) ?_
              refine AllReadyH.cons (o := { dst := some 125, op := Go.Op.call { callee := Go.Callee.value (Go.Operand.func 28), args := #[Go.Operand.tmp 123, Go.Operand.tmp 124], argTypes := #[25, 29] }, type := 25, pos := "law.go:156", after := #[{ on := 1, ground := Go.Ground.data }, { on := 2, ground := Go.Ground.data }], guard := none }) rfl (fun K hK => ?_) AllReadyH.nil
              go_simp
              refine (HFm.out _ (HI.out.keep0 ((Keep.refl [] _).drew))).mono ?_; rintro e w5 ⟨v5, rfl, r5, k5⟩; obtain ⟨a5, c5_, rfl, _, _⟩ := r5.form
              go_wp2_with fail
              refine hK.out _ _ (⟨k5.cell' hHeld.1 (by simp), k5.cell' hHeld.2.1 (by simp), k5.cell' hHeld.2.2.1 (by simp), k5.cell' hHeld.2.2.2 (by simp)⟩) (fun hHeld2 => ?_)
              try dsimp only at hHeld2
              clear hK hHeld
              have hHeld := hHeld2
              clear hHeld2
              try simp only [Act.put, List.setIfInBounds_toArray, List.set_cons_zero, List.set_cons_succ]
              refine wpAnyH_take (i := 4) (oi := { dst := some 126, op := Go.Op.call { callee := Go.Callee.builtin Go.Builtin.len, args := #[Go.Operand.tmp 125], argTypes := #[25] }, type := 3, pos := "law.go:156", after := #[{ on := 3, ground := Go.Ground.data }], guard := none }) (v := ?_) rfl (by kernel_rfl) (by kernel_rfl) (by kernel_rfl) (fun _ _ _ => plain_panic) (Or.inl ⟨by rfl, ?_⟩) (by assumption) ?_
              rotate_left
              · intro w7 hSw
                try dsimp only at hSw
                first | (go_simp; done) | (go_simp; with_reducible rfl)
              try simp only [Act.put, List.setIfInBounds_toArray, List.set_cons_zero, List.set_cons_succ]
              refine wpAnyH_take (i := 5) (oi := { dst := some 127, op := Go.Op.binOp Go.BinOp.eql 3 (Go.Operand.tmp 122) (Go.Operand.tmp 126) 3, type := 4, pos := "law.go:156", after := #[{ on := 0, ground := Go.Ground.data }, { on := 4, ground := Go.Ground.data }], guard := none }) (v := ?_) rfl (by kernel_rfl) (by kernel_rfl) (by kernel_rfl) (fun _ _ _ => plain_panic) (Or.inl ⟨by rfl, ?_⟩) (by assumption) ?_
              rotate_left
              · intro w7 hSw
                try dsimp only at hSw
                first | (go_simp; done) | (go_simp; with_reducible rfl)
              try simp only [Act.put, List.setIfInBounds_toArray, List.set_cons_zero, List.set_cons_succ]
              refine wpAnyH_take (i := 6) (oi := { dst := some 128, op := Go.Op.move (Go.Operand.tmp 127), type := 4, pos := "law.go:156", after := #[{ on := 5, ground := Go.Ground.data }, { on := 3, ground := Go.Ground.chain }], guard := none }) (v := ?_) rfl (by kernel_rfl) (by kernel_rfl) (by kernel_rfl) (fun _ _ _ => plain_panic) (Or.inl ⟨by rfl, ?_⟩) (by assumption) ?_
              rotate_left
              · intro w7 hSw
                try dsimp only at hSw
                first | (go_simp; done) | (go_simp; with_reducible rfl)
              try simp only [Act.put, List.setIfInBounds_toArray, List.set_cons_zero, List.set_cons_succ]
              refine wpAnyH_ready (rs := [7]) (by kernel_rfl) (by simp) ?_
              refine AllReadyH.cons (o := { dst := some 129, op := Go.Op.call { callee := Go.Callee.value (Go.Operand.func 23), args := #[], argTypes := #[] }, type := 4, pos := "law.go:156", after := #[{ on := 6, ground := Go.Ground.chain }, { on := 6, ground := Go.Ground.guard }], guard := some (6, true) }) rfl (fun K hK => ?_) AllReadyH.nil
              go_simp
              refine (HAw.out _).mono ?_; rintro e w6 ⟨rfl, k6⟩; have HI6 : Hid (type_of% (HI.out.keep0 (((Keep.refl [] _).drew.trans' k5).trans' k6))) := HI.out.keep0 (((Keep.refl [] _).drew.trans' k5).trans' k6); have fq := HI6.out.frees.2.1; have cq := HI6.out.frees.2.2
              go_wp2_with fail
              refine hK.out _ _ (⟨k6.cell' hHeld.1 (by simp), k6.cell' hHeld.2.1 (by simp), k6.cell' hHeld.2.2.1 (by simp), k6.cell' hHeld.2.2.2 (by simp)⟩) (fun hHeld2 => ?_)
              try dsimp only at hHeld2
              clear hK hHeld
              have hHeld := hHeld2
              clear hHeld2
              try simp only [Act.put, List.setIfInBounds_toArray, List.set_cons_zero, List.set_cons_succ]
              refine wpAnyH_take (i := 8) (oi := { dst := some 130, op := Go.Op.pick (Go.Operand.tmp 128) (Go.Operand.tmp 129) (Go.Operand.const (Go.Value.bool false)), type := 4, pos := "law.go:156", after := #[{ on := 6, ground := Go.Ground.data }, { on := 7, ground := Go.Ground.data }], guard := none }) (v := ?_) rfl (by kernel_rfl) (by kernel_rfl) (by kernel_rfl) (fun _ _ _ => plain_panic) (Or.inl ⟨by rfl, ?_⟩) (by assumption) ?_
              rotate_left
              · intro w7 hSw
                try dsimp only at hSw
                first | (go_simp; done) | (go_simp; with_reducible rfl)
              try simp only [Act.put, List.setIfInBounds_toArray, List.set_cons_zero, List.set_cons_succ]
              refine wpAnyH_ready (rs := [9]) (by kernel_rfl) (by simp) ?_
              refine AllReadyH.cons (o := { dst := none, op := Go.Op.store 4 (Go.Operand.tmp 6) (Go.Operand.tmp 130), type := 0, pos := "law.go:156", after := #[{ on := 8, ground := Go.Ground.data }, { on := 7, ground := Go.Ground.chain }, { on := 0, ground := Go.Ground.phase }, { on := 1, ground := Go.Ground.phase }, { on := 2, ground := Go.Ground.phase }, { on := 3, ground := Go.Ground.phase }, { on := 4, ground := Go.Ground.phase }, { on := 5, ground := Go.Ground.phase }, { on := 6, ground := Go.Ground.phase }, { on := 7, ground := Go.Ground.phase }, { on := 8, ground := Go.Ground.phase }], guard := none }) rfl (fun K hK => ?_) AllReadyH.nil
              go_simp
              skip
              go_wp2_with fail
              refine hK.out _ _ (⟨(Keep.set1 _ ⟨bq, 0, none⟩ _).cell' hHeld.1 (by simpa using HBn.out), (Keep.set1 _ ⟨bq, 0, none⟩ _).cell' hHeld.2.1 (by simpa using HBw.out), (Keep.set1 _ ⟨bq, 0, none⟩ _).cell' hHeld.2.2.1 (by simpa using HBx.out), (Keep.set1 _ ⟨bq, 0, none⟩ _).cell' hHeld.2.2.2 (by simpa using HBx.out)⟩) (fun hHeld2 => ?_)
              try dsimp only at hHeld2
              clear hK hHeld
              have hHeld := hHeld2
              clear hHeld2
              try simp only [Act.put, List.setIfInBounds_toArray, List.set_cons_zero, List.set_cons_succ]
              refine wpAnyH_done (by kernel_rfl) ⟨rfl, ?_⟩ _
              go_wp2
              have K6 : Keep [] W w6 := ((Keep.refl [] _).drew.trans' k5).trans' k6
              obtain ⟨s1, s2, s3, s4⟩ := HDs.out
              have hw6 := HI6.out
              have hqb := hw6.qlt.1
              have hbq := hw6.wk.ge.1
              have hDw := HDw.out
              have kq : Keep [bq] w6 (w6.setCell ⟨bq, 0, none⟩ (.bool true)) := Keep.set1 w6 ⟨bq, 0, none⟩ _
              have hq6 : (w6.setCell ⟨bq, 0, none⟩ (.bool true)).heap[bq]? = some (.cells #[.bool true] 4 (0, 0)) := one_setCell hw6.wk.hq
              have t2 : (w6.setCell ⟨bq, 0, none⟩ (.bool true)).heap[D2]? = some (.deferred (some [])) := by
                have h := (K6.block _ (Array.getElem?_eq_some_iff.1 s2).1 (by simp)).trans s2
                exact (kq.block _ (Array.getElem?_eq_some_iff.1 h).1 (by simp; omega)).trans h
              have t1 : (w6.setCell ⟨bq, 0, none⟩ (.bool true)).heap[D]? = some (.deferred (some [])) := by
                have h := (K6.block _ (Array.getElem?_eq_some_iff.1 s1).1 (by simp)).trans s1
                exact (kq.block _ (Array.getElem?_eq_some_iff.1 h).1 (by simp; omega)).trans h
              have kall : Keep [] w (w6.setCell ⟨bq, 0, none⟩ (.bool true)) := hw6.wk.kp.more kq (by intro y hy; simp at hy; omega)
              generalize w6.setCell ⟨bq, 0, none⟩ (.bool true) = Wq at *
              have p2 : Keep [D2] Wq (Wq.putObj D2 (.deferred none)) := Keep.grown (grownBy_putObj' _ D2 _)
              have t1' : (Wq.putObj D2 (.deferred none)).heap[D]? = some (.deferred (some [])) := (p2.block _ (Array.getElem?_eq_some_iff.1 t1).1 (by simp; omega)).trans t1
              have q1' : (Wq.putObj D2 (.deferred none)).heap[bq]? = some (.cells #[.bool true] 4 (0, 0)) := (p2.block _ (Array.getElem?_eq_some_iff.1 hq6).1 (by simp; omega)).trans hq6
              have p1 : Keep [D] (Wq.putObj D2 (.deferred none)) ((Wq.putObj D2 (.deferred none)).putObj D (.deferred none)) := Keep.grown (grownBy_putObj' _ D _)
              have q2' : ((Wq.putObj D2 (.deferred none)).putObj D (.deferred none)).heap[bq]? = some (.cells #[.bool true] 4 (0, 0)) := (p1.block _ (Array.getElem?_eq_some_iff.1 q1').1 (by simp; omega)).trans q1'
              have hc2 := one_cell q2'
              refine ⟨by simp, .inl ⟨_, _, rfl, run_takeDeferred t2, ⟨by simp, .inl ⟨_, _, rfl, run_takeDeferred t1', ?_⟩⟩⟩⟩
              exact ⟨_, by simp [results, Try.results4, go_sem, hc2], rfl, (kall.more p2 (by intro y hy; simp at hy; omega)).more p1 (by intro y hy; simp at hy; omega)⟩

end Go.Proofs.Ytkelhglflpdpeaa
