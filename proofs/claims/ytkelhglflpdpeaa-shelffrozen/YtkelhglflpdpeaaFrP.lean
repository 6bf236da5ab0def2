/- ShelfFrozen: behind Freeze two shelves go their own ways. -/
import Derived.Test.YtkelhglflpdpeaaOc

namespace Go.Proofs.Ytkelhglflpdpeaa
open Go.RowKit Go.PlainAid


/-- between two rounds: four shelves, and what the first one told -/
structure Fz (w : World) (bs bm bt bu : Nat) (vw : Value) (L0 L : List Pr) (W : World) : Prop where
  s : Sh W bs 10 L0
  u : Sh W bu 10 L0
  m : Sh W bm 10 L
  t : Sh W bt 10 L
  was : Rw 29 encP 2 W vw L0
  kp : Keep [] w W
  ne : bs ≠ bm ∧ bs ≠ bt ∧ bu ≠ bm ∧ bu ≠ bt ∧ bm ≠ bt ∧ w.heap.size ≤ bm ∧ w.heap.size ≤ bt
theorem Sh.notRow {W : World} {b k : Nat} {l : List Pr} (h : Sh W b k l) {E : TypeId} {s : Nat} {v : Value} {n : Nat} {xs : List Value} (hr : RowC W E s v n xs) (hE : E ≠ 82) : Off v [b] := fun g hg hm => by
  simp at hm
  subst hm
  obtain ⟨cur, hb⟩ := RowC.blk hr hg
  obtain ⟨p, T, a, _⟩ := h.ex
  rw [a] at hb
  cases hb
  exact hE rfl
theorem Fz.step {w : World} {bs bm bt bu : Nat} {vw : Value} {L0 L L' : List Pr} {W W1 W2 : World} (h : Fz w bs bm bt bu vw L0 L W) (k1 : Keep [bt] W W1) (t1 : Sh W1 bt 10 L') (k2 : Keep [bm] W1 W2) (m2 : Sh W2 bm 10 L') : Fz w bs bm bt bu vw L0 L' W2 := by
  obtain ⟨n1, n2, n3, n4, n5, n6, n7⟩ := h.ne
  have kt1 := h.t.kt k1
  have m1 := h.m.keep k1 kt1 (by simp; omega)
  have kt2 := m1.kt k2
  refine ⟨(h.s.keep k1 kt1 (by simp; omega)).keep k2 kt2 (by simp; omega), (h.u.keep k1 kt1 (by simp; omega)).keep k2 kt2 (by simp; omega), m2, t1.keep k2 kt2 (by simp; omega), ?_, (h.kp.more k1 (by intro y hy; simp at hy; omega)).more k2 (by intro y hy; simp at hy; omega), h.ne⟩
  have hw1 : Rw 29 encP 2 W1 vw L0 := h.was.keep k1 (h.t.notRow h.was (by decide))
  exact hw1.keep k2 (m1.notRow hw1 (by decide))
theorem Fz.drew {w : World} {bs bm bt bu : Nat} {vw : Value} {L0 L : List Pr} {W : World} (h : Fz w bs bm bt bu vw L0 L W) {W' : World} (k : Keep [] W W') : Fz w bs bm bt bu vw L0 L W' :=
  ⟨h.s.keep0 k, h.u.keep0 k, h.m.keep0 k, h.t.keep0 k, h.was.keep k (Off.nil _), h.kp.trans' k, h.ne⟩


theorem gathered_all (B1 B2 : Nat) (L : List Pr) (z : Int) (w : World) (hq : Sq w B1 B2 L) (hl : L.length ≤ 13194139532928) (hn : (L.length : Int) ≤ z) :
    Calls Try.prog 21 #[vSq B1 B2, .int .i64 z] w fun e w' => ∃ a c, e = .returned (.slice a L.length c) ∧ Rw 29 encP 2 w' (.slice a L.length c) L ∧ Keep [] w w' ∧ Fresh w w' (.slice a L.length c) := by
  obtain ⟨n, rfl⟩ : ∃ n : Nat, z = (n : Int) := ⟨z.toNat, by omega⟩
  refine (gathered_any B1 B2 L n w hq hl).mono ?_
  rintro e w' ⟨v, he, hr, hk, hf⟩
  rw [List.take_of_length_le (by omega)] at hr
  obtain ⟨a, c, rfl, _, _⟩ := (hr.rd encP_len).form
  exact ⟨a, c, he, hr, hk, hf⟩

set_option maxRecDepth 100000 in
set_option maxHeartbeats 8000000 in
theorem frozen_law (hTd : ∀ (B1 B2 : Nat) (L : List Pr) (v : Value) (w9 : World), Sq w9 B1 B2 L → Rd encP 2 w9 v L → Calls Try.prog 27 #[vSq B1 B2, v] w9 fun e w' => e = .returned (.bool true) ∧ Keep [] w9 w') (v0 v1 : Value) (l : List Pr) (os : List Oc) (w : World) (h0 : Rd encP 2 w v0 l) (h1 : Rd encO 4 w v1 os) (hl : l.length ≤ 8796093021952) (ho : os.length ≤ 4398046510976) (hok : OkO os) :
    Calls Try.prog 7 #[v0, v1] w fun e w' => e = .returned (.bool true) ∧ Keep [] w w' := by
  obtain ⟨a0, c0, rfl, p0, p1⟩ := h0.form
  obtain ⟨a1, c1, rfl, p2, p3⟩ := h1.form
  have H0 : Hid (Rd encP 2 w (.slice a0 l.length c0) l) := h0
  have H1 : Hid (Rd encO 4 w (.slice a1 os.length c1) os) := h1
  have HB : Hid (l.length ≤ 8796093021952 ∧ os.length ≤ 4398046510976 ∧ OkO os) := ⟨hl, ho, hok⟩
  have hml := madeL_len l
  have HAw : Hid (Calls Try.prog 23 #[] w fun e w' => e = .returned (.bool true) ∧ Keep [] w w') := awake_any w
  have HMa : Hid (∀ w9, Keep [] w w9 → Calls Try.prog 25 #[.slice a0 l.length c0] w9 fun e w' => ∃ b, e = .returned (vA b) ∧ Sh w' b 10 (madeL l) ∧ Keep [] w9 w' ∧ w9.heap.size ≤ b) := fun w9 kk => made_any _ l w9 (h0.keep kk (Off.nil _)) (by omega)
  obtain ⟨L0, HL0⟩ : ∃ L0 : List Pr, Hid (L0 = madeL l) := ⟨_, show _ = _ from rfl⟩
  rw [← HL0.out] at HMa hml
  have HAll : Hid (∀ b L w9, Sh w9 b 10 L → L.length ≤ 1152921504606846976 → Calls Try.prog 22 #[vA b] w9 fun e w' => ∃ v, e = .returned v ∧ SqN w9 w' v L) := fun b L w9 hs hl => shAll_any b 10 L w9 hs hl
  have HGa : Hid (∀ B1 B2 L z w9, Sq w9 B1 B2 L → L.length ≤ 13194139532928 → (L.length : Int) ≤ z → Calls Try.prog 21 #[vSq B1 B2, .int .i64 z] w9 fun e w' => ∃ a c, e = .returned (.slice a L.length c) ∧ Rw 29 encP 2 w' (.slice a L.length c) L ∧ Keep [] w9 w' ∧ Fresh w9 w' (.slice a L.length c)) := fun B1 B2 L z w9 hq hl hn => gathered_all B1 B2 L z w9 hq hl hn
  have HFz : Hid (∀ b L w9, Sh w9 b 10 L → Calls Try.prog 17 #[vA b] w9 fun e w' => ∃ b', e = .returned (vA b') ∧ Sh w' b' 10 L ∧ Keep [] w9 w' ∧ w9.heap.size ≤ b') := fun b L w9 hs => freeze_any b 10 L w9 hs
  have HL0n : Hid (L0.length ≤ l.length) := hml
  have HTd : Hid (∀ B1 B2 L v w9, Sq w9 B1 B2 L → Rd encP 2 w9 v L → Calls Try.prog 27 #[vSq B1 B2, v] w9 fun e w' => e = .returned (.bool true) ∧ Keep [] w9 w') := hTd
  have HLe : Hid (∀ b L w9, Sh w9 b 10 L → Calls Try.prog 19 #[vA b] w9 fun e w' => e = .returned (.int .i64 (L.length : Int)) ∧ w9 = w') := fun b L w9 hs => len_any b 10 L w9 hs
  have hlz : (l.length : Int) ≤ 8796093021952 := by omega
  have hoz : (os.length : Int) ≤ 4398046510976 := by omega
  have hl0 : (0 : Int) ≤ (l.length : Int) := by omega
  have ho0 : (0 : Int) ≤ (os.length : Int) := by omega
  clear h0 h1 hl ho hok hml hTd
  go_enter Try.func7, Try.ntmps7
  go_wp2_with fail
  refine HAw.out.mono ?_
  clear HAw
  rintro e w1 ⟨rfl, k1⟩
  go_wp2_with fail
  refine (HMa.out _ k1).mono ?_
  rintro e w2 ⟨bs, rfl, s2, k2, g2⟩
  have kk2 := k1.trans' k2
  go_wp2_with fail
  refine (HMa.out _ kk2).mono ?_
  clear HMa
  rintro e w3 ⟨bm, rfl, s3, k3, g3⟩
  go_wp2_with fail
  refine (HAll.out bs L0 _ (s2.keep0 k3) (by have := HL0n.out; have := HB.out.1; omega)).mono ?_
  rintro e w4 ⟨v4, rfl, B1, B2, rfl, q4, k4, _, _⟩
  go_wp2_with fail
  refine (HGa.out B1 B2 L0 _ _ q4 (by have := HL0n.out; have := HB.out.1; omega) (by have := HL0n.out; omega)).mono ?_
  rintro e w5 ⟨aw, cw, rfl, r5, k5, f5⟩
  go_wp2_with fail
  refine (HFz.out bs L0 _ (((s2.keep0 k3).keep0 k4).keep0 k5)).mono ?_
  rintro e w6 ⟨bt, rfl, s6, k6, g6⟩
  go_wp2_with fail
  refine (HFz.out bt L0 _ s6).mono ?_
  clear HFz
  rintro e w7 ⟨bu, rfl, s7, k7, g7⟩
  go_wp2_with fail
  have HF0 : Hid (Fz w bs bm bt bu (.slice aw L0.length cw) L0 L0 w7) := by
    have ks := ((((s2.keep0 k3).keep0 k4).keep0 k5).keep0 k6).keep0 k7
    have km := (((s3.keep0 k4).keep0 k5).keep0 k6).keep0 k7
    have z2 := s2.lt
    have z3 := s3.lt
    have z6 := s6.lt
    have h2 := kk2.size
    have h3 := k3.size
    have h4 := k4.size
    have h5 := k5.size
    have h6 := k6.size
    exact ⟨ks, s7, km, s6.keep0 k7, (r5.keep k6 (Off.nil _)).keep k7 (Off.nil _), ((((kk2.trans' k3).trans' k4).trans' k5).trans' k6).trans' k7, by omega⟩
  clear s2 k1 k2 g2 kk2 s3 k3 g3 q4 k4 r5 k5 f5 s6 k6 g6 s7 k7 g7
  go_loopw [10] (fun iv wr => ∃ i : Nat, iv = .int .i64 (i : Int) ∧ i ≤ os.length ∧ Hid (Fz w bs bm bt bu (.slice aw L0.length cw) L0 ((os.take i).foldl stepL L0) wr)) (fun iv _ => os.length - (intOf iv).toNat)
  case atStart => exact ⟨0, rfl, Nat.zero_le _, HF0.out⟩
  case round =>
    obtain ⟨i, rfl, hi, HI⟩ := hrel
    by_cases hlt : i < os.length
    · have hlti : (i : Int) < (os.length : Int) := by omega
      have hi0 : (0 : Int) ≤ (i : Int) := by omega
      obtain ⟨b, o, c2, he, hb, e0, e1, e2, e3⟩ := H1.out.call i hlt
      simp at he
      obtain ⟨rfl, rfl⟩ := he
      have hbr := HI.out.kp.cell' e1 (by simp)
      have hbx := HI.out.kp.cell' e2 (by simp)
      have hby := HI.out.kp.cell' e3 (by simp)
      have hk := HB.out.2.2 os[i] (List.getElem_mem hlt)
      have HPk : Hid (∀ w9, Calls Try.prog 11 #[.int .i64 os[i].c, .int .i64 3] w9 fun e w' => e = .returned (.int .i64 (pickZ os[i].c 3)) ∧ w9 = w') := fun w9 => (pick_any os[i].c 3 hk.2.1.1 hk.2.1.2 (by omega) w9).mono (fun e w' h => ⟨h.1, h.2.symm⟩)
      have HTk : Hid ((os.take (i + 1)).foldl stepL L0 = stepL ((os.take i).foldl stepL L0) os[i]) := by show _ = _; rw [← List.take_append_getElem hlt, List.foldl_append]; rfl
      have HLn : Hid (((os.take i).foldl stepL L0).length + 2 ≤ 1152921504606846976) := by
        have h1 := steps_len (os.take i) L0
        rw [List.length_take] at h1
        have h2 := HL0n.out
        have h3 := HB.out
        show _ ≤ _
        omega
      generalize hLL : (os.take i).foldl stepL L0 = L at *
      obtain ⟨L', HL'⟩ : ∃ L', Hid (L' = stepL L os[i]) := ⟨_, show _ = _ from rfl⟩
      rw [← HL'.out] at HTk
      generalize os[i] = oo at *
      obtain ⟨ox, oc, x⟩ := oo
      simp only [] at e2 e3 e1 hbr hbx hby HPk
      have HBC : Cs [(⟨b, o + i * 4 + 2, none⟩, .int .i64 x.k), (⟨b, o + i * 4 + 3, none⟩, .int .i64 x.m)] w w := ⟨e2, e3, Keep.refl _ _⟩
      have hp : 0 ≤ pickZ oc 3 ∧ pickZ oc 3 < 3 := pickZ_lt oc 3 (by omega)
      have hp3 : pickZ oc 3 = 0 ∨ pickZ oc 3 = 1 ∨ pickZ oc 3 = 2 := by omega
      clear hk hLL HF0 e0 e1 hb hp
      rcases hp3 with hz | hz | hz
      · obtain ⟨d, HDd⟩ : ∃ d : Bool, Hid (d = (lk L x.k).isNone) := ⟨_, show _ = _ from rfl⟩
        have HLs : Hid (L' = addL L x) := by show _ = _; rw [HL'.out]; unfold stepL; rw [if_pos hz]
        rw [hz] at HPk
        clear hz
        have HAt : Hid (∀ w9, Keep [] wr w9 → Calls Try.prog 13 #[vA bt, vP x] w9 fun e w' => e = .returned (.bool d) ∧ Sh w' bt 10 L' ∧ Keep [bt] w9 w') := fun w9 kk => by rw [HLs.out, HDd.out]; exact add_any bt 10 L x w9 (HI.out.t.keep0 kk) HLn.out
        have HAm : Hid (∀ w9, Keep [bt] wr w9 → Calls Try.prog 13 #[vA bm, vP x] w9 fun e w' => e = .returned (.bool d) ∧ Sh w' bm 10 L' ∧ Keep [bm] w9 w') := fun w9 kk => by rw [HLs.out, HDd.out]; exact add_any bm 10 L x w9 (HI.out.m.keep kk (HI.out.t.kt kk) (by have := HI.out.ne; simp; omega)) HLn.out
        clear HDd HLs HLn
        go_wp2_with fail
        refine (HPk.out _).mono ?_
        clear HPk
        rintro e w4 ⟨rfl, rfl⟩
        go_wp2_with fail
        go_region_held3 (fun w' => w'.cell? ⟨b, o + i * 4 + 2, none⟩ = some (.int .i64 x.k) ∧ w'.cell? ⟨b, o + i * 4 + 3, none⟩ = some (.int .i64 x.m) ∧ Hid (Keep [] w w'))
          (first | assumption | exact Cs.base (l := [(⟨b, o + i * 4 + 2, none⟩, .int .i64 x.k), (⟨b, o + i * 4 + 3, none⟩, .int .i64 x.m)]) HBC (HI.out.kp.drew) | exact Cs.base (l := [(⟨b, o + i * 4 + 2, none⟩, .int .i64 x.k), (⟨b, o + i * 4 + 3, none⟩, .int .i64 x.m)]) HBC ((HI.out.kp.drew).more k5 (by intro y hy; simp at hy; have := HI.out.ne; omega)) | exact Cs.base (l := [(⟨b, o + i * 4 + 2, none⟩, .int .i64 x.k), (⟨b, o + i * 4 + 3, none⟩, .int .i64 x.m)]) HBC (((HI.out.kp.drew).more k5 (by intro y hy; simp at hy; have := HI.out.ne; omega)).more k6 (by intro y hy; simp at hy; have := HI.out.ne; omega)))
          (first | (go_at_call 13; refine (HAt.out _ (by first | exact Keep.refl _ _ | exact (Keep.refl _ _).drew)).mono ?_; clear HAt; rintro e w5 ⟨rfl, s5, k5⟩) | (go_at_call 13; refine (HAm.out _ (by first | exact k5 | exact ((Keep.refl _ _).drew.trans' k5) | exact ((Keep.refl _ _).drew.mono (by simp)).trans' k5)).mono ?_; clear HAm; rintro e w6 ⟨rfl, s6, k6⟩))
        have HF : Hid (Fz w bs bm bt bu (.slice aw L0.length cw) L0 L' w6) := ((HI.out.drew ((Keep.refl [] _).drew)).step k5 s5 k6 s6)
        clear s5 k5 s6 k6
        rename_i hH
        clear hH
        go_wp2
        go_roundw
        case rel => exact ⟨i + 1, by simp, by omega, by rw [HTk.out]; exact HF.out⟩
        case measure => simp [intOf]; omega
      · obtain ⟨d, HDd⟩ : ∃ d : Bool, Hid (d = (lk L x.k).isSome) := ⟨_, show _ = _ from rfl⟩
        have HLs : Hid (L' = putL L x) := by show _ = _; rw [HL'.out]; unfold stepL; rw [if_neg (by rw [hz]; decide), if_pos hz]
        rw [hz] at HPk
        clear hz
        have HAt : Hid (∀ w9, Keep [] wr w9 → Calls Try.prog 14 #[vA bt, vP x] w9 fun e w' => e = .returned (.bool d) ∧ Sh w' bt 10 L' ∧ Keep [bt] w9 w') := fun w9 kk => by rw [HLs.out, HDd.out]; exact put_any bt 10 L x w9 (HI.out.t.keep0 kk) HLn.out
        have HAm : Hid (∀ w9, Keep [bt] wr w9 → Calls Try.prog 14 #[vA bm, vP x] w9 fun e w' => e = .returned (.bool d) ∧ Sh w' bm 10 L' ∧ Keep [bm] w9 w') := fun w9 kk => by rw [HLs.out, HDd.out]; exact put_any bm 10 L x w9 (HI.out.m.keep kk (HI.out.t.kt kk) (by have := HI.out.ne; simp; omega)) HLn.out
        clear HDd HLs HLn
        go_wp2_with fail
        refine (HPk.out _).mono ?_
        clear HPk
        rintro e w4 ⟨rfl, rfl⟩
        go_wp2_with fail
        go_region_held3 (fun w' => w'.cell? ⟨b, o + i * 4 + 2, none⟩ = some (.int .i64 x.k) ∧ w'.cell? ⟨b, o + i * 4 + 3, none⟩ = some (.int .i64 x.m) ∧ Hid (Keep [] w w'))
          (first | assumption | exact Cs.base (l := [(⟨b, o + i * 4 + 2, none⟩, .int .i64 x.k), (⟨b, o + i * 4 + 3, none⟩, .int .i64 x.m)]) HBC (HI.out.kp.drew) | exact Cs.base (l := [(⟨b, o + i * 4 + 2, none⟩, .int .i64 x.k), (⟨b, o + i * 4 + 3, none⟩, .int .i64 x.m)]) HBC ((HI.out.kp.drew).more k5 (by intro y hy; simp at hy; have := HI.out.ne; omega)) | exact Cs.base (l := [(⟨b, o + i * 4 + 2, none⟩, .int .i64 x.k), (⟨b, o + i * 4 + 3, none⟩, .int .i64 x.m)]) HBC (((HI.out.kp.drew).more k5 (by intro y hy; simp at hy; have := HI.out.ne; omega)).more k6 (by intro y hy; simp at hy; have := HI.out.ne; omega)))
          (first | (go_at_call 14; refine (HAt.out _ (by first | exact Keep.refl _ _ | exact (Keep.refl _ _).drew)).mono ?_; clear HAt; rintro e w5 ⟨rfl, s5, k5⟩) | (go_at_call 14; refine (HAm.out _ (by first | exact k5 | exact ((Keep.refl _ _).drew.trans' k5) | exact ((Keep.refl _ _).drew.mono (by simp)).trans' k5)).mono ?_; clear HAm; rintro e w6 ⟨rfl, s6, k6⟩))
        have HF : Hid (Fz w bs bm bt bu (.slice aw L0.length cw) L0 L' w6) := ((HI.out.drew ((Keep.refl [] _).drew)).step k5 s5 k6 s6)
        clear s5 k5 s6 k6
        rename_i hH
        clear hH
        go_wp2
        go_roundw
        case rel => exact ⟨i + 1, by simp, by omega, by rw [HTk.out]; exact HF.out⟩
        case measure => simp [intOf]; omega
      · obtain ⟨d, HDd⟩ : ∃ d : Bool, Hid (d = (lk L x.k).isSome) := ⟨_, show _ = _ from rfl⟩
        have HLs : Hid (L' = remL L x) := by show _ = _; rw [HL'.out]; unfold stepL; rw [if_neg (by rw [hz]; decide), if_neg (by rw [hz]; decide)]
        rw [hz] at HPk
        clear hz
        have HAt : Hid (∀ w9, Keep [] wr w9 → Calls Try.prog 16 #[vA bt, vP x] w9 fun e w' => e = .returned (.bool d) ∧ Sh w' bt 10 L' ∧ Keep [bt] w9 w') := fun w9 kk => by rw [HLs.out, HDd.out]; exact rem_any bt 10 L x w9 (HI.out.t.keep0 kk) HLn.out
        have HAm : Hid (∀ w9, Keep [bt] wr w9 → Calls Try.prog 16 #[vA bm, vP x] w9 fun e w' => e = .returned (.bool d) ∧ Sh w' bm 10 L' ∧ Keep [bm] w9 w') := fun w9 kk => by rw [HLs.out, HDd.out]; exact rem_any bm 10 L x w9 (HI.out.m.keep kk (HI.out.t.kt kk) (by have := HI.out.ne; simp; omega)) HLn.out
        clear HDd HLs HLn
        go_wp2_with fail
        refine (HPk.out _).mono ?_
        clear HPk
        rintro e w4 ⟨rfl, rfl⟩
        go_wp2_with fail
        go_region_held3 (fun w' => w'.cell? ⟨b, o + i * 4 + 2, none⟩ = some (.int .i64 x.k) ∧ w'.cell? ⟨b, o + i * 4 + 3, none⟩ = some (.int .i64 x.m) ∧ Hid (Keep [] w w'))
          (first | assumption | exact Cs.base (l := [(⟨b, o + i * 4 + 2, none⟩, .int .i64 x.k), (⟨b, o + i * 4 + 3, none⟩, .int .i64 x.m)]) HBC (HI.out.kp.drew) | exact Cs.base (l := [(⟨b, o + i * 4 + 2, none⟩, .int .i64 x.k), (⟨b, o + i * 4 + 3, none⟩, .int .i64 x.m)]) HBC ((HI.out.kp.drew).more k5 (by intro y hy; simp at hy; have := HI.out.ne; omega)) | exact Cs.base (l := [(⟨b, o + i * 4 + 2, none⟩, .int .i64 x.k), (⟨b, o + i * 4 + 3, none⟩, .int .i64 x.m)]) HBC (((HI.out.kp.drew).more k5 (by intro y hy; simp at hy; have := HI.out.ne; omega)).more k6 (by intro y hy; simp at hy; have := HI.out.ne; omega)))
          (first | (go_at_call 16; refine (HAt.out _ (by first | exact Keep.refl _ _ | exact (Keep.refl _ _).drew)).mono ?_; clear HAt; rintro e w5 ⟨rfl, s5, k5⟩) | (go_at_call 16; refine (HAm.out _ (by first | exact k5 | exact ((Keep.refl _ _).drew.trans' k5) | exact ((Keep.refl _ _).drew.mono (by simp)).trans' k5)).mono ?_; clear HAm; rintro e w6 ⟨rfl, s6, k6⟩))
        have HF : Hid (Fz w bs bm bt bu (.slice aw L0.length cw) L0 L' w6) := ((HI.out.drew ((Keep.refl [] _).drew)).step k5 s5 k6 s6)
        clear s5 k5 s6 k6
        rename_i hH
        clear hH
        go_wp2
        go_roundw
        case rel => exact ⟨i + 1, by simp, by omega, by rw [HTk.out]; exact HF.out⟩
        case measure => simp [intOf]; omega
    · obtain rfl : i = os.length := by omega
      have hnl : ¬ (os.length : Int) < (os.length : Int) := by omega
      have hLn := steps_len (os.take os.length) L0
      rw [List.length_take, Nat.min_self] at hLn
      have hL2 := HL0n.out
      have hL3 := HB.out
      generalize (os.take os.length).foldl stepL L0 = L at *
      have HLL : Hid (L.length ≤ l.length + os.length ∧ L0.length ≤ l.length ∧ l.length ≤ 8796093021952 ∧ os.length ≤ 4398046510976) := ⟨by omega, by omega, hL3.1, hL3.2.1⟩
      clear hLn hL2 hL3 HF0 H0 H1 HB hi
      go_wp2_with fail
      refine (HAll.out bm L _ HI.out.m (by have := HLL.out; omega)).mono ?_
      rintro e x1 ⟨_, rfl, C1, C2, rfl, q1, j1, _, _⟩
      have F1 := HI.out.drew j1
      go_wp2_with fail
      refine (HGa.out C1 C2 L _ _ q1 (by have := HLL.out; omega) (by have := HLL.out; omega)).mono ?_
      rintro e x2 ⟨an, cn, rfl, r2, j2, f2⟩
      have F2 := F1.drew j2
      go_wp2_with fail
      refine (HAll.out bs L0 _ F2.s (by have := HLL.out; omega)).mono ?_
      rintro e x3 ⟨_, rfl, D1, D2, rfl, q3, j3, _, _⟩
      have F3 := F2.drew j3
      have r3 := r2.keep j3 (Off.nil _)
      go_wp2_with fail
      refine (HTd.out D1 D2 L0 _ _ q3 (F3.was.rd encP_len)).mono ?_
      rintro e x4 ⟨rfl, j4⟩
      have F4 := F3.drew j4
      have r4 := r3.keep j4 (Off.nil _)
      go_wp2_with fail
      refine (HAll.out bu L0 _ F4.u (by have := HLL.out; omega)).mono ?_
      rintro e x5 ⟨_, rfl, E1, E2, rfl, q5, j5, _, _⟩
      have F5 := F4.drew j5
      have r5 := r4.keep j5 (Off.nil _)
      go_wp2_with fail
      refine (HTd.out E1 E2 L0 _ _ q5 (F5.was.rd encP_len)).mono ?_
      rintro e x6 ⟨rfl, j6⟩
      have F6 := F5.drew j6
      have r6 := r5.keep j6 (Off.nil _)
      go_wp2_with fail
      refine (HLe.out bs L0 _ F6.s).mono ?_
      rintro e x7 ⟨rfl, rfl⟩
      go_wp2_with fail
      refine (HAll.out bt L _ F6.t (by have := HLL.out; omega)).mono ?_
      rintro e x8 ⟨_, rfl, G1, G2, rfl, q8, j8, _, _⟩
      have F8 := F6.drew j8
      have r8 := r6.keep j8 (Off.nil _)
      go_wp2_with fail
      refine (HTd.out G1 G2 L _ _ q8 (r8.rd encP_len)).mono ?_
      rintro e x9 ⟨rfl, j9⟩
      have F9 := F8.drew j9
      go_wp2_with fail
      refine (HLe.out bt L _ F9.t).mono ?_
      rintro e x10 ⟨rfl, rfl⟩
      go_wp2
      go_ret
      exact ⟨rfl, F9.kp⟩

end Go.Proofs.Ytkelhglflpdpeaa
