/- Are two values one: Same, for every two values. -/
import Derived.Test.YtclapbpkkaljgaaGreatDoorCmpA
namespace Go.Proofs.YtclapbpkkaljgaaGreatDoor
open Go.RowKit Go.PlainAid Go.Lib

def belowB (x : Nat) : Bool := !nanB x && decide (2147483648 ≤ x)

theorem drewN_drewN (w : World) (a b : Nat) : (w.drewN a).drewN b = w.drewN (a + b) := by
  simp [World.drewN]
  omega

set_option maxRecDepth 100000 in
theorem below0_any (x : Nat) (h : x < 4294967296) (w : World) : Calls Tryz.prog 50 #[.float .f32 x] w fun e w' => e = .returned (.bool (belowB x)) ∧ w' = w := by
  have hN := isNan_any x
  have hfb := run_f32bits x w
  have h31 := and31 x h
  unfold belowB
  cases hx : nanB x <;> rw [hx] at hN
  · by_cases hb : 2147483648 ≤ x
    · rw [if_pos hb] at h31
      have ht : (bits .and .u32 (x : Int) 2147483648 != 0) = true := by rw [h31]; rfl
      rw [show decide (2147483648 ≤ x) = true by simpa using hb]
      clear h31 hb
      go_enter Tryz.func50, Tryz.ntmps50
      go_wp2_with (first | (go_at_call 49; refine (hN _).mono ?_; rintro e9 w9 ⟨rfl, hw9⟩; obtain rfl := hw9.symm))
      go_ret
      exact ⟨rfl, rfl⟩
    · rw [if_neg hb] at h31
      have ht : (bits .and .u32 (x : Int) 2147483648 != 0) = false := by rw [h31]; rfl
      rw [show decide (2147483648 ≤ x) = false by simpa using hb]
      clear h31 hb
      go_enter Tryz.func50, Tryz.ntmps50
      go_wp2_with (first | (go_at_call 49; refine (hN _).mono ?_; rintro e9 w9 ⟨rfl, hw9⟩; obtain rfl := hw9.symm))
      go_ret
      exact ⟨rfl, rfl⟩
  · clear hfb h31
    go_enter Tryz.func50, Tryz.ntmps50
    go_wp2_with (first | (go_at_call 49; refine (hN _).mono ?_; rintro e9 w9 ⟨rfl, hw9⟩; obtain rfl := hw9.symm))
    go_ret
    exact ⟨rfl, rfl⟩

/-- equal as numbers; nan equals none -/
def eqB (a b : Nat) : Bool := !nanB a && !nanB b && decide (svalZ a = svalZ b)
theorem eq_any (a b : Nat) : (FloatKind.f32.format.order a b == some Ordering.eq) = eqB a b := by
  unfold eqB
  cases ha : nanB a
  · cases hb : nanB b
    · rw [(ord_facts a b ha hb).2.2]; rfl
    · show (Ieee.single.order a b == some Ordering.eq) = _
      rw [order_any, if_pos (.inr (by simpa [nanB, rungN] using hb))]
      rfl
  · show (Ieee.single.order a b == some Ordering.eq) = _
    rw [order_any, if_pos (.inl (by simpa [nanB, rungN] using ha))]
    rfl

def sameR (a b : Nat) : Bool := nanB a && nanB b || eqB a b && (belowB a == belowB b)

set_option maxRecDepth 100000 in
set_option maxHeartbeats 1600000 in
theorem realSame_any (a b : Nat) (ha : a < 4294967296) (hb : b < 4294967296) (w : World) : Calls Tryz.prog 30 #[.float .f32 a, .float .f32 b] w fun e w' => e = .returned (.bool (sameR a b)) ∧ w' = w := by
  have hA := isNan_any a
  have hB := isNan_any b
  have hC := below0_any a ha
  have hD := below0_any b hb
  have hE := eq_any a b
  unfold sameR
  generalize belowB a = p at hC ⊢
  generalize belowB b = q at hD ⊢
  generalize eqB a b = r at hE ⊢
  cases h1 : nanB a <;> rw [h1] at hA
  · cases r
    · go_enter Tryz.func30, Tryz.ntmps30
      go_wp2_with (first | (go_at_call_of 49 a; refine (hA _).mono ?_; rintro e9 w9 ⟨rfl, hw9⟩; obtain rfl := hw9.symm))
      go_ret
      exact ⟨rfl, rfl⟩
    · cases p <;> cases q
      all_goals
        go_enter Tryz.func30, Tryz.ntmps30
        go_wp2_with (first | (go_at_call 49; refine (hA _).mono ?_; rintro e9 w9 ⟨rfl, hw9⟩; obtain rfl := hw9.symm) | (go_at_call_of 50 a; refine (hC _).mono ?_; rintro e9 w9 ⟨rfl, hw9⟩; obtain rfl := hw9.symm) | (go_at_call 50; refine (hD _).mono ?_; rintro e9 w9 ⟨rfl, hw9⟩; obtain rfl := hw9.symm))
        go_ret
        exact ⟨rfl, rfl⟩
  · cases h2 : nanB b <;> rw [h2] at hB
    · cases r
      · go_enter Tryz.func30, Tryz.ntmps30
        go_wp2_with (first | (go_at_call_of 49 a; refine (hA _).mono ?_; rintro e9 w9 ⟨rfl, hw9⟩; obtain rfl := hw9.symm) | (go_at_call 49; refine (hB _).mono ?_; rintro e9 w9 ⟨rfl, hw9⟩; obtain rfl := hw9.symm))
        go_ret
        exact ⟨rfl, rfl⟩
      · cases p <;> cases q
        all_goals
          go_enter Tryz.func30, Tryz.ntmps30
          go_wp2_with (first | (go_at_call_of 49 a; refine (hA _).mono ?_; rintro e9 w9 ⟨rfl, hw9⟩; obtain rfl := hw9.symm) | (go_at_call 49; refine (hB _).mono ?_; rintro e9 w9 ⟨rfl, hw9⟩; obtain rfl := hw9.symm) | (go_at_call_of 50 a; refine (hC _).mono ?_; rintro e9 w9 ⟨rfl, hw9⟩; obtain rfl := hw9.symm) | (go_at_call 50; refine (hD _).mono ?_; rintro e9 w9 ⟨rfl, hw9⟩; obtain rfl := hw9.symm))
          go_ret
          exact ⟨rfl, rfl⟩
    · go_enter Tryz.func30, Tryz.ntmps30
      go_wp2_with (first | (go_at_call_of 49 a; refine (hA _).mono ?_; rintro e9 w9 ⟨rfl, hw9⟩; obtain rfl := hw9.symm) | (go_at_call 49; refine (hB _).mono ?_; rintro e9 w9 ⟨rfl, hw9⟩; obtain rfl := hw9.symm))
      go_ret
      exact ⟨rfl, rfl⟩

/-- the same texts, as many -/
def eqL (a b : List ByteArray) : Bool := a.map ByteArray.toList == b.map ByteArray.toList

set_option maxHeartbeats 1600000 in
theorem listEq_any (u v : Value) (a b : List ByteArray) (w : World) (hu : Ts w u a) (hv : Ts w v b) :
    Calls Tryz.prog 31 #[u, v] w fun e w' => e = .returned (.bool (eqL a b)) ∧ ∃ n, w' = w.drewN n := by
  obtain ⟨ao, ca, rfl, p1, p2, _, p4⟩ := hu.ex
  obtain ⟨bo, cb, rfl, q1, q2, _, q4⟩ := hv.ex
  clear hu hv
  by_cases hl : a.length = b.length
  · have HE : Hid ((a ≠ [] → ∃ b o, ao = some ⟨b, o, none⟩ ∧ ∀ j (h : j < a.length), w.cell? ⟨b, o + j, none⟩ = some (.string a[j])) ∧ (b ≠ [] → ∃ g o, bo = some ⟨g, o, none⟩ ∧ ∀ j (h : j < b.length), w.cell? ⟨g, o + j, none⟩ = some (.string b[j]))) := ⟨p4, q4⟩
    have HL : Hid (a.length = b.length) := hl
    have hne : ((a.length : Int) != (b.length : Int)) = false := by simp; omega
    clear p4 q4
    rw [← hl] at q1 hne ⊢
    clear hl
    go_enter Tryz.func31, Tryz.ntmps31
    go_wp2
    go_loopw [13] (fun iv wr => ∃ k n : Nat, iv = .int .i64 (k : Int) ∧ k ≤ a.length ∧ (∀ j (h : j < a.length) (h' : j < b.length), j < k → a[j].toList = b[j].toList) ∧ wr = w.drewN n) (fun iv _ => a.length - (intOf iv).toNat)
    case atStart => exact ⟨0, 0, rfl, Nat.zero_le _, fun j _ _ h => by omega, rfl⟩
    case round =>
      obtain ⟨k, n, rfl, hka, hall, rfl⟩ := hrel
      by_cases hk : k < a.length
      · have hki : (k : Int) < (a.length : Int) := by omega
        have hkb : k < b.length := by have := HL.out; omega
        obtain ⟨g, o, rfl, hc⟩ := HE.out.1 (by intro hz; rw [hz] at hk; simp at hk)
        obtain ⟨g', o', rfl, hc'⟩ := HE.out.2 (by intro hz; rw [hz] at hkb; simp at hkb)
        have hca := hc k hk
        have hcb := hc' k hkb
        by_cases he : a[k].toList = b[k].toList
        · have hee : (a[k].toList == b[k].toList) = true := by simpa using he
          have HA : Hid (∀ j (h : j < a.length) (h' : j < b.length), j < k + 1 → a[j].toList = b[j].toList) := by
            intro j h h' hj
            by_cases e : j = k
            · subst e; exact he
            · exact hall j h h' (by omega)
          clear hall hc hc' he HE
          generalize a[k] = s at hca hee
          generalize b[k] = t at hcb hee
          go_wp2
          go_quiet (fail)
          go_wp2
          go_roundw
          case rel => exact ⟨k + 1, _, by go_num, by omega, HA.out, rfl⟩
          case measure => simp [intOf]; omega
        · have hee : (a[k].toList == b[k].toList) = false := by simpa using he
          have HQ : Hid (eqL a b = false) := by
            show eqL a b = false
            unfold eqL
            rw [beq_eq_false_iff_ne]
            intro h
            apply he
            have := congrArg (fun l => l[k]?) h
            simpa [hk, hkb] using this
          clear hall hc hc' he HE
          generalize a[k] = s at hca hee
          generalize b[k] = t at hcb hee
          go_wp2
          go_quiet (fail)
          go_wp2
          go_ret
          exact ⟨by rw [HQ.out]; rfl, _, drewN_drewN _ _ _⟩
      · have hki : ¬ ((k : Int) < (a.length : Int)) := by omega
        have HQ : Hid (eqL a b = true) := by
          show eqL a b = true
          unfold eqL
          rw [beq_iff_eq]
          apply List.ext_getElem
          · simp; exact HL.out
          · intro j h1 h2
            simp at h1 h2
            simpa using hall j h1 h2 (by omega)
        clear hall HE
        go_wp2
        go_ret
        exact ⟨by rw [HQ.out]; rfl, n, rfl⟩
  · have hne : ((a.length : Int) != (b.length : Int)) = true := by simp; omega
    have hq : eqL a b = false := by
      unfold eqL
      rw [beq_eq_false_iff_ne]
      intro h
      have := congrArg List.length h
      simp at this
      exact hl this
    rw [hq]
    clear p4 q4 hq hl
    go_enter Tryz.func31, Tryz.ntmps31
    go_wp2
    go_ret
    exact ⟨rfl, 0, rfl⟩

/-- are they one? -/
def sameV (a b : VD) : Bool :=
  decide (a.kind = b.kind) && (a.mayB && b.mayB) && (if a.kind = 3 then sameR a.real b.real else (a.bool == b.bool) && (a.int == b.int) && (a.text.toList == b.text.toList) && eqL a.texts b.texts)

set_option maxRecDepth 100000 in
set_option maxHeartbeats 6400000 in
theorem same_any (a b : VD) (ha : a.Ok) (hb : b.Ok) (u v : Value) (w : World) (hu : Ts w u a.texts) (hv : Ts w v b.texts) :
    Calls Tryz.prog 19 #[a.val u, b.val v] w fun e w' => e = .returned (.bool (sameV a b)) ∧ Keep [] w w' := by
  have hU := hu
  have hV := hv
  obtain ⟨ao, ca, rfl, _, _, _, _⟩ := hu.ex
  obtain ⟨bo, cb, rfl, _, _, _, _⟩ := hv.ex
  clear hu hv
  have k0 : Keep [] w ((w.alloc (a.blk (.slice ao a.texts.length ca))).alloc (b.blk (.slice bo b.texts.length cb))) := (Keep.alloc1 w _).alloc _
  have HK0 : Hid (Keep [] w ((w.alloc (a.blk (.slice ao a.texts.length ca))).alloc (b.blk (.slice bo b.texts.length cb)))) := k0
  have hM := mayBoth_any a b ha hb _ _ _ (hU.keep k0 (Off.nil _)) (hV.keep k0 (Off.nil _))
  unfold sameV
  by_cases hk : a.kind = b.kind
  · have hkb : (a.kind != b.kind) = false := by simpa using hk
    rw [show decide (a.kind = b.kind) = true by simpa using hk]
    clear hk k0
    cases hm : (a.mayB && b.mayB) <;> rw [hm] at hM
    · clear hU hV
      simp only [Bool.and_false, Bool.false_and]
      go_enter Tryz.func19, Tryz.ntmps19
      go_wp2_with fail
      refine hM.mono ?_
      rintro e1 w1 ⟨rfl, k1⟩
      have HK1 : Hid (Keep [] w w1) := HK0.out.trans' k1
      clear k1 hM
      go_wp2
      go_ret
      exact ⟨rfl, HK1.out⟩
    · by_cases h3 : a.kind = 3
      · have g3 : (a.kind == 3) = true := by simpa using h3
        have hR := realSame_any a.real b.real ha.real1 hb.real1
        rw [if_pos h3]
        generalize sameR a.real b.real = r at hR ⊢
        clear hU hV h3
        go_enter Tryz.func19, Tryz.ntmps19
        go_wp2_with fail
        refine hM.mono ?_
        rintro e1 w1 ⟨rfl, k1⟩
        obtain ⟨⟨c0, c1, c2, c3, c4, c5⟩, ⟨d0, d1, d2, d3, d4, d5⟩⟩ := two_cells k1
        have HK1 : Hid (Keep [] w w1) := HK0.out.trans' k1
        clear k1 hM
        go_wp2_with fail
        refine (hR _).mono ?_
        rintro e2 w2 ⟨rfl, hw2⟩
        obtain rfl := hw2.symm
        go_wp2
        go_ret
        exact ⟨rfl, HK1.out⟩
      · have g3 : (a.kind == 3) = false := by simpa using h3
        rw [if_neg h3]
        clear h3
        have hL : ∀ w1, Keep [] w w1 → _ := fun w1 k => listEq_any _ _ a.texts b.texts w1 (hU.keep k (Off.nil _)) (hV.keep k (Off.nil _))
        clear hU hV
        cases hb1 : (a.bool == b.bool)
        · clear hL
          go_enter Tryz.func19, Tryz.ntmps19
          go_wp2_with fail
          refine hM.mono ?_
          rintro e1 w1 ⟨rfl, k1⟩
          obtain ⟨⟨c0, c1, c2, c3, c4, c5⟩, ⟨d0, d1, d2, d3, d4, d5⟩⟩ := two_cells k1
          have HK1 : Hid (Keep [] w w1) := HK0.out.trans' k1
          clear k1 hM
          go_wp2
          go_ret
          exact ⟨rfl, HK1.out⟩
        · cases hb2 : (a.int == b.int)
          · clear hL
            go_enter Tryz.func19, Tryz.ntmps19
            go_wp2_with fail
            refine hM.mono ?_
            rintro e1 w1 ⟨rfl, k1⟩
            obtain ⟨⟨c0, c1, c2, c3, c4, c5⟩, ⟨d0, d1, d2, d3, d4, d5⟩⟩ := two_cells k1
            have HK1 : Hid (Keep [] w w1) := HK0.out.trans' k1
            clear k1 hM
            go_wp2
            go_ret
            exact ⟨rfl, HK1.out⟩
          · cases hb3 : (a.text.toList == b.text.toList)
            · clear hL
              go_enter Tryz.func19, Tryz.ntmps19
              go_wp2_with fail
              refine hM.mono ?_
              rintro e1 w1 ⟨rfl, k1⟩
              obtain ⟨⟨c0, c1, c2, c3, c4, c5⟩, ⟨d0, d1, d2, d3, d4, d5⟩⟩ := two_cells k1
              have HK1 : Hid (Keep [] w w1) := HK0.out.trans' k1
              clear k1 hM
              go_wp2
              go_ret
              exact ⟨rfl, HK1.out⟩
            · generalize eqL a.texts b.texts = r at hL ⊢
              go_enter Tryz.func19, Tryz.ntmps19
              go_wp2_with fail
              refine hM.mono ?_
              rintro e1 w1 ⟨rfl, k1⟩
              obtain ⟨⟨c0, c1, c2, c3, c4, c5⟩, ⟨d0, d1, d2, d3, d4, d5⟩⟩ := two_cells k1
              have HK1 : Hid (Keep [] w w1) := HK0.out.trans' k1
              clear k1 hM
              go_wp2_with fail
              refine (hL _ HK1.out).mono ?_
              rintro e2 w2 ⟨rfl, n2, rfl⟩
              have HK2 : Hid (Keep [] w (w1.drewN n2)) := HK1.out.drewN n2
              clear hL
              go_wp2
              go_ret
              exact ⟨rfl, HK2.out⟩
  · have hkb : (a.kind != b.kind) = true := by simpa using hk
    rw [show decide (a.kind = b.kind) = false by simpa using hk]
    clear hk k0 hM hU hV
    simp only [Bool.false_and]
    go_enter Tryz.func19, Tryz.ntmps19
    go_wp2
    go_ret
    exact ⟨rfl, (Keep.alloc1 w _).alloc _⟩

end Go.Proofs.YtclapbpkkaljgaaGreatDoor



