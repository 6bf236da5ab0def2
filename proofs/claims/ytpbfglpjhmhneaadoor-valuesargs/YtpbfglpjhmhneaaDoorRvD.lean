/- The document's Same of two values: just sameV. -/
import Derived.Test.YtpbfglpjhmhneaaDoorRvC
import Derived.Test.YtpbfglpjhmhneaaDoorRefH
import Derived.Test.YtpbfglpjhmhneaaDoorOrdV
namespace Go.Proofs.YtpbfglpjhmhneaaDoor
open Go.RowKit Go.PlainAid

/-- a real that may be has nothing else -/
theorem real_bare (p : VD) (h : p.mayB = true) (h3 : p.kind = 3) : p.bool = false ∧ p.int = 0 ∧ p.text = ⟨#[]⟩ ∧ p.texts = [] := by
  unfold VD.mayB at h
  simp only [Bool.and_eq_true] at h
  have h2 := h.1.2
  unfold VD.clear at h2
  rw [if_neg (by omega), if_neg (by omega), if_pos h3] at h2
  unfold VD.emptyB at h2
  simp only [Bool.and_eq_true, Bool.not_eq_true', beq_iff_eq, List.isEmpty_iff] at h2
  exact ⟨h2.1.1.1.1, h2.1.1.1.2, text_nil h2.1.2, h2.2⟩
theorem eqL_self (l : List ByteArray) : eqL l l = true := by unfold eqL; simp
theorem eqL_len {a b : List ByteArray} (h : ¬ a.length = b.length) : eqL a b = false := by
  unfold eqL
  rw [beq_eq_false_iff_ne]
  intro e
  have := congrArg List.length e
  simp at this
  exact h this
theorem eqL_at {a b : List ByteArray} {k : Nat} (ha : k < a.length) (hb : k < b.length) (h : ¬ a[k].toList = b[k].toList) : eqL a b = false := by
  unfold eqL
  rw [beq_eq_false_iff_ne]
  intro e
  apply h
  have := congrArg (fun l => l[k]?) e
  simpa [ha, hb] using this
theorem eqL_all {a b : List ByteArray} (hl : a.length = b.length) (h : ∀ j (h : j < a.length) (h' : j < b.length), a[j].toList = b[j].toList) : eqL a b = true := by
  unfold eqL
  rw [beq_iff_eq]
  apply List.ext_getElem
  · simpa using hl
  · intro j h1 h2
    simp at h1 h2
    simpa using h j h1 h2
theorem same_apart (a b : VD) (ha : a.mayB = true) (hb : b.mayB = true) (hk : a.kind = b.kind) (h : (a.bool == b.bool) = false ∨ (a.int == b.int) = false ∨ (a.text.toList == b.text.toList) = false ∨ eqL a.texts b.texts = false) : sameV a b = false := by
  unfold sameV
  by_cases h3 : a.kind = 3
  · obtain ⟨a1, a2, a3, a4⟩ := real_bare a ha h3
    obtain ⟨b1, b2, b3, b4⟩ := real_bare b hb (by omega)
    rw [a1, a2, a3, a4, b1, b2, b3, b4] at h
    rcases h with h | h | h | h
    · simp at h
    · simp at h
    · simp at h
    · rw [eqL_self] at h; cases h
  · rw [if_neg h3]
    rcases h with h | h | h | h <;> rw [h] <;> simp
theorem same_as (a b : VD) (ha : a.mayB = true) (hb : b.mayB = true) (hk : a.kind = b.kind) (h1 : (a.bool == b.bool) = true) (h2 : (a.int == b.int) = true) (h3 : (a.text.toList == b.text.toList) = true) (h4 : eqL a.texts b.texts = true) (h : a.kind = 3 → sameR a.real b.real = true) : sameV a b = true := by
  unfold sameV
  rw [ha, hb, decide_eq_true hk, h1, h2, h3, h4]
  by_cases h3 : a.kind = 3
  · rw [if_pos h3, h h3]; rfl
  · rw [if_neg h3]; rfl
theorem same_real (a b : VD) (hk : a.kind = 3) (h : sameR a.real b.real = false) : sameV a b = false := by
  unfold sameV
  rw [if_pos hk, h]; simp

set_option maxRecDepth 1000000 in
set_option maxHeartbeats 3200000 in
theorem rSameV_any (a b : VD) (ha : a.Ok) (hb : b.Ok) (u v : Value) (w : World) (hu : Ts w u a.texts) (hv : Ts w v b.texts) :
    Calls Tryd.prog 25 #[a.val u, b.val v] w fun e w' => e = .returned (.bool (sameV a b)) ∧ Keep [] w w' := by
  have hMa := fun w1 (k : Keep [] w w1) => rMay_any a ha u w1 (hu.keep k (Off.nil _))
  have hMb := fun w1 (k : Keep [] w w1) => rMay_any b hb v w1 (hv.keep k (Off.nil _))
  have HU : Hid (Ts w u a.texts) := hu
  have HV : Hid (Ts w v b.texts) := hv
  have hRS := fun w => rSame_any a.real b.real ha.real1 hb.real1 w
  obtain ⟨ao, ca, rfl, p1, p2, _, _⟩ := hu.ex
  obtain ⟨bo, cb, rfl, q1, q2, _, _⟩ := hv.ex
  clear hu hv
  have K0 : Hid (Keep [] w ((w.alloc (a.blk (.slice ao a.texts.length ca))).alloc (b.blk (.slice bo b.texts.length cb)))) := (Keep.alloc1 w _).alloc _
  cases hma : a.mayB
  · have HZ : Hid (sameV a b = false) := show sameV a b = false by unfold sameV; rw [hma]; simp
    rw [hma] at hMa
    clear HU HV hMb ha hb hRS
    go_enter Tryd.func25, Tryd.ntmps25
    go_wp2_with (go_at_call 42; refine (hMa _ K0.out).mono ?_; rintro e9 w1 ⟨rfl, k1⟩; have HK : Hid (Keep [] w w1) := K0.out.trans' k1; clear k1)
    go_ret
    exact ⟨by rw [HZ.out]; rfl, HK.out⟩
  rw [hma] at hMa
  cases hmb : b.mayB
  · have HZ : Hid (sameV a b = false) := show sameV a b = false by unfold sameV; rw [hmb]; simp
    rw [hmb] at hMb
    clear HU HV ha hb hRS
    go_enter Tryd.func25, Tryd.ntmps25
    go_wp2_with fail
    refine (hMa _ K0.out).mono ?_
    rintro e9 w1 ⟨rfl, k1⟩
    obtain ⟨⟨c0, c1, c2, c3, c4, c5⟩, ⟨d0, d1, d2, d3, d4, d5⟩⟩ := two_cells k1
    have HK : Hid (Keep [] w w1) := K0.out.trans' k1
    clear k1 hMa
    go_wp2_with fail
    refine (hMb _ HK.out).mono ?_
    rintro e9 w2 ⟨rfl, k2⟩
    have HK2 : Hid (Keep [] w w2) := HK.out.trans' k2
    clear k2 hMb
    go_wp2
    go_ret
    exact ⟨by rw [HZ.out]; rfl, HK2.out⟩
  rw [hmb] at hMb
  by_cases hk : a.kind = b.kind
  rotate_left
  · have HZ : Hid (sameV a b = false) := show sameV a b = false by unfold sameV; rw [decide_eq_false hk]; rfl
    have t1 : (a.kind != b.kind) = true := by simpa using hk
    clear HU HV ha hb hRS hk
    go_enter Tryd.func25, Tryd.ntmps25
    go_wp2_with fail
    refine (hMa _ K0.out).mono ?_
    rintro e9 w1 ⟨rfl, k1⟩
    obtain ⟨⟨c0, c1, c2, c3, c4, c5⟩, ⟨d0, d1, d2, d3, d4, d5⟩⟩ := two_cells k1
    have HK1 : Hid _ := k1
    clear k1 hMa
    go_wp2_with fail
    refine (hMb _ (K0.out.trans' HK1.out)).mono ?_
    rintro e9 w2 ⟨rfl, k2⟩
    clear c0 c1 c2 c3 c4 c5 d0 d1 d2 d3 d4 d5
    obtain ⟨⟨c0, c1, c2, c3, c4, c5⟩, ⟨d0, d1, d2, d3, d4, d5⟩⟩ := two_cells (HK1.out.trans' k2)
    have HK2 : Hid (Keep [] w w2) := (K0.out.trans' HK1.out).trans' k2
    clear k2 hMb HK1
    go_wp2
    go_ret
    exact ⟨by rw [HZ.out]; rfl, HK2.out⟩
  have t1 : (a.kind != b.kind) = false := by simpa using hk
  cases e1 : (a.bool == b.bool)
  · have HZ : Hid (sameV a b = false) := same_apart a b hma hmb hk (.inl e1)
    have te1 : (a.bool != b.bool) = true := by rw [bne, e1]; rfl
    clear HU HV ha hb hRS hk
    go_enter Tryd.func25, Tryd.ntmps25
    go_wp2_with fail
    refine (hMa _ K0.out).mono ?_
    rintro e9 w1 ⟨rfl, k1⟩
    obtain ⟨⟨c0, c1, c2, c3, c4, c5⟩, ⟨d0, d1, d2, d3, d4, d5⟩⟩ := two_cells k1
    have HK1 : Hid _ := k1
    clear k1 hMa
    go_wp2_with fail
    refine (hMb _ (K0.out.trans' HK1.out)).mono ?_
    rintro e9 w2 ⟨rfl, k2⟩
    clear c0 c1 c2 c3 c4 c5 d0 d1 d2 d3 d4 d5
    obtain ⟨⟨c0, c1, c2, c3, c4, c5⟩, ⟨d0, d1, d2, d3, d4, d5⟩⟩ := two_cells (HK1.out.trans' k2)
    have HK2 : Hid (Keep [] w w2) := (K0.out.trans' HK1.out).trans' k2
    clear k2 hMb HK1
    go_wp2
    go_ret
    exact ⟨by rw [HZ.out]; rfl, HK2.out⟩
  have te1 : (a.bool != b.bool) = false := by rw [bne, e1]; rfl
  cases e2 : (a.int == b.int)
  · have HZ : Hid (sameV a b = false) := same_apart a b hma hmb hk (.inr (.inl e2))
    have te2 : (a.int != b.int) = true := by rw [bne, e2]; rfl
    clear HU HV ha hb hRS hk
    go_enter Tryd.func25, Tryd.ntmps25
    go_wp2_with fail
    refine (hMa _ K0.out).mono ?_
    rintro e9 w1 ⟨rfl, k1⟩
    obtain ⟨⟨c0, c1, c2, c3, c4, c5⟩, ⟨d0, d1, d2, d3, d4, d5⟩⟩ := two_cells k1
    have HK1 : Hid _ := k1
    clear k1 hMa
    go_wp2_with fail
    refine (hMb _ (K0.out.trans' HK1.out)).mono ?_
    rintro e9 w2 ⟨rfl, k2⟩
    clear c0 c1 c2 c3 c4 c5 d0 d1 d2 d3 d4 d5
    obtain ⟨⟨c0, c1, c2, c3, c4, c5⟩, ⟨d0, d1, d2, d3, d4, d5⟩⟩ := two_cells (HK1.out.trans' k2)
    have HK2 : Hid (Keep [] w w2) := (K0.out.trans' HK1.out).trans' k2
    clear k2 hMb HK1
    go_wp2
    go_ret
    exact ⟨by rw [HZ.out]; rfl, HK2.out⟩
  have te2 : (a.int != b.int) = false := by rw [bne, e2]; rfl
  cases e3 : (a.text.toList == b.text.toList)
  · have HZ : Hid (sameV a b = false) := same_apart a b hma hmb hk (.inr (.inr (.inl e3)))
    have te3 : (a.text.toList != b.text.toList) = true := by rw [bne, e3]; rfl
    clear HU HV ha hb hRS hk
    go_enter Tryd.func25, Tryd.ntmps25
    go_wp2_with fail
    refine (hMa _ K0.out).mono ?_
    rintro e9 w1 ⟨rfl, k1⟩
    obtain ⟨⟨c0, c1, c2, c3, c4, c5⟩, ⟨d0, d1, d2, d3, d4, d5⟩⟩ := two_cells k1
    have HK1 : Hid _ := k1
    clear k1 hMa
    go_wp2_with fail
    refine (hMb _ (K0.out.trans' HK1.out)).mono ?_
    rintro e9 w2 ⟨rfl, k2⟩
    clear c0 c1 c2 c3 c4 c5 d0 d1 d2 d3 d4 d5
    obtain ⟨⟨c0, c1, c2, c3, c4, c5⟩, ⟨d0, d1, d2, d3, d4, d5⟩⟩ := two_cells (HK1.out.trans' k2)
    have HK2 : Hid (Keep [] w w2) := (K0.out.trans' HK1.out).trans' k2
    clear k2 hMb HK1
    go_wp2
    go_ret
    exact ⟨by rw [HZ.out]; rfl, HK2.out⟩
  have te3 : (a.text.toList != b.text.toList) = false := by rw [bne, e3]; rfl
  by_cases hl : a.texts.length = b.texts.length
  rotate_left
  · have HZ : Hid (sameV a b = false) := same_apart a b hma hmb hk (.inr (.inr (.inr (eqL_len hl))))
    have te4 : ((a.texts.length : Int) != (b.texts.length : Int)) = true := by simp; omega
    clear HU HV ha hb hRS hk hl
    go_enter Tryd.func25, Tryd.ntmps25
    go_wp2_with fail
    refine (hMa _ K0.out).mono ?_
    rintro e9 w1 ⟨rfl, k1⟩
    obtain ⟨⟨c0, c1, c2, c3, c4, c5⟩, ⟨d0, d1, d2, d3, d4, d5⟩⟩ := two_cells k1
    have HK1 : Hid _ := k1
    clear k1 hMa
    go_wp2_with fail
    refine (hMb _ (K0.out.trans' HK1.out)).mono ?_
    rintro e9 w2 ⟨rfl, k2⟩
    clear c0 c1 c2 c3 c4 c5 d0 d1 d2 d3 d4 d5
    obtain ⟨⟨c0, c1, c2, c3, c4, c5⟩, ⟨d0, d1, d2, d3, d4, d5⟩⟩ := two_cells (HK1.out.trans' k2)
    have HK2 : Hid (Keep [] w w2) := (K0.out.trans' HK1.out).trans' k2
    clear k2 hMb HK1
    go_wp2
    go_ret
    exact ⟨by rw [HZ.out]; rfl, HK2.out⟩
  have te4 : ((a.texts.length : Int) != (b.texts.length : Int)) = false := by simp; omega
  have HL : Hid (a.texts.length = b.texts.length) := hl
  clear hl
  by_cases h3 : a.kind = 3
  · have g3 : (a.kind == 3) = true := by simpa using h3
    cases hr : sameR a.real b.real
    · have HZ : Hid (sameV a b = false) := same_real a b h3 hr
      rw [hr] at hRS
      clear HU HV ha hb hk h3
      go_enter Tryd.func25, Tryd.ntmps25
      go_wp2_with fail
      refine (hMa _ K0.out).mono ?_
      rintro e9 w1 ⟨rfl, k1⟩
      obtain ⟨⟨c0, c1, c2, c3, c4, c5⟩, ⟨d0, d1, d2, d3, d4, d5⟩⟩ := two_cells k1
      have HK1 : Hid _ := k1
      clear k1 hMa
      go_wp2_with fail
      refine (hMb _ (K0.out.trans' HK1.out)).mono ?_
      rintro e9 w2 ⟨rfl, k2⟩
      clear c0 c1 c2 c3 c4 c5 d0 d1 d2 d3 d4 d5
      obtain ⟨⟨c0, c1, c2, c3, c4, c5⟩, ⟨d0, d1, d2, d3, d4, d5⟩⟩ := two_cells (HK1.out.trans' k2)
      have HK2 : Hid (Keep [] w w2) := (K0.out.trans' HK1.out).trans' k2
      clear k2 hMb HK1
      go_wp2_with (go_at_call 43; refine (hRS _).mono ?_; rintro e9 w9 ⟨rfl, hw9⟩; obtain rfl := hw9.symm)
      go_ret
      exact ⟨by rw [HZ.out]; rfl, HK2.out⟩
    · have HR3 : Hid (a.kind = 3 → sameR a.real b.real = true) := fun _ => hr
      rw [hr] at hRS
      clear h3
      have HX : Hid (eqL a.texts b.texts = true → sameV a b = true) := fun h4 => same_as a b hma hmb hk e1 e2 e3 h4 HR3.out
      have HY : Hid (eqL a.texts b.texts = false → sameV a b = false) := fun h4 => same_apart a b hma hmb hk (.inr (.inr (.inr h4)))
      clear ha hb hk
      go_enter Tryd.func25, Tryd.ntmps25
      go_wp2_with fail
      refine (hMa _ K0.out).mono ?_
      rintro e9 w1 ⟨rfl, k1⟩
      obtain ⟨⟨c0, c1, c2, c3, c4, c5⟩, ⟨d0, d1, d2, d3, d4, d5⟩⟩ := two_cells k1
      have HK1 : Hid _ := k1
      clear k1 hMa
      go_wp2_with fail
      refine (hMb _ (K0.out.trans' HK1.out)).mono ?_
      rintro e9 w2 ⟨rfl, k2⟩
      clear c0 c1 c2 c3 c4 c5 d0 d1 d2 d3 d4 d5
      obtain ⟨⟨c0, c1, c2, c3, c4, c5⟩, ⟨d0, d1, d2, d3, d4, d5⟩⟩ := two_cells (HK1.out.trans' k2)
      have HK2 : Hid (Keep [] w w2) := (K0.out.trans' HK1.out).trans' k2
      clear k2 hMb HK1
      go_wp2_with (go_at_call 43; refine (hRS _).mono ?_; rintro e9 w9 ⟨rfl, hw9⟩; obtain rfl := hw9.symm)
      have HEa : Hid (a.texts ≠ [] → ∃ g o, ao = some ⟨g, o, none⟩ ∧ ∀ j (h : j < a.texts.length), w2.cell? ⟨g, o + j, none⟩ = some (.string a.texts[j])) := by
        obtain ⟨ao', ca', e, _, _, _, h4⟩ := (HU.out.keep HK2.out (Off.nil _)).ex
        simp at e
        obtain ⟨rfl, rfl⟩ := e
        exact h4
      have HEb : Hid (b.texts ≠ [] → ∃ g o, bo = some ⟨g, o, none⟩ ∧ ∀ j (h : j < b.texts.length), w2.cell? ⟨g, o + j, none⟩ = some (.string b.texts[j])) := by
        obtain ⟨ao', ca', e, _, _, _, h4⟩ := (HV.out.keep HK2.out (Off.nil _)).ex
        simp at e
        obtain ⟨rfl, rfl⟩ := e
        exact h4
      clear HU HV c0 c1 c2 c3 c4 d0 d1 d2 d3 d4
      go_loopw [5] (fun iv wr => ∃ k n : Nat, iv = .int .i64 (k : Int) ∧ k ≤ a.texts.length ∧ Hid (∀ j (h : j < a.texts.length) (h' : j < b.texts.length), j < k → a.texts[j].toList = b.texts[j].toList) ∧ wr = w2.drewN n) (fun iv _ => a.texts.length - (intOf iv).toNat)
      case atStart => exact ⟨0, 0, rfl, Nat.zero_le _, fun j _ _ h => absurd h (Nat.not_lt_zero j), rfl⟩
      case round =>
        obtain ⟨k, n, rfl, hka, hall, rfl⟩ := hrel
        by_cases hk : k < a.texts.length
        · have hki : (k : Int) < (a.texts.length : Int) := by omega
          have hkb : k < b.texts.length := by have := HL.out; omega
          have hkbi : (k : Int) < (b.texts.length : Int) := by omega
          obtain ⟨g, o, rfl, hc⟩ := HEa.out (by intro hz; rw [hz] at hk; simp at hk)
          obtain ⟨g', o', rfl, hc'⟩ := HEb.out (by intro hz; rw [hz] at hkb; simp at hkb)
          have hca := hc k hk
          have hcb := hc' k hkb
          by_cases he : a.texts[k].toList = b.texts[k].toList
          · have hee : (a.texts[k].toList == b.texts[k].toList) = true := by simpa using he
            have hen : (a.texts[k].toList != b.texts[k].toList) = false := by rw [bne, hee]; rfl
            have HA : Hid (∀ j (h : j < a.texts.length) (h' : j < b.texts.length), j < k + 1 → a.texts[j].toList = b.texts[j].toList) := fun j h h' hj => by
              by_cases e : j = k
              · subst e; exact he
              · exact hall.out j h h' (by omega)
            clear hall hc hc' he HEa HEb
            generalize a.texts[k] = s at hca hee hen
            generalize b.texts[k] = t at hcb hee hen
            go_wp2
            go_quiet (fail)
            go_wp2
            go_roundw
            case rel => exact ⟨k + 1, _, by go_num, by omega, HA, rfl⟩
            case measure => simp [intOf]; omega
          · have hee : (a.texts[k].toList == b.texts[k].toList) = false := by simpa using he
            have hen : (a.texts[k].toList != b.texts[k].toList) = true := by rw [bne, hee]; rfl
            have HZ : Hid (sameV a b = false) := HY.out (eqL_at hk hkb he)
            clear hall hc hc' he HEa HEb
            generalize a.texts[k] = s at hca hee hen
            generalize b.texts[k] = t at hcb hee hen
            go_wp2
            go_quiet (fail)
            go_wp2
            go_ret
            exact ⟨by rw [HZ.out]; rfl, (HK2.out.drewN _).drewN _⟩
        · have hki : ¬ ((k : Int) < (a.texts.length : Int)) := by omega
          have HZ : Hid (sameV a b = true) := HX.out (eqL_all HL.out (fun j h h' => hall.out j h h' (by omega)))
          clear hall HEa HEb
          go_wp2
          go_ret
          exact ⟨by rw [HZ.out]; rfl, HK2.out.drewN _⟩
  · have g3 : (a.kind == 3) = false := by simpa using h3
    have HR3 : Hid (a.kind = 3 → sameR a.real b.real = true) := fun h => absurd h h3
    clear h3
    have HX : Hid (eqL a.texts b.texts = true → sameV a b = true) := fun h4 => same_as a b hma hmb hk e1 e2 e3 h4 HR3.out
    have HY : Hid (eqL a.texts b.texts = false → sameV a b = false) := fun h4 => same_apart a b hma hmb hk (.inr (.inr (.inr h4)))
    clear ha hb hk
    go_enter Tryd.func25, Tryd.ntmps25
    go_wp2_with fail
    refine (hMa _ K0.out).mono ?_
    rintro e9 w1 ⟨rfl, k1⟩
    obtain ⟨⟨c0, c1, c2, c3, c4, c5⟩, ⟨d0, d1, d2, d3, d4, d5⟩⟩ := two_cells k1
    have HK1 : Hid _ := k1
    clear k1 hMa
    go_wp2_with fail
    refine (hMb _ (K0.out.trans' HK1.out)).mono ?_
    rintro e9 w2 ⟨rfl, k2⟩
    clear c0 c1 c2 c3 c4 c5 d0 d1 d2 d3 d4 d5
    obtain ⟨⟨c0, c1, c2, c3, c4, c5⟩, ⟨d0, d1, d2, d3, d4, d5⟩⟩ := two_cells (HK1.out.trans' k2)
    have HK2 : Hid (Keep [] w w2) := (K0.out.trans' HK1.out).trans' k2
    clear k2 hMb HK1
    go_wp2_with (go_at_call 43; refine (hRS _).mono ?_; rintro e9 w9 ⟨rfl, hw9⟩; obtain rfl := hw9.symm)
    have HEa : Hid (a.texts ≠ [] → ∃ g o, ao = some ⟨g, o, none⟩ ∧ ∀ j (h : j < a.texts.length), w2.cell? ⟨g, o + j, none⟩ = some (.string a.texts[j])) := by
      obtain ⟨ao', ca', e, _, _, _, h4⟩ := (HU.out.keep HK2.out (Off.nil _)).ex
      simp at e
      obtain ⟨rfl, rfl⟩ := e
      exact h4
    have HEb : Hid (b.texts ≠ [] → ∃ g o, bo = some ⟨g, o, none⟩ ∧ ∀ j (h : j < b.texts.length), w2.cell? ⟨g, o + j, none⟩ = some (.string b.texts[j])) := by
      obtain ⟨ao', ca', e, _, _, _, h4⟩ := (HV.out.keep HK2.out (Off.nil _)).ex
      simp at e
      obtain ⟨rfl, rfl⟩ := e
      exact h4
    clear HU HV c0 c1 c2 c3 c4 d0 d1 d2 d3 d4
    go_loopw [5] (fun iv wr => ∃ k n : Nat, iv = .int .i64 (k : Int) ∧ k ≤ a.texts.length ∧ Hid (∀ j (h : j < a.texts.length) (h' : j < b.texts.length), j < k → a.texts[j].toList = b.texts[j].toList) ∧ wr = w2.drewN n) (fun iv _ => a.texts.length - (intOf iv).toNat)
    case atStart => exact ⟨0, 0, rfl, Nat.zero_le _, fun j _ _ h => absurd h (Nat.not_lt_zero j), rfl⟩
    case round =>
      obtain ⟨k, n, rfl, hka, hall, rfl⟩ := hrel
      by_cases hk : k < a.texts.length
      · have hki : (k : Int) < (a.texts.length : Int) := by omega
        have hkb : k < b.texts.length := by have := HL.out; omega
        have hkbi : (k : Int) < (b.texts.length : Int) := by omega
        obtain ⟨g, o, rfl, hc⟩ := HEa.out (by intro hz; rw [hz] at hk; simp at hk)
        obtain ⟨g', o', rfl, hc'⟩ := HEb.out (by intro hz; rw [hz] at hkb; simp at hkb)
        have hca := hc k hk
        have hcb := hc' k hkb
        by_cases he : a.texts[k].toList = b.texts[k].toList
        · have hee : (a.texts[k].toList == b.texts[k].toList) = true := by simpa using he
          have hen : (a.texts[k].toList != b.texts[k].toList) = false := by rw [bne, hee]; rfl
          have HA : Hid (∀ j (h : j < a.texts.length) (h' : j < b.texts.length), j < k + 1 → a.texts[j].toList = b.texts[j].toList) := fun j h h' hj => by
            by_cases e : j = k
            · subst e; exact he
            · exact hall.out j h h' (by omega)
          clear hall hc hc' he HEa HEb
          generalize a.texts[k] = s at hca hee hen
          generalize b.texts[k] = t at hcb hee hen
          go_wp2
          go_quiet (fail)
          go_wp2
          go_roundw
          case rel => exact ⟨k + 1, _, by go_num, by omega, HA, rfl⟩
          case measure => simp [intOf]; omega
        · have hee : (a.texts[k].toList == b.texts[k].toList) = false := by simpa using he
          have hen : (a.texts[k].toList != b.texts[k].toList) = true := by rw [bne, hee]; rfl
          have HZ : Hid (sameV a b = false) := HY.out (eqL_at hk hkb he)
          clear hall hc hc' he HEa HEb
          generalize a.texts[k] = s at hca hee hen
          generalize b.texts[k] = t at hcb hee hen
          go_wp2
          go_quiet (fail)
          go_wp2
          go_ret
          exact ⟨by rw [HZ.out]; rfl, (HK2.out.drewN _).drewN _⟩
      · have hki : ¬ ((k : Int) < (a.texts.length : Int)) := by omega
        have HZ : Hid (sameV a b = true) := HX.out (eqL_all HL.out (fun j h h' => hall.out j h h' (by omega)))
        clear hall HEa HEb
        go_wp2
        go_ret
        exact ⟨by rw [HZ.out]; rfl, HK2.out.drewN _⟩
end Go.Proofs.YtpbfglpjhmhneaaDoor

