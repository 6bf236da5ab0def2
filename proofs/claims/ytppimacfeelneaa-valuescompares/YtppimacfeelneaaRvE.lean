/- In: the program's and the document's. -/
import Derived.Test.YtppimacfeelneaaRvC
namespace Go.Proofs.Ytppimacfeelneaa
open Go.RowKit Go.PlainAid

def hasB (l : List ByteArray) (t : ByteArray) : Bool := l.any fun s => s.toList == t.toList
theorem has_yes {l : List ByteArray} {t : ByteArray} {k : Nat} (hk : k < l.length) (h : l[k].toList = t.toList) : hasB l t = true := by
  unfold hasB
  rw [List.any_eq_true]
  exact ⟨l[k], List.getElem_mem hk, by simpa using h⟩
theorem has_no {l : List ByteArray} {t : ByteArray} (h : ∀ j (hj : j < l.length), ¬ l[j].toList = t.toList) : hasB l t = false := by
  unfold hasB
  rw [List.any_eq_false]
  intro s hs
  obtain ⟨j, hj, rfl⟩ := List.getElem_of_mem hs
  simpa using h j hj

set_option maxHeartbeats 1600000 in
theorem index_any (u : Value) (l : List ByteArray) (t : ByteArray) (w : World) (hu : Ts w u l) :
    Calls Try.prog 75 #[u, .string t] w fun e w' => ∃ i : Int, e = .returned (.int .i64 i) ∧ decide (0 ≤ i) = hasB l t ∧ w' = w := by
  obtain ⟨ao, ca, rfl, p1, p2, _, p4⟩ := hu.ex
  have HE : Hid (l ≠ [] → ∃ b o, ao = some ⟨b, o, none⟩ ∧ ∀ j (h : j < l.length), w.cell? ⟨b, o + j, none⟩ = some (.string l[j])) := p4
  clear p4 hu
  go_enter Try.func75, Try.ntmps75
  go_wp2
  go_loop [8] (fun iv => ∃ k : Nat, iv = .int .i64 (k : Int) ∧ k ≤ l.length ∧ Hid (∀ j (hj : j < l.length), j < k → ¬ l[j].toList = t.toList)) (fun iv => l.length - (intOf iv).toNat)
  case atStart => exact ⟨0, rfl, Nat.zero_le _, fun j _ h => absurd h (Nat.not_lt_zero j)⟩
  case round =>
    obtain ⟨k, rfl, hk, hall⟩ := hrel
    by_cases hlt : k < l.length
    · have hki : (k : Int) < (l.length : Int) := by omega
      obtain ⟨g, o, rfl, hc⟩ := HE.out (by intro hz; rw [hz] at hlt; simp at hlt)
      have hca := hc k hlt
      by_cases he : l[k].toList = t.toList
      · have hee : (t.toList == l[k].toList) = true := by simpa using he.symm
        have HZ : Hid (hasB l t = true) := has_yes hlt he
        clear hall hc he HE
        generalize l[k] = s at hca hee
        go_wp2
        go_ret
        exact ⟨_, rfl, by rw [HZ.out]; simp, rfl⟩
      · have hee : (t.toList == l[k].toList) = false := by simpa using fun e => he e.symm
        have HA : Hid (∀ j (hj : j < l.length), j < k + 1 → ¬ l[j].toList = t.toList) := fun j h hj => by
          by_cases e : j = k
          · subst e; exact he
          · exact hall.out j h (by omega)
        clear hall hc he HE
        generalize l[k] = s at hca hee
        go_wp2
        go_round
        case rel => exact ⟨k + 1, by go_num, by omega, HA⟩
        case measure => simp [intOf]; omega
    · have hki : ¬ (k : Int) < (l.length : Int) := by omega
      have HZ : Hid (hasB l t = false) := has_no (fun j hj => hall.out j hj (by omega))
      clear hall HE
      go_wp2
      go_ret
      exact ⟨_, rfl, by rw [HZ.out]; rfl, rfl⟩
theorem contains_any (u : Value) (l : List ByteArray) (t : ByteArray) (w : World) (hu : Ts w u l) :
    Calls Try.prog 37 #[u, .string t] w fun e w' => e = .returned (.bool (hasB l t)) ∧ w' = w := by
  have h := index_any u l t w hu
  obtain ⟨ao, ca, rfl, _, _, _, _⟩ := hu.ex
  clear hu
  generalize hasB l t = z at *
  go_enter Try.func37, Try.ntmps37
  go_wp2_with fail
  refine h.mono ?_
  rintro e9 w9 ⟨i, rfl, hi, hw9⟩
  obtain rfl := hw9.symm
  clear hw9
  subst hi
  go_wp2
  go_ret
  exact ⟨rfl, rfl⟩

def inV (a b : VD) : Bool × Bool := if a.kind = 4 ∧ b.kind = 5 ∧ (a.mayB && b.mayB) = true then (hasB b.texts a.text, true) else (false, false)

set_option maxRecDepth 1000000 in
set_option maxHeartbeats 3200000 in
theorem in_any (a b : VD) (ha : a.Ok) (hb : b.Ok) (u v : Value) (w : World) (hu : Ts w u a.texts) (hv : Ts w v b.texts) :
    Calls Try.prog 14 #[a.val u, b.val v] w fun e w' => e = .returned (.tuple #[.bool (inV a b).1, .bool (inV a b).2]) ∧ Keep [] w w' := by
  have hM := fun w1 (k : Keep [] w w1) => mayBoth_any a b ha hb u v w1 (hu.keep k (Off.nil _)) (hv.keep k (Off.nil _))
  have hC := fun w1 (k : Keep [] w w1) => contains_any v b.texts a.text w1 (hv.keep k (Off.nil _))
  obtain ⟨ao, ca, rfl, _, _, _, _⟩ := hu.ex
  obtain ⟨bo, cb, rfl, _, _, _, _⟩ := hv.ex
  clear hu hv ha hb
  have K0 : Hid (Keep [] w ((w.alloc (a.blk (.slice ao a.texts.length ca))).alloc (b.blk (.slice bo b.texts.length cb)))) := (Keep.alloc1 w _).alloc _
  by_cases h4 : a.kind = 4
  rotate_left
  · have HZ : Hid (inV a b = (false, false)) := show inV a b = (false, false) by unfold inV; rw [if_neg (by omega)]
    have t1 : (a.kind != 4) = true := by simpa using h4
    clear h4 hM hC
    go_enter Try.func14, Try.ntmps14
    go_wp2
    go_ret2
    exact ⟨by rw [HZ.out]; rfl, K0.out⟩
  have t1 : (a.kind != 4) = false := by simpa using h4
  by_cases h5 : b.kind = 5
  rotate_left
  · have HZ : Hid (inV a b = (false, false)) := show inV a b = (false, false) by unfold inV; rw [if_neg (by omega)]
    have t2 : (b.kind != 5) = true := by simpa using h5
    clear h4 h5 hM hC
    go_enter Try.func14, Try.ntmps14
    go_wp2
    go_ret2
    exact ⟨by rw [HZ.out]; rfl, K0.out⟩
  have t2 : (b.kind != 5) = false := by simpa using h5
  cases hm : (a.mayB && b.mayB)
  · have HZ : Hid (inV a b = (false, false)) := show inV a b = (false, false) by unfold inV; rw [if_neg (by rw [hm]; simp)]
    rw [hm] at hM
    clear h4 h5 hC hm
    go_enter Try.func14, Try.ntmps14
    go_wp2_with (go_at_call 32; refine (hM _ K0.out).mono ?_; rintro e9 w1 ⟨rfl, k1⟩; have HK : Hid (Keep [] w w1) := K0.out.trans' k1; clear k1)
    go_ret2
    exact ⟨by rw [HZ.out]; rfl, HK.out⟩
  · have HZ : Hid (inV a b = (hasB b.texts a.text, true)) := show inV a b = (hasB b.texts a.text, true) by unfold inV; rw [if_pos ⟨h4, h5, hm⟩]
    rw [hm] at hM
    clear h4 h5 hm
    generalize hasB b.texts a.text = z at *
    go_enter Try.func14, Try.ntmps14
    go_wp2_with fail
    refine (hM _ K0.out).mono ?_
    rintro e9 w1 ⟨rfl, k1⟩
    obtain ⟨⟨c0, c1, c2, c3, c4, c5⟩, ⟨d0, d1, d2, d3, d4, d5⟩⟩ := two_cells k1
    have HK : Hid (Keep [] w w1) := K0.out.trans' k1
    clear k1 hM
    go_wp2_with (go_at_call 37; refine (hC _ HK.out).mono ?_; rintro e9 w9 ⟨rfl, hw9⟩; obtain rfl := hw9.symm)
    go_ret2
    exact ⟨by rw [HZ.out]; rfl, HK.out⟩

set_option maxRecDepth 1000000 in
set_option maxHeartbeats 3200000 in
theorem rIn_any (a b : VD) (ha : a.Ok) (hb : b.Ok) (u v : Value) (w : World) (hu : Ts w u a.texts) (hv : Ts w v b.texts) :
    Calls Try.prog 16 #[a.val u, b.val v] w fun e w' => e = .returned (.tuple #[.bool (inV a b).1, .bool (inV a b).2]) ∧ Keep [] w w' := by
  have hMa := fun w1 (k : Keep [] w w1) => rMay_any a ha u w1 (hu.keep k (Off.nil _))
  have hMb := fun w1 (k : Keep [] w w1) => rMay_any b hb v w1 (hv.keep k (Off.nil _))
  have HV : Hid (Ts w v b.texts) := hv
  obtain ⟨ao, ca, rfl, _, _, _, _⟩ := hu.ex
  obtain ⟨bo, cb, rfl, q1, q2, _, _⟩ := hv.ex
  clear hu hv ha hb
  have K0 : Hid (Keep [] w ((w.alloc (a.blk (.slice ao a.texts.length ca))).alloc (b.blk (.slice bo b.texts.length cb)))) := (Keep.alloc1 w _).alloc _
  by_cases h4 : a.kind = 4
  rotate_left
  · have HZ : Hid (inV a b = (false, false)) := show inV a b = (false, false) by unfold inV; rw [if_neg (by omega)]
    have t1 : (a.kind != 4) = true := by simpa using h4
    clear h4 hMa hMb HV
    go_enter Try.func16, Try.ntmps16
    go_wp2
    go_ret2
    exact ⟨by rw [HZ.out]; rfl, K0.out⟩
  have t1 : (a.kind != 4) = false := by simpa using h4
  by_cases h5 : b.kind = 5
  rotate_left
  · have HZ : Hid (inV a b = (false, false)) := show inV a b = (false, false) by unfold inV; rw [if_neg (by omega)]
    have t2 : (b.kind != 5) = true := by simpa using h5
    clear h4 h5 hMa hMb HV
    go_enter Try.func16, Try.ntmps16
    go_wp2
    go_ret2
    exact ⟨by rw [HZ.out]; rfl, K0.out⟩
  have t2 : (b.kind != 5) = false := by simpa using h5
  cases hma : a.mayB
  · have HZ : Hid (inV a b = (false, false)) := show inV a b = (false, false) by unfold inV; rw [if_neg (by rw [hma]; simp)]
    rw [hma] at hMa
    clear h4 h5 hMb HV
    go_enter Try.func16, Try.ntmps16
    go_wp2_with (go_at_call 38; refine (hMa _ K0.out).mono ?_; rintro e9 w1 ⟨rfl, k1⟩; have HK : Hid (Keep [] w w1) := K0.out.trans' k1; clear k1)
    go_ret2
    exact ⟨by rw [HZ.out]; rfl, HK.out⟩
  rw [hma] at hMa
  cases hmb : b.mayB
  · have HZ : Hid (inV a b = (false, false)) := show inV a b = (false, false) by unfold inV; rw [if_neg (by rw [hmb]; simp)]
    rw [hmb] at hMb
    clear h4 h5 HV
    go_enter Try.func16, Try.ntmps16
    go_wp2_with fail
    refine (hMa _ K0.out).mono ?_
    rintro e9 w1 ⟨rfl, k1⟩
    obtain ⟨⟨c0, c1, c2, c3, c4, c5⟩, ⟨d0, d1, d2, d3, d4, d5⟩⟩ := two_cells k1
    have HK : Hid (Keep [] w w1) := K0.out.trans' k1
    clear k1 hMa
    go_wp2_with fail
    refine (hMb _ HK.out).mono ?_
    rintro e9 w2 ⟨rfl, k2⟩
    have HK2 : Hid (Keep [] w w2) := HK.out.trans' k2
    clear k2 hMb
    go_wp2
    go_ret2
    exact ⟨by rw [HZ.out]; rfl, HK2.out⟩
  rw [hmb] at hMb
  have HZ : Hid (inV a b = (hasB b.texts a.text, true)) := show inV a b = (hasB b.texts a.text, true) by unfold inV; rw [if_pos ⟨h4, h5, by rw [hma, hmb]; rfl⟩]
  clear h4 h5
  go_enter Try.func16, Try.ntmps16
  go_wp2_with fail
  refine (hMa _ K0.out).mono ?_
  rintro e9 w1 ⟨rfl, k1⟩
  obtain ⟨⟨c0, c1, c2, c3, c4, c5⟩, ⟨d0, d1, d2, d3, d4, d5⟩⟩ := two_cells k1
  have HK1 : Hid _ := k1
  clear k1 hMa
  go_wp2_with fail
  refine (hMb _ (K0.out.trans' HK1.out)).mono ?_
  rintro e9 w2 ⟨rfl, k2⟩
  clear c0 c1 c2 c3 c4 c5 d0 d1 d2 d3 d4 d5
  obtain ⟨⟨c0, c1, c2, c3, c4, c5⟩, ⟨d0, d1, d2, d3, d4, d5⟩⟩ := two_cells (HK1.out.trans' k2)
  have HK2 : Hid (Keep [] w w2) := (K0.out.trans' HK1.out).trans' k2
  clear k2 hMb HK1
  go_wp2
  have HEb : Hid (b.texts ≠ [] → ∃ g o, bo = some ⟨g, o, none⟩ ∧ ∀ j (h : j < b.texts.length), w2.cell? ⟨g, o + j, none⟩ = some (.string b.texts[j])) := by
    obtain ⟨ao', ca', e, _, _, _, h4⟩ := (HV.out.keep HK2.out (Off.nil _)).ex
    simp at e
    obtain ⟨rfl, rfl⟩ := e
    exact h4
  clear HV c0 c1 c2 c3 c5 d0 d1 d2 d3 d4
  go_loopw [6] (fun iv wr => ∃ k n : Nat, iv = .int .i64 (k : Int) ∧ k ≤ b.texts.length ∧ Hid (∀ j (hj : j < b.texts.length), j < k → ¬ b.texts[j].toList = a.text.toList) ∧ wr = w2.drewN n) (fun iv _ => b.texts.length - (intOf iv).toNat)
  case atStart => exact ⟨0, 0, rfl, Nat.zero_le _, fun j _ h => absurd h (Nat.not_lt_zero j), rfl⟩
  case round =>
    obtain ⟨k, n, rfl, hk, hall, rfl⟩ := hrel
    by_cases hlt : k < b.texts.length
    · have hki : (k : Int) < (b.texts.length : Int) := by omega
      obtain ⟨g, o, rfl, hc⟩ := HEb.out (by intro hz; rw [hz] at hlt; simp at hlt)
      have hca := hc k hlt
      by_cases he : b.texts[k].toList = a.text.toList
      · have hee : (b.texts[k].toList == a.text.toList) = true := by simpa using he
        have HH : Hid (hasB b.texts a.text = true) := has_yes hlt he
        clear hall hc he HEb
        generalize b.texts[k] = s at hca hee
        go_wp2
        go_quiet (fail)
        go_wp2
        go_ret2
        exact ⟨by rw [HZ.out, HH.out]; rfl, (HK2.out.drewN _).drewN _⟩
      · have hee : (b.texts[k].toList == a.text.toList) = false := by simpa using he
        have HA : Hid (∀ j (hj : j < b.texts.length), j < k + 1 → ¬ b.texts[j].toList = a.text.toList) := fun j h hj => by
          by_cases e : j = k
          · subst e; exact he
          · exact hall.out j h (by omega)
        clear hall hc he HEb
        generalize b.texts[k] = s at hca hee
        go_wp2
        go_quiet (fail)
        go_wp2
        go_roundw
        case rel => exact ⟨k + 1, _, by go_num, by omega, HA, rfl⟩
        case measure => simp [intOf]; omega
    · have hki : ¬ (k : Int) < (b.texts.length : Int) := by omega
      have HH : Hid (hasB b.texts a.text = false) := has_no (fun j hj => hall.out j hj (by omega))
      clear hall HEb
      go_wp2
      go_ret2
      exact ⟨by rw [HZ.out, HH.out]; rfl, HK2.out.drewN _⟩
end Go.Proofs.Ytppimacfeelneaa
