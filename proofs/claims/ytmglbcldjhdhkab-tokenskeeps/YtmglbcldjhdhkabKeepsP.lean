/- TokensKeeps: for every two texts the call returns true, and the texts read as they did; no condition. -/
import Derived.Test.YtmglbcldjhdhkabTkSm
import Derived.Test.YtmglbcldjhdhkabTkKp
import Derived.Test.YtmglbcldjhdhkabTkAq
import Derived.ProofKit
import Derived.OpenShut
import Derived.ShutString
import Derived.ChangeOld
import Derived.SizedLaws
import Derived.Lib.SmallJoins
namespace Go.Proofs.Ytmglbcldjhdhkab
section
open Go.RowKit Go.PlainAid

theorem mark_short : ∀ t ∈ markN 24, t.text.length ≤ 140737488351232 := by
  intro t ht
  obtain ⟨i, -, rfl⟩ := List.mem_map.1 ht
  show 8 ≤ _
  omega
/-- three rows that were scanned, apart from one another, below B -/
structure K3 (w W : World) (B : Nat) (v5 v7 v9 : Value) (X Y : List TokD) : Prop where
  r5 : RowT W v5 X
  r7 : RowT W v7 Y
  r9 : RowT W v9 X
  keep : Keep [] w W
  n5 : ∀ x, v5.ownBlock = some x → w.heap.size ≤ x ∧ x < B
  n7 : ∀ x, v7.ownBlock = some x → w.heap.size ≤ x ∧ x < B
  n9 : ∀ x, v9.ownBlock = some x → w.heap.size ≤ x ∧ x < B
  s57 : ∀ x, v5.ownBlock = some x → v7.ownBlock ≠ some x
  s59 : ∀ x, v5.ownBlock = some x → v9.ownBlock ≠ some x
  s79 : ∀ x, v7.ownBlock = some x → v9.ownBlock ≠ some x
theorem K3.call {w W W' : World} {B : Nat} {v5 v7 v9 : Value} {X Y : List TokD} (h : K3 w W B v5 v7 v9 X Y) (k : Keep [] W W') : K3 w W' B v5 v7 v9 X Y :=
  ⟨h.r5.keep k (Off.nil _), h.r7.keep k (Off.nil _), h.r9.keep k (Off.nil _), h.keep.trans' k, h.n5, h.n7, h.n9, h.s57, h.s59, h.s79⟩
theorem K3.far {w W W' : World} {B g : Nat} {v5 v7 v9 : Value} {X Y : List TokD} (h : K3 w W B v5 v7 v9 X Y) (hB : w.heap.size ≤ B) (k : Keep [g] W W') (hg : B ≤ g) : K3 w W' B v5 v7 v9 X Y :=
  ⟨h.r5.keep k (fun x hx hm => by have := h.n5 x hx; simp at hm; omega), h.r7.keep k (fun x hx hm => by have := h.n7 x hx; simp at hm; omega), h.r9.keep k (fun x hx hm => by have := h.n9 x hx; simp at hm; omega), h.keep.more k (fun x hx => by simp at hx; exact .inr (by omega)), h.n5, h.n7, h.n9, h.s57, h.s59, h.s79⟩
/-- the three, by their places -/
def F3 (v5 v7 v9 : Value) (k : Nat) : Value := if k = 0 then v5 else if k = 1 then v7 else v9
def m3 (X Y : List TokD) (k : Nat) : List TokD := if k = 1 then Y else X
theorem K3.ap {w W : World} {B : Nat} {v5 v7 v9 : Value} {X Y : List TokD} (h : K3 w W B v5 v7 v9 X Y) (hB : B ≤ W.heap.size) : Ap (W.alloc (.cells #[v5, v7, v9] 23 (0, 0))) W.heap.size 3 (F3 v5 v7 v9) (m3 X Y) := by
  have h' := h.call (Keep.alloc1 W (.cells #[v5, v7, v9] 23 (0, 0)))
  refine ⟨fun k hk => ?_, fun k hk => ?_, fun k hk => ?_, fun j k hj hk hjk x hx => ?_⟩
  · have : k = 0 ∨ k = 1 ∨ k = 2 := by omega
    rcases this with rfl | rfl | rfl
    all_goals exact (box_cell (heap_alloc_new W _) _).1
  · have : k = 0 ∨ k = 1 ∨ k = 2 := by omega
    rcases this with rfl | rfl | rfl
    · exact h'.r5
    · exact h'.r7
    · exact h'.r9
  · have : k = 0 ∨ k = 1 ∨ k = 2 := by omega
    rcases this with rfl | rfl | rfl
    · intro e; have := (h.n5 _ e).2; omega
    · intro e; have := (h.n7 _ e).2; omega
    · intro e; have := (h.n9 _ e).2; omega
  · have hj3 : j = 0 ∨ j = 1 ∨ j = 2 := by omega
    have hk3 : k = 0 ∨ k = 1 ∨ k = 2 := by omega
    rcases hj3 with rfl | rfl | rfl <;> rcases hk3 with rfl | rfl | rfl
    · exact absurd rfl hjk
    · exact h.s57 x hx
    · exact h.s59 x hx
    · exact fun e => h.s57 x e hx
    · exact absurd rfl hjk
    · exact h.s79 x hx
    · exact fun e => h.s59 x e hx
    · exact fun e => h.s79 x e hx
    · exact absurd rfl hjk
theorem K3.blk {w W : World} {B : Nat} {v5 v7 v9 : Value} {X Y : List TokD} (h : K3 w W B v5 v7 v9 X Y) : ∀ x ∈ blks 3 (F3 v5 v7 v9), w.heap.size ≤ x ∧ x < B := by
  intro x hx
  obtain ⟨k, hk, e⟩ := mem_blks.1 hx
  have : k = 0 ∨ k = 1 ∨ k = 2 := by omega
  rcases this with rfl | rfl | rfl
  · exact h.n5 x e
  · exact h.n7 x e
  · exact h.n9 x e

set_option maxRecDepth 1000000 in
set_option maxHeartbeats 4000000 in
theorem keeps_law (s t : ByteArray) (w : World) (hs : s.size ≤ 140737488351232) (ht : t.size ≤ 140737488351232) :
    Calls Try.prog 4 #[.string s, .string t] w fun e w' => e = .returned (.bool true) ∧ Keep [] w w' := by
  have scn : ∀ (s : ByteArray), s.size ≤ 140737488351232 → ∃ (X : List TokD) (x1 x2 x3 : Int), X.length ≤ 65537 ∧ (∀ t ∈ X, t.text.length ≤ 140737488351232) ∧ ∀ w, Calls Try.prog 6 #[.string s] w fun e w' => ∃ a5 c5, e = .returned (.tuple #[.slice a5 X.length c5, .agg #[.int .i64 x1, .int .i64 x2, .int .i64 x3]]) ∧ RowT w' (.slice a5 X.length c5) X ∧ Keep [] w w' ∧ ∀ x, (Value.slice a5 X.length c5).ownBlock = some x → w.heap.size ≤ x := fun s hs => by
    refine ⟨scanT s.toList, (scanL s.toList).2.1, ((scanL s.toList).2.2.1 : Int), ((scanL s.toList).2.2.2 : Int), scanT_many _, scanT_len _, fun w => (scan_any s w (by omega)).mono ?_⟩
    rintro e w' ⟨v, rfl, r, k, f⟩
    obtain ⟨a, c, hv, -⟩ := r.formA
    rw [hv] at r f ⊢
    exact ⟨a, c, rfl, r, k, f⟩
  obtain ⟨X, x1, x2, x3, hX, hXt, hsc⟩ := scn s hs
  obtain ⟨Y, y1, y2, y3, hY, hYt, htc⟩ := scn t ht
  have HSs : Hid _ := hsc
  have HSt : Hid _ := htc
  have HXt : Hid _ := hXt
  clear hsc htc scn hYt hXt hs ht
  have HPx : Hid (∀ w v, Ts4 w v X → Calls Try.prog 11 #[v] w fun e w' => e = .returned (.tuple #[.string (ba (printL X).1), .int .i64 (printL X).2]) ∧ Keep [] w w') := fun w v h => print_any v X w h
  generalize ba (printL X).1 = S1 at HPx
  generalize (printL X).2 = E1 at HPx
  go_enter Try.func4, Try.ntmps4
  go_wp2_with (first | (go_at_call 5; refine (awake_any _).mono ?_; rintro e w1 ⟨rfl, k1⟩) | fail)
  refine (HSs.out _).mono ?_
  rintro e w2 ⟨a5, c5, rfl, R5, k2, f5⟩
  go_wp2_with fail
  refine (HSt.out _).mono ?_
  rintro e w3 ⟨a7, c7, rfl, R7, k3, f7⟩
  go_wp2_with fail
  refine (HSs.out _).mono ?_
  rintro e w4 ⟨a9, c9, rfl, R9, k4, f9⟩
  have hb6 : (w4.alloc (.cells #[.int .i64 x1, .int .i64 x2, .int .i64 x3] 26 (0, 0))).heap[w2.heap.size]? = some (.cells #[.int .i64 x1, .int .i64 x2, .int .i64 x3] 26 (0, 0)) := by
    have h1 := heap_alloc_new w2 (.cells #[.int .i64 x1, .int .i64 x2, .int .i64 x3] 26 (0, 0))
    have kk := ((k3.alloc (.cells #[.int .i64 y1, .int .i64 y2, .int .i64 y3] 26 (0, 0))).trans' k4).alloc (.cells #[.int .i64 x1, .int .i64 x2, .int .i64 x3] 26 (0, 0))
    exact (kk.block _ (Array.getElem?_eq_some_iff.1 h1).1 (by simp)).trans h1
  have hb10 := heap_alloc_new w4 (.cells #[.int .i64 x1, .int .i64 x2, .int .i64 x3] 26 (0, 0))
  obtain ⟨s0, s1, s2, -, -, -⟩ := box3 hb6
  obtain ⟨p0, p1, p2, -, -, -⟩ := box3 hb10
  have hK3 : Hid (K3 w (w4.alloc (.cells #[.int .i64 x1, .int .i64 x2, .int .i64 x3] 26 (0, 0))) w4.heap.size (.slice a5 X.length c5) (.slice a7 Y.length c7) (.slice a9 X.length c9) X Y) := by
    have z1 := k1.size
    have z2 := k2.size
    have z3 := k3.size
    have z4 := k4.size
    simp at z3 z4
    have l5 := RowT.lt R5
    have l7 := RowT.lt R7
    have l9 := RowT.lt R9
    have kk4 := Keep.alloc1 w4 (.cells #[.int .i64 x1, .int .i64 x2, .int .i64 x3] 26 (0, 0))
    have kk3 := (((Keep.alloc1 w3 (.cells #[.int .i64 y1, .int .i64 y2, .int .i64 y3] 26 (0, 0))).trans' k4).trans' kk4)
    have kk2 := (((Keep.alloc1 w2 (.cells #[.int .i64 x1, .int .i64 x2, .int .i64 x3] 26 (0, 0))).trans' k3).trans' kk3)
    refine ⟨RowT.keep R5 kk2 (Off.nil _), RowT.keep R7 kk3 (Off.nil _), RowT.keep R9 kk4 (Off.nil _), ((k1.trans' k2).trans' kk2), fun x hx => ?_, fun x hx => ?_, fun x hx => ?_, fun x hx e => ?_, fun x hx e => ?_, fun x hx e => ?_⟩
    · have h1 := f5 x hx
      have h2 := l5 x hx
      omega
    · have h1 := f7 x hx
      have h2 := l7 x hx
      simp at h1
      omega
    · have h1 := f9 x hx
      have h2 := l9 x hx
      simp at h1
      omega
    · have h1 := l5 x hx
      have h2 := f7 x e
      simp at h2
      omega
    · have h1 := l5 x hx
      have h2 := f9 x e
      simp at h2
      omega
    · have h1 := l7 x hx
      have h2 := f9 x e
      simp at h2
      omega
  have hBW : Hid (w.heap.size ≤ w4.heap.size ∧ w4.heap.size ≤ (w4.alloc (.cells #[.int .i64 x1, .int .i64 x2, .int .i64 x3] 26 (0, 0))).heap.size) := by
    have z1 := k1.size
    have z2 := k2.size
    have z3 := k3.size
    have z4 := k4.size
    simp at z3 z4
    exact ⟨by omega, by simp⟩
  clear R5 R7 R9 k1 k2 k3 k4 f5 f7 f9 hb6 hb10 HSt
  go_wp2_with fail
  generalize w4.alloc (.cells #[.int .i64 x1, .int .i64 x2, .int .i64 x3] 26 (0, 0)) = W4 at *
  generalize w4.heap.size = B at *
  refine (same_yes _ _ X _ (Ts4.ofRow hK3.out.r5 HXt.out) (Ts4.ofRow hK3.out.r9 HXt.out)).mono ?_
  rintro e w5 ⟨rfl, k5⟩
  have hK5 : Hid _ := hK3.out.call k5
  clear s0 s1 s2 p0 p1 p2
  go_wp2_with fail
  refine (copyT_any _ X _ (Ts4.ofRow hK5.out.r5 HXt.out) (by omega)).mono ?_
  rintro e w6 ⟨v11, rfl, R11, k6, f11⟩
  obtain ⟨a11, c11, rfl⟩ : ∃ a c, v11 = .slice a X.length c := by
    obtain ⟨a, c, h, _⟩ := RowT.formA R11
    exact ⟨a, c, h⟩
  have hK6 : Hid _ := hK5.out.call k6
  go_wp2_with fail
  refine (lentT_any _ X _ (Ts4.ofRow hK6.out.r5 HXt.out) (by omega)).mono ?_
  rintro e w7 ⟨g, cap, rfl, R12, k7, f12⟩
  have hK7 : Hid _ := hK6.out.call k7
  have t1 : Ts4 w7 (.slice (some ⟨g, 0, none⟩) (X.length + 24) cap) (X ++ markN 24) := Ts4.ofRow R12 (fun t ht => by
    rcases List.mem_append.1 ht with ht | ht
    · exact HXt.out t ht
    · exact mark_short t ht)
  have hll : (X ++ markN 24).length = X.length + 24 := by rw [List.length_append, mark_len]
  have t2 : Ts4 w7 (.slice (some ⟨g, 0, none⟩) X.length cap) X := by
    have : Ts4 w7 (.slice (some ⟨g, 0, none⟩) X.length cap) ((X ++ markN 24).take X.length) := Ts4.front (by rw [hll]; exact t1) X.length (by omega)
    rwa [List.take_left] at this
  have hcap : X.length + 24 ≤ cap ∧ cap ≤ 9223372036854775807 := by
    obtain ⟨ao, c, e, h1, h2, -⟩ := t1.ex
    simp only [Value.slice.injEq] at e
    obtain ⟨-, -, rfl⟩ := e
    omega
  obtain ⟨hc1, hc2⟩ := hcap
  go_wp2_with fail
  refine (HPx.out w7 _ t2).mono ?_
  rintro e w8 ⟨rfl, k8⟩
  have hK8 : Hid _ := hK7.out.call k8
  go_wp2_with fail
  refine (keptT_any g 0 cap _ X w8 (t1.keep k8 (Off.nil _)) (Ts4.ofRow hK8.out.r5 HXt.out) (by omega)).mono ?_
  rintro e w9 ⟨rfl, k9⟩
  have hK9 : Hid (K3 w w9 B (.slice a5 X.length c5) (.slice a7 Y.length c7) (.slice a9 X.length c9) X Y) := hK8.out.call k9
  have hR11 : Hid (RowT w9 (.slice a11 X.length c11) X ∧ (∀ x, (Value.slice a11 X.length c11).ownBlock = some x → B ≤ x ∧ x < g) ∧ B ≤ g ∧ w.heap.size ≤ B) := by
    have z5 := k5.size
    have z6 := k6.size
    have hb := hBW.out
    refine ⟨((RowT.keep R11 k7 (Off.nil _)).keep k8 (Off.nil _)).keep k9 (Off.nil _), fun x hx => ?_, by omega, hb.1⟩
    have h1 := f11 x hx
    have h2 := RowT.lt R11 x hx
    omega
  have hR12 : Hid (RowT w9 (.slice (some ⟨g, 0, none⟩) (X.length + 24) cap) (X ++ markN 24)) := ((RowT.keep R12 k8 (Off.nil _)).keep k9 (Off.nil _))
  have hL0 : Hid (∃ Z : List TokD, RowT w9 (.slice (some ⟨g, 0, none⟩) (X.length + 24) cap) Z ∧ Z.length = X.length + 24 ∧ (∀ t ∈ Z, t.text.length ≤ 140737488351232) ∧ Keep [g] w9 w9) := ⟨X ++ markN 24, hR12.out, hll, t1.txt, Keep.refl _ _⟩
  clear hK3 hK5 hK6 hK7 hK8 k5 k6 k7 k8 k9 R11 R12 f11 f12 t1 t2 hll hR12 hBW
  go_wp2
  go_loopw [15] (fun z wr => ∃ (i : Nat), z = .int .i64 (i : Int) ∧ i ≤ X.length ∧ Hid (∃ Z : List TokD, RowT wr (.slice (some ⟨g, 0, none⟩) (X.length + 24) cap) Z ∧ Z.length = X.length + 24 ∧ (∀ t ∈ Z, t.text.length ≤ 140737488351232) ∧ Keep [g] w9 wr)) (fun z _ => X.length - (intOf z).toNat)
  case atStart => exact ⟨0, rfl, Nat.zero_le _, hL0⟩
  case round =>
    clear hL0
    obtain ⟨i, rfl, hi, hI⟩ := hrel
    by_cases hlt : i + 1 < X.length
    · have hlti : (i : Int) + 1 < (X.length : Int) := by omega
      have hlt1 : (i : Int) < (X.length : Int) := by omega
      have hTc : (∃ t : TokD, Tc wr g i t) ∧ ∀ j, wr.frozen? ⟨g, j, none⟩ = false := by
        obtain ⟨Z, r, hl, -, -⟩ := hI.out
        rcases RowT.cases r with ⟨_, hv⟩ | ⟨g', cap', hv, _, _, _, h4, h5⟩
        · simp at hv
        · simp only [Value.slice.injEq, Option.some.injEq, Addr.mk.injEq] at hv
          obtain ⟨⟨rfl, -⟩, -⟩ := hv
          exact ⟨⟨_, h4 i (by omega)⟩, h5⟩
      have hnx : Hid (∃ Z : List TokD, RowT (putT wr g i ⟨3, [55], 0, 0⟩) (.slice (some ⟨g, 0, none⟩) (X.length + 24) cap) Z ∧ Z.length = X.length + 24 ∧ (∀ t ∈ Z, t.text.length ≤ 140737488351232) ∧ Keep [g] w9 (putT wr g i ⟨3, [55], 0, 0⟩)) := by
        obtain ⟨Z, r, hl, htx, k⟩ := hI.out
        refine ⟨Z.set i ⟨3, [55], 0, 0⟩, RowT.put r hl.symm i _ (by omega), by rw [List.length_set]; exact hl, fun t ht => ?_, k.trans' (keepT wr g i _)⟩
        rcases List.mem_or_eq_of_mem_set ht with h | rfl
        · exact htx t h
        · simp
      obtain ⟨⟨t0, d0, d1, d2, d3⟩, fz⟩ := hTc
      have f0 := fz (i * 4)
      have f1 := fz (i * 4 + 1)
      have f2 := fz (i * 4 + 2)
      have f3 := fz (i * 4 + 3)
      clear fz hI
      go_wp2
      go_roundw
      case rel => exact ⟨i + 1, by go_num, by omega, hnx⟩
      case measure => simp [intOf]; omega
    · have hlti : ¬ (i : Int) + 1 < (X.length : Int) := by omega
      obtain ⟨Z0, rZ, hZl, hZt, kZ⟩ := hI.out
      obtain ⟨Z, hZe⟩ : ∃ Z, Z0.take X.length = Z := ⟨_, rfl⟩
      have hZn : Hid (Z.length = X.length) := by show _ = _; rw [← hZe, List.length_take]; omega
      have tZ : Ts4 wr (.slice (some ⟨g, 0, none⟩) X.length cap) Z := by
        have h1 := Ts4.ofRow (v := .slice (some ⟨g, 0, none⟩) (X.length + 24) cap) rZ hZt
        rw [← hZl] at h1
        have h2 := Ts4.front h1 X.length (by omega)
        rwa [hZe] at h2
      have HZt : Hid (∀ t ∈ Z, t.text.length ≤ 140737488351232) := by
        intro t ht
        rw [← hZe] at ht
        exact hZt t (List.mem_of_mem_take ht)
      have hKZ : Hid (K3 w wr B (.slice a5 X.length c5) (.slice a7 Y.length c7) (.slice a9 X.length c9) X Y) := hK9.out.far hR11.out.2.2.2 kZ hR11.out.2.2.1
      have hRZ : Hid (RowT wr (.slice a11 X.length c11) X ∧ ∀ x, (Value.slice a11 X.length c11).ownBlock = some x → B ≤ x) := ⟨RowT.keep hR11.out.1 kZ (fun x hx hm => by have := hR11.out.2.1 x hx; simp at hm; omega), fun x hx => (hR11.out.2.1 x hx).1⟩
      have hBw : Hid (B ≤ wr.heap.size ∧ w.heap.size ≤ B) := by
        refine ⟨?_, hR11.out.2.2.2⟩
        have h1 : g < wr.heap.size := RowT.lt (v := .slice (some ⟨g, 0, none⟩) (X.length + 24) cap) rZ g rfl
        have := hR11.out.2.2.1
        omega
      have HPz : Hid (∀ w v, Ts4 w v Z → Calls Try.prog 11 #[v] w fun e w' => e = .returned (.tuple #[.string (ba (printL Z).1), .int .i64 (printL Z).2]) ∧ Keep [] w w') := fun w v h => print_any v Z w h
      generalize ba (printL Z).1 = S2 at HPz
      generalize (printL Z).2 = E2 at HPz
      have HTZ : Hid _ := tZ
      clear hI rZ hZt kZ hZe hZl tZ hK9 hR11
      rename World => w10
      go_wp2_with fail
      refine (HPz.out w10 _ HTZ.out).mono ?_
      rintro e w11 ⟨rfl, k11⟩
      go_wp2_with fail
      refine (copyT_any _ Z _ (HTZ.out.keep k11 (Off.nil _)) (by rw [hZn.out]; omega)).mono ?_
      rintro e w12 ⟨v12, rfl, R12, k12, -⟩
      obtain ⟨a12, c12, rfl⟩ : ∃ a c, v12 = .slice a X.length c := by
        obtain ⟨a, c, h, _⟩ := RowT.formA R12
        rw [hZn.out] at h
        exact ⟨a, c, h⟩
      go_wp2_with fail
      refine (HPz.out w12 _ (Ts4.ofRow R12 HZt.out)).mono ?_
      rintro e w13 ⟨rfl, k13⟩
      have hK13 : Hid _ := (((hKZ.out.call k11).call k12).call k13)
      go_wp2_with fail
      refine (HPx.out w13 _ (Ts4.ofRow hK13.out.r5 HXt.out)).mono ?_
      rintro e w14 ⟨rfl, k14⟩
      have hk4 := ((k11.trans' k12).trans' k13).trans' k14
      have hK14 : Hid (K3 w w14 B (.slice a5 X.length c5) (.slice a7 Y.length c7) (.slice a9 X.length c9) X Y) := hK13.out.call k14
      have hR14 : Hid (RowT w14 (.slice a11 X.length c11) X ∧ (∀ x, (Value.slice a11 X.length c11).ownBlock = some x → B ≤ x) ∧ B ≤ w14.heap.size ∧ w.heap.size ≤ B) := by
        have z := hk4.size
        have hb := hBw.out
        exact ⟨RowT.keep hRZ.out.1 hk4 (Off.nil _), hRZ.out.2, by omega, hb.2⟩
      clear hk4 k11 k12 k13 k14 R12 hKZ hRZ hBw HTZ HPz hK13
      go_wp2_with fail
      refine (apartT_any w14.heap.size 3 (F3 (.slice a5 X.length c5) (.slice a7 Y.length c7) (.slice a9 X.length c9)) (m3 X Y) (fun k => (m3 X Y k).length) _ (hK14.out.ap hR14.out.2.2.1) (fun _ => rfl) (by omega) (by simp) (fun k => by
        unfold m3
        split <;> omega)).mono ?_
      rintro e w15 ⟨rfl, k15⟩
      have hk15 : Hid (Keep [] w w15 ∧ RowT w15 (.slice a11 X.length c11) X) := by
        have hb := hK14.out.blk
        have k0 := hK14.out.keep.alloc (.cells #[.slice a5 X.length c5, .slice a7 Y.length c7, .slice a9 X.length c9] 23 (0, 0))
        refine ⟨k0.more k15 (fun x hx => .inr (hb x hx).1), RowT.keep (RowT.keep hR14.out.1 (Keep.alloc1 w14 _) (Off.nil _)) k15 (fun x hx hm => ?_)⟩
        have h1 := hR14.out.2.1 x hx
        have h2 := (hb x hm).2
        omega
      clear k15 hK14 hR14
      go_wp2_with fail
      refine (HSs.out _).mono ?_
      rintro e w16 ⟨a16, c16, rfl, R16, k16, -⟩
      have hR16 : Hid (RowT (w16.alloc (.cells #[.int .i64 x1, .int .i64 x2, .int .i64 x3] 26 (0, 0))) (.slice a16 X.length c16) X) := RowT.keep R16 (Keep.alloc1 w16 _) (Off.nil _)
      have hR17 : Hid (RowT (w16.alloc (.cells #[.int .i64 x1, .int .i64 x2, .int .i64 x3] 26 (0, 0))) (.slice a11 X.length c11) X) := RowT.keep (RowT.keep hk15.out.2 k16 (Off.nil _)) (Keep.alloc1 w16 _) (Off.nil _)
      have hKe : Hid (Keep [] w (w16.alloc (.cells #[.int .i64 x1, .int .i64 x2, .int .i64 x3] 26 (0, 0)))) := (hk15.out.1.trans' k16).alloc _
      clear R16 k16 hk15
      go_wp2_with fail
      refine (same_yes _ _ X _ (Ts4.ofRow hR16.out HXt.out) (Ts4.ofRow hR17.out HXt.out)).mono ?_
      rintro e w17 ⟨rfl, k17⟩
      go_wp2
      go_ret
      exact ⟨rfl, hKe.out.trans' k17⟩
end
end Go.Proofs.Ytmglbcldjhdhkab
