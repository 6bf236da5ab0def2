/- One thing is read: the law's back says whether it is what was written, and the Reader stands behind it. -/
import Derived.Test.YtcmembmaaebdeaaPutW
namespace Go.Proofs.Ytcmembmaaebdeaa
open Go.RowKit Go.PlainAid Go.Lib

set_option maxHeartbeats 1600000 in
theorem sameReal_any (x y : Nat) (w : World) : Calls Try.prog 77 #[.float .f32 x, .float .f32 y] w fun e w' => e = .returned (.bool (x == y || nanB x && nanB y)) ∧ w' = w := by
  have h1 := run_f32bits x
  have h2 := run_f32bits y
  have n1 := neq_self x
  have n2 := neq_self y
  by_cases hxy : x = y
  · subst hxy
    have hb : ((x : Int) == (x : Int)) = true := by simp
    go_enter Try.func77, Try.ntmps77
    go_wp2
    go_ret
    exact ⟨by simp, rfl⟩
  · have hb : ((x : Int) == (y : Int)) = false := by simp; omega
    have HX : Hid ((x == y) = false) := by
      show (x == y) = false
      simpa using hxy
    cases hn1 : nanB x with
    | true =>
      rw [hn1] at n1
      generalize nanB y = ny at n2
      go_enter Try.func77, Try.ntmps77
      go_wp2
      go_ret
      exact ⟨by rw [HX.out]; simp, rfl⟩
    | false =>
      rw [hn1] at n1
      generalize nanB y = ny at n2
      go_enter Try.func77, Try.ntmps77
      go_wp2
      go_ret
      exact ⟨by rw [HX.out]; simp, rfl⟩

theorem rd_from {w0 w : World} {b o : Nat} {l : List UInt8} {e : Int} {rb : Option Nat} (h : Rd w0 b o l e rb) (k : Keep [] w0 w) : Rd w b o l e rb := h.keep k (by simp) (fun _ _ => by simp)

theorem Bs.keepNe {F : List Nat} {w w' : World} {v : Value} {l : List UInt8} (h : Bs w v l) (k : Keep F w w') (hn : l ≠ [] → Off v F) : Bs w' v l := by
  obtain ⟨ao, cap, rfl, h1, h2, h3, h4⟩ := h.ex
  refine ⟨ao, cap, rfl, h1, h2, h3, fun hl => ?_⟩
  obtain ⟨b, o, rfl, hc⟩ := h4 hl
  exact ⟨b, o, rfl, fun j hj => k.cell' (hc j hj) (hn hl b rfl)⟩
theorem nat_eq (x y : Nat) : ((x : Int) == (y : Int)) = (x == y) := by
  by_cases h : x = y
  · subst h; simp
  · have h1 : ((x : Int) == (y : Int)) = false := by simp only [beq_eq_false_iff_ne]; omega
    have h2 : (x == y) = false := by simpa using h
    rw [h1, h2]
theorem byte_eq (x y : Nat) : ((x : Int) == IntKind.u8.wrap ((y : Int).tmod 256)) = (x == y % 256) := by
  have e : IntKind.u8.wrap ((y : Int).tmod 256) = ((y % 256 : Nat) : Int) := by
    rw [IntKind.wrap_u8, show (y : Int).tmod 256 = ((y % 256 : Nat) : Int) from rfl]
    omega
  rw [e]
  exact nat_eq _ _
theorem keep_b {w w0 w9 : World} {b : Nat} (h : Keep [] w w0) (k : Keep [b] w0.drew w9) : Keep [b] w w9 := (h.drew).trans k (fun _ h => by cases h) (fun _ h => .inl h)

/-- the cells of the thing -/
theorem blk_cells (p : PutD) (u : Value) (w : World) : (w.alloc (p.blk u)).cell? ⟨w.heap.size, 2, none⟩ = some (.int .u64 (p.uint : Int)) ∧ (w.alloc (p.blk u)).cell? ⟨w.heap.size, 3, none⟩ = some (.int .i64 p.int) ∧
    (w.alloc (p.blk u)).cell? ⟨w.heap.size, 4, none⟩ = some (.float .f32 p.real) ∧ (w.alloc (p.blk u)).cell? ⟨w.heap.size, 5, none⟩ = some (.string p.text) ∧ (w.alloc (p.blk u)).cell? ⟨w.heap.size, 6, none⟩ = some u := by
  refine ⟨?_, ?_, ?_, ?_, ?_⟩ <;> simp [go_sem]

set_option maxRecDepth 1000000 in
set_option maxHeartbeats 6400000 in
theorem back_any (b o : Nat) (l : List UInt8) (rb : Option Nat) (p : PutD) (hp : p.Ok) (u : Value) (w : World) (hr : Rd w b o l 0 rb) (hu : Bs w u p.raw) (hub : p.raw ≠ [] → Off u [b]) (hl : l.length ≤ 140737488355328) :
    Calls Try.prog 39 #[.pointer (some ⟨b, o, none⟩), p.val u] w fun e w' => e = .returned (.bool (p.fits l)) ∧ Rd w' b o (l.drop (p.read l).1) (p.read l).2 rb ∧ Keep [b] w w' := by
  have hP := pick_any p.kind 6 hp.kind0 hp.kind1 (by omega) (w.alloc (p.blk u))
  rw [p.k_eq] at hP
  have K0 := Keep.alloc1 w (p.blk u)
  have D0 := hr.alloc (p.blk u)
  have U0 := hu.keep K0 (Off.nil _)
  have hbl := hr.blt
  have hul : ∀ k, u.ownBlock = some k → p.raw ≠ [] → k ≠ b → True := fun _ _ _ _ => trivial
  have hk := p.k_lt
  have hc : p.k = 0 ∨ p.k = 1 ∨ p.k = 2 ∨ p.k = 3 ∨ p.k = 4 ∨ p.k = 5 := by omega
  have hfit : p.fits l = p.fits l := rfl
  conv at hfit => rhs; unfold PutD.fits
  have hrd : p.read l = p.read l := rfl
  conv at hrd => rhs; unfold PutD.read
  clear hul
  rcases hc with e | e | e | e | e | e <;> simp only [e, reduceIte, Nat.reduceEqDiff] at hfit hrd hP <;> rw [hfit, hrd] <;> clear hfit hrd
  · have hc := (blk_cells p u w).1
    have hR : ∀ w1, Keep [] (w.alloc (p.blk u)) w1 → Calls Try.prog 25 #[.pointer (some ⟨b, o, none⟩)] w1 fun x w' => x = .returned (Value.int .u8 (((byteL l).1 : Nat) : Int)) ∧ Rd w' b o (l.drop (byteL l).2.1) (byteL l).2.2 rb ∧ Keep [b] w1 w' := by
      intro w1 k1
      have := rByte_any b o l 0 rb w1 (rd_from D0 k1)
      rw [rdOf_pos] at this
      exact this
    generalize byteL l = R at hR ⊢
    obtain ⟨x, n, er⟩ := R
    simp only at hR ⊢
    have HB : Hid (((x : Int) == IntKind.u8.wrap ((p.uint : Int).tmod 256)) = (x == p.uint % 256)) := by
      show ((x : Int) == IntKind.u8.wrap ((p.uint : Int).tmod 256)) = (x == p.uint % 256)
      exact byte_eq x p.uint
    clear D0
    go_enter Try.func39, Try.ntmps39
    go_wp2_with fail
    refine hP.mono ?_
    rintro e1 w1 ⟨rfl, hw1⟩
    obtain rfl := hw1.symm
    clear hP
    generalize w.heap.size = g at hc hbl ⊢
    have hgn : g ∉ [b] := by simp; omega
    generalize w.alloc (p.blk u) = w0 at K0 U0 hc hR ⊢
    go_wp2
    go_region_with (first
      | (go_at_call 25; refine (hR _ (by repeat (first | exact Keep.refl _ _ | apply Keep.drew | apply Keep.drewN))).mono ?_; rintro e9 w9 ⟨rfl, D9, K9⟩; have hc9 := K9.cell' (u := .int .u64 (p.uint : Int)) (p := ⟨g, 2, none⟩) (by simpa using hc) hgn))
    all_goals
      have HF : Hid (Rd w9 b o (l.drop n) er rb ∧ Keep [b] w w9) := ⟨D9, keep_b K0 K9⟩
      clear D9 K9 hR hc hc9 U0 K0
      go_wp2
      go_ret
      refine ⟨?_, HF.out⟩
      rw [← HB.out]
      rfl
  · have hc := (blk_cells p u w).1
    have hR : ∀ w1, Keep [] (w.alloc (p.blk u)) w1 → Calls Try.prog 26 #[.pointer (some ⟨b, o, none⟩)] w1 fun x w' => x = .returned (Value.int .u64 (((numL l).1 : Nat) : Int)) ∧ Rd w' b o (l.drop (numL l).2.1) (numL l).2.2 rb ∧ Keep [b] w1 w' := by
      intro w1 k1
      have := rUint_any b o l 0 rb w1 (rd_from D0 k1)
      rw [rdOf_pos] at this
      exact this
    generalize numL l = R at hR ⊢
    obtain ⟨x, n, er⟩ := R
    simp only at hR ⊢
    have HB : Hid (((x : Int) == (p.uint : Int)) = (x == p.uint)) := by
      show ((x : Int) == (p.uint : Int)) = (x == p.uint)
      exact nat_eq x p.uint
    clear D0
    go_enter Try.func39, Try.ntmps39
    go_wp2_with fail
    refine hP.mono ?_
    rintro e1 w1 ⟨rfl, hw1⟩
    obtain rfl := hw1.symm
    clear hP
    generalize w.heap.size = g at hc hbl ⊢
    have hgn : g ∉ [b] := by simp; omega
    generalize w.alloc (p.blk u) = w0 at K0 U0 hc hR ⊢
    go_wp2
    go_region_with (first
      | (go_at_call 26; refine (hR _ (by repeat (first | exact Keep.refl _ _ | apply Keep.drew | apply Keep.drewN))).mono ?_; rintro e9 w9 ⟨rfl, D9, K9⟩; have hc9 := K9.cell' (u := .int .u64 (p.uint : Int)) (p := ⟨g, 2, none⟩) (by simpa using hc) hgn))
    all_goals
      have HF : Hid (Rd w9 b o (l.drop n) er rb ∧ Keep [b] w w9) := ⟨D9, keep_b K0 K9⟩
      clear D9 K9 hR hc hc9 U0 K0
      go_wp2
      go_ret
      refine ⟨?_, HF.out⟩
      rw [← HB.out]
      rfl
  · have hc := (blk_cells p u w).2.1
    have hR : ∀ w1, Keep [] (w.alloc (p.blk u)) w1 → Calls Try.prog 27 #[.pointer (some ⟨b, o, none⟩)] w1 fun x w' => x = .returned (Value.int .i64 (turnL l).1) ∧ Rd w' b o (l.drop (turnL l).2.1) (turnL l).2.2 rb ∧ Keep [b] w1 w' := by
      intro w1 k1
      have := rInt_any b o l 0 rb w1 (rd_from D0 k1)
      rw [rdOf_pos] at this
      exact this
    generalize turnL l = R at hR ⊢
    obtain ⟨x, n, er⟩ := R
    simp only at hR ⊢
    clear D0
    go_enter Try.func39, Try.ntmps39
    go_wp2_with fail
    refine hP.mono ?_
    rintro e1 w1 ⟨rfl, hw1⟩
    obtain rfl := hw1.symm
    clear hP
    generalize w.heap.size = g at hc hbl ⊢
    have hgn : g ∉ [b] := by simp; omega
    generalize w.alloc (p.blk u) = w0 at K0 U0 hc hR ⊢
    go_wp2
    go_region_with (first
      | (go_at_call 27; refine (hR _ (by repeat (first | exact Keep.refl _ _ | apply Keep.drew | apply Keep.drewN))).mono ?_; rintro e9 w9 ⟨rfl, D9, K9⟩; have hc9 := K9.cell' (u := .int .i64 p.int) (p := ⟨g, 3, none⟩) (by simpa using hc) hgn))
    all_goals
      have HF : Hid (Rd w9 b o (l.drop n) er rb ∧ Keep [b] w w9) := ⟨D9, keep_b K0 K9⟩
      clear D9 K9 hR hc hc9 U0 K0
      go_wp2
      go_ret
      exact ⟨rfl, HF.out⟩
  · have hc := (blk_cells p u w).2.2.1
    have hR : ∀ w1, Keep [] (w.alloc (p.blk u)) w1 → Calls Try.prog 28 #[.pointer (some ⟨b, o, none⟩)] w1 fun x w' => x = .returned (.float .f32 (realL l).1) ∧ Rd w' b o (l.drop (realL l).2.1) (realL l).2.2 rb ∧ Keep [b] w1 w' := by
      intro w1 k1
      have := rReal_any b o l 0 rb w1 (rd_from D0 k1)
      rw [rdOf_pos] at this
      exact this
    generalize realL l = R at hR ⊢
    obtain ⟨x, n, er⟩ := R
    simp only at hR ⊢
    clear D0
    go_enter Try.func39, Try.ntmps39
    go_wp2_with fail
    refine hP.mono ?_
    rintro e1 w1 ⟨rfl, hw1⟩
    obtain rfl := hw1.symm
    clear hP
    generalize w.heap.size = g at hc hbl ⊢
    have hgn : g ∉ [b] := by simp; omega
    generalize w.alloc (p.blk u) = w0 at K0 U0 hc hR ⊢
    go_wp2
    go_region_with (first
      | (go_at_call 28; refine (hR _ (by repeat (first | exact Keep.refl _ _ | apply Keep.drew | apply Keep.drewN))).mono ?_; rintro e9 w9 ⟨rfl, D9, K9⟩; have hc9 := K9.cell' (u := .float .f32 p.real) (p := ⟨g, 4, none⟩) (by simpa using hc) hgn)
      | (go_at_call 77; refine (sameReal_any _ _ _).mono ?_; rintro e8 w8 ⟨rfl, hw8⟩; obtain rfl := hw8.symm))
    all_goals
      have HF : Hid (Rd w9 b o (l.drop n) er rb ∧ Keep [b] w w9) := ⟨D9, keep_b K0 K9⟩
      clear D9 K9 hR hc hc9 U0 K0
      go_wp2
      go_ret
      exact ⟨rfl, HF.out⟩
  · have hc := (blk_cells p u w).2.2.2.1
    have htx := hp.text1
    have hR : ∀ w1, Keep [] (w.alloc (p.blk u)) w1 → Calls Try.prog 29 #[.pointer (some ⟨b, o, none⟩), .int .i64 (p.text.size : Int)] w1 fun x w' => x = .returned (.string ⟨(textL l p.text.size).1.toArray⟩) ∧ Rd w' b o (l.drop (textL l p.text.size).2.1) (textL l p.text.size).2.2 rb ∧ Keep [b] w1 w' := by
      intro w1 k1
      have := rText_any b o l 0 rb p.text.size (by omega) w1 (rd_from D0 k1)
      rw [rdOf_pos] at this
      exact this
    generalize textL l p.text.size = R at hR ⊢
    obtain ⟨x, n, er⟩ := R
    simp only at hR ⊢
    obtain ⟨X, hX⟩ : ∃ X : ByteArray, X = ⟨x.toArray⟩ := ⟨_, rfl⟩
    rw [← hX] at hR
    have HB : Hid ((X.toList == p.text.toList) = (x == p.text.data.toList)) := by
      show (X.toList == p.text.toList) = (x == p.text.data.toList)
      rw [ByteArray.toList_eq, ByteArray.toList_eq, hX]
    clear D0 hX
    go_enter Try.func39, Try.ntmps39
    go_wp2_with fail
    refine hP.mono ?_
    rintro e1 w1 ⟨rfl, hw1⟩
    obtain rfl := hw1.symm
    clear hP
    generalize w.heap.size = g at hc hbl ⊢
    have hgn : g ∉ [b] := by simp; omega
    generalize w.alloc (p.blk u) = w0 at K0 U0 hc hR ⊢
    go_wp2
    go_region_with (first
      | (go_at_call 29; refine (hR _ (by repeat (first | exact Keep.refl _ _ | apply Keep.drew | apply Keep.drewN))).mono ?_; rintro e9 w9 ⟨rfl, D9, K9⟩; have hc9 := K9.cell' (u := .string p.text) (p := ⟨g, 5, none⟩) (by simpa using hc) hgn))
    all_goals
      have HF : Hid (Rd w9 b o (l.drop n) er rb ∧ Keep [b] w w9) := ⟨D9, keep_b K0 K9⟩
      clear D9 K9 hR hc hc9 U0 K0
      go_wp2
      go_ret
      refine ⟨?_, HF.out⟩
      rw [← HB.out]
      rfl
  · obtain ⟨ao, cu, rfl, hcu, hcm, _, _⟩ := hu.ex
    simp only [maxLen] at hcm
    have hc := (blk_cells p (.slice ao p.raw.length cu) w).2.2.2.2
    have hR : ∀ w1, Keep [] (w.alloc (p.blk (.slice ao p.raw.length cu))) w1 → Calls Try.prog 30 #[.pointer (some ⟨b, o, none⟩), .int .i64 (p.raw.length : Int)] w1 fun x w' => ∃ y, x = .returned y ∧ Row w' y (rawL l p.raw.length).1 ∧ Rd w' b o (l.drop (rawL l p.raw.length).2.1) (rawL l p.raw.length).2.2 rb ∧ Keep [b] w1 w' := by
      intro w1 k1
      have := rRaw_any b o l 0 rb p.raw.length w1 (rd_from D0 k1) hl
      rw [rdOf_pos] at this
      refine this.mono ?_
      rintro e2 w2 ⟨y, h1, h2, _, h4, h5⟩
      exact ⟨y, h1, h2, h4, h5⟩
    generalize rawL l p.raw.length = R at hR ⊢
    obtain ⟨x, n, er⟩ := R
    simp only at hR ⊢
    clear D0
    go_enter Try.func39, Try.ntmps39
    go_wp2_with fail
    refine hP.mono ?_
    rintro e1 w1 ⟨rfl, hw1⟩
    obtain rfl := hw1.symm
    clear hP
    generalize w.heap.size = g at hc hbl ⊢
    have hgn : g ∉ [b] := by simp; omega
    generalize w.alloc (p.blk (.slice ao p.raw.length cu)) = w0 at K0 U0 hc hR ⊢
    go_wp2
    go_region_with (first
      | (go_at_call 30; refine (hR _ (by repeat (first | exact Keep.refl _ _ | apply Keep.drew | apply Keep.drewN))).mono ?_; rintro e9 w9 ⟨y9, rfl, R9, D9, K9⟩; have hc9 := K9.cell' (u := .slice ao p.raw.length cu) (p := ⟨g, 6, none⟩) (by simpa using hc) hgn)
      | (go_at_call 16; refine (same_any _ _ x p.raw w9 R9.bs (U0.keepNe (keep_b (Keep.refl _ _) K9) hub)).mono ?_; rintro e8 w8 ⟨rfl, n8, rfl⟩))
    all_goals
      have HF : Hid (Rd (w9.drewN n8) b o (l.drop n) er rb ∧ Keep [b] w (w9.drewN n8)) := ⟨rd_from D9 ((Keep.refl _ _).drewN n8), (keep_b K0 K9).drewN n8⟩
      clear D9 K9 hR hc hc9 U0 K0 R9
      go_wp2
      go_ret
      exact ⟨rfl, HF.out⟩

end Go.Proofs.Ytcmembmaaebdeaa
