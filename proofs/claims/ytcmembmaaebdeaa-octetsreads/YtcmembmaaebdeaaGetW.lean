/- One read of both Readers, held against one another: get says true, and both stand alike. -/
import Derived.Test.YtcmembmaaebdeaaReadM4
import Derived.Deep.RegionHeld3
namespace Go.Proofs.Ytcmembmaaebdeaa
open Go.RowKit Go.PlainAid Go.Lib

/-- the program's Reader at b and the document's at d have the same left and the same error -/
structure Pair (w : World) (M b : Nat) (rb : Option Nat) (d : Nat) (l : List UInt8) (e : Int) : Prop where
  rd : Rd w b 0 l e rb
  rf : RefR w M d l e
  bd : b ≠ d
  rbd : rb ≠ some d
  mb : M ≤ b

theorem Pair.keep {F : List Nat} {w w' : World} {M b d : Nat} {rb : Option Nat} {l : List UInt8} {e : Int} (h : Pair w M b rb d l e) (k : Keep F w w') (hF : ∀ x ∈ F, M ≤ x ∧ x ≠ d ∧ x ≠ b ∧ rb ≠ some x) : Pair w' M b rb d l e :=
  ⟨h.rd.keep k (fun hm => (hF b hm).2.2.1 rfl) (fun x hx hm => (hF x hm).2.2.2 hx), h.rf.keep k (fun x hx => ⟨(hF x hx).1, (hF x hx).2.1⟩), h.bd, h.rbd, h.mb⟩
theorem Pair.same {w w' : World} {M b d : Nat} {rb : Option Nat} {l : List UInt8} {e : Int} (h : Pair w M b rb d l e) (k : Keep [] w w') : Pair w' M b rb d l e := h.keep k (fun _ hx => by cases hx)
/-- the program's has been read of -/
theorem Pair.ref {w w1 : World} {M b d : Nat} {rb : Option Nat} {l : List UInt8} {e : Int} (h : Pair w M b rb d l e) (k : Keep [b] w w1) : RefR w1 M d l e :=
  h.rf.keep k (fun x hx => by simp at hx; subst hx; exact ⟨h.mb, h.bd⟩)
/-- both have been read of -/
theorem Pair.both {w w1 w2 : World} {M b d : Nat} {rb : Option Nat} {l l' : List UInt8} {e e' : Int} (h : Pair w M b rb d l e) (k1 : Keep [b] w w1) (d1 : Rd w1 b 0 l' e' rb) (k2 : Keep [d] w1 w2) (r2 : RefR w2 M d l' e') :
    Pair w2 M b rb d l' e' ∧ Keep [b, d] w w2 :=
  ⟨⟨d1.keep k2 (by simp; exact h.bd) (fun x hx hm => by simp at hm; subst hm; exact h.rbd hx), r2, h.bd, h.rbd, h.mb⟩, k1.trans k2 (fun x hx => .inl (by simp at hx; simp [hx])) (fun x hx => .inl (by simp at hx; simp [hx]))⟩

theorem rdOf_len {α : Type} (z : α) (l : List UInt8) (e : Int) (r : α × Nat × Int) : (rdOf z l e r).2.1.length ≤ l.length := by
  unfold rdOf
  split
  · simp
  · simp

abbrev getV (on kind n : Int) : Value := .agg #[.int .i64 on, .int .i64 kind, .int .i64 n]
abbrev getB (on kind n : Int) : Obj := .cells #[.int .i64 on, .int .i64 kind, .int .i64 n] 52

theorem keep_bd {w w0 w9 : World} {b d : Nat} (h : Keep [] w w0) (k : Keep [b, d] w0 w9) : Keep [b, d] w w9 := h.trans k (fun _ h => by cases h) (fun _ h => .inl h)

set_option maxRecDepth 1000000 in
set_option maxHeartbeats 12800000 in
theorem get_any (M b : Nat) (rb : Option Nat) (d : Nat) (l : List UInt8) (e on kind n : Int) (hk0 : -9223372036854775808 ≤ kind) (hk1 : kind ≤ 9223372036854775807) (hn0 : -9223372036854775808 ≤ n) (hn1 : n ≤ 9223372036854775807) (w : World) (hp : Pair w M b rb d l e) (hl : l.length ≤ 140737488355328) :
    Calls Try.prog 20 #[.pointer (some ⟨b, 0, none⟩), .pointer (some ⟨d, 0, none⟩), getV on kind n] w fun x w' => x = .returned (.bool true) ∧ ∃ l' e', Pair w' M b rb d l' e' ∧ Keep [b, d] w w' ∧ l'.length ≤ l.length := by
  have hP := pick_any kind 8 hk0 hk1 (by omega) (w.alloc (getB on kind n))
  have hkk : pickZ kind 8 = 0 ∨ pickZ kind 8 = 1 ∨ pickZ kind 8 = 2 ∨ pickZ kind 8 = 3 ∨ pickZ kind 8 = 4 ∨ pickZ kind 8 = 5 ∨ pickZ kind 8 = 6 ∨ pickZ kind 8 = 7 := by
    have h := pickZ_lt kind 8 (by omega)
    have e : ((8 : Nat) : Int) = 8 := rfl
    rw [e] at h
    omega
  have K0 := Keep.alloc1 w (getB on kind n)
  have P0 := hp.same K0
  have HK : Hid (Keep [] w (w.alloc (getB on kind n)) ∧ Pair (w.alloc (getB on kind n)) M b rb d l e ∧ b < w.heap.size ∧ d < w.heap.size) := ⟨K0, P0, hp.rd.blt, hp.rf.dlt⟩
  clear K0 P0 hp
  rcases hkk with hk | hk | hk | hk | hk | hk | hk | hk <;> rw [hk] at hP <;> clear hk
  · go_enter Try.func20, Try.ntmps20
    go_wp2_with fail
    refine hP.mono ?_
    rintro e1 w1 ⟨rfl, hw1⟩
    obtain rfl := hw1.symm
    clear hP
    have hA := rByte_any b 0 l e rb _ HK.out.2.1.rd
    have hB := fun w1 (h : RefR w1 M d l e) => rfByte_any M d l e w1 h hl
    have HL : Hid ((rdOf 0 l e (byteL l)).2.1.length ≤ l.length) := rdOf_len _ _ _ _
    generalize rdOf 0 l e (byteL l) = R at hA hB HL
    obtain ⟨x, l2, e2⟩ := R
    simp only at hA hB HL
    go_wp2_with (first
      | (go_at_call 25; refine hA.mono ?_; rintro e8 w8 ⟨rfl, D8, K8⟩)
      | (go_at_call 53; refine (hB _ (HK.out.2.1.ref K8)).mono ?_; rintro e9 w9 ⟨rfl, R9, K9⟩))
    have HX := HK.out.2.1.both K8 D8 K9 R9
    go_ret
    exact ⟨by first | rfl | simp, l2, e2, HX.1, keep_bd HK.out.1 HX.2, HL.out⟩
  · go_enter Try.func20, Try.ntmps20
    go_wp2_with fail
    refine hP.mono ?_
    rintro e1 w1 ⟨rfl, hw1⟩
    obtain rfl := hw1.symm
    clear hP
    have hA := rUint_any b 0 l e rb _ HK.out.2.1.rd
    have hB := fun w1 (h : RefR w1 M d l e) => rfUint_any M d l e w1 h hl
    have HL : Hid ((rdOf 0 l e (numL l)).2.1.length ≤ l.length) := rdOf_len _ _ _ _
    generalize rdOf 0 l e (numL l) = R at hA hB HL
    obtain ⟨x, l2, e2⟩ := R
    simp only at hA hB HL
    go_wp2_with (first
      | (go_at_call 26; refine hA.mono ?_; rintro e8 w8 ⟨rfl, D8, K8⟩)
      | (go_at_call 54; refine (hB _ (HK.out.2.1.ref K8)).mono ?_; rintro e9 w9 ⟨rfl, R9, K9⟩))
    have HX := HK.out.2.1.both K8 D8 K9 R9
    go_ret
    exact ⟨by first | rfl | simp, l2, e2, HX.1, keep_bd HK.out.1 HX.2, HL.out⟩
  · go_enter Try.func20, Try.ntmps20
    go_wp2_with fail
    refine hP.mono ?_
    rintro e1 w1 ⟨rfl, hw1⟩
    obtain rfl := hw1.symm
    clear hP
    have hA := rInt_any b 0 l e rb _ HK.out.2.1.rd
    have hB := fun w1 (h : RefR w1 M d l e) => rfInt_any M d l e w1 h hl
    have HL : Hid ((rdOf 0 l e (turnL l)).2.1.length ≤ l.length) := rdOf_len _ _ _ _
    generalize rdOf 0 l e (turnL l) = R at hA hB HL
    obtain ⟨x, l2, e2⟩ := R
    simp only at hA hB HL
    go_wp2_with (first
      | (go_at_call 27; refine hA.mono ?_; rintro e8 w8 ⟨rfl, D8, K8⟩)
      | (go_at_call 55; refine (hB _ (HK.out.2.1.ref K8)).mono ?_; rintro e9 w9 ⟨rfl, R9, K9⟩))
    have HX := HK.out.2.1.both K8 D8 K9 R9
    go_ret
    exact ⟨by first | rfl | simp, l2, e2, HX.1, keep_bd HK.out.1 HX.2, HL.out⟩
  · go_enter Try.func20, Try.ntmps20
    go_wp2_with fail
    refine hP.mono ?_
    rintro e1 w1 ⟨rfl, hw1⟩
    obtain rfl := hw1.symm
    clear hP
    have hA := rReal_any b 0 l e rb _ HK.out.2.1.rd
    have hB := fun w1 (h : RefR w1 M d l e) => rfReal_any M d l e w1 h hl
    have HL : Hid ((rdOf 0 l e (realL l)).2.1.length ≤ l.length) := rdOf_len _ _ _ _
    have hx32 : (rdOf 0 l e (realL l)).1 < 4294967296 := by
      unfold rdOf
      split
      · exact realL_lt l
      · simp
    generalize rdOf 0 l e (realL l) = R at hA hB HL hx32
    obtain ⟨x, l2, e2⟩ := R
    simp only at hA hB HL hx32
    have hQ := fun w1 => refKey_any x hx32 w1
    go_wp2_with (first
      | (go_at_call 28; refine hA.mono ?_; rintro e8 w8 ⟨rfl, D8, K8⟩)
      | (go_at_call 49; refine (hQ _).mono ?_; rintro e7 w7 ⟨rfl, hw7⟩; obtain rfl := hw7.symm)
      | (go_at_call 56; refine (hB _ (HK.out.2.1.ref K8)).mono ?_; rintro e9 w9 ⟨rfl, R9, K9⟩))
    have HX := HK.out.2.1.both K8 D8 K9 R9
    go_ret
    exact ⟨by first | rfl | simp, l2, e2, HX.1, keep_bd HK.out.1 HX.2, HL.out⟩
  · go_enter Try.func20, Try.ntmps20
    go_wp2_with fail
    refine hP.mono ?_
    rintro e1 w1 ⟨rfl, hw1⟩
    obtain rfl := hw1.symm
    clear hP
    have hc2 : (w.alloc (getB on kind n)).cell? ⟨w.heap.size, 2, none⟩ = some (.int .i64 n) := by simp [go_sem]
    have hgb : w.heap.size ∉ [b] := by have := HK.out.2.2.1; simp; omega
    have hgd : w.heap.size ∉ [d] := by have := HK.out.2.2.2; simp; omega
    generalize w.heap.size = g at hc2 hgb hgd ⊢
    generalize w.alloc (getB on kind n) = w0 at HK hc2 ⊢
    have hA := fun w1 (h : Rd w1 b 0 l e rb) => rText_any b 0 l e rb n hn1 w1 h
    have hB := fun w1 (h : RefR w1 M d l e) => rfText_any M d l e n hn0 hn1 w1 h hl
    have HL : Hid ((rdOf [] l e (textL l n)).2.1.length ≤ l.length) := rdOf_len _ _ _ _
    generalize rdOf [] l e (textL l n) = R at hA hB HL
    obtain ⟨x, l2, e2⟩ := R
    simp only at hA hB HL
    generalize (⟨x.toArray⟩ : ByteArray) = X at hA hB
    have hxx : (X.toList == X.toList) = true := by simp
    go_wp2
    go_region_held3 (fun w' => w'.cell? ⟨g, 2, none⟩ = some (.int .i64 n))
      (first | (simpa using hc2) | exact K8.cell' (by assumption) hgb | exact K9.cell' (by assumption) hgd)
      (first
        | (go_at_call 29; refine (hA _ (HK.out.2.1.same ((Keep.refl [] _).drew)).rd).mono ?_; rintro e8 w8 ⟨rfl, D8, K8⟩)
        | (go_at_call 57; refine (hB _ ((HK.out.2.1.same ((Keep.refl [] _).drew)).ref K8)).mono ?_; rintro e9 w9 ⟨rfl, R9, K9⟩))
    have HX := (HK.out.2.1.same ((Keep.refl [] _).drew)).both K8 D8 K9 R9
    go_wp2
    go_ret
    exact ⟨by first | rfl | simp, l2, e2, HX.1, keep_bd (HK.out.1.drew) HX.2, HL.out⟩
  · go_enter Try.func20, Try.ntmps20
    go_wp2_with fail
    refine hP.mono ?_
    rintro e1 w1 ⟨rfl, hw1⟩
    obtain rfl := hw1.symm
    clear hP
    have hc2 : (w.alloc (getB on kind n)).cell? ⟨w.heap.size, 2, none⟩ = some (.int .i64 n) := by simp [go_sem]
    have hgb : w.heap.size ∉ [b] := by have := HK.out.2.2.1; simp; omega
    have hgd : w.heap.size ∉ [d] := by have := HK.out.2.2.2; simp; omega
    generalize w.heap.size = g at hc2 hgb hgd ⊢
    generalize w.alloc (getB on kind n) = w0 at HK hc2 ⊢
    have hA := fun w1 (h : Rd w1 b 0 l e rb) => rRaw_any b 0 l e rb n w1 h hl
    have hB := fun w1 (h : RefR w1 M d l e) => rfRaw_any M d l e n hn0 hn1 w1 h hl
    have HL : Hid ((rdOf [] l e (rawL l n)).2.1.length ≤ l.length) := rdOf_len _ _ _ _
    generalize rdOf [] l e (rawL l n) = R at hA hB HL
    obtain ⟨x, l2, e2⟩ := R
    simp only at hA hB HL
    go_wp2
    go_region_held3 (fun w' => w'.cell? ⟨g, 2, none⟩ = some (.int .i64 n))
      (first | (simpa using hc2) | exact K8.cell' (by assumption) hgb | exact K9.cell' (by assumption) hgd | exact ((Keep.refl [] _).drewN _).cell' (by assumption) (by simp))
      (first
        | (go_at_call 30; refine (hA _ (HK.out.2.1.same ((Keep.refl [] _).drew)).rd).mono ?_; rintro e8 w8 ⟨v8, rfl, R8, F8, D8, K8⟩)
        | (go_at_call 58; refine (hB _ ((HK.out.2.1.same ((Keep.refl [] _).drew)).ref K8)).mono ?_; rintro e9 w9 ⟨v9, rfl, R9, F9, S9, K9⟩)
        | (go_at_call 16; refine (same_any _ _ x x _ (R8.bs.keep K9 (fun y hy hm => by have h1 := (F8 y hy).1; have h2 := HK.out.2.1.rf.dlt; simp at hm h1; omega)) R9.bs).mono ?_; rintro e10 w10 ⟨rfl, n10, rfl⟩))
    have HX := (HK.out.2.1.same ((Keep.refl [] _).drew)).both K8 D8 K9 S9
    go_wp2
    go_ret
    exact ⟨by first | rfl | simp, l2, e2, HX.1.same ((Keep.refl [] _).drewN _), keep_bd (HK.out.1.drew) (HX.2.drewN _), HL.out⟩
  · go_enter Try.func20, Try.ntmps20
    go_wp2_with fail
    refine hP.mono ?_
    rintro e1 w1 ⟨rfl, hw1⟩
    obtain rfl := hw1.symm
    clear hP
    have hA := left_any b 0 l e rb _ HK.out.2.1.rd
    have hB := err_any b 0 l e rb _ HK.out.2.1.rd
    have hE := HK.out.2.1.rf.err
    obtain ⟨v, h1, h2, _⟩ := HK.out.2.1.rf.b
    obtain ⟨ao, cap, rfl, _, _, _, _⟩ := h2.ex
    clear h2
    generalize w.alloc (getB on kind n) = w0 at HK hA hB hE h1 ⊢
    have hA2 : ∀ m, Calls Try.prog 22 #[.pointer (some ⟨b, 0, none⟩)] (w0.drewN m) fun x w' => x = .returned (.int .i64 (l.length : Int)) ∧ w' = w0.drewN m := fun m => left_any b 0 l e rb _ (HK.out.2.1.same ((Keep.refl [] _).drewN m)).rd
    have hB2 : ∀ m, Calls Try.prog 21 #[.pointer (some ⟨b, 0, none⟩)] (w0.drewN m) fun x w' => x = .returned (.int .i64 e) ∧ w' = w0.drewN m := fun m => err_any b 0 l e rb _ (HK.out.2.1.same ((Keep.refl [] _).drewN m)).rd
    have hll : ((l.length : Int) == (l.length : Int)) = true := by simp
    have hee : (e == e) = true := by simp
    clear hA hB
    go_wp2
    go_quiet (first
      | (go_at_call 22; refine (hA2 _).mono ?_; rintro e9 w9 ⟨rfl, rfl⟩; exact ⟨rfl, _, rfl⟩)
      | (go_at_call 21; refine (hB2 _).mono ?_; rintro e9 w9 ⟨rfl, rfl⟩; exact ⟨rfl, _, rfl⟩))
    go_wp2
    go_ret
    exact ⟨by first | rfl | simp, l, e, HK.out.2.1.same ((Keep.refl [] _).drewN _), (HK.out.1.drewN _).mono (fun _ h => by cases h), Nat.le_refl _⟩
  · go_enter Try.func20, Try.ntmps20
    go_wp2_with fail
    refine hP.mono ?_
    rintro e1 w1 ⟨rfl, hw1⟩
    obtain rfl := hw1.symm
    clear hP
    have hA := end_any b 0 l e rb _ HK.out.2.1.rd
    have hB := rfEnd_any M d l e _ HK.out.2.1.rf
    generalize endE l e = ee at hA hB
    go_wp2_with (first
      | (go_at_call 23; refine hA.mono ?_; rintro e8 w8 ⟨rfl, hw8⟩; obtain rfl := hw8.symm)
      | (go_at_call 24; refine hB.mono ?_; rintro e9 w9 ⟨rfl, hw9⟩; obtain rfl := hw9.symm))
    go_ret
    exact ⟨by first | rfl | simp, l, e, HK.out.2.1, HK.out.1.mono (fun _ h => by cases h), Nat.le_refl _⟩

end Go.Proofs.Ytcmembmaaebdeaa
