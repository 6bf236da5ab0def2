/- Lists of arguments that read alike are the same to the document's plain comparison. -/
import Derived.Test.YtpbfglpjhmhneaaDoorSaF
namespace Go.Proofs.YtpbfglpjhmhneaaDoor
open Go.RowKit Go.PlainAid

set_option maxRecDepth 1000000 in
set_option maxHeartbeats 1600000 in
theorem sameArg_self (x : AD) (u v : Value) (w : World) (hu : Ts w u x.val.texts) (hv : Ts w v x.val.texts) :
    Calls Tryd.prog 26 #[x.agg u, x.agg v] w fun e w' => e = .returned (.bool true) ∧ Keep [] w w' := by
  have HC : Hid (∀ w1, Keep [] w w1 → Calls Tryd.prog 44 #[x.val.val u, x.val.val v] w1 fun e w' => e = .returned (.bool true) ∧ Keep [] w1 w') := fun w1 k1 => sameValue_self _ u v w1 (hu.keep k1 (Off.nil _)) (hv.keep k1 (Off.nil _))
  obtain ⟨a1, c1, rfl, _, _, _, _⟩ := hu.ex
  obtain ⟨a2, c2, rfl, _, _, _, _⟩ := hv.ex
  have hsf := store_f32
  simp only [Go.stored] at hsf
  clear hu hv
  go_enter Tryd.func26, Tryd.ntmps26
  go_wp2_with fail
  refine (HC.out _ (((Keep.refl [] w).alloc _).alloc _)).mono ?_
  rintro e w1 ⟨rfl, k1⟩
  have HK : Hid (Keep [] w w1) := (((Keep.refl [] w).alloc _).alloc _).trans' k1
  clear k1 HC
  go_wp2
  go_ret
  exact ⟨rfl, HK.out⟩

set_option maxRecDepth 1000000 in
set_option maxHeartbeats 3200000 in
theorem sameArgs_self (u v : Value) (l : List AD) (w : World) (hu : As w u l) (hv : As w v l) :
    Calls Tryd.prog 11 #[u, v] w fun e w' => e = .returned (.bool true) ∧ Keep [] w w' := by
  obtain ⟨ao, ca, rfl, p1, p2, p3⟩ := hu.ex
  obtain ⟨bo, cb, rfl, q1, q2, q3⟩ := hv.ex
  have HE : Hid ((l ≠ [] → ∃ b o, ao = some ⟨b, o, none⟩ ∧ ∀ i (h : i < l.length), ∃ u, ArgC w b (o + i * 7) l[i] u ∧ Ts w u l[i].val.texts) ∧ (l ≠ [] → ∃ b o, bo = some ⟨b, o, none⟩ ∧ ∀ i (h : i < l.length), ∃ u, ArgC w b (o + i * 7) l[i] u ∧ Ts w u l[i].val.texts)) := ⟨p3, q3⟩
  clear p3 q3 hu hv
  go_enter Tryd.func11, Tryd.ntmps11
  go_wp2
  go_loopw [5] (fun iv wr => ∃ k : Nat, iv = .int .i64 (k : Int) ∧ k ≤ l.length ∧ Hid (Keep [] w wr)) (fun iv _ => l.length - (intOf iv).toNat)
  case atStart => exact ⟨0, rfl, Nat.zero_le _, Keep.refl _ _⟩
  case round =>
    obtain ⟨k, rfl, hk, HK⟩ := hrel
    by_cases hl1 : k < l.length
    · have hlti : (k : Int) < (l.length : Int) := by omega
      obtain ⟨b, o, rfl, hat⟩ := HE.out.1 (by intro hz; rw [hz] at hl1; simp at hl1)
      obtain ⟨b2, o2, rfl, hat2⟩ := HE.out.2 (by intro hz; rw [hz] at hl1; simp at hl1)
      obtain ⟨t1, hA, ht1⟩ := hat k hl1
      obtain ⟨t2, hB, ht2⟩ := hat2 k hl1
      have HC0 : ∀ w1, Keep [] w w1 → Calls Tryd.prog 26 #[l[k].agg t1, l[k].agg t2] w1 fun e w' => e = .returned (.bool true) ∧ Keep [] w1 w' := fun w1 k1 => sameArg_self _ t1 t2 w1 (ht1.keep k1 (Off.nil _)) (ht2.keep k1 (Off.nil _))
      obtain ⟨a1, c1, rfl, _, _, _, _⟩ := ht1.ex
      obtain ⟨a2, c2, rfl, _, _, _, _⟩ := ht2.ex
      clear ht1 ht2 hat hat2
      generalize l[k].val.texts.length = n1 at hA hB HC0
      generalize l[k] = x at hA hB HC0
      have HC : Hid (∀ w1, Keep [] w w1 → Calls Tryd.prog 26 #[x.agg (.slice a1 n1 c1), x.agg (.slice a2 n1 c2)] w1 fun e w' => e = .returned (.bool true) ∧ Keep [] w1 w') := HC0
      have HS : Hid (∀ w', Keep [] w w' → (fun w' : World => w'.cell? ⟨b, o + k * 7, none⟩ = some (.string x.nm) ∧ w'.cell? ⟨b, o + k * 7 + 1, none⟩ = some (.int .i64 x.val.kind) ∧ w'.cell? ⟨b, o + k * 7 + 2, none⟩ = some (.bool x.val.bool) ∧ w'.cell? ⟨b, o + k * 7 + 3, none⟩ = some (.int .i64 x.val.int) ∧ w'.cell? ⟨b, o + k * 7 + 4, none⟩ = some (.float .f32 x.val.real) ∧ w'.cell? ⟨b, o + k * 7 + 5, none⟩ = some (.string x.val.text) ∧ w'.cell? ⟨b, o + k * 7 + 6, none⟩ = some (.slice a1 n1 c1) ∧ w'.cell? ⟨b2, o2 + k * 7, none⟩ = some (.string x.nm) ∧ w'.cell? ⟨b2, o2 + k * 7 + 1, none⟩ = some (.int .i64 x.val.kind) ∧ w'.cell? ⟨b2, o2 + k * 7 + 2, none⟩ = some (.bool x.val.bool) ∧ w'.cell? ⟨b2, o2 + k * 7 + 3, none⟩ = some (.int .i64 x.val.int) ∧ w'.cell? ⟨b2, o2 + k * 7 + 4, none⟩ = some (.float .f32 x.val.real) ∧ w'.cell? ⟨b2, o2 + k * 7 + 5, none⟩ = some (.string x.val.text) ∧ w'.cell? ⟨b2, o2 + k * 7 + 6, none⟩ = some (.slice a2 n1 c2) ∧ Hid (Keep [] w w')) w') := fun w' k' => by
        have h1 := hA.keep k'
        have h2 := hB.keep k'
        exact ⟨h1.nm, h1.kind, h1.bool, h1.int, h1.real, h1.text, h1.texts, h2.nm, h2.kind, h2.bool, h2.int, h2.real, h2.text, h2.texts, k'⟩
      clear hA hB HC0
      go_wp2
      refine wp_region_held_drew (S := (fun w' : World => w'.cell? ⟨b, o + k * 7, none⟩ = some (.string x.nm) ∧ w'.cell? ⟨b, o + k * 7 + 1, none⟩ = some (.int .i64 x.val.kind) ∧ w'.cell? ⟨b, o + k * 7 + 2, none⟩ = some (.bool x.val.bool) ∧ w'.cell? ⟨b, o + k * 7 + 3, none⟩ = some (.int .i64 x.val.int) ∧ w'.cell? ⟨b, o + k * 7 + 4, none⟩ = some (.float .f32 x.val.real) ∧ w'.cell? ⟨b, o + k * 7 + 5, none⟩ = some (.string x.val.text) ∧ w'.cell? ⟨b, o + k * 7 + 6, none⟩ = some (.slice a1 n1 c1) ∧ w'.cell? ⟨b2, o2 + k * 7, none⟩ = some (.string x.nm) ∧ w'.cell? ⟨b2, o2 + k * 7 + 1, none⟩ = some (.int .i64 x.val.kind) ∧ w'.cell? ⟨b2, o2 + k * 7 + 2, none⟩ = some (.bool x.val.bool) ∧ w'.cell? ⟨b2, o2 + k * 7 + 3, none⟩ = some (.int .i64 x.val.int) ∧ w'.cell? ⟨b2, o2 + k * 7 + 4, none⟩ = some (.float .f32 x.val.real) ∧ w'.cell? ⟨b2, o2 + k * 7 + 5, none⟩ = some (.string x.val.text) ∧ w'.cell? ⟨b2, o2 + k * 7 + 6, none⟩ = some (.slice a2 n1 c2) ∧ Hid (Keep [] w w'))) (by kernel_rfl) (HS.out _ (HK.out.drew)) (fun hHeld => ?_)
      try dsimp only at hHeld
      refine wpAnyH_take (i := 0) (oi := { dst := some 17, op := Go.Op.move (Go.Operand.tmp 0), type := 22, pos := "same.go:372", after := #[], guard := none }) (v := ?_) rfl (by kernel_rfl) (by kernel_rfl) (by kernel_rfl) (fun _ _ _ h => h) (Or.inl ⟨by rfl, ?_⟩) (by assumption) ?_
      rotate_left
      · intro w7 hSw
        try dsimp only at hSw
        first | (go_simp; done) | (go_simp; with_reducible rfl)
      try simp only [Act.put, List.setIfInBounds_toArray, List.set_cons_zero, List.set_cons_succ]
      refine wpAnyH_take (i := 1) (oi := { dst := some 18, op := Go.Op.move (Go.Operand.tmp 5), type := 3, pos := "same.go:372", after := #[], guard := none }) (v := ?_) rfl (by kernel_rfl) (by kernel_rfl) (by kernel_rfl) (fun _ _ _ h => h) (Or.inl ⟨by rfl, ?_⟩) (by assumption) ?_
      rotate_left
      · intro w7 hSw
        try dsimp only at hSw
        first | (go_simp; done) | (go_simp; with_reducible rfl)
      try simp only [Act.put, List.setIfInBounds_toArray, List.set_cons_zero, List.set_cons_succ]
      refine wpAnyH_take (i := 2) (oi := { dst := some 19, op := Go.Op.indexAddr 22 (Go.Operand.tmp 17) (Go.Operand.tmp 18), type := 0, pos := "same.go:372", after := #[{ on := 0, ground := Go.Ground.data }, { on := 1, ground := Go.Ground.data }], guard := none }) (v := ?_) rfl (by kernel_rfl) (by kernel_rfl) (by kernel_rfl) (fun _ _ _ h => h) (Or.inl ⟨by rfl, ?_⟩) (by assumption) ?_
      rotate_left
      · intro w7 hSw
        try dsimp only at hSw
        first | (go_simp; done) | (go_simp; with_reducible rfl)
      try simp only [Act.put, List.setIfInBounds_toArray, List.set_cons_zero, List.set_cons_succ]
      refine wpAnyH_take (i := 3) (oi := { dst := some 20, op := Go.Op.load 34 (Go.Operand.tmp 19), type := 34, pos := "same.go:372", after := #[{ on := 2, ground := Go.Ground.data }], guard := none }) (v := ?_) rfl (by kernel_rfl) (by kernel_rfl) (by kernel_rfl) (fun _ _ _ h => h) (Or.inl ⟨by rfl, ?_⟩) (by assumption) ?_
      rotate_left
      · intro w7 hSw
        try dsimp only at hSw
        first | (go_simp; done) | (go_simp; with_reducible rfl)
      try simp only [Act.put, List.setIfInBounds_toArray, List.set_cons_zero, List.set_cons_succ]
      refine wpAnyH_take (i := 4) (oi := { dst := some 21, op := Go.Op.move (Go.Operand.tmp 1), type := 22, pos := "same.go:372", after := #[], guard := none }) (v := ?_) rfl (by kernel_rfl) (by kernel_rfl) (by kernel_rfl) (fun _ _ _ h => h) (Or.inl ⟨by rfl, ?_⟩) (by assumption) ?_
      rotate_left
      · intro w7 hSw
        try dsimp only at hSw
        first | (go_simp; done) | (go_simp; with_reducible rfl)
      try simp only [Act.put, List.setIfInBounds_toArray, List.set_cons_zero, List.set_cons_succ]
      refine wpAnyH_take (i := 5) (oi := { dst := some 22, op := Go.Op.move (Go.Operand.tmp 5), type := 3, pos := "same.go:372", after := #[], guard := none }) (v := ?_) rfl (by kernel_rfl) (by kernel_rfl) (by kernel_rfl) (fun _ _ _ h => h) (Or.inl ⟨by rfl, ?_⟩) (by assumption) ?_
      rotate_left
      · intro w7 hSw
        try dsimp only at hSw
        first | (go_simp; done) | (go_simp; with_reducible rfl)
      try simp only [Act.put, List.setIfInBounds_toArray, List.set_cons_zero, List.set_cons_succ]
      refine wpAnyH_take (i := 6) (oi := { dst := some 23, op := Go.Op.indexAddr 22 (Go.Operand.tmp 21) (Go.Operand.tmp 22), type := 0, pos := "same.go:372", after := #[{ on := 4, ground := Go.Ground.data }, { on := 5, ground := Go.Ground.data }], guard := none }) (v := ?_) rfl (by kernel_rfl) (by kernel_rfl) (by kernel_rfl) (fun _ _ _ h => h) (Or.inl ⟨by rfl, ?_⟩) (by assumption) ?_
      rotate_left
      · intro w7 hSw
        try dsimp only at hSw
        first | (go_simp; done) | (go_simp; with_reducible rfl)
      try simp only [Act.put, List.setIfInBounds_toArray, List.set_cons_zero, List.set_cons_succ]
      refine wpAnyH_take (i := 7) (oi := { dst := some 24, op := Go.Op.load 34 (Go.Operand.tmp 23), type := 34, pos := "same.go:372", after := #[{ on := 6, ground := Go.Ground.data }], guard := none }) (v := ?_) rfl (by kernel_rfl) (by kernel_rfl) (by kernel_rfl) (fun _ _ _ h => h) (Or.inl ⟨by rfl, ?_⟩) (by assumption) ?_
      rotate_left
      · intro w7 hSw
        try dsimp only at hSw
        first | (go_simp; done) | (go_simp; with_reducible rfl)
      try simp only [Act.put, List.setIfInBounds_toArray, List.set_cons_zero, List.set_cons_succ]
      refine wpAnyH_ready (rs := [8]) (by kernel_rfl) (by simp) ?_
      refine AllReadyH.cons (o := { dst := some 25, op := Go.Op.call { callee := Go.Callee.value (Go.Operand.func 26), args := #[Go.Operand.tmp 20, Go.Operand.tmp 24], argTypes := #[34, 34] }, type := 4, pos := "same.go:372", after := #[{ on := 3, ground := Go.Ground.data }, { on := 7, ground := Go.Ground.data }], guard := none }) rfl (fun K hK => ?_) AllReadyH.nil
      go_simp
      (go_at_call 26; refine (HC.out _ hHeld.2.2.2.2.2.2.2.2.2.2.2.2.2.2.out).mono ?_; rintro e9 w9 ⟨rfl, k9⟩)
      go_wp2_with fail
      refine hK.out _ _ (HS.out _ (hHeld.2.2.2.2.2.2.2.2.2.2.2.2.2.2.out.trans' k9)) (fun hHeld2 => ?_)
      try dsimp only at hHeld2
      clear hK hHeld
      have hHeld := hHeld2
      clear hHeld2
      try simp only [Act.put, List.setIfInBounds_toArray, List.set_cons_zero, List.set_cons_succ]
      refine wpAnyH_take (i := 9) (oi := { dst := some 26, op := Go.Op.unOp Go.UnOp.not 4 (Go.Operand.tmp 25), type := 4, pos := "same.go:372", after := #[{ on := 8, ground := Go.Ground.data }], guard := none }) (v := ?_) rfl (by kernel_rfl) (by kernel_rfl) (by kernel_rfl) (fun _ _ _ h => h) (Or.inl ⟨by rfl, ?_⟩) (by assumption) ?_
      rotate_left
      · intro w7 hSw
        try dsimp only at hSw
        first | (go_simp; done) | (go_simp; with_reducible rfl)
      try simp only [Act.put, List.setIfInBounds_toArray, List.set_cons_zero, List.set_cons_succ]
      refine wpAnyH_done (by kernel_rfl) ?_ _
      have HZ : Hid (Keep [] w _) := hHeld.2.2.2.2.2.2.2.2.2.2.2.2.2.2
      clear hHeld HS
      go_wp2
      go_roundw
      case rel => exact ⟨k + 1, by go_num, by omega, HZ⟩
      case measure => simp [intOf]; omega
    · have hlti : ¬ (k : Int) < (l.length : Int) := by omega
      go_wp2
      go_ret
      exact ⟨rfl, HK.out⟩
end Go.Proofs.YtpbfglpjhmhneaaDoor
