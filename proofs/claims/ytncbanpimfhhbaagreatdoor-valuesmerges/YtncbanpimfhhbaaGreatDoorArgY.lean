/- Arguments that may be are taken, too many are refused. -/
import Derived.Test.YtncbanpimfhhbaaGreatDoorArgN
import Derived.Deep.RegionWith
namespace Go.Proofs.YtncbanpimfhhbaaGreatDoor
open Go.RowKit Go.PlainAid Go.Lib

/-- an argument: its name and its value -/
structure AD where
  nm : ByteArray
  val : VD

/-- the argument x lies at b, o; u: its texts -/
structure ArgC (w : World) (b o : Nat) (x : AD) (u : Value) : Prop where
  nm : w.cell? ⟨b, o, none⟩ = some (.string x.nm)
  kind : w.cell? ⟨b, o + 1, none⟩ = some (.int .i64 x.val.kind)
  bool : w.cell? ⟨b, o + 2, none⟩ = some (.bool x.val.bool)
  int : w.cell? ⟨b, o + 3, none⟩ = some (.int .i64 x.val.int)
  real : w.cell? ⟨b, o + 4, none⟩ = some (.float .f32 x.val.real)
  text : w.cell? ⟨b, o + 5, none⟩ = some (.string x.val.text)
  texts : w.cell? ⟨b, o + 6, none⟩ = some u

theorem ArgC.keep {w w' : World} {b o : Nat} {x : AD} {u : Value} (h : ArgC w b o x u) (k : Keep [] w w') : ArgC w' b o x u :=
  ⟨k.cell' h.nm (by simp), k.cell' h.kind (by simp), k.cell' h.bool (by simp), k.cell' h.int (by simp), k.cell' h.real (by simp), k.cell' h.text (by simp), k.cell' h.texts (by simp)⟩

/-- the slice v reads as the arguments l -/
structure As (w : World) (v : Value) (l : List AD) : Prop where
  ok : ∀ x ∈ l, x.val.Ok
  ex : ∃ ao cap, v = .slice ao l.length cap ∧ l.length ≤ cap ∧ cap ≤ 9223372036854775807 ∧ (l ≠ [] → ∃ b o, ao = some ⟨b, o, none⟩ ∧ ∀ i (h : i < l.length), ∃ u, ArgC w b (o + i * 7) l[i] u ∧ Ts w u l[i].val.texts)

theorem args_long (a : Option Addr) (n c : Nat) (h : 16 < n) (hn : n ≤ 9223372036854775807) (w : World) : Calls Tryz.prog 6 #[.slice a n c] w fun e w' => e = .returned (.int .i64 41) ∧ w' = w := by
  have hi : (16 : Int) < (n : Int) := by omega
  go_enter Tryz.func6, Tryz.ntmps6
  go_wp2
  go_ret
  exact ⟨rfl, rfl⟩

/-- the box of an argument, and a name behind it -/
theorem arg_start {w0 w w' : World} {v0 v1 v2 v3 v4 v5 v6 : Value} {t : TypeId} (k0 : Keep [] w0 w) (k : Keep [] (w.alloc (.cells #[v0, v1, v2, v3, v4, v5, v6] t)) w') :
    w'.cell? ⟨w.heap.size, 0, none⟩ = some v0 ∧ w'.cell? ⟨w.heap.size, 1, none⟩ = some v1 ∧ w'.cell? ⟨w.heap.size, 2, none⟩ = some v2 ∧ w'.cell? ⟨w.heap.size, 3, none⟩ = some v3 ∧ w'.cell? ⟨w.heap.size, 4, none⟩ = some v4 ∧ w'.cell? ⟨w.heap.size, 5, none⟩ = some v5 ∧ w'.cell? ⟨w.heap.size, 6, none⟩ = some v6 ∧ Keep [] w0 w' := by
  refine ⟨k.cell' ?_ (by simp), k.cell' ?_ (by simp), k.cell' ?_ (by simp), k.cell' ?_ (by simp), k.cell' ?_ (by simp), k.cell' ?_ (by simp), k.cell' ?_ (by simp), (k0.alloc _).trans' k⟩ <;> simp [go_sem]

theorem argS {w0 w w' : World} {v0 v1 v2 v3 v4 v5 v6 : Value} {t : TypeId} {p : Addr} {z : Value} (k0 : Keep [] w0 w) (k : Keep [] (w.alloc (.cells #[v0, v1, v2, v3, v4, v5, v6] t)) w') (hp : Keep [] w0 w' → w'.cell? p = some z) :
    w'.cell? ⟨w.heap.size, 0, none⟩ = some v0 ∧ w'.cell? ⟨w.heap.size, 1, none⟩ = some v1 ∧ w'.cell? ⟨w.heap.size, 2, none⟩ = some v2 ∧ w'.cell? ⟨w.heap.size, 3, none⟩ = some v3 ∧ w'.cell? ⟨w.heap.size, 4, none⟩ = some v4 ∧ w'.cell? ⟨w.heap.size, 5, none⟩ = some v5 ∧ w'.cell? ⟨w.heap.size, 6, none⟩ = some v6 ∧ Keep [] w0 w' ∧ w'.cell? p = some z := by
  obtain ⟨h0, h1, h2, h3, h4, h5, h6, h7⟩ := arg_start k0 k
  exact ⟨h0, h1, h2, h3, h4, h5, h6, h7, hp h7⟩

set_option maxRecDepth 1000000 in
set_option maxHeartbeats 6400000 in
theorem args_yes (v : Value) (l : List AD) (w : World) (hv : As w v l) (hl : l.length ≤ 16) (hn : ∀ x ∈ l, nameL x.nm.toList = true ∧ x.val.mayB = true) (hr : ∀ i (h : i + 1 < l.length), Op.bytesLess l[i].nm.toList l[i + 1].nm.toList = true) :
    Calls Tryz.prog 6 #[v] w fun e w' => e = .returned (.int .i64 0) ∧ Keep [] w w' := by
  obtain ⟨ao, cap, rfl, h1, h2, h4⟩ := hv.ex
  have HE : Hid ((l ≠ [] → ∃ b o, ao = some ⟨b, o, none⟩ ∧ ∀ i (h : i < l.length), ∃ u, ArgC w b (o + i * 7) l[i] u ∧ Ts w u l[i].val.texts) ∧ (∀ x ∈ l, x.val.Ok) ∧ (∀ x ∈ l, nameL x.nm.toList = true ∧ x.val.mayB = true) ∧ ∀ i (h : i + 1 < l.length), Op.bytesLess l[i].nm.toList l[i + 1].nm.toList = true) := ⟨h4, hv.ok, hn, hr⟩
  have hli : ¬ ((16 : Int) < (l.length : Int)) := by omega
  have hsf := store_f32
  simp only [Go.stored] at hsf
  clear h4 hv hn hr
  go_enter Tryz.func6, Tryz.ntmps6
  go_wp2
  go_loopw [10] (fun iv wr => ∃ k : Nat, iv = .int .i64 (k : Int) ∧ k ≤ l.length ∧ Keep [] w wr) (fun iv _ => l.length - (intOf iv).toNat)
  case atStart => exact ⟨0, rfl, Nat.zero_le _, Keep.refl _ _⟩
  case round =>
    obtain ⟨k, rfl, hk, hkp⟩ := hrel
    by_cases hkl : k < l.length
    · have hki : (k : Int) < (l.length : Int) := by omega
      obtain ⟨b, o, rfl, hat⟩ := HE.out.1 (by intro hz; rw [hz] at hkl; simp at hkl)
      obtain ⟨u, hA, hu⟩ := hat k hkl
      have hok := HE.out.2.1 l[k] (List.getElem_mem hkl)
      obtain ⟨hnm, hmy⟩ := HE.out.2.2.1 l[k] (List.getElem_mem hkl)
      obtain ⟨au, cu, rfl, _, _, _, _⟩ := hu.ex
      have hA' := hA.keep hkp
      obtain ⟨c0, c1, c2, c3, c4, c5, c6⟩ := hA'
      have hN := name_any l[k].nm
      rw [hnm] at hN
      have hC : ∀ w1, Keep [] w w1 → _ := fun w1 k1 => check_yes l[k].val hok _ w1 (hu.keep k1 (Off.nil _)) hmy
      have HK : Hid (Keep [] w wr) := hkp
      rcases k with _ | j
      · simp only [Nat.zero_mul, Nat.add_zero] at c0 c1 c2 c3 c4 c5 c6
        clear hA hu hok hnm hmy hat hkp HE
        generalize l[0] = x at c0 c1 c2 c3 c4 c5 c6 hN hC
        generalize x.val.texts.length = lu at c6 hC
        go_wp2
        refine wp_region_held_drew (S := (fun w' => w'.cell? ⟨wr.heap.size, 0, none⟩ = some (.string x.nm) ∧ w'.cell? ⟨wr.heap.size, 1, none⟩ = some (.int .i64 x.val.kind) ∧ w'.cell? ⟨wr.heap.size, 2, none⟩ = some (.bool x.val.bool) ∧ w'.cell? ⟨wr.heap.size, 3, none⟩ = some (.int .i64 x.val.int) ∧ w'.cell? ⟨wr.heap.size, 4, none⟩ = some (.float .f32 x.val.real) ∧ w'.cell? ⟨wr.heap.size, 5, none⟩ = some (.string x.val.text) ∧ w'.cell? ⟨wr.heap.size, 6, none⟩ = some (.slice au lu cu) ∧ Keep [] w w')) (by kernel_rfl) (arg_start HK.out ((Keep.refl [] _).drew)) (fun hHeld => ?_)
        try dsimp only at hHeld
        refine wpAnyH_take (i := 0) (oi := { dst := some 15, op := Op.fieldAddr 33 (Operand.tmp 4) 0, type := 0, pos := "args.go:17", after := #[], guard := none }) (v := ?_) rfl (by kernel_rfl) (by kernel_rfl) (by kernel_rfl) (fun _ _ _ h => h) (Or.inl ⟨by rfl, ?_⟩) (by assumption) ?_
        rotate_left
        · intro w7 hSw
          try dsimp only at hSw
          first | (go_simp; done) | (go_simp; with_reducible rfl)
        try simp only [Act.put, List.setIfInBounds_toArray, List.set_cons_zero, List.set_cons_succ]
        refine wpAnyH_take (i := 1) (oi := { dst := some 16, op := Op.load 9 (Operand.tmp 15), type := 9, pos := "args.go:17", after := #[{ on := 0, ground := Ground.data }], guard := none }) (v := ?_) rfl (by kernel_rfl) (by kernel_rfl) (by kernel_rfl) (fun _ _ _ h => h) (Or.inl ⟨by rfl, ?_⟩) (by assumption) ?_
        rotate_left
        · intro w7 hSw
          try dsimp only at hSw
          first | (go_simp; done) | (go_simp; with_reducible rfl)
        try simp only [Act.put, List.setIfInBounds_toArray, List.set_cons_zero, List.set_cons_succ]
        refine wpAnyH_ready (rs := [2]) (by kernel_rfl) (by simp) ?_
        refine AllReadyH.cons (o := { dst := some 17, op := Op.call { callee := Callee.value (Operand.func 16), args := #[Operand.tmp 16], argTypes := #[9] }, type := 4, pos := "args.go:17", after := #[{ on := 1, ground := Ground.data }], guard := none }) rfl (fun K hK => ?_) AllReadyH.nil
        go_simp
        (go_at_call 16; refine (hN _).mono ?_; rintro e9 w9 ⟨rfl, hw9⟩; obtain rfl := hw9.symm)
        go_wp2_with fail
        refine hK.out _ _ (hHeld) (fun hHeld2 => ?_)
        try dsimp only at hHeld2
        clear hK hHeld
        have hHeld := hHeld2
        clear hHeld2
        try simp only [Act.put, List.setIfInBounds_toArray, List.set_cons_zero, List.set_cons_succ]
        refine wpAnyH_take (i := 3) (oi := { dst := some 18, op := Op.unOp UnOp.not 4 (Operand.tmp 17), type := 4, pos := "args.go:17", after := #[{ on := 2, ground := Ground.data }], guard := none }) (v := ?_) rfl (by kernel_rfl) (by kernel_rfl) (by kernel_rfl) (fun _ _ _ h => h) (Or.inl ⟨by rfl, ?_⟩) (by assumption) ?_
        rotate_left
        · intro w7 hSw
          try dsimp only at hSw
          first | (go_simp; done) | (go_simp; with_reducible rfl)
        try simp only [Act.put, List.setIfInBounds_toArray, List.set_cons_zero, List.set_cons_succ]
        refine wpAnyH_take (i := 4) (oi := { dst := some 19, op := Op.move (Operand.tmp 18), type := 4, pos := "args.go:17", after := #[{ on := 3, ground := Ground.data }, { on := 2, ground := Ground.chain }], guard := none }) (v := ?_) rfl (by kernel_rfl) (by kernel_rfl) (by kernel_rfl) (fun _ _ _ h => h) (Or.inl ⟨by rfl, ?_⟩) (by assumption) ?_
        rotate_left
        · intro w7 hSw
          try dsimp only at hSw
          first | (go_simp; done) | (go_simp; with_reducible rfl)
        try simp only [Act.put, List.setIfInBounds_toArray, List.set_cons_zero, List.set_cons_succ]
        refine wpAnyH_take (i := 5) (oi := { dst := some 20, op := Op.fieldAddr 33 (Operand.tmp 4) 1, type := 0, pos := "args.go:17", after := #[{ on := 4, ground := Ground.guard }], guard := some (4, false) }) (v := ?_) rfl (by kernel_rfl) (by kernel_rfl) (by kernel_rfl) (fun _ _ _ h => h) (Or.inl ⟨by rfl, ?_⟩) (by assumption) ?_
        rotate_left
        · intro w7 hSw
          try dsimp only at hSw
          first | (go_simp; done) | (go_simp; with_reducible rfl)
        try simp only [Act.put, List.setIfInBounds_toArray, List.set_cons_zero, List.set_cons_succ]
        refine wpAnyH_take (i := 6) (oi := { dst := some 21, op := Op.load 31 (Operand.tmp 20), type := 31, pos := "args.go:17", after := #[{ on := 5, ground := Ground.data }, { on := 4, ground := Ground.guard }], guard := some (4, false) }) (v := ?_) rfl (by kernel_rfl) (by kernel_rfl) (by kernel_rfl) (fun _ _ _ h => h) (Or.inl ⟨by rfl, ?_⟩) (by assumption) ?_
        rotate_left
        · intro w7 hSw
          try dsimp only at hSw
          first | (go_simp; done) | (go_simp; with_reducible rfl)
        try simp only [Act.put, List.setIfInBounds_toArray, List.set_cons_zero, List.set_cons_succ]
        refine wpAnyH_ready (rs := [7]) (by kernel_rfl) (by simp) ?_
        refine AllReadyH.cons (o := { dst := some 22, op := Op.call { callee := Callee.value (Operand.func 17), args := #[Operand.tmp 21], argTypes := #[31] }, type := 23, pos := "args.go:17", after := #[{ on := 6, ground := Ground.data }, { on := 4, ground := Ground.chain }, { on := 4, ground := Ground.guard }], guard := some (4, false) }) rfl (fun K hK => ?_) AllReadyH.nil
        go_simp
        (go_at_call 17; refine (hC _ ((HK.out.alloc _).drew)).mono ?_; rintro e8 w8 ⟨rfl, k8⟩)
        go_wp2_with fail
        refine hK.out _ _ (arg_start HK.out (((Keep.refl [] _).drew).trans' k8)) (fun hHeld2 => ?_)
        try dsimp only at hHeld2
        clear hK hHeld
        have hHeld := hHeld2
        clear hHeld2
        try simp only [Act.put, List.setIfInBounds_toArray, List.set_cons_zero, List.set_cons_succ]
        refine wpAnyH_take (i := 8) (oi := { dst := some 23, op := Op.binOp BinOp.neq 23 (Operand.tmp 22) (Operand.const (Value.int IntKind.i64 0)) 23, type := 4, pos := "args.go:17", after := #[{ on := 7, ground := Ground.data }, { on := 4, ground := Ground.guard }], guard := some (4, false) }) (v := ?_) rfl (by kernel_rfl) (by kernel_rfl) (by kernel_rfl) (fun _ _ _ h => h) (Or.inl ⟨by rfl, ?_⟩) (by assumption) ?_
        rotate_left
        · intro w7 hSw
          try dsimp only at hSw
          first | (go_simp; done) | (go_simp; with_reducible rfl)
        try simp only [Act.put, List.setIfInBounds_toArray, List.set_cons_zero, List.set_cons_succ]
        refine wpAnyH_take (i := 9) (oi := { dst := some 24, op := Op.pick (Operand.tmp 19) (Operand.const (Value.bool true)) (Operand.tmp 23), type := 4, pos := "args.go:17", after := #[{ on := 4, ground := Ground.data }, { on := 8, ground := Ground.data }], guard := none }) (v := ?_) rfl (by kernel_rfl) (by kernel_rfl) (by kernel_rfl) (fun _ _ _ h => h) (Or.inl ⟨by rfl, ?_⟩) (by assumption) ?_
        rotate_left
        · intro w7 hSw
          try dsimp only at hSw
          first | (go_simp; done) | (go_simp; with_reducible rfl)
        try simp only [Act.put, List.setIfInBounds_toArray, List.set_cons_zero, List.set_cons_succ]
        refine wpAnyH_take (i := 10) (oi := { dst := some 25, op := Op.move (Operand.tmp 24), type := 4, pos := "args.go:17", after := #[{ on := 9, ground := Ground.data }, { on := 7, ground := Ground.chain }], guard := none }) (v := ?_) rfl (by kernel_rfl) (by kernel_rfl) (by kernel_rfl) (fun _ _ _ h => h) (Or.inl ⟨by rfl, ?_⟩) (by assumption) ?_
        rotate_left
        · intro w7 hSw
          try dsimp only at hSw
          first | (go_simp; done) | (go_simp; with_reducible rfl)
        try simp only [Act.put, List.setIfInBounds_toArray, List.set_cons_zero, List.set_cons_succ]
        refine wpAnyH_take (i := 11) (oi := { dst := some 26, op := Op.move (Operand.tmp 3), type := 3, pos := "args.go:17", after := #[{ on := 10, ground := Ground.guard }], guard := some (10, false) }) (v := ?_) rfl (by kernel_rfl) (by kernel_rfl) (by kernel_rfl) (fun _ _ _ h => h) (Or.inl ⟨by rfl, ?_⟩) (by assumption) ?_
        rotate_left
        · intro w7 hSw
          try dsimp only at hSw
          first | (go_simp; done) | (go_simp; with_reducible rfl)
        try simp only [Act.put, List.setIfInBounds_toArray, List.set_cons_zero, List.set_cons_succ]
        refine wpAnyH_take (i := 12) (oi := { dst := some 27, op := Op.binOp BinOp.gtr 3 (Operand.tmp 26) (Operand.const (Value.int IntKind.i64 0)) 3, type := 4, pos := "args.go:17", after := #[{ on := 11, ground := Ground.data }, { on := 10, ground := Ground.guard }], guard := some (10, false) }) (v := ?_) rfl (by kernel_rfl) (by kernel_rfl) (by kernel_rfl) (fun _ _ _ h => h) (Or.inl ⟨by rfl, ?_⟩) (by assumption) ?_
        rotate_left
        · intro w7 hSw
          try dsimp only at hSw
          first | (go_simp; done) | (go_simp; with_reducible rfl)
        try simp only [Act.put, List.setIfInBounds_toArray, List.set_cons_zero, List.set_cons_succ]
        refine wpAnyH_take (i := 13) (oi := { dst := some 28, op := Op.move (Operand.tmp 27), type := 4, pos := "args.go:17", after := #[{ on := 12, ground := Ground.data }, { on := 10, ground := Ground.chain }, { on := 10, ground := Ground.guard }], guard := some (10, false) }) (v := ?_) rfl (by kernel_rfl) (by kernel_rfl) (by kernel_rfl) (fun _ _ _ h => h) (Or.inl ⟨by rfl, ?_⟩) (by assumption) ?_
        rotate_left
        · intro w7 hSw
          try dsimp only at hSw
          first | (go_simp; done) | (go_simp; with_reducible rfl)
        try simp only [Act.put, List.setIfInBounds_toArray, List.set_cons_zero, List.set_cons_succ]
        refine wpAnyH_take (i := 14) (oi := { dst := some 29, op := Op.move (Operand.tmp 0), type := 22, pos := "args.go:17", after := #[{ on := 13, ground := Ground.guard }], guard := some (13, true) }) (v := undef) rfl (by kernel_rfl) (by kernel_rfl) (by kernel_rfl) (fun _ _ _ h => h) (Or.inr ⟨by rfl, rfl⟩) (by assumption) ?_
        try simp only [Act.put, List.setIfInBounds_toArray, List.set_cons_zero, List.set_cons_succ]
        refine wpAnyH_take (i := 15) (oi := { dst := some 30, op := Op.move (Operand.tmp 3), type := 3, pos := "args.go:17", after := #[{ on := 13, ground := Ground.guard }], guard := some (13, true) }) (v := undef) rfl (by kernel_rfl) (by kernel_rfl) (by kernel_rfl) (fun _ _ _ h => h) (Or.inr ⟨by rfl, rfl⟩) (by assumption) ?_
        try simp only [Act.put, List.setIfInBounds_toArray, List.set_cons_zero, List.set_cons_succ]
        refine wpAnyH_take (i := 16) (oi := { dst := some 31, op := Op.binOp BinOp.sub 3 (Operand.tmp 30) (Operand.const (Value.int IntKind.i64 1)) 3, type := 3, pos := "args.go:17", after := #[{ on := 15, ground := Ground.data }, { on := 13, ground := Ground.guard }], guard := some (13, true) }) (v := undef) rfl (by kernel_rfl) (by kernel_rfl) (by kernel_rfl) (fun _ _ _ h => h) (Or.inr ⟨by rfl, rfl⟩) (by assumption) ?_
        try simp only [Act.put, List.setIfInBounds_toArray, List.set_cons_zero, List.set_cons_succ]
        refine wpAnyH_take (i := 17) (oi := { dst := some 32, op := Op.indexAddr 22 (Operand.tmp 29) (Operand.tmp 31), type := 0, pos := "args.go:17", after := #[{ on := 14, ground := Ground.data }, { on := 16, ground := Ground.data }, { on := 13, ground := Ground.guard }], guard := some (13, true) }) (v := undef) rfl (by kernel_rfl) (by kernel_rfl) (by kernel_rfl) (fun _ _ _ h => h) (Or.inr ⟨by rfl, rfl⟩) (by assumption) ?_
        try simp only [Act.put, List.setIfInBounds_toArray, List.set_cons_zero, List.set_cons_succ]
        refine wpAnyH_take (i := 18) (oi := { dst := some 33, op := Op.fieldAddr 33 (Operand.tmp 32) 0, type := 0, pos := "args.go:17", after := #[{ on := 17, ground := Ground.data }, { on := 13, ground := Ground.guard }], guard := some (13, true) }) (v := undef) rfl (by kernel_rfl) (by kernel_rfl) (by kernel_rfl) (fun _ _ _ h => h) (Or.inr ⟨by rfl, rfl⟩) (by assumption) ?_
        try simp only [Act.put, List.setIfInBounds_toArray, List.set_cons_zero, List.set_cons_succ]
        refine wpAnyH_take (i := 19) (oi := { dst := some 34, op := Op.load 9 (Operand.tmp 33), type := 9, pos := "args.go:17", after := #[{ on := 18, ground := Ground.data }, { on := 13, ground := Ground.guard }], guard := some (13, true) }) (v := undef) rfl (by kernel_rfl) (by kernel_rfl) (by kernel_rfl) (fun _ _ _ h => h) (Or.inr ⟨by rfl, rfl⟩) (by assumption) ?_
        try simp only [Act.put, List.setIfInBounds_toArray, List.set_cons_zero, List.set_cons_succ]
        refine wpAnyH_take (i := 20) (oi := { dst := some 35, op := Op.fieldAddr 33 (Operand.tmp 4) 0, type := 0, pos := "args.go:17", after := #[{ on := 13, ground := Ground.guard }], guard := some (13, true) }) (v := undef) rfl (by kernel_rfl) (by kernel_rfl) (by kernel_rfl) (fun _ _ _ h => h) (Or.inr ⟨by rfl, rfl⟩) (by assumption) ?_
        try simp only [Act.put, List.setIfInBounds_toArray, List.set_cons_zero, List.set_cons_succ]
        refine wpAnyH_take (i := 21) (oi := { dst := some 36, op := Op.load 9 (Operand.tmp 35), type := 9, pos := "args.go:17", after := #[{ on := 20, ground := Ground.data }, { on := 13, ground := Ground.guard }], guard := some (13, true) }) (v := undef) rfl (by kernel_rfl) (by kernel_rfl) (by kernel_rfl) (fun _ _ _ h => h) (Or.inr ⟨by rfl, rfl⟩) (by assumption) ?_
        try simp only [Act.put, List.setIfInBounds_toArray, List.set_cons_zero, List.set_cons_succ]
        refine wpAnyH_take (i := 22) (oi := { dst := some 37, op := Op.binOp BinOp.geq 9 (Operand.tmp 34) (Operand.tmp 36) 9, type := 4, pos := "args.go:17", after := #[{ on := 19, ground := Ground.data }, { on := 21, ground := Ground.data }, { on := 13, ground := Ground.guard }], guard := some (13, true) }) (v := undef) rfl (by kernel_rfl) (by kernel_rfl) (by kernel_rfl) (fun _ _ _ h => h) (Or.inr ⟨by rfl, rfl⟩) (by assumption) ?_
        try simp only [Act.put, List.setIfInBounds_toArray, List.set_cons_zero, List.set_cons_succ]
        refine wpAnyH_take (i := 23) (oi := { dst := some 38, op := Op.pick (Operand.tmp 28) (Operand.tmp 37) (Operand.const (Value.bool false)), type := 4, pos := "args.go:17", after := #[{ on := 13, ground := Ground.data }, { on := 22, ground := Ground.data }, { on := 10, ground := Ground.guard }], guard := some (10, false) }) (v := ?_) rfl (by kernel_rfl) (by kernel_rfl) (by kernel_rfl) (fun _ _ _ h => h) (Or.inl ⟨by rfl, ?_⟩) (by assumption) ?_
        rotate_left
        · intro w7 hSw
          try dsimp only at hSw
          first | (go_simp; done) | (go_simp; with_reducible rfl)
        try simp only [Act.put, List.setIfInBounds_toArray, List.set_cons_zero, List.set_cons_succ]
        refine wpAnyH_take (i := 24) (oi := { dst := some 39, op := Op.pick (Operand.tmp 25) (Operand.const (Value.bool true)) (Operand.tmp 38), type := 4, pos := "args.go:17", after := #[{ on := 10, ground := Ground.data }, { on := 23, ground := Ground.data }], guard := none }) (v := ?_) rfl (by kernel_rfl) (by kernel_rfl) (by kernel_rfl) (fun _ _ _ h => h) (Or.inl ⟨by rfl, ?_⟩) (by assumption) ?_
        rotate_left
        · intro w7 hSw
          try dsimp only at hSw
          first | (go_simp; done) | (go_simp; with_reducible rfl)
        try simp only [Act.put, List.setIfInBounds_toArray, List.set_cons_zero, List.set_cons_succ]
        refine wpAnyH_done (by kernel_rfl) ?_ _
        have HZ : Hid (Keep [] w w8) := hHeld.2.2.2.2.2.2.2
        clear hHeld
        go_wp2
        go_roundw
        case rel => exact ⟨1, by go_num, by omega, HZ.out⟩
        case measure => simp [intOf]; omega
      · obtain ⟨u', hB, _⟩ := hat j (by omega)
        have hB' := (hB.keep hkp).nm
        have hless := HE.out.2.2.2 j hkl
        have hpr : ∀ w1, Keep [] w w1 → w1.cell? ⟨b, o + j * 7, none⟩ = some (.string l[j].nm) := fun w1 k1 => (hB.keep k1).nm
        clear hA hu hok hnm hmy hat hkp HE hB
        generalize l[j + 1] = x at c0 c1 c2 c3 c4 c5 c6 hN hC hless
        generalize x.val.texts.length = lu at c6 hC
        generalize l[j] = y at hB' hless hpr
        have hj0 : (0 : Int) ≤ (j : Int) := by omega
        have hj1 : (j : Int) < (l.length : Int) := by omega
        have hwr : IntKind.i64.wrap ((j : Int) + 1 - 1) = (j : Int) := by rw [IntKind.wrap_i64]; omega
        have hwr2 : IntKind.i64.wrap (j : Int) = (j : Int) := by rw [IntKind.wrap_i64]; omega
        go_wp2
        go_region_held3 (fun w' => w'.cell? ⟨wr.heap.size, 0, none⟩ = some (.string x.nm) ∧ w'.cell? ⟨wr.heap.size, 1, none⟩ = some (.int .i64 x.val.kind) ∧ w'.cell? ⟨wr.heap.size, 2, none⟩ = some (.bool x.val.bool) ∧ w'.cell? ⟨wr.heap.size, 3, none⟩ = some (.int .i64 x.val.int) ∧ w'.cell? ⟨wr.heap.size, 4, none⟩ = some (.float .f32 x.val.real) ∧ w'.cell? ⟨wr.heap.size, 5, none⟩ = some (.string x.val.text) ∧ w'.cell? ⟨wr.heap.size, 6, none⟩ = some (.slice au lu cu) ∧ Keep [] w w' ∧ w'.cell? ⟨b, o + j * 7, none⟩ = some (.string y.nm))
          (first | exact argS HK.out ((Keep.refl [] _).drew) (hpr _) | exact argS HK.out (((Keep.refl [] _).drew).trans' k8) (hpr _))
          (first
            | (go_at_call 16; refine (hN _).mono ?_; rintro e9 w9 ⟨rfl, hw9⟩; obtain rfl := hw9.symm)
            | (go_at_call 17; refine (hC _ ((HK.out.alloc _).drew)).mono ?_; rintro e8 w8 ⟨rfl, k8⟩))
        rename_i hH
        have HZ : Hid (Keep [] w w8) := hH.2.2.2.2.2.2.2.1
        clear hH
        go_wp2
        go_roundw
        case rel => exact ⟨j + 1 + 1, by go_num, by omega, HZ.out⟩
        case measure => simp [intOf]; omega
    · have hki : ¬ ((k : Int) < (l.length : Int)) := by omega
      have HK : Hid (Keep [] w wr) := hkp
      clear hkp HE
      go_wp2
      go_ret
      exact ⟨rfl, HK.out⟩

end Go.Proofs.YtncbanpimfhhbaaGreatDoor


