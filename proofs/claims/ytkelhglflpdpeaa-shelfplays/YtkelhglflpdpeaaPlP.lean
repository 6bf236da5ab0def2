/- ShelfPlays: every script of calls on three shelves, held against three lists. -/
import Derived.Test.YtkelhglflpdpeaaPl
import Derived.Test.YtkelhglflpdpeaaAw

namespace Go.Proofs.Ytkelhglflpdpeaa
open Go.RowKit Go.PlainAid


/-- three shelves and their lists, of at most i elements each -/
def PJ (w : World) (A B i : Nat) (W : World) : Prop := ∃ bs vs Ls, Ply w A B bs vs Ls Ls W ∧ ∀ n, n < 3 → (Ls.getD n []).length ≤ i
theorem PJ.keep {w : World} {A B i : Nat} {W W' : World} (h : PJ w A B i W) (k : Keep [] W W') : PJ w A B i W' := by
  obtain ⟨bs, vs, Ls, hp, hl⟩ := h
  exact ⟨bs, vs, Ls, hp.keep0 k, hl⟩
theorem PJ.kp {w : World} {A B i : Nat} {W : World} (h : PJ w A B i W) : Keep [] w W := by
  obtain ⟨bs, vs, Ls, hp, hl⟩ := h
  exact hp.kp
theorem PJ.up {w : World} {A B i : Nat} {W : World} (h : PJ w A B i W) : PJ w A B (i + 1) W := by
  obtain ⟨bs, vs, Ls, hp, hl⟩ := h
  exact ⟨bs, vs, Ls, hp, fun n hn => Nat.le_succ_of_le (hl n hn)⟩
theorem PJ.step {w : World} {A B i : Nat} {bs : List Nat} {vs : List Value} {Ls : List (List Pr)} {W : World} {n : Nat} {L : List Pr} (h : Ply w A B bs vs (Ls.set n L) (Ls.set n L) W) (hn : n < 3) (hl : ∀ n, n < 3 → (Ls.getD n []).length ≤ i) (hL : L.length ≤ i + 1) : PJ w A B (i + 1) W :=
  ⟨bs, vs, _, h, fun m hm => by
    have h1 := h.nL
    rw [List.length_set] at h1
    rw [getD_set _ _ _ _ _ (by omega)]
    by_cases e : m = n
    · rw [if_pos e]; exact hL
    · rw [if_neg e]; exact Nat.le_succ_of_le (hl m hm)⟩

set_option maxRecDepth 100000 in
set_option maxHeartbeats 8000000 in
theorem plays_law (v0 : Value) (os : List Oc) (w : World) (h0 : Rd encO 4 w v0 os) (ho : os.length ≤ 4398046510976) (hok : OkO os) :
    Calls Try.prog 3 #[v0] w fun e w' => e = .returned (.bool true) ∧ Keep [] w w' := by
  obtain ⟨a0, c0, rfl, p0, p1⟩ := h0.form
  have H0 : Hid (Rd encO 4 w (.slice a0 os.length c0) os) := h0
  have HB : Hid (os.length ≤ 4398046510976 ∧ OkO os) := ⟨ho, hok⟩
  have hoz : (os.length : Int) ≤ 4398046510976 := by omega
  have ho0 : (0 : Int) ≤ (os.length : Int) := by omega
  have HNew : Hid (∀ w9, Calls Try.prog 9 #[vF 10] w9 fun e w' => ∃ b, e = .returned (vA b) ∧ Sh w' b 10 [] ∧ Keep [] w9 w' ∧ w9.heap.size ≤ b) := fun w9 => new_any 10 (.inl rfl) w9
  have HAw : Hid (∀ w9, Calls Try.prog 23 #[] w9 fun e w' => e = .returned (.bool true) ∧ Keep [] w9 w') := fun w9 => awake_any w9
  have HLe : Hid (∀ b L w9, Sh w9 b 10 L → Calls Try.prog 19 #[vA b] w9 fun e w' => e = .returned (.int .i64 (L.length : Int)) ∧ w9 = w') := fun b L w9 hs => len_any b 10 L w9 hs
  have HP0 : Hid (Pp w w.heap.size (w.heap.size + 1) 0 [] ((w.alloc (.cells #[.pointer none, .pointer none, .pointer none] 24)).alloc (.cells #[.slice none 0 0, .slice none 0 0, .slice none 0 0] 26))) := Pp.new w
  clear h0 ho hok
  go_enter Try.func3, Try.ntmps3
  go_wp2_with fail
  obtain ⟨B, HBB⟩ : ∃ B : Nat, Hid (B = w.heap.size + 1) := ⟨_, show _ = _ from rfl⟩
  rw [← HBB.out] at HP0 ⊢
  obtain ⟨A, HA⟩ : ∃ A : Nat, Hid (A = w.heap.size) := ⟨_, show _ = _ from rfl⟩
  rw [← HA.out] at HP0 ⊢
  clear HA HBB
  go_loopw [5] (fun kv wr => ∃ k : Nat, kv = .int .i64 (k : Int) ∧ k ≤ 3 ∧ ∃ bs, Hid (Pp w A B k bs wr)) (fun kv _ => 3 - (intOf kv).toNat)
  case atStart => exact ⟨0, rfl, by omega, [], HP0.out⟩
  case round =>
    obtain ⟨k, rfl, hk, bs, HI⟩ := hrel
    clear HP0
    by_cases hlt : k < 3
    · have hlti : (k : Int) < 3 := by omega
      have hk0 : (0 : Int) ≤ (k : Int) := by omega
      go_wp2_with fail
      refine (HNew.out _).mono ?_
      rintro e w1 ⟨b1, rfl, s1, k1, g1⟩
      have HS1 : Hid (Pp w A B (k + 1) (bs ++ [b1]) (w1.setCell ⟨A, k, none⟩ (vA b1))) := HI.out.step hlt k1 b1 s1 g1
      obtain ⟨hc1, hc2⟩ := (HI.out.keep0 k1).cell hlt
      clear s1 k1 g1
      go_wp2
      go_roundw
      case rel => exact ⟨k + 1, by simp, by omega, _, HS1.out⟩
      case measure => simp [intOf]; omega
    · obtain rfl : k = 3 := by omega
      have HPl : Hid (PJ w A B 0 wr) := ⟨bs, _, _, HI.out.done, fun n hn => by rcases (by omega : n = 0 ∨ n = 1 ∨ n = 2) with rfl | rfl | rfl <;> exact Nat.le_refl _⟩
      clear HI hk hlt HNew
      go_wp2_with fail
      go_loopw [6] (fun iv wr => ∃ i : Nat, iv = .int .i64 (i : Int) ∧ i ≤ os.length ∧ Hid (PJ w A B i wr)) (fun iv _ => os.length - (intOf iv).toNat)
      case atStart => exact ⟨0, rfl, Nat.zero_le _, HPl.out⟩
      case round =>
        obtain ⟨i, rfl, hi, HI⟩ := hrel
        clear HPl
        rename_i wr0 _ _ _
        by_cases hlt : i < os.length
        · have hlti : (i : Int) < (os.length : Int) := by omega
          have hi0 : (0 : Int) ≤ (i : Int) := by omega
          obtain ⟨b, o, c2, he, hb, e0, e1, e2, e3⟩ := H0.out.call i hlt
          simp at he
          obtain ⟨rfl, rfl⟩ := he
          obtain ⟨bs, vs, Ls, hPl, hLen⟩ := HI.out
          have HPl : Hid (Ply w A B bs vs Ls Ls _) := hPl
          have HLen : Hid (∀ n, n < 3 → (Ls.getD n []).length ≤ i) := hLen
          have f0 := hPl.kp.cell' e0 (by simp)
          have f1 := hPl.kp.cell' e1 (by simp)
          have f2 := hPl.kp.cell' e2 (by simp)
          have f3 := hPl.kp.cell' e3 (by simp)
          have hbw := Nat.lt_of_lt_of_le hb hPl.kp.size
          have hk := HB.out.2 os[i] (List.getElem_mem hlt)
          have HOk : Hid (os[i].x.k ≤ 9223372036854775807 ∧ -9223372036854775808 ≤ os[i].c ∧ os[i].c ≤ 9223372036854775807) := ⟨hk.2.2.1.2, hk.2.1⟩
          have HPo : Hid (∀ w9, Calls Try.prog 11 #[.int .i64 os[i].o, .int .i64 3] w9 fun e w' => e = .returned (.int .i64 (pickZ os[i].o 3)) ∧ w9 = w') := fun w9 => (pick_any os[i].o 3 hk.1.1 hk.1.2 (by omega) w9).mono (fun e w' h => ⟨h.1, h.2.symm⟩)
          have HPc : Hid (∀ w9, Calls Try.prog 11 #[.int .i64 os[i].c, .int .i64 8] w9 fun e w' => e = .returned (.int .i64 (pickZ os[i].c 8)) ∧ w9 = w') := fun w9 => (pick_any os[i].c 8 hk.2.1.1 hk.2.1.2 (by omega) w9).mono (fun e w' h => ⟨h.1, h.2.symm⟩)
          have hp1 : 0 ≤ pickZ os[i].o 3 ∧ pickZ os[i].o 3 < 3 := pickZ_lt os[i].o 3 (by omega)
          have hp2 : 0 ≤ pickZ os[i].c 8 ∧ pickZ os[i].c 8 < 8 := pickZ_lt os[i].c 8 (by omega)
          obtain ⟨n, hn, hn3⟩ : ∃ n : Nat, pickZ os[i].o 3 = (n : Int) ∧ n < 3 := ⟨(pickZ os[i].o 3).toNat, by omega, by omega⟩
          rw [hn] at HPo
          have hn0 : (0 : Int) ≤ (n : Int) := by omega
          have hnz : (n : Int) < 3 := by omega
          clear hp1 hn e0 e1 e2 e3 hb hk hPl hLen HI
          generalize os[i] = oo at *
          obtain ⟨oo_, oc, x⟩ := oo
          simp only [] at f0 f1 f2 f3 HPo HPc hp2 HOk
          go_wp2_with fail
          refine (HPo.out _).mono ?_
          clear HPo
          rintro e w1 ⟨rfl, rfl⟩
          go_wp2_with fail
          refine (HPc.out _).mono ?_
          clear HPc
          rintro e w1 ⟨rfl, rfl⟩
          have hkind : pickZ oc 8 = 0 ∨ pickZ oc 8 = 1 ∨ pickZ oc 8 = 2 ∨ pickZ oc 8 = 7 ∨ (3 ≤ pickZ oc 8 ∧ pickZ oc 8 ≤ 6) := by omega
          clear hp2
          have HP1 : Hid (Ply w A B bs vs Ls Ls (wr.alloc (.cells #[.int .i64 x.k, .int .i64 x.m] 29))) := HPl.out.keep0 (Keep.alloc1 _ _)
          obtain ⟨⟨x0, x1⟩, _, _⟩ := two_facts (heap_alloc_new wr (.cells #[.int .i64 x.k, .int .i64 x.m] 29))
          have g0 := (Keep.alloc1 wr (.cells #[.int .i64 x.k, .int .i64 x.m] 29)).cell' f0 (by simp)
          have g1 := (Keep.alloc1 wr (.cells #[.int .i64 x.k, .int .i64 x.m] 29)).cell' f1 (by simp)
          have g2 := (Keep.alloc1 wr (.cells #[.int .i64 x.k, .int .i64 x.m] 29)).cell' f2 (by simp)
          have g3 := (Keep.alloc1 wr (.cells #[.int .i64 x.k, .int .i64 x.m] 29)).cell' f3 (by simp)
          have HXB : Hid (wr.heap.size ≠ B) := by have := HPl.out.ltB; show _ ≠ _; omega
          have HNe : Hid (A ≠ bs.getD n 0 ∧ wr.heap.size ≠ bs.getD n 0 ∧ w.heap.size ≤ bs.getD n 0) := by
            have h1 := (HPl.out.s n hn3).lt
            exact ⟨fun e => (HPl.out.s n hn3).noBlk HPl.out.a (by decide) e.symm, by omega, HPl.out.ge.2.2 n hn3⟩
          have hLn := HLen.out n hn3
          obtain ⟨ao, cap, hv, hc1, hc2⟩ := ((HP1.out.l n hn3).rd encP_len).form
          have hRw := HP1.out.l n hn3
          have hb1 := HP1.out.cellB n hn3
          have ha1 := HP1.out.cellA n hn3
          have hSh := HP1.out.s n hn3
          rw [hv] at hb1 hRw
          clear hv HPl f0 f1 f2 f3 hbw
          obtain ⟨L, HGL0⟩ : ∃ L : List Pr, Hid (Ls.getD n [] = L) := ⟨_, show _ = _ from rfl⟩
          obtain ⟨bn, HGA⟩ : ∃ bn : Nat, Hid (bs.getD n 0 = bn) := ⟨_, show _ = _ from rfl⟩
          rw [HGL0.out] at hLn hRw hb1 hSh hc1
          rw [HGA.out] at HNe ha1 hSh
          have HLl : Hid (L.length ≤ i) := hLn
          have hLz : (L.length : Int) ≤ 4398046510976 := by have := HB.out.1; omega
          have HRw : Hid (Rw 29 encP 2 (wr.alloc (.cells #[.int .i64 x.k, .int .i64 x.m] 29)) (.slice ao L.length cap) L) := hRw
          have HRd : Hid (Rd encP 2 (wr.alloc (.cells #[.int .i64 x.k, .int .i64 x.m] 29)) (.slice ao L.length cap) L) := hRw.rd encP_len
          have HSh : Hid (Sh (wr.alloc (.cells #[.int .i64 x.k, .int .i64 x.m] 29)) bn 10 L) := hSh
          clear hLn hRw hSh
          generalize wr.alloc (.cells #[.int .i64 x.k, .int .i64 x.m] 29) = W1 at *
          generalize wr.heap.size = X at *
          rcases hkind with hz | hz | hz | hz | hz
          · rw [hz]
            clear hz HOk g0 g1 g2 g3 HRw
            clear ha1
            obtain ⟨d, HD⟩ : ∃ d : Bool, Hid (d = (lk L x.k).isSome) := ⟨_, show _ = _ from rfl⟩
            obtain ⟨L', HL'⟩ : ∃ L' : List Pr, Hid (L' = addL L x) := ⟨_, show _ = _ from rfl⟩
            have HL'l : Hid (L'.length ≤ i + 1) := by
              show _ ≤ _
              rw [HL'.out]
              have h1 := HLl.out
              have h2 := add_len L x
              omega
            have HDo : Hid (∀ w9, Keep [] W1 w9 → Calls Try.prog 12 #[.slice ao L.length cap, vP x, .bool false] w9 fun e w' => ∃ a5 c5, e = .returned (.tuple #[.slice a5 L'.length c5, .bool d]) ∧ Rw 29 encP 2 w' (.slice a5 L'.length c5) L' ∧ Keep [] w9 w') := fun w9 kk => by
              rw [HD.out, HL'.out]
              refine (rPut_any _ L x false w9 (HRd.out.keep kk (Off.nil _)) HSh.out.ris (by have := HLl.out; have := HB.out.1; omega)).mono ?_
              rintro e w' ⟨v', he, hr, hk⟩
              obtain ⟨a5, c5, rfl, _, _⟩ := (hr.rd encP_len).form
              exact ⟨a5, c5, he, hr, hk⟩
            have HSo : Hid (∀ w9, Sh w9 bn 10 L → Calls Try.prog 13 #[vA bn, vP x] w9 fun e w' => e = .returned (.bool (!d)) ∧ Sh w' bn 10 L' ∧ Keep [bn] w9 w') := fun w9 hs => by
              rw [HD.out, HL'.out]
              rw [show (!(lk L x.k).isSome) = (lk L x.k).isNone from by cases lk L x.k <;> rfl]
              exact add_any bn 10 L x w9 hs (by have := HLl.out; have := HB.out.1; omega)
            clear HD HL'
            go_wp2_with fail
            refine wp_region_until 10 (S := (fun w' : World => w'.cell? ⟨B, n, none⟩ = some (.slice ao L.length cap) ∧ w'.cell? ⟨X, 0, none⟩ = some (.int .i64 x.k) ∧ w'.cell? ⟨X, 1, none⟩ = some (.int .i64 x.m))) (by kernel_rfl) (⟨hb1, x0, x1⟩) (fun hHeld => ?_)
            try dsimp only at hHeld
            refine AnyU.takeP (i := 0) (oi := { dst := some 61, op := Go.Op.move (Go.Operand.tmp 7), type := 3, pos := "law.go:69", after := #[], guard := none }) (v := ?_) rfl (by kernel_rfl) (by kernel_rfl) (by kernel_rfl) (by kernel_rfl) (fun _ _ _ h => h) (Or.inl ⟨by rfl, ?_⟩) (fun _ => by assumption) ?_
            rotate_left
            · intro w7 hSw
              first | (go_simp; done) | (go_simp; with_reducible rfl)
            try simp only [Act.put, List.setIfInBounds_toArray, List.set_cons_zero, List.set_cons_succ]
            refine AnyU.takeP (i := 1) (oi := { dst := some 62, op := Go.Op.move (Go.Operand.tmp 7), type := 3, pos := "law.go:69", after := #[], guard := none }) (v := ?_) rfl (by kernel_rfl) (by kernel_rfl) (by kernel_rfl) (by kernel_rfl) (fun _ _ _ h => h) (Or.inl ⟨by rfl, ?_⟩) (fun _ => by assumption) ?_
            rotate_left
            · intro w7 hSw
              first | (go_simp; done) | (go_simp; with_reducible rfl)
            try simp only [Act.put, List.setIfInBounds_toArray, List.set_cons_zero, List.set_cons_succ]
            refine AnyU.takeP (i := 2) (oi := { dst := some 63, op := Go.Op.indexAddr 26 (Go.Operand.tmp 4) (Go.Operand.tmp 62), type := 0, pos := "law.go:69", after := #[{ on := 1, ground := Go.Ground.data }], guard := none }) (v := ?_) rfl (by kernel_rfl) (by kernel_rfl) (by kernel_rfl) (by kernel_rfl) (fun _ _ _ h => h) (Or.inl ⟨by rfl, ?_⟩) (fun _ => by assumption) ?_
            rotate_left
            · intro w7 hSw
              first | (go_simp; done) | (go_simp; with_reducible rfl)
            try simp only [Act.put, List.setIfInBounds_toArray, List.set_cons_zero, List.set_cons_succ]
            refine AnyU.take (i := 3) (oi := { dst := some 64, op := Go.Op.load 25 (Go.Operand.tmp 63), type := 25, pos := "law.go:69", after := #[{ on := 2, ground := Go.Ground.data }], guard := none }) (v := ?_) rfl (by kernel_rfl) (by kernel_rfl) (by kernel_rfl) (by kernel_rfl) (fun _ _ _ h => h) (Or.inl ⟨by rfl, ?_⟩) (by assumption) ?_
            rotate_left
            · intro w7 hSw
              try dsimp only at hSw
              first | (go_simp; done) | (go_simp; with_reducible rfl)
            try simp only [Act.put, List.setIfInBounds_toArray, List.set_cons_zero, List.set_cons_succ]
            refine AnyU.take (i := 4) (oi := { dst := some 65, op := Go.Op.load 29 (Go.Operand.tmp 8), type := 29, pos := "law.go:69", after := #[], guard := none }) (v := ?_) rfl (by kernel_rfl) (by kernel_rfl) (by kernel_rfl) (by kernel_rfl) (fun _ _ _ h => h) (Or.inl ⟨by rfl, ?_⟩) (by assumption) ?_
            rotate_left
            · intro w7 hSw
              try dsimp only at hSw
              first | (go_simp; done) | (go_simp; with_reducible rfl)
            try simp only [Act.put, List.setIfInBounds_toArray, List.set_cons_zero, List.set_cons_succ]
            refine AnyU.one (i := 5) (o := { dst := some 66, op := Go.Op.call { callee := Go.Callee.value (Go.Operand.func 12), args := #[Go.Operand.tmp 64, Go.Operand.tmp 65, Go.Operand.const (Go.Value.bool false)], argTypes := #[25, 29, 4] }, type := 34, pos := "law.go:69", after := #[{ on := 3, ground := Go.Ground.data }, { on := 4, ground := Go.Ground.data }], guard := none }) (by kernel_rfl) rfl (fun K hK => ?_)
            go_simp
            refine (HDo.out _ (Keep.refl [] _).drew).mono ?_; clear HDo; rintro e w5 ⟨a5, c5, rfl, r5, k5⟩
            go_wp2_with fail
            refine hK.out _ _ (fun _ => ⟨k5.cell' hHeld.1 (by simp), k5.cell' hHeld.2.1 (by simp), k5.cell' hHeld.2.2 (by simp)⟩) (fun hHeld2 => ?_)
            have hHeld3 := hHeld2 (by kernel_rfl)
            try dsimp only at hHeld3
            clear hK hHeld hHeld2
            have hHeld := hHeld3
            clear hHeld3
            try simp only [Act.put, List.setIfInBounds_toArray, List.set_cons_zero, List.set_cons_succ]
            refine AnyU.takeP (i := 6) (oi := { dst := some 60, op := Go.Op.move (Go.Operand.tmp 66), type := 34, pos := "law.go:69", after := #[{ on := 5, ground := Go.Ground.data }], guard := none }) (v := ?_) rfl (by kernel_rfl) (by kernel_rfl) (by kernel_rfl) (by kernel_rfl) (fun _ _ _ h => h) (Or.inl ⟨by rfl, ?_⟩) (fun _ => by assumption) ?_
            rotate_left
            · intro w7 hSw
              first | (go_simp; done) | (go_simp; with_reducible rfl)
            try simp only [Act.put, List.setIfInBounds_toArray, List.set_cons_zero, List.set_cons_succ]
            refine AnyU.takeP (i := 7) (oi := { dst := some 67, op := Go.Op.extract (Go.Operand.tmp 60) 0, type := 25, pos := "law.go:69", after := #[{ on := 6, ground := Go.Ground.data }], guard := none }) (v := ?_) rfl (by kernel_rfl) (by kernel_rfl) (by kernel_rfl) (by kernel_rfl) (fun _ _ _ h => h) (Or.inl ⟨by rfl, ?_⟩) (fun _ => by assumption) ?_
            rotate_left
            · intro w7 hSw
              first | (go_simp; done) | (go_simp; with_reducible rfl)
            try simp only [Act.put, List.setIfInBounds_toArray, List.set_cons_zero, List.set_cons_succ]
            refine AnyU.takeP (i := 8) (oi := { dst := some 68, op := Go.Op.extract (Go.Operand.tmp 60) 1, type := 4, pos := "law.go:69", after := #[{ on := 6, ground := Go.Ground.data }, { on := 10, ground := Go.Ground.gcOnly Go.Departure.lateStores }], guard := none }) (v := ?_) rfl (by kernel_rfl) (by kernel_rfl) (by kernel_rfl) (by kernel_rfl) (fun _ _ _ h => h) (Or.inl ⟨by rfl, ?_⟩) (fun _ => by assumption) ?_
            rotate_left
            · intro w7 hSw
              first | (go_simp; done) | (go_simp; with_reducible rfl)
            try simp only [Act.put, List.setIfInBounds_toArray, List.set_cons_zero, List.set_cons_succ]
            refine AnyU.takeP (i := 9) (oi := { dst := some 69, op := Go.Op.indexAddr 26 (Go.Operand.tmp 4) (Go.Operand.tmp 61), type := 0, pos := "law.go:69", after := #[{ on := 0, ground := Go.Ground.data }, { on := 0, ground := Go.Ground.phase }, { on := 1, ground := Go.Ground.phase }, { on := 2, ground := Go.Ground.phase }, { on := 3, ground := Go.Ground.phase }, { on := 4, ground := Go.Ground.phase }, { on := 5, ground := Go.Ground.phase }, { on := 6, ground := Go.Ground.phase }, { on := 7, ground := Go.Ground.phase }, { on := 8, ground := Go.Ground.textOnly Go.Departure.lateStores }], guard := none }) (v := ?_) rfl (by kernel_rfl) (by kernel_rfl) (by kernel_rfl) (by kernel_rfl) (fun _ _ _ h => h) (Or.inl ⟨by rfl, ?_⟩) (fun _ => by assumption) ?_
            rotate_left
            · intro w7 hSw
              first | (go_simp; done) | (go_simp; with_reducible rfl)
            try simp only [Act.put, List.setIfInBounds_toArray, List.set_cons_zero, List.set_cons_succ]
            have hfr : w5.frozen? ⟨B, n, none⟩ = false := (HP1.out.keep0 ((Keep.refl [] _).drew.trans' k5)).freeB n
            refine AnyU.one (i := 10) (o := { dst := none, op := Go.Op.store 25 (Go.Operand.tmp 69) (Go.Operand.tmp 67), type := 0, pos := "law.go:69", after := #[{ on := 9, ground := Go.Ground.data }, { on := 7, ground := Go.Ground.data }, { on := 5, ground := Go.Ground.chain }, { on := 0, ground := Go.Ground.phase }, { on := 1, ground := Go.Ground.phase }, { on := 2, ground := Go.Ground.phase }, { on := 3, ground := Go.Ground.phase }, { on := 4, ground := Go.Ground.phase }, { on := 5, ground := Go.Ground.phase }, { on := 6, ground := Go.Ground.phase }, { on := 7, ground := Go.Ground.phase }, { on := 8, ground := Go.Ground.textOnly Go.Departure.lateStores }], guard := none }) (by kernel_rfl) rfl (fun K hK => ?_)
            go_simp
            refine hK.out _ _ (fun h => Bool.noConfusion ((show _ = true from by kernel_rfl).symm.trans h)) (fun _ => ?_)
            clear hK hHeld
            try simp only [Act.put, List.setIfInBounds_toArray, List.set_cons_zero, List.set_cons_succ]
            refine AnyU.takeP (i := 11) (oi := { dst := some 10, op := Go.Op.assign (Go.Operand.tmp 68), type := 4, pos := "law.go:69", after := #[{ on := 8, ground := Go.Ground.data }, { on := 10, ground := Go.Ground.chain }, { on := 0, ground := Go.Ground.phase }, { on := 1, ground := Go.Ground.phase }, { on := 2, ground := Go.Ground.phase }, { on := 3, ground := Go.Ground.phase }, { on := 4, ground := Go.Ground.phase }, { on := 5, ground := Go.Ground.phase }, { on := 6, ground := Go.Ground.phase }, { on := 7, ground := Go.Ground.phase }, { on := 8, ground := Go.Ground.phase }, { on := 9, ground := Go.Ground.phase }, { on := 10, ground := Go.Ground.phase }], guard := none }) (v := ?_) rfl (by kernel_rfl) (by kernel_rfl) (by kernel_rfl) (by kernel_rfl) (fun _ _ _ h => h) (Or.inl ⟨by rfl, ?_⟩) (fun h => Bool.noConfusion ((show _ = true from by kernel_rfl).symm.trans h)) ?_
            rotate_left
            · intro w7 hSw
              first | (go_simp; done) | (go_simp; with_reducible rfl)
            try simp only [Act.put, List.setIfInBounds_toArray, List.set_cons_zero, List.set_cons_succ]
            refine AnyU.done (by kernel_rfl) ?_ _
            obtain ⟨v5, HV5⟩ : ∃ v5 : Value, Hid (v5 = .slice a5 L'.length c5) := ⟨_, show _ = _ from rfl⟩
            rw [← HV5.out] at r5 ⊢
            have HP2 : Hid (Ply w A B bs (vs.set n v5) Ls (Ls.set n L') (w5.setCell ⟨B, n, none⟩ v5)) := (HP1.out.keep0 ((Keep.refl [] _).drew.trans' k5)).lay n hn3 v5 L' r5
            have k52 : Keep [B] W1 (w5.setCell ⟨B, n, none⟩ v5) := (((Keep.refl [] _).drew.trans' k5).mono (by simp)).setCell (.inl (by simp)) v5
            have y0 := k52.cell' x0 (by simpa using HXB.out)
            have y1 := k52.cell' x1 (by simpa using HXB.out)
            have ha2 := HP2.out.cellA n hn3
            have hS2 := HP2.out.s n hn3
            rw [HGA.out] at ha2 hS2
            rw [HGL0.out] at hS2
            have HSh2 : Hid (Sh (w5.setCell ⟨B, n, none⟩ v5) bn 10 L) := hS2
            clear hS2 k52 r5 k5 x0 x1 hb1 hfr HRd HSh HP1
            have HK2 := HP2.out.kp
            generalize w5.setCell ⟨B, n, none⟩ v5 = W2 at *
            have HAft : Hid (∀ w9, Keep [bn] W2.drew w9 → Cs [(⟨A, n, none⟩, vA bn), (⟨X, 0, none⟩, .int .i64 x.k), (⟨X, 1, none⟩, .int .i64 x.m)] w w9) := fun w9 kk => by
              have hc := Cs.drew (l := [(⟨A, n, none⟩, vA bn), (⟨X, 0, none⟩, .int .i64 x.k), (⟨X, 1, none⟩, .int .i64 x.m)]) ⟨ha2, y0, y1, HK2⟩
              exact ⟨kk.cell' hc.1 (by simpa using HNe.out.1), kk.cell' hc.2.1 (by simpa using HNe.out.2.1), kk.cell' hc.2.2.1 (by simpa using HNe.out.2.1), hc.2.2.2.out.more kk (fun y hy => .inr (by rw [List.mem_singleton] at hy; have := HNe.out.2.2; omega))⟩
            have HBC : Cs [(⟨A, n, none⟩, vA bn), (⟨X, 0, none⟩, .int .i64 x.k), (⟨X, 1, none⟩, .int .i64 x.m)] w W2 := ⟨ha2, y0, y1, HK2⟩
            clear HK2 ha2 y0 y1
            go_wp2_with fail
            go_region_held3 (fun w' => w'.cell? ⟨A, n, none⟩ = some (vA bn) ∧ w'.cell? ⟨X, 0, none⟩ = some (.int .i64 x.k) ∧ w'.cell? ⟨X, 1, none⟩ = some (.int .i64 x.m) ∧ Hid (Keep [] w w'))
              (first | assumption | exact Cs.drew (l := [(⟨A, n, none⟩, vA bn), (⟨X, 0, none⟩, .int .i64 x.k), (⟨X, 1, none⟩, .int .i64 x.m)]) HBC | exact Cs.base (l := [(⟨A, n, none⟩, vA bn), (⟨X, 0, none⟩, .int .i64 x.k), (⟨X, 1, none⟩, .int .i64 x.m)]) HBC ((Keep.refl [] _).drew) | exact HAft.out _ k6 )
              (first | (go_at_call 13; refine (HSo.out _ (HSh2.out.keep0 ((Keep.refl [] _).drew))).mono ?_; clear HSo; rintro e w6 ⟨rfl, s6, k6⟩))
            have HP3 : Hid (Ply w A B bs (vs.set n v5) (Ls.set n L') (Ls.set n L') w6) := (HP2.out.keep0 ((Keep.refl [] _).drew)).act n hn3 (by rw [HGA.out]; exact k6) L' (by rw [HGA.out]; exact s6)
            have HPJ : Hid (PJ w A B (i + 1) w6) := PJ.step HP3.out hn3 HLen.out HL'l.out
            have HGL : Hid ((Ls.set n L').getD n [] = L') := by show _ = _; rw [getD_set _ _ _ _ _ (by have := HP2.out.nL; omega), if_pos rfl]
            try (rename_i hq; clear hq)
            clear HP2 HBC HSh2 s6 k6
            generalize w6 = W3 at *
            obtain ⟨ae, ce, hve, _, _⟩ := ((HP3.out.l n hn3).rd encP_len).form
            have hSe := HP3.out.s n hn3
            have hae := HP3.out.cellA n hn3
            have hbe := HP3.out.cellB n hn3
            rw [hve] at hbe
            rw [HGA.out] at hae hSe
            rw [HGL.out] at hbe hSe
            clear hve
            have HSe : Hid (Sh W3 bn 10 L') := hSe
            clear hSe
            go_wp2_with fail
            go_region_held3 (fun w' => w'.cell? ⟨A, n, none⟩ = some (vA bn) ∧ w'.cell? ⟨B, n, none⟩ = some (.slice ae L'.length ce) ∧ Hid (Keep [] W3 w'))
              (first | assumption | exact ⟨hae, hbe, (Keep.refl [] _).drew⟩)
              (first | (go_at_call 19; refine (HLe.out bn L' _ (HSe.out.keep0 (by first | exact (Keep.refl [] _).drew | (rename_i hq; exact hq.2.2.out)))).mono ?_; rintro e w8 ⟨rfl, rfl⟩))
            go_wp2
            go_roundw
            case rel =>
              repeat apply Exists.intro
              refine ⟨⟨i + 1, ?_, by omega, HPJ.out.keep ((Keep.refl [] _).drew)⟩, rfl⟩
              simp
            case measure => simp [intOf]; omega
          · rw [hz]
            clear hz HOk g0 g1 g2 g3 HRw
            clear ha1
            obtain ⟨d, HD⟩ : ∃ d : Bool, Hid (d = (lk L x.k).isSome) := ⟨_, show _ = _ from rfl⟩
            obtain ⟨L', HL'⟩ : ∃ L' : List Pr, Hid (L' = putL L x) := ⟨_, show _ = _ from rfl⟩
            have HL'l : Hid (L'.length ≤ i + 1) := by
              show _ ≤ _
              rw [HL'.out]
              have h1 := HLl.out
              have h2 := put_len L x
              omega
            have HDo : Hid (∀ w9, Keep [] W1 w9 → Calls Try.prog 12 #[.slice ao L.length cap, vP x, .bool true] w9 fun e w' => ∃ a5 c5, e = .returned (.tuple #[.slice a5 L'.length c5, .bool d]) ∧ Rw 29 encP 2 w' (.slice a5 L'.length c5) L' ∧ Keep [] w9 w') := fun w9 kk => by
              rw [HD.out, HL'.out]
              refine (rPut_any _ L x true w9 (HRd.out.keep kk (Off.nil _)) HSh.out.ris (by have := HLl.out; have := HB.out.1; omega)).mono ?_
              rintro e w' ⟨v', he, hr, hk⟩
              obtain ⟨a5, c5, rfl, _, _⟩ := (hr.rd encP_len).form
              exact ⟨a5, c5, he, hr, hk⟩
            have HSo : Hid (∀ w9, Sh w9 bn 10 L → Calls Try.prog 14 #[vA bn, vP x] w9 fun e w' => e = .returned (.bool d) ∧ Sh w' bn 10 L' ∧ Keep [bn] w9 w') := fun w9 hs => by
              rw [HD.out, HL'.out]
              skip
              exact put_any bn 10 L x w9 hs (by have := HLl.out; have := HB.out.1; omega)
            clear HD HL'
            go_wp2_with fail
            refine wp_region_until 10 (S := (fun w' : World => w'.cell? ⟨B, n, none⟩ = some (.slice ao L.length cap) ∧ w'.cell? ⟨X, 0, none⟩ = some (.int .i64 x.k) ∧ w'.cell? ⟨X, 1, none⟩ = some (.int .i64 x.m))) (by kernel_rfl) (⟨hb1, x0, x1⟩) (fun hHeld => ?_)
            try dsimp only at hHeld
            refine AnyU.takeP (i := 0) (oi := { dst := some 81, op := Go.Op.move (Go.Operand.tmp 7), type := 3, pos := "law.go:72", after := #[], guard := none }) (v := ?_) rfl (by kernel_rfl) (by kernel_rfl) (by kernel_rfl) (by kernel_rfl) (fun _ _ _ h => h) (Or.inl ⟨by rfl, ?_⟩) (fun _ => by assumption) ?_
            rotate_left
            · intro w7 hSw
              first | (go_simp; done) | (go_simp; with_reducible rfl)
            try simp only [Act.put, List.setIfInBounds_toArray, List.set_cons_zero, List.set_cons_succ]
            refine AnyU.takeP (i := 1) (oi := { dst := some 82, op := Go.Op.move (Go.Operand.tmp 7), type := 3, pos := "law.go:72", after := #[], guard := none }) (v := ?_) rfl (by kernel_rfl) (by kernel_rfl) (by kernel_rfl) (by kernel_rfl) (fun _ _ _ h => h) (Or.inl ⟨by rfl, ?_⟩) (fun _ => by assumption) ?_
            rotate_left
            · intro w7 hSw
              first | (go_simp; done) | (go_simp; with_reducible rfl)
            try simp only [Act.put, List.setIfInBounds_toArray, List.set_cons_zero, List.set_cons_succ]
            refine AnyU.takeP (i := 2) (oi := { dst := some 83, op := Go.Op.indexAddr 26 (Go.Operand.tmp 4) (Go.Operand.tmp 82), type := 0, pos := "law.go:72", after := #[{ on := 1, ground := Go.Ground.data }], guard := none }) (v := ?_) rfl (by kernel_rfl) (by kernel_rfl) (by kernel_rfl) (by kernel_rfl) (fun _ _ _ h => h) (Or.inl ⟨by rfl, ?_⟩) (fun _ => by assumption) ?_
            rotate_left
            · intro w7 hSw
              first | (go_simp; done) | (go_simp; with_reducible rfl)
            try simp only [Act.put, List.setIfInBounds_toArray, List.set_cons_zero, List.set_cons_succ]
            refine AnyU.take (i := 3) (oi := { dst := some 84, op := Go.Op.load 25 (Go.Operand.tmp 83), type := 25, pos := "law.go:72", after := #[{ on := 2, ground := Go.Ground.data }], guard := none }) (v := ?_) rfl (by kernel_rfl) (by kernel_rfl) (by kernel_rfl) (by kernel_rfl) (fun _ _ _ h => h) (Or.inl ⟨by rfl, ?_⟩) (by assumption) ?_
            rotate_left
            · intro w7 hSw
              try dsimp only at hSw
              first | (go_simp; done) | (go_simp; with_reducible rfl)
            try simp only [Act.put, List.setIfInBounds_toArray, List.set_cons_zero, List.set_cons_succ]
            refine AnyU.take (i := 4) (oi := { dst := some 85, op := Go.Op.load 29 (Go.Operand.tmp 8), type := 29, pos := "law.go:72", after := #[], guard := none }) (v := ?_) rfl (by kernel_rfl) (by kernel_rfl) (by kernel_rfl) (by kernel_rfl) (fun _ _ _ h => h) (Or.inl ⟨by rfl, ?_⟩) (by assumption) ?_
            rotate_left
            · intro w7 hSw
              try dsimp only at hSw
              first | (go_simp; done) | (go_simp; with_reducible rfl)
            try simp only [Act.put, List.setIfInBounds_toArray, List.set_cons_zero, List.set_cons_succ]
            refine AnyU.one (i := 5) (o := { dst := some 86, op := Go.Op.call { callee := Go.Callee.value (Go.Operand.func 12), args := #[Go.Operand.tmp 84, Go.Operand.tmp 85, Go.Operand.const (Go.Value.bool true)], argTypes := #[25, 29, 4] }, type := 34, pos := "law.go:72", after := #[{ on := 3, ground := Go.Ground.data }, { on := 4, ground := Go.Ground.data }], guard := none }) (by kernel_rfl) rfl (fun K hK => ?_)
            go_simp
            refine (HDo.out _ (Keep.refl [] _).drew).mono ?_; clear HDo; rintro e w5 ⟨a5, c5, rfl, r5, k5⟩
            go_wp2_with fail
            refine hK.out _ _ (fun _ => ⟨k5.cell' hHeld.1 (by simp), k5.cell' hHeld.2.1 (by simp), k5.cell' hHeld.2.2 (by simp)⟩) (fun hHeld2 => ?_)
            have hHeld3 := hHeld2 (by kernel_rfl)
            try dsimp only at hHeld3
            clear hK hHeld hHeld2
            have hHeld := hHeld3
            clear hHeld3
            try simp only [Act.put, List.setIfInBounds_toArray, List.set_cons_zero, List.set_cons_succ]
            refine AnyU.takeP (i := 6) (oi := { dst := some 80, op := Go.Op.move (Go.Operand.tmp 86), type := 34, pos := "law.go:72", after := #[{ on := 5, ground := Go.Ground.data }], guard := none }) (v := ?_) rfl (by kernel_rfl) (by kernel_rfl) (by kernel_rfl) (by kernel_rfl) (fun _ _ _ h => h) (Or.inl ⟨by rfl, ?_⟩) (fun _ => by assumption) ?_
            rotate_left
            · intro w7 hSw
              first | (go_simp; done) | (go_simp; with_reducible rfl)
            try simp only [Act.put, List.setIfInBounds_toArray, List.set_cons_zero, List.set_cons_succ]
            refine AnyU.takeP (i := 7) (oi := { dst := some 87, op := Go.Op.extract (Go.Operand.tmp 80) 0, type := 25, pos := "law.go:72", after := #[{ on := 6, ground := Go.Ground.data }], guard := none }) (v := ?_) rfl (by kernel_rfl) (by kernel_rfl) (by kernel_rfl) (by kernel_rfl) (fun _ _ _ h => h) (Or.inl ⟨by rfl, ?_⟩) (fun _ => by assumption) ?_
            rotate_left
            · intro w7 hSw
              first | (go_simp; done) | (go_simp; with_reducible rfl)
            try simp only [Act.put, List.setIfInBounds_toArray, List.set_cons_zero, List.set_cons_succ]
            refine AnyU.takeP (i := 8) (oi := { dst := some 88, op := Go.Op.extract (Go.Operand.tmp 80) 1, type := 4, pos := "law.go:72", after := #[{ on := 6, ground := Go.Ground.data }, { on := 10, ground := Go.Ground.gcOnly Go.Departure.lateStores }], guard := none }) (v := ?_) rfl (by kernel_rfl) (by kernel_rfl) (by kernel_rfl) (by kernel_rfl) (fun _ _ _ h => h) (Or.inl ⟨by rfl, ?_⟩) (fun _ => by assumption) ?_
            rotate_left
            · intro w7 hSw
              first | (go_simp; done) | (go_simp; with_reducible rfl)
            try simp only [Act.put, List.setIfInBounds_toArray, List.set_cons_zero, List.set_cons_succ]
            refine AnyU.takeP (i := 9) (oi := { dst := some 89, op := Go.Op.indexAddr 26 (Go.Operand.tmp 4) (Go.Operand.tmp 81), type := 0, pos := "law.go:72", after := #[{ on := 0, ground := Go.Ground.data }, { on := 0, ground := Go.Ground.phase }, { on := 1, ground := Go.Ground.phase }, { on := 2, ground := Go.Ground.phase }, { on := 3, ground := Go.Ground.phase }, { on := 4, ground := Go.Ground.phase }, { on := 5, ground := Go.Ground.phase }, { on := 6, ground := Go.Ground.phase }, { on := 7, ground := Go.Ground.phase }, { on := 8, ground := Go.Ground.textOnly Go.Departure.lateStores }], guard := none }) (v := ?_) rfl (by kernel_rfl) (by kernel_rfl) (by kernel_rfl) (by kernel_rfl) (fun _ _ _ h => h) (Or.inl ⟨by rfl, ?_⟩) (fun _ => by assumption) ?_
            rotate_left
            · intro w7 hSw
              first | (go_simp; done) | (go_simp; with_reducible rfl)
            try simp only [Act.put, List.setIfInBounds_toArray, List.set_cons_zero, List.set_cons_succ]
            have hfr : w5.frozen? ⟨B, n, none⟩ = false := (HP1.out.keep0 ((Keep.refl [] _).drew.trans' k5)).freeB n
            refine AnyU.one (i := 10) (o := { dst := none, op := Go.Op.store 25 (Go.Operand.tmp 89) (Go.Operand.tmp 87), type := 0, pos := "law.go:72", after := #[{ on := 9, ground := Go.Ground.data }, { on := 7, ground := Go.Ground.data }, { on := 5, ground := Go.Ground.chain }, { on := 0, ground := Go.Ground.phase }, { on := 1, ground := Go.Ground.phase }, { on := 2, ground := Go.Ground.phase }, { on := 3, ground := Go.Ground.phase }, { on := 4, ground := Go.Ground.phase }, { on := 5, ground := Go.Ground.phase }, { on := 6, ground := Go.Ground.phase }, { on := 7, ground := Go.Ground.phase }, { on := 8, ground := Go.Ground.textOnly Go.Departure.lateStores }], guard := none }) (by kernel_rfl) rfl (fun K hK => ?_)
            go_simp
            refine hK.out _ _ (fun h => Bool.noConfusion ((show _ = true from by kernel_rfl).symm.trans h)) (fun _ => ?_)
            clear hK hHeld
            try simp only [Act.put, List.setIfInBounds_toArray, List.set_cons_zero, List.set_cons_succ]
            refine AnyU.takeP (i := 11) (oi := { dst := some 10, op := Go.Op.assign (Go.Operand.tmp 88), type := 4, pos := "law.go:72", after := #[{ on := 8, ground := Go.Ground.data }, { on := 10, ground := Go.Ground.chain }, { on := 0, ground := Go.Ground.phase }, { on := 1, ground := Go.Ground.phase }, { on := 2, ground := Go.Ground.phase }, { on := 3, ground := Go.Ground.phase }, { on := 4, ground := Go.Ground.phase }, { on := 5, ground := Go.Ground.phase }, { on := 6, ground := Go.Ground.phase }, { on := 7, ground := Go.Ground.phase }, { on := 8, ground := Go.Ground.phase }, { on := 9, ground := Go.Ground.phase }, { on := 10, ground := Go.Ground.phase }], guard := none }) (v := ?_) rfl (by kernel_rfl) (by kernel_rfl) (by kernel_rfl) (by kernel_rfl) (fun _ _ _ h => h) (Or.inl ⟨by rfl, ?_⟩) (fun h => Bool.noConfusion ((show _ = true from by kernel_rfl).symm.trans h)) ?_
            rotate_left
            · intro w7 hSw
              first | (go_simp; done) | (go_simp; with_reducible rfl)
            try simp only [Act.put, List.setIfInBounds_toArray, List.set_cons_zero, List.set_cons_succ]
            refine AnyU.done (by kernel_rfl) ?_ _
            obtain ⟨v5, HV5⟩ : ∃ v5 : Value, Hid (v5 = .slice a5 L'.length c5) := ⟨_, show _ = _ from rfl⟩
            rw [← HV5.out] at r5 ⊢
            have HP2 : Hid (Ply w A B bs (vs.set n v5) Ls (Ls.set n L') (w5.setCell ⟨B, n, none⟩ v5)) := (HP1.out.keep0 ((Keep.refl [] _).drew.trans' k5)).lay n hn3 v5 L' r5
            have k52 : Keep [B] W1 (w5.setCell ⟨B, n, none⟩ v5) := (((Keep.refl [] _).drew.trans' k5).mono (by simp)).setCell (.inl (by simp)) v5
            have y0 := k52.cell' x0 (by simpa using HXB.out)
            have y1 := k52.cell' x1 (by simpa using HXB.out)
            have ha2 := HP2.out.cellA n hn3
            have hS2 := HP2.out.s n hn3
            rw [HGA.out] at ha2 hS2
            rw [HGL0.out] at hS2
            have HSh2 : Hid (Sh (w5.setCell ⟨B, n, none⟩ v5) bn 10 L) := hS2
            clear hS2 k52 r5 k5 x0 x1 hb1 hfr HRd HSh HP1
            have HK2 := HP2.out.kp
            generalize w5.setCell ⟨B, n, none⟩ v5 = W2 at *
            have HAft : Hid (∀ w9, Keep [bn] W2.drew w9 → Cs [(⟨A, n, none⟩, vA bn), (⟨X, 0, none⟩, .int .i64 x.k), (⟨X, 1, none⟩, .int .i64 x.m)] w w9) := fun w9 kk => by
              have hc := Cs.drew (l := [(⟨A, n, none⟩, vA bn), (⟨X, 0, none⟩, .int .i64 x.k), (⟨X, 1, none⟩, .int .i64 x.m)]) ⟨ha2, y0, y1, HK2⟩
              exact ⟨kk.cell' hc.1 (by simpa using HNe.out.1), kk.cell' hc.2.1 (by simpa using HNe.out.2.1), kk.cell' hc.2.2.1 (by simpa using HNe.out.2.1), hc.2.2.2.out.more kk (fun y hy => .inr (by rw [List.mem_singleton] at hy; have := HNe.out.2.2; omega))⟩
            have HBC : Cs [(⟨A, n, none⟩, vA bn), (⟨X, 0, none⟩, .int .i64 x.k), (⟨X, 1, none⟩, .int .i64 x.m)] w W2 := ⟨ha2, y0, y1, HK2⟩
            clear HK2 ha2 y0 y1
            go_wp2_with fail
            go_region_held3 (fun w' => w'.cell? ⟨A, n, none⟩ = some (vA bn) ∧ w'.cell? ⟨X, 0, none⟩ = some (.int .i64 x.k) ∧ w'.cell? ⟨X, 1, none⟩ = some (.int .i64 x.m) ∧ Hid (Keep [] w w'))
              (first | assumption | exact Cs.drew (l := [(⟨A, n, none⟩, vA bn), (⟨X, 0, none⟩, .int .i64 x.k), (⟨X, 1, none⟩, .int .i64 x.m)]) HBC | exact Cs.base (l := [(⟨A, n, none⟩, vA bn), (⟨X, 0, none⟩, .int .i64 x.k), (⟨X, 1, none⟩, .int .i64 x.m)]) HBC ((Keep.refl [] _).drew) | exact HAft.out _ k6 )
              (first | (go_at_call 14; refine (HSo.out _ (HSh2.out.keep0 ((Keep.refl [] _).drew))).mono ?_; clear HSo; rintro e w6 ⟨rfl, s6, k6⟩))
            have HP3 : Hid (Ply w A B bs (vs.set n v5) (Ls.set n L') (Ls.set n L') w6) := (HP2.out.keep0 ((Keep.refl [] _).drew)).act n hn3 (by rw [HGA.out]; exact k6) L' (by rw [HGA.out]; exact s6)
            have HPJ : Hid (PJ w A B (i + 1) w6) := PJ.step HP3.out hn3 HLen.out HL'l.out
            have HGL : Hid ((Ls.set n L').getD n [] = L') := by show _ = _; rw [getD_set _ _ _ _ _ (by have := HP2.out.nL; omega), if_pos rfl]
            try (rename_i hq; clear hq)
            clear HP2 HBC HSh2 s6 k6
            generalize w6 = W3 at *
            obtain ⟨ae, ce, hve, _, _⟩ := ((HP3.out.l n hn3).rd encP_len).form
            have hSe := HP3.out.s n hn3
            have hae := HP3.out.cellA n hn3
            have hbe := HP3.out.cellB n hn3
            rw [hve] at hbe
            rw [HGA.out] at hae hSe
            rw [HGL.out] at hbe hSe
            clear hve
            have HSe : Hid (Sh W3 bn 10 L') := hSe
            clear hSe
            go_wp2_with fail
            go_region_held3 (fun w' => w'.cell? ⟨A, n, none⟩ = some (vA bn) ∧ w'.cell? ⟨B, n, none⟩ = some (.slice ae L'.length ce) ∧ Hid (Keep [] W3 w'))
              (first | assumption | exact ⟨hae, hbe, (Keep.refl [] _).drew⟩)
              (first | (go_at_call 19; refine (HLe.out bn L' _ (HSe.out.keep0 (by first | exact (Keep.refl [] _).drew | (rename_i hq; exact hq.2.2.out)))).mono ?_; rintro e w8 ⟨rfl, rfl⟩))
            go_wp2
            go_roundw
            case rel =>
              repeat apply Exists.intro
              refine ⟨⟨i + 1, ?_, by omega, HPJ.out.keep ((Keep.refl [] _).drew)⟩, rfl⟩
              simp
            case measure => simp [intOf]; omega
          · rw [hz]
            clear hz HOk g0 g1 g2 g3 HRw
            clear ha1
            obtain ⟨d, HD⟩ : ∃ d : Bool, Hid (d = (lk L x.k).isSome) := ⟨_, show _ = _ from rfl⟩
            obtain ⟨L', HL'⟩ : ∃ L' : List Pr, Hid (L' = remL L x) := ⟨_, show _ = _ from rfl⟩
            have HL'l : Hid (L'.length ≤ i + 1) := by
              show _ ≤ _
              rw [HL'.out]
              have h1 := HLl.out
              have h2 := rem_len L x
              omega
            have HDo : Hid (∀ w9, Keep [] W1 w9 → Calls Try.prog 15 #[.slice ao L.length cap, vP x] w9 fun e w' => ∃ a5 c5, e = .returned (.tuple #[.slice a5 L'.length c5, .bool d]) ∧ Rw 29 encP 2 w' (.slice a5 L'.length c5) L' ∧ Keep [] w9 w') := fun w9 kk => by
              rw [HD.out, HL'.out]
              refine (rRemove_any _ L x w9 (HRd.out.keep kk (Off.nil _)) HSh.out.ris (by have := HLl.out; have := HB.out.1; omega)).mono ?_
              rintro e w' ⟨v', he, hr, hk⟩
              obtain ⟨a5, c5, rfl, _, _⟩ := (hr.rd encP_len).form
              exact ⟨a5, c5, he, hr, hk⟩
            have HSo : Hid (∀ w9, Sh w9 bn 10 L → Calls Try.prog 16 #[vA bn, vP x] w9 fun e w' => e = .returned (.bool d) ∧ Sh w' bn 10 L' ∧ Keep [bn] w9 w') := fun w9 hs => by
              rw [HD.out, HL'.out]
              skip
              exact rem_any bn 10 L x w9 hs (by have := HLl.out; have := HB.out.1; omega)
            clear HD HL'
            go_wp2_with fail
            refine wp_region_until 10 (S := (fun w' : World => w'.cell? ⟨B, n, none⟩ = some (.slice ao L.length cap) ∧ w'.cell? ⟨X, 0, none⟩ = some (.int .i64 x.k) ∧ w'.cell? ⟨X, 1, none⟩ = some (.int .i64 x.m))) (by kernel_rfl) (⟨hb1, x0, x1⟩) (fun hHeld => ?_)
            try dsimp only at hHeld
            refine AnyU.takeP (i := 0) (oi := { dst := some 100, op := Go.Op.move (Go.Operand.tmp 7), type := 3, pos := "law.go:75", after := #[], guard := none }) (v := ?_) rfl (by kernel_rfl) (by kernel_rfl) (by kernel_rfl) (by kernel_rfl) (fun _ _ _ h => h) (Or.inl ⟨by rfl, ?_⟩) (fun _ => by assumption) ?_
            rotate_left
            · intro w7 hSw
              first | (go_simp; done) | (go_simp; with_reducible rfl)
            try simp only [Act.put, List.setIfInBounds_toArray, List.set_cons_zero, List.set_cons_succ]
            refine AnyU.takeP (i := 1) (oi := { dst := some 101, op := Go.Op.move (Go.Operand.tmp 7), type := 3, pos := "law.go:75", after := #[], guard := none }) (v := ?_) rfl (by kernel_rfl) (by kernel_rfl) (by kernel_rfl) (by kernel_rfl) (fun _ _ _ h => h) (Or.inl ⟨by rfl, ?_⟩) (fun _ => by assumption) ?_
            rotate_left
            · intro w7 hSw
              first | (go_simp; done) | (go_simp; with_reducible rfl)
            try simp only [Act.put, List.setIfInBounds_toArray, List.set_cons_zero, List.set_cons_succ]
            refine AnyU.takeP (i := 2) (oi := { dst := some 102, op := Go.Op.indexAddr 26 (Go.Operand.tmp 4) (Go.Operand.tmp 101), type := 0, pos := "law.go:75", after := #[{ on := 1, ground := Go.Ground.data }], guard := none }) (v := ?_) rfl (by kernel_rfl) (by kernel_rfl) (by kernel_rfl) (by kernel_rfl) (fun _ _ _ h => h) (Or.inl ⟨by rfl, ?_⟩) (fun _ => by assumption) ?_
            rotate_left
            · intro w7 hSw
              first | (go_simp; done) | (go_simp; with_reducible rfl)
            try simp only [Act.put, List.setIfInBounds_toArray, List.set_cons_zero, List.set_cons_succ]
            refine AnyU.take (i := 3) (oi := { dst := some 103, op := Go.Op.load 25 (Go.Operand.tmp 102), type := 25, pos := "law.go:75", after := #[{ on := 2, ground := Go.Ground.data }], guard := none }) (v := ?_) rfl (by kernel_rfl) (by kernel_rfl) (by kernel_rfl) (by kernel_rfl) (fun _ _ _ h => h) (Or.inl ⟨by rfl, ?_⟩) (by assumption) ?_
            rotate_left
            · intro w7 hSw
              try dsimp only at hSw
              first | (go_simp; done) | (go_simp; with_reducible rfl)
            try simp only [Act.put, List.setIfInBounds_toArray, List.set_cons_zero, List.set_cons_succ]
            refine AnyU.take (i := 4) (oi := { dst := some 104, op := Go.Op.load 29 (Go.Operand.tmp 8), type := 29, pos := "law.go:75", after := #[], guard := none }) (v := ?_) rfl (by kernel_rfl) (by kernel_rfl) (by kernel_rfl) (by kernel_rfl) (fun _ _ _ h => h) (Or.inl ⟨by rfl, ?_⟩) (by assumption) ?_
            rotate_left
            · intro w7 hSw
              try dsimp only at hSw
              first | (go_simp; done) | (go_simp; with_reducible rfl)
            try simp only [Act.put, List.setIfInBounds_toArray, List.set_cons_zero, List.set_cons_succ]
            refine AnyU.one (i := 5) (o := { dst := some 105, op := Go.Op.call { callee := Go.Callee.value (Go.Operand.func 15), args := #[Go.Operand.tmp 103, Go.Operand.tmp 104], argTypes := #[25, 29] }, type := 34, pos := "law.go:75", after := #[{ on := 3, ground := Go.Ground.data }, { on := 4, ground := Go.Ground.data }], guard := none }) (by kernel_rfl) rfl (fun K hK => ?_)
            go_simp
            refine (HDo.out _ (Keep.refl [] _).drew).mono ?_; clear HDo; rintro e w5 ⟨a5, c5, rfl, r5, k5⟩
            go_wp2_with fail
            refine hK.out _ _ (fun _ => ⟨k5.cell' hHeld.1 (by simp), k5.cell' hHeld.2.1 (by simp), k5.cell' hHeld.2.2 (by simp)⟩) (fun hHeld2 => ?_)
            have hHeld3 := hHeld2 (by kernel_rfl)
            try dsimp only at hHeld3
            clear hK hHeld hHeld2
            have hHeld := hHeld3
            clear hHeld3
            try simp only [Act.put, List.setIfInBounds_toArray, List.set_cons_zero, List.set_cons_succ]
            refine AnyU.takeP (i := 6) (oi := { dst := some 99, op := Go.Op.move (Go.Operand.tmp 105), type := 34, pos := "law.go:75", after := #[{ on := 5, ground := Go.Ground.data }], guard := none }) (v := ?_) rfl (by kernel_rfl) (by kernel_rfl) (by kernel_rfl) (by kernel_rfl) (fun _ _ _ h => h) (Or.inl ⟨by rfl, ?_⟩) (fun _ => by assumption) ?_
            rotate_left
            · intro w7 hSw
              first | (go_simp; done) | (go_simp; with_reducible rfl)
            try simp only [Act.put, List.setIfInBounds_toArray, List.set_cons_zero, List.set_cons_succ]
            refine AnyU.takeP (i := 7) (oi := { dst := some 106, op := Go.Op.extract (Go.Operand.tmp 99) 0, type := 25, pos := "law.go:75", after := #[{ on := 6, ground := Go.Ground.data }], guard := none }) (v := ?_) rfl (by kernel_rfl) (by kernel_rfl) (by kernel_rfl) (by kernel_rfl) (fun _ _ _ h => h) (Or.inl ⟨by rfl, ?_⟩) (fun _ => by assumption) ?_
            rotate_left
            · intro w7 hSw
              first | (go_simp; done) | (go_simp; with_reducible rfl)
            try simp only [Act.put, List.setIfInBounds_toArray, List.set_cons_zero, List.set_cons_succ]
            refine AnyU.takeP (i := 8) (oi := { dst := some 107, op := Go.Op.extract (Go.Operand.tmp 99) 1, type := 4, pos := "law.go:75", after := #[{ on := 6, ground := Go.Ground.data }, { on := 10, ground := Go.Ground.gcOnly Go.Departure.lateStores }], guard := none }) (v := ?_) rfl (by kernel_rfl) (by kernel_rfl) (by kernel_rfl) (by kernel_rfl) (fun _ _ _ h => h) (Or.inl ⟨by rfl, ?_⟩) (fun _ => by assumption) ?_
            rotate_left
            · intro w7 hSw
              first | (go_simp; done) | (go_simp; with_reducible rfl)
            try simp only [Act.put, List.setIfInBounds_toArray, List.set_cons_zero, List.set_cons_succ]
            refine AnyU.takeP (i := 9) (oi := { dst := some 108, op := Go.Op.indexAddr 26 (Go.Operand.tmp 4) (Go.Operand.tmp 100), type := 0, pos := "law.go:75", after := #[{ on := 0, ground := Go.Ground.data }, { on := 0, ground := Go.Ground.phase }, { on := 1, ground := Go.Ground.phase }, { on := 2, ground := Go.Ground.phase }, { on := 3, ground := Go.Ground.phase }, { on := 4, ground := Go.Ground.phase }, { on := 5, ground := Go.Ground.phase }, { on := 6, ground := Go.Ground.phase }, { on := 7, ground := Go.Ground.phase }, { on := 8, ground := Go.Ground.textOnly Go.Departure.lateStores }], guard := none }) (v := ?_) rfl (by kernel_rfl) (by kernel_rfl) (by kernel_rfl) (by kernel_rfl) (fun _ _ _ h => h) (Or.inl ⟨by rfl, ?_⟩) (fun _ => by assumption) ?_
            rotate_left
            · intro w7 hSw
              first | (go_simp; done) | (go_simp; with_reducible rfl)
            try simp only [Act.put, List.setIfInBounds_toArray, List.set_cons_zero, List.set_cons_succ]
            have hfr : w5.frozen? ⟨B, n, none⟩ = false := (HP1.out.keep0 ((Keep.refl [] _).drew.trans' k5)).freeB n
            refine AnyU.one (i := 10) (o := { dst := none, op := Go.Op.store 25 (Go.Operand.tmp 108) (Go.Operand.tmp 106), type := 0, pos := "law.go:75", after := #[{ on := 9, ground := Go.Ground.data }, { on := 7, ground := Go.Ground.data }, { on := 5, ground := Go.Ground.chain }, { on := 0, ground := Go.Ground.phase }, { on := 1, ground := Go.Ground.phase }, { on := 2, ground := Go.Ground.phase }, { on := 3, ground := Go.Ground.phase }, { on := 4, ground := Go.Ground.phase }, { on := 5, ground := Go.Ground.phase }, { on := 6, ground := Go.Ground.phase }, { on := 7, ground := Go.Ground.phase }, { on := 8, ground := Go.Ground.textOnly Go.Departure.lateStores }], guard := none }) (by kernel_rfl) rfl (fun K hK => ?_)
            go_simp
            refine hK.out _ _ (fun h => Bool.noConfusion ((show _ = true from by kernel_rfl).symm.trans h)) (fun _ => ?_)
            clear hK hHeld
            try simp only [Act.put, List.setIfInBounds_toArray, List.set_cons_zero, List.set_cons_succ]
            refine AnyU.takeP (i := 11) (oi := { dst := some 10, op := Go.Op.assign (Go.Operand.tmp 107), type := 4, pos := "law.go:75", after := #[{ on := 8, ground := Go.Ground.data }, { on := 10, ground := Go.Ground.chain }, { on := 0, ground := Go.Ground.phase }, { on := 1, ground := Go.Ground.phase }, { on := 2, ground := Go.Ground.phase }, { on := 3, ground := Go.Ground.phase }, { on := 4, ground := Go.Ground.phase }, { on := 5, ground := Go.Ground.phase }, { on := 6, ground := Go.Ground.phase }, { on := 7, ground := Go.Ground.phase }, { on := 8, ground := Go.Ground.phase }, { on := 9, ground := Go.Ground.phase }, { on := 10, ground := Go.Ground.phase }], guard := none }) (v := ?_) rfl (by kernel_rfl) (by kernel_rfl) (by kernel_rfl) (by kernel_rfl) (fun _ _ _ h => h) (Or.inl ⟨by rfl, ?_⟩) (fun h => Bool.noConfusion ((show _ = true from by kernel_rfl).symm.trans h)) ?_
            rotate_left
            · intro w7 hSw
              first | (go_simp; done) | (go_simp; with_reducible rfl)
            try simp only [Act.put, List.setIfInBounds_toArray, List.set_cons_zero, List.set_cons_succ]
            refine AnyU.done (by kernel_rfl) ?_ _
            obtain ⟨v5, HV5⟩ : ∃ v5 : Value, Hid (v5 = .slice a5 L'.length c5) := ⟨_, show _ = _ from rfl⟩
            rw [← HV5.out] at r5 ⊢
            have HP2 : Hid (Ply w A B bs (vs.set n v5) Ls (Ls.set n L') (w5.setCell ⟨B, n, none⟩ v5)) := (HP1.out.keep0 ((Keep.refl [] _).drew.trans' k5)).lay n hn3 v5 L' r5
            have k52 : Keep [B] W1 (w5.setCell ⟨B, n, none⟩ v5) := (((Keep.refl [] _).drew.trans' k5).mono (by simp)).setCell (.inl (by simp)) v5
            have y0 := k52.cell' x0 (by simpa using HXB.out)
            have y1 := k52.cell' x1 (by simpa using HXB.out)
            have ha2 := HP2.out.cellA n hn3
            have hS2 := HP2.out.s n hn3
            rw [HGA.out] at ha2 hS2
            rw [HGL0.out] at hS2
            have HSh2 : Hid (Sh (w5.setCell ⟨B, n, none⟩ v5) bn 10 L) := hS2
            clear hS2 k52 r5 k5 x0 x1 hb1 hfr HRd HSh HP1
            have HK2 := HP2.out.kp
            generalize w5.setCell ⟨B, n, none⟩ v5 = W2 at *
            have HAft : Hid (∀ w9, Keep [bn] W2.drew w9 → Cs [(⟨A, n, none⟩, vA bn), (⟨X, 0, none⟩, .int .i64 x.k), (⟨X, 1, none⟩, .int .i64 x.m)] w w9) := fun w9 kk => by
              have hc := Cs.drew (l := [(⟨A, n, none⟩, vA bn), (⟨X, 0, none⟩, .int .i64 x.k), (⟨X, 1, none⟩, .int .i64 x.m)]) ⟨ha2, y0, y1, HK2⟩
              exact ⟨kk.cell' hc.1 (by simpa using HNe.out.1), kk.cell' hc.2.1 (by simpa using HNe.out.2.1), kk.cell' hc.2.2.1 (by simpa using HNe.out.2.1), hc.2.2.2.out.more kk (fun y hy => .inr (by rw [List.mem_singleton] at hy; have := HNe.out.2.2; omega))⟩
            have HBC : Cs [(⟨A, n, none⟩, vA bn), (⟨X, 0, none⟩, .int .i64 x.k), (⟨X, 1, none⟩, .int .i64 x.m)] w W2 := ⟨ha2, y0, y1, HK2⟩
            clear HK2 ha2 y0 y1
            go_wp2_with fail
            go_region_held3 (fun w' => w'.cell? ⟨A, n, none⟩ = some (vA bn) ∧ w'.cell? ⟨X, 0, none⟩ = some (.int .i64 x.k) ∧ w'.cell? ⟨X, 1, none⟩ = some (.int .i64 x.m) ∧ Hid (Keep [] w w'))
              (first | assumption | exact Cs.drew (l := [(⟨A, n, none⟩, vA bn), (⟨X, 0, none⟩, .int .i64 x.k), (⟨X, 1, none⟩, .int .i64 x.m)]) HBC | exact Cs.base (l := [(⟨A, n, none⟩, vA bn), (⟨X, 0, none⟩, .int .i64 x.k), (⟨X, 1, none⟩, .int .i64 x.m)]) HBC ((Keep.refl [] _).drew) | exact HAft.out _ k6 )
              (first | (go_at_call 16; refine (HSo.out _ (HSh2.out.keep0 ((Keep.refl [] _).drew))).mono ?_; clear HSo; rintro e w6 ⟨rfl, s6, k6⟩))
            have HP3 : Hid (Ply w A B bs (vs.set n v5) (Ls.set n L') (Ls.set n L') w6) := (HP2.out.keep0 ((Keep.refl [] _).drew)).act n hn3 (by rw [HGA.out]; exact k6) L' (by rw [HGA.out]; exact s6)
            have HPJ : Hid (PJ w A B (i + 1) w6) := PJ.step HP3.out hn3 HLen.out HL'l.out
            have HGL : Hid ((Ls.set n L').getD n [] = L') := by show _ = _; rw [getD_set _ _ _ _ _ (by have := HP2.out.nL; omega), if_pos rfl]
            try (rename_i hq; clear hq)
            clear HP2 HBC HSh2 s6 k6
            generalize w6 = W3 at *
            obtain ⟨ae, ce, hve, _, _⟩ := ((HP3.out.l n hn3).rd encP_len).form
            have hSe := HP3.out.s n hn3
            have hae := HP3.out.cellA n hn3
            have hbe := HP3.out.cellB n hn3
            rw [hve] at hbe
            rw [HGA.out] at hae hSe
            rw [HGL.out] at hbe hSe
            clear hve
            have HSe : Hid (Sh W3 bn 10 L') := hSe
            clear hSe
            go_wp2_with fail
            go_region_held3 (fun w' => w'.cell? ⟨A, n, none⟩ = some (vA bn) ∧ w'.cell? ⟨B, n, none⟩ = some (.slice ae L'.length ce) ∧ Hid (Keep [] W3 w'))
              (first | assumption | exact ⟨hae, hbe, (Keep.refl [] _).drew⟩)
              (first | (go_at_call 19; refine (HLe.out bn L' _ (HSe.out.keep0 (by first | exact (Keep.refl [] _).drew | (rename_i hq; exact hq.2.2.out)))).mono ?_; rintro e w8 ⟨rfl, rfl⟩))
            go_wp2
            go_roundw
            case rel =>
              repeat apply Exists.intro
              refine ⟨⟨i + 1, ?_, by omega, HPJ.out.keep ((Keep.refl [] _).drew)⟩, rfl⟩
              simp
            case measure => simp [intOf]; omega
          · rw [hz]
            clear hz HOk g0 g1 g2 g3 x0 x1 HXB HRd
            have HFz : Hid (∀ w9, Keep [] W1 w9 → Calls Try.prog 17 #[vA bn] w9 fun e w' => ∃ b', e = .returned (vA b') ∧ Sh w' b' 10 L ∧ Keep [] w9 w' ∧ w9.heap.size ≤ b') := fun w9 kk => freeze_any bn 10 L w9 (HSh.out.keep0 kk)
            obtain ⟨m, HM⟩ : ∃ m : Nat, Hid (m = (n + 1) % 3) := ⟨_, show _ = _ from rfl⟩
            have hm3 : m < 3 := by rw [HM.out]; omega
            have HMn : Hid (m ≠ n) := by show _ ≠ _; rw [HM.out]; omega
            have HMz : Hid (((n : Int) + 1) % 3 = (m : Int)) := by show _ = _; rw [HM.out]; omega
            have hm0 : (0 : Int) ≤ (m : Int) := by omega
            have hmz : (m : Int) < 3 := by omega
            have hmw : IntKind.i64.wrap ((n : Int) + 1) = (n : Int) + 1 := wrap_ok _ (by omega) (by omega)
            have hmt : Int.tmod ((n : Int) + 1) 3 = (m : Int) := by rw [Int.tmod_eq_emod_of_nonneg (by omega)]; exact HMz.out
            clear HM HMz
            go_wp2_with fail
            refine (HFz.out _ (Keep.refl [] _)).mono ?_
            clear HFz
            rintro e w5 ⟨b5, rfl, s5, k5, g5⟩
            have HP5 : Hid (Ply w A B bs vs Ls Ls w5) := HP1.out.keep0 k5
            have HG5 : Hid (∀ i, i < 3 → bs.getD i 0 ≠ b5) := fun i hi e => by have := (HP1.out.s i hi).lt; omega
            have HW5 : Hid (w.heap.size ≤ b5) := Nat.le_trans HP1.out.kp.size g5
            have HR5 : Hid (Rw 29 encP 2 w5 (.slice ao L.length cap) L) := HRw.out.keep k5 (Off.nil _)
            have HS5 : Hid (Sh w5 b5 10 L) := s5
            have HP6 : Hid (Ply w A B (bs.set m b5) vs (Ls.set m L) Ls (w5.setCell ⟨A, m, none⟩ (vA b5))) := HP5.out.put m hm3 b5 L s5 HG5.out HW5.out
            have HR6 : Hid (Rw 29 encP 2 (w5.setCell ⟨A, m, none⟩ (vA b5)) (.slice ao L.length cap) L) := HR5.out.keep (Keep.set1 w5 ⟨A, m, none⟩ (vA b5)) (HR5.out.offBlk HP5.out.a (by decide))
            have HP3 : Hid (Ply w A B (bs.set m b5) (vs.set m (.slice ao L.length cap)) (Ls.set m L) (Ls.set m L) ((w5.setCell ⟨A, m, none⟩ (vA b5)).setCell ⟨B, m, none⟩ (.slice ao L.length cap))) := HP6.out.lay m hm3 _ L HR6.out
            have q1 := HP5.out.cellA m hm3
            have q2 := HP5.out.freeA m
            have q3 : w5.cell? ⟨B, n, none⟩ = some (.slice ao L.length cap) := k5.cell' hb1 (by simp)
            have q4 := HP5.out.cellB m hm3
            have q5 := HP5.out.freeB m
            have hAB : ¬ A = B := HP1.out.neAB
            have hBA : ¬ B = A := fun e => hAB e.symm
            have r1 : (w5.setCell ⟨A, m, none⟩ (vA b5)).cell? ⟨B, n, none⟩ = some (.slice ao L.length cap) := (Keep.set1 w5 ⟨A, m, none⟩ (vA b5)).cell' q3 (by simpa using hBA)
            have r2 := HP6.out.cellB m hm3
            have r3 := HP6.out.freeB m
            have HGA' : Hid ((bs.set m b5).getD n 0 = bn) := by show _ = _; rw [getD_set _ _ _ _ _ (by have := HP1.out.nb; omega), if_neg (fun e => HMn.out e.symm)]; exact HGA.out
            have HGA'' : Hid ((bs.set m b5).getD m 0 = b5) := by show _ = _; rw [getD_set _ _ _ _ _ (by have := HP1.out.nb; omega), if_pos rfl]
            have r4 := HP3.out.cellA m hm3
            rw [HGA''.out] at r4
            have HGL : Hid ((Ls.set m L).getD n [] = L) := by show _ = _; rw [getD_set _ _ _ _ _ (by have := HP1.out.nL; omega), if_neg (fun e => HMn.out e.symm)]; exact HGL0.out
            have HPJ : Hid (PJ w A B (i + 1) ((w5.setCell ⟨A, m, none⟩ (vA b5)).setCell ⟨B, m, none⟩ (.slice ao L.length cap))) := PJ.step HP3.out hm3 HLen.out (by have := HLl.out; omega)
            clear HGA HGA'' HP6 HR6 HR5 HS5 HG5 HW5 HP5 HP1 HRw HSh s5 k5 g5 ha1 hb1
            go_wp2_with fail
            generalize (w5.setCell ⟨A, m, none⟩ (vA b5)).setCell ⟨B, m, none⟩ (.slice ao L.length cap) = W3 at *
            clear q1 q2 q3 q4 q5 r1 r2 r3 r4 hAB hBA hmw hmt
            obtain ⟨ae, ce, hve, _, _⟩ := ((HP3.out.l n hn3).rd encP_len).form
            have hSe := HP3.out.s n hn3
            have hae := HP3.out.cellA n hn3
            have hbe := HP3.out.cellB n hn3
            rw [hve] at hbe
            rw [HGA'.out] at hae hSe
            rw [HGL.out] at hbe hSe
            clear hve
            have HSe : Hid (Sh W3 bn 10 L) := hSe
            clear hSe
            go_wp2_with fail
            go_region_held3 (fun w' => w'.cell? ⟨A, n, none⟩ = some (vA bn) ∧ w'.cell? ⟨B, n, none⟩ = some (.slice ae L.length ce) ∧ Hid (Keep [] W3 w'))
              (first | assumption | exact ⟨hae, hbe, (Keep.refl [] _).drew⟩)
              (first | (go_at_call 19; refine (HLe.out bn L _ (HSe.out.keep0 (by first | exact (Keep.refl [] _).drew | (rename_i hq; exact hq.2.2.out)))).mono ?_; rintro e w8 ⟨rfl, rfl⟩))
            go_wp2
            go_roundw
            case rel =>
              repeat apply Exists.intro
              refine ⟨⟨i + 1, ?_, by omega, HPJ.out.keep ((Keep.refl [] _).drew)⟩, rfl⟩
              simp
            case measure => simp [intOf]; omega
          · have HAs : Hid (∀ w9, Keep [] W1 w9 → Calls Try.prog 18 #[vA bn, .slice ao L.length cap, .agg #[.int .i64 oo_, .int .i64 oc, .int .i64 x.k, .int .i64 x.m]] w9 fun e w' => e = .returned (.bool true) ∧ Keep [] w9 w') := fun w9 kk => asked_any bn _ L ⟨oo_, oc, x⟩ w9 (HSh.out.keep0 kk) (HRd.out.keep kk (Off.nil _)) (by have := HLl.out; have := HB.out.1; omega) HOk.out.2 HOk.out.1 hz
            obtain ⟨z, HZ⟩ : ∃ z : Int, Hid (z = pickZ oc 8) := ⟨_, show _ = _ from rfl⟩
            rw [← HZ.out]
            have z0 : (z == 0) = false := by rw [HZ.out]; simp; omega
            have z1 : (z == 1) = false := by rw [HZ.out]; simp; omega
            have z2 : (z == 2) = false := by rw [HZ.out]; simp; omega
            have z7 : (z == 7) = false := by rw [HZ.out]; simp; omega
            have y0 : ¬ z = 0 := by simpa using z0
            have y1 : ¬ z = 1 := by simpa using z1
            have y2 : ¬ z = 2 := by simpa using z2
            have y7 : ¬ z = 7 := by simpa using z7
            have HBC : Cs [(⟨A, n, none⟩, vA bn), (⟨B, n, none⟩, .slice ao L.length cap), (⟨b, o + i * 4, none⟩, .int .i64 oo_), (⟨b, o + i * 4 + 1, none⟩, .int .i64 oc), (⟨b, o + i * 4 + 2, none⟩, .int .i64 x.k), (⟨b, o + i * 4 + 3, none⟩, .int .i64 x.m)] W1 W1 := ⟨ha1, hb1, g0, g1, g2, g3, Keep.refl _ _⟩
            clear hz HZ x0 x1 HXB HRw HRd ha1 hb1 g0 g1 g2 g3
            go_wp2_with fail
            clear z0 z1 z2 z7 y0 y1 y2 y7
            go_region_held3 (fun w' => w'.cell? ⟨A, n, none⟩ = some (vA bn) ∧ w'.cell? ⟨B, n, none⟩ = some (.slice ao L.length cap) ∧ w'.cell? ⟨b, o + i * 4, none⟩ = some (.int .i64 oo_) ∧ w'.cell? ⟨b, o + i * 4 + 1, none⟩ = some (.int .i64 oc) ∧ w'.cell? ⟨b, o + i * 4 + 2, none⟩ = some (.int .i64 x.k) ∧ w'.cell? ⟨b, o + i * 4 + 3, none⟩ = some (.int .i64 x.m) ∧ Hid (Keep [] W1 w'))
              (first | assumption | exact Cs.drew (l := [(⟨A, n, none⟩, vA bn), (⟨B, n, none⟩, .slice ao L.length cap), (⟨b, o + i * 4, none⟩, .int .i64 oo_), (⟨b, o + i * 4 + 1, none⟩, .int .i64 oc), (⟨b, o + i * 4 + 2, none⟩, .int .i64 x.k), (⟨b, o + i * 4 + 3, none⟩, .int .i64 x.m)]) HBC | exact Cs.alloc (l := [(⟨A, n, none⟩, vA bn), (⟨B, n, none⟩, .slice ao L.length cap), (⟨b, o + i * 4, none⟩, .int .i64 oo_), (⟨b, o + i * 4 + 1, none⟩, .int .i64 oc), (⟨b, o + i * 4 + 2, none⟩, .int .i64 x.k), (⟨b, o + i * 4 + 3, none⟩, .int .i64 x.m)]) _ (by assumption) | exact Cs.more (l := [(⟨A, n, none⟩, vA bn), (⟨B, n, none⟩, .slice ao L.length cap), (⟨b, o + i * 4, none⟩, .int .i64 oo_), (⟨b, o + i * 4 + 1, none⟩, .int .i64 oc), (⟨b, o + i * 4 + 2, none⟩, .int .i64 x.k), (⟨b, o + i * 4 + 3, none⟩, .int .i64 x.m)]) (by assumption) (by assumption))
              (first | (go_at_call 18; refine (HAs.out _ (show Cs [(⟨A, n, none⟩, vA bn), (⟨B, n, none⟩, .slice ao L.length cap), (⟨b, o + i * 4, none⟩, .int .i64 oo_), (⟨b, o + i * 4 + 1, none⟩, .int .i64 oc), (⟨b, o + i * 4 + 2, none⟩, .int .i64 x.k), (⟨b, o + i * 4 + 3, none⟩, .int .i64 x.m)] W1 _ from by assumption).kp).mono ?_; clear HAs; rintro e w6 ⟨rfl, k6⟩))
            have HKK : Hid (Keep [] W1 w6) := (show Cs [(⟨A, n, none⟩, vA bn), (⟨B, n, none⟩, .slice ao L.length cap), (⟨b, o + i * 4, none⟩, .int .i64 oo_), (⟨b, o + i * 4 + 1, none⟩, .int .i64 oc), (⟨b, o + i * 4 + 2, none⟩, .int .i64 x.k), (⟨b, o + i * 4 + 3, none⟩, .int .i64 x.m)] W1 _ from by assumption).kp
            have HP3 : Hid (Ply w A B bs vs Ls Ls w6) := HP1.out.keep0 HKK.out
            have HPJ : Hid (PJ w A B (i + 1) w6) := PJ.up ⟨bs, vs, Ls, HP3.out, HLen.out⟩
            have HGL : Hid (Ls.getD n [] = L) := HGL0.out
            try (rename_i hq; clear hq)
            clear HP1 HBC HSh k6 HKK
            generalize w6 = W3 at *
            obtain ⟨ae, ce, hve, _, _⟩ := ((HP3.out.l n hn3).rd encP_len).form
            have hSe := HP3.out.s n hn3
            have hae := HP3.out.cellA n hn3
            have hbe := HP3.out.cellB n hn3
            rw [hve] at hbe
            rw [HGA.out] at hae hSe
            rw [HGL.out] at hbe hSe
            clear hve
            have HSe : Hid (Sh W3 bn 10 L) := hSe
            clear hSe
            go_wp2_with fail
            go_region_held3 (fun w' => w'.cell? ⟨A, n, none⟩ = some (vA bn) ∧ w'.cell? ⟨B, n, none⟩ = some (.slice ae L.length ce) ∧ Hid (Keep [] W3 w'))
              (first | assumption | exact ⟨hae, hbe, (Keep.refl [] _).drew⟩)
              (first | (go_at_call 19; refine (HLe.out bn L _ (HSe.out.keep0 (by first | exact (Keep.refl [] _).drew | (rename_i hq; exact hq.2.2.out)))).mono ?_; rintro e w8 ⟨rfl, rfl⟩))
            go_wp2
            go_roundw
            case rel =>
              repeat apply Exists.intro
              refine ⟨⟨i + 1, ?_, by omega, HPJ.out.keep ((Keep.refl [] _).drew)⟩, rfl⟩
              simp
            case measure => simp [intOf]; omega
        · obtain rfl : i = os.length := by omega
          have hnl : ¬ (os.length : Int) < (os.length : Int) := by omega
          have HOl : Hid (os.length ≤ 4398046510976) := HB.out.1
          have HAll : Hid (∀ b L w9, Sh w9 b 10 L → L.length ≤ 1152921504606846976 → Calls Try.prog 22 #[vA b] w9 fun e w' => ∃ B1 B2, e = .returned (vSq B1 B2) ∧ Sq w' B1 B2 L ∧ Keep [] w9 w') := fun b L w9 hs hl => (shAll_any b 10 L w9 hs hl).mono (by rintro e w' ⟨_, he, B1, B2, rfl, q, j, _, _⟩; exact ⟨B1, B2, he, q, j⟩)
          have HGa : Hid (∀ B1 B2 L w9 z, Sq w9 B1 B2 L → L.length ≤ 13194139532928 → (L.length : Int) ≤ z → Calls Try.prog 21 #[vSq B1 B2, .int .i64 z] w9 fun e w' => ∃ a c, e = .returned (.slice a L.length c) ∧ Rw 29 encP 2 w' (.slice a L.length c) L ∧ Keep [] w9 w') := fun B1 B2 L w9 z hq hl hz => (gathered_all B1 B2 L z w9 hq hl hz).mono (by rintro e w' ⟨a, c, he, h1, h2, _⟩; exact ⟨a, c, he, h1, h2⟩)
          have HSa : Hid (∀ v v2 L w9, Rd encP 2 w9 v L → Rd encP 2 w9 v2 L → L.length ≤ 1152921504606846976 → Calls Try.prog 20 #[v, v2] w9 fun e w' => e = .returned (.bool true) ∧ Keep [] w9 w') := fun v v2 L w9 h1 h2 hl => rSame_yes v v2 L w9 h1 h2 hl
          clear H0 HB hi hlt
          go_wp2_with fail
          go_loopw [12] (fun kv wr => ∃ k : Nat, kv = .int .i64 (k : Int) ∧ k ≤ 3 ∧ Hid (PJ w A B os.length wr)) (fun kv _ => 3 - (intOf kv).toNat)
          case atStart => exact ⟨0, rfl, by omega, HI.out⟩
          case round =>
            obtain ⟨k, rfl, hk, HJ⟩ := hrel
            clear HI
            by_cases hlt : k < 3
            · have hlti : (k : Int) < 3 := by omega
              have hk0 : (0 : Int) ≤ (k : Int) := by omega
              obtain ⟨bs, vs, Ls, hPl, hLen⟩ := HJ.out
              have hLn := hLen k hlt
              obtain ⟨ao, cap, hv, hc1, hc2⟩ := ((hPl.l k hlt).rd encP_len).form
              have hRd := (hPl.l k hlt).rd encP_len
              have hb1 := hPl.cellB k hlt
              have ha1 := hPl.cellA k hlt
              have hSh := hPl.s k hlt
              rw [hv] at hb1 hRd
              clear hv hPl hLen
              generalize Ls.getD k [] = L at *
              generalize bs.getD k 0 = bn at *
              have HLl : Hid (L.length ≤ 4398046510976) := Nat.le_trans hLn HOl.out
              have hLz : (L.length : Int) ≤ 4398046510976 := by have := HLl.out; omega
              have HSh : Hid (Sh wr bn 10 L) := hSh
              have HRd : Hid (Rd encP 2 wr (.slice ao L.length cap) L) := hRd
              have HBC : Cs [(⟨A, k, none⟩, vA bn), (⟨B, k, none⟩, .slice ao L.length cap)] wr wr := ⟨ha1, hb1, Keep.refl _ _⟩
              clear hLn hSh hRd ha1 hb1
              go_wp2_with fail
              go_region_held3 (fun w' => w'.cell? ⟨A, k, none⟩ = some (vA bn) ∧ w'.cell? ⟨B, k, none⟩ = some (.slice ao L.length cap) ∧ Hid (Keep [] wr w'))
                (first | assumption | exact Cs.drew (l := [(⟨A, k, none⟩, vA bn), (⟨B, k, none⟩, .slice ao L.length cap)]) HBC | exact Cs.alloc (l := [(⟨A, k, none⟩, vA bn), (⟨B, k, none⟩, .slice ao L.length cap)]) _ (by assumption) | exact Cs.more (l := [(⟨A, k, none⟩, vA bn), (⟨B, k, none⟩, .slice ao L.length cap)]) (by assumption) (by assumption))
                (first
                  | (go_at_call 19; refine (HLe.out bn L _ (HSh.out.keep0 (show Cs [(⟨A, k, none⟩, vA bn), (⟨B, k, none⟩, .slice ao L.length cap)] wr _ from by assumption).kp)).mono ?_; rintro e w8 ⟨rfl, rfl⟩)
                  | (go_at_call 22; refine (HAll.out bn L _ (HSh.out.keep0 (show Cs [(⟨A, k, none⟩, vA bn), (⟨B, k, none⟩, .slice ao L.length cap)] wr _ from by assumption).kp) (by have := HLl.out; omega)).mono ?_; rintro e w5 ⟨B1, B2, rfl, q5, k5⟩)
                  | (go_at_call 21; refine (HGa.out B1 B2 L _ _ (q5.keep0 (by first | exact Keep.refl _ _ | exact (Keep.refl _ _).drew)) (by have := HLl.out; omega) (by first | omega | (rw [wrap_ok _ (by omega) (by omega)]; omega))).mono ?_; rintro e w6 ⟨a6, c6, rfl, r6, k6⟩)
                  | (go_at_call 20; refine (HSa.out _ _ L _ (r6.rd encP_len) (HRd.out.keep (show Cs [(⟨A, k, none⟩, vA bn), (⟨B, k, none⟩, .slice ao L.length cap)] wr _ from by assumption).kp (Off.nil _)) (by have := HLl.out; omega)).mono ?_; rintro e w7 ⟨rfl, k7⟩))
              have HJ2 : Hid (PJ w A B os.length w7) := HJ.out.keep (show Cs [(⟨A, k, none⟩, vA bn), (⟨B, k, none⟩, .slice ao L.length cap)] wr _ from by assumption).kp
              clear HJ
              go_wp2
              go_roundw
              case rel =>
                first
                  | exact ⟨k + 1, by simp, by omega, HJ2.out⟩
                  | (repeat apply Exists.intro
                     refine ⟨⟨k + 1, ?_, by omega, HJ2.out⟩, rfl⟩
                     simp)
              case measure => simp [intOf]; omega
            · obtain rfl : k = 3 := by omega
              go_wp2_with fail
              refine (HAw.out _).mono ?_
              rintro e w9 ⟨rfl, k9⟩
              go_wp2
              go_ret
              exact ⟨rfl, HJ.out.kp.trans' k9⟩

end Go.Proofs.Ytkelhglflpdpeaa
