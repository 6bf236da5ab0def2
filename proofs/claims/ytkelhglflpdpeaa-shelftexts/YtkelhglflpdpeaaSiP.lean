/- ShelfTexts: a shelf of texts, the greatest first. -/
import Derived.Test.YtkelhglflpdpeaaSi
import Derived.Test.YtkelhglflpdpeaaAw
import Derived.Laws.EntriesVeiled

namespace Go.Proofs.Ytkelhglflpdpeaa
open Go.RowKit Go.PlainAid Go.Shelf
attribute [local go_sem] Oper.semAt_some


def encS (a : St) : List Value := [.string a]
theorem encS_len (a : St) : (encS a).length = 1 := rfl
theorem Rd.text {w : World} {v : Value} {l : List St} (h : Rd encS 1 w v l) (j : Nat) (hj : j < l.length) : ∃ b o cap, v = .slice (some ⟨b, o, none⟩) l.length cap ∧ b < w.heap.size ∧ w.cell? ⟨b, o + j, none⟩ = some (.string l[j]) := by
  obtain ⟨b, o, cap, h1, h2, h3⟩ := h.at j hj
  refine ⟨b, o, cap, h1, h2, ?_⟩
  have := h3 0 (by omega)
  simp [encS] at this
  exact this
theorem mem_takeS {l : List St} {i : Nat} (h : i < l.length) (y : St) : y ∈ l.take (i + 1) ↔ y ∈ l.take i ∨ y = l[i] := by
  rw [← List.take_append_getElem h, List.mem_append, List.mem_singleton]
/-- does the text stand in the list? -/
def memS (x : St) (l : List St) : Bool := l.any (fun y => ByteArray.toList y == ByteArray.toList x)
theorem memS_iff (x : St) (l : List St) : memS x l = true ↔ x ∈ l := by
  unfold memS
  rw [List.any_eq_true]
  constructor
  · rintro ⟨y, hy, he⟩
    obtain rfl := st_inj (a := y) (b := x) (by simpa using he)
    exact hy
  · intro h
    exact ⟨x, h, by simp⟩
theorem memS_take (x : St) {l : List St} {i : Nat} (h : i < l.length) : memS x (l.take (i + 1)) = (memS x (l.take i) || (ByteArray.toList l[i] == ByteArray.toList x)) := by
  unfold memS
  rw [← List.take_append_getElem h, List.any_append]
  simp only [List.any_cons, List.any_nil, Bool.or_false]


/-- the second range's step -/
theorem step2 {w : World} {x : St} {bx bq bs b : Nat} {L : List St} {A1 A2 F1 F2 N M n m bk D : Nat} {z : St} {W0 W : World} {pre : List St} {y : St} (h : T1 w x bx bq bs b L A1 A2 F1 F2 N M n m z W) (hk : W.heap[bk]? = some (.cells #[.int .i64 (pre.length : Int)] 3 (0, 0))) (hD : W.heap[D]? = some (.deferred (some []))) (hM : M ≤ bk) {M2 : Nat} (hM2 : bk < M2) (kk : Keep [] W0 W) (c : Int) (hc : c = ((pre.length + 1 : Nat) : Int)) :
    KeepsFrom M2 W0 (W.setCell ⟨bk, 0, none⟩ (.int .i64 c)) ∧ KS W0 (W.setCell ⟨bk, 0, none⟩ (.int .i64 c)) ∧ T1 w x bx bq bs b L A1 A2 F1 F2 N M n m z (W.setCell ⟨bk, 0, none⟩ (.int .i64 c)) ∧ (W.setCell ⟨bk, 0, none⟩ (.int .i64 c)).heap[bk]? = some (.cells #[.int .i64 ((pre ++ [y]).length : Int)] 3 (0, 0)) ∧ (W.setCell ⟨bk, 0, none⟩ (.int .i64 c)).heap[D]? = some (.deferred (some [])) := by
  subst hc
  rw [show (pre ++ [y]).length = pre.length + 1 by simp]
  have k1 : Keep [bk] W (W.setCell ⟨bk, 0, none⟩ (.int .i64 ((pre.length + 1 : Nat) : Int))) := Keep.set1 W ⟨bk, 0, none⟩ _
  have ks : KS W (W.setCell ⟨bk, 0, none⟩ (.int .i64 ((pre.length + 1 : Nat) : Int))) := k1.ks (fun r hr c hc => by simp at hr; subst hr; rw [hk] at hc; cases hc)
  have hl := h.lt
  exact ⟨Keep.from (R := [bk]) ((kk.mono (by simp)).trans' k1) (by intro r hr; simp at hr; omega), kk.ks0.trans ks, h.keepR k1 ks (fun r hr => by simp at hr; omega), one_setCell hk, (k1.block _ (Array.getElem?_eq_some_iff.1 hD).1 (by simp; intro e; rw [e, hk] at hD; cases hD)).trans hD⟩

theorem step1_yes {w : World} {x : St} {bx bq bs b : Nat} {L : List St} {A1 A2 F1 F2 N M : Nat} {z : St} {W : World} {pre : List St} (h : T1 w x bx bq bs b L A1 A2 F1 F2 N M pre.length (rnkS pre x) z W) {y : St} (hg : lts y x = true) (y' : St) (a c : Int) (ha : a = ((rnkS pre x + 1 : Nat) : Int)) (hc : c = ((pre.length + 1 : Nat) : Int)) (hy : y' = y := by rfl) :
    KeepsFrom M W (((W.setCell ⟨N + 1, 0, none⟩ (.int .i64 a)).setCell ⟨N + 2, 0, none⟩ (.string y')).setCell ⟨N, 0, none⟩ (.int .i64 c)) ∧ KS W (((W.setCell ⟨N + 1, 0, none⟩ (.int .i64 a)).setCell ⟨N + 2, 0, none⟩ (.string y')).setCell ⟨N, 0, none⟩ (.int .i64 c)) ∧
    ∃ z, T1 w x bx bq bs b L A1 A2 F1 F2 N M (pre ++ [y]).length (rnkS (pre ++ [y]) x) z (((W.setCell ⟨N + 1, 0, none⟩ (.int .i64 a)).setCell ⟨N + 2, 0, none⟩ (.string y')).setCell ⟨N, 0, none⟩ (.int .i64 c)) ∧ ∀ h : pre ++ [y] ≠ [], (pre ++ [y]).getLast h = z := by
  subst ha hc hy
  obtain ⟨t1, k1, s1⟩ := h.setM (rnkS pre x + 1)
  obtain ⟨t2, k2, s2⟩ := t1.setZ y'
  obtain ⟨t3, k3, s3⟩ := t2.setN (pre.length + 1)
  have hlt := h.lt
  have e1 : (pre ++ [y']).length = pre.length + 1 := by simp
  have e2 : rnkS (pre ++ [y']) x = rnkS pre x + 1 := by unfold rnkS; rw [List.countP_append]; simp [hg]
  rw [e1, e2]
  exact ⟨Keep.from (R := [N + 1, N + 2, N]) (((k1.mono (by simp)).trans' (k2.mono (by simp))).trans' (k3.mono (by simp))) (by intro r hr; simp at hr; omega), (s1.trans s2).trans s3, y', t3, fun _ => by simp⟩
theorem step1_no {w : World} {x : St} {bx bq bs b : Nat} {L : List St} {A1 A2 F1 F2 N M : Nat} {z : St} {W : World} {pre : List St} (h : T1 w x bx bq bs b L A1 A2 F1 F2 N M pre.length (rnkS pre x) z W) {y : St} (hg : lts y x = false) (y' : St) (c : Int) (hc : c = ((pre.length + 1 : Nat) : Int)) (hy : y' = y := by rfl) :
    KeepsFrom M W ((W.setCell ⟨N + 2, 0, none⟩ (.string y')).setCell ⟨N, 0, none⟩ (.int .i64 c)) ∧ KS W ((W.setCell ⟨N + 2, 0, none⟩ (.string y')).setCell ⟨N, 0, none⟩ (.int .i64 c)) ∧
    ∃ z, T1 w x bx bq bs b L A1 A2 F1 F2 N M (pre ++ [y]).length (rnkS (pre ++ [y]) x) z ((W.setCell ⟨N + 2, 0, none⟩ (.string y')).setCell ⟨N, 0, none⟩ (.int .i64 c)) ∧ ∀ h : pre ++ [y] ≠ [], (pre ++ [y]).getLast h = z := by
  subst hc hy
  obtain ⟨t2, k2, s2⟩ := h.setZ y'
  obtain ⟨t3, k3, s3⟩ := t2.setN (pre.length + 1)
  have hlt := h.lt
  have e1 : (pre ++ [y']).length = pre.length + 1 := by simp
  have e2 : rnkS (pre ++ [y']) x = rnkS pre x := by unfold rnkS; rw [List.countP_append]; simp [hg]
  rw [e1, e2]
  exact ⟨Keep.from (R := [N + 2, N]) ((k2.mono (by simp)).trans' (k3.mono (by simp))) (by intro r hr; simp at hr; omega), s2.trans s3, y', t3, fun _ => by simp⟩

set_option maxRecDepth 100000 in
set_option maxHeartbeats 16000000 in
theorem texts_law (v0 : Value) (l : List St) (x : St) (w : World) (h0 : Rd encS 1 w v0 l) (hl : l.length ≤ 8796093022208) :
    Calls Try.prog 8 #[v0, vT x] w fun e w' => e = .returned (.bool true) ∧ Keep [] w w' := by
  obtain ⟨ao, cap, rfl, hc1, hc2⟩ := h0.form
  have HV : Hid (Rd encS 1 w (.slice ao l.length cap) l) := h0
  have HLl : Hid (l.length ≤ 8796093022208) := hl
  have hlz : (l.length : Int) ≤ 8796093022208 := by omega
  have hl0 : (0 : Int) ≤ (l.length : Int) := by omega
  clear h0 hl
  refine (callsIn_wide (n := 6)).1 ?_
  refine callsIn_of_wp_marks Try.func8 rfl trivial ?_ rfl
  simp only [Try.ntmps8, List.size_toArray, List.length_cons, List.length_nil, Nat.reduceAdd, Nat.reduceSub, Array.replicate_succ, Array.replicate_zero, List.push_toArray, List.append_toArray, List.nil_append, List.cons_append]
  refine wpIn_wide.2 ?_
  go_wp2_with fail
  have K1 : Keep [] w ((w.alloc (.cells #[.string x] 9)).alloc (.cells #[.bool false] 4)) := (Keep.alloc1 _ _).alloc _
  have b1 : ((w.alloc (.cells #[.string x] 9)).alloc (.cells #[.bool false] 4)).heap[w.heap.size]? = some (.cells #[.string x] 9 (0, 0)) := (Below.heap_alloc _ _ _ (by simp)).trans (heap_alloc_new _ _)
  have b2 : ((w.alloc (.cells #[.string x] 9)).alloc (.cells #[.bool false] 4)).heap[w.heap.size + 1]? = some (.cells #[.bool false] 4 (0, 0)) := by have := heap_alloc_new (w.alloc (.cells #[.string x] 9)) (.cells #[.bool false] 4); rwa [World.size_alloc] at this
  obtain ⟨bx, HBx⟩ : ∃ bx : Nat, Hid (bx = w.heap.size) := ⟨_, show _ = _ from rfl⟩
  obtain ⟨bq, HBq⟩ : ∃ bq : Nat, Hid (bq = w.heap.size + 1) := ⟨_, show _ = _ from rfl⟩
  rw [← HBx.out] at b1
  rw [← HBq.out] at b2
  rw [← HBq.out, ← HBx.out]
  have HG : Hid (w.heap.size ≤ bq) := by show _ ≤ _; have := HBq.out; omega
  clear HBx HBq
  generalize (w.alloc (.cells #[.string x] 9)).alloc (.cells #[.bool false] 4) = w1 at *
  refine (awake_any w1).mono ?_
  rintro e w2 ⟨rfl, k2⟩
  go_wp2_with fail
  refine (snew_any w2).mono ?_
  rintro e w3 ⟨b, rfl, s3, k3, g3⟩
  go_wp2_with fail
  have K3 : Keep [] w1 (w3.alloc (.cells #[vA b] 67)) := (k2.trans' k3).alloc _
  have HT0 : Hid (Tk w x bx bq w3.heap.size b [] (w3.alloc (.cells #[vA b] 67))) := ⟨(K3.block _ (Array.getElem?_eq_some_iff.1 b1).1 (by simp)).trans b1, (K3.block _ (Array.getElem?_eq_some_iff.1 b2).1 (by simp)).trans b2, heap_alloc_new _ _, s3.keep0 (Keep.alloc1 _ _), K1.trans' K3, HG.out, by have := K1.size; have := k2.size; omega⟩
  clear K1 b1 b2 k2 s3 k3 g3 K3 HG
  generalize w3.alloc (.cells #[vA b] 67) = w4 at *
  generalize w3.heap.size = bs at *
  go_loopw [6] (fun iv wr => ∃ i : Nat, iv = .int .i64 (i : Int) ∧ i ≤ l.length ∧ ∃ L, Hid (Tk w x bx bq bs b L wr ∧ (∀ y, y ∈ L ↔ y ∈ l.take i) ∧ L.length ≤ i)) (fun iv _ => l.length - (intOf iv).toNat)
  case atStart => exact ⟨0, rfl, Nat.zero_le _, [], HT0.out, by simp, by simp⟩
  case round =>
    clear HT0
    obtain ⟨i, rfl, hi, L, HI⟩ := hrel
    by_cases hlt : i < l.length
    · have hlti : (i : Int) < (l.length : Int) := by omega
      have hi0 : (0 : Int) ≤ (i : Int) := by omega
      obtain ⟨bb, oo, c2, he, hbw, e0⟩ := HV.out.text i hlt
      simp at he
      obtain ⟨rfl, rfl⟩ := he
      have HTk : Hid (Tk w x bx bq bs b L wr) := HI.out.1
      have HMm : Hid ((∀ y, y ∈ L ↔ y ∈ l.take i) ∧ L.length ≤ i) := HI.out.2
      have f0 := HTk.out.kp.cell' e0 (by simp)
      clear HI e0
      go_wp2_with fail
      go_loopw [7, 8] (fun tv kv wr2 => ∃ k : Nat, kv = .int .i64 (k : Int) ∧ k ≤ i ∧ tv = .bool (memS l[i] (l.take k)) ∧ Hid (Keep [] wr wr2)) (fun tv kv _ => i - (intOf kv).toNat)
      case atStart => exact ⟨0, rfl, by omega, rfl, Keep.refl _ _⟩
      case round =>
        obtain ⟨k, rfl, hk, rfl, HKr⟩ := hrel
        by_cases hlk : k < i
        · have hlki : (k : Int) < (i : Int) := by omega
          have hk0 : (0 : Int) ≤ (k : Int) := by omega
          have hkl : (k : Int) < (l.length : Int) := by omega
          have hkL : k < l.length := by omega
          obtain ⟨b1, o1, c1, he1, hb1, e1⟩ := HV.out.text k hkL
          simp at he1
          obtain ⟨⟨rfl, rfl⟩, rfl⟩ := he1
          have g1 := (HTk.out.kp.trans' HKr.out).cell' e1 (by simp)
          have g0 := HKr.out.cell' f0 (by simp)
          have HMem : Hid (memS l[i] (l.take (k + 1)) = (memS l[i] (l.take k) || (ByteArray.toList l[k] == ByteArray.toList l[i]))) := memS_take _ hkL
          obtain ⟨t, HT⟩ : ∃ t : Bool, Hid (t = memS l[i] (l.take k)) := ⟨_, show _ = _ from rfl⟩
          obtain ⟨d, HD⟩ : ∃ d : Bool, Hid ((ByteArray.toList l[k] == ByteArray.toList l[i]) = d) := ⟨_, show _ = _ from rfl⟩
          rw [HD.out, ← HT.out] at HMem
          have hd := HD.out
          rw [← HT.out]
          generalize l[k] = lk at *
          cases t with
          | true =>
            clear hd HD
            go_wp2_with fail
            refine wp_region_heldP (S := (fun w' : World => w'.cell? ⟨bb, oo + i, none⟩ = some (.string l[i]) ∧ w'.cell? ⟨bb, oo + k, none⟩ = some (.string lk))) (by kernel_rfl) (⟨g0, g1⟩) (fun hHeld => ?_)
            try dsimp only at hHeld
            refine wpAnyH_take (i := 0) (oi := { dst := some 38, op := Go.Op.move (Go.Operand.tmp 7), type := 4, pos := "outright.go:192", after := #[], guard := none }) (v := ?_) rfl (by kernel_rfl) (by kernel_rfl) (by kernel_rfl) (fun _ _ _ => plain_panic) (Or.inl ⟨by rfl, ?_⟩) (by assumption) ?_
            rotate_left
            · intro w7 hSw
              try dsimp only at hSw
              first | (go_simp; done) | (go_simp; with_reducible rfl)
            try simp only [Act.put, List.setIfInBounds_toArray, List.set_cons_zero, List.set_cons_succ]
            refine wpAnyH_take (i := 1) (oi := { dst := some 39, op := Go.Op.move (Go.Operand.tmp 38), type := 4, pos := "outright.go:192", after := #[{ on := 0, ground := Go.Ground.data }], guard := none }) (v := ?_) rfl (by kernel_rfl) (by kernel_rfl) (by kernel_rfl) (fun _ _ _ => plain_panic) (Or.inl ⟨by rfl, ?_⟩) (by assumption) ?_
            rotate_left
            · intro w7 hSw
              try dsimp only at hSw
              first | (go_simp; done) | (go_simp; with_reducible rfl)
            try simp only [Act.put, List.setIfInBounds_toArray, List.set_cons_zero, List.set_cons_succ]
            refine wpAnyH_take (i := 2) (oi := { dst := some 40, op := Go.Op.move (Go.Operand.tmp 0), type := 66, pos := "outright.go:192", after := #[{ on := 1, ground := Go.Ground.guard }], guard := some (1, false) }) (v := undef) rfl (by kernel_rfl) (by kernel_rfl) (by kernel_rfl) (fun _ _ _ => plain_panic) (Or.inr ⟨by rfl, rfl⟩) (by assumption) ?_
            try simp only [Act.put, List.setIfInBounds_toArray, List.set_cons_zero, List.set_cons_succ]
            refine wpAnyH_take (i := 3) (oi := { dst := some 41, op := Go.Op.move (Go.Operand.tmp 8), type := 3, pos := "outright.go:192", after := #[{ on := 1, ground := Go.Ground.guard }], guard := some (1, false) }) (v := undef) rfl (by kernel_rfl) (by kernel_rfl) (by kernel_rfl) (fun _ _ _ => plain_panic) (Or.inr ⟨by rfl, rfl⟩) (by assumption) ?_
            try simp only [Act.put, List.setIfInBounds_toArray, List.set_cons_zero, List.set_cons_succ]
            refine wpAnyH_take (i := 4) (oi := { dst := some 42, op := Go.Op.indexAddr 66 (Go.Operand.tmp 40) (Go.Operand.tmp 41), type := 0, pos := "outright.go:192", after := #[{ on := 2, ground := Go.Ground.data }, { on := 3, ground := Go.Ground.data }, { on := 1, ground := Go.Ground.guard }], guard := some (1, false) }) (v := undef) rfl (by kernel_rfl) (by kernel_rfl) (by kernel_rfl) (fun _ _ _ => plain_panic) (Or.inr ⟨by rfl, rfl⟩) (by assumption) ?_
            try simp only [Act.put, List.setIfInBounds_toArray, List.set_cons_zero, List.set_cons_succ]
            refine wpAnyH_take (i := 5) (oi := { dst := some 43, op := Go.Op.load 9 (Go.Operand.tmp 42), type := 9, pos := "outright.go:192", after := #[{ on := 4, ground := Go.Ground.data }, { on := 1, ground := Go.Ground.guard }], guard := some (1, false) }) (v := undef) rfl (by kernel_rfl) (by kernel_rfl) (by kernel_rfl) (fun _ _ _ => plain_panic) (Or.inr ⟨by rfl, rfl⟩) (by assumption) ?_
            try simp only [Act.put, List.setIfInBounds_toArray, List.set_cons_zero, List.set_cons_succ]
            refine wpAnyH_take (i := 6) (oi := { dst := some 44, op := Go.Op.move (Go.Operand.tmp 0), type := 66, pos := "outright.go:192", after := #[{ on := 1, ground := Go.Ground.guard }], guard := some (1, false) }) (v := undef) rfl (by kernel_rfl) (by kernel_rfl) (by kernel_rfl) (fun _ _ _ => plain_panic) (Or.inr ⟨by rfl, rfl⟩) (by assumption) ?_
            try simp only [Act.put, List.setIfInBounds_toArray, List.set_cons_zero, List.set_cons_succ]
            refine wpAnyH_take (i := 7) (oi := { dst := some 45, op := Go.Op.move (Go.Operand.tmp 6), type := 3, pos := "outright.go:192", after := #[{ on := 1, ground := Go.Ground.guard }], guard := some (1, false) }) (v := undef) rfl (by kernel_rfl) (by kernel_rfl) (by kernel_rfl) (fun _ _ _ => plain_panic) (Or.inr ⟨by rfl, rfl⟩) (by assumption) ?_
            try simp only [Act.put, List.setIfInBounds_toArray, List.set_cons_zero, List.set_cons_succ]
            refine wpAnyH_take (i := 8) (oi := { dst := some 46, op := Go.Op.indexAddr 66 (Go.Operand.tmp 44) (Go.Operand.tmp 45), type := 0, pos := "outright.go:192", after := #[{ on := 6, ground := Go.Ground.data }, { on := 7, ground := Go.Ground.data }, { on := 1, ground := Go.Ground.guard }], guard := some (1, false) }) (v := undef) rfl (by kernel_rfl) (by kernel_rfl) (by kernel_rfl) (fun _ _ _ => plain_panic) (Or.inr ⟨by rfl, rfl⟩) (by assumption) ?_
            try simp only [Act.put, List.setIfInBounds_toArray, List.set_cons_zero, List.set_cons_succ]
            refine wpAnyH_take (i := 9) (oi := { dst := some 47, op := Go.Op.load 9 (Go.Operand.tmp 46), type := 9, pos := "outright.go:192", after := #[{ on := 8, ground := Go.Ground.data }, { on := 1, ground := Go.Ground.guard }], guard := some (1, false) }) (v := undef) rfl (by kernel_rfl) (by kernel_rfl) (by kernel_rfl) (fun _ _ _ => plain_panic) (Or.inr ⟨by rfl, rfl⟩) (by assumption) ?_
            try simp only [Act.put, List.setIfInBounds_toArray, List.set_cons_zero, List.set_cons_succ]
            refine wpAnyH_take (i := 10) (oi := { dst := some 48, op := Go.Op.binOp Go.BinOp.eql 9 (Go.Operand.tmp 43) (Go.Operand.tmp 47) 9, type := 4, pos := "outright.go:192", after := #[{ on := 5, ground := Go.Ground.data }, { on := 9, ground := Go.Ground.data }, { on := 1, ground := Go.Ground.guard }], guard := some (1, false) }) (v := undef) rfl (by kernel_rfl) (by kernel_rfl) (by kernel_rfl) (fun _ _ _ => plain_panic) (Or.inr ⟨by rfl, rfl⟩) (by assumption) ?_
            try simp only [Act.put, List.setIfInBounds_toArray, List.set_cons_zero, List.set_cons_succ]
            refine wpAnyH_take (i := 11) (oi := { dst := some 49, op := Go.Op.pick (Go.Operand.tmp 39) (Go.Operand.const (Go.Value.bool true)) (Go.Operand.tmp 48), type := 4, pos := "outright.go:192", after := #[{ on := 1, ground := Go.Ground.data }, { on := 10, ground := Go.Ground.data }], guard := none }) (v := ?_) rfl (by kernel_rfl) (by kernel_rfl) (by kernel_rfl) (fun _ _ _ => plain_panic) (Or.inl ⟨by rfl, ?_⟩) (by assumption) ?_
            rotate_left
            · intro w7 hSw
              try dsimp only at hSw
              first | (go_simp; done) | (go_simp; with_reducible rfl)
            try simp only [Act.put, List.setIfInBounds_toArray, List.set_cons_zero, List.set_cons_succ]
            refine wpAnyH_take (i := 12) (oi := { dst := some 7, op := Go.Op.assign (Go.Operand.tmp 49), type := 4, pos := "outright.go:192", after := #[{ on := 11, ground := Go.Ground.data }, { on := 1, ground := Go.Ground.chain }, { on := 0, ground := Go.Ground.phase }, { on := 1, ground := Go.Ground.phase }, { on := 2, ground := Go.Ground.phase }, { on := 3, ground := Go.Ground.phase }, { on := 4, ground := Go.Ground.phase }, { on := 5, ground := Go.Ground.phase }, { on := 6, ground := Go.Ground.phase }, { on := 7, ground := Go.Ground.phase }, { on := 8, ground := Go.Ground.phase }, { on := 9, ground := Go.Ground.phase }, { on := 10, ground := Go.Ground.phase }, { on := 11, ground := Go.Ground.phase }], guard := none }) (v := ?_) rfl (by kernel_rfl) (by kernel_rfl) (by kernel_rfl) (fun _ _ _ => plain_panic) (Or.inl ⟨by rfl, ?_⟩) (by assumption) ?_
            rotate_left
            · intro w7 hSw
              try dsimp only at hSw
              first | (go_simp; done) | (go_simp; with_reducible rfl)
            try simp only [Act.put, List.setIfInBounds_toArray, List.set_cons_zero, List.set_cons_succ]
            refine wpAnyH_done (by kernel_rfl) ⟨rfl, ?_⟩ _
            go_wp2
            go_roundw
            case rel =>
              first
                | exact ⟨k + 1, by simp, by omega, by rw [HMem.out]; rfl, HKr.out.drew⟩
                | (repeat apply Exists.intro
                   refine ⟨⟨k + 1, ?_, by omega, by rw [HMem.out]; rfl, HKr.out.drew⟩, rfl⟩
                   simp)
            case measure => simp [intOf]; omega
          | false =>
            clear HD
            go_wp2_with fail
            refine wp_region_heldP (S := (fun w' : World => w'.cell? ⟨bb, oo + i, none⟩ = some (.string l[i]) ∧ w'.cell? ⟨bb, oo + k, none⟩ = some (.string lk))) (by kernel_rfl) (⟨g0, g1⟩) (fun hHeld => ?_)
            try dsimp only at hHeld
            refine wpAnyH_take (i := 0) (oi := { dst := some 38, op := Go.Op.move (Go.Operand.tmp 7), type := 4, pos := "outright.go:192", after := #[], guard := none }) (v := ?_) rfl (by kernel_rfl) (by kernel_rfl) (by kernel_rfl) (fun _ _ _ => plain_panic) (Or.inl ⟨by rfl, ?_⟩) (by assumption) ?_
            rotate_left
            · intro w7 hSw
              try dsimp only at hSw
              first | (go_simp; done) | (go_simp; with_reducible rfl)
            try simp only [Act.put, List.setIfInBounds_toArray, List.set_cons_zero, List.set_cons_succ]
            refine wpAnyH_take (i := 1) (oi := { dst := some 39, op := Go.Op.move (Go.Operand.tmp 38), type := 4, pos := "outright.go:192", after := #[{ on := 0, ground := Go.Ground.data }], guard := none }) (v := ?_) rfl (by kernel_rfl) (by kernel_rfl) (by kernel_rfl) (fun _ _ _ => plain_panic) (Or.inl ⟨by rfl, ?_⟩) (by assumption) ?_
            rotate_left
            · intro w7 hSw
              try dsimp only at hSw
              first | (go_simp; done) | (go_simp; with_reducible rfl)
            try simp only [Act.put, List.setIfInBounds_toArray, List.set_cons_zero, List.set_cons_succ]
            refine wpAnyH_take (i := 2) (oi := { dst := some 40, op := Go.Op.move (Go.Operand.tmp 0), type := 66, pos := "outright.go:192", after := #[{ on := 1, ground := Go.Ground.guard }], guard := some (1, false) }) (v := ?_) rfl (by kernel_rfl) (by kernel_rfl) (by kernel_rfl) (fun _ _ _ => plain_panic) (Or.inl ⟨by rfl, ?_⟩) (by assumption) ?_
            rotate_left
            · intro w7 hSw
              try dsimp only at hSw
              first | (go_simp; done) | (go_simp; with_reducible rfl)
            try simp only [Act.put, List.setIfInBounds_toArray, List.set_cons_zero, List.set_cons_succ]
            refine wpAnyH_take (i := 3) (oi := { dst := some 41, op := Go.Op.move (Go.Operand.tmp 8), type := 3, pos := "outright.go:192", after := #[{ on := 1, ground := Go.Ground.guard }], guard := some (1, false) }) (v := ?_) rfl (by kernel_rfl) (by kernel_rfl) (by kernel_rfl) (fun _ _ _ => plain_panic) (Or.inl ⟨by rfl, ?_⟩) (by assumption) ?_
            rotate_left
            · intro w7 hSw
              try dsimp only at hSw
              first | (go_simp; done) | (go_simp; with_reducible rfl)
            try simp only [Act.put, List.setIfInBounds_toArray, List.set_cons_zero, List.set_cons_succ]
            refine wpAnyH_take (i := 4) (oi := { dst := some 42, op := Go.Op.indexAddr 66 (Go.Operand.tmp 40) (Go.Operand.tmp 41), type := 0, pos := "outright.go:192", after := #[{ on := 2, ground := Go.Ground.data }, { on := 3, ground := Go.Ground.data }, { on := 1, ground := Go.Ground.guard }], guard := some (1, false) }) (v := ?_) rfl (by kernel_rfl) (by kernel_rfl) (by kernel_rfl) (fun _ _ _ => plain_panic) (Or.inl ⟨by rfl, ?_⟩) (by assumption) ?_
            rotate_left
            · intro w7 hSw
              try dsimp only at hSw
              first | (go_simp; done) | (go_simp; with_reducible rfl)
            try simp only [Act.put, List.setIfInBounds_toArray, List.set_cons_zero, List.set_cons_succ]
            refine wpAnyH_take (i := 5) (oi := { dst := some 43, op := Go.Op.load 9 (Go.Operand.tmp 42), type := 9, pos := "outright.go:192", after := #[{ on := 4, ground := Go.Ground.data }, { on := 1, ground := Go.Ground.guard }], guard := some (1, false) }) (v := ?_) rfl (by kernel_rfl) (by kernel_rfl) (by kernel_rfl) (fun _ _ _ => plain_panic) (Or.inl ⟨by rfl, ?_⟩) (by assumption) ?_
            rotate_left
            · intro w7 hSw
              try dsimp only at hSw
              first | (go_simp; done) | (go_simp; with_reducible rfl)
            try simp only [Act.put, List.setIfInBounds_toArray, List.set_cons_zero, List.set_cons_succ]
            refine wpAnyH_take (i := 6) (oi := { dst := some 44, op := Go.Op.move (Go.Operand.tmp 0), type := 66, pos := "outright.go:192", after := #[{ on := 1, ground := Go.Ground.guard }], guard := some (1, false) }) (v := ?_) rfl (by kernel_rfl) (by kernel_rfl) (by kernel_rfl) (fun _ _ _ => plain_panic) (Or.inl ⟨by rfl, ?_⟩) (by assumption) ?_
            rotate_left
            · intro w7 hSw
              try dsimp only at hSw
              first | (go_simp; done) | (go_simp; with_reducible rfl)
            try simp only [Act.put, List.setIfInBounds_toArray, List.set_cons_zero, List.set_cons_succ]
            refine wpAnyH_take (i := 7) (oi := { dst := some 45, op := Go.Op.move (Go.Operand.tmp 6), type := 3, pos := "outright.go:192", after := #[{ on := 1, ground := Go.Ground.guard }], guard := some (1, false) }) (v := ?_) rfl (by kernel_rfl) (by kernel_rfl) (by kernel_rfl) (fun _ _ _ => plain_panic) (Or.inl ⟨by rfl, ?_⟩) (by assumption) ?_
            rotate_left
            · intro w7 hSw
              try dsimp only at hSw
              first | (go_simp; done) | (go_simp; with_reducible rfl)
            try simp only [Act.put, List.setIfInBounds_toArray, List.set_cons_zero, List.set_cons_succ]
            refine wpAnyH_take (i := 8) (oi := { dst := some 46, op := Go.Op.indexAddr 66 (Go.Operand.tmp 44) (Go.Operand.tmp 45), type := 0, pos := "outright.go:192", after := #[{ on := 6, ground := Go.Ground.data }, { on := 7, ground := Go.Ground.data }, { on := 1, ground := Go.Ground.guard }], guard := some (1, false) }) (v := ?_) rfl (by kernel_rfl) (by kernel_rfl) (by kernel_rfl) (fun _ _ _ => plain_panic) (Or.inl ⟨by rfl, ?_⟩) (by assumption) ?_
            rotate_left
            · intro w7 hSw
              try dsimp only at hSw
              first | (go_simp; done) | (go_simp; with_reducible rfl)
            try simp only [Act.put, List.setIfInBounds_toArray, List.set_cons_zero, List.set_cons_succ]
            refine wpAnyH_take (i := 9) (oi := { dst := some 47, op := Go.Op.load 9 (Go.Operand.tmp 46), type := 9, pos := "outright.go:192", after := #[{ on := 8, ground := Go.Ground.data }, { on := 1, ground := Go.Ground.guard }], guard := some (1, false) }) (v := ?_) rfl (by kernel_rfl) (by kernel_rfl) (by kernel_rfl) (fun _ _ _ => plain_panic) (Or.inl ⟨by rfl, ?_⟩) (by assumption) ?_
            rotate_left
            · intro w7 hSw
              try dsimp only at hSw
              first | (go_simp; done) | (go_simp; with_reducible rfl)
            try simp only [Act.put, List.setIfInBounds_toArray, List.set_cons_zero, List.set_cons_succ]
            refine wpAnyH_take (i := 10) (oi := { dst := some 48, op := Go.Op.binOp Go.BinOp.eql 9 (Go.Operand.tmp 43) (Go.Operand.tmp 47) 9, type := 4, pos := "outright.go:192", after := #[{ on := 5, ground := Go.Ground.data }, { on := 9, ground := Go.Ground.data }, { on := 1, ground := Go.Ground.guard }], guard := some (1, false) }) (v := ?_) rfl (by kernel_rfl) (by kernel_rfl) (by kernel_rfl) (fun _ _ _ => plain_panic) (Or.inl ⟨by rfl, ?_⟩) (by assumption) ?_
            rotate_left
            · intro w7 hSw
              try dsimp only at hSw
              first | (go_simp; done) | (go_simp; with_reducible rfl)
            try simp only [Act.put, List.setIfInBounds_toArray, List.set_cons_zero, List.set_cons_succ]
            refine wpAnyH_take (i := 11) (oi := { dst := some 49, op := Go.Op.pick (Go.Operand.tmp 39) (Go.Operand.const (Go.Value.bool true)) (Go.Operand.tmp 48), type := 4, pos := "outright.go:192", after := #[{ on := 1, ground := Go.Ground.data }, { on := 10, ground := Go.Ground.data }], guard := none }) (v := ?_) rfl (by kernel_rfl) (by kernel_rfl) (by kernel_rfl) (fun _ _ _ => plain_panic) (Or.inl ⟨by rfl, ?_⟩) (by assumption) ?_
            rotate_left
            · intro w7 hSw
              try dsimp only at hSw
              first | (go_simp; done) | (go_simp; with_reducible rfl)
            try simp only [Act.put, List.setIfInBounds_toArray, List.set_cons_zero, List.set_cons_succ]
            refine wpAnyH_take (i := 12) (oi := { dst := some 7, op := Go.Op.assign (Go.Operand.tmp 49), type := 4, pos := "outright.go:192", after := #[{ on := 11, ground := Go.Ground.data }, { on := 1, ground := Go.Ground.chain }, { on := 0, ground := Go.Ground.phase }, { on := 1, ground := Go.Ground.phase }, { on := 2, ground := Go.Ground.phase }, { on := 3, ground := Go.Ground.phase }, { on := 4, ground := Go.Ground.phase }, { on := 5, ground := Go.Ground.phase }, { on := 6, ground := Go.Ground.phase }, { on := 7, ground := Go.Ground.phase }, { on := 8, ground := Go.Ground.phase }, { on := 9, ground := Go.Ground.phase }, { on := 10, ground := Go.Ground.phase }, { on := 11, ground := Go.Ground.phase }], guard := none }) (v := ?_) rfl (by kernel_rfl) (by kernel_rfl) (by kernel_rfl) (fun _ _ _ => plain_panic) (Or.inl ⟨by rfl, ?_⟩) (by assumption) ?_
            rotate_left
            · intro w7 hSw
              try dsimp only at hSw
              first | (go_simp; done) | (go_simp; with_reducible rfl)
            try simp only [Act.put, List.setIfInBounds_toArray, List.set_cons_zero, List.set_cons_succ]
            refine wpAnyH_done (by kernel_rfl) ⟨rfl, ?_⟩ _
            clear hd
            go_wp2
            go_roundw
            case rel =>
              first
                | exact ⟨k + 1, by simp, by omega, by rw [HMem.out]; simp, HKr.out.drew⟩
                | (repeat apply Exists.intro
                   refine ⟨⟨k + 1, ?_, by omega, by rw [HMem.out]; simp, HKr.out.drew⟩, rfl⟩
                   simp)
            case measure => simp [intOf]; omega
        · obtain rfl : k = i := by omega
          have hnl2 : ¬ (k : Int) < (k : Int) := by omega
          obtain ⟨t, HT⟩ : ∃ t : Bool, Hid (hasS L l[k] = t) := ⟨_, show _ = _ from rfl⟩
          have HTt : Hid (memS l[k] (l.take k) = t) := by
            show _ = _
            rw [← HT.out, Bool.eq_iff_iff, memS_iff, hasS_iff HTk.out.sh.ris, HMm.out.1]
          rw [HTt.out]
          have HTw : Hid (Tk w x bx bq bs b L wr) := HTk.out.keep0 HKr.out
          have g0 := HKr.out.cell' f0 (by simp)
          obtain ⟨_, cs, _, _⟩ := HTw.out.cells
          have hbt : ((!t) == t) = false := by cases t <;> rfl
          have HAd : Hid (∀ w9, ShS w9 b L → Calls Try.prog 38 #[vA b, vT l[k]] w9 fun e w' => e = .returned (.bool (!t)) ∧ ShS w' b (addS L l[k]) ∧ Keep [b] w9 w') := fun w9 hs => by rw [← HT.out]; exact sadd_any b L l[k] w9 hs (by have := HMm.out.2; have := HLl.out; omega)
          have HNx : Hid ((∀ y, y ∈ addS L l[k] ↔ y ∈ l.take (k + 1)) ∧ (addS L l[k]).length ≤ k + 1) := ⟨fun y => by rw [mem_addS HTk.out.sh.ris, HMm.out.1, mem_takeS hlt], Nat.le_trans (addS_len _ _) (by have := HMm.out.2; omega)⟩
          have HNb : Hid (bs ≠ b ∧ bb ≠ b) := by
            refine ⟨fun e => ?_, by have := HTk.out.ge; have := hbw; omega⟩
            obtain ⟨p, T, a, _⟩ := HTk.out.sh.ex
            have h2 := HTk.out.hs
            rw [e, a] at h2
            cases h2
          have HTr : Hid (∀ w9, Keep [] wr w9 → ShS w9 b L) := fun w9 kk => (HTw.out.keep0 kk).sh
          generalize l[k] = li at *
          clear HKr HTk HT HTt
          go_wp2_with fail
          refine wp_region_heldP (S := (fun w' : World => w'.cell? ⟨bs, 0, none⟩ = some (vA b) ∧ w'.cell? ⟨bb, oo + k, none⟩ = some (.string li))) (by kernel_rfl) (⟨cs, g0⟩) (fun hHeld => ?_)
          try dsimp only at hHeld
          refine wpAnyH_take (i := 0) (oi := { dst := some 50, op := Go.Op.load 67 (Go.Operand.tmp 5), type := 67, pos := "outright.go:194", after := #[], guard := none }) (v := ?_) rfl (by kernel_rfl) (by kernel_rfl) (by kernel_rfl) (fun _ _ _ => plain_panic) (Or.inl ⟨by rfl, ?_⟩) (by assumption) ?_
          rotate_left
          · intro w7 hSw
            try dsimp only at hSw
            first | (go_simp; done) | (go_simp; with_reducible rfl)
          try simp only [Act.put, List.setIfInBounds_toArray, List.set_cons_zero, List.set_cons_succ]
          refine wpAnyH_take (i := 1) (oi := { dst := some 51, op := Go.Op.move (Go.Operand.tmp 0), type := 66, pos := "outright.go:194", after := #[], guard := none }) (v := ?_) rfl (by kernel_rfl) (by kernel_rfl) (by kernel_rfl) (fun _ _ _ => plain_panic) (Or.inl ⟨by rfl, ?_⟩) (by assumption) ?_
          rotate_left
          · intro w7 hSw
            try dsimp only at hSw
            first | (go_simp; done) | (go_simp; with_reducible rfl)
          try simp only [Act.put, List.setIfInBounds_toArray, List.set_cons_zero, List.set_cons_succ]
          refine wpAnyH_take (i := 2) (oi := { dst := some 52, op := Go.Op.move (Go.Operand.tmp 6), type := 3, pos := "outright.go:194", after := #[], guard := none }) (v := ?_) rfl (by kernel_rfl) (by kernel_rfl) (by kernel_rfl) (fun _ _ _ => plain_panic) (Or.inl ⟨by rfl, ?_⟩) (by assumption) ?_
          rotate_left
          · intro w7 hSw
            try dsimp only at hSw
            first | (go_simp; done) | (go_simp; with_reducible rfl)
          try simp only [Act.put, List.setIfInBounds_toArray, List.set_cons_zero, List.set_cons_succ]
          refine wpAnyH_take (i := 3) (oi := { dst := some 53, op := Go.Op.indexAddr 66 (Go.Operand.tmp 51) (Go.Operand.tmp 52), type := 0, pos := "outright.go:194", after := #[{ on := 1, ground := Go.Ground.data }, { on := 2, ground := Go.Ground.data }], guard := none }) (v := ?_) rfl (by kernel_rfl) (by kernel_rfl) (by kernel_rfl) (fun _ _ _ => plain_panic) (Or.inl ⟨by rfl, ?_⟩) (by assumption) ?_
          rotate_left
          · intro w7 hSw
            try dsimp only at hSw
            first | (go_simp; done) | (go_simp; with_reducible rfl)
          try simp only [Act.put, List.setIfInBounds_toArray, List.set_cons_zero, List.set_cons_succ]
          refine wpAnyH_take (i := 4) (oi := { dst := some 54, op := Go.Op.load 9 (Go.Operand.tmp 53), type := 9, pos := "outright.go:194", after := #[{ on := 3, ground := Go.Ground.data }], guard := none }) (v := ?_) rfl (by kernel_rfl) (by kernel_rfl) (by kernel_rfl) (fun _ _ _ => plain_panic) (Or.inl ⟨by rfl, ?_⟩) (by assumption) ?_
          rotate_left
          · intro w7 hSw
            try dsimp only at hSw
            first | (go_simp; done) | (go_simp; with_reducible rfl)
          try simp only [Act.put, List.setIfInBounds_toArray, List.set_cons_zero, List.set_cons_succ]
          refine wpAnyH_take (i := 6) (oi := { dst := some 56, op := Go.Op.move (Go.Operand.tmp 7), type := 4, pos := "outright.go:194", after := #[], guard := none }) (v := ?_) rfl (by kernel_rfl) (by kernel_rfl) (by kernel_rfl) (fun _ _ _ => plain_panic) (Or.inl ⟨by rfl, ?_⟩) (by assumption) ?_
          rotate_left
          · intro w7 hSw
            try dsimp only at hSw
            first | (go_simp; done) | (go_simp; with_reducible rfl)
          try simp only [Act.put, List.setIfInBounds_toArray, List.set_cons_zero, List.set_cons_succ]
          refine wpAnyH_ready (rs := [5]) (by kernel_rfl) (by simp) ?_
          refine AllReadyH.cons (o := { dst := some 55, op := Go.Op.call { callee := Go.Callee.value (Go.Operand.func 38), args := #[Go.Operand.tmp 50, Go.Operand.tmp 54], argTypes := #[67, 9] }, type := 4, pos := "outright.go:194", after := #[{ on := 0, ground := Go.Ground.data }, { on := 4, ground := Go.Ground.data }], guard := none }) rfl (fun K hK => ?_) AllReadyH.nil
          go_simp
          refine (HAd.out _ (HTr.out _ (Keep.refl [] _).drew)).mono ?_; clear HAd; rintro e w5 ⟨rfl, s5, k5⟩
          go_wp2_with fail
          refine hK.out _ _ (⟨k5.cell' hHeld.1 (by simpa using HNb.out.1), k5.cell' hHeld.2 (by simpa using HNb.out.2)⟩) (fun hHeld2 => ?_)
          try dsimp only at hHeld2
          clear hK hHeld
          have hHeld := hHeld2
          clear hHeld2
          try simp only [Act.put, List.setIfInBounds_toArray, List.set_cons_zero, List.set_cons_succ]
          refine wpAnyH_take (i := 7) (oi := { dst := some 57, op := Go.Op.binOp Go.BinOp.eql 4 (Go.Operand.tmp 55) (Go.Operand.tmp 56) 4, type := 4, pos := "outright.go:194", after := #[{ on := 5, ground := Go.Ground.data }, { on := 6, ground := Go.Ground.data }], guard := none }) (v := ?_) rfl (by kernel_rfl) (by kernel_rfl) (by kernel_rfl) (fun _ _ _ => plain_panic) (Or.inl ⟨by rfl, ?_⟩) (by assumption) ?_
          rotate_left
          · intro w7 hSw
            try dsimp only at hSw
            first | (go_simp; done) | (go_simp; with_reducible rfl)
          try simp only [Act.put, List.setIfInBounds_toArray, List.set_cons_zero, List.set_cons_succ]
          refine wpAnyH_done (by kernel_rfl) ⟨rfl, ?_⟩ _
          have HF : Hid (Tk w x bx bq bs b (addS L li) w5 ∧ (∀ y, y ∈ addS L li ↔ y ∈ l.take (k + 1)) ∧ (addS L li).length ≤ k + 1) := ⟨(HTw.out.keep0 ((Keep.refl [] _).drew)).act k5 s5, HNx.out⟩
          clear hbt k5 s5 hHeld
          go_wp2
          go_roundw
          case rel =>
            first
              | exact ⟨k + 1, by simp, by omega, _, HF.out⟩
              | (repeat apply Exists.intro
                 refine ⟨⟨k + 1, ?_, by omega, _, HF.out⟩, rfl⟩
                 simp)
          case measure => simp [intOf]; omega
    · obtain rfl : i = l.length := by omega
      have hnl : ¬ (l.length : Int) < (l.length : Int) := by omega
      have HTk : Hid (Tk w x bx bq bs b L wr) := HI.out.1
      have HMm : Hid ((∀ y, y ∈ L ↔ y ∈ l) ∧ L.length ≤ l.length) := ⟨fun y => by rw [HI.out.2.1, List.take_length], HI.out.2.2⟩
      have HLL : Hid (L.length ≤ 8796093022208) := Nat.le_trans HMm.out.2 HLl.out
      obtain ⟨cx, cs, _, _⟩ := HTk.out.cells
      have HAl : Hid (∀ w9, Keep [] wr w9 → Calls Try.prog 39 #[vA b] w9 fun e w' => ∃ B1 B2, e = .returned (vSs B1 B2) ∧ SqS w' B1 B2 L ∧ Keep [] w9 w') := fun w9 kk => sAll_any b L w9 (HTk.out.sh.keep0 kk) (by have := HLL.out; omega)
      have HFo : Hid (∀ w9, Keep [] wr w9 → Calls Try.prog 40 #[vA b, vT x] w9 fun e w' => ∃ B1 B2, e = .returned (vSs B1 B2) ∧ SqS w' B1 B2 (L.drop (rnkS L x)) ∧ Keep [] w9 w') := fun w9 kk => sFrom_any b L x w9 (HTk.out.sh.keep0 kk) (by have := HLL.out; omega)
      clear HI hi hlt
      go_wp2_with fail
      refine wp_region_heldP (S := (fun w' : World => w'.cell? ⟨bs, 0, none⟩ = some (vA b) ∧ w'.cell? ⟨bx, 0, none⟩ = some (.string x))) (by kernel_rfl) (⟨cs, cx⟩) (fun hHeld => ?_)
      try dsimp only at hHeld
      refine wpAnyH_take (i := 0) (oi := { dst := some 58, op := Go.Op.load 67 (Go.Operand.tmp 5), type := 67, pos := "outright.go:198", after := #[], guard := none }) (v := ?_) rfl (by kernel_rfl) (by kernel_rfl) (by kernel_rfl) (fun _ _ _ => plain_panic) (Or.inl ⟨by rfl, ?_⟩) (by assumption) ?_
      rotate_left
      · intro w7 hSw
        try dsimp only at hSw
        first | (go_simp; done) | (go_simp; with_reducible rfl)
      try simp only [Act.put, List.setIfInBounds_toArray, List.set_cons_zero, List.set_cons_succ]
      refine wpAnyH_take (i := 2) (oi := { dst := some 60, op := Go.Op.load 67 (Go.Operand.tmp 5), type := 67, pos := "outright.go:198", after := #[], guard := none }) (v := ?_) rfl (by kernel_rfl) (by kernel_rfl) (by kernel_rfl) (fun _ _ _ => plain_panic) (Or.inl ⟨by rfl, ?_⟩) (by assumption) ?_
      rotate_left
      · intro w7 hSw
        try dsimp only at hSw
        first | (go_simp; done) | (go_simp; with_reducible rfl)
      try simp only [Act.put, List.setIfInBounds_toArray, List.set_cons_zero, List.set_cons_succ]
      refine wpAnyH_take (i := 3) (oi := { dst := some 61, op := Go.Op.load 9 (Go.Operand.tmp 3), type := 9, pos := "outright.go:198", after := #[], guard := none }) (v := ?_) rfl (by kernel_rfl) (by kernel_rfl) (by kernel_rfl) (fun _ _ _ => plain_panic) (Or.inl ⟨by rfl, ?_⟩) (by assumption) ?_
      rotate_left
      · intro w7 hSw
        try dsimp only at hSw
        first | (go_simp; done) | (go_simp; with_reducible rfl)
      try simp only [Act.put, List.setIfInBounds_toArray, List.set_cons_zero, List.set_cons_succ]
      refine wpAnyH_ready (rs := [1]) (by kernel_rfl) (by simp) ?_
      refine AllReadyH.cons (o := { dst := some 59, op := Go.Op.call { callee := Go.Callee.value (Go.Operand.func 39), args := #[Go.Operand.tmp 58], argTypes := #[67] }, type := 72, pos := "outright.go:198", after := #[{ on := 0, ground := Go.Ground.data }], guard := none }) rfl (fun K hK => ?_) AllReadyH.nil
      go_simp
      refine (HAl.out _ (Keep.refl [] _).drew).mono ?_; clear HAl; rintro e w5 ⟨A1, A2, rfl, q5, k5⟩
      go_wp2_with fail
      refine hK.out _ _ (⟨k5.cell' hHeld.1 (by simp), k5.cell' hHeld.2 (by simp)⟩) (fun hHeld2 => ?_)
      try dsimp only at hHeld2
      clear hK hHeld
      have hHeld := hHeld2
      clear hHeld2
      try simp only [Act.put, List.setIfInBounds_toArray, List.set_cons_zero, List.set_cons_succ]
      refine wpAnyH_ready (rs := [4]) (by kernel_rfl) (by simp) ?_
      refine AllReadyH.cons (o := { dst := some 62, op := Go.Op.call { callee := Go.Callee.value (Go.Operand.func 40), args := #[Go.Operand.tmp 60, Go.Operand.tmp 61], argTypes := #[67, 9] }, type := 72, pos := "outright.go:198", after := #[{ on := 2, ground := Go.Ground.data }, { on := 3, ground := Go.Ground.data }, { on := 1, ground := Go.Ground.chain }], guard := none }) rfl (fun K hK => ?_) AllReadyH.nil
      go_simp
      refine (HFo.out _ ((Keep.refl [] _).drew.trans' k5)).mono ?_; clear HFo; rintro e wq ⟨F1, F2, rfl, q6, k6⟩
      go_wp2_with fail
      refine hK.out _ _ (⟨k6.cell' hHeld.1 (by simp), k6.cell' hHeld.2 (by simp)⟩) (fun hHeld2 => ?_)
      try dsimp only at hHeld2
      clear hK hHeld
      have hHeld := hHeld2
      clear hHeld2
      try simp only [Act.put, List.setIfInBounds_toArray, List.set_cons_zero, List.set_cons_succ]
      refine wpAnyH_take (i := 5) (oi := { dst := some 9, op := Go.Op.assign (Go.Operand.tmp 59), type := 72, pos := "outright.go:198", after := #[{ on := 1, ground := Go.Ground.data }, { on := 4, ground := Go.Ground.chain }, { on := 0, ground := Go.Ground.phase }, { on := 1, ground := Go.Ground.phase }, { on := 2, ground := Go.Ground.textOnly Go.Departure.lateStores }, { on := 3, ground := Go.Ground.textOnly Go.Departure.lateStores }, { on := 4, ground := Go.Ground.textOnly Go.Departure.lateStoresUnsure }], guard := none }) (v := ?_) rfl (by kernel_rfl) (by kernel_rfl) (by kernel_rfl) (fun _ _ _ => plain_panic) (Or.inl ⟨by rfl, ?_⟩) (by assumption) ?_
      rotate_left
      · intro w7 hSw
        try dsimp only at hSw
        first | (go_simp; done) | (go_simp; with_reducible rfl)
      try simp only [Act.put, List.setIfInBounds_toArray, List.set_cons_zero, List.set_cons_succ]
      refine wpAnyH_take (i := 6) (oi := { dst := some 10, op := Go.Op.assign (Go.Operand.tmp 62), type := 72, pos := "outright.go:198", after := #[{ on := 4, ground := Go.Ground.data }, { on := 5, ground := Go.Ground.chain }, { on := 0, ground := Go.Ground.phase }, { on := 1, ground := Go.Ground.phase }, { on := 2, ground := Go.Ground.phase }, { on := 3, ground := Go.Ground.phase }, { on := 4, ground := Go.Ground.phase }, { on := 5, ground := Go.Ground.phase }], guard := none }) (v := ?_) rfl (by kernel_rfl) (by kernel_rfl) (by kernel_rfl) (fun _ _ _ => plain_panic) (Or.inl ⟨by rfl, ?_⟩) (by assumption) ?_
      rotate_left
      · intro w7 hSw
        try dsimp only at hSw
        first | (go_simp; done) | (go_simp; with_reducible rfl)
      try simp only [Act.put, List.setIfInBounds_toArray, List.set_cons_zero, List.set_cons_succ]
      refine wpAnyH_done (by kernel_rfl) ⟨rfl, ?_⟩ _
      have heq : ∀ w, Sem.run Try.prog (binOp BinOp.eql 72 (vSs A1 A2) Value.nilFunc) w = .ok (.bool false) w := fun w => rfl
      have heq2 : ∀ w, Sem.run Try.prog (binOp BinOp.eql 72 (vSs F1 F2) Value.nilFunc) w = .ok (.bool false) w := fun w => rfl
      have HTq : Hid (Tk w x bx bq bs b L wq) := (HTk.out.keep0 ((Keep.refl [] _).drew.trans' k5)).keep0 k6
      have HQ5 : Hid (SqS wq A1 A2 L ∧ SqS wq F1 F2 (L.drop (rnkS L x))) := ⟨q5.keep0 k6, q6⟩
      clear hHeld k5 k6 q5 q6 cx cs HTk
      go_wp2_with fail
      clear heq heq2
      have HT1 : Hid (T1 w x bx bq bs b L A1 A2 F1 F2 wq.heap.size (((wq.alloc (.cells #[.int .i64 0] 3)).alloc (.cells #[.int .i64 0] 3)).alloc (.cells #[.string ⟨#[]⟩] 9)).heap.size 0 0 ⟨#[]⟩ (((wq.alloc (.cells #[.int .i64 0] 3)).alloc (.cells #[.int .i64 0] 3)).alloc (.cells #[.string ⟨#[]⟩] 9))) := by
        have kk : Keep [] wq (((wq.alloc (.cells #[.int .i64 0] 3)).alloc (.cells #[.int .i64 0] 3)).alloc (.cells #[.string ⟨#[]⟩] 9)) := ((Keep.alloc1 _ _).alloc _).alloc _
        have e0 : (((wq.alloc (.cells #[.int .i64 0] 3)).alloc (.cells #[.int .i64 0] 3)).alloc (.cells #[.string ⟨#[]⟩] 9)).heap[wq.heap.size]? = some (.cells #[.int .i64 0] 3 (0, 0)) := (Below.heap_alloc _ _ _ (by simp only [World.size_alloc]; omega)).trans ((Below.heap_alloc _ _ _ (by simp)).trans (heap_alloc_new _ _))
        have e1 : (((wq.alloc (.cells #[.int .i64 0] 3)).alloc (.cells #[.int .i64 0] 3)).alloc (.cells #[.string ⟨#[]⟩] 9)).heap[wq.heap.size + 1]? = some (.cells #[.int .i64 0] 3 (0, 0)) := (Below.heap_alloc _ _ _ (by simp)).trans (by have := heap_alloc_new (wq.alloc (.cells #[.int .i64 0] 3)) (.cells #[.int .i64 0] 3); rwa [World.size_alloc] at this)
        have e2 : (((wq.alloc (.cells #[.int .i64 0] 3)).alloc (.cells #[.int .i64 0] 3)).alloc (.cells #[.string ⟨#[]⟩] 9)).heap[wq.heap.size + 2]? = some (.cells #[.string ⟨#[]⟩] 9 (0, 0)) := by have := heap_alloc_new ((wq.alloc (.cells #[.int .i64 0] 3)).alloc (.cells #[.int .i64 0] 3)) (.cells #[.string ⟨#[]⟩] 9); rwa [World.size_alloc, World.size_alloc] at this
        obtain ⟨l1, l2, l3, l4⟩ := HTq.out.lt
        exact ⟨HTq.out.keep0 kk, e0, e1, e2, HQ5.out.1.keep0 kk, HQ5.out.2.keep0 kk, ⟨l1, l2, l3, l4, HQ5.out.1.lt.1, HQ5.out.1.lt.2, HQ5.out.2.lt.1, HQ5.out.2.lt.2, by simp only [World.size_alloc]; omega, HTq.out.kp.size⟩, Nat.le_refl _⟩
      try simp only [Nat.add_assoc, Nat.reduceAdd]
      generalize ((wq.alloc (.cells #[.int .i64 0] 3)).alloc (.cells #[.int .i64 0] 3)).alloc (.cells #[.string ⟨#[]⟩] 9) = w8 at *
      generalize wq.heap.size = N at *
      clear HTq HQ5
      refine range_ss (B1 := A1) (B2 := A2) (L := L) (w := w8) rfl rfl HT1.out.all
        (fun pre W => ∃ z, T1 w x bx bq bs b L A1 A2 F1 F2 N w8.heap.size pre.length (rnkS pre x) z W ∧ ∀ h : pre ≠ [], pre.getLast h = z) (fun c p W => ¬ p <+: L)
        (fun s A B row hs hg hr => by obtain ⟨z, h1, h2⟩ := hs; exact ⟨z, h1.grow hg (fun r e => hr r e), h2⟩) (fun c s A B row hs hg hr => hs)
        ⟨⟨#[]⟩, HT1.out, fun h => absurd rfl h⟩
        (fun W => ∃ z, T1 w x bx bq bs b L A1 A2 F1 F2 N w8.heap.size L.length (rnkS L x) z W) (fun _ => False) (fun W h => by obtain ⟨z, h1, _⟩ := h; exact ⟨z, h1⟩) (fun c pre W hp h => absurd hp h) ?fr ?assign ?body ?rest ?ret
      case ret => rintro D W hD hF; cases hF
      case assign =>
        intro l9 y W K hK
        gi_wp2
        exact hK
      case body =>
        rintro l9 pre y W hl9 ⟨z, hT, hz⟩ hpl
        have HI : Hid (T1 w x bx bq bs b L A1 A2 F1 F2 N w8.heap.size pre.length (rnkS pre x) z W) := hT
        have HZ : Hid (∀ h : pre ≠ [], pre.getLast h = z) := hz
        obtain ⟨cx, cs, cq, fq⟩ := hT.tk.cells
        obtain ⟨⟨cn, cm, cz⟩, fn, fm, fz⟩ := hT.cells
        have HRs : Hid (RisS L) := hT.tk.sh.ris
        have hN3 := hT.lt
        have HN3 : Hid (type_of% hN3) := hN3
        have hrk := rnkS_le pre x
        have HLp : Hid (pre.length < L.length ∧ rnkS pre x ≤ pre.length) := ⟨hpl, hrk⟩
        have hp0 : (0 : Int) ≤ (pre.length : Int) := by omega
        have hm0 : (0 : Int) ≤ (rnkS pre x : Int) := by omega
        have hpz : (pre.length : Int) ≤ 8796093022208 := by have := HLL.out; omega
        have hmz : (rnkS pre x : Int) ≤ 8796093022208 := by have := HLL.out; omega
        have HNo : Hid ((pre ≠ [] ∧ lts z y = false) → ¬ (pre ++ [y]) <+: L) := fun ⟨hne, hf⟩ hp => by
          have h1 := List.Pairwise.sublist hp.sublist HRs.out
          have h2 := (List.pairwise_append.1 h1).2.2 _ (List.getLast_mem hne) y (by simp)
          rw [HZ.out hne, hf] at h2
          cases h2
        clear hT hz hN3 hrk hpl
        -- the way on, given what is below
        by_cases hne : pre = []
        · have hnp : ¬ (0 : Int) < (pre.length : Int) := by rw [hne]; simp
          clear hne
          cases hg : lts y x with
          | true =>
            have g1 : Op.bytesLess (ByteArray.toList y) (ByteArray.toList x) = false := lts_asym hg
            have g2 : (ByteArray.toList y == ByteArray.toList x) = false := by
              rw [beq_eq_false_iff_ne]
              intro e
              rw [st_inj e, lts_irr] at hg
              cases hg
            have HG : Hid (lts y x = true) := hg
            clear hg
            gi_wp2
            exact step1_yes HI.out HG.out y _ _ (by simp) (by simp)
          | false =>
            have HG : Hid (lts y x = false) := hg
            cases hg2 : Op.bytesLess (ByteArray.toList y) (ByteArray.toList x) with
            | true =>
              clear hg
              gi_wp2
              exact step1_no HI.out HG.out y _ (by simp)
            | false =>
              obtain rfl : y = x := by
                refine lts_tri hg ?_
                exact hg2
              clear hg
              gi_wp2
              exact step1_no HI.out HG.out y _ (by simp)
        · have hnp : (0 : Int) < (pre.length : Int) := by have := List.length_pos_iff.2 hne; omega
          cases he : lts z y with
          | true =>
            have e1 : Op.bytesLess (ByteArray.toList z) (ByteArray.toList y) = false := lts_asym he
            have e2 : (ByteArray.toList z == ByteArray.toList y) = false := by
              rw [beq_eq_false_iff_ne]
              intro e
              rw [st_inj e, lts_irr] at he
              cases he
            clear he hne
            cases hg : lts y x with
            | true =>
              have g1 : Op.bytesLess (ByteArray.toList y) (ByteArray.toList x) = false := lts_asym hg
              have g2 : (ByteArray.toList y == ByteArray.toList x) = false := by
                rw [beq_eq_false_iff_ne]
                intro e
                rw [st_inj e, lts_irr] at hg
                cases hg
              have HG : Hid (lts y x = true) := hg
              clear hg
              gi_wp2
              exact step1_yes HI.out HG.out y _ _ (by simp) (by simp)
            | false =>
              have HG : Hid (lts y x = false) := hg
              cases hg2 : Op.bytesLess (ByteArray.toList y) (ByteArray.toList x) with
              | true =>
                clear hg
                gi_wp2
                exact step1_no HI.out HG.out y _ (by simp)
              | false =>
                obtain rfl : y = x := by
                  refine lts_tri hg ?_
                  exact hg2
                clear hg
                gi_wp2
                exact step1_no HI.out HG.out y _ (by simp)
          | false =>
            have HNp := HNo.out ⟨hne, he⟩
            have HNq : Hid (type_of% HNp) := HNp
            have hq3 := HN3.out
            cases he2 : Op.bytesLess (ByteArray.toList z) (ByteArray.toList y) with
            | true =>
              clear he hne HNp
              gi_wp2
              exact ⟨Keep.from (R := [bq]) ((Keep.refl _ W).setCell (.inl (by simp)) _) (by intro r hr; simp at hr; omega), HNq.out⟩
            | false =>
              obtain rfl : z = y := lts_tri he he2
              clear he hne HNp
              gi_wp2
              exact ⟨Keep.from (R := [bq]) ((Keep.refl _ W).setCell (.inl (by simp)) _) (by intro r hr; simp at hr; omega), HNq.out⟩
      case rest =>
        rintro D W hD ⟨z, hT⟩ hK
        have HI : Hid (T1 w x bx bq bs b L A1 A2 F1 F2 N w8.heap.size L.length (rnkS L x) z W) := hT
        have HD : Hid (W.heap[D]? = some (.deferred (some []))) := hK
        have HDw : Hid (w8.heap.size ≤ D) := hD
        clear hT hK
        go_wp2_with fail
        have kk := Keep.alloc1 W (.cells #[.int .i64 0] 3)
        have HI2 : Hid (T1 w x bx bq bs b L A1 A2 F1 F2 N w8.heap.size L.length (rnkS L x) z (W.alloc (.cells #[.int .i64 0] 3))) := HI.out.keep0 kk
        have hkb : (W.alloc (.cells #[.int .i64 0] 3)).heap[W.heap.size]? = some (.cells #[.int .i64 0] 3 (0, 0)) := heap_alloc_new _ _
        have HKb : Hid (type_of% hkb) := hkb
        have HD2 : Hid ((W.alloc (.cells #[.int .i64 0] 3)).heap[D]? = some (.deferred (some []))) := (kk.block _ (Array.getElem?_eq_some_iff.1 HD.out).1 (by simp)).trans HD.out
        have HBM : Hid (w8.heap.size ≤ W.heap.size ∧ W.heap.size < (W.alloc (.cells #[.int .i64 0] 3)).heap.size) := ⟨HI.out.hM, by simp⟩
        clear HI HD kk hkb
        generalize W.alloc (.cells #[.int .i64 0] 3) = w9 at *
        generalize W.heap.size = bk at *
        have HDl : Hid (D < w9.heap.size) := (Array.getElem?_eq_some_iff.1 HD2.out).1
        refine range_ss (B1 := F1) (B2 := F2) (L := (L.drop (rnkS L x))) (w := w9) rfl rfl HI2.out.frm
          (fun pre W => T1 w x bx bq bs b L A1 A2 F1 F2 N w8.heap.size L.length (rnkS L x) z W ∧ W.heap[bk]? = some (.cells #[.int .i64 (pre.length : Int)] 3 (0, 0)) ∧ W.heap[D]? = some (.deferred (some []))) (fun c p W => ¬ p <+: (L.drop (rnkS L x)))
          (fun s A B row hs hg hr => ⟨hs.1.grow hg (fun r e => ⟨by have := (hr r e).1; have := HBM.out; omega, (hr r e).2⟩), ((Keep.grown hg).block _ (Array.getElem?_eq_some_iff.1 hs.2.1).1 (fun hm => by have := (hr bk (by simpa using hm)).1; have := HBM.out; omega)).trans hs.2.1, ((Keep.grown hg).block _ (Array.getElem?_eq_some_iff.1 hs.2.2).1 (fun hm => by have := (hr D (by simpa using hm)).1; have := HDl.out; omega)).trans hs.2.2⟩) (fun c s A B row hs hg hr => hs)
          ⟨HI2.out, HKb.out, HD2.out⟩
          (fun W => T1 w x bx bq bs b L A1 A2 F1 F2 N w8.heap.size L.length (rnkS L x) z W ∧ W.heap[bk]? = some (.cells #[.int .i64 ((L.drop (rnkS L x)).length : Int)] 3 (0, 0)) ∧ W.heap[D]? = some (.deferred (some []))) (fun _ => False) (fun W h => h) (fun c pre W hp h => absurd hp h) ?fr2 ?assign2 ?body2 ?rest2 ?ret2
        case ret2 => rintro D W hD hF; cases hF
        case assign2 =>
          intro l9 y W K hK
          gi_wp2
          exact hK
        case body2 =>
          rintro l9 pre y W hl9 ⟨hT, hkb, hD9⟩ hpl
          have HI : Hid (T1 w x bx bq bs b L A1 A2 F1 F2 N w8.heap.size L.length (rnkS L x) z W ∧ W.heap[bk]? = some (.cells #[.int .i64 (pre.length : Int)] 3 (0, 0)) ∧ W.heap[D]? = some (.deferred (some []))) := ⟨hT, hkb, hD9⟩
          obtain ⟨cx, cs, cq, fq⟩ := hT.tk.cells
          obtain ⟨⟨cn, cm, cz⟩, fn, fm, fz⟩ := hT.cells
          have ck := one_cellS hkb
          have fk := one_freeS hkb
          have HN3 : Hid (type_of% hT.lt) := hT.lt
          have hlen : rnkS L x + pre.length < L.length := by rw [List.length_drop] at hpl; omega
          have HLp : Hid (rnkS L x + pre.length < L.length) := hlen
          have HNt : Hid (∀ w9 z, Keep [] W w9 → z = ((rnkS L x + pre.length : Nat) : Int) → Calls Try.prog 41 #[vA b, .int .i64 z] w9 fun e w' => e = .returned (.tuple #[vT L[rnkS L x + pre.length], .bool true]) ∧ Keep [] w9 w') := fun w9 z kk hz => by
            subst hz
            exact snth_in b L (rnkS L x + pre.length) w9 (hT.tk.sh.keep0 kk) (by have := HLL.out; omega) hlen
          have HNo : Hid ((y ≠ L[rnkS L x + pre.length] ∨ lts y x = true) → ¬ (pre ++ [y]) <+: (L.drop (rnkS L x))) := fun hor hp => by
            rcases hor with h1 | h1
            · apply h1
              obtain ⟨t, ht⟩ := hp
              have h2 : (pre ++ [y] ++ t)[pre.length]'(by simp) = (L.drop (rnkS L x))[pre.length] := by simp only [ht]
              rw [List.getElem_drop] at h2
              have h4 : (pre ++ [y] ++ t)[pre.length]'(by simp) = y := by simp
              exact h4.symm.trans h2
            · obtain ⟨P, S, e, hP, hl1, hl2⟩ := risS_low hT.tk.sh.ris x
              have hd : (L.drop (rnkS L x)) = S := by rw [← hP]; conv => lhs; rw [e]; simp
              have h3 := hl2 y (by rw [← hd]; exact hp.subset (by simp))
              rw [h1] at h3
              cases h3
          have hr0 : (0 : Int) ≤ (rnkS L x : Int) := by omega
          have hp0 : (0 : Int) ≤ (pre.length : Int) := by omega
          have hrz : (rnkS L x : Int) + (pre.length : Int) ≤ 8796093022208 := by have := HLL.out; omega
          have hq3 := HN3.out
          generalize L[rnkS L x + pre.length] = q at *
          clear hT hkb hD9 hpl hlen
          refine wpIn_block (wpIn_seq (wpIn_seq (wpIn_region_seqP (by kernel_rfl) ?_)))
          go_wp2_with fail
          refine (HNt.out _ _ (Keep.refl [] _) (by first | omega | (rw [wrap_ok _ (by omega) (by omega)]; omega))).mono ?_
          clear HNt
          rintro e w5 ⟨rfl, k5⟩
          go_wp2
          refine ⟨rfl, ?_⟩
          simp only [Exit.then]
          have HI5 : Hid (T1 w x bx bq bs b L A1 A2 F1 F2 N w8.heap.size L.length (rnkS L x) z w5 ∧ w5.heap[bk]? = some (.cells #[.int .i64 (pre.length : Int)] 3 (0, 0)) ∧ w5.heap[D]? = some (.deferred (some []))) := ⟨HI.out.1.keep0 k5, (k5.block _ (Array.getElem?_eq_some_iff.1 HI.out.2.1).1 (by simp)).trans HI.out.2.1, (k5.block _ (Array.getElem?_eq_some_iff.1 HI.out.2.2).1 (by simp)).trans HI.out.2.2⟩
          have HK5 : Hid (Keep [] W w5) := k5
          clear cx cs cq fq cn cm cz fn fm fz ck fk k5 HI hrz
          obtain ⟨cx, cs, cq, fq⟩ := HI5.out.1.tk.cells
          have ck := one_cellS HI5.out.2.1
          have fk := one_freeS HI5.out.2.1
          have hp1 : (pre.length : Int) ≤ 8796093022208 := by have := HLL.out; have := HLp.out; omega
          have hBM := HBM.out
          cases he : (ByteArray.toList q == ByteArray.toList y) with
          | false =>
            have HNp : Hid (¬ (pre ++ [y]) <+: (L.drop (rnkS L x))) := HNo.out (.inl (fun e => by rw [← e] at he; simp at he))
            gi_wp2
            exact ⟨Keep.from (R := [bq]) ((HK5.out.mono (by simp)).setCell (.inl (by simp)) _) (by intro r hr; simp at hr; omega), HNp.out⟩
          | true =>
            obtain rfl : q = y := st_inj (by simpa using he)
            clear he
            cases hg : lts q x with
            | true =>
              have HNp : Hid (¬ (pre ++ [q]) <+: (L.drop (rnkS L x))) := HNo.out (.inr hg)
              have g1 : Op.bytesLess (ByteArray.toList q) (ByteArray.toList x) = false := lts_asym hg
              have g2 : (ByteArray.toList q == ByteArray.toList x) = false := by
                rw [beq_eq_false_iff_ne]
                intro e
                rw [st_inj e, lts_irr] at hg
                cases hg
              clear hg
              gi_wp2
              exact ⟨Keep.from (R := [bq]) ((HK5.out.mono (by simp)).setCell (.inl (by simp)) _) (by intro r hr; simp at hr; omega), HNp.out⟩
            | false =>
              cases hg2 : Op.bytesLess (ByteArray.toList q) (ByteArray.toList x) with
              | true =>
                clear hg
                gi_wp2
                exact step2 HI5.out.1 HI5.out.2.1 HI5.out.2.2 HBM.out.1 HBM.out.2 HK5.out _ (by simp)
              | false =>
                obtain rfl : q = x := lts_tri hg hg2
                clear hg
                gi_wp2
                exact step2 HI5.out.1 HI5.out.2.1 HI5.out.2.2 HBM.out.1 HBM.out.2 HK5.out _ (by simp)
        case rest2 =>
          rintro D2 W hD2 ⟨hT, hkb, hD9⟩ hK2
          have HI : Hid (T1 w x bx bq bs b L A1 A2 F1 F2 N w8.heap.size L.length (rnkS L x) z W) := hT
          have HDD : Hid (W.heap[D]? = some (.deferred (some [])) ∧ W.heap[D2]? = some (.deferred (some [])) ∧ w9.heap.size ≤ D2) := ⟨hD9, hK2, hD2⟩
          obtain ⟨cx, cs, cq, fq⟩ := hT.tk.cells
          obtain ⟨⟨cn, cm, cz⟩, fn, fm, fz⟩ := hT.cells
          have ck := one_cellS hkb
          have hrl := rnkS_le L x
          have hfl : (L.drop (rnkS L x)).length = L.length - rnkS L x := List.length_drop
          obtain ⟨fl, HFl⟩ : ∃ fl : Nat, Hid (fl = (L.drop (rnkS L x)).length) := ⟨_, show _ = _ from rfl⟩
          rw [← HFl.out] at ck hfl
          have hsum : (rnkS L x : Int) + (fl : Int) = (L.length : Int) := by omega
          have hsumN : rnkS L x + fl = L.length := by omega
          have HRk : Hid (∀ w9, Keep [] W w9 → Calls Try.prog 43 #[vA b, vT x] w9 fun e w' => e = .returned (.int .i64 (rnkS L x : Int)) ∧ Keep [] w9 w') := fun w9 kk => sshRank_any b L x w9 (hT.tk.sh.keep0 kk) (by have := HLL.out; omega)
          have HLe : Hid (∀ w9, Keep [] W w9 → Calls Try.prog 42 #[vA b] w9 fun e w' => e = .returned (.int .i64 (L.length : Int)) ∧ w9 = w') := fun w9 kk => slen_any b L w9 (hT.tk.sh.keep0 kk)
          have hr0 : (0 : Int) ≤ (rnkS L x : Int) := by omega
          have hf0 : (0 : Int) ≤ (fl : Int) := by omega
          have hLz : (L.length : Int) ≤ 8796093022208 := by have := HLL.out; omega
          have hrz : (rnkS L x : Int) ≤ 8796093022208 := by omega
          have hfz : (fl : Int) ≤ 8796093022208 := by omega
          have hwL : IntKind.i64.wrap (L.length : Int) = (L.length : Int) := wrap_ok _ (by omega) (by omega)
          clear hT hkb hD9 hK2 hfl hrl cz fn fm fz
          go_wp2_with fail
          refine wp_region_heldP (S := (fun w' : World => w'.cell? ⟨N, 0, none⟩ = some (.int .i64 (L.length : Int)) ∧ w'.cell? ⟨N + 1, 0, none⟩ = some (.int .i64 (rnkS L x : Int)) ∧ w'.cell? ⟨bk, 0, none⟩ = some (.int .i64 (fl : Int)) ∧ w'.cell? ⟨bs, 0, none⟩ = some (vA b) ∧ w'.cell? ⟨bx, 0, none⟩ = some (.string x))) (by kernel_rfl) (⟨cn, cm, ck, cs, cx⟩) (fun hHeld => ?_)
          try dsimp only at hHeld
          refine wpAnyH_take (i := 0) (oi := { dst := some 110, op := Go.Op.load 3 (Go.Operand.tmp 11), type := 3, pos := "outright.go:220", after := #[], guard := none }) (v := ?_) rfl (by kernel_rfl) (by kernel_rfl) (by kernel_rfl) (fun _ _ _ => plain_panic) (Or.inl ⟨by rfl, ?_⟩) (by assumption) ?_
          rotate_left
          · intro w7 hSw
            try dsimp only at hSw
            first | (go_simp; done) | (go_simp; with_reducible rfl)
          try simp only [Act.put, List.setIfInBounds_toArray, List.set_cons_zero, List.set_cons_succ]
          refine wpAnyH_take (i := 1) (oi := { dst := some 111, op := Go.Op.load 67 (Go.Operand.tmp 5), type := 67, pos := "outright.go:220", after := #[], guard := none }) (v := ?_) rfl (by kernel_rfl) (by kernel_rfl) (by kernel_rfl) (fun _ _ _ => plain_panic) (Or.inl ⟨by rfl, ?_⟩) (by assumption) ?_
          rotate_left
          · intro w7 hSw
            try dsimp only at hSw
            first | (go_simp; done) | (go_simp; with_reducible rfl)
          try simp only [Act.put, List.setIfInBounds_toArray, List.set_cons_zero, List.set_cons_succ]
          refine wpAnyH_ready (rs := [2]) (by kernel_rfl) (by simp) ?_
          refine AllReadyH.cons (o := { dst := some 112, op := Go.Op.call { callee := Go.Callee.value (Go.Operand.func 42), args := #[Go.Operand.tmp 111], argTypes := #[67] }, type := 3, pos := "outright.go:220", after := #[{ on := 1, ground := Go.Ground.data }], guard := none }) rfl (fun K hK => ?_) AllReadyH.nil
          go_simp
          refine (HLe.out _ (Keep.refl [] _).drew).mono ?_; rintro e w5 ⟨rfl, rfl⟩
          go_wp2_with fail
          refine hK.out _ _ (hHeld) (fun hHeld2 => ?_)
          try dsimp only at hHeld2
          clear hK hHeld
          have hHeld := hHeld2
          clear hHeld2
          try simp only [Act.put, List.setIfInBounds_toArray, List.set_cons_zero, List.set_cons_succ]
          refine wpAnyH_take (i := 3) (oi := { dst := some 113, op := Go.Op.binOp Go.BinOp.neq 3 (Go.Operand.tmp 110) (Go.Operand.tmp 112) 3, type := 4, pos := "outright.go:220", after := #[{ on := 0, ground := Go.Ground.data }, { on := 2, ground := Go.Ground.data }], guard := none }) (v := ?_) rfl (by kernel_rfl) (by kernel_rfl) (by kernel_rfl) (fun _ _ _ => plain_panic) (Or.inl ⟨by rfl, ?_⟩) (by assumption) ?_
          rotate_left
          · intro w7 hSw
            try dsimp only at hSw
            first | (go_simp; done) | (go_simp; with_reducible rfl)
          try simp only [Act.put, List.setIfInBounds_toArray, List.set_cons_zero, List.set_cons_succ]
          refine wpAnyH_take (i := 4) (oi := { dst := some 114, op := Go.Op.move (Go.Operand.tmp 113), type := 4, pos := "outright.go:220", after := #[{ on := 3, ground := Go.Ground.data }, { on := 2, ground := Go.Ground.chain }], guard := none }) (v := ?_) rfl (by kernel_rfl) (by kernel_rfl) (by kernel_rfl) (fun _ _ _ => plain_panic) (Or.inl ⟨by rfl, ?_⟩) (by assumption) ?_
          rotate_left
          · intro w7 hSw
            try dsimp only at hSw
            first | (go_simp; done) | (go_simp; with_reducible rfl)
          try simp only [Act.put, List.setIfInBounds_toArray, List.set_cons_zero, List.set_cons_succ]
          refine wpAnyH_take (i := 5) (oi := { dst := some 115, op := Go.Op.load 3 (Go.Operand.tmp 12), type := 3, pos := "outright.go:220", after := #[{ on := 4, ground := Go.Ground.guard }], guard := some (4, false) }) (v := ?_) rfl (by kernel_rfl) (by kernel_rfl) (by kernel_rfl) (fun _ _ _ => plain_panic) (Or.inl ⟨by rfl, ?_⟩) (by assumption) ?_
          rotate_left
          · intro w7 hSw
            try dsimp only at hSw
            first | (go_simp; done) | (go_simp; with_reducible rfl)
          try simp only [Act.put, List.setIfInBounds_toArray, List.set_cons_zero, List.set_cons_succ]
          refine wpAnyH_take (i := 6) (oi := { dst := some 116, op := Go.Op.load 3 (Go.Operand.tmp 15), type := 3, pos := "outright.go:220", after := #[{ on := 4, ground := Go.Ground.guard }], guard := some (4, false) }) (v := ?_) rfl (by kernel_rfl) (by kernel_rfl) (by kernel_rfl) (fun _ _ _ => plain_panic) (Or.inl ⟨by rfl, ?_⟩) (by assumption) ?_
          rotate_left
          · intro w7 hSw
            try dsimp only at hSw
            first | (go_simp; done) | (go_simp; with_reducible rfl)
          try simp only [Act.put, List.setIfInBounds_toArray, List.set_cons_zero, List.set_cons_succ]
          refine wpAnyH_take (i := 7) (oi := { dst := some 117, op := Go.Op.binOp Go.BinOp.add 3 (Go.Operand.tmp 115) (Go.Operand.tmp 116) 3, type := 3, pos := "outright.go:220", after := #[{ on := 5, ground := Go.Ground.data }, { on := 6, ground := Go.Ground.data }, { on := 4, ground := Go.Ground.guard }], guard := some (4, false) }) (v := ?_) rfl (by kernel_rfl) (by kernel_rfl) (by kernel_rfl) (fun _ _ _ => plain_panic) (Or.inl ⟨by rfl, ?_⟩) (by assumption) ?_
          rotate_left
          · intro w7 hSw
            try dsimp only at hSw
            first | (go_simp; done) | (go_simp; with_reducible rfl)
          try simp only [Act.put, List.setIfInBounds_toArray, List.set_cons_zero, List.set_cons_succ]
          refine wpAnyH_take (i := 8) (oi := { dst := some 118, op := Go.Op.load 3 (Go.Operand.tmp 11), type := 3, pos := "outright.go:220", after := #[{ on := 4, ground := Go.Ground.guard }], guard := some (4, false) }) (v := ?_) rfl (by kernel_rfl) (by kernel_rfl) (by kernel_rfl) (fun _ _ _ => plain_panic) (Or.inl ⟨by rfl, ?_⟩) (by assumption) ?_
          rotate_left
          · intro w7 hSw
            try dsimp only at hSw
            first | (go_simp; done) | (go_simp; with_reducible rfl)
          try simp only [Act.put, List.setIfInBounds_toArray, List.set_cons_zero, List.set_cons_succ]
          refine wpAnyH_take (i := 9) (oi := { dst := some 119, op := Go.Op.binOp Go.BinOp.neq 3 (Go.Operand.tmp 117) (Go.Operand.tmp 118) 3, type := 4, pos := "outright.go:220", after := #[{ on := 7, ground := Go.Ground.data }, { on := 8, ground := Go.Ground.data }, { on := 4, ground := Go.Ground.guard }], guard := some (4, false) }) (v := ?_) rfl (by kernel_rfl) (by kernel_rfl) (by kernel_rfl) (fun _ _ _ => plain_panic) (Or.inl ⟨by rfl, ?_⟩) (by assumption) ?_
          rotate_left
          · intro w7 hSw
            try dsimp only at hSw
            first | (go_simp; done) | (go_simp; with_reducible rfl)
          try simp only [Act.put, List.setIfInBounds_toArray, List.set_cons_zero, List.set_cons_succ]
          refine wpAnyH_take (i := 10) (oi := { dst := some 120, op := Go.Op.pick (Go.Operand.tmp 114) (Go.Operand.const (Go.Value.bool true)) (Go.Operand.tmp 119), type := 4, pos := "outright.go:220", after := #[{ on := 4, ground := Go.Ground.data }, { on := 9, ground := Go.Ground.data }], guard := none }) (v := ?_) rfl (by kernel_rfl) (by kernel_rfl) (by kernel_rfl) (fun _ _ _ => plain_panic) (Or.inl ⟨by rfl, ?_⟩) (by assumption) ?_
          rotate_left
          · intro w7 hSw
            try dsimp only at hSw
            first | (go_simp; done) | (go_simp; with_reducible rfl)
          try simp only [Act.put, List.setIfInBounds_toArray, List.set_cons_zero, List.set_cons_succ]
          refine wpAnyH_take (i := 11) (oi := { dst := some 121, op := Go.Op.move (Go.Operand.tmp 120), type := 4, pos := "outright.go:220", after := #[{ on := 10, ground := Go.Ground.data }, { on := 4, ground := Go.Ground.chain }], guard := none }) (v := ?_) rfl (by kernel_rfl) (by kernel_rfl) (by kernel_rfl) (fun _ _ _ => plain_panic) (Or.inl ⟨by rfl, ?_⟩) (by assumption) ?_
          rotate_left
          · intro w7 hSw
            try dsimp only at hSw
            first | (go_simp; done) | (go_simp; with_reducible rfl)
          try simp only [Act.put, List.setIfInBounds_toArray, List.set_cons_zero, List.set_cons_succ]
          refine wpAnyH_take (i := 12) (oi := { dst := some 122, op := Go.Op.load 67 (Go.Operand.tmp 5), type := 67, pos := "outright.go:220", after := #[{ on := 11, ground := Go.Ground.guard }], guard := some (11, false) }) (v := ?_) rfl (by kernel_rfl) (by kernel_rfl) (by kernel_rfl) (fun _ _ _ => plain_panic) (Or.inl ⟨by rfl, ?_⟩) (by assumption) ?_
          rotate_left
          · intro w7 hSw
            try dsimp only at hSw
            first | (go_simp; done) | (go_simp; with_reducible rfl)
          try simp only [Act.put, List.setIfInBounds_toArray, List.set_cons_zero, List.set_cons_succ]
          refine wpAnyH_take (i := 13) (oi := { dst := some 123, op := Go.Op.load 9 (Go.Operand.tmp 3), type := 9, pos := "outright.go:220", after := #[{ on := 11, ground := Go.Ground.guard }], guard := some (11, false) }) (v := ?_) rfl (by kernel_rfl) (by kernel_rfl) (by kernel_rfl) (fun _ _ _ => plain_panic) (Or.inl ⟨by rfl, ?_⟩) (by assumption) ?_
          rotate_left
          · intro w7 hSw
            try dsimp only at hSw
            first | (go_simp; done) | (go_simp; with_reducible rfl)
          try simp only [Act.put, List.setIfInBounds_toArray, List.set_cons_zero, List.set_cons_succ]
          refine wpAnyH_take (i := 15) (oi := { dst := some 125, op := Go.Op.load 3 (Go.Operand.tmp 12), type := 3, pos := "outright.go:220", after := #[{ on := 11, ground := Go.Ground.guard }], guard := some (11, false) }) (v := ?_) rfl (by kernel_rfl) (by kernel_rfl) (by kernel_rfl) (fun _ _ _ => plain_panic) (Or.inl ⟨by rfl, ?_⟩) (by assumption) ?_
          rotate_left
          · intro w7 hSw
            try dsimp only at hSw
            first | (go_simp; done) | (go_simp; with_reducible rfl)
          try simp only [Act.put, List.setIfInBounds_toArray, List.set_cons_zero, List.set_cons_succ]
          refine wpAnyH_ready (rs := [14]) (by kernel_rfl) (by simp) ?_
          refine AllReadyH.cons (o := { dst := some 124, op := Go.Op.call { callee := Go.Callee.value (Go.Operand.func 43), args := #[Go.Operand.tmp 122, Go.Operand.tmp 123], argTypes := #[67, 9] }, type := 3, pos := "outright.go:220", after := #[{ on := 12, ground := Go.Ground.data }, { on := 13, ground := Go.Ground.data }, { on := 11, ground := Go.Ground.chain }, { on := 11, ground := Go.Ground.guard }], guard := some (11, false) }) rfl (fun K hK => ?_) AllReadyH.nil
          go_simp
          refine (HRk.out _ (Keep.refl [] _).drew).mono ?_; rintro e w6 ⟨rfl, k6⟩
          go_wp2_with fail
          refine hK.out _ _ (⟨k6.cell' hHeld.1 (by simp), k6.cell' hHeld.2.1 (by simp), k6.cell' hHeld.2.2.1 (by simp), k6.cell' hHeld.2.2.2.1 (by simp), k6.cell' hHeld.2.2.2.2 (by simp)⟩) (fun hHeld2 => ?_)
          try dsimp only at hHeld2
          clear hK hHeld
          have hHeld := hHeld2
          clear hHeld2
          try simp only [Act.put, List.setIfInBounds_toArray, List.set_cons_zero, List.set_cons_succ]
          refine wpAnyH_take (i := 16) (oi := { dst := some 126, op := Go.Op.binOp Go.BinOp.neq 3 (Go.Operand.tmp 124) (Go.Operand.tmp 125) 3, type := 4, pos := "outright.go:220", after := #[{ on := 14, ground := Go.Ground.data }, { on := 15, ground := Go.Ground.data }, { on := 11, ground := Go.Ground.guard }], guard := some (11, false) }) (v := ?_) rfl (by kernel_rfl) (by kernel_rfl) (by kernel_rfl) (fun _ _ _ => plain_panic) (Or.inl ⟨by rfl, ?_⟩) (by assumption) ?_
          rotate_left
          · intro w7 hSw
            try dsimp only at hSw
            first | (go_simp; done) | (go_simp; with_reducible rfl)
          try simp only [Act.put, List.setIfInBounds_toArray, List.set_cons_zero, List.set_cons_succ]
          refine wpAnyH_take (i := 17) (oi := { dst := some 127, op := Go.Op.pick (Go.Operand.tmp 121) (Go.Operand.const (Go.Value.bool true)) (Go.Operand.tmp 126), type := 4, pos := "outright.go:220", after := #[{ on := 11, ground := Go.Ground.data }, { on := 16, ground := Go.Ground.data }], guard := none }) (v := ?_) rfl (by kernel_rfl) (by kernel_rfl) (by kernel_rfl) (fun _ _ _ => plain_panic) (Or.inl ⟨by rfl, ?_⟩) (by assumption) ?_
          rotate_left
          · intro w7 hSw
            try dsimp only at hSw
            first | (go_simp; done) | (go_simp; with_reducible rfl)
          try simp only [Act.put, List.setIfInBounds_toArray, List.set_cons_zero, List.set_cons_succ]
          refine wpAnyH_done (by kernel_rfl) ⟨rfl, ?_⟩ _
          clear hsum hsumN hwL hHeld
          have K6 : Keep [] W w6 := (Keep.refl [] _).drew.trans' k6
          have HQ0 : Hid (Tk w x bx bq bs b L w6 ∧ w6.heap[D]? = some (.deferred (some [])) ∧ w6.heap[D2]? = some (.deferred (some []))) := ⟨HI.out.tk.keep0 K6, (K6.block _ (Array.getElem?_eq_some_iff.1 HDD.out.1).1 (by simp)).trans HDD.out.1, (K6.block _ (Array.getElem?_eq_some_iff.1 HDD.out.2.1).1 (by simp)).trans HDD.out.2.1⟩
          have HDb : Hid (D ≠ b ∧ D2 ≠ b ∧ D ≠ bq ∧ D2 ≠ bq ∧ w.heap.size ≤ D ∧ w.heap.size ≤ D2 ∧ D ≠ D2) := by
            have h1 := HI.out.lt
            have h2 := HDw.out
            have h3 := HDD.out
            have h4 := HBM.out
            have h5 := HDl.out
            show _ ∧ _
            omega
          clear K6 k6 cx cs cq fq cn cm ck HLe HRk
          go_wp2_with fail
          go_loopw [19] (fun iv wr => ∃ i : Nat, iv = .int .i64 (i : Int) ∧ i ≤ l.length ∧ ∃ L', Hid (Tk w x bx bq bs b L' wr ∧ (∀ y, y ∈ L' ↔ y ∈ l ∧ y ∉ l.take i) ∧ L'.length ≤ L.length ∧ wr.heap[D]? = some (.deferred (some [])) ∧ wr.heap[D2]? = some (.deferred (some [])))) (fun iv _ => l.length - (intOf iv).toNat)
          case atStart => exact ⟨0, rfl, Nat.zero_le _, L, HQ0.out.1, fun y => by rw [HMm.out.1]; simp, Nat.le_refl _, HQ0.out.2.1, HQ0.out.2.2⟩
          case round =>
            obtain ⟨i, rfl, hi, L', HJ⟩ := hrel
            clear HQ0
            by_cases hlt : i < l.length
            · have hlti : (i : Int) < (l.length : Int) := by omega
              have hi0 : (0 : Int) ≤ (i : Int) := by omega
              obtain ⟨bb, oo, c2, he, hbw, e0⟩ := HV.out.text i hlt
              simp at he
              obtain ⟨rfl, rfl⟩ := he
              have f0 := HJ.out.1.kp.cell' e0 (by simp)
              obtain ⟨_, cs, _, _⟩ := HJ.out.1.cells
              have HLb : Hid (L'.length ≤ 8796093022208) := Nat.le_trans HJ.out.2.2.1 HLL.out
              have HRm : Hid (∀ w9, ShS w9 b L' → Calls Try.prog 44 #[vA b, vT l[i]] w9 fun e w' => (∃ c, e = .returned (.bool c)) ∧ ShS w' b (remS L' l[i]) ∧ Keep [b] w9 w') := fun w9 hs => (srem_any b L' l[i] w9 hs (by have := HLb.out; omega)).mono (fun e w' h => ⟨⟨_, h.1⟩, h.2⟩)
              have HFi : Hid (∀ w9, ShS w9 b (remS L' l[i]) → Calls Try.prog 45 #[vA b, vT l[i]] w9 fun e w' => ∃ z, e = .returned (.tuple #[vT z, .bool false]) ∧ Keep [] w9 w') := fun w9 hs => by
                have h1 := sfind_any b (remS L' l[i]) l[i] w9 hs (by have := remS_len L' l[i]; have := HLb.out; omega)
                have h2 : hasS (remS L' l[i]) l[i] = false := by
                  rw [Bool.eq_false_iff]
                  intro h
                  rw [hasS_iff hs.ris, mem_remS HJ.out.1.sh.ris] at h
                  exact h.2 rfl
                rw [h2] at h1
                exact h1
              have HMe : Hid ((∀ y, y ∈ remS L' l[i] ↔ y ∈ l ∧ y ∉ l.take (i + 1)) ∧ (remS L' l[i]).length ≤ L.length) := ⟨fun y => by
                rw [mem_remS HJ.out.1.sh.ris, HJ.out.2.1, mem_takeS hlt]
                constructor
                · rintro ⟨⟨h1, h2⟩, h3⟩
                  exact ⟨h1, fun h => h.elim h2 h3⟩
                · rintro ⟨h1, h2⟩
                  exact ⟨⟨h1, fun h => h2 (.inl h)⟩, fun h => h2 (.inr h)⟩, Nat.le_trans (remS_len _ _) HJ.out.2.2.1⟩
              have HNb : Hid (bs ≠ b ∧ bb ≠ b) := by
                refine ⟨fun e => ?_, by have := HJ.out.1.ge; have := hbw; omega⟩
                obtain ⟨p, T, a, _⟩ := HJ.out.1.sh.ex
                have h2 := HJ.out.1.hs
                rw [e, a] at h2
                cases h2
              generalize l[i] = li at *
              clear e0
              go_wp2_with fail
              refine wp_region_heldP (S := (fun w' : World => w'.cell? ⟨bs, 0, none⟩ = some (vA b) ∧ w'.cell? ⟨bb, oo + i, none⟩ = some (.string li))) (by kernel_rfl) (⟨cs, f0⟩) (fun hHeld => ?_)
              try dsimp only at hHeld
              refine wpAnyH_take (i := 0) (oi := { dst := some 134, op := Go.Op.load 67 (Go.Operand.tmp 5), type := 67, pos := "outright.go:224", after := #[], guard := none }) (v := ?_) rfl (by kernel_rfl) (by kernel_rfl) (by kernel_rfl) (fun _ _ _ => plain_panic) (Or.inl ⟨by rfl, ?_⟩) (by assumption) ?_
              rotate_left
              · intro w7 hSw
                try dsimp only at hSw
                first | (go_simp; done) | (go_simp; with_reducible rfl)
              try simp only [Act.put, List.setIfInBounds_toArray, List.set_cons_zero, List.set_cons_succ]
              refine wpAnyH_take (i := 1) (oi := { dst := some 135, op := Go.Op.move (Go.Operand.tmp 0), type := 66, pos := "outright.go:224", after := #[], guard := none }) (v := ?_) rfl (by kernel_rfl) (by kernel_rfl) (by kernel_rfl) (fun _ _ _ => plain_panic) (Or.inl ⟨by rfl, ?_⟩) (by assumption) ?_
              rotate_left
              · intro w7 hSw
                try dsimp only at hSw
                first | (go_simp; done) | (go_simp; with_reducible rfl)
              try simp only [Act.put, List.setIfInBounds_toArray, List.set_cons_zero, List.set_cons_succ]
              refine wpAnyH_take (i := 2) (oi := { dst := some 136, op := Go.Op.move (Go.Operand.tmp 19), type := 3, pos := "outright.go:224", after := #[], guard := none }) (v := ?_) rfl (by kernel_rfl) (by kernel_rfl) (by kernel_rfl) (fun _ _ _ => plain_panic) (Or.inl ⟨by rfl, ?_⟩) (by assumption) ?_
              rotate_left
              · intro w7 hSw
                try dsimp only at hSw
                first | (go_simp; done) | (go_simp; with_reducible rfl)
              try simp only [Act.put, List.setIfInBounds_toArray, List.set_cons_zero, List.set_cons_succ]
              refine wpAnyH_take (i := 3) (oi := { dst := some 137, op := Go.Op.indexAddr 66 (Go.Operand.tmp 135) (Go.Operand.tmp 136), type := 0, pos := "outright.go:224", after := #[{ on := 1, ground := Go.Ground.data }, { on := 2, ground := Go.Ground.data }], guard := none }) (v := ?_) rfl (by kernel_rfl) (by kernel_rfl) (by kernel_rfl) (fun _ _ _ => plain_panic) (Or.inl ⟨by rfl, ?_⟩) (by assumption) ?_
              rotate_left
              · intro w7 hSw
                try dsimp only at hSw
                first | (go_simp; done) | (go_simp; with_reducible rfl)
              try simp only [Act.put, List.setIfInBounds_toArray, List.set_cons_zero, List.set_cons_succ]
              refine wpAnyH_take (i := 4) (oi := { dst := some 138, op := Go.Op.load 9 (Go.Operand.tmp 137), type := 9, pos := "outright.go:224", after := #[{ on := 3, ground := Go.Ground.data }], guard := none }) (v := ?_) rfl (by kernel_rfl) (by kernel_rfl) (by kernel_rfl) (fun _ _ _ => plain_panic) (Or.inl ⟨by rfl, ?_⟩) (by assumption) ?_
              rotate_left
              · intro w7 hSw
                try dsimp only at hSw
                first | (go_simp; done) | (go_simp; with_reducible rfl)
              try simp only [Act.put, List.setIfInBounds_toArray, List.set_cons_zero, List.set_cons_succ]
              refine wpAnyH_ready (rs := [5]) (by kernel_rfl) (by simp) ?_
              refine AllReadyH.cons (o := { dst := some 139, op := Go.Op.call { callee := Go.Callee.value (Go.Operand.func 44), args := #[Go.Operand.tmp 134, Go.Operand.tmp 138], argTypes := #[67, 9] }, type := 4, pos := "outright.go:224", after := #[{ on := 0, ground := Go.Ground.data }, { on := 4, ground := Go.Ground.data }], guard := none }) rfl (fun K hK => ?_) AllReadyH.nil
              go_simp
              refine (HRm.out _ (HJ.out.1.keep0 ((Keep.refl [] _).drew)).sh).mono ?_; clear HRm; rintro e w5 ⟨⟨c5, rfl⟩, s5, k5⟩
              go_wp2_with fail
              refine hK.out _ _ (⟨k5.cell' hHeld.1 (by simpa using HNb.out.1), k5.cell' hHeld.2 (by simpa using HNb.out.2)⟩) (fun hHeld2 => ?_)
              try dsimp only at hHeld2
              clear hK hHeld
              have hHeld := hHeld2
              clear hHeld2
              try simp only [Act.put, List.setIfInBounds_toArray, List.set_cons_zero, List.set_cons_succ]
              refine wpAnyH_done (by kernel_rfl) ⟨rfl, ?_⟩ _
              have HT5 : Hid (Tk w x bx bq bs b (remS L' li) w5) := (HJ.out.1.keep0 ((Keep.refl [] _).drew)).act k5 s5
              have HD5 : Hid (w5.heap[D]? = some (.deferred (some [])) ∧ w5.heap[D2]? = some (.deferred (some []))) := ⟨(k5.block _ (Array.getElem?_eq_some_iff.1 HJ.out.2.2.2.1).1 (by simpa using HDb.out.1)).trans HJ.out.2.2.2.1, (k5.block _ (Array.getElem?_eq_some_iff.1 HJ.out.2.2.2.2).1 (by simpa using HDb.out.2.1)).trans HJ.out.2.2.2.2⟩
              obtain ⟨cs5, f5⟩ := hHeld
              clear s5 k5 cs f0
              go_wp2_with fail
              refine wp_region_heldP (S := (fun w' : World => w'.cell? ⟨bs, 0, none⟩ = some (vA b) ∧ w'.cell? ⟨bb, oo + i, none⟩ = some (.string li))) (by kernel_rfl) (⟨cs5, f5⟩) (fun hHeld => ?_)
              try dsimp only at hHeld
              refine wpAnyH_take (i := 0) (oi := { dst := some 141, op := Go.Op.load 67 (Go.Operand.tmp 5), type := 67, pos := "outright.go:225", after := #[], guard := none }) (v := ?_) rfl (by kernel_rfl) (by kernel_rfl) (by kernel_rfl) (fun _ _ _ => plain_panic) (Or.inl ⟨by rfl, ?_⟩) (by assumption) ?_
              rotate_left
              · intro w7 hSw
                try dsimp only at hSw
                first | (go_simp; done) | (go_simp; with_reducible rfl)
              try simp only [Act.put, List.setIfInBounds_toArray, List.set_cons_zero, List.set_cons_succ]
              refine wpAnyH_take (i := 1) (oi := { dst := some 142, op := Go.Op.move (Go.Operand.tmp 0), type := 66, pos := "outright.go:225", after := #[], guard := none }) (v := ?_) rfl (by kernel_rfl) (by kernel_rfl) (by kernel_rfl) (fun _ _ _ => plain_panic) (Or.inl ⟨by rfl, ?_⟩) (by assumption) ?_
              rotate_left
              · intro w7 hSw
                try dsimp only at hSw
                first | (go_simp; done) | (go_simp; with_reducible rfl)
              try simp only [Act.put, List.setIfInBounds_toArray, List.set_cons_zero, List.set_cons_succ]
              refine wpAnyH_take (i := 2) (oi := { dst := some 143, op := Go.Op.move (Go.Operand.tmp 19), type := 3, pos := "outright.go:225", after := #[], guard := none }) (v := ?_) rfl (by kernel_rfl) (by kernel_rfl) (by kernel_rfl) (fun _ _ _ => plain_panic) (Or.inl ⟨by rfl, ?_⟩) (by assumption) ?_
              rotate_left
              · intro w7 hSw
                try dsimp only at hSw
                first | (go_simp; done) | (go_simp; with_reducible rfl)
              try simp only [Act.put, List.setIfInBounds_toArray, List.set_cons_zero, List.set_cons_succ]
              refine wpAnyH_take (i := 3) (oi := { dst := some 144, op := Go.Op.indexAddr 66 (Go.Operand.tmp 142) (Go.Operand.tmp 143), type := 0, pos := "outright.go:225", after := #[{ on := 1, ground := Go.Ground.data }, { on := 2, ground := Go.Ground.data }], guard := none }) (v := ?_) rfl (by kernel_rfl) (by kernel_rfl) (by kernel_rfl) (fun _ _ _ => plain_panic) (Or.inl ⟨by rfl, ?_⟩) (by assumption) ?_
              rotate_left
              · intro w7 hSw
                try dsimp only at hSw
                first | (go_simp; done) | (go_simp; with_reducible rfl)
              try simp only [Act.put, List.setIfInBounds_toArray, List.set_cons_zero, List.set_cons_succ]
              refine wpAnyH_take (i := 4) (oi := { dst := some 145, op := Go.Op.load 9 (Go.Operand.tmp 144), type := 9, pos := "outright.go:225", after := #[{ on := 3, ground := Go.Ground.data }], guard := none }) (v := ?_) rfl (by kernel_rfl) (by kernel_rfl) (by kernel_rfl) (fun _ _ _ => plain_panic) (Or.inl ⟨by rfl, ?_⟩) (by assumption) ?_
              rotate_left
              · intro w7 hSw
                try dsimp only at hSw
                first | (go_simp; done) | (go_simp; with_reducible rfl)
              try simp only [Act.put, List.setIfInBounds_toArray, List.set_cons_zero, List.set_cons_succ]
              refine wpAnyH_ready (rs := [5]) (by kernel_rfl) (by simp) ?_
              refine AllReadyH.cons (o := { dst := some 146, op := Go.Op.call { callee := Go.Callee.value (Go.Operand.func 45), args := #[Go.Operand.tmp 141, Go.Operand.tmp 145], argTypes := #[67, 9] }, type := 75, pos := "outright.go:225", after := #[{ on := 0, ground := Go.Ground.data }, { on := 4, ground := Go.Ground.data }], guard := none }) rfl (fun K hK => ?_) AllReadyH.nil
              go_simp
              refine (HFi.out _ (HT5.out.keep0 ((Keep.refl [] _).drew)).sh).mono ?_; clear HFi; rintro e w6 ⟨z6, rfl, k6⟩
              go_wp2_with fail
              refine hK.out _ _ (⟨k6.cell' hHeld.1 (by simp), k6.cell' hHeld.2 (by simp)⟩) (fun hHeld2 => ?_)
              try dsimp only at hHeld2
              clear hK hHeld
              have hHeld := hHeld2
              clear hHeld2
              try simp only [Act.put, List.setIfInBounds_toArray, List.set_cons_zero, List.set_cons_succ]
              refine wpAnyH_take (i := 6) (oi := { dst := some 140, op := Go.Op.move (Go.Operand.tmp 146), type := 75, pos := "outright.go:225", after := #[{ on := 5, ground := Go.Ground.data }], guard := none }) (v := ?_) rfl (by kernel_rfl) (by kernel_rfl) (by kernel_rfl) (fun _ _ _ => plain_panic) (Or.inl ⟨by rfl, ?_⟩) (by assumption) ?_
              rotate_left
              · intro w7 hSw
                try dsimp only at hSw
                first | (go_simp; done) | (go_simp; with_reducible rfl)
              try simp only [Act.put, List.setIfInBounds_toArray, List.set_cons_zero, List.set_cons_succ]
              refine wpAnyH_take (i := 7) (oi := { dst := some 147, op := Go.Op.extract (Go.Operand.tmp 140) 0, type := 9, pos := "outright.go:225", after := #[{ on := 6, ground := Go.Ground.data }], guard := none }) (v := ?_) rfl (by kernel_rfl) (by kernel_rfl) (by kernel_rfl) (fun _ _ _ => plain_panic) (Or.inl ⟨by rfl, ?_⟩) (by assumption) ?_
              rotate_left
              · intro w7 hSw
                try dsimp only at hSw
                first | (go_simp; done) | (go_simp; with_reducible rfl)
              try simp only [Act.put, List.setIfInBounds_toArray, List.set_cons_zero, List.set_cons_succ]
              refine wpAnyH_take (i := 8) (oi := { dst := some 148, op := Go.Op.extract (Go.Operand.tmp 140) 1, type := 4, pos := "outright.go:225", after := #[{ on := 6, ground := Go.Ground.data }, { on := 9, ground := Go.Ground.gcOnly Go.Departure.lateStores }], guard := none }) (v := ?_) rfl (by kernel_rfl) (by kernel_rfl) (by kernel_rfl) (fun _ _ _ => plain_panic) (Or.inl ⟨by rfl, ?_⟩) (by assumption) ?_
              rotate_left
              · intro w7 hSw
                try dsimp only at hSw
                first | (go_simp; done) | (go_simp; with_reducible rfl)
              try simp only [Act.put, List.setIfInBounds_toArray, List.set_cons_zero, List.set_cons_succ]
              refine wpAnyH_take (i := 9) (oi := { dst := some 20, op := Go.Op.assign (Go.Operand.tmp 147), type := 9, pos := "outright.go:225", after := #[{ on := 7, ground := Go.Ground.data }, { on := 5, ground := Go.Ground.chain }, { on := 0, ground := Go.Ground.phase }, { on := 1, ground := Go.Ground.phase }, { on := 2, ground := Go.Ground.phase }, { on := 3, ground := Go.Ground.phase }, { on := 4, ground := Go.Ground.phase }, { on := 5, ground := Go.Ground.phase }, { on := 6, ground := Go.Ground.phase }, { on := 7, ground := Go.Ground.phase }, { on := 8, ground := Go.Ground.textOnly Go.Departure.lateStores }], guard := none }) (v := ?_) rfl (by kernel_rfl) (by kernel_rfl) (by kernel_rfl) (fun _ _ _ => plain_panic) (Or.inl ⟨by rfl, ?_⟩) (by assumption) ?_
              rotate_left
              · intro w7 hSw
                try dsimp only at hSw
                first | (go_simp; done) | (go_simp; with_reducible rfl)
              try simp only [Act.put, List.setIfInBounds_toArray, List.set_cons_zero, List.set_cons_succ]
              refine wpAnyH_take (i := 10) (oi := { dst := some 21, op := Go.Op.assign (Go.Operand.tmp 148), type := 4, pos := "outright.go:225", after := #[{ on := 8, ground := Go.Ground.data }, { on := 9, ground := Go.Ground.chain }, { on := 0, ground := Go.Ground.phase }, { on := 1, ground := Go.Ground.phase }, { on := 2, ground := Go.Ground.phase }, { on := 3, ground := Go.Ground.phase }, { on := 4, ground := Go.Ground.phase }, { on := 5, ground := Go.Ground.phase }, { on := 6, ground := Go.Ground.phase }, { on := 7, ground := Go.Ground.phase }, { on := 8, ground := Go.Ground.phase }, { on := 9, ground := Go.Ground.phase }], guard := none }) (v := ?_) rfl (by kernel_rfl) (by kernel_rfl) (by kernel_rfl) (fun _ _ _ => plain_panic) (Or.inl ⟨by rfl, ?_⟩) (by assumption) ?_
              rotate_left
              · intro w7 hSw
                try dsimp only at hSw
                first | (go_simp; done) | (go_simp; with_reducible rfl)
              try simp only [Act.put, List.setIfInBounds_toArray, List.set_cons_zero, List.set_cons_succ]
              refine wpAnyH_done (by kernel_rfl) ⟨rfl, ?_⟩ _
              have K6 : Keep [] w5 w6 := (Keep.refl [] _).drew.trans' k6
              have HF : Hid (Tk w x bx bq bs b (remS L' li) w6 ∧ (∀ y, y ∈ remS L' li ↔ y ∈ l ∧ y ∉ l.take (i + 1)) ∧ (remS L' li).length ≤ L.length ∧ w6.heap[D]? = some (.deferred (some [])) ∧ w6.heap[D2]? = some (.deferred (some []))) := ⟨HT5.out.keep0 K6, HMe.out.1, HMe.out.2, (K6.block _ (Array.getElem?_eq_some_iff.1 HD5.out.1).1 (by simp)).trans HD5.out.1, (K6.block _ (Array.getElem?_eq_some_iff.1 HD5.out.2).1 (by simp)).trans HD5.out.2⟩
              clear k6 K6 hHeld cs5 f5
              go_wp2
              go_roundw
              case rel =>
                first
                  | exact ⟨i + 1, by simp, by omega, _, HF.out⟩
                  | (repeat apply Exists.intro
                     refine ⟨⟨i + 1, ?_, by omega, _, HF.out⟩, rfl⟩
                     simp)
              case measure => simp [intOf]; omega
            · obtain rfl : i = l.length := by omega
              have hnl2 : ¬ (l.length : Int) < (l.length : Int) := by omega
              have hL0 : L' = [] := by
                cases hL : L' with
                | nil => rfl
                | cons y t =>
                  have h1 := (HJ.out.2.1 y).1 (by rw [hL]; simp)
                  rw [List.take_length] at h1
                  exact absurd h1.1 h1.2
              subst hL0
              obtain ⟨_, cs, cq, fq⟩ := HJ.out.1.cells
              have HLe : Hid (∀ w9, w9 = wr → Calls Try.prog 42 #[vA b] w9 fun e w' => e = .returned (.int .i64 0) ∧ wr = w') := fun w9 e => by subst e; exact slen_any b [] w9 HJ.out.1.sh
              go_wp2_with fail
              refine (HLe.out _ rfl).mono ?_
              rintro e w5 ⟨rfl, rfl⟩
              go_wp2
              obtain ⟨t0, _, _, t1, t2⟩ := HJ.out
              obtain ⟨n1, n2, n3, n4, n5, n6, n7⟩ := HDb.out
              have hge := t0.ge
              have kq : Keep [bq] wr (wr.setCell ⟨bq, 0, none⟩ (.bool true)) := Keep.set1 wr ⟨bq, 0, none⟩ _
              have hq6 : (wr.setCell ⟨bq, 0, none⟩ (.bool true)).heap[bq]? = some (.cells #[.bool true] 4 (0, 0)) := one_setCell t0.hq
              have u2 := (kq.block _ (Array.getElem?_eq_some_iff.1 t2).1 (by simpa using n4)).trans t2
              have u1 := (kq.block _ (Array.getElem?_eq_some_iff.1 t1).1 (by simpa using n3)).trans t1
              have kall : Keep [] w (wr.setCell ⟨bq, 0, none⟩ (.bool true)) := t0.kp.more kq (by intro y hy; simp at hy; omega)
              generalize wr.setCell ⟨bq, 0, none⟩ (.bool true) = Wq at *
              have p2 : Keep [D2] Wq (Wq.putObj D2 (.deferred none)) := Keep.grown (grownBy_putObj' _ D2 _)
              have t1' : (Wq.putObj D2 (.deferred none)).heap[D]? = some (.deferred (some [])) := (p2.block _ (Array.getElem?_eq_some_iff.1 u1).1 (by simpa using n7)).trans u1
              have q1' : (Wq.putObj D2 (.deferred none)).heap[bq]? = some (.cells #[.bool true] 4 (0, 0)) := (p2.block _ (Array.getElem?_eq_some_iff.1 hq6).1 (by simpa using fun e => n4 e.symm)).trans hq6
              have p1 : Keep [D] (Wq.putObj D2 (.deferred none)) ((Wq.putObj D2 (.deferred none)).putObj D (.deferred none)) := Keep.grown (grownBy_putObj' _ D _)
              have q2' : ((Wq.putObj D2 (.deferred none)).putObj D (.deferred none)).heap[bq]? = some (.cells #[.bool true] 4 (0, 0)) := (p1.block _ (Array.getElem?_eq_some_iff.1 q1').1 (by simpa using fun e => n3 e.symm)).trans q1'
              have hc2 := one_cellS q2'
              refine ⟨by simp, .inl ⟨_, _, rfl, run_takeDeferred u2, ⟨by simp, .inl ⟨_, _, rfl, run_takeDeferred t1', ?_⟩⟩⟩⟩
              exact ⟨_, by simp [results, Try.results8, go_sem, hc2], rfl, (kall.more p2 (by intro y hy; simp at hy; omega)).more p1 (by intro y hy; simp at hy; omega)⟩

end Go.Proofs.Ytkelhglflpdpeaa
