/- The document's reached. -/
import Derived.Test.YtmlpkjeaieljfaaRf
namespace Go.Proofs.Ytmlpkjeaieljfaa
open Go.RowKit Go.PlainAid

theorem Arr.oneL {α : Type} [Inhabited α] {E : TypeId} {e : α → Value} (he : ∀ x y, e x = e y → x = y) {w : World} {g n : Nat} {l m : List α} (h : Arr E e w g n l) (k : Arr E e w g n m) : l = m := by
  refine List.ext_getElem (by rw [h.len, k.len]) fun i h1 h2 => ?_
  have hi : i < n := by rw [← h.len]; exact h1
  have a := h.cell default i hi
  rw [k.cell default i hi] at a
  simp only [Option.some.injEq] at a
  have := he _ _ a
  rw [List.getD_eq_getElem?_getD, List.getD_eq_getElem?_getD, List.getElem?_eq_getElem h1, List.getElem?_eq_getElem h2] at this
  exact this.symm
open Classical in
/-- what an array of one's own says, as a function of the world -/
theorem arr_fn {α : Type} [Inhabited α] {E : TypeId} {e : α → Value} (he : ∀ x y, e x = e y → x = y) (g n : Nat) (f : List α → Nat) : ∃ z : World → Nat, ∀ w m, Arr E e w g n m → z w = f m := by
  have h : ∀ w : World, ∃ k : Nat, ∀ m, Arr E e w g n m → k = f m := fun w => by
    by_cases h : ∃ m, Arr E e w g n m
    · obtain ⟨m, hm⟩ := h
      exact ⟨f m, fun m' hm' => by rw [hm.oneL he hm']⟩
    · exact ⟨0, fun m hm => absurd ⟨m, hm⟩ h⟩
  exact ⟨fun w => Classical.choose (h w), fun w m hm => Classical.choose_spec (h w) m hm⟩
theorem eB_inj (x y : Bool) (h : eB x = eB y) : x = y := by simpa [eB] using h
def boolN : Value → Nat
  | .bool true => 1
  | _ => 0

/-- marks that are right so far -/
structure Ra (w : World) (g n : Nat) (A : List Ar) (L : List Nat) (m : List Bool) (wr : World) : Prop where
  arr : Arr 4 eB wr g n m
  keep : Keep [] w wr
  new : w.heap.size ≤ g
  right : ∀ x, Mk m x → ∃ k ∈ L, Rch (Ec A) k x
theorem Ra.mark {w : World} {g n : Nat} {A : List Ar} {L : List Nat} {m : List Bool} {wr : World} (h : Ra w g n A L m wr) {t : Nat} (ht : t < n) (hr : ∃ k ∈ L, Rch (Ec A) k t) : Ra w g n A L (m.set t true) (wr.setCell ⟨g, t, none⟩ (.bool true)) := by
  have hl := h.arr.len
  refine ⟨h.arr.put t true, h.keep.more (Keep.set1 wr ⟨g, t, none⟩ _) (fun x hx => .inr (by simp at hx; have := h.new; omega)), h.new, fun x hx => ?_⟩
  rcases (Mk.set (by omega) x).1 hx with h1 | h1
  · exact h.right x h1
  · rw [h1]; exact hr

/-- what reached answers -/
def RaR (w w' : World) (v : Value) (n : Nat) (A : List Ar) (L : List Nat) : Prop := ∃ g m, v = .slice (some ⟨g, 0, none⟩) n n ∧ w.heap.size ≤ g ∧ Arr 4 eB w' g n m ∧ (∀ x, Mk m x ↔ ∃ k ∈ L, Rch (Ec A) k x) ∧ Keep [] w w'

set_option maxRecDepth 1000000 in
set_option maxHeartbeats 2000000 in
theorem rReached_any (n : Nat) (va vu : Value) (A : List Ar) (L : List Nat) (w : World) (hA : Rd encA 3 w va A) (hL : Rd encN 1 w vu L) (hnd : ∀ a ∈ A, a.f < n ∧ a.t < n) (hlt : ∀ k ∈ L, k < n) (hn : n ≤ 4096) :
    Calls Try.prog 41 #[.int .i64 (n : Int), va, vu] w fun e w' => ∃ v, e = .returned v ∧ RaR w w' v n A L := by
  obtain ⟨ao, cap, rfl, hc1, hc2⟩ := hA.form
  obtain ⟨uo, ucap, rfl, hc3, hc4⟩ := hL.form
  have HA : Hid (Rd encA 3 w (.slice ao A.length cap) A ∧ ∀ a ∈ A, a.f < n ∧ a.t < n) := ⟨hA, hnd⟩
  have HL : Hid (Rd encN 1 w (.slice uo L.length ucap) L ∧ ∀ k ∈ L, k < n) := ⟨hL, hlt⟩
  obtain ⟨i4, hi4, hz4, hs4, hy4⟩ := info_parts infoBool
  have HB2 : Hid (i4.bytes * n ≤ 281474976710656) := show i4.bytes * n ≤ 281474976710656 by rw [hy4]; omega
  have HB3 : Hid (n ≤ maxLen) := show n ≤ maxLen by simp only [maxLen]; omega
  clear hA hL hnd hlt
  go_enter Try.func41, Try.ntmps41
  go_wp2_with (at_make; refine wpList_make_full _ rfl (.tmp 11) (.tmp 11) 53 rfl 0 4 i4 (.bool false) 1 Try.underlying53 hi4 hz4 hs4 .i64 .i64 _ _ n rfl rfl rfl rfl HB2.out HB3.out (Nat.zero_le _) ?_)
  intro w1 r1 r2
  obtain ⟨g, HGG⟩ : ∃ g : Nat, Hid (g = w.heap.size) := ⟨_, show _ = _ from rfl⟩
  rw [← HGG.out] at r1 ⊢
  have H1 : Hid (Ra w g n A L (List.replicate n false) w1) := ⟨Arr.made (e := eB) (z := false) r1, Keep.mono (Keep.grown r2) (by simp), by rw [HGG.out]; exact Nat.le_refl _, fun x hx => by unfold Mk at hx; rw [getD_replicate] at hx; cases hx⟩
  clear r1 r2 HB2 HB3 hi4 hz4 hs4 hy4
  obtain ⟨mz, hmz⟩ := arr_fn (E := 4) eB_inj g n (fun m => m.count false)
  have HMZ : Hid (∀ w m, Arr 4 eB w g n m → mz w = m.count false) := hmz
  clear hmz
  go_wp2
  go_loopw [8] (fun iv wr => ∃ (i : Nat) (m : List Bool), iv = .int .i64 (i : Int) ∧ i ≤ L.length ∧ Hid (Ra w g n A L m wr ∧ ∀ k ∈ L.take i, Mk m k)) (fun iv _ => L.length - (intOf iv).toNat)
  case atStart => exact ⟨0, _, rfl, Nat.zero_le _, H1.out, fun k hk => by simp at hk⟩
  case round =>
    clear H1
    obtain ⟨i, m, rfl, hi, HI⟩ := hrel
    by_cases hlt : i < L.length
    · have hlti : (i : Int) < (L.length : Int) := by omega
      obtain ⟨b, o, c, he, hb, c0⟩ := (HL.out.1.keep HI.out.1.keep (Off.nil _)).at i hlt
      simp at he
      obtain ⟨rfl, rfl⟩ := he
      have c1 := c0 0 (by omega)
      rw [Nat.mul_one, Nat.add_zero] at c1
      have hmem := List.getElem_mem hlt
      have htk : Hid (L.take (i + 1) = L.take i ++ [L[i]]) := List.take_succ_eq_append_getElem hlt
      obtain ⟨k, hk⟩ : ∃ k : Nat, k = L[i] := ⟨_, rfl⟩
      have c2 : wr.cell? ⟨b, o + i, none⟩ = some (.int .i64 (k : Int)) := by rw [c1, hk]; rfl
      rw [← hk] at hmem htk
      have hkn := HL.out.2 k hmem
      have hkni : (k : Int) < (n : Int) := by omega
      have e2 : wr.cell? ⟨g, k, none⟩ = some (.bool (m.getD k false)) := HI.out.1.arr.cell false k hkn
      have f2 := HI.out.1.arr.free k
      have HJ : Hid (Ra w g n A L (m.set k true) (wr.setCell ⟨g, k, none⟩ (.bool true)) ∧ ∀ x ∈ L.take (i + 1), Mk (m.set k true) x) := by
        have hl := HI.out.1.arr.len
        refine ⟨HI.out.1.mark hkn ⟨k, hmem, .refl⟩, fun x hx => (Mk.set (by omega) x).2 ?_⟩
        rw [htk.out] at hx
        rcases List.mem_append.1 hx with h | h
        · exact .inl (HI.out.2 x h)
        · exact .inr (by simpa using h)
      clear HI hk htk hmem c0 c1 hb
      go_wp2
      go_roundw
      case rel => exact ⟨i + 1, _, by go_num, by omega, HJ⟩
      case measure => simp [intOf]; omega
    · have hlti : ¬ (i : Int) < (L.length : Int) := by omega
      have HI2 : Hid (Ra w g n A L m wr ∧ ∀ k ∈ L, Mk m k) := ⟨HI.out.1, fun k hk => HI.out.2 k (by rw [List.take_of_length_le (by omega)]; exact hk)⟩
      clear HI hlt hi
      go_wp2
      go_loopw [9] (fun bv wr => ∃ (b : Bool) (m : List Bool), bv = .bool b ∧ Hid (Ra w g n A L m wr ∧ ∀ k ∈ L, Mk m k) ∧ Hid (b = false → ∀ a ∈ A, Mk m a.f → Mk m a.t)) (fun bv wr => 2 * mz wr + boolN bv)
      case atStart => exact ⟨true, m, rfl, HI2, fun h => by cases h⟩
      case round =>
        clear HI2 hlti
        obtain ⟨b, m, rfl, HI, HC⟩ := hrel
        cases b with
        | true =>
          obtain ⟨mu, HMU⟩ : ∃ mu : Nat, Hid (mu = m.count false) := ⟨_, show _ = _ from rfl⟩
          have HM0 : Hid (2 * mz wr + boolN (.bool true) = 2 * mu + 1) := by
            show _ = _
            rw [HMZ.out _ _ HI.out.1.arr, HMU.out]; rfl
          have HI2 : Hid (Ra w g n A L m wr ∧ (∀ k ∈ L, Mk m k) ∧ m.count false ≤ mu) := ⟨HI.out.1, HI.out.2, by rw [HMU.out]; exact Nat.le_refl _⟩
          obtain ⟨mz0, hz0⟩ : ∃ z : Nat, z = mz wr := ⟨_, rfl⟩
          rw [← hz0] at HM0
          clear HC HI HMU
          go_wp2
          go_loopw [9, 10] (fun bv iv wr => ∃ (b : Bool) (i : Nat) (m : List Bool), bv = .bool b ∧ iv = .int .i64 (i : Int) ∧ i ≤ A.length ∧ Hid (Ra w g n A L m wr ∧ (∀ k ∈ L, Mk m k) ∧ m.count false ≤ mu) ∧ Hid ((b = true → m.count false < mu) ∧ (b = false → ∀ a ∈ A.take i, Mk m a.f → Mk m a.t))) (fun _ iv _ => A.length - (intOf iv).toNat)
          case atStart => exact ⟨false, 0, m, rfl, rfl, Nat.zero_le _, HI2, ⟨(fun h => by cases h), fun _ a ha => by simp at ha⟩⟩
          case round =>
            clear HI2 m
            obtain ⟨b, i, m, rfl, rfl, hi, HI, HC⟩ := hrel
            by_cases hlt : i < A.length
            · have hlti : (i : Int) < (A.length : Int) := by omega
              obtain ⟨bb, oo, cc, he, hb, e0, e1, -⟩ := (HA.out.1.keep HI.out.1.keep (Off.nil _)).arcA i hlt
              simp at he
              obtain ⟨rfl, rfl⟩ := he
              have hnd := HA.out.2 A[i] (List.getElem_mem hlt)
              have hml := HI.out.1.arr.len
              have HN : Hid ((Mk m A[i].f → Mk m A[i].t) → (b = false → ∀ a ∈ A.take (i + 1), Mk m a.f → Mk m a.t)) := fun h h2 a ha => by
                rw [List.take_succ_eq_append_getElem hlt] at ha
                rcases List.mem_append.1 ha with h3 | h3
                · exact HC.out.2 h2 a h3
                · simp at h3; subst h3; exact h
              have HRc : Hid (Mk m A[i].f → ∃ k ∈ L, Rch (Ec A) k A[i].t) := fun h => by
                obtain ⟨k, hk, hr⟩ := HI.out.1.right _ h
                exact ⟨k, hk, hr.tail ⟨A[i], List.getElem_mem hlt, rfl, rfl⟩⟩
              generalize A[i].f = f at e0 hnd HN HRc
              generalize A[i].t = t at e1 hnd HN HRc
              have hfi : (f : Int) < (n : Int) := by omega
              have hti : (t : Int) < (n : Int) := by omega
              have g0 : wr.cell? ⟨g, f, none⟩ = some (.bool (m.getD f false)) := HI.out.1.arr.cell false f hnd.1
              have g1 : wr.cell? ⟨g, t, none⟩ = some (.bool (m.getD t false)) := HI.out.1.arr.cell false t hnd.2
              have f1 := HI.out.1.arr.free t
              by_cases hf : m.getD f false = true
              · rw [hf] at g0
                by_cases ht : m.getD t false = true
                · rw [ht] at g1
                  have HX : Hid ((b = true → m.count false < mu) ∧ (b = false → ∀ a ∈ A.take (i + 1), Mk m a.f → Mk m a.t)) := ⟨HC.out.1, HN.out (fun _ => ht)⟩
                  clear HN HRc HC hf ht hml
                  go_wp2
                  go_roundw
                  case rel => exact ⟨b, i + 1, m, rfl, by go_num, by omega, HI, HX⟩
                  case measure => simp [intOf]; omega
                · have ht : m.getD t false = false := by simpa using ht
                  rw [ht] at g1
                  have HJ : Hid (Ra w g n A L (m.set t true) (wr.setCell ⟨g, t, none⟩ (.bool true)) ∧ (∀ k ∈ L, Mk (m.set t true) k) ∧ (m.set t true).count false ≤ mu) := by
                    have h1 := count_set m t (by omega) ht
                    have h2 := HI.out.2.2
                    exact ⟨HI.out.1.mark hnd.2 (HRc.out hf), fun k hk => (Mk.set (by omega) k).2 (.inl (HI.out.2.1 k hk)), by omega⟩
                  have HX : Hid ((true = true → (m.set t true).count false < mu) ∧ (true = false → ∀ a ∈ A.take (i + 1), Mk (m.set t true) a.f → Mk (m.set t true) a.t)) := by
                    have h1 := count_set m t (by omega) ht
                    have h2 := HI.out.2.2
                    exact ⟨fun _ => by omega, fun h => by cases h⟩
                  clear HN HRc HC HI hf ht hml
                  go_wp2
                  go_roundw
                  case rel => exact ⟨true, i + 1, _, rfl, by go_num, by omega, HJ, HX⟩
                  case measure => simp [intOf]; omega
              · have HX : Hid ((b = true → m.count false < mu) ∧ (b = false → ∀ a ∈ A.take (i + 1), Mk m a.f → Mk m a.t)) := ⟨HC.out.1, HN.out (fun h => absurd h hf)⟩
                have hf : m.getD f false = false := by simpa using hf
                rw [hf] at g0
                clear HN HRc HC hf hml
                go_wp2
                go_roundw
                case rel => exact ⟨b, i + 1, m, rfl, by go_num, by omega, HI, HX⟩
                case measure => simp [intOf]; omega
            · have hlti : ¬ (i : Int) < (A.length : Int) := by omega
              have HI2 : Hid (Ra w g n A L m wr ∧ ∀ k ∈ L, Mk m k) := ⟨HI.out.1, HI.out.2.1⟩
              have HC2 : Hid (b = false → ∀ a ∈ A, Mk m a.f → Mk m a.t) := fun h a ha => HC.out.2 h a (by rw [List.take_of_length_le (by omega)]; exact ha)
              have HMe : Hid (2 * mz wr + boolN (.bool b) < 2 * mz0 + boolN (.bool true)) := by
                show _ < _
                rw [HM0.out, HMZ.out _ _ HI.out.1.arr]
                have h2 := HI.out.2.2
                cases b with
                | true => have := HC.out.1 rfl; simp only [boolN]; omega
                | false => simp only [boolN]; omega
              have HZ0 := hz0
              clear HI HC
              go_wp2
              go_roundw
              case rel => exact ⟨b, m, rfl, HI2, HC2⟩
              case measure => have := HMe.out; rw [hz0] at this; exact this
        | false =>
          have HE : Hid (RaR w wr (.slice (some ⟨g, 0, none⟩) n n) n A L) := by
            refine ⟨g, m, rfl, HI.out.1.new, HI.out.1.arr, fun x => ⟨HI.out.1.right x, fun ⟨k, hk, hr⟩ => ?_⟩, HI.out.1.keep⟩
            exact hr.closed (M := Mk m) (fun a b ha hab => by
              obtain ⟨y, hy, rfl, rfl⟩ := hab
              exact HC.out rfl y hy ha) (HI.out.2 k hk)
          clear HI HC
          go_wp2
          go_ret
          exact ⟨_, rfl, HE.out⟩
end Go.Proofs.Ytmlpkjeaieljfaa
