/- One of each part: the marks of heads. -/
import Derived.Test.YtmlpkjeaieljfabIt
import Derived.Test.YtmlpkjeaieljfabRp
namespace Go.Proofs.Ytmlpkjeaieljfab
open Go.RowKit Go.PlainAid Go.Sort

/-- the heads when m is marked, from h on -/
def mixH (h : List Int) (cur : Int) (m : List Bool) : List Int := (List.range h.length).map fun x => if h.getD x 0 ≠ -1 then h.getD x 0 else if m.getD x false then cur else -1
theorem mixH_len (h : List Int) (cur : Int) (m : List Bool) : (mixH h cur m).length = h.length := by simp [mixH]
theorem mixH_get (h : List Int) (cur : Int) (m : List Bool) (x : Nat) (hx : x < h.length) : (mixH h cur m).getD x 0 = if h.getD x 0 ≠ -1 then h.getD x 0 else if m.getD x false then cur else -1 := by
  rw [List.getD_eq_getElem?_getD, List.getElem?_eq_getElem (by rw [mixH_len]; exact hx)]
  simp [mixH]
/-- what is marked at the start -/
def markH (h : List Int) : List Bool := h.map fun x => decide (x ≠ -1)
theorem markH_get (h : List Int) (x : Nat) (hx : x < h.length) : (markH h).getD x false = decide (h.getD x 0 ≠ -1) := by
  rw [List.getD_eq_getElem?_getD, List.getD_eq_getElem?_getD, List.getElem?_eq_getElem (by simpa [markH] using hx), List.getElem?_eq_getElem hx]
  simp [markH]

/-- the memory of the heads -/
structure Hh (bh gh bc n : Nat) (cur : Int) (w : World) (h : List Int) : Prop where
  box : w.cell? ⟨bh, 0, none⟩ = some (.slice (some ⟨gh, 0, none⟩) n n)
  arr : Arr 3 eI w gh n h
  bxc : Bx w bc 3 (.int .i64 cur)

structure TH (bh gh bc n : Nat) (cur : Int) (h0 : List Int) (w : World) (m : List Bool) : Prop where
  mem : Hh bh gh bc n cur w (mixH h0 cur m)
  len : m.length = n
  len0 : h0.length = n
  old : ∀ x, x < n → h0.getD x 0 ≠ -1 → m.getD x false = true

theorem Arr.uniq {w : World} {g n : Nat} {l l' : List Int} (h : Arr 3 eI w g n l) (h' : Arr 3 eI w g n l') : l = l' := by
  have l1 := h.len
  have l2 := h'.len
  apply List.ext_getElem (by omega)
  intro j h1 h2
  have e1 := h.cell 0 j (by omega)
  have e2 := h'.cell 0 j (by omega)
  rw [e1] at e2
  rw [List.getD_eq_getElem?_getD, List.getD_eq_getElem?_getD, List.getElem?_eq_getElem h1, List.getElem?_eq_getElem h2] at e2
  simpa [eI] using e2

theorem TH.uniq {bh gh bc n : Nat} {cur : Int} {h0 : List Int} {w : World} {m m' : List Bool} (hc : cur ≠ -1) (h : TH bh gh bc n cur h0 w m) (h' : TH bh gh bc n cur h0 w m') : m = m' := by
  have e := h.mem.arr.uniq h'.mem.arr
  have l0 := h.len0
  have l1 := h.len
  have l2 := h'.len
  apply List.ext_getElem (by omega)
  intro j h1 h2
  have g1 := mixH_get h0 cur m j (by omega)
  have g2 := mixH_get h0 cur m' j (by omega)
  rw [e, g2] at g1
  have a1 : m.getD j false = m[j] := by rw [List.getD_eq_getElem?_getD, List.getElem?_eq_getElem h1]; rfl
  have a2 : m'.getD j false = m'[j] := by rw [List.getD_eq_getElem?_getD, List.getElem?_eq_getElem h2]; rfl
  by_cases hh : h0.getD j 0 ≠ -1
  · rw [← a1, ← a2, h.old j (by omega) hh, h'.old j (by omega) hh]
  · rw [if_neg hh, if_neg hh, a1, a2] at g1
    cases hm : m[j] <;> cases hm' : m'[j] <;> rw [hm, hm'] at g1 <;> simp at g1
    · exact absurd g1 hc
    · exact absurd g1.symm hc

theorem mixH_set (h0 : List Int) (cur : Int) (m : List Bool) (k : Nat) (hk : k < h0.length) (hm : m.length = h0.length) (hh : h0.getD k 0 = -1) : (mixH h0 cur m).set k cur = mixH h0 cur (m.set k true) := by
  apply List.ext_getElem (by simp [mixH_len])
  intro j h1 h2
  rw [mixH_len] at h2
  have g2 := mixH_get h0 cur (m.set k true) j h2
  rw [List.getD_eq_getElem?_getD, List.getElem?_eq_getElem (by rw [mixH_len]; exact h2)] at g2
  simp only [Option.getD_some] at g2
  rw [g2, getD_set _ _ _ _ _ (by omega)]
  by_cases hjk : j = k
  · subst hjk
    rw [List.getElem_set_self, if_neg (by simpa using hh), if_pos rfl]
    simp
  · rw [List.getElem_set_ne (fun e => hjk e.symm), if_neg hjk]
    have g1 := mixH_get h0 cur m j h2
    rw [List.getD_eq_getElem?_getD, List.getElem?_eq_getElem (by rw [mixH_len]; exact h2)] at g1
    simpa using g1

set_option maxRecDepth 1000000 in
set_option maxHeartbeats 1000000 in
theorem head_call (bh gh bc n k : Nat) (cur : Int) (h0 : List Int) (m : List Bool) (w : World) (h : TH bh gh bc n cur h0 w m) (hk : k < n) (hc : cur ≠ -1) (h1 : bh ≠ gh) (h2 : bc ≠ gh) :
    Calls Try.prog 66 #[.int .i64 (k : Int), .pointer (some ⟨bh, 0, none⟩), .pointer (some ⟨bc, 0, none⟩)] w fun e w' => e = .returned (.bool (!m.getD k false)) ∧ (TH bh gh bc n cur h0 w' (m.set k true) ∧ ∀ x ∈ [gh, bc], IsC w x) ∧ Keep [gh, bc] w w' := by
  have c0 := h.mem.box
  have c1 := h.mem.arr.cell 0 k hk
  have f1 := h.mem.arr.free k
  have c2 := h.mem.bxc.cell
  have hn := h.mem.arr.facts.1
  have hki : (k : Int) < (n : Int) := by omega
  have l0 := h.len0
  have l1 := h.len
  have HC : Hid (∀ x ∈ [gh, bc], IsC w x) := fun x hx => by
    simp at hx
    rcases hx with rfl | rfl
    · exact h.mem.arr.isC
    · exact h.mem.bxc.isC
  rw [mixH_get h0 cur m k (by omega)] at c1
  simp only [eI] at c1
  cases hm : m.getD k false with
  | true =>
    have hx : (if h0.getD k 0 ≠ -1 then h0.getD k 0 else if m.getD k false = true then cur else -1) ≠ -1 := by
      rw [hm]
      by_cases hh : h0.getD k 0 ≠ -1
      · rw [if_pos hh]; exact hh
      · rw [if_neg hh, if_pos rfl]; exact hc
    have HE : Hid (TH bh gh bc n cur h0 w (m.set k true)) := by rw [set_same m k hm]; exact h
    generalize (if h0.getD k 0 ≠ -1 then h0.getD k 0 else if m.getD k false = true then cur else -1) = y at c1 hx
    have hy : (y == -1) = false := by simpa using hx
    clear h hm hx
    go_enter Try.func66, Try.ntmps66
    go_wp2
    go_ret
    exact ⟨rfl, ⟨HE.out, HC.out⟩, Keep.refl _ _⟩
  | false =>
    have hh : h0.getD k 0 = -1 := by
      by_cases hh : h0.getD k 0 = -1
      · exact hh
      · have := h.old k hk hh
        rw [hm] at this
        cases this
    rw [if_neg (by simpa using hh), hm] at c1
    have ks : Keep [gh] w (w.setCell ⟨gh, k, none⟩ (.int .i64 cur)) := Keep.set1 w ⟨gh, k, none⟩ _
    have HE : Hid (TH bh gh bc n cur h0 (w.setCell ⟨gh, k, none⟩ (.int .i64 cur)) (m.set k true) ∧ Keep [gh, bc] w (w.setCell ⟨gh, k, none⟩ (.int .i64 cur))) := by
      refine ⟨⟨⟨ks.cell' h.mem.box (by simpa using h1), ?_, h.mem.bxc.keep ks (by simpa using h2)⟩, by rw [List.length_set]; exact h.len, h.len0, fun x hx hx2 => ?_⟩, ks.mono (fun x hx => .inl (by simp at hx; simp [hx]))⟩
      · rw [← mixH_set h0 cur m k (by omega) (by omega) hh]
        exact h.mem.arr.put k cur
      · rw [getD_set _ _ _ _ _ (by omega)]
        split
        · rfl
        · exact h.old x hx hx2
    clear h hm hh ks
    simp only [Bool.false_eq_true, if_false] at c1
    go_enter Try.func66, Try.ntmps66
    go_wp2
    go_ret
    exact ⟨rfl, ⟨HE.out.1, HC.out⟩, HE.out.2⟩

theorem head_ok (B bw bh gh bc n : Nat) (cur : Int) (h0 : List Int) (hc : cur ≠ -1) (h1 : bh < B) (h2 : gh < B) (h3 : bc < B) (h4 : bh ≠ bw) (h5 : gh ≠ bw) (h6 : bc ≠ bw) (h7 : bh ≠ gh) (h8 : bc ≠ gh) : MeetOk B bw 66 n #[.pointer (some ⟨bh, 0, none⟩), .pointer (some ⟨bc, 0, none⟩)] [gh, bc] (TH bh gh bc n cur h0) where
  enters := enters_of Try.func66 (by kernel_rfl) rfl
  call w m k hT hk _ := head_call bh gh bc n k cur h0 m w hT hk hc h7 h8
  keep w w' m hT k := ⟨⟨(k.cell h1 (by simpa using h4)).trans hT.mem.box, k.arr hT.mem.arr h2 (by simpa using h5), k.bx hT.mem.bxc h3 (by simpa using h6)⟩, hT.len, hT.len0, hT.old⟩
  len w m hT := hT.len

/-- at the start of a spread -/
theorem TH.start {bh gh bc n : Nat} {cur : Int} {w : World} {h : List Int} (hm : Hh bh gh bc n cur w h) : TH bh gh bc n cur h w (markH h) := by
  have hl := hm.arr.len
  have e : mixH h cur (markH h) = h := by
    apply List.ext_getElem (by rw [mixH_len])
    intro j h1 h2
    have g := mixH_get h cur (markH h) j h2
    rw [List.getD_eq_getElem?_getD, List.getElem?_eq_getElem h1, markH_get h j h2, List.getD_eq_getElem?_getD, List.getElem?_eq_getElem h2] at g
    simp only [Option.getD_some] at g
    rw [g]
    by_cases hh : h[j] = -1 <;> simp [hh]
  refine ⟨by rw [e]; exact hm, by simp [markH, hl], hl, fun x hx hx2 => ?_⟩
  rw [markH_get h x (by omega)]
  simpa using hx2

/-- what is true of the heads behind some nodes -/
structure HInv (E : Nat → Nat → Prop) (n : Nat) (done : Nat → Prop) (h : List Int) : Prop where
  root : ∀ x, x < n → h.getD x 0 = -1 ∨ ∃ r : Nat, r < n ∧ h.getD x 0 = (r : Int) ∧ Mut E r x
  shut : ∀ x y, x < n → y < n → h.getD x 0 ≠ -1 → Mut E x y → h.getD y 0 = h.getD x 0
  done : ∀ x, done x → h.getD x 0 ≠ -1

/-- the next one -/
theorem HInv.next {E : Nat → Nat → Prop} {n : Nat} {done : Nat → Prop} {h : List Int} (hE : ∀ x y, E x y → x < n ∧ y < n) (hi : HInv E n done h) (hl : h.length = n) {pre post : List Nat} {k : Nat} (hk : k < n) (hall : ∀ x, x < n → x ∈ pre ++ k :: post) (hkos : ∀ x ∈ pre, Rch E x k → ∃ y, y ∉ pre ∧ Mut E y x) (hpost : ∀ x ∈ post, done x) (hpn : ∀ x ∈ post, x < n) {m : List Bool}
    (hm : ∀ x, x < n → (Mk m x ↔ h.getD x 0 ≠ -1 ∨ RM (fun a b => E b a) (fun z => z < n ∧ h.getD z 0 ≠ -1) k x)) : HInv E n (fun x => done x ∨ x = k) (mixH h (k : Int) m) := by
  have hget : ∀ x, x < n → (mixH h (k : Int) m).getD x 0 = if h.getD x 0 ≠ -1 then h.getD x 0 else if m.getD x false then (k : Int) else -1 := fun x hx => mixH_get h k m x (by omega)
  have hpart : ¬ (h.getD k 0 ≠ -1) → ∀ x, RM (fun a b => E b a) (fun z => z < n ∧ h.getD z 0 ≠ -1) k x ↔ Mut E k x := fun hk0 x => by
    refine kos_part hE hkos hall (M := fun z => z < n ∧ h.getD z 0 ≠ -1) (fun x hx => ?_) (fun a b ha hab => ?_) (fun hh => hk0 hh.2) hk x
    · exact ⟨hpn x hx, hi.done x (hpost x hx)⟩
    · have hbn : b < n := Rch.lt hE hab.1 ha.1
      exact ⟨hbn, by rw [hi.shut a b ha.1 hbn ha.2 hab]; exact ha.2⟩
  have hdef : ∀ x, ¬ x < n → (mixH h (k : Int) m).getD x 0 ≠ -1 := fun x hx => by
    rw [List.getD_eq_getElem?_getD, List.getElem?_eq_none (by rw [mixH_len]; omega)]
    simp
  by_cases hk0 : h.getD k 0 ≠ -1
  · have hsame : ∀ x, x < n → (mixH h (k : Int) m).getD x 0 = h.getD x 0 := fun x hx => by
      rw [hget x hx]
      by_cases hh : h.getD x 0 ≠ -1
      · rw [if_pos hh]
      · rw [if_neg hh, if_neg]
        · exact (Decidable.of_not_not hh).symm
        · intro hmx
          rcases (hm x hx).1 hmx with h1 | h1
          · exact hh h1
          · exact h1.not0 ⟨hk, hk0⟩
    refine ⟨fun x hx => by rw [hsame x hx]; exact hi.root x hx, fun x y hx hy h1 h2 => ?_, fun x hx => ?_⟩
    · rw [hsame x hx] at h1 ⊢
      rw [hsame y hy]
      exact hi.shut x y hx hy h1 h2
    · by_cases hxn : x < n
      · rw [hsame x hxn]
        rcases hx with hx | rfl
        · exact hi.done x hx
        · exact hk0
      · exact hdef x hxn
  · have hpk := hpart hk0
    have hnew : ∀ x, x < n → h.getD x 0 = -1 → (mixH h (k : Int) m).getD x 0 = if m.getD x false then (k : Int) else -1 := fun x hx hh => by rw [hget x hx, if_neg (by simpa using hh)]
    have hold : ∀ x, x < n → h.getD x 0 ≠ -1 → (mixH h (k : Int) m).getD x 0 = h.getD x 0 := fun x hx hh => by rw [hget x hx, if_pos hh]
    have hmk : ∀ x, x < n → h.getD x 0 = -1 → (m.getD x false = true ↔ Mut E k x) := fun x hx hh => by
      have h1 := hm x hx
      rw [hpk x] at h1
      unfold Mk at h1
      rw [h1]
      constructor
      · rintro (h2 | h2)
        · exact absurd hh h2
        · exact h2
      · exact .inr
    refine ⟨fun x hx => ?_, fun x y hx hy h1 h2 => ?_, fun x hx => ?_⟩
    · by_cases hh : h.getD x 0 = -1
      · rw [hnew x hx hh]
        by_cases hmx : m.getD x false = true
        · rw [if_pos hmx]
          exact .inr ⟨k, hk, rfl, (hmk x hx hh).1 hmx⟩
        · rw [if_neg hmx]
          exact .inl rfl
      · rw [hold x hx hh]
        exact hi.root x hx
    · by_cases hh : h.getD x 0 = -1
      · rw [hnew x hx hh] at h1 ⊢
        by_cases hmx : m.getD x false = true
        · have hkx := (hmk x hx hh).1 hmx
          have hhy : h.getD y 0 = -1 := by
            by_cases hhy : h.getD y 0 = -1
            · exact hhy
            · have := hi.shut y x hy hx hhy h2.symm
              rw [hh] at this
              exact this.symm
          rw [if_pos hmx, hnew y hy hhy, if_pos ((hmk y hy hhy).2 (hkx.trans h2))]
        · rw [if_neg hmx] at h1
          exact absurd rfl h1
      · have e := hi.shut x y hx hy hh h2
        rw [hold x hx hh, hold y hy (by rw [e]; exact hh), e]
    · by_cases hxn : x < n
      · rcases hx with hx | rfl
        · have := hi.done x hx
          rw [hold x hxn this]; exact this
        · have hh : h.getD x 0 = -1 := Decidable.of_not_not hk0
          rw [hnew x hxn hh, if_pos ((hmk x hxn hh).2 (Mut.refl x))]
          omega
      · exact hdef x hxn
end Go.Proofs.Ytmlpkjeaieljfab

