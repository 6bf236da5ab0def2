/- The document's lists: Put, Remove. -/
import Derived.Test.YtkelhglflpdpeaaRf

namespace Go.Proofs.Ytkelhglflpdpeaa
open Go.RowKit Go.PlainAid


/-- a row of one's own, made since w0 -/
structure Ro (w0 W : World) (v : Value) (l : List Pr) : Prop where
  row : Rw 29 encP 2 W v l
  ge : ∀ g, v.ownBlock = some g → w0.heap.size ≤ g
  kp : Keep [] w0 W
theorem Ro.app {w0 W W' : World} {v v' : Value} {l : List Pr} {y : Pr} {o : Obj} (h : Ro w0 W v l) (a1 : RowC W' 29 2 v' (l.length + 1) (l.flatMap encP ++ encP y)) (a2 : Keep v.ownBlock.toList (W.alloc o) W') (a3 : v'.ownBlock = v.ownBlock ∨ Fresh (W.alloc o) W' v') : Ro w0 W' v' (l ++ [y]) := by
  refine ⟨?_, fun g hg => ?_, (h.kp.alloc o).more a2 (fun x hx => .inr (h.ge x (by simpa using hx)))⟩
  · have e : (l ++ [y]).flatMap encP = l.flatMap encP ++ encP y := by simp
    show RowC _ _ _ _ _ _
    rw [e, List.length_append]
    exact a1
  · rcases a3 with h1 | h1
    · exact h.ge g (by rw [← h1]; exact hg)
    · have := (h1 g hg).1
      have := h.kp.size
      simp at *
      omega
theorem Ro.nil (w : World) : Ro w w (.slice none 0 0) [] := ⟨Rw.nil _ _ _ _, fun g hg => by simp [Value.ownBlock] at hg, Keep.refl _ _⟩
theorem Ro.more {w0 W W' : World} {v : Value} {l : List Pr} (h : Ro w0 W v l) (k : Keep [] W W') : Ro w0 W' v l := ⟨h.row.keep k (Off.nil _), h.ge, h.kp.trans' k⟩

set_option maxRecDepth 100000 in
set_option maxHeartbeats 2000000 in
theorem rRemove_any (v : Value) (l : List Pr) (x : Pr) (w : World) (h : Rd encP 2 w v l) (hr : Ris l) (hl : l.length + 1 ≤ 8796093021952) :
    Calls Try.prog 15 #[v, vP x] w fun e w' => ∃ v', e = .returned (.tuple #[v', .bool (lk l x.k).isSome]) ∧ Rw 29 encP 2 w' v' (remL l x) ∧ Keep [] w w' := by
  obtain ⟨ao, cap, rfl, hc1, hc2⟩ := h.form
  have HV : Hid (Rd encP 2 w (.slice ao l.length cap) l) := h
  have hli : (l.length : Int) ≤ 8796093021951 := by omega
  have HLL : Hid (l.length ≤ 8796093021951) := by show _ ≤ _; omega
  obtain ⟨x0, x1, _⟩ := Bp.new w x
  have HFi : Hid (∀ w9, Keep [] w w9 → Calls Try.prog 46 #[.slice ao l.length cap, vP x] w9 fun e w' => e = .returned (.int .i64 (fnd l x.k)) ∧ Keep [] w9 w') := fun w9 kk => rFind_any _ l x w9 (h.keep kk (Off.nil _)) hr (by omega)
  obtain ⟨at_, HAt⟩ : ∃ a : Int, Hid (a = fnd l x.k) := ⟨_, show _ = _ from rfl⟩
  obtain ⟨d, HD⟩ : ∃ d : Bool, Hid (d = (lk l x.k).isSome) := ⟨_, show _ = _ from rfl⟩
  have HD2 : Hid ((d = true ∧ at_ = (rnk l x.k : Int) ∧ rnk l x.k < l.length ∧ remL l x = delL l (rnk l x.k)) ∨ (d = false ∧ at_ = -1 ∧ remL l x = l)) := by
    cases hlk : lk l x.k with
    | some y => exact .inl ⟨by rw [HD.out, hlk]; rfl, by rw [HAt.out]; unfold fnd; rw [hlk]; rfl, (lk_at hlk).1, by unfold remL; rw [hlk]; rfl⟩
    | none => exact .inr ⟨by rw [HD.out, hlk]; rfl, by rw [HAt.out]; unfold fnd; rw [hlk]; rfl, by unfold remL; rw [hlk]; rfl⟩
  rw [← HAt.out] at HFi
  rw [← HD.out]
  clear h hr hl HAt HD
  go_enter Try.func15, Try.ntmps15
  go_wp2_with fail
  refine (HFi.out _ (Keep.alloc1 _ _)).mono ?_
  clear HFi
  rintro e w2 ⟨rfl, k2⟩
  have HK2 : Hid (Keep [] w w2) := (Keep.alloc1 _ _).trans' k2
  clear k2 x0 x1
  go_wp2_with fail
  go_loopw [7, 8] (fun ov iv wr => ∃ i : Nat, iv = .int .i64 (i : Int) ∧ i ≤ l.length ∧ Hid (Ro w wr ov (if at_ = -1 ∨ (i : Int) ≤ at_ then l.take i else (delL l at_.toNat).take (i - 1)))) (fun ov iv _ => l.length - (intOf iv).toNat)
  case atStart =>
    refine ⟨0, rfl, Nat.zero_le _, ?_⟩
    rw [show (if at_ = -1 ∨ ((0 : Nat) : Int) ≤ at_ then l.take 0 else (delL l at_.toNat).take (0 - 1)) = [] by split <;> simp]
    exact ⟨Rw.nil _ _ _ _, fun g hg => by simp [Value.ownBlock] at hg, HK2.out⟩
  case round =>
    obtain ⟨i, rfl, hi, HI⟩ := hrel
    by_cases hlt : i < l.length
    · have hlti : (i : Int) < (l.length : Int) := by omega
      have hi0 : (0 : Int) ≤ (i : Int) := by omega
      obtain ⟨b, o, c2, he, hb, e0, e1⟩ := (HV.out.keep HI.out.kp (Off.nil _)).pair i hlt
      simp at he
      obtain ⟨rfl, rfl⟩ := he
      by_cases hia : (i : Int) = at_
      · have HN : Hid ((if at_ = -1 ∨ ((i + 1 : Nat) : Int) ≤ at_ then l.take (i + 1) else (delL l at_.toNat).take (i + 1 - 1)) = (if at_ = -1 ∨ (i : Int) ≤ at_ then l.take i else (delL l at_.toNat).take (i - 1))) := by
          show _ = _
          rw [if_neg (by omega), if_pos (by omega), ← hia]
          simp only [Int.toNat_natCast, Nat.add_sub_cancel, delL]
          rw [List.take_append_of_le_length (by simp; omega), List.take_take, Nat.min_self]
        rw [← HN.out] at HI
        clear HN
        subst hia
        go_wp2_with fail
        go_roundw
        case rel => exact ⟨i + 1, by simp, by omega, HI.out⟩
        case measure => simp [intOf]; omega
      · obtain ⟨L, HLd⟩ : ∃ L : List Pr, Hid (L = (if at_ = -1 ∨ (i : Int) ≤ at_ then l.take i else (delL l at_.toNat).take (i - 1))) := ⟨_, show _ = _ from rfl⟩
        have HLn : Hid (L.length ≤ i) := by
          show _ ≤ _
          rw [HLd.out]
          split <;> simp <;> omega
        have HN : Hid ((if at_ = -1 ∨ ((i + 1 : Nat) : Int) ≤ at_ then l.take (i + 1) else (delL l at_.toNat).take (i + 1 - 1)) = L ++ [l[i]]) := by
          show _ = _
          rw [HLd.out]
          rcases HD2.out with ⟨_, h1, h2, _⟩ | ⟨_, h1, _⟩
          · by_cases hle : (i : Int) ≤ at_
            · rw [if_pos (by omega), if_pos (by omega), List.take_append_getElem hlt]
            · rw [if_neg (by omega), if_neg (by omega)]
              obtain ⟨m, rfl⟩ : ∃ m, i = m + 1 := ⟨i - 1, by omega⟩
              have hm : rnk l x.k ≤ m := by omega
              have e5 : at_.toNat = rnk l x.k := by omega
              rw [e5]
              generalize rnk l x.k = r at *
              have e6 : m < (delL l r).length := by have := delL_len l r h2; omega
              have e7 : (delL l r)[m] = l[m + 1] := by
                have h9 : (delL l r)[m]? = l[m + 1]? := by
                  unfold delL
                  rw [List.getElem?_append_right (by simp; omega), List.getElem?_drop]
                  congr 1
                  simp
                  omega
                rw [List.getElem?_eq_getElem e6, List.getElem?_eq_getElem hlt] at h9
                exact Option.some.inj h9
              simp only [Nat.add_sub_cancel]
              rw [← e7, List.take_append_getElem e6]
          · rw [if_pos (.inl h1), if_pos (.inl h1), List.take_append_getElem hlt]
        rw [← HLd.out] at HI
        have HB1 : Hid ((L.length + 1) * 16 ≤ 140737488355328 ∧ L.length + 1 ≤ maxLen) := by
          have h1 := HLn.out
          have h2 := HLL.out
          have h3 := hlt
          exact ⟨by omega, by simp only [maxLen]; omega⟩
        have HO : Hid (type_of% HI.out) := HI.out
        generalize l[i] = q at *
        clear HLd HLn HI
        go_wp2_with (at_builtin; refine wp_appC infoP rfl rfl (.tmp 21) (.tmp 26) 25 25 rfl Try.underlying25 _ L.length (L.flatMap encP) rfl (RowC.keep HO.out.row (Keep.alloc1 wr _) (Off.nil _)) (.slice (some ⟨wr.heap.size, 0, none⟩) 1 1) 1 (encP q) rfl (src_pair wr q) HB1.out.1 HB1.out.2 ?_; intro v1 z1 a1 a2 a3 a4 a5)
        have HF : Hid (Ro w z1 v1 (L ++ [q])) := HO.out.app a1 a2 a3
        rw [← HN.out] at HF
        clear a1 a2 a3 a4 a5 HO HN
        go_wp2_with fail
        go_roundw
        case rel => exact ⟨i + 1, by simp, by omega, HF.out⟩
        case measure => simp [intOf]; omega
    · obtain rfl : i = l.length := by omega
      have hnl : ¬ (l.length : Int) < (l.length : Int) := by omega
      have HE : Hid ((if at_ = -1 ∨ (l.length : Int) ≤ at_ then l.take l.length else (delL l at_.toNat).take (l.length - 1)) = remL l x) := by
        show _ = _
        rcases HD2.out with ⟨_, h1, h2, h3⟩ | ⟨_, h1, h3⟩
        · have e5 : at_.toNat = rnk l x.k := by omega
          rw [if_neg (by omega), e5, h3, List.take_of_length_le (by have := delL_len l _ h2; omega)]
        · rw [if_pos (.inl h1), List.take_length, h3]
      rw [HE.out] at HI
      rcases HD2.out with ⟨rfl, h1, -, -⟩ | ⟨rfl, h1, -⟩
      · have hg : (0 : Int) ≤ at_ := by omega
        clear h1 HE HD2
        go_wp2
        go_ret2
        exact ⟨_, rfl, HI.out.row, HI.out.kp⟩
      · subst h1
        clear HE HD2
        go_wp2
        go_ret2
        exact ⟨_, rfl, HI.out.row, HI.out.kp⟩

end Go.Proofs.Ytkelhglflpdpeaa
