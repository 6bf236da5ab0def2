/- The document's lists: Put. -/
import Derived.Test.YtkelhglflpdpeaaRg

namespace Go.Proofs.Ytkelhglflpdpeaa
open Go.RowKit Go.PlainAid


set_option maxRecDepth 100000 in
set_option maxHeartbeats 2000000 in
theorem rPut_some (v : Value) (l : List Pr) (x y : Pr) (over : Bool) (w : World) (h : Rd encP 2 w v l) (hr : Ris l) (hl : l.length + 1 ≤ 8796093021952) (hlk : lk l x.k = some y) :
    Calls Try.prog 12 #[v, vP x, .bool over] w fun e w' => ∃ v', e = .returned (.tuple #[v', .bool true]) ∧ Rw 29 encP 2 w' v' (if over then putL l x else addL l x) ∧ Keep [] w w' := by
  obtain ⟨R, HRR⟩ : ∃ R : List Pr, Hid (R = if over then putL l x else addL l x) := ⟨_, show _ = _ from rfl⟩
  rw [← HRR.out]
  have HR1 : Hid (R = if over then setL l (rnk l x.k) x else l) := by show _ = _; rw [HRR.out]; unfold putL addL; rw [hlk]; rfl
  clear HRR
  obtain ⟨ao, cap, rfl, hc1, hc2⟩ := h.form
  have HV : Hid (Rd encP 2 w (.slice ao l.length cap) l) := h
  have hli : (l.length : Int) ≤ 8796093021951 := by omega
  have HLL : Hid (l.length ≤ 8796093021951) := by show _ ≤ _; omega
  have HX : Hid (Bp w w.heap.size x (w.alloc (.cells #[.int .i64 x.k, .int .i64 x.m] 29))) := Bp.new w x
  have HFi : Hid (∀ w9, Keep [] w w9 → Calls Try.prog 46 #[.slice ao l.length cap, vP x] w9 fun e w' => e = .returned (.int .i64 (fnd l x.k)) ∧ Keep [] w9 w') := fun w9 kk => rFind_any _ l x w9 (h.keep kk (Off.nil _)) hr (by omega)
  have HRk : Hid (∀ w9, Keep [] w w9 → Calls Try.prog 47 #[.slice ao l.length cap, vP x] w9 fun e w' => e = .returned (.int .i64 (rnk l x.k : Int)) ∧ Keep [] w9 w') := fun w9 kk => rRank_any _ l x w9 (h.keep kk (Off.nil _)) (by omega)
  have HFd : Hid (fnd l x.k = (rnk l x.k : Int)) := by show _ = _; unfold fnd; rw [hlk]; rfl
  rw [HFd.out] at HFi
  have HRn : Hid (rnk l x.k < l.length) := (lk_at hlk).1
  obtain ⟨n, HNn⟩ : ∃ n : Nat, Hid (n = rnk l x.k) := ⟨_, show _ = _ from rfl⟩
  rw [← HNn.out] at HFi HRk HRn
  rw [← HNn.out] at HR1
  clear h hr hl HFd hlk
  go_enter Try.func12, Try.ntmps12
  obtain ⟨x0, x1, _⟩ := HX.out
  go_wp2_with fail
  refine (HFi.out _ (Keep.alloc1 _ _)).mono ?_
  clear HFi
  rintro e w2 ⟨rfl, k2⟩
  have cx0 := k2.cell' x0 (by simp)
  have cx1 := k2.cell' x1 (by simp)
  go_wp2_with fail
  refine (HRk.out _ ((Keep.alloc1 _ _).trans' k2)).mono ?_
  clear HRk
  rintro e w3 ⟨rfl, k3⟩
  have HK3 : Hid (Keep [] (w.alloc (.cells #[.int .i64 x.k, .int .i64 x.m] 29)) w3) := k2.trans' k3
  clear k2 k3 x0 x1 cx0 cx1
  go_wp2_with fail
  have hnl : (n : Int) < (l.length : Int) := by have := HRn.out; omega
  have hn0 : (0 : Int) ≤ (n : Int) := by omega
  have HRl : Hid (R.length = l.length) := by
    show _ = _
    rw [HR1.out]
    split
    · exact setL_len _ _ _ HRn.out
    · rfl
  go_loopw [10, 11] (fun ov iv wr => ∃ i : Nat, iv = .int .i64 (i : Int) ∧ i ≤ l.length ∧ Hid (Ro (w.alloc (.cells #[.int .i64 x.k, .int .i64 x.m] 29)) wr ov ((R.take i)))) (fun ov iv _ => l.length - (intOf iv).toNat)
  case atStart =>
    refine ⟨0, rfl, Nat.zero_le _, ?_⟩
    rw [show ((R.take 0)) = [] by simp]
    exact ⟨Rw.nil _ _ _ _, fun g hg => by simp [Value.ownBlock] at hg, HK3.out⟩
  case round =>
    obtain ⟨i, rfl, hi, HI⟩ := hrel
    have cx0 := HI.out.kp.cell' HX.out.1 (by simp)
    have cx1 := HI.out.kp.cell' HX.out.2.1 (by simp)
    by_cases hlt : i < l.length
    · have hlti : (i : Int) < (l.length : Int) := by omega
      have hi0 : (0 : Int) ≤ (i : Int) := by omega
      obtain ⟨b, o, c2, he, hb, e0, e1⟩ := (HV.out.keep ((Keep.alloc1 _ _).trans' HI.out.kp) (Off.nil _)).pair i hlt
      simp at he
      obtain ⟨rfl, rfl⟩ := he
      have HRi : Hid (∃ hh : i < R.length, (i = n → over = true → R[i] = x) ∧ ((i ≠ n ∨ over = false) → R[i] = l[i])) := by
        have h0 := HRl.out
        refine ⟨by omega, fun h1 h2 => ?_, fun h1 => ?_⟩
        · have h5 : R[i]? = some x := by
            rw [HR1.out, h2, if_pos rfl]
            unfold setL
            rw [List.getElem?_append_right (by simp; omega)]
            have : i - (List.take n l).length = 0 := by simp; omega
            rw [this]
            rfl
          rw [List.getElem?_eq_getElem (by omega)] at h5
          exact Option.some.inj h5
        · have h5 : R[i]? = l[i]? := by
            rw [HR1.out]
            split
            · rename_i ho
              have hne : i ≠ n := by rcases h1 with h1 | h1; exact h1; rw [h1] at ho; cases ho
              unfold setL
              by_cases hin : i < n
              · rw [List.getElem?_append_left (by simp; omega), List.getElem?_take_of_lt hin]
              · obtain ⟨m, rfl⟩ : ∃ m, i = n + (m + 1) := ⟨i - n - 1, by omega⟩
                have hll : (List.take n l).length = n := by simp; omega
                rw [List.getElem?_append_right (by omega), hll]
                have e9 : n + (m + 1) - n = m + 1 := by omega
                rw [e9, List.getElem?_cons_succ, List.getElem?_drop]
                congr 1
                omega
            · rfl
          rw [List.getElem?_eq_getElem (by omega), List.getElem?_eq_getElem hlt] at h5
          exact Option.some.inj h5
      obtain ⟨hh, HRa, HRb⟩ := HRi.out
      have HTk : Hid (R.take (i + 1) = R.take i ++ [R[i]]) := by show _ = _; rw [List.take_append_getElem hh]
      have HTl : Hid ((R.take i).length = i) := by show _ = _; rw [List.length_take]; have := HRl.out; omega
      generalize hLd : R.take i = L at *
      have HB1 : Hid ((L.length + 1) * 16 ≤ 140737488355328 ∧ L.length + 1 ≤ maxLen) := by
        have h1 := HTl.out
        have h2 := HLL.out
        have h3 := hlt
        exact ⟨by omega, by simp only [maxLen]; omega⟩
      have HO : Hid (type_of% HI.out) := HI.out
      by_cases hin : i = n
      · cases over with
        | true =>
          have hRx := HRa hin rfl
          rw [hRx] at HTk
          subst hin
          clear HRa HRb hRx HRi e0 e1 hLd HI hb HR1
          go_wp2_with (at_builtin; refine wp_appC infoP rfl rfl (.tmp 41) (.tmp 43) 25 25 rfl Try.underlying25 _ L.length (L.flatMap encP) rfl (RowC.keep HO.out.row (Keep.alloc1 wr _) (Off.nil _)) (.slice (some ⟨wr.heap.size, 0, none⟩) 1 1) 1 (encP x) rfl (src_pair wr x) HB1.out.1 HB1.out.2 ?_; intro v1 z1 a1 a2 a3 a4 a5)
          have HF : Hid (Ro (w.alloc (.cells #[.int .i64 x.k, .int .i64 x.m] 29)) z1 v1 (L ++ [x])) := HO.out.app a1 a2 a3
          rw [← HTk.out] at HF
          clear a1 a2 a3 a4 a5 HO HTk
          go_wp2_with fail
          go_roundw
          case rel => exact ⟨i + 1, by simp, by omega, HF.out⟩
          case measure => simp [intOf]; omega
        | false =>
          have hRx := HRb (.inr rfl)
          rw [hRx] at HTk
          generalize l[i] = q at *
          subst hin
          clear HRa HRb hRx HRi hLd HI hb HR1
          go_wp2_with (at_builtin; refine wp_appC infoP rfl rfl (.tmp 45) (.tmp 50) 25 25 rfl Try.underlying25 _ L.length (L.flatMap encP) rfl (RowC.keep HO.out.row (Keep.alloc1 wr _) (Off.nil _)) (.slice (some ⟨wr.heap.size, 0, none⟩) 1 1) 1 (encP q) rfl (src_pair wr q) HB1.out.1 HB1.out.2 ?_; intro v1 z1 a1 a2 a3 a4 a5)
          have HF : Hid (Ro (w.alloc (.cells #[.int .i64 x.k, .int .i64 x.m] 29)) z1 v1 (L ++ [q])) := HO.out.app a1 a2 a3
          rw [← HTk.out] at HF
          clear a1 a2 a3 a4 a5 HO HTk
          go_wp2_with fail
          go_roundw
          case rel => exact ⟨i + 1, by simp, by omega, HF.out⟩
          case measure => simp [intOf]; omega
      · have hRx := HRb (.inl hin)
        rw [hRx] at HTk
        generalize l[i] = q at *
        have hine : ¬ (i : Int) = (n : Int) := by omega
        clear HRa HRb hRx HRi hLd HI hb HR1
        go_wp2_with (at_builtin; refine wp_appC infoP rfl rfl (.tmp 45) (.tmp 50) 25 25 rfl Try.underlying25 _ L.length (L.flatMap encP) rfl (RowC.keep HO.out.row (Keep.alloc1 wr _) (Off.nil _)) (.slice (some ⟨wr.heap.size, 0, none⟩) 1 1) 1 (encP q) rfl (src_pair wr q) HB1.out.1 HB1.out.2 ?_; intro v1 z1 a1 a2 a3 a4 a5)
        have HF : Hid (Ro (w.alloc (.cells #[.int .i64 x.k, .int .i64 x.m] 29)) z1 v1 (L ++ [q])) := HO.out.app a1 a2 a3
        rw [← HTk.out] at HF
        clear a1 a2 a3 a4 a5 HO HTk
        go_wp2_with fail
        go_roundw
        case rel => exact ⟨i + 1, by simp, by omega, HF.out⟩
        case measure => simp [intOf]; omega
    · obtain rfl : i = l.length := by omega
      have hnl2 : ¬ (l.length : Int) < (l.length : Int) := by omega
      have hnn : ¬ (n : Int) = (l.length : Int) := by omega
      have hE : R.take l.length = R := List.take_of_length_le (by rw [HRl.out]; omega)
      rw [hE] at HI
      clear hE
      go_wp2
      go_ret2
      exact ⟨_, rfl, HI.out.row, (Keep.alloc1 _ _).trans' HI.out.kp⟩

end Go.Proofs.Ytkelhglflpdpeaa
