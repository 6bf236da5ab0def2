/- The document's lists: Put where there is none like it; Same; From; Rising. -/
import Derived.Test.YtkelhglflpdpeaaRh

namespace Go.Proofs.Ytkelhglflpdpeaa
open Go.RowKit Go.PlainAid


set_option maxRecDepth 100000 in
set_option maxHeartbeats 2000000 in
theorem rPut_none (v : Value) (l : List Pr) (x : Pr) (over : Bool) (w : World) (h : Rd encP 2 w v l) (hr : Ris l) (hl : l.length + 1 ≤ 8796093021952) (hlk : lk l x.k = none) :
    Calls Try.prog 12 #[v, vP x, .bool over] w fun e w' => ∃ v', e = .returned (.tuple #[v', .bool false]) ∧ Rw 29 encP 2 w' v' (if over then putL l x else addL l x) ∧ Keep [] w w' := by
  obtain ⟨R, HRR⟩ : ∃ R : List Pr, Hid (R = if over then putL l x else addL l x) := ⟨_, show _ = _ from rfl⟩
  rw [← HRR.out]
  have HR1 : Hid (R = insL l (rnk l x.k) x) := by show _ = _; rw [HRR.out]; unfold putL addL; rw [hlk]; cases over <;> rfl
  clear HRR
  obtain ⟨ao, cap, rfl, hc1, hc2⟩ := h.form
  have HV : Hid (Rd encP 2 w (.slice ao l.length cap) l) := h
  have hli : (l.length : Int) ≤ 8796093021951 := by omega
  have HLL : Hid (l.length ≤ 8796093021951) := by show _ ≤ _; omega
  have HX : Hid (Bp w w.heap.size x (w.alloc (.cells #[.int .i64 x.k, .int .i64 x.m] 29))) := Bp.new w x
  have HFi : Hid (∀ w9, Keep [] w w9 → Calls Try.prog 46 #[.slice ao l.length cap, vP x] w9 fun e w' => e = .returned (.int .i64 (fnd l x.k)) ∧ Keep [] w9 w') := fun w9 kk => rFind_any _ l x w9 (h.keep kk (Off.nil _)) hr (by omega)
  have HRk : Hid (∀ w9, Keep [] w w9 → Calls Try.prog 47 #[.slice ao l.length cap, vP x] w9 fun e w' => e = .returned (.int .i64 (rnk l x.k : Int)) ∧ Keep [] w9 w') := fun w9 kk => rRank_any _ l x w9 (h.keep kk (Off.nil _)) (by omega)
  have HFd : Hid (fnd l x.k = -1) := by show _ = _; unfold fnd; rw [hlk]; rfl
  rw [HFd.out] at HFi
  have HRn : Hid (rnk l x.k ≤ l.length) := rnk_le _ _
  obtain ⟨n, HNn⟩ : ∃ n : Nat, Hid (n = rnk l x.k) := ⟨_, show _ = _ from rfl⟩
  rw [← HNn.out] at HRk HRn
  rw [← HNn.out] at HR1
  clear h hr hl HFd hlk
  go_enter Try.func12, Try.ntmps12
  obtain ⟨x0, x1, _⟩ := HX.out
  go_wp2_with fail
  refine (HFi.out _ (Keep.alloc1 _ _)).mono ?_
  clear HFi
  rintro e w2 ⟨rfl, k2⟩
  have cx0 := k2.cell' x0 (by simp)
  have cx1 := k2.cell' x1 (by simp)
  go_wp2_with fail
  refine (HRk.out _ ((Keep.alloc1 _ _).trans' k2)).mono ?_
  clear HRk
  rintro e w3 ⟨rfl, k3⟩
  have HK3 : Hid (Keep [] (w.alloc (.cells #[.int .i64 x.k, .int .i64 x.m] 29)) w3) := k2.trans' k3
  clear k2 k3 x0 x1 cx0 cx1
  go_wp2_with fail
  have hnl : (n : Int) ≤ (l.length : Int) := by have := HRn.out; omega
  have hn0 : (0 : Int) ≤ (n : Int) := by omega
  go_loopw [10, 11] (fun ov iv wr => ∃ i : Nat, iv = .int .i64 (i : Int) ∧ i ≤ l.length ∧ Hid (Ro (w.alloc (.cells #[.int .i64 x.k, .int .i64 x.m] 29)) wr ov ((if i ≤ n then l.take i else l.take n ++ x :: (l.drop n).take (i - n))))) (fun ov iv _ => l.length - (intOf iv).toNat)
  case atStart =>
    refine ⟨0, rfl, Nat.zero_le _, ?_⟩
    rw [show ((if 0 ≤ n then l.take 0 else l.take n ++ x :: (l.drop n).take (0 - n))) = [] by simp]
    exact ⟨Rw.nil _ _ _ _, fun g hg => by simp [Value.ownBlock] at hg, HK3.out⟩
  case round =>
    obtain ⟨i, rfl, hi, HI⟩ := hrel
    have cx0 := HI.out.kp.cell' HX.out.1 (by simp)
    have cx1 := HI.out.kp.cell' HX.out.2.1 (by simp)
    by_cases hlt : i < l.length
    · have hlti : (i : Int) < (l.length : Int) := by omega
      have hi0 : (0 : Int) ≤ (i : Int) := by omega
      obtain ⟨b, o, c2, he, hb, e0, e1⟩ := (HV.out.keep ((Keep.alloc1 _ _).trans' HI.out.kp) (Off.nil _)).pair i hlt
      simp at he
      obtain ⟨rfl, rfl⟩ := he
      have him : ¬ (i : Int) = -1 := by omega
      have HE01 : Hid (w.cell? ⟨b, o + i * 2, none⟩ = some (.int .i64 l[i].k) ∧ w.cell? ⟨b, o + i * 2 + 1, none⟩ = some (.int .i64 l[i].m)) := by
        obtain ⟨b', o', c', he', _, h0', h1'⟩ := HV.out.pair i hlt
        simp at he'
        obtain ⟨⟨rfl, rfl⟩, _⟩ := he'
        exact ⟨h0', h1'⟩
      have HTl : Hid (((if i ≤ n then l.take i else l.take n ++ x :: (l.drop n).take (i - n))).length ≤ i + 1) := by show _ ≤ _; split <;> simp <;> omega
      have HT1 : Hid (i < n → ((if (i + 1) ≤ n then l.take (i + 1) else l.take n ++ x :: (l.drop n).take ((i + 1) - n))) = ((if i ≤ n then l.take i else l.take n ++ x :: (l.drop n).take (i - n))) ++ [l[i]]) := fun hh => by rw [if_pos (by omega), if_pos (by omega), List.take_append_getElem hlt]
      have HT2 : Hid (i = n → ((if (i + 1) ≤ n then l.take (i + 1) else l.take n ++ x :: (l.drop n).take ((i + 1) - n))) = (((if i ≤ n then l.take i else l.take n ++ x :: (l.drop n).take (i - n))) ++ [x]) ++ [l[i]]) := fun hh => by
        subst hh
        rw [if_neg (by omega), if_pos (by omega)]
        have e9 : i + 1 - i = 1 := by omega
        rw [e9, List.drop_eq_getElem_cons hlt, List.append_assoc]
        rfl
      have HT3 : Hid (n < i → ((if (i + 1) ≤ n then l.take (i + 1) else l.take n ++ x :: (l.drop n).take ((i + 1) - n))) = ((if i ≤ n then l.take i else l.take n ++ x :: (l.drop n).take (i - n))) ++ [l[i]]) := fun hh => by
        rw [if_neg (by omega), if_neg (by omega)]
        have e9 : i + 1 - n = (i - n) + 1 := by omega
        have e8 : i - n < (l.drop n).length := by simp; omega
        have e7 : (l.drop n)[i - n] = l[i] := by
          have h9 : (l.drop n)[i - n]? = l[i]? := by rw [List.getElem?_drop]; congr 1; omega
          rw [List.getElem?_eq_getElem e8, List.getElem?_eq_getElem hlt] at h9
          exact Option.some.inj h9
        rw [e9, ← List.take_append_getElem e8, e7]
        simp
      generalize ((if i ≤ n then l.take i else l.take n ++ x :: (l.drop n).take (i - n))) = L at *
      have HB1 : Hid ((L.length + 1) * 16 ≤ 140737488355328 ∧ L.length + 1 ≤ maxLen) := by
        have h1 := HTl.out
        have h2 := HLL.out
        have h3 := hlt
        exact ⟨by omega, by simp only [maxLen]; omega⟩
      have HB2 : Hid ((L.length + 1 + 1) * 16 ≤ 140737488355328 ∧ L.length + 1 + 1 ≤ maxLen) := by
        have h1 := HTl.out
        have h2 := HLL.out
        have h3 := hlt
        exact ⟨by omega, by simp only [maxLen]; omega⟩
      have HO : Hid (type_of% HI.out) := HI.out
      generalize l[i] = q at *
      rcases Nat.lt_trichotomy i n with hin | hin | hin
      · have hT := HT1.out hin
        have hine : ¬ (i : Int) = (n : Int) := by omega
        have HTT : Hid (type_of% hT) := hT
        clear HT1 HT2 HT3 hT HI hb HR1 HB2 HTl
        go_wp2_with (at_builtin; refine wp_appC infoP rfl rfl (.tmp 45) (.tmp 50) 25 25 rfl Try.underlying25 _ L.length (L.flatMap encP) rfl (RowC.keep HO.out.row (Keep.alloc1 wr _) (Off.nil _)) (.slice (some ⟨wr.heap.size, 0, none⟩) 1 1) 1 (encP q) rfl (src_pair wr q) HB1.out.1 HB1.out.2 ?_; intro v1 z1 a1 a2 a3 a4 a5)
        have HF : Hid (Ro (w.alloc (.cells #[.int .i64 x.k, .int .i64 x.m] 29)) z1 v1 (L ++ [q])) := HO.out.app a1 a2 a3
        rw [← HTT.out] at HF
        clear a1 a2 a3 a4 a5 HO HTT
        go_wp2_with fail
        go_roundw
        case rel => exact ⟨i + 1, by simp, by omega, HF.out⟩
        case measure => simp [intOf]; omega
      · have hT := HT2.out hin
        have HTT : Hid (type_of% hT) := hT
        subst hin
        clear HT1 HT2 HT3 hT hb HR1 HTl
        have HB3 : Hid (((L ++ [x]).length + 1) * 16 ≤ 140737488355328 ∧ (L ++ [x]).length + 1 ≤ maxLen) := by have h1 := HB2.out; simp only [List.length_append, List.length_singleton]; exact h1
        go_wp2_with (first | (at_builtin; refine wp_appC infoP rfl rfl (.tmp 31) (.tmp 33) 25 25 rfl Try.underlying25 _ L.length (L.flatMap encP) rfl (RowC.keep HO.out.row (Keep.alloc1 wr _) (Off.nil _)) (.slice (some ⟨wr.heap.size, 0, none⟩) 1 1) 1 (encP x) rfl (src_pair wr x) HB1.out.1 HB1.out.2 ?_; intro v1 z1 a1 a2 a3 a4 a5; have HF1 : Hid (Ro (w.alloc (.cells #[.int .i64 x.k, .int .i64 x.m] 29)) z1 v1 (L ++ [x])) := HO.out.app a1 a2 a3; clear a1 a2 a3 a4 a5; have f0 := ((Keep.alloc1 w (.cells #[.int .i64 x.k, .int .i64 x.m] 29)).trans' HF1.out.kp).cell' HE01.out.1 (by simp); have f1 := ((Keep.alloc1 w (.cells #[.int .i64 x.k, .int .i64 x.m] 29)).trans' HF1.out.kp).cell' HE01.out.2 (by simp)) | (at_builtin; refine wp_appC infoP rfl rfl (.tmp 45) (.tmp 50) 25 25 rfl Try.underlying25 _ (L ++ [x]).length ((L ++ [x]).flatMap encP) rfl (RowC.keep HF1.out.row (Keep.alloc1 z1 _) (Off.nil _)) (.slice (some ⟨z1.heap.size, 0, none⟩) 1 1) 1 (encP q) rfl (src_pair z1 q) HB3.out.1 HB3.out.2 ?_; intro v2 z2 a1 a2 a3 a4 a5))
        have HF : Hid (Ro (w.alloc (.cells #[.int .i64 x.k, .int .i64 x.m] 29)) z2 v2 ((L ++ [x]) ++ [q])) := HF1.out.app a1 a2 a3
        rw [← HTT.out] at HF
        clear a1 a2 a3 a4 a5 HO HTT HF1
        go_wp2_with fail
        go_roundw
        case rel => exact ⟨i + 1, by simp, by omega, HF.out⟩
        case measure => simp [intOf]; omega
      · have hT := HT3.out hin
        have hine : ¬ (i : Int) = (n : Int) := by omega
        have HTT : Hid (type_of% hT) := hT
        clear HT1 HT2 HT3 hT HI hb HR1 HB2 HTl
        go_wp2_with (at_builtin; refine wp_appC infoP rfl rfl (.tmp 45) (.tmp 50) 25 25 rfl Try.underlying25 _ L.length (L.flatMap encP) rfl (RowC.keep HO.out.row (Keep.alloc1 wr _) (Off.nil _)) (.slice (some ⟨wr.heap.size, 0, none⟩) 1 1) 1 (encP q) rfl (src_pair wr q) HB1.out.1 HB1.out.2 ?_; intro v1 z1 a1 a2 a3 a4 a5)
        have HF : Hid (Ro (w.alloc (.cells #[.int .i64 x.k, .int .i64 x.m] 29)) z1 v1 (L ++ [q])) := HO.out.app a1 a2 a3
        rw [← HTT.out] at HF
        clear a1 a2 a3 a4 a5 HO HTT
        go_wp2_with fail
        go_roundw
        case rel => exact ⟨i + 1, by simp, by omega, HF.out⟩
        case measure => simp [intOf]; omega
    · obtain rfl : i = l.length := by omega
      have hnl2 : ¬ (l.length : Int) < (l.length : Int) := by omega
      by_cases hnn : n = l.length
      · have hE : ((if l.length ≤ n then l.take l.length else l.take n ++ x :: (l.drop n).take (l.length - n))) = l := by rw [if_pos (by omega), List.take_length]
        rw [hE] at HI
        have HB1 : Hid ((l.length + 1) * 16 ≤ 140737488355328 ∧ l.length + 1 ≤ maxLen) := by
          have h2 := HLL.out
          exact ⟨by omega, by simp only [maxLen]; omega⟩
        have HRe : Hid (R = l ++ [x]) := by show _ = _; rw [HR1.out, hnn]; simp [insL]
        have HO : Hid (type_of% HI.out) := HI.out
        subst hnn
        clear hE HR1 HI
        go_wp2_with (at_builtin; refine wp_appC infoP rfl rfl (.tmp 56) (.tmp 58) 25 25 rfl Try.underlying25 _ l.length (l.flatMap encP) rfl (RowC.keep HO.out.row (Keep.alloc1 wr _) (Off.nil _)) (.slice (some ⟨wr.heap.size, 0, none⟩) 1 1) 1 (encP x) rfl (src_pair wr x) HB1.out.1 HB1.out.2 ?_; intro v1 z1 a1 a2 a3 a4 a5)
        have HF : Hid (Ro (w.alloc (.cells #[.int .i64 x.k, .int .i64 x.m] 29)) z1 v1 (l ++ [x])) := HO.out.app a1 a2 a3
        clear a1 a2 a3 a4 a5 HO
        go_wp2
        go_ret2
        exact ⟨_, rfl, by rw [HRe.out]; exact HF.out.row, (Keep.alloc1 _ _).trans' HF.out.kp⟩
      · have hnn2 : ¬ (n : Int) = (l.length : Int) := by omega
        have hE : ((if l.length ≤ n then l.take l.length else l.take n ++ x :: (l.drop n).take (l.length - n))) = R := by
          rw [if_neg (by have := HRn.out; omega), HR1.out, insL, List.take_of_length_le (l := l.drop n) (by simp)]
        rw [hE] at HI
        clear hE HR1
        go_wp2
        go_ret2
        exact ⟨_, rfl, HI.out.row, (Keep.alloc1 _ _).trans' HI.out.kp⟩

end Go.Proofs.Ytkelhglflpdpeaa
