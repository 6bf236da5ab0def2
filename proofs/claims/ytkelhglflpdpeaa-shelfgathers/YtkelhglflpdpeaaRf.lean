/- The document's lists: Find, Rank. -/
import Derived.Test.YtkelhglflpdpeaaOm

namespace Go.Proofs.Ytkelhglflpdpeaa
open Go.RowKit Go.PlainAid


/-- where the document finds one like k in a list that rises -/
def fnd (l : List Pr) (k : Int) : Int := if (lk l k).isSome then (rnk l k : Int) else -1

set_option maxRecDepth 100000 in
set_option maxHeartbeats 2000000 in
theorem rFind_any (v : Value) (l : List Pr) (x : Pr) (w : World) (h : Rd encP 2 w v l) (hr : Ris l) (hl : l.length ≤ 1152921504606846976) :
    Calls Try.prog 46 #[v, vP x] w fun e w' => e = .returned (.int .i64 (fnd l x.k)) ∧ Keep [] w w' := by
  obtain ⟨ao, cap, rfl, hc1, hc2⟩ := h.form
  have HV : Hid (Rd encP 2 w (.slice ao l.length cap) l) := h
  have HR : Hid (Ris l) := hr
  have hli : (l.length : Int) ≤ 1152921504606846976 := by omega
  obtain ⟨x0, x1, _⟩ := Bp.new w x
  have HX : Hid ((w.alloc (.cells #[.int .i64 x.k, .int .i64 x.m] 29)).cell? ⟨w.heap.size, 0, none⟩ = some (.int .i64 x.k)) := x0
  clear h hr hl x1
  go_enter Try.func46, Try.ntmps46
  go_wp2_with fail
  go_loopw [5] (fun iv wr => ∃ i : Nat, iv = .int .i64 (i : Int) ∧ i ≤ l.length ∧ Hid (Keep [] (w.alloc (.cells #[.int .i64 x.k, .int .i64 x.m] 29)) wr ∧ ∀ j (hj : j < l.length), j < i → l[j].k ≠ x.k)) (fun iv _ => l.length - (intOf iv).toNat)
  case atStart => exact ⟨0, rfl, Nat.zero_le _, Keep.refl _ _, fun j _ hj => by omega⟩
  case round =>
    obtain ⟨i, rfl, hi, HI⟩ := hrel
    by_cases hlt : i < l.length
    · have hlti : (i : Int) < (l.length : Int) := by omega
      have hi0 : (0 : Int) ≤ (i : Int) := by omega
      obtain ⟨b, o, c2, he, hb, e0, e1⟩ := (HV.out.keep ((Keep.alloc1 w (.cells #[.int .i64 x.k, .int .i64 x.m] 29)).trans' HI.out.1) (Off.nil _)).pair i hlt
      simp at he
      obtain ⟨rfl, rfl⟩ := he
      have cx := HI.out.1.cell' HX.out (by simp)
      by_cases hk : l[i].k = x.k
      · have HF : Hid (fnd l x.k = (i : Int)) := by
          show _ = _
          unfold fnd
          rw [← hk, lk_mem HR.out hlt, rnk_at HR.out hlt]
          rfl
        have HK : Hid (l[i].k = x.k) := hk
        rw [hk] at e0
        clear hk e1
        go_wp2_with fail
        go_region_held3 (fun w' => w'.cell? ⟨b, o + i * 2, none⟩ = some (.int .i64 x.k) ∧ w'.cell? ⟨w.heap.size, 0, none⟩ = some (.int .i64 x.k))
          (first | assumption | exact ⟨e0, cx⟩)
          (fail)
        go_wp2
        go_ret
        exact ⟨by rw [HF.out]; rfl, ((Keep.alloc1 w _).trans' HI.out.1).drew⟩
      · have HK : Hid (l[i].k ≠ x.k) := hk
        generalize hq : l[i] = q at *
        go_wp2_with fail
        go_region_held3 (fun w' => w'.cell? ⟨b, o + i * 2, none⟩ = some (.int .i64 q.k) ∧ w'.cell? ⟨w.heap.size, 0, none⟩ = some (.int .i64 x.k))
          (first | assumption | exact ⟨e0, cx⟩)
          (fail)
        rename_i hH
        clear hH
        go_wp2_with fail
        go_roundw
        case rel => exact ⟨i + 1, by simp, by omega, HI.out.1.drew, fun j hj hji => by
          by_cases hjj : j < i
          · exact HI.out.2 j hj hjj
          · obtain rfl : j = i := by omega
            rw [hq]; exact HK.out⟩
        case measure => simp [intOf]; omega
    · obtain rfl : i = l.length := by omega
      have hnl : ¬ (l.length : Int) < (l.length : Int) := by omega
      have HF : Hid (fnd l x.k = -1) := by
        show _ = _
        unfold fnd
        rw [(lk_none HR.out).2 (fun y hy => by
          obtain ⟨j, hj, rfl⟩ := List.getElem_of_mem hy
          exact HI.out.2 j hj hj)]
        rfl
      go_wp2
      go_ret
      exact ⟨by rw [HF.out]; rfl, (Keep.alloc1 w _).trans' HI.out.1⟩

set_option maxRecDepth 100000 in
set_option maxHeartbeats 2000000 in
theorem rRank_any (v : Value) (l : List Pr) (x : Pr) (w : World) (h : Rd encP 2 w v l) (hl : l.length ≤ 1152921504606846976) :
    Calls Try.prog 47 #[v, vP x] w fun e w' => e = .returned (.int .i64 (rnk l x.k : Int)) ∧ Keep [] w w' := by
  obtain ⟨ao, cap, rfl, hc1, hc2⟩ := h.form
  have HV : Hid (Rd encP 2 w (.slice ao l.length cap) l) := h
  have hli : (l.length : Int) ≤ 1152921504606846976 := by omega
  obtain ⟨x0, x1, _⟩ := Bp.new w x
  have HX : Hid ((w.alloc (.cells #[.int .i64 x.k, .int .i64 x.m] 29)).cell? ⟨w.heap.size, 0, none⟩ = some (.int .i64 x.k)) := x0
  clear h hl x1
  go_enter Try.func47, Try.ntmps47
  go_wp2_with fail
  go_loopw [5, 6] (fun nv iv wr => ∃ i : Nat, iv = .int .i64 (i : Int) ∧ nv = .int .i64 (rnk (l.take i) x.k : Int) ∧ i ≤ l.length ∧ Hid (Keep [] (w.alloc (.cells #[.int .i64 x.k, .int .i64 x.m] 29)) wr)) (fun nv iv _ => l.length - (intOf iv).toNat)
  case atStart => exact ⟨0, rfl, rfl, Nat.zero_le _, Keep.refl _ _⟩
  case round =>
    obtain ⟨i, rfl, rfl, hi, HI⟩ := hrel
    by_cases hlt : i < l.length
    · have hlti : (i : Int) < (l.length : Int) := by omega
      have hi0 : (0 : Int) ≤ (i : Int) := by omega
      obtain ⟨b, o, c2, he, hb, e0, e1⟩ := (HV.out.keep ((Keep.alloc1 w (.cells #[.int .i64 x.k, .int .i64 x.m] 29)).trans' HI.out) (Off.nil _)).pair i hlt
      simp at he
      obtain ⟨rfl, rfl⟩ := he
      have cx := HI.out.cell' HX.out (by simp)
      have HSn : Hid (rnk (l.take (i + 1)) x.k = rnk (l.take i) x.k + (if l[i].k < x.k then 1 else 0)) := rnk_snoc l i hlt x.k
      have hrn : (rnk (l.take i) x.k : Int) ≤ (l.length : Int) := by have := rnk_le (l.take i) x.k; rw [List.length_take] at this; omega
      have hrn0 : (0 : Int) ≤ (rnk (l.take i) x.k : Int) := by omega
      generalize l[i] = q at *
      by_cases hq : q.k < x.k
      · have HSq : Hid (rnk (l.take (i + 1)) x.k = rnk (l.take i) x.k + 1) := by show _ = _; rw [HSn.out, if_pos hq]
        go_wp2_with fail
        go_region_held3 (fun w' => w'.cell? ⟨b, o + i * 2, none⟩ = some (.int .i64 q.k) ∧ w'.cell? ⟨w.heap.size, 0, none⟩ = some (.int .i64 x.k))
          (first | assumption | exact ⟨e0, cx⟩)
          (fail)
        rename_i hH
        clear hH
        go_wp2_with fail
        go_roundw
        case rel => exact ⟨i + 1, by simp, by rw [HSq.out]; simp, by omega, HI.out.drew⟩
        case measure => simp [intOf]; omega
      · have HSq : Hid (rnk (l.take (i + 1)) x.k = rnk (l.take i) x.k) := by show _ = _; rw [HSn.out, if_neg hq]; rfl
        go_wp2_with fail
        go_region_held3 (fun w' => w'.cell? ⟨b, o + i * 2, none⟩ = some (.int .i64 q.k) ∧ w'.cell? ⟨w.heap.size, 0, none⟩ = some (.int .i64 x.k))
          (first | assumption | exact ⟨e0, cx⟩)
          (fail)
        rename_i hH
        clear hH
        go_wp2_with fail
        go_roundw
        case rel => exact ⟨i + 1, by simp, by rw [HSq.out], by omega, HI.out.drew⟩
        case measure => simp [intOf]; omega
    · obtain rfl : i = l.length := by omega
      have hnl : ¬ (l.length : Int) < (l.length : Int) := by omega
      rw [List.take_length]
      go_wp2
      go_ret
      exact ⟨rfl, (Keep.alloc1 w _).trans' HI.out⟩

end Go.Proofs.Ytkelhglflpdpeaa
