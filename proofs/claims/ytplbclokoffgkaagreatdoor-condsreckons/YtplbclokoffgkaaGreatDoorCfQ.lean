/- Conditions: what a condition reads; what it lacks. -/
import Derived.Test.YtplbclokoffgkaaGreatDoorCfJ
import Derived.Test.YtplbclokoffgkaaGreatDoorShelf
import Derived.Lib.SliceRun
namespace Go.Proofs.YtplbclokoffgkaaGreatDoor
open Go.RowKit Go.PlainAid Go.Shelf

theorem infoS9 : (Tryz.prog.info? 9).map (fun i => (i.zero, i.size, i.bytes)) = some (some (.string ⟨#[]⟩), 1, 16) := by kernel_rfl
/-- names, as bytes; as they lie -/
abbrev sv (l : List (List UInt8)) : List Value := l.map Go.Proofs.encStr
theorem sv_len (l : List (List UInt8)) : (sv l).length = l.length := by simp
/-- the names among parts -/
def nmsL (xs : List Pt) : List (List UInt8) := xs.filterMap fun x => if x.kind = 2 then some x.nm.data.toList else none
theorem nms_len (xs : List Pt) : (nmsL xs).length ≤ xs.length := List.length_filterMap_le _ _
theorem ba_back (s : ByteArray) : Go.Proofs.encStr s.data.toList = .string s := by
  cases s with
  | mk d => simp [Go.Proofs.encStr]
theorem row_holds {w : World} {g c : Nat} {l : List (List UInt8)} (h : RowC w 9 1 (.slice (some ⟨g, 0, none⟩) l.length c) l.length (sv l)) : Go.Sort.Holds Go.Proofs.encStr w g 0 l.toArray := by
  intro j hj
  have hj' : j < l.length := by simpa using hj
  rcases h.cases with ⟨h0, _⟩ | ⟨g', c', he, _, _, _, hc, hf⟩
  · omega
  · simp at he
    obtain ⟨rfl, rfl⟩ := he
    refine ⟨?_, by simpa using hf j⟩
    rw [Nat.zero_add, hc j (by omega)]
    simp [hj']

set_option maxRecDepth 1000000 in
set_option maxHeartbeats 6400000 in
theorem reads_any (nm : ByteArray) (vp : Value) (hsl : ∃ a n c, vp = .slice a n c) (vx : Value) (xs : List Pt) (w : World) (hx : Pp w vx xs) (hlen : xs.length ≤ 100) (hn1 : 1 ≤ (nmsL xs).length)
    (hs : (nmsL xs).mergeSort (fun x y => decide (x ≤ y)) = nmsL xs) (hc : Lib.compact (nmsL xs) = nmsL xs) :
    Calls Tryz.prog 30 #[.agg #[.string nm, vp, vx]] w fun e w' => ∃ g c, e = .returned (.slice (some ⟨g, 0, none⟩) (nmsL xs).length c) ∧ w.heap.size ≤ g ∧ RowC w' 9 1 (.slice (some ⟨g, 0, none⟩) (nmsL xs).length c) (nmsL xs).length (sv (nmsL xs)) ∧ Keep [] w w' := by
  obtain ⟨ap, np, cpp, rfl⟩ := hsl
  obtain ⟨ao, ca, rfl, -, -, -⟩ := hx.ex
  have hsf := store_f32
  simp only [Go.stored] at hsf
  have HX : Hid (Pp w (.slice ao xs.length ca) xs ∧ xs.length ≤ 100) := ⟨hx, hlen⟩
  have HS : Hid (1 ≤ (nmsL xs).length ∧ (nmsL xs).mergeSort (fun x y => decide (x ≤ y)) = nmsL xs ∧ Lib.compact (nmsL xs) = nmsL xs) := ⟨hn1, hs, hc⟩
  clear hx hlen hn1 hs hc
  go_enter Tryz.func30, Tryz.ntmps30
  go_wp2
  go_loopw [3, 9] (fun nv iv wr => ∃ i : Nat, iv = .int .i64 (i : Int) ∧ i ≤ xs.length ∧ Hid (Keep [] w wr ∧ RowC wr 9 1 nv (nmsL (xs.take i)).length (sv (nmsL (xs.take i))) ∧ (∀ k, nv.ownBlock = some k → w.heap.size < k)) ∧ Sl nv (nmsL (xs.take i)).length) (fun _ iv _ => xs.length - (intOf iv).toNat)
  case atStart => exact ⟨0, rfl, Nat.zero_le _, ⟨Keep.alloc1 _ _, World.ownsRow_nil _ _ _ _, fun k hk => by simp [Value.ownBlock] at hk⟩, ⟨none, 0, rfl⟩⟩
  case round =>
    obtain ⟨i, rfl, hi, HK, ⟨an, cn, rfl⟩⟩ := hrel
    by_cases hlt : i < xs.length
    · have hli : (i : Int) < (xs.length : Int) := by omega
      have hi100 : (i : Int) ≤ 100 := by have := HX.out.2; omega
      obtain ⟨b, o, c, he, y0, y1, y2, y3, y4, y5, y6, y7⟩ := (HX.out.1.keep0 HK.out.1).at i hlt
      simp at he
      obtain ⟨rfl, rfl⟩ := he
      have HTk : Hid (nmsL (xs.take (i + 1)) = nmsL (xs.take i) ++ nmsL [xs[i]]) := by
        show nmsL _ = _
        rw [List.take_succ_eq_append_getElem hlt]
        unfold nmsL
        rw [List.filterMap_append]
      have HLn : Hid ((nmsL (xs.take i)).length ≤ 100) := show _ ≤ 100 by
        have h1 := nms_len (xs.take i)
        rw [List.length_take] at h1
        have := HX.out.2
        omega
      generalize xs[i] = x at *
      obtain ⟨xk, xn, xv, xi⟩ := x
      simp only at y0 y1 y2 y4
      have KB : Keep [] wr (wr.alloc (.cells #[.int .i64 xk, .string xn, .int .i64 xv, .bool false, .int .i64 xi, .float .f32 0, .string ⟨#[]⟩, .slice none 0 0] 36)) := Keep.alloc1 _ _
      by_cases hk : xk = 2
      · subst hk
        have HR : Hid (RowC ((wr.alloc (.cells #[.int .i64 2, .string xn, .int .i64 xv, .bool false, .int .i64 xi, .float .f32 0, .string ⟨#[]⟩, .slice none 0 0] 36)).alloc (.cells #[.string xn] 9)) 9 1 (.slice an (nmsL (xs.take i)).length cn) (nmsL (xs.take i)).length (sv (nmsL (xs.take i)))) := RowC.keep HK.out.2.1 (KB.alloc _) (Off.nil _)
        have HSr : Hid (Src Tryz.prog 1 32 (.slice (some ⟨wr.heap.size + 1, 0, none⟩) 1 1) 1 [.string xn] ((wr.alloc (.cells #[.int .i64 2, .string xn, .int .i64 xv, .bool false, .int .i64 xi, .float .f32 0, .string ⟨#[]⟩, .slice none 0 0] 36)).alloc (.cells #[.string xn] 9))) := by
          have e9 : (wr.alloc (.cells #[.int .i64 2, .string xn, .int .i64 xv, .bool false, .int .i64 xi, .float .f32 0, .string ⟨#[]⟩, .slice none 0 0] 36)).heap.size = wr.heap.size + 1 := by simp
          rw [← e9]
          refine Src.ofSlice _ Tryz.underlying32 ⟨_, 0, none⟩ 1 1 _ rfl (fun j u hu => ?_) (fun u hu => ?_)
          · have hj : j < 1 := by
              have := (List.getElem?_eq_some_iff.1 hu).1
              simpa using this
            match j, hj with
            | 0, _ => simp at hu; subst hu; go_simp
          · simp at hu
            subst hu
            rfl
        have HKB : Hid (Keep [] w ((wr.alloc (.cells #[.int .i64 2, .string xn, .int .i64 xv, .bool false, .int .i64 xi, .float .f32 0, .string ⟨#[]⟩, .slice none 0 0] 36)).alloc (.cells #[.string xn] 9))) := HK.out.1.trans' (KB.alloc _)
        clear KB
        go_wp2_with (at_builtin; refine wp_appC infoS9 rfl rfl (.tmp 16) (.tmp 19) 32 32 rfl Tryz.underlying32 (.slice an (nmsL (xs.take i)).length cn) (nmsL (xs.take i)).length (sv (nmsL (xs.take i))) rfl HR.out _ 1 [.string xn] rfl HSr.out (by have := HLn.out; omega) (by have := HLn.out; simp only [maxLen]; omega) ?_)
        intro v' w5 a1 a2 a3 a4 a5
        obtain ⟨an', cn', rfl⟩ := a4
        have HN : Hid (Keep [] w w5 ∧ RowC w5 9 1 (.slice an' ((nmsL (xs.take i)).length + 1) cn') ((nmsL (xs.take i)).length + 1) (sv (nmsL (xs.take i)) ++ [.string xn]) ∧ (∀ k, (Value.slice an' ((nmsL (xs.take i)).length + 1) cn').ownBlock = some k → w.heap.size < k)) := by
          refine ⟨HKB.out.more a2 (fun x hx => .inr (by have := HK.out.2.2 x (by simpa using hx); omega)), a1, fun k hk => ?_⟩
          rcases a3 with h | h
          · exact HK.out.2.2 k (by rw [← h]; exact hk)
          · have h1 := (h k hk).1
            have h2 := HK.out.1.size
            simp at h1
            omega
        have HE : Hid (nmsL (xs.take (i + 1)) = nmsL (xs.take i) ++ [xn.data.toList]) := by
          show nmsL _ = _
          rw [HTk.out]
          simp [nmsL]
        clear a1 a2 a3 a5 HR HSr HKB HTk
        go_wp2
        go_roundw
        case rel =>
          refine ⟨i + 1, by simp, by omega, ?_, ?_⟩
          · have hz : (nmsL (xs.take (i + 1))).length = (nmsL (xs.take i)).length + 1 := by rw [HE.out]; simp
            refine ⟨HN.out.1, ?_, HN.out.2.2⟩
            rw [hz, HE.out]
            have := HN.out.2.1
            simpa [sv, ba_back] using this
          · have hz : (nmsL (xs.take (i + 1))).length = (nmsL (xs.take i)).length + 1 := by rw [HE.out]; simp
            rw [hz]
            exact ⟨_, _, rfl⟩
        case measure => (simp [intOf]; try omega)
      · have hkb : (xk == 2) = false := by simpa using hk
        have HE : Hid (nmsL (xs.take (i + 1)) = nmsL (xs.take i)) := by
          show nmsL _ = _
          rw [HTk.out]
          simp [nmsL, hk]
        have HN : Hid (Keep [] w (wr.alloc (.cells #[.int .i64 xk, .string xn, .int .i64 xv, .bool false, .int .i64 xi, .float .f32 0, .string ⟨#[]⟩, .slice none 0 0] 36)) ∧ RowC (wr.alloc (.cells #[.int .i64 xk, .string xn, .int .i64 xv, .bool false, .int .i64 xi, .float .f32 0, .string ⟨#[]⟩, .slice none 0 0] 36)) 9 1 (.slice an (nmsL (xs.take i)).length cn) (nmsL (xs.take i)).length (sv (nmsL (xs.take i))) ∧ (∀ k, (Value.slice an (nmsL (xs.take i)).length cn).ownBlock = some k → w.heap.size < k)) := ⟨HK.out.1.trans' KB, RowC.keep HK.out.2.1 KB (Off.nil _), HK.out.2.2⟩
        clear KB hk HTk
        go_wp2
        go_roundw
        case rel => exact ⟨i + 1, by simp, by omega, by rw [HE.out]; exact HN, by rw [HE.out]; exact ⟨_, _, rfl⟩⟩
        case measure => (simp [intOf]; try omega)
    · obtain rfl : i = xs.length := by omega
      have hnl : ¬ (xs.length : Int) < (xs.length : Int) := by omega
      rw [List.take_length] at HK ⊢
      have hS := HS.out
      rcases HK.out.2.1.cases with ⟨h0, _⟩ | ⟨g, c', he, hgc1, hgc2, hgl, _⟩
      · omega
      · simp at he
        obtain ⟨rfl, rfl⟩ := he
        have HQ : Hid (w.heap.size < g ∧ (nmsL xs).length ≤ cn) := ⟨HK.out.2.2 g rfl, hgc1⟩
        have hH := row_holds HK.out.2.1
        have hL100 : (nmsL xs).length ≤ 100 := by have := nms_len xs; have := HX.out.2; omega
        have h1 := Any.slices_Sort_string Tryz.sortS g 0 cn (nmsL xs) wr hH hgl (by omega)
        rw [hS.2.1] at h1
        have HC : Hid (∀ w9, Keep [] wr w9 → Calls Tryz.prog 51 #[.slice (some ⟨g, 0, none⟩) (nmsL xs).length cn] w9 fun e w' => e = .returned (.slice (some ⟨g, 0, none⟩) (nmsL xs).length cn) ∧ Keep [] w9 w') := fun w9 k9 => by
          have hH9 := row_holds (HK.out.2.1.keep k9 (Off.nil _))
          have h2 := Any.slices_Compact_string Tryz.compactS g 0 cn (nmsL xs) w9 hH9 (by omega) hgc1
          rw [hS.2.2] at h2
          refine Calls.mono (show Calls Tryz.prog 51 _ _ _ from h2) ?_
          rintro e w' ⟨rfl, q, hw⟩
          refine ⟨rfl, ?_⟩
          rw [Nat.sub_self, List.replicate_zero, List.append_nil, Go.Sort.putRow_self _ _ _ _ _ (Go.Sort.holds_ahead _ _ _ _ _ _ hH9)] at hw
          rw [hw]
          exact ⟨rfl, rfl, rfl, Nat.le_refl _, fun _ _ _ => rfl⟩
        have HSo : Hid (Calls Tryz.prog 50 #[.slice (some ⟨g, 0, none⟩) (nmsL xs).length cn] wr fun e w' => e = .returned (.tuple #[]) ∧ Keep [] wr w') := by
          refine Calls.mono (show Calls Tryz.prog 50 _ _ _ from h1) ?_
          rintro e w' ⟨rfl, n, os, hw⟩
          refine ⟨rfl, ?_⟩
          rw [Go.Sort.putRow_self _ _ _ _ _ (Go.Sort.holds_ahead _ _ _ _ _ _ hH)] at hw
          rw [hw]
          exact Keep.ofBelow (Lib.below_grow _ _ (Nat.le_refl _) n os)
        clear h1 hS hH hgc1 hgc2 hgl hL100
        go_wp2_with fail
        refine HSo.out.mono ?_
        rintro e w5 ⟨rfl, k5⟩
        go_wp2_with fail
        refine (HC.out _ k5).mono ?_
        rintro e w6 ⟨rfl, k6⟩
        have HF : Hid (Keep [] w w6 ∧ RowC w6 9 1 (.slice (some ⟨g, 0, none⟩) (nmsL xs).length cn) (nmsL xs).length (sv (nmsL xs))) := ⟨(HK.out.1.trans' k5).trans' k6, HK.out.2.1.keep (k5.trans' k6) (Off.nil _)⟩
        clear HSo HC k5 k6
        go_wp2
        go_ret
        exact ⟨g, cn, rfl, by have := HQ.out; omega, HF.out.2, HF.out.1⟩
end Go.Proofs.YtplbclokoffgkaaGreatDoor
