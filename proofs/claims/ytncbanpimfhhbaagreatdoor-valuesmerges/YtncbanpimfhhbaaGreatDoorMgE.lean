/- values.Merge: one list of arguments over the other, by rising names. -/
import Derived.Test.YtncbanpimfhhbaaGreatDoorMgC
import Derived.Test.YtncbanpimfhhbaaGreatDoorMgD
import Derived.Test.YtncbanpimfhhbaaGreatDoorMgS
namespace Go.Proofs.YtncbanpimfhhbaaGreatDoor
open Go.RowKit Go.PlainAid

theorem row_some {w : World} {v : Value} {n a c : Nat} {ao : Option Addr} {xs : List Value} (h : RowC w 33 7 v (n + 1) xs) (_hv : v = .slice ao a c) : ∃ g cap, v = .slice (some ⟨g, 0, none⟩) (n + 1) cap := by
  rcases RowC.cases h with ⟨h0, _⟩ | ⟨g, cap, e, _⟩
  · omega
  · exact ⟨g, cap, e⟩
theorem filter_in {own ctx : List AD} {x : AD} : x ∈ ctx.filter (fun x : AD => !own.any (fun o => o.nm.toList == x.nm.toList)) ↔ x ∈ ctx ∧ ∀ o ∈ own, x.nm ≠ o.nm := by
  rw [List.mem_filter]
  refine and_congr Iff.rfl ?_
  rw [Bool.not_eq_true', List.any_eq_false]
  constructor
  · intro h o ho e
    exact h o ho (by rw [e]; simp)
  · intro h o ho e
    exact h o ho (toList_inj (by simpa using e)).symm
theorem merged_one {own ctx l' : List AD} (ho : own.Pairwise ltA) (hc : ctx.Pairwise ltA) (hp : l'.Perm (own ++ ctx.filter (fun x : AD => !own.any (fun o => o.nm.toList == x.nm.toList)))) (hs : l'.Pairwise (fun x y => ¬ ltA y x)) : l' = laidL own ctx := by
  obtain ⟨h1, h2⟩ := laid_all own ctx ho hc
  have hd : (own ++ ctx.filter (fun x : AD => !own.any (fun o => o.nm.toList == x.nm.toList))).Pairwise (fun x y => x.nm ≠ y.nm) := by
    rw [List.pairwise_append]
    refine ⟨ho.imp (fun h => h.ne), (hc.sublist List.filter_sublist).imp (fun h => h.ne), fun a ha b hb e => ?_⟩
    exact (filter_in.1 hb).2 a ha e.symm
  have hd' : l'.Pairwise (fun x y => x.nm ≠ y.nm) := (hp.pairwise_iff (fun h => h.symm)).2 hd
  refine rise_one l' _ ?_ h1 (fun x => ?_)
  · rw [List.pairwise_iff_getElem] at hs hd' ⊢
    intro i j hi hj hij
    exact ltA.tri (hs i j hi hj hij) (hd' i j hi hj hij).symm
  · rw [hp.mem_iff, h2 x, List.mem_append, filter_in]
theorem take_filter {ctx : List AD} {f : AD → Bool} {k : Nat} (hk : k < ctx.length) : (ctx.take (k + 1)).filter f = (ctx.take k).filter f ++ (if f ctx[k] then [ctx[k]] else []) := by
  rw [List.take_succ_eq_append_getElem hk, List.filter_append]
  cases h : f ctx[k] <;> simp [h]
theorem all_sv : ∀ (ps : List (AD × Value)), (∀ p ∈ ps, ∃ a n c, p.2 = .slice a n c) → ∃ qs : List SA, ps = qs.map svA
  | [], _ => ⟨[], rfl⟩
  | p :: ps, h => by
    obtain ⟨qs, rfl⟩ := all_sv ps (fun r hr => h r (List.mem_cons_of_mem _ hr))
    obtain ⟨a, n, c, e⟩ := h p (List.mem_cons_self ..)
    exact ⟨(p.1, (a, n, c)) :: qs, by simp [svA, ← e]⟩
/-- the sorted row reads as its arguments -/
theorem sorted_as {w wr w' : World} {g cap : Nat} {qs qs' : List SA} (h : LiQ w wr (.slice (some ⟨g, 0, none⟩) qs.length cap) (qs.map svA)) (hp : qs'.Perm qs) (hc : ∀ i (h : i < qs'.length) c, c < 7 → w'.cell? ⟨g, i * 7 + c, none⟩ = (encS qs'[i])[c]?) (k : Keep [g] wr w') : As w' (.slice (some ⟨g, 0, none⟩) qs.length cap) (qs'.map (fun q => q.1)) ∧ Keep [] w w' := by
  have hl := hp.length_eq
  have hmem : ∀ i (hi : i < qs'.length), svA qs'[i] ∈ qs.map svA := fun i hi => List.mem_map_of_mem (hp.mem_iff.1 (List.getElem_mem hi))
  rcases RowC.cases h.row with ⟨_, _, h3⟩ | ⟨g', cap', he, h1, h2, _⟩
  · simp at h3
  · simp at he
    obtain ⟨rfl, rfl⟩ := he
    have h1' : qs.length ≤ cap := by simpa using h1
    refine ⟨⟨fun x hx => ?_, some ⟨g, 0, none⟩, cap, by simp [hl], by simpa [hl] using h1', h2, fun _ => ⟨g, 0, rfl, fun i hi => ?_⟩⟩, h.kp.more k (fun x hx => .inr (h.own x (by simp at hx; simp [Value.ownBlock, hx])))⟩
    · obtain ⟨q, hq, rfl⟩ := List.mem_map.1 hx
      exact h.ok (svA q) (List.mem_map_of_mem (hp.mem_iff.1 hq))
    · have hi' : i < qs'.length := by simpa using hi
      have hx : (qs'.map fun q => q.1)[i] = qs'[i].1 := by simp
      rw [hx, Nat.zero_add]
      have cc := fun c hcc => hc i hi' c hcc
      have hu := (h.ul _ (hmem i hi')).keep (z' := .slice none 0 0) k (fun x hx => .inl ⟨x, by simp at hx; simp [Value.ownBlock, hx], rfl⟩) (fun x hx => by simp [Value.ownBlock] at hx)
      exact ⟨(svA qs'[i]).2, ⟨cc 0 (by omega), cc 1 (by omega), cc 2 (by omega), cc 3 (by omega), cc 4 (by omega), cc 5 (by omega), cc 6 (by omega)⟩, hu.1⟩

theorem argsZ_is {l : List AD} (h : argsZ l = 0) : l.length ≤ 16 ∧ Rises l := by
  by_cases h2 : l.length ≤ 16 ∧ Rises l
  · exact h2
  · rw [argsZ, if_neg h2] at h
    cases h
theorem argsZ_or (l : List AD) : argsZ l = 0 ∨ argsZ l = 41 := by
  by_cases h2 : l.length ≤ 16 ∧ Rises l
  · exact .inl (if_pos h2)
  · exact .inr (if_neg h2)

theorem box7 {w w' : World} {v0 v1 v2 v3 v4 v5 v6 : Value} {t : TypeId} (k : Keep [] (w.alloc (.cells #[v0, v1, v2, v3, v4, v5, v6] t)) w') :
    w'.cell? ⟨w.heap.size, 0, none⟩ = some v0 ∧ w'.cell? ⟨w.heap.size, 1, none⟩ = some v1 ∧ w'.cell? ⟨w.heap.size, 2, none⟩ = some v2 ∧ w'.cell? ⟨w.heap.size, 3, none⟩ = some v3 ∧ w'.cell? ⟨w.heap.size, 4, none⟩ = some v4 ∧ w'.cell? ⟨w.heap.size, 5, none⟩ = some v5 ∧ w'.cell? ⟨w.heap.size, 6, none⟩ = some v6 := by
  refine ⟨k.cell' ?_ (by simp), k.cell' ?_ (by simp), k.cell' ?_ (by simp), k.cell' ?_ (by simp), k.cell' ?_ (by simp), k.cell' ?_ (by simp), k.cell' ?_ (by simp)⟩ <;> simp [go_sem]

set_option maxRecDepth 1000000 in
theorem merge_no (u v : Value) (own ctx : List AD) (w : World) (hu : As w u own) (hv : As w v ctx) (h : ¬ (argsZ own = 0 ∧ argsZ ctx = 0)) :
    Calls Tryz.prog 4 #[u, v] w fun e w' => e = .returned (.tuple #[.slice none 0 0, .int .i64 41]) ∧ Keep [] w w' := by
  have h1 := fun w1 (k : Keep [] w w1) => args_any u own w1 (hu.keep0 k)
  have h2 := fun w1 (k : Keep [] w w1) => args_any v ctx w1 (hv.keep0 k)
  obtain ⟨ao, ca, rfl, -⟩ := hu.ex
  obtain ⟨bo, cb, rfl, -⟩ := hv.ex
  clear hu hv
  rcases argsZ_or own with e1 | e1
  · rcases argsZ_or ctx with e2 | e2
    · exact absurd ⟨e1, e2⟩ h
    · rw [e1] at h1
      rw [e2] at h2
      clear e1 e2 h
      go_enter Tryz.func4, Tryz.ntmps4
      go_wp2_with fail
      refine (h1 _ (Keep.refl _ _)).mono ?_
      rintro e9 w1 ⟨rfl, k1⟩
      have HK1 : Hid (Keep [] w w1) := k1
      clear k1 h1
      go_wp2_with fail
      refine (h2 _ HK1.out).mono ?_
      rintro e9 w2 ⟨rfl, k2⟩
      have HK2 : Hid (Keep [] w w2) := HK1.out.trans' k2
      clear k2 h2 HK1
      go_wp2
      go_ret2
      exact ⟨rfl, HK2.out⟩
  · rw [e1] at h1
    clear e1 h
    go_enter Tryz.func4, Tryz.ntmps4
    go_wp2_with fail
    refine (h1 _ (Keep.refl _ _)).mono ?_
    rintro e9 w1 ⟨rfl, k1⟩
    have HK1 : Hid (Keep [] w w1) := k1
    clear k1 h1
    go_wp2
    go_ret2
    exact ⟨rfl, HK1.out⟩

set_option maxRecDepth 1000000 in
set_option maxHeartbeats 12800000 in
theorem merge_yes (u v : Value) (own ctx : List AD) (w : World) (hu : As w u own) (hv : As w v ctx) (h1 : argsZ own = 0) (h2 : argsZ ctx = 0) (ht1 : ∀ x ∈ own, x.val.texts.length * 16 ≤ 140737488351232) (ht2 : ∀ x ∈ ctx, x.val.texts.length * 16 ≤ 140737488351232) :
    Calls Tryz.prog 4 #[u, v] w fun e w' => ∃ z, e = .returned (.tuple #[z, .int .i64 0]) ∧ As w' z (laidL own ctx) ∧ Keep [] w w' := by
  have hA1 := fun w1 (k : Keep [] w w1) => args_any u own w1 (hu.keep0 k)
  have hA2 := fun w1 (k : Keep [] w w1) => args_any v ctx w1 (hv.keep0 k)
  rw [h1] at hA1
  rw [h2] at hA2
  obtain ⟨n1, r1⟩ := argsZ_is h1
  obtain ⟨n2, r2⟩ := argsZ_is h2
  have HU : Hid (As w u own) := hu
  have HV : Hid (As w v ctx) := hv
  have HN : Hid (own.length ≤ 16 ∧ ctx.length ≤ 16) := ⟨n1, n2⟩
  have HR : Hid (own.Pairwise ltA ∧ ctx.Pairwise ltA) := ⟨r1.pair, r2.pair⟩
  have HT1 : Hid (∀ i (hi : i < own.length), own[i].val.texts.length ≤ 8796093021952) := fun i hi => by have := ht1 own[i] (List.getElem_mem hi); omega
  have HT2 : Hid (∀ i (hi : i < ctx.length), ctx[i].val.texts.length ≤ 8796093021952) := fun i hi => by have := ht2 ctx[i] (List.getElem_mem hi); omega
  obtain ⟨ao, ca, rfl, -⟩ := hu.ex
  obtain ⟨bo, cb, rfl, -⟩ := hv.ex
  obtain ⟨i34, hi34, hz34, hs34, hb34⟩ := info_parts infoA
  have HB2 : Hid (i34.bytes * (own.length + ctx.length) ≤ 281474976710656) := by
    show _ ≤ _
    rw [hb34]; omega
  have HB3 : Hid (own.length + ctx.length ≤ maxLen) := by
    show _ ≤ _
    unfold maxLen; omega
  have HI34 : Hid (Tryz.prog.info? 33 = some i34 ∧ i34.zero = some _ ∧ i34.size = 7) := ⟨hi34, hz34, hs34⟩
  clear hu hv h1 h2 ht1 ht2 r1 r2 hi34 hz34 hs34 hb34
  have hsf := store_f32
  simp only [Go.stored] at hsf
  go_enter Tryz.func4, Tryz.ntmps4
  go_wp2_with fail
  refine (hA1 _ (Keep.refl _ _)).mono ?_
  rintro e9 w1 ⟨rfl, k1⟩
  have HK1 : Hid (Keep [] w w1) := k1
  clear k1 hA1
  go_wp2_with fail
  refine (hA2 _ HK1.out).mono ?_
  rintro e9 w2 ⟨rfl, k2⟩
  have HK2 : Hid (Keep [] w w2) := HK1.out.trans' k2
  clear k2 hA2 HK1
  go_wp2_with (at_make; refine wpList_make_own _ rfl _ _ 22 rfl 0 33 i34 _ 7 Tryz.underlying22 HI34.out.1 HI34.out.2.1 HI34.out.2.2 .i64 .i64 _ (own.length + ctx.length) rfl rfl (by omega) HB2.out HB3.out (Nat.zero_le _) ?_)
  intro w3 R3 G3
  have HL0 : Hid (LiQ w w3 (.slice (some ⟨w2.heap.size, 0, none⟩) 0 (own.length + ctx.length)) []) := ⟨R3, HK2.out.trans' (Keep.grown G3), fun x hx => by simp [Value.ownBlock] at hx; have := HK2.out.size; omega, fun p hp => (by cases hp), fun p hp => (by cases hp)⟩
  clear R3 G3
  go_wp2
  go_loopw [6, 27] (fun z6 z27 wr => ∃ (k : Nat), z27 = .int .i64 (k : Int) ∧ k ≤ own.length ∧ Hid (∃ ps : List (AD × Value), (LiQ w wr z6 ps ∧ ∃ g cap, z6 = .slice (some ⟨g, 0, none⟩) ps.length cap) ∧ ps.map (fun p : AD × Value => p.1) = own.take k)) (fun _ z27 _ => own.length - (intOf z27).toNat)
  case atStart => exact ⟨0, rfl, Nat.zero_le _, [], ⟨HL0.out, _, _, rfl⟩, by simp⟩
  case round =>
    clear HL0
    obtain ⟨k, rfl, hk, HI⟩ := hrel
    by_cases hlt : k < own.length
    · have hlti : (k : Int) < (own.length : Int) := by omega
      obtain ⟨ps, ⟨hL0, hG0⟩, hE0⟩ := HI.out
      have HLi : Hid (LiQ w wr u6 ps) := hL0
      have HPL : Hid (ps.length ≤ 31) := by
        have := congrArg List.length hE0
        have := HN.out
        simp at *
        show ps.length ≤ 31
        omega
      have HE : Hid (∀ u, (ps ++ [(own[k], u)]).map (fun p : AD × Value => p.1) = own.take (k + 1)) := fun u => map_take hE0 hlt u
      clear hL0 hG0 hE0 HI
      obtain ⟨b, o, _, u1, he, hoc1, hoc2, hA0, tA⟩ := (HU.out.keep0 HLi.out.kp).at k hlt
      simp at he
      obtain ⟨rfl, rfl⟩ := he
      have HOK : Hid (own[k].val.Ok) := HU.out.ok _ (List.getElem_mem hlt)
      have HC : Hid (∀ w1, Keep [] wr w1 → Calls Tryz.prog 10 #[own[k].agg u1] w1 fun e w' => ∃ a c, e = .returned (own[k].agg (.slice a own[k].val.texts.length c)) ∧ Ts w' (.slice a own[k].val.texts.length c) own[k].val.texts ∧ Keep [] w1 w' ∧ Fresh w1 w' (.slice a own[k].val.texts.length c)) := fun w1 k1 => copied_any own[k] u1 w1 (tA.keep k1 (Off.nil _)) (HT1.out k hlt)
      obtain ⟨a1, c1, rfl, -⟩ := tA.ex
      clear tA
      generalize own[k] = x at hA0 HOK HE HC
      obtain ⟨m0, m1, m2, m3, m4, m5, m6⟩ := hA0
      go_wp2_with fail
      refine (HC.out _ (Keep.alloc1 _ _)).mono ?_
      rintro e9 w1 ⟨a2, c2, rfl, t2, k1, f2⟩
      have HLi1 : Hid (LiQ w w1 u6 ps) := (HLi.out.keep (Keep.alloc1 _ _)).keep k1
      have HUO : Hid (UO w1 u6 (x, .slice a2 x.val.texts.length c2)) := ⟨t2, .inr (fun y hy => ⟨(f2 y hy).2, fun z hz e => by have h1 := (f2 y hy).1; have h2 := RowC.lt HLi.out.row z hz; simp at h1; omega⟩)⟩
      clear t2 k1 f2 HLi HC
      clear m0 m1 m2 m3 m4 m5 m6
      have HSR : Hid _ := HLi1.out.ready x a2 x.val.texts.length c2
      have hal : Hid ((ps.length + 1) * 88 ≤ 140737488355328 ∧ ps.length + 1 ≤ maxLen) := by
        have := HPL.out
        show _ ∧ _
        refine ⟨by omega, ?_⟩
        unfold maxLen; omega
      go_wp2_with (at_builtin; refine wp_appC infoA rfl rfl (.tmp 31) (.tmp 34) 22 22 rfl Tryz.underlying22 u6 ps.length (ps.flatMap cells7) rfl HSR.out.2 _ 1 _ rfl HSR.out.1 hal.out.1 hal.out.2 ?_)
      intro v9 w9 R9 K9 F9 S9 _
      obtain ⟨a9, c9, rfl⟩ := S9
      have hx : Hid (LiQ w w9 (.slice a9 (ps.length + 1) c9) (ps ++ [(x, .slice a2 x.val.texts.length c2)]) ∧ ∃ g cap, Value.slice a9 (ps.length + 1) c9 = .slice (some ⟨g, 0, none⟩) (ps ++ [(x, Value.slice a2 x.val.texts.length c2)]).length cap) :=
        ⟨(HLi1.out.keep (Keep.alloc1 _ (blk7 x (.slice a2 x.val.texts.length c2)))).more (HUO.out.keep (Keep.alloc1 _ _) (fun x hx => by cases hx) (fun x hx => .inl hx)) HOK.out R9 K9 F9, by rw [List.length_append]; exact row_some R9 rfl⟩
      clear R9 K9 F9 HSR HLi1 HUO hal
      go_wp2
      go_roundw
      case rel => exact ⟨k + 1, by go_num, by omega, _, hx.out, HE.out _⟩
      case measure => simp [intOf]; omega
    · have hlti : ¬ (k : Int) < (own.length : Int) := by omega
      have HI1 : Hid (∃ ps : List (AD × Value), (LiQ w wr u6 ps ∧ ∃ g cap, u6 = .slice (some ⟨g, 0, none⟩) ps.length cap) ∧ ps.map (fun p : AD × Value => p.1) = own ++ (ctx.take 0).filter (fun x : AD => !own.any (fun o => o.nm.toList == x.nm.toList))) := by
        obtain ⟨ps, h0, hE0⟩ := HI.out
        refine ⟨ps, h0, ?_⟩
        rw [hE0, List.take_of_length_le (show own.length ≤ k by omega)]
        simp
      clear HI
      go_wp2
      go_loopw [6, 39] (fun z6 z39 wr => ∃ (k : Nat), z39 = .int .i64 (k : Int) ∧ k ≤ ctx.length ∧ Hid (∃ ps : List (AD × Value), (LiQ w wr z6 ps ∧ ∃ g cap, z6 = .slice (some ⟨g, 0, none⟩) ps.length cap) ∧ ps.map (fun p : AD × Value => p.1) = own ++ (ctx.take k).filter (fun x : AD => !own.any (fun o => o.nm.toList == x.nm.toList)))) (fun _ z39 _ => ctx.length - (intOf z39).toNat)
      case atStart => exact ⟨0, rfl, Nat.zero_le _, HI1⟩
      case round =>
        clear HI1 hlti hk
        obtain ⟨k, rfl, hk, HI⟩ := hrel
        by_cases hlt : k < ctx.length
        · have hlti : (k : Int) < (ctx.length : Int) := by omega
          obtain ⟨ps, ⟨hL0, hG0⟩, hE0⟩ := HI.out
          have HLi : Hid (LiQ w wr u6 ps) := hL0
          have HG0 : Hid (∃ g cap, u6 = .slice (some ⟨g, 0, none⟩) ps.length cap) := hG0
          have HPL : Hid (ps.length ≤ 31) := by
            have h1 := congrArg List.length hE0
            have h2 := HN.out
            have h3 := List.length_filter_le (fun x : AD => !own.any (fun o => o.nm.toList == x.nm.toList)) (ctx.take k)
            simp only [List.length_map, List.length_append, List.length_take] at h1 h3
            show ps.length ≤ 31
            omega
          have HE0 : Hid (ps.map (fun p : AD × Value => p.1) = own ++ (ctx.take k).filter (fun x : AD => !own.any (fun o => o.nm.toList == x.nm.toList))) := hE0
          have HTF : Hid ((ctx.take (k + 1)).filter (fun x : AD => !own.any (fun o => o.nm.toList == x.nm.toList)) = (ctx.take k).filter (fun x : AD => !own.any (fun o => o.nm.toList == x.nm.toList)) ++ (if (fun x : AD => !own.any (fun o => o.nm.toList == x.nm.toList)) ctx[k] then [ctx[k]] else [])) := take_filter hlt
          clear hL0 hG0 hE0 HI
          obtain ⟨b, o, _, u1, he, hoc1, hoc2, hA0, tA⟩ := (HV.out.keep0 HLi.out.kp).at k hlt
          simp at he
          obtain ⟨rfl, rfl⟩ := he
          have HOK : Hid (ctx[k].val.Ok) := HV.out.ok _ (List.getElem_mem hlt)
          have HC : Hid (∀ w1, Keep [] wr w1 → Calls Tryz.prog 10 #[ctx[k].agg u1] w1 fun e w' => ∃ a c, e = .returned (ctx[k].agg (.slice a ctx[k].val.texts.length c)) ∧ Ts w' (.slice a ctx[k].val.texts.length c) ctx[k].val.texts ∧ Keep [] w1 w' ∧ Fresh w1 w' (.slice a ctx[k].val.texts.length c)) := fun w1 k1 => copied_any ctx[k] u1 w1 (tA.keep k1 (Off.nil _)) (HT2.out k hlt)
          have HNM : Hid (∀ w1, Keep [] w w1 → Calls Tryz.prog 11 #[.slice ao own.length ca, .string ctx[k].nm] w1 fun e w' => e = .returned (.bool (own.any (fun o => o.nm.toList == ctx[k].nm.toList))) ∧ Keep [] w1 w') := fun w1 k1 => named_any _ own ctx[k].nm w1 (HU.out.keep0 k1)
          obtain ⟨a1, c1, rfl, -⟩ := tA.ex
          clear tA
          generalize ctx[k] = x at hA0 HOK HC HNM HTF
          obtain ⟨m0, m1, m2, m3, m4, m5, m6⟩ := hA0
          cases hq : own.any (fun o => o.nm.toList == x.nm.toList)
          · have HE : Hid (∀ u, (ps ++ [(x, u)]).map (fun p : AD × Value => p.1) = own ++ (ctx.take (k + 1)).filter (fun x : AD => !own.any (fun o => o.nm.toList == x.nm.toList))) := fun u => by
              have hif : (if (fun x : AD => !own.any (fun o => o.nm.toList == x.nm.toList)) x then [x] else []) = [x] := if_pos (by show (!own.any (fun o => o.nm.toList == x.nm.toList)) = true; rw [hq]; rfl)
              rw [HTF.out, hif, List.map_append, HE0.out, List.append_assoc]
              rfl
            rw [hq] at HNM
            clear hq HTF HE0
            go_wp2_with fail
            refine (HNM.out _ (HLi.out.kp.alloc _)).mono ?_
            rintro e9 w5 ⟨rfl, k5⟩
            obtain ⟨j0, j1, j2, j3, j4, j5, j6⟩ := box7 k5
            have HLi2 : Hid (LiQ w w5 u6 ps) := (HLi.out.keep (Keep.alloc1 _ _)).keep k5
            have HK5 : Hid (Keep [] wr w5) := (Keep.alloc1 _ _).trans' k5
            have HS2 : Hid (wr.heap.size ≤ w5.heap.size) := HK5.out.size
            clear k5 HNM m0 m1 m2 m3 m4 m5 m6
            go_wp2_with fail
            refine (HC.out _ HK5.out).mono ?_
            rintro e9 w1 ⟨a2, c2, rfl, t2, k1, f2⟩
            have HLi1 : Hid (LiQ w w1 u6 ps) := (HLi2.out).keep k1
            have HUO : Hid (UO w1 u6 (x, .slice a2 x.val.texts.length c2)) := ⟨t2, .inr (fun y hy => ⟨(f2 y hy).2, fun z hz e => by have h1 := (f2 y hy).1; have h2 := RowC.lt HLi.out.row z hz; have h3 := HS2.out; omega⟩)⟩
            clear t2 k1 f2 HLi HC
            clear HLi2 HK5 HS2 j0 j1 j2 j3 j4 j5 j6
            have HSR : Hid _ := HLi1.out.ready x a2 x.val.texts.length c2
            have hal : Hid ((ps.length + 1) * 88 ≤ 140737488355328 ∧ ps.length + 1 ≤ maxLen) := by
              have := HPL.out
              show _ ∧ _
              refine ⟨by omega, ?_⟩
              unfold maxLen; omega
            go_wp2_with (at_builtin; refine wp_appC infoA rfl rfl (.tmp 48) (.tmp 51) 22 22 rfl Tryz.underlying22 u6 ps.length (ps.flatMap cells7) rfl HSR.out.2 _ 1 _ rfl HSR.out.1 hal.out.1 hal.out.2 ?_)
            intro v9 w9 R9 K9 F9 S9 _
            obtain ⟨a9, c9, rfl⟩ := S9
            have hx : Hid (LiQ w w9 (.slice a9 (ps.length + 1) c9) (ps ++ [(x, .slice a2 x.val.texts.length c2)]) ∧ ∃ g cap, Value.slice a9 (ps.length + 1) c9 = .slice (some ⟨g, 0, none⟩) (ps ++ [(x, Value.slice a2 x.val.texts.length c2)]).length cap) :=
              ⟨(HLi1.out.keep (Keep.alloc1 _ (blk7 x (.slice a2 x.val.texts.length c2)))).more (HUO.out.keep (Keep.alloc1 _ _) (fun x hx => by cases hx) (fun x hx => .inl hx)) HOK.out R9 K9 F9, by rw [List.length_append]; exact row_some R9 rfl⟩
            clear R9 K9 F9 HSR HLi1 HUO hal
            go_wp2
            go_roundw
            case rel => exact ⟨k + 1, by go_num, by omega, _, hx.out, HE.out _⟩
            case measure => simp [intOf]; omega
          · have HE : Hid (ps.map (fun p : AD × Value => p.1) = own ++ (ctx.take (k + 1)).filter (fun x : AD => !own.any (fun o => o.nm.toList == x.nm.toList))) := by
              show _ = _
              have hif : (if (fun x : AD => !own.any (fun o => o.nm.toList == x.nm.toList)) x then [x] else []) = [] := if_neg (by show ¬ (!own.any (fun o => o.nm.toList == x.nm.toList)) = true; rw [hq]; simp)
              rw [HTF.out, hif, HE0.out, List.append_nil]
            rw [hq] at HNM
            clear hq HTF HE0 HC
            go_wp2_with fail
            refine (HNM.out _ (HLi.out.kp.alloc _)).mono ?_
            rintro e9 w5 ⟨rfl, k5⟩
            have HLi2 : Hid (LiQ w w5 u6 ps) := (HLi.out.keep (Keep.alloc1 _ _)).keep k5
            clear k5 HNM HLi m0 m1 m2 m3 m4 m5 m6
            go_wp2
            go_roundw
            case rel => exact ⟨k + 1, by go_num, by omega, ps, ⟨HLi2.out, HG0.out⟩, HE.out⟩
            case measure => simp [intOf]; omega
        · have hlti : ¬ (k : Int) < (ctx.length : Int) := by omega
          obtain ⟨ps, ⟨hL0, ⟨g, cap, rfl⟩⟩, hE0⟩ := HI.out
          obtain ⟨qs, rfl⟩ := all_sv ps (fun p hp => by
            obtain ⟨a, c, e, -⟩ := (hL0.ul p hp).1.ex
            exact ⟨a, _, c, e⟩)
          rw [List.length_map] at hL0
          have HLi : Hid (LiQ w wr (.slice (some ⟨g, 0, none⟩) qs.length cap) (qs.map svA)) := hL0
          have HE : Hid (qs.map (fun q : SA => q.1) = own ++ ctx.filter (fun x : AD => !own.any (fun o => o.nm.toList == x.nm.toList))) := by
            show _ = _
            rw [List.take_of_length_le (show ctx.length ≤ k by omega), List.map_map] at hE0
            exact hE0
          have HQL : Hid (qs.length ≤ 1000) := by
            have h1 := congrArg List.length HE.out
            have h2 := HN.out
            have h3 := List.length_filter_le (fun x : AD => !own.any (fun o => o.nm.toList == x.nm.toList)) ctx
            simp only [List.length_map, List.length_append] at h1
            show qs.length ≤ 1000
            omega
          have HC : Hid _ := sort_any wr g cap qs hL0.row HQL.out
          clear hL0 hE0 HI
          simp only [List.length_map]
          go_wp2_with fail
          refine Calls.mono HC.out ?_
          rintro e9 w5 ⟨rfl, qs', p1, p2, p3, p4⟩
          have HF : Hid (As w5 (.slice (some ⟨g, 0, none⟩) qs.length cap) (laidL own ctx) ∧ Keep [] w w5) := by
            obtain ⟨f1, f2⟩ := sorted_as HLi.out p1 p3 p4
            have e : qs'.map (fun q : SA => q.1) = laidL own ctx := by
              refine merged_one HR.out.1 HR.out.2 ?_ ?_
              · rw [← HE.out]
                exact p1.map _
              · rw [List.pairwise_map]
                refine p2.imp (fun h h2 => ?_)
                unfold ltA at h2
                unfold cfS at h
                omega
            rw [e] at f1
            exact ⟨f1, f2⟩
          clear p1 p2 p3 p4 HC HLi HE
          go_wp2
          go_ret2
          exact ⟨_, rfl, HF.out⟩
end Go.Proofs.YtncbanpimfhhbaaGreatDoor

