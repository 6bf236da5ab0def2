/- slices.SortFunc over arguments, by their names. -/
import Derived.Test.YtncbanpimfhhbaaGreatDoorMgB
import Derived.Test.YtncbanpimfhhbaaGreatDoorShelf
namespace Go.Proofs.YtncbanpimfhhbaaGreatDoor
open Go.RowKit Go.PlainAid Go.Shelf Go.Sort

/-- an argument, and where its texts lie -/
abbrev SA := AD × (Option Addr × Nat × Nat)
instance : Inhabited SA := ⟨(⟨ByteArray.empty, ⟨0, false, 0, 0, ByteArray.empty, []⟩⟩, (none, 0, 0))⟩
def svA (q : SA) : AD × Value := (q.1, .slice q.2.1 q.2.2.1 q.2.2.2)
def encS (q : SA) : List Value := cells7 (svA q)
def cfS (x y : SA) : Int := cmpT x.1.nm.toList y.1.nm.toList

set_option maxRecDepth 1000000 in
theorem byName_any (x y : SA) (W : World) : Calls Tryz.prog 13 #[.agg (encS x).toArray, .agg (encS y).toArray] W fun e w' => e = .returned (.int .i64 (cfS x y)) ∧ ∃ q os', w' = grow (W.drewN q) os' := by
  obtain ⟨⟨m, kd, b, n, r, t, ts⟩, a, l, c⟩ := x
  obtain ⟨⟨m', kd', b', n', r', t', ts'⟩, a', l', c'⟩ := y
  show Calls Tryz.prog 13 #[.agg #[.string m, .int .i64 kd, .bool b, .int .i64 n, .float .f32 r, .string t, .slice a l c], .agg #[.string m', .int .i64 kd', .bool b', .int .i64 n', .float .f32 r', .string t', .slice a' l' c']] W fun e w' => e = .returned (.int .i64 (cmpT m.toList m'.toList)) ∧ ∃ q os', w' = grow (W.drewN q) os'
  have hcon := fun W' => strCmp_any m m' W'
  generalize cmpT m.toList m'.toList = z at hcon ⊢
  go_enter Tryz.func13, Tryz.ntmps13
  go_wp2_with (go_at_call 27; refine (hcon _).mono ?_; rintro e w' ⟨rfl, hw⟩; obtain rfl := hw.symm)
  go_ret
  exact ⟨rfl, 0, _, by rw [alloc_eq_grow, alloc_eq_grow, grow_grow]; rfl⟩

theorem swoS : SWO (ltOf cfS) where
  irrefl x := by
    have := (ord_cmpT.same x.1.nm.toList x.1.nm.toList).2 rfl
    simp [ltOf, cfS, this]
  trans x y z h1 h2 := by
    have a := cmpT_neg (of_decide_eq_true h1)
    have b := cmpT_neg (of_decide_eq_true h2)
    have c := ord_cmpT.trans _ _ _ a b
    exact decide_eq_true (by unfold cfS; omega)
  ntrans x y z h1 h2 := by
    have a : ¬ cfS x y < 0 := of_decide_eq_false h1
    have b : ¬ cfS y z < 0 := of_decide_eq_false h2
    refine decide_eq_false fun h => ?_
    have c : cmpT x.1.nm.toList z.1.nm.toList = -1 := cmpT_neg h
    unfold cfS at a b
    have r1 := ord_cmpT.range x.1.nm.toList y.1.nm.toList
    have r2 := ord_cmpT.range y.1.nm.toList z.1.nm.toList
    have t1 := ord_cmpT.anti x.1.nm.toList y.1.nm.toList
    have t2 := ord_cmpT.anti y.1.nm.toList z.1.nm.toList
    rcases r1 with r1 | r1 | r1
    · omega
    · have e := (ord_cmpT.same _ _).1 r1
      rw [← e] at b
      omega
    · have := ord_cmpT.trans y.1.nm.toList x.1.nm.toList z.1.nm.toList (by omega) c
      omega

theorem holds_row {w : World} {g cap : Nat} {qs : List SA} (hr : RowP w (.slice (some ⟨g, 0, none⟩) qs.length cap) (qs.map svA)) : HoldsK encS 7 w g 0 qs.toArray ∧ g < w.heap.size := by
  rcases RowC.cases hr with ⟨_, _, h3⟩ | ⟨g', cap', he, h1, h2, h3, hc, hf⟩
  · simp at h3
  · simp at he
    obtain ⟨rfl, rfl⟩ := he
    refine ⟨fun j hj => ?_, h3⟩
    rw [size_flatK] at hj
    have hj' : j < qs.length * 7 := by simpa using hj
    have hi : j / 7 < qs.length := by omega
    refine ⟨?_, by rw [Nat.zero_add]; exact hf j⟩
    rw [Nat.zero_add, hc j (by simpa using hj'), get_flatK _ _ _ _ hj]
    have e := flat7_get (qs.map svA) (j / 7) (j % 7) (by simpa using hi) (by omega)
    rw [show j / 7 * 7 + j % 7 = j by omega] at e
    rw [e]
    have e2 : qs.toArray[j / 7]! = qs[j / 7] := by simp [hi]
    rw [e2]
    have e3 : (qs.map svA)[j / 7]'(by simpa using hi) = svA qs[j / 7] := by simp
    rw [e3]
    have hl : (encS qs[j / 7]).length = 7 := rfl
    show (encS qs[j / 7])[j % 7]? = _
    rw [List.getElem?_eq_getElem (by omega), getElem!_pos _ _ (by rw [hl]; omega)]
    rfl

set_option maxHeartbeats 1000000 in
theorem sort_any (w : World) (g cap : Nat) (qs : List SA) (hr : RowP w (.slice (some ⟨g, 0, none⟩) qs.length cap) (qs.map svA)) (hlen : qs.length ≤ 1000) :
    Calls Tryz.prog 12 #[.slice (some ⟨g, 0, none⟩) qs.length cap, .func (.func 13) #[] #[]] w fun e w' => e = .returned (.tuple #[]) ∧ ∃ qs' : List SA, qs'.Perm qs ∧ qs'.Pairwise (fun x y => ¬ cfS y x < 0) ∧ (∀ i (h : i < qs'.length) c, c < 7 → w'.cell? ⟨g, i * 7 + c, none⟩ = (encS qs'[i])[c]?) ∧ Keep [g] w w' := by
  obtain ⟨hH, hblk⟩ := holds_row hr
  have eg : ∀ args w, (callFunc 13 args).run Tryz.prog w = .ok (.enter 13 args) w := enters_of Tryz.func13 (by kernel_rfl) rfl
  have hcon := AnyQ.slices_SortFunc Tryz.sortA 7 Tryz.isAgg33 Tryz.sizeOf33 encS (fun _ => rfl) (fun x v hv => by simp [encS, svA] at hv; rcases hv with rfl | rfl | rfl | rfl | rfl | rfl | rfl <;> rfl) cfS swoS 13 #[] g 0 cap qs.toArray w eg (fun _ _ _ _ x y => by simpa using byName_any x y _) hH hblk (by simp; omega)
  change Calls Tryz.prog 12 _ _ _ at hcon
  rw [show qs.toArray.size = qs.length from by simp] at hcon
  refine hcon.mono ?_
  rintro e w' ⟨rfl, d', n, os, hp, hs, rfl⟩
  obtain ⟨p1, p2, p3⟩ := hp
  have hd : d'.size = qs.length := by simpa using p1
  refine ⟨rfl, d'.toList, ?_, ?_, fun i hi c hc => ?_, ?_⟩
  · have := p3
    rw [show d'.extract 0 qs.length = d' by rw [← hd]; simp] at this
    simpa using this
  · rw [List.pairwise_iff_getElem]
    intro i j hi hj hij
    have hi' : i < d'.size := by simpa using hi
    have hj' : j < d'.size := by simpa using hj
    have := hs i j (Nat.zero_le _) hij (by omega)
    rw [getElem!_pos d' i hi', getElem!_pos d' j hj'] at this
    simpa using of_decide_eq_false this
  · have hi' : i < d'.size := by simpa using hi
    have hK : HoldsK encS 7 (sortWorldK encS 7 w g 0 n d' os) g 0 d' := by
      unfold sortWorldK
      refine holdsK_grow _ _ _ _ _ _ _ ?_ (holdsK_putRowK _ _ _ _ _ qs.toArray d' (holdsK_ahead _ _ _ n _ _ _ hH) (by simpa using hd))
      simpa [putRowK] using hblk
    have := (hK.cell hi' hc).1
    rw [Nat.zero_add, getElem!_pos d' i hi'] at this
    rw [this]
    have hl : (encS d'.toList[i]).length = 7 := rfl
    rw [List.getElem?_eq_getElem (by omega)]
    congr 1
    have e : d'.toList[i] = d'[i] := by simp
    rw [getElem!_pos _ _ (by show c < (encS d'[i]).length; exact hc)]
    simp
  · unfold sortWorldK putRowK
    refine ⟨rfl, rfl, rfl, by simp, fun k hk hne => ?_⟩
    rw [heap_grow_old _ _ (by simpa using hk)]
    have : g ≠ k := fun e => hne (by rw [e]; simp)
    simp [putRow, mapBlock, Sort.ahead, Array.getElem?_modify, this]
end Go.Proofs.YtncbanpimfhhbaaGreatDoor

