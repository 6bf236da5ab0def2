/- Places: lines and columns. -/
import Derived.Test.YtmglbcldjhdhkabTkJ
import Derived.Deep.RegionHeld3
namespace Go.Proofs.Ytmglbcldjhdhkab
open Go.RowKit Go.PlainAid

/-- at b lies a place: how many bytes are ahead, the line, where it begins -/
def Pl (w : World) (b : Nat) (k line start : Nat) : Prop := w.heap[b]? = some (.cells #[.int .i64 (k : Int), .int .i64 (line : Int), .int .i64 (start : Int)] 40 (0, 0))
theorem Pl.keep {w w' : World} {b k line start : Nat} {F : List Nat} (h : Pl w b k line start) (kp : Keep F w w') (hb : b ∉ F) : Pl w' b k line start := (kp.block b (Array.getElem?_eq_some_iff.1 h).1 hb).trans h
theorem Pl.lt {w : World} {b k line start : Nat} (h : Pl w b k line start) : b < w.heap.size := (Array.getElem?_eq_some_iff.1 h).1

theorem adv_append (p : Nat × Nat) (a b : List UInt8) : adv p (a ++ b) = adv (adv p a) b := by simp [adv, List.foldl_append]
theorem adv_plain : ∀ (xs : List UInt8) (p : Nat × Nat), (∀ x ∈ xs, x ≠ 10) → adv p xs = (p.1, p.2 + xs.length)
  | [], p, _ => by simp [adv]
  | x :: xs, p, h => by
    have := adv_plain xs (adv1 p x) (fun y hy => h y (by simp [hy]))
    rw [show adv p (x :: xs) = adv (adv1 p x) xs from rfl, this, adv1, if_neg (h x (by simp))]
    simp
    omega

set_option maxRecDepth 1000000 in
set_option maxHeartbeats 2000000 in
theorem column_any (b k line start : Nat) (w : World) (hp : Pl w b k line start) (hk : start ≤ k) (hs : k ≤ 9223372036854775806) :
    Calls Try.prog 18 #[.pointer (some ⟨b, 0, none⟩)] w fun e w' => e = .returned (.int .i64 ((k - start + 1 : Nat) : Int)) ∧ w' = w.drew := by
  obtain ⟨c0, c1, c2, f0, f1, f2⟩ := box3 hp
  have e : ((k - start + 1 : Nat) : Int) = (k : Int) - (start : Int) + 1 := by omega
  rw [e]
  go_enter Try.func18, Try.ntmps18
  go_wp2
  go_region
  go_wp2
  go_ret
  exact ⟨rfl, rfl⟩

set_option maxRecDepth 1000000 in
set_option maxHeartbeats 2000000 in
theorem move_any (s : ByteArray) (b k1 k2 line start : Nat) (w : World) (hp : Pl w b k1 line start) (h1 : start ≤ k1) (h2 : k1 ≤ k2) (h3 : k2 ≤ s.size) (hl : line ≤ k1 + 1) (hs : s.size ≤ 9223372036854775800) :
    Calls Try.prog 16 #[.pointer (some ⟨b, 0, none⟩), .string s, .int .i64 (k2 : Int)] w fun e w' => e = .returned (.tuple #[]) ∧ ∃ line' start', Pl w' b k2 line' start' ∧ start' ≤ k2 ∧ line' ≤ k2 + 1 ∧
      (line', k2 - start' + 1) = adv (line, k1 - start + 1) ((s.toList.drop k1).take (k2 - k1)) ∧ Keep [b] w w' := by
  obtain ⟨c0, c1, c2, f0, f1, f2⟩ := box3 hp
  have hbl := hp.lt
  have hex : Hid ((s.extract k1 k2).toList = (s.toList.drop k1).take (k2 - k1)) := by show _ = _; rw [ext_mid, ba_toList]
  have hus : Hid ((s.extract k1 k2).size = k2 - k1) := by show _ = _; rw [← toList_len, hex.out]; exact (take_rw s k1 (k2 - k1) (by omega)).2
  have hP : Hid (Pl w b k1 line start) := hp
  clear hp
  go_enter Try.func16, Try.ntmps16
  go_wp2
  generalize hu : s.extract k1 k2 = u at hex hus ⊢
  clear c0 c1 c2 f0 f1 f2
  go_loopw [] (fun wr => ∃ (pos line' start' : Nat), pos ≤ u.size ∧ Hid (wr.heap[w.heap.size]? = some (.stringIter u pos) ∧ Keep [b] w wr ∧ Pl wr b k1 line' start' ∧ start' ≤ k1 + pos ∧ line' ≤ k1 + pos + 1 ∧ (line', k1 + pos - start' + 1) = adv (line, k1 - start + 1) (u.toList.take pos))) (fun wr => u.size - wr.iterPos w.heap.size)
  case atStart => exact ⟨0, line, start, Nat.zero_le _, World.iter_heap w u 0, (Keep.alloc1 w _).mono (by simp), hP.out.keep (Keep.alloc1 w _) (by simp), by omega, by omega, by simp [adv]⟩
  case round =>
    obtain ⟨pos, line', start', hpu, hI⟩ := hrel
    obtain ⟨hit, hkeep, hpl, hst, hln, hadv⟩ := hI.out
    obtain ⟨c0, c1, c2, f0, f1, f2⟩ := box3 hpl
    have hpos : Hid (wr.iterPos w.heap.size = pos) := by show _ = _; simp [World.iterPos, hit]
    have hus2 := hus.out
    by_cases hlt : pos < u.size
    · have hnx := next_some (P := Try.prog) _ _ u pos hit hlt
      obtain ⟨q1, q2⟩ := rw_pos u pos hlt
      obtain ⟨d, hd, hbd⟩ := bt_drop u pos hlt
      have it2 := Lib.iterAt_heap wr _ u pos (pos + rw' u pos) hit
      have keep2 : Keep [b] w (wr.iterAt w.heap.size u (pos + rw' u pos)) := hkeep.iterAt (.inr (Nat.le_refl _)) u _
      have pl2 : Pl (wr.iterAt w.heap.size u (pos + rw' u pos)) b k1 line' start' := (Lib.iterAt_other wr _ _ u _ (by omega)).trans hpl
      have htk : u.toList.take (pos + rw' u pos) = u.toList.take pos ++ (u.toList.drop pos).take (rw' u pos) := List.take_add
      have hm : Hid (u.size - (wr.iterAt w.heap.size u (pos + rw' u pos)).iterPos w.heap.size < u.size - wr.iterPos w.heap.size) := by
        show _ < _
        rw [hpos.out]
        simp only [World.iterPos, it2]
        omega
      generalize hWe : wr.iterAt w.heap.size u (pos + rw' u pos) = W at hnx it2 keep2 pl2 hm
      clear hWe hI hit hkeep hpl c0 c1 c2 f0 f1 f2
      obtain ⟨c0, c1, c2, f0, f1, f2⟩ := box3 pl2
      by_cases h10 : rn u pos = 10
      · have hlow : bt u pos < 128 := by
          rcases Int.lt_or_le (bt u pos) 128 with h | h
          · exact h
          · have := (rn_high u pos hlt h).1; omega
        have hb10 := rn_low u pos hlt hlow
        have hd10 : d = 10 := by apply UInt8.toNat_inj.1; show d.toNat = 10; omega
        have hF : Hid (Pl ((W.setCell ⟨b, 1, none⟩ (.int .i64 ((line' : Int) + 1))).setCell ⟨b, 2, none⟩ (.int .i64 ((k1 : Int) + (pos : Int) + 1))) b k1 (line' + 1) (k1 + pos + 1) ∧ (line' + 1, k1 + (pos + 1) - (k1 + pos + 1) + 1) = adv (line, k1 - start + 1) (u.toList.take (pos + 1))) := by
          refine ⟨?_, ?_⟩
          · have := heap_setCell_same _ b 2 _ 40 (.int .i64 ((k1 : Int) + (pos : Int) + 1)) (heap_setCell_same W b 1 _ 40 (.int .i64 ((line' : Int) + 1)) pl2)
            unfold Pl
            rw [this]
            simp [Int.natCast_add]
          · rw [hb10.2] at htk
            rw [htk, adv_append, ← hadv, hd, hd10]
            simp [adv, adv1]
            omega
        have hG : Hid (((W.setCell ⟨b, 1, none⟩ (.int .i64 ((line' : Int) + 1))).setCell ⟨b, 2, none⟩ (.int .i64 ((k1 : Int) + (pos : Int) + 1))).heap[w.heap.size]? = some (.stringIter u (pos + 1)) ∧ Keep [b] w ((W.setCell ⟨b, 1, none⟩ (.int .i64 ((line' : Int) + 1))).setCell ⟨b, 2, none⟩ (.int .i64 ((k1 : Int) + (pos : Int) + 1)))) := by
          refine ⟨?_, (keep2.setCell (.inl (by simp)) _).setCell (.inl (by simp)) _⟩
          rw [Below.heap_setCell _ _ _ _ (by simp; omega), Below.heap_setCell _ _ _ _ (by simp; omega), it2, hb10.2]
        have hm2 : Hid (u.size - ((W.setCell ⟨b, 1, none⟩ (.int .i64 ((line' : Int) + 1))).setCell ⟨b, 2, none⟩ (.int .i64 ((k1 : Int) + (pos : Int) + 1))).iterPos w.heap.size < u.size - wr.iterPos w.heap.size) := by
          show _ < _
          rw [hpos.out]
          simp only [World.iterPos, hG.out.1]
          omega
        rw [h10] at hnx
        clear h10 hlow hb10 hd10 hd hbd htk hadv keep2 pl2 it2 hm q1 q2
        go_wp2
        go_roundw
        case rel => exact ⟨pos + 1, line' + 1, k1 + pos + 1, by omega, hG.out.1, hG.out.2, hF.out.1, by omega, by omega, hF.out.2⟩
        case measure => exact hm2.out
      · have hne : ∀ x ∈ (u.toList.drop pos).take (rw' u pos), x ≠ 10 := by
          intro x hx
          rcases Int.lt_or_le (bt u pos) 128 with h | h
          · have e1 := rn_low u pos hlt h
            rw [e1.2, hd] at hx
            simp at hx
            subst hx
            intro h3
            subst h3
            apply h10
            rw [e1.1, hbd]
            rfl
          · have := high_mem u pos (rw' u pos) q2 (rn_high u pos hlt h).2.2.2 x hx
            intro h3
            subst h3
            simp at this
        have hadv2 : Hid ((line', k1 + (pos + rw' u pos) - start' + 1) = adv (line, k1 - start + 1) (u.toList.take (pos + rw' u pos))) := by
          show _ = _
          rw [htk, adv_append, ← hadv, adv_plain _ _ hne, (take_rw u pos (rw' u pos) q2).2]
          simp only [Prod.mk.injEq, true_and]
          omega
        have hX : Hid _ := And.intro it2 (And.intro keep2 pl2)
        clear hne htk hadv hd hbd it2 keep2 pl2
        go_wp2
        go_roundw
        case rel => exact ⟨pos + rw' u pos, line', start', q2, hX.out.1, hX.out.2.1, hX.out.2.2, by omega, by omega, hadv2.out⟩
        case measure => exact hm.out
    · have hnx := next_none (P := Try.prog) _ _ u pos hit hlt
      have hF : Hid (Pl (wr.setCell ⟨b, 0, none⟩ (.int .i64 (k2 : Int))) b k2 line' start' ∧ start' ≤ k2 ∧ line' ≤ k2 + 1 ∧ (line', k2 - start' + 1) = adv (line, k1 - start + 1) ((s.toList.drop k1).take (k2 - k1)) ∧ Keep [b] w (wr.setCell ⟨b, 0, none⟩ (.int .i64 (k2 : Int)))) := by
        have e : k1 + pos = k2 := by omega
        refine ⟨heap_setCell_same wr b 0 _ 40 _ hpl, by omega, by omega, ?_, hkeep.setCell (.inl (by simp)) _⟩
        rw [← hex.out, ← List.take_of_length_le (l := u.toList) (i := pos) (by rw [toList_len]; omega), ← hadv, e]
      clear hadv hI
      go_wp2
      go_end0
      exact ⟨rfl, line', start', hF.out⟩
end Go.Proofs.Ytmglbcldjhdhkab

