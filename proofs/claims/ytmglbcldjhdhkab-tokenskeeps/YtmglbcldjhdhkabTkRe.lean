/- The document's run and Finish. -/
import Derived.Test.YtmglbcldjhdhkabTkRd
import Derived.Deep.RegionLaw
namespace Go.Proofs.Ytmglbcldjhdhkab
open Go.RowKit Go.PlainAid

def rng (m : Mc) : Prop := (0 ≤ m.st ∧ m.st ≤ 15) ∧ (0 ≤ m.n ∧ m.n ≤ 40)
theorem beg_rng {c : UInt8} {x : Mc} (h : begM c = some x) : rng x := by
  unfold begM at h
  repeat' split at h
  all_goals first | (simp only [Option.some.injEq] at h; subst h; unfold rng; simp) | cases h
theorem take_rng {m x : Mc} {c : UInt8} (hm : rng m) (h : takeM m c = some x) : rng x := by
  obtain ⟨s, n⟩ := m
  unfold rng at hm
  simp only at hm
  unfold takeM at h
  split at h
  · exact beg_rng h
  split at h
  · split at h
    · simp only [Option.some.injEq] at h; subst h; unfold rng; simp; omega
    · exact beg_rng h
  split at h
  · simp only [Option.some.injEq] at h; subst h; unfold rng; simp only; split <;> omega
  split at h
  · split at h
    · split at h
      · simp only [Option.some.injEq] at h; subst h; unfold rng; simp only at *; omega
      · cases h
    · exact beg_rng h
  split at h
  · split at h
    · simp only [Option.some.injEq] at h; subst h; unfold rng; simp; omega
    · exact beg_rng h
  split at h
  · split at h
    · simp only [Option.some.injEq] at h; subst h; unfold rng; simp; omega
    · cases h
  split at h
  · unfold txtM at h
    split at h
    · split at h
      · cases h
      · simp only [Option.some.injEq] at h; subst h; unfold rng; simp only; repeat' split
        all_goals omega
    · split at h
      · split at h
        · simp only [Option.some.injEq] at h; subst h; unfold rng; simp only; split <;> omega
        · cases h
      · split at h
        · cases h
        · split at h
          · simp only [Option.some.injEq] at h; subst h; unfold rng; simp; omega
          · simp only [Option.some.injEq] at h; subst h; unfold rng; simp; omega
  · unfold digM at h
    split at h
    · repeat' split at h
      all_goals (simp only [Option.some.injEq] at h; subst h; unfold rng; simp only; omega)
    · split at h
      · simp only [Option.some.injEq] at h; subst h; unfold rng; simp; omega
      · split at h
        · simp only [Option.some.injEq] at h; subst h; unfold rng; simp; omega
        · split at h
          · simp only [Option.some.injEq] at h; subst h; unfold rng; simp; omega
          · split at h
            · exact beg_rng h
            · cases h
theorem Mb.other {w w' : World} {b g : Nat} {m : Mc} (h : Mb w b m) (k : Keep [g] w w') (hn : b ≠ g) : Mb w' b m := (k.block b (Array.getElem?_eq_some_iff.1 h).1 (by simpa using hn)).trans h

/-- where the loop of run stands -/
structure Rn (w wr : World) (l : List UInt8) (k : Nat) (m : Mc) : Prop where
  h3 : Mb wr w.heap.size ⟨0, 0⟩
  h4 : Mb wr (w.heap.size + 1) m
  go : Goes ⟨0, 0⟩ l k m
  rg : rng m
  keep : Keep [] w wr

set_option maxRecDepth 1000000 in
set_option maxHeartbeats 4000000 in
theorem run_any (s : ByteArray) (w : World) (hsz : s.size ≤ 9223372036854775800) :
    Calls Try.prog 19 #[.string s] w fun e w' => e = .returned (.tuple #[.int .i64 ((runM ⟨0, 0⟩ s.toList).1 : Int), .agg #[.int .i64 (runM ⟨0, 0⟩ s.toList).2.st, .int .i64 (runM ⟨0, 0⟩ s.toList).2.n]]) ∧ Keep [] w w' := by
  have hgb := get_bt s
  have h0 : Hid (Rn w ((w.alloc (.cells #[.int .i64 0, .int .i64 0] 49 (0, 0))).alloc (.cells #[.int .i64 0, .int .i64 0] 49 (0, 0))) s.toList 0 ⟨0, 0⟩) := by
    have h1 := heap_alloc_new (w.alloc (.cells #[.int .i64 0, .int .i64 0] 49 (0, 0))) (.cells #[.int .i64 0, .int .i64 0] 49 (0, 0))
    rw [show (w.alloc (.cells #[.int .i64 0, .int .i64 0] 49 (0, 0))).heap.size = w.heap.size + 1 by simp] at h1
    exact ⟨(Below.heap_alloc _ _ _ (by simp)).trans (heap_alloc_new w _), h1, Goes.zero _ _, by unfold rng; simp, (Keep.alloc1 w _).alloc _⟩
  go_enter Try.func19, Try.ntmps19
  go_wp2
  go_loopw [5] (fun z wr => ∃ (k : Nat) (m : Mc), z = .int .i64 (k : Int) ∧ k ≤ s.size ∧ Hid (Rn w wr s.toList k m)) (fun z _ => s.size - (intOf z).toNat)
  case atStart => exact ⟨0, ⟨0, 0⟩, rfl, Nat.zero_le _, h0⟩
  case round =>
    clear h0
    obtain ⟨k, m, rfl, hk, hR⟩ := hrel
    obtain ⟨ms, mn⟩ := m
    obtain ⟨c0, c1, f0, f1⟩ := hR.out.h4.cells
    have hws : w.heap.size + 1 < wr.heap.size := (Array.getElem?_eq_some_iff.1 hR.out.h4).1
    simp only at c0 c1
    by_cases hlt : k < s.size
    · have hlti : (k : Int) < (s.size : Int) := by omega
      obtain ⟨c, hc, hb⟩ := bt_drop s k hlt
      have hgc : ((s[k]'hlt).toNat : Int) = (c.toNat : Int) := (hgb k hlt).trans hb
      have hM := hR.out.h4.keep (Keep.alloc1 wr (.cells #[.int .i64 ms, .int .i64 mn] 49 (0, 0)))
      have hTk : Hid (Calls Try.prog 34 #[.pointer (some ⟨w.heap.size + 1, 0, none⟩), .int .u8 (c.toNat : Int)] (wr.alloc (.cells #[.int .i64 ms, .int .i64 mn] 49 (0, 0))) fun e w' => e = .returned (.bool (takeM ⟨ms, mn⟩ c).isSome) ∧ Mk (takeM ⟨ms, mn⟩ c) (w.heap.size + 1) (wr.alloc (.cells #[.int .i64 ms, .int .i64 mn] 49 (0, 0))) w') := rtake_any _ ms mn c _ hM hR.out.rg.1 hR.out.rg.2
      have hcp : Hid (Mb (wr.alloc (.cells #[.int .i64 ms, .int .i64 mn] 49 (0, 0))) wr.heap.size ⟨ms, mn⟩) := heap_alloc_new wr _
      have hdr : Hid (s.toList.drop k = c :: s.toList.drop (k + 1)) := hc
      clear hM hb hc hgb
      cases ht : takeM ⟨ms, mn⟩ c with
      | none =>
        rw [ht] at hTk
        have hrun : Hid (runM ⟨0, 0⟩ s.toList = (k, ⟨ms, mn⟩)) := by
          show _ = _
          rw [hR.out.go.2, hdr.out, run_stop ht]
          simp
        go_wp2_with fail
        refine (hTk.out).mono ?_
        rintro e w3 ⟨rfl, mk⟩
        have hcp3 := hcp.out.other mk.keep (by omega)
        have h33 := (hR.out.h3.keep (Keep.alloc1 wr _)).other mk.keep (by omega)
        obtain ⟨d0, d1, -, -⟩ := hcp3.cells
        obtain ⟨p0, p1, q0, q1⟩ := h33.cells
        have hKf : Hid (Keep [] w w3) := (hR.out.keep.alloc _).more mk.keep (by intro x hx; simp at hx; subst hx; exact .inr (by omega))
        simp only at d0 d1 p0 p1
        clear mk hcp3 h33 hR
        go_wp2
        go_region_law (fail)
        all_goals
          go_wp2
          refine bodyPost_ret (v := .tuple #[.int .i64 (k : Int), .agg #[.int .i64 ms, .int .i64 mn]]) (by simp [results, Try.results19, go_sem, p0, p1]) rfl ⟨by rw [hrun.out], ?_⟩
          exact ((hKf.out.setCell (.inr (Nat.le_refl _)) _).setCell (.inr (Nat.le_refl _)) _).drew
      | some m2 =>
        rw [ht] at hTk
        go_wp2_with fail
        refine (hTk.out).mono ?_
        rintro e w3 ⟨rfl, mk⟩
        obtain ⟨m3, hm3, he3⟩ := mk.ex
        have e3 := he3 m2 rfl
        subst e3
        have hnx : Hid (Rn w w3 s.toList (k + 1) m3) := by
          refine ⟨(hR.out.h3.keep (Keep.alloc1 wr _)).other mk.keep (by omega), hm3, ?_, take_rng hR.out.rg ht, (hR.out.keep.alloc _).more mk.keep (by intro x hx; simp at hx; subst hx; exact .inr (by omega))⟩
          refine hR.out.go.trans ?_
          rw [hdr.out]
          exact (Goes.zero _ _).step ht
        clear mk hm3 he3 hR hcp hTk
        go_wp2
        go_roundw
        case rel => exact ⟨k + 1, m3, by go_num, by omega, hnx⟩
        case measure => simp [intOf]; omega
    · have hlti : ¬ (k : Int) < (s.size : Int) := by omega
      have hrun : Hid (runM ⟨0, 0⟩ s.toList = (s.size, ⟨ms, mn⟩)) := by
        show _ = _
        rw [hR.out.go.2, List.drop_of_length_le (by rw [toList_len]; omega)]
        simp [runM]
        omega
      obtain ⟨p0, p1, q0, q1⟩ := hR.out.h3.cells
      have hKf : Hid (Keep [] w wr) := hR.out.keep
      simp only at p0 p1
      clear hR hgb
      go_wp2
      go_region_law (fail)
      all_goals
        go_wp2
        refine bodyPost_ret (v := .tuple #[.int .i64 (s.size : Int), .agg #[.int .i64 ms, .int .i64 mn]]) (by simp [results, Try.results19, go_sem, p0, p1]) rfl ⟨by rw [hrun.out], ?_⟩
        exact ((hKf.out.setCell (.inr (Nat.le_refl _)) _).setCell (.inr (Nat.le_refl _)) _).drew
theorem run_rng : ∀ (l : List UInt8) (m : Mc), rng m → rng (runM m l).2
  | [], m, h => h
  | c :: t, m, h => by
    cases ht : takeM m c with
    | none => rw [run_stop ht]; exact h
    | some m' => rw [run_cons ht]; exact run_rng t m' (take_rng h ht)

set_option maxRecDepth 1000000 in
set_option maxHeartbeats 4000000 in
theorem finish_any (s : ByteArray) (w : World) (hsz : s.size ≤ 9223372036854775800) :
    Calls Try.prog 7 #[.string s] w fun e w' => e = .returned (.string (ba (finM (runM ⟨0, 0⟩ s.toList).2))) ∧ Keep [] w w' := by
  have hR : Hid (∀ w, Calls Try.prog 19 #[.string s] w fun e w' => e = .returned (.tuple #[.int .i64 ((runM ⟨0, 0⟩ s.toList).1 : Int), .agg #[.int .i64 (runM ⟨0, 0⟩ s.toList).2.st, .int .i64 (runM ⟨0, 0⟩ s.toList).2.n]]) ∧ Keep [] w w') := fun w => run_any s w hsz
  have hg := run_rng s.toList ⟨0, 0⟩ (by unfold rng; simp)
  generalize runM ⟨0, 0⟩ s.toList = r at hR hg ⊢
  obtain ⟨k, st, n⟩ := r
  simp only at hR ⊢
  have h1 := hg.1
  simp only at h1
  clear hg
  have hc : st = 0 ∨ st = 1 ∨ st = 2 ∨ st = 3 ∨ st = 4 ∨ st = 5 ∨ st = 6 ∨ st = 7 ∨ st = 8 ∨ st = 9 ∨ st = 10 ∨ st = 11 ∨ st = 12 ∨ st = 13 ∨ st = 14 ∨ st = 15 := by omega
  clear h1
  rcases hc with rfl | rfl | rfl | rfl | rfl | rfl | rfl | rfl | rfl | rfl | rfl | rfl | rfl | rfl | rfl | rfl
  all_goals
    go_enter Try.func7, Try.ntmps7
    go_wp2_with (go_at_call 19; refine (hR.out _).mono ?_; rintro e w1 ⟨rfl, k1⟩)
    go_ret
    exact ⟨rfl, k1.alloc _⟩
end Go.Proofs.Ytmglbcldjhdhkab

