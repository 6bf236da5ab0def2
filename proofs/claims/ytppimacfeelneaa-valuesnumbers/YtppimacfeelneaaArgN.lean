/- Arguments: a list of them that may be is taken, one that is too long is refused; lists of texts that the law makes. -/
import Derived.Test.YtppimacfeelneaaCmpA
import Derived.Test.YtppimacfeelneaaINameW
import Derived.Deep.RegionHeld3
namespace Go.Proofs.Ytppimacfeelneaa
open Go.RowKit Go.PlainAid Go.Lib

def xs (n : Nat) : ByteArray := ⟨(List.replicate n 120).toArray⟩
theorem xs_size (n : Nat) : (xs n).size = n := by
  show (List.replicate n (120 : UInt8)).toArray.size = n
  simp
theorem xs_succ (n : Nat) : xs n ++ (⟨#[120]⟩ : ByteArray) = xs (n + 1) := by
  apply ByteArray.ext
  rw [ByteArray.data_append]
  apply Array.toList_inj.1
  simp [xs, List.replicate_succ']

theorem infoStr : (Try.prog.info? 9).map (fun i => (i.zero, i.size, i.bytes)) = some (some (.string ⟨#[]⟩), 1, 16) := by kernel_rfl
theorem srcStr (w : World) (s : ByteArray) : Src Try.prog 1 24 (.slice (some ⟨w.heap.size, 0, none⟩) 1 1) 1 [.string s] (w.alloc (.cells #[.string s] 9)) := by
  refine Src.ofSlice _ Try.underlying24 ⟨w.heap.size, 0, none⟩ 1 1 [.string s] rfl (fun j u hu => ?_) (fun u hu => by simp at hu; rw [hu]; rfl)
  have hj : j = 0 := by
    have := (List.getElem?_eq_some_iff.1 hu).1
    simpa using this
  subst hj
  simp at hu
  subst hu
  simp [go_sem]

theorem app_freshC {w wr w1 : World} {o : Obj} {v v' : Value} (hk : Keep [] w wr) (hf : Fresh w wr v) (h2 : Keep v.ownBlock.toList (wr.alloc o) w1) (h3 : v'.ownBlock = v.ownBlock ∨ Fresh (wr.alloc o) w1 v') :
    Keep [] w w1 ∧ Fresh w w1 v' := by
  have hs : (wr.alloc o).heap.size = wr.heap.size + 1 := by simp
  have h4 := h2.size
  have h5 := hk.size
  refine ⟨(hk.alloc o).more h2 (fun x hx => .inr (hf x (by simpa using hx)).1), fun x hx => ?_⟩
  rcases h3 with h3 | h3
  · have := hf x (by rw [← h3]; exact hx)
    omega
  · have := h3 x hx
    omega

/-- a row of one's own of n like texts reads as them -/
theorem RowC.texts {w : World} {v : Value} {n : Nat} {s : ByteArray} (h : RowC w 9 1 v n (List.replicate n (.string s))) (hs : s.size ≤ 9223372036854775807) : Ts w v (List.replicate n s) := by
  rcases h.cases with ⟨rfl, _, rfl⟩ | ⟨g, cap, rfl, h1, h2, _, h4, _⟩
  · exact Ts.nil w
  · refine ⟨some ⟨g, 0, none⟩, cap, by simp, by simpa using h1, h2, fun t ht => by rw [(List.mem_replicate.1 ht).2]; exact hs, fun _ => ⟨g, 0, rfl, fun j hj => ?_⟩⟩
    simp at hj
    rw [Nat.zero_add, h4 j (by omega)]
    simp [hj]

set_option maxRecDepth 100000 in
set_option maxHeartbeats 3200000 in
theorem texts_any (n size : Nat) (hn : n ≤ 100) (hsz : size ≤ 1000) (w : World) :
    Calls Try.prog 8 #[.int .i64 (n : Int), .int .i64 (size : Int)] w fun e w' => ∃ v, e = .returned v ∧ Ts w' v (List.replicate n (xs size)) ∧ Keep [] w w' := by
  go_enter Try.func8, Try.ntmps8
  go_wp2
  go_loop [5, 6] (fun sv iv => ∃ k : Nat, iv = .int .i64 (k : Int) ∧ k ≤ size ∧ sv = .string (xs k)) (fun _ iv => size - (intOf iv).toNat)
  case atStart => exact ⟨0, rfl, Nat.zero_le _, rfl⟩
  case round =>
    obtain ⟨k, rfl, hk, rfl⟩ := hrel
    by_cases hks : k < size
    · have hki : (k : Int) < (size : Int) := by omega
      have HX : Hid (xs k ++ (⟨#[120]⟩ : ByteArray) = xs (k + 1)) := xs_succ k
      have hsz1 := xs_size k
      go_wp2
      go_round
      case rel => exact ⟨k + 1, by go_num, by omega, by rw [← HX.out]⟩
      case measure => simp [intOf]; omega
    · have hki : ¬ ((k : Int) < (size : Int)) := by omega
      have hke : k = size := by omega
      subst hke
      have hzz : (xs k).size ≤ 9223372036854775807 := by rw [xs_size]; omega
      generalize hxs : xs k = s at hzz
      have HXS : Hid (xs k = s) := hxs
      clear hxs
      go_wp2
      go_loopw [7, 8] (fun lv iv wr => ∃ i : Nat, iv = .int .i64 (i : Int) ∧ i ≤ n ∧ RowC wr 9 1 lv i (List.replicate i (.string s)) ∧ Keep [] w wr ∧ Fresh w wr lv) (fun _ iv _ => n - (intOf iv).toNat)
      case atStart => exact ⟨0, rfl, Nat.zero_le _, World.ownsRow_nil _ _ _ _, Keep.refl _ _, Fresh.nil _ _⟩
      case round =>
        obtain ⟨i, rfl, hi, hrow, hkp, hfr⟩ := hrel
        by_cases hin : i < n
        · have hii : (i : Int) < (n : Int) := by omega
          have hsrc := srcStr wr s
          have hr2 : RowC (wr.alloc (.cells #[.string s] 9)) 9 1 u7 i (List.replicate i (.string s)) := hrow.keep (Keep.alloc1 wr _) (Off.nil _)
          have HKF : Hid (Keep [] w wr ∧ Fresh w wr u7) := ⟨hkp, hfr⟩
          clear hrow hkp hfr
          go_wp2_with (at_builtin; refine wp_appC infoStr rfl rfl (.tmp 21) (.tmp 23) 24 24 rfl Try.underlying24 _ i (List.replicate i (.string s)) rfl hr2 _ 1 [.string s] rfl hsrc (by omega) (by simp only [maxLen]; omega) ?_)
          intro v' w9 g1 g2 g3 g4 g5
          have HA : Hid (Keep [] w w9 ∧ Fresh w w9 v') := app_freshC HKF.out.1 HKF.out.2 g2 g3
          have HR : Hid (RowC w9 9 1 v' (i + 1) (List.replicate (i + 1) (.string s))) := by
            rw [List.replicate_succ']
            exact g1
          clear g1 g2 g3 g4 g5 hsrc hr2
          go_wp2
          go_roundw
          case rel => exact ⟨i + 1, by go_num, by omega, HR.out, HA.out.1, HA.out.2⟩
          case measure => simp [intOf]; omega
        · have hii : ¬ ((i : Int) < (n : Int)) := by omega
          have hie : i = n := by omega
          subst hie
          have HR : Hid (Ts wr u7 (List.replicate i s) ∧ Keep [] w wr) := ⟨hrow.texts hzz, hkp⟩
          clear hrow hkp hfr
          go_wp2
          go_ret
          exact ⟨_, rfl, by rw [HXS.out]; exact HR.out⟩

end Go.Proofs.Ytppimacfeelneaa
