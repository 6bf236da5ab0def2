/- Copies of bytes, bytes held against one another, numbers brought into a range, each for every input. -/
import Derived.Test.YtcmembmaaebdeabArmW
import Derived.Deep.QuietTactic
import Derived.BigQuiet
namespace Go.Proofs.Ytcmembmaaebdeab
open Go.RowKit Go.PlainAid Go.Lib

set_option maxRecDepth 1000000 in
set_option maxHeartbeats 3200000 in
theorem copy_any (v : Value) (l : List UInt8) (w : World) (hv : Bs w v l) (hln : l.length ≤ 140737488355328) :
    Calls Try.prog 8 #[v] w fun e w' => ∃ v', e = .returned v' ∧ Row w' v' l ∧ Fresh w w' v' ∧ Keep [] w w' := by
  rcases hv.cases with ⟨rfl, ao, cap, rfl, _, _⟩ | ⟨_, b, o, cap, rfl, h0, h1, h2, h3⟩
  · clear hv hln
    go_enter Try.func8, Try.ntmps8
    go_wp2
    go_loop [3, 4] (fun ov iv => ov = .slice none 0 0 ∧ iv = .int .i64 0) (fun _ _ => 0)
    case atStart => exact ⟨rfl, rfl⟩
    case round =>
      obtain ⟨rfl, rfl⟩ := hrel
      go_wp2
      go_ret
      exact ⟨_, rfl, Row.nil w, Fresh.nil _ _, Keep.refl _ _⟩
  · clear hv
    go_enter Try.func8, Try.ntmps8
    go_wp2
    go_loopw [3, 4] (fun ov iv wr => ∃ (i : Nat), iv = .int .i64 (i : Int) ∧ i ≤ l.length ∧ Row wr ov (l.take i) ∧ Keep [] w wr ∧ Fresh w wr ov)
      (fun _ iv _ => l.length - (intOf iv).toNat)
    case atStart => exact ⟨0, rfl, Nat.zero_le _, Row.nil w, Keep.refl _ _, Fresh.nil _ _⟩
    case round =>
      obtain ⟨i, rfl, hi, hrow, hk, hf⟩ := hrel
      by_cases hil : i < l.length
      · have hci := hk.cell' (h3 i hil) (by simp)
        have hx := take_snoc l i hil
        generalize l.getD i 0 = x at hci hx
        have hsrc := (Bs.byte wr x).src
        have hr2 : Row (wr.alloc (.cells #[.int .u8 (x.toNat : Int)] TB)) u3 (l.take i) := hrow.keep (Keep.alloc1 wr _) (Off.nil _)
        have HB : Hid ((l.take i).length + [x].length ≤ 140737488355328) := by
          show (l.take i).length + [x].length ≤ 140737488355328
          simp; omega
        have HKF : Hid (Keep [] w wr ∧ Fresh w wr u3) := ⟨hk, hf⟩
        have HX : Hid (l.take (i + 1) = l.take i ++ [x]) := hx
        have HC : Hid (∀ j, j < l.length → w.cell? ⟨b, o + j, none⟩ = some (.int .u8 ((l.getD j 0).toNat : Int))) := h3
        have hili : (i : Int) < (l.length : Int) := by omega
        clear hx h3 hrow hk hf
        go_wp2_with (at_builtin; refine wp_app rfl (.tmp 11) (.tmp 16) 22 22 rfl underS _ (l.take i) rfl hr2 _ [x] rfl hsrc HB.out ?_)
        intro v' w1 g1 g2 g3 g4
        have HA : Hid (Keep [] w w1 ∧ Fresh w w1 v') := app_fresh HKF.out.1 HKF.out.2 g2 g3
        have HR : Hid (Row w1 v' (l.take (i + 1))) := by
          show Row w1 v' (l.take (i + 1))
          rw [HX.out]; exact g1
        clear g1 g2 g3 g4 hsrc hr2 hci
        go_wp2
        go_roundw
        case rel => exact ⟨i + 1, by go_num, by omega, HR.out, HA.out.1, HA.out.2⟩
        case measure => simp [intOf]; omega
      · have hili : ¬ ((i : Int) < (l.length : Int)) := by omega
        have HR : Hid (Row wr u3 l ∧ Fresh w wr u3 ∧ Keep [] w wr) := by
          rw [List.take_of_length_le (by omega)] at hrow
          exact ⟨hrow, hf, hk⟩
        clear hrow hk hf h3
        go_wp2
        go_ret
        exact ⟨_, rfl, HR.out.1, HR.out.2.1, HR.out.2.2⟩

theorem eq_of_getD (l r : List UInt8) (h : l.length = r.length) (hj : ∀ j, j < l.length → l.getD j 0 = r.getD j 0) : l = r := by
  apply List.ext_getElem h
  intro j h1 h2
  have := hj j h1
  rw [List.getD_eq_getElem?_getD, List.getD_eq_getElem?_getD, List.getElem?_eq_getElem h1, List.getElem?_eq_getElem h2] at this
  exact this

theorem drewN_drewN (w : World) (a b : Nat) : (w.drewN a).drewN b = w.drewN (a + b) := by
  simp [World.drewN]
  omega

set_option maxRecDepth 1000000 in
set_option maxHeartbeats 3200000 in
theorem same_any (u v : Value) (l r : List UInt8) (w : World) (hu : Bs w u l) (hv : Bs w v r) :
    Calls Try.prog 11 #[u, v] w fun e w' => e = .returned (.bool (l == r)) ∧ ∃ n, w' = w.drewN n := by
  obtain ⟨au, cu, hue, _, _, _, _⟩ := hu.ex
  obtain ⟨av, cv, hve, _, _, _, _⟩ := hv.ex
  by_cases hlen : l.length = r.length
  · rcases hu.cases with ⟨rfl, ao, cap, rfl, _, _⟩ | ⟨_, b, o, cap, rfl, h0, h1, h2, h3⟩
    · have hr : r = [] := List.eq_nil_of_length_eq_zero (by simpa using hlen.symm)
      subst hr
      subst hve
      clear hu hv hue hlen
      go_enter Try.func11, Try.ntmps11
      go_wp2
      go_loop [5] (fun iv => iv = .int .i64 0) (fun _ => 0)
      case atStart => rfl
      case round =>
        obtain rfl := hrel
        go_wp2
        go_ret
        exact ⟨rfl, 0, rfl⟩
    · rcases hv.cases with ⟨hr0, _⟩ | ⟨_, b', o', cap', hv2, g0, g1, g2, g3⟩
      · rw [hr0, List.length_nil] at hlen
        omega
      rw [← hlen] at hv2 g3 g1
      have HL : Hid (l.length = r.length) := hlen
      clear hu hv hue hve hlen
      subst hv2
      go_enter Try.func11, Try.ntmps11
      go_wp2
      go_loopw [5] (fun iv wr => ∃ i : Nat, iv = .int .i64 (i : Int) ∧ i ≤ l.length ∧ (∀ j, j < i → l.getD j 0 = r.getD j 0) ∧ ∃ n, wr = w.drewN n) (fun iv _ => l.length - (intOf iv).toNat)
      case atStart => exact ⟨0, rfl, Nat.zero_le _, fun j hj => by omega, 0, rfl⟩
      case round =>
        obtain ⟨i, rfl, hi, hall, nn, rfl⟩ := hrel
        by_cases hil : i < l.length
        · have c1 := h3 i hil
          have c2 := g3 i hil
          have hili : (i : Int) < (l.length : Int) := by omega
          by_cases hx : l.getD i 0 = r.getD i 0
          · have HALL : Hid (∀ j, j < i + 1 → l.getD j 0 = r.getD j 0) := by
              intro j hj
              by_cases hji : j = i
              · rw [hji]; exact hx
              · exact hall j (by omega)
            rw [hx] at c1
            generalize (r.getD i 0).toNat = c at c1 c2
            clear hall h3 g3 hx
            go_wp2
            go_quiet (fail)
            go_wp2
            go_roundw
            case rel => exact ⟨i + 1, by go_num, by omega, HALL.out, _, rfl⟩
            case measure => simp [intOf]; omega
          · have hne : (((l.getD i 0).toNat : Int) == ((r.getD i 0).toNat : Int)) = false := by
              simp only [beq_eq_false_iff_ne]
              intro h
              exact hx (UInt8.toNat_inj.1 (by omega))
            have HF : Hid ((l == r) = false) := by
              show (l == r) = false
              simp only [beq_eq_false_iff_ne]
              intro h
              rw [h] at hx
              exact hx rfl
            generalize (l.getD i 0).toNat = c1' at c1 hne
            generalize (r.getD i 0).toNat = c2' at c2 hne
            clear hall h3 g3 hx
            go_wp2
            go_quiet (fail)
            go_wp2
            go_ret
            exact ⟨by rw [HF.out]; rfl, _, drewN_drewN _ _ _⟩
        · have hili : ¬ ((i : Int) < (l.length : Int)) := by omega
          have HT : Hid ((l == r) = true) := by
            show (l == r) = true
            simp only [beq_iff_eq]
            exact eq_of_getD l r HL.out (fun j hj => hall j (by omega))
          clear hall h3 g3
          go_wp2
          go_ret
          exact ⟨by rw [HT.out]; rfl, nn, rfl⟩
  · have hne : ((l.length : Int) != (r.length : Int)) = true := by simp; omega
    have HF : Hid ((l == r) = false) := by
      show (l == r) = false
      simp only [beq_eq_false_iff_ne]
      intro h
      exact hlen (by rw [h])
    subst hue
    subst hve
    clear hu hv
    go_enter Try.func11, Try.ntmps11
    go_wp2
    go_ret
    exact ⟨by rw [HF.out]; rfl, 0, rfl⟩

def pickZ (x n : Int) : Int := if n < 1 then 0 else x % n

theorem pickZ_lt (x : Int) (n : Nat) (h : 0 < n) : 0 ≤ pickZ x n ∧ pickZ x n < n := by
  unfold pickZ
  rw [if_neg (by omega)]
  exact ⟨Int.emod_nonneg _ (by omega), Int.emod_lt_of_pos _ (by omega)⟩

set_option maxHeartbeats 1600000 in
theorem pick_any (x n : Int) (h0 : -9223372036854775808 ≤ x) (h1 : x ≤ 9223372036854775807) (hn : n ≤ 9223372036854775807) (w : World) :
    Calls Try.prog 9 #[.int .i64 x, .int .i64 n] w fun e w' => e = .returned (.int .i64 (pickZ x n)) ∧ w' = w := by
  by_cases hn1 : n < 1
  · have hq : pickZ x n = 0 := by unfold pickZ; rw [if_pos hn1]
    rw [hq]
    clear hq
    go_enter Try.func9, Try.ntmps9
    go_wp2
    go_ret
    exact ⟨rfl, rfl⟩
  · have hq : pickZ x n = x % n := by unfold pickZ; rw [if_neg hn1]
    have hn0 : (n == 0) = false := by simp; omega
    have e1 : x.tmod n < 0 → x.tmod n + n = x % n := by
      intro h
      rw [Int.emod_eq_tmod]
      have hx : ¬ 0 ≤ x := by
        intro hx
        have := Int.tmod_nonneg n hx
        omega
      have hd : ¬ n ∣ x := by
        intro hd
        have := Int.tmod_eq_zero_of_dvd hd
        omega
      rw [if_neg (by simp [hx, hd])]
      omega
    have e2 : ¬ x.tmod n < 0 → x.tmod n = x % n := by
      intro h
      rw [Int.emod_eq_tmod]
      by_cases hx : 0 ≤ x
      · rw [if_pos (.inl hx)]; omega
      · by_cases hd : n ∣ x
        · rw [if_pos (.inr hd)]; omega
        · exfalso
          have h3 : x.tmod n ≤ 0 := by
            have := Int.tmod_nonneg n (show 0 ≤ -x by omega)
            rw [Int.neg_tmod] at this
            omega
          have h4 : x.tmod n = 0 := by omega
          exact hd (Int.dvd_of_tmod_eq_zero h4)
    have hlo : -9223372036854775808 ≤ x.tmod n ∧ x.tmod n < n := by
      have h5 := Int.emod_nonneg x (show n ≠ 0 by omega)
      have h6 := Int.emod_lt_of_pos x (show 0 < n by omega)
      by_cases h : x.tmod n < 0
      · have := e1 h
        omega
      · have := e2 h
        omega
    rw [hq]
    have HE : Hid ((x.tmod n < 0 → x.tmod n + n = x % n) ∧ (¬ x.tmod n < 0 → x.tmod n = x % n)) := ⟨e1, e2⟩
    clear hq e1 e2
    go_enter Try.func9, Try.ntmps9
    go_wp2
    all_goals go_ret
    · have h7 : x.tmod n < 0 := by assumption
      have h8 := HE.out.1 h7
      refine ⟨?_, rfl⟩
      show Ending.returned (Value.int .i64 (x.tmod n + n)) = _
      rw [h8]
    · have h7 : 0 ≤ x.tmod n := by assumption
      have h8 := HE.out.2 (by omega)
      refine ⟨?_, rfl⟩
      show Ending.returned (Value.int .i64 (x.tmod n)) = _
      rw [h8]

end Go.Proofs.Ytcmembmaaebdeab

