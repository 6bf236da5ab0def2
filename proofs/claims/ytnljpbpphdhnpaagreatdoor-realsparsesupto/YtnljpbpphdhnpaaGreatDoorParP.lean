/- The document's said: the number that digits and a power of ten say (ParP). -/
import Derived.Test.YtnljpbpphdhnpaaGreatDoorParM
import Derived.Deep.QuietTactic
import Derived.BigQuiet
namespace Go.Proofs.YtnljpbpphdhnpaaGreatDoor
open Go.RowKit Go.PlainAid

set_option maxRecDepth 1000000 in
set_option maxHeartbeats 3200000 in
theorem said_longmore (s f : ByteArray) (z : Nat) (e : Int) (w : World) (hs : s.size ≤ 2000000000) (he : -2000000000000 ≤ e ∧ e ≤ 2000000000000) (hze : z < s.size) (hA : ∀ j, j < z → bt s j = 48) (hzn : Hid (bt s z ≠ 48)) (hf : s.extract z s.size = f) (hfs : f.size = s.size - z) (D : Nat) (x : Int) (hE : e + (f.size : Int) - 200 - 1 = x) (M : Nat → Bool) (M0 : Hid (M 200 = false)) (MS : Hid (∀ j, 200 ≤ j → j < f.size → M (j + 1) = (M j || (bt f j != 48)))) (g : ByteArray) (hg : f.extract 0 200 = g) (hgs : g.size + 1 ≤ 9223372036854775807) (h58 : ∀ w, Calls Tryz.prog 58 #[.string (g ++ ⟨#[49]⟩)] w fun r w' => ∃ v, r = .returned v ∧ (Big w' v D 300 ∧ Fresh w w' v) ∧ Keep [] w w') (ME : Hid (M f.size = true)) (hn : f.toList.isEmpty = false) (hl : -100 ≤ (f.size : Int) + e) (hh : (f.size : Int) + e ≤ 100) (hk : 200 < f.size) :
    Calls Tryz.prog 34 #[.string s, .int .i64 e] w fun r w' => ∃ va vb, r = .returned (.tuple #[.agg #[va, vb], .bool true]) ∧ (Big w' va (D * 10 ^ (x).toNat) 1000 ∧ Big w' vb (10 ^ (-x).toNat) 1000) ∧ Keep [] w w' := by
  have HG : Hid (∀ i (h : i < s.size), ((s[i]'h).toNat : Int) = bt s i) := get_bt s
  have HA : Hid (∀ j, j < z → bt s j = 48) := hA
  have HF : Hid (f.size = s.size - z) := hfs
  clear hA
  obtain ⟨e1, e2⟩ := he
  have hfl : (f.size : Int) ≤ 2000000000 := by omega
  clear hfs
  go_enter Tryz.func34, Tryz.ntmps34
  go_wp2
  go_loop [6] (fun i => ∃ j : Nat, j ≤ z ∧ i = .int .i64 j) (fun i => z - (intOf i).toNat)
  case atStart => exact ⟨0, Nat.zero_le _, rfl⟩
  case round =>
    obtain ⟨j, hj, rfl⟩ := hrel
    by_cases hja : j < z
    · have hjs : j < s.size := by omega
      have hji : (j : Int) < (s.size : Int) := by omega
      have gj : ((s[j]'hjs).toNat : Int) = 48 := (HG.out j hjs).trans (HA.out j hja)
      go_wp2
      go_round
      case rel => exact ⟨j + 1, by omega, by go_num⟩
      case measure => simp [intOf]; omega
    · obtain rfl : z = j := by omega
      clear hj hja
      have hz2 : (z : Int) ≤ (s.size : Int) := by omega
      have hzi : (z : Int) < (s.size : Int) := by omega
      have gz : ((s[z]'hze).toNat : Int) = bt s z := HG.out z hze
      have hzb : (bt s z == 48) = false := by rw [beq_eq_false_iff_ne]; exact hzn.out
      clear hzn
      generalize bt s z = cz at *
      have h200 : (200 : Int) < (f.size : Int) := by omega
      go_wp2
      go_loop [7, 8] (fun mv iv => ∃ j : Nat, 200 ≤ j ∧ j ≤ f.size ∧ mv = .bool (M j) ∧ iv = .int .i64 (j : Int)) (fun _ iv => f.size - (intOf iv).toNat)
      case atStart => exact ⟨200, Nat.le_refl _, by omega, by rw [M0.out], rfl⟩
      case round =>
        obtain ⟨j, hj1, hj2, rfl, rfl⟩ := hrel
        by_cases hjf : j < f.size
        · have hji : (j : Int) < (f.size : Int) := by omega
          have gj : ((f[j]'hjf).toNat : Int) = bt f j := get_bt f j hjf
          have H1 : Hid (M (j + 1) = (M j || (bt f j != 48))) := MS.out j hj1 hjf
          generalize bt f j = c at *
          cases hm : M j with
          | true =>
            have H2 : Hid (M (j + 1) = true) := by rw [hm] at H1; exact H1
            clear H1
            go_wp2
            go_round
            case rel => exact ⟨j + 1, by omega, by omega, by rw [H2.out], by go_num⟩
            case measure => simp [intOf]; omega
          | false =>
            by_cases hc : c = 48
            · have hcb : (c == 48) = true := by rw [beq_iff_eq]; exact hc
              have H2 : Hid (M (j + 1) = false) := show _ = _ by rw [H1.out, hm]; simp [hc]
              clear H1
              go_wp2
              go_round
              case rel => exact ⟨j + 1, by omega, by omega, by rw [H2.out], by go_num⟩
              case measure => simp [intOf]; omega
            · have hcb : (c == 48) = false := by rw [beq_eq_false_iff_ne]; exact hc
              have H2 : Hid (M (j + 1) = true) := show _ = _ by rw [H1.out, hm]; simp [hc]
              clear H1
              go_wp2
              go_round
              case rel => exact ⟨j + 1, by omega, by omega, by rw [H2.out]; simp [hc], by go_num⟩
              case measure => simp [intOf]; omega
        · obtain rfl : j = f.size := by omega
          have hM := ME.out
          clear hj1 hj2 hjf M0 MS ME
          generalize M f.size = mm at *
          obtain rfl := hM
          go_wp2_with fail
          refine (h58 _).mono ?_
          rintro e9 w1 ⟨v1, rfl, ⟨hb1, hf1⟩, hk1⟩
          go_wp2_with fail
          refine (powers_int10 v1 D 300 x _ hb1 (by omega) (by omega)).mono ?_
          rintro e9 w2 ⟨va, rfl, ⟨hba, hoa⟩, hka⟩
          go_wp2_with fail
          refine (powers_int10 _ 1 1 (-x) _ (Big.one w2) (by omega) (by omega)).mono ?_
          rintro e9 w3 ⟨vb, rfl, ⟨hbb, hob⟩, hkb⟩
          have K1 : Keep [] (w.alloc (Obj.cells #[Value.slice none 0 0, Value.slice none 0 0] 57)) w2 := hk1.trans' hka
          have K2 : Keep [] (w.alloc (Obj.cells #[Value.slice none 0 0, Value.slice none 0 0] 57)) w3 := (K1.alloc _).trans' hkb
          have K3 : Keep [] w2 w3 := (Keep.alloc1 w2 _).trans' hkb
          have s1 := hk1.size
          have s2 := hka.size
          simp at s1
          have HA : Hid (Big w3 va (D * 10 ^ (x).toNat) 1000 ∧ Off va [w.heap.size]) := ⟨(hba.keep K3 (Off.nil _)).mono (by omega), by
            rcases hoa with rfl | h
            · exact hf1.off1
            · exact (h.earlier (w0 := w.alloc (Obj.cells #[Value.slice none 0 0, Value.slice none 0 0] 57)) (by simpa using s1)).off1⟩
          have HBb : Hid (Big w3 vb (10 ^ (-x).toNat) 1000 ∧ Off vb [w.heap.size]) := ⟨by rw [Nat.one_mul] at hbb; exact hbb.mono (by omega), by
            rcases hob with rfl | h
            · intro k hk hn
              simp [Value.ownBlock] at hk hn
              omega
            · intro k hk hn
              have := (h k hk).1
              simp at this hn
              omega⟩
          have HK : Hid (Keep [] w w3) := (show Keep [] w w3 from ((Keep.alloc1 w _).trans' K2))
          have hc0 : w3.cell? ⟨w.heap.size, 0, none⟩ = some (.slice none 0 0) := K2.cell' (by simp) (by simp)
          have hc1 : w3.cell? ⟨w.heap.size, 1, none⟩ = some (.slice none 0 0) := K2.cell' (by simp) (by simp)
          have hf0 : w3.frozen? ⟨w.heap.size, 0, none⟩ = false := (K2.frozen (by simp) (by simp)).trans (by simp)
          have hf9 : w3.frozen? ⟨w.heap.size, 1, none⟩ = false := (K2.frozen (by simp) (by simp)).trans (by simp)
          obtain ⟨ao, na, ca, rfl⟩ := hba.sl
          obtain ⟨bo, nb, cb, rfl⟩ := hbb.sl
          clear hb1 hf1 hk1 hba hoa hka hbb hob hkb K1 K2 K3 s1 s2
          have HGg : Hid (w.heap.size ≤ w.heap.size) := Nat.le_refl _
          generalize hgg : w.heap.size = g at *
          have HGg : Hid (w.heap.size ≤ g) := show w.heap.size ≤ g by omega
          clear hgg
          have hd1 : (w3.setCell ⟨g, 0, none⟩ (.slice ao na ca)).cell? ⟨g, 1, none⟩ = some (.slice none 0 0) := by rw [World.cell?_setCell_other _ _ _ _ (by simp)]; exact hc1
          have d1 : ((w3.setCell ⟨g, 0, none⟩ (.slice ao na ca)).setCell ⟨g, 1, none⟩ (.slice bo nb cb)).cell? ⟨g, 1, none⟩ = some (.slice bo nb cb) := World.cell?_setCell_same _ _ _ hd1
          have d0 : ((w3.setCell ⟨g, 0, none⟩ (.slice ao na ca)).setCell ⟨g, 1, none⟩ (.slice bo nb cb)).cell? ⟨g, 0, none⟩ = some (.slice ao na ca) := by
            rw [World.cell?_setCell_other _ _ _ _ (by simp)]; exact World.cell?_setCell_same _ _ _ hc0
          have KS : Keep [g] w3 ((w3.setCell ⟨g, 0, none⟩ (.slice ao na ca)).setCell ⟨g, 1, none⟩ (.slice bo nb cb)) := ((Keep.refl [g] w3).setCell (p := ⟨g, 0, none⟩) (.inl (by simp)) _).setCell (p := ⟨g, 1, none⟩) (.inl (by simp)) _
          have HR : Hid ((Big ((w3.setCell ⟨g, 0, none⟩ (.slice ao na ca)).setCell ⟨g, 1, none⟩ (.slice bo nb cb)) (.slice ao na ca) (D * 10 ^ (x).toNat) 1000 ∧ Big ((w3.setCell ⟨g, 0, none⟩ (.slice ao na ca)).setCell ⟨g, 1, none⟩ (.slice bo nb cb)) (.slice bo nb cb) (10 ^ (-x).toNat) 1000) ∧ Keep [] w ((w3.setCell ⟨g, 0, none⟩ (.slice ao na ca)).setCell ⟨g, 1, none⟩ (.slice bo nb cb))) :=
            ⟨⟨HA.out.1.keep KS HA.out.2, HBb.out.1.keep KS HBb.out.2⟩, HK.out.more KS (by intro x hx; simp at hx; subst hx; exact .inr HGg.out)⟩
          clear KS HA HBb HK hd1
          go_wp2
          generalize ((w3.setCell ⟨g, 0, none⟩ (.slice ao na ca)).setCell ⟨g, 1, none⟩ (.slice bo nb cb)) = W at d0 d1 HR ⊢
          refine bodyPost_ret (v := .tuple #[.agg #[.slice ao na ca, .slice bo nb cb], .bool true]) (by simp [results, Tryz.results34, go_sem, d0, d1]) rfl ?_
          exact ⟨_, _, rfl, HR.out⟩
end Go.Proofs.YtnljpbpphdhnpaaGreatDoor
