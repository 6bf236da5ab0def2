/- The document's said: the number that digits and a power of ten say (ParP). -/
import Derived.Test.YtnljpbpphdhnpaaGreatDoorParL
import Derived.Deep.QuietTactic
import Derived.BigQuiet
import Derived.Test.YtnljpbpphdhnpaaGreatDoorParO

namespace Go.Proofs.YtnljpbpphdhnpaaGreatDoor
open Go.RowKit Go.PlainAid

set_option maxRecDepth 1000000 in
set_option maxHeartbeats 3200000 in
theorem said_longmore (s f : ByteArray) (z : Nat) (e : Int) (w : World) (hs : s.size ≤ 2000000000) (he : -2000000000000 ≤ e ∧ e ≤ 2000000000000) (hze : z < s.size) (hA : ∀ j, j < z → bt s j = 48) (hzn : Hid (bt s z ≠ 48)) (hf : s.extract z s.size = f) (hfs : f.size = s.size - z) (D : Nat) (x : Int) (hE : e + (f.size : Int) - 200 - 1 = x) (M : Nat → Bool) (M0 : Hid (M 200 = false)) (MS : Hid (∀ j, 200 ≤ j → j < f.size → M (j + 1) = (M j || (bt f j != 48)))) (g : ByteArray) (hg : f.extract 0 200 = g) (hgs : g.size + 1 ≤ 9223372036854775807) (h58 : ∀ w, Calls Tryz.prog 58 #[.string (g ++ ⟨#[49]⟩)] w fun r w' => ∃ v, r = .returned v ∧ (Big w' v D 300 ∧ Fresh w w' v) ∧ Keep [] w w') (ME : Hid (M f.size = true)) (hn : f.toList.isEmpty = false) (hl : -100 ≤ (f.size : Int) + e) (hh : (f.size : Int) + e ≤ 100) (hk : 200 < f.size) :
    Calls Tryz.prog 34 #[.string s, .int .i64 e] w fun r w' => ∃ va vb, r = .returned (.tuple #[.agg #[va, vb], .bool true]) ∧ (Big w' va (D * 10 ^ (x).toNat) 1000 ∧ Big w' vb (10 ^ (-x).toNat) 1000) ∧ Keep [] w w' := by
  have HG : Hid (∀ i (h : i < s.size), ((s[i]'h).toNat : Int) = bt s i) := get_bt s
  have HA : Hid (∀ j, j < z → bt s j = 48) := hA
  have HF : Hid (f.size = s.size - z) := hfs
  clear hA
  obtain ⟨e1, e2⟩ := he
  have hfl : (f.size : Int) ≤ 2000000000 := by omega
  clear hfs
  go_enter Tryz.func34, Tryz.ntmps34
  go_wp2
  go_loop [6] (fun i => ∃ j : Nat, j ≤ z ∧ i = .int .i64 j) (fun i => z - (intOf i).toNat)
  case atStart => exact ⟨0, Nat.zero_le _, rfl⟩
  case round =>
    obtain ⟨j, hj, rfl⟩ := hrel
    by_cases hja : j < z
    · have hjs : j < s.size := by omega
      have hji : (j : Int) < (s.size : Int) := by omega
      have gj : ((s[j]'hjs).toNat : Int) = 48 := (HG.out j hjs).trans (HA.out j hja)
      go_wp2
      go_round
      case rel => exact ⟨j + 1, by omega, by go_num⟩
      case measure => simp [intOf]; omega
    · obtain rfl : z = j := by omega
      clear hj hja
      have hz2 : (z : Int) ≤ (s.size : Int) := by omega
      have hzi : (z : Int) < (s.size : Int) := by omega
      have gz : ((s[z]'hze).toNat : Int) = bt s z := HG.out z hze
      have hzb : (bt s z == 48) = false := by rw [beq_eq_false_iff_ne]; exact hzn.out
      clear hzn
      generalize bt s z = cz at *
      have h200 : (200 : Int) < (f.size : Int) := by omega
      go_wp2
      go_loop [7, 8] (fun mv iv => ∃ j : Nat, 200 ≤ j ∧ j ≤ f.size ∧ mv = .bool (M j) ∧ iv = .int .i64 (j : Int)) (fun _ iv => f.size - (intOf iv).toNat)
      case atStart => exact ⟨200, Nat.le_refl _, by omega, by rw [M0.out], rfl⟩
      case round =>
        obtain ⟨j, hj1, hj2, rfl, rfl⟩ := hrel
        by_cases hjf : j < f.size
        · have hji : (j : Int) < (f.size : Int) := by omega
          have gj : ((f[j]'hjf).toNat : Int) = bt f j := get_bt f j hjf
          have H1 : Hid (M (j + 1) = (M j || (bt f j != 48))) := MS.out j hj1 hjf
          generalize bt f j = c at *
          cases hm : M j with
          | true =>
            have H2 : Hid (M (j + 1) = true) := by rw [hm] at H1; exact H1
            clear H1
            go_wp2
            go_round
            case rel => exact ⟨j + 1, by omega, by omega, by rw [H2.out], by go_num⟩
            case measure => simp [intOf]; omega
          | false =>
            by_cases hc : c = 48
            · have hcb : (c == 48) = true := by rw [beq_iff_eq]; exact hc
              have H2 : Hid (M (j + 1) = false) := show _ = _ by rw [H1.out, hm]; simp [hc]
              clear H1
              go_wp2
              go_round
              case rel => exact ⟨j + 1, by omega, by omega, by rw [H2.out], by go_num⟩
              case measure => simp [intOf]; omega
            · have hcb : (c == 48) = false := by rw [beq_eq_false_iff_ne]; exact hc
              have H2 : Hid (M (j + 1) = true) := show _ = _ by rw [H1.out, hm]; simp [hc]
              clear H1
              go_wp2
              go_round
              case rel => exact ⟨j + 1, by omega, by omega, by rw [H2.out]; simp [hc], by go_num⟩
              case measure => simp [intOf]; omega
        · obtain rfl : j = f.size := by omega
          have hM := ME.out
          clear hj1 hj2 hjf M0 MS ME
          generalize M f.size = mm at *
          obtain rfl := hM
          go_wp2_with fail
          refine (h58 _).mono ?_
          rintro e9 w1 ⟨v1, rfl, ⟨hb1, hf1⟩, hk1⟩
          go_wp2_with fail
          refine (powers_int10 v1 D 300 x _ hb1 (by omega) (by omega)).mono ?_
          rintro e9 w2 ⟨va, rfl, ⟨hba, hoa⟩, hka⟩
          go_wp2_with fail
          refine (powers_int10 _ 1 1 (-x) _ (Big.one w2) (by omega) (by omega)).mono ?_
          rintro e9 w3 ⟨vb, rfl, ⟨hbb, hob⟩, hkb⟩
          have K1 : Keep [] (w.alloc (Obj.cells #[Value.slice none 0 0, Value.slice none 0 0] 57)) w2 := hk1.trans' hka
          have K2 : Keep [] (w.alloc (Obj.cells #[Value.slice none 0 0, Value.slice none 0 0] 57)) w3 := (K1.alloc _).trans' hkb
          have K3 : Keep [] w2 w3 := (Keep.alloc1 w2 _).trans' hkb
          have s1 := hk1.size
          have s2 := hka.size
          simp at s1
          have HA : Hid (Big w3 va (D * 10 ^ (x).toNat) 1000 ∧ Off va [w.heap.size]) := ⟨(hba.keep K3 (Off.nil _)).mono (by omega), by
            rcases hoa with rfl | h
            · exact hf1.off1
            · exact (h.earlier (w0 := w.alloc (Obj.cells #[Value.slice none 0 0, Value.slice none 0 0] 57)) (by simpa using s1)).off1⟩
          have HBb : Hid (Big w3 vb (10 ^ (-x).toNat) 1000 ∧ Off vb [w.heap.size]) := ⟨by rw [Nat.one_mul] at hbb; exact hbb.mono (by omega), by
            rcases hob with rfl | h
            · intro k hk hn
              simp [Value.ownBlock] at hk hn
              omega
            · intro k hk hn
              have := (h k hk).1
              simp at this hn
              omega⟩
          have HK : Hid (Keep [] w w3) := (show Keep [] w w3 from ((Keep.alloc1 w _).trans' K2))
          have hc0 : w3.cell? ⟨w.heap.size, 0, none⟩ = some (.slice none 0 0) := K2.cell' (by simp) (by simp)
          have hc1 : w3.cell? ⟨w.heap.size, 1, none⟩ = some (.slice none 0 0) := K2.cell' (by simp) (by simp)
          have hf0 : w3.frozen? ⟨w.heap.size, 0, none⟩ = false := (K2.frozen (by simp) (by simp)).trans (by simp)
          have hf9 : w3.frozen? ⟨w.heap.size, 1, none⟩ = false := (K2.frozen (by simp) (by simp)).trans (by simp)
          obtain ⟨ao, na, ca, rfl⟩ := hba.sl
          obtain ⟨bo, nb, cb, rfl⟩ := hbb.sl
          clear hb1 hf1 hk1 hba hoa hka hbb hob hkb K1 K2 K3 s1 s2
          have HGg : Hid (w.heap.size ≤ w.heap.size) := Nat.le_refl _
          generalize hgg : w.heap.size = g at *
          have HGg : Hid (w.heap.size ≤ g) := show w.heap.size ≤ g by omega
          clear hgg
          have hd1 : (w3.setCell ⟨g, 0, none⟩ (.slice ao na ca)).cell? ⟨g, 1, none⟩ = some (.slice none 0 0) := by rw [World.cell?_setCell_other _ _ _ _ (by simp)]; exact hc1
          have d1 : ((w3.setCell ⟨g, 0, none⟩ (.slice ao na ca)).setCell ⟨g, 1, none⟩ (.slice bo nb cb)).cell? ⟨g, 1, none⟩ = some (.slice bo nb cb) := World.cell?_setCell_same _ _ _ hd1
          have d0 : ((w3.setCell ⟨g, 0, none⟩ (.slice ao na ca)).setCell ⟨g, 1, none⟩ (.slice bo nb cb)).cell? ⟨g, 0, none⟩ = some (.slice ao na ca) := by
            rw [World.cell?_setCell_other _ _ _ _ (by simp)]; exact World.cell?_setCell_same _ _ _ hc0
          have KS : Keep [g] w3 ((w3.setCell ⟨g, 0, none⟩ (.slice ao na ca)).setCell ⟨g, 1, none⟩ (.slice bo nb cb)) := ((Keep.refl [g] w3).setCell (p := ⟨g, 0, none⟩) (.inl (by simp)) _).setCell (p := ⟨g, 1, none⟩) (.inl (by simp)) _
          have HR : Hid ((Big ((w3.setCell ⟨g, 0, none⟩ (.slice ao na ca)).setCell ⟨g, 1, none⟩ (.slice bo nb cb)) (.slice ao na ca) (D * 10 ^ (x).toNat) 1000 ∧ Big ((w3.setCell ⟨g, 0, none⟩ (.slice ao na ca)).setCell ⟨g, 1, none⟩ (.slice bo nb cb)) (.slice bo nb cb) (10 ^ (-x).toNat) 1000) ∧ Keep [] w ((w3.setCell ⟨g, 0, none⟩ (.slice ao na ca)).setCell ⟨g, 1, none⟩ (.slice bo nb cb))) :=
            ⟨⟨HA.out.1.keep KS HA.out.2, HBb.out.1.keep KS HBb.out.2⟩, HK.out.more KS (by intro x hx; simp at hx; subst hx; exact .inr HGg.out)⟩
          clear KS HA HBb HK hd1
          go_wp2
          generalize ((w3.setCell ⟨g, 0, none⟩ (.slice ao na ca)).setCell ⟨g, 1, none⟩ (.slice bo nb cb)) = W at d0 d1 HR ⊢
          refine bodyPost_ret (v := .tuple #[.agg #[.slice ao na ca, .slice bo nb cb], .bool true]) (by simp [results, Tryz.results34, go_sem, d0, d1]) rfl ?_
          exact ⟨_, _, rfl, HR.out⟩
end Go.Proofs.YtnljpbpphdhnpaaGreatDoor

/- The document's said of any digits. -/
namespace Go.Proofs.YtnljpbpphdhnpaaGreatDoor
open Go.RowKit Go.PlainAid

theorem span48 (A : List UInt8) : ∃ z, A = List.replicate z 48 ++ Lib.trimLeftB A 48 ∧ (Lib.trimLeftB A 48 = [] ∨ ∃ c t, Lib.trimLeftB A 48 = c :: t ∧ c ≠ 48) := by
  unfold Lib.trimLeftB
  induction A with
  | nil => exact ⟨0, rfl, .inl rfl⟩
  | cons x A ih =>
    by_cases hx : x = 48
    · subst hx
      rw [List.dropWhile_cons_of_pos (by rfl)]
      obtain ⟨z, h1, h2⟩ := ih
      refine ⟨z + 1, ?_, h2⟩
      rw [List.replicate_succ, List.cons_append, ← h1]
    · rw [List.dropWhile_cons_of_neg (by simpa using hx)]
      exact ⟨0, rfl, .inr ⟨x, A, rfl, hx⟩⟩
theorem ext_right (A B : List UInt8) (k : Nat) (hk : A.length = k) : (bl (A ++ B)).extract k (bl (A ++ B)).size = bl B := by
  subst hk
  have := (bl_extract A B).2
  rwa [bl_size]
/-- whether one of the digits behind the two hundredth isn't 0 -/
def moreB (F : List UInt8) : Bool := (F.drop 200).any fun c => c != 48
/-- the digits and the power that count -/
def saidS (F : List UInt8) (e : Int) : List UInt8 × Int :=
  if F.length ≤ 200 then (F, e) else if moreB F = true then (F.take 200 ++ [49], e + (F.length : Int) - 200 - 1) else (F.take 200, e + (F.length : Int) - 200)
def mAt (F : List UInt8) (j : Nat) : Bool := ((F.drop 200).take (j - 200)).any fun c => c != 48
theorem mAt_nextN (F : List UInt8) (N j : Nat) (h1 : N ≤ j) (h2 : j < F.length) : (((F.drop N).take (j + 1 - N)).any fun c => c != 48) = ((((F.drop N).take (j - N)).any fun c => c != 48) || (bt (bl F) j != 48)) := by
  have hlen : j - N < (F.drop N).length := by rw [List.length_drop]; omega
  have e : N + (j - N) = j := by omega
  rw [show j + 1 - N = (j - N) + 1 by omega, List.take_succ_eq_append_getElem hlen, List.any_append, bl_bt F j h2]
  congr 1
  rw [List.getElem_drop, List.any_cons, List.any_nil, Bool.or_false]
  have e2 : ∀ (i : Nat) (hi : i < F.length), i = j → F[i] = F[j] := fun i hi h => by subst h; rfl
  rw [e2 _ _ e]
  clear e2 e hlen
  generalize F[j] = c
  by_cases hc : c = 48
  · subst hc; rfl
  · have h3 : (c != 48) = true := by simpa using hc
    have h4 : ((c.toNat : Int) != 48) = true := by
      simp only [bne_iff_ne, ne_eq]
      intro e2
      exact hc (UInt8.toNat_inj.1 (by show c.toNat = 48; omega))
    rw [h3, h4]
theorem mAt_next (F : List UInt8) (j : Nat) (h1 : 200 ≤ j) (h2 : j < F.length) : mAt F (j + 1) = (mAt F j || (bt (bl F) j != 48)) := mAt_nextN F 200 j h1 h2
theorem mAt_end (F : List UInt8) : mAt F F.length = moreB F := by
  unfold mAt moreB
  rw [List.take_of_length_le (by rw [List.length_drop]; exact Nat.le_refl _)]
theorem digits_K (T : List UInt8) (hT : Dig T) (hl : T.length ≤ 300) (w : World) : Calls Tryz.prog 58 #[.string (bl T)] w fun r w' => ∃ v, r = .returned v ∧ (Big w' v (dvL T) 300 ∧ Fresh w w' v) ∧ Keep [] w w' :=
  (digits_any T hT (by omega) w).mono fun _ _ ⟨v, e, ⟨h1, h2⟩, h3⟩ => ⟨v, e, ⟨h1.mono hl, h2⟩, h3⟩
theorem said_any (A : List UInt8) (hA : Dig A) (hl : A.length ≤ 2000000000) (e : Int) (he : -2000000000000 ≤ e ∧ e ≤ 2000000000000) (w : World) :
    Calls Tryz.prog 34 #[.string (bl A), .int .i64 e] w fun r w' => (if 100 < ((Lib.trimLeftB A 48).length : Int) + e ∧ Lib.trimLeftB A 48 ≠ [] then r = .returned (.tuple #[.agg #[.slice none 0 0, .slice none 0 0], .bool false]) else ∃ va vb, r = .returned (.tuple #[.agg #[va, vb], .bool true]) ∧ (if Lib.trimLeftB A 48 = [] ∨ ((Lib.trimLeftB A 48).length : Int) + e < -100 then Big w' va 0 1000 ∧ Big w' vb 1 1000 else
      Big w' va (dvL (saidS (Lib.trimLeftB A 48) e).1 * 10 ^ (saidS (Lib.trimLeftB A 48) e).2.toNat) 1000 ∧ Big w' vb (10 ^ (-(saidS (Lib.trimLeftB A 48) e).2).toNat) 1000)) ∧ Keep [] w w' := by
  obtain ⟨z, hz1, hz2⟩ := span48 A
  have hdF : Dig (Lib.trimLeftB A 48) := fun x hx => hA x (by unfold Lib.trimLeftB at hx; exact (List.dropWhile_sublist _).subset hx)
  generalize Lib.trimLeftB A 48 = F at *
  subst hz1
  have hlr : (List.replicate z (48 : UInt8)).length = z := List.length_replicate
  have hlen : (List.replicate z (48 : UInt8) ++ F).length = z + F.length := by rw [List.length_append, hlr]
  have hz48 : ∀ j, j < z → bt (bl (List.replicate z 48 ++ F)) j = 48 := by
    intro j hj
    rw [bl_bt _ j (by omega), List.getElem_append_left (by omega), List.getElem_replicate]
    rfl
  have hsz := bl_size (List.replicate z (48 : UInt8) ++ F)
  have hext := ext_right (List.replicate z 48) F z hlr
  rcases hz2 with hF | ⟨c, t, hF, hc⟩
  · subst hF
    refine (said_empty _ e w (by omega) (fun j hj => hz48 j (by rw [hsz, hlen] at hj; simpa using hj))).mono ?_
    rintro r w' ⟨va, vb, h1, h2, h3⟩
    rw [if_neg (by simp)]
    refine ⟨⟨va, vb, h1, ?_⟩, h3⟩
    rw [if_pos (.inl rfl)]
    exact h2
  · have hF0 : F ≠ [] := by rw [hF]; simp
    have hFp : 0 < F.length := List.length_pos_iff.2 hF0
    have hne : (bl F).toList.isEmpty = false := nil_false _ hFp
    have hcz : Hid (bt (bl (List.replicate z 48 ++ F)) z ≠ 48) := by
      show _ ≠ _
      have := bt_at (List.replicate z 48) c t
      rw [hlr, ← hF] at this
      rw [this]
      intro e2
      exact hc (UInt8.toNat_inj.1 (by show c.toNat = 48; omega))
    have hfs : (bl F).size = (bl (List.replicate z 48 ++ F)).size - z := by rw [hsz, bl_size]; omega
    have hFs := bl_size F
    by_cases hov : 100 < (F.length : Int) + e
    · refine (said_over _ (bl F) z e w (by omega) he (by omega) hz48 hcz hext hfs hne (by rw [hFs]; exact hov)).mono fun r w' h => ?_
      rw [if_pos ⟨hov, hF0⟩]
      exact h
    · by_cases hlo : (F.length : Int) + e < -100
      · refine (said_low _ (bl F) z e w (by omega) he (by omega) hz48 hcz hext hfs hne (by rw [hFs]; exact hlo)).mono ?_
        rintro r w' ⟨va, vb, h1, h2, h3⟩
        rw [if_neg (fun h => hov h.1)]
        refine ⟨⟨va, vb, h1, ?_⟩, h3⟩
        rw [if_pos (.inr hlo)]
        exact h2
      · have hnc : ¬ (F = [] ∨ (F.length : Int) + e < -100) := by
          rintro (h | h)
          · exact hF0 h
          · exact hlo h
        by_cases h200 : F.length ≤ 200
        · have hS : saidS F e = (F, e) := by unfold saidS; rw [if_pos h200]
          rw [hS]
          refine (said_short _ (bl F) z e w (by omega) he (by omega) hz48 hcz hext hfs (dvL F) (fun w => digits_K F hdF (by omega) w) hne (by rw [hFs]; omega) (by rw [hFs]; omega) (by rw [hFs]; omega)).mono ?_
          rintro r w' ⟨va, vb, h1, h2, h3⟩
          rw [if_neg (fun h => hov h.1)]
          refine ⟨⟨va, vb, h1, ?_⟩, h3⟩
          rw [if_neg hnc]
          exact h2
        · have htl : (F.take 200).length = 200 := by rw [List.length_take]; omega
          have htd : Dig (F.take 200) := fun x hx => hdF x (List.mem_of_mem_take hx)
          have hex2 : (bl F).extract 0 200 = bl (F.take 200) := by
            have := (bl_extract (F.take 200) (F.drop 200)).1
            rwa [htl, List.take_append_drop] at this
          have m0 : Hid (mAt F 200 = false) := show mAt F 200 = false by unfold mAt; simp
          have ms : Hid (∀ j, 200 ≤ j → j < (bl F).size → mAt F (j + 1) = (mAt F j || (bt (bl F) j != 48))) := show ∀ j, _ from fun j h1 h2 => mAt_next F j h1 (by omega)
          have me : mAt F (bl F).size = moreB F := by rw [hFs]; exact mAt_end F
          by_cases hm : moreB F = true
          · have hS : saidS F e = (F.take 200 ++ [49], e + (F.length : Int) - 200 - 1) := by unfold saidS; rw [if_neg h200, if_pos hm]
            rw [hS]
            have hd2 : Dig (F.take 200 ++ [49]) := fun x hx => by
              rcases List.mem_append.1 hx with hx | hx
              · exact htd x hx
              · rw [List.mem_singleton.1 hx]; decide
            refine (said_longmore _ (bl F) z e w (by omega) he (by omega) hz48 hcz hext hfs (dvL (F.take 200 ++ [49])) (e + (F.length : Int) - 200 - 1) (by rw [hFs]) (mAt F) m0 ms (bl (F.take 200)) hex2 (by rw [bl_size]; omega) (fun w => ?_) (me.trans hm) hne (by rw [hFs]; omega) (by rw [hFs]; omega) (by rw [hFs]; omega)).mono ?_
            · have := digits_K (F.take 200 ++ [49]) hd2 (by rw [List.length_append, htl]; simp) w
              rw [← bl_app] at this
              exact this
            · rintro r w' ⟨va, vb, h1, h2, h3⟩
              rw [if_neg (fun h => hov h.1)]
              refine ⟨⟨va, vb, h1, ?_⟩, h3⟩
              rw [if_neg hnc]
              exact h2
          · have hm2 : moreB F = false := by simpa using hm
            have hS : saidS F e = (F.take 200, e + (F.length : Int) - 200) := by unfold saidS; rw [if_neg h200, if_neg hm]
            rw [hS]
            refine (said_longno _ (bl F) z e w (by omega) he (by omega) hz48 hcz hext hfs (dvL (F.take 200)) (e + (F.length : Int) - 200) (by rw [hFs]) (mAt F) m0 ms (bl (F.take 200)) hex2 (fun w => digits_K _ htd (by omega) w) (me.trans hm2) hne (by rw [hFs]; omega) (by rw [hFs]; omega) (by rw [hFs]; omega)).mono ?_
            rintro r w' ⟨va, vb, h1, h2, h3⟩
            rw [if_neg (fun h => hov h.1)]
            refine ⟨⟨va, vb, h1, ?_⟩, h3⟩
            rw [if_neg hnc]
            exact h2
end Go.Proofs.YtnljpbpphdhnpaaGreatDoor

/- The document's cut of a text of a real (ParE). -/
namespace Go.Proofs.YtnljpbpphdhnpaaGreatDoor
open Go.RowKit Go.PlainAid

set_option maxRecDepth 1000000 in
theorem parts_empty (w : World) : Calls Tryz.prog 33 #[.string ⟨#[]⟩] w fun e w' => e = .returned (.tuple #[.string ⟨#[]⟩, .int .i64 0, .bool false]) ∧ ∃ n, w' = w.drewN n := by
  go_enter Tryz.func33, Tryz.ntmps33
  go_wp2
  refine wp_loop_rounds 1 ?_
  rw [rounds_succ]
  go_wp2
  refine bodyPost_ret (v := .tuple #[.string ⟨#[]⟩, .int .i64 0, .bool false]) (by simp [results, Tryz.results33, go_sem]) rfl ⟨rfl, 0, rfl⟩
set_option maxRecDepth 1000000 in
set_option maxHeartbeats 1000000 in
theorem parts_n1a (s : ByteArray) (a : Nat) (w : World) (hs : s.size ≤ 1000000000) (ha2 : a ≤ s.size) (hA : ∀ j, j < a → 48 ≤ bt s j ∧ bt s j ≤ 57) (he : a = s.size) (hz : 0 < a) :
    Calls Tryz.prog 33 #[.string s] w fun e w' => e = .returned (.tuple #[.string ⟨#[]⟩, .int .i64 0, .bool false]) ∧ ∃ n, w' = w.drewN n := by
  have HG : Hid (∀ i (h : i < s.size), ((s[i]'h).toNat : Int) = bt s i) := get_bt s
  have HA : Hid (∀ j, j < a → 48 ≤ bt s j ∧ bt s j ≤ 57) := hA
  clear hA
  go_enter Tryz.func33, Tryz.ntmps33
  go_wp2
  obtain rfl := he
  go_loop [5] (fun i => ∃ j : Nat, j ≤ s.size ∧ i = .int .i64 j) (fun i => s.size - (intOf i).toNat)
  case atStart => exact ⟨0, Nat.zero_le _, rfl⟩
  case round =>
    obtain ⟨j, hj, rfl⟩ := hrel
    by_cases hja : j < s.size
    · have hjs : j < s.size := by omega
      have hji : (j : Int) < (s.size : Int) := by omega
      have gj : ((s[j]'hjs).toNat : Int) = bt s j := HG.out j hjs
      obtain ⟨r1, r2⟩ := HA.out j hja
      generalize bt s j = c at *
      go_wp2
      go_round
      case rel => exact ⟨j + 1, by omega, by go_num⟩
      case measure => simp [intOf]; omega
    · obtain rfl : j = s.size := by omega
      clear hj hja
      have q0 : ¬ (s.size : Int) < (s.size : Int) := by omega
      have hz2 : ((s.size : Int) == 0) = false := by rw [beq_eq_false_iff_ne]; omega
      go_wp2
      refine bodyPost_ret (v := .tuple #[.string ⟨#[]⟩, .int .i64 0, .bool false]) (by simp [results, Tryz.results33, go_sem]) rfl ⟨rfl, 0, rfl⟩
set_option maxRecDepth 1000000 in
set_option maxHeartbeats 1000000 in
theorem parts_n1z (s : ByteArray) (w : World) (hs : s.size ≤ 1000000000) (he : 0 < s.size) (hn : ¬ (48 ≤ bt s 0 ∧ bt s 0 ≤ 57)) :
    Calls Tryz.prog 33 #[.string s] w fun e w' => e = .returned (.tuple #[.string ⟨#[]⟩, .int .i64 0, .bool false]) ∧ ∃ n, w' = w.drewN n := by
  have ga : ((s[0]'he).toNat : Int) = bt s 0 := get_bt s 0 he
  have HN := hn
  clear hn
  generalize bt s 0 = c at *
  have he2 : (0 : Int) < (s.size : Int) := by omega
  go_enter Tryz.func33, Tryz.ntmps33
  go_wp2
  by_cases h48 : c < 48
  · clear HN
    refine wp_loop_rounds 1 ?_
    rw [rounds_succ]
    go_wp2
    refine bodyPost_ret (v := .tuple #[.string ⟨#[]⟩, .int .i64 0, .bool false]) (by simp [results, Tryz.results33, go_sem]) rfl ⟨rfl, 0, rfl⟩
  · have h57 : 57 < c := by omega
    clear HN
    refine wp_loop_rounds 1 ?_
    rw [rounds_succ]
    go_wp2
    refine bodyPost_ret (v := .tuple #[.string ⟨#[]⟩, .int .i64 0, .bool false]) (by simp [results, Tryz.results33, go_sem]) rfl ⟨rfl, 0, rfl⟩
set_option maxRecDepth 1000000 in
set_option maxHeartbeats 1000000 in
theorem parts_n1b (s : ByteArray) (a : Nat) (w : World) (hs : s.size ≤ 1000000000) (hA : ∀ j, j < a → 48 ≤ bt s j ∧ bt s j ≤ 57) (h0 : 0 < a) (he : a < s.size) (hn : Hid (¬ (48 ≤ bt s a ∧ bt s a ≤ 57))) (hz : Hid (bt s a ≠ 46)) :
    Calls Tryz.prog 33 #[.string s] w fun e w' => e = .returned (.tuple #[.string ⟨#[]⟩, .int .i64 0, .bool false]) ∧ ∃ n, w' = w.drewN n := by
  have HG : Hid (∀ i (h : i < s.size), ((s[i]'h).toNat : Int) = bt s i) := get_bt s
  have HA : Hid (∀ j, j < a → 48 ≤ bt s j ∧ bt s j ≤ 57) := hA
  clear hA
  go_enter Tryz.func33, Tryz.ntmps33
  go_wp2
  go_loop [5] (fun i => ∃ j : Nat, j ≤ a ∧ i = .int .i64 j) (fun i => a - (intOf i).toNat)
  case atStart => exact ⟨0, Nat.zero_le _, rfl⟩
  case round =>
    obtain ⟨j, hj, rfl⟩ := hrel
    by_cases hja : j < a
    · have hjs : j < s.size := by omega
      have hji : (j : Int) < (s.size : Int) := by omega
      have gj : ((s[j]'hjs).toNat : Int) = bt s j := HG.out j hjs
      obtain ⟨r1, r2⟩ := HA.out j hja
      generalize bt s j = c at *
      go_wp2
      go_round
      case rel => exact ⟨j + 1, by omega, by go_num⟩
      case measure => simp [intOf]; omega
    · obtain rfl : a = j := by omega
      clear hj hja
      have has : a < s.size := by omega
      have hai : (a : Int) < (s.size : Int) := by omega
      have ga : ((s[a]'has).toNat : Int) = bt s a := HG.out a has
      have HN := hn.out
      have qs : ((a : Int) == (s.size : Int)) = false := by rw [beq_eq_false_iff_ne]; omega
      have h46 : (bt s a == 46) = false := by rw [beq_eq_false_iff_ne]; exact hz.out
      have hz2 : ((a : Int) == 0) = false := by rw [beq_eq_false_iff_ne]; omega
      clear hn hz
      generalize bt s a = c at *
      by_cases h48 : c < 48
      · clear HN
        go_wp2
        refine bodyPost_ret (v := .tuple #[.string ⟨#[]⟩, .int .i64 0, .bool false]) (by simp [results, Tryz.results33, go_sem]) rfl ⟨rfl, 0, rfl⟩
      · have h57 : 57 < c := by omega
        clear HN
        go_wp2
        refine bodyPost_ret (v := .tuple #[.string ⟨#[]⟩, .int .i64 0, .bool false]) (by simp [results, Tryz.results33, go_sem]) rfl ⟨rfl, 0, rfl⟩
set_option maxRecDepth 1000000 in
set_option maxHeartbeats 1000000 in
theorem parts_n2a (s : ByteArray) (a : Nat) (w : World) (hs : s.size ≤ 1000000000) (ha : 0 < a) (hD : bt s a = 46) (hA : ∀ j, j < a → 48 ≤ bt s j ∧ bt s j ≤ 57) (hke : a + 1 = s.size) :
    Calls Tryz.prog 33 #[.string s] w fun e w' => e = .returned (.tuple #[.string ⟨#[]⟩, .int .i64 0, .bool false]) ∧ ∃ n, w' = w.drewN n := by
  have HG : Hid (∀ i (h : i < s.size), ((s[i]'h).toNat : Int) = bt s i) := get_bt s
  have HA : Hid (∀ j, j < a → 48 ≤ bt s j ∧ bt s j ≤ 57) := hA
  have HD : Hid (bt s a = 46) := hD
  clear hA hD
  go_enter Tryz.func33, Tryz.ntmps33
  go_wp2
  go_loop [5] (fun i => ∃ j : Nat, j ≤ a ∧ i = .int .i64 j) (fun i => a - (intOf i).toNat)
  case atStart => exact ⟨0, Nat.zero_le _, rfl⟩
  case round =>
    obtain ⟨j, hj, rfl⟩ := hrel
    by_cases hja : j < a
    · have hjs : j < s.size := by omega
      have hji : (j : Int) < (s.size : Int) := by omega
      have gj : ((s[j]'hjs).toNat : Int) = bt s j := HG.out j hjs
      obtain ⟨r1, r2⟩ := HA.out j hja
      generalize bt s j = c at *
      go_wp2
      go_round
      case rel => exact ⟨j + 1, by omega, by go_num⟩
      case measure => simp [intOf]; omega
    · obtain rfl : a = j := by omega
      clear hj hja
      have q0 : ¬ (a : Int) + 1 < (s.size : Int) := by omega
      have has : a < s.size := by omega
      have hai : (a : Int) < (s.size : Int) := by omega
      have ga : ((s[a]'has).toNat : Int) = 46 := (HG.out a has).trans HD.out
      have hane : ((a : Int) == 0) = false := by rw [beq_eq_false_iff_ne]; omega
      have hane2 : ((a : Int) == (s.size : Int)) = false := by rw [beq_eq_false_iff_ne]; omega
      go_wp2
      refine wp_loop_rounds 1 ?_
      rw [rounds_succ]
      go_wp2
      refine bodyPost_ret (v := .tuple #[.string ⟨#[]⟩, .int .i64 0, .bool false]) (by simp [results, Tryz.results33, go_sem]) rfl ⟨rfl, 0, rfl⟩
set_option maxRecDepth 1000000 in
set_option maxHeartbeats 1000000 in
theorem parts_n2b (s : ByteArray) (a : Nat) (w : World) (hs : s.size ≤ 1000000000) (ha : 0 < a) (hD : bt s a = 46) (hA : ∀ j, j < a → 48 ≤ bt s j ∧ bt s j ≤ 57) (hke : a + 1 < s.size) (hn : Hid (¬ (48 ≤ bt s (a + 1) ∧ bt s (a + 1) ≤ 57))) :
    Calls Tryz.prog 33 #[.string s] w fun e w' => e = .returned (.tuple #[.string ⟨#[]⟩, .int .i64 0, .bool false]) ∧ ∃ n, w' = w.drewN n := by
  have HG : Hid (∀ i (h : i < s.size), ((s[i]'h).toNat : Int) = bt s i) := get_bt s
  have HA : Hid (∀ j, j < a → 48 ≤ bt s j ∧ bt s j ≤ 57) := hA
  have HD : Hid (bt s a = 46) := hD
  clear hA hD
  go_enter Tryz.func33, Tryz.ntmps33
  go_wp2
  go_loop [5] (fun i => ∃ j : Nat, j ≤ a ∧ i = .int .i64 j) (fun i => a - (intOf i).toNat)
  case atStart => exact ⟨0, Nat.zero_le _, rfl⟩
  case round =>
    obtain ⟨j, hj, rfl⟩ := hrel
    by_cases hja : j < a
    · have hjs : j < s.size := by omega
      have hji : (j : Int) < (s.size : Int) := by omega
      have gj : ((s[j]'hjs).toNat : Int) = bt s j := HG.out j hjs
      obtain ⟨r1, r2⟩ := HA.out j hja
      generalize bt s j = c at *
      go_wp2
      go_round
      case rel => exact ⟨j + 1, by omega, by go_num⟩
      case measure => simp [intOf]; omega
    · obtain rfl : a = j := by omega
      clear hj hja
      have qk : a + 1 < s.size := by omega
      have q0 : (a : Int) + 1 < (s.size : Int) := by omega
      have gk : ((s[a + 1]'qk).toNat : Int) = bt s (a + 1) := HG.out (a + 1) qk
      have HN := hn.out
      clear hn
      generalize bt s (a + 1) = c at *
      have has : a < s.size := by omega
      have hai : (a : Int) < (s.size : Int) := by omega
      have ga : ((s[a]'has).toNat : Int) = 46 := (HG.out a has).trans HD.out
      have hane : ((a : Int) == 0) = false := by rw [beq_eq_false_iff_ne]; omega
      have hane2 : ((a : Int) == (s.size : Int)) = false := by rw [beq_eq_false_iff_ne]; omega
      go_wp2
      by_cases h48 : c < 48
      · clear HN
        refine wp_loop_rounds 1 ?_
        rw [rounds_succ]
        go_wp2
        refine bodyPost_ret (v := .tuple #[.string ⟨#[]⟩, .int .i64 0, .bool false]) (by simp [results, Tryz.results33, go_sem]) rfl ⟨rfl, 0, rfl⟩
      · have h57 : 57 < c := by omega
        clear HN
        refine wp_loop_rounds 1 ?_
        rw [rounds_succ]
        go_wp2
        refine bodyPost_ret (v := .tuple #[.string ⟨#[]⟩, .int .i64 0, .bool false]) (by simp [results, Tryz.results33, go_sem]) rfl ⟨rfl, 0, rfl⟩
end Go.Proofs.YtnljpbpphdhnpaaGreatDoor
