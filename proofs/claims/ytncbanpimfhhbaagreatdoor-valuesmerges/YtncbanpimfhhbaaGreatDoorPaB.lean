/- Texts of plain bytes, cut out of a text. -/
import Derived.Test.YtncbanpimfhhbaaGreatDoorPaA
import Derived.Deep.QuietTactic
namespace Go.Proofs.YtncbanpimfhhbaaGreatDoor
open Go.RowKit Go.PlainAid

theorem has_any (s p : List UInt8) (w : World) : Calls Tryz.prog 53 #[.string (ba s), .string (ba p)] w fun e w' => e = .returned (.bool (Lib.hasPrefix s p)) ∧ w' = w := by
  have h := Any.strings_HasPrefix Tryz.lays99 (ba s) (ba p) w
  rw [ba_data, ba_data] at h
  exact h
theorem empty_false (l : List UInt8) (h : l ≠ []) : (ba l).toList.isEmpty = false := by
  rw [ba_toList]
  cases l with
  | nil => exact absurd rfl h
  | cons x l => rfl

set_option maxRecDepth 1000000 in
set_option maxHeartbeats 400000 in
theorem cutByte_plain (c : UInt8) (r : List UInt8) (h : c ≠ 92) (hn : r.length ≤ 1000) (w : World) :
    Calls Tryz.prog 109 #[.string (ba (c :: r))] w fun e w' => e = .returned (.tuple #[.int .u8 (c.toNat : Int), .string (ba r), .bool true]) ∧ ∃ n, w' = w.drewN n := by
  have hsz : (ba (c :: r)).size = r.length + 1 := ba_size (c :: r)
  have h0 : 0 < (ba (c :: r)).size := by omega
  have g0 : (((ba (c :: r))[0]'h0).toNat : Int) = (c.toNat : Int) := (get_bt _ 0 h0).trans (ba_bt (c :: r) 0 (by simp))
  have he := empty_false (c :: r) (by simp)
  have e1 : ((c.toNat : Int) != 92) = true := by
    have : c.toNat ≠ 92 := fun e => h (UInt8.toNat_inj.1 e)
    simp; omega
  have ed : (ba (c :: r)).extract 1 (r.length + 1) = ba r := ba_drop [c] r
  have i1 : (1 : Int) ≤ ((ba (c :: r)).size : Int) := by omega
  clear h
  generalize ba (c :: r) = S at *
  go_enter Tryz.func109, Tryz.ntmps109
  go_wp2
  go_quiet (fail)
  go_wp2
  go_ret3
  exact ⟨rfl, _, rfl⟩

/-- how many bytes a text has -/
def vsz : Value → Nat
  | .string s => s.size
  | _ => 0
theorem vsz_ba (l : List UInt8) : vsz (.string (ba l)) = l.length := ba_size l

set_option maxRecDepth 1000000 in
set_option maxHeartbeats 800000 in
/-- cutText: of a text of plain bytes -/
theorem cutText_plain (l r : List UInt8) (w : World) (hp : Plain l) (hn : l.length + r.length ≤ 900) :
    Calls Tryz.prog 79 #[.string (ba (34 :: (l ++ 34 :: r)))] w fun e w' => e = .returned (.tuple #[.string (ba l), .string (ba r), .bool true]) ∧ Keep [] w w' := by
  have HP : Hid (Plain l) := hp
  have hC : ∀ w, Calls Tryz.prog 108 #[.string (ba (34 :: (l ++ 34 :: r))), .string ⟨#[34]⟩] w fun e w' => e = .returned (.tuple #[.string (ba (l ++ 34 :: r)), .bool true]) ∧ w' = w := fun w => by
    have h := Any.strings_CutPrefix Tryz.lays103 (ba (34 :: (l ++ 34 :: r))) ⟨#[34]⟩ w
    rw [ba_data] at h
    have e1 : Lib.hasPrefix (34 :: (l ++ 34 :: r)) (⟨#[34]⟩ : ByteArray).data.toList = true := by
      show List.isPrefixOf [34] (34 :: _) = true
      simp
    have e2 : (⟨(Lib.trimPrefix (34 :: (l ++ 34 :: r)) (⟨#[34]⟩ : ByteArray).data.toList).toArray⟩ : ByteArray) = ba (l ++ 34 :: r) := by
      unfold Lib.trimPrefix
      rw [if_pos e1]
      rfl
    rw [e1, e2] at h
    exact h
  clear hp
  go_enter Tryz.func79, Tryz.ntmps79
  go_wp2_with fail
  refine (hC _).mono ?_
  rintro e9 w9 ⟨rfl, hw9⟩
  obtain rfl := hw9.symm
  clear hw9 hC
  go_wp2
  go_loopw [4, 5, 6] (fun ok b rest wr => ∃ k : Nat, k ≤ l.length ∧ ok = .bool true ∧ rest = .string (ba (l.drop k ++ 34 :: r)) ∧ Hid (Row wr b (l.take k) ∧ Keep [] w wr ∧ Fresh w wr b)) (fun _ _ rest _ => vsz rest)
  case atStart => exact ⟨0, Nat.zero_le _, rfl, rfl, ⟨Row.nil w, Keep.refl _ _, fun k hk => by simp [Value.ownBlock] at hk⟩⟩
  case round =>
    obtain ⟨k, hk, rfl, rfl, HI⟩ := hrel
    obtain ⟨ao, ca, hv, _⟩ := HI.out.1.bs.ex
    rw [show (l.take k).length = k by simp; omega] at hv
    subst hv
    have hH := fun w => has_any (l.drop k ++ 34 :: r) [34] w
    change ∀ w, Calls Tryz.prog 53 #[.string (ba (l.drop k ++ 34 :: r)), .string ⟨#[34]⟩] w _ at hH
    by_cases hlt : k < l.length
    · have hd : l.drop k = l[k] :: l.drop (k + 1) := List.drop_eq_getElem_cons hlt
      have hc := HP.out l[k] (List.getElem_mem hlt)
      have e1 : Lib.hasPrefix (l.drop k ++ 34 :: r) [34] = false := by
        rw [hd]
        show List.isPrefixOf [34] (l[k] :: _) = false
        have : l[k] ≠ 34 := hc.1
        simp [List.isPrefixOf, this.symm]
      rw [e1] at hH
      have hB := cutByte_plain l[k] (l.drop (k + 1) ++ 34 :: r) hc.2.1 (by simp; omega)
      rw [show l[k] :: (l.drop (k + 1) ++ 34 :: r) = l.drop k ++ 34 :: r by rw [hd]; rfl] at hB
      have HM : Hid (vsz (.string (ba (l.drop (k + 1) ++ 34 :: r))) < vsz (.string (ba (l.drop k ++ 34 :: r)))) := by
        show _ < _
        rw [vsz_ba, vsz_ba]; simp; omega
      clear hd hc e1
      generalize ba (l.drop k ++ 34 :: r) = S at *
      obtain ⟨S', hS'⟩ : ∃ S', S' = ba (l.drop (k + 1) ++ 34 :: r) := ⟨_, rfl⟩
      rw [← hS'] at hB HM
      have HS' : Hid (S' = ba (l.drop (k + 1) ++ 34 :: r)) := hS'
      clear hS'
      obtain ⟨c, hcc⟩ : ∃ c, c = l[k] := ⟨_, rfl⟩
      rw [← hcc] at hB
      have HC : Hid (c = l[k]) := hcc
      clear hcc
      go_wp2_with fail
      refine (hH _).mono ?_
      rintro e9 w9 ⟨rfl, hw9⟩
      obtain rfl := hw9.symm
      clear hw9
      go_wp2_with fail
      refine (hB _).mono ?_
      rintro e9 w9 ⟨rfl, n9, rfl⟩
      clear hB hH
      have HR : Hid (∀ W : World, Keep [] wr W → Row W (.slice ao k ca) (l.take k)) := fun W kk => HI.out.1.keep kk (Off.nil _)
      have HO : Hid (Row ((wr.drewN n9).alloc (.cells #[.int .u8 (c.toNat : Int)] 5 (0, 0))) (.slice (some ⟨wr.heap.size, 0, none⟩) 1 1) [c]) := row_one (wr.drewN n9) c
      go_wp2_with (at_builtin; refine wp_app rfl (.tmp 25) (.tmp 27) 45 45 rfl underS (.slice ao k ca) (l.take k) rfl (HR.out _ (((Keep.refl [] wr).drewN n9).alloc _)) (.slice (some ⟨wr.heap.size, 0, none⟩) 1 1) [c] rfl HO.out.bs.src (by simp; omega) ?_)
      intro v' w1 R1 K1 F1 S1
      obtain ⟨a9, c9, rfl⟩ := S1
      have HJ : Hid (Row w1 (Value.slice a9 (k + 1) c9) (l.take (k + 1)) ∧ Keep [] w w1 ∧ Fresh w w1 (Value.slice a9 (k + 1) c9)) := by
        have hw2 : Keep [] w ((wr.drewN n9).alloc (.cells #[.int .u8 (c.toNat : Int)] 5 (0, 0))) := (HI.out.2.1.drewN n9).alloc _
        refine ⟨?_, ?_, ?_⟩
        · rw [List.take_succ_eq_append_getElem hlt, ← HC.out]; exact R1
        · exact hw2.more K1 (fun x hx => .inr (HI.out.2.2 x (by simpa using hx)).1)
        · rcases F1 with h | h
          · exact fun j hj => by
              rw [h] at hj
              have := HI.out.2.2 j hj
              exact ⟨this.1, Nat.lt_of_lt_of_le this.2 (Nat.le_trans (by simp) K1.size)⟩
          · exact fun j hj => ⟨Nat.le_trans hw2.size (h j hj).1, (h j hj).2⟩
      clear R1 K1 F1 HR HO
      go_wp2
      go_roundw
      case rel => exact ⟨k + 1, by omega, rfl, by rw [HS'.out], HJ⟩
      case measure => exact HM.out
    · obtain rfl : k = l.length := by omega
      have hdl : l.drop l.length = [] := List.drop_length
      rw [hdl] at hH ⊢
      have e1 : Lib.hasPrefix ([] ++ 34 :: r) [34] = true := by
        show List.isPrefixOf [34] (34 :: r) = true
        simp
      rw [e1] at hH
      have hsz : (ba ([] ++ 34 :: r)).size = r.length + 1 := ba_size (34 :: r)
      have ed : (ba ([] ++ 34 :: r)).extract 1 (r.length + 1) = ba r := ba_drop [34] r
      have i1 : (1 : Int) ≤ ((ba ([] ++ 34 :: r)).size : Int) := by omega
      have HST : ∀ n : Nat, (convert 45 9 (.slice ao l.length ca)).run Tryz.prog (wr.drewN n) = .ok (.string (ba l)) (wr.drewN n) := fun n => by
        have h := run_str (HI.out.1.keep ((Keep.refl [] wr).drewN n) (Off.nil _)).bs
        rw [List.take_length] at h
        exact h
      have HST0 := HST 0
      change (convert 45 9 (.slice ao l.length ca)).run Tryz.prog wr = .ok (.string (ba l)) wr at HST0
      clear e1 hdl
      generalize ba ([] ++ 34 :: r) = S at *
      go_wp2_with fail
      refine (hH _).mono ?_
      rintro e9 w9 ⟨rfl, hw9⟩
      obtain rfl := hw9.symm
      clear hw9
      go_wp2
      go_quiet (fail)
      go_wp2
      go_ret3
      exact ⟨rfl, HI.out.2.1.drewN _⟩
end Go.Proofs.YtncbanpimfhhbaaGreatDoor
