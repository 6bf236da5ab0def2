/- The document's lists: Same of the same; From; Rising. -/
import Derived.Test.YtkelhglflpdpeaaRi

namespace Go.Proofs.Ytkelhglflpdpeaa
open Go.RowKit Go.PlainAid


/-- Put, whatever there is -/
theorem rPut_any (v : Value) (l : List Pr) (x : Pr) (over : Bool) (w : World) (h : Rd encP 2 w v l) (hr : Ris l) (hl : l.length + 1 ≤ 8796093021952) :
    Calls Try.prog 12 #[v, vP x, .bool over] w fun e w' => ∃ v', e = .returned (.tuple #[v', .bool (lk l x.k).isSome]) ∧ Rw 29 encP 2 w' v' (if over then putL l x else addL l x) ∧ Keep [] w w' := by
  cases hlk : lk l x.k with
  | some y => exact rPut_some v l x y over w h hr hl hlk
  | none => exact rPut_none v l x over w h hr hl hlk

set_option maxRecDepth 100000 in
set_option maxHeartbeats 2000000 in
theorem rSame_yes (v v2 : Value) (l : List Pr) (w : World) (h : Rd encP 2 w v l) (h2 : Rd encP 2 w v2 l) (hl : l.length ≤ 1152921504606846976) :
    Calls Try.prog 20 #[v, v2] w fun e w' => e = .returned (.bool true) ∧ Keep [] w w' := by
  obtain ⟨ao, cap, rfl, hc1, hc2⟩ := h.form
  obtain ⟨ao2, cap2, rfl, hc3, hc4⟩ := h2.form
  have HV : Hid (Rd encP 2 w (.slice ao l.length cap) l ∧ Rd encP 2 w (.slice ao2 l.length cap2) l) := ⟨h, h2⟩
  have hli : (l.length : Int) ≤ 1152921504606846976 := by omega
  clear h h2 hl
  go_enter Try.func20, Try.ntmps20
  go_wp2_with fail
  go_loopw [5] (fun iv wr => ∃ i : Nat, iv = .int .i64 (i : Int) ∧ i ≤ l.length ∧ Hid (Keep [] w wr)) (fun iv _ => l.length - (intOf iv).toNat)
  case atStart => exact ⟨0, rfl, Nat.zero_le _, Keep.refl _ _⟩
  case round =>
    obtain ⟨i, rfl, hi, HI⟩ := hrel
    by_cases hlt : i < l.length
    · have hlti : (i : Int) < (l.length : Int) := by omega
      have hi0 : (0 : Int) ≤ (i : Int) := by omega
      obtain ⟨b, o, c2, he, hb, e0, e1⟩ := (HV.out.1.keep HI.out (Off.nil _)).pair i hlt
      simp at he
      obtain ⟨rfl, rfl⟩ := he
      obtain ⟨b2, o2, c3, he2, hb2, f0, f1⟩ := (HV.out.2.keep HI.out (Off.nil _)).pair i hlt
      simp at he2
      obtain ⟨rfl, rfl⟩ := he2
      generalize l[i] = q at *
      go_wp2_with fail
      go_region_held3 (fun w' => w'.cell? ⟨b, o + i * 2, none⟩ = some (.int .i64 q.k) ∧ w'.cell? ⟨b, o + i * 2 + 1, none⟩ = some (.int .i64 q.m) ∧ w'.cell? ⟨b2, o2 + i * 2, none⟩ = some (.int .i64 q.k) ∧ w'.cell? ⟨b2, o2 + i * 2 + 1, none⟩ = some (.int .i64 q.m))
        (first | assumption | exact ⟨e0, e1, f0, f1⟩)
        (fail)
      rename_i hH
      clear hH e0 e1 f0 f1
      go_wp2_with fail
      go_roundw
      case rel => exact ⟨i + 1, by simp, by omega, HI.out.drew⟩
      case measure => simp [intOf]; omega
    · obtain rfl : i = l.length := by omega
      have hnl : ¬ (l.length : Int) < (l.length : Int) := by omega
      go_wp2
      go_ret
      exact ⟨rfl, HI.out⟩

set_option maxRecDepth 100000 in
set_option maxHeartbeats 2000000 in
theorem rRising_any (v : Value) (l : List Pr) (w : World) (h : Rd encP 2 w v l) (hl : l.length + 1 ≤ 8796093021952) :
    Calls Try.prog 24 #[v] w fun e w' => ∃ v', e = .returned v' ∧ Rw 29 encP 2 w' v' (madeL l) ∧ Keep [] w w' := by
  obtain ⟨ao, cap, rfl, hc1, hc2⟩ := h.form
  have HV : Hid (Rd encP 2 w (.slice ao l.length cap) l) := h
  have HL : Hid (l.length ≤ 8796093021951) := by show _ ≤ _; omega
  have hli : (l.length : Int) ≤ 8796093021951 := by omega
  clear h hl
  go_enter Try.func24, Try.ntmps24
  go_wp2_with fail
  go_loopw [3, 4] (fun ov iv wr => ∃ i : Nat, iv = .int .i64 (i : Int) ∧ i ≤ l.length ∧ Hid (Rw 29 encP 2 wr ov (madeL (l.take i)) ∧ Keep [] w wr)) (fun ov iv _ => l.length - (intOf iv).toNat)
  case atStart => exact ⟨0, rfl, Nat.zero_le _, Rw.nil _ _ _ _, Keep.refl _ _⟩
  case round =>
    obtain ⟨i, rfl, hi, HI⟩ := hrel
    by_cases hlt : i < l.length
    · have hlti : (i : Int) < (l.length : Int) := by omega
      have hi0 : (0 : Int) ≤ (i : Int) := by omega
      obtain ⟨b, o, c2, he, hb, e0, e1⟩ := (HV.out.keep HI.out.2 (Off.nil _)).pair i hlt
      simp at he
      obtain ⟨rfl, rfl⟩ := he
      have hml := madeL_len (l.take i)
      rw [List.length_take] at hml
      have HP := rPut_any _ (madeL (l.take i)) l[i] false wr (HI.out.1.rd encP_len) (madeL_ris _) (by have := HL.out; omega)
      rw [if_neg (by decide), ← madeL_snoc, List.take_append_getElem hlt] at HP
      have HPP : Hid (type_of% HP) := HP
      generalize l[i] = x at *
      clear HP hml
      go_wp2_with fail
      refine HPP.out.mono ?_
      clear HPP
      rintro e w2 ⟨v2, rfl, r2, k2⟩
      have HF : Hid (Rw 29 encP 2 w2 v2 (madeL (l.take (i + 1))) ∧ Keep [] w w2) := ⟨r2, HI.out.2.trans' k2⟩
      clear r2 k2
      go_wp2_with fail
      go_roundw
      case rel => exact ⟨i + 1, by simp, by omega, HF.out⟩
      case measure => simp [intOf]; omega
    · obtain rfl : i = l.length := by omega
      have hnl : ¬ (l.length : Int) < (l.length : Int) := by omega
      rw [List.take_length] at HI
      go_wp2
      go_ret
      exact ⟨_, rfl, HI.out.1, HI.out.2⟩

end Go.Proofs.Ytkelhglflpdpeaa
