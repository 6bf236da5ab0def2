/- The document's lists: From. -/
import Derived.Test.YtkelhglflpdpeaaRj

namespace Go.Proofs.Ytkelhglflpdpeaa
open Go.RowKit Go.PlainAid


theorem Rd.dropAll {w : World} {ao : Option Addr} {cap : Nat} {l : List Pr} (h : Rd encP 2 w (.slice ao l.length cap) l) (n : Nat) (hc : cap = n) (hn : n ≤ l.length) : Rd encP 2 w (.slice ao (l.length - n) 0) (l.drop n) := by
  obtain ⟨ao', cap', he, h1, h2, h3, h4⟩ := h.ex
  simp at he
  obtain ⟨rfl, rfl⟩ := he
  have hl : l.length = n := by omega
  have hd : l.drop n = [] := List.drop_eq_nil_of_le (by omega)
  rw [hd, hl, Nat.sub_self]
  exact ⟨ao, 0, rfl, by simp, by simp [maxLen], fun _ => rfl, fun h => absurd rfl h⟩
theorem Rd.dropSome {w : World} {ao : Option Addr} {cap : Nat} {l : List Pr} (h : Rd encP 2 w (.slice ao l.length cap) l) (n : Nat) (hc : ¬ cap = n) (hn : n ≤ l.length) : Rd encP 2 w (.slice (ao.map (fun x => x.add (n * 2))) (l.length - n) (cap - n)) (l.drop n) := by
  obtain ⟨ao', cap', he, h1, h2, h3, h4⟩ := h.ex
  simp at he
  obtain ⟨rfl, rfl⟩ := he
  cases ao with
  | none => have := h3 rfl; omega
  | some a =>
    refine ⟨some (a.add (n * 2)), cap - n, by rw [List.length_drop]; rfl, by rw [List.length_drop]; omega, by simp only [maxLen] at *; omega, (by intro h; cases h), fun hl => ?_⟩
    have hl2 : l ≠ [] := by intro e; rw [e] at hl; simp at hl
    obtain ⟨b, o, he, hb, hcc⟩ := h4 hl2
    cases he
    refine ⟨b, o + n * 2, by simp [Addr.add], hb, fun j hj i hi => ?_⟩
    rw [List.length_drop] at hj
    rw [List.getElem_drop]
    have := hcc (n + j) (by omega) i hi
    rw [← this, Nat.add_mul]
    congr 2
    omega

set_option maxRecDepth 100000 in
set_option maxHeartbeats 2000000 in
theorem rFrom_any (v : Value) (l : List Pr) (x : Pr) (w : World) (h : Rd encP 2 w v l) (hl : l.length ≤ 1152921504606846976) :
    Calls Try.prog 28 #[v, vP x] w fun e w' => ∃ v', e = .returned v' ∧ Rd encP 2 w' v' (l.drop (rnk l x.k)) ∧ Keep [] w w' := by
  obtain ⟨ao, cap, rfl, hc1, hc2⟩ := h.form
  have HV : Hid (Rd encP 2 w (.slice ao l.length cap) l) := h
  have hli : (l.length : Int) ≤ 1152921504606846976 := by omega
  have hci : (l.length : Int) ≤ (cap : Int) := by omega
  have HRk : Hid (∀ w9, Keep [] w w9 → Calls Try.prog 47 #[.slice ao l.length cap, vP x] w9 fun e w' => e = .returned (.int .i64 (rnk l x.k : Int)) ∧ Keep [] w9 w') := fun w9 kk => rRank_any _ l x w9 (h.keep kk (Off.nil _)) hl
  have hrl := rnk_le l x.k
  generalize rnk l x.k = n at *
  have hn1 : (n : Int) ≤ (l.length : Int) := by omega
  have hn0 : (0 : Int) ≤ (n : Int) := by omega
  obtain ⟨x0, x1, _⟩ := Bp.new w x
  clear h hl
  go_enter Try.func28, Try.ntmps28
  go_wp2_with fail
  refine (HRk.out _ (Keep.alloc1 _ _)).mono ?_
  clear HRk
  rintro e w2 ⟨rfl, k2⟩
  have HK : Hid (Keep [] w w2) := (Keep.alloc1 _ _).trans' k2
  clear k2 x0 x1
  go_wp2
  · go_ret
    exact ⟨_, rfl, (HV.out.keep HK.out (Off.nil _)).dropAll n (by assumption) hrl, HK.out⟩
  · go_ret
    exact ⟨_, rfl, (HV.out.keep HK.out (Off.nil _)).dropSome n (by assumption) hrl, HK.out⟩

end Go.Proofs.Ytkelhglflpdpeaa
