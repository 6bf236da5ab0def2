/- The document's May. -/
import Derived.Test.YtfpcpociejefaaaGreatDoorRvB
import Derived.Test.YtfpcpociejefaaaGreatDoorLentW
import Derived.Test.YtfpcpociejefaaaGreatDoorLentW
import Derived.Test.YtfpcpociejefaaaGreatDoorArgY
import Derived.Test.YtfpcpociejefaaaGreatDoorLentW
import Derived.Deep.RegionWith
import Derived.Deep.QuietTactic
import Derived.BigQuiet

namespace Go.Proofs.YtfpcpociejefaaaGreatDoor
open Go.RowKit Go.PlainAid
theorem one_cells {w w1 : World} {v0 v1 v2 v3 v4 v5 : Value} {t : TypeId} (k : Keep [] (w.alloc (.cells #[v0, v1, v2, v3, v4, v5] t)) w1) :
  w1.cell? ⟨w.heap.size, 0, none⟩ = some v0 ∧ w1.cell? ⟨w.heap.size, 1, none⟩ = some v1 ∧ w1.cell? ⟨w.heap.size, 2, none⟩ = some v2 ∧ w1.cell? ⟨w.heap.size, 3, none⟩ = some v3 ∧ w1.cell? ⟨w.heap.size, 4, none⟩ = some v4 ∧ w1.cell? ⟨w.heap.size, 5, none⟩ = some v5 := by
 refine ⟨k.cell' ?_ (by simp), k.cell' ?_ (by simp), k.cell' ?_ (by simp), k.cell' ?_ (by simp), k.cell' ?_ (by simp), k.cell' ?_ (by simp)⟩ <;> simp [go_sem]
set_option maxRecDepth 1000000 in
set_option maxHeartbeats 1600000 in
theorem rMay_any (p : VD) (hp : p.Ok) (u : Value) (w : World) (hu : Ts w u p.texts) :
  Calls Tryz.prog 75 #[p.val u] w fun e w' => e = .returned (.bool p.mayB) ∧ Keep [] w w' := by
 have HU : Hid (Ts w u p.texts) := hu
 have ht1 : p.text.size ≤ 9223372036854775807 := hp.text1
 obtain ⟨ao, ca, rfl, hl1, hl2, _, _⟩ := hu.ex
 clear hu
 by_cases h1 : p.kind < 1
 ·have HV : Hid (p.mayB = false) := show p.mayB = false by unfold VD.mayB; rw [decide_eq_false (by omega)]; rfl
  obtain ⟨kd, b, n, x, t, ts⟩ := p
  simp only [] at *
  go_enter Tryz.func75, Tryz.ntmps75
  go_wp2
  go_ret
  exact ⟨by rw [HV.out]; rfl, Keep.alloc1 _ _⟩
 by_cases h5 : 5 < p.kind
 ·have HV : Hid (p.mayB = false) := show p.mayB = false by unfold VD.mayB; rw [decide_eq_false (by omega)]; rfl
  obtain ⟨kd, b, n, x, t, ts⟩ := p
  simp only [] at *
  go_enter Tryz.func75, Tryz.ntmps75
  go_wp2
  go_ret
  exact ⟨by rw [HV.out]; rfl, Keep.alloc1 _ _⟩
 have hZ := fun w1 (k : Keep [] w w1) => rzero_any p hp (by omega) (by omega) (.slice ao p.texts.length ca) w1 (HU.out.keep k (Off.nil _))
 have hm : p.mayB = (p.clear.emptyB && p.shortB) := by unfold VD.mayB; rw [decide_eq_true (by omega), Bool.true_and]
 cases he : p.clear.emptyB
 ·rw [he] at hZ hm
  have HV : Hid (p.mayB = false) := show p.mayB = false by rw [hm]; rfl
  clear hm he HU hp
  obtain ⟨kd, b, n, x, t, ts⟩ := p
  simp only [] at *
  go_enter Tryz.func75, Tryz.ntmps75
  go_wp2_with (go_at_call 95; refine (hZ _ (Keep.alloc1 _ _)).mono ?_; rintro e9 w1 ⟨rfl, k1⟩)
  have HK : Hid (Keep [] w w1) := (Keep.alloc1 _ _).trans' k1
  clear k1
  go_ret
  exact ⟨by rw [HV.out]; rfl, HK.out⟩
 rw [he, Bool.true_and] at hm
 rw [he] at hZ
 unfold VD.shortB at hm
 by_cases ht : 256 < p.text.size
 ·have HV : Hid (p.mayB = false) := show p.mayB = false by rw [hm, decide_eq_false (by omega)]; rfl
  have hti : (256 : Int) < (p.text.size : Int) := by omega
  clear hm he HU hp
  obtain ⟨kd, b, n, x, t, ts⟩ := p
  simp only [] at *
  go_enter Tryz.func75, Tryz.ntmps75
  go_wp2_with (go_at_call 95; refine (hZ _ (Keep.alloc1 _ _)).mono ?_; rintro e9 w1 ⟨rfl, k1⟩; obtain ⟨c0, c1, c2, c3, c4, c5⟩ := one_cells k1; have HK : Hid (Keep [] w w1) := (Keep.alloc1 _ _).trans' k1; clear k1)
  go_ret
  exact ⟨by rw [HV.out]; rfl, HK.out⟩
 have hti : ¬ (256 : Int) < (p.text.size : Int) := by omega
 rw [decide_eq_true (show p.text.size ≤ 256 by omega), Bool.true_and] at hm
 by_cases hl : 32 < p.texts.length
 ·have HV : Hid (p.mayB = false) := show p.mayB = false by rw [hm, decide_eq_false (by omega)]; rfl
  have hli : (32 : Int) < (p.texts.length : Int) := by omega
  clear hm he HU hp
  obtain ⟨kd, b, n, x, t, ts⟩ := p
  simp only [] at *
  go_enter Tryz.func75, Tryz.ntmps75
  go_wp2_with (go_at_call 95; refine (hZ _ (Keep.alloc1 _ _)).mono ?_; rintro e9 w1 ⟨rfl, k1⟩; obtain ⟨c0, c1, c2, c3, c4, c5⟩ := one_cells k1; have HK : Hid (Keep [] w w1) := (Keep.alloc1 _ _).trans' k1; clear k1)
  go_ret
  exact ⟨by rw [HV.out]; rfl, HK.out⟩
 have hli : ¬ (32 : Int) < (p.texts.length : Int) := by omega
 rw [decide_eq_true (show p.texts.length ≤ 32 by omega), Bool.true_and] at hm
 have HM : Hid (p.mayB = !longB p.texts) := hm
 clear hm he hp
 obtain ⟨kd, b, n, x, t, ts⟩ := p
 simp only [] at *
 go_enter Tryz.func75, Tryz.ntmps75
 go_wp2_with (go_at_call 95; refine (hZ _ (Keep.alloc1 _ _)).mono ?_; rintro e9 w1 ⟨rfl, k1⟩; obtain ⟨c0, c1, c2, c3, c4, c5⟩ := one_cells k1; have HK : Hid (Keep [] w w1) := (Keep.alloc1 _ _).trans' k1; clear k1)
 clear hZ c0 c1 c2 c3 c4
 have HS : Hid (∀ s ∈ ts, s.size ≤ 9223372036854775807) := by obtain ⟨_, _, _, _, _, h3, _⟩ := HU.out.ex; exact h3
 have HE : Hid (ts ≠ [] → ∃ g o, ao = some ⟨g, o, none⟩ ∧ ∀ j (h : j < ts.length), w1.cell? ⟨g, o + j, none⟩ = some (.string ts[j])) := by
  obtain ⟨ao', ca', e, _, _, _, h4⟩ := (HU.out.keep HK.out (Off.nil _)).ex
  simp at e
  obtain ⟨rfl, rfl⟩ := e
  exact h4
 clear HU
 go_loop [3] (fun iv => ∃ k : Nat, iv = .int .i64 (k : Int) ∧ k ≤ ts.length ∧ Hid (∀ j (h : j < ts.length), j < k → ¬ 256 < ts[j].size)) (fun iv => ts.length - (RowKit.intOf iv).toNat)
 case atStart => exact ⟨0, rfl, Nat.zero_le _, fun j _ h => absurd h (Nat.not_lt_zero j)⟩
 case round =>
  obtain ⟨k, rfl, hk, hall⟩ := hrel
  by_cases hlt : k < ts.length
  ·have hki : (k : Int) < (ts.length : Int) := by omega
   obtain ⟨g, o, rfl, hc⟩ := HE.out (by intro hz; rw [hz] at hlt; simp at hlt)
   have hca := hc k hlt
   have hsz := HS.out _ (List.getElem_mem hlt)
   by_cases hs : 256 < ts[k].size
   ·have HV : Hid ((⟨kd, b, n, x, t, ts⟩ : VD).mayB = false) := by
     show _ = _
     rw [HM.out, (longI_some ts k hlt (fun j hj hjk => hall.out j hj hjk) hs).2]; rfl
    have hsi : (256 : Int) < (ts[k].size : Int) := by omega
    clear hall hc HE HM HS
    generalize ts[k] = s at hca hsi hsz
    go_wp2
    go_ret
    exact ⟨by rw [HV.out]; rfl, HK.out⟩
   ·have hsi : ¬ (256 : Int) < (ts[k].size : Int) := by omega
    have HA : Hid (∀ j (h : j < ts.length), j < k + 1 → ¬ 256 < ts[j].size) := fun j h hj => by
     by_cases e : j = k
     ·subst e; exact hs
     ·exact hall.out j h (by omega)
    clear hall hc HE hs
    generalize ts[k] = s at hca hsi hsz
    go_wp2
    go_round
    case rel => exact ⟨k + 1, by go_num, by omega, HA⟩
    case measure => simp [RowKit.intOf]; omega
  ·have hki : ¬ (k : Int) < (ts.length : Int) := by omega
   have HV : Hid ((⟨kd, b, n, x, t, ts⟩ : VD).mayB = true) := by
    show _ = _
    rw [HM.out, (longI_none ts (fun j hj => hall.out j hj (by omega))).2]; rfl
   clear hall HE HM
   go_wp2
   go_ret
   exact ⟨by rw [HV.out]; rfl, HK.out⟩
end Go.Proofs.YtfpcpociejefaaaGreatDoor

/- The document's SameArgs. -/
namespace Go.Proofs.YtfpcpociejefaaaGreatDoor
open Go.RowKit Go.PlainAid
theorem toList_ba (s : ByteArray) : ba s.toList = s := by rw [ByteArray.toList_eq]; unfold ba; simp
theorem toList_inj {a b : ByteArray} (h : a.toList = b.toList) : a = b := by
 have := congrArg ba h
 rwa [toList_ba, toList_ba] at this
end Go.Proofs.YtfpcpociejefaaaGreatDoor
