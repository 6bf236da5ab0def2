/- The document's SameArgs. -/
import Derived.Test.YtncbanpimfhhbaaGreatDoorRvD
import Derived.Test.YtncbanpimfhhbaaGreatDoorArgY
import Derived.Test.YtncbanpimfhhbaaGreatDoorRnA
import Derived.Deep.RegionWith
import Derived.Deep.QuietTactic
import Derived.BigQuiet
import Derived.Test.YtncbanpimfhhbaaGreatDoorLtD

namespace Go.Proofs.YtncbanpimfhhbaaGreatDoor
open Go.RowKit Go.PlainAid

theorem toList_ba (s : ByteArray) : ba s.toList = s := by rw [ByteArray.toList_eq]; unfold ba; simp
theorem toList_inj {a b : ByteArray} (h : a.toList = b.toList) : a = b := by
  have := congrArg ba h
  rwa [toList_ba, toList_ba] at this
def sameA (x y : AD) : Bool := decide (x.nm = y.nm) && sameV x.val y.val
def sameAL : List AD → List AD → Bool
  | [], [] => true
  | x :: l, y :: m => sameA x y && sameAL l m
  | _, _ => false
theorem sameAL_iff (l m : List AD) : sameAL l m = true ↔ l.length = m.length ∧ ∀ i (h1 : i < l.length) (h2 : i < m.length), sameA l[i] m[i] = true := by
  induction l generalizing m with
  | nil => cases m with
    | nil => simp [sameAL]
    | cons y m => simp [sameAL]
  | cons x l ih => cases m with
    | nil => simp [sameAL]
    | cons y m =>
      simp only [sameAL, Bool.and_eq_true, ih m, List.length_cons]
      constructor
      · rintro ⟨h1, h2, h3⟩
        refine ⟨by omega, fun i a b => ?_⟩
        cases i with
        | zero => exact h1
        | succ i => exact h3 i (by omega) (by omega)
      · rintro ⟨h1, h2⟩
        exact ⟨h2 0 (by omega) (by omega), by omega, fun i a b => h2 (i + 1) (by omega) (by omega)⟩
theorem sameAL_not {l m : List AD} (i : Nat) (h1 : i < l.length) (h2 : i < m.length) (h : sameA l[i] m[i] = false) : sameAL l m = false := by
  cases e : sameAL l m
  · rfl
  · have := ((sameAL_iff l m).1 e).2 i h1 h2
    rw [h] at this
    cases this
theorem sameAL_len {l m : List AD} (h : l.length ≠ m.length) : sameAL l m = false := by
  cases e : sameAL l m
  · rfl
  · exact absurd ((sameAL_iff l m).1 e).1 h

end Go.Proofs.YtncbanpimfhhbaaGreatDoor


/- The document's Rise and Args. -/
namespace Go.Proofs.YtncbanpimfhhbaaGreatDoor
open Go.RowKit Go.PlainAid

/-- names that may be, values that may be, and names that rise -/
def Rises (l : List AD) : Prop := ∀ i (h : i < l.length), nameL l[i].nm.toList = true ∧ l[i].val.mayB = true ∧ ∀ j (hj : j + 1 = i), cmpT (l[j]'(by omega)).nm.toList l[i].nm.toList < 0
def RisesTo (l : List AD) (k : Nat) : Prop := ∀ i (h : i < l.length), i < k → nameL l[i].nm.toList = true ∧ l[i].val.mayB = true ∧ ∀ j (hj : j + 1 = i), cmpT (l[j]'(by omega)).nm.toList l[i].nm.toList < 0
def BoolR (w w' : World) (e : Ending) (P : Prop) : Prop := ∃ b : Bool, e = .returned (.bool b) ∧ (b = true ↔ P) ∧ Keep [] w w'

end Go.Proofs.YtncbanpimfhhbaaGreatDoor


/- The document's Args. -/
namespace Go.Proofs.YtncbanpimfhhbaaGreatDoor
open Go.RowKit Go.PlainAid

open Classical in
/-- what Args answers: the number of the error, or 0 -/
noncomputable def argsZ (l : List AD) : Int := if l.length ≤ 16 ∧ Rises l then 0 else 41
theorem argsZ_yes {l : List AD} (h1 : l.length ≤ 16) (h2 : Rises l) : argsZ l = 0 := if_pos ⟨h1, h2⟩
theorem argsZ_long {l : List AD} (h1 : 16 < l.length) : argsZ l = 41 := if_neg (fun h => by omega)
theorem argsZ_no {l : List AD} (h2 : ¬ Rises l) : argsZ l = 41 := if_neg (fun h => h2 h.2)

theorem ret_i64 {a b : Int} (h : a = b) : Ending.returned (.int .i64 a) = .returned (.int .i64 b) := by rw [h]

end Go.Proofs.YtncbanpimfhhbaaGreatDoor


/- Two arguments: are they the same? the program's sameArg, the document's SameArg. -/
namespace Go.Proofs.YtncbanpimfhhbaaGreatDoor
open Go.RowKit Go.PlainAid

abbrev AD.agg (x : AD) (u : Value) : Value := .agg #[.string x.nm, .int .i64 x.val.kind, .bool x.val.bool, .int .i64 x.val.int, .float .f32 x.val.real, .string x.val.text, u]

set_option maxRecDepth 1000000 in
set_option maxHeartbeats 1600000 in
theorem sameArg_any (x y : AD) (hx : x.val.Ok) (hy : y.val.Ok) (u v : Value) (w : World) (hu : Ts w u x.val.texts) (hv : Ts w v y.val.texts) :
    Calls Tryz.prog 22 #[x.agg u, y.agg v] w fun e w' => e = .returned (.bool (sameA x y)) ∧ Keep [] w w' := by
  have HC : Hid (∀ w1, Keep [] w w1 → Calls Tryz.prog 8 #[x.val.val u, y.val.val v] w1 fun e w' => e = .returned (.bool (sameV x.val y.val)) ∧ Keep [] w1 w') := fun w1 k1 => same_any _ _ hx hy u v w1 (hu.keep k1 (Off.nil _)) (hv.keep k1 (Off.nil _))
  have HSm : Hid (sameA x y = (decide (x.nm = y.nm) && sameV x.val y.val)) := rfl
  obtain ⟨a1, c1, rfl, _, _, _, _⟩ := hu.ex
  obtain ⟨a2, c2, rfl, _, _, _, _⟩ := hv.ex
  have hsf := store_f32
  simp only [Go.stored] at hsf
  clear hu hv hx hy
  by_cases hnm : x.nm = y.nm
  · have HR : Hid (sameA x y = sameV x.val y.val) := by show _ = _; rw [HSm.out]; simp [hnm]
    rw [HR.out]
    obtain ⟨nx, vx⟩ := x
    obtain ⟨ny, vy⟩ := y
    simp only at hnm HC ⊢
    subst hnm
    clear HSm HR
    go_enter Tryz.func22, Tryz.ntmps22
    go_wp2_with fail
    refine (HC.out _ (((Keep.refl [] w).alloc _).alloc _)).mono ?_
    rintro e w1 ⟨rfl, k1⟩
    have HK : Hid (Keep [] w w1) := (((Keep.refl [] w).alloc _).alloc _).trans' k1
    clear k1 HC
    go_wp2
    go_ret
    exact ⟨rfl, HK.out⟩
  · have HR : Hid (sameA x y = false) := by show _ = _; rw [HSm.out]; simp [hnm]
    rw [HR.out]
    have hnq : (x.nm.toList == y.nm.toList) = false := by
      have : x.nm.toList ≠ y.nm.toList := fun e => hnm (toList_inj e)
      simpa using this
    clear HSm HR HC hnm
    go_enter Tryz.func22, Tryz.ntmps22
    go_wp2
    go_ret
    exact ⟨rfl, ((Keep.refl [] w).alloc _).alloc _⟩
end Go.Proofs.YtncbanpimfhhbaaGreatDoor


/- The program's SameArgs. -/
namespace Go.Proofs.YtncbanpimfhhbaaGreatDoor
open Go.RowKit Go.PlainAid

set_option maxRecDepth 1000000 in
set_option maxHeartbeats 6400000 in
theorem equalFunc_any (u v : Value) (l m : List AD) (w : World) (hu : As w u l) (hv : As w v m) :
    Calls Tryz.prog 21 #[u, v, .func (.func 22) #[] #[]] w fun e w' => e = .returned (.bool (sameAL l m)) ∧ Keep [] w w' := by
  obtain ⟨ao, ca, rfl, p1, p2, p3⟩ := hu.ex
  obtain ⟨bo, cb, rfl, q1, q2, q3⟩ := hv.ex
  have HE : Hid ((l ≠ [] → ∃ b o, ao = some ⟨b, o, none⟩ ∧ ∀ i (h : i < l.length), ∃ u, ArgC w b (o + i * 7) l[i] u ∧ Ts w u l[i].val.texts) ∧ (m ≠ [] → ∃ b o, bo = some ⟨b, o, none⟩ ∧ ∀ i (h : i < m.length), ∃ u, ArgC w b (o + i * 7) m[i] u ∧ Ts w u m[i].val.texts) ∧ (∀ x ∈ l, x.val.Ok) ∧ (∀ x ∈ m, x.val.Ok)) := ⟨p3, q3, hu.ok, hv.ok⟩
  clear p3 q3 hu hv
  by_cases hlen : l.length = m.length
  · have hR : sameAL l m = true ↔ ∀ i (h1 : i < l.length) (h2 : i < m.length), sameA l[i] m[i] = true := by rw [sameAL_iff]; exact ⟨fun h => h.2, fun h => ⟨hlen, h⟩⟩
    have HR : Hid (sameAL l m = true ↔ ∀ i (h1 : i < l.length) (h2 : i < m.length), sameA l[i] m[i] = true) := hR
    have HN : Hid (∀ i (h1 : i < l.length) (h2 : i < m.length), sameA l[i] m[i] = false → sameAL l m = false) := fun i h1 h2 h => sameAL_not i h1 h2 h
    obtain ⟨res, HRS⟩ : ∃ res : Bool, Hid (res = sameAL l m) := ⟨_, show _ = _ from rfl⟩
    rw [← HRS.out] at HR HN ⊢
    obtain ⟨nn, HNN⟩ : ∃ nn : Nat, Hid (nn = l.length) := ⟨_, show _ = _ from rfl⟩
    rw [← hlen, ← HNN.out]
    rw [← hlen] at q1
    rw [← HNN.out] at p1 q1
    have HLM : Hid (nn = l.length ∧ nn = m.length) := ⟨HNN.out, HNN.out.trans hlen⟩
    clear hR hlen HNN HRS
    go_enter Tryz.func21, Tryz.ntmps21
    go_wp2
    go_loopw [17] (fun iv wr => ∃ k : Nat, iv = .int .i64 (k : Int) ∧ k ≤ nn ∧ Hid (Keep [] w wr ∧ ∀ i (h1 : i < l.length) (h2 : i < m.length), i < k → sameA l[i] m[i] = true)) (fun iv _ => nn - (intOf iv).toNat)
    case atStart => exact ⟨0, rfl, Nat.zero_le _, Keep.refl _ _, fun i _ _ h => absurd h (Nat.not_lt_zero i)⟩
    case round =>
      obtain ⟨k, rfl, hk, HI⟩ := hrel
      by_cases hlt : k < nn
      · have hlti : (k : Int) < (nn : Int) := by omega
        have hl1 : k < l.length := by rw [← HLM.out.1]; exact hlt
        have hl2 : k < m.length := by rw [← HLM.out.2]; exact hlt
        obtain ⟨b, o, rfl, hat⟩ := HE.out.1 (by intro hz; rw [hz] at hl1; simp at hl1)
        obtain ⟨b2, o2, rfl, hat2⟩ := HE.out.2.1 (by intro hz; rw [hz] at hl2; simp at hl2)
        obtain ⟨t1, hA, ht1⟩ := hat k hl1
        obtain ⟨t2, hB, ht2⟩ := hat2 k hl2
        have ok1 := HE.out.2.2.1 l[k] (List.getElem_mem hl1)
        have ok2 := HE.out.2.2.2 m[k] (List.getElem_mem hl2)
        have HC0 : ∀ w1, Keep [] w w1 → Calls Tryz.prog 22 #[l[k].agg t1, m[k].agg t2] w1 fun e w' => e = .returned (.bool (sameA l[k] m[k])) ∧ Keep [] w1 w' := fun w1 k1 => sameArg_any _ _ ok1 ok2 t1 t2 w1 (ht1.keep k1 (Off.nil _)) (ht2.keep k1 (Off.nil _))
        have HK : Hid (Keep [] w wr) := HI.out.1
        have HF : Hid (sameA l[k] m[k] = false → res = false) := HN.out k hl1 hl2
        have HG : Hid (sameA l[k] m[k] = true → ∀ i (h1 : i < l.length) (h2 : i < m.length), i < k + 1 → sameA l[i] m[i] = true) := fun h i h1 h2 hi => by
          by_cases e : i = k
          · subst e; exact h
          · exact HI.out.2 i h1 h2 (by omega)
        obtain ⟨a1, c1, rfl, _, _, _, _⟩ := ht1.ex
        obtain ⟨a2, c2, rfl, _, _, _, _⟩ := ht2.ex
        clear ht1 ht2 ok1 ok2 hat hat2 HI HN
        generalize l[k].val.texts.length = n1 at hA HC0
        generalize m[k].val.texts.length = n2 at hB HC0
        generalize l[k] = x at hA HC0 HF HG
        generalize m[k] = y at hB HC0 HF HG
        obtain ⟨sb, HSB⟩ : ∃ sb : Bool, Hid (sb = sameA x y) := ⟨_, show _ = _ from rfl⟩
        have HC : Hid (∀ w1, Keep [] w w1 → Calls Tryz.prog 22 #[x.agg (.slice a1 n1 c1), y.agg (.slice a2 n2 c2)] w1 fun e w' => e = .returned (.bool sb) ∧ Keep [] w1 w') := by rw [HSB.out]; exact HC0
        obtain ⟨e0, e1, e2, e3, e4, e5, e6⟩ := hA.keep HK.out
        obtain ⟨d0, d1, d2, d3, d4, d5, d6⟩ := hB.keep (HK.out.alloc (.cells #[.string x.nm, .int .i64 x.val.kind, .bool x.val.bool, .int .i64 x.val.int, .float .f32 x.val.real, .string x.val.text, .slice a1 n1 c1] 33))
        have hsf := store_f32
        simp only [Go.stored] at hsf
        clear HC0 hA hB
        go_wp2_with fail
        refine (HC.out _ ((HK.out.alloc _).alloc _)).mono ?_
        rintro e w1 ⟨rfl, k1⟩
        have HZ : Hid (Keep [] w w1) := ((HK.out.alloc _).alloc _).trans' k1
        clear k1 e0 e1 e2 e3 e4 e5 e6 d0 d1 d2 d3 d4 d5 d6 hsf HC
        cases sb with
        | true =>
          have HQ : Hid (∀ i (h1 : i < l.length) (h2 : i < m.length), i < k + 1 → sameA l[i] m[i] = true) := HG.out HSB.out.symm
          clear HSB HG HF
          go_wp2
          go_roundw
          case rel => exact ⟨k + 1, by go_num, by omega, HZ.out, HQ.out⟩
          case measure => simp [intOf]; omega
        | false =>
          have HQ : Hid (res = false) := HF.out HSB.out.symm
          clear HSB HG HF
          go_wp2
          go_ret
          exact ⟨ret_bool HQ.out.symm, HZ.out⟩
      · have hlti : ¬ (k : Int) < (nn : Int) := by omega
        have HQ : Hid (res = true) := HR.out.2 (fun i h1 h2 => HI.out.2 i h1 h2 (by have := HLM.out.1; omega))
        have HZ : Hid (Keep [] w wr) := HI.out.1
        clear HI
        go_wp2
        go_ret
        exact ⟨ret_bool HQ.out.symm, HZ.out⟩
  · have HQ : Hid (sameAL l m = false) := sameAL_len hlen
    rw [HQ.out]
    have hq : ((l.length : Int) != (m.length : Int)) = true := by simp; omega
    have hq2 : ((l.length : Int) == (m.length : Int)) = false := by simp; omega
    go_enter Tryz.func21, Tryz.ntmps21
    go_wp2
    go_ret
    exact ⟨rfl, Keep.refl _ _⟩

theorem sameArgs_any (u v : Value) (l m : List AD) (w : World) (hu : As w u l) (hv : As w v m) :
    Calls Tryz.prog 9 #[u, v] w fun e w' => e = .returned (.bool (sameAL l m)) ∧ Keep [] w w' := by
  have H : Hid (Calls Tryz.prog 21 #[u, v, .func (.func 22) #[] #[]] w fun e w' => e = .returned (.bool (sameAL l m)) ∧ Keep [] w w') := equalFunc_any u v l m w hu hv
  obtain ⟨ao, ca, rfl, -⟩ := hu.ex
  obtain ⟨bo, cb, rfl, -⟩ := hv.ex
  clear hu hv
  generalize sameAL l m = r at H ⊢
  go_enter Tryz.func9, Tryz.ntmps9
  go_wp2_with fail
  refine H.out.mono ?_
  rintro e w1 ⟨rfl, k1⟩
  have HK : Hid (Keep [] w w1) := k1
  clear k1 H
  go_wp2
  go_ret
  exact ⟨rfl, HK.out⟩
end Go.Proofs.YtncbanpimfhhbaaGreatDoor

