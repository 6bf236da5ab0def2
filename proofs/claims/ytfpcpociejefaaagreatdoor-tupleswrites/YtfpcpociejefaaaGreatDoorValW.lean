/- Values as data, and may they be: Check, for every value. -/
import Derived.Test.YtfpcpociejefaaaGreatDoorPsC
import Derived.Test.YtfpcpociejefaaaGreatDoorAnyW
namespace Go.Proofs.YtfpcpociejefaaaGreatDoor
open Go.RowKit Go.PlainAid Go.Lib
/-- the slice v reads as the texts l -/
structure Ts (w : World) (v : Value) (l : List ByteArray) : Prop where
 ex : ∃ ao cap, v = .slice ao l.length cap ∧ l.length ≤ cap ∧ cap ≤ 9223372036854775807 ∧ (∀ s ∈ l, s.size ≤ 9223372036854775807) ∧
  (l ≠ [] → ∃ b o, ao = some ⟨b, o, none⟩ ∧ ∀ j (h : j < l.length), w.cell? ⟨b, o + j, none⟩ = some (.string l[j]))
theorem Ts.nil (w : World) : Ts w (.slice none 0 0) [] := ⟨none, 0, rfl, by simp, by omega, (by intro s hs; cases hs), fun h => absurd rfl h⟩
theorem Ts.keep {F : List Nat} {w w' : World} {v : Value} {l : List ByteArray} (h : Ts w v l) (k : Keep F w w') (hn : Off v F) : Ts w' v l := by
 obtain ⟨ao, cap, rfl, h1, h2, h3, h4⟩ := h.ex
 refine ⟨ao, cap, rfl, h1, h2, h3, fun hl => ?_⟩
 obtain ⟨b, o, rfl, hc⟩ := h4 hl
 exact ⟨b, o, rfl, fun j hj => k.cell' (hc j hj) (hn b rfl)⟩
/-- a value: its fields -/
structure VD where
 kind : Int
 bool : Bool
 int : Int
 real : Nat
 text : ByteArray
 texts : List ByteArray
structure VD.Ok (p : VD) : Prop where
 kind0 : -9223372036854775808 ≤ p.kind
 kind1 : p.kind ≤ 9223372036854775807
 int0 : -9223372036854775808 ≤ p.int
 int1 : p.int ≤ 9223372036854775807
 real1 : p.real < 4294967296
 text1 : p.text.size ≤ 9223372036854775807
abbrev VD.val (p : VD) (u : Value) : Value := .agg #[.int .i64 p.kind, .bool p.bool, .int .i64 p.int, .float .f32 p.real, .string p.text, u]
abbrev VD.blk (p : VD) (u : Value) : Obj := .cells #[.int .i64 p.kind, .bool p.bool, .int .i64 p.int, .float .f32 p.real, .string p.text, u] 61
/-- a real that equals 0 -/
def zeroB (x : Nat) : Bool := x == 0 || x == 2147483648
theorem order_zero (x : Nat) (h : x < 4294967296) : (FloatKind.f32.format.order x 0 == some Ordering.eq) = zeroB x := by
 show (Ieee.single.order x 0 == some Ordering.eq) = zeroB x
 rw [order_any]
 have h0 : rungN 0 = 0 := rfl
 have h1 : srungZ 0 = 0 := rfl
 rw [h0, h1]
 unfold zeroB
 by_cases hz : x = 0 ∨ x = 2147483648
 ·rcases hz with rfl | rfl <;> decide
 ·have e1 : (x == 0) = false := by simp; omega
  have e2 : (x == 2147483648) = false := by simp; omega
  rw [e1, e2]
  split
  ·rfl
  ·have hne : srungZ x ≠ 0 := by unfold srungZ rungN; split <;> omega
   show (some (compareOfLessAndEq (srungZ x) 0) == some Ordering.eq) = (false || false)
   unfold compareOfLessAndEq
   by_cases hl : srungZ x < 0
   ·rw [if_pos hl]; rfl
   ·rw [if_neg hl, if_neg hne]; rfl
theorem tooLong_any (s : ByteArray) (w : World) (hs : s.size ≤ 9223372036854775807) :
  Calls Tryz.prog 91 #[.string s] w fun e w' => e = .returned (.bool (decide (256 < s.size))) ∧ w' = w := by
 by_cases h : 256 < s.size
 ·rw [show decide (256 < s.size) = true by simpa using h]
  have hi : (256 : Int) < (s.size : Int) := by omega
  go_enter Tryz.func91, Tryz.ntmps91
  go_wp2
  go_ret
  exact ⟨rfl, rfl⟩
 ·rw [show decide (256 < s.size) = false by simpa using h]
  have hi : ¬ ((256 : Int) < (s.size : Int)) := by omega
  go_enter Tryz.func91, Tryz.ntmps91
  go_wp2
  go_ret
  exact ⟨rfl, rfl⟩
def longI (l : List ByteArray) : Int := match l.findIdx? (fun s => decide (256 < s.size)) with
 | some i => (i : Int)
 | none => -1
def longB (l : List ByteArray) : Bool := l.any fun s => decide (256 < s.size)
theorem longI_none (l : List ByteArray) (h : ∀ j (hj : j < l.length), ¬ 256 < l[j].size) : longI l = -1 ∧ longB l = false := by
 have h1 : l.findIdx? (fun s => decide (256 < s.size)) = none := by
  rw [List.findIdx?_eq_none_iff]
  intro x hx
  obtain ⟨j, hj, rfl⟩ := List.getElem_of_mem hx
  simpa using h j hj
 refine ⟨by unfold longI; rw [h1], ?_⟩
 unfold longB
 rw [List.any_eq_false]
 intro x hx
 obtain ⟨j, hj, rfl⟩ := List.getElem_of_mem hx
 simpa using h j hj
theorem longI_some (l : List ByteArray) (k : Nat) (hk : k < l.length) (h : ∀ j (hj : j < l.length), j < k → ¬ 256 < l[j].size) (hl : 256 < l[k].size) : longI l = (k : Int) ∧ longB l = true := by
 have h1 : l.findIdx? (fun s => decide (256 < s.size)) = some k := by
  rw [List.findIdx?_eq_some_iff_getElem]
  exact ⟨hk, by simpa using hl, fun j hj => by simpa using h j (by omega) hj⟩
 refine ⟨by unfold longI; rw [h1], ?_⟩
 unfold longB
 rw [List.any_eq_true]
 exact ⟨l[k], List.getElem_mem hk, by simpa using hl⟩
set_option maxHeartbeats 1600000 in
theorem indexLong_any (v : Value) (l : List ByteArray) (w : World) (hv : Ts w v l) :
  Calls Tryz.prog 110 #[v, .func (.func 91) #[] #[]] w fun e w' => e = .returned (.int .i64 (longI l)) ∧ w' = w := by
 obtain ⟨ao, cap, rfl, h1, h2, h3, h4⟩ := hv.ex
 have HE : Hid ((l ≠ [] → ∃ b o, ao = some ⟨b, o, none⟩ ∧ ∀ j (h : j < l.length), w.cell? ⟨b, o + j, none⟩ = some (.string l[j])) ∧ ∀ s ∈ l, s.size ≤ 9223372036854775807) := ⟨h4, h3⟩
 clear h4 h3 hv
 go_enter Tryz.func110, Tryz.ntmps110
 go_wp2
 go_loop [8] (fun iv => ∃ k : Nat, iv = .int .i64 (k : Int) ∧ k ≤ l.length ∧ ∀ j (hj : j < l.length), j < k → ¬ 256 < l[j].size) (fun iv => l.length - (RowKit.intOf iv).toNat)
 case atStart => exact ⟨0, rfl, Nat.zero_le _, fun j _ h => by omega⟩
 case round =>
  obtain ⟨k, rfl, hk, hall⟩ := hrel
  by_cases hkl : k < l.length
  ·have hki : (k : Int) < (l.length : Int) := by omega
   obtain ⟨b, o, rfl, hc⟩ := HE.out.1 (by intro hz; rw [hz] at hkl; simp at hkl)
   have hck := hc k hkl
   have hT := tooLong_any l[k] w (HE.out.2 _ (List.getElem_mem hkl))
   by_cases hlong : 256 < l[k].size
   ·rw [show decide (256 < l[k].size) = true by simpa using hlong] at hT
    have HR : Hid (longI l = (k : Int)) := (longI_some l k hkl hall hlong).1
    clear hc hall HE hlong
    generalize l[k] = s at hck hT
    go_wp2_with (go_at_call 91; refine hT.mono ?_; rintro e9 w9 ⟨rfl, hw9⟩; obtain rfl := hw9.symm)
    go_ret
    exact ⟨by rw [HR.out]; rfl, rfl⟩
   ·rw [show decide (256 < l[k].size) = false by simpa using hlong] at hT
    have HA : Hid (∀ j (hj : j < l.length), j < k + 1 → ¬ 256 < l[j].size) := by
     intro j hj hjk
     by_cases e : j = k
     ·subst e; exact hlong
     ·exact hall j hj (by omega)
    clear hc hall hlong
    generalize l[k] = s at hck hT
    go_wp2_with (go_at_call 91; refine hT.mono ?_; rintro e9 w9 ⟨rfl, hw9⟩; obtain rfl := hw9.symm)
    go_round
    case rel => exact ⟨k + 1, by go_num, by omega, HA.out⟩
    case measure => simp [RowKit.intOf]; omega
  ·have hki : ¬ ((k : Int) < (l.length : Int)) := by omega
   have HR : Hid (longI l = -1) := (longI_none l (fun j hj => hall j hj (by omega))).1
   clear hall HE
   go_wp2
   go_ret
   exact ⟨by rw [HR.out]; rfl, rfl⟩
set_option maxHeartbeats 1600000 in
theorem containsLong_any (v : Value) (l : List ByteArray) (w : World) (hv : Ts w v l) :
  Calls Tryz.prog 90 #[v, .func (.func 91) #[] #[]] w fun e w' => e = .returned (.bool (longB l)) ∧ w' = w := by
 have hI := indexLong_any v l w hv
 by_cases h : ∃ k, ∃ hk : k < l.length, (∀ j (hj : j < l.length), j < k → ¬ 256 < l[j].size) ∧ 256 < l[k].size
 ·obtain ⟨k, hk, h1, h2⟩ := h
  obtain ⟨e1, e2⟩ := longI_some l k hk h1 h2
  rw [e1] at hI
  rw [e2]
  clear hv h1 h2 e1 e2
  go_enter Tryz.func90, Tryz.ntmps90
  go_wp2_with (go_at_call 110; refine hI.mono ?_; rintro e9 w9 ⟨rfl, hw9⟩; obtain rfl := hw9.symm)
  go_ret
  exact ⟨rfl, rfl⟩
 ·have hn : ∀ j (hj : j < l.length), ¬ 256 < l[j].size := by
   intro j
   induction j using Nat.strongRecOn with
   | _ j ih => exact fun hj hl => h ⟨j, hj, fun i hi hij => ih i hij hi, hl⟩
  obtain ⟨e1, e2⟩ := longI_none l hn
  rw [e1] at hI
  rw [e2]
  clear hv hn e1 e2 h
  go_enter Tryz.func90, Tryz.ntmps90
  go_wp2_with (go_at_call 110; refine hI.mono ?_; rintro e9 w9 ⟨rfl, hw9⟩; obtain rfl := hw9.symm)
  go_ret
  exact ⟨rfl, rfl⟩
/-- are all fields but the kind zero? -/
def VD.emptyB (p : VD) : Bool := !p.bool && (p.int == 0) && zeroB p.real && (p.text.size == 0) && p.texts.isEmpty
/-- within the limits -/
def VD.shortB (p : VD) : Bool := decide (p.text.size ≤ 256) && decide (p.texts.length ≤ 32) && !longB p.texts
theorem text_nil {t : ByteArray} (h : t.size = 0) : t = ⟨#[]⟩ := by
 cases t with
 | mk d => rw [show d = #[] from Array.eq_empty_of_size_eq_zero h]
theorem text_ne {t : ByteArray} (h : ¬ t.size = 0) : (t.toList == []) = false := by
 rw [beq_eq_false_iff_ne]
 intro e
 have : t.toList.length = t.size := by rw [ByteArray.toList_eq]; simp
 rw [e] at this
 simp at this
 omega
set_option maxRecDepth 100000 in
set_option maxHeartbeats 3200000 in
theorem empty_any (p : VD) (hp : p.Ok) (u : Value) (w : World) (hu : Ts w u p.texts) :
  Calls Tryz.prog 65 #[p.val u] w fun e w' => e = .returned (.bool p.emptyB) ∧ Keep [] w w' := by
 obtain ⟨ao, cap, rfl, h1, h2, h3, h4⟩ := hu.ex
 have hz := order_zero p.real hp.real1
 clear hu h3 h4 hp
 obtain ⟨kd, b, n, x, t, ts⟩ := p
 simp only [VD.emptyB, VD.val] at h1 hz ⊢
 cases b
 ·by_cases hi : n = 0
  ·subst hi
   cases hr : zeroB x
   ·rw [hr] at hz
    go_enter Tryz.func65, Tryz.ntmps65
    go_wp2
    go_ret
    exact ⟨rfl, Keep.alloc1 _ _⟩
   ·rw [hr] at hz
    by_cases ht : t.size = 0
    ·obtain rfl := text_nil ht
     by_cases hl : ts.length = 0
     ·obtain rfl := List.eq_nil_of_length_eq_zero hl
      go_enter Tryz.func65, Tryz.ntmps65
      go_wp2
      go_ret
      exact ⟨rfl, Keep.alloc1 _ _⟩
     ·have hl' : ts.isEmpty = false := by cases ts; simp at hl; rfl
      have hl2 : ((ts.length : Int) == 0) = false := by rw [beq_eq_false_iff_ne]; omega
      rw [hl']
      go_enter Tryz.func65, Tryz.ntmps65
      go_wp2
      go_ret
      exact ⟨rfl, Keep.alloc1 _ _⟩
    ·have ht2 := text_ne ht
     have ht3 : (t.size == 0) = false := by simpa using ht
     rw [ht3]
     go_enter Tryz.func65, Tryz.ntmps65
     go_wp2
     go_ret
     exact ⟨rfl, Keep.alloc1 _ _⟩
  ·have hi' : (n == 0) = false := by simpa using hi
   rw [hi']
   go_enter Tryz.func65, Tryz.ntmps65
   go_wp2
   go_ret
   exact ⟨rfl, Keep.alloc1 _ _⟩
 ·go_enter Tryz.func65, Tryz.ntmps65
  go_wp2
  go_ret
  exact ⟨rfl, Keep.alloc1 _ _⟩
set_option maxRecDepth 100000 in
set_option maxHeartbeats 3200000 in
theorem short_any (p : VD) (hp : p.Ok) (u : Value) (w : World) (hu : Ts w u p.texts) :
  Calls Tryz.prog 66 #[p.val u] w fun e w' => e = .returned (.bool p.shortB) ∧ Keep [] w w' := by
 have hC := containsLong_any u p.texts (w.alloc (p.blk u)) (hu.keep (Keep.alloc1 w _) (Off.nil _))
 obtain ⟨ao, cap, rfl, h1, h2, h3, h4⟩ := hu.ex
 have ht := hp.text1
 clear hu h3 h4 hp
 obtain ⟨kd, b, n, x, t, ts⟩ := p
 simp only [VD.shortB, VD.val] at h1 ht hC ⊢
 by_cases hl : t.size ≤ 256
 ·have hli : (t.size : Int) ≤ 256 := by omega
  by_cases hm : ts.length ≤ 32
  ·have hmi : (ts.length : Int) ≤ 32 := by omega
   rw [show decide (t.size ≤ 256) = true by simpa using hl, show decide (ts.length ≤ 32) = true by simpa using hm]
   cases hb : longB ts <;> rw [hb] at hC
   all_goals
    go_enter Tryz.func66, Tryz.ntmps66
    go_wp2_with (go_at_call 90; refine hC.mono ?_; rintro e9 w9 ⟨rfl, hw9⟩; obtain rfl := hw9.symm)
    go_ret
    exact ⟨rfl, Keep.alloc1 _ _⟩
  ·have hmi : ¬ ((ts.length : Int) ≤ 32) := by omega
   rw [show decide (t.size ≤ 256) = true by simpa using hl, show decide (ts.length ≤ 32) = false by simpa using hm]
   clear hC
   go_enter Tryz.func66, Tryz.ntmps66
   go_wp2
   go_ret
   exact ⟨rfl, Keep.alloc1 _ _⟩
 ·have hli : ¬ ((t.size : Int) ≤ 256) := by omega
  rw [show decide (t.size ≤ 256) = false by simpa using hl]
  clear hC
  go_enter Tryz.func66, Tryz.ntmps66
  go_wp2
  go_ret
  exact ⟨rfl, Keep.alloc1 _ _⟩
/-- the value without what its kind holds -/
def VD.clear (p : VD) : VD :=
 if p.kind = 1 then { p with bool := false } else if p.kind = 2 then { p with int := 0 } else if p.kind = 3 then { p with real := 0 } else if p.kind = 4 then { p with text := ⟨#[]⟩ } else { p with texts := [] }
/-- may it be? -/
def VD.mayB (p : VD) : Bool := decide (1 ≤ p.kind ∧ p.kind ≤ 5) && p.clear.emptyB && p.shortB
end Go.Proofs.YtfpcpociejefaaaGreatDoor
