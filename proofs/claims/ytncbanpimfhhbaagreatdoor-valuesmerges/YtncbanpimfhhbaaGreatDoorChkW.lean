/- Values as data, and may they be: Check, for every value. -/
import Derived.Test.YtncbanpimfhhbaaGreatDoorFloM
import Derived.Test.YtncbanpimfhhbaaGreatDoorAnyW

namespace Go.Proofs.YtncbanpimfhhbaaGreatDoor
open Go.RowKit Go.PlainAid Go.Lib

/-- the slice v reads as the texts l -/
structure Ts (w : World) (v : Value) (l : List ByteArray) : Prop where
  ex : ∃ ao cap, v = .slice ao l.length cap ∧ l.length ≤ cap ∧ cap ≤ 9223372036854775807 ∧ (∀ s ∈ l, s.size ≤ 9223372036854775807) ∧
    (l ≠ [] → ∃ b o, ao = some ⟨b, o, none⟩ ∧ ∀ j (h : j < l.length), w.cell? ⟨b, o + j, none⟩ = some (.string l[j]))

theorem Ts.nil (w : World) : Ts w (.slice none 0 0) [] := ⟨none, 0, rfl, by simp, by omega, (by intro s hs; cases hs), fun h => absurd rfl h⟩
theorem Ts.keep {F : List Nat} {w w' : World} {v : Value} {l : List ByteArray} (h : Ts w v l) (k : Keep F w w') (hn : Off v F) : Ts w' v l := by
  obtain ⟨ao, cap, rfl, h1, h2, h3, h4⟩ := h.ex
  refine ⟨ao, cap, rfl, h1, h2, h3, fun hl => ?_⟩
  obtain ⟨b, o, rfl, hc⟩ := h4 hl
  exact ⟨b, o, rfl, fun j hj => k.cell' (hc j hj) (hn b rfl)⟩

/-- a value: its fields -/
structure VD where
  kind : Int
  bool : Bool
  int : Int
  real : Nat
  text : ByteArray
  texts : List ByteArray

structure VD.Ok (p : VD) : Prop where
  kind0 : -9223372036854775808 ≤ p.kind
  kind1 : p.kind ≤ 9223372036854775807
  int0 : -9223372036854775808 ≤ p.int
  int1 : p.int ≤ 9223372036854775807
  real1 : p.real < 4294967296
  text1 : p.text.size ≤ 9223372036854775807

abbrev VD.val (p : VD) (u : Value) : Value := .agg #[.int .i64 p.kind, .bool p.bool, .int .i64 p.int, .float .f32 p.real, .string p.text, u]
abbrev VD.blk (p : VD) (u : Value) : Obj := .cells #[.int .i64 p.kind, .bool p.bool, .int .i64 p.int, .float .f32 p.real, .string p.text, u] 31

/-- a real that equals 0 -/
def zeroB (x : Nat) : Bool := x == 0 || x == 2147483648

theorem order_zero (x : Nat) (h : x < 4294967296) : (FloatKind.f32.format.order x 0 == some Ordering.eq) = zeroB x := by
  show (Ieee.single.order x 0 == some Ordering.eq) = zeroB x
  rw [order_any]
  have h0 : rungN 0 = 0 := rfl
  have h1 : srungZ 0 = 0 := rfl
  rw [h0, h1]
  unfold zeroB
  by_cases hz : x = 0 ∨ x = 2147483648
  · rcases hz with rfl | rfl <;> decide
  · have e1 : (x == 0) = false := by simp; omega
    have e2 : (x == 2147483648) = false := by simp; omega
    rw [e1, e2]
    split
    · rfl
    · have hne : srungZ x ≠ 0 := by unfold srungZ rungN; split <;> omega
      show (some (compareOfLessAndEq (srungZ x) 0) == some Ordering.eq) = (false || false)
      unfold compareOfLessAndEq
      by_cases hl : srungZ x < 0
      · rw [if_pos hl]; rfl
      · rw [if_neg hl, if_neg hne]; rfl

theorem tooLong_any (s : ByteArray) (w : World) (hs : s.size ≤ 9223372036854775807) :
    Calls Tryz.prog 70 #[.string s] w fun e w' => e = .returned (.bool (decide (256 < s.size))) ∧ w' = w := by
  by_cases h : 256 < s.size
  · rw [show decide (256 < s.size) = true by simpa using h]
    have hi : (256 : Int) < (s.size : Int) := by omega
    go_enter Tryz.func70, Tryz.ntmps70
    go_wp2
    go_ret
    exact ⟨rfl, rfl⟩
  · rw [show decide (256 < s.size) = false by simpa using h]
    have hi : ¬ ((256 : Int) < (s.size : Int)) := by omega
    go_enter Tryz.func70, Tryz.ntmps70
    go_wp2
    go_ret
    exact ⟨rfl, rfl⟩

def longI (l : List ByteArray) : Int := match l.findIdx? (fun s => decide (256 < s.size)) with
  | some i => (i : Int)
  | none => -1
def longB (l : List ByteArray) : Bool := l.any fun s => decide (256 < s.size)

theorem longI_none (l : List ByteArray) (h : ∀ j (hj : j < l.length), ¬ 256 < l[j].size) : longI l = -1 ∧ longB l = false := by
  have h1 : l.findIdx? (fun s => decide (256 < s.size)) = none := by
    rw [List.findIdx?_eq_none_iff]
    intro x hx
    obtain ⟨j, hj, rfl⟩ := List.getElem_of_mem hx
    simpa using h j hj
  refine ⟨by unfold longI; rw [h1], ?_⟩
  unfold longB
  rw [List.any_eq_false]
  intro x hx
  obtain ⟨j, hj, rfl⟩ := List.getElem_of_mem hx
  simpa using h j hj
theorem longI_some (l : List ByteArray) (k : Nat) (hk : k < l.length) (h : ∀ j (hj : j < l.length), j < k → ¬ 256 < l[j].size) (hl : 256 < l[k].size) : longI l = (k : Int) ∧ longB l = true := by
  have h1 : l.findIdx? (fun s => decide (256 < s.size)) = some k := by
    rw [List.findIdx?_eq_some_iff_getElem]
    exact ⟨hk, by simpa using hl, fun j hj => by simpa using h j (by omega) hj⟩
  refine ⟨by unfold longI; rw [h1], ?_⟩
  unfold longB
  rw [List.any_eq_true]
  exact ⟨l[k], List.getElem_mem hk, by simpa using hl⟩

set_option maxHeartbeats 1600000 in
theorem indexLong_any (v : Value) (l : List ByteArray) (w : World) (hv : Ts w v l) :
    Calls Tryz.prog 106 #[v, .func (.func 70) #[] #[]] w fun e w' => e = .returned (.int .i64 (longI l)) ∧ w' = w := by
  obtain ⟨ao, cap, rfl, h1, h2, h3, h4⟩ := hv.ex
  have HE : Hid ((l ≠ [] → ∃ b o, ao = some ⟨b, o, none⟩ ∧ ∀ j (h : j < l.length), w.cell? ⟨b, o + j, none⟩ = some (.string l[j])) ∧ ∀ s ∈ l, s.size ≤ 9223372036854775807) := ⟨h4, h3⟩
  clear h4 h3 hv
  go_enter Tryz.func106, Tryz.ntmps106
  go_wp2
  go_loop [8] (fun iv => ∃ k : Nat, iv = .int .i64 (k : Int) ∧ k ≤ l.length ∧ ∀ j (hj : j < l.length), j < k → ¬ 256 < l[j].size) (fun iv => l.length - (intOf iv).toNat)
  case atStart => exact ⟨0, rfl, Nat.zero_le _, fun j _ h => by omega⟩
  case round =>
    obtain ⟨k, rfl, hk, hall⟩ := hrel
    by_cases hkl : k < l.length
    · have hki : (k : Int) < (l.length : Int) := by omega
      obtain ⟨b, o, rfl, hc⟩ := HE.out.1 (by intro hz; rw [hz] at hkl; simp at hkl)
      have hck := hc k hkl
      have hT := tooLong_any l[k] w (HE.out.2 _ (List.getElem_mem hkl))
      by_cases hlong : 256 < l[k].size
      · rw [show decide (256 < l[k].size) = true by simpa using hlong] at hT
        have HR : Hid (longI l = (k : Int)) := (longI_some l k hkl hall hlong).1
        clear hc hall HE hlong
        generalize l[k] = s at hck hT
        go_wp2_with (go_at_call 70; refine hT.mono ?_; rintro e9 w9 ⟨rfl, hw9⟩; obtain rfl := hw9.symm)
        go_ret
        exact ⟨by rw [HR.out]; rfl, rfl⟩
      · rw [show decide (256 < l[k].size) = false by simpa using hlong] at hT
        have HA : Hid (∀ j (hj : j < l.length), j < k + 1 → ¬ 256 < l[j].size) := by
          intro j hj hjk
          by_cases e : j = k
          · subst e; exact hlong
          · exact hall j hj (by omega)
        clear hc hall hlong
        generalize l[k] = s at hck hT
        go_wp2_with (go_at_call 70; refine hT.mono ?_; rintro e9 w9 ⟨rfl, hw9⟩; obtain rfl := hw9.symm)
        go_round
        case rel => exact ⟨k + 1, by go_num, by omega, HA.out⟩
        case measure => simp [intOf]; omega
    · have hki : ¬ ((k : Int) < (l.length : Int)) := by omega
      have HR : Hid (longI l = -1) := (longI_none l (fun j hj => hall j hj (by omega))).1
      clear hall HE
      go_wp2
      go_ret
      exact ⟨by rw [HR.out]; rfl, rfl⟩

set_option maxHeartbeats 1600000 in
theorem containsLong_any (v : Value) (l : List ByteArray) (w : World) (hv : Ts w v l) :
    Calls Tryz.prog 69 #[v, .func (.func 70) #[] #[]] w fun e w' => e = .returned (.bool (longB l)) ∧ w' = w := by
  have hI := indexLong_any v l w hv
  by_cases h : ∃ k, ∃ hk : k < l.length, (∀ j (hj : j < l.length), j < k → ¬ 256 < l[j].size) ∧ 256 < l[k].size
  · obtain ⟨k, hk, h1, h2⟩ := h
    obtain ⟨e1, e2⟩ := longI_some l k hk h1 h2
    rw [e1] at hI
    rw [e2]
    clear hv h1 h2 e1 e2
    go_enter Tryz.func69, Tryz.ntmps69
    go_wp2_with (go_at_call 106; refine hI.mono ?_; rintro e9 w9 ⟨rfl, hw9⟩; obtain rfl := hw9.symm)
    go_ret
    exact ⟨rfl, rfl⟩
  · have hn : ∀ j (hj : j < l.length), ¬ 256 < l[j].size := by
      intro j
      induction j using Nat.strongRecOn with
      | _ j ih => exact fun hj hl => h ⟨j, hj, fun i hi hij => ih i hij hi, hl⟩
    obtain ⟨e1, e2⟩ := longI_none l hn
    rw [e1] at hI
    rw [e2]
    clear hv hn e1 e2 h
    go_enter Tryz.func69, Tryz.ntmps69
    go_wp2_with (go_at_call 106; refine hI.mono ?_; rintro e9 w9 ⟨rfl, hw9⟩; obtain rfl := hw9.symm)
    go_ret
    exact ⟨rfl, rfl⟩

/-- are all fields but the kind zero? -/
def VD.emptyB (p : VD) : Bool := !p.bool && (p.int == 0) && zeroB p.real && (p.text.size == 0) && p.texts.isEmpty
/-- within the limits -/
def VD.shortB (p : VD) : Bool := decide (p.text.size ≤ 256) && decide (p.texts.length ≤ 32) && !longB p.texts

theorem text_nil {t : ByteArray} (h : t.size = 0) : t = ⟨#[]⟩ := by
  cases t with
  | mk d => rw [show d = #[] from Array.eq_empty_of_size_eq_zero h]
theorem text_ne {t : ByteArray} (h : ¬ t.size = 0) : (t.toList == []) = false := by
  rw [beq_eq_false_iff_ne]
  intro e
  have : t.toList.length = t.size := by rw [ByteArray.toList_eq]; simp
  rw [e] at this
  simp at this
  omega

set_option maxRecDepth 100000 in
set_option maxHeartbeats 3200000 in
theorem empty_any (p : VD) (hp : p.Ok) (u : Value) (w : World) (hu : Ts w u p.texts) :
    Calls Tryz.prog 37 #[p.val u] w fun e w' => e = .returned (.bool p.emptyB) ∧ Keep [] w w' := by
  obtain ⟨ao, cap, rfl, h1, h2, h3, h4⟩ := hu.ex
  have hz := order_zero p.real hp.real1
  clear hu h3 h4 hp
  obtain ⟨kd, b, n, x, t, ts⟩ := p
  simp only [VD.emptyB, VD.val] at h1 hz ⊢
  cases b
  · by_cases hi : n = 0
    · subst hi
      cases hr : zeroB x
      · rw [hr] at hz
        go_enter Tryz.func37, Tryz.ntmps37
        go_wp2
        go_ret
        exact ⟨rfl, Keep.alloc1 _ _⟩
      · rw [hr] at hz
        by_cases ht : t.size = 0
        · obtain rfl := text_nil ht
          by_cases hl : ts.length = 0
          · obtain rfl := List.eq_nil_of_length_eq_zero hl
            go_enter Tryz.func37, Tryz.ntmps37
            go_wp2
            go_ret
            exact ⟨rfl, Keep.alloc1 _ _⟩
          · have hl' : ts.isEmpty = false := by cases ts; simp at hl; rfl
            have hl2 : ((ts.length : Int) == 0) = false := by rw [beq_eq_false_iff_ne]; omega
            rw [hl']
            go_enter Tryz.func37, Tryz.ntmps37
            go_wp2
            go_ret
            exact ⟨rfl, Keep.alloc1 _ _⟩
        · have ht2 := text_ne ht
          have ht3 : (t.size == 0) = false := by simpa using ht
          rw [ht3]
          go_enter Tryz.func37, Tryz.ntmps37
          go_wp2
          go_ret
          exact ⟨rfl, Keep.alloc1 _ _⟩
    · have hi' : (n == 0) = false := by simpa using hi
      rw [hi']
      go_enter Tryz.func37, Tryz.ntmps37
      go_wp2
      go_ret
      exact ⟨rfl, Keep.alloc1 _ _⟩
  · go_enter Tryz.func37, Tryz.ntmps37
    go_wp2
    go_ret
    exact ⟨rfl, Keep.alloc1 _ _⟩

set_option maxRecDepth 100000 in
set_option maxHeartbeats 3200000 in
theorem short_any (p : VD) (hp : p.Ok) (u : Value) (w : World) (hu : Ts w u p.texts) :
    Calls Tryz.prog 38 #[p.val u] w fun e w' => e = .returned (.bool p.shortB) ∧ Keep [] w w' := by
  have hC := containsLong_any u p.texts (w.alloc (p.blk u)) (hu.keep (Keep.alloc1 w _) (Off.nil _))
  obtain ⟨ao, cap, rfl, h1, h2, h3, h4⟩ := hu.ex
  have ht := hp.text1
  clear hu h3 h4 hp
  obtain ⟨kd, b, n, x, t, ts⟩ := p
  simp only [VD.shortB, VD.val] at h1 ht hC ⊢
  by_cases hl : t.size ≤ 256
  · have hli : (t.size : Int) ≤ 256 := by omega
    by_cases hm : ts.length ≤ 32
    · have hmi : (ts.length : Int) ≤ 32 := by omega
      rw [show decide (t.size ≤ 256) = true by simpa using hl, show decide (ts.length ≤ 32) = true by simpa using hm]
      cases hb : longB ts <;> rw [hb] at hC
      all_goals
        go_enter Tryz.func38, Tryz.ntmps38
        go_wp2_with (go_at_call 69; refine hC.mono ?_; rintro e9 w9 ⟨rfl, hw9⟩; obtain rfl := hw9.symm)
        go_ret
        exact ⟨rfl, Keep.alloc1 _ _⟩
    · have hmi : ¬ ((ts.length : Int) ≤ 32) := by omega
      rw [show decide (t.size ≤ 256) = true by simpa using hl, show decide (ts.length ≤ 32) = false by simpa using hm]
      clear hC
      go_enter Tryz.func38, Tryz.ntmps38
      go_wp2
      go_ret
      exact ⟨rfl, Keep.alloc1 _ _⟩
  · have hli : ¬ ((t.size : Int) ≤ 256) := by omega
    rw [show decide (t.size ≤ 256) = false by simpa using hl]
    clear hC
    go_enter Tryz.func38, Tryz.ntmps38
    go_wp2
    go_ret
    exact ⟨rfl, Keep.alloc1 _ _⟩

/-- the value without what its kind holds -/
def VD.clear (p : VD) : VD :=
  if p.kind = 1 then { p with bool := false } else if p.kind = 2 then { p with int := 0 } else if p.kind = 3 then { p with real := 0 } else if p.kind = 4 then { p with text := ⟨#[]⟩ } else { p with texts := [] }
/-- may it be? -/
def VD.mayB (p : VD) : Bool := decide (1 ≤ p.kind ∧ p.kind ≤ 5) && p.clear.emptyB && p.shortB

end Go.Proofs.YtncbanpimfhhbaaGreatDoor



/- May a value be: Check, for every value. -/
namespace Go.Proofs.YtncbanpimfhhbaaGreatDoor
open Go.RowKit Go.PlainAid Go.Lib

theorem box_cells {w w1 : World} {v0 v1 v2 v3 v4 v5 : Value} {t : TypeId} {o : Obj} (k : Keep [] ((w.alloc (.cells #[v0, v1, v2, v3, v4, v5] t)).alloc o) w1) :
    w1.cell? ⟨w.heap.size, 0, none⟩ = some v0 ∧ w1.cell? ⟨w.heap.size, 1, none⟩ = some v1 ∧ w1.cell? ⟨w.heap.size, 2, none⟩ = some v2 ∧ w1.cell? ⟨w.heap.size, 3, none⟩ = some v3 ∧ w1.cell? ⟨w.heap.size, 4, none⟩ = some v4 ∧ w1.cell? ⟨w.heap.size, 5, none⟩ = some v5 := by
  refine ⟨k.cell' ?_ (by simp), k.cell' ?_ (by simp), k.cell' ?_ (by simp), k.cell' ?_ (by simp), k.cell' ?_ (by simp), k.cell' ?_ (by simp)⟩ <;> simp [go_sem]
theorem store_f32 (a : Addr) (x : Nat) (w : World) : (store a (.float .f32 x)).run Tryz.prog w = Go.stored Tryz.prog w a (.float .f32 x) .plain := run_store Tryz.prog w a _ .plain rfl

set_option maxRecDepth 100000 in
set_option maxHeartbeats 6400000 in
theorem check_any (p : VD) (hp : p.Ok) (u : Value) (w : World) (hu : Ts w u p.texts) :
    Calls Tryz.prog 17 #[p.val u] w fun e w' => e = .returned (.int .i64 (if p.mayB then 0 else 40)) ∧ Keep [] w w' := by
  obtain ⟨ao, cap, rfl, hl1, hl2, _, _⟩ := hu.ex
  obtain ⟨kd, b, n, x, t, ts⟩ := p
  have hsf := store_f32
  simp only [Go.stored] at hsf
  simp only [VD.val] at *
  by_cases h1 : kd = 1
  · subst h1
    have hE : ∀ w1, Keep [] w w1 → Calls Tryz.prog 37 #[VD.val ⟨1, false, n, x, t, ts⟩ (.slice ao ts.length cap)] w1 fun e w' => e = .returned (.bool (VD.emptyB ⟨1, false, n, x, t, ts⟩)) ∧ Keep [] w1 w' := fun w1 k1 => by
      refine (empty_any ⟨1, false, n, x, t, ts⟩ ⟨by simp, by simp, hp.int0, hp.int1, hp.real1, hp.text1⟩ (.slice ao ts.length cap) w1 (hu.keep k1 (Off.nil _))).mono ?_
      rintro e w2 ⟨rfl, k2⟩
      exact ⟨rfl, k2⟩
    have hS : ∀ w1, Keep [] w w1 → Calls Tryz.prog 38 #[VD.val ⟨1, b, n, x, t, ts⟩ (.slice ao ts.length cap)] w1 fun e w' => e = .returned (.bool (VD.shortB ⟨1, b, n, x, t, ts⟩)) ∧ Keep [] w1 w' := fun w1 k1 => by
      refine (short_any ⟨1, b, n, x, t, ts⟩ hp _ w1 (hu.keep k1 (Off.nil _))).mono ?_
      rintro e w2 ⟨rfl, k2⟩
      exact ⟨rfl, k2⟩
    have hM : VD.mayB ⟨1, b, n, x, t, ts⟩ = (VD.emptyB ⟨1, false, n, x, t, ts⟩ && VD.shortB ⟨1, b, n, x, t, ts⟩) := by simp [VD.mayB, VD.clear]
    rw [hM]
    clear hM hu
    cases hq1 : VD.emptyB ⟨1, false, n, x, t, ts⟩ <;> rw [hq1] at hE
    · clear hS
      go_enter Tryz.func17, Tryz.ntmps17
      go_wp2_with fail
      refine (hE _ ((Keep.alloc1 w _).alloc _)).mono ?_
      rintro e1 w1 ⟨rfl, k1⟩
      have HK : Hid (Keep [] w w1) := (((Keep.alloc1 w _).alloc _)).trans' k1
      clear k1 hE
      go_wp2
      go_ret
      exact ⟨rfl, HK.out⟩
    · cases hq2 : VD.shortB ⟨1, b, n, x, t, ts⟩ <;> rw [hq2] at hS
      all_goals
        go_enter Tryz.func17, Tryz.ntmps17
        go_wp2_with fail
        refine (hE _ ((Keep.alloc1 w _).alloc _)).mono ?_
        rintro e1 w1 ⟨rfl, k1⟩
        obtain ⟨c0, c1, c2, c3, c4, c5⟩ := box_cells k1
        have HK : Hid (Keep [] w w1) := (((Keep.alloc1 w _).alloc _)).trans' k1
        clear k1 hE
        go_wp2_with fail
        refine (hS _ HK.out).mono ?_
        rintro e2 w2 ⟨rfl, k2⟩
        have HK2 : Hid (Keep [] w w2) := HK.out.trans' k2
        clear k2 hS
        go_wp2
        go_ret
        exact ⟨rfl, HK2.out⟩
  by_cases h2 : kd = 2
  · subst h2
    have hE : ∀ w1, Keep [] w w1 → Calls Tryz.prog 37 #[VD.val ⟨2, b, 0, x, t, ts⟩ (.slice ao ts.length cap)] w1 fun e w' => e = .returned (.bool (VD.emptyB ⟨2, b, 0, x, t, ts⟩)) ∧ Keep [] w1 w' := fun w1 k1 => by
      refine (empty_any ⟨2, b, 0, x, t, ts⟩ ⟨by simp, by simp, by simp, by simp, hp.real1, hp.text1⟩ (.slice ao ts.length cap) w1 (hu.keep k1 (Off.nil _))).mono ?_
      rintro e w2 ⟨rfl, k2⟩
      exact ⟨rfl, k2⟩
    have hS : ∀ w1, Keep [] w w1 → Calls Tryz.prog 38 #[VD.val ⟨2, b, n, x, t, ts⟩ (.slice ao ts.length cap)] w1 fun e w' => e = .returned (.bool (VD.shortB ⟨2, b, n, x, t, ts⟩)) ∧ Keep [] w1 w' := fun w1 k1 => by
      refine (short_any ⟨2, b, n, x, t, ts⟩ hp _ w1 (hu.keep k1 (Off.nil _))).mono ?_
      rintro e w2 ⟨rfl, k2⟩
      exact ⟨rfl, k2⟩
    have hM : VD.mayB ⟨2, b, n, x, t, ts⟩ = (VD.emptyB ⟨2, b, 0, x, t, ts⟩ && VD.shortB ⟨2, b, n, x, t, ts⟩) := by simp [VD.mayB, VD.clear]
    rw [hM]
    clear hM hu
    cases hq1 : VD.emptyB ⟨2, b, 0, x, t, ts⟩ <;> rw [hq1] at hE
    · clear hS
      go_enter Tryz.func17, Tryz.ntmps17
      go_wp2_with fail
      refine (hE _ ((Keep.alloc1 w _).alloc _)).mono ?_
      rintro e1 w1 ⟨rfl, k1⟩
      have HK : Hid (Keep [] w w1) := (((Keep.alloc1 w _).alloc _)).trans' k1
      clear k1 hE
      go_wp2
      go_ret
      exact ⟨rfl, HK.out⟩
    · cases hq2 : VD.shortB ⟨2, b, n, x, t, ts⟩ <;> rw [hq2] at hS
      all_goals
        go_enter Tryz.func17, Tryz.ntmps17
        go_wp2_with fail
        refine (hE _ ((Keep.alloc1 w _).alloc _)).mono ?_
        rintro e1 w1 ⟨rfl, k1⟩
        obtain ⟨c0, c1, c2, c3, c4, c5⟩ := box_cells k1
        have HK : Hid (Keep [] w w1) := (((Keep.alloc1 w _).alloc _)).trans' k1
        clear k1 hE
        go_wp2_with fail
        refine (hS _ HK.out).mono ?_
        rintro e2 w2 ⟨rfl, k2⟩
        have HK2 : Hid (Keep [] w w2) := HK.out.trans' k2
        clear k2 hS
        go_wp2
        go_ret
        exact ⟨rfl, HK2.out⟩
  by_cases h3 : kd = 3
  · subst h3
    have hE : ∀ w1, Keep [] w w1 → Calls Tryz.prog 37 #[VD.val ⟨3, b, n, 0, t, ts⟩ (.slice ao ts.length cap)] w1 fun e w' => e = .returned (.bool (VD.emptyB ⟨3, b, n, 0, t, ts⟩)) ∧ Keep [] w1 w' := fun w1 k1 => by
      refine (empty_any ⟨3, b, n, 0, t, ts⟩ ⟨by simp, by simp, hp.int0, hp.int1, by simp, hp.text1⟩ (.slice ao ts.length cap) w1 (hu.keep k1 (Off.nil _))).mono ?_
      rintro e w2 ⟨rfl, k2⟩
      exact ⟨rfl, k2⟩
    have hS : ∀ w1, Keep [] w w1 → Calls Tryz.prog 38 #[VD.val ⟨3, b, n, x, t, ts⟩ (.slice ao ts.length cap)] w1 fun e w' => e = .returned (.bool (VD.shortB ⟨3, b, n, x, t, ts⟩)) ∧ Keep [] w1 w' := fun w1 k1 => by
      refine (short_any ⟨3, b, n, x, t, ts⟩ hp _ w1 (hu.keep k1 (Off.nil _))).mono ?_
      rintro e w2 ⟨rfl, k2⟩
      exact ⟨rfl, k2⟩
    have hM : VD.mayB ⟨3, b, n, x, t, ts⟩ = (VD.emptyB ⟨3, b, n, 0, t, ts⟩ && VD.shortB ⟨3, b, n, x, t, ts⟩) := by simp [VD.mayB, VD.clear]
    rw [hM]
    clear hM hu
    cases hq1 : VD.emptyB ⟨3, b, n, 0, t, ts⟩ <;> rw [hq1] at hE
    · clear hS
      go_enter Tryz.func17, Tryz.ntmps17
      go_wp2_with fail
      refine (hE _ ((Keep.alloc1 w _).alloc _)).mono ?_
      rintro e1 w1 ⟨rfl, k1⟩
      have HK : Hid (Keep [] w w1) := (((Keep.alloc1 w _).alloc _)).trans' k1
      clear k1 hE
      go_wp2
      go_ret
      exact ⟨rfl, HK.out⟩
    · cases hq2 : VD.shortB ⟨3, b, n, x, t, ts⟩ <;> rw [hq2] at hS
      all_goals
        go_enter Tryz.func17, Tryz.ntmps17
        go_wp2_with fail
        refine (hE _ ((Keep.alloc1 w _).alloc _)).mono ?_
        rintro e1 w1 ⟨rfl, k1⟩
        obtain ⟨c0, c1, c2, c3, c4, c5⟩ := box_cells k1
        have HK : Hid (Keep [] w w1) := (((Keep.alloc1 w _).alloc _)).trans' k1
        clear k1 hE
        go_wp2_with fail
        refine (hS _ HK.out).mono ?_
        rintro e2 w2 ⟨rfl, k2⟩
        have HK2 : Hid (Keep [] w w2) := HK.out.trans' k2
        clear k2 hS
        go_wp2
        go_ret
        exact ⟨rfl, HK2.out⟩
  by_cases h4 : kd = 4
  · subst h4
    have hE : ∀ w1, Keep [] w w1 → Calls Tryz.prog 37 #[VD.val ⟨4, b, n, x, ⟨#[]⟩, ts⟩ (.slice ao ts.length cap)] w1 fun e w' => e = .returned (.bool (VD.emptyB ⟨4, b, n, x, ⟨#[]⟩, ts⟩)) ∧ Keep [] w1 w' := fun w1 k1 => by
      refine (empty_any ⟨4, b, n, x, ⟨#[]⟩, ts⟩ ⟨by simp, by simp, hp.int0, hp.int1, hp.real1, Nat.zero_le _⟩ (.slice ao ts.length cap) w1 (hu.keep k1 (Off.nil _))).mono ?_
      rintro e w2 ⟨rfl, k2⟩
      exact ⟨rfl, k2⟩
    have hS : ∀ w1, Keep [] w w1 → Calls Tryz.prog 38 #[VD.val ⟨4, b, n, x, t, ts⟩ (.slice ao ts.length cap)] w1 fun e w' => e = .returned (.bool (VD.shortB ⟨4, b, n, x, t, ts⟩)) ∧ Keep [] w1 w' := fun w1 k1 => by
      refine (short_any ⟨4, b, n, x, t, ts⟩ hp _ w1 (hu.keep k1 (Off.nil _))).mono ?_
      rintro e w2 ⟨rfl, k2⟩
      exact ⟨rfl, k2⟩
    have hM : VD.mayB ⟨4, b, n, x, t, ts⟩ = (VD.emptyB ⟨4, b, n, x, ⟨#[]⟩, ts⟩ && VD.shortB ⟨4, b, n, x, t, ts⟩) := by simp [VD.mayB, VD.clear]
    rw [hM]
    clear hM hu
    cases hq1 : VD.emptyB ⟨4, b, n, x, ⟨#[]⟩, ts⟩ <;> rw [hq1] at hE
    · clear hS
      go_enter Tryz.func17, Tryz.ntmps17
      go_wp2_with fail
      refine (hE _ ((Keep.alloc1 w _).alloc _)).mono ?_
      rintro e1 w1 ⟨rfl, k1⟩
      have HK : Hid (Keep [] w w1) := (((Keep.alloc1 w _).alloc _)).trans' k1
      clear k1 hE
      go_wp2
      go_ret
      exact ⟨rfl, HK.out⟩
    · cases hq2 : VD.shortB ⟨4, b, n, x, t, ts⟩ <;> rw [hq2] at hS
      all_goals
        go_enter Tryz.func17, Tryz.ntmps17
        go_wp2_with fail
        refine (hE _ ((Keep.alloc1 w _).alloc _)).mono ?_
        rintro e1 w1 ⟨rfl, k1⟩
        obtain ⟨c0, c1, c2, c3, c4, c5⟩ := box_cells k1
        have HK : Hid (Keep [] w w1) := (((Keep.alloc1 w _).alloc _)).trans' k1
        clear k1 hE
        go_wp2_with fail
        refine (hS _ HK.out).mono ?_
        rintro e2 w2 ⟨rfl, k2⟩
        have HK2 : Hid (Keep [] w w2) := HK.out.trans' k2
        clear k2 hS
        go_wp2
        go_ret
        exact ⟨rfl, HK2.out⟩
  by_cases h5 : kd = 5
  · subst h5
    have hE : ∀ w1, Keep [] w w1 → Calls Tryz.prog 37 #[VD.val ⟨5, b, n, x, t, []⟩ (.slice none 0 0)] w1 fun e w' => e = .returned (.bool (VD.emptyB ⟨5, b, n, x, t, []⟩)) ∧ Keep [] w1 w' := fun w1 k1 => by
      refine (empty_any ⟨5, b, n, x, t, []⟩ ⟨by simp, by simp, hp.int0, hp.int1, hp.real1, hp.text1⟩ (.slice none 0 0) w1 (Ts.nil _)).mono ?_
      rintro e w2 ⟨rfl, k2⟩
      exact ⟨rfl, k2⟩
    have hS : ∀ w1, Keep [] w w1 → Calls Tryz.prog 38 #[VD.val ⟨5, b, n, x, t, ts⟩ (.slice ao ts.length cap)] w1 fun e w' => e = .returned (.bool (VD.shortB ⟨5, b, n, x, t, ts⟩)) ∧ Keep [] w1 w' := fun w1 k1 => by
      refine (short_any ⟨5, b, n, x, t, ts⟩ hp _ w1 (hu.keep k1 (Off.nil _))).mono ?_
      rintro e w2 ⟨rfl, k2⟩
      exact ⟨rfl, k2⟩
    have hM : VD.mayB ⟨5, b, n, x, t, ts⟩ = (VD.emptyB ⟨5, b, n, x, t, []⟩ && VD.shortB ⟨5, b, n, x, t, ts⟩) := by simp [VD.mayB, VD.clear]
    rw [hM]
    clear hM hu
    cases hq1 : VD.emptyB ⟨5, b, n, x, t, []⟩ <;> rw [hq1] at hE
    · clear hS
      go_enter Tryz.func17, Tryz.ntmps17
      go_wp2_with fail
      refine (hE _ ((Keep.alloc1 w _).alloc _)).mono ?_
      rintro e1 w1 ⟨rfl, k1⟩
      have HK : Hid (Keep [] w w1) := (((Keep.alloc1 w _).alloc _)).trans' k1
      clear k1 hE
      go_wp2
      go_ret
      exact ⟨rfl, HK.out⟩
    · cases hq2 : VD.shortB ⟨5, b, n, x, t, ts⟩ <;> rw [hq2] at hS
      all_goals
        go_enter Tryz.func17, Tryz.ntmps17
        go_wp2_with fail
        refine (hE _ ((Keep.alloc1 w _).alloc _)).mono ?_
        rintro e1 w1 ⟨rfl, k1⟩
        obtain ⟨c0, c1, c2, c3, c4, c5⟩ := box_cells k1
        have HK : Hid (Keep [] w w1) := (((Keep.alloc1 w _).alloc _)).trans' k1
        clear k1 hE
        go_wp2_with fail
        refine (hS _ HK.out).mono ?_
        rintro e2 w2 ⟨rfl, k2⟩
        have HK2 : Hid (Keep [] w w2) := HK.out.trans' k2
        clear k2 hS
        go_wp2
        go_ret
        exact ⟨rfl, HK2.out⟩
  · have hM : VD.mayB ⟨kd, b, n, x, t, ts⟩ = false := by
      have : ¬ (1 ≤ kd ∧ kd ≤ 5) := by omega
      simp [VD.mayB, this]
    rw [hM]
    have g1 : (kd == 1) = false := by simpa using h1
    have g2 : (kd == 2) = false := by simpa using h2
    have g3 : (kd == 3) = false := by simpa using h3
    have g4 : (kd == 4) = false := by simpa using h4
    have g5 : (kd == 5) = false := by simpa using h5
    clear hu hM h1 h2 h3 h4 h5
    go_enter Tryz.func17, Tryz.ntmps17
    go_wp2
    go_ret
    exact ⟨rfl, ((Keep.alloc1 w _).alloc _)⟩

end Go.Proofs.YtncbanpimfhhbaaGreatDoor


