/- The document's worth of a float, and how a number stands to it. -/
import Derived.Test.YtnljpbpphdhnpaaGreatDoorBigE
import Derived.Handy
import Derived.Deep.RegionHeld3
import Derived.Test.YtnljpbpphdhnpaaGreatDoorRlA
import Derived.Test.YtnljpbpphdhnpaaGreatDoorFtB
import Derived.Lib.ItoaNum
import Derived.Lib.TrimByte

namespace Go.Proofs.YtnljpbpphdhnpaaGreatDoor
open Go.RowKit Go.PlainAid

theorem powers_int (v : Value) (N K : Nat) (k : Int) (w : World) (h : Big w v N K) (hK : K ≤ 1000) (hk : k ≤ 1000) :
    Calls Tryz.prog 57 #[v, .int .i64 2, .int .i64 k] w fun e w' => ∃ v', e = .returned v' ∧ (Big w' v' (N * 2 ^ k.toNat) (K + k.toNat) ∧ (v' = v ∨ Fresh w w' v')) ∧ Keep [] w w' := by
  by_cases h0 : k ≤ 0
  · refine (powers_neg v k h0 w).mono ?_
    rintro e w' ⟨rfl, rfl⟩
    rw [show k.toNat = 0 by omega]
    exact ⟨v, rfl, ⟨by simpa using h, .inl rfl⟩, Keep.refl _ _⟩
  · have hc := powers_two v N K k.toNat w h hK (by omega)
    rw [show ((k.toNat : Nat) : Int) = k by omega] at hc
    refine hc.mono ?_
    exact fun _ _ h => h

theorem Big.one (w : World) : Big (w.alloc (.cells #[.int .i64 1] TI)) (.slice (some ⟨w.heap.size, 0, none⟩) 1 1) 1 1 :=
  ⟨[1], Is.one w 1, fun x hx => by simp at hx; omega, fun _ => by decide, rfl, by simp⟩

theorem Big.sl {w : World} {v : Value} {N K : Nat} (h : Big w v N K) : ∃ a n c, v = .slice a n c := by
  obtain ⟨l, hl, _⟩ := h
  obtain ⟨ao, cap, he, _⟩ := hl.ex
  exact ⟨ao, _, cap, he⟩
theorem Fresh.off1 {w w' : World} {o : Obj} {v : Value} (h : Fresh (w.alloc o) w' v) : Off v [w.heap.size] := fun k hk hn => by
  have := (h k hk).1
  simp at this hn
  omega

set_option maxRecDepth 1000000 in
set_option maxHeartbeats 3200000 in
theorem worth_any (m : Nat) (e : Int) (hm : m < 18446744073709551616) (he1 : -500 ≤ e) (he2 : e ≤ 500) (w : World) :
    Calls Tryz.prog 64 #[.int .u64 (m : Int), .int .i64 e] w fun r w' => ∃ va vb, r = .returned (.agg #[va, vb]) ∧ (Big w' va (m * 2 ^ e.toNat) 1000 ∧ Big w' vb (2 ^ (-e).toNat) 1000) ∧ Keep [] w w' := by
  go_enter Tryz.func64, Tryz.ntmps64
  go_wp2_with fail
  refine (number_big m hm _).mono ?_
  rintro e9 w1 ⟨v1, rfl, hb1, hf1, hk1⟩
  go_wp2_with fail
  refine (powers_int v1 m 3 e _ hb1 (by omega) (by omega)).mono ?_
  rintro e9 w2 ⟨va, rfl, ⟨hba, hoa⟩, hka⟩
  go_wp2_with fail
  refine (powers_int _ 1 1 (-e) _ (Big.one w2) (by omega) (by omega)).mono ?_
  rintro e9 w3 ⟨vb, rfl, ⟨hbb, hob⟩, hkb⟩
  have K1 : Keep [] (w.alloc (Obj.cells #[Value.slice none 0 0, Value.slice none 0 0] 57)) w2 := hk1.trans' hka
  have K2 : Keep [] (w.alloc (Obj.cells #[Value.slice none 0 0, Value.slice none 0 0] 57)) w3 := (K1.alloc _).trans' hkb
  have K3 : Keep [] w2 w3 := (Keep.alloc1 w2 _).trans' hkb
  have s1 := hk1.size
  have s2 := hka.size
  simp at s1
  have HA : Hid (Big w3 va (m * 2 ^ e.toNat) 1000 ∧ Off va [w.heap.size]) := ⟨(hba.keep K3 (Off.nil _)).mono (by omega), by
    rcases hoa with rfl | h
    · exact hf1.off1
    · exact (h.earlier (w0 := w.alloc (Obj.cells #[Value.slice none 0 0, Value.slice none 0 0] 57)) (by simpa using s1)).off1⟩
  have HBb : Hid (Big w3 vb (2 ^ (-e).toNat) 1000 ∧ Off vb [w.heap.size]) := ⟨by rw [Nat.one_mul] at hbb; exact hbb.mono (by omega), by
    rcases hob with rfl | h
    · intro k hk hn
      simp [Value.ownBlock] at hk hn
      omega
    · intro k hk hn
      have := (h k hk).1
      simp at this hn
      omega⟩
  have HK : Hid (Keep [] w w3) := (show Keep [] w w3 from ((Keep.alloc1 w _).trans' K2))
  have hc0 : w3.cell? ⟨w.heap.size, 0, none⟩ = some (.slice none 0 0) := K2.cell' (by simp) (by simp)
  have hc1 : w3.cell? ⟨w.heap.size, 1, none⟩ = some (.slice none 0 0) := K2.cell' (by simp) (by simp)
  have hf0 : w3.frozen? ⟨w.heap.size, 0, none⟩ = false := (K2.frozen (by simp) (by simp)).trans (by simp)
  have hf9 : w3.frozen? ⟨w.heap.size, 1, none⟩ = false := (K2.frozen (by simp) (by simp)).trans (by simp)
  obtain ⟨ao, na, ca, rfl⟩ := hba.sl
  obtain ⟨bo, nb, cb, rfl⟩ := hbb.sl
  clear hb1 hf1 hk1 hba hoa hka hbb hob hkb K1 K2 K3 s1 s2
  have HG : Hid (w.heap.size ≤ w.heap.size) := Nat.le_refl _
  generalize hgg : w.heap.size = g at *
  have HG : Hid (w.heap.size ≤ g) := show w.heap.size ≤ g by omega
  clear hgg
  have hd1 : (w3.setCell ⟨g, 0, none⟩ (.slice ao na ca)).cell? ⟨g, 1, none⟩ = some (.slice none 0 0) := by rw [World.cell?_setCell_other _ _ _ _ (by simp)]; exact hc1
  have d1 : ((w3.setCell ⟨g, 0, none⟩ (.slice ao na ca)).setCell ⟨g, 1, none⟩ (.slice bo nb cb)).cell? ⟨g, 1, none⟩ = some (.slice bo nb cb) := World.cell?_setCell_same _ _ _ hd1
  have d0 : ((w3.setCell ⟨g, 0, none⟩ (.slice ao na ca)).setCell ⟨g, 1, none⟩ (.slice bo nb cb)).cell? ⟨g, 0, none⟩ = some (.slice ao na ca) := by
    rw [World.cell?_setCell_other _ _ _ _ (by simp)]; exact World.cell?_setCell_same _ _ _ hc0
  have KS : Keep [g] w3 ((w3.setCell ⟨g, 0, none⟩ (.slice ao na ca)).setCell ⟨g, 1, none⟩ (.slice bo nb cb)) := ((Keep.refl [g] w3).setCell (p := ⟨g, 0, none⟩) (.inl (by simp)) _).setCell (p := ⟨g, 1, none⟩) (.inl (by simp)) _
  have HR : Hid ((Big ((w3.setCell ⟨g, 0, none⟩ (.slice ao na ca)).setCell ⟨g, 1, none⟩ (.slice bo nb cb)) (.slice ao na ca) (m * 2 ^ e.toNat) 1000 ∧ Big ((w3.setCell ⟨g, 0, none⟩ (.slice ao na ca)).setCell ⟨g, 1, none⟩ (.slice bo nb cb)) (.slice bo nb cb) (2 ^ (-e).toNat) 1000) ∧ Keep [] w ((w3.setCell ⟨g, 0, none⟩ (.slice ao na ca)).setCell ⟨g, 1, none⟩ (.slice bo nb cb))) :=
    ⟨⟨HA.out.1.keep KS HA.out.2, HBb.out.1.keep KS HBb.out.2⟩, HK.out.more KS (by intro x hx; simp at hx; subst hx; exact .inr HG.out)⟩
  clear KS HA HBb HK hd1
  go_wp2
  generalize ((w3.setCell ⟨g, 0, none⟩ (.slice ao na ca)).setCell ⟨g, 1, none⟩ (.slice bo nb cb)) = W at d0 d1 HR ⊢
  refine bodyPost_ret (v := .agg #[.slice ao na ca, .slice bo nb cb]) (by simp [results, Tryz.results64, go_sem, d0, d1]) rfl ?_
  exact ⟨_, _, rfl, HR.out⟩
end Go.Proofs.YtnljpbpphdhnpaaGreatDoor


/- How a number stands to a float's worth: the document's against. -/
namespace Go.Proofs.YtnljpbpphdhnpaaGreatDoor
open Go.RowKit Go.PlainAid

theorem compare_nums (u v : Value) (M N K L : Nat) (w : World) (hu : Big w u M K) (hv : Big w v N L) : Calls Tryz.prog 65 #[u, v] w fun e w' => e = .returned (.int .i64 (cmpI (M : Nat) (N : Nat))) ∧ Keep [] w w' := by
  obtain ⟨a, h1, h2, h3, rfl, h5⟩ := hu
  obtain ⟨b, g1, g2, g3, rfl, g5⟩ := hv
  refine (compare_big u v a b w h1 g1 h2 g2 h3 g3).mono ?_
  rintro e w' ⟨rfl, n, rfl⟩
  exact ⟨rfl, (Keep.refl _ w).drewN n⟩

/-- what is held: the four parts -/
def Four (W : World) (p q : Nat) (a b c d : Value) (w : World) : Prop :=
  (w.cell? ⟨p, 0, none⟩ = some a ∧ w.cell? ⟨p, 1, none⟩ = some b ∧ w.cell? ⟨q, 0, none⟩ = some c ∧ w.cell? ⟨q, 1, none⟩ = some d) ∧ Keep [] W w
theorem Four.start {W : World} {p q : Nat} {a b c d : Value} (h : W.cell? ⟨p, 0, none⟩ = some a ∧ W.cell? ⟨p, 1, none⟩ = some b ∧ W.cell? ⟨q, 0, none⟩ = some c ∧ W.cell? ⟨q, 1, none⟩ = some d) : Four W p q a b c d W.drew := ⟨h, (Keep.refl _ W).drew⟩
theorem Four.next {W wi wj : World} {p q : Nat} {a b c d : Value} (hk : Keep [] wi wj) (h : Four W p q a b c d wi) : Four W p q a b c d wj :=
  ⟨⟨hk.cell' h.1.1 (by simp), hk.cell' h.1.2.1 (by simp), hk.cell' h.1.2.2.1 (by simp), hk.cell' h.1.2.2.2 (by simp)⟩, h.2.trans' hk⟩

set_option maxRecDepth 1000000 in
set_option maxHeartbeats 3200000 in
theorem against_at (fa fb : Value) (A B K L m P1 P2 : Nat) (e : Int) (w : World) (ha : Big w fa A K) (hb : Big w fb B L) (hK : K ≤ 3000) (hL : L ≤ 3000)
    (hw : ∀ w : World, Calls Tryz.prog 64 #[.int .u64 (m : Int), .int .i64 e] w fun r w' => ∃ va vb, r = .returned (.agg #[va, vb]) ∧ (Big w' va P1 1000 ∧ Big w' vb P2 1000) ∧ Keep [] w w') :
    Calls Tryz.prog 42 #[.agg #[fa, fb], .int .u64 (m : Int), .int .i64 e] w fun r w' => r = .returned (.int .i64 (cmpI (A * P2 : Nat) (P1 * B : Nat))) ∧ Keep [] w w' := by
  obtain ⟨ao, na, ca, rfl⟩ := ha.sl
  obtain ⟨bo, nb, cb, rfl⟩ := hb.sl
  have HA : Hid (Big w (.slice ao na ca) A K) := ha
  have HB : Hid (Big w (.slice bo nb cb) B L) := hb
  clear ha hb
  go_enter Tryz.func42, Tryz.ntmps42
  go_wp2_with fail
  refine (hw _).mono ?_
  rintro e9 w1 ⟨vc, vd, rfl, ⟨hc, hd⟩, hk1⟩
  obtain ⟨co, nc, cc, rfl⟩ := hc.sl
  obtain ⟨dO, nd, cd, rfl⟩ := hd.sl
  have HC : Hid (Big w1 (.slice co nc cc) P1 1000) := hc
  have HD : Hid (Big w1 (.slice dO nd cd) P2 1000) := hd
  have HK1 : Hid _ := hk1
  clear hc hd hk1
  go_wp2
  have KW : Keep [] w1 (w1.alloc (Obj.cells #[Value.slice co nc cc, Value.slice dO nd cd] 57)) := Keep.alloc1 _ _
  have hp : w.heap.size < w1.heap.size := by have := HK1.out.size; simp at this; omega
  have c0 : w1.cell? ⟨w.heap.size, 0, none⟩ = some (.slice ao na ca) := HK1.out.cell' (by simp) (by simp)
  have c1 : w1.cell? ⟨w.heap.size, 1, none⟩ = some (.slice bo nb cb) := HK1.out.cell' (by simp) (by simp)
  have HW : Hid (Big (w1.alloc (Obj.cells #[Value.slice co nc cc, Value.slice dO nd cd] 57)) (.slice ao na ca) A K ∧ Big (w1.alloc (Obj.cells #[Value.slice co nc cc, Value.slice dO nd cd] 57)) (.slice bo nb cb) B L ∧ Big (w1.alloc (Obj.cells #[Value.slice co nc cc, Value.slice dO nd cd] 57)) (.slice co nc cc) P1 1000 ∧ Big (w1.alloc (Obj.cells #[Value.slice co nc cc, Value.slice dO nd cd] 57)) (.slice dO nd cd) P2 1000 ∧ Keep [] w (w1.alloc (Obj.cells #[Value.slice co nc cc, Value.slice dO nd cd] 57))) := by
    have k1 : Keep [] w w1 := (Keep.alloc1 w _).trans' HK1.out
    exact ⟨(HA.out.keep k1 (Off.nil _)).keep KW (Off.nil _), (HB.out.keep k1 (Off.nil _)).keep KW (Off.nil _), HC.out.keep KW (Off.nil _), HD.out.keep KW (Off.nil _), k1.trans' KW⟩
  have h4 : (w1.alloc (Obj.cells #[Value.slice co nc cc, Value.slice dO nd cd] 57)).cell? ⟨w.heap.size, 0, none⟩ = some (.slice ao na ca) ∧ (w1.alloc (Obj.cells #[Value.slice co nc cc, Value.slice dO nd cd] 57)).cell? ⟨w.heap.size, 1, none⟩ = some (.slice bo nb cb) ∧ (w1.alloc (Obj.cells #[Value.slice co nc cc, Value.slice dO nd cd] 57)).cell? ⟨w1.heap.size, 0, none⟩ = some (.slice co nc cc) ∧ (w1.alloc (Obj.cells #[Value.slice co nc cc, Value.slice dO nd cd] 57)).cell? ⟨w1.heap.size, 1, none⟩ = some (.slice dO nd cd) :=
    ⟨KW.cell' c0 (by simp), KW.cell' c1 (by simp), by simp, by simp⟩
  clear HA HB HC HD HK1 KW c0 c1 hp
  generalize (w1.alloc (Obj.cells #[Value.slice co nc cc, Value.slice dO nd cd] 57)) = W at HW h4 ⊢
  generalize w.heap.size = p at h4 ⊢
  generalize w1.heap.size = q at h4 ⊢
  have hP1 := product_big (.slice ao na ca) (.slice dO nd cd) A P2 K 1000 W.drew (HW.out.1.keep ((Keep.refl [] W).drew) (Off.nil _)) (HW.out.2.2.2.1.keep ((Keep.refl [] W).drew) (Off.nil _)) (by omega) (by omega)
  have hP2 : ∀ w5, Keep [] W.drew w5 → _ := fun w5 hk5 => product_big (.slice co nc cc) (.slice bo nb cb) P1 B 1000 L w5 ((HW.out.2.2.1.keep ((Keep.refl [] W).drew) (Off.nil _)).keep hk5 (Off.nil _)) ((HW.out.2.1.keep ((Keep.refl [] W).drew) (Off.nil _)).keep hk5 (Off.nil _)) (by omega) (by omega)
  go_region_held3 (fun w' => (w'.cell? ⟨p, 0, none⟩ = some (.slice ao na ca) ∧ w'.cell? ⟨p, 1, none⟩ = some (.slice bo nb cb) ∧ w'.cell? ⟨q, 0, none⟩ = some (.slice co nc cc) ∧ w'.cell? ⟨q, 1, none⟩ = some (.slice dO nd cd)) ∧ Keep [] W w')
    (first | exact Four.start h4 | exact Four.next (by assumption) (by assumption))
    (first
    | (go_at_call_of 66 na; refine hP1.mono ?_; rintro e9 w5 ⟨v5, rfl, ⟨hb5, hf5⟩, hk5⟩)
    | (go_at_call_of 66 nc; refine (hP2 _ hk5).mono ?_; rintro e9 w6 ⟨v6, rfl, ⟨hb6, hf6⟩, hk6⟩)
    | (go_at_call 65; refine (compare_nums v5 v6 (A * P2) (P1 * B) _ _ _ (hb5.keep hk6 (Off.nil _)) hb6).mono ?_; rintro e9 w7 ⟨rfl, hk7⟩))
  go_wp2
  go_ret
  rename_i hH
  exact ⟨rfl, HW.out.2.2.2.2.trans' hH.2⟩

theorem against_any (fa fb : Value) (A B K L m : Nat) (e : Int) (w : World) (ha : Big w fa A K) (hb : Big w fb B L) (hK : K ≤ 3000) (hL : L ≤ 3000) (hm : m < 18446744073709551616) (he1 : -500 ≤ e) (he2 : e ≤ 500) :
    Calls Tryz.prog 42 #[.agg #[fa, fb], .int .u64 (m : Int), .int .i64 e] w fun r w' => r = .returned (.int .i64 (cmpI (A * 2 ^ (-e).toNat : Nat) (m * 2 ^ e.toNat * B : Nat))) ∧ Keep [] w w' :=
  against_at fa fb A B K L m _ _ e w ha hb hK hL (fun w => worth_any m e hm he1 he2 w)
end Go.Proofs.YtnljpbpphdhnpaaGreatDoor


/- The mathematics of the document's Nearest: the float below a number, and the nearer one of it and the next, is what rounding to the nearest gives. -/
namespace Go.Proofs.YtnljpbpphdhnpaaGreatDoor

theorem valN_succ (n : Nat) : valN (n + 1) = valN n + (if n < 8388608 then 1 else 2 ^ (n / 8388608 - 1)) := by
  unfold valN
  by_cases h1 : n < 8388608
  · rw [if_pos h1, if_pos h1]
    by_cases h2 : n + 1 < 8388608
    · rw [if_pos h2]
    · have : n = 8388607 := by omega
      subst this
      rfl
  · rw [if_neg h1, if_neg h1, if_neg (by omega)]
    by_cases h2 : n % 8388608 = 8388607
    · have e1 : (n + 1) % 8388608 = 0 := by omega
      have e2 : (n + 1) / 8388608 - 1 = (n / 8388608 - 1) + 1 := by omega
      rw [e1, e2, h2, Nat.pow_succ]
      generalize 2 ^ (n / 8388608 - 1) = p
      omega
    · have e1 : (n + 1) % 8388608 = n % 8388608 + 1 := by omega
      have e2 : (n + 1) / 8388608 - 1 = n / 8388608 - 1 := by omega
      rw [e1, e2, ← Nat.add_assoc, Nat.succ_mul]

/-- n is the float below V, in units of the least one -/
def Low (V n : Nat) : Prop := n ≤ 2139095040 ∧ valN n ≤ V ∧ (n = 2139095040 ∨ V < valN (n + 1))
def upB (V2 S n : Nat) : Bool := decide (S < V2) || (decide (V2 = S) && decide (n % 2 = 1))
def nearN (V n : Nat) : Nat := if n = 2139095040 then n else if upB (2 * V) (valN n + valN (n + 1)) n = true then n + 1 else n

theorem floor_rung (V : Nat) : valN ((V.log2 - 23) * 8388608 + V / 2 ^ (V.log2 - 23)) = V / 2 ^ (V.log2 - 23) * 2 ^ (V.log2 - 23) ∧
    valN ((V.log2 - 23) * 8388608 + V / 2 ^ (V.log2 - 23) + 1) = (V / 2 ^ (V.log2 - 23) + 1) * 2 ^ (V.log2 - 23) := by
  rw [valN_succ]
  by_cases h0 : V = 0
  · subst h0; decide
  have l1 : 2 ^ V.log2 ≤ V := Nat.log2_self_le h0
  have l2 : V < 2 ^ (V.log2 + 1) := Nat.lt_log2_self
  by_cases hd : V.log2 ≤ 23
  · have e0 : V.log2 - 23 = 0 := by omega
    have hV : V < 16777216 := Nat.lt_of_lt_of_le l2 (Nat.le_trans (Nat.pow_le_pow_right (by decide) (show V.log2 + 1 ≤ 24 by omega)) (by decide))
    rw [e0]
    simp only [Nat.zero_mul, Nat.zero_add, Nat.pow_zero, Nat.div_one, Nat.mul_one]
    have hv : valN V = V := by
      unfold valN
      split
      · rfl
      · rw [show V / 8388608 - 1 = 0 by omega]; omega
    rw [hv]
    refine ⟨rfl, ?_⟩
    split
    · rfl
    · rw [show V / 8388608 - 1 = 0 by omega]
  · generalize hdd : V.log2 - 23 = d at *
    have hlog : V.log2 = d + 23 := by omega
    rw [hlog] at l1 l2
    rw [Nat.pow_add] at l1
    rw [show d + 23 + 1 = d + 24 by omega, Nat.pow_add] at l2
    have hp : 0 < 2 ^ d := Nat.two_pow_pos d
    have t1 : 8388608 ≤ V / 2 ^ d := (Nat.le_div_iff_mul_le hp).2 (by rw [Nat.mul_comm]; exact l1)
    have t2 : V / 2 ^ d < 16777216 := (Nat.div_lt_iff_lt_mul hp).2 (by rw [Nat.mul_comm]; exact l2)
    generalize V / 2 ^ d = t at *
    have hv : valN (d * 8388608 + t) = t * 2 ^ d := by
      unfold valN
      rw [if_neg (by omega), show (d * 8388608 + t) % 8388608 = t - 8388608 by omega, show (d * 8388608 + t) / 8388608 - 1 = d by omega]
      rw [show 8388608 + (t - 8388608) = t by omega]
    rw [hv]
    refine ⟨rfl, ?_⟩
    rw [if_neg (by omega), show (d * 8388608 + t) / 8388608 - 1 = d by omega, Nat.succ_mul]

theorem floor_at (V d : Nat) (hd : V.log2 - 23 = d) : ∃ L, L = d * 8388608 + V / 2 ^ d ∧ valN L = V / 2 ^ d * 2 ^ d ∧ valN (L + 1) = (V / 2 ^ d + 1) * 2 ^ d := by
  subst hd
  exact ⟨_, rfl, floor_rung V⟩

theorem near_rnd (V n : Nat) (h : Low V n) : nearN V n = rndR V := by
  obtain ⟨h1, h2, h3⟩ := h
  unfold rndR rne rneB nearN upB
  generalize hd : V.log2 - 23 = d
  obtain ⟨L, hL, f1, f2⟩ := floor_at V d hd
  have hp : 0 < 2 ^ d := Nat.two_pow_pos d
  have hdm := Nat.div_add_mod V (2 ^ d)
  have hlt := Nat.mod_lt V hp
  generalize hpp : 2 ^ d = p at *
  generalize V / p = t at *
  generalize V % p = r at *
  rw [Nat.mul_comm] at hdm
  have hV1 : valN L ≤ V := by rw [f1]; omega
  have hV2 : V < valN (L + 1) := by rw [f2, Nat.succ_mul]; omega
  have hadd : ∀ b : Nat, d * 8388608 + (t + b) = L + b := fun b => by rw [hL]; omega
  rw [hadd]
  have a1 : n < L + 1 := valN_iff.1 (Nat.lt_of_le_of_lt h2 hV2)
  by_cases ho : n = 2139095040
  · rw [if_pos ho]
    generalize (decide (p < 2 * r) || p == 2 * r && t % 2 == 1).toNat = b
    rw [Nat.min_eq_right (by omega)]
    exact ho
  · rw [if_neg ho]
    have h3' : V < valN (n + 1) := by rcases h3 with h | h; exact absurd h ho; exact h
    have a2 : L < n + 1 := valN_iff.1 (Nat.lt_of_le_of_lt hV1 h3')
    have hn : n = L := by omega
    have h1' : L + 1 ≤ 2139095040 := by omega
    have e3 : decide (L % 2 = 1) = (t % 2 == 1) := by
      by_cases hx : t % 2 = 1
      · rw [show (t % 2 == 1) = true by simpa using hx, decide_eq_true (by omega)]
      · rw [show (t % 2 == 1) = false by simpa using hx, decide_eq_false (by omega)]
    clear hL hadd h1 ho a1 a2 h3 h3' hV1 hV2
    subst hn
    rw [f1, f2, e3]
    have e1 : decide (t * p + (t + 1) * p < 2 * V) = decide (p < 2 * r) := by
      rw [Nat.succ_mul t p, ← hdm]
      apply decide_eq_decide.2
      generalize t * p = q
      omega
    have e2 : decide (2 * V = t * p + (t + 1) * p) = (p == 2 * r) := by
      rw [Nat.succ_mul t p, ← hdm]
      generalize t * p = q
      by_cases hx : p = 2 * r
      · rw [show (p == 2 * r) = true by simpa using hx, decide_eq_true (by omega)]
      · rw [show (p == 2 * r) = false by simpa using hx, decide_eq_false (by omega)]
    rw [e1, e2]
    generalize (decide (p < 2 * r) || p == 2 * r && t % 2 == 1) = b
    cases b
    · rw [if_neg (by decide), Nat.min_eq_left (by simp; omega)]; rfl
    · rw [if_pos rfl, Nat.min_eq_left (by simp; omega)]; rfl

theorem cmp_scale (a b s : Nat) (hs : 0 < s) : cmpI ((a * s : Nat) : Int) ((b * s : Nat) : Int) = cmpI (a : Nat) (b : Nat) := by
  unfold cmpI
  rcases Nat.lt_trichotomy a b with h | h | h
  · have := Nat.mul_lt_mul_of_pos_right h hs
    rw [if_pos (by omega), if_pos (by omega)]
  · subst h
    rw [if_neg (by omega), if_neg (by omega), if_neg (by omega), if_neg (by omega)]
  · have := Nat.mul_lt_mul_of_pos_right h hs
    rw [if_neg (by omega), if_pos (by omega), if_neg (by omega), if_pos (by omega)]

theorem against_val (A B n : Nat) : cmpI ((A * 2 ^ (-(atE n)).toNat : Nat) : Int) ((atM n * 2 ^ (atE n).toNat * B : Nat) : Int) = cmpI ((A * 2 ^ 149 : Nat) : Int) ((valN n * B : Nat) : Int) := by
  unfold atE atM valN
  by_cases h : n < 8388608
  · rw [if_pos h, if_pos h, if_pos h]
    simp
  · rw [if_neg h, if_neg h, if_neg h]
    have hk : 1 ≤ n / 8388608 := by omega
    generalize n / 8388608 = k at *
    generalize 8388608 + n % 8388608 = m
    by_cases hk2 : k ≤ 150
    · rw [show (-((k : Int) - 150)).toNat = 150 - k by omega, show ((k : Int) - 150).toNat = 0 by omega, ← cmp_scale _ _ (2 ^ (k - 1)) (Nat.two_pow_pos _)]
      have e1 : A * 2 ^ (150 - k) * 2 ^ (k - 1) = A * 2 ^ 149 := by rw [Nat.mul_assoc, ← Nat.pow_add, show 150 - k + (k - 1) = 149 by omega]
      have e2 : m * 2 ^ 0 * B * 2 ^ (k - 1) = m * 2 ^ (k - 1) * B := by rw [Nat.pow_zero, Nat.mul_one, Nat.mul_assoc, Nat.mul_comm B, ← Nat.mul_assoc]
      rw [e1, e2]
    · rw [show (-((k : Int) - 150)).toNat = 0 by omega, show ((k : Int) - 150).toNat = k - 150 by omega, ← cmp_scale _ _ (2 ^ 149) (Nat.two_pow_pos _)]
      have e2 : m * 2 ^ (k - 150) * B * 2 ^ 149 = m * 2 ^ (k - 1) * B := by
        rw [Nat.mul_assoc, Nat.mul_comm B, ← Nat.mul_assoc, Nat.mul_assoc m, ← Nat.pow_add, show k - 150 + 149 = k - 1 by omega]
      rw [e2, Nat.pow_zero, Nat.mul_one]

theorem against_half (A B n : Nat) : cmpI ((A * 2 ^ (-(atE n - 1)).toNat : Nat) : Int) (((2 * atM n + 1) * 2 ^ (atE n - 1).toNat * B : Nat) : Int) = cmpI ((2 * (A * 2 ^ 149) : Nat) : Int) (((valN n + valN (n + 1)) * B : Nat) : Int) := by
  rw [valN_succ]
  have eA : 2 * (A * 2 ^ 149) = A * 2 ^ 150 := by rw [Nat.mul_comm, Nat.mul_assoc, ← Nat.pow_succ]
  rw [eA]
  unfold atE atM valN
  by_cases h : n < 8388608
  · rw [if_pos h, if_pos h, if_pos h, if_pos h]
    rw [show (-((-149 : Int) - 1)).toNat = 150 from rfl, show ((-149 : Int) - 1).toNat = 0 from rfl, Nat.pow_zero, Nat.mul_one, show 2 * n + 1 = n + (n + 1) by omega]
  · rw [if_neg h, if_neg h, if_neg h, if_neg h]
    have hk : 1 ≤ n / 8388608 := by omega
    generalize n / 8388608 = k at *
    generalize 8388608 + n % 8388608 = m
    have eS : m * 2 ^ (k - 1) + (m * 2 ^ (k - 1) + 2 ^ (k - 1)) = (2 * m + 1) * 2 ^ (k - 1) := by
      rw [Nat.add_mul, Nat.mul_assoc]; omega
    rw [eS]
    generalize 2 * m + 1 = m2
    by_cases hk2 : k ≤ 151
    · rw [show (-((k : Int) - 150 - 1)).toNat = 151 - k by omega, show ((k : Int) - 150 - 1).toNat = 0 by omega, ← cmp_scale _ _ (2 ^ (k - 1)) (Nat.two_pow_pos _)]
      have e1 : A * 2 ^ (151 - k) * 2 ^ (k - 1) = A * 2 ^ 150 := by rw [Nat.mul_assoc, ← Nat.pow_add, show 151 - k + (k - 1) = 150 by omega]
      have e2 : m2 * 2 ^ 0 * B * 2 ^ (k - 1) = m2 * 2 ^ (k - 1) * B := by rw [Nat.pow_zero, Nat.mul_one, Nat.mul_assoc, Nat.mul_comm B, ← Nat.mul_assoc]
      rw [e1, e2]
    · rw [show (-((k : Int) - 150 - 1)).toNat = 0 by omega, show ((k : Int) - 150 - 1).toNat = k - 151 by omega, ← cmp_scale _ _ (2 ^ 150) (Nat.two_pow_pos _)]
      have e2 : m2 * 2 ^ (k - 151) * B * 2 ^ 150 = m2 * 2 ^ (k - 1) * B := by
        rw [Nat.mul_assoc, Nat.mul_comm B, ← Nat.mul_assoc, Nat.mul_assoc m2, ← Nat.pow_add, show k - 151 + 150 = k - 1 by omega]
      rw [e2, Nat.pow_zero, Nat.mul_one]
end Go.Proofs.YtnljpbpphdhnpaaGreatDoor


/- The real of a number: the steps from its digits in 64 bits to its 32 bits. -/
namespace Go.Proofs.YtnljpbpphdhnpaaGreatDoor
open Go.RowKit Go.PlainAid Go.Lib

/-- the digits of the rung n, k doublings on, in 64 bits -/
def fD (n : Nat) (k : Int) : Nat := if atM n = 0 then 0 else wD (atM n * 2 ^ (52 - (atM n).log2)) (((atM n).log2 : Int) + k)

theorem atM_lt (n : Nat) : atM n < 16777216 := by unfold atM; split <;> omega
theorem atE_lo (n : Nat) : -149 ≤ atE n := by unfold atE; split <;> omega
theorem atE_hi (n : Nat) (h : n < 2139095040) : atE n ≤ 104 := by unfold atE; split <;> omega

theorem fD_start (n : Nat) : floatOfInt .f64 ((atM n : Nat) : Int) = fD n 0 := by
  show Ieee.double.nearest (decide (((atM n : Nat) : Int) < 0)) ((atM n : Nat) : Int).natAbs 0 = _
  rw [show decide (((atM n : Nat) : Int) < 0) = false by simp, Int.natAbs_natCast]
  unfold fD
  by_cases h : atM n = 0
  · rw [if_pos h, h]; decide
  · rw [if_neg h, (nearS (atM n) (by omega) (atM_lt n)).1, Int.add_zero]

theorem fD_mul (n : Nat) (k : Int) (h0 : 0 ≤ k) (h1 : k < 104) : floatBits .mul .f64 (fD n k) 4611686018427387904 = some (fD n (k + 1)) := by
  show Ieee.double.mul _ _ = _
  unfold fD
  by_cases h : atM n = 0
  · rw [if_pos h, if_pos h]; decide
  · rw [if_neg h, if_neg h]
    obtain ⟨_, k1, k2, k3⟩ := nearS (atM n) (by omega) (atM_lt n)
    rw [mul2 _ _ k1 k2 (by omega) (by omega), Int.add_assoc]

theorem fD_div (n : Nat) (k : Int) (h0 : -149 ≤ k) (h1 : k ≤ 104) : floatBits .quo .f64 (fD n k) 4611686018427387904 = some (fD n (k - 1)) := by
  show Ieee.double.div _ _ = _
  unfold fD
  by_cases h : atM n = 0
  · rw [if_pos h, if_pos h]; decide
  · rw [if_neg h, if_neg h]
    obtain ⟨_, k1, k2, k3⟩ := nearS (atM n) (by omega) (atM_lt n)
    rw [div2 _ _ k1 k2 (by omega) (by omega)]
    congr 2
    omega

theorem fD_end (n : Nat) (h : n < 2139095040) : floatToFloatBits .f64 (fD n (atE n)) .f32 = some n := by
  unfold floatToFloatBits
  rw [if_neg (by decide)]
  show (match Ieee.double.read (fD n (atE n)) with | .nan _ _ => none | .infinity s => some (Ieee.single.write (.infinity s)) | .number s m e => if (Ieee.single.read (Ieee.single.write (.number s m e))).isInfinity then none else some (Ieee.single.write (.number s m e))) = _
  unfold fD
  by_cases h0 : atM n = 0
  · have hn : n = 0 := by unfold atM at h0; split at h0 <;> omega
    subst hn
    decide
  · rw [if_neg h0]
    have hn0 : 0 < n := by
      rcases Nat.eq_zero_or_pos n with hz | hz
      · subst hz; exact absurd (by decide) h0
      · exact hz
    obtain ⟨_, k1, k2, k3⟩ := nearS (atM n) (by omega) (atM_lt n)
    have a1 := atE_lo n
    have a2 := atE_hi n h
    rw [readD _ _ k1 k2 (by omega) (by omega)]
    have hw : Ieee.single.write (.number false (atM n * 2 ^ (52 - (atM n).log2)) (((atM n).log2 : Int) + atE n - 52)) = n := toSingle n hn0 h
    simp only [hw]
    obtain ⟨m, up, hr, _⟩ := read_num n (by unfold rungN; omega)
    rw [hr]
    rfl

end Go.Proofs.YtnljpbpphdhnpaaGreatDoor



/- The reference's At and Float: the real of a number. -/
namespace Go.Proofs.YtnljpbpphdhnpaaGreatDoor
open Go.RowKit Go.PlainAid Go.Lib

theorem at_any (n : Nat) (h : n < 2139095040) (w : World) : Calls Tryz.prog 41 #[.int .u32 (n : Int)] w fun e w' => e = .returned (.tuple #[.int .u64 (atM n : Nat), .int .i64 (atE n)]) ∧ w' = w := by
  by_cases hs : n < 8388608
  · have h1 : (n : Int) < 8388608 := by omega
    have hM : atM n = n := by unfold atM; rw [if_pos hs]
    have hE : atE n = -149 := by unfold atE; rw [if_pos hs]
    rw [hM, hE]
    go_enter Tryz.func41, Tryz.ntmps41
    go_wp2
    go_ret2
    refine ⟨?_, rfl⟩
    go_num
  · have h1 : ¬ (n : Int) < 8388608 := by omega
    have hM : atM n = 8388608 + n % 8388608 := by unfold atM; rw [if_neg hs]
    have hE : atE n = (n / 8388608 : Nat) - 150 := by unfold atE; rw [if_neg hs]
    rw [hM, hE]
    go_enter Tryz.func41, Tryz.ntmps41
    go_wp2
    go_ret2
    refine ⟨?_, rfl⟩
    go_num


theorem u64f64 (m : Nat) (w : World) : (convert 65 80 (.int .u64 (m : Int))).run Tryz.prog w = .ok (.float .f64 (floatOfInt .f64 (m : Int))) w := run_convert_int_float w 65 80 .u64 .f64 m (by kernel_rfl) Tryz.underlying80

theorem neg_low (n : Nat) (h : n < 2147483648) : Op.negFloat .f32 n = n + 2147483648 := by
  show n ^^^ 2147483648 = _
  rw [show (2147483648 : Nat) = 2 ^ 31 from rfl]
  have h2 : n ^^^ 2 ^ 31 = n ||| 2 ^ 31 := by
    apply Nat.eq_of_testBit_eq
    intro i
    rw [Nat.testBit_xor, Nat.testBit_or, Nat.testBit_two_pow]
    by_cases hi : 31 = i
    · subst hi
      rw [Nat.testBit_lt_two_pow (show n < 2 ^ 31 from h)]
      rfl
    · rw [show decide (31 = i) = false by simpa using hi]
      cases n.testBit i <;> rfl
  have h3 := Nat.two_pow_add_eq_or_of_lt (show n < 2 ^ 31 from h) 1
  rw [Nat.mul_one] at h3
  rw [h2, Nat.or_comm, ← h3]
  omega

set_option maxHeartbeats 1600000 in
theorem float_low (neg : Bool) (n : Nat) (h : n < 2139095040) (w : World) : Calls Tryz.prog 32 #[.bool neg, .int .u32 (n : Int)] w fun e w' => e = .returned (.float .f32 (if neg then n + 2147483648 else n)) ∧ w' = w := by
  have hA := at_any n h
  have h1 : ¬ (2139095040 ≤ (n : Int)) := by omega
  have hc := u64f64 (atM n)
  rw [fD_start] at hc
  have hm : ∀ (k : Int), 0 ≤ k → k < 104 → ∀ w, (binOp .mul 80 (.float .f64 (fD n k)) (.float .f64 4611686018427387904)).run Tryz.prog w = .ok (.float .f64 (fD n (k + 1))) w := fun k p q w => run_float_arith w .mul 80 .f64 _ _ _ (fD_mul n k p q)
  have hd : ∀ (k : Int), -149 ≤ k → k ≤ 104 → ∀ w, (binOp .quo 80 (.float .f64 (fD n k)) (.float .f64 4611686018427387904)).run Tryz.prog w = .ok (.float .f64 (fD n (k - 1))) w := fun k p q w => run_float_arith w .quo 80 .f64 _ _ _ (fD_div n k p q)
  have he : ∀ w, (convert 80 22 (.float .f64 (fD n (atE n)))).run Tryz.prog w = .ok (.float .f32 n) w := fun w => run_convert_float_float w 80 22 .f64 .f32 _ _ (by kernel_rfl) Tryz.underlying22 (fD_end n h)
  have hn := neg_low n (by omega)
  have a1 := atE_lo n
  have a2 := atE_hi n h
  generalize atE n = E at *
  generalize atM n = M at *
  generalize fD n = F at *
  have HM : Hid (∀ (k : Int), 0 ≤ k → k < 104 → ∀ w, (binOp .mul 80 (.float .f64 (F k)) (.float .f64 4611686018427387904)).run Tryz.prog w = .ok (.float .f64 (F (k + 1))) w) := hm
  have HD : Hid (∀ (k : Int), -149 ≤ k → k ≤ 104 → ∀ w, (binOp .quo 80 (.float .f64 (F k)) (.float .f64 4611686018427387904)).run Tryz.prog w = .ok (.float .f64 (F (k - 1))) w) := hd
  have HE : Hid (∀ w, (convert 80 22 (.float .f64 (F E))).run Tryz.prog w = .ok (.float .f32 n) w) := he
  have HN : Hid (Op.negFloat .f32 n = n + 2147483648) := hn
  clear hm hd he hn h
  go_enter Tryz.func32, Tryz.ntmps32
  go_wp2_with (first | (go_at_call 41; refine (hA _).mono ?_; rintro e9 w9 ⟨rfl, hw9⟩; obtain rfl := hw9.symm))
  go_loop [9, 10] (fun fv iv => ∃ k : Nat, iv = .int .i64 (k : Int) ∧ fv = .float .f64 (F (k : Int)) ∧ (k = 0 ∨ (k : Int) ≤ E)) (fun _ iv => (E - RowKit.intOf iv).toNat)
  case atStart => exact ⟨0, rfl, rfl, .inl rfl⟩
  case round =>
    obtain ⟨k, rfl, rfl, hk⟩ := hrel
    by_cases hlt : (k : Int) < E
    · have hmk := HM.out (k : Int) (by omega) (by omega)
      go_wp2
      go_round
      case rel => exact ⟨k + 1, by go_num, rfl, .inr (by omega)⟩
      case measure => simp [RowKit.intOf]; omega
    · go_wp2
      go_loop [9, 11] (fun fv iv => ∃ i : Int, iv = .int .i64 i ∧ E ≤ i ∧ (i ≤ 0 ∨ i = E) ∧ fv = .float .f64 (F ((k : Int) + E - i))) (fun _ iv => (- RowKit.intOf iv).toNat)
      case atStart => exact ⟨E, rfl, by omega, .inr rfl, by rw [show (k : Int) + E - E = k by omega]⟩
      case round =>
        obtain ⟨i, rfl, hi1, hi2, rfl⟩ := hrel
        by_cases hi : i < 0
        · have hdk := HD.out ((k : Int) + E - i) (by omega) (by omega)
          go_wp2
          go_round
          case rel => exact ⟨i + 1, by go_num, by omega, .inl (by omega), by rw [show (k : Int) + E - i - 1 = k + E - (i + 1) by omega]⟩
          case measure => simp [RowKit.intOf]; omega
        · have hce := HE.out
          rw [show (k : Int) + E - i = E by omega]
          have hng : ∀ w, (Op.unary .neg (.float .f32 n)).run Tryz.prog w = .ok (.float .f32 (n + 2147483648)) w := fun w => by
            show (pure (Value.float .f32 (Op.negFloat .f32 n)) : Sem Value).run Tryz.prog w = _
            rw [HN.out]
            rfl
          cases neg
          · go_wp2
            go_ret
            exact ⟨rfl, rfl⟩
          · go_wp2
            go_ret
            exact ⟨rfl, rfl⟩

end Go.Proofs.YtnljpbpphdhnpaaGreatDoor


/- The reference's Float at every number, Number, IsNan, Below, Same. -/
namespace Go.Proofs.YtnljpbpphdhnpaaGreatDoor
open Go.RowKit Go.PlainAid Go.Lib

set_option maxHeartbeats 1600000 in
theorem float_over (neg : Bool) (n : Nat) (h : 2139095040 ≤ n) (w : World) : Calls Tryz.prog 32 #[.bool neg, .int .u32 (n : Int)] w fun e w' => e = .returned (.float .f32 (if neg then 4286578688 else 2139095040)) ∧ w' = w := by
  have h1 : 2139095040 ≤ (n : Int) := by omega
  have hq : ∀ w, (binOp .quo 22 (.float .f32 1065353216) (.float .f32 0)).run Tryz.prog w = .ok (.float .f32 2139095040) w := fun w => run_float_arith w .quo 22 .f32 _ _ _ (by decide)
  have hng : ∀ w, (Op.unary .neg (.float .f32 2139095040)).run Tryz.prog w = .ok (.float .f32 4286578688) w := fun w => rfl
  cases neg
  · go_enter Tryz.func32, Tryz.ntmps32
    go_wp2
    go_ret
    exact ⟨rfl, rfl⟩
  · go_enter Tryz.func32, Tryz.ntmps32
    go_wp2
    go_ret
    exact ⟨rfl, rfl⟩

/-- Float of a number up to the infinite one's -/
theorem float_any (neg : Bool) (n : Nat) (h : n ≤ 2139095040) (w : World) : Calls Tryz.prog 32 #[.bool neg, .int .u32 (n : Int)] w fun e w' => e = .returned (.float .f32 (if neg then n + 2147483648 else n)) ∧ w' = w := by
  by_cases h1 : n < 2139095040
  · exact float_low neg n h1 w
  · obtain rfl : n = 2139095040 := by omega
    exact float_over neg _ (Nat.le_refl _) w

theorem rlt_any (a b : Nat) (ha : rungN a ≤ 2139095040) (hb : rungN b ≤ 2139095040) : (FloatKind.f32.format.order a b == some Ordering.lt) = decide (srungZ a < srungZ b) := by
  show (Ieee.single.order a b == some Ordering.lt) = _
  rw [order_any, if_neg (by omega)]
  rcases Int.lt_trichotomy (srungZ a) (srungZ b) with h | h | h
  · rw [show compare (srungZ a) (srungZ b) = .lt from Int.compare_eq_lt.2 h, show decide (srungZ a < srungZ b) = true by simpa using h]; rfl
  · rw [show compare (srungZ a) (srungZ b) = .eq from Int.compare_eq_eq.2 h, show decide (srungZ a < srungZ b) = false by simp; omega]; rfl
  · rw [show compare (srungZ a) (srungZ b) = .gt from Int.compare_eq_gt.2 h, show decide (srungZ a < srungZ b) = false by simp; omega]; rfl

theorem req_any (a b : Nat) (ha : rungN a ≤ 2139095040) (hb : rungN b ≤ 2139095040) : (FloatKind.f32.format.order a b == some Ordering.eq) = decide (srungZ a = srungZ b) := by
  show (Ieee.single.order a b == some Ordering.eq) = _
  rw [order_any, if_neg (by omega)]
  rcases Int.lt_trichotomy (srungZ a) (srungZ b) with h | h | h
  · rw [show compare (srungZ a) (srungZ b) = .lt from Int.compare_eq_lt.2 h, show decide (srungZ a = srungZ b) = false by simp; omega]; rfl
  · rw [show compare (srungZ a) (srungZ b) = .eq from Int.compare_eq_eq.2 h, show decide (srungZ a = srungZ b) = true by simpa using h]; rfl
  · rw [show compare (srungZ a) (srungZ b) = .gt from Int.compare_eq_gt.2 h, show decide (srungZ a = srungZ b) = false by simp; omega]; rfl

theorem neg_high (n : Nat) (h : 2147483648 ≤ n) (h2 : n < 4294967296) : Op.negFloat .f32 n = n - 2147483648 := by
  have h3 := neg_low (n - 2147483648) (by omega)
  have h4 : n - 2147483648 + 2147483648 = n := by omega
  rw [h4] at h3
  have h5 : Op.negFloat .f32 n = Op.negFloat .f32 (Op.negFloat .f32 (n - 2147483648)) := by rw [h3]
  rw [h5]
  show (n - 2147483648) ^^^ 2147483648 ^^^ 2147483648 = _
  rw [Nat.xor_assoc, Nat.xor_self, Nat.xor_zero]

theorem srung_low (n : Nat) (h : n < 2147483648) : srungZ n = n ∧ rungN n = n := by
  unfold srungZ rungN
  rw [if_neg (by omega)]
  omega

/-- the halving: a real without sign -/
theorem half_step (lo hi : Nat) (h1 : lo < hi) (h2 : hi ≤ 2139095041) (hd : 1 < hi - lo) : lo < lo + (hi - lo) / 2 ∧ lo + (hi - lo) / 2 < hi := by omega

set_option maxHeartbeats 3200000 in
theorem number_any (x : Nat) (hx : x < 4294967296) (hn : nanB x = false) (w : World) : Calls Tryz.prog 19 #[.float .f32 x] w fun e w' => e = .returned (.int .u32 (rungN x : Nat)) ∧ w' = w := by
  have hr : rungN x ≤ 2139095040 := by simpa [nanB, rungN] using hn
  have hlt := rlt_any x 0 hr (by decide)
  rw [(srung_low 0 (by decide)).1] at hlt
  have key : ∀ y : Nat, rungN y = rungN x → srungZ y = (rungN x : Nat) → ∀ m : Nat, m ≤ 2139095040 → (FloatKind.f32.format.order m y == some Ordering.lt) = decide (m < rungN x) ∧ (FloatKind.f32.format.order m y == some Ordering.eq) = decide (m = rungN x) := fun y h1 h2 m hm => by
    have p1 : rungN m ≤ 2139095040 := by rw [(srung_low m (by omega)).2]; exact hm
    rw [rlt_any m y p1 (by rw [h1]; exact hr), req_any m y p1 (by rw [h1]; exact hr), (srung_low m (by omega)).1, h2]
    constructor
    · simp
    · simp; omega
  have hF := fun (m : Nat) (hm : m ≤ 2139095040) => float_any false m hm
  simp only [Bool.false_eq_true, if_false] at hF
  by_cases hb : srungZ x < ((0 : Nat) : Int)
  · have hx2 : 2147483648 ≤ x := by
      unfold srungZ at hb
      split at hb <;> omega
    have hng : ∀ w, (Op.unary .neg (.float .f32 x)).run Tryz.prog w = .ok (.float .f32 (x - 2147483648)) w := fun w => by
      show (pure (Value.float .f32 (Op.negFloat .f32 x)) : Sem Value).run Tryz.prog w = _
      rw [neg_high x hx2 hx]
      rfl
    have k2 := key (x - 2147483648) (by unfold rungN; omega) (by rw [(srung_low _ (by omega)).1]; unfold rungN; omega)
    rw [show decide (srungZ x < ((0 : Nat) : Int)) = true by simpa using hb] at hlt
    have HK : Hid (∀ m : Nat, m ≤ 2139095040 → (FloatKind.f32.format.order m (x - 2147483648) == some Ordering.lt) = decide (m < rungN x) ∧ (FloatKind.f32.format.order m (x - 2147483648) == some Ordering.eq) = decide (m = rungN x)) := k2
    clear key hb hx2 k2 hn
    generalize rungN x = r at *
    generalize x - 2147483648 = y at *
    have HF : Hid (∀ (m : Nat), m ≤ 2139095040 → ∀ (w : World), Calls Tryz.prog 32 #[.bool false, .int .u32 (m : Int)] w fun e w' => e = .returned (.float .f32 m) ∧ w' = w) := hF
    clear hF
    go_enter Tryz.func19, Tryz.ntmps19
    go_wp2
    go_loop [3, 4] (fun lv hv => ∃ lo hi : Nat, lv = .int .u32 (lo : Int) ∧ hv = .int .u32 (hi : Int) ∧ lo ≤ r ∧ r < hi ∧ hi ≤ 2139095041) (fun lv hv => (RowKit.intOf hv - RowKit.intOf lv).toNat)
    case atStart => exact ⟨0, 2139095041, rfl, rfl, Nat.zero_le _, by omega, Nat.le_refl _⟩
    case round =>
      obtain ⟨lo, hi, rfl, rfl, l1, l2, l3⟩ := hrel
      by_cases hd : lo + 1 < hi
      · have hdi : 1 < (hi : Int) - lo := by omega
        obtain ⟨m, hmid⟩ : ∃ m : Nat, m = lo + (hi - lo) / 2 := ⟨_, rfl⟩
        have hfm := HF.out m (by omega)
        obtain ⟨k1, k2⟩ := HK.out m (by omega)
        have hmz : (m : Int) = (lo : Int) + ((hi : Int) - lo) / 2 := by omega
        have HZ : Hid ((m : Int) = (lo : Int) + ((hi : Int) - lo) / 2 ∧ lo < m ∧ m < hi) := ⟨hmz, by omega, by omega⟩
        rw [hmz] at hfm
        clear hmz hmid
        rcases Nat.lt_trichotomy m r with hle | hle | hle
        · rw [show decide (m < r) = true by simpa using hle] at k1
          clear k2
          go_wp2_with (go_at_call 32; refine (hfm _).mono ?_; rintro e9 w9 ⟨rfl, hw9⟩; obtain rfl := hw9.symm)
          go_round
          case rel => exact ⟨m, hi, by rw [HZ.out.1], rfl, by omega, l2, l3⟩
          case measure => have := HZ.out; simp only [RowKit.intOf]; omega
        · rw [show decide (m < r) = false by simp; omega] at k1
          rw [show decide (m = r) = true by simpa using hle] at k2
          have HL : Hid (m = r) := hle
          clear hle
          go_wp2_with (go_at_call 32; refine (hfm _).mono ?_; rintro e9 w9 ⟨rfl, hw9⟩; obtain rfl := hw9.symm)
          go_round
          case rel => exact ⟨m, hi, by rw [HZ.out.1], rfl, by have := HL.out; omega, l2, l3⟩
          case measure => have := HZ.out; simp only [RowKit.intOf]; omega
        · rw [show decide (m < r) = false by simp; omega] at k1
          rw [show decide (m = r) = false by simp; omega] at k2
          go_wp2_with (go_at_call 32; refine (hfm _).mono ?_; rintro e9 w9 ⟨rfl, hw9⟩; obtain rfl := hw9.symm)
          go_round
          case rel => exact ⟨lo, m, rfl, by rw [HZ.out.1], l1, by omega, by have := HZ.out; omega⟩
          case measure => have := HZ.out; simp only [RowKit.intOf]; omega
      · have hdi : ¬ 1 < (hi : Int) - lo := by omega
        obtain rfl : lo = r := by omega
        go_wp2
        go_ret
        exact ⟨rfl, rfl⟩
  · rw [show decide (srungZ x < ((0 : Nat) : Int)) = false by simpa using hb] at hlt
    have k2 := key x rfl (by unfold srungZ at hb ⊢; split at hb <;> simp_all <;> omega)
    have HK : Hid (∀ m : Nat, m ≤ 2139095040 → (FloatKind.f32.format.order m x == some Ordering.lt) = decide (m < rungN x) ∧ (FloatKind.f32.format.order m x == some Ordering.eq) = decide (m = rungN x)) := k2
    clear key hb k2 hn
    generalize rungN x = r at *
    have HF : Hid (∀ (m : Nat), m ≤ 2139095040 → ∀ (w : World), Calls Tryz.prog 32 #[.bool false, .int .u32 (m : Int)] w fun e w' => e = .returned (.float .f32 m) ∧ w' = w) := hF
    clear hF
    go_enter Tryz.func19, Tryz.ntmps19
    go_wp2
    go_loop [3, 4] (fun lv hv => ∃ lo hi : Nat, lv = .int .u32 (lo : Int) ∧ hv = .int .u32 (hi : Int) ∧ lo ≤ r ∧ r < hi ∧ hi ≤ 2139095041) (fun lv hv => (RowKit.intOf hv - RowKit.intOf lv).toNat)
    case atStart => exact ⟨0, 2139095041, rfl, rfl, Nat.zero_le _, by omega, Nat.le_refl _⟩
    case round =>
      obtain ⟨lo, hi, rfl, rfl, l1, l2, l3⟩ := hrel
      by_cases hd : lo + 1 < hi
      · have hdi : 1 < (hi : Int) - lo := by omega
        obtain ⟨m, hmid⟩ : ∃ m : Nat, m = lo + (hi - lo) / 2 := ⟨_, rfl⟩
        have hfm := HF.out m (by omega)
        obtain ⟨k1, k2⟩ := HK.out m (by omega)
        have hmz : (m : Int) = (lo : Int) + ((hi : Int) - lo) / 2 := by omega
        have HZ : Hid ((m : Int) = (lo : Int) + ((hi : Int) - lo) / 2 ∧ lo < m ∧ m < hi) := ⟨hmz, by omega, by omega⟩
        rw [hmz] at hfm
        clear hmz hmid
        rcases Nat.lt_trichotomy m r with hle | hle | hle
        · rw [show decide (m < r) = true by simpa using hle] at k1
          clear k2
          go_wp2_with (go_at_call 32; refine (hfm _).mono ?_; rintro e9 w9 ⟨rfl, hw9⟩; obtain rfl := hw9.symm)
          go_round
          case rel => exact ⟨m, hi, by rw [HZ.out.1], rfl, by omega, l2, l3⟩
          case measure => have := HZ.out; simp only [RowKit.intOf]; omega
        · rw [show decide (m < r) = false by simp; omega] at k1
          rw [show decide (m = r) = true by simpa using hle] at k2
          have HL : Hid (m = r) := hle
          clear hle
          go_wp2_with (go_at_call 32; refine (hfm _).mono ?_; rintro e9 w9 ⟨rfl, hw9⟩; obtain rfl := hw9.symm)
          go_round
          case rel => exact ⟨m, hi, by rw [HZ.out.1], rfl, by have := HL.out; omega, l2, l3⟩
          case measure => have := HZ.out; simp only [RowKit.intOf]; omega
        · rw [show decide (m < r) = false by simp; omega] at k1
          rw [show decide (m = r) = false by simp; omega] at k2
          go_wp2_with (go_at_call 32; refine (hfm _).mono ?_; rintro e9 w9 ⟨rfl, hw9⟩; obtain rfl := hw9.symm)
          go_round
          case rel => exact ⟨lo, m, rfl, by rw [HZ.out.1], l1, by omega, by have := HZ.out; omega⟩
          case measure => have := HZ.out; simp only [RowKit.intOf]; omega
      · have hdi : ¬ 1 < (hi : Int) - lo := by omega
        obtain rfl : lo = r := by omega
        go_wp2
        go_ret
        exact ⟨rfl, rfl⟩

end Go.Proofs.YtnljpbpphdhnpaaGreatDoor


/- The document's Nearest. -/
namespace Go.Proofs.YtnljpbpphdhnpaaGreatDoor
open Go.RowKit Go.PlainAid

theorem at_le (n : Nat) (h : n ≤ 2139095040) (w : World) : Calls Tryz.prog 41 #[.int .u32 (n : Int)] w fun e w' => e = .returned (.tuple #[.int .u64 (atM n : Nat), .int .i64 (atE n)]) ∧ w' = w := by
  by_cases h1 : n < 2139095040
  · exact at_any n h1 w
  · obtain rfl : n = 2139095040 := by omega
    have hM : ((atM 2139095040 : Nat) : Int) = 8388608 := by decide
    have hE : atE 2139095040 = 105 := by decide
    rw [hM, hE]
    go_enter Tryz.func41, Tryz.ntmps41
    go_wp2
    go_ret2
    exact ⟨rfl, rfl⟩
theorem at_bounds (n : Nat) (h : n ≤ 2139095040) : atM n < 16777216 ∧ -149 ≤ atE n ∧ atE n ≤ 105 := by
  unfold atM atE
  split <;> omega

/-- n is the float below A over B, or the last one -/
def LowB (A B n : Nat) : Prop := n ≤ 2139095040 ∧ valN n * B ≤ A * 2 ^ 149 ∧ (n = 2139095040 ∨ A * 2 ^ 149 < valN (n + 1) * B)
def nearB (A B n : Nat) : Nat := if n = 2139095040 then n else if upB (2 * (A * 2 ^ 149)) ((valN n + valN (n + 1)) * B) n = true then n + 1 else n

/-- how the halving stands -/
def Hal (A B lo hi : Nat) : Prop := lo < hi ∧ hi ≤ 2139095041 ∧ valN lo * B ≤ A * 2 ^ 149 ∧ (hi = 2139095041 ∨ A * 2 ^ 149 < valN hi * B)

set_option maxRecDepth 1000000 in
set_option maxHeartbeats 3200000 in
theorem nearest_any (fa fb : Value) (A B K L : Nat) (w : World) (ha : Big w fa A K) (hb : Big w fb B L) (hK : K ≤ 3000) (hL : L ≤ 3000) :
    Calls Tryz.prog 35 #[.agg #[fa, fb]] w fun r w' => ∃ n, LowB A B n ∧ r = .returned (.int .u32 ((nearB A B n : Nat) : Int)) ∧ Keep [] w w' := by
  obtain ⟨ao, na, ca, rfl⟩ := ha.sl
  obtain ⟨bo, nb, cb, rfl⟩ := hb.sl
  have hAg : ∀ (n : Nat) (wr : World), n ≤ 2139095040 → Keep [] w wr → _ := fun n wr hn kw => against_any (.slice ao na ca) (.slice bo nb cb) A B K L (atM n) (atE n) wr (ha.keep kw (Off.nil _)) (hb.keep kw (Off.nil _)) hK hL (by have := at_bounds n hn; omega) (by have := at_bounds n hn; omega) (by have := at_bounds n hn; omega)
  have hAh : ∀ (n : Nat) (wr : World), n ≤ 2139095040 → Keep [] w wr → _ := fun n wr hn kw => against_any (.slice ao na ca) (.slice bo nb cb) A B K L (2 * atM n + 1) (atE n - 1) wr (ha.keep kw (Off.nil _)) (hb.keep kw (Off.nil _)) hK hL (by have := at_bounds n hn; omega) (by have := at_bounds n hn; omega) (by have := at_bounds n hn; omega)
  simp only [against_val] at hAg
  simp only [against_half] at hAh
  have HG : Hid _ := hAg
  have HH : Hid _ := hAh
  clear hAg hAh ha hb
  go_enter Tryz.func35, Tryz.ntmps35
  go_wp2
  go_loopw [3, 4] (fun lv hv wr => ∃ lo hi : Nat, lv = .int .u32 (lo : Int) ∧ hv = .int .u32 (hi : Int) ∧ Hid (Hal A B lo hi) ∧ Hid (wr.cell? ⟨w.heap.size, 0, none⟩ = some (.slice ao na ca) ∧ wr.cell? ⟨w.heap.size, 1, none⟩ = some (.slice bo nb cb) ∧ Keep [] w wr)) (fun lv hv _ => (intOf hv - intOf lv).toNat)
  case atStart => exact ⟨0, 2139095041, rfl, rfl, (⟨by decide, Nat.le_refl _, by rw [valN_zero]; simp, .inl rfl⟩ : Hal A B 0 2139095041), (⟨by simp, by simp, Keep.alloc1 w _⟩ : _ ∧ _ ∧ _)⟩
  case round =>
    obtain ⟨lo, hi, rfl, rfl, HI, HC⟩ := hrel
    have hlh : lo < hi := HI.out.1
    have hh1 : hi ≤ 2139095041 := HI.out.2.1
    have hc0 := HC.out.1
    have hc1 := HC.out.2.1
    by_cases hd : lo + 1 < hi
    · have hdi : 1 < (hi : Int) - lo := by omega
      obtain ⟨m, hmid⟩ : ∃ m : Nat, m = lo + (hi - lo) / 2 := ⟨_, rfl⟩
      have hmle : m ≤ 2139095040 := by omega
      have hAt := at_le m hmle
      have hmz : (m : Int) = (lo : Int) + ((hi : Int) - lo) / 2 := by omega
      have HZ : Hid ((m : Int) = (lo : Int) + ((hi : Int) - lo) / 2 ∧ lo < m ∧ m < hi) := ⟨hmz, by omega, by omega⟩
      have hag := HG.out m wr hmle HC.out.2.2
      rw [hmz] at hAt
      clear hmz hmid
      have hbd := at_bounds m hmle
      have hM0 : Hid (0 ≤ (atM m : Int) ∧ (atM m : Int) ≤ 16777216) := show 0 ≤ (atM m : Int) ∧ (atM m : Int) ≤ 16777216 by omega
      by_cases hc : valN m * B ≤ A * 2 ^ 149
      · have hge : (0 : Int) ≤ cmpI ((A * 2 ^ 149 : Nat) : Int) ((valN m * B : Nat) : Int) := by unfold cmpI; split; omega; split <;> omega
        have HJ : Hid (Hal A B m hi) := (⟨HZ.out.2.2, hh1, hc, HI.out.2.2.2⟩ : Hal A B m hi)
        clear hc
        generalize cmpI ((A * 2 ^ 149 : Nat) : Int) ((valN m * B : Nat) : Int) = z at *
        generalize ((atM m : Nat) : Int) = M at *
        generalize atE m = E at *
        go_wp2_with (first
          | (go_at_call 41; refine (hAt _).mono ?_; rintro e9 w9 ⟨rfl, hw9⟩; obtain rfl := hw9.symm)
          | (go_at_call 42; refine hag.mono ?_; rintro e9 w8 ⟨rfl, hk8⟩))
        have HC2 : Hid (w8.cell? ⟨w.heap.size, 0, none⟩ = some (.slice ao na ca) ∧ w8.cell? ⟨w.heap.size, 1, none⟩ = some (.slice bo nb cb) ∧ Keep [] w w8) := ⟨hk8.cell' HC.out.1 (by simp), hk8.cell' HC.out.2.1 (by simp), HC.out.2.2.trans' hk8⟩
        clear hk8
        go_roundw
        case rel => exact ⟨m, hi, by rw [HZ.out.1], rfl, HJ, HC2⟩
        case measure => have := HZ.out; simp only [intOf]; omega
      · have hge : ¬ (0 : Int) ≤ cmpI ((A * 2 ^ 149 : Nat) : Int) ((valN m * B : Nat) : Int) := by unfold cmpI; rw [if_pos (by omega)]; decide
        have HJ : Hid (Hal A B lo m) := (⟨HZ.out.2.1, by omega, HI.out.2.2.1, .inr (by omega)⟩ : Hal A B lo m)
        clear hc
        generalize cmpI ((A * 2 ^ 149 : Nat) : Int) ((valN m * B : Nat) : Int) = z at *
        generalize ((atM m : Nat) : Int) = M at *
        generalize atE m = E at *
        go_wp2_with (first
          | (go_at_call 41; refine (hAt _).mono ?_; rintro e9 w9 ⟨rfl, hw9⟩; obtain rfl := hw9.symm)
          | (go_at_call 42; refine hag.mono ?_; rintro e9 w8 ⟨rfl, hk8⟩))
        have HC2 : Hid (w8.cell? ⟨w.heap.size, 0, none⟩ = some (.slice ao na ca) ∧ w8.cell? ⟨w.heap.size, 1, none⟩ = some (.slice bo nb cb) ∧ Keep [] w w8) := ⟨hk8.cell' HC.out.1 (by simp), hk8.cell' HC.out.2.1 (by simp), HC.out.2.2.trans' hk8⟩
        clear hk8
        go_roundw
        case rel => exact ⟨lo, m, rfl, by rw [HZ.out.1], HJ, HC2⟩
        case measure => have := HZ.out; simp only [intOf]; omega
    · have hdi : ¬ 1 < (hi : Int) - lo := by omega
      have hhi : hi = lo + 1 := by omega
      have HLow : Hid (LowB A B lo) := (⟨by omega, HI.out.2.2.1, by
        rcases HI.out.2.2.2 with h | h
        · exact .inl (by omega)
        · exact .inr (by rw [← hhi]; exact h)⟩ : LowB A B lo)
      clear HI HG hd
      by_cases ho : lo = 2139095040
      · have HN : Hid (nearB A B lo = lo) := show nearB A B lo = lo by unfold nearB; rw [if_pos ho]
        have t0 : ((lo : Int) == 2139095040) = true := by simp; omega
        clear HH hhi ho
        go_wp2
        go_ret
        exact ⟨lo, HLow.out, by rw [HN.out]; rfl, HC.out.2.2⟩
      · have hlo : lo ≤ 2139095040 := HLow.out.1
        have hAt := at_le lo hlo
        have hah := HH.out lo wr hlo HC.out.2.2
        rw [show ((2 * atM lo + 1 : Nat) : Int) = 2 * ((atM lo : Nat) : Int) + 1 by omega] at hah
        have hbd := at_bounds lo hlo
        have t0 : ((lo : Int) == 2139095040) = false := by simp; omega
        have hM0 : (0 : Int) ≤ ((atM lo : Nat) : Int) ∧ ((atM lo : Nat) : Int) < 16777216 := by omega
        have hE0 : -149 ≤ atE lo ∧ atE lo ≤ 105 := hbd.2
        have hln : (lo : Int) ≤ 2139095039 := by omega
        clear HH hhi hbd
        have hnear : nearB A B lo = if upB (2 * (A * 2 ^ 149)) ((valN lo + valN (lo + 1)) * B) lo = true then lo + 1 else lo := by unfold nearB; rw [if_neg ho]
        unfold upB at hnear
        generalize hS : (valN lo + valN (lo + 1)) * B = S at hnear hah
        generalize hV2 : 2 * (A * 2 ^ 149) = V2 at hnear hah
        have HS : Hid ((valN lo + valN (lo + 1)) * B = S ∧ 2 * (A * 2 ^ 149) = V2) := ⟨hS, hV2⟩
        clear hS hV2
        generalize ((atM lo : Nat) : Int) = M at *
        generalize atE lo = E at *
        obtain ⟨hM1, hM2⟩ := hM0
        obtain ⟨hE1, hE2⟩ := hE0
        rcases Nat.lt_trichotomy S V2 with c1 | c1 | c1
        · have hz : cmpI (V2 : Nat) (S : Nat) = 1 := by unfold cmpI; rw [if_neg (by omega), if_pos (by omega)]
          rw [hz] at hah
          have HN : Hid (((nearB A B lo : Nat) : Int) = (lo : Int) + 1) := show ((nearB A B lo : Nat) : Int) = (lo : Int) + 1 by rw [hnear, decide_eq_true c1, Bool.true_or, if_pos rfl]; omega
          clear hnear hz c1 ho
          go_wp2_with (first
            | (go_at_call 41; refine (hAt _).mono ?_; rintro e9 w9 ⟨rfl, hw9⟩; obtain rfl := hw9.symm)
            | (go_at_call 42; refine hah.mono ?_; rintro e9 w8 ⟨rfl, hk8⟩))
          go_ret
          refine ⟨lo, HLow.out, ?_, HC.out.2.2.trans' hk8⟩
          rw [HN.out]
          rfl
        · have hz : cmpI (V2 : Nat) (S : Nat) = 0 := by unfold cmpI; rw [if_neg (by omega), if_neg (by omega)]
          rw [hz] at hah
          by_cases hp : lo % 2 = 1
          · have HN : Hid (((nearB A B lo : Nat) : Int) = (lo : Int) + 1) := show ((nearB A B lo : Nat) : Int) = (lo : Int) + 1 by rw [hnear, decide_eq_true c1.symm, decide_eq_true hp, Bool.and_true, Bool.or_true, if_pos rfl]; omega
            have t1 : ((lo : Int) % 2 == 1) = true := by simp; omega
            clear hnear hz c1 ho
            go_wp2_with (first
              | (go_at_call 41; refine (hAt _).mono ?_; rintro e9 w9 ⟨rfl, hw9⟩; obtain rfl := hw9.symm)
              | (go_at_call 42; refine hah.mono ?_; rintro e9 w8 ⟨rfl, hk8⟩))
            go_ret
            refine ⟨lo, HLow.out, ?_, HC.out.2.2.trans' hk8⟩
            rw [HN.out]
            rfl
          · have HN : Hid (((nearB A B lo : Nat) : Int) = (lo : Int)) := show ((nearB A B lo : Nat) : Int) = (lo : Int) by rw [hnear, decide_eq_false hp, Bool.and_false, Bool.or_false, decide_eq_false (show ¬ S < V2 by omega), if_neg (by decide)]
            have t1 : ((lo : Int) % 2 == 1) = false := by simp; omega
            clear hnear hz c1 ho
            go_wp2_with (first
              | (go_at_call 41; refine (hAt _).mono ?_; rintro e9 w9 ⟨rfl, hw9⟩; obtain rfl := hw9.symm)
              | (go_at_call 42; refine hah.mono ?_; rintro e9 w8 ⟨rfl, hk8⟩))
            go_ret
            refine ⟨lo, HLow.out, ?_, HC.out.2.2.trans' hk8⟩
            rw [HN.out]
            rfl
        · have hz : cmpI (V2 : Nat) (S : Nat) = -1 := by unfold cmpI; rw [if_pos (by omega)]
          rw [hz] at hah
          have HN : Hid (((nearB A B lo : Nat) : Int) = (lo : Int)) := show ((nearB A B lo : Nat) : Int) = (lo : Int) by rw [hnear, decide_eq_false (show ¬ S < V2 by omega), decide_eq_false (show ¬ V2 = S by omega), Bool.false_and, Bool.or_false, if_neg (by decide)]
          clear hnear hz c1 ho
          go_wp2_with (first
            | (go_at_call 41; refine (hAt _).mono ?_; rintro e9 w9 ⟨rfl, hw9⟩; obtain rfl := hw9.symm)
            | (go_at_call 42; refine hah.mono ?_; rintro e9 w8 ⟨rfl, hk8⟩))
          go_ret
          refine ⟨lo, HLow.out, ?_, HC.out.2.2.trans' hk8⟩
          rw [HN.out]
          rfl

/-- beside a whole number -/
theorem nearest_whole (fa fb : Value) (A K L : Nat) (w : World) (ha : Big w fa A K) (hb : Big w fb 1 L) (hK : K ≤ 3000) (hL : L ≤ 3000) :
    Calls Tryz.prog 35 #[.agg #[fa, fb]] w fun r w' => r = .returned (.int .u32 ((rndR (A * 2 ^ 149) : Nat) : Int)) ∧ Keep [] w w' := by
  refine (nearest_any fa fb A 1 K L w ha hb hK hL).mono ?_
  rintro e w' ⟨n, hl, he, hk⟩
  refine ⟨?_, hk⟩
  rw [he]
  have h1 : nearB A 1 n = nearN (A * 2 ^ 149) n := by unfold nearB nearN; rw [Nat.mul_one]
  have h2 : Low (A * 2 ^ 149) n := by
    unfold LowB at hl
    rw [Nat.mul_one, Nat.mul_one] at hl
    exact hl
  rw [h1, near_rnd _ _ h2]
end Go.Proofs.YtnljpbpphdhnpaaGreatDoor


/- Decimal digits: the number that they say, noughts at their end. -/
namespace Go.Proofs.YtnljpbpphdhnpaaGreatDoor
open Go.RowKit Go.PlainAid

/-- the number that digits say -/
def dvL (l : List UInt8) : Nat := l.foldl (fun a c => a * 10 + (c.toNat - 48)) 0
theorem dv_snoc (l : List UInt8) (c : UInt8) : dvL (l ++ [c]) = dvL l * 10 + (c.toNat - 48) := by
  unfold dvL; rw [List.foldl_append]; rfl
theorem dv_dec (u : Nat) : dvL (Lib.decDigits u) = u := by
  induction u using Nat.strongRecOn with
  | _ u ih =>
    rw [Lib.decDigits]
    split
    · rename_i h
      have : (UInt8.ofNat (48 + u)).toNat = 48 + u := by simp; omega
      simp only [dvL, List.foldl_cons, List.foldl_nil, this]; omega
    · rename_i h
      have : (UInt8.ofNat (48 + u % 10)).toNat = 48 + u % 10 := by simp; omega
      rw [dv_snoc, ih (u / 10) (by omega), this]; omega
theorem dec_digit (u : Nat) : ∀ c ∈ Lib.decDigits u, 48 ≤ c.toNat ∧ c.toNat ≤ 57 := by
  induction u using Nat.strongRecOn with
  | _ u ih =>
    intro c hc
    rw [Lib.decDigits] at hc
    split at hc
    · rename_i h
      have : (UInt8.ofNat (48 + u)).toNat = 48 + u := by simp; omega
      rw [List.mem_singleton.1 hc, this]; omega
    · rename_i h
      have : (UInt8.ofNat (48 + u % 10)).toNat = 48 + u % 10 := by simp; omega
      rcases List.mem_append.1 hc with hc | hc
      · exact ih (u / 10) (by omega) c hc
      · rw [List.mem_singleton.1 hc, this]; omega
theorem dec_head (u : Nat) (hu : 0 < u) : ∃ c cs, Lib.decDigits u = c :: cs ∧ 49 ≤ c.toNat := by
  induction u using Nat.strongRecOn with
  | _ u ih =>
    rw [Lib.decDigits]
    split
    · rename_i h
      have : (UInt8.ofNat (48 + u)).toNat = 48 + u := by simp; omega
      exact ⟨_, [], rfl, by rw [this]; omega⟩
    · rename_i h
      obtain ⟨c, cs, e, hc⟩ := ih (u / 10) (by omega) (by omega)
      exact ⟨c, cs ++ [UInt8.ofNat (48 + u % 10)], by rw [e]; rfl, hc⟩
theorem dec_len (u : Nat) (h : u < 10 ^ 19) : 1 ≤ (Lib.decDigits u).length ∧ (Lib.decDigits u).length ≤ 19 := by
  rw [Lib.decDigits_length]
  refine ⟨Lib.nDigits_pos u, ?_⟩
  by_cases h0 : u = 0
  · rw [h0, Lib.nDigits_small (by omega)]; omega
  · have : ∀ (k u : Nat), u < 10 ^ k → 0 < k → Lib.nDigits u ≤ k := by
      intro k
      induction k with
      | zero => intro u _ h; omega
      | succ k ih =>
        intro u hu _
        by_cases h10 : u < 10
        · rw [Lib.nDigits_small h10]; omega
        · rw [Lib.nDigits_big h10]
          rw [Nat.pow_succ] at hu
          have hk : 0 < k := by
            rcases Nat.eq_zero_or_pos k with rfl | h
            · simp at hu; omega
            · exact h
          have := ih (u / 10) (by omega) hk
          omega
    exact this 19 u h (by omega)
/-- digits with no nought at the end, and the noughts behind them -/
theorem cut_noughts (l : List UInt8) : ∃ j, Lib.trimRightB l 48 ++ List.replicate j 48 = l ∧ (Lib.trimRightB l 48).length + j = l.length := by
  have h : ∀ m : List UInt8, ∃ j, List.replicate j 48 ++ m.dropWhile (· == 48) = m := by
    intro m
    induction m with
    | nil => exact ⟨0, rfl⟩
    | cons c m ih =>
      by_cases hc : c = 48
      · obtain ⟨j, hj⟩ := ih
        refine ⟨j + 1, ?_⟩
        rw [hc, List.dropWhile_cons_of_pos (by simp), List.replicate_succ, List.cons_append, hj]
      · exact ⟨0, by rw [List.dropWhile_cons_of_neg (by simpa using hc)]; rfl⟩
  obtain ⟨j, hj⟩ := h l.reverse
  have e : Lib.trimRightB l 48 ++ List.replicate j 48 = l := by
    unfold Lib.trimRightB
    have := congrArg List.reverse hj
    rwa [List.reverse_append, List.reverse_reverse, List.reverse_replicate] at this
  refine ⟨j, e, ?_⟩
  have := congrArg List.length e
  simpa using this
theorem dv_noughts (l : List UInt8) : ∀ j, dvL (l ++ List.replicate j 48) = dvL l * 10 ^ j
  | 0 => by simp
  | j + 1 => by
    rw [List.replicate_succ', ← List.append_assoc, dv_snoc, dv_noughts l j, Nat.pow_succ, Nat.mul_assoc]; simp
theorem dv_lt (l : List UInt8) (h : ∀ c ∈ l, 48 ≤ c.toNat ∧ c.toNat ≤ 57) : dvL l < 10 ^ l.length := by
  suffices ∀ (m : List UInt8) (hm : ∀ c ∈ m, 48 ≤ c.toNat ∧ c.toNat ≤ 57), dvL m.reverse < 10 ^ m.length by
    have := this l.reverse (fun c hc => h c (List.mem_reverse.1 hc))
    simpa using this
  intro m
  induction m with
  | nil => intro _; simp [dvL]
  | cons c m ih =>
    intro hm
    have h1 := ih (fun x hx => hm x (List.mem_cons_of_mem _ hx))
    have h2 := hm c (List.mem_cons_self ..)
    rw [List.reverse_cons, dv_snoc, List.length_cons, Nat.pow_succ]
    omega
theorem trimR_zero (l : List UInt8) : Lib.trimRightB (l ++ [48]) 48 = Lib.trimRightB l 48 := by
  unfold Lib.trimRightB
  rw [List.reverse_append]
  rfl
end Go.Proofs.YtnljpbpphdhnpaaGreatDoor


/- The document's powers of ten, and a number beside one. -/
namespace Go.Proofs.YtnljpbpphdhnpaaGreatDoor
open Go.RowKit Go.PlainAid

set_option maxRecDepth 1000000 in
set_option maxHeartbeats 1600000 in
theorem powers_neg10 (v : Value) (k : Int) (hk : k ≤ 0) (w : World) : Calls Tryz.prog 57 #[v, .int .i64 10, .int .i64 k] w fun e w' => e = .returned v ∧ w' = w := by
  have h1 : ¬ (8 : Int) ≤ k := by omega
  have h2 : ¬ (0 : Int) < k := by omega
  go_enter Tryz.func57, Tryz.ntmps57
  go_wp2
  refine wp_loop_rounds 1 ?_
  rw [rounds_succ]
  go_wp2
  refine wp_loop_rounds 1 ?_
  rw [rounds_succ]
  go_wp2
  go_ret
  exact ⟨rfl, rfl⟩

structure PowT (w wr : World) (v nv : Value) (N K j : Nat) : Prop where
  big : Big wr nv (N * 10 ^ j) (K + j)
  own : nv = v ∨ Fresh w wr nv
  keep : Keep [] w wr

theorem PowT.next {w wr w1 : World} {v nv n1 : Value} {N K j : Nat} (h : PowT w wr v nv N K j) (d : Nat) (hd : 1 ≤ d) (g : Big w1 n1 (N * 10 ^ j * 10 ^ d) (K + j + 1) ∧ Fresh wr w1 n1) (k : Keep [] wr w1) : PowT w w1 v n1 N K (j + d) := by
  refine ⟨?_, .inr (g.2.earlier h.keep.size), h.keep.trans' k⟩
  rw [Nat.pow_add, ← Nat.mul_assoc]
  exact g.1.mono (by omega)

set_option maxRecDepth 1000000 in
set_option maxHeartbeats 3200000 in
theorem powers_ten (v : Value) (N K k : Nat) (w : World) (h : Big w v N K) (hK : K ≤ 1000) (hk : k ≤ 1000) :
    Calls Tryz.prog 57 #[v, .int .i64 10, .int .i64 (k : Int)] w fun e w' => ∃ v', e = .returned v' ∧ (Big w' v' (N * 10 ^ k) (K + k) ∧ (v' = v ∨ Fresh w w' v')) ∧ Keep [] w w' := by
  have H0 : Hid (Big w v N K) := h
  clear h
  go_enter Tryz.func57, Tryz.ntmps57
  go_wp2
  go_loopw [0, 2] (fun nv kv wr => ∃ m : Nat, kv = .int .i64 (m : Int) ∧ m ≤ k ∧ Hid (PowT w wr v nv N K (k - m))) (fun _ kv _ => (intOf kv).toNat)
  case atStart => exact ⟨k, rfl, Nat.le_refl _, (⟨by simpa using H0.out, .inl rfl, Keep.refl _ w⟩ : PowT w w v v N K (k - k))⟩
  case round =>
    obtain ⟨m, rfl, hm, HI⟩ := hrel
    by_cases h8 : 8 ≤ m
    · obtain ⟨j, rfl⟩ : ∃ j, m = j + 8 := ⟨m - 8, by omega⟩
      have hT := times_big u0 _ _ 100000000 wr HI.out.big (by omega) (by decide) (by decide)
      rw [show ((100000000 : Nat) : Int) = 100000000 from rfl] at hT
      have h8i : (8 : Int) ≤ ((j + 8 : Nat) : Int) := by omega
      go_wp2_with (go_at_call 82; refine hT.mono ?_; rintro e9 w9 ⟨v9, rfl, hb9, hk9⟩)
      have HJ : Hid (PowT w w9 v v9 N K (k - j)) := show PowT w w9 v v9 N K (k - j) by
        have := HI.out.next 8 (by decide) hb9 hk9
        rwa [show k - (j + 8) + 8 = k - j by omega] at this
      clear hb9 hk9 hT
      go_roundw
      case rel => exact ⟨j, by go_num, by omega, HJ⟩
      case measure => (simp [intOf]; try omega)
    · have h8i : ¬ (8 : Int) ≤ (m : Int) := by omega
      go_wp2
      clear H0
      go_loopw [0, 7] (fun nv iv wr => ∃ i : Nat, iv = .int .i64 (i : Int) ∧ i ≤ m ∧ Hid (PowT w wr v nv N K (k - m + i))) (fun _ iv _ => m - (intOf iv).toNat)
      case atStart => exact ⟨0, rfl, Nat.zero_le _, HI⟩
      case round =>
        clear HI
        obtain ⟨i, rfl, hi, HI⟩ := hrel
        by_cases hl : i < m
        · have hT := times_big u0 _ _ 10 wr HI.out.big (by omega) (by decide) (by decide)
          rw [show ((10 : Nat) : Int) = 10 from rfl] at hT
          have hli : (i : Int) < (m : Int) := by omega
          go_wp2_with (go_at_call 82; refine hT.mono ?_; rintro e9 w9 ⟨v9, rfl, hb9, hk9⟩)
          have HJ : Hid (PowT w w9 v v9 N K (k - m + (i + 1))) := HI.out.next 1 (by decide) hb9 hk9
          clear hb9 hk9 hT
          go_roundw
          case rel => exact ⟨i + 1, by go_num, by omega, HJ⟩
          case measure => (simp [intOf]; try omega)
        · have hli : ¬ (i : Int) < (m : Int) := by omega
          go_wp2
          go_ret
          have h1 := HI.out
          rw [show k - m + i = k by omega] at h1
          exact ⟨_, rfl, ⟨h1.big, h1.own⟩, h1.keep⟩

theorem powers_int10 (v : Value) (N K : Nat) (k : Int) (w : World) (h : Big w v N K) (hK : K ≤ 1000) (hk : k ≤ 1000) :
    Calls Tryz.prog 57 #[v, .int .i64 10, .int .i64 k] w fun e w' => ∃ v', e = .returned v' ∧ (Big w' v' (N * 10 ^ k.toNat) (K + k.toNat) ∧ (v' = v ∨ Fresh w w' v')) ∧ Keep [] w w' := by
  by_cases h0 : k ≤ 0
  · refine (powers_neg10 v k h0 w).mono ?_
    rintro e w' ⟨rfl, rfl⟩
    rw [show k.toNat = 0 by omega]
    exact ⟨v, rfl, ⟨by simpa using h, .inl rfl⟩, Keep.refl _ _⟩
  · have hc := powers_ten v N K k.toNat w h hK (by omega)
    rw [show ((k.toNat : Nat) : Int) = k by omega] at hc
    refine hc.mono ?_
    exact fun _ _ h => h

set_option maxRecDepth 1000000 in
set_option maxHeartbeats 3200000 in
theorem ten_any (m : Nat) (e : Int) (hm : m < 9223372036854775808) (he1 : -500 ≤ e) (he2 : e ≤ 500) (w : World) :
    Calls Tryz.prog 43 #[.int .i64 (m : Int), .int .i64 e] w fun r w' => ∃ va vb, r = .returned (.agg #[va, vb]) ∧ (Big w' va (m * 10 ^ e.toNat) 1000 ∧ Big w' vb (10 ^ (-e).toNat) 1000) ∧ Keep [] w w' := by
  go_enter Tryz.func43, Tryz.ntmps43
  go_wp2_with fail
  refine (number_big m (by omega) _).mono ?_
  rintro e9 w1 ⟨v1, rfl, hb1, hf1, hk1⟩
  go_wp2_with fail
  refine (powers_int10 v1 m 3 e _ hb1 (by omega) (by omega)).mono ?_
  rintro e9 w2 ⟨va, rfl, ⟨hba, hoa⟩, hka⟩
  go_wp2_with fail
  refine (powers_int10 _ 1 1 (-e) _ (Big.one w2) (by omega) (by omega)).mono ?_
  rintro e9 w3 ⟨vb, rfl, ⟨hbb, hob⟩, hkb⟩
  have K1 : Keep [] (w.alloc (Obj.cells #[Value.slice none 0 0, Value.slice none 0 0] 57)) w2 := hk1.trans' hka
  have K2 : Keep [] (w.alloc (Obj.cells #[Value.slice none 0 0, Value.slice none 0 0] 57)) w3 := (K1.alloc _).trans' hkb
  have K3 : Keep [] w2 w3 := (Keep.alloc1 w2 _).trans' hkb
  have s1 := hk1.size
  have s2 := hka.size
  simp at s1
  have HA : Hid (Big w3 va (m * 10 ^ e.toNat) 1000 ∧ Off va [w.heap.size]) := ⟨(hba.keep K3 (Off.nil _)).mono (by omega), by
    rcases hoa with rfl | h
    · exact hf1.off1
    · exact (h.earlier (w0 := w.alloc (Obj.cells #[Value.slice none 0 0, Value.slice none 0 0] 57)) (by simpa using s1)).off1⟩
  have HBb : Hid (Big w3 vb (10 ^ (-e).toNat) 1000 ∧ Off vb [w.heap.size]) := ⟨by rw [Nat.one_mul] at hbb; exact hbb.mono (by omega), by
    rcases hob with rfl | h
    · intro k hk hn
      simp [Value.ownBlock] at hk hn
      omega
    · intro k hk hn
      have := (h k hk).1
      simp at this hn
      omega⟩
  have HK : Hid (Keep [] w w3) := (show Keep [] w w3 from ((Keep.alloc1 w _).trans' K2))
  have hc0 : w3.cell? ⟨w.heap.size, 0, none⟩ = some (.slice none 0 0) := K2.cell' (by simp) (by simp)
  have hc1 : w3.cell? ⟨w.heap.size, 1, none⟩ = some (.slice none 0 0) := K2.cell' (by simp) (by simp)
  have hf0 : w3.frozen? ⟨w.heap.size, 0, none⟩ = false := (K2.frozen (by simp) (by simp)).trans (by simp)
  have hf9 : w3.frozen? ⟨w.heap.size, 1, none⟩ = false := (K2.frozen (by simp) (by simp)).trans (by simp)
  obtain ⟨ao, na, ca, rfl⟩ := hba.sl
  obtain ⟨bo, nb, cb, rfl⟩ := hbb.sl
  clear hb1 hf1 hk1 hba hoa hka hbb hob hkb K1 K2 K3 s1 s2
  have HG : Hid (w.heap.size ≤ w.heap.size) := Nat.le_refl _
  generalize hgg : w.heap.size = g at *
  have HG : Hid (w.heap.size ≤ g) := show w.heap.size ≤ g by omega
  clear hgg
  have hd1 : (w3.setCell ⟨g, 0, none⟩ (.slice ao na ca)).cell? ⟨g, 1, none⟩ = some (.slice none 0 0) := by rw [World.cell?_setCell_other _ _ _ _ (by simp)]; exact hc1
  have d1 : ((w3.setCell ⟨g, 0, none⟩ (.slice ao na ca)).setCell ⟨g, 1, none⟩ (.slice bo nb cb)).cell? ⟨g, 1, none⟩ = some (.slice bo nb cb) := World.cell?_setCell_same _ _ _ hd1
  have d0 : ((w3.setCell ⟨g, 0, none⟩ (.slice ao na ca)).setCell ⟨g, 1, none⟩ (.slice bo nb cb)).cell? ⟨g, 0, none⟩ = some (.slice ao na ca) := by
    rw [World.cell?_setCell_other _ _ _ _ (by simp)]; exact World.cell?_setCell_same _ _ _ hc0
  have KS : Keep [g] w3 ((w3.setCell ⟨g, 0, none⟩ (.slice ao na ca)).setCell ⟨g, 1, none⟩ (.slice bo nb cb)) := ((Keep.refl [g] w3).setCell (p := ⟨g, 0, none⟩) (.inl (by simp)) _).setCell (p := ⟨g, 1, none⟩) (.inl (by simp)) _
  have HR : Hid ((Big ((w3.setCell ⟨g, 0, none⟩ (.slice ao na ca)).setCell ⟨g, 1, none⟩ (.slice bo nb cb)) (.slice ao na ca) (m * 10 ^ e.toNat) 1000 ∧ Big ((w3.setCell ⟨g, 0, none⟩ (.slice ao na ca)).setCell ⟨g, 1, none⟩ (.slice bo nb cb)) (.slice bo nb cb) (10 ^ (-e).toNat) 1000) ∧ Keep [] w ((w3.setCell ⟨g, 0, none⟩ (.slice ao na ca)).setCell ⟨g, 1, none⟩ (.slice bo nb cb))) :=
    ⟨⟨HA.out.1.keep KS HA.out.2, HBb.out.1.keep KS HBb.out.2⟩, HK.out.more KS (by intro x hx; simp at hx; subst hx; exact .inr HG.out)⟩
  clear KS HA HBb HK hd1
  go_wp2
  generalize ((w3.setCell ⟨g, 0, none⟩ (.slice ao na ca)).setCell ⟨g, 1, none⟩ (.slice bo nb cb)) = W at d0 d1 HR ⊢
  refine bodyPost_ret (v := .agg #[.slice ao na ca, .slice bo nb cb]) (by simp [results, Tryz.results43, go_sem, d0, d1]) rfl ?_
  exact ⟨_, _, rfl, HR.out⟩
end Go.Proofs.YtnljpbpphdhnpaaGreatDoor

