/- The document's worth of a float, and how a number stands to it. -/
import Derived.Test.YtjdihnkcigoajaaGreatDoorBigE
import Derived.Handy
import Derived.Deep.RegionHeld3
import Derived.Test.YtjdihnkcigoajaaGreatDoorSameR
import Derived.Test.YtjdihnkcigoajaaGreatDoorUsE
import Derived.Test.YtjdihnkcigoajaaGreatDoorNgM
import Derived.Test.YtjdihnkcigoajaaGreatDoorTxM

namespace Go.Proofs.YtjdihnkcigoajaaGreatDoor
open Go.RowKit Go.PlainAid

theorem powers_int (v : Value) (N K : Nat) (k : Int) (w : World) (h : Big w v N K) (hK : K ≤ 1000) (hk : k ≤ 1000) :
    Calls Tryz.prog 93 #[v, .int .i64 2, .int .i64 k] w fun e w' => ∃ v', e = .returned v' ∧ (Big w' v' (N * 2 ^ k.toNat) (K + k.toNat) ∧ (v' = v ∨ Fresh w w' v')) ∧ Keep [] w w' := by
  by_cases h0 : k ≤ 0
  · refine (powers_neg v k h0 w).mono ?_
    rintro e w' ⟨rfl, rfl⟩
    rw [show k.toNat = 0 by omega]
    exact ⟨v, rfl, ⟨by simpa using h, .inl rfl⟩, Keep.refl _ _⟩
  · have hc := powers_two v N K k.toNat w h hK (by omega)
    rw [show ((k.toNat : Nat) : Int) = k by omega] at hc
    refine hc.mono ?_
    exact fun _ _ h => h

theorem Big.one (w : World) : Big (w.alloc (.cells #[.int .i64 1] TI)) (.slice (some ⟨w.heap.size, 0, none⟩) 1 1) 1 1 :=
  ⟨[1], Is.one w 1, fun x hx => by simp at hx; omega, fun _ => by decide, rfl, by simp⟩

theorem Big.sl {w : World} {v : Value} {N K : Nat} (h : Big w v N K) : ∃ a n c, v = .slice a n c := by
  obtain ⟨l, hl, _⟩ := h
  obtain ⟨ao, cap, he, _⟩ := hl.ex
  exact ⟨ao, _, cap, he⟩
theorem Fresh.off1 {w w' : World} {o : Obj} {v : Value} (h : Fresh (w.alloc o) w' v) : Off v [w.heap.size] := fun k hk hn => by
  have := (h k hk).1
  simp at this hn
  omega

set_option maxRecDepth 1000000 in
set_option maxHeartbeats 3200000 in
theorem worth_any (m : Nat) (e : Int) (hm : m < 18446744073709551616) (he1 : -500 ≤ e) (he2 : e ≤ 500) (w : World) :
    Calls Tryz.prog 90 #[.int .u64 (m : Int), .int .i64 e] w fun r w' => ∃ va vb, r = .returned (.agg #[va, vb]) ∧ (Big w' va (m * 2 ^ e.toNat) 1000 ∧ Big w' vb (2 ^ (-e).toNat) 1000) ∧ Keep [] w w' := by
  go_enter Tryz.func90, Tryz.ntmps90
  go_wp2_with fail
  refine (number_big m hm _).mono ?_
  rintro e9 w1 ⟨v1, rfl, hb1, hf1, hk1⟩
  go_wp2_with fail
  refine (powers_int v1 m 3 e _ hb1 (by omega) (by omega)).mono ?_
  rintro e9 w2 ⟨va, rfl, ⟨hba, hoa⟩, hka⟩
  go_wp2_with fail
  refine (powers_int _ 1 1 (-e) _ (Big.one w2) (by omega) (by omega)).mono ?_
  rintro e9 w3 ⟨vb, rfl, ⟨hbb, hob⟩, hkb⟩
  have K1 : Keep [] (w.alloc (Obj.cells #[Value.slice none 0 0, Value.slice none 0 0] 91)) w2 := hk1.trans' hka
  have K2 : Keep [] (w.alloc (Obj.cells #[Value.slice none 0 0, Value.slice none 0 0] 91)) w3 := (K1.alloc _).trans' hkb
  have K3 : Keep [] w2 w3 := (Keep.alloc1 w2 _).trans' hkb
  have s1 := hk1.size
  have s2 := hka.size
  simp at s1
  have HA : Hid (Big w3 va (m * 2 ^ e.toNat) 1000 ∧ Off va [w.heap.size]) := ⟨(hba.keep K3 (Off.nil _)).mono (by omega), by
    rcases hoa with rfl | h
    · exact hf1.off1
    · exact (h.earlier (w0 := w.alloc (Obj.cells #[Value.slice none 0 0, Value.slice none 0 0] 91)) (by simpa using s1)).off1⟩
  have HBb : Hid (Big w3 vb (2 ^ (-e).toNat) 1000 ∧ Off vb [w.heap.size]) := ⟨by rw [Nat.one_mul] at hbb; exact hbb.mono (by omega), by
    rcases hob with rfl | h
    · intro k hk hn
      simp [Value.ownBlock] at hk hn
      omega
    · intro k hk hn
      have := (h k hk).1
      simp at this hn
      omega⟩
  have HK : Hid (Keep [] w w3) := (show Keep [] w w3 from ((Keep.alloc1 w _).trans' K2))
  have hc0 : w3.cell? ⟨w.heap.size, 0, none⟩ = some (.slice none 0 0) := K2.cell' (by simp) (by simp)
  have hc1 : w3.cell? ⟨w.heap.size, 1, none⟩ = some (.slice none 0 0) := K2.cell' (by simp) (by simp)
  have hf0 : w3.frozen? ⟨w.heap.size, 0, none⟩ = false := (K2.frozen (by simp) (by simp)).trans (by simp)
  have hf9 : w3.frozen? ⟨w.heap.size, 1, none⟩ = false := (K2.frozen (by simp) (by simp)).trans (by simp)
  obtain ⟨ao, na, ca, rfl⟩ := hba.sl
  obtain ⟨bo, nb, cb, rfl⟩ := hbb.sl
  clear hb1 hf1 hk1 hba hoa hka hbb hob hkb K1 K2 K3 s1 s2
  have HG : Hid (w.heap.size ≤ w.heap.size) := Nat.le_refl _
  generalize hgg : w.heap.size = g at *
  have HG : Hid (w.heap.size ≤ g) := show w.heap.size ≤ g by omega
  clear hgg
  have hd1 : (w3.setCell ⟨g, 0, none⟩ (.slice ao na ca)).cell? ⟨g, 1, none⟩ = some (.slice none 0 0) := by rw [World.cell?_setCell_other _ _ _ _ (by simp)]; exact hc1
  have d1 : ((w3.setCell ⟨g, 0, none⟩ (.slice ao na ca)).setCell ⟨g, 1, none⟩ (.slice bo nb cb)).cell? ⟨g, 1, none⟩ = some (.slice bo nb cb) := World.cell?_setCell_same _ _ _ hd1
  have d0 : ((w3.setCell ⟨g, 0, none⟩ (.slice ao na ca)).setCell ⟨g, 1, none⟩ (.slice bo nb cb)).cell? ⟨g, 0, none⟩ = some (.slice ao na ca) := by
    rw [World.cell?_setCell_other _ _ _ _ (by simp)]; exact World.cell?_setCell_same _ _ _ hc0
  have KS : Keep [g] w3 ((w3.setCell ⟨g, 0, none⟩ (.slice ao na ca)).setCell ⟨g, 1, none⟩ (.slice bo nb cb)) := ((Keep.refl [g] w3).setCell (p := ⟨g, 0, none⟩) (.inl (by simp)) _).setCell (p := ⟨g, 1, none⟩) (.inl (by simp)) _
  have HR : Hid ((Big ((w3.setCell ⟨g, 0, none⟩ (.slice ao na ca)).setCell ⟨g, 1, none⟩ (.slice bo nb cb)) (.slice ao na ca) (m * 2 ^ e.toNat) 1000 ∧ Big ((w3.setCell ⟨g, 0, none⟩ (.slice ao na ca)).setCell ⟨g, 1, none⟩ (.slice bo nb cb)) (.slice bo nb cb) (2 ^ (-e).toNat) 1000) ∧ Keep [] w ((w3.setCell ⟨g, 0, none⟩ (.slice ao na ca)).setCell ⟨g, 1, none⟩ (.slice bo nb cb))) :=
    ⟨⟨HA.out.1.keep KS HA.out.2, HBb.out.1.keep KS HBb.out.2⟩, HK.out.more KS (by intro x hx; simp at hx; subst hx; exact .inr HG.out)⟩
  clear KS HA HBb HK hd1
  go_wp2
  generalize ((w3.setCell ⟨g, 0, none⟩ (.slice ao na ca)).setCell ⟨g, 1, none⟩ (.slice bo nb cb)) = W at d0 d1 HR ⊢
  refine bodyPost_ret (v := .agg #[.slice ao na ca, .slice bo nb cb]) (by simp [results, Tryz.results90, go_sem, d0, d1]) rfl ?_
  exact ⟨_, _, rfl, HR.out⟩
end Go.Proofs.YtjdihnkcigoajaaGreatDoor



/- How a number stands to a float's worth: the document's against. -/
namespace Go.Proofs.YtjdihnkcigoajaaGreatDoor
open Go.RowKit Go.PlainAid

theorem compare_nums (u v : Value) (M N K L : Nat) (w : World) (hu : Big w u M K) (hv : Big w v N L) : Calls Tryz.prog 91 #[u, v] w fun e w' => e = .returned (.int .i64 (cmpI (M : Nat) (N : Nat))) ∧ Keep [] w w' := by
  obtain ⟨a, h1, h2, h3, rfl, h5⟩ := hu
  obtain ⟨b, g1, g2, g3, rfl, g5⟩ := hv
  refine (compare_big u v a b w h1 g1 h2 g2 h3 g3).mono ?_
  rintro e w' ⟨rfl, n, rfl⟩
  exact ⟨rfl, (Keep.refl _ w).drewN n⟩

/-- what is held: the four parts -/
def Four (W : World) (p q : Nat) (a b c d : Value) (w : World) : Prop :=
  (w.cell? ⟨p, 0, none⟩ = some a ∧ w.cell? ⟨p, 1, none⟩ = some b ∧ w.cell? ⟨q, 0, none⟩ = some c ∧ w.cell? ⟨q, 1, none⟩ = some d) ∧ Keep [] W w
theorem Four.start {W : World} {p q : Nat} {a b c d : Value} (h : W.cell? ⟨p, 0, none⟩ = some a ∧ W.cell? ⟨p, 1, none⟩ = some b ∧ W.cell? ⟨q, 0, none⟩ = some c ∧ W.cell? ⟨q, 1, none⟩ = some d) : Four W p q a b c d W.drew := ⟨h, (Keep.refl _ W).drew⟩
theorem Four.next {W wi wj : World} {p q : Nat} {a b c d : Value} (hk : Keep [] wi wj) (h : Four W p q a b c d wi) : Four W p q a b c d wj :=
  ⟨⟨hk.cell' h.1.1 (by simp), hk.cell' h.1.2.1 (by simp), hk.cell' h.1.2.2.1 (by simp), hk.cell' h.1.2.2.2 (by simp)⟩, h.2.trans' hk⟩

set_option maxRecDepth 1000000 in
set_option maxHeartbeats 3200000 in
theorem against_at (fa fb : Value) (A B K L m P1 P2 : Nat) (e : Int) (w : World) (ha : Big w fa A K) (hb : Big w fb B L) (hK : K ≤ 3000) (hL : L ≤ 3000)
    (hw : ∀ w : World, Calls Tryz.prog 90 #[.int .u64 (m : Int), .int .i64 e] w fun r w' => ∃ va vb, r = .returned (.agg #[va, vb]) ∧ (Big w' va P1 1000 ∧ Big w' vb P2 1000) ∧ Keep [] w w') :
    Calls Tryz.prog 72 #[.agg #[fa, fb], .int .u64 (m : Int), .int .i64 e] w fun r w' => r = .returned (.int .i64 (cmpI (A * P2 : Nat) (P1 * B : Nat))) ∧ Keep [] w w' := by
  obtain ⟨ao, na, ca, rfl⟩ := ha.sl
  obtain ⟨bo, nb, cb, rfl⟩ := hb.sl
  have HA : Hid (Big w (.slice ao na ca) A K) := ha
  have HB : Hid (Big w (.slice bo nb cb) B L) := hb
  clear ha hb
  go_enter Tryz.func72, Tryz.ntmps72
  go_wp2_with fail
  refine (hw _).mono ?_
  rintro e9 w1 ⟨vc, vd, rfl, ⟨hc, hd⟩, hk1⟩
  obtain ⟨co, nc, cc, rfl⟩ := hc.sl
  obtain ⟨dO, nd, cd, rfl⟩ := hd.sl
  have HC : Hid (Big w1 (.slice co nc cc) P1 1000) := hc
  have HD : Hid (Big w1 (.slice dO nd cd) P2 1000) := hd
  have HK1 : Hid _ := hk1
  clear hc hd hk1
  go_wp2
  have KW : Keep [] w1 (w1.alloc (Obj.cells #[Value.slice co nc cc, Value.slice dO nd cd] 91)) := Keep.alloc1 _ _
  have hp : w.heap.size < w1.heap.size := by have := HK1.out.size; simp at this; omega
  have c0 : w1.cell? ⟨w.heap.size, 0, none⟩ = some (.slice ao na ca) := HK1.out.cell' (by simp) (by simp)
  have c1 : w1.cell? ⟨w.heap.size, 1, none⟩ = some (.slice bo nb cb) := HK1.out.cell' (by simp) (by simp)
  have HW : Hid (Big (w1.alloc (Obj.cells #[Value.slice co nc cc, Value.slice dO nd cd] 91)) (.slice ao na ca) A K ∧ Big (w1.alloc (Obj.cells #[Value.slice co nc cc, Value.slice dO nd cd] 91)) (.slice bo nb cb) B L ∧ Big (w1.alloc (Obj.cells #[Value.slice co nc cc, Value.slice dO nd cd] 91)) (.slice co nc cc) P1 1000 ∧ Big (w1.alloc (Obj.cells #[Value.slice co nc cc, Value.slice dO nd cd] 91)) (.slice dO nd cd) P2 1000 ∧ Keep [] w (w1.alloc (Obj.cells #[Value.slice co nc cc, Value.slice dO nd cd] 91))) := by
    have k1 : Keep [] w w1 := (Keep.alloc1 w _).trans' HK1.out
    exact ⟨(HA.out.keep k1 (Off.nil _)).keep KW (Off.nil _), (HB.out.keep k1 (Off.nil _)).keep KW (Off.nil _), HC.out.keep KW (Off.nil _), HD.out.keep KW (Off.nil _), k1.trans' KW⟩
  have h4 : (w1.alloc (Obj.cells #[Value.slice co nc cc, Value.slice dO nd cd] 91)).cell? ⟨w.heap.size, 0, none⟩ = some (.slice ao na ca) ∧ (w1.alloc (Obj.cells #[Value.slice co nc cc, Value.slice dO nd cd] 91)).cell? ⟨w.heap.size, 1, none⟩ = some (.slice bo nb cb) ∧ (w1.alloc (Obj.cells #[Value.slice co nc cc, Value.slice dO nd cd] 91)).cell? ⟨w1.heap.size, 0, none⟩ = some (.slice co nc cc) ∧ (w1.alloc (Obj.cells #[Value.slice co nc cc, Value.slice dO nd cd] 91)).cell? ⟨w1.heap.size, 1, none⟩ = some (.slice dO nd cd) :=
    ⟨KW.cell' c0 (by simp), KW.cell' c1 (by simp), by simp, by simp⟩
  clear HA HB HC HD HK1 KW c0 c1 hp
  generalize (w1.alloc (Obj.cells #[Value.slice co nc cc, Value.slice dO nd cd] 91)) = W at HW h4 ⊢
  generalize w.heap.size = p at h4 ⊢
  generalize w1.heap.size = q at h4 ⊢
  have hP1 := product_big (.slice ao na ca) (.slice dO nd cd) A P2 K 1000 W.drew (HW.out.1.keep ((Keep.refl [] W).drew) (Off.nil _)) (HW.out.2.2.2.1.keep ((Keep.refl [] W).drew) (Off.nil _)) (by omega) (by omega)
  have hP2 : ∀ w5, Keep [] W.drew w5 → _ := fun w5 hk5 => product_big (.slice co nc cc) (.slice bo nb cb) P1 B 1000 L w5 ((HW.out.2.2.1.keep ((Keep.refl [] W).drew) (Off.nil _)).keep hk5 (Off.nil _)) ((HW.out.2.1.keep ((Keep.refl [] W).drew) (Off.nil _)).keep hk5 (Off.nil _)) (by omega) (by omega)
  go_region_held3 (fun w' => (w'.cell? ⟨p, 0, none⟩ = some (.slice ao na ca) ∧ w'.cell? ⟨p, 1, none⟩ = some (.slice bo nb cb) ∧ w'.cell? ⟨q, 0, none⟩ = some (.slice co nc cc) ∧ w'.cell? ⟨q, 1, none⟩ = some (.slice dO nd cd)) ∧ Keep [] W w')
    (first | exact Four.start h4 | exact Four.next (by assumption) (by assumption))
    (first
    | (go_at_call_of 92 na; refine hP1.mono ?_; rintro e9 w5 ⟨v5, rfl, ⟨hb5, hf5⟩, hk5⟩)
    | (go_at_call_of 92 nc; refine (hP2 _ hk5).mono ?_; rintro e9 w6 ⟨v6, rfl, ⟨hb6, hf6⟩, hk6⟩)
    | (go_at_call 91; refine (compare_nums v5 v6 (A * P2) (P1 * B) _ _ _ (hb5.keep hk6 (Off.nil _)) hb6).mono ?_; rintro e9 w7 ⟨rfl, hk7⟩))
  go_wp2
  go_ret
  rename_i hH
  exact ⟨rfl, HW.out.2.2.2.2.trans' hH.2⟩

theorem against_any (fa fb : Value) (A B K L m : Nat) (e : Int) (w : World) (ha : Big w fa A K) (hb : Big w fb B L) (hK : K ≤ 3000) (hL : L ≤ 3000) (hm : m < 18446744073709551616) (he1 : -500 ≤ e) (he2 : e ≤ 500) :
    Calls Tryz.prog 72 #[.agg #[fa, fb], .int .u64 (m : Int), .int .i64 e] w fun r w' => r = .returned (.int .i64 (cmpI (A * 2 ^ (-e).toNat : Nat) (m * 2 ^ e.toNat * B : Nat))) ∧ Keep [] w w' :=
  against_at fa fb A B K L m _ _ e w ha hb hK hL (fun w => worth_any m e hm he1 he2 w)
end Go.Proofs.YtjdihnkcigoajaaGreatDoor



/- The mathematics of the document's Nearest: the float below a number, and the nearer one of it and the next, is what rounding to the nearest gives. -/
namespace Go.Proofs.YtjdihnkcigoajaaGreatDoor

theorem valN_succ (n : Nat) : valN (n + 1) = valN n + (if n < 8388608 then 1 else 2 ^ (n / 8388608 - 1)) := by
  unfold valN
  by_cases h1 : n < 8388608
  · rw [if_pos h1, if_pos h1]
    by_cases h2 : n + 1 < 8388608
    · rw [if_pos h2]
    · have : n = 8388607 := by omega
      subst this
      rfl
  · rw [if_neg h1, if_neg h1, if_neg (by omega)]
    by_cases h2 : n % 8388608 = 8388607
    · have e1 : (n + 1) % 8388608 = 0 := by omega
      have e2 : (n + 1) / 8388608 - 1 = (n / 8388608 - 1) + 1 := by omega
      rw [e1, e2, h2, Nat.pow_succ]
      generalize 2 ^ (n / 8388608 - 1) = p
      omega
    · have e1 : (n + 1) % 8388608 = n % 8388608 + 1 := by omega
      have e2 : (n + 1) / 8388608 - 1 = n / 8388608 - 1 := by omega
      rw [e1, e2, ← Nat.add_assoc, Nat.succ_mul]

/-- n is the float below V, in units of the least one -/
def Low (V n : Nat) : Prop := n ≤ 2139095040 ∧ valN n ≤ V ∧ (n = 2139095040 ∨ V < valN (n + 1))
def upB (V2 S n : Nat) : Bool := decide (S < V2) || (decide (V2 = S) && decide (n % 2 = 1))
def nearN (V n : Nat) : Nat := if n = 2139095040 then n else if upB (2 * V) (valN n + valN (n + 1)) n = true then n + 1 else n

theorem floor_rung (V : Nat) : valN ((V.log2 - 23) * 8388608 + V / 2 ^ (V.log2 - 23)) = V / 2 ^ (V.log2 - 23) * 2 ^ (V.log2 - 23) ∧
    valN ((V.log2 - 23) * 8388608 + V / 2 ^ (V.log2 - 23) + 1) = (V / 2 ^ (V.log2 - 23) + 1) * 2 ^ (V.log2 - 23) := by
  rw [valN_succ]
  by_cases h0 : V = 0
  · subst h0; decide
  have l1 : 2 ^ V.log2 ≤ V := Nat.log2_self_le h0
  have l2 : V < 2 ^ (V.log2 + 1) := Nat.lt_log2_self
  by_cases hd : V.log2 ≤ 23
  · have e0 : V.log2 - 23 = 0 := by omega
    have hV : V < 16777216 := Nat.lt_of_lt_of_le l2 (Nat.le_trans (Nat.pow_le_pow_right (by decide) (show V.log2 + 1 ≤ 24 by omega)) (by decide))
    rw [e0]
    simp only [Nat.zero_mul, Nat.zero_add, Nat.pow_zero, Nat.div_one, Nat.mul_one]
    have hv : valN V = V := by
      unfold valN
      split
      · rfl
      · rw [show V / 8388608 - 1 = 0 by omega]; omega
    rw [hv]
    refine ⟨rfl, ?_⟩
    split
    · rfl
    · rw [show V / 8388608 - 1 = 0 by omega]
  · generalize hdd : V.log2 - 23 = d at *
    have hlog : V.log2 = d + 23 := by omega
    rw [hlog] at l1 l2
    rw [Nat.pow_add] at l1
    rw [show d + 23 + 1 = d + 24 by omega, Nat.pow_add] at l2
    have hp : 0 < 2 ^ d := Nat.two_pow_pos d
    have t1 : 8388608 ≤ V / 2 ^ d := (Nat.le_div_iff_mul_le hp).2 (by rw [Nat.mul_comm]; exact l1)
    have t2 : V / 2 ^ d < 16777216 := (Nat.div_lt_iff_lt_mul hp).2 (by rw [Nat.mul_comm]; exact l2)
    generalize V / 2 ^ d = t at *
    have hv : valN (d * 8388608 + t) = t * 2 ^ d := by
      unfold valN
      rw [if_neg (by omega), show (d * 8388608 + t) % 8388608 = t - 8388608 by omega, show (d * 8388608 + t) / 8388608 - 1 = d by omega]
      rw [show 8388608 + (t - 8388608) = t by omega]
    rw [hv]
    refine ⟨rfl, ?_⟩
    rw [if_neg (by omega), show (d * 8388608 + t) / 8388608 - 1 = d by omega, Nat.succ_mul]

theorem floor_at (V d : Nat) (hd : V.log2 - 23 = d) : ∃ L, L = d * 8388608 + V / 2 ^ d ∧ valN L = V / 2 ^ d * 2 ^ d ∧ valN (L + 1) = (V / 2 ^ d + 1) * 2 ^ d := by
  subst hd
  exact ⟨_, rfl, floor_rung V⟩

theorem near_rnd (V n : Nat) (h : Low V n) : nearN V n = rndR V := by
  obtain ⟨h1, h2, h3⟩ := h
  unfold rndR rne rneB nearN upB
  generalize hd : V.log2 - 23 = d
  obtain ⟨L, hL, f1, f2⟩ := floor_at V d hd
  have hp : 0 < 2 ^ d := Nat.two_pow_pos d
  have hdm := Nat.div_add_mod V (2 ^ d)
  have hlt := Nat.mod_lt V hp
  generalize hpp : 2 ^ d = p at *
  generalize V / p = t at *
  generalize V % p = r at *
  rw [Nat.mul_comm] at hdm
  have hV1 : valN L ≤ V := by rw [f1]; omega
  have hV2 : V < valN (L + 1) := by rw [f2, Nat.succ_mul]; omega
  have hadd : ∀ b : Nat, d * 8388608 + (t + b) = L + b := fun b => by rw [hL]; omega
  rw [hadd]
  have a1 : n < L + 1 := valN_iff.1 (Nat.lt_of_le_of_lt h2 hV2)
  by_cases ho : n = 2139095040
  · rw [if_pos ho]
    generalize (decide (p < 2 * r) || p == 2 * r && t % 2 == 1).toNat = b
    rw [Nat.min_eq_right (by omega)]
    exact ho
  · rw [if_neg ho]
    have h3' : V < valN (n + 1) := by rcases h3 with h | h; exact absurd h ho; exact h
    have a2 : L < n + 1 := valN_iff.1 (Nat.lt_of_le_of_lt hV1 h3')
    have hn : n = L := by omega
    have h1' : L + 1 ≤ 2139095040 := by omega
    have e3 : decide (L % 2 = 1) = (t % 2 == 1) := by
      by_cases hx : t % 2 = 1
      · rw [show (t % 2 == 1) = true by simpa using hx, decide_eq_true (by omega)]
      · rw [show (t % 2 == 1) = false by simpa using hx, decide_eq_false (by omega)]
    clear hL hadd h1 ho a1 a2 h3 h3' hV1 hV2
    subst hn
    rw [f1, f2, e3]
    have e1 : decide (t * p + (t + 1) * p < 2 * V) = decide (p < 2 * r) := by
      rw [Nat.succ_mul t p, ← hdm]
      apply decide_eq_decide.2
      generalize t * p = q
      omega
    have e2 : decide (2 * V = t * p + (t + 1) * p) = (p == 2 * r) := by
      rw [Nat.succ_mul t p, ← hdm]
      generalize t * p = q
      by_cases hx : p = 2 * r
      · rw [show (p == 2 * r) = true by simpa using hx, decide_eq_true (by omega)]
      · rw [show (p == 2 * r) = false by simpa using hx, decide_eq_false (by omega)]
    rw [e1, e2]
    generalize (decide (p < 2 * r) || p == 2 * r && t % 2 == 1) = b
    cases b
    · rw [if_neg (by decide), Nat.min_eq_left (by simp; omega)]; rfl
    · rw [if_pos rfl, Nat.min_eq_left (by simp; omega)]; rfl

theorem cmp_scale (a b s : Nat) (hs : 0 < s) : cmpI ((a * s : Nat) : Int) ((b * s : Nat) : Int) = cmpI (a : Nat) (b : Nat) := by
  unfold cmpI
  rcases Nat.lt_trichotomy a b with h | h | h
  · have := Nat.mul_lt_mul_of_pos_right h hs
    rw [if_pos (by omega), if_pos (by omega)]
  · subst h
    rw [if_neg (by omega), if_neg (by omega), if_neg (by omega), if_neg (by omega)]
  · have := Nat.mul_lt_mul_of_pos_right h hs
    rw [if_neg (by omega), if_pos (by omega), if_neg (by omega), if_pos (by omega)]

theorem against_val (A B n : Nat) : cmpI ((A * 2 ^ (-(atE n)).toNat : Nat) : Int) ((atM n * 2 ^ (atE n).toNat * B : Nat) : Int) = cmpI ((A * 2 ^ 149 : Nat) : Int) ((valN n * B : Nat) : Int) := by
  unfold atE atM valN
  by_cases h : n < 8388608
  · rw [if_pos h, if_pos h, if_pos h]
    simp
  · rw [if_neg h, if_neg h, if_neg h]
    have hk : 1 ≤ n / 8388608 := by omega
    generalize n / 8388608 = k at *
    generalize 8388608 + n % 8388608 = m
    by_cases hk2 : k ≤ 150
    · rw [show (-((k : Int) - 150)).toNat = 150 - k by omega, show ((k : Int) - 150).toNat = 0 by omega, ← cmp_scale _ _ (2 ^ (k - 1)) (Nat.two_pow_pos _)]
      have e1 : A * 2 ^ (150 - k) * 2 ^ (k - 1) = A * 2 ^ 149 := by rw [Nat.mul_assoc, ← Nat.pow_add, show 150 - k + (k - 1) = 149 by omega]
      have e2 : m * 2 ^ 0 * B * 2 ^ (k - 1) = m * 2 ^ (k - 1) * B := by rw [Nat.pow_zero, Nat.mul_one, Nat.mul_assoc, Nat.mul_comm B, ← Nat.mul_assoc]
      rw [e1, e2]
    · rw [show (-((k : Int) - 150)).toNat = 0 by omega, show ((k : Int) - 150).toNat = k - 150 by omega, ← cmp_scale _ _ (2 ^ 149) (Nat.two_pow_pos _)]
      have e2 : m * 2 ^ (k - 150) * B * 2 ^ 149 = m * 2 ^ (k - 1) * B := by
        rw [Nat.mul_assoc, Nat.mul_comm B, ← Nat.mul_assoc, Nat.mul_assoc m, ← Nat.pow_add, show k - 150 + 149 = k - 1 by omega]
      rw [e2, Nat.pow_zero, Nat.mul_one]

theorem against_half (A B n : Nat) : cmpI ((A * 2 ^ (-(atE n - 1)).toNat : Nat) : Int) (((2 * atM n + 1) * 2 ^ (atE n - 1).toNat * B : Nat) : Int) = cmpI ((2 * (A * 2 ^ 149) : Nat) : Int) (((valN n + valN (n + 1)) * B : Nat) : Int) := by
  rw [valN_succ]
  have eA : 2 * (A * 2 ^ 149) = A * 2 ^ 150 := by rw [Nat.mul_comm, Nat.mul_assoc, ← Nat.pow_succ]
  rw [eA]
  unfold atE atM valN
  by_cases h : n < 8388608
  · rw [if_pos h, if_pos h, if_pos h, if_pos h]
    rw [show (-((-149 : Int) - 1)).toNat = 150 from rfl, show ((-149 : Int) - 1).toNat = 0 from rfl, Nat.pow_zero, Nat.mul_one, show 2 * n + 1 = n + (n + 1) by omega]
  · rw [if_neg h, if_neg h, if_neg h, if_neg h]
    have hk : 1 ≤ n / 8388608 := by omega
    generalize n / 8388608 = k at *
    generalize 8388608 + n % 8388608 = m
    have eS : m * 2 ^ (k - 1) + (m * 2 ^ (k - 1) + 2 ^ (k - 1)) = (2 * m + 1) * 2 ^ (k - 1) := by
      rw [Nat.add_mul, Nat.mul_assoc]; omega
    rw [eS]
    generalize 2 * m + 1 = m2
    by_cases hk2 : k ≤ 151
    · rw [show (-((k : Int) - 150 - 1)).toNat = 151 - k by omega, show ((k : Int) - 150 - 1).toNat = 0 by omega, ← cmp_scale _ _ (2 ^ (k - 1)) (Nat.two_pow_pos _)]
      have e1 : A * 2 ^ (151 - k) * 2 ^ (k - 1) = A * 2 ^ 150 := by rw [Nat.mul_assoc, ← Nat.pow_add, show 151 - k + (k - 1) = 150 by omega]
      have e2 : m2 * 2 ^ 0 * B * 2 ^ (k - 1) = m2 * 2 ^ (k - 1) * B := by rw [Nat.pow_zero, Nat.mul_one, Nat.mul_assoc, Nat.mul_comm B, ← Nat.mul_assoc]
      rw [e1, e2]
    · rw [show (-((k : Int) - 150 - 1)).toNat = 0 by omega, show ((k : Int) - 150 - 1).toNat = k - 151 by omega, ← cmp_scale _ _ (2 ^ 150) (Nat.two_pow_pos _)]
      have e2 : m2 * 2 ^ (k - 151) * B * 2 ^ 150 = m2 * 2 ^ (k - 1) * B := by
        rw [Nat.mul_assoc, Nat.mul_comm B, ← Nat.mul_assoc, Nat.mul_assoc m2, ← Nat.pow_add, show k - 151 + 150 = k - 1 by omega]
      rw [e2, Nat.pow_zero, Nat.mul_one]
end Go.Proofs.YtjdihnkcigoajaaGreatDoor



/- A float's neighbours, in whole units. -/
namespace Go.Proofs.YtjdihnkcigoajaaGreatDoor

/-- ten to a place (from the 60th behind the point on), in units that hold all worths: 2 to the power -149 and ten to the power -60 -/
def Q60 : Nat := 10 ^ 60
def tP (P : Nat) : Nat := 10 ^ P * 2 ^ 149
def wN (n : Nat) : Nat := valN n * Q60
def l2N (n : Nat) : Nat := (valN (n - 1) + valN n) * Q60
def h2N (n : Nat) : Nat := (valN n + valN (n + 1)) * Q60
theorem tP_pos (P : Nat) : 0 < tP P := Nat.mul_pos (Nat.pow_pos (by decide)) (Nat.two_pow_pos _)
theorem tP_add (P k : Nat) : tP (P + k) = 10 ^ k * tP P := by
  unfold tP
  rw [Nat.pow_add, Nat.mul_comm (10 ^ P), Nat.mul_assoc]
theorem uN_scale (a b c : Nat) (hc : 0 < c) : uN (a * c) (b * c) = uN a b := by
  unfold uN
  rw [Nat.mul_mod_mul_right, Nat.mul_div_mul_right _ _ hc]
  have : a % b * c = 0 ↔ a % b = 0 := by
    rw [Nat.mul_eq_zero]
    omega
  by_cases h : a % b = 0
  · rw [if_pos h, if_pos (this.2 h)]
  · rw [if_neg h, if_neg (fun g => h (this.1 g))]
theorem u4_unit (n X : Nat) (hj : jF n ≤ 91) (hE : -149 ≤ atE n) : u4 n X = uN (X * 2 ^ (atE n + 149).toNat * Q60) (tP (91 - jF n)) := by
  unfold u4 tP
  rw [← uN_scale (X * 2 ^ (atE n).toNat * 10 ^ (jF n - 31)) _ (10 ^ (91 - jF n - (31 - jF n)) * 2 ^ (149 - (-(atE n)).toNat)) (Nat.mul_pos (Nat.pow_pos (by decide)) (Nat.two_pow_pos _))]
  have e1 : Q60 = 10 ^ (jF n - 31) * 10 ^ (91 - jF n - (31 - jF n)) := by
    unfold Q60
    rw [← Nat.pow_add]
    congr 1
    omega
  have e2 : (2 : Nat) ^ (atE n + 149).toNat = 2 ^ (atE n).toNat * 2 ^ (149 - (-(atE n)).toNat) := by
    rw [← Nat.pow_add]
    congr 1
    omega
  have e3 : (10 : Nat) ^ (91 - jF n) = 10 ^ (31 - jF n) * 10 ^ (91 - jF n - (31 - jF n)) := by
    rw [← Nat.pow_add]
    congr 1
    omega
  have e4 : (2 : Nat) ^ 149 = 2 ^ (-(atE n)).toNat * 2 ^ (149 - (-(atE n)).toNat) := by
    rw [← Nat.pow_add]
    congr 1
    omega
  rw [e1, e2, e3, e4]
  clear e1 e2 e3 e4
  generalize (2 : Nat) ^ (atE n).toNat = a
  generalize (2 : Nat) ^ (-(atE n)).toNat = b
  generalize (10 : Nat) ^ (jF n - 31) = c
  generalize (10 : Nat) ^ (31 - jF n) = d
  generalize (10 : Nat) ^ (91 - jF n - (31 - jF n)) = f
  generalize (2 : Nat) ^ (149 - (-(atE n)).toNat) = g
  congr 1
  · ac_rfl
  · ac_rfl

/-- a float's own step, in these units without the tens -/
def ulp (n : Nat) : Nat := 2 ^ (atE n + 149).toNat
theorem val_ulp (n : Nat) : valN n = atM n * ulp n := by
  unfold valN atM ulp atE
  by_cases h : n < 8388608
  · simp only [if_pos h]
    rw [show (-149 + 149 : Int).toNat = 0 by decide, Nat.pow_zero, Nat.mul_one]
  · simp only [if_neg h]
    congr 2
    omega
theorem val_up (n : Nat) : valN (n + 1) = valN n + ulp n := by
  rw [valN_succ]
  unfold ulp atE
  by_cases h : n < 8388608
  · simp only [if_pos h]
    rw [show (-149 + 149 : Int).toNat = 0 by decide, Nat.pow_zero]
  · simp only [if_neg h]
    congr 2
    omega
theorem val_down (n : Nat) (h1 : 1 ≤ n) : (skw n = false → valN n = valN (n - 1) + ulp n) ∧ (skw n = true → ∃ h, ulp n = 2 * h ∧ valN n = valN (n - 1) + h ∧ 1 ≤ h) := by
  obtain ⟨m, rfl⟩ : ∃ m, n = m + 1 := ⟨n - 1, by omega⟩
  rw [Nat.add_sub_cancel, valN_succ]
  unfold ulp atE skw
  constructor
  · intro hs
    simp at hs
    congr 1
    by_cases h : m + 1 < 8388608
    · rw [if_pos h, if_pos (by omega)]
      decide
    · rw [if_neg h]
      by_cases h2 : m < 8388608
      · have : m = 8388607 := by omega
        subst this
        decide
      · rw [if_neg h2]
        congr 1
        have : (m + 1) % 8388608 ≠ 0 := by
          intro h0
          have := hs h0
          omega
        omega
  · intro hs
    simp at hs
    obtain ⟨a, b⟩ := hs
    have h : ¬ m + 1 < 8388608 := by omega
    have h2 : ¬ m < 8388608 := by omega
    rw [if_neg h2]
    simp only [if_neg h]
    refine ⟨2 ^ (m / 8388608 - 1), ?_, rfl, Nat.one_le_two_pow⟩
    rw [← Nat.pow_succ']
    congr 1
    omega

def okN (k : Nat) : Prop := jN ((k : Int) - 149) ≤ 76 ∧ ((10 ^ (91 - jN ((k : Int) - 149)) * 2 ^ 149 < 2 ^ k * Q60 ∨ (2 ^ k * Q60) % (10 ^ (91 - jN ((k : Int) - 149)) * 2 ^ 149) = 0) ∧ 2 ^ k * Q60 < 10 * (10 ^ (91 - jN ((k : Int) - 149)) * 2 ^ 149))
def okS (k : Nat) : Prop := jS ((k : Int) - 149) ≤ 76 ∧ (4 * (10 ^ (91 - jS ((k : Int) - 149)) * 2 ^ 149) < 3 * (2 ^ k * Q60) ∧ 3 * (2 ^ k * Q60) < 40 * (10 ^ (91 - jS ((k : Int) - 149)) * 2 ^ 149))
instance (k : Nat) : Decidable (okN k) := by unfold okN; infer_instance
instance (k : Nat) : Decidable (okS k) := by unfold okS; infer_instance
theorem oks : ∀ k, k < 254 → okN k ∧ (1 ≤ k → okS k) := by decide +kernel
theorem at_facts2 (n : Nat) (h2 : n < 2139095040) : -149 ≤ atE n ∧ atE n ≤ 104 ∧ (skw n = true → -148 ≤ atE n) ∧ atM n % 2 = n % 2 ∧ (1 ≤ n → 1 ≤ atM n) ∧ (10 ≤ n → 10 ≤ atM n) := by
  unfold atE atM skw
  by_cases h : n < 8388608
  · simp only [if_pos h]
    refine ⟨by omega, by omega, fun hs => ?_, trivial, id, id⟩
    simp at hs
    omega
  · simp only [if_neg h]
    refine ⟨by omega, by omega, fun hs => ?_, by omega, fun _ => by omega, fun _ => by omega⟩
    simp at hs
    omega
theorem lin1 (v h z : Nat) : (v + (v + h)) * z = 2 * (v * z) + h * z := by
  simp only [Nat.add_mul]
  omega
theorem lin2 (v h z : Nat) : (v + h + (v + h + 2 * h)) * z = 2 * (v * z) + 4 * (h * z) := by
  simp only [Nat.add_mul, Nat.mul_assoc]
  omega
theorem lin3 (v h z : Nat) : (v + h + (v + h + h)) * z = 2 * (v * z) + 3 * (h * z) := by
  simp only [Nat.add_mul]
  omega
theorem sp_of (n : Nat) (h1 : 1 ≤ n) (h2 : n < 2139095040) : Sp (tP (91 - jF n)) (wN n) (l2N n) (h2N n) (n % 2) ∧ tP (91 - jF n) ≤ wN n ∧ (10 ≤ n → 10 * tP (91 - jF n) ≤ wN n) ∧ jF n ≤ 76 := by
  obtain ⟨a1, a2, a3, a4, a5, a6⟩ := at_facts2 n h2
  have hv := val_ulp n
  have hu := val_up n
  obtain ⟨d1, d2⟩ := val_down n h1
  obtain ⟨k, hk⟩ : ∃ k : Nat, atE n = (k : Int) - 149 := ⟨(atE n + 149).toNat, by omega⟩
  have hk2 : k < 254 := by omega
  have hul : ulp n = 2 ^ k := by unfold ulp; congr 1; omega
  have hp : 0 < 2 ^ k := Nat.two_pow_pos k
  have h60 : 0 < Q60 := Nat.pow_pos (by decide)
  have ht0 := tP_pos (91 - jF n)
  have hM := a5 h1
  by_cases hs : skw n = true
  · obtain ⟨b1, b2, b3⟩ := (oks k hk2).2 (by have := a3 hs; omega)
    obtain ⟨hh, e1, e2, e3⟩ := d2 hs
    have hj : jF n = jS ((k : Int) - 149) := by unfold jF; rw [if_pos hs, hk]
    rw [← hj] at b1 b2 b3
    change 4 * tP (91 - jF n) < _ at b2
    change _ < 40 * tP (91 - jF n) at b3
    have hM8 : 8388608 ≤ atM n := by
      unfold atM skw at *
      simp at hs
      rw [if_neg (by omega)]
      omega
    generalize tP (91 - jF n) = t at *
    rw [hul] at e1 hv hu
    have hb : 10 * t ≤ wN n := by
      unfold wN
      rw [hv, Nat.mul_assoc]
      have : 8388608 * (2 ^ k * Q60) ≤ atM n * (2 ^ k * Q60) := Nat.mul_le_mul_right _ hM8
      omega
    have f1 : wN n = valN (n - 1) * Q60 + hh * Q60 := by unfold wN; rw [e2, Nat.add_mul]
    have f2 : l2N n = 2 * (valN (n - 1) * Q60) + hh * Q60 := by
      unfold l2N
      rw [e2]
      exact lin1 _ _ _
    have f3 : h2N n = 2 * (valN (n - 1) * Q60) + 4 * (hh * Q60) := by
      unfold h2N
      rw [hu, e1, e2]
      exact lin2 _ _ _
    have f4 : 0 < hh * Q60 := Nat.mul_pos (by omega) h60
    rw [e1, Nat.mul_assoc 2 hh] at b2 b3
    rw [f1] at hb
    rw [f1, f2, f3]
    generalize valN (n - 1) * Q60 = y at *
    generalize hh * Q60 = x at *
    exact ⟨⟨ht0, by omega, by omega, by omega, by omega, .inl (by omega), by omega⟩, by omega, fun _ => hb, b1⟩
  · have hs0 : skw n = false := by simpa using hs
    obtain ⟨b1, b2, b3⟩ := (oks k hk2).1
    have e2 := d1 hs0
    have hj : jF n = jN ((k : Int) - 149) := by unfold jF; rw [if_neg hs, hk]
    rw [← hj] at b1 b2 b3
    change tP (91 - jF n) < _ ∨ _ % tP (91 - jF n) = 0 at b2
    change _ < 10 * tP (91 - jF n) at b3
    generalize tP (91 - jF n) = t at *
    rw [hul] at e2 hv hu
    have hw : wN n = atM n * (2 ^ k * Q60) := by unfold wN; rw [hv, Nat.mul_assoc]
    have f0 : 0 < 2 ^ k * Q60 := Nat.mul_pos hp h60
    have f1 : wN n = valN (n - 1) * Q60 + 2 ^ k * Q60 := by unfold wN; rw [e2, Nat.add_mul]
    have f2 : l2N n = 2 * (valN (n - 1) * Q60) + 2 ^ k * Q60 := by
      unfold l2N
      rw [e2]
      exact lin1 _ _ _
    have f3 : h2N n = 2 * (valN (n - 1) * Q60) + 3 * (2 ^ k * Q60) := by
      unfold h2N
      rw [hu, e2]
      exact lin3 _ _ _
    have hge : 2 ^ k * Q60 ≤ wN n := by rw [f1]; omega
    have ht1 : t ≤ 2 ^ k * Q60 := by
      rcases b2 with b2 | b2
      · omega
      · exact Nat.le_of_dvd f0 (Nat.dvd_of_mod_eq_zero b2)
    have hm : 2 * t < 2 * (2 ^ k * Q60) ∨ wN n % t = 0 := by
      rcases b2 with b2 | b2
      · exact .inl (by omega)
      · right
        rw [hw]
        exact Nat.mod_eq_zero_of_dvd (Nat.dvd_mul_left_of_dvd (Nat.dvd_of_mod_eq_zero b2) _)
    have h10 : 10 ≤ n → 10 * t ≤ wN n := fun h => by
      have g1 : 10 * (2 ^ k * Q60) ≤ wN n := by rw [hw]; exact Nat.mul_le_mul_right _ (a6 h)
      omega
    rw [f1] at hm
    have h12 : 2 * t < h2N n - l2N n ∨ wN n % t = 0 := by
      rw [f1, f2, f3]
      rcases hm with hm | hm
      · left
        omega
      · exact .inr hm
    refine ⟨⟨ht0, by omega, by omega, by omega, by omega, h12, by omega⟩, by omega, h10, b1⟩

end Go.Proofs.YtjdihnkcigoajaaGreatDoor


/- The library's digits without their noughts are what the document comes to. -/
namespace Go.Proofs.YtjdihnkcigoajaaGreatDoor

theorem at_lo (n : Nat) : -149 ≤ atE n := by unfold atE; split <;> omega
theorem shN_units (n : Nat) (h1 : 1 ≤ n) (h2 : n < 2139095040) (hj : jF n ≤ 76) : shN n = shD (uN (2 * l2N n) (tP (91 - jF n))) (uN (2 * h2N n) (tP (91 - jF n))) (uN (4 * wN n) (tP (91 - jF n))) (n % 2) := by
  obtain ⟨a1, a2, a3, a4, a5, a6⟩ := at_facts2 n h2
  have hv := val_ulp n
  have hu := val_up n
  obtain ⟨d1, d2⟩ := val_down n h1
  have e1 : 4 * atM n * ulp n * Q60 = 4 * wN n := by unfold wN; rw [hv, Nat.mul_assoc 4, Nat.mul_assoc 4]
  have e2 : (4 * atM n + 2) * ulp n * Q60 = 2 * h2N n := by
    unfold h2N
    rw [hu, hv]
    generalize ulp n = u
    simp only [Nat.add_mul, Nat.mul_add, Nat.mul_assoc]
    omega
  have e3 : xlo n * ulp n * Q60 = 2 * l2N n := by
    unfold l2N xlo
    have hM := a5 h1
    by_cases hs : skw n = true
    · obtain ⟨h, f1, f2, f3⟩ := d2 hs
      rw [if_pos hs]
      have g1 : (4 * atM n - 1) * ulp n = 4 * valN n - ulp n := by rw [hv, Nat.sub_mul, Nat.mul_assoc, Nat.one_mul]
      rw [g1, ← Nat.mul_assoc]
      congr 1
      omega
    · have hs0 : skw n = false := by simpa using hs
      have f2 := d1 hs0
      rw [if_neg hs]
      have g1 : (4 * atM n - 2) * ulp n = 4 * valN n - 2 * ulp n := by rw [hv, Nat.sub_mul, Nat.mul_assoc]
      rw [g1, ← Nat.mul_assoc]
      congr 1
      omega
  unfold shN
  rw [u4_unit n _ (by omega) a1, u4_unit n _ (by omega) a1, u4_unit n _ (by omega) a1, a4]
  change shD (uN (xlo n * ulp n * Q60) _) (uN ((4 * atM n + 2) * ulp n * Q60) _) (uN (4 * atM n * ulp n * Q60) _) _ = _
  rw [e1, e2, e3]

/-- the digits q, so many, with the last one at ten to the power P - 60, are the library's without their noughts -/
def IsD (n q s P : Nat) : Prop := 1 ≤ s ∧ 10 ^ (s - 1) ≤ q ∧ q < 10 ^ s ∧ q % 10 ≠ 0 ∧ ∃ z : Nat, dF n = q * 10 ^ z ∧ (P : Int) - 60 = pF n + (z : Int)
theorem smallA : ∀ n, n < 10 → 1 ≤ n → (shN n).2 = 1 → n = 7 := by decide +kernel
theorem sevenA : dF 7 = 1 ∧ jF 7 = 76 ∧ wN 7 / tP 15 = 9 ∧ ¬ LiesI (l2N 7) (h2N 7) (7 % 2) (9 * tP 15) := by
  unfold LiesI
  decide +kernel
theorem in_one (t L2 H2 o x y : Nat) (thin : H2 - L2 < 20 * t) (hx : LiesI L2 H2 o (x * (10 * t))) (hy : LiesI L2 H2 o (y * (10 * t))) : x = y := by
  unfold LiesI at hx hy
  rcases Nat.lt_trichotomy x y with h | h | h
  · have : (x + 1) * (10 * t) ≤ y * (10 * t) := Nat.mul_le_mul_right _ h
    rw [Nat.add_mul] at this
    omega
  · exact h
  · have : (y + 1) * (10 * t) ≤ x * (10 * t) := Nat.mul_le_mul_right _ h
    rw [Nat.add_mul] at this
    omega
theorem out_prog (n q s P : Nat) (h1 : 1 ≤ n) (h2 : n < 2139095040) (hs : 1 ≤ s) (hk1 : tP (P + s - 1) ≤ wN n) (hk2 : wN n < tP (P + s)) (ht : Told (tP P) (wN n) (l2N n) (h2N n) (n % 2) q)
    (hno : s = 1 ∨ ∀ x, ¬ LiesI (l2N n) (h2N n) (n % 2) (x * (10 * tP P))) : (q ≠ 10 ^ s ∧ IsD n q s P) ∨ (q = 10 ^ s ∧ IsD n 1 1 (P + s)) := by
  obtain ⟨sp, big, big10, hj⟩ := sp_of n h1 h2
  have hsh := shN_units n h1 h2 hj
  have hD := shD_told _ _ _ _ _ sp
  rw [← hsh] at hD
  have hpF : pF n = ((91 - jF n : Nat) : Int) - 60 + ((shN n).2 : Int) := by unfold pF; omega
  have hdF : dF n = (shN n).1 := rfl
  rw [← hdF] at hD
  have hsm := fun h => smallA n h h1
  generalize hz : (shN n).2 = z0 at *
  clear hsh hdF
  have q1 : 10 ^ (s - 1) ≤ wN n / tP P := by
    rw [show P + s - 1 = P + (s - 1) by omega, tP_add] at hk1
    exact (Nat.le_div_iff_mul_le (tP_pos P)).2 hk1
  have q2 : wN n / tP P < 10 ^ s := by
    rw [tP_add] at hk2
    exact (Nat.div_lt_iff_lt_mul (tP_pos P)).2 hk2
  have q3 : 10 ^ (s - 1) ≤ q ∧ q ≤ 10 ^ s := by
    rcases ht with ⟨h, _⟩ | ⟨h, _⟩ <;> omega
  have hin := ht.liesI
  -- no tenth: not where one more place ahead would have done
  have hten : s ≠ 1 → q % 10 ≠ 0 := fun h hm => by
    refine (hno.resolve_left h) (q / 10) ?_
    rw [← Nat.mul_assoc, show q / 10 * 10 = q by omega]
    exact hin
  have hpow : s ≠ 1 → q ≠ 10 ^ s := fun h he => by
    refine hten h ?_
    rw [he]
    obtain ⟨r, rfl⟩ : ∃ r, s = r + 1 := ⟨s - 1, by omega⟩
    rw [Nat.pow_succ]
    exact Nat.mul_mod_left _ _
  have hlow : s = 1 → 91 - jF n ≤ P := fun h => by
    subst h
    rcases Nat.lt_or_ge P (91 - jF n) with g | g
    · exfalso
      obtain ⟨i, hi⟩ : ∃ i, 91 - jF n = P + 1 + i := ⟨91 - jF n - P - 1, by omega⟩
      rw [hi, tP_add] at big
      have : 1 * tP (P + 1) ≤ 10 ^ i * tP (P + 1) := Nat.mul_le_mul_right _ (Nat.one_le_pow _ _ (by decide))
      omega
    · exact g
  generalize hP0 : 91 - jF n = P0 at *
  rcases hD with ⟨rfl, hA⟩ | ⟨rfl, hB, hB2⟩
  · rcases Nat.lt_or_ge P0 P with g | g
    · obtain ⟨i, rfl⟩ : ∃ i, P = P0 + 1 + i := ⟨P - P0 - 1, by omega⟩
      have e : q * tP (P0 + 1 + i) = q * 10 ^ i * (10 * tP P0) := by
        rw [tP_add, tP_add, Nat.pow_one, Nat.mul_assoc]
      rw [e] at hin
      have hd := in_one _ _ _ _ _ _ sp.thin hA hin
      by_cases h : s = 1
      · subst h
        by_cases h10 : q = 10 ^ 1
        · right
          refine ⟨h10, by decide, by decide, by decide, by decide, i + 1, ?_, by rw [hpF]; omega⟩
          rw [hd, h10, show (10 : Nat) ^ 1 = 10 from rfl, Nat.pow_succ, Nat.one_mul, Nat.mul_comm]
        · left
          exact ⟨h10, by decide, q3.1, by omega, by simp at q3 h10; omega, i, hd, by rw [hpF]; omega⟩
      · left
        have := hpow h
        exact ⟨this, hs, q3.1, by omega, hten h, i, hd, by rw [hpF]; omega⟩
    · obtain ⟨i, rfl⟩ : ∃ i, P0 = P + i := ⟨P0 - P, by omega⟩
      by_cases h : s = 1
      · subst h
        have hi : i = 0 := by have := hlow rfl; omega
        subst hi
        rw [Nat.add_zero] at *
        by_cases hn : 10 ≤ n
        · exfalso
          have b := big10 hn
          have e : tP (P + 1) = 10 * tP P := by rw [tP_add, Nat.pow_one]
          omega
        · have h7 := hsm (by omega) rfl
          subst h7
          obtain ⟨s1, s2, s3, s4⟩ := sevenA
          have hP : P = 15 := by omega
          subst hP
          right
          have hq : q = 10 := by
            rcases ht with ⟨_, h, _⟩ | ⟨h, _⟩
            · rw [s3] at h
              exact absurd h s4
            · rw [s3] at h
              exact h
          refine ⟨hq, by decide, by decide, by decide, by decide, 0, by rw [s1], by rw [hpF]; omega⟩
      · exfalso
        refine (hno.resolve_left h) (dF n * 10 ^ i) ?_
        rw [tP_add] at hA
        rw [show dF n * 10 ^ i * (10 * tP P) = dF n * (10 * (10 ^ i * tP P)) by ac_rfl]
        exact hA
  · rcases Nat.lt_trichotomy P0 P with g | g | g
    · exfalso
      obtain ⟨i, rfl⟩ : ∃ i, P = P0 + 1 + i := ⟨P - P0 - 1, by omega⟩
      have e : q * tP (P0 + 1 + i) = q * 10 ^ i * (10 * tP P0) := by
        rw [tP_add, tP_add, Nat.pow_one, Nat.mul_assoc]
      rw [e] at hin
      exact hB2 _ hin
    · subst g
      left
      have hq := told_one _ _ _ _ _ _ _ ht hB
      have h10 : q % 10 ≠ 0 := fun hm => by
        refine hB2 (q / 10) ?_
        rw [← Nat.mul_assoc, show q / 10 * 10 = q by omega]
        exact hin
      have hne : q ≠ 10 ^ s := fun he => by
        refine h10 ?_
        rw [he]
        obtain ⟨r, rfl⟩ : ∃ r, s = r + 1 := ⟨s - 1, by omega⟩
        rw [Nat.pow_succ]
        exact Nat.mul_mod_left _ _
      refine ⟨hne, hs, q3.1, by omega, h10, 0, by rw [Nat.pow_zero, Nat.mul_one, hq], by rw [hpF]; omega⟩
    · exfalso
      by_cases h : s = 1
      · have := hlow h
        omega
      · obtain ⟨i, rfl⟩ : ∃ i, P0 = P + 1 + i := ⟨P0 - P - 1, by omega⟩
        refine (hno.resolve_left h) (dF n * 10 ^ i) ?_
        have hin2 := hB.liesI
        rw [tP_add, tP_add, Nat.pow_one] at hin2
        rw [show dF n * 10 ^ i * (10 * tP P) = dF n * (10 ^ i * (10 * tP P)) by ac_rfl]
        exact hin2
/-- where a tenth of these units would do, some number of them does: the document comes to an end -/
theorem some_in (n P : Nat) (h1 : 1 ≤ n) (h2 : n < 2139095040) (hP : P ≤ 91 - jF n) : ∃ x, LiesI (l2N n) (h2N n) (n % 2) (x * tP P) := by
  obtain ⟨sp, big, big10, hj⟩ := sp_of n h1 h2
  have hD := shD_told _ _ _ _ _ sp
  obtain ⟨i, hi⟩ : ∃ i, 91 - jF n = P + i := ⟨91 - jF n - P, by omega⟩
  rcases hD with ⟨_, h⟩ | ⟨_, h, _⟩
  · rw [hi, tP_add, ← Nat.mul_assoc, ← Nat.mul_assoc] at h
    exact ⟨_, h⟩
  · have h := h.liesI
    rw [hi, tP_add, ← Nat.mul_assoc] at h
    exact ⟨_, h⟩

end Go.Proofs.YtjdihnkcigoajaaGreatDoor


/- The digits as bytes. -/
namespace Go.Proofs.YtjdihnkcigoajaaGreatDoor

/-- the m digits of a number -/
def decL (q m : Nat) : List UInt8 := (List.range m).map fun j => Lib.dg q (m - 1 - j)
theorem decL_len (q m : Nat) : (decL q m).length = m := by simp [decL]
theorem dg_shift (q z i : Nat) : Lib.dg (q * 10 ^ z) (i + z) = Lib.dg q i := by
  unfold Lib.dg
  rw [Nat.pow_add, Nat.mul_div_mul_right _ _ (Nat.pow_pos (by decide))]
theorem dg_shift2 (q i : Nat) : Lib.dg q (i + 1) = Lib.dg (q / 10) i := by
  unfold Lib.dg
  rw [Nat.pow_succ, Nat.mul_comm, ← Nat.div_div_eq_div_mul]
theorem decL_succ (q m : Nat) : decL q (m + 1) = decL (q / 10) m ++ [UInt8.ofNat (48 + q % 10)] := by
  unfold decL
  rw [List.range_succ, List.map_append]
  congr 1
  · apply List.map_congr_left
    intro j hj
    have hj := List.mem_range.1 hj
    rw [show m + 1 - 1 - j = m - 1 - j + 1 by omega]
    exact dg_shift2 q _
  · simp [Lib.dg]
theorem decL_one (q : Nat) (h : q < 10) : decL q 1 = [UInt8.ofNat (48 + q)] := by
  simp [decL, Lib.dg]
  rw [Nat.mod_eq_of_lt h]
theorem isD_told (n q s P : Nat) (h1 : 1 ≤ n) (h2 : n < 2139095040) (h : IsD n q s P) : digs n = decL q s ∧ exF n = (P : Int) - 60 + s - 1 := by
  obtain ⟨hs, c1, c2, c3, z, c4, c5⟩ := h
  obtain ⟨d1, d2⟩ := dF_bounds n h1 h2
  obtain ⟨m1, m2, m3, m4⟩ := ndN_ok (dF n) d1 d2
  obtain ⟨t1, t2, t3, t4⟩ := tzN_ok (dF n) d1 d2
  have hl := digs_len n h1 h2
  have hg := fun j => digs_get n j h1 h2
  have h10 : 0 < 10 ^ z := Nat.pow_pos (by decide)
  have hnd : ndN (dF n) = s + z := by
    have b1 : 10 ^ (s - 1 + z) ≤ dF n := by rw [c4, Nat.pow_add]; exact Nat.mul_le_mul_right _ c1
    have b2 : dF n < 10 ^ (s + z) := by rw [c4, Nat.pow_add]; exact Nat.mul_lt_mul_of_pos_right c2 h10
    have b3 : 10 ^ (ndN (dF n) - 1) < 10 ^ (s + z) := by omega
    have b4 : 10 ^ (s - 1 + z) < 10 ^ ndN (dF n) := by omega
    have b5 := (Nat.pow_lt_pow_iff_right (show 1 < 10 by decide)).1 b3
    have b6 := (Nat.pow_lt_pow_iff_right (show 1 < 10 by decide)).1 b4
    omega
  have htz : tzN (dF n) = z := by
    rcases Nat.lt_trichotomy (tzN (dF n)) z with h | h | h
    · exfalso
      refine t4 ?_
      clear t1 t2 t3 m3 m4 hnd hl hg
      generalize tzN (dF n) = T at *
      obtain ⟨i, rfl⟩ : ∃ i, z = T + 1 + i := ⟨z - T - 1, by omega⟩
      rw [c4, show q * 10 ^ (T + 1 + i) = q * 10 ^ i * 10 * 10 ^ T by rw [Nat.pow_add, Nat.pow_add, Nat.pow_one]; ac_rfl, Nat.mul_div_cancel _ (Nat.pow_pos (by decide))]
      exact Nat.mul_mod_left _ _
    · exact h
    · exfalso
      have := t3 z h
      rw [c4, Nat.mul_div_cancel _ h10] at this
      exact c3 this
  have hnF : ndF n = s := by unfold ndF; omega
  refine ⟨?_, by unfold exF; omega⟩
  apply List.ext_getElem?
  intro j
  rcases Nat.lt_or_ge j s with hj | hj
  · rw [hg j (by omega), hnd]
    unfold decL
    rw [List.getElem?_map, List.getElem?_range hj]
    show some _ = some _
    rw [c4, show s + z - 1 - j = s - 1 - j + z by omega, dg_shift]
  · rw [List.getElem?_eq_none (by omega), List.getElem?_eq_none (by rw [decL_len]; exact hj)]

end Go.Proofs.YtjdihnkcigoajaaGreatDoor

