/- Doublings and halvings of reals of 64 bits, exact; the way from there to 32 bits. -/
import Derived.Test.YtnljpbpphdhnpaaGreatDoorRlA
import Derived.Test.YtnljpbpphdhnpaaGreatDoorBigE
import Derived.Handy
import Derived.Deep.RegionHeld3

namespace Go.Proofs.YtnljpbpphdhnpaaGreatDoor
open Go.RowKit Go.PlainAid Go.Lib

/-- the bits of M * 2^(E - 52), M with 53 digits -/
def wD (M : Nat) (E : Int) : Nat := (E + 1022).toNat * 4503599627370496 + M

theorem dconsts : Ieee.double.binade = 4503599627370496 ∧ Ieee.double.infRung = 9218868437227405312 ∧ Ieee.double.leastPlace = -1074 ∧ Ieee.double.signWeight = 9223372036854775808 := by decide

theorem log2_eq {n k : Nat} (h1 : 2 ^ k ≤ n) (h2 : n < 2 ^ (k + 1)) : n.log2 = k := by
  have h0 : n ≠ 0 := by have := Nat.two_pow_pos k; omega
  have a1 : n.log2 < k + 1 := (Nat.log2_lt h0).2 h2
  have a2 : ¬ n.log2 < k := fun h => by have := (Nat.log2_lt h0).1 h; omega
  omega

theorem cut_exact (s : Bool) (M t L : Nat) (_hM : 0 < M) (hL : (M * 2 ^ t).log2 = L) (ht : t ≤ L + 2) : Ieee.Toward.cut .even s (M * 2 ^ t) t = M := by
  have hp : 0 < 2 ^ t := Nat.two_pow_pos t
  unfold Ieee.Toward.cut
  simp only [Nat.one_shiftLeft, hL]
  rw [Nat.min_eq_left ht, Nat.mul_div_cancel _ hp, Nat.mul_mod_left]
  have h1 : decide (2 ^ t < 2 * 0) = false := by simp
  have h2 : (2 ^ t == 2 * 0) = false := by simp
  rw [h1, h2]
  rfl

theorem nearD (M t : Nat) (E place : Int) (h1 : 4503599627370496 ≤ M) (h2 : M < 9007199254740992) (hE : place + 52 + t = E) (lo : -1022 ≤ E) (hi : E ≤ 1023) : Ieee.double.nearest false (M * 2 ^ t) place = wD M E := by
  obtain ⟨c1, c2, c3, c4⟩ := dconsts
  have hp : 0 < 2 ^ t := Nat.two_pow_pos t
  have hlog : (M * 2 ^ t).log2 = 52 + t := by
    apply log2_eq
    · rw [Nat.pow_add]; exact Nat.mul_le_mul_right _ h1
    · rw [show 52 + t + 1 = 53 + t by omega, Nat.pow_add]; exact Nat.mul_lt_mul_of_pos_right h2 hp
  have hne : M * 2 ^ t ≠ 0 := by
    have := Nat.mul_pos (show 0 < M by omega) hp
    omega
  unfold Ieee.Format.nearest
  rw [if_neg hne]
  simp only [c1, c2, c3, hlog, show Ieee.double.fractionBits = 52 from rfl]
  rw [show max (place + ((52 + t : Nat) : Int) - ((52 : Nat) : Int)) (-1074) = place + t by omega]
  rw [show (place - (place + (t : Int))).toNat = 0 by omega, show (place + (t : Int) - place).toNat = t by omega, Nat.shiftLeft_eq, Nat.pow_zero, Nat.mul_one]
  rw [cut_exact false M t (52 + t) (by omega) hlog (by omega)]
  rw [show (place + (t : Int) - -1074).toNat = (E + 1022).toNat by omega]
  unfold Ieee.Format.word wD
  simp only [Bool.false_eq_true, if_false]
  rw [Nat.min_eq_left]
  have : (E + 1022).toNat ≤ 2045 := by omega
  omega

/-- a small whole number as a real of 64 bits -/
theorem nearS (m : Nat) (h0 : 0 < m) (hm : m < 16777216) : Ieee.double.nearest false m 0 = wD (m * 2 ^ (52 - m.log2)) (m.log2 : Int) ∧ 4503599627370496 ≤ m * 2 ^ (52 - m.log2) ∧ m * 2 ^ (52 - m.log2) < 9007199254740992 ∧ m.log2 ≤ 23 := by
  obtain ⟨c1, c2, c3, c4⟩ := dconsts
  have hlo : 2 ^ m.log2 ≤ m := Nat.log2_self_le (by omega)
  have hhi : m < 2 ^ (m.log2 + 1) := Nat.lt_log2_self
  have hL : m.log2 < 24 := (Nat.log2_lt (by omega)).2 hm
  generalize hl : m.log2 = L at hlo hhi hL
  have k1 : 2 ^ L * 2 ^ (52 - L) ≤ m * 2 ^ (52 - L) := Nat.mul_le_mul_right _ hlo
  rw [← Nat.pow_add, show L + (52 - L) = 52 by omega] at k1
  have k2 : m * 2 ^ (52 - L) < 2 ^ (L + 1) * 2 ^ (52 - L) := Nat.mul_lt_mul_of_pos_right hhi (Nat.two_pow_pos _)
  rw [← Nat.pow_add, show L + 1 + (52 - L) = 53 by omega] at k2
  refine ⟨?_, k1, k2, by omega⟩
  unfold Ieee.Format.nearest
  rw [if_neg (by omega)]
  simp only [c1, c2, c3, hl, show Ieee.double.fractionBits = 52 from rfl]
  rw [show max ((0 : Int) + (L : Int) - ((52 : Nat) : Int)) (-1074) = (L : Int) - 52 by omega]
  rw [show ((0 : Int) - ((L : Int) - 52)).toNat = 52 - L by omega, show (((L : Int) - 52) - 0).toNat = 0 by omega, Nat.shiftLeft_eq]
  have hcut : Ieee.Toward.cut .even false (m * 2 ^ (52 - L)) 0 = m * 2 ^ (52 - L) := by
    unfold Ieee.Toward.cut
    simp [Nat.mod_one]
  rw [hcut, show (((L : Int) - 52) - -1074).toNat = ((L : Int) + 1022).toNat by omega]
  unfold Ieee.Format.word wD
  simp only [Bool.false_eq_true, if_false]
  rw [Nat.min_eq_left]
  have : ((L : Int) + 1022).toNat ≤ 1046 := by omega
  have k3 : m * 2 ^ (52 - L) < 9007199254740992 := k2
  omega

theorem readD (M : Nat) (E : Int) (h1 : 4503599627370496 ≤ M) (h2 : M < 9007199254740992) (lo : -1022 ≤ E) (hi : E ≤ 1023) : Ieee.double.read (wD M E) = .number false M (E - 52) := by
  obtain ⟨c1, c2, c3, c4⟩ := dconsts
  obtain ⟨q, hq⟩ : ∃ q : Nat, (E + 1022).toNat = q := ⟨_, rfl⟩
  have hq2 : q ≤ 2045 := by omega
  unfold wD
  rw [hq]
  unfold Ieee.Format.read
  simp only [c1, c2, c3, c4]
  rw [show (q * 4503599627370496 + M) % 9223372036854775808 = q * 4503599627370496 + M by omega, show (q * 4503599627370496 + M) / 9223372036854775808 % 2 = 0 by omega]
  rw [if_neg (by omega), if_pos (by omega), show (q * 4503599627370496 + M) % 4503599627370496 = M - 4503599627370496 by omega, show (q * 4503599627370496 + M) / 4503599627370496 - 1 = q by omega]
  rw [show 4503599627370496 + (M - 4503599627370496) = M by omega, show (-1074 : Int) + (q : Int) = E - 52 by omega]
  rfl

theorem read2 : Ieee.double.read 4611686018427387904 = .number false 4503599627370496 (-51) := by decide

theorem mul2 (M : Nat) (E : Int) (h1 : 4503599627370496 ≤ M) (h2 : M < 9007199254740992) (lo : -1022 ≤ E) (hi : E ≤ 1022) : Ieee.double.mul (wD M E) 4611686018427387904 = some (wD M (E + 1)) := by
  unfold Ieee.Format.mul
  rw [readD M E h1 h2 lo (by omega), read2]
  simp only [Ieee.Datum.product, Option.map_some, Ieee.Format.write]
  congr 1
  exact nearD M 52 (E + 1) _ h1 h2 (by omega) (by omega) (by omega)

theorem div2 (M : Nat) (E : Int) (h1 : 4503599627370496 ≤ M) (h2 : M < 9007199254740992) (lo : -1021 ≤ E) (hi : E ≤ 1023) : Ieee.double.div (wD M E) 4611686018427387904 = some (wD M (E - 1)) := by
  unfold Ieee.Format.div
  rw [readD M E h1 h2 (by omega) hi, read2]
  have hlM : M.log2 = 52 := log2_eq h1 h2
  have hl2 : (4503599627370496 : Nat).log2 = 52 := by decide
  simp only [Ieee.Datum.quotient, hlM, hl2, show Ieee.double.fractionBits = 52 from rfl]
  rw [if_neg (by decide)]
  simp only [Option.map_some, Ieee.Format.write, Nat.shiftLeft_eq]
  congr 1
  have e1 : M * 2 ^ (52 + 2 + 52 - 52) / 4503599627370496 = M * 4 := by
    rw [show M * 2 ^ (52 + 2 + 52 - 52) = M * 4 * 4503599627370496 by rw [Nat.mul_assoc]]
    exact Nat.mul_div_cancel _ (by omega)
  have e2 : M * 2 ^ (52 + 2 + 52 - 52) % 4503599627370496 = 0 := by
    rw [show M * 2 ^ (52 + 2 + 52 - 52) = M * 4 * 4503599627370496 by rw [Nat.mul_assoc]]
    exact Nat.mul_mod_left _ _
  rw [e1, e2]
  rw [show 2 * (M * 4) + ((0 : Nat) != 0).toNat = M * 2 ^ 3 by simp; omega]
  exact nearD M 3 (E - 1) _ h1 h2 (by omega) (by omega) (by omega)

theorem div0 : Ieee.double.div 0 4611686018427387904 = some 0 := by decide

/-- what a rung of 32 bits is worth, and the way back from 64 bits -/
def atM (n : Nat) : Nat := if n < 8388608 then n else 8388608 + n % 8388608
def atE (n : Nat) : Int := if n < 8388608 then -149 else (n / 8388608 : Nat) - 150

theorem toSingle (n : Nat) (h0 : 0 < n) (hn : n < 2139095040) : Ieee.single.nearest false (atM n * 2 ^ (52 - (atM n).log2)) (((atM n).log2 : Int) + atE n - 52) = n := by
  have e2 : Ieee.single.binade = 8388608 := by decide
  have e3 : Ieee.single.infRung = 2139095040 := by decide
  have e4 : Ieee.single.leastPlace = -149 := by decide
  have hm0 : 0 < atM n := by unfold atM; split <;> omega
  have hm1 : atM n < 16777216 := by unfold atM; split <;> omega
  obtain ⟨_, k1, k2, k3⟩ := nearS (atM n) hm0 hm1
  generalize hL : (atM n).log2 = L at k1 k2 k3
  have hlog : (atM n * 2 ^ (52 - L)).log2 = 52 := log2_eq k1 k2
  unfold Ieee.Format.nearest
  rw [if_neg (by omega)]
  simp only [e2, e3, e4, hlog, show Ieee.single.fractionBits = 23 from rfl]
  by_cases hs : n < 8388608
  · have hE : atE n = -149 := by unfold atE; rw [if_pos hs]
    have hM : atM n = n := by unfold atM; rw [if_pos hs]
    have hL22 : L ≤ 22 := by
      rw [← hL, hM]
      have := (Nat.log2_lt (show n ≠ 0 by omega)).2 (show n < 2 ^ 23 from hs)
      omega
    rw [hE]
    rw [show max ((L : Int) + -149 - 52 + ((52 : Nat) : Int) - ((23 : Nat) : Int)) (-149) = -149 by omega]
    rw [show ((L : Int) + -149 - 52 - -149).toNat = 0 by omega, show ((-149 : Int) - ((L : Int) + -149 - 52)).toNat = 52 - L by omega, Nat.shiftLeft_eq, Nat.pow_zero, Nat.mul_one]
    rw [cut_exact false (atM n) (52 - L) 52 hm0 hlog (by omega), hM]
    unfold Ieee.Format.word
    simp
    omega
  · have hE : atE n = (n / 8388608 : Nat) - 150 := by unfold atE; rw [if_neg hs]
    have hM : atM n = 8388608 + n % 8388608 := by unfold atM; rw [if_neg hs]
    have hL23 : L = 23 := by
      rw [← hL, hM]
      exact log2_eq (by omega) (by omega)
    subst hL23
    rw [hE]
    rw [show max (((23 : Nat) : Int) + (((n / 8388608 : Nat) : Int) - 150) - 52 + ((52 : Nat) : Int) - ((23 : Nat) : Int)) (-149) = ((n / 8388608 : Nat) : Int) - 150 by omega]
    rw [show (((23 : Nat) : Int) + (((n / 8388608 : Nat) : Int) - 150) - 52 - (((n / 8388608 : Nat) : Int) - 150)).toNat = 0 by omega, show ((((n / 8388608 : Nat) : Int) - 150) - (((23 : Nat) : Int) + (((n / 8388608 : Nat) : Int) - 150) - 52)).toNat = 29 by omega, Nat.shiftLeft_eq, Nat.pow_zero, Nat.mul_one]
    rw [cut_exact false (atM n) 29 52 hm0 hlog (by omega), hM]
    rw [show ((((n / 8388608 : Nat) : Int) - 150) - -149).toNat = n / 8388608 - 1 by omega]
    unfold Ieee.Format.word
    simp only [Bool.false_eq_true, if_false]
    rw [Nat.min_eq_left] <;> omega

end Go.Proofs.YtnljpbpphdhnpaaGreatDoor



/- The document's worth of a float, and how a number stands to it. -/
namespace Go.Proofs.YtnljpbpphdhnpaaGreatDoor
open Go.RowKit Go.PlainAid

theorem powers_int (v : Value) (N K : Nat) (k : Int) (w : World) (h : Big w v N K) (hK : K ≤ 1000) (hk : k ≤ 1000) :
    Calls Tryz.prog 57 #[v, .int .i64 2, .int .i64 k] w fun e w' => ∃ v', e = .returned v' ∧ (Big w' v' (N * 2 ^ k.toNat) (K + k.toNat) ∧ (v' = v ∨ Fresh w w' v')) ∧ Keep [] w w' := by
  by_cases h0 : k ≤ 0
  · refine (powers_neg v k h0 w).mono ?_
    rintro e w' ⟨rfl, rfl⟩
    rw [show k.toNat = 0 by omega]
    exact ⟨v, rfl, ⟨by simpa using h, .inl rfl⟩, Keep.refl _ _⟩
  · have hc := powers_two v N K k.toNat w h hK (by omega)
    rw [show ((k.toNat : Nat) : Int) = k by omega] at hc
    refine hc.mono ?_
    exact fun _ _ h => h

theorem Big.one (w : World) : Big (w.alloc (.cells #[.int .i64 1] TI)) (.slice (some ⟨w.heap.size, 0, none⟩) 1 1) 1 1 :=
  ⟨[1], Is.one w 1, fun x hx => by simp at hx; omega, fun _ => by decide, rfl, by simp⟩

theorem Big.sl {w : World} {v : Value} {N K : Nat} (h : Big w v N K) : ∃ a n c, v = .slice a n c := by
  obtain ⟨l, hl, _⟩ := h
  obtain ⟨ao, cap, he, _⟩ := hl.ex
  exact ⟨ao, _, cap, he⟩
theorem Fresh.off1 {w w' : World} {o : Obj} {v : Value} (h : Fresh (w.alloc o) w' v) : Off v [w.heap.size] := fun k hk hn => by
  have := (h k hk).1
  simp at this hn
  omega

set_option maxRecDepth 1000000 in
set_option maxHeartbeats 3200000 in
theorem worth_any (m : Nat) (e : Int) (hm : m < 18446744073709551616) (he1 : -500 ≤ e) (he2 : e ≤ 500) (w : World) :
    Calls Tryz.prog 64 #[.int .u64 (m : Int), .int .i64 e] w fun r w' => ∃ va vb, r = .returned (.agg #[va, vb]) ∧ (Big w' va (m * 2 ^ e.toNat) 1000 ∧ Big w' vb (2 ^ (-e).toNat) 1000) ∧ Keep [] w w' := by
  go_enter Tryz.func64, Tryz.ntmps64
  go_wp2_with fail
  refine (number_big m hm _).mono ?_
  rintro e9 w1 ⟨v1, rfl, hb1, hf1, hk1⟩
  go_wp2_with fail
  refine (powers_int v1 m 3 e _ hb1 (by omega) (by omega)).mono ?_
  rintro e9 w2 ⟨va, rfl, ⟨hba, hoa⟩, hka⟩
  go_wp2_with fail
  refine (powers_int _ 1 1 (-e) _ (Big.one w2) (by omega) (by omega)).mono ?_
  rintro e9 w3 ⟨vb, rfl, ⟨hbb, hob⟩, hkb⟩
  have K1 : Keep [] (w.alloc (Obj.cells #[Value.slice none 0 0, Value.slice none 0 0] 57)) w2 := hk1.trans' hka
  have K2 : Keep [] (w.alloc (Obj.cells #[Value.slice none 0 0, Value.slice none 0 0] 57)) w3 := (K1.alloc _).trans' hkb
  have K3 : Keep [] w2 w3 := (Keep.alloc1 w2 _).trans' hkb
  have s1 := hk1.size
  have s2 := hka.size
  simp at s1
  have HA : Hid (Big w3 va (m * 2 ^ e.toNat) 1000 ∧ Off va [w.heap.size]) := ⟨(hba.keep K3 (Off.nil _)).mono (by omega), by
    rcases hoa with rfl | h
    · exact hf1.off1
    · exact (h.earlier (w0 := w.alloc (Obj.cells #[Value.slice none 0 0, Value.slice none 0 0] 57)) (by simpa using s1)).off1⟩
  have HBb : Hid (Big w3 vb (2 ^ (-e).toNat) 1000 ∧ Off vb [w.heap.size]) := ⟨by rw [Nat.one_mul] at hbb; exact hbb.mono (by omega), by
    rcases hob with rfl | h
    · intro k hk hn
      simp [Value.ownBlock] at hk hn
      omega
    · intro k hk hn
      have := (h k hk).1
      simp at this hn
      omega⟩
  have HK : Hid (Keep [] w w3) := (show Keep [] w w3 from ((Keep.alloc1 w _).trans' K2))
  have hc0 : w3.cell? ⟨w.heap.size, 0, none⟩ = some (.slice none 0 0) := K2.cell' (by simp) (by simp)
  have hc1 : w3.cell? ⟨w.heap.size, 1, none⟩ = some (.slice none 0 0) := K2.cell' (by simp) (by simp)
  have hf0 : w3.frozen? ⟨w.heap.size, 0, none⟩ = false := (K2.frozen (by simp) (by simp)).trans (by simp)
  have hf9 : w3.frozen? ⟨w.heap.size, 1, none⟩ = false := (K2.frozen (by simp) (by simp)).trans (by simp)
  obtain ⟨ao, na, ca, rfl⟩ := hba.sl
  obtain ⟨bo, nb, cb, rfl⟩ := hbb.sl
  clear hb1 hf1 hk1 hba hoa hka hbb hob hkb K1 K2 K3 s1 s2
  have HG : Hid (w.heap.size ≤ w.heap.size) := Nat.le_refl _
  generalize hgg : w.heap.size = g at *
  have HG : Hid (w.heap.size ≤ g) := show w.heap.size ≤ g by omega
  clear hgg
  have hd1 : (w3.setCell ⟨g, 0, none⟩ (.slice ao na ca)).cell? ⟨g, 1, none⟩ = some (.slice none 0 0) := by rw [World.cell?_setCell_other _ _ _ _ (by simp)]; exact hc1
  have d1 : ((w3.setCell ⟨g, 0, none⟩ (.slice ao na ca)).setCell ⟨g, 1, none⟩ (.slice bo nb cb)).cell? ⟨g, 1, none⟩ = some (.slice bo nb cb) := World.cell?_setCell_same _ _ _ hd1
  have d0 : ((w3.setCell ⟨g, 0, none⟩ (.slice ao na ca)).setCell ⟨g, 1, none⟩ (.slice bo nb cb)).cell? ⟨g, 0, none⟩ = some (.slice ao na ca) := by
    rw [World.cell?_setCell_other _ _ _ _ (by simp)]; exact World.cell?_setCell_same _ _ _ hc0
  have KS : Keep [g] w3 ((w3.setCell ⟨g, 0, none⟩ (.slice ao na ca)).setCell ⟨g, 1, none⟩ (.slice bo nb cb)) := ((Keep.refl [g] w3).setCell (p := ⟨g, 0, none⟩) (.inl (by simp)) _).setCell (p := ⟨g, 1, none⟩) (.inl (by simp)) _
  have HR : Hid ((Big ((w3.setCell ⟨g, 0, none⟩ (.slice ao na ca)).setCell ⟨g, 1, none⟩ (.slice bo nb cb)) (.slice ao na ca) (m * 2 ^ e.toNat) 1000 ∧ Big ((w3.setCell ⟨g, 0, none⟩ (.slice ao na ca)).setCell ⟨g, 1, none⟩ (.slice bo nb cb)) (.slice bo nb cb) (2 ^ (-e).toNat) 1000) ∧ Keep [] w ((w3.setCell ⟨g, 0, none⟩ (.slice ao na ca)).setCell ⟨g, 1, none⟩ (.slice bo nb cb))) :=
    ⟨⟨HA.out.1.keep KS HA.out.2, HBb.out.1.keep KS HBb.out.2⟩, HK.out.more KS (by intro x hx; simp at hx; subst hx; exact .inr HG.out)⟩
  clear KS HA HBb HK hd1
  go_wp2
  generalize ((w3.setCell ⟨g, 0, none⟩ (.slice ao na ca)).setCell ⟨g, 1, none⟩ (.slice bo nb cb)) = W at d0 d1 HR ⊢
  refine bodyPost_ret (v := .agg #[.slice ao na ca, .slice bo nb cb]) (by simp [results, Tryz.results64, go_sem, d0, d1]) rfl ?_
  exact ⟨_, _, rfl, HR.out⟩
end Go.Proofs.YtnljpbpphdhnpaaGreatDoor


/- How a number stands to a float's worth: the document's against. -/
namespace Go.Proofs.YtnljpbpphdhnpaaGreatDoor
open Go.RowKit Go.PlainAid

theorem compare_nums (u v : Value) (M N K L : Nat) (w : World) (hu : Big w u M K) (hv : Big w v N L) : Calls Tryz.prog 65 #[u, v] w fun e w' => e = .returned (.int .i64 (cmpI (M : Nat) (N : Nat))) ∧ Keep [] w w' := by
  obtain ⟨a, h1, h2, h3, rfl, h5⟩ := hu
  obtain ⟨b, g1, g2, g3, rfl, g5⟩ := hv
  refine (compare_big u v a b w h1 g1 h2 g2 h3 g3).mono ?_
  rintro e w' ⟨rfl, n, rfl⟩
  exact ⟨rfl, (Keep.refl _ w).drewN n⟩

/-- what is held: the four parts -/
def Four (W : World) (p q : Nat) (a b c d : Value) (w : World) : Prop :=
  (w.cell? ⟨p, 0, none⟩ = some a ∧ w.cell? ⟨p, 1, none⟩ = some b ∧ w.cell? ⟨q, 0, none⟩ = some c ∧ w.cell? ⟨q, 1, none⟩ = some d) ∧ Keep [] W w
theorem Four.start {W : World} {p q : Nat} {a b c d : Value} (h : W.cell? ⟨p, 0, none⟩ = some a ∧ W.cell? ⟨p, 1, none⟩ = some b ∧ W.cell? ⟨q, 0, none⟩ = some c ∧ W.cell? ⟨q, 1, none⟩ = some d) : Four W p q a b c d W.drew := ⟨h, (Keep.refl _ W).drew⟩
theorem Four.next {W wi wj : World} {p q : Nat} {a b c d : Value} (hk : Keep [] wi wj) (h : Four W p q a b c d wi) : Four W p q a b c d wj :=
  ⟨⟨hk.cell' h.1.1 (by simp), hk.cell' h.1.2.1 (by simp), hk.cell' h.1.2.2.1 (by simp), hk.cell' h.1.2.2.2 (by simp)⟩, h.2.trans' hk⟩

set_option maxRecDepth 1000000 in
set_option maxHeartbeats 3200000 in
theorem against_at (fa fb : Value) (A B K L m P1 P2 : Nat) (e : Int) (w : World) (ha : Big w fa A K) (hb : Big w fb B L) (hK : K ≤ 3000) (hL : L ≤ 3000)
    (hw : ∀ w : World, Calls Tryz.prog 64 #[.int .u64 (m : Int), .int .i64 e] w fun r w' => ∃ va vb, r = .returned (.agg #[va, vb]) ∧ (Big w' va P1 1000 ∧ Big w' vb P2 1000) ∧ Keep [] w w') :
    Calls Tryz.prog 42 #[.agg #[fa, fb], .int .u64 (m : Int), .int .i64 e] w fun r w' => r = .returned (.int .i64 (cmpI (A * P2 : Nat) (P1 * B : Nat))) ∧ Keep [] w w' := by
  obtain ⟨ao, na, ca, rfl⟩ := ha.sl
  obtain ⟨bo, nb, cb, rfl⟩ := hb.sl
  have HA : Hid (Big w (.slice ao na ca) A K) := ha
  have HB : Hid (Big w (.slice bo nb cb) B L) := hb
  clear ha hb
  go_enter Tryz.func42, Tryz.ntmps42
  go_wp2_with fail
  refine (hw _).mono ?_
  rintro e9 w1 ⟨vc, vd, rfl, ⟨hc, hd⟩, hk1⟩
  obtain ⟨co, nc, cc, rfl⟩ := hc.sl
  obtain ⟨dO, nd, cd, rfl⟩ := hd.sl
  have HC : Hid (Big w1 (.slice co nc cc) P1 1000) := hc
  have HD : Hid (Big w1 (.slice dO nd cd) P2 1000) := hd
  have HK1 : Hid _ := hk1
  clear hc hd hk1
  go_wp2
  have KW : Keep [] w1 (w1.alloc (Obj.cells #[Value.slice co nc cc, Value.slice dO nd cd] 57)) := Keep.alloc1 _ _
  have hp : w.heap.size < w1.heap.size := by have := HK1.out.size; simp at this; omega
  have c0 : w1.cell? ⟨w.heap.size, 0, none⟩ = some (.slice ao na ca) := HK1.out.cell' (by simp) (by simp)
  have c1 : w1.cell? ⟨w.heap.size, 1, none⟩ = some (.slice bo nb cb) := HK1.out.cell' (by simp) (by simp)
  have HW : Hid (Big (w1.alloc (Obj.cells #[Value.slice co nc cc, Value.slice dO nd cd] 57)) (.slice ao na ca) A K ∧ Big (w1.alloc (Obj.cells #[Value.slice co nc cc, Value.slice dO nd cd] 57)) (.slice bo nb cb) B L ∧ Big (w1.alloc (Obj.cells #[Value.slice co nc cc, Value.slice dO nd cd] 57)) (.slice co nc cc) P1 1000 ∧ Big (w1.alloc (Obj.cells #[Value.slice co nc cc, Value.slice dO nd cd] 57)) (.slice dO nd cd) P2 1000 ∧ Keep [] w (w1.alloc (Obj.cells #[Value.slice co nc cc, Value.slice dO nd cd] 57))) := by
    have k1 : Keep [] w w1 := (Keep.alloc1 w _).trans' HK1.out
    exact ⟨(HA.out.keep k1 (Off.nil _)).keep KW (Off.nil _), (HB.out.keep k1 (Off.nil _)).keep KW (Off.nil _), HC.out.keep KW (Off.nil _), HD.out.keep KW (Off.nil _), k1.trans' KW⟩
  have h4 : (w1.alloc (Obj.cells #[Value.slice co nc cc, Value.slice dO nd cd] 57)).cell? ⟨w.heap.size, 0, none⟩ = some (.slice ao na ca) ∧ (w1.alloc (Obj.cells #[Value.slice co nc cc, Value.slice dO nd cd] 57)).cell? ⟨w.heap.size, 1, none⟩ = some (.slice bo nb cb) ∧ (w1.alloc (Obj.cells #[Value.slice co nc cc, Value.slice dO nd cd] 57)).cell? ⟨w1.heap.size, 0, none⟩ = some (.slice co nc cc) ∧ (w1.alloc (Obj.cells #[Value.slice co nc cc, Value.slice dO nd cd] 57)).cell? ⟨w1.heap.size, 1, none⟩ = some (.slice dO nd cd) :=
    ⟨KW.cell' c0 (by simp), KW.cell' c1 (by simp), by simp, by simp⟩
  clear HA HB HC HD HK1 KW c0 c1 hp
  generalize (w1.alloc (Obj.cells #[Value.slice co nc cc, Value.slice dO nd cd] 57)) = W at HW h4 ⊢
  generalize w.heap.size = p at h4 ⊢
  generalize w1.heap.size = q at h4 ⊢
  have hP1 := product_big (.slice ao na ca) (.slice dO nd cd) A P2 K 1000 W.drew (HW.out.1.keep ((Keep.refl [] W).drew) (Off.nil _)) (HW.out.2.2.2.1.keep ((Keep.refl [] W).drew) (Off.nil _)) (by omega) (by omega)
  have hP2 : ∀ w5, Keep [] W.drew w5 → _ := fun w5 hk5 => product_big (.slice co nc cc) (.slice bo nb cb) P1 B 1000 L w5 ((HW.out.2.2.1.keep ((Keep.refl [] W).drew) (Off.nil _)).keep hk5 (Off.nil _)) ((HW.out.2.1.keep ((Keep.refl [] W).drew) (Off.nil _)).keep hk5 (Off.nil _)) (by omega) (by omega)
  go_region_held3 (fun w' => (w'.cell? ⟨p, 0, none⟩ = some (.slice ao na ca) ∧ w'.cell? ⟨p, 1, none⟩ = some (.slice bo nb cb) ∧ w'.cell? ⟨q, 0, none⟩ = some (.slice co nc cc) ∧ w'.cell? ⟨q, 1, none⟩ = some (.slice dO nd cd)) ∧ Keep [] W w')
    (first | exact Four.start h4 | exact Four.next (by assumption) (by assumption))
    (first
    | (go_at_call_of 66 na; refine hP1.mono ?_; rintro e9 w5 ⟨v5, rfl, ⟨hb5, hf5⟩, hk5⟩)
    | (go_at_call_of 66 nc; refine (hP2 _ hk5).mono ?_; rintro e9 w6 ⟨v6, rfl, ⟨hb6, hf6⟩, hk6⟩)
    | (go_at_call 65; refine (compare_nums v5 v6 (A * P2) (P1 * B) _ _ _ (hb5.keep hk6 (Off.nil _)) hb6).mono ?_; rintro e9 w7 ⟨rfl, hk7⟩))
  go_wp2
  go_ret
  rename_i hH
  exact ⟨rfl, HW.out.2.2.2.2.trans' hH.2⟩

theorem against_any (fa fb : Value) (A B K L m : Nat) (e : Int) (w : World) (ha : Big w fa A K) (hb : Big w fb B L) (hK : K ≤ 3000) (hL : L ≤ 3000) (hm : m < 18446744073709551616) (he1 : -500 ≤ e) (he2 : e ≤ 500) :
    Calls Tryz.prog 42 #[.agg #[fa, fb], .int .u64 (m : Int), .int .i64 e] w fun r w' => r = .returned (.int .i64 (cmpI (A * 2 ^ (-e).toNat : Nat) (m * 2 ^ e.toNat * B : Nat))) ∧ Keep [] w w' :=
  against_at fa fb A B K L m _ _ e w ha hb hK hL (fun w => worth_any m e hm he1 he2 w)
end Go.Proofs.YtnljpbpphdhnpaaGreatDoor


/- What is reckoned with two reals: the program's Do, for every kind and every two reals. -/
namespace Go.Proofs.YtnljpbpphdhnpaaGreatDoor
open Go.RowKit Go.PlainAid

theorem nan_aux (p q : Nat) (hp : p < 2) (hq : q < 8388607) : 2139095040 < (p * 2147483648 + 2139095040 + 1 + q) % 2147483648 ∧ p * 2147483648 + 2139095040 + 1 + q < 4294967296 := by
  have : p = 0 ∨ p = 1 := by omega
  rcases this with rfl | rfl <;> omega
theorem cut_nan (x y t : Nat) : nanB (Question.cut (.nanBits .f32 x y) t) = true ∧ Question.cut (.nanBits .f32 x y) t < 4294967296 := by
  unfold nanB
  simp only [Question.cut, Nat.reducePow, Nat.reduceSub]
  obtain ⟨h1, h2⟩ := nan_aux (t % 2) (t / 2 % 8388607) (Nat.mod_lt _ (by decide)) (Nat.mod_lt _ (by decide))
  exact ⟨decide_eq_true h1, h2⟩
/-- an operation that has no answer draws one that is no number -/
theorem run_nan (op : BinOp) (x y : Nat) (h : floatBits op .f32 x y = none) (ho : op = .add ∨ op = .sub ∨ op = .mul ∨ op = .quo) :
    ∃ r : World → Nat, (∀ w, nanB (r w) = true ∧ r w < 4294967296) ∧ ∀ w, (binOp op 22 (.float .f32 x) (.float .f32 y)).run Tryz.prog w = .ok (.float .f32 (r w)) w.drew := by
  refine ⟨fun w => Question.cut (.nanBits .f32 x y) (w.tape w.drawn (.nanBits .f32 x y)), fun w => ?_, fun w => ?_⟩
  · exact cut_nan x y _
  · rcases ho with rfl | rfl | rfl | rfl
    all_goals
      have h' := h
      simp only [floatBits] at h'
      simp [binOp, Op.floatArith, h', Question.forced, go_sem]

def opK (k : Int) : Option BinOp := if k = 5 then some .mul else if k = 6 then some .quo else if k = 7 then some .add else if k = 8 then some .sub else none
def doN (k : Int) (a b : Nat) : Nat := match opK k with
  | none => 2143289344
  | some op => match floatBits op .f32 a b with
    | none => 2143289344
    | some r => if nanB r then 2143289344 else r

set_option maxRecDepth 100000 in
set_option maxHeartbeats 1600000 in
theorem do_any (k : Int) (a b : Nat) (w : World) : Calls Tryz.prog 24 #[.int .i64 k, .float .f32 a, .float .f32 b] w fun e w' => e = .returned (.float .f32 (doN k a b)) ∧ ∃ n, w' = w.drewN n := by
  have hV := nan_any
  have hNN : ∀ w, Calls Tryz.prog 14 #[.float .f32 2143289344] w fun e w' => e = .returned (.bool true) ∧ w' = w := fun w => isNan_any 2143289344 w
  have hd : doN k a b = match opK k with
    | none => 2143289344
    | some op => match floatBits op .f32 a b with
      | none => 2143289344
      | some r => if nanB r then 2143289344 else r := rfl
  by_cases h5 : k = 5
  · subst h5
    have ho : opK 5 = some .mul := rfl
    rw [ho] at hd
    simp only [] at hd
    cases hf : floatBits .mul .f32 a b with
    | none =>
      obtain ⟨r, hr1, hr2⟩ := run_nan .mul a b hf (by simp)
      rw [hf] at hd
      rw [hd]
      have hN := fun w => isNan_any (r w)
      go_enter Tryz.func24, Tryz.ntmps24
      go_wp2_with (first | (go_at_call 26; refine (hV _).mono ?_; rintro e9 w9 ⟨rfl, hw9⟩; obtain rfl := hw9.symm) | (go_at_call 14; refine (hN _ _).mono ?_; rintro e9 w9 ⟨rfl, hw9⟩; obtain rfl := hw9.symm; rw [(hr1 _).1]))
      go_ret
      exact ⟨rfl, 1, rfl⟩
    | some z =>
      have hr := fun w => run_float_arith (P := Tryz.prog) w .mul 22 .f32 a b z hf
      rw [hf] at hd
      simp only [] at hd
      have hN := isNan_any z
      rw [hd]
      cases hz : nanB z <;> rw [hz] at hN
      all_goals
        simp only [Bool.false_eq_true, if_false, if_true]
        go_enter Tryz.func24, Tryz.ntmps24
        go_wp2_with (first | (go_at_call 26; refine (hV _).mono ?_; rintro e9 w9 ⟨rfl, hw9⟩; obtain rfl := hw9.symm) | (go_at_call 14; refine (hN _).mono ?_; rintro e9 w9 ⟨rfl, hw9⟩; obtain rfl := hw9.symm))
        go_ret
        exact ⟨rfl, 0, rfl⟩
  have t5 : (k == 5) = false := by simpa using h5
  by_cases h6 : k = 6
  · subst h6
    have ho : opK 6 = some .quo := rfl
    rw [ho] at hd
    simp only [] at hd
    cases hf : floatBits .quo .f32 a b with
    | none =>
      obtain ⟨r, hr1, hr2⟩ := run_nan .quo a b hf (by simp)
      rw [hf] at hd
      rw [hd]
      have hN := fun w => isNan_any (r w)
      go_enter Tryz.func24, Tryz.ntmps24
      go_wp2_with (first | (go_at_call 26; refine (hV _).mono ?_; rintro e9 w9 ⟨rfl, hw9⟩; obtain rfl := hw9.symm) | (go_at_call 14; refine (hN _ _).mono ?_; rintro e9 w9 ⟨rfl, hw9⟩; obtain rfl := hw9.symm; rw [(hr1 _).1]))
      go_ret
      exact ⟨rfl, 1, rfl⟩
    | some z =>
      have hr := fun w => run_float_arith (P := Tryz.prog) w .quo 22 .f32 a b z hf
      rw [hf] at hd
      simp only [] at hd
      have hN := isNan_any z
      rw [hd]
      cases hz : nanB z <;> rw [hz] at hN
      all_goals
        simp only [Bool.false_eq_true, if_false, if_true]
        go_enter Tryz.func24, Tryz.ntmps24
        go_wp2_with (first | (go_at_call 26; refine (hV _).mono ?_; rintro e9 w9 ⟨rfl, hw9⟩; obtain rfl := hw9.symm) | (go_at_call 14; refine (hN _).mono ?_; rintro e9 w9 ⟨rfl, hw9⟩; obtain rfl := hw9.symm))
        go_ret
        exact ⟨rfl, 0, rfl⟩
  have t6 : (k == 6) = false := by simpa using h6
  by_cases h7 : k = 7
  · subst h7
    have ho : opK 7 = some .add := rfl
    rw [ho] at hd
    simp only [] at hd
    cases hf : floatBits .add .f32 a b with
    | none =>
      obtain ⟨r, hr1, hr2⟩ := run_nan .add a b hf (by simp)
      rw [hf] at hd
      rw [hd]
      have hN := fun w => isNan_any (r w)
      go_enter Tryz.func24, Tryz.ntmps24
      go_wp2_with (first | (go_at_call 26; refine (hV _).mono ?_; rintro e9 w9 ⟨rfl, hw9⟩; obtain rfl := hw9.symm) | (go_at_call 14; refine (hN _ _).mono ?_; rintro e9 w9 ⟨rfl, hw9⟩; obtain rfl := hw9.symm; rw [(hr1 _).1]))
      go_ret
      exact ⟨rfl, 1, rfl⟩
    | some z =>
      have hr := fun w => run_float_arith (P := Tryz.prog) w .add 22 .f32 a b z hf
      rw [hf] at hd
      simp only [] at hd
      have hN := isNan_any z
      rw [hd]
      cases hz : nanB z <;> rw [hz] at hN
      all_goals
        simp only [Bool.false_eq_true, if_false, if_true]
        go_enter Tryz.func24, Tryz.ntmps24
        go_wp2_with (first | (go_at_call 26; refine (hV _).mono ?_; rintro e9 w9 ⟨rfl, hw9⟩; obtain rfl := hw9.symm) | (go_at_call 14; refine (hN _).mono ?_; rintro e9 w9 ⟨rfl, hw9⟩; obtain rfl := hw9.symm))
        go_ret
        exact ⟨rfl, 0, rfl⟩
  have t7 : (k == 7) = false := by simpa using h7
  by_cases h8 : k = 8
  · subst h8
    have ho : opK 8 = some .sub := rfl
    rw [ho] at hd
    simp only [] at hd
    cases hf : floatBits .sub .f32 a b with
    | none =>
      obtain ⟨r, hr1, hr2⟩ := run_nan .sub a b hf (by simp)
      rw [hf] at hd
      rw [hd]
      have hN := fun w => isNan_any (r w)
      go_enter Tryz.func24, Tryz.ntmps24
      go_wp2_with (first | (go_at_call 26; refine (hV _).mono ?_; rintro e9 w9 ⟨rfl, hw9⟩; obtain rfl := hw9.symm) | (go_at_call 14; refine (hN _ _).mono ?_; rintro e9 w9 ⟨rfl, hw9⟩; obtain rfl := hw9.symm; rw [(hr1 _).1]))
      go_ret
      exact ⟨rfl, 1, rfl⟩
    | some z =>
      have hr := fun w => run_float_arith (P := Tryz.prog) w .sub 22 .f32 a b z hf
      rw [hf] at hd
      simp only [] at hd
      have hN := isNan_any z
      rw [hd]
      cases hz : nanB z <;> rw [hz] at hN
      all_goals
        simp only [Bool.false_eq_true, if_false, if_true]
        go_enter Tryz.func24, Tryz.ntmps24
        go_wp2_with (first | (go_at_call 26; refine (hV _).mono ?_; rintro e9 w9 ⟨rfl, hw9⟩; obtain rfl := hw9.symm) | (go_at_call 14; refine (hN _).mono ?_; rintro e9 w9 ⟨rfl, hw9⟩; obtain rfl := hw9.symm))
        go_ret
        exact ⟨rfl, 0, rfl⟩
  have t8 : (k == 8) = false := by simpa using h8
  have ho : opK k = none := by unfold opK; rw [if_neg h5, if_neg h6, if_neg h7, if_neg h8]
  rw [ho] at hd
  rw [hd]
  clear hd ho h5 h6 h7 h8
  go_enter Tryz.func24, Tryz.ntmps24
  go_wp2_with (first | (go_at_call 26; refine (hV _).mono ?_; rintro e9 w9 ⟨rfl, hw9⟩; obtain rfl := hw9.symm) | (go_at_call 14; refine (hNN _).mono ?_; rintro e9 w9 ⟨rfl, hw9⟩; obtain rfl := hw9.symm))
  go_ret
  exact ⟨rfl, 0, rfl⟩
end Go.Proofs.YtnljpbpphdhnpaaGreatDoor


