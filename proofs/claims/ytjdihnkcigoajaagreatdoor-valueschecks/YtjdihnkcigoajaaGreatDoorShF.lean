/- The library's fmtEFG, where the digits are written with a power of ten of one digit. -/
import Derived.Test.YtjdihnkcigoajaaGreatDoorOwn

namespace Go.Proofs.YtjdihnkcigoajaaGreatDoor
open Go.RowKit Go.PlainAid

/-- what is being written, beside the digits -/
structure Fm (w0 w : World) (v : Value) (l : List UInt8) (b cap : Nat) (D : List UInt8) : Prop where
  row : Row w v l
  bs : Bs w (.slice (some ⟨b, 0, none⟩) D.length cap) D
  ne : D ≠ []
  off : b ∉ v.ownBlock.toList
  keep : Keep [] w0 w
  fresh : Fresh w0 w v
theorem Fm.blt {w0 w : World} {v : Value} {l : List UInt8} {b cap : Nat} {D : List UInt8} (h : Fm w0 w v l b cap D) : b < w.heap.size := h.bs.lt h.ne b rfl
theorem Fm.app {w0 w w1 : World} {v v' : Value} {l r : List UInt8} {b cap : Nat} {D : List UInt8} (h : Fm w0 w v l b cap D) (g1 : Row w1 v' (l ++ r)) (g2 : Keep v.ownBlock.toList w w1) (g3 : v'.ownBlock = v.ownBlock ∨ Fresh w w1 v') : Fm w0 w1 v' (l ++ r) b cap D := by
  have hb := h.blt
  refine ⟨g1, h.bs.keep g2 (fun k hk => by simp [Value.ownBlock] at hk; subst hk; exact h.off), h.ne, ?_, ?_, ?_⟩
  · rcases g3 with g | g
    · rw [g]; exact h.off
    · intro hm
      simp at hm
      have := (g b hm).1
      omega
  · exact h.keep.more g2 (fun x hx => .inr (by simp at hx; exact (h.fresh x hx).1))
  · rcases g3 with g | g
    · intro k hk
      rw [g] at hk
      have := h.fresh k hk
      exact ⟨this.1, Nat.lt_of_lt_of_le this.2 g2.size⟩
    · exact g.earlier h.keep.size
theorem Fm.alloc {w0 w : World} {v : Value} {l : List UInt8} {b cap : Nat} {D : List UInt8} (h : Fm w0 w v l b cap D) (o : Obj) : Fm w0 (w.alloc o) v l b cap D :=
  ⟨h.row.keep (Keep.alloc1 w o) (Off.nil _), h.bs.keep (Keep.alloc1 w o) (Off.nil _), h.ne, h.off, h.keep.alloc o, h.fresh.later (by simp)⟩
theorem Bs.two (w : World) (x y : UInt8) : Bs (w.alloc (.cells #[.int .u8 (x.toNat : Int), .int .u8 (y.toNat : Int)] TB)) (.slice (some ⟨w.heap.size, 0, none⟩) 2 2) [x, y] := by
  refine ⟨some ⟨w.heap.size, 0, none⟩, 2, rfl, by simp, by simp [maxLen], (by intro h; cases h), fun _ => ⟨w.heap.size, 0, rfl, fun j hj => ?_⟩⟩
  rw [Nat.zero_add, World.cell?_alloc_new]
  have : j = 0 ∨ j = 1 := by simp at hj; omega
  rcases this with rfl | rfl <;> rfl

set_option maxRecDepth 1000000 in
set_option maxHeartbeats 4000000 in
theorem fmtE_any (w0 w : World) (v : Value) (l : List UInt8) (b cap : Nat) (D : List UInt8) (nd dp : Nat) (hF : Fm w0 w v l b cap D) (hl : l.length ≤ 1000) (hD : D.length ≤ 1000) (hn1 : 2 ≤ nd) (hn2 : nd ≤ D.length) (hc : cap ≤ 1000) (hd1 : 1 ≤ dp) (hd2 : dp ≤ 10) :
    Calls Tryz.prog 143 #[v, .bool false, .slice (some ⟨b, 0, none⟩) D.length cap, .int .i64 dp, .int .i64 nd, .int .i64 ((nd : Int) - 1), .int .u8 101, .bool true] w fun e w' =>
      ∃ v', e = .returned v' ∧ Fm w0 w' v' (l ++ [D.getD 0 0] ++ [46] ++ (D.take nd).drop 1 ++ [101] ++ [43] ++ [48, UInt8.ofNat (48 + (dp - 1))]) b cap D := by
  have h0 : 0 < D.length := by omega
  obtain ⟨ao, cp, he, hb1, hb2, hb3, hb4⟩ := hF.bs.ex
  obtain ⟨b', o', hbo, hcell⟩ := hb4 hF.ne
  simp at he
  obtain ⟨rfl, rfl⟩ := he
  simp at hbo
  obtain ⟨rfl, rfl⟩ := hbo
  have hc0 := hcell 0 h0
  rw [Nat.add_zero] at hc0
  clear hb1 hb2 hb3 hb4
  have HC : Hid (∀ j, j < D.length → w.cell? ⟨b, 0 + j, none⟩ = some (.int .u8 ((D.getD j 0).toNat : Int))) := hcell
  clear hcell
  generalize hx0 : D.getD 0 0 = x0 at *
  have HF : Hid (Fm w0 w v l b cap D) := hF
  have hF1 := hF.alloc (.cells #[.int .u8 (x0.toNat : Int)] TB)
  have hr1 := hF1.row
  have hs1 := (Bs.byte w x0).src
  have HB1 : Hid (l.length + [x0].length ≤ 140737488355328) := show l.length + [x0].length ≤ 140737488355328 by simp; omega
  have HF1 : Hid (Fm w0 (w.alloc (.cells #[.int .u8 (x0.toNat : Int)] TB)) v l b cap D) := hF1
  have t1 : ((nd : Int) != 0) = true := by simp; omega
  have t2 : (0 : Int) < (nd : Int) - 1 := by omega
  have hDi : (0 : Int) < (D.length : Int) := by omega
  clear hF hF1
  go_enter Tryz.func143, Tryz.ntmps143
  go_wp2_with (at_builtin; refine wp_app rfl (.tmp 87) (.tmp 89) 31 31 rfl underS _ l rfl hr1 _ [x0] rfl hs1 HB1.out ?_)
  intro v1 w1 g1 g2 g3 g4
  obtain ⟨L1, HL1, HG1⟩ : ∃ L, Hid (L = l ++ [x0] ∧ L.length ≤ 2010) ∧ Hid (Fm w0 w1 v1 L b cap D) := ⟨_, ⟨rfl, by simp; omega⟩, HF1.out.app g1 g2 g3⟩
  clear g1 g2 g3 g4 hr1 hs1 HB1 HF1 HF HC hc0 t1
  have HF1 := HG1
  clear HG1
  have hl2 : L1.length ≤ 2010 := HL1.out.2
  have hr := (HF1.out.alloc (.cells #[.int .u8 46] TB)).row
  have hs := (show Bs (w1.alloc (.cells #[.int .u8 46] TB)) (.slice (some ⟨w1.heap.size, 0, none⟩) 1 1) [46] from Bs.byte w1 46).src
  have HB : Hid (L1.length + [(46 : UInt8)].length ≤ 140737488355328) := show L1.length + [(46 : UInt8)].length ≤ 140737488355328 by simp; omega
  go_wp2_with (at_builtin; refine wp_app rfl (.tmp 93) (.tmp 94) 31 31 rfl underS _ L1 rfl hr _ [46] rfl hs HB.out ?_)
  intro v2 w2 g1 g2 g3 g4
  obtain ⟨L2, HL2, HF2⟩ : ∃ L, Hid (L = L1 ++ [46] ∧ L.length ≤ 3020) ∧ Hid (Fm w0 w2 v2 L b cap D) := ⟨_, ⟨rfl, by simp; omega⟩, (HF1.out.alloc _).app g1 g2 g3⟩
  clear g1 g2 g3 g4 hr hs HB HF1
  have hl3 : L2.length ≤ 3020 := HL2.out.2
  have hcap : D.length ≤ cap := by
    obtain ⟨ao, cp, he, hb1, _, _, _⟩ := HF2.out.bs.ex
    simp at he
    omega
  have u1 : nd ≤ cap := by omega
  have u2 : ¬ cap = 1 := by omega
  have hr := HF2.out.row
  have hs : Src Tryz.prog 1 31 (.slice (some ⟨b, 1, none⟩) (nd - 1) (cap - 1)) ((D.take nd).drop 1).length (bv ((D.take nd).drop 1)) w2 := by
    have h1 := Bs.take nd hn2 HF2.out.bs
    have h2 : (D.take nd).length = nd := by simp; omega
    have h3 := Bs.drop (b := b) (o := 0) (l := D.take nd) (cap := cap) 1 (by omega) (by rw [h2]; exact h1)
    rw [h2] at h3
    exact h3.src
  have hlr : ((D.take nd).drop 1).length = nd - 1 := by simp; omega
  have HB : Hid (L2.length + ((D.take nd).drop 1).length ≤ 140737488355328) := show L2.length + ((D.take nd).drop 1).length ≤ 140737488355328 by omega
  have HD : Hid (((D.take nd).drop 1).length ≤ 1000) := show ((D.take nd).drop 1).length ≤ 1000 by omega
  clear hlr
  generalize hEE : (D.take nd).drop 1 = E at *
  have HEE : Hid ((D.take nd).drop 1 = E) := hEE
  clear hEE
  go_wp2_with (at_builtin; refine wp_app rfl (.tmp 103) (.tmp 107) 31 31 rfl underS _ L2 rfl hr _ E rfl hs HB.out ?_)
  intro v3 w3 g1 g2 g3 g4
  have hE : E.length ≤ 1000 := HD.out
  obtain ⟨L3, HL3, HF3⟩ : ∃ L, Hid (L = L2 ++ E ∧ L.length ≤ 4030) ∧ Hid (Fm w0 w3 v3 L b cap D) := ⟨_, ⟨rfl, by simp; omega⟩, HF2.out.app g1 g2 g3⟩
  clear g1 g2 g3 g4 hr hs HB HF2 u1 u2
  go_wp2
  refine wp_loop_rounds 1 ?_
  rw [rounds_succ]
  have hl4 : L3.length ≤ 4030 := HL3.out.2
  have hr := (HF3.out.alloc (.cells #[.int .u8 101] TB)).row
  have hs := (show Bs (w3.alloc (.cells #[.int .u8 101] TB)) (.slice (some ⟨w3.heap.size, 0, none⟩) 1 1) [101] from Bs.byte w3 101).src
  have HB : Hid (L3.length + [(101 : UInt8)].length ≤ 140737488355328) := show L3.length + [(101 : UInt8)].length ≤ 140737488355328 by simp; omega
  go_wp2_with (at_builtin; refine wp_app rfl (.tmp 120) (.tmp 122) 31 31 rfl underS _ L3 rfl hr _ [101] rfl hs HB.out ?_)
  intro v4 w4 g1 g2 g3 g4
  obtain ⟨L4, HL4, HF4⟩ : ∃ L, Hid (L = L3 ++ [101] ∧ L.length ≤ 5040) ∧ Hid (Fm w0 w4 v4 L b cap D) := ⟨_, ⟨rfl, by simp; omega⟩, (HF3.out.alloc _).app g1 g2 g3⟩
  clear g1 g2 g3 g4 hr hs HB HF3
  have hl5 : L4.length ≤ 5040 := HL4.out.2
  have hr := (HF4.out.alloc (.cells #[.int .u8 43] TB)).row
  have hs := (show Bs (w4.alloc (.cells #[.int .u8 43] TB)) (.slice (some ⟨w4.heap.size, 0, none⟩) 1 1) [43] from Bs.byte w4 43).src
  have HB : Hid (L4.length + [(43 : UInt8)].length ≤ 140737488355328) := show L4.length + [(43 : UInt8)].length ≤ 140737488355328 by simp; omega
  go_wp2_with (at_builtin; refine wp_app rfl (.tmp 132) (.tmp 134) 31 31 rfl underS _ L4 rfl hr _ [43] rfl hs HB.out ?_)
  intro v5 w5 g1 g2 g3 g4
  obtain ⟨L5, HL5, HF5⟩ : ∃ L, Hid (L = L4 ++ [43] ∧ L.length ≤ 6050) ∧ Hid (Fm w0 w5 v5 L b cap D) := ⟨_, ⟨rfl, by simp; omega⟩, (HF4.out.alloc _).app g1 g2 g3⟩
  clear g1 g2 g3 g4 hr hs HB HF4
  have hl6 : L5.length ≤ 6050 := HL5.out.2
  obtain ⟨y, HY⟩ : ∃ y, Hid (y = UInt8.ofNat (48 + (dp - 1))) := ⟨_, rfl⟩
  have hy : (y.toNat : Int) = (dp : Int) - 1 + 48 := by
    rw [HY.out]
    simp [UInt8.toNat_ofNat]; omega
  have hr := (HF5.out.alloc (.cells #[.int .u8 48, .int .u8 ((dp : Int) - 1 + 48)] TB)).row
  have hs : Src Tryz.prog 1 31 (.slice (some ⟨w5.heap.size, 0, none⟩) 2 2) 2 (bv [48, y]) (w5.alloc (.cells #[.int .u8 48, .int .u8 ((dp : Int) - 1 + 48)] TB)) := by
    have := (Bs.two w5 48 y).src
    rw [hy] at this
    exact this
  have HB : Hid (L5.length + [(48 : UInt8), y].length ≤ 140737488355328) := show L5.length + [(48 : UInt8), y].length ≤ 140737488355328 by simp; omega
  clear hy
  go_wp2_with (at_builtin; refine wp_app rfl (.tmp 155) (.tmp 159) 31 31 rfl underS _ L5 rfl hr _ [48, y] rfl hs HB.out ?_)
  intro v6 w6 g1 g2 g3 g4
  have HF6 : Hid (Fm w0 w6 v6 (L5 ++ [48, y]) b cap D) := (HF5.out.alloc _).app g1 g2 g3
  clear g1 g2 g3 g4 hr hs HB HF5
  go_wp2
  go_ret
  refine ⟨_, rfl, ?_⟩
  have e := HF6.out
  rw [HY.out, HL5.out.1, HL4.out.1, HL3.out.1, HL2.out.1, HL1.out.1] at e
  rw [HEE.out]
  exact e
end Go.Proofs.YtjdihnkcigoajaaGreatDoor




/- The library's setDigits, of a number whose last digit is no nought. -/
namespace Go.Proofs.YtjdihnkcigoajaaGreatDoor
open Go.RowKit Go.PlainAid Go.Sort

abbrev encB (b : UInt8) : Value := Value.int .u8 (b.toNat : Int)

theorem putRow_keep (w : World) (b off : Nat) (d : Array UInt8) (n : Nat) : Keep [b] w ((putRow encB w b off d).drewN n) := by
  refine ⟨rfl, rfl, rfl, ?_, fun k hk hn => ?_⟩
  · show w.heap.size ≤ (putRow encB w b off d).heap.size
    rw [size_putRow]; exact Nat.le_refl _
  · show (putRow encB w b off d).heap[k]? = w.heap[k]?
    have hne : ¬ b = k := by intro e; exact hn (by simp [e])
    simp [putRow, mapBlock, Array.getElem?_modify, hne]

set_option maxRecDepth 1000000 in
set_option maxHeartbeats 1000000 in
theorem setDigits_any (b nd u : Nat) (p : Int) (w : World) (hn1 : 1 ≤ nd) (hn2 : nd ≤ 32) (hu : u < 10 ^ nd) (hu64 : u < 18446744073709551616) (h10 : u % 10 ≠ 0) (hp1 : -1000 ≤ p) (hp2 : p ≤ 1000)
    (hZ : ∀ j, j < 32 → w.cell? ⟨b, j, none⟩ = some (.int .u8 0) ∧ w.frozen? ⟨b, j, none⟩ = false) :
    Calls Tryz.prog 145 #[.slice (some ⟨b, 0, none⟩) 32 32, .int .u64 (u : Nat), .int .i64 p, .int .i64 (nd : Nat)] w fun e w' =>
      e = .returned (.tuple #[.int .i64 ((nd : Int) + p), .int .i64 (nd : Nat)]) ∧ Keep [b] w w' ∧ (∀ j, j < nd → w'.cell? ⟨b, j, none⟩ = some (.int .u8 ((Lib.dg u (nd - 1 - j)).toNat : Int))) ∧ (∀ j, nd ≤ j → j < 32 → w'.cell? ⟨b, j, none⟩ = some (.int .u8 0)) := by
  have hH : Holds encB w b 0 (Array.replicate nd (0 : UInt8)) := fun j hj => by
    have hj' : j < nd := by simpa using hj
    rw [Nat.zero_add]
    obtain ⟨z1, z2⟩ := hZ j (by omega)
    refine ⟨?_, z2⟩
    rw [z1, getElem!_pos _ j (by simpa using hj)]
    simp
  have hC := Tryz.internal_strconv_formatBase10 b 0 32 u (Array.replicate nd (0 : UInt8)) w hH (by simpa using hu) hu64 (by simp; omega)
  rw [Array.size_replicate] at hC
  have HZ : Hid (∀ j, j < 32 → w.cell? ⟨b, j, none⟩ = some (.int .u8 0) ∧ w.frozen? ⟨b, j, none⟩ = false) := hZ
  have HH : Hid (Holds encB w b 0 (Array.replicate nd (0 : UInt8))) := hH
  clear hZ hH
  have hndi : (nd : Int) ≤ 32 := by omega
  go_enter Tryz.func145, Tryz.ntmps145
  go_wp2_with (first | (go_at_call 68; refine hC.mono ?_; rintro e9 w9 ⟨rfl, n9, v9, dk, hw9, hI⟩; have HW : Hid (w9 = (putRow encB w b 0 dk).drewN n9 ∧ Lib.FmtInv nd u 0 v9 dk) := ⟨hw9, hI⟩; clear hw9 hI))
  obtain ⟨hw9, hI⟩ := HW.out
  obtain ⟨m, rfl⟩ : ∃ m, nd = m + 1 := ⟨nd - 1, by omega⟩
  have hdone : ∀ j, j < m + 1 → w9.cell? ⟨b, j, none⟩ = some (.int .u8 ((Lib.dg u (m + 1 - 1 - j)).toNat : Int)) := by
    intro j hj
    have hsz : dk.size = (Array.replicate (m + 1) (0 : UInt8)).size := by rw [hI.size]; simp
    have := cell?_putRow encB w b 0 (Array.replicate (m + 1) (0 : UInt8)) dk HH.out hsz j (by rw [hI.size]; exact hj)
    rw [Nat.zero_add] at this
    rw [hw9]
    show (putRow encB w b 0 dk).cell? ⟨b, j, none⟩ = _
    rw [this, hI.done j (Nat.zero_le _) hj]
  have hrest : ∀ j, m + 1 ≤ j → j < 32 → w9.cell? ⟨b, j, none⟩ = some (.int .u8 0) := by
    intro j h1 h2
    rw [hw9]
    show (putRow encB w b 0 dk).cell? ⟨b, j, none⟩ = _
    rw [cell?_putRow_other encB w b 0 dk ⟨b, j, none⟩ (.inr (.inr (by rw [hI.size]; simpa using h1)))]
    exact (HZ.out j h2).1
  have HK : Hid (Keep [b] w w9) := by rw [hw9]; exact putRow_keep w b 0 dk n9
  have hlast := hdone m (by omega)
  have h48 : ((Lib.dg u (m + 1 - 1 - m)).toNat : Int) ≠ 48 := by
    rw [show m + 1 - 1 - m = 0 by omega]
    unfold Lib.dg
    rw [Nat.pow_zero, Nat.div_one, UInt8.toNat_ofNat']
    omega
  generalize ((Lib.dg u (m + 1 - 1 - m)).toNat : Int) = c at hlast h48
  have t1 : (c == 48) = false := by simpa using h48
  have HD : Hid ((∀ j, j < m + 1 → w9.cell? ⟨b, j, none⟩ = some (.int .u8 ((Lib.dg u (m + 1 - 1 - j)).toNat : Int))) ∧ ∀ j, m + 1 ≤ j → j < 32 → w9.cell? ⟨b, j, none⟩ = some (.int .u8 0)) := ⟨hdone, hrest⟩
  clear hdone hrest hw9 hI HW h48 HZ HH hC hu hu64 h10
  refine wp_loop_rounds 1 ?_
  rw [rounds_succ]
  go_wp2
  go_ret2
  exact ⟨by simp, HK.out, HD.out.1, HD.out.2⟩
end Go.Proofs.YtjdihnkcigoajaaGreatDoor




/- The library's shortFloat and numDigits at the one number that is asked for. -/
namespace Go.Proofs.YtjdihnkcigoajaaGreatDoor
open Go.RowKit Go.PlainAid

abbrev preW : Obj := .cells #[.int .u64 9223372036854775808, .int .u64 0, .int .i64 36] 184

theorem alloc_drewN (w : World) (o : Obj) (n : Nat) : (w.drewN n).alloc o = (w.alloc o).drewN n := rfl
theorem usc_s (x a u : Int) (hx : 0 ≤ x ∧ x < 18446744073709551616) (ha : x * 9223372036854775808 / 18446744073709551616 = a) (hb : x * 9223372036854775808 % 18446744073709551616 = 0) (hne : (IntKind.u64.wrap (a / 2 ^ (36 : Int).toNat * 2 ^ (36 : Int).toNat) != a) = false)
    (hu : bits .or .u64 (IntKind.u64.wrap (a - 0) / 2 ^ (36 : Int).toNat) 0 = u) (w : World) (n : Nat) :
    Calls Tryz.prog 162 #[.int .u64 x, .pointer (some ⟨w.heap.size, 0, none⟩)] ((w.alloc preW).drewN n) fun e w' => e = .returned (.int .u64 u) ∧ ∃ m, w' = (w.alloc preW).drewN m := by
  have h := uscale_all x 9223372036854775808 0 36 a 0 0 0 0 0 (w.drewN n) (by decide) (by decide) (by decide) hx (by decide) (by decide) ha hb (by simp) (by simp) hne (by decide) (by decide)
  rw [hu, alloc_drewN] at h
  refine h.mono ?_
  rintro e w' ⟨rfl, m, rfl⟩
  exact ⟨rfl, n + m, by simp [World.drewN]; omega⟩

theorem skew_p (w : World) : Calls Tryz.prog 159 #[.int .i64 1] w fun e w' => e = .returned (.int .i64 0) ∧ w' = w := by
  go_enter Tryz.func159, Tryz.ntmps159
  go_wp2
  go_ret
  exact ⟨rfl, rfl⟩
theorem nudge_p (u : Int) (h0 : 0 ≤ u) (h1 : u ≤ 18446744073709551615) (w : World) : Calls Tryz.prog 163 #[.int .u64 u, .int .i64 0] w fun e w' => e = .returned (.int .u64 u) ∧ w' = w := by
  go_enter Tryz.func163, Tryz.ntmps163
  go_wp2
  go_ret
  exact ⟨rfl, rfl⟩
theorem ceil_p (w : World) : Calls Tryz.prog 164 #[.int .u64 67108862] w fun e w' => e = .returned (.int .u64 16777216) ∧ w' = w := by
  go_enter Tryz.func164, Tryz.ntmps164
  go_wp2
  go_ret
  exact ⟨rfl, rfl⟩
theorem floor_p (w : World) : Calls Tryz.prog 165 #[.int .u64 67108868] w fun e w' => e = .returned (.int .u64 16777217) ∧ w' = w := by
  go_enter Tryz.func165, Tryz.ntmps165
  go_wp2
  go_ret
  exact ⟨rfl, rfl⟩
theorem round_q (w : World) : Calls Tryz.prog 166 #[.int .u64 67108864] w fun e w' => e = .returned (.int .u64 16777216) ∧ w' = w := by
  have e : bits .and .u64 16777216 1 = 0 := by decide
  go_enter Tryz.func166, Tryz.ntmps166
  go_wp2
  go_ret
  exact ⟨rfl, rfl⟩

set_option maxRecDepth 1000000 in
set_option maxHeartbeats 1000000 in
theorem short_p (w : World) (c0 : w.cell? ⟨10, 696, none⟩ = some (.int .u64 9223372036854775808)) (c1 : w.cell? ⟨10, 697, none⟩ = some (.int .u64 0)) :
    Calls Tryz.prog 144 #[.int .u64 9223372036854775808, .int .i64 (-39)] w fun e w' => e = .returned (.tuple #[.int .u64 16777216, .int .i64 0]) ∧ ∃ n, w' = (w.alloc preW).drewN n := by
  have hP := fun x0 x1 x2 => prescale_any 348 (-39) 0 0 9223372036854775808 0 x0 x1 x2 184 w (by decide) (by decide) (by decide) (by decide) c0 c1
  have hU1 := usc_s 9223371761976868864 4611685880988434432 67108862 (by decide) (by decide) (by decide) (by decide) (by decide) w 0
  have hU2 := usc_s 9223372586610589696 4611686293305294848 67108868 (by decide) (by decide) (by decide) (by decide) (by decide) w
  have hU3 := usc_s 9223372036854775808 4611686018427387904 67108864 (by decide) (by decide) (by decide) (by decide) (by decide) w
  have hN1 := nudge_p 67108862 (by decide) (by decide)
  have hN2 := nudge_p 67108868 (by decide) (by decide)
  have e1 : bits .and .i64 8388608 1 = 0 := by decide
  clear c0 c1
  go_enter Tryz.func144, Tryz.ntmps144
  go_wp2_with (first
    | (go_at_call 159; refine (skew_p _).mono ?_; rintro e9 w9 ⟨rfl, hw9⟩; obtain rfl := hw9.symm)
    | (go_at_call 161; refine (log2_p _).mono ?_; rintro e9 w9 ⟨rfl, hw9⟩; obtain rfl := hw9.symm)
    | (go_at_call 160; refine (hP _ _ _).mono ?_; rintro e9 w9 ⟨rfl, hw9⟩; obtain rfl := hw9.symm)
    | (go_at_call_of 162 (Value.int IntKind.u64 9223371761976868864); refine (hU1).mono ?_; rintro e9 w9 ⟨rfl, n9, rfl⟩)
    | (go_at_call_of 162 (Value.int IntKind.u64 9223372586610589696); refine (hU2 _).mono ?_; rintro e9 w9 ⟨rfl, n8, rfl⟩)
    | (go_at_call 162; refine (hU3 _).mono ?_; rintro e9 w9 ⟨rfl, n7, rfl⟩)
    | (go_at_call_of 163 (Value.int IntKind.u64 67108862); refine (hN1 _).mono ?_; rintro e9 w9 ⟨rfl, hw9⟩; obtain rfl := hw9.symm)
    | (go_at_call 163; refine (hN2 _).mono ?_; rintro e9 w9 ⟨rfl, hw9⟩; obtain rfl := hw9.symm)
    | (go_at_call 164; refine (ceil_p _).mono ?_; rintro e9 w9 ⟨rfl, hw9⟩; obtain rfl := hw9.symm)
    | (go_at_call 165; refine (floor_p _).mono ?_; rintro e9 w9 ⟨rfl, hw9⟩; obtain rfl := hw9.symm)
    | (go_at_call 166; refine (round_q _).mono ?_; rintro e9 w9 ⟨rfl, hw9⟩; obtain rfl := hw9.symm))
  go_ret2
  exact ⟨rfl, _, rfl⟩

theorem log10_p (w : World) : Calls Tryz.prog 85 #[.int .i64 25] w fun e w' => e = .returned (.int .i64 7) ∧ w' = w := by
  go_enter Tryz.func85, Tryz.ntmps85
  go_wp2
  go_ret
  exact ⟨rfl, rfl⟩
theorem numDigits_p (w : World) (c : w.cell? ⟨1, 7, none⟩ = some (.int .u64 10000000)) : Calls Tryz.prog 67 #[.int .u64 16777216] w fun e w' => e = .returned (.int .i64 8) ∧ w' = w := by
  have hL := len64_at 16777216 (by decide) (by decide) 25 (by decide)
  have hB : ∀ w, Calls Tryz.prog 87 #[.bool true] w fun e w' => e = .returned (.int .i64 1) ∧ w' = w := fun w => bool2i_any true w
  go_enter Tryz.func67, Tryz.ntmps67
  go_wp2_with (first
    | (go_at_call 86; refine (hL _).mono ?_; rintro e9 w9 ⟨rfl, hw9⟩; obtain rfl := hw9.symm)
    | (go_at_call 85; refine (log10_p _).mono ?_; rintro e9 w9 ⟨rfl, hw9⟩; obtain rfl := hw9.symm)
    | (go_at_call 87; refine (hB _).mono ?_; rintro e9 w9 ⟨rfl, hw9⟩; obtain rfl := hw9.symm))
  go_ret
  exact ⟨rfl, rfl⟩
end Go.Proofs.YtjdihnkcigoajaaGreatDoor



