/- The library's fmtEFG in the form e, for every number of digits and every exponent below 100. -/
import Derived.Test.YtfpcpociejefaaaGreatDoorFmE
namespace Go.Proofs.YtfpcpociejefaaaGreatDoor
open Go.RowKit Go.PlainAid
set_option maxRecDepth 1000000 in
set_option maxHeartbeats 4000000 in
theorem fmtE_fpo (w0 w : World) (v : Value) (l : List UInt8) (b cap : Nat) (D : List UInt8) (nd x : Nat) (hF : Fm w0 w v l b cap D) (hl : l.length ≤ 1000) (hD : D.length ≤ 1000) (hn1 : 2 ≤ nd) (hn2 : nd ≤ D.length) (hc : cap ≤ 1000) (hx : x < 10) :
  Calls Tryz.prog 185 #[v, .bool false, .slice (some ⟨b, 0, none⟩) D.length cap, .int .i64 ((x : Int) + 1), .int .i64 nd, .int .i64 ((nd : Int) - 1), .int .u8 101, .bool true] w fun e w' =>
   ∃ v', e = .returned v' ∧ Fm w0 w' v' (l ++ [D.getD 0 0] ++ [46] ++ (D.take nd).drop 1 ++ [101] ++ [43] ++ [48, UInt8.ofNat (48 + x)]) b cap D := by
 have h0 : 0 < D.length := by omega
 obtain ⟨ao, cp, he, hb1, hb2, hb3, hb4⟩ := hF.bs.ex
 obtain ⟨b', o', hbo, hcell⟩ := hb4 hF.ne
 simp at he
 obtain ⟨rfl, rfl⟩ := he
 simp at hbo
 obtain ⟨rfl, rfl⟩ := hbo
 have hc0 := hcell 0 h0
 rw [Nat.add_zero] at hc0
 clear hb1 hb2 hb3 hb4
 have HC : Hid (∀ j, j < D.length → w.cell? ⟨b, 0 + j, none⟩ = some (.int .u8 ((D.getD j 0).toNat : Int))) := hcell
 clear hcell
 generalize hx0 : D.getD 0 0 = x0 at *
 have HF : Hid (Fm w0 w v l b cap D) := hF
 have hF1 := hF.alloc (.cells #[.int .u8 (x0.toNat : Int)] TB)
 have hr1 := hF1.row
 have hs1 := (Bs.byte w x0).src
 have HB1 : Hid (l.length + [x0].length ≤ 140737488355328) := show l.length + [x0].length ≤ 140737488355328 by simp; omega
 have HF1 : Hid (Fm w0 (w.alloc (.cells #[.int .u8 (x0.toNat : Int)] TB)) v l b cap D) := hF1
 have t1 : ((nd : Int) != 0) = true := by simp; omega
 have t2 : (0 : Int) < (nd : Int) - 1 := by omega
 have hDi : (0 : Int) < (D.length : Int) := by omega
 have hxi : (0 : Int) ≤ (x : Int) ∧ (x : Int) < 100 := by omega
 have hq2 : decide ((x : Int) < 0) = false := decide_eq_false (by omega)
 have hq5 : decide ((x : Int) < 10) = true := decide_eq_true (by omega)
 clear hF hF1
 go_enter Tryz.func185, Tryz.ntmps185
 go_wp2_with (at_builtin; refine wp_app rfl (.tmp 87) (.tmp 89) 33 33 rfl underS _ l rfl hr1 _ [x0] rfl hs1 HB1.out ?_)
 intro v1 w1 g1 g2 g3 g4
 obtain ⟨L1, HL1, HG1⟩ : ∃ L, Hid (L = l ++ [x0] ∧ L.length ≤ 2010) ∧ Hid (Fm w0 w1 v1 L b cap D) := ⟨_, ⟨rfl, by simp; omega⟩, HF1.out.app g1 g2 g3⟩
 clear g1 g2 g3 g4 hr1 hs1 HB1 HF1 HF HC hc0 t1
 have HF1 := HG1
 clear HG1
 have hl2 : L1.length ≤ 2010 := HL1.out.2
 have hr := (HF1.out.alloc (.cells #[.int .u8 46] TB)).row
 have hs := (show Bs (w1.alloc (.cells #[.int .u8 46] TB)) (.slice (some ⟨w1.heap.size, 0, none⟩) 1 1) [46] from Bs.byte w1 46).src
 have HB : Hid (L1.length + [(46 : UInt8)].length ≤ 140737488355328) := show L1.length + [(46 : UInt8)].length ≤ 140737488355328 by simp; omega
 go_wp2_with (at_builtin; refine wp_app rfl (.tmp 93) (.tmp 94) 33 33 rfl underS _ L1 rfl hr _ [46] rfl hs HB.out ?_)
 intro v2 w2 g1 g2 g3 g4
 obtain ⟨L2, HL2, HF2⟩ : ∃ L, Hid (L = L1 ++ [46] ∧ L.length ≤ 3020) ∧ Hid (Fm w0 w2 v2 L b cap D) := ⟨_, ⟨rfl, by simp; omega⟩, (HF1.out.alloc _).app g1 g2 g3⟩
 clear g1 g2 g3 g4 hr hs HB HF1
 have hl3 : L2.length ≤ 3020 := HL2.out.2
 have hcap : D.length ≤ cap := by
  obtain ⟨ao, cp, he, hb1, _, _, _⟩ := HF2.out.bs.ex
  simp at he
  omega
 have u1 : nd ≤ cap := by omega
 have u2 : ¬ cap = 1 := by omega
 have hr := HF2.out.row
 have hs : Src Tryz.prog 1 33 (.slice (some ⟨b, 1, none⟩) (nd - 1) (cap - 1)) ((D.take nd).drop 1).length (bv ((D.take nd).drop 1)) w2 := by
  have h1 := Bs.take nd hn2 HF2.out.bs
  have h2 : (D.take nd).length = nd := by simp; omega
  have h3 := Bs.drop (b := b) (o := 0) (l := D.take nd) (cap := cap) 1 (by omega) (by rw [h2]; exact h1)
  rw [h2] at h3
  exact h3.src
 have hlr : ((D.take nd).drop 1).length = nd - 1 := by simp; omega
 have HB : Hid (L2.length + ((D.take nd).drop 1).length ≤ 140737488355328) := show L2.length + ((D.take nd).drop 1).length ≤ 140737488355328 by omega
 have HD : Hid (((D.take nd).drop 1).length ≤ 1000) := show ((D.take nd).drop 1).length ≤ 1000 by omega
 clear hlr
 generalize hEE : (D.take nd).drop 1 = E at *
 have HEE : Hid ((D.take nd).drop 1 = E) := hEE
 clear hEE
 go_wp2_with (at_builtin; refine wp_app rfl (.tmp 103) (.tmp 107) 33 33 rfl underS _ L2 rfl hr _ E rfl hs HB.out ?_)
 intro v3 w3 g1 g2 g3 g4
 have hE : E.length ≤ 1000 := HD.out
 obtain ⟨L3, HL3, HF3⟩ : ∃ L, Hid (L = L2 ++ E ∧ L.length ≤ 4030) ∧ Hid (Fm w0 w3 v3 L b cap D) := ⟨_, ⟨rfl, by simp; omega⟩, HF2.out.app g1 g2 g3⟩
 clear g1 g2 g3 g4 hr hs HB HF2 u1 u2
 go_wp2
 refine wp_loop_rounds 1 ?_
 rw [rounds_succ]
 have hl4 : L3.length ≤ 4030 := HL3.out.2
 have hr := (HF3.out.alloc (.cells #[.int .u8 101] TB)).row
 have hs := (show Bs (w3.alloc (.cells #[.int .u8 101] TB)) (.slice (some ⟨w3.heap.size, 0, none⟩) 1 1) [101] from Bs.byte w3 101).src
 have HB : Hid (L3.length + [(101 : UInt8)].length ≤ 140737488355328) := show L3.length + [(101 : UInt8)].length ≤ 140737488355328 by simp; omega
 go_wp2_with (at_builtin; refine wp_app rfl (.tmp 120) (.tmp 122) 33 33 rfl underS _ L3 rfl hr _ [101] rfl hs HB.out ?_)
 intro v4 w4 g1 g2 g3 g4
 obtain ⟨L4, HL4, HF4⟩ : ∃ L, Hid (L = L3 ++ [101] ∧ L.length ≤ 5040) ∧ Hid (Fm w0 w4 v4 L b cap D) := ⟨_, ⟨rfl, by simp; omega⟩, (HF3.out.alloc _).app g1 g2 g3⟩
 clear g1 g2 g3 g4 hr hs HB HF3
 have hl5 : L4.length ≤ 5040 := HL4.out.2
 have hr := (HF4.out.alloc (.cells #[.int .u8 43] TB)).row
 have hs := (show Bs (w4.alloc (.cells #[.int .u8 43] TB)) (.slice (some ⟨w4.heap.size, 0, none⟩) 1 1) [43] from Bs.byte w4 43).src
 have HB : Hid (L4.length + [(43 : UInt8)].length ≤ 140737488355328) := show L4.length + [(43 : UInt8)].length ≤ 140737488355328 by simp; omega
 go_wp2_with (at_builtin; refine wp_app rfl (.tmp 132) (.tmp 134) 33 33 rfl underS _ L4 rfl hr _ [43] rfl hs HB.out ?_)
 intro v5 w5 g1 g2 g3 g4
 obtain ⟨L5, HL5, HF5⟩ : ∃ L, Hid (L = L4 ++ [43] ∧ L.length ≤ 6050) ∧ Hid (Fm w0 w5 v5 L b cap D) := ⟨_, ⟨rfl, by simp; omega⟩, (HF4.out.alloc _).app g1 g2 g3⟩
 clear g1 g2 g3 g4 hr hs HB HF4
 have hl6 : L5.length ≤ 6050 := HL5.out.2
 obtain ⟨y, HY⟩ : ∃ y, Hid (y = UInt8.ofNat (48 + x)) := ⟨_, rfl⟩
 have hy : (y.toNat : Int) = (x : Int) + 48 := by
  rw [HY.out]
  simp [UInt8.toNat_ofNat]; omega
 have hr := (HF5.out.alloc (.cells #[.int .u8 48, .int .u8 ((x : Int) + 48)] TB)).row
 have hs : Src Tryz.prog 1 33 (.slice (some ⟨w5.heap.size, 0, none⟩) 2 2) 2 (bv [48, y]) (w5.alloc (.cells #[.int .u8 48, .int .u8 ((x : Int) + 48)] TB)) := by
  have := (Bs.two w5 48 y).src
  rw [hy] at this
  exact this
 have HB : Hid (L5.length + [(48 : UInt8), y].length ≤ 140737488355328) := show L5.length + [(48 : UInt8), y].length ≤ 140737488355328 by simp; omega
 clear hy
 go_wp2_with (at_builtin; refine wp_app rfl (.tmp 155) (.tmp 159) 33 33 rfl underS _ L5 rfl hr _ [48, y] rfl hs HB.out ?_)
 intro v6 w6 g1 g2 g3 g4
 have HF6 : Hid (Fm w0 w6 v6 (L5 ++ [48, y]) b cap D) := (HF5.out.alloc _).app g1 g2 g3
 clear g1 g2 g3 g4 hr hs HB HF5
 go_wp2
 go_ret
 refine ⟨_, rfl, ?_⟩
 have e := HF6.out
 rw [HY.out, HL5.out.1, HL4.out.1, HL3.out.1, HL2.out.1, HL1.out.1] at e
 rw [HEE.out]
 exact e
set_option maxRecDepth 1000000 in
set_option maxHeartbeats 4000000 in
theorem fmtE_fpt (w0 w : World) (v : Value) (l : List UInt8) (b cap : Nat) (D : List UInt8) (nd x : Nat) (hF : Fm w0 w v l b cap D) (hl : l.length ≤ 1000) (hD : D.length ≤ 1000) (hn1 : 2 ≤ nd) (hn2 : nd ≤ D.length) (hc : cap ≤ 1000) (hx : 10 ≤ x ∧ x < 100) :
  Calls Tryz.prog 185 #[v, .bool false, .slice (some ⟨b, 0, none⟩) D.length cap, .int .i64 ((x : Int) + 1), .int .i64 nd, .int .i64 ((nd : Int) - 1), .int .u8 101, .bool true] w fun e w' =>
   ∃ v', e = .returned v' ∧ Fm w0 w' v' (l ++ [D.getD 0 0] ++ [46] ++ (D.take nd).drop 1 ++ [101] ++ [43] ++ [UInt8.ofNat (48 + x / 10), UInt8.ofNat (48 + x % 10)]) b cap D := by
 have h0 : 0 < D.length := by omega
 obtain ⟨ao, cp, he, hb1, hb2, hb3, hb4⟩ := hF.bs.ex
 obtain ⟨b', o', hbo, hcell⟩ := hb4 hF.ne
 simp at he
 obtain ⟨rfl, rfl⟩ := he
 simp at hbo
 obtain ⟨rfl, rfl⟩ := hbo
 have hc0 := hcell 0 h0
 rw [Nat.add_zero] at hc0
 clear hb1 hb2 hb3 hb4
 have HC : Hid (∀ j, j < D.length → w.cell? ⟨b, 0 + j, none⟩ = some (.int .u8 ((D.getD j 0).toNat : Int))) := hcell
 clear hcell
 generalize hx0 : D.getD 0 0 = x0 at *
 have HF : Hid (Fm w0 w v l b cap D) := hF
 have hF1 := hF.alloc (.cells #[.int .u8 (x0.toNat : Int)] TB)
 have hr1 := hF1.row
 have hs1 := (Bs.byte w x0).src
 have HB1 : Hid (l.length + [x0].length ≤ 140737488355328) := show l.length + [x0].length ≤ 140737488355328 by simp; omega
 have HF1 : Hid (Fm w0 (w.alloc (.cells #[.int .u8 (x0.toNat : Int)] TB)) v l b cap D) := hF1
 have t1 : ((nd : Int) != 0) = true := by simp; omega
 have t2 : (0 : Int) < (nd : Int) - 1 := by omega
 have hDi : (0 : Int) < (D.length : Int) := by omega
 have hxi : (0 : Int) ≤ (x : Int) ∧ (x : Int) < 100 := by omega
 have hq2 : decide ((x : Int) < 0) = false := decide_eq_false (by omega)
 have hq5 : decide ((x : Int) < 10) = false := decide_eq_false (by omega)
 have hq6 : decide ((x : Int) < 100) = true := decide_eq_true (by omega)
 have hq7 : (x : Int).tdiv 10 = ((x / 10 : Nat) : Int) := by rw [Int.tdiv_eq_ediv_of_nonneg (by omega)]; rfl
 have hq8 : (x : Int).tmod 10 = ((x % 10 : Nat) : Int) := by rw [Int.tmod_eq_emod_of_nonneg (by omega)]; rfl
 have hxd : x / 10 < 10 := by omega
 have hxm : x % 10 < 10 := by omega
 clear hF hF1
 go_enter Tryz.func185, Tryz.ntmps185
 go_wp2_with (at_builtin; refine wp_app rfl (.tmp 87) (.tmp 89) 33 33 rfl underS _ l rfl hr1 _ [x0] rfl hs1 HB1.out ?_)
 intro v1 w1 g1 g2 g3 g4
 obtain ⟨L1, HL1, HG1⟩ : ∃ L, Hid (L = l ++ [x0] ∧ L.length ≤ 2010) ∧ Hid (Fm w0 w1 v1 L b cap D) := ⟨_, ⟨rfl, by simp; omega⟩, HF1.out.app g1 g2 g3⟩
 clear g1 g2 g3 g4 hr1 hs1 HB1 HF1 HF HC hc0 t1
 have HF1 := HG1
 clear HG1
 have hl2 : L1.length ≤ 2010 := HL1.out.2
 have hr := (HF1.out.alloc (.cells #[.int .u8 46] TB)).row
 have hs := (show Bs (w1.alloc (.cells #[.int .u8 46] TB)) (.slice (some ⟨w1.heap.size, 0, none⟩) 1 1) [46] from Bs.byte w1 46).src
 have HB : Hid (L1.length + [(46 : UInt8)].length ≤ 140737488355328) := show L1.length + [(46 : UInt8)].length ≤ 140737488355328 by simp; omega
 go_wp2_with (at_builtin; refine wp_app rfl (.tmp 93) (.tmp 94) 33 33 rfl underS _ L1 rfl hr _ [46] rfl hs HB.out ?_)
 intro v2 w2 g1 g2 g3 g4
 obtain ⟨L2, HL2, HF2⟩ : ∃ L, Hid (L = L1 ++ [46] ∧ L.length ≤ 3020) ∧ Hid (Fm w0 w2 v2 L b cap D) := ⟨_, ⟨rfl, by simp; omega⟩, (HF1.out.alloc _).app g1 g2 g3⟩
 clear g1 g2 g3 g4 hr hs HB HF1
 have hl3 : L2.length ≤ 3020 := HL2.out.2
 have hcap : D.length ≤ cap := by
  obtain ⟨ao, cp, he, hb1, _, _, _⟩ := HF2.out.bs.ex
  simp at he
  omega
 have u1 : nd ≤ cap := by omega
 have u2 : ¬ cap = 1 := by omega
 have hr := HF2.out.row
 have hs : Src Tryz.prog 1 33 (.slice (some ⟨b, 1, none⟩) (nd - 1) (cap - 1)) ((D.take nd).drop 1).length (bv ((D.take nd).drop 1)) w2 := by
  have h1 := Bs.take nd hn2 HF2.out.bs
  have h2 : (D.take nd).length = nd := by simp; omega
  have h3 := Bs.drop (b := b) (o := 0) (l := D.take nd) (cap := cap) 1 (by omega) (by rw [h2]; exact h1)
  rw [h2] at h3
  exact h3.src
 have hlr : ((D.take nd).drop 1).length = nd - 1 := by simp; omega
 have HB : Hid (L2.length + ((D.take nd).drop 1).length ≤ 140737488355328) := show L2.length + ((D.take nd).drop 1).length ≤ 140737488355328 by omega
 have HD : Hid (((D.take nd).drop 1).length ≤ 1000) := show ((D.take nd).drop 1).length ≤ 1000 by omega
 clear hlr
 generalize hEE : (D.take nd).drop 1 = E at *
 have HEE : Hid ((D.take nd).drop 1 = E) := hEE
 clear hEE
 go_wp2_with (at_builtin; refine wp_app rfl (.tmp 103) (.tmp 107) 33 33 rfl underS _ L2 rfl hr _ E rfl hs HB.out ?_)
 intro v3 w3 g1 g2 g3 g4
 have hE : E.length ≤ 1000 := HD.out
 obtain ⟨L3, HL3, HF3⟩ : ∃ L, Hid (L = L2 ++ E ∧ L.length ≤ 4030) ∧ Hid (Fm w0 w3 v3 L b cap D) := ⟨_, ⟨rfl, by simp; omega⟩, HF2.out.app g1 g2 g3⟩
 clear g1 g2 g3 g4 hr hs HB HF2 u1 u2
 go_wp2
 refine wp_loop_rounds 1 ?_
 rw [rounds_succ]
 have hl4 : L3.length ≤ 4030 := HL3.out.2
 have hr := (HF3.out.alloc (.cells #[.int .u8 101] TB)).row
 have hs := (show Bs (w3.alloc (.cells #[.int .u8 101] TB)) (.slice (some ⟨w3.heap.size, 0, none⟩) 1 1) [101] from Bs.byte w3 101).src
 have HB : Hid (L3.length + [(101 : UInt8)].length ≤ 140737488355328) := show L3.length + [(101 : UInt8)].length ≤ 140737488355328 by simp; omega
 go_wp2_with (at_builtin; refine wp_app rfl (.tmp 120) (.tmp 122) 33 33 rfl underS _ L3 rfl hr _ [101] rfl hs HB.out ?_)
 intro v4 w4 g1 g2 g3 g4
 obtain ⟨L4, HL4, HF4⟩ : ∃ L, Hid (L = L3 ++ [101] ∧ L.length ≤ 5040) ∧ Hid (Fm w0 w4 v4 L b cap D) := ⟨_, ⟨rfl, by simp; omega⟩, (HF3.out.alloc _).app g1 g2 g3⟩
 clear g1 g2 g3 g4 hr hs HB HF3
 have hl5 : L4.length ≤ 5040 := HL4.out.2
 have hr := (HF4.out.alloc (.cells #[.int .u8 43] TB)).row
 have hs := (show Bs (w4.alloc (.cells #[.int .u8 43] TB)) (.slice (some ⟨w4.heap.size, 0, none⟩) 1 1) [43] from Bs.byte w4 43).src
 have HB : Hid (L4.length + [(43 : UInt8)].length ≤ 140737488355328) := show L4.length + [(43 : UInt8)].length ≤ 140737488355328 by simp; omega
 go_wp2_with (at_builtin; refine wp_app rfl (.tmp 132) (.tmp 134) 33 33 rfl underS _ L4 rfl hr _ [43] rfl hs HB.out ?_)
 intro v5 w5 g1 g2 g3 g4
 obtain ⟨L5, HL5, HF5⟩ : ∃ L, Hid (L = L4 ++ [43] ∧ L.length ≤ 6050) ∧ Hid (Fm w0 w5 v5 L b cap D) := ⟨_, ⟨rfl, by simp; omega⟩, (HF4.out.alloc _).app g1 g2 g3⟩
 clear g1 g2 g3 g4 hr hs HB HF4
 have hl6 : L5.length ≤ 6050 := HL5.out.2
 obtain ⟨y, HY⟩ : ∃ y, Hid (y = UInt8.ofNat (48 + x / 10)) := ⟨_, rfl⟩
 obtain ⟨y2, HY2⟩ : ∃ y, Hid (y = UInt8.ofNat (48 + x % 10)) := ⟨_, rfl⟩
 have hy : (y.toNat : Int) = ((x / 10 : Nat) : Int) + 48 := by
  rw [HY.out]
  simp [UInt8.toNat_ofNat]; omega
 have hy2 : (y2.toNat : Int) = ((x % 10 : Nat) : Int) + 48 := by
  rw [HY2.out]
  simp [UInt8.toNat_ofNat]; omega
 generalize hga : x / 10 = xa at *
 generalize hgb : x % 10 = xb at *
 have HGA : Hid (x / 10 = xa ∧ x % 10 = xb) := ⟨hga, hgb⟩
 clear hga hgb
 have hxa : (0 : Int) ≤ (xa : Int) ∧ (xa : Int) < 10 := by omega
 have hxb : (0 : Int) ≤ (xb : Int) ∧ (xb : Int) < 10 := by omega
 have hr := (HF5.out.alloc (.cells #[.int .u8 ((xa : Int) + 48), .int .u8 ((xb : Int) + 48)] TB)).row
 have hs : Src Tryz.prog 1 33 (.slice (some ⟨w5.heap.size, 0, none⟩) 2 2) 2 (bv [y, y2]) (w5.alloc (.cells #[.int .u8 ((xa : Int) + 48), .int .u8 ((xb : Int) + 48)] TB)) := by
  have := (Bs.two w5 y y2).src
  rw [hy, hy2] at this
  exact this
 have HB : Hid (L5.length + [y, y2].length ≤ 140737488355328) := show L5.length + [y, y2].length ≤ 140737488355328 by simp; omega
 clear hy hy2
 go_wp2_with (at_builtin; refine wp_app rfl (.tmp 164) (.tmp 173) 33 33 rfl underS _ L5 rfl hr _ [y, y2] rfl hs HB.out ?_)
 intro v6 w6 g1 g2 g3 g4
 have HF6 : Hid (Fm w0 w6 v6 (L5 ++ [y, y2]) b cap D) := (HF5.out.alloc _).app g1 g2 g3
 clear g1 g2 g3 g4 hr hs HB HF5
 go_wp2
 go_ret
 refine ⟨_, rfl, ?_⟩
 have e := HF6.out
 rw [HY.out, HY2.out, HL5.out.1, HL4.out.1, HL3.out.1, HL2.out.1, HL1.out.1] at e
 rw [HEE.out]
 rw [HGA.out.1, HGA.out.2]
 exact e
set_option maxRecDepth 1000000 in
set_option maxHeartbeats 4000000 in
theorem fmtE_fno (w0 w : World) (v : Value) (l : List UInt8) (b cap : Nat) (D : List UInt8) (nd x : Nat) (hF : Fm w0 w v l b cap D) (hl : l.length ≤ 1000) (hD : D.length ≤ 1000) (hn1 : 2 ≤ nd) (hn2 : nd ≤ D.length) (hc : cap ≤ 1000) (hx : 1 ≤ x ∧ x < 10) :
  Calls Tryz.prog 185 #[v, .bool false, .slice (some ⟨b, 0, none⟩) D.length cap, .int .i64 (1 - (x : Int)), .int .i64 nd, .int .i64 ((nd : Int) - 1), .int .u8 101, .bool true] w fun e w' =>
   ∃ v', e = .returned v' ∧ Fm w0 w' v' (l ++ [D.getD 0 0] ++ [46] ++ (D.take nd).drop 1 ++ [101] ++ [45] ++ [48, UInt8.ofNat (48 + x)]) b cap D := by
 have h0 : 0 < D.length := by omega
 obtain ⟨ao, cp, he, hb1, hb2, hb3, hb4⟩ := hF.bs.ex
 obtain ⟨b', o', hbo, hcell⟩ := hb4 hF.ne
 simp at he
 obtain ⟨rfl, rfl⟩ := he
 simp at hbo
 obtain ⟨rfl, rfl⟩ := hbo
 have hc0 := hcell 0 h0
 rw [Nat.add_zero] at hc0
 clear hb1 hb2 hb3 hb4
 have HC : Hid (∀ j, j < D.length → w.cell? ⟨b, 0 + j, none⟩ = some (.int .u8 ((D.getD j 0).toNat : Int))) := hcell
 clear hcell
 generalize hx0 : D.getD 0 0 = x0 at *
 have HF : Hid (Fm w0 w v l b cap D) := hF
 have hF1 := hF.alloc (.cells #[.int .u8 (x0.toNat : Int)] TB)
 have hr1 := hF1.row
 have hs1 := (Bs.byte w x0).src
 have HB1 : Hid (l.length + [x0].length ≤ 140737488355328) := show l.length + [x0].length ≤ 140737488355328 by simp; omega
 have HF1 : Hid (Fm w0 (w.alloc (.cells #[.int .u8 (x0.toNat : Int)] TB)) v l b cap D) := hF1
 have t1 : ((nd : Int) != 0) = true := by simp; omega
 have t2 : (0 : Int) < (nd : Int) - 1 := by omega
 have hDi : (0 : Int) < (D.length : Int) := by omega
 have hxi : (0 : Int) ≤ (x : Int) ∧ (x : Int) < 100 := by omega
 have hq1 : (1 : Int) - (x : Int) - 1 = -(x : Int) := by omega
 have hq2 : decide (-(x : Int) < 0) = true := decide_eq_true (by omega)
 have hq3 : (0 : Int) < (x : Int) := by omega
 have hq5 : decide ((x : Int) < 10) = true := decide_eq_true (by omega)
 clear hF hF1
 go_enter Tryz.func185, Tryz.ntmps185
 go_wp2_with (at_builtin; refine wp_app rfl (.tmp 87) (.tmp 89) 33 33 rfl underS _ l rfl hr1 _ [x0] rfl hs1 HB1.out ?_)
 intro v1 w1 g1 g2 g3 g4
 obtain ⟨L1, HL1, HG1⟩ : ∃ L, Hid (L = l ++ [x0] ∧ L.length ≤ 2010) ∧ Hid (Fm w0 w1 v1 L b cap D) := ⟨_, ⟨rfl, by simp; omega⟩, HF1.out.app g1 g2 g3⟩
 clear g1 g2 g3 g4 hr1 hs1 HB1 HF1 HF HC hc0 t1
 have HF1 := HG1
 clear HG1
 have hl2 : L1.length ≤ 2010 := HL1.out.2
 have hr := (HF1.out.alloc (.cells #[.int .u8 46] TB)).row
 have hs := (show Bs (w1.alloc (.cells #[.int .u8 46] TB)) (.slice (some ⟨w1.heap.size, 0, none⟩) 1 1) [46] from Bs.byte w1 46).src
 have HB : Hid (L1.length + [(46 : UInt8)].length ≤ 140737488355328) := show L1.length + [(46 : UInt8)].length ≤ 140737488355328 by simp; omega
 go_wp2_with (at_builtin; refine wp_app rfl (.tmp 93) (.tmp 94) 33 33 rfl underS _ L1 rfl hr _ [46] rfl hs HB.out ?_)
 intro v2 w2 g1 g2 g3 g4
 obtain ⟨L2, HL2, HF2⟩ : ∃ L, Hid (L = L1 ++ [46] ∧ L.length ≤ 3020) ∧ Hid (Fm w0 w2 v2 L b cap D) := ⟨_, ⟨rfl, by simp; omega⟩, (HF1.out.alloc _).app g1 g2 g3⟩
 clear g1 g2 g3 g4 hr hs HB HF1
 have hl3 : L2.length ≤ 3020 := HL2.out.2
 have hcap : D.length ≤ cap := by
  obtain ⟨ao, cp, he, hb1, _, _, _⟩ := HF2.out.bs.ex
  simp at he
  omega
 have u1 : nd ≤ cap := by omega
 have u2 : ¬ cap = 1 := by omega
 have hr := HF2.out.row
 have hs : Src Tryz.prog 1 33 (.slice (some ⟨b, 1, none⟩) (nd - 1) (cap - 1)) ((D.take nd).drop 1).length (bv ((D.take nd).drop 1)) w2 := by
  have h1 := Bs.take nd hn2 HF2.out.bs
  have h2 : (D.take nd).length = nd := by simp; omega
  have h3 := Bs.drop (b := b) (o := 0) (l := D.take nd) (cap := cap) 1 (by omega) (by rw [h2]; exact h1)
  rw [h2] at h3
  exact h3.src
 have hlr : ((D.take nd).drop 1).length = nd - 1 := by simp; omega
 have HB : Hid (L2.length + ((D.take nd).drop 1).length ≤ 140737488355328) := show L2.length + ((D.take nd).drop 1).length ≤ 140737488355328 by omega
 have HD : Hid (((D.take nd).drop 1).length ≤ 1000) := show ((D.take nd).drop 1).length ≤ 1000 by omega
 clear hlr
 generalize hEE : (D.take nd).drop 1 = E at *
 have HEE : Hid ((D.take nd).drop 1 = E) := hEE
 clear hEE
 go_wp2_with (at_builtin; refine wp_app rfl (.tmp 103) (.tmp 107) 33 33 rfl underS _ L2 rfl hr _ E rfl hs HB.out ?_)
 intro v3 w3 g1 g2 g3 g4
 have hE : E.length ≤ 1000 := HD.out
 obtain ⟨L3, HL3, HF3⟩ : ∃ L, Hid (L = L2 ++ E ∧ L.length ≤ 4030) ∧ Hid (Fm w0 w3 v3 L b cap D) := ⟨_, ⟨rfl, by simp; omega⟩, HF2.out.app g1 g2 g3⟩
 clear g1 g2 g3 g4 hr hs HB HF2 u1 u2
 go_wp2
 refine wp_loop_rounds 1 ?_
 rw [rounds_succ]
 have hl4 : L3.length ≤ 4030 := HL3.out.2
 have hr := (HF3.out.alloc (.cells #[.int .u8 101] TB)).row
 have hs := (show Bs (w3.alloc (.cells #[.int .u8 101] TB)) (.slice (some ⟨w3.heap.size, 0, none⟩) 1 1) [101] from Bs.byte w3 101).src
 have HB : Hid (L3.length + [(101 : UInt8)].length ≤ 140737488355328) := show L3.length + [(101 : UInt8)].length ≤ 140737488355328 by simp; omega
 go_wp2_with (at_builtin; refine wp_app rfl (.tmp 120) (.tmp 122) 33 33 rfl underS _ L3 rfl hr _ [101] rfl hs HB.out ?_)
 intro v4 w4 g1 g2 g3 g4
 obtain ⟨L4, HL4, HF4⟩ : ∃ L, Hid (L = L3 ++ [101] ∧ L.length ≤ 5040) ∧ Hid (Fm w0 w4 v4 L b cap D) := ⟨_, ⟨rfl, by simp; omega⟩, (HF3.out.alloc _).app g1 g2 g3⟩
 clear g1 g2 g3 g4 hr hs HB HF3
 have hl5 : L4.length ≤ 5040 := HL4.out.2
 have hr := (HF4.out.alloc (.cells #[.int .u8 45] TB)).row
 have hs := (show Bs (w4.alloc (.cells #[.int .u8 45] TB)) (.slice (some ⟨w4.heap.size, 0, none⟩) 1 1) [45] from Bs.byte w4 45).src
 have HB : Hid (L4.length + [(45 : UInt8)].length ≤ 140737488355328) := show L4.length + [(45 : UInt8)].length ≤ 140737488355328 by simp; omega
 go_wp2_with (at_builtin; refine wp_app rfl (.tmp 132) (.tmp 134) 33 33 rfl underS _ L4 rfl hr _ [45] rfl hs HB.out ?_)
 intro v5 w5 g1 g2 g3 g4
 obtain ⟨L5, HL5, HF5⟩ : ∃ L, Hid (L = L4 ++ [45] ∧ L.length ≤ 6050) ∧ Hid (Fm w0 w5 v5 L b cap D) := ⟨_, ⟨rfl, by simp; omega⟩, (HF4.out.alloc _).app g1 g2 g3⟩
 clear g1 g2 g3 g4 hr hs HB HF4
 have hl6 : L5.length ≤ 6050 := HL5.out.2
 obtain ⟨y, HY⟩ : ∃ y, Hid (y = UInt8.ofNat (48 + x)) := ⟨_, rfl⟩
 have hy : (y.toNat : Int) = (x : Int) + 48 := by
  rw [HY.out]
  simp [UInt8.toNat_ofNat]; omega
 have hr := (HF5.out.alloc (.cells #[.int .u8 48, .int .u8 ((x : Int) + 48)] TB)).row
 have hs : Src Tryz.prog 1 33 (.slice (some ⟨w5.heap.size, 0, none⟩) 2 2) 2 (bv [48, y]) (w5.alloc (.cells #[.int .u8 48, .int .u8 ((x : Int) + 48)] TB)) := by
  have := (Bs.two w5 48 y).src
  rw [hy] at this
  exact this
 have HB : Hid (L5.length + [(48 : UInt8), y].length ≤ 140737488355328) := show L5.length + [(48 : UInt8), y].length ≤ 140737488355328 by simp; omega
 clear hy
 go_wp2_with (at_builtin; refine wp_app rfl (.tmp 155) (.tmp 159) 33 33 rfl underS _ L5 rfl hr _ [48, y] rfl hs HB.out ?_)
 intro v6 w6 g1 g2 g3 g4
 have HF6 : Hid (Fm w0 w6 v6 (L5 ++ [48, y]) b cap D) := (HF5.out.alloc _).app g1 g2 g3
 clear g1 g2 g3 g4 hr hs HB HF5
 go_wp2
 go_ret
 refine ⟨_, rfl, ?_⟩
 have e := HF6.out
 rw [HY.out, HL5.out.1, HL4.out.1, HL3.out.1, HL2.out.1, HL1.out.1] at e
 rw [HEE.out]
 exact e
set_option maxRecDepth 1000000 in
set_option maxHeartbeats 4000000 in
theorem fmtE_fnt (w0 w : World) (v : Value) (l : List UInt8) (b cap : Nat) (D : List UInt8) (nd x : Nat) (hF : Fm w0 w v l b cap D) (hl : l.length ≤ 1000) (hD : D.length ≤ 1000) (hn1 : 2 ≤ nd) (hn2 : nd ≤ D.length) (hc : cap ≤ 1000) (hx : 10 ≤ x ∧ x < 100) :
  Calls Tryz.prog 185 #[v, .bool false, .slice (some ⟨b, 0, none⟩) D.length cap, .int .i64 (1 - (x : Int)), .int .i64 nd, .int .i64 ((nd : Int) - 1), .int .u8 101, .bool true] w fun e w' =>
   ∃ v', e = .returned v' ∧ Fm w0 w' v' (l ++ [D.getD 0 0] ++ [46] ++ (D.take nd).drop 1 ++ [101] ++ [45] ++ [UInt8.ofNat (48 + x / 10), UInt8.ofNat (48 + x % 10)]) b cap D := by
 have h0 : 0 < D.length := by omega
 obtain ⟨ao, cp, he, hb1, hb2, hb3, hb4⟩ := hF.bs.ex
 obtain ⟨b', o', hbo, hcell⟩ := hb4 hF.ne
 simp at he
 obtain ⟨rfl, rfl⟩ := he
 simp at hbo
 obtain ⟨rfl, rfl⟩ := hbo
 have hc0 := hcell 0 h0
 rw [Nat.add_zero] at hc0
 clear hb1 hb2 hb3 hb4
 have HC : Hid (∀ j, j < D.length → w.cell? ⟨b, 0 + j, none⟩ = some (.int .u8 ((D.getD j 0).toNat : Int))) := hcell
 clear hcell
 generalize hx0 : D.getD 0 0 = x0 at *
 have HF : Hid (Fm w0 w v l b cap D) := hF
 have hF1 := hF.alloc (.cells #[.int .u8 (x0.toNat : Int)] TB)
 have hr1 := hF1.row
 have hs1 := (Bs.byte w x0).src
 have HB1 : Hid (l.length + [x0].length ≤ 140737488355328) := show l.length + [x0].length ≤ 140737488355328 by simp; omega
 have HF1 : Hid (Fm w0 (w.alloc (.cells #[.int .u8 (x0.toNat : Int)] TB)) v l b cap D) := hF1
 have t1 : ((nd : Int) != 0) = true := by simp; omega
 have t2 : (0 : Int) < (nd : Int) - 1 := by omega
 have hDi : (0 : Int) < (D.length : Int) := by omega
 have hxi : (0 : Int) ≤ (x : Int) ∧ (x : Int) < 100 := by omega
 have hq1 : (1 : Int) - (x : Int) - 1 = -(x : Int) := by omega
 have hq2 : decide (-(x : Int) < 0) = true := decide_eq_true (by omega)
 have hq3 : (0 : Int) < (x : Int) := by omega
 have hq5 : decide ((x : Int) < 10) = false := decide_eq_false (by omega)
 have hq6 : decide ((x : Int) < 100) = true := decide_eq_true (by omega)
 have hq7 : (x : Int).tdiv 10 = ((x / 10 : Nat) : Int) := by rw [Int.tdiv_eq_ediv_of_nonneg (by omega)]; rfl
 have hq8 : (x : Int).tmod 10 = ((x % 10 : Nat) : Int) := by rw [Int.tmod_eq_emod_of_nonneg (by omega)]; rfl
 have hxd : x / 10 < 10 := by omega
 have hxm : x % 10 < 10 := by omega
 clear hF hF1
 go_enter Tryz.func185, Tryz.ntmps185
 go_wp2_with (at_builtin; refine wp_app rfl (.tmp 87) (.tmp 89) 33 33 rfl underS _ l rfl hr1 _ [x0] rfl hs1 HB1.out ?_)
 intro v1 w1 g1 g2 g3 g4
 obtain ⟨L1, HL1, HG1⟩ : ∃ L, Hid (L = l ++ [x0] ∧ L.length ≤ 2010) ∧ Hid (Fm w0 w1 v1 L b cap D) := ⟨_, ⟨rfl, by simp; omega⟩, HF1.out.app g1 g2 g3⟩
 clear g1 g2 g3 g4 hr1 hs1 HB1 HF1 HF HC hc0 t1
 have HF1 := HG1
 clear HG1
 have hl2 : L1.length ≤ 2010 := HL1.out.2
 have hr := (HF1.out.alloc (.cells #[.int .u8 46] TB)).row
 have hs := (show Bs (w1.alloc (.cells #[.int .u8 46] TB)) (.slice (some ⟨w1.heap.size, 0, none⟩) 1 1) [46] from Bs.byte w1 46).src
 have HB : Hid (L1.length + [(46 : UInt8)].length ≤ 140737488355328) := show L1.length + [(46 : UInt8)].length ≤ 140737488355328 by simp; omega
 go_wp2_with (at_builtin; refine wp_app rfl (.tmp 93) (.tmp 94) 33 33 rfl underS _ L1 rfl hr _ [46] rfl hs HB.out ?_)
 intro v2 w2 g1 g2 g3 g4
 obtain ⟨L2, HL2, HF2⟩ : ∃ L, Hid (L = L1 ++ [46] ∧ L.length ≤ 3020) ∧ Hid (Fm w0 w2 v2 L b cap D) := ⟨_, ⟨rfl, by simp; omega⟩, (HF1.out.alloc _).app g1 g2 g3⟩
 clear g1 g2 g3 g4 hr hs HB HF1
 have hl3 : L2.length ≤ 3020 := HL2.out.2
 have hcap : D.length ≤ cap := by
  obtain ⟨ao, cp, he, hb1, _, _, _⟩ := HF2.out.bs.ex
  simp at he
  omega
 have u1 : nd ≤ cap := by omega
 have u2 : ¬ cap = 1 := by omega
 have hr := HF2.out.row
 have hs : Src Tryz.prog 1 33 (.slice (some ⟨b, 1, none⟩) (nd - 1) (cap - 1)) ((D.take nd).drop 1).length (bv ((D.take nd).drop 1)) w2 := by
  have h1 := Bs.take nd hn2 HF2.out.bs
  have h2 : (D.take nd).length = nd := by simp; omega
  have h3 := Bs.drop (b := b) (o := 0) (l := D.take nd) (cap := cap) 1 (by omega) (by rw [h2]; exact h1)
  rw [h2] at h3
  exact h3.src
 have hlr : ((D.take nd).drop 1).length = nd - 1 := by simp; omega
 have HB : Hid (L2.length + ((D.take nd).drop 1).length ≤ 140737488355328) := show L2.length + ((D.take nd).drop 1).length ≤ 140737488355328 by omega
 have HD : Hid (((D.take nd).drop 1).length ≤ 1000) := show ((D.take nd).drop 1).length ≤ 1000 by omega
 clear hlr
 generalize hEE : (D.take nd).drop 1 = E at *
 have HEE : Hid ((D.take nd).drop 1 = E) := hEE
 clear hEE
 go_wp2_with (at_builtin; refine wp_app rfl (.tmp 103) (.tmp 107) 33 33 rfl underS _ L2 rfl hr _ E rfl hs HB.out ?_)
 intro v3 w3 g1 g2 g3 g4
 have hE : E.length ≤ 1000 := HD.out
 obtain ⟨L3, HL3, HF3⟩ : ∃ L, Hid (L = L2 ++ E ∧ L.length ≤ 4030) ∧ Hid (Fm w0 w3 v3 L b cap D) := ⟨_, ⟨rfl, by simp; omega⟩, HF2.out.app g1 g2 g3⟩
 clear g1 g2 g3 g4 hr hs HB HF2 u1 u2
 go_wp2
 refine wp_loop_rounds 1 ?_
 rw [rounds_succ]
 have hl4 : L3.length ≤ 4030 := HL3.out.2
 have hr := (HF3.out.alloc (.cells #[.int .u8 101] TB)).row
 have hs := (show Bs (w3.alloc (.cells #[.int .u8 101] TB)) (.slice (some ⟨w3.heap.size, 0, none⟩) 1 1) [101] from Bs.byte w3 101).src
 have HB : Hid (L3.length + [(101 : UInt8)].length ≤ 140737488355328) := show L3.length + [(101 : UInt8)].length ≤ 140737488355328 by simp; omega
 go_wp2_with (at_builtin; refine wp_app rfl (.tmp 120) (.tmp 122) 33 33 rfl underS _ L3 rfl hr _ [101] rfl hs HB.out ?_)
 intro v4 w4 g1 g2 g3 g4
 obtain ⟨L4, HL4, HF4⟩ : ∃ L, Hid (L = L3 ++ [101] ∧ L.length ≤ 5040) ∧ Hid (Fm w0 w4 v4 L b cap D) := ⟨_, ⟨rfl, by simp; omega⟩, (HF3.out.alloc _).app g1 g2 g3⟩
 clear g1 g2 g3 g4 hr hs HB HF3
 have hl5 : L4.length ≤ 5040 := HL4.out.2
 have hr := (HF4.out.alloc (.cells #[.int .u8 45] TB)).row
 have hs := (show Bs (w4.alloc (.cells #[.int .u8 45] TB)) (.slice (some ⟨w4.heap.size, 0, none⟩) 1 1) [45] from Bs.byte w4 45).src
 have HB : Hid (L4.length + [(45 : UInt8)].length ≤ 140737488355328) := show L4.length + [(45 : UInt8)].length ≤ 140737488355328 by simp; omega
 go_wp2_with (at_builtin; refine wp_app rfl (.tmp 132) (.tmp 134) 33 33 rfl underS _ L4 rfl hr _ [45] rfl hs HB.out ?_)
 intro v5 w5 g1 g2 g3 g4
 obtain ⟨L5, HL5, HF5⟩ : ∃ L, Hid (L = L4 ++ [45] ∧ L.length ≤ 6050) ∧ Hid (Fm w0 w5 v5 L b cap D) := ⟨_, ⟨rfl, by simp; omega⟩, (HF4.out.alloc _).app g1 g2 g3⟩
 clear g1 g2 g3 g4 hr hs HB HF4
 have hl6 : L5.length ≤ 6050 := HL5.out.2
 obtain ⟨y, HY⟩ : ∃ y, Hid (y = UInt8.ofNat (48 + x / 10)) := ⟨_, rfl⟩
 obtain ⟨y2, HY2⟩ : ∃ y, Hid (y = UInt8.ofNat (48 + x % 10)) := ⟨_, rfl⟩
 have hy : (y.toNat : Int) = ((x / 10 : Nat) : Int) + 48 := by
  rw [HY.out]
  simp [UInt8.toNat_ofNat]; omega
 have hy2 : (y2.toNat : Int) = ((x % 10 : Nat) : Int) + 48 := by
  rw [HY2.out]
  simp [UInt8.toNat_ofNat]; omega
 generalize hga : x / 10 = xa at *
 generalize hgb : x % 10 = xb at *
 have HGA : Hid (x / 10 = xa ∧ x % 10 = xb) := ⟨hga, hgb⟩
 clear hga hgb
 have hxa : (0 : Int) ≤ (xa : Int) ∧ (xa : Int) < 10 := by omega
 have hxb : (0 : Int) ≤ (xb : Int) ∧ (xb : Int) < 10 := by omega
 have hr := (HF5.out.alloc (.cells #[.int .u8 ((xa : Int) + 48), .int .u8 ((xb : Int) + 48)] TB)).row
 have hs : Src Tryz.prog 1 33 (.slice (some ⟨w5.heap.size, 0, none⟩) 2 2) 2 (bv [y, y2]) (w5.alloc (.cells #[.int .u8 ((xa : Int) + 48), .int .u8 ((xb : Int) + 48)] TB)) := by
  have := (Bs.two w5 y y2).src
  rw [hy, hy2] at this
  exact this
 have HB : Hid (L5.length + [y, y2].length ≤ 140737488355328) := show L5.length + [y, y2].length ≤ 140737488355328 by simp; omega
 clear hy hy2
 go_wp2_with (at_builtin; refine wp_app rfl (.tmp 164) (.tmp 173) 33 33 rfl underS _ L5 rfl hr _ [y, y2] rfl hs HB.out ?_)
 intro v6 w6 g1 g2 g3 g4
 have HF6 : Hid (Fm w0 w6 v6 (L5 ++ [y, y2]) b cap D) := (HF5.out.alloc _).app g1 g2 g3
 clear g1 g2 g3 g4 hr hs HB HF5
 go_wp2
 go_ret
 refine ⟨_, rfl, ?_⟩
 have e := HF6.out
 rw [HY.out, HY2.out, HL5.out.1, HL4.out.1, HL3.out.1, HL2.out.1, HL1.out.1] at e
 rw [HEE.out]
 rw [HGA.out.1, HGA.out.2]
 exact e
set_option maxRecDepth 1000000 in
set_option maxHeartbeats 4000000 in
theorem fmtE_ipo (w0 w : World) (v : Value) (l : List UInt8) (b cap : Nat) (D : List UInt8) (x : Nat) (hF : Fm w0 w v l b cap D) (hl : l.length ≤ 1000) (hD : D.length ≤ 1000) (hn2 : 1 ≤ D.length) (hx : x < 10) :
  Calls Tryz.prog 185 #[v, .bool false, .slice (some ⟨b, 0, none⟩) D.length cap, .int .i64 ((x : Int) + 1), .int .i64 1, .int .i64 0, .int .u8 101, .bool true] w fun e w' =>
   ∃ v', e = .returned v' ∧ Fm w0 w' v' (l ++ [D.getD 0 0] ++ [101] ++ [43] ++ [48, UInt8.ofNat (48 + x)]) b cap D := by
 have h0 : 0 < D.length := by omega
 obtain ⟨ao, cp, he, hb1, hb2, hb3, hb4⟩ := hF.bs.ex
 obtain ⟨b', o', hbo, hcell⟩ := hb4 hF.ne
 simp at he
 obtain ⟨rfl, rfl⟩ := he
 simp at hbo
 obtain ⟨rfl, rfl⟩ := hbo
 have hc0 := hcell 0 h0
 rw [Nat.add_zero] at hc0
 clear hb1 hb2 hb3 hb4
 have HC : Hid (∀ j, j < D.length → w.cell? ⟨b, 0 + j, none⟩ = some (.int .u8 ((D.getD j 0).toNat : Int))) := hcell
 clear hcell
 generalize hx0 : D.getD 0 0 = x0 at *
 have HF : Hid (Fm w0 w v l b cap D) := hF
 have hF1 := hF.alloc (.cells #[.int .u8 (x0.toNat : Int)] TB)
 have hr1 := hF1.row
 have hs1 := (Bs.byte w x0).src
 have HB1 : Hid (l.length + [x0].length ≤ 140737488355328) := show l.length + [x0].length ≤ 140737488355328 by simp; omega
 have HF1 : Hid (Fm w0 (w.alloc (.cells #[.int .u8 (x0.toNat : Int)] TB)) v l b cap D) := hF1
 have hDi : (0 : Int) < (D.length : Int) := by omega
 have hxi : (0 : Int) ≤ (x : Int) ∧ (x : Int) < 100 := by omega
 have hq2 : decide ((x : Int) < 0) = false := decide_eq_false (by omega)
 have hq5 : decide ((x : Int) < 10) = true := decide_eq_true (by omega)
 clear hF hF1
 go_enter Tryz.func185, Tryz.ntmps185
 go_wp2_with (at_builtin; refine wp_app rfl (.tmp 87) (.tmp 89) 33 33 rfl underS _ l rfl hr1 _ [x0] rfl hs1 HB1.out ?_)
 intro v1 w1 g1 g2 g3 g4
 obtain ⟨L1, HL1, HG1⟩ : ∃ L, Hid (L = l ++ [x0] ∧ L.length ≤ 2010) ∧ Hid (Fm w0 w1 v1 L b cap D) := ⟨_, ⟨rfl, by simp; omega⟩, HF1.out.app g1 g2 g3⟩
 clear g1 g2 g3 g4 hr1 hs1 HB1 HF1 HF HC hc0
 have HF3 := HG1
 clear HG1
 have hl4 : L1.length ≤ 2010 := HL1.out.2
 have hr := (HF3.out.alloc (.cells #[.int .u8 101] TB)).row
 have hs := (show Bs (w1.alloc (.cells #[.int .u8 101] TB)) (.slice (some ⟨w1.heap.size, 0, none⟩) 1 1) [101] from Bs.byte w1 101).src
 have HB : Hid (L1.length + [(101 : UInt8)].length ≤ 140737488355328) := show L1.length + [(101 : UInt8)].length ≤ 140737488355328 by simp; omega
 go_wp2_with (at_builtin; refine wp_app rfl (.tmp 120) (.tmp 122) 33 33 rfl underS _ L1 rfl hr _ [101] rfl hs HB.out ?_)
 intro v4 w4 g1 g2 g3 g4
 obtain ⟨L4, HL4, HF4⟩ : ∃ L, Hid (L = L1 ++ [101] ∧ L.length ≤ 5040) ∧ Hid (Fm w0 w4 v4 L b cap D) := ⟨_, ⟨rfl, by simp; omega⟩, (HF3.out.alloc _).app g1 g2 g3⟩
 clear g1 g2 g3 g4 hr hs HB HF3
 have hl5 : L4.length ≤ 5040 := HL4.out.2
 have hr := (HF4.out.alloc (.cells #[.int .u8 43] TB)).row
 have hs := (show Bs (w4.alloc (.cells #[.int .u8 43] TB)) (.slice (some ⟨w4.heap.size, 0, none⟩) 1 1) [43] from Bs.byte w4 43).src
 have HB : Hid (L4.length + [(43 : UInt8)].length ≤ 140737488355328) := show L4.length + [(43 : UInt8)].length ≤ 140737488355328 by simp; omega
 go_wp2_with (at_builtin; refine wp_app rfl (.tmp 132) (.tmp 134) 33 33 rfl underS _ L4 rfl hr _ [43] rfl hs HB.out ?_)
 intro v5 w5 g1 g2 g3 g4
 obtain ⟨L5, HL5, HF5⟩ : ∃ L, Hid (L = L4 ++ [43] ∧ L.length ≤ 6050) ∧ Hid (Fm w0 w5 v5 L b cap D) := ⟨_, ⟨rfl, by simp; omega⟩, (HF4.out.alloc _).app g1 g2 g3⟩
 clear g1 g2 g3 g4 hr hs HB HF4
 have hl6 : L5.length ≤ 6050 := HL5.out.2
 obtain ⟨y, HY⟩ : ∃ y, Hid (y = UInt8.ofNat (48 + x)) := ⟨_, rfl⟩
 have hy : (y.toNat : Int) = (x : Int) + 48 := by
  rw [HY.out]
  simp [UInt8.toNat_ofNat]; omega
 have hr := (HF5.out.alloc (.cells #[.int .u8 48, .int .u8 ((x : Int) + 48)] TB)).row
 have hs : Src Tryz.prog 1 33 (.slice (some ⟨w5.heap.size, 0, none⟩) 2 2) 2 (bv [48, y]) (w5.alloc (.cells #[.int .u8 48, .int .u8 ((x : Int) + 48)] TB)) := by
  have := (Bs.two w5 48 y).src
  rw [hy] at this
  exact this
 have HB : Hid (L5.length + [(48 : UInt8), y].length ≤ 140737488355328) := show L5.length + [(48 : UInt8), y].length ≤ 140737488355328 by simp; omega
 clear hy
 go_wp2_with (at_builtin; refine wp_app rfl (.tmp 155) (.tmp 159) 33 33 rfl underS _ L5 rfl hr _ [48, y] rfl hs HB.out ?_)
 intro v6 w6 g1 g2 g3 g4
 have HF6 : Hid (Fm w0 w6 v6 (L5 ++ [48, y]) b cap D) := (HF5.out.alloc _).app g1 g2 g3
 clear g1 g2 g3 g4 hr hs HB HF5
 go_wp2
 go_ret
 refine ⟨_, rfl, ?_⟩
 have e := HF6.out
 rw [HY.out, HL5.out.1, HL4.out.1, HL1.out.1] at e
 exact e
set_option maxRecDepth 1000000 in
set_option maxHeartbeats 4000000 in
theorem fmtE_ipt (w0 w : World) (v : Value) (l : List UInt8) (b cap : Nat) (D : List UInt8) (x : Nat) (hF : Fm w0 w v l b cap D) (hl : l.length ≤ 1000) (hD : D.length ≤ 1000) (hn2 : 1 ≤ D.length) (hx : 10 ≤ x ∧ x < 100) :
  Calls Tryz.prog 185 #[v, .bool false, .slice (some ⟨b, 0, none⟩) D.length cap, .int .i64 ((x : Int) + 1), .int .i64 1, .int .i64 0, .int .u8 101, .bool true] w fun e w' =>
   ∃ v', e = .returned v' ∧ Fm w0 w' v' (l ++ [D.getD 0 0] ++ [101] ++ [43] ++ [UInt8.ofNat (48 + x / 10), UInt8.ofNat (48 + x % 10)]) b cap D := by
 have h0 : 0 < D.length := by omega
 obtain ⟨ao, cp, he, hb1, hb2, hb3, hb4⟩ := hF.bs.ex
 obtain ⟨b', o', hbo, hcell⟩ := hb4 hF.ne
 simp at he
 obtain ⟨rfl, rfl⟩ := he
 simp at hbo
 obtain ⟨rfl, rfl⟩ := hbo
 have hc0 := hcell 0 h0
 rw [Nat.add_zero] at hc0
 clear hb1 hb2 hb3 hb4
 have HC : Hid (∀ j, j < D.length → w.cell? ⟨b, 0 + j, none⟩ = some (.int .u8 ((D.getD j 0).toNat : Int))) := hcell
 clear hcell
 generalize hx0 : D.getD 0 0 = x0 at *
 have HF : Hid (Fm w0 w v l b cap D) := hF
 have hF1 := hF.alloc (.cells #[.int .u8 (x0.toNat : Int)] TB)
 have hr1 := hF1.row
 have hs1 := (Bs.byte w x0).src
 have HB1 : Hid (l.length + [x0].length ≤ 140737488355328) := show l.length + [x0].length ≤ 140737488355328 by simp; omega
 have HF1 : Hid (Fm w0 (w.alloc (.cells #[.int .u8 (x0.toNat : Int)] TB)) v l b cap D) := hF1
 have hDi : (0 : Int) < (D.length : Int) := by omega
 have hxi : (0 : Int) ≤ (x : Int) ∧ (x : Int) < 100 := by omega
 have hq2 : decide ((x : Int) < 0) = false := decide_eq_false (by omega)
 have hq5 : decide ((x : Int) < 10) = false := decide_eq_false (by omega)
 have hq6 : decide ((x : Int) < 100) = true := decide_eq_true (by omega)
 have hq7 : (x : Int).tdiv 10 = ((x / 10 : Nat) : Int) := by rw [Int.tdiv_eq_ediv_of_nonneg (by omega)]; rfl
 have hq8 : (x : Int).tmod 10 = ((x % 10 : Nat) : Int) := by rw [Int.tmod_eq_emod_of_nonneg (by omega)]; rfl
 have hxd : x / 10 < 10 := by omega
 have hxm : x % 10 < 10 := by omega
 clear hF hF1
 go_enter Tryz.func185, Tryz.ntmps185
 go_wp2_with (at_builtin; refine wp_app rfl (.tmp 87) (.tmp 89) 33 33 rfl underS _ l rfl hr1 _ [x0] rfl hs1 HB1.out ?_)
 intro v1 w1 g1 g2 g3 g4
 obtain ⟨L1, HL1, HG1⟩ : ∃ L, Hid (L = l ++ [x0] ∧ L.length ≤ 2010) ∧ Hid (Fm w0 w1 v1 L b cap D) := ⟨_, ⟨rfl, by simp; omega⟩, HF1.out.app g1 g2 g3⟩
 clear g1 g2 g3 g4 hr1 hs1 HB1 HF1 HF HC hc0
 have HF3 := HG1
 clear HG1
 have hl4 : L1.length ≤ 2010 := HL1.out.2
 have hr := (HF3.out.alloc (.cells #[.int .u8 101] TB)).row
 have hs := (show Bs (w1.alloc (.cells #[.int .u8 101] TB)) (.slice (some ⟨w1.heap.size, 0, none⟩) 1 1) [101] from Bs.byte w1 101).src
 have HB : Hid (L1.length + [(101 : UInt8)].length ≤ 140737488355328) := show L1.length + [(101 : UInt8)].length ≤ 140737488355328 by simp; omega
 go_wp2_with (at_builtin; refine wp_app rfl (.tmp 120) (.tmp 122) 33 33 rfl underS _ L1 rfl hr _ [101] rfl hs HB.out ?_)
 intro v4 w4 g1 g2 g3 g4
 obtain ⟨L4, HL4, HF4⟩ : ∃ L, Hid (L = L1 ++ [101] ∧ L.length ≤ 5040) ∧ Hid (Fm w0 w4 v4 L b cap D) := ⟨_, ⟨rfl, by simp; omega⟩, (HF3.out.alloc _).app g1 g2 g3⟩
 clear g1 g2 g3 g4 hr hs HB HF3
 have hl5 : L4.length ≤ 5040 := HL4.out.2
 have hr := (HF4.out.alloc (.cells #[.int .u8 43] TB)).row
 have hs := (show Bs (w4.alloc (.cells #[.int .u8 43] TB)) (.slice (some ⟨w4.heap.size, 0, none⟩) 1 1) [43] from Bs.byte w4 43).src
 have HB : Hid (L4.length + [(43 : UInt8)].length ≤ 140737488355328) := show L4.length + [(43 : UInt8)].length ≤ 140737488355328 by simp; omega
 go_wp2_with (at_builtin; refine wp_app rfl (.tmp 132) (.tmp 134) 33 33 rfl underS _ L4 rfl hr _ [43] rfl hs HB.out ?_)
 intro v5 w5 g1 g2 g3 g4
 obtain ⟨L5, HL5, HF5⟩ : ∃ L, Hid (L = L4 ++ [43] ∧ L.length ≤ 6050) ∧ Hid (Fm w0 w5 v5 L b cap D) := ⟨_, ⟨rfl, by simp; omega⟩, (HF4.out.alloc _).app g1 g2 g3⟩
 clear g1 g2 g3 g4 hr hs HB HF4
 have hl6 : L5.length ≤ 6050 := HL5.out.2
 obtain ⟨y, HY⟩ : ∃ y, Hid (y = UInt8.ofNat (48 + x / 10)) := ⟨_, rfl⟩
 obtain ⟨y2, HY2⟩ : ∃ y, Hid (y = UInt8.ofNat (48 + x % 10)) := ⟨_, rfl⟩
 have hy : (y.toNat : Int) = ((x / 10 : Nat) : Int) + 48 := by
  rw [HY.out]
  simp [UInt8.toNat_ofNat]; omega
 have hy2 : (y2.toNat : Int) = ((x % 10 : Nat) : Int) + 48 := by
  rw [HY2.out]
  simp [UInt8.toNat_ofNat]; omega
 generalize hga : x / 10 = xa at *
 generalize hgb : x % 10 = xb at *
 have HGA : Hid (x / 10 = xa ∧ x % 10 = xb) := ⟨hga, hgb⟩
 clear hga hgb
 have hxa : (0 : Int) ≤ (xa : Int) ∧ (xa : Int) < 10 := by omega
 have hxb : (0 : Int) ≤ (xb : Int) ∧ (xb : Int) < 10 := by omega
 have hr := (HF5.out.alloc (.cells #[.int .u8 ((xa : Int) + 48), .int .u8 ((xb : Int) + 48)] TB)).row
 have hs : Src Tryz.prog 1 33 (.slice (some ⟨w5.heap.size, 0, none⟩) 2 2) 2 (bv [y, y2]) (w5.alloc (.cells #[.int .u8 ((xa : Int) + 48), .int .u8 ((xb : Int) + 48)] TB)) := by
  have := (Bs.two w5 y y2).src
  rw [hy, hy2] at this
  exact this
 have HB : Hid (L5.length + [y, y2].length ≤ 140737488355328) := show L5.length + [y, y2].length ≤ 140737488355328 by simp; omega
 clear hy hy2
 go_wp2_with (at_builtin; refine wp_app rfl (.tmp 164) (.tmp 173) 33 33 rfl underS _ L5 rfl hr _ [y, y2] rfl hs HB.out ?_)
 intro v6 w6 g1 g2 g3 g4
 have HF6 : Hid (Fm w0 w6 v6 (L5 ++ [y, y2]) b cap D) := (HF5.out.alloc _).app g1 g2 g3
 clear g1 g2 g3 g4 hr hs HB HF5
 go_wp2
 go_ret
 refine ⟨_, rfl, ?_⟩
 have e := HF6.out
 rw [HY.out, HY2.out, HL5.out.1, HL4.out.1, HL1.out.1] at e
 rw [HGA.out.1, HGA.out.2]
 exact e
set_option maxRecDepth 1000000 in
set_option maxHeartbeats 4000000 in
theorem fmtE_ino (w0 w : World) (v : Value) (l : List UInt8) (b cap : Nat) (D : List UInt8) (x : Nat) (hF : Fm w0 w v l b cap D) (hl : l.length ≤ 1000) (hD : D.length ≤ 1000) (hn2 : 1 ≤ D.length) (hx : 1 ≤ x ∧ x < 10) :
  Calls Tryz.prog 185 #[v, .bool false, .slice (some ⟨b, 0, none⟩) D.length cap, .int .i64 (1 - (x : Int)), .int .i64 1, .int .i64 0, .int .u8 101, .bool true] w fun e w' =>
   ∃ v', e = .returned v' ∧ Fm w0 w' v' (l ++ [D.getD 0 0] ++ [101] ++ [45] ++ [48, UInt8.ofNat (48 + x)]) b cap D := by
 have h0 : 0 < D.length := by omega
 obtain ⟨ao, cp, he, hb1, hb2, hb3, hb4⟩ := hF.bs.ex
 obtain ⟨b', o', hbo, hcell⟩ := hb4 hF.ne
 simp at he
 obtain ⟨rfl, rfl⟩ := he
 simp at hbo
 obtain ⟨rfl, rfl⟩ := hbo
 have hc0 := hcell 0 h0
 rw [Nat.add_zero] at hc0
 clear hb1 hb2 hb3 hb4
 have HC : Hid (∀ j, j < D.length → w.cell? ⟨b, 0 + j, none⟩ = some (.int .u8 ((D.getD j 0).toNat : Int))) := hcell
 clear hcell
 generalize hx0 : D.getD 0 0 = x0 at *
 have HF : Hid (Fm w0 w v l b cap D) := hF
 have hF1 := hF.alloc (.cells #[.int .u8 (x0.toNat : Int)] TB)
 have hr1 := hF1.row
 have hs1 := (Bs.byte w x0).src
 have HB1 : Hid (l.length + [x0].length ≤ 140737488355328) := show l.length + [x0].length ≤ 140737488355328 by simp; omega
 have HF1 : Hid (Fm w0 (w.alloc (.cells #[.int .u8 (x0.toNat : Int)] TB)) v l b cap D) := hF1
 have hDi : (0 : Int) < (D.length : Int) := by omega
 have hxi : (0 : Int) ≤ (x : Int) ∧ (x : Int) < 100 := by omega
 have hq1 : (1 : Int) - (x : Int) - 1 = -(x : Int) := by omega
 have hq2 : decide (-(x : Int) < 0) = true := decide_eq_true (by omega)
 have hq3 : (0 : Int) < (x : Int) := by omega
 have hq5 : decide ((x : Int) < 10) = true := decide_eq_true (by omega)
 clear hF hF1
 go_enter Tryz.func185, Tryz.ntmps185
 go_wp2_with (at_builtin; refine wp_app rfl (.tmp 87) (.tmp 89) 33 33 rfl underS _ l rfl hr1 _ [x0] rfl hs1 HB1.out ?_)
 intro v1 w1 g1 g2 g3 g4
 obtain ⟨L1, HL1, HG1⟩ : ∃ L, Hid (L = l ++ [x0] ∧ L.length ≤ 2010) ∧ Hid (Fm w0 w1 v1 L b cap D) := ⟨_, ⟨rfl, by simp; omega⟩, HF1.out.app g1 g2 g3⟩
 clear g1 g2 g3 g4 hr1 hs1 HB1 HF1 HF HC hc0
 have HF3 := HG1
 clear HG1
 have hl4 : L1.length ≤ 2010 := HL1.out.2
 have hr := (HF3.out.alloc (.cells #[.int .u8 101] TB)).row
 have hs := (show Bs (w1.alloc (.cells #[.int .u8 101] TB)) (.slice (some ⟨w1.heap.size, 0, none⟩) 1 1) [101] from Bs.byte w1 101).src
 have HB : Hid (L1.length + [(101 : UInt8)].length ≤ 140737488355328) := show L1.length + [(101 : UInt8)].length ≤ 140737488355328 by simp; omega
 go_wp2_with (at_builtin; refine wp_app rfl (.tmp 120) (.tmp 122) 33 33 rfl underS _ L1 rfl hr _ [101] rfl hs HB.out ?_)
 intro v4 w4 g1 g2 g3 g4
 obtain ⟨L4, HL4, HF4⟩ : ∃ L, Hid (L = L1 ++ [101] ∧ L.length ≤ 5040) ∧ Hid (Fm w0 w4 v4 L b cap D) := ⟨_, ⟨rfl, by simp; omega⟩, (HF3.out.alloc _).app g1 g2 g3⟩
 clear g1 g2 g3 g4 hr hs HB HF3
 have hl5 : L4.length ≤ 5040 := HL4.out.2
 have hr := (HF4.out.alloc (.cells #[.int .u8 45] TB)).row
 have hs := (show Bs (w4.alloc (.cells #[.int .u8 45] TB)) (.slice (some ⟨w4.heap.size, 0, none⟩) 1 1) [45] from Bs.byte w4 45).src
 have HB : Hid (L4.length + [(45 : UInt8)].length ≤ 140737488355328) := show L4.length + [(45 : UInt8)].length ≤ 140737488355328 by simp; omega
 go_wp2_with (at_builtin; refine wp_app rfl (.tmp 132) (.tmp 134) 33 33 rfl underS _ L4 rfl hr _ [45] rfl hs HB.out ?_)
 intro v5 w5 g1 g2 g3 g4
 obtain ⟨L5, HL5, HF5⟩ : ∃ L, Hid (L = L4 ++ [45] ∧ L.length ≤ 6050) ∧ Hid (Fm w0 w5 v5 L b cap D) := ⟨_, ⟨rfl, by simp; omega⟩, (HF4.out.alloc _).app g1 g2 g3⟩
 clear g1 g2 g3 g4 hr hs HB HF4
 have hl6 : L5.length ≤ 6050 := HL5.out.2
 obtain ⟨y, HY⟩ : ∃ y, Hid (y = UInt8.ofNat (48 + x)) := ⟨_, rfl⟩
 have hy : (y.toNat : Int) = (x : Int) + 48 := by
  rw [HY.out]
  simp [UInt8.toNat_ofNat]; omega
 have hr := (HF5.out.alloc (.cells #[.int .u8 48, .int .u8 ((x : Int) + 48)] TB)).row
 have hs : Src Tryz.prog 1 33 (.slice (some ⟨w5.heap.size, 0, none⟩) 2 2) 2 (bv [48, y]) (w5.alloc (.cells #[.int .u8 48, .int .u8 ((x : Int) + 48)] TB)) := by
  have := (Bs.two w5 48 y).src
  rw [hy] at this
  exact this
 have HB : Hid (L5.length + [(48 : UInt8), y].length ≤ 140737488355328) := show L5.length + [(48 : UInt8), y].length ≤ 140737488355328 by simp; omega
 clear hy
 go_wp2_with (at_builtin; refine wp_app rfl (.tmp 155) (.tmp 159) 33 33 rfl underS _ L5 rfl hr _ [48, y] rfl hs HB.out ?_)
 intro v6 w6 g1 g2 g3 g4
 have HF6 : Hid (Fm w0 w6 v6 (L5 ++ [48, y]) b cap D) := (HF5.out.alloc _).app g1 g2 g3
 clear g1 g2 g3 g4 hr hs HB HF5
 go_wp2
 go_ret
 refine ⟨_, rfl, ?_⟩
 have e := HF6.out
 rw [HY.out, HL5.out.1, HL4.out.1, HL1.out.1] at e
 exact e
set_option maxRecDepth 1000000 in
set_option maxHeartbeats 4000000 in
theorem fmtE_int (w0 w : World) (v : Value) (l : List UInt8) (b cap : Nat) (D : List UInt8) (x : Nat) (hF : Fm w0 w v l b cap D) (hl : l.length ≤ 1000) (hD : D.length ≤ 1000) (hn2 : 1 ≤ D.length) (hx : 10 ≤ x ∧ x < 100) :
  Calls Tryz.prog 185 #[v, .bool false, .slice (some ⟨b, 0, none⟩) D.length cap, .int .i64 (1 - (x : Int)), .int .i64 1, .int .i64 0, .int .u8 101, .bool true] w fun e w' =>
   ∃ v', e = .returned v' ∧ Fm w0 w' v' (l ++ [D.getD 0 0] ++ [101] ++ [45] ++ [UInt8.ofNat (48 + x / 10), UInt8.ofNat (48 + x % 10)]) b cap D := by
 have h0 : 0 < D.length := by omega
 obtain ⟨ao, cp, he, hb1, hb2, hb3, hb4⟩ := hF.bs.ex
 obtain ⟨b', o', hbo, hcell⟩ := hb4 hF.ne
 simp at he
 obtain ⟨rfl, rfl⟩ := he
 simp at hbo
 obtain ⟨rfl, rfl⟩ := hbo
 have hc0 := hcell 0 h0
 rw [Nat.add_zero] at hc0
 clear hb1 hb2 hb3 hb4
 have HC : Hid (∀ j, j < D.length → w.cell? ⟨b, 0 + j, none⟩ = some (.int .u8 ((D.getD j 0).toNat : Int))) := hcell
 clear hcell
 generalize hx0 : D.getD 0 0 = x0 at *
 have HF : Hid (Fm w0 w v l b cap D) := hF
 have hF1 := hF.alloc (.cells #[.int .u8 (x0.toNat : Int)] TB)
 have hr1 := hF1.row
 have hs1 := (Bs.byte w x0).src
 have HB1 : Hid (l.length + [x0].length ≤ 140737488355328) := show l.length + [x0].length ≤ 140737488355328 by simp; omega
 have HF1 : Hid (Fm w0 (w.alloc (.cells #[.int .u8 (x0.toNat : Int)] TB)) v l b cap D) := hF1
 have hDi : (0 : Int) < (D.length : Int) := by omega
 have hxi : (0 : Int) ≤ (x : Int) ∧ (x : Int) < 100 := by omega
 have hq1 : (1 : Int) - (x : Int) - 1 = -(x : Int) := by omega
 have hq2 : decide (-(x : Int) < 0) = true := decide_eq_true (by omega)
 have hq3 : (0 : Int) < (x : Int) := by omega
 have hq5 : decide ((x : Int) < 10) = false := decide_eq_false (by omega)
 have hq6 : decide ((x : Int) < 100) = true := decide_eq_true (by omega)
 have hq7 : (x : Int).tdiv 10 = ((x / 10 : Nat) : Int) := by rw [Int.tdiv_eq_ediv_of_nonneg (by omega)]; rfl
 have hq8 : (x : Int).tmod 10 = ((x % 10 : Nat) : Int) := by rw [Int.tmod_eq_emod_of_nonneg (by omega)]; rfl
 have hxd : x / 10 < 10 := by omega
 have hxm : x % 10 < 10 := by omega
 clear hF hF1
 go_enter Tryz.func185, Tryz.ntmps185
 go_wp2_with (at_builtin; refine wp_app rfl (.tmp 87) (.tmp 89) 33 33 rfl underS _ l rfl hr1 _ [x0] rfl hs1 HB1.out ?_)
 intro v1 w1 g1 g2 g3 g4
 obtain ⟨L1, HL1, HG1⟩ : ∃ L, Hid (L = l ++ [x0] ∧ L.length ≤ 2010) ∧ Hid (Fm w0 w1 v1 L b cap D) := ⟨_, ⟨rfl, by simp; omega⟩, HF1.out.app g1 g2 g3⟩
 clear g1 g2 g3 g4 hr1 hs1 HB1 HF1 HF HC hc0
 have HF3 := HG1
 clear HG1
 have hl4 : L1.length ≤ 2010 := HL1.out.2
 have hr := (HF3.out.alloc (.cells #[.int .u8 101] TB)).row
 have hs := (show Bs (w1.alloc (.cells #[.int .u8 101] TB)) (.slice (some ⟨w1.heap.size, 0, none⟩) 1 1) [101] from Bs.byte w1 101).src
 have HB : Hid (L1.length + [(101 : UInt8)].length ≤ 140737488355328) := show L1.length + [(101 : UInt8)].length ≤ 140737488355328 by simp; omega
 go_wp2_with (at_builtin; refine wp_app rfl (.tmp 120) (.tmp 122) 33 33 rfl underS _ L1 rfl hr _ [101] rfl hs HB.out ?_)
 intro v4 w4 g1 g2 g3 g4
 obtain ⟨L4, HL4, HF4⟩ : ∃ L, Hid (L = L1 ++ [101] ∧ L.length ≤ 5040) ∧ Hid (Fm w0 w4 v4 L b cap D) := ⟨_, ⟨rfl, by simp; omega⟩, (HF3.out.alloc _).app g1 g2 g3⟩
 clear g1 g2 g3 g4 hr hs HB HF3
 have hl5 : L4.length ≤ 5040 := HL4.out.2
 have hr := (HF4.out.alloc (.cells #[.int .u8 45] TB)).row
 have hs := (show Bs (w4.alloc (.cells #[.int .u8 45] TB)) (.slice (some ⟨w4.heap.size, 0, none⟩) 1 1) [45] from Bs.byte w4 45).src
 have HB : Hid (L4.length + [(45 : UInt8)].length ≤ 140737488355328) := show L4.length + [(45 : UInt8)].length ≤ 140737488355328 by simp; omega
 go_wp2_with (at_builtin; refine wp_app rfl (.tmp 132) (.tmp 134) 33 33 rfl underS _ L4 rfl hr _ [45] rfl hs HB.out ?_)
 intro v5 w5 g1 g2 g3 g4
 obtain ⟨L5, HL5, HF5⟩ : ∃ L, Hid (L = L4 ++ [45] ∧ L.length ≤ 6050) ∧ Hid (Fm w0 w5 v5 L b cap D) := ⟨_, ⟨rfl, by simp; omega⟩, (HF4.out.alloc _).app g1 g2 g3⟩
 clear g1 g2 g3 g4 hr hs HB HF4
 have hl6 : L5.length ≤ 6050 := HL5.out.2
 obtain ⟨y, HY⟩ : ∃ y, Hid (y = UInt8.ofNat (48 + x / 10)) := ⟨_, rfl⟩
 obtain ⟨y2, HY2⟩ : ∃ y, Hid (y = UInt8.ofNat (48 + x % 10)) := ⟨_, rfl⟩
 have hy : (y.toNat : Int) = ((x / 10 : Nat) : Int) + 48 := by
  rw [HY.out]
  simp [UInt8.toNat_ofNat]; omega
 have hy2 : (y2.toNat : Int) = ((x % 10 : Nat) : Int) + 48 := by
  rw [HY2.out]
  simp [UInt8.toNat_ofNat]; omega
 generalize hga : x / 10 = xa at *
 generalize hgb : x % 10 = xb at *
 have HGA : Hid (x / 10 = xa ∧ x % 10 = xb) := ⟨hga, hgb⟩
 clear hga hgb
 have hxa : (0 : Int) ≤ (xa : Int) ∧ (xa : Int) < 10 := by omega
 have hxb : (0 : Int) ≤ (xb : Int) ∧ (xb : Int) < 10 := by omega
 have hr := (HF5.out.alloc (.cells #[.int .u8 ((xa : Int) + 48), .int .u8 ((xb : Int) + 48)] TB)).row
 have hs : Src Tryz.prog 1 33 (.slice (some ⟨w5.heap.size, 0, none⟩) 2 2) 2 (bv [y, y2]) (w5.alloc (.cells #[.int .u8 ((xa : Int) + 48), .int .u8 ((xb : Int) + 48)] TB)) := by
  have := (Bs.two w5 y y2).src
  rw [hy, hy2] at this
  exact this
 have HB : Hid (L5.length + [y, y2].length ≤ 140737488355328) := show L5.length + [y, y2].length ≤ 140737488355328 by simp; omega
 clear hy hy2
 go_wp2_with (at_builtin; refine wp_app rfl (.tmp 164) (.tmp 173) 33 33 rfl underS _ L5 rfl hr _ [y, y2] rfl hs HB.out ?_)
 intro v6 w6 g1 g2 g3 g4
 have HF6 : Hid (Fm w0 w6 v6 (L5 ++ [y, y2]) b cap D) := (HF5.out.alloc _).app g1 g2 g3
 clear g1 g2 g3 g4 hr hs HB HF5
 go_wp2
 go_ret
 refine ⟨_, rfl, ?_⟩
 have e := HF6.out
 rw [HY.out, HY2.out, HL5.out.1, HL4.out.1, HL1.out.1] at e
 rw [HGA.out.1, HGA.out.2]
 exact e
end Go.Proofs.YtfpcpociejefaaaGreatDoor
