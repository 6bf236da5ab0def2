/- The literal of a list of two plain texts. -/
import Derived.Test.YtncbanpimfhhbaaGreatDoorPaB
import Derived.Test.YtncbanpimfhhbaaGreatDoorDcT
import Derived.Test.YtncbanpimfhhbaaGreatDoorLtA
import Derived.OwnWalk
namespace Go.Proofs.YtncbanpimfhhbaaGreatDoor
open Go.RowKit Go.PlainAid

/-- two texts in a row of one's own -/
structure P2 (w : World) (b : Nat) (x y : ByteArray) : Prop where
  c0 : w.cell? ⟨b, 0, none⟩ = some (.string x)
  c1 : w.cell? ⟨b, 1, none⟩ = some (.string y)
  fz : ∀ j, w.frozen? ⟨b, j, none⟩ = false
theorem P2.lt {w : World} {b : Nat} {x y : ByteArray} (h : P2 w b x y) : b < w.heap.size := World.block_lt_of_cell? w _ h.c0
theorem P2.keep {F : List Nat} {w w' : World} {b : Nat} {x y : ByteArray} (h : P2 w b x y) (k : Keep F w w') (hb : b ∉ F) : P2 w' b x y :=
  ⟨k.cell' h.c0 hb, k.cell' h.c1 hb, fun j => (k.frozen h.lt hb).trans (h.fz j)⟩
theorem P2.set0 {w : World} {b : Nat} {x y : ByteArray} (z : ByteArray) (h : P2 w b x y) : P2 (w.setCell ⟨b, 0, none⟩ (.string z)) b z y :=
  ⟨World.cell?_setCell_same _ _ _ (by exact h.c0), by rw [World.cell?_setCell_other _ _ _ _ (by simp)]; exact h.c1, fun j => by simp [h.fz j]⟩
theorem P2.set1 {w : World} {b : Nat} {x y : ByteArray} (z : ByteArray) (h : P2 w b x y) : P2 (w.setCell ⟨b, 1, none⟩ (.string z)) b x z :=
  ⟨by rw [World.cell?_setCell_other _ _ _ _ (by simp)]; exact h.c0, World.cell?_setCell_same _ _ _ (by exact h.c1), fun j => by simp [h.fz j]⟩
theorem P2.made {w w' : World} (r : w'.ownsRow 0 9 1 (.slice (some ⟨w.heap.size, 0, none⟩) 2 2) 2 [.string ByteArray.empty, .string ByteArray.empty]) : P2 w' w.heap.size ByteArray.empty ByteArray.empty := by
  refine ⟨(World.ownsRow.cellAt r 0 (by decide)).trans rfl, (World.ownsRow.cellAt r 1 (by decide)).trans rfl, fun j => ?_⟩
  rcases r.2 with ⟨h, _⟩ | ⟨g, cap, cur, h, _, hg, _⟩
  · simp at h
  · simp only [Value.slice.injEq, Option.some.injEq, Addr.mk.injEq, and_true, true_and] at h
    obtain ⟨rfl, rfl⟩ := h
    unfold World.frozen?
    simp [hg]

set_option maxRecDepth 1000000 in
set_option maxHeartbeats 1600000 in
theorem listed_two (a b : List UInt8) (u : Value) (w : World) (hu : Ts w u [ba a, ba b]) (ha : Plain a) (hb : Plain b) (na : a.length ≤ 100) (nb : b.length ≤ 100) :
    Calls Tryz.prog 88 #[u] w fun e w' => e = .returned (.string (ba (91 :: ((34 :: a ++ [34]) ++ [44, 32] ++ (34 :: b ++ [34])) ++ [93]))) ∧ Keep [] w w' := by
  obtain ⟨S3, hS3⟩ : ∃ S3, S3 = ba (91 :: ((34 :: a ++ [34]) ++ [44, 32] ++ (34 :: b ++ [34])) ++ [93]) := ⟨_, rfl⟩
  rw [← hS3]
  have HS3 : Hid (S3 = ba (91 :: ((34 :: a ++ [34]) ++ [44, 32] ++ (34 :: b ++ [34])) ++ [93])) := hS3
  clear hS3
  have hA := fun w => quoted_any a w ha (by omega)
  have hB := fun w => quoted_any b w hb (by omega)
  obtain ⟨i9, hi9, hz9, hs9, hb9⟩ := info_parts infoS
  obtain ⟨ao, ca, rfl, h1, h2, h3⟩ := hu.ex
  obtain ⟨bk, o, rfl, hc⟩ := h3.2 (by simp)
  have d0 : w.cell? ⟨bk, o, none⟩ = some (.string (ba a)) := hc 0 (by simp)
  have d1 : w.cell? ⟨bk, o + 1, none⟩ = some (.string (ba b)) := hc 1 (by simp)
  have HD : Hid (∀ W, Keep [] w W → W.cell? ⟨bk, o, none⟩ = some (.string (ba a)) ∧ W.cell? ⟨bk, o + 1, none⟩ = some (.string (ba b))) := fun W k => ⟨k.cell' d0 (by simp), k.cell' d1 (by simp)⟩
  have HJ : Hid (∀ (W : World) (g : Nat), P2 W g (ba (34 :: a ++ [34])) (ba (34 :: b ++ [34])) → Calls Tryz.prog 122 #[.slice (some ⟨g, 0, none⟩) 2 2, .string ⟨#[44, 32]⟩] W fun e w' => e = .returned (.string (ba ((34 :: a ++ [34]) ++ [44, 32] ++ (34 :: b ++ [34])))) ∧ Keep [] W w') := by
    intro W g hP
    have h := Any.strings_Join Tryz.lays156 Tryz.Builder_Extra_156 g 0 2 [ba (34 :: a ++ [34]), ba (34 :: b ++ [34])] ⟨#[44, 32]⟩ W (by
      intro j x hj
      match j, hj with
      | 0, hj => simp at hj; subst hj; exact hP.c0
      | 1, hj => simp at hj; subst hj; exact hP.c1
      | j + 2, hj => simp at hj) hP.lt (by simp) (by simp) (by simp [Lib.join, ba_data]; omega)
    have e : (⟨(Lib.join ([ba (34 :: a ++ [34]), ba (34 :: b ++ [34])].map (·.data.toList)) (⟨#[44, 32]⟩ : ByteArray).data.toList).toArray⟩ : ByteArray) = ba ((34 :: a ++ [34]) ++ [44, 32] ++ (34 :: b ++ [34])) := by
      simp [Lib.join, ba]
    rw [e] at h
    refine h.mono ?_
    rintro e w' ⟨rfl, hb⟩
    exact ⟨rfl, Keep.ofBelow hb⟩
  simp only [List.length_cons, List.length_nil] at h1 ⊢
  clear hc h3 hu d0 d1 ha hb
  have HQ : Hid (i9.bytes * 2 ≤ 281474976710656) := by show _ ≤ _; rw [hb9]; omega
  have HI9 : Hid (Tryz.prog.info? 9 = some i9 ∧ i9.zero = some _ ∧ i9.size = 1) := ⟨hi9, hz9, hs9⟩
  clear hi9 hz9 hs9 hb9
  go_enter Tryz.func88, Tryz.ntmps88
  go_wp2_with (at_make; refine wpList_make_full _ rfl (.tmp 7) (.tmp 7) 29 rfl 0 9 i9 (.string ByteArray.empty) 1 Tryz.underlying29 HI9.out.1 HI9.out.2.1 HI9.out.2.2 .i64 .i64 2 2 2 rfl rfl rfl rfl HQ.out (by decide) (Nat.zero_le _) ?_)
  intro w1 R1 G1
  have em : (madeCells #[Value.string ByteArray.empty] 2).toList = [.string ByteArray.empty, .string ByteArray.empty] := by simp [madeCells, List.range_succ]
  rw [em] at R1
  have HP : Hid (P2 w1 w.heap.size ByteArray.empty ByteArray.empty) := P2.made R1
  clear em
  have HK : Hid (Keep [] w w1) := Keep.ofBelow ⟨G1.os, G1.tape, G1.output, G1.size, fun k hk => G1.block k hk (by simp)⟩
  clear R1 G1
  obtain ⟨g, HG⟩ : ∃ g, Hid (g = w.heap.size) := ⟨_, show _ = _ from rfl⟩
  rw [← HG.out] at HP ⊢
  go_wp2
  go_loopw [11] (fun i wr => ∃ (k : Nat) (x y : ByteArray), k ≤ 2 ∧ i = .int .i64 k ∧ Hid (P2 wr g x y ∧ Keep [] w wr ∧ (1 ≤ k → x = ba (34 :: a ++ [34])) ∧ (k = 2 → y = ba (34 :: b ++ [34])))) (fun i _ => 2 - (intOf i).toNat)
  case atStart => exact ⟨0, _, _, by omega, rfl, ⟨HP.out, HK.out, (fun h => by omega), fun h => by omega⟩⟩
  case round =>
    obtain ⟨k, x, y, hk, rfl, HI⟩ := hrel
    obtain ⟨m0, m1⟩ := HD.out wr HI.out.2.1
    have : k = 0 ∨ k = 1 ∨ k = 2 := by omega
    rcases this with rfl | rfl | rfl
    · clear m1
      go_wp2_with fail
      refine (hA _).mono ?_
      rintro e9 w9 ⟨rfl, K9⟩
      have HP9 : Hid (P2 w9 g x y) := HI.out.1.keep K9 (by simp)
      have HK9 : Hid (Keep [] w w9) := HI.out.2.1.trans' K9
      obtain ⟨p0, p1, pz⟩ := HP9.out
      clear K9 m0
      go_wp2
      go_roundw
      case rel => exact ⟨1, _, y, by omega, by go_num, ⟨HP9.out.set0 _, HK9.out.more ((Keep.refl [g] w9).setCell (p := ⟨g, 0, none⟩) (.inl (by simp)) _) (fun z hz => .inr (by simp at hz; rw [hz, HG.out]; exact Nat.le_refl _)), (fun _ => rfl), fun h => by omega⟩⟩
      case measure => simp [intOf]
    · clear m0
      go_wp2_with fail
      refine (hB _).mono ?_
      rintro e9 w9 ⟨rfl, K9⟩
      have HP9 : Hid (P2 w9 g x y) := HI.out.1.keep K9 (by simp)
      have HK9 : Hid (Keep [] w w9) := HI.out.2.1.trans' K9
      obtain ⟨p0, p1, pz⟩ := HP9.out
      clear K9 m1
      go_wp2
      go_roundw
      case rel => exact ⟨2, x, _, by omega, by go_num, ⟨HP9.out.set1 _, HK9.out.more ((Keep.refl [g] w9).setCell (p := ⟨g, 1, none⟩) (.inl (by simp)) _) (fun z hz => .inr (by simp at hz; rw [hz, HG.out]; exact Nat.le_refl _)), (fun _ => HI.out.2.2.1 (by omega)), fun _ => rfl⟩⟩
      case measure => simp [intOf]
    · have hx := HI.out.2.2.1 (by omega)
      have hy := HI.out.2.2.2 rfl
      have hJ := HJ.out wr g (by have := HI.out.1; rwa [hx, hy] at this)
      have z1 : (ba ((34 :: a ++ [34]) ++ [44, 32] ++ (34 :: b ++ [34]))).size ≤ 300 := by rw [ba_size]; simp; omega
      have e1 : (⟨#[91]⟩ : ByteArray) ++ ba ((34 :: a ++ [34]) ++ [44, 32] ++ (34 :: b ++ [34])) = ba (91 :: ((34 :: a ++ [34]) ++ [44, 32] ++ (34 :: b ++ [34]))) := ba_app [91] _
      have z2 : (ba (91 :: ((34 :: a ++ [34]) ++ [44, 32] ++ (34 :: b ++ [34])))).size ≤ 301 := by rw [ba_size]; simp; omega
      have e2 : ba (91 :: ((34 :: a ++ [34]) ++ [44, 32] ++ (34 :: b ++ [34]))) ++ ⟨#[93]⟩ = S3 := (ba_app _ [93]).trans HS3.out.symm
      have p91 : (⟨#[91]⟩ : ByteArray).size = 1 := rfl
      have p93 : (⟨#[93]⟩ : ByteArray).size = 1 := rfl
      clear m0 m1 hx hy
      generalize ba ((34 :: a ++ [34]) ++ [44, 32] ++ (34 :: b ++ [34])) = S1 at *
      clear HS3
      generalize ba (91 :: ((34 :: a ++ [34]) ++ [44, 32] ++ (34 :: b ++ [34]))) = S2 at *
      have n1 : ¬ 9223372036854775807 < 1 + S1.size := by omega
      have n2 : ¬ 9223372036854775807 < S2.size + 1 := by omega
      go_wp2_with fail
      refine hJ.mono ?_
      rintro e9 w9 ⟨rfl, K9⟩
      have HK9 : Hid (Keep [] w w9) := HI.out.2.1.trans' K9
      clear K9
      go_wp2
      go_ret
      exact ⟨rfl, HK9.out⟩
end Go.Proofs.YtncbanpimfhhbaaGreatDoor
