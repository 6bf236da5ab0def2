/- The answers that are fixed: awake says true. -/
import Derived.Test.YtcmembmaaebdeabArmW
import Derived.Test.YtcmembmaaebdeabRMeth
namespace Go.Proofs.Ytcmembmaaebdeab
open Go.RowKit Go.PlainAid Go.Lib

theorem uv300 : uvarint 300 = [172, 2] := by rw [uvarint_big (by decide), uvarint_small (by decide)]; rfl
theorem uv1 : uvarint 1 = [1] := by rw [uvarint_small (by decide)]; rfl
theorem uv2 : uvarint 2 = [2] := by rw [uvarint_small (by decide)]; rfl
theorem zig1 : zigzag (-1) = 1 := by decide
theorem arm255 : armL [255] = [55, 52] := by decide
theorem num300 : numL [172, 2, 1, 2, 97, 98] = (300, 2, 0) := by decide
theorem num1 : numL [1, 2, 97, 98] = (1, 1, 0) := by decide
theorem text2 : textL [2, 97, 98] 2 = ([97, 98], 3, 0) := by decide
theorem sum97 : sumL [97] = 12638187200555641996 := by
  simp only [sumL, List.foldl_cons, List.foldl_nil, sumStep]
  have : (14695981039346656037 ^^^ (97 : UInt8).toNat) = 14695981039346656068 := by decide
  rw [this]

/-- a step that writes w0's news alone -/
theorem Wrote.new {w0 w w' : World} {b o : Nat} {l r : List UInt8} {rb : Option Nat} (h : Wrote w w' b o l r rb) (k : Keep [] w0 w) (hb : w0.heap.size ≤ b) (hr : ∀ x, rb = some x → w0.heap.size ≤ x) :
    ∃ rb', Wr w' b o (l ++ r) rb' ∧ Keep [] w0 w' ∧ (∀ x, rb' = some x → w0.heap.size ≤ x) := by
  obtain ⟨rb', h1, h2, h3⟩ := h
  refine ⟨rb', h1, k.more h2 (fun x hx => .inr ?_), fun x hx => ?_⟩
  · simp at hx
    rcases hx with rfl | hx
    · exact hb
    · exact hr x hx
  · rcases h3 with h3 | h3
    · exact hr x (h3 ▸ hx)
    · exact Nat.le_trans k.size (h3 x hx).1

set_option maxRecDepth 1000000 in
set_option maxHeartbeats 3200000 in
theorem awake_any (w : World) : Calls Try.prog 6 #[] w fun e w' => e = .returned (.bool true) ∧ Keep [] w w' := by
  have K0 := Keep.alloc1 w (.cells #[.slice none 0 0] 42)
  have W0 : Wr (w.alloc (.cells #[.slice none 0 0] 42)) w.heap.size 0 [] none := Wr.zero _ _ _ (by simp) (by simp)
  go_enter Try.func6, Try.ntmps6
  go_wp2_with fail
  refine (wByte_any w.heap.size 0 [] none 7 (by omega) _ W0 (by simp)).mono ?_
  rintro e1 w1 ⟨rfl, h1⟩
  obtain ⟨r1, W1, K1, N1⟩ := h1.new K0 (Nat.le_refl _) (by intro x hx; cases hx)
  clear h1 W0 K0
  go_wp2_with fail
  refine (wUint_any w.heap.size 0 _ r1 300 (by omega) w1 W1 (by simp)).mono ?_
  rintro e2 w2 ⟨rfl, h2⟩
  obtain ⟨r2, W2, K2, N2⟩ := h2.new K1 (Nat.le_refl _) N1
  clear h2 W1 K1
  go_wp2_with fail
  refine (wInt_any w.heap.size 0 _ r2 (-1) (by omega) (by omega) w2 W2 (by simp [uv300])).mono ?_
  rintro e3 w3 ⟨rfl, h3⟩
  obtain ⟨r3, W3, K3, N3⟩ := h3.new K2 (Nat.le_refl _) N2
  clear h3 W2 K2
  go_wp2_with fail
  refine (wText_any w.heap.size 0 _ r3 ⟨#[97, 98]⟩ w3 W3 (by simp [uv300, zig1, uv1]; decide)).mono ?_
  rintro e4 w4 ⟨rfl, h4⟩
  obtain ⟨r4, W4', K4, N4⟩ := h4.new K3 (Nat.le_refl _) N3
  have W4 : Wr w4 w.heap.size 0 [7, 172, 2, 1, 2, 97, 98] r4 := by
    have e : ([] ++ [Nat.toUInt8 7] ++ uvarint 300 ++ uvarint (zigzag (-1)) ++ (uvarint (ByteArray.size ⟨#[97, 98]⟩) ++ (ByteArray.data ⟨#[97, 98]⟩).toList)) = [7, 172, 2, 1, 2, 97, 98] := by
      rw [uv300, zig1, uv1, show ByteArray.size ⟨#[97, 98]⟩ = 2 from rfl, uv2]; rfl
    rw [e] at W4'
    exact W4'
  clear h4 W3 K3 W4' N1 N2 N3
  go_wp2_with fail
  refine (wBytes_any w.heap.size 0 _ r4 w4 W4 (by simp)).mono ?_
  rintro e5 w5 ⟨v5, rfl, R5, F5, K5, S5⟩
  have K5' : Keep [] w w5 := K4.trans' K5
  obtain ⟨a5, c5, hv5⟩ : ∃ g c, v5 = .slice (some ⟨g, 0, none⟩) 7 c := by
    rcases R5.2 with ⟨_, h⟩ | ⟨g, cap, _, h, _⟩
    · simp at h
    · exact ⟨g, cap, h⟩
  have B5 := R5.bs
  clear W4 N4 K4 K5 F5 S5
  subst hv5
  go_wp2_with fail
  refine (Read_any _ _ w5 B5 (by simp)).mono ?_
  rintro e6 w6 ⟨b6, rb6, rfl, D6, hb6, hr6, K6⟩
  have hne6 : Off (.slice (some ⟨a5, 0, none⟩) 7 c5) ([] : List Nat) := Off.nil _
  have B6 := B5.keep K6 hne6
  have c61 : w6.cell? ⟨a5, 1, none⟩ = some (.int .u8 172) := by
    obtain ⟨ao, cap, he, _, _, _, h4⟩ := B6.ex
    obtain ⟨b, o, hao, hc⟩ := h4 (by simp)
    subst hao
    simp at he
    obtain ⟨⟨rfl, rfl⟩, _⟩ := he
    exact hc 1 (by simp)
  have K6' : Keep [] w w6 := K5'.trans' K6
  have hbn : w.heap.size ≤ b6 := Nat.le_trans K5'.size hb6
  clear B5 B6 K6 K5' R5 hne6 hb6 hr6
  go_wp2_with fail
  refine (rByte_any b6 0 _ 0 rb6 w6 D6).mono ?_
  rintro e7 w7 ⟨rfl, D7, K7⟩
  have K7' : Keep [] w w7 := K6'.more K7 (by intro x hx; simp at hx; subst hx; exact .inr hbn)
  rw [rdOf_pos] at D7
  have e7v : (rdOf 0 [7, 172, 2, 1, 2, 97, 98] 0 (byteL [7, 172, 2, 1, 2, 97, 98])).1 = 7 := by decide
  rw [e7v]
  simp only [byteL, List.drop] at D7
  clear D6 K6' K7 e7v c61
  go_wp2_with fail
  refine (rUint_any b6 0 _ 0 rb6 w7 D7).mono ?_
  rintro e8 w8 ⟨rfl, D8, K8⟩
  have K8' : Keep [] w w8 := K7'.more K8 (by intro x hx; simp at hx; subst hx; exact .inr hbn)
  rw [rdOf_pos, num300] at D8
  rw [rdOf_pos, num300]
  simp only [List.drop] at D8
  clear D7 K7' K8
  go_wp2_with fail
  refine (rInt_any b6 0 _ 0 rb6 w8 D8).mono ?_
  rintro e9 w9 ⟨rfl, D9, K9⟩
  have K9' : Keep [] w w9 := K8'.more K9 (by intro x hx; simp at hx; subst hx; exact .inr hbn)
  have t1 : turnL [1, 2, 97, 98] = (-1, 1, 0) := by unfold turnL; rw [num1]; rfl
  rw [rdOf_pos, t1] at D9
  rw [rdOf_pos, t1]
  simp only [List.drop] at D9
  clear D8 K8' K9 t1
  go_wp2_with fail
  refine (rText_any b6 0 _ 0 rb6 2 (by omega) w9 D9).mono ?_
  rintro e10 w10 ⟨rfl, D10, K10⟩
  have K10' : Keep [] w w10 := K9'.more K10 (by intro x hx; simp at hx; subst hx; exact .inr hbn)
  rw [rdOf_pos, text2] at D10
  rw [rdOf_pos, text2]
  simp only [List.drop] at D10
  clear D9 K9' K10
  go_wp2_with fail
  refine (end_any b6 0 _ 0 rb6 w10 D10).mono ?_
  rintro e11 w11 ⟨rfl, hw11⟩
  obtain rfl := hw11.symm
  rw [show endE [] 0 = 0 from rfl]
  clear D10
  go_wp2_with fail
  refine (sum_any _ [97] _ (Bs.byte w10 97)).mono ?_
  rintro e12 w12 ⟨rfl, hw12⟩
  obtain rfl := hw12.symm
  rw [sum97]
  have K12 := K10'.alloc (.cells #[.int .u8 97] 5)
  generalize hwz : w10.alloc (.cells #[.int .u8 97] 5) = wz at K12
  clear K10'
  go_wp2_with fail
  refine (armor_any _ [255] _ (Bs.byte wz 255) (by simp)).mono ?_
  rintro e13 w13 ⟨rfl, K13⟩
  rw [arm255]
  have HK : Hid (Keep [] w w13) := (K12.alloc _).trans' K13
  clear K12 K13 hwz
  go_wp2
  go_ret
  exact ⟨rfl, HK.out⟩

end Go.Proofs.Ytcmembmaaebdeab

