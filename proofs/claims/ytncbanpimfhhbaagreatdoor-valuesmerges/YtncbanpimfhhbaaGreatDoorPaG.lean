/- The literal of a value that is a list of two plain texts. -/
import Derived.Test.YtncbanpimfhhbaaGreatDoorPaC
import Derived.Test.YtncbanpimfhhbaaGreatDoorDcB
import Derived.Test.YtncbanpimfhhbaaGreatDoorSameV
import Derived.Test.YtncbanpimfhhbaaGreatDoorRvC

namespace Go.Proofs.YtncbanpimfhhbaaGreatDoor
open Go.RowKit Go.PlainAid

set_option maxRecDepth 1000000 in
theorem literal_list (u : Value) (S : ByteArray) (w : World) (hL : Calls Tryz.prog 88 #[u] w fun e w' => e = .returned (.string S) ∧ Keep [] w w') :
    Calls Tryz.prog 57 #[.iface 29 u] w fun e w' => e = .returned (.string S) ∧ Keep [] w w' := by
  have t1 := ta_24_4 u
  have t2 := ta_24_2 u
  have t3 := ta_24_26 u
  have t4 := ta_24_9 u
  have t5 := ta_24_24 u
  go_enter Tryz.func57, Tryz.ntmps57
  go_wp2_with fail
  refine hL.mono ?_
  rintro e9 w9 ⟨rfl, K9⟩
  have HK9 : Hid (Keep [] w w9) := K9
  clear K9
  go_wp2
  go_ret
  exact ⟨rfl, HK9.out⟩

/-- a list of texts as a value -/
abbrev VL (l : List ByteArray) : VD := ⟨5, false, 0, 0, ⟨#[]⟩, l⟩
set_option maxRecDepth 1000000 in
theorem text_list (x : VD) (hx : x.Ok) (h5 : x.kind = 5) (hm : x.mayB = true) (u : Value) (S : ByteArray) (w : World) (hu : Ts w u x.texts) (hL : ∀ w', Keep [] w w' → Calls Tryz.prog 88 #[u] w' fun e w'' => e = .returned (.string S) ∧ Keep [] w' w'') :
    Calls Tryz.prog 29 #[x.val u] w fun e w' => e = .returned (.tuple #[.string S, .int .i64 0]) ∧ Keep [] w w' := by
  have hs : ∃ a n c, u = .slice a n c := by
    obtain ⟨ao, ca, rfl, _⟩ := hu.ex
    exact ⟨ao, _, ca, rfl⟩
  have hC := fun w1 (k : Keep [] w w1) => check_yes x hx u w1 (hu.keep k (Off.nil _)) hm
  have hH := fun w1 => held_5 x h5 u hs w1
  have hT := fun w1 (k : Keep [] w w1) => literal_list u S w1 (hL w1 k)
  obtain ⟨ao, nn, ca, rfl⟩ := hs
  obtain ⟨kd, b, n, r, t, ts⟩ := x
  simp only [VD.val] at *
  clear hm hL hu hx h5
  go_enter Tryz.func29, Tryz.ntmps29
  go_wp2_with fail
  refine (hC _ (Keep.alloc1 w _)).mono ?_
  rintro e9 w1 ⟨rfl, k1⟩
  obtain ⟨c0, c1, c2, c3, c4, c5⟩ := one_cells k1
  have HK1 : Hid (Keep [] w w1) := (Keep.alloc1 w _).trans' k1
  clear k1 hC
  go_wp2_with fail
  refine (hH _).mono ?_
  rintro e9 w2 ⟨rfl, k2⟩
  have HK2 : Hid (Keep [] w w2) := HK1.out.trans' k2
  clear k2 HK1 c0 c1 c2 c3 c4 c5
  go_wp2_with fail
  refine (hT _ HK2.out).mono ?_
  rintro e9 w3 ⟨rfl, k3⟩
  have HK3 : Hid (Keep [] w w3) := HK2.out.trans' k3
  clear k3 HK2
  go_wp2
  go_ret2
  exact ⟨rfl, HK3.out⟩
end Go.Proofs.YtncbanpimfhhbaaGreatDoor

/- The list of two plain texts that a literal means. -/
namespace Go.Proofs.YtncbanpimfhhbaaGreatDoor
open Go.RowKit Go.PlainAid

/-- a value's box -/
structure P6 (w : World) (b : Nat) (v0 v1 v2 v3 v4 v5 : Value) : Prop where
  c0 : w.cell? ⟨b, 0, none⟩ = some v0
  c1 : w.cell? ⟨b, 1, none⟩ = some v1
  c2 : w.cell? ⟨b, 2, none⟩ = some v2
  c3 : w.cell? ⟨b, 3, none⟩ = some v3
  c4 : w.cell? ⟨b, 4, none⟩ = some v4
  c5 : w.cell? ⟨b, 5, none⟩ = some v5
  fz : ∀ j, w.frozen? ⟨b, j, none⟩ = false
theorem P6.lt {w : World} {b : Nat} {v0 v1 v2 v3 v4 v5 : Value} (h : P6 w b v0 v1 v2 v3 v4 v5) : b < w.heap.size := World.block_lt_of_cell? w _ h.c0
theorem P6.keep {F : List Nat} {w w' : World} {b : Nat} {v0 v1 v2 v3 v4 v5 : Value} (h : P6 w b v0 v1 v2 v3 v4 v5) (k : Keep F w w') (hb : b ∉ F) : P6 w' b v0 v1 v2 v3 v4 v5 :=
  ⟨k.cell' h.c0 hb, k.cell' h.c1 hb, k.cell' h.c2 hb, k.cell' h.c3 hb, k.cell' h.c4 hb, k.cell' h.c5 hb, fun j => (k.frozen h.lt hb).trans (h.fz j)⟩
theorem P6.first {w w' : World} {v0 v1 v2 v3 v4 v5 : Value} {t : TypeId} (k : Keep [] (w.alloc (.cells #[v0, v1, v2, v3, v4, v5] t)) w') : P6 w' w.heap.size v0 v1 v2 v3 v4 v5 := by
  obtain ⟨c0, c1, c2, c3, c4, c5⟩ := one_cells k
  exact ⟨c0, c1, c2, c3, c4, c5, fun j => (k.frozen (by simp) (by simp)).trans (by simp)⟩
theorem P6.set5 {w : World} {b : Nat} {v0 v1 v2 v3 v4 v5 : Value} (x : Value) (h : P6 w b v0 v1 v2 v3 v4 v5) : P6 (w.setCell ⟨b, 5, none⟩ x) b v0 v1 v2 v3 v4 x := by
  refine ⟨?_, ?_, ?_, ?_, ?_, ?_, ?_⟩
  · rw [World.cell?_setCell_other _ _ _ _ (by simp)]; exact h.c0
  · rw [World.cell?_setCell_other _ _ _ _ (by simp)]; exact h.c1
  · rw [World.cell?_setCell_other _ _ _ _ (by simp)]; exact h.c2
  · rw [World.cell?_setCell_other _ _ _ _ (by simp)]; exact h.c3
  · rw [World.cell?_setCell_other _ _ _ _ (by simp)]; exact h.c4
  · exact World.cell?_setCell_same _ _ _ (by exact h.c5)
  · intro j
    simp [h.fz j]
theorem P6.set6 {w : World} {b : Nat} {v0 v1 v2 v3 v4 v5 : Value} (x0 x1 x2 x3 x4 x5 : Value) (h : P6 w b v0 v1 v2 v3 v4 v5) : P6 ((((((w.setCell ⟨b, 0, none⟩ x0).setCell ⟨b, 1, none⟩ x1).setCell ⟨b, 2, none⟩ x2).setCell ⟨b, 3, none⟩ x3).setCell ⟨b, 4, none⟩ x4).setCell ⟨b, 5, none⟩ x5) b x0 x1 x2 x3 x4 x5 := by
  refine ⟨?_, ?_, ?_, ?_, ?_, ?_, ?_⟩
  · rw [World.cell?_setCell_other _ _ _ _ (by simp), World.cell?_setCell_other _ _ _ _ (by simp), World.cell?_setCell_other _ _ _ _ (by simp), World.cell?_setCell_other _ _ _ _ (by simp), World.cell?_setCell_other _ _ _ _ (by simp)]; exact World.cell?_setCell_same _ _ _ (by exact h.c0)
  · rw [World.cell?_setCell_other _ _ _ _ (by simp), World.cell?_setCell_other _ _ _ _ (by simp), World.cell?_setCell_other _ _ _ _ (by simp), World.cell?_setCell_other _ _ _ _ (by simp)]; exact World.cell?_setCell_same _ _ _ (by rw [World.cell?_setCell_other _ _ _ _ (by simp)]; exact h.c1)
  · rw [World.cell?_setCell_other _ _ _ _ (by simp), World.cell?_setCell_other _ _ _ _ (by simp), World.cell?_setCell_other _ _ _ _ (by simp)]; exact World.cell?_setCell_same _ _ _ (by rw [World.cell?_setCell_other _ _ _ _ (by simp), World.cell?_setCell_other _ _ _ _ (by simp)]; exact h.c2)
  · rw [World.cell?_setCell_other _ _ _ _ (by simp), World.cell?_setCell_other _ _ _ _ (by simp)]; exact World.cell?_setCell_same _ _ _ (by rw [World.cell?_setCell_other _ _ _ _ (by simp), World.cell?_setCell_other _ _ _ _ (by simp), World.cell?_setCell_other _ _ _ _ (by simp)]; exact h.c3)
  · rw [World.cell?_setCell_other _ _ _ _ (by simp)]; exact World.cell?_setCell_same _ _ _ (by rw [World.cell?_setCell_other _ _ _ _ (by simp), World.cell?_setCell_other _ _ _ _ (by simp), World.cell?_setCell_other _ _ _ _ (by simp), World.cell?_setCell_other _ _ _ _ (by simp)]; exact h.c4)
  · exact World.cell?_setCell_same _ _ _ (by rw [World.cell?_setCell_other _ _ _ _ (by simp), World.cell?_setCell_other _ _ _ _ (by simp), World.cell?_setCell_other _ _ _ _ (by simp), World.cell?_setCell_other _ _ _ _ (by simp), World.cell?_setCell_other _ _ _ _ (by simp)]; exact h.c5)
  · intro j
    simp [h.fz j]

/-- what holds while the list is read -/
structure Mt (w wr : World) (p q : Nat) (u : Value) (l : List ByteArray) : Prop where
  kp : Keep [] w wr
  bp : ∃ v0 v1 v2 v3 v4 v5, P6 wr p v0 v1 v2 v3 v4 v5
  bq : P6 wr q (.int .i64 5) (.bool false) (.int .i64 0) (.float .f32 0) (.string ⟨#[]⟩) u
  row : RowC wr 9 1 u l.length (strC l)
  own : ∀ k, u.ownBlock = some k → w.heap.size ≤ k ∧ k ≠ p ∧ k ≠ q
  new : w.heap.size ≤ p ∧ w.heap.size ≤ q ∧ p ≠ q
theorem Mt.keep {w wr w' : World} {p q : Nat} {u : Value} {l : List ByteArray} (h : Mt w wr p q u l) (k : Keep [] wr w') : Mt w w' p q u l := by
  obtain ⟨v0, v1, v2, v3, v4, v5, hp⟩ := h.bp
  exact ⟨h.kp.trans' k, ⟨_, _, _, _, _, _, hp.keep k (by simp)⟩, h.bq.keep k (by simp), h.row.keep k (Off.nil _), h.own, h.new⟩

end Go.Proofs.YtncbanpimfhhbaaGreatDoor

/- The literal of a list of two texts, read: meantTexts at that text. -/
namespace Go.Proofs.YtncbanpimfhhbaaGreatDoor
open Go.RowKit Go.PlainAid

theorem trimP_any (s p : List UInt8) (w : World) : Calls Tryz.prog 81 #[.string (ba s), .string (ba p)] w fun e w' => e = .returned (.string (ba (Lib.trimPrefix s p))) ∧ w' = w := by
  have h := Any.strings_TrimPrefix Tryz.lays101 (ba s) (ba p) w
  rw [ba_data, ba_data] at h
  exact h
theorem trimS_any (s p : List UInt8) (hs : s.length ≤ 1000) (w : World) : Calls Tryz.prog 80 #[.string (ba s), .string (ba p)] w fun e w' => e = .returned (.string (ba (Lib.trimSuffix s p))) ∧ w' = w := by
  have h := Any.strings_TrimSuffix Tryz.lays102 (ba s) (ba p) w (by rw [ba_size]; omega)
  rw [ba_data, ba_data] at h
  exact h
/-- the text: a list of a and the empty text -/
abbrev sQ : List UInt8 := [91, 34, 97, 34, 44, 32, 34, 34, 93]
theorem trim_1 (w : World) : Calls Tryz.prog 81 #[.string ⟨#[91, 34, 97, 34, 44, 32, 34, 34, 93]⟩, .string ⟨#[91]⟩] w fun e w' => e = .returned (.string ⟨#[34, 97, 34, 44, 32, 34, 34, 93]⟩) ∧ w' = w := trimP_any sQ [91] w
theorem trim_2 (w : World) : Calls Tryz.prog 80 #[.string ⟨#[34, 97, 34, 44, 32, 34, 34, 93]⟩, .string ⟨#[93]⟩] w fun e w' => e = .returned (.string ⟨#[34, 97, 34, 44, 32, 34, 34]⟩) ∧ w' = w := trimS_any [34, 97, 34, 44, 32, 34, 34, 93] [93] (by decide) w
theorem trim_3 (w : World) : Calls Tryz.prog 81 #[.string ⟨#[44, 32, 34, 34]⟩, .string ⟨#[44, 32]⟩] w fun e w' => e = .returned (.string ⟨#[34, 34]⟩) ∧ w' = w := trimP_any [44, 32, 34, 34] [44, 32] w
theorem trim_4 (w : World) : Calls Tryz.prog 81 #[.string ⟨#[]⟩, .string ⟨#[44, 32]⟩] w fun e w' => e = .returned (.string ⟨#[]⟩) ∧ w' = w := trimP_any [] [44, 32] w
theorem cut_1 (w : World) : Calls Tryz.prog 79 #[.string ⟨#[34, 97, 34, 44, 32, 34, 34]⟩] w fun e w' => e = .returned (.tuple #[.string ⟨#[97]⟩, .string ⟨#[44, 32, 34, 34]⟩, .bool true]) ∧ Keep [] w w' :=
  cutText_plain [97] [44, 32, 34, 34] w (by unfold Plain; decide) (by decide)
theorem cut_2 (w : World) : Calls Tryz.prog 79 #[.string ⟨#[34, 34]⟩] w fun e w' => e = .returned (.tuple #[.string ⟨#[]⟩, .string ⟨#[]⟩, .bool true]) ∧ Keep [] w w' :=
  cutText_plain [] [] w (by unfold Plain; decide) (by decide)

/-- the rest and the texts, as they are read -/
def stR : Nat → ByteArray
  | 0 => ⟨#[34, 97, 34, 44, 32, 34, 34]⟩
  | 1 => ⟨#[34, 34]⟩
  | _ => ⟨#[]⟩
def stL : Nat → List ByteArray
  | 0 => []
  | 1 => [⟨#[97]⟩]
  | _ => [⟨#[97]⟩, ⟨#[]⟩]

theorem row_sl {w : World} {E : TypeId} {s n : Nat} {u : Value} {xs : List Value} (h : RowC w E s u n xs) : ∃ a c, u = .slice a n c := by
  rcases h.2 with ⟨rfl, rfl⟩ | ⟨g, cap, _, rfl, _⟩
  · exact ⟨none, 0, rfl⟩
  · exact ⟨_, cap, rfl⟩
theorem RowC.texts2 {w : World} {v : Value} {l : List ByteArray} (h : RowC w 9 1 v l.length (strC l)) (hs : ∀ s ∈ l, s.size ≤ 9223372036854775807) : Ts w v l := by
  rcases h.cases with ⟨h0, _, rfl⟩ | ⟨g, cap, rfl, h1, h2, _, h4, _⟩
  · have : l = [] := List.length_eq_zero_iff.1 h0
    subst this
    exact Ts.nil w
  · refine ⟨some ⟨g, 0, none⟩, cap, by simp, by simpa using h1, h2, hs, fun _ => ⟨g, 0, rfl, fun j hj => ?_⟩⟩
    rw [Nat.zero_add, h4 j (by omega)]
    simp [strC, hj]
theorem Mt.next {w wr w1 : World} {p q : Nat} {u v' : Value} {l : List ByteArray} {O : Obj} {x : ByteArray} (h : Mt w wr p q u l) (K1 : Keep u.ownBlock.toList (wr.alloc O) w1) (R1 : RowC w1 9 1 v' (l.length + 1) (strC l ++ [.string x])) (F1 : v'.ownBlock = u.ownBlock ∨ Fresh (wr.alloc O) w1 v') :
    P6 w1 q (.int .i64 5) (.bool false) (.int .i64 0) (.float .f32 0) (.string ⟨#[]⟩) u ∧ Mt w (w1.setCell ⟨q, 5, none⟩ v') p q v' (l ++ [x]) := by
  have h0 := h.keep (Keep.alloc1 wr O)
  have hq : q ∉ u.ownBlock.toList := fun hm => (h.own q (by simpa using hm)).2.2 rfl
  have hp : p ∉ u.ownBlock.toList := fun hm => (h.own p (by simpa using hm)).2.1 rfl
  have P1 := h0.bq.keep K1 hq
  have KS : Keep [q] w1 (w1.setCell ⟨q, 5, none⟩ v') := (Keep.refl [q] w1).setCell (p := ⟨q, 5, none⟩) (.inl (by simp)) _
  have hown : ∀ k, v'.ownBlock = some k → w.heap.size ≤ k ∧ k ≠ p ∧ k ≠ q := by
    intro k hk
    rcases F1 with e | e
    · exact h.own k (by rw [← e]; exact hk)
    · have h1 := (e k hk).1
      have h2 := h0.kp.size
      obtain ⟨v0, v1, v2, v3, v4, v5, hp6⟩ := h0.bp
      have h3 := hp6.lt
      have h4 := h0.bq.lt
      omega
  obtain ⟨v0, v1, v2, v3, v4, v5, hp6⟩ := h0.bp
  refine ⟨P1, ⟨(h0.kp.more K1 (fun y hy => .inr (h.own y (by simpa using hy)).1)).more KS (fun y hy => .inr (by simp at hy; rw [hy]; exact h.new.2.1)), ⟨_, _, _, _, _, _, (hp6.keep K1 hp).keep KS (by simp; exact h.new.2.2)⟩, P1.set5 _, ?_, hown, h.new⟩⟩
  have hoff : Off v' [q] := fun k hk hm => by
    have := (hown k hk).2.2
    simp at hm
    exact this hm
  have := R1.keep KS hoff
  simpa [strC_snoc] using this

set_option maxRecDepth 1000000 in
set_option maxHeartbeats 1600000 in
theorem meantTexts_q (w : World) : Calls Tryz.prog 55 #[.string ⟨#[91, 34, 97, 34, 44, 32, 34, 34, 93]⟩] w fun e w' => ∃ u, e = .returned ((VL [⟨#[97]⟩, ⟨#[]⟩]).val u) ∧ Ts w' u [⟨#[97]⟩, ⟨#[]⟩] ∧ (∀ k, u.ownBlock = some k → w.heap.size ≤ k) ∧ Keep [] w w' := by
  have hsf := store_f32
  simp only [Go.stored] at hsf
  go_enter Tryz.func55, Tryz.ntmps55
  go_wp2_with fail
  refine (trim_1 _).mono ?_
  rintro e9 w9 ⟨rfl, hw9⟩
  obtain rfl := hw9.symm
  clear hw9
  go_wp2_with fail
  refine (trim_2 _).mono ?_
  rintro e9 w9 ⟨rfl, hw9⟩
  obtain rfl := hw9.symm
  clear hw9
  go_wp2
  have HM0 : Hid (Mt w ((w.alloc (.cells #[.int .i64 0, .bool false, .int .i64 0, .float .f32 0, .string ⟨#[]⟩, .slice none 0 0] 31)).alloc (.cells #[.int .i64 5, .bool false, .int .i64 0, .float .f32 0, .string ⟨#[]⟩, .slice none 0 0] 31)) w.heap.size (w.heap.size + 1) (.slice none 0 0) []) := by
    have k1 : Keep [] (w.alloc (.cells #[.int .i64 0, .bool false, .int .i64 0, .float .f32 0, .string ⟨#[]⟩, .slice none 0 0] 31)) ((w.alloc (.cells #[.int .i64 0, .bool false, .int .i64 0, .float .f32 0, .string ⟨#[]⟩, .slice none 0 0] 31)).alloc (.cells #[.int .i64 5, .bool false, .int .i64 0, .float .f32 0, .string ⟨#[]⟩, .slice none 0 0] 31)) := Keep.alloc1 _ _
    have h2 : P6 ((w.alloc (.cells #[.int .i64 0, .bool false, .int .i64 0, .float .f32 0, .string ⟨#[]⟩, .slice none 0 0] 31)).alloc (.cells #[.int .i64 5, .bool false, .int .i64 0, .float .f32 0, .string ⟨#[]⟩, .slice none 0 0] 31)) (w.heap.size + 1) (.int .i64 5) (.bool false) (.int .i64 0) (.float .f32 0) (.string ⟨#[]⟩) (.slice none 0 0) := by
      have := P6.first (Keep.refl [] ((w.alloc (.cells #[.int .i64 0, .bool false, .int .i64 0, .float .f32 0, .string ⟨#[]⟩, .slice none 0 0] 31)).alloc (.cells #[.int .i64 5, .bool false, .int .i64 0, .float .f32 0, .string ⟨#[]⟩, .slice none 0 0] 31)))
      simpa using this
    exact ⟨(Keep.alloc1 w _).trans' k1, ⟨_, _, _, _, _, _, P6.first k1⟩, h2, World.ownsRow_nil _ 0 9 1, (fun k hk => by simp [Value.ownBlock] at hk), by omega, by omega, by omega⟩
  obtain ⟨p, HPp⟩ : ∃ p, Hid (p = w.heap.size) := ⟨_, show _ = _ from rfl⟩
  obtain ⟨q, HQq⟩ : ∃ q, Hid (q = w.heap.size + 1) := ⟨_, show _ = _ from rfl⟩
  rw [← HQq.out, ← HPp.out] at HM0 ⊢
  generalize ((w.alloc (.cells #[.int .i64 0, .bool false, .int .i64 0, .float .f32 0, .string ⟨#[]⟩, .slice none 0 0] 31)).alloc (.cells #[.int .i64 5, .bool false, .int .i64 0, .float .f32 0, .string ⟨#[]⟩, .slice none 0 0] 31)) = W0 at HM0 ⊢
  clear HPp HQq
  go_loopw [4] (fun rest wr => ∃ (k : Nat) (u : Value), k ≤ 2 ∧ rest = .string (stR k) ∧ Hid (Mt w wr p q u (stL k))) (fun rest _ => vsz rest)
  case atStart => exact ⟨0, _, by omega, rfl, HM0⟩
  case round =>
    obtain ⟨k, u, hk, rfl, HI⟩ := hrel
    have : k = 0 ∨ k = 1 ∨ k = 2 := by omega
    rcases this with rfl | rfl | rfl
    · obtain ⟨au, cu, hu⟩ := row_sl HI.out.row
      subst hu
      simp only [stR, stL] at HI ⊢
      go_wp2_with fail
      refine (cut_1 _).mono ?_
      rintro e9 w9 ⟨rfl, K9⟩
      have HM9 : Hid _ := HI.out.keep K9
      clear K9 HI
      obtain ⟨c0, c1, c2, c3, c4, c5, cz⟩ := HM9.out.bq
      have HR9 : Hid (∀ O, RowC (w9.alloc O) 9 1 _ _ _) := fun O => (HM9.out.keep (Keep.alloc1 w9 O)).row
      go_wp2_with (at_builtin; refine wp_appC infoS rfl rfl (.tmp 24) (.tmp 26) 29 29 rfl Tryz.underlying29 (.slice au _ cu) _ _ rfl (HR9.out _) (.slice (some ⟨w9.heap.size, 0, none⟩) 1 1) 1 [.string ⟨#[97]⟩] rfl (src_str w9 _) (by simp) (by simp [maxLen]) ?_)
      intro v' w1 R1 K1 F1 S1 _
      obtain ⟨a9, c9, rfl⟩ := S1
      obtain ⟨P1, M1⟩ := HM9.out.next (x := ⟨#[97]⟩) K1 R1 F1
      have HM1 : Hid _ := M1
      clear c0 c1 c2 c3 c4 c5 cz R1 K1 F1 M1 HM9 HR9
      obtain ⟨c0, c1, c2, c3, c4, c5, cz⟩ := P1
      go_wp2_with fail
      refine (trim_3 _).mono ?_
      rintro e9 w8 ⟨rfl, hw8⟩
      obtain rfl := hw8.symm
      clear hw8
      go_wp2
      go_roundw
      case rel => exact ⟨1, _, by omega, rfl, HM1⟩
      case measure => decide
    · obtain ⟨au, cu, hu⟩ := row_sl HI.out.row
      subst hu
      simp only [stR, stL] at HI ⊢
      go_wp2_with fail
      refine (cut_2 _).mono ?_
      rintro e9 w9 ⟨rfl, K9⟩
      have HM9 : Hid _ := HI.out.keep K9
      clear K9 HI
      obtain ⟨c0, c1, c2, c3, c4, c5, cz⟩ := HM9.out.bq
      have HR9 : Hid (∀ O, RowC (w9.alloc O) 9 1 _ _ _) := fun O => (HM9.out.keep (Keep.alloc1 w9 O)).row
      go_wp2_with (at_builtin; refine wp_appC infoS rfl rfl (.tmp 24) (.tmp 26) 29 29 rfl Tryz.underlying29 (.slice au _ cu) _ _ rfl (HR9.out _) (.slice (some ⟨w9.heap.size, 0, none⟩) 1 1) 1 [.string ⟨#[]⟩] rfl (src_str w9 _) (by simp) (by simp [maxLen]) ?_)
      intro v' w1 R1 K1 F1 S1 _
      obtain ⟨a9, c9, rfl⟩ := S1
      obtain ⟨P1, M1⟩ := HM9.out.next (x := ⟨#[]⟩) K1 R1 F1
      have HM1 : Hid _ := M1
      clear c0 c1 c2 c3 c4 c5 cz R1 K1 F1 M1 HM9 HR9
      obtain ⟨c0, c1, c2, c3, c4, c5, cz⟩ := P1
      go_wp2_with fail
      refine (trim_4 _).mono ?_
      rintro e9 w8 ⟨rfl, hw8⟩
      obtain rfl := hw8.symm
      clear hw8
      go_wp2
      go_roundw
      case rel => exact ⟨2, _, by omega, rfl, HM1⟩
      case measure => decide
    · obtain ⟨au, cu, hu⟩ := row_sl HI.out.row
      subst hu
      simp only [stR, stL] at HI ⊢
      obtain ⟨c0, c1, c2, c3, c4, c5, cz⟩ := HI.out.bq
      obtain ⟨v0, v1, v2, v3, v4, v5, hp6⟩ := HI.out.bp
      have HP6 : Hid (P6 wr p v0 v1 v2 v3 v4 v5) := hp6
      obtain ⟨d0, d1, d2, d3, d4, d5, dz⟩ := hp6
      have hne1 : ¬ p = q := HI.out.new.2.2
      have hne2 : ¬ q = p := fun e => HI.out.new.2.2 e.symm
      go_wp2
      have hW := HP6.out.set6 (.int .i64 5) (.bool false) (.int .i64 0) (.float .f32 0) (.string ⟨#[]⟩) (.slice au 2 cu)
      have KS : Keep [p] wr ((((((wr.setCell ⟨p, 0, none⟩ (.int .i64 5)).setCell ⟨p, 1, none⟩ (.bool false)).setCell ⟨p, 2, none⟩ (.int .i64 0)).setCell ⟨p, 3, none⟩ (.float .f32 0)).setCell ⟨p, 4, none⟩ (.string ⟨#[]⟩)).setCell ⟨p, 5, none⟩ (.slice au 2 cu)) := ((((((Keep.refl [p] wr).setCell (p := ⟨p, 0, none⟩) (.inl (by simp)) _).setCell (p := ⟨p, 1, none⟩) (.inl (by simp)) _).setCell (p := ⟨p, 2, none⟩) (.inl (by simp)) _).setCell (p := ⟨p, 3, none⟩) (.inl (by simp)) _).setCell (p := ⟨p, 4, none⟩) (.inl (by simp)) _).setCell (p := ⟨p, 5, none⟩) (.inl (by simp)) _
      have HKF := HI.out.kp.more KS (fun x hx => .inr (by simp at hx; rw [hx]; exact HI.out.new.1))
      have hoff : Off (.slice au 2 cu) [p] := fun k hk hm => by
        have := (HI.out.own k hk).2.1
        simp at hm
        exact this hm
      have HR := HI.out.row.keep KS hoff
      generalize ((((((wr.setCell ⟨p, 0, none⟩ (.int .i64 5)).setCell ⟨p, 1, none⟩ (.bool false)).setCell ⟨p, 2, none⟩ (.int .i64 0)).setCell ⟨p, 3, none⟩ (.float .f32 0)).setCell ⟨p, 4, none⟩ (.string ⟨#[]⟩)).setCell ⟨p, 5, none⟩ (.slice au 2 cu)) = WW at hW HKF HR ⊢
      clear KS
      obtain ⟨r0, r1, r2, r3, r4, r5, _⟩ := hW
      refine bodyPost_ret (v := (VL [⟨#[97]⟩, ⟨#[]⟩]).val (.slice au 2 cu)) (by simp [results, Tryz.results55, go_sem, r0, r1, r2, r3, r4, r5]) rfl ⟨_, rfl, ?_, (fun k hk => (HI.out.own k hk).1), HKF⟩
      exact RowC.texts2 HR (by intro s hs; simp at hs; rcases hs with rfl | rfl <;> decide)
end Go.Proofs.YtncbanpimfhhbaaGreatDoor

/- What the literal of a list of a and the empty text means: meant and Parse at it. -/
namespace Go.Proofs.YtncbanpimfhhbaaGreatDoor
open Go.RowKit Go.PlainAid

theorem has_1 (w : World) : Calls Tryz.prog 53 #[.string ⟨#[91, 34, 97, 34, 44, 32, 34, 34, 93]⟩, .string ⟨#[34]⟩] w fun e w' => e = .returned (.bool false) ∧ w' = w := has_any sQ [34] w
theorem has_2 (w : World) : Calls Tryz.prog 53 #[.string ⟨#[91, 34, 97, 34, 44, 32, 34, 34, 93]⟩, .string ⟨#[91]⟩] w fun e w' => e = .returned (.bool true) ∧ w' = w := has_any sQ [91] w

/-- six stores into a fresh box: what stands there then -/
theorem six {w0 w : World} {p : Nat} {v0 v1 v2 v3 v4 v5 : Value} (h : P6 w p v0 v1 v2 v3 v4 v5) (hk : Keep [] w0 w) (hp : w0.heap.size ≤ p) (x0 x1 x2 x3 x4 x5 : Value) :
    P6 ((((((w.setCell ⟨p, 0, none⟩ x0).setCell ⟨p, 1, none⟩ x1).setCell ⟨p, 2, none⟩ x2).setCell ⟨p, 3, none⟩ x3).setCell ⟨p, 4, none⟩ x4).setCell ⟨p, 5, none⟩ x5) p x0 x1 x2 x3 x4 x5 ∧
    Keep [] w0 ((((((w.setCell ⟨p, 0, none⟩ x0).setCell ⟨p, 1, none⟩ x1).setCell ⟨p, 2, none⟩ x2).setCell ⟨p, 3, none⟩ x3).setCell ⟨p, 4, none⟩ x4).setCell ⟨p, 5, none⟩ x5) ∧
    Keep [p] w ((((((w.setCell ⟨p, 0, none⟩ x0).setCell ⟨p, 1, none⟩ x1).setCell ⟨p, 2, none⟩ x2).setCell ⟨p, 3, none⟩ x3).setCell ⟨p, 4, none⟩ x4).setCell ⟨p, 5, none⟩ x5) := by
  have KS : Keep [p] w ((((((w.setCell ⟨p, 0, none⟩ x0).setCell ⟨p, 1, none⟩ x1).setCell ⟨p, 2, none⟩ x2).setCell ⟨p, 3, none⟩ x3).setCell ⟨p, 4, none⟩ x4).setCell ⟨p, 5, none⟩ x5) := ((((((Keep.refl [p] w).setCell (p := ⟨p, 0, none⟩) (.inl (by simp)) _).setCell (p := ⟨p, 1, none⟩) (.inl (by simp)) _).setCell (p := ⟨p, 2, none⟩) (.inl (by simp)) _).setCell (p := ⟨p, 3, none⟩) (.inl (by simp)) _).setCell (p := ⟨p, 4, none⟩) (.inl (by simp)) _).setCell (p := ⟨p, 5, none⟩) (.inl (by simp)) _
  exact ⟨h.set6 x0 x1 x2 x3 x4 x5, hk.more KS (fun x hx => .inr (by simp at hx; omega)), KS⟩

set_option maxRecDepth 1000000 in
theorem meant_q (w : World) : Calls Tryz.prog 28 #[.string ⟨#[91, 34, 97, 34, 44, 32, 34, 34, 93]⟩] w fun e w' => ∃ u, e = .returned ((VL [⟨#[97]⟩, ⟨#[]⟩]).val u) ∧ Ts w' u [⟨#[97]⟩, ⟨#[]⟩] ∧ (∀ k, u.ownBlock = some k → w.heap.size ≤ k) ∧ Keep [] w w' := by
  have hsf := store_f32
  simp only [Go.stored] at hsf
  go_enter Tryz.func28, Tryz.ntmps28
  go_wp2_with fail
  refine (has_1 _).mono ?_
  rintro e9 w9 ⟨rfl, hw9⟩
  obtain rfl := hw9.symm
  clear hw9
  go_wp2_with fail
  refine (has_2 _).mono ?_
  rintro e9 w9 ⟨rfl, hw9⟩
  obtain rfl := hw9.symm
  clear hw9
  go_wp2_with fail
  refine (meantTexts_q _).mono ?_
  rintro e9 w9 ⟨u, rfl, hu, ho, k1⟩
  have HK : Hid (Keep [] w w9) := (Keep.alloc1 w _).trans' k1
  have HP6 : Hid _ := P6.first k1
  obtain ⟨au, cu, hsl, _⟩ := hu.ex
  have HU : Hid (Ts w9 u _) := hu
  have HO : Hid (∀ k, u.ownBlock = some k → w.heap.size + 1 ≤ k) := fun k hk => by have := ho k hk; simpa using this
  subst hsl
  obtain ⟨d0, d1, d2, d3, d4, d5, dz⟩ := HP6.out
  clear k1 hu ho
  go_wp2
  have HS := six HP6.out HK.out (Nat.le_refl _) (.int .i64 5) (.bool false) (.int .i64 0) (.float .f32 0) (.string ⟨#[]⟩) (.slice au 2 cu)
  generalize ((((((w9.setCell ⟨w.heap.size, 0, none⟩ (.int .i64 5)).setCell ⟨w.heap.size, 1, none⟩ (.bool false)).setCell ⟨w.heap.size, 2, none⟩ (.int .i64 0)).setCell ⟨w.heap.size, 3, none⟩ (.float .f32 0)).setCell ⟨w.heap.size, 4, none⟩ (.string ⟨#[]⟩)).setCell ⟨w.heap.size, 5, none⟩ (.slice au 2 cu)) = WW at HS ⊢
  obtain ⟨⟨r0, r1, r2, r3, r4, r5, _⟩, HKF, KS⟩ := HS
  refine bodyPost_ret (v := (VL [⟨#[97]⟩, ⟨#[]⟩]).val (.slice au 2 cu)) (by simp [results, Tryz.results28, go_sem, r0, r1, r2, r3, r4, r5]) rfl ⟨_, rfl, ?_, (fun k hk => by have := HO.out k hk; omega), HKF⟩
  exact HU.out.keep KS (fun k hk hm => by have := HO.out k hk; simp at hm; omega)

theorem VL_ok : (VL [⟨#[97]⟩, ⟨#[]⟩]).Ok := by constructor <;> decide
theorem VL_may : (VL [⟨#[97]⟩, ⟨#[]⟩]).mayB = true := by decide
theorem text_q (u : Value) (w : World) (hu : Ts w u [⟨#[97]⟩, ⟨#[]⟩]) : Calls Tryz.prog 29 #[(VL [⟨#[97]⟩, ⟨#[]⟩]).val u] w fun e w' => e = .returned (.tuple #[.string ⟨#[91, 34, 97, 34, 44, 32, 34, 34, 93]⟩, .int .i64 0]) ∧ Keep [] w w' :=
  text_list _ VL_ok rfl VL_may u _ w hu (fun w' k => listed_two [97] [] u w' (hu.keep k (Off.nil _)) (by unfold Plain; decide) (by unfold Plain; decide) (by decide) (by decide))

set_option maxRecDepth 1000000 in
theorem parse_q (w : World) : Calls Tryz.prog 14 #[.string ⟨#[91, 34, 97, 34, 44, 32, 34, 34, 93]⟩] w fun e w' => ∃ u, e = .returned (.tuple #[(VL [⟨#[97]⟩, ⟨#[]⟩]).val u, .int .i64 0]) ∧ Ts w' u [⟨#[97]⟩, ⟨#[]⟩] ∧ (∀ k, u.ownBlock = some k → w.heap.size ≤ k) ∧ Keep [] w w' := by
  have hsf := store_f32
  simp only [Go.stored] at hsf
  go_enter Tryz.func14, Tryz.ntmps14
  go_wp2_with fail
  refine (meant_q _).mono ?_
  rintro e9 w9 ⟨u, rfl, hu, ho, k1⟩
  have HK : Hid (Keep [] w w9) := (Keep.alloc1 w _).trans' k1
  have HP6 : Hid _ := P6.first k1
  obtain ⟨au, cu, hsl, _⟩ := hu.ex
  have HU : Hid (Ts w9 u _) := hu
  have HO : Hid (∀ k, u.ownBlock = some k → w.heap.size + 1 ≤ k) := fun k hk => by have := ho k hk; simpa using this
  subst hsl
  clear k1 hu ho
  go_wp2_with fail
  refine (text_q _ _ (HU.out.keep (Keep.alloc1 w9 _) (Off.nil _))).mono ?_
  rintro e9 w8 ⟨rfl, k1⟩
  have HK8 : Hid (Keep [] w w8) := (HK.out.alloc _).trans' k1
  have HP8 : Hid _ := (HP6.out.keep (Keep.alloc1 w9 _) (by simp)).keep k1 (by simp)
  have HU8 : Hid _ := (HU.out.keep (Keep.alloc1 w9 _) (Off.nil _)).keep k1 (Off.nil _)
  have HQ8 : Hid _ := P6.first k1
  have hne1 : ¬ w9.heap.size = w.heap.size := by have := HP6.out.lt; omega
  have hne2 : ¬ w.heap.size = w9.heap.size := by have := HP6.out.lt; omega
  clear k1 HK HU
  obtain ⟨d0, d1, d2, d3, d4, d5, dz⟩ := HP8.out
  obtain ⟨c0, c1, c2, c3, c4, c5, cz⟩ := HQ8.out
  go_wp2
  have HS := six HP8.out HK8.out (Nat.le_refl _) (.int .i64 5) (.bool false) (.int .i64 0) (.float .f32 0) (.string ⟨#[]⟩) (.slice au 2 cu)
  generalize ((((((w8.setCell ⟨w.heap.size, 0, none⟩ (.int .i64 5)).setCell ⟨w.heap.size, 1, none⟩ (.bool false)).setCell ⟨w.heap.size, 2, none⟩ (.int .i64 0)).setCell ⟨w.heap.size, 3, none⟩ (.float .f32 0)).setCell ⟨w.heap.size, 4, none⟩ (.string ⟨#[]⟩)).setCell ⟨w.heap.size, 5, none⟩ (.slice au 2 cu)) = WW at HS ⊢
  obtain ⟨⟨r0, r1, r2, r3, r4, r5, _⟩, HKF, KS⟩ := HS
  refine bodyPost_ret (v := .tuple #[(VL [⟨#[97]⟩, ⟨#[]⟩]).val (.slice au 2 cu), .int .i64 0]) (by simp [results, Tryz.results14, go_sem, r0, r1, r2, r3, r4, r5]) rfl ⟨_, rfl, ?_, (fun k hk => by have := HO.out k hk; omega), HKF⟩
  exact HU8.out.keep KS (fun k hk hm => by have := HO.out k hk; simp at hm; omega)
end Go.Proofs.YtncbanpimfhhbaaGreatDoor
