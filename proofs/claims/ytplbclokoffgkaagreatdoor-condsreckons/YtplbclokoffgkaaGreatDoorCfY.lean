/- Conditions: the expressions of CondsReckons. -/
import Derived.Test.YtplbclokoffgkaaGreatDoorCfV
import Derived.Deep.Cut

namespace Go.Proofs.YtplbclokoffgkaaGreatDoor
open Go.RowKit Go.PlainAid Go.Shelf

/-- a whole number as a worth; none, if it isn't one of 64 bits -/
def wZ (z : Int) : Wo := if In64 z then .wh z else .no
theorem wZ_enc (z : Int) : (wZ z).enc = wholeW z := by
  unfold wZ wholeW
  split <;> rfl
def wC (a : Wo) (z : Int) : Wo := match a with
  | .wh m => .tr (cmpB 9 (cmpI m z))
  | _ => .no
theorem kd_plus (Z : Int) : Kd PXY [⟨9, ⟨#[]⟩, 0, 0⟩, ⟨7, ⟨#[]⟩, 0, 0⟩, ⟨2, ⟨#[120]⟩, 0, 0⟩, ⟨2, ⟨#[121]⟩, 0, 0⟩, ⟨1, ⟨#[]⟩, 2, Z⟩] [1, 2, 2, 2, 2] (fun _ => 0) := by
  refine ⟨rfl, ?_, ?_, ?_, ?_⟩
  · intro x hx
    simp at hx
    rcases hx with rfl | rfl | rfl | rfl | rfl <;> simp [Pt.sp]
  · intro j i h hi
    have hi3 : i < 5 := hi
    match i, hi3 with
    | 0, _ =>
      obtain rfl : j = 4 := by simp at h; omega
      show 2 ≤ 2
      decide
    | 1, _ =>
      obtain rfl : j = 3 := by simp at h; omega
      show 2 ≤ 3
      decide
    | 2, _ =>
      obtain rfl : j = 2 := by simp at h; omega
      show 0 ≤ 2
      decide
    | 3, _ =>
      obtain rfl : j = 1 := by simp at h; omega
      show 0 ≤ 1
      decide
    | 4, _ =>
      obtain rfl : j = 0 := by simp at h; omega
      show 0 ≤ 0
      decide
  · intro j hj
    have hj3 : j < 6 := by simp at hj; omega
    match j, hj3 with
    | 0, _ => show 0 ≤ 100; decide
    | 1, _ => show 1 ≤ 100; decide
    | 2, _ => show 2 ≤ 100; decide
    | 3, _ => show 3 ≤ 100; decide
    | 4, _ => show 2 ≤ 100; decide
    | 5, _ => show 1 ≤ 100; decide
  · intro j i h hi
    have hi3 : i < 5 := hi
    match i, hi3 with
    | 0, _ =>
      obtain rfl : j = 4 := by simp at h; omega
      show pk PXY ⟨9, ⟨#[]⟩, 0, 0⟩ 2 2 = (1, 0)
      rfl
    | 1, _ =>
      obtain rfl : j = 3 := by simp at h; omega
      show pk PXY ⟨7, ⟨#[]⟩, 0, 0⟩ 2 2 = (2, 0)
      rfl
    | 2, _ =>
      obtain rfl : j = 2 := by simp at h; omega
      show pk PXY ⟨2, ⟨#[120]⟩, 0, 0⟩ 0 0 = (2, 0)
      simp [pk, errK, pk_x]
    | 3, _ =>
      obtain rfl : j = 1 := by simp at h; omega
      show pk PXY ⟨2, ⟨#[121]⟩, 0, 0⟩ 0 0 = (2, 0)
      simp [pk, errK, pk_y]
    | 4, _ =>
      obtain rfl : j = 0 := by simp at h; omega
      show pk PXY ⟨1, ⟨#[]⟩, 2, Z⟩ 0 0 = (2, 0)
      rfl
theorem we_plus (X Y Z : Int) (hX : In64 X) (hY : In64 Y) (hZ : In64 Z) : We PXY (AXY X Y) [⟨9, ⟨#[]⟩, 0, 0⟩, ⟨7, ⟨#[]⟩, 0, 0⟩, ⟨2, ⟨#[120]⟩, 0, 0⟩, ⟨2, ⟨#[121]⟩, 0, 0⟩, ⟨1, ⟨#[]⟩, 2, Z⟩] [(wC (wZ (X + Y)) Z), (wZ (X + Y)), (Wo.wh X), (Wo.wh Y), (Wo.wh Z)] := by
  refine ⟨rfl, ?_, ?_, ?_⟩
  · intro j i h hi
    have hi3 : i < 5 := hi
    match i, hi3 with
    | 0, _ =>
      obtain rfl : j = 4 := by simp at h; omega
      show 2 ≤ 2
      decide
    | 1, _ =>
      obtain rfl : j = 3 := by simp at h; omega
      show 2 ≤ 3
      decide
    | 2, _ =>
      obtain rfl : j = 2 := by simp at h; omega
      show 0 ≤ 2
      decide
    | 3, _ =>
      obtain rfl : j = 1 := by simp at h; omega
      show 0 ≤ 1
      decide
    | 4, _ =>
      obtain rfl : j = 0 := by simp at h; omega
      show 0 ≤ 0
      decide
  · intro j hj
    have hj3 : j < 6 := by simp at hj; omega
    match j, hj3 with
    | 0, _ => show 0 ≤ 100; decide
    | 1, _ => show 1 ≤ 100; decide
    | 2, _ => show 2 ≤ 100; decide
    | 3, _ => show 3 ≤ 100; decide
    | 4, _ => show 2 ≤ 100; decide
    | 5, _ => show 1 ≤ 100; decide
  · intro j i h hi
    have hi3 : i < 5 := hi
    match i, hi3 with
    | 0, _ =>
      obtain rfl : j = 4 := by simp at h; omega
      show Wc PXY (AXY X Y) ⟨9, ⟨#[]⟩, 0, 0⟩ (wZ (X + Y)) (Wo.wh Z) (wC (wZ (X + Y)) Z)
      refine .inr (.inr (.inr (.inr ⟨.inl rfl, ?_⟩)))
      unfold wZ
      split
      next hs => exact .inr ⟨_, Z, hs, hZ, rfl, rfl, rfl⟩
      next hs => exact .inl ⟨rfl, rfl⟩
    | 1, _ =>
      obtain rfl : j = 3 := by simp at h; omega
      show Wc PXY (AXY X Y) ⟨7, ⟨#[]⟩, 0, 0⟩ (Wo.wh X) (Wo.wh Y) (wZ (X + Y))
      exact .inr (.inr (.inr (.inl ⟨.inr (.inr (.inl rfl)), X, Y, rfl, rfl, fun w1 => by rw [wZ_enc]; exact plus_any X Y hX hY w1⟩)))
    | 2, _ =>
      obtain rfl : j = 2 := by simp at h; omega
      show Wc PXY (AXY X Y) ⟨2, ⟨#[120]⟩, 0, 0⟩ Wo.no Wo.no (Wo.wh X)
      exact .inr (.inl ⟨rfl, 0, X, at_x X Y, fun _ => rfl, pk_x, rfl⟩)
    | 3, _ =>
      obtain rfl : j = 1 := by simp at h; omega
      show Wc PXY (AXY X Y) ⟨2, ⟨#[121]⟩, 0, 0⟩ Wo.no Wo.no (Wo.wh Y)
      exact .inr (.inl ⟨rfl, 1, Y, at_y X Y, fun _ => rfl, pk_y, rfl⟩)
    | 4, _ =>
      obtain rfl : j = 0 := by simp at h; omega
      show Wc PXY (AXY X Y) ⟨1, ⟨#[]⟩, 2, Z⟩ Wo.no Wo.no (Wo.wh Z)
      exact .inl ⟨rfl, rfl, rfl⟩
theorem kd_less (Z : Int) : Kd PXY [⟨9, ⟨#[]⟩, 0, 0⟩, ⟨8, ⟨#[]⟩, 0, 0⟩, ⟨2, ⟨#[120]⟩, 0, 0⟩, ⟨2, ⟨#[121]⟩, 0, 0⟩, ⟨1, ⟨#[]⟩, 2, Z⟩] [1, 2, 2, 2, 2] (fun _ => 0) := by
  refine ⟨rfl, ?_, ?_, ?_, ?_⟩
  · intro x hx
    simp at hx
    rcases hx with rfl | rfl | rfl | rfl | rfl <;> simp [Pt.sp]
  · intro j i h hi
    have hi3 : i < 5 := hi
    match i, hi3 with
    | 0, _ =>
      obtain rfl : j = 4 := by simp at h; omega
      show 2 ≤ 2
      decide
    | 1, _ =>
      obtain rfl : j = 3 := by simp at h; omega
      show 2 ≤ 3
      decide
    | 2, _ =>
      obtain rfl : j = 2 := by simp at h; omega
      show 0 ≤ 2
      decide
    | 3, _ =>
      obtain rfl : j = 1 := by simp at h; omega
      show 0 ≤ 1
      decide
    | 4, _ =>
      obtain rfl : j = 0 := by simp at h; omega
      show 0 ≤ 0
      decide
  · intro j hj
    have hj3 : j < 6 := by simp at hj; omega
    match j, hj3 with
    | 0, _ => show 0 ≤ 100; decide
    | 1, _ => show 1 ≤ 100; decide
    | 2, _ => show 2 ≤ 100; decide
    | 3, _ => show 3 ≤ 100; decide
    | 4, _ => show 2 ≤ 100; decide
    | 5, _ => show 1 ≤ 100; decide
  · intro j i h hi
    have hi3 : i < 5 := hi
    match i, hi3 with
    | 0, _ =>
      obtain rfl : j = 4 := by simp at h; omega
      show pk PXY ⟨9, ⟨#[]⟩, 0, 0⟩ 2 2 = (1, 0)
      rfl
    | 1, _ =>
      obtain rfl : j = 3 := by simp at h; omega
      show pk PXY ⟨8, ⟨#[]⟩, 0, 0⟩ 2 2 = (2, 0)
      rfl
    | 2, _ =>
      obtain rfl : j = 2 := by simp at h; omega
      show pk PXY ⟨2, ⟨#[120]⟩, 0, 0⟩ 0 0 = (2, 0)
      simp [pk, errK, pk_x]
    | 3, _ =>
      obtain rfl : j = 1 := by simp at h; omega
      show pk PXY ⟨2, ⟨#[121]⟩, 0, 0⟩ 0 0 = (2, 0)
      simp [pk, errK, pk_y]
    | 4, _ =>
      obtain rfl : j = 0 := by simp at h; omega
      show pk PXY ⟨1, ⟨#[]⟩, 2, Z⟩ 0 0 = (2, 0)
      rfl
theorem we_less (X Y Z : Int) (hX : In64 X) (hY : In64 Y) (hZ : In64 Z) : We PXY (AXY X Y) [⟨9, ⟨#[]⟩, 0, 0⟩, ⟨8, ⟨#[]⟩, 0, 0⟩, ⟨2, ⟨#[120]⟩, 0, 0⟩, ⟨2, ⟨#[121]⟩, 0, 0⟩, ⟨1, ⟨#[]⟩, 2, Z⟩] [(wC (wZ (X - Y)) Z), (wZ (X - Y)), (Wo.wh X), (Wo.wh Y), (Wo.wh Z)] := by
  refine ⟨rfl, ?_, ?_, ?_⟩
  · intro j i h hi
    have hi3 : i < 5 := hi
    match i, hi3 with
    | 0, _ =>
      obtain rfl : j = 4 := by simp at h; omega
      show 2 ≤ 2
      decide
    | 1, _ =>
      obtain rfl : j = 3 := by simp at h; omega
      show 2 ≤ 3
      decide
    | 2, _ =>
      obtain rfl : j = 2 := by simp at h; omega
      show 0 ≤ 2
      decide
    | 3, _ =>
      obtain rfl : j = 1 := by simp at h; omega
      show 0 ≤ 1
      decide
    | 4, _ =>
      obtain rfl : j = 0 := by simp at h; omega
      show 0 ≤ 0
      decide
  · intro j hj
    have hj3 : j < 6 := by simp at hj; omega
    match j, hj3 with
    | 0, _ => show 0 ≤ 100; decide
    | 1, _ => show 1 ≤ 100; decide
    | 2, _ => show 2 ≤ 100; decide
    | 3, _ => show 3 ≤ 100; decide
    | 4, _ => show 2 ≤ 100; decide
    | 5, _ => show 1 ≤ 100; decide
  · intro j i h hi
    have hi3 : i < 5 := hi
    match i, hi3 with
    | 0, _ =>
      obtain rfl : j = 4 := by simp at h; omega
      show Wc PXY (AXY X Y) ⟨9, ⟨#[]⟩, 0, 0⟩ (wZ (X - Y)) (Wo.wh Z) (wC (wZ (X - Y)) Z)
      refine .inr (.inr (.inr (.inr ⟨.inl rfl, ?_⟩)))
      unfold wZ
      split
      next hs => exact .inr ⟨_, Z, hs, hZ, rfl, rfl, rfl⟩
      next hs => exact .inl ⟨rfl, rfl⟩
    | 1, _ =>
      obtain rfl : j = 3 := by simp at h; omega
      show Wc PXY (AXY X Y) ⟨8, ⟨#[]⟩, 0, 0⟩ (Wo.wh X) (Wo.wh Y) (wZ (X - Y))
      exact .inr (.inr (.inr (.inl ⟨.inr (.inr (.inr rfl)), X, Y, rfl, rfl, fun w1 => by rw [wZ_enc]; exact less_any X Y hX hY w1⟩)))
    | 2, _ =>
      obtain rfl : j = 2 := by simp at h; omega
      show Wc PXY (AXY X Y) ⟨2, ⟨#[120]⟩, 0, 0⟩ Wo.no Wo.no (Wo.wh X)
      exact .inr (.inl ⟨rfl, 0, X, at_x X Y, fun _ => rfl, pk_x, rfl⟩)
    | 3, _ =>
      obtain rfl : j = 1 := by simp at h; omega
      show Wc PXY (AXY X Y) ⟨2, ⟨#[121]⟩, 0, 0⟩ Wo.no Wo.no (Wo.wh Y)
      exact .inr (.inl ⟨rfl, 1, Y, at_y X Y, fun _ => rfl, pk_y, rfl⟩)
    | 4, _ =>
      obtain rfl : j = 0 := by simp at h; omega
      show Wc PXY (AXY X Y) ⟨1, ⟨#[]⟩, 2, Z⟩ Wo.no Wo.no (Wo.wh Z)
      exact .inl ⟨rfl, rfl, rfl⟩
theorem kd_times (Z : Int) : Kd PXY [⟨9, ⟨#[]⟩, 0, 0⟩, ⟨5, ⟨#[]⟩, 0, 0⟩, ⟨2, ⟨#[120]⟩, 0, 0⟩, ⟨2, ⟨#[121]⟩, 0, 0⟩, ⟨1, ⟨#[]⟩, 2, Z⟩] [1, 2, 2, 2, 2] (fun _ => 0) := by
  refine ⟨rfl, ?_, ?_, ?_, ?_⟩
  · intro x hx
    simp at hx
    rcases hx with rfl | rfl | rfl | rfl | rfl <;> simp [Pt.sp]
  · intro j i h hi
    have hi3 : i < 5 := hi
    match i, hi3 with
    | 0, _ =>
      obtain rfl : j = 4 := by simp at h; omega
      show 2 ≤ 2
      decide
    | 1, _ =>
      obtain rfl : j = 3 := by simp at h; omega
      show 2 ≤ 3
      decide
    | 2, _ =>
      obtain rfl : j = 2 := by simp at h; omega
      show 0 ≤ 2
      decide
    | 3, _ =>
      obtain rfl : j = 1 := by simp at h; omega
      show 0 ≤ 1
      decide
    | 4, _ =>
      obtain rfl : j = 0 := by simp at h; omega
      show 0 ≤ 0
      decide
  · intro j hj
    have hj3 : j < 6 := by simp at hj; omega
    match j, hj3 with
    | 0, _ => show 0 ≤ 100; decide
    | 1, _ => show 1 ≤ 100; decide
    | 2, _ => show 2 ≤ 100; decide
    | 3, _ => show 3 ≤ 100; decide
    | 4, _ => show 2 ≤ 100; decide
    | 5, _ => show 1 ≤ 100; decide
  · intro j i h hi
    have hi3 : i < 5 := hi
    match i, hi3 with
    | 0, _ =>
      obtain rfl : j = 4 := by simp at h; omega
      show pk PXY ⟨9, ⟨#[]⟩, 0, 0⟩ 2 2 = (1, 0)
      rfl
    | 1, _ =>
      obtain rfl : j = 3 := by simp at h; omega
      show pk PXY ⟨5, ⟨#[]⟩, 0, 0⟩ 2 2 = (2, 0)
      rfl
    | 2, _ =>
      obtain rfl : j = 2 := by simp at h; omega
      show pk PXY ⟨2, ⟨#[120]⟩, 0, 0⟩ 0 0 = (2, 0)
      simp [pk, errK, pk_x]
    | 3, _ =>
      obtain rfl : j = 1 := by simp at h; omega
      show pk PXY ⟨2, ⟨#[121]⟩, 0, 0⟩ 0 0 = (2, 0)
      simp [pk, errK, pk_y]
    | 4, _ =>
      obtain rfl : j = 0 := by simp at h; omega
      show pk PXY ⟨1, ⟨#[]⟩, 2, Z⟩ 0 0 = (2, 0)
      rfl
theorem we_times (X Y Z : Int) (hX : In64 X) (hY : In64 Y) (hZ : In64 Z) : We PXY (AXY X Y) [⟨9, ⟨#[]⟩, 0, 0⟩, ⟨5, ⟨#[]⟩, 0, 0⟩, ⟨2, ⟨#[120]⟩, 0, 0⟩, ⟨2, ⟨#[121]⟩, 0, 0⟩, ⟨1, ⟨#[]⟩, 2, Z⟩] [(wC (wZ (X * Y)) Z), (wZ (X * Y)), (Wo.wh X), (Wo.wh Y), (Wo.wh Z)] := by
  refine ⟨rfl, ?_, ?_, ?_⟩
  · intro j i h hi
    have hi3 : i < 5 := hi
    match i, hi3 with
    | 0, _ =>
      obtain rfl : j = 4 := by simp at h; omega
      show 2 ≤ 2
      decide
    | 1, _ =>
      obtain rfl : j = 3 := by simp at h; omega
      show 2 ≤ 3
      decide
    | 2, _ =>
      obtain rfl : j = 2 := by simp at h; omega
      show 0 ≤ 2
      decide
    | 3, _ =>
      obtain rfl : j = 1 := by simp at h; omega
      show 0 ≤ 1
      decide
    | 4, _ =>
      obtain rfl : j = 0 := by simp at h; omega
      show 0 ≤ 0
      decide
  · intro j hj
    have hj3 : j < 6 := by simp at hj; omega
    match j, hj3 with
    | 0, _ => show 0 ≤ 100; decide
    | 1, _ => show 1 ≤ 100; decide
    | 2, _ => show 2 ≤ 100; decide
    | 3, _ => show 3 ≤ 100; decide
    | 4, _ => show 2 ≤ 100; decide
    | 5, _ => show 1 ≤ 100; decide
  · intro j i h hi
    have hi3 : i < 5 := hi
    match i, hi3 with
    | 0, _ =>
      obtain rfl : j = 4 := by simp at h; omega
      show Wc PXY (AXY X Y) ⟨9, ⟨#[]⟩, 0, 0⟩ (wZ (X * Y)) (Wo.wh Z) (wC (wZ (X * Y)) Z)
      refine .inr (.inr (.inr (.inr ⟨.inl rfl, ?_⟩)))
      unfold wZ
      split
      next hs => exact .inr ⟨_, Z, hs, hZ, rfl, rfl, rfl⟩
      next hs => exact .inl ⟨rfl, rfl⟩
    | 1, _ =>
      obtain rfl : j = 3 := by simp at h; omega
      show Wc PXY (AXY X Y) ⟨5, ⟨#[]⟩, 0, 0⟩ (Wo.wh X) (Wo.wh Y) (wZ (X * Y))
      exact .inr (.inr (.inr (.inl ⟨.inl rfl, X, Y, rfl, rfl, fun w1 => by rw [wZ_enc]; exact times_any X Y hX hY w1⟩)))
    | 2, _ =>
      obtain rfl : j = 2 := by simp at h; omega
      show Wc PXY (AXY X Y) ⟨2, ⟨#[120]⟩, 0, 0⟩ Wo.no Wo.no (Wo.wh X)
      exact .inr (.inl ⟨rfl, 0, X, at_x X Y, fun _ => rfl, pk_x, rfl⟩)
    | 3, _ =>
      obtain rfl : j = 1 := by simp at h; omega
      show Wc PXY (AXY X Y) ⟨2, ⟨#[121]⟩, 0, 0⟩ Wo.no Wo.no (Wo.wh Y)
      exact .inr (.inl ⟨rfl, 1, Y, at_y X Y, fun _ => rfl, pk_y, rfl⟩)
    | 4, _ =>
      obtain rfl : j = 0 := by simp at h; omega
      show Wc PXY (AXY X Y) ⟨1, ⟨#[]⟩, 2, Z⟩ Wo.no Wo.no (Wo.wh Z)
      exact .inl ⟨rfl, rfl, rfl⟩
theorem kd_over (Z : Int) : Kd PXY [⟨9, ⟨#[]⟩, 0, 0⟩, ⟨6, ⟨#[]⟩, 0, 0⟩, ⟨2, ⟨#[120]⟩, 0, 0⟩, ⟨2, ⟨#[121]⟩, 0, 0⟩, ⟨1, ⟨#[]⟩, 2, Z⟩] [1, 2, 2, 2, 2] (fun _ => 0) := by
  refine ⟨rfl, ?_, ?_, ?_, ?_⟩
  · intro x hx
    simp at hx
    rcases hx with rfl | rfl | rfl | rfl | rfl <;> simp [Pt.sp]
  · intro j i h hi
    have hi3 : i < 5 := hi
    match i, hi3 with
    | 0, _ =>
      obtain rfl : j = 4 := by simp at h; omega
      show 2 ≤ 2
      decide
    | 1, _ =>
      obtain rfl : j = 3 := by simp at h; omega
      show 2 ≤ 3
      decide
    | 2, _ =>
      obtain rfl : j = 2 := by simp at h; omega
      show 0 ≤ 2
      decide
    | 3, _ =>
      obtain rfl : j = 1 := by simp at h; omega
      show 0 ≤ 1
      decide
    | 4, _ =>
      obtain rfl : j = 0 := by simp at h; omega
      show 0 ≤ 0
      decide
  · intro j hj
    have hj3 : j < 6 := by simp at hj; omega
    match j, hj3 with
    | 0, _ => show 0 ≤ 100; decide
    | 1, _ => show 1 ≤ 100; decide
    | 2, _ => show 2 ≤ 100; decide
    | 3, _ => show 3 ≤ 100; decide
    | 4, _ => show 2 ≤ 100; decide
    | 5, _ => show 1 ≤ 100; decide
  · intro j i h hi
    have hi3 : i < 5 := hi
    match i, hi3 with
    | 0, _ =>
      obtain rfl : j = 4 := by simp at h; omega
      show pk PXY ⟨9, ⟨#[]⟩, 0, 0⟩ 2 2 = (1, 0)
      rfl
    | 1, _ =>
      obtain rfl : j = 3 := by simp at h; omega
      show pk PXY ⟨6, ⟨#[]⟩, 0, 0⟩ 2 2 = (2, 0)
      rfl
    | 2, _ =>
      obtain rfl : j = 2 := by simp at h; omega
      show pk PXY ⟨2, ⟨#[120]⟩, 0, 0⟩ 0 0 = (2, 0)
      simp [pk, errK, pk_x]
    | 3, _ =>
      obtain rfl : j = 1 := by simp at h; omega
      show pk PXY ⟨2, ⟨#[121]⟩, 0, 0⟩ 0 0 = (2, 0)
      simp [pk, errK, pk_y]
    | 4, _ =>
      obtain rfl : j = 0 := by simp at h; omega
      show pk PXY ⟨1, ⟨#[]⟩, 2, Z⟩ 0 0 = (2, 0)
      rfl
theorem we_over (X Y Z : Int) (hX : In64 X) (hY0 : Y ≠ 0) (hZ : In64 Z) : We PXY (AXY X Y) [⟨9, ⟨#[]⟩, 0, 0⟩, ⟨6, ⟨#[]⟩, 0, 0⟩, ⟨2, ⟨#[120]⟩, 0, 0⟩, ⟨2, ⟨#[121]⟩, 0, 0⟩, ⟨1, ⟨#[]⟩, 2, Z⟩] [(wC (wZ (X.tdiv Y)) Z), (wZ (X.tdiv Y)), (Wo.wh X), (Wo.wh Y), (Wo.wh Z)] := by
  refine ⟨rfl, ?_, ?_, ?_⟩
  · intro j i h hi
    have hi3 : i < 5 := hi
    match i, hi3 with
    | 0, _ =>
      obtain rfl : j = 4 := by simp at h; omega
      show 2 ≤ 2
      decide
    | 1, _ =>
      obtain rfl : j = 3 := by simp at h; omega
      show 2 ≤ 3
      decide
    | 2, _ =>
      obtain rfl : j = 2 := by simp at h; omega
      show 0 ≤ 2
      decide
    | 3, _ =>
      obtain rfl : j = 1 := by simp at h; omega
      show 0 ≤ 1
      decide
    | 4, _ =>
      obtain rfl : j = 0 := by simp at h; omega
      show 0 ≤ 0
      decide
  · intro j hj
    have hj3 : j < 6 := by simp at hj; omega
    match j, hj3 with
    | 0, _ => show 0 ≤ 100; decide
    | 1, _ => show 1 ≤ 100; decide
    | 2, _ => show 2 ≤ 100; decide
    | 3, _ => show 3 ≤ 100; decide
    | 4, _ => show 2 ≤ 100; decide
    | 5, _ => show 1 ≤ 100; decide
  · intro j i h hi
    have hi3 : i < 5 := hi
    match i, hi3 with
    | 0, _ =>
      obtain rfl : j = 4 := by simp at h; omega
      show Wc PXY (AXY X Y) ⟨9, ⟨#[]⟩, 0, 0⟩ (wZ (X.tdiv Y)) (Wo.wh Z) (wC (wZ (X.tdiv Y)) Z)
      refine .inr (.inr (.inr (.inr ⟨.inl rfl, ?_⟩)))
      unfold wZ
      split
      next hs => exact .inr ⟨_, Z, hs, hZ, rfl, rfl, rfl⟩
      next hs => exact .inl ⟨rfl, rfl⟩
    | 1, _ =>
      obtain rfl : j = 3 := by simp at h; omega
      show Wc PXY (AXY X Y) ⟨6, ⟨#[]⟩, 0, 0⟩ (Wo.wh X) (Wo.wh Y) (wZ (X.tdiv Y))
      exact .inr (.inr (.inr (.inl ⟨.inr (.inl rfl), X, Y, rfl, rfl, fun w1 => by rw [wZ_enc, show wholeW (X.tdiv Y) = overW X Y by unfold overW; rw [if_neg hY0]]; exact over_any X Y hX w1⟩)))
    | 2, _ =>
      obtain rfl : j = 2 := by simp at h; omega
      show Wc PXY (AXY X Y) ⟨2, ⟨#[120]⟩, 0, 0⟩ Wo.no Wo.no (Wo.wh X)
      exact .inr (.inl ⟨rfl, 0, X, at_x X Y, fun _ => rfl, pk_x, rfl⟩)
    | 3, _ =>
      obtain rfl : j = 1 := by simp at h; omega
      show Wc PXY (AXY X Y) ⟨2, ⟨#[121]⟩, 0, 0⟩ Wo.no Wo.no (Wo.wh Y)
      exact .inr (.inl ⟨rfl, 1, Y, at_y X Y, fun _ => rfl, pk_y, rfl⟩)
    | 4, _ =>
      obtain rfl : j = 0 := by simp at h; omega
      show Wc PXY (AXY X Y) ⟨1, ⟨#[]⟩, 2, Z⟩ Wo.no Wo.no (Wo.wh Z)
      exact .inl ⟨rfl, rfl, rfl⟩
theorem kd_minus (Z : Int) : Kd PXY [⟨9, ⟨#[]⟩, 0, 0⟩, ⟨3, ⟨#[]⟩, 0, 0⟩, ⟨2, ⟨#[120]⟩, 0, 0⟩, ⟨1, ⟨#[]⟩, 2, Z⟩] [1, 2, 2, 2] (fun _ => 0) := by
  refine ⟨rfl, ?_, ?_, ?_, ?_⟩
  · intro x hx
    simp at hx
    rcases hx with rfl | rfl | rfl | rfl <;> simp [Pt.sp]
  · intro j i h hi
    have hi3 : i < 4 := hi
    match i, hi3 with
    | 0, _ =>
      obtain rfl : j = 3 := by simp at h; omega
      show 2 ≤ 2
      decide
    | 1, _ =>
      obtain rfl : j = 2 := by simp at h; omega
      show 1 ≤ 2
      decide
    | 2, _ =>
      obtain rfl : j = 1 := by simp at h; omega
      show 0 ≤ 1
      decide
    | 3, _ =>
      obtain rfl : j = 0 := by simp at h; omega
      show 0 ≤ 0
      decide
  · intro j hj
    have hj3 : j < 5 := by simp at hj; omega
    match j, hj3 with
    | 0, _ => show 0 ≤ 100; decide
    | 1, _ => show 1 ≤ 100; decide
    | 2, _ => show 2 ≤ 100; decide
    | 3, _ => show 2 ≤ 100; decide
    | 4, _ => show 1 ≤ 100; decide
  · intro j i h hi
    have hi3 : i < 4 := hi
    match i, hi3 with
    | 0, _ =>
      obtain rfl : j = 3 := by simp at h; omega
      show pk PXY ⟨9, ⟨#[]⟩, 0, 0⟩ 2 2 = (1, 0)
      rfl
    | 1, _ =>
      obtain rfl : j = 2 := by simp at h; omega
      show pk PXY ⟨3, ⟨#[]⟩, 0, 0⟩ 2 0 = (2, 0)
      rfl
    | 2, _ =>
      obtain rfl : j = 1 := by simp at h; omega
      show pk PXY ⟨2, ⟨#[120]⟩, 0, 0⟩ 0 0 = (2, 0)
      simp [pk, errK, pk_x]
    | 3, _ =>
      obtain rfl : j = 0 := by simp at h; omega
      show pk PXY ⟨1, ⟨#[]⟩, 2, Z⟩ 0 0 = (2, 0)
      rfl
theorem we_minus (X Y Z : Int) (hX : In64 X) (hZ : In64 Z) : We PXY (AXY X Y) [⟨9, ⟨#[]⟩, 0, 0⟩, ⟨3, ⟨#[]⟩, 0, 0⟩, ⟨2, ⟨#[120]⟩, 0, 0⟩, ⟨1, ⟨#[]⟩, 2, Z⟩] [(wC (wZ (0 - X)) Z), (wZ (0 - X)), (Wo.wh X), (Wo.wh Z)] := by
  refine ⟨rfl, ?_, ?_, ?_⟩
  · intro j i h hi
    have hi3 : i < 4 := hi
    match i, hi3 with
    | 0, _ =>
      obtain rfl : j = 3 := by simp at h; omega
      show 2 ≤ 2
      decide
    | 1, _ =>
      obtain rfl : j = 2 := by simp at h; omega
      show 1 ≤ 2
      decide
    | 2, _ =>
      obtain rfl : j = 1 := by simp at h; omega
      show 0 ≤ 1
      decide
    | 3, _ =>
      obtain rfl : j = 0 := by simp at h; omega
      show 0 ≤ 0
      decide
  · intro j hj
    have hj3 : j < 5 := by simp at hj; omega
    match j, hj3 with
    | 0, _ => show 0 ≤ 100; decide
    | 1, _ => show 1 ≤ 100; decide
    | 2, _ => show 2 ≤ 100; decide
    | 3, _ => show 2 ≤ 100; decide
    | 4, _ => show 1 ≤ 100; decide
  · intro j i h hi
    have hi3 : i < 4 := hi
    match i, hi3 with
    | 0, _ =>
      obtain rfl : j = 3 := by simp at h; omega
      show Wc PXY (AXY X Y) ⟨9, ⟨#[]⟩, 0, 0⟩ (wZ (0 - X)) (Wo.wh Z) (wC (wZ (0 - X)) Z)
      refine .inr (.inr (.inr (.inr ⟨.inl rfl, ?_⟩)))
      unfold wZ
      split
      next hs => exact .inr ⟨_, Z, hs, hZ, rfl, rfl, rfl⟩
      next hs => exact .inl ⟨rfl, rfl⟩
    | 1, _ =>
      obtain rfl : j = 2 := by simp at h; omega
      show Wc PXY (AXY X Y) ⟨3, ⟨#[]⟩, 0, 0⟩ (Wo.wh X) Wo.no (wZ (0 - X))
      exact .inr (.inr (.inl ⟨rfl, X, hX, rfl, wZ_enc _⟩))
    | 2, _ =>
      obtain rfl : j = 1 := by simp at h; omega
      show Wc PXY (AXY X Y) ⟨2, ⟨#[120]⟩, 0, 0⟩ Wo.no Wo.no (Wo.wh X)
      exact .inr (.inl ⟨rfl, 0, X, at_x X Y, fun _ => rfl, pk_x, rfl⟩)
    | 3, _ =>
      obtain rfl : j = 0 := by simp at h; omega
      show Wc PXY (AXY X Y) ⟨1, ⟨#[]⟩, 2, Z⟩ Wo.no Wo.no (Wo.wh Z)
      exact .inl ⟨rfl, rfl, rfl⟩
theorem kd_c9 : Kd PXY [⟨9, ⟨#[]⟩, 0, 0⟩, ⟨2, ⟨#[120]⟩, 0, 0⟩, ⟨2, ⟨#[121]⟩, 0, 0⟩] [1, 2, 2] (fun _ => 0) := by
  refine ⟨rfl, ?_, ?_, ?_, ?_⟩
  · intro x hx
    simp at hx
    rcases hx with rfl | rfl | rfl <;> simp [Pt.sp]
  · intro j i h hi
    have hi3 : i < 3 := hi
    match i, hi3 with
    | 0, _ =>
      obtain rfl : j = 2 := by simp at h; omega
      show 2 ≤ 2
      decide
    | 1, _ =>
      obtain rfl : j = 1 := by simp at h; omega
      show 0 ≤ 1
      decide
    | 2, _ =>
      obtain rfl : j = 0 := by simp at h; omega
      show 0 ≤ 0
      decide
  · intro j hj
    have hj3 : j < 4 := by simp at hj; omega
    match j, hj3 with
    | 0, _ => show 0 ≤ 100; decide
    | 1, _ => show 1 ≤ 100; decide
    | 2, _ => show 2 ≤ 100; decide
    | 3, _ => show 1 ≤ 100; decide
  · intro j i h hi
    have hi3 : i < 3 := hi
    match i, hi3 with
    | 0, _ =>
      obtain rfl : j = 2 := by simp at h; omega
      show pk PXY ⟨9, ⟨#[]⟩, 0, 0⟩ 2 2 = (1, 0)
      rfl
    | 1, _ =>
      obtain rfl : j = 1 := by simp at h; omega
      show pk PXY ⟨2, ⟨#[120]⟩, 0, 0⟩ 0 0 = (2, 0)
      simp [pk, errK, pk_x]
    | 2, _ =>
      obtain rfl : j = 0 := by simp at h; omega
      show pk PXY ⟨2, ⟨#[121]⟩, 0, 0⟩ 0 0 = (2, 0)
      simp [pk, errK, pk_y]
theorem we_c9 (X Y : Int) (hX : In64 X) (hY : In64 Y) : We PXY (AXY X Y) [⟨9, ⟨#[]⟩, 0, 0⟩, ⟨2, ⟨#[120]⟩, 0, 0⟩, ⟨2, ⟨#[121]⟩, 0, 0⟩] [(Wo.tr (cmpB 9 (cmpI X Y))), (Wo.wh X), (Wo.wh Y)] := by
  refine ⟨rfl, ?_, ?_, ?_⟩
  · intro j i h hi
    have hi3 : i < 3 := hi
    match i, hi3 with
    | 0, _ =>
      obtain rfl : j = 2 := by simp at h; omega
      show 2 ≤ 2
      decide
    | 1, _ =>
      obtain rfl : j = 1 := by simp at h; omega
      show 0 ≤ 1
      decide
    | 2, _ =>
      obtain rfl : j = 0 := by simp at h; omega
      show 0 ≤ 0
      decide
  · intro j hj
    have hj3 : j < 4 := by simp at hj; omega
    match j, hj3 with
    | 0, _ => show 0 ≤ 100; decide
    | 1, _ => show 1 ≤ 100; decide
    | 2, _ => show 2 ≤ 100; decide
    | 3, _ => show 1 ≤ 100; decide
  · intro j i h hi
    have hi3 : i < 3 := hi
    match i, hi3 with
    | 0, _ =>
      obtain rfl : j = 2 := by simp at h; omega
      show Wc PXY (AXY X Y) ⟨9, ⟨#[]⟩, 0, 0⟩ (Wo.wh X) (Wo.wh Y) (Wo.tr (cmpB 9 (cmpI X Y)))
      exact .inr (.inr (.inr (.inr ⟨.inl rfl, .inr ⟨X, Y, hX, hY, rfl, rfl, rfl⟩⟩)))
    | 1, _ =>
      obtain rfl : j = 1 := by simp at h; omega
      show Wc PXY (AXY X Y) ⟨2, ⟨#[120]⟩, 0, 0⟩ Wo.no Wo.no (Wo.wh X)
      exact .inr (.inl ⟨rfl, 0, X, at_x X Y, fun _ => rfl, pk_x, rfl⟩)
    | 2, _ =>
      obtain rfl : j = 0 := by simp at h; omega
      show Wc PXY (AXY X Y) ⟨2, ⟨#[121]⟩, 0, 0⟩ Wo.no Wo.no (Wo.wh Y)
      exact .inr (.inl ⟨rfl, 1, Y, at_y X Y, fun _ => rfl, pk_y, rfl⟩)
theorem kd_c10 : Kd PXY [⟨10, ⟨#[]⟩, 0, 0⟩, ⟨2, ⟨#[120]⟩, 0, 0⟩, ⟨2, ⟨#[121]⟩, 0, 0⟩] [1, 2, 2] (fun _ => 0) := by
  refine ⟨rfl, ?_, ?_, ?_, ?_⟩
  · intro x hx
    simp at hx
    rcases hx with rfl | rfl | rfl <;> simp [Pt.sp]
  · intro j i h hi
    have hi3 : i < 3 := hi
    match i, hi3 with
    | 0, _ =>
      obtain rfl : j = 2 := by simp at h; omega
      show 2 ≤ 2
      decide
    | 1, _ =>
      obtain rfl : j = 1 := by simp at h; omega
      show 0 ≤ 1
      decide
    | 2, _ =>
      obtain rfl : j = 0 := by simp at h; omega
      show 0 ≤ 0
      decide
  · intro j hj
    have hj3 : j < 4 := by simp at hj; omega
    match j, hj3 with
    | 0, _ => show 0 ≤ 100; decide
    | 1, _ => show 1 ≤ 100; decide
    | 2, _ => show 2 ≤ 100; decide
    | 3, _ => show 1 ≤ 100; decide
  · intro j i h hi
    have hi3 : i < 3 := hi
    match i, hi3 with
    | 0, _ =>
      obtain rfl : j = 2 := by simp at h; omega
      show pk PXY ⟨10, ⟨#[]⟩, 0, 0⟩ 2 2 = (1, 0)
      rfl
    | 1, _ =>
      obtain rfl : j = 1 := by simp at h; omega
      show pk PXY ⟨2, ⟨#[120]⟩, 0, 0⟩ 0 0 = (2, 0)
      simp [pk, errK, pk_x]
    | 2, _ =>
      obtain rfl : j = 0 := by simp at h; omega
      show pk PXY ⟨2, ⟨#[121]⟩, 0, 0⟩ 0 0 = (2, 0)
      simp [pk, errK, pk_y]
theorem we_c10 (X Y : Int) (hX : In64 X) (hY : In64 Y) : We PXY (AXY X Y) [⟨10, ⟨#[]⟩, 0, 0⟩, ⟨2, ⟨#[120]⟩, 0, 0⟩, ⟨2, ⟨#[121]⟩, 0, 0⟩] [(Wo.tr (cmpB 10 (cmpI X Y))), (Wo.wh X), (Wo.wh Y)] := by
  refine ⟨rfl, ?_, ?_, ?_⟩
  · intro j i h hi
    have hi3 : i < 3 := hi
    match i, hi3 with
    | 0, _ =>
      obtain rfl : j = 2 := by simp at h; omega
      show 2 ≤ 2
      decide
    | 1, _ =>
      obtain rfl : j = 1 := by simp at h; omega
      show 0 ≤ 1
      decide
    | 2, _ =>
      obtain rfl : j = 0 := by simp at h; omega
      show 0 ≤ 0
      decide
  · intro j hj
    have hj3 : j < 4 := by simp at hj; omega
    match j, hj3 with
    | 0, _ => show 0 ≤ 100; decide
    | 1, _ => show 1 ≤ 100; decide
    | 2, _ => show 2 ≤ 100; decide
    | 3, _ => show 1 ≤ 100; decide
  · intro j i h hi
    have hi3 : i < 3 := hi
    match i, hi3 with
    | 0, _ =>
      obtain rfl : j = 2 := by simp at h; omega
      show Wc PXY (AXY X Y) ⟨10, ⟨#[]⟩, 0, 0⟩ (Wo.wh X) (Wo.wh Y) (Wo.tr (cmpB 10 (cmpI X Y)))
      exact .inr (.inr (.inr (.inr ⟨.inr (.inl rfl), .inr ⟨X, Y, hX, hY, rfl, rfl, rfl⟩⟩)))
    | 1, _ =>
      obtain rfl : j = 1 := by simp at h; omega
      show Wc PXY (AXY X Y) ⟨2, ⟨#[120]⟩, 0, 0⟩ Wo.no Wo.no (Wo.wh X)
      exact .inr (.inl ⟨rfl, 0, X, at_x X Y, fun _ => rfl, pk_x, rfl⟩)
    | 2, _ =>
      obtain rfl : j = 0 := by simp at h; omega
      show Wc PXY (AXY X Y) ⟨2, ⟨#[121]⟩, 0, 0⟩ Wo.no Wo.no (Wo.wh Y)
      exact .inr (.inl ⟨rfl, 1, Y, at_y X Y, fun _ => rfl, pk_y, rfl⟩)
theorem kd_c11 : Kd PXY [⟨11, ⟨#[]⟩, 0, 0⟩, ⟨2, ⟨#[120]⟩, 0, 0⟩, ⟨2, ⟨#[121]⟩, 0, 0⟩] [1, 2, 2] (fun _ => 0) := by
  refine ⟨rfl, ?_, ?_, ?_, ?_⟩
  · intro x hx
    simp at hx
    rcases hx with rfl | rfl | rfl <;> simp [Pt.sp]
  · intro j i h hi
    have hi3 : i < 3 := hi
    match i, hi3 with
    | 0, _ =>
      obtain rfl : j = 2 := by simp at h; omega
      show 2 ≤ 2
      decide
    | 1, _ =>
      obtain rfl : j = 1 := by simp at h; omega
      show 0 ≤ 1
      decide
    | 2, _ =>
      obtain rfl : j = 0 := by simp at h; omega
      show 0 ≤ 0
      decide
  · intro j hj
    have hj3 : j < 4 := by simp at hj; omega
    match j, hj3 with
    | 0, _ => show 0 ≤ 100; decide
    | 1, _ => show 1 ≤ 100; decide
    | 2, _ => show 2 ≤ 100; decide
    | 3, _ => show 1 ≤ 100; decide
  · intro j i h hi
    have hi3 : i < 3 := hi
    match i, hi3 with
    | 0, _ =>
      obtain rfl : j = 2 := by simp at h; omega
      show pk PXY ⟨11, ⟨#[]⟩, 0, 0⟩ 2 2 = (1, 0)
      rfl
    | 1, _ =>
      obtain rfl : j = 1 := by simp at h; omega
      show pk PXY ⟨2, ⟨#[120]⟩, 0, 0⟩ 0 0 = (2, 0)
      simp [pk, errK, pk_x]
    | 2, _ =>
      obtain rfl : j = 0 := by simp at h; omega
      show pk PXY ⟨2, ⟨#[121]⟩, 0, 0⟩ 0 0 = (2, 0)
      simp [pk, errK, pk_y]
theorem we_c11 (X Y : Int) (hX : In64 X) (hY : In64 Y) : We PXY (AXY X Y) [⟨11, ⟨#[]⟩, 0, 0⟩, ⟨2, ⟨#[120]⟩, 0, 0⟩, ⟨2, ⟨#[121]⟩, 0, 0⟩] [(Wo.tr (cmpB 11 (cmpI X Y))), (Wo.wh X), (Wo.wh Y)] := by
  refine ⟨rfl, ?_, ?_, ?_⟩
  · intro j i h hi
    have hi3 : i < 3 := hi
    match i, hi3 with
    | 0, _ =>
      obtain rfl : j = 2 := by simp at h; omega
      show 2 ≤ 2
      decide
    | 1, _ =>
      obtain rfl : j = 1 := by simp at h; omega
      show 0 ≤ 1
      decide
    | 2, _ =>
      obtain rfl : j = 0 := by simp at h; omega
      show 0 ≤ 0
      decide
  · intro j hj
    have hj3 : j < 4 := by simp at hj; omega
    match j, hj3 with
    | 0, _ => show 0 ≤ 100; decide
    | 1, _ => show 1 ≤ 100; decide
    | 2, _ => show 2 ≤ 100; decide
    | 3, _ => show 1 ≤ 100; decide
  · intro j i h hi
    have hi3 : i < 3 := hi
    match i, hi3 with
    | 0, _ =>
      obtain rfl : j = 2 := by simp at h; omega
      show Wc PXY (AXY X Y) ⟨11, ⟨#[]⟩, 0, 0⟩ (Wo.wh X) (Wo.wh Y) (Wo.tr (cmpB 11 (cmpI X Y)))
      exact .inr (.inr (.inr (.inr ⟨.inr (.inr (.inl rfl)), .inr ⟨X, Y, hX, hY, rfl, rfl, rfl⟩⟩)))
    | 1, _ =>
      obtain rfl : j = 1 := by simp at h; omega
      show Wc PXY (AXY X Y) ⟨2, ⟨#[120]⟩, 0, 0⟩ Wo.no Wo.no (Wo.wh X)
      exact .inr (.inl ⟨rfl, 0, X, at_x X Y, fun _ => rfl, pk_x, rfl⟩)
    | 2, _ =>
      obtain rfl : j = 0 := by simp at h; omega
      show Wc PXY (AXY X Y) ⟨2, ⟨#[121]⟩, 0, 0⟩ Wo.no Wo.no (Wo.wh Y)
      exact .inr (.inl ⟨rfl, 1, Y, at_y X Y, fun _ => rfl, pk_y, rfl⟩)
theorem kd_c12 : Kd PXY [⟨12, ⟨#[]⟩, 0, 0⟩, ⟨2, ⟨#[120]⟩, 0, 0⟩, ⟨2, ⟨#[121]⟩, 0, 0⟩] [1, 2, 2] (fun _ => 0) := by
  refine ⟨rfl, ?_, ?_, ?_, ?_⟩
  · intro x hx
    simp at hx
    rcases hx with rfl | rfl | rfl <;> simp [Pt.sp]
  · intro j i h hi
    have hi3 : i < 3 := hi
    match i, hi3 with
    | 0, _ =>
      obtain rfl : j = 2 := by simp at h; omega
      show 2 ≤ 2
      decide
    | 1, _ =>
      obtain rfl : j = 1 := by simp at h; omega
      show 0 ≤ 1
      decide
    | 2, _ =>
      obtain rfl : j = 0 := by simp at h; omega
      show 0 ≤ 0
      decide
  · intro j hj
    have hj3 : j < 4 := by simp at hj; omega
    match j, hj3 with
    | 0, _ => show 0 ≤ 100; decide
    | 1, _ => show 1 ≤ 100; decide
    | 2, _ => show 2 ≤ 100; decide
    | 3, _ => show 1 ≤ 100; decide
  · intro j i h hi
    have hi3 : i < 3 := hi
    match i, hi3 with
    | 0, _ =>
      obtain rfl : j = 2 := by simp at h; omega
      show pk PXY ⟨12, ⟨#[]⟩, 0, 0⟩ 2 2 = (1, 0)
      rfl
    | 1, _ =>
      obtain rfl : j = 1 := by simp at h; omega
      show pk PXY ⟨2, ⟨#[120]⟩, 0, 0⟩ 0 0 = (2, 0)
      simp [pk, errK, pk_x]
    | 2, _ =>
      obtain rfl : j = 0 := by simp at h; omega
      show pk PXY ⟨2, ⟨#[121]⟩, 0, 0⟩ 0 0 = (2, 0)
      simp [pk, errK, pk_y]
theorem we_c12 (X Y : Int) (hX : In64 X) (hY : In64 Y) : We PXY (AXY X Y) [⟨12, ⟨#[]⟩, 0, 0⟩, ⟨2, ⟨#[120]⟩, 0, 0⟩, ⟨2, ⟨#[121]⟩, 0, 0⟩] [(Wo.tr (cmpB 12 (cmpI X Y))), (Wo.wh X), (Wo.wh Y)] := by
  refine ⟨rfl, ?_, ?_, ?_⟩
  · intro j i h hi
    have hi3 : i < 3 := hi
    match i, hi3 with
    | 0, _ =>
      obtain rfl : j = 2 := by simp at h; omega
      show 2 ≤ 2
      decide
    | 1, _ =>
      obtain rfl : j = 1 := by simp at h; omega
      show 0 ≤ 1
      decide
    | 2, _ =>
      obtain rfl : j = 0 := by simp at h; omega
      show 0 ≤ 0
      decide
  · intro j hj
    have hj3 : j < 4 := by simp at hj; omega
    match j, hj3 with
    | 0, _ => show 0 ≤ 100; decide
    | 1, _ => show 1 ≤ 100; decide
    | 2, _ => show 2 ≤ 100; decide
    | 3, _ => show 1 ≤ 100; decide
  · intro j i h hi
    have hi3 : i < 3 := hi
    match i, hi3 with
    | 0, _ =>
      obtain rfl : j = 2 := by simp at h; omega
      show Wc PXY (AXY X Y) ⟨12, ⟨#[]⟩, 0, 0⟩ (Wo.wh X) (Wo.wh Y) (Wo.tr (cmpB 12 (cmpI X Y)))
      exact .inr (.inr (.inr (.inr ⟨.inr (.inr (.inr (.inl rfl))), .inr ⟨X, Y, hX, hY, rfl, rfl, rfl⟩⟩)))
    | 1, _ =>
      obtain rfl : j = 1 := by simp at h; omega
      show Wc PXY (AXY X Y) ⟨2, ⟨#[120]⟩, 0, 0⟩ Wo.no Wo.no (Wo.wh X)
      exact .inr (.inl ⟨rfl, 0, X, at_x X Y, fun _ => rfl, pk_x, rfl⟩)
    | 2, _ =>
      obtain rfl : j = 0 := by simp at h; omega
      show Wc PXY (AXY X Y) ⟨2, ⟨#[121]⟩, 0, 0⟩ Wo.no Wo.no (Wo.wh Y)
      exact .inr (.inl ⟨rfl, 1, Y, at_y X Y, fun _ => rfl, pk_y, rfl⟩)
theorem kd_c13 : Kd PXY [⟨13, ⟨#[]⟩, 0, 0⟩, ⟨2, ⟨#[120]⟩, 0, 0⟩, ⟨2, ⟨#[121]⟩, 0, 0⟩] [1, 2, 2] (fun _ => 0) := by
  refine ⟨rfl, ?_, ?_, ?_, ?_⟩
  · intro x hx
    simp at hx
    rcases hx with rfl | rfl | rfl <;> simp [Pt.sp]
  · intro j i h hi
    have hi3 : i < 3 := hi
    match i, hi3 with
    | 0, _ =>
      obtain rfl : j = 2 := by simp at h; omega
      show 2 ≤ 2
      decide
    | 1, _ =>
      obtain rfl : j = 1 := by simp at h; omega
      show 0 ≤ 1
      decide
    | 2, _ =>
      obtain rfl : j = 0 := by simp at h; omega
      show 0 ≤ 0
      decide
  · intro j hj
    have hj3 : j < 4 := by simp at hj; omega
    match j, hj3 with
    | 0, _ => show 0 ≤ 100; decide
    | 1, _ => show 1 ≤ 100; decide
    | 2, _ => show 2 ≤ 100; decide
    | 3, _ => show 1 ≤ 100; decide
  · intro j i h hi
    have hi3 : i < 3 := hi
    match i, hi3 with
    | 0, _ =>
      obtain rfl : j = 2 := by simp at h; omega
      show pk PXY ⟨13, ⟨#[]⟩, 0, 0⟩ 2 2 = (1, 0)
      rfl
    | 1, _ =>
      obtain rfl : j = 1 := by simp at h; omega
      show pk PXY ⟨2, ⟨#[120]⟩, 0, 0⟩ 0 0 = (2, 0)
      simp [pk, errK, pk_x]
    | 2, _ =>
      obtain rfl : j = 0 := by simp at h; omega
      show pk PXY ⟨2, ⟨#[121]⟩, 0, 0⟩ 0 0 = (2, 0)
      simp [pk, errK, pk_y]
theorem we_c13 (X Y : Int) (hX : In64 X) (hY : In64 Y) : We PXY (AXY X Y) [⟨13, ⟨#[]⟩, 0, 0⟩, ⟨2, ⟨#[120]⟩, 0, 0⟩, ⟨2, ⟨#[121]⟩, 0, 0⟩] [(Wo.tr (cmpB 13 (cmpI X Y))), (Wo.wh X), (Wo.wh Y)] := by
  refine ⟨rfl, ?_, ?_, ?_⟩
  · intro j i h hi
    have hi3 : i < 3 := hi
    match i, hi3 with
    | 0, _ =>
      obtain rfl : j = 2 := by simp at h; omega
      show 2 ≤ 2
      decide
    | 1, _ =>
      obtain rfl : j = 1 := by simp at h; omega
      show 0 ≤ 1
      decide
    | 2, _ =>
      obtain rfl : j = 0 := by simp at h; omega
      show 0 ≤ 0
      decide
  · intro j hj
    have hj3 : j < 4 := by simp at hj; omega
    match j, hj3 with
    | 0, _ => show 0 ≤ 100; decide
    | 1, _ => show 1 ≤ 100; decide
    | 2, _ => show 2 ≤ 100; decide
    | 3, _ => show 1 ≤ 100; decide
  · intro j i h hi
    have hi3 : i < 3 := hi
    match i, hi3 with
    | 0, _ =>
      obtain rfl : j = 2 := by simp at h; omega
      show Wc PXY (AXY X Y) ⟨13, ⟨#[]⟩, 0, 0⟩ (Wo.wh X) (Wo.wh Y) (Wo.tr (cmpB 13 (cmpI X Y)))
      exact .inr (.inr (.inr (.inr ⟨.inr (.inr (.inr (.inr (.inl rfl)))), .inr ⟨X, Y, hX, hY, rfl, rfl, rfl⟩⟩)))
    | 1, _ =>
      obtain rfl : j = 1 := by simp at h; omega
      show Wc PXY (AXY X Y) ⟨2, ⟨#[120]⟩, 0, 0⟩ Wo.no Wo.no (Wo.wh X)
      exact .inr (.inl ⟨rfl, 0, X, at_x X Y, fun _ => rfl, pk_x, rfl⟩)
    | 2, _ =>
      obtain rfl : j = 0 := by simp at h; omega
      show Wc PXY (AXY X Y) ⟨2, ⟨#[121]⟩, 0, 0⟩ Wo.no Wo.no (Wo.wh Y)
      exact .inr (.inl ⟨rfl, 1, Y, at_y X Y, fun _ => rfl, pk_y, rfl⟩)
theorem kd_c14 : Kd PXY [⟨14, ⟨#[]⟩, 0, 0⟩, ⟨2, ⟨#[120]⟩, 0, 0⟩, ⟨2, ⟨#[121]⟩, 0, 0⟩] [1, 2, 2] (fun _ => 0) := by
  refine ⟨rfl, ?_, ?_, ?_, ?_⟩
  · intro x hx
    simp at hx
    rcases hx with rfl | rfl | rfl <;> simp [Pt.sp]
  · intro j i h hi
    have hi3 : i < 3 := hi
    match i, hi3 with
    | 0, _ =>
      obtain rfl : j = 2 := by simp at h; omega
      show 2 ≤ 2
      decide
    | 1, _ =>
      obtain rfl : j = 1 := by simp at h; omega
      show 0 ≤ 1
      decide
    | 2, _ =>
      obtain rfl : j = 0 := by simp at h; omega
      show 0 ≤ 0
      decide
  · intro j hj
    have hj3 : j < 4 := by simp at hj; omega
    match j, hj3 with
    | 0, _ => show 0 ≤ 100; decide
    | 1, _ => show 1 ≤ 100; decide
    | 2, _ => show 2 ≤ 100; decide
    | 3, _ => show 1 ≤ 100; decide
  · intro j i h hi
    have hi3 : i < 3 := hi
    match i, hi3 with
    | 0, _ =>
      obtain rfl : j = 2 := by simp at h; omega
      show pk PXY ⟨14, ⟨#[]⟩, 0, 0⟩ 2 2 = (1, 0)
      rfl
    | 1, _ =>
      obtain rfl : j = 1 := by simp at h; omega
      show pk PXY ⟨2, ⟨#[120]⟩, 0, 0⟩ 0 0 = (2, 0)
      simp [pk, errK, pk_x]
    | 2, _ =>
      obtain rfl : j = 0 := by simp at h; omega
      show pk PXY ⟨2, ⟨#[121]⟩, 0, 0⟩ 0 0 = (2, 0)
      simp [pk, errK, pk_y]
theorem we_c14 (X Y : Int) (hX : In64 X) (hY : In64 Y) : We PXY (AXY X Y) [⟨14, ⟨#[]⟩, 0, 0⟩, ⟨2, ⟨#[120]⟩, 0, 0⟩, ⟨2, ⟨#[121]⟩, 0, 0⟩] [(Wo.tr (cmpB 14 (cmpI X Y))), (Wo.wh X), (Wo.wh Y)] := by
  refine ⟨rfl, ?_, ?_, ?_⟩
  · intro j i h hi
    have hi3 : i < 3 := hi
    match i, hi3 with
    | 0, _ =>
      obtain rfl : j = 2 := by simp at h; omega
      show 2 ≤ 2
      decide
    | 1, _ =>
      obtain rfl : j = 1 := by simp at h; omega
      show 0 ≤ 1
      decide
    | 2, _ =>
      obtain rfl : j = 0 := by simp at h; omega
      show 0 ≤ 0
      decide
  · intro j hj
    have hj3 : j < 4 := by simp at hj; omega
    match j, hj3 with
    | 0, _ => show 0 ≤ 100; decide
    | 1, _ => show 1 ≤ 100; decide
    | 2, _ => show 2 ≤ 100; decide
    | 3, _ => show 1 ≤ 100; decide
  · intro j i h hi
    have hi3 : i < 3 := hi
    match i, hi3 with
    | 0, _ =>
      obtain rfl : j = 2 := by simp at h; omega
      show Wc PXY (AXY X Y) ⟨14, ⟨#[]⟩, 0, 0⟩ (Wo.wh X) (Wo.wh Y) (Wo.tr (cmpB 14 (cmpI X Y)))
      exact .inr (.inr (.inr (.inr ⟨.inr (.inr (.inr (.inr (.inr rfl)))), .inr ⟨X, Y, hX, hY, rfl, rfl, rfl⟩⟩)))
    | 1, _ =>
      obtain rfl : j = 1 := by simp at h; omega
      show Wc PXY (AXY X Y) ⟨2, ⟨#[120]⟩, 0, 0⟩ Wo.no Wo.no (Wo.wh X)
      exact .inr (.inl ⟨rfl, 0, X, at_x X Y, fun _ => rfl, pk_x, rfl⟩)
    | 2, _ =>
      obtain rfl : j = 0 := by simp at h; omega
      show Wc PXY (AXY X Y) ⟨2, ⟨#[121]⟩, 0, 0⟩ Wo.no Wo.no (Wo.wh Y)
      exact .inr (.inl ⟨rfl, 1, Y, at_y X Y, fun _ => rfl, pk_y, rfl⟩)
theorem wC_fo (a : Wo) (z : Int) : wC a z = .no ∨ ∃ b, wC a z = .tr b := by
  cases a with
  | no => exact .inl rfl
  | tr b => exact .inl rfl
  | wh m => exact .inr ⟨_, rfl⟩
theorem sz_x : (⟨#[120]⟩ : ByteArray).size ≤ 256 := by decide
theorem sz_y : (⟨#[121]⟩ : ByteArray).size ≤ 256 := by decide
theorem op_ok (k : Int) (h : 3 ≤ k) (h2 : k ≤ 17) : (Pt.mk k ⟨#[]⟩ 0 0).Ok ∧ (Pt.mk k ⟨#[]⟩ 0 0).fine := ⟨⟨by show (-9223372036854775808 : Int) ≤ k; omega, by show k ≤ (9223372036854775807 : Int); omega, by show (-9223372036854775808 : Int) ≤ 0; decide, by show (0 : Int) ≤ 9223372036854775807; decide, by show (-9223372036854775808 : Int) ≤ 0; decide, by show (0 : Int) ≤ 9223372036854775807; decide⟩, .inr (.inr ⟨h, rfl, rfl, rfl⟩)⟩
theorem px_ok : (Pt.mk 2 ⟨#[120]⟩ 0 0).Ok ∧ (Pt.mk 2 ⟨#[120]⟩ 0 0).fine := ⟨⟨by decide, by decide, by decide, by decide, by decide, by decide⟩, .inr (.inl ⟨rfl, nm_x, rfl, rfl⟩)⟩
theorem py_ok : (Pt.mk 2 ⟨#[121]⟩ 0 0).Ok ∧ (Pt.mk 2 ⟨#[121]⟩ 0 0).fine := ⟨⟨by decide, by decide, by decide, by decide, by decide, by decide⟩, .inr (.inl ⟨rfl, nm_y, rfl, rfl⟩)⟩
theorem pz_ok (Z : Int) (h : In64 Z) : (Pt.mk 1 ⟨#[]⟩ 2 Z).Ok ∧ (Pt.mk 1 ⟨#[]⟩ 2 Z).fine := ⟨int_ok h, .inl ⟨rfl, rfl, int_may Z⟩⟩
theorem pars_ok : ∀ p ∈ PXY, nameL p.nm.toList = true ∧ 1 ≤ p.kind ∧ p.kind ≤ 5 := by
  intro p hp
  simp at hp
  rcases hp with rfl | rfl
  · exact ⟨nm_x, by decide, by decide⟩
  · exact ⟨nm_y, by decide, by decide⟩
theorem ex_plus (X Y Z : Int) (hX : In64 X) (hY : In64 Y) (hZ : In64 Z) : Ex X Y [⟨9, ⟨#[]⟩, 0, 0⟩, ⟨7, ⟨#[]⟩, 0, 0⟩, ⟨2, ⟨#[120]⟩, 0, 0⟩, ⟨2, ⟨#[121]⟩, 0, 0⟩, ⟨1, ⟨#[]⟩, 2, Z⟩] (wC (wZ (X + Y)) Z) := by
  refine ⟨⟨.bin 9 (.bin 7 (.par ⟨#[120]⟩) (.par ⟨#[121]⟩)) (.val 2 Z), ⟨by decide, ⟨by decide, sz_x, sz_y⟩, textOk_int Z hZ, by decide⟩, rfl⟩, ⟨nm_c, by simp, pars_ok, by simp, ?_, rfl⟩, ⟨[1, 2, 2, 2, 2], (fun _ => 0), kd_plus Z, (by show kindE [1, 2, 2, 2, 2] (fun _ => 0) 5 = (0, 0); decide)⟩, ⟨_, we_plus X Y Z hX hY hZ, rfl⟩, wC_fo _ _, .inr rfl, by simp, by simp⟩
  intro p hp
  simp at hp
  rcases hp with rfl | rfl | rfl | rfl | rfl
  · exact op_ok 9 (by decide) (by decide)
  · exact op_ok 7 (by decide) (by decide)
  · exact px_ok
  · exact py_ok
  · exact pz_ok Z hZ
theorem ex_less (X Y Z : Int) (hX : In64 X) (hY : In64 Y) (hZ : In64 Z) : Ex X Y [⟨9, ⟨#[]⟩, 0, 0⟩, ⟨8, ⟨#[]⟩, 0, 0⟩, ⟨2, ⟨#[120]⟩, 0, 0⟩, ⟨2, ⟨#[121]⟩, 0, 0⟩, ⟨1, ⟨#[]⟩, 2, Z⟩] (wC (wZ (X - Y)) Z) := by
  refine ⟨⟨.bin 9 (.bin 8 (.par ⟨#[120]⟩) (.par ⟨#[121]⟩)) (.val 2 Z), ⟨by decide, ⟨by decide, sz_x, sz_y⟩, textOk_int Z hZ, by decide⟩, rfl⟩, ⟨nm_c, by simp, pars_ok, by simp, ?_, rfl⟩, ⟨[1, 2, 2, 2, 2], (fun _ => 0), kd_less Z, (by show kindE [1, 2, 2, 2, 2] (fun _ => 0) 5 = (0, 0); decide)⟩, ⟨_, we_less X Y Z hX hY hZ, rfl⟩, wC_fo _ _, .inr rfl, by simp, by simp⟩
  intro p hp
  simp at hp
  rcases hp with rfl | rfl | rfl | rfl | rfl
  · exact op_ok 9 (by decide) (by decide)
  · exact op_ok 8 (by decide) (by decide)
  · exact px_ok
  · exact py_ok
  · exact pz_ok Z hZ
theorem ex_times (X Y Z : Int) (hX : In64 X) (hY : In64 Y) (hZ : In64 Z) : Ex X Y [⟨9, ⟨#[]⟩, 0, 0⟩, ⟨5, ⟨#[]⟩, 0, 0⟩, ⟨2, ⟨#[120]⟩, 0, 0⟩, ⟨2, ⟨#[121]⟩, 0, 0⟩, ⟨1, ⟨#[]⟩, 2, Z⟩] (wC (wZ (X * Y)) Z) := by
  refine ⟨⟨.bin 9 (.bin 5 (.par ⟨#[120]⟩) (.par ⟨#[121]⟩)) (.val 2 Z), ⟨by decide, ⟨by decide, sz_x, sz_y⟩, textOk_int Z hZ, by decide⟩, rfl⟩, ⟨nm_c, by simp, pars_ok, by simp, ?_, rfl⟩, ⟨[1, 2, 2, 2, 2], (fun _ => 0), kd_times Z, (by show kindE [1, 2, 2, 2, 2] (fun _ => 0) 5 = (0, 0); decide)⟩, ⟨_, we_times X Y Z hX hY hZ, rfl⟩, wC_fo _ _, .inr rfl, by simp, by simp⟩
  intro p hp
  simp at hp
  rcases hp with rfl | rfl | rfl | rfl | rfl
  · exact op_ok 9 (by decide) (by decide)
  · exact op_ok 5 (by decide) (by decide)
  · exact px_ok
  · exact py_ok
  · exact pz_ok Z hZ
theorem ex_over (X Y Z : Int) (hX : In64 X) (hY0 : Y ≠ 0) (hZ : In64 Z) : Ex X Y [⟨9, ⟨#[]⟩, 0, 0⟩, ⟨6, ⟨#[]⟩, 0, 0⟩, ⟨2, ⟨#[120]⟩, 0, 0⟩, ⟨2, ⟨#[121]⟩, 0, 0⟩, ⟨1, ⟨#[]⟩, 2, Z⟩] (wC (wZ (X.tdiv Y)) Z) := by
  refine ⟨⟨.bin 9 (.bin 6 (.par ⟨#[120]⟩) (.par ⟨#[121]⟩)) (.val 2 Z), ⟨by decide, ⟨by decide, sz_x, sz_y⟩, textOk_int Z hZ, by decide⟩, rfl⟩, ⟨nm_c, by simp, pars_ok, by simp, ?_, rfl⟩, ⟨[1, 2, 2, 2, 2], (fun _ => 0), kd_over Z, (by show kindE [1, 2, 2, 2, 2] (fun _ => 0) 5 = (0, 0); decide)⟩, ⟨_, we_over X Y Z hX hY0 hZ, rfl⟩, wC_fo _ _, .inr rfl, by simp, by simp⟩
  intro p hp
  simp at hp
  rcases hp with rfl | rfl | rfl | rfl | rfl
  · exact op_ok 9 (by decide) (by decide)
  · exact op_ok 6 (by decide) (by decide)
  · exact px_ok
  · exact py_ok
  · exact pz_ok Z hZ
theorem ex_minus (X Y Z : Int) (hX : In64 X) (hZ : In64 Z) : Ex X Y [⟨9, ⟨#[]⟩, 0, 0⟩, ⟨3, ⟨#[]⟩, 0, 0⟩, ⟨2, ⟨#[120]⟩, 0, 0⟩, ⟨1, ⟨#[]⟩, 2, Z⟩] (wC (wZ (0 - X)) Z) := by
  refine ⟨⟨.bin 9 (.un 3 (.par ⟨#[120]⟩)) (.val 2 Z), ⟨by decide, ⟨by decide, sz_x⟩, textOk_int Z hZ, by decide⟩, rfl⟩, ⟨nm_c, by simp, pars_ok, by simp, ?_, rfl⟩, ⟨[1, 2, 2, 2], (fun _ => 0), kd_minus Z, (by show kindE [1, 2, 2, 2] (fun _ => 0) 4 = (0, 0); decide)⟩, ⟨_, we_minus X Y Z hX hZ, rfl⟩, wC_fo _ _, .inl rfl, by simp, by simp⟩
  intro p hp
  simp at hp
  rcases hp with rfl | rfl | rfl | rfl
  · exact op_ok 9 (by decide) (by decide)
  · exact op_ok 3 (by decide) (by decide)
  · exact px_ok
  · exact pz_ok Z hZ
theorem ex_c9 (X Y : Int) (hX : In64 X) (hY : In64 Y) : Ex X Y [⟨9, ⟨#[]⟩, 0, 0⟩, ⟨2, ⟨#[120]⟩, 0, 0⟩, ⟨2, ⟨#[121]⟩, 0, 0⟩] (Wo.tr (cmpB 9 (cmpI X Y))) := by
  refine ⟨⟨.bin 9 (.par ⟨#[120]⟩) (.par ⟨#[121]⟩), ⟨by decide, sz_x, sz_y⟩, rfl⟩, ⟨nm_c, by simp, pars_ok, by simp, ?_, rfl⟩, ⟨[1, 2, 2], (fun _ => 0), kd_c9, (by show kindE [1, 2, 2] (fun _ => 0) 3 = (0, 0); decide)⟩, ⟨_, we_c9 X Y hX hY, rfl⟩, .inr ⟨_, rfl⟩, .inr rfl, by simp, by simp⟩
  intro p hp
  simp at hp
  rcases hp with rfl | rfl | rfl
  · exact op_ok 9 (by decide) (by decide)
  · exact px_ok
  · exact py_ok
theorem ex_c10 (X Y : Int) (hX : In64 X) (hY : In64 Y) : Ex X Y [⟨10, ⟨#[]⟩, 0, 0⟩, ⟨2, ⟨#[120]⟩, 0, 0⟩, ⟨2, ⟨#[121]⟩, 0, 0⟩] (Wo.tr (cmpB 10 (cmpI X Y))) := by
  refine ⟨⟨.bin 10 (.par ⟨#[120]⟩) (.par ⟨#[121]⟩), ⟨by decide, sz_x, sz_y⟩, rfl⟩, ⟨nm_c, by simp, pars_ok, by simp, ?_, rfl⟩, ⟨[1, 2, 2], (fun _ => 0), kd_c10, (by show kindE [1, 2, 2] (fun _ => 0) 3 = (0, 0); decide)⟩, ⟨_, we_c10 X Y hX hY, rfl⟩, .inr ⟨_, rfl⟩, .inr rfl, by simp, by simp⟩
  intro p hp
  simp at hp
  rcases hp with rfl | rfl | rfl
  · exact op_ok 10 (by decide) (by decide)
  · exact px_ok
  · exact py_ok
theorem ex_c11 (X Y : Int) (hX : In64 X) (hY : In64 Y) : Ex X Y [⟨11, ⟨#[]⟩, 0, 0⟩, ⟨2, ⟨#[120]⟩, 0, 0⟩, ⟨2, ⟨#[121]⟩, 0, 0⟩] (Wo.tr (cmpB 11 (cmpI X Y))) := by
  refine ⟨⟨.bin 11 (.par ⟨#[120]⟩) (.par ⟨#[121]⟩), ⟨by decide, sz_x, sz_y⟩, rfl⟩, ⟨nm_c, by simp, pars_ok, by simp, ?_, rfl⟩, ⟨[1, 2, 2], (fun _ => 0), kd_c11, (by show kindE [1, 2, 2] (fun _ => 0) 3 = (0, 0); decide)⟩, ⟨_, we_c11 X Y hX hY, rfl⟩, .inr ⟨_, rfl⟩, .inr rfl, by simp, by simp⟩
  intro p hp
  simp at hp
  rcases hp with rfl | rfl | rfl
  · exact op_ok 11 (by decide) (by decide)
  · exact px_ok
  · exact py_ok
theorem ex_c12 (X Y : Int) (hX : In64 X) (hY : In64 Y) : Ex X Y [⟨12, ⟨#[]⟩, 0, 0⟩, ⟨2, ⟨#[120]⟩, 0, 0⟩, ⟨2, ⟨#[121]⟩, 0, 0⟩] (Wo.tr (cmpB 12 (cmpI X Y))) := by
  refine ⟨⟨.bin 12 (.par ⟨#[120]⟩) (.par ⟨#[121]⟩), ⟨by decide, sz_x, sz_y⟩, rfl⟩, ⟨nm_c, by simp, pars_ok, by simp, ?_, rfl⟩, ⟨[1, 2, 2], (fun _ => 0), kd_c12, (by show kindE [1, 2, 2] (fun _ => 0) 3 = (0, 0); decide)⟩, ⟨_, we_c12 X Y hX hY, rfl⟩, .inr ⟨_, rfl⟩, .inr rfl, by simp, by simp⟩
  intro p hp
  simp at hp
  rcases hp with rfl | rfl | rfl
  · exact op_ok 12 (by decide) (by decide)
  · exact px_ok
  · exact py_ok
theorem ex_c13 (X Y : Int) (hX : In64 X) (hY : In64 Y) : Ex X Y [⟨13, ⟨#[]⟩, 0, 0⟩, ⟨2, ⟨#[120]⟩, 0, 0⟩, ⟨2, ⟨#[121]⟩, 0, 0⟩] (Wo.tr (cmpB 13 (cmpI X Y))) := by
  refine ⟨⟨.bin 13 (.par ⟨#[120]⟩) (.par ⟨#[121]⟩), ⟨by decide, sz_x, sz_y⟩, rfl⟩, ⟨nm_c, by simp, pars_ok, by simp, ?_, rfl⟩, ⟨[1, 2, 2], (fun _ => 0), kd_c13, (by show kindE [1, 2, 2] (fun _ => 0) 3 = (0, 0); decide)⟩, ⟨_, we_c13 X Y hX hY, rfl⟩, .inr ⟨_, rfl⟩, .inr rfl, by simp, by simp⟩
  intro p hp
  simp at hp
  rcases hp with rfl | rfl | rfl
  · exact op_ok 13 (by decide) (by decide)
  · exact px_ok
  · exact py_ok
theorem ex_c14 (X Y : Int) (hX : In64 X) (hY : In64 Y) : Ex X Y [⟨14, ⟨#[]⟩, 0, 0⟩, ⟨2, ⟨#[120]⟩, 0, 0⟩, ⟨2, ⟨#[121]⟩, 0, 0⟩] (Wo.tr (cmpB 14 (cmpI X Y))) := by
  refine ⟨⟨.bin 14 (.par ⟨#[120]⟩) (.par ⟨#[121]⟩), ⟨by decide, sz_x, sz_y⟩, rfl⟩, ⟨nm_c, by simp, pars_ok, by simp, ?_, rfl⟩, ⟨[1, 2, 2], (fun _ => 0), kd_c14, (by show kindE [1, 2, 2] (fun _ => 0) 3 = (0, 0); decide)⟩, ⟨_, we_c14 X Y hX hY, rfl⟩, .inr ⟨_, rfl⟩, .inr rfl, by simp, by simp⟩
  intro p hp
  simp at hp
  rcases hp with rfl | rfl | rfl
  · exact op_ok 14 (by decide) (by decide)
  · exact px_ok
  · exact py_ok
end Go.Proofs.YtplbclokoffgkaaGreatDoor

/- Conditions: the expressions of CondsReckons as they are laid; the arithmetic of the law. -/
namespace Go.Proofs.YtplbclokoffgkaaGreatDoor
open Go.RowKit Go.PlainAid Go.Shelf

theorem pp5_of (k : Int) (Z : Int) {W : World} {g : Nat} (h : W.heap[g]? = some (.cells #[.int .i64 9, .string ⟨#[]⟩, .int .i64 0, .bool false, .int .i64 0, .float .f32 0, .string ⟨#[]⟩, .slice none 0 0, .int .i64 k, .string ⟨#[]⟩, .int .i64 0, .bool false, .int .i64 0, .float .f32 0, .string ⟨#[]⟩, .slice none 0 0, .int .i64 2, .string ⟨#[120]⟩, .int .i64 0, .bool false, .int .i64 0, .float .f32 0, .string ⟨#[]⟩, .slice none 0 0, .int .i64 2, .string ⟨#[121]⟩, .int .i64 0, .bool false, .int .i64 0, .float .f32 0, .string ⟨#[]⟩, .slice none 0 0, .int .i64 1, .string ⟨#[]⟩, .int .i64 2, .bool false, .int .i64 Z, .float .f32 0, .string ⟨#[]⟩, .slice none 0 0] 36 (0, 0))) : Pp W (.slice (some ⟨g, 0, none⟩) 5 5) [⟨9, ⟨#[]⟩, 0, 0⟩, ⟨k, ⟨#[]⟩, 0, 0⟩, ⟨2, ⟨#[120]⟩, 0, 0⟩, ⟨2, ⟨#[121]⟩, 0, 0⟩, ⟨1, ⟨#[]⟩, 2, Z⟩] := by
  refine ⟨some ⟨g, 0, none⟩, 5, rfl, by simp, by decide, fun _ => ⟨g, 0, rfl, fun i hi => ?_⟩⟩
  have hi1 : i < 5 := hi
  match i, hi1 with
  | 0, _ => refine ⟨?_, ?_, ?_, ?_, ?_, ?_, ?_, ?_⟩ <;> (unfold World.cell?; rw [h]; rfl)
  | 1, _ => refine ⟨?_, ?_, ?_, ?_, ?_, ?_, ?_, ?_⟩ <;> (unfold World.cell?; rw [h]; rfl)
  | 2, _ => refine ⟨?_, ?_, ?_, ?_, ?_, ?_, ?_, ?_⟩ <;> (unfold World.cell?; rw [h]; rfl)
  | 3, _ => refine ⟨?_, ?_, ?_, ?_, ?_, ?_, ?_, ?_⟩ <;> (unfold World.cell?; rw [h]; rfl)
  | 4, _ => refine ⟨?_, ?_, ?_, ?_, ?_, ?_, ?_, ?_⟩ <;> (unfold World.cell?; rw [h]; rfl)

theorem pp4_of (Z : Int) {W : World} {g : Nat} (h : W.heap[g]? = some (.cells #[.int .i64 9, .string ⟨#[]⟩, .int .i64 0, .bool false, .int .i64 0, .float .f32 0, .string ⟨#[]⟩, .slice none 0 0, .int .i64 3, .string ⟨#[]⟩, .int .i64 0, .bool false, .int .i64 0, .float .f32 0, .string ⟨#[]⟩, .slice none 0 0, .int .i64 2, .string ⟨#[120]⟩, .int .i64 0, .bool false, .int .i64 0, .float .f32 0, .string ⟨#[]⟩, .slice none 0 0, .int .i64 1, .string ⟨#[]⟩, .int .i64 2, .bool false, .int .i64 Z, .float .f32 0, .string ⟨#[]⟩, .slice none 0 0] 36 (0, 0))) : Pp W (.slice (some ⟨g, 0, none⟩) 4 4) [⟨9, ⟨#[]⟩, 0, 0⟩, ⟨3, ⟨#[]⟩, 0, 0⟩, ⟨2, ⟨#[120]⟩, 0, 0⟩, ⟨1, ⟨#[]⟩, 2, Z⟩] := by
  refine ⟨some ⟨g, 0, none⟩, 4, rfl, by simp, by decide, fun _ => ⟨g, 0, rfl, fun i hi => ?_⟩⟩
  have hi1 : i < 4 := hi
  match i, hi1 with
  | 0, _ => refine ⟨?_, ?_, ?_, ?_, ?_, ?_, ?_, ?_⟩ <;> (unfold World.cell?; rw [h]; rfl)
  | 1, _ => refine ⟨?_, ?_, ?_, ?_, ?_, ?_, ?_, ?_⟩ <;> (unfold World.cell?; rw [h]; rfl)
  | 2, _ => refine ⟨?_, ?_, ?_, ?_, ?_, ?_, ?_, ?_⟩ <;> (unfold World.cell?; rw [h]; rfl)
  | 3, _ => refine ⟨?_, ?_, ?_, ?_, ?_, ?_, ?_, ?_⟩ <;> (unfold World.cell?; rw [h]; rfl)

theorem pp3_of (k : Int) {W : World} {g : Nat} (h : W.heap[g]? = some (.cells #[.int .i64 k, .string ⟨#[]⟩, .int .i64 0, .bool false, .int .i64 0, .float .f32 0, .string ⟨#[]⟩, .slice none 0 0, .int .i64 2, .string ⟨#[120]⟩, .int .i64 0, .bool false, .int .i64 0, .float .f32 0, .string ⟨#[]⟩, .slice none 0 0, .int .i64 2, .string ⟨#[121]⟩, .int .i64 0, .bool false, .int .i64 0, .float .f32 0, .string ⟨#[]⟩, .slice none 0 0] 36 (0, 0))) : Pp W (.slice (some ⟨g, 0, none⟩) 3 3) [⟨k, ⟨#[]⟩, 0, 0⟩, ⟨2, ⟨#[120]⟩, 0, 0⟩, ⟨2, ⟨#[121]⟩, 0, 0⟩] := by
  refine ⟨some ⟨g, 0, none⟩, 3, rfl, by simp, by decide, fun _ => ⟨g, 0, rfl, fun i hi => ?_⟩⟩
  have hi1 : i < 3 := hi
  match i, hi1 with
  | 0, _ => refine ⟨?_, ?_, ?_, ?_, ?_, ?_, ?_, ?_⟩ <;> (unfold World.cell?; rw [h]; rfl)
  | 1, _ => refine ⟨?_, ?_, ?_, ?_, ?_, ?_, ?_, ?_⟩ <;> (unfold World.cell?; rw [h]; rfl)
  | 2, _ => refine ⟨?_, ?_, ?_, ?_, ?_, ?_, ?_, ?_⟩ <;> (unfold World.cell?; rw [h]; rfl)

theorem cmpI_self (s : Int) : cmpI s s = 0 := by unfold cmpI; simp
/-- what is held against its own wrapped sum: known and met just if it is one of 64 bits -/
theorem wC_wrap (s : Int) : (wC (wZ s) (wrap64 s)).kn = decide (In64 s) ∧ (wC (wZ s) (wrap64 s)).mt = decide (In64 s) := by
  unfold wZ
  by_cases h : In64 s
  · rw [if_pos h, wrap_in h, decide_eq_true h]
    unfold wC
    simp only [cmpI_self]
    exact ⟨rfl, rfl⟩
  · rw [if_neg h, decide_eq_false h]
    exact ⟨rfl, rfl⟩
theorem room_plus (x y : Int) (hx : In64 x) (hy : In64 y) : ((decide (y ≤ 0) || decide (x ≤ wrap64 (9223372036854775807 - y))) && (decide (0 ≤ y) || decide (wrap64 (-9223372036854775808 - y) ≤ x))) = decide (In64 (x + y)) := by
  obtain ⟨x1, x2⟩ := hx
  obtain ⟨y1, y2⟩ := hy
  rw [Bool.eq_iff_iff]
  simp only [Bool.and_eq_true, Bool.or_eq_true, decide_eq_true_eq]
  unfold wrap64 In64
  omega
theorem room_less (x y : Int) (hx : In64 x) (hy : In64 y) : ((decide (0 ≤ y) || decide (x ≤ wrap64 (9223372036854775807 + y))) && (decide (y ≤ 0) || decide (wrap64 (-9223372036854775808 + y) ≤ x))) = decide (In64 (x - y)) := by
  obtain ⟨x1, x2⟩ := hx
  obtain ⟨y1, y2⟩ := hy
  rw [Bool.eq_iff_iff]
  simp only [Bool.and_eq_true, Bool.or_eq_true, decide_eq_true_eq]
  unfold wrap64 In64
  omega
theorem room_minus (x : Int) (hx : In64 x) : decide (In64 (0 - x)) = (x != -9223372036854775808) := by
  obtain ⟨x1, x2⟩ := hx
  rw [Bool.eq_iff_iff]
  simp only [decide_eq_true_eq, bne_iff_ne, ne_eq]
  unfold In64
  omega
theorem room_over (x y : Int) (hx : In64 x) (hy : In64 y) (h0 : y ≠ 0) : decide (In64 (x.tdiv y)) = (x != -9223372036854775808 || y != -1) := by
  by_cases ht : x = -9223372036854775808 ∧ y = -1
  · obtain ⟨rfl, rfl⟩ := ht
    decide
  · rw [decide_eq_true (over_in hx h0 ht)]
    symm
    rw [Bool.or_eq_true, bne_iff_ne, bne_iff_ne]
    by_cases h1 : x = -9223372036854775808
    · exact .inr (fun h2 => ht ⟨h1, h2⟩)
    · exact .inl h1
theorem cmp_is (x y : Int) : cmpB 9 (cmpI x y) = decide (x = y) ∧ cmpB 10 (cmpI x y) = decide (x ≠ y) ∧ cmpB 11 (cmpI x y) = decide (x < y) ∧ cmpB 12 (cmpI x y) = decide (x ≤ y) ∧ cmpB 13 (cmpI x y) = decide (y < x) ∧ cmpB 14 (cmpI x y) = decide (y ≤ x) := by
  unfold cmpI cmpB
  by_cases h1 : x < y
  · simp [h1, show ¬ x = y by omega, show x ≤ y by omega, show ¬ y < x by omega, show ¬ y ≤ x by omega]
  · by_cases h2 : y < x
    · simp [h1, h2, show ¬ x = y by omega, show ¬ x ≤ y by omega, show y ≤ x by omega]
    · obtain rfl : x = y := by omega
      simp
end Go.Proofs.YtplbclokoffgkaaGreatDoor

/- Conditions: CondsReckons, its walk: what it stands on. -/
namespace Go.Proofs.YtplbclokoffgkaaGreatDoor
open Go.RowKit Go.PlainAid Go.Shelf

/-- where the law stands: the boxes of x and y -/
structure Rk (w : World) (P1 P2 : Nat) (W : World) : Prop where
  kp : Keep [] w W
  b1 : W.heap[P1]? = some (.cells #[.int .i64 2, .string ⟨#[120]⟩, .int .i64 0, .bool false, .int .i64 0, .float .f32 0, .string ⟨#[]⟩, .slice none 0 0] 36 (0, 0))
  b2 : W.heap[P2]? = some (.cells #[.int .i64 2, .string ⟨#[121]⟩, .int .i64 0, .bool false, .int .i64 0, .float .f32 0, .string ⟨#[]⟩, .slice none 0 0] 36 (0, 0))
theorem Rk.keep {w : World} {P1 P2 : Nat} {W W' : World} (h : Rk w P1 P2 W) (k : Keep [] W W') : Rk w P1 P2 W' :=
  ⟨h.kp.trans' k, (k.block _ (Array.getElem?_eq_some_iff.1 h.b1).1 (by simp)).trans h.b1, (k.block _ (Array.getElem?_eq_some_iff.1 h.b2).1 (by simp)).trans h.b2⟩
theorem eight_cell {W : World} {b : Nat} {u0 u1 u2 u3 u4 u5 u6 u7 : Value} {t : TypeId} (h : W.heap[b]? = some (.cells #[u0, u1, u2, u3, u4, u5, u6, u7] t (0, 0))) : W.cell? ⟨b, 0, none⟩ = some u0 ∧ W.cell? ⟨b, 1, none⟩ = some u1 ∧ W.cell? ⟨b, 2, none⟩ = some u2 ∧ W.cell? ⟨b, 3, none⟩ = some u3 ∧ W.cell? ⟨b, 4, none⟩ = some u4 ∧ W.cell? ⟨b, 5, none⟩ = some u5 ∧ W.cell? ⟨b, 6, none⟩ = some u6 ∧ W.cell? ⟨b, 7, none⟩ = some u7 := by
  refine ⟨?_, ?_, ?_, ?_, ?_, ?_, ?_, ?_⟩
  all_goals (unfold World.cell?; rw [h]; rfl)
/-- one ask, of a block that was just laid -/
theorem ask_at (x y : Int) (hx : In64 x) (hy : In64 y) (xs : List Pt) (f : Wo) (hE : Ex x y xs f) (n g : Nat) (w : World) (hT : Tb w) (hP : Pp w (.slice (some ⟨g, 0, none⟩) n n) xs) (hg : g < w.heap.size) :
    Calls Tryz.prog 8 #[.slice (some ⟨g, 0, none⟩) n n, .int .i64 x, .int .i64 y] w fun e w' => ∃ vl, (∃ a n c, vl = .slice a n c) ∧ e = .returned (.agg #[.bool f.kn, .bool f.mt, vl]) ∧ Keep [] w w' :=
  ask_any x y hx hy xs f hE _ w hP hT (fun k hk => by simp [Value.ownBlock] at hk; subst hk; exact hg)
theorem room_over2 (x y : Int) (hx : In64 x) (hy : In64 y) (h0 : y ≠ 0) : (!decide (x = -9223372036854775808) || !decide (y = -1)) = decide (In64 (x.tdiv y)) := by
  rw [room_over x y hx hy h0]
  by_cases h1 : x = -9223372036854775808 <;> by_cases h2 : y = -1 <;> simp [h1, h2]
theorem room_times (x y : Int) (hx : In64 x) (hy : In64 y) (h0 : y ≠ 0) : (decide (x = 0) || (decide ((wrap64 ((wrap64 (x * y)).tdiv y)) = x) && (x != -9223372036854775808 || y != -1))) = decide (In64 (x * y)) := by
  by_cases ht : x = -9223372036854775808 ∧ y = -1
  · obtain ⟨rfl, rfl⟩ := ht
    decide +kernel
  · have h1 := mul_test hx hy h0 ht
    have h2 : (x != -9223372036854775808 || y != -1) = true := by
      by_cases h3 : x = -9223372036854775808
      · have h4 : y ≠ -1 := fun h4 => ht ⟨h3, h4⟩
        simp [h4]
      · simp [h3]
    rw [h2, Bool.and_true]
    by_cases h5 : x = 0
    · subst h5
      rw [Int.zero_mul, decide_eq_true rfl, Bool.true_or]
      exact (decide_eq_true (by unfold In64; decide)).symm
    · rw [decide_eq_false h5, Bool.false_or]
      have h6 : decide (wrap64 ((wrap64 (x * y)).tdiv y) = x) = !(wrap64 ((wrap64 (x * y)).tdiv y) != x) := by
        by_cases h7 : wrap64 ((wrap64 (x * y)).tdiv y) = x
        · simp [h7]
        · simp [h7]
      rw [h6, h1, Bool.not_not]
theorem room_times2 (x y : Int) (hx : In64 x) (hy : In64 y) (h0 : y ≠ 0) : (decide (x = 0) || (decide ((wrap64 ((wrap64 (x * y)).tdiv y)) = x) && (!decide (x = -9223372036854775808) || !decide (y = -1)))) = decide (In64 (x * y)) := by
  rw [← room_times x y hx hy h0]
  congr 2
theorem ask_plus (x y : Int) (hx : In64 x) (hy : In64 y) (g : Nat) (W0 : World) (hT : Tb W0) (hg : W0.heap.size = g) :
    Calls Tryz.prog 8 #[.slice (some ⟨g, 0, none⟩) 5 5, .int .i64 x, .int .i64 y] (W0.alloc (.cells #[.int .i64 9, .string ⟨#[]⟩, .int .i64 0, .bool false, .int .i64 0, .float .f32 0, .string ⟨#[]⟩, .slice none 0 0, .int .i64 7, .string ⟨#[]⟩, .int .i64 0, .bool false, .int .i64 0, .float .f32 0, .string ⟨#[]⟩, .slice none 0 0, .int .i64 2, .string ⟨#[120]⟩, .int .i64 0, .bool false, .int .i64 0, .float .f32 0, .string ⟨#[]⟩, .slice none 0 0, .int .i64 2, .string ⟨#[121]⟩, .int .i64 0, .bool false, .int .i64 0, .float .f32 0, .string ⟨#[]⟩, .slice none 0 0, .int .i64 1, .string ⟨#[]⟩, .int .i64 2, .bool false, .int .i64 (wrap64 (x + y)), .float .f32 0, .string ⟨#[]⟩, .slice none 0 0] 36)) fun e w' => ∃ vl, (∃ a n c, vl = .slice a n c) ∧ e = .returned (.agg #[.bool (decide (In64 (x + y))), .bool (decide (In64 (x + y))), vl]) ∧ Keep [] W0 w' := by
  subst hg
  refine (ask_at x y hx hy _ _ (ex_plus x y (wrap64 (x + y)) hx hy (wrap64_is _)) 5 _ _ (hT.keep (Keep.alloc1 W0 _) (fun _ _ => by simp)) (pp5_of 7 _ (heap_alloc_new' _ _)) (by simp)).mono ?_
  rintro e w' ⟨vl, hvl, rfl, hk⟩
  refine ⟨vl, hvl, ?_, (Keep.alloc1 W0 _).trans' hk⟩
  rw [(wC_wrap (x + y)).1, (wC_wrap (x + y)).2]
theorem ask_less (x y : Int) (hx : In64 x) (hy : In64 y) (g : Nat) (W0 : World) (hT : Tb W0) (hg : W0.heap.size = g) :
    Calls Tryz.prog 8 #[.slice (some ⟨g, 0, none⟩) 5 5, .int .i64 x, .int .i64 y] (W0.alloc (.cells #[.int .i64 9, .string ⟨#[]⟩, .int .i64 0, .bool false, .int .i64 0, .float .f32 0, .string ⟨#[]⟩, .slice none 0 0, .int .i64 8, .string ⟨#[]⟩, .int .i64 0, .bool false, .int .i64 0, .float .f32 0, .string ⟨#[]⟩, .slice none 0 0, .int .i64 2, .string ⟨#[120]⟩, .int .i64 0, .bool false, .int .i64 0, .float .f32 0, .string ⟨#[]⟩, .slice none 0 0, .int .i64 2, .string ⟨#[121]⟩, .int .i64 0, .bool false, .int .i64 0, .float .f32 0, .string ⟨#[]⟩, .slice none 0 0, .int .i64 1, .string ⟨#[]⟩, .int .i64 2, .bool false, .int .i64 (wrap64 (x - y)), .float .f32 0, .string ⟨#[]⟩, .slice none 0 0] 36)) fun e w' => ∃ vl, (∃ a n c, vl = .slice a n c) ∧ e = .returned (.agg #[.bool (decide (In64 (x - y))), .bool (decide (In64 (x - y))), vl]) ∧ Keep [] W0 w' := by
  subst hg
  refine (ask_at x y hx hy _ _ (ex_less x y (wrap64 (x - y)) hx hy (wrap64_is _)) 5 _ _ (hT.keep (Keep.alloc1 W0 _) (fun _ _ => by simp)) (pp5_of 8 _ (heap_alloc_new' _ _)) (by simp)).mono ?_
  rintro e w' ⟨vl, hvl, rfl, hk⟩
  refine ⟨vl, hvl, ?_, (Keep.alloc1 W0 _).trans' hk⟩
  rw [(wC_wrap (x - y)).1, (wC_wrap (x - y)).2]
theorem ask_times (x y : Int) (hx : In64 x) (hy : In64 y) (g : Nat) (W0 : World) (hT : Tb W0) (hg : W0.heap.size = g) :
    Calls Tryz.prog 8 #[.slice (some ⟨g, 0, none⟩) 5 5, .int .i64 x, .int .i64 y] (W0.alloc (.cells #[.int .i64 9, .string ⟨#[]⟩, .int .i64 0, .bool false, .int .i64 0, .float .f32 0, .string ⟨#[]⟩, .slice none 0 0, .int .i64 5, .string ⟨#[]⟩, .int .i64 0, .bool false, .int .i64 0, .float .f32 0, .string ⟨#[]⟩, .slice none 0 0, .int .i64 2, .string ⟨#[120]⟩, .int .i64 0, .bool false, .int .i64 0, .float .f32 0, .string ⟨#[]⟩, .slice none 0 0, .int .i64 2, .string ⟨#[121]⟩, .int .i64 0, .bool false, .int .i64 0, .float .f32 0, .string ⟨#[]⟩, .slice none 0 0, .int .i64 1, .string ⟨#[]⟩, .int .i64 2, .bool false, .int .i64 (wrap64 (x * y)), .float .f32 0, .string ⟨#[]⟩, .slice none 0 0] 36)) fun e w' => ∃ vl, (∃ a n c, vl = .slice a n c) ∧ e = .returned (.agg #[.bool (decide (In64 (x * y))), .bool (decide (In64 (x * y))), vl]) ∧ Keep [] W0 w' := by
  subst hg
  refine (ask_at x y hx hy _ _ (ex_times x y (wrap64 (x * y)) hx hy (wrap64_is _)) 5 _ _ (hT.keep (Keep.alloc1 W0 _) (fun _ _ => by simp)) (pp5_of 5 _ (heap_alloc_new' _ _)) (by simp)).mono ?_
  rintro e w' ⟨vl, hvl, rfl, hk⟩
  refine ⟨vl, hvl, ?_, (Keep.alloc1 W0 _).trans' hk⟩
  rw [(wC_wrap (x * y)).1, (wC_wrap (x * y)).2]
theorem ask_over (x y : Int) (hx : In64 x) (hy : In64 y) (h0 : y ≠ 0) (g : Nat) (W0 : World) (hT : Tb W0) (hg : W0.heap.size = g) :
    Calls Tryz.prog 8 #[.slice (some ⟨g, 0, none⟩) 5 5, .int .i64 x, .int .i64 y] (W0.alloc (.cells #[.int .i64 9, .string ⟨#[]⟩, .int .i64 0, .bool false, .int .i64 0, .float .f32 0, .string ⟨#[]⟩, .slice none 0 0, .int .i64 6, .string ⟨#[]⟩, .int .i64 0, .bool false, .int .i64 0, .float .f32 0, .string ⟨#[]⟩, .slice none 0 0, .int .i64 2, .string ⟨#[120]⟩, .int .i64 0, .bool false, .int .i64 0, .float .f32 0, .string ⟨#[]⟩, .slice none 0 0, .int .i64 2, .string ⟨#[121]⟩, .int .i64 0, .bool false, .int .i64 0, .float .f32 0, .string ⟨#[]⟩, .slice none 0 0, .int .i64 1, .string ⟨#[]⟩, .int .i64 2, .bool false, .int .i64 (wrap64 (x.tdiv y)), .float .f32 0, .string ⟨#[]⟩, .slice none 0 0] 36)) fun e w' => ∃ vl, (∃ a n c, vl = .slice a n c) ∧ e = .returned (.agg #[.bool (decide (In64 (x.tdiv y))), .bool (decide (In64 (x.tdiv y))), vl]) ∧ Keep [] W0 w' := by
  subst hg
  refine (ask_at x y hx hy _ _ (ex_over x y (wrap64 (x.tdiv y)) hx h0 (wrap64_is _)) 5 _ _ (hT.keep (Keep.alloc1 W0 _) (fun _ _ => by simp)) (pp5_of 6 _ (heap_alloc_new' _ _)) (by simp)).mono ?_
  rintro e w' ⟨vl, hvl, rfl, hk⟩
  refine ⟨vl, hvl, ?_, (Keep.alloc1 W0 _).trans' hk⟩
  rw [(wC_wrap (x.tdiv y)).1, (wC_wrap (x.tdiv y)).2]
theorem ask_minus (x y : Int) (hx : In64 x) (hy : In64 y) (g : Nat) (W0 : World) (hT : Tb W0) (hg : W0.heap.size = g) :
    Calls Tryz.prog 8 #[.slice (some ⟨g, 0, none⟩) 4 4, .int .i64 x, .int .i64 y] (W0.alloc (.cells #[.int .i64 9, .string ⟨#[]⟩, .int .i64 0, .bool false, .int .i64 0, .float .f32 0, .string ⟨#[]⟩, .slice none 0 0, .int .i64 3, .string ⟨#[]⟩, .int .i64 0, .bool false, .int .i64 0, .float .f32 0, .string ⟨#[]⟩, .slice none 0 0, .int .i64 2, .string ⟨#[120]⟩, .int .i64 0, .bool false, .int .i64 0, .float .f32 0, .string ⟨#[]⟩, .slice none 0 0, .int .i64 1, .string ⟨#[]⟩, .int .i64 2, .bool false, .int .i64 (wrap64 (0 - x)), .float .f32 0, .string ⟨#[]⟩, .slice none 0 0] 36)) fun e w' => ∃ vl, (∃ a n c, vl = .slice a n c) ∧ e = .returned (.agg #[.bool (decide (In64 (0 - x))), .bool (decide (In64 (0 - x))), vl]) ∧ Keep [] W0 w' := by
  subst hg
  refine (ask_at x y hx hy _ _ (ex_minus x y (wrap64 (0 - x)) hx (wrap64_is _)) 4 _ _ (hT.keep (Keep.alloc1 W0 _) (fun _ _ => by simp)) (pp4_of _ (heap_alloc_new' _ _)) (by simp)).mono ?_
  rintro e w' ⟨vl, hvl, rfl, hk⟩
  refine ⟨vl, hvl, ?_, (Keep.alloc1 W0 _).trans' hk⟩
  rw [(wC_wrap (0 - x)).1, (wC_wrap (0 - x)).2]
/-- a box that holds what was answered -/
def Bo (W : World) (p : Nat) (kn mt : Bool) : Prop := W.cell? ⟨p, 0, none⟩ = some (.bool kn) ∧ W.cell? ⟨p, 1, none⟩ = some (.bool mt)
theorem Bo.keep {W W' : World} {p : Nat} {kn mt : Bool} (h : Bo W p kn mt) (k : Keep [] W W') : Bo W' p kn mt := ⟨k.cell' h.1 (by simp), k.cell' h.2 (by simp)⟩
theorem Bo.new (W : World) (kn mt : Bool) (a : Option Addr) (n c : Nat) : Bo (W.alloc (.cells #[.bool kn, .bool mt, .slice a n c] 40)) W.heap.size kn mt :=
  ⟨by rw [World.cell?_alloc_new]; rfl, by rw [World.cell?_alloc_new]; rfl⟩
theorem Bo.cell {W : World} {p : Nat} {kn mt : Bool} (h : Bo W p kn mt) : W.cell? ⟨p, 0, none⟩ = some (.bool kn) ∧ W.cell? ⟨p, 1, none⟩ = some (.bool mt) := h
theorem over_at (x y : Int) (hx : In64 x) (hy : In64 y) (h0 : y ≠ 0) (g : Nat) (W1 : World) (hT : Tb W1) (hb : W1.heap[g]? = some (.cells #[.int .i64 9, .string ⟨#[]⟩, .int .i64 0, .bool false, .int .i64 0, .float .f32 0, .string ⟨#[]⟩, .slice none 0 0, .int .i64 6, .string ⟨#[]⟩, .int .i64 0, .bool false, .int .i64 0, .float .f32 0, .string ⟨#[]⟩, .slice none 0 0, .int .i64 2, .string ⟨#[120]⟩, .int .i64 0, .bool false, .int .i64 0, .float .f32 0, .string ⟨#[]⟩, .slice none 0 0, .int .i64 2, .string ⟨#[121]⟩, .int .i64 0, .bool false, .int .i64 0, .float .f32 0, .string ⟨#[]⟩, .slice none 0 0, .int .i64 1, .string ⟨#[]⟩, .int .i64 2, .bool false, .int .i64 (wrap64 (x.tdiv y)), .float .f32 0, .string ⟨#[]⟩, .slice none 0 0] 36 (0, 0))) :
    Calls Tryz.prog 8 #[.slice (some ⟨g, 0, none⟩) 5 5, .int .i64 x, .int .i64 y] W1 fun e w' => ∃ vl, (∃ a n c, vl = .slice a n c) ∧ e = .returned (.agg #[.bool (decide (In64 (x.tdiv y))), .bool (decide (In64 (x.tdiv y))), vl]) ∧ Keep [] W1 w' := by
  refine (ask_at x y hx hy _ _ (ex_over x y (wrap64 (x.tdiv y)) hx h0 (wrap64_is _)) 5 _ _ hT (pp5_of 6 _ hb) (Array.getElem?_eq_some_iff.1 hb).1).mono ?_
  rintro e w' ⟨vl, hvl, rfl, hk⟩
  refine ⟨vl, hvl, ?_, hk⟩
  rw [(wC_wrap (x.tdiv y)).1, (wC_wrap (x.tdiv y)).2]
theorem boxz {W : World} {p : Nat} (h : W.heap[p]? = some (.cells #[.bool false, .bool false, .slice none 0 0] 40 (0, 0))) : W.cell? ⟨p, 0, none⟩ = some (.bool false) ∧ W.cell? ⟨p, 1, none⟩ = some (.bool false) ∧ W.cell? ⟨p, 2, none⟩ = some (.slice none 0 0) ∧ W.frozen? ⟨p, 0, none⟩ = false ∧ W.frozen? ⟨p, 1, none⟩ = false ∧ W.frozen? ⟨p, 2, none⟩ = false := by
  refine ⟨?_, ?_, ?_, ?_, ?_, ?_⟩
  all_goals (first | (unfold World.cell?; rw [h]; rfl) | (unfold World.frozen?; rw [h]; rfl) | (simp [World.frozen?, h]; done))
theorem bo_set3 {w6 : World} {p : Nat} {u0 u1 u2 : Value} (a b : Bool) (s : Value) (f0 : w6.cell? ⟨p, 0, none⟩ = some u0) (f1 : w6.cell? ⟨p, 1, none⟩ = some u1) (_f2 : w6.cell? ⟨p, 2, none⟩ = some u2) : Bo (((w6.setCell ⟨p, 0, none⟩ (.bool a)).setCell ⟨p, 1, none⟩ (.bool b)).setCell ⟨p, 2, none⟩ s) p a b := by
  have n01 : (⟨p, 1, none⟩ : Addr) ≠ ⟨p, 0, none⟩ := by simp
  have n02 : (⟨p, 2, none⟩ : Addr) ≠ ⟨p, 0, none⟩ := by simp
  have n10 : (⟨p, 0, none⟩ : Addr) ≠ ⟨p, 1, none⟩ := by simp
  have n12 : (⟨p, 2, none⟩ : Addr) ≠ ⟨p, 1, none⟩ := by simp
  refine ⟨?_, ?_⟩
  · exact (World.cell?_setCell_other _ _ _ _ n02).trans ((World.cell?_setCell_other _ _ _ _ n01).trans (World.cell?_setCell_same _ _ _ f0))
  · exact (World.cell?_setCell_other _ _ _ _ n12).trans (World.cell?_setCell_same _ _ _ ((World.cell?_setCell_other _ _ _ _ n10).trans f1))
theorem keep_set3 {W w6 : World} {p : Nat} (h : Keep [] W w6) (hp : W.heap.size ≤ p) (a b c : Value) : Keep [] W (((w6.setCell ⟨p, 0, none⟩ a).setCell ⟨p, 1, none⟩ b).setCell ⟨p, 2, none⟩ c) := ((h.setCell (.inr hp) _).setCell (.inr hp) _).setCell (.inr hp) _
/-- what the drawn region reads -/
def Sx (P1 P2 : Nat) (W : World) : Prop := (W.cell? ⟨P1, 0, none⟩ = some (.int .i64 2) ∧ W.cell? ⟨P1, 1, none⟩ = some (.string ⟨#[120]⟩) ∧ W.cell? ⟨P1, 2, none⟩ = some (.int .i64 0) ∧ W.cell? ⟨P1, 3, none⟩ = some (.bool false) ∧ W.cell? ⟨P1, 4, none⟩ = some (.int .i64 0) ∧ W.cell? ⟨P1, 5, none⟩ = some (.float .f32 0) ∧ W.cell? ⟨P1, 6, none⟩ = some (.string ⟨#[]⟩) ∧ W.cell? ⟨P1, 7, none⟩ = some (.slice none 0 0)) ∧ (W.cell? ⟨P2, 0, none⟩ = some (.int .i64 2) ∧ W.cell? ⟨P2, 1, none⟩ = some (.string ⟨#[121]⟩) ∧ W.cell? ⟨P2, 2, none⟩ = some (.int .i64 0) ∧ W.cell? ⟨P2, 3, none⟩ = some (.bool false) ∧ W.cell? ⟨P2, 4, none⟩ = some (.int .i64 0) ∧ W.cell? ⟨P2, 5, none⟩ = some (.float .f32 0) ∧ W.cell? ⟨P2, 6, none⟩ = some (.string ⟨#[]⟩) ∧ W.cell? ⟨P2, 7, none⟩ = some (.slice none 0 0))
theorem Rk.sx {w : World} {P1 P2 : Nat} {W W' : World} (h : Rk w P1 P2 W) (k : Keep [] W W') : Sx P1 P2 W' := ⟨eight_cell (h.keep k).b1, eight_cell (h.keep k).b2⟩
theorem ask_c9 (x y : Int) (hx : In64 x) (hy : In64 y) (g : Nat) (W0 : World) (hT : Tb W0) (hg : W0.heap.size = g) :
    Calls Tryz.prog 8 #[.slice (some ⟨g, 0, none⟩) 3 3, .int .i64 x, .int .i64 y] (W0.alloc (.cells #[.int .i64 9, .string ⟨#[]⟩, .int .i64 0, .bool false, .int .i64 0, .float .f32 0, .string ⟨#[]⟩, .slice none 0 0, .int .i64 2, .string ⟨#[120]⟩, .int .i64 0, .bool false, .int .i64 0, .float .f32 0, .string ⟨#[]⟩, .slice none 0 0, .int .i64 2, .string ⟨#[121]⟩, .int .i64 0, .bool false, .int .i64 0, .float .f32 0, .string ⟨#[]⟩, .slice none 0 0] 36)) fun e w' => ∃ vl, (∃ a n c, vl = .slice a n c) ∧ e = .returned (.agg #[.bool (true), .bool (decide (x = y)), vl]) ∧ Keep [] W0 w' := by
  subst hg
  refine (ask_at x y hx hy _ _ (ex_c9 x y hx hy) 3 _ _ (hT.keep (Keep.alloc1 W0 _) (fun _ _ => by simp)) (pp3_of 9 (heap_alloc_new' _ _)) (by simp)).mono ?_
  rintro e w' ⟨vl, hvl, rfl, hk⟩
  refine ⟨vl, hvl, ?_, (Keep.alloc1 W0 _).trans' hk⟩
  rw [← (cmp_is x y).1]; rfl
theorem ask_c10 (x y : Int) (hx : In64 x) (hy : In64 y) (g : Nat) (W0 : World) (hT : Tb W0) (hg : W0.heap.size = g) :
    Calls Tryz.prog 8 #[.slice (some ⟨g, 0, none⟩) 3 3, .int .i64 x, .int .i64 y] (W0.alloc (.cells #[.int .i64 10, .string ⟨#[]⟩, .int .i64 0, .bool false, .int .i64 0, .float .f32 0, .string ⟨#[]⟩, .slice none 0 0, .int .i64 2, .string ⟨#[120]⟩, .int .i64 0, .bool false, .int .i64 0, .float .f32 0, .string ⟨#[]⟩, .slice none 0 0, .int .i64 2, .string ⟨#[121]⟩, .int .i64 0, .bool false, .int .i64 0, .float .f32 0, .string ⟨#[]⟩, .slice none 0 0] 36)) fun e w' => ∃ vl, (∃ a n c, vl = .slice a n c) ∧ e = .returned (.agg #[.bool (true), .bool (decide (x ≠ y)), vl]) ∧ Keep [] W0 w' := by
  subst hg
  refine (ask_at x y hx hy _ _ (ex_c10 x y hx hy) 3 _ _ (hT.keep (Keep.alloc1 W0 _) (fun _ _ => by simp)) (pp3_of 10 (heap_alloc_new' _ _)) (by simp)).mono ?_
  rintro e w' ⟨vl, hvl, rfl, hk⟩
  refine ⟨vl, hvl, ?_, (Keep.alloc1 W0 _).trans' hk⟩
  rw [← (cmp_is x y).2.1]; rfl
theorem ask_c11 (x y : Int) (hx : In64 x) (hy : In64 y) (g : Nat) (W0 : World) (hT : Tb W0) (hg : W0.heap.size = g) :
    Calls Tryz.prog 8 #[.slice (some ⟨g, 0, none⟩) 3 3, .int .i64 x, .int .i64 y] (W0.alloc (.cells #[.int .i64 11, .string ⟨#[]⟩, .int .i64 0, .bool false, .int .i64 0, .float .f32 0, .string ⟨#[]⟩, .slice none 0 0, .int .i64 2, .string ⟨#[120]⟩, .int .i64 0, .bool false, .int .i64 0, .float .f32 0, .string ⟨#[]⟩, .slice none 0 0, .int .i64 2, .string ⟨#[121]⟩, .int .i64 0, .bool false, .int .i64 0, .float .f32 0, .string ⟨#[]⟩, .slice none 0 0] 36)) fun e w' => ∃ vl, (∃ a n c, vl = .slice a n c) ∧ e = .returned (.agg #[.bool (true), .bool (decide (x < y)), vl]) ∧ Keep [] W0 w' := by
  subst hg
  refine (ask_at x y hx hy _ _ (ex_c11 x y hx hy) 3 _ _ (hT.keep (Keep.alloc1 W0 _) (fun _ _ => by simp)) (pp3_of 11 (heap_alloc_new' _ _)) (by simp)).mono ?_
  rintro e w' ⟨vl, hvl, rfl, hk⟩
  refine ⟨vl, hvl, ?_, (Keep.alloc1 W0 _).trans' hk⟩
  rw [← (cmp_is x y).2.2.1]; rfl
theorem ask_c12 (x y : Int) (hx : In64 x) (hy : In64 y) (g : Nat) (W0 : World) (hT : Tb W0) (hg : W0.heap.size = g) :
    Calls Tryz.prog 8 #[.slice (some ⟨g, 0, none⟩) 3 3, .int .i64 x, .int .i64 y] (W0.alloc (.cells #[.int .i64 12, .string ⟨#[]⟩, .int .i64 0, .bool false, .int .i64 0, .float .f32 0, .string ⟨#[]⟩, .slice none 0 0, .int .i64 2, .string ⟨#[120]⟩, .int .i64 0, .bool false, .int .i64 0, .float .f32 0, .string ⟨#[]⟩, .slice none 0 0, .int .i64 2, .string ⟨#[121]⟩, .int .i64 0, .bool false, .int .i64 0, .float .f32 0, .string ⟨#[]⟩, .slice none 0 0] 36)) fun e w' => ∃ vl, (∃ a n c, vl = .slice a n c) ∧ e = .returned (.agg #[.bool (true), .bool (decide (x ≤ y)), vl]) ∧ Keep [] W0 w' := by
  subst hg
  refine (ask_at x y hx hy _ _ (ex_c12 x y hx hy) 3 _ _ (hT.keep (Keep.alloc1 W0 _) (fun _ _ => by simp)) (pp3_of 12 (heap_alloc_new' _ _)) (by simp)).mono ?_
  rintro e w' ⟨vl, hvl, rfl, hk⟩
  refine ⟨vl, hvl, ?_, (Keep.alloc1 W0 _).trans' hk⟩
  rw [← (cmp_is x y).2.2.2.1]; rfl
theorem ask_c13 (x y : Int) (hx : In64 x) (hy : In64 y) (g : Nat) (W0 : World) (hT : Tb W0) (hg : W0.heap.size = g) :
    Calls Tryz.prog 8 #[.slice (some ⟨g, 0, none⟩) 3 3, .int .i64 x, .int .i64 y] (W0.alloc (.cells #[.int .i64 13, .string ⟨#[]⟩, .int .i64 0, .bool false, .int .i64 0, .float .f32 0, .string ⟨#[]⟩, .slice none 0 0, .int .i64 2, .string ⟨#[120]⟩, .int .i64 0, .bool false, .int .i64 0, .float .f32 0, .string ⟨#[]⟩, .slice none 0 0, .int .i64 2, .string ⟨#[121]⟩, .int .i64 0, .bool false, .int .i64 0, .float .f32 0, .string ⟨#[]⟩, .slice none 0 0] 36)) fun e w' => ∃ vl, (∃ a n c, vl = .slice a n c) ∧ e = .returned (.agg #[.bool (true), .bool (decide (y < x)), vl]) ∧ Keep [] W0 w' := by
  subst hg
  refine (ask_at x y hx hy _ _ (ex_c13 x y hx hy) 3 _ _ (hT.keep (Keep.alloc1 W0 _) (fun _ _ => by simp)) (pp3_of 13 (heap_alloc_new' _ _)) (by simp)).mono ?_
  rintro e w' ⟨vl, hvl, rfl, hk⟩
  refine ⟨vl, hvl, ?_, (Keep.alloc1 W0 _).trans' hk⟩
  rw [← (cmp_is x y).2.2.2.2.1]; rfl
theorem ask_c14 (x y : Int) (hx : In64 x) (hy : In64 y) (g : Nat) (W0 : World) (hT : Tb W0) (hg : W0.heap.size = g) :
    Calls Tryz.prog 8 #[.slice (some ⟨g, 0, none⟩) 3 3, .int .i64 x, .int .i64 y] (W0.alloc (.cells #[.int .i64 14, .string ⟨#[]⟩, .int .i64 0, .bool false, .int .i64 0, .float .f32 0, .string ⟨#[]⟩, .slice none 0 0, .int .i64 2, .string ⟨#[120]⟩, .int .i64 0, .bool false, .int .i64 0, .float .f32 0, .string ⟨#[]⟩, .slice none 0 0, .int .i64 2, .string ⟨#[121]⟩, .int .i64 0, .bool false, .int .i64 0, .float .f32 0, .string ⟨#[]⟩, .slice none 0 0] 36)) fun e w' => ∃ vl, (∃ a n c, vl = .slice a n c) ∧ e = .returned (.agg #[.bool (true), .bool (decide (y ≤ x)), vl]) ∧ Keep [] W0 w' := by
  subst hg
  refine (ask_at x y hx hy _ _ (ex_c14 x y hx hy) 3 _ _ (hT.keep (Keep.alloc1 W0 _) (fun _ _ => by simp)) (pp3_of 14 (heap_alloc_new' _ _)) (by simp)).mono ?_
  rintro e w' ⟨vl, hvl, rfl, hk⟩
  refine ⟨vl, hvl, ?_, (Keep.alloc1 W0 _).trans' hk⟩
  rw [← (cmp_is x y).2.2.2.2.2]; rfl
theorem ask_eq (x y : Int) (hx : In64 x) (hy : In64 y) (g : Nat) (W0 : World) (hT : Tb W0) (hg : W0.heap.size = g) :
    Calls Tryz.prog 8 #[.slice (some ⟨g, 0, none⟩) 3 3, .int .i64 x, .int .i64 y] (W0.alloc (.cells #[.int .i64 9, .string ⟨#[]⟩, .int .i64 0, .bool false, .int .i64 0, .float .f32 0, .string ⟨#[]⟩, .slice none 0 0, .int .i64 2, .string ⟨#[120]⟩, .int .i64 0, .bool false, .int .i64 0, .float .f32 0, .string ⟨#[]⟩, .slice none 0 0, .int .i64 2, .string ⟨#[121]⟩, .int .i64 0, .bool false, .int .i64 0, .float .f32 0, .string ⟨#[]⟩, .slice none 0 0] 36)) fun e w' => ∃ vl, (∃ a n c, vl = .slice a n c) ∧ e = .returned (.agg #[.bool true, .bool (x == y), vl]) ∧ Keep [] W0 w' := by
  have h := ask_c9 x y hx hy g W0 hT hg
  have e : decide (x = y) = (x == y) := by rw [Bool.eq_iff_iff]; simp
  rw [e] at h
  exact h
theorem ask_neg (x y : Int) (hx : In64 x) (hy : In64 y) (g : Nat) (W0 : World) (hT : Tb W0) (hg : W0.heap.size = g) :
    Calls Tryz.prog 8 #[.slice (some ⟨g, 0, none⟩) 4 4, .int .i64 x, .int .i64 y] (W0.alloc (.cells #[.int .i64 9, .string ⟨#[]⟩, .int .i64 0, .bool false, .int .i64 0, .float .f32 0, .string ⟨#[]⟩, .slice none 0 0, .int .i64 3, .string ⟨#[]⟩, .int .i64 0, .bool false, .int .i64 0, .float .f32 0, .string ⟨#[]⟩, .slice none 0 0, .int .i64 2, .string ⟨#[120]⟩, .int .i64 0, .bool false, .int .i64 0, .float .f32 0, .string ⟨#[]⟩, .slice none 0 0, .int .i64 1, .string ⟨#[]⟩, .int .i64 2, .bool false, .int .i64 (wrap64 (-x)), .float .f32 0, .string ⟨#[]⟩, .slice none 0 0] 36)) fun e w' => ∃ vl, (∃ a n c, vl = .slice a n c) ∧ e = .returned (.agg #[.bool (x != -9223372036854775808), .bool (x != -9223372036854775808), vl]) ∧ Keep [] W0 w' := by
  have h := ask_minus x y hx hy g W0 hT hg
  rw [room_minus x hx] at h
  rw [show -x = 0 - x by omega]
  exact h
theorem ask_ne (x y : Int) (hx : In64 x) (hy : In64 y) (g : Nat) (W0 : World) (hT : Tb W0) (hg : W0.heap.size = g) :
    Calls Tryz.prog 8 #[.slice (some ⟨g, 0, none⟩) 3 3, .int .i64 x, .int .i64 y] (W0.alloc (.cells #[.int .i64 10, .string ⟨#[]⟩, .int .i64 0, .bool false, .int .i64 0, .float .f32 0, .string ⟨#[]⟩, .slice none 0 0, .int .i64 2, .string ⟨#[120]⟩, .int .i64 0, .bool false, .int .i64 0, .float .f32 0, .string ⟨#[]⟩, .slice none 0 0, .int .i64 2, .string ⟨#[121]⟩, .int .i64 0, .bool false, .int .i64 0, .float .f32 0, .string ⟨#[]⟩, .slice none 0 0] 36)) fun e w' => ∃ vl, (∃ a n c, vl = .slice a n c) ∧ e = .returned (.agg #[.bool true, .bool (x != y), vl]) ∧ Keep [] W0 w' := by
  have h := ask_c10 x y hx hy g W0 hT hg
  have e : decide (x ≠ y) = (x != y) := by rw [Bool.eq_iff_iff]; simp
  rw [e] at h
  exact h
end Go.Proofs.YtplbclokoffgkaaGreatDoor
