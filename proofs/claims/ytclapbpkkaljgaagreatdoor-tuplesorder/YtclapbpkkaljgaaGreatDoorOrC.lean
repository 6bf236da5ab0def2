/- Some bytes are read as their tuple. -/
import Derived.Test.YtclapbpkkaljgaaGreatDoorOrB
import Derived.Test.YtclapbpkkaljgaaGreatDoorRMeth
namespace Go.Proofs.YtclapbpkkaljgaaGreatDoor
open Go.RowKit Go.PlainAid

theorem left_any (b o : Nat) (l : List UInt8) (e : Int) (rb : Option Nat) (w : World) (hr : Rd w b o l e rb) :
    Calls Tryz.prog 46 #[.pointer (some ⟨b, o, none⟩)] w fun x w' => x = .returned (.int .i64 (l.length : Int)) ∧ w' = w := by
  rcases hr.rest with ⟨rfl, _, h3⟩ | ⟨b2, o2, cap, _, h3, _⟩
  · go_enter Tryz.func46, Tryz.ntmps46
    go_wp2
    go_ret
    exact ⟨rfl, rfl⟩
  · go_enter Tryz.func46, Tryz.ntmps46
    go_wp2
    go_ret
    exact ⟨rfl, rfl⟩
theorem end_nil (b o : Nat) (rb : Option Nat) (w : World) (hr : Rd w b o [] 0 rb) :
    Calls Tryz.prog 27 #[.pointer (some ⟨b, o, none⟩)] w fun x w' => x = .returned (.int .i64 0) ∧ w' = w := by
  have hE := err_any b o [] 0 rb w hr
  have hL := left_any b o [] 0 rb w hr
  go_enter Tryz.func27, Tryz.ntmps27
  go_wp2_with (first | (go_at_call 47; refine hE.mono ?_; rintro e9 w9 ⟨rfl, hw9⟩; obtain rfl := hw9.symm) | (go_at_call 46; refine hL.mono ?_; rintro e9 w9 ⟨rfl, hw9⟩; obtain rfl := hw9.symm))
  go_ret
  exact ⟨rfl, rfl⟩
theorem text_lit {b : Nat} {l : List UInt8} {rb : Option Nat} {most : Int} {t l' : List UInt8} (hm : most ≤ 9223372036854775807) (hd : rdOf [] l 0 (textL l most) = (t, l', 0)) (w : World) (hr : Rd w b 0 l 0 rb) :
    Calls Tryz.prog 25 #[.pointer (some ⟨b, 0, none⟩), .int .i64 most] w fun x w' => x = .returned (.string ⟨t.toArray⟩) ∧ Rd w' b 0 l' 0 rb ∧ Keep [b] w w' := by
  have h := rText_any b 0 l 0 rb most hm w hr
  rw [hd] at h
  exact h
theorem uint_lit {b : Nat} {l : List UInt8} {rb : Option Nat} {n : Nat} {l' : List UInt8} (hd : rdOf 0 l 0 (numL l) = (n, l', 0)) (w : World) (hr : Rd w b 0 l 0 rb) :
    Calls Tryz.prog 44 #[.pointer (some ⟨b, 0, none⟩)] w fun x w' => x = .returned (.int .u64 (n : Int)) ∧ Rd w' b 0 l' 0 rb ∧ Keep [b] w w' := by
  have h := rUint_any b 0 l 0 rb w hr
  rw [hd] at h
  exact h

set_option maxRecDepth 1000000 in
theorem readArgs_0 (b : Nat) (rb : Option Nat) (w : World) (hr : Rd w b 0 [0] 0 rb) :
    Calls Tryz.prog 26 #[.pointer (some ⟨b, 0, none⟩)] w fun x w' => x = .returned (.tuple #[.slice none 0 0, .bool true]) ∧ Rd w' b 0 [] 0 rb ∧ Keep [b] w w' := by
  have hU := uint_lit (n := 0) (l' := []) (by decide) w hr
  go_enter Tryz.func26, Tryz.ntmps26
  go_wp2_with fail
  refine hU.mono ?_
  rintro e9 w1 ⟨rfl, r1, k1⟩
  have HR : Hid (Rd w1 b 0 [] 0 rb ∧ Keep [b] w w1) := ⟨r1, k1⟩
  clear r1 k1 hU
  go_wp2
  go_loopw [5, 14] (fun av iv wr => av = .slice none 0 0 ∧ iv = .int .u64 0 ∧ Hid (wr = w1)) (fun _ _ _ => 0)
  case atStart => exact ⟨rfl, rfl, rfl⟩
  case round =>
    obtain ⟨rfl, rfl, HK⟩ := hrel
    go_wp2
    go_ret2
    rw [HK.out]
    exact ⟨rfl, HR.out⟩

theorem P8.at0 {w : World} {b : Nat} {v0 v1 v2 v3 v4 v5 v6 v7 : Value} (x : Value) (h : P8 w b v0 v1 v2 v3 v4 v5 v6 v7) : P8 (w.setCell ⟨b, 0, none⟩ x) b x v1 v2 v3 v4 v5 v6 v7 :=
  ⟨World.cell?_setCell_same _ _ _ h.c0, (World.cell?_setCell_other _ _ _ _ (by simp)).trans h.c1, (World.cell?_setCell_other _ _ _ _ (by simp)).trans h.c2, (World.cell?_setCell_other _ _ _ _ (by simp)).trans h.c3, (World.cell?_setCell_other _ _ _ _ (by simp)).trans h.c4, (World.cell?_setCell_other _ _ _ _ (by simp)).trans h.c5, (World.cell?_setCell_other _ _ _ _ (by simp)).trans h.c6, (World.cell?_setCell_other _ _ _ _ (by simp)).trans h.c7, fun j => by simp [h.fz j]⟩
theorem P8.at1 {w : World} {b : Nat} {v0 v1 v2 v3 v4 v5 v6 v7 : Value} (x : Value) (h : P8 w b v0 v1 v2 v3 v4 v5 v6 v7) : P8 (w.setCell ⟨b, 1, none⟩ x) b v0 x v2 v3 v4 v5 v6 v7 :=
  ⟨(World.cell?_setCell_other _ _ _ _ (by simp)).trans h.c0, World.cell?_setCell_same _ _ _ h.c1, (World.cell?_setCell_other _ _ _ _ (by simp)).trans h.c2, (World.cell?_setCell_other _ _ _ _ (by simp)).trans h.c3, (World.cell?_setCell_other _ _ _ _ (by simp)).trans h.c4, (World.cell?_setCell_other _ _ _ _ (by simp)).trans h.c5, (World.cell?_setCell_other _ _ _ _ (by simp)).trans h.c6, (World.cell?_setCell_other _ _ _ _ (by simp)).trans h.c7, fun j => by simp [h.fz j]⟩
theorem P8.at2 {w : World} {b : Nat} {v0 v1 v2 v3 v4 v5 v6 v7 : Value} (x : Value) (h : P8 w b v0 v1 v2 v3 v4 v5 v6 v7) : P8 (w.setCell ⟨b, 2, none⟩ x) b v0 v1 x v3 v4 v5 v6 v7 :=
  ⟨(World.cell?_setCell_other _ _ _ _ (by simp)).trans h.c0, (World.cell?_setCell_other _ _ _ _ (by simp)).trans h.c1, World.cell?_setCell_same _ _ _ h.c2, (World.cell?_setCell_other _ _ _ _ (by simp)).trans h.c3, (World.cell?_setCell_other _ _ _ _ (by simp)).trans h.c4, (World.cell?_setCell_other _ _ _ _ (by simp)).trans h.c5, (World.cell?_setCell_other _ _ _ _ (by simp)).trans h.c6, (World.cell?_setCell_other _ _ _ _ (by simp)).trans h.c7, fun j => by simp [h.fz j]⟩
theorem P8.at3 {w : World} {b : Nat} {v0 v1 v2 v3 v4 v5 v6 v7 : Value} (x : Value) (h : P8 w b v0 v1 v2 v3 v4 v5 v6 v7) : P8 (w.setCell ⟨b, 3, none⟩ x) b v0 v1 v2 x v4 v5 v6 v7 :=
  ⟨(World.cell?_setCell_other _ _ _ _ (by simp)).trans h.c0, (World.cell?_setCell_other _ _ _ _ (by simp)).trans h.c1, (World.cell?_setCell_other _ _ _ _ (by simp)).trans h.c2, World.cell?_setCell_same _ _ _ h.c3, (World.cell?_setCell_other _ _ _ _ (by simp)).trans h.c4, (World.cell?_setCell_other _ _ _ _ (by simp)).trans h.c5, (World.cell?_setCell_other _ _ _ _ (by simp)).trans h.c6, (World.cell?_setCell_other _ _ _ _ (by simp)).trans h.c7, fun j => by simp [h.fz j]⟩
theorem P8.at4 {w : World} {b : Nat} {v0 v1 v2 v3 v4 v5 v6 v7 : Value} (x : Value) (h : P8 w b v0 v1 v2 v3 v4 v5 v6 v7) : P8 (w.setCell ⟨b, 4, none⟩ x) b v0 v1 v2 v3 x v5 v6 v7 :=
  ⟨(World.cell?_setCell_other _ _ _ _ (by simp)).trans h.c0, (World.cell?_setCell_other _ _ _ _ (by simp)).trans h.c1, (World.cell?_setCell_other _ _ _ _ (by simp)).trans h.c2, (World.cell?_setCell_other _ _ _ _ (by simp)).trans h.c3, World.cell?_setCell_same _ _ _ h.c4, (World.cell?_setCell_other _ _ _ _ (by simp)).trans h.c5, (World.cell?_setCell_other _ _ _ _ (by simp)).trans h.c6, (World.cell?_setCell_other _ _ _ _ (by simp)).trans h.c7, fun j => by simp [h.fz j]⟩
theorem P8.at5 {w : World} {b : Nat} {v0 v1 v2 v3 v4 v5 v6 v7 : Value} (x : Value) (h : P8 w b v0 v1 v2 v3 v4 v5 v6 v7) : P8 (w.setCell ⟨b, 5, none⟩ x) b v0 v1 v2 v3 v4 x v6 v7 :=
  ⟨(World.cell?_setCell_other _ _ _ _ (by simp)).trans h.c0, (World.cell?_setCell_other _ _ _ _ (by simp)).trans h.c1, (World.cell?_setCell_other _ _ _ _ (by simp)).trans h.c2, (World.cell?_setCell_other _ _ _ _ (by simp)).trans h.c3, (World.cell?_setCell_other _ _ _ _ (by simp)).trans h.c4, World.cell?_setCell_same _ _ _ h.c5, (World.cell?_setCell_other _ _ _ _ (by simp)).trans h.c6, (World.cell?_setCell_other _ _ _ _ (by simp)).trans h.c7, fun j => by simp [h.fz j]⟩
theorem P8.at6 {w : World} {b : Nat} {v0 v1 v2 v3 v4 v5 v6 v7 : Value} (x : Value) (h : P8 w b v0 v1 v2 v3 v4 v5 v6 v7) : P8 (w.setCell ⟨b, 6, none⟩ x) b v0 v1 v2 v3 v4 v5 x v7 :=
  ⟨(World.cell?_setCell_other _ _ _ _ (by simp)).trans h.c0, (World.cell?_setCell_other _ _ _ _ (by simp)).trans h.c1, (World.cell?_setCell_other _ _ _ _ (by simp)).trans h.c2, (World.cell?_setCell_other _ _ _ _ (by simp)).trans h.c3, (World.cell?_setCell_other _ _ _ _ (by simp)).trans h.c4, (World.cell?_setCell_other _ _ _ _ (by simp)).trans h.c5, World.cell?_setCell_same _ _ _ h.c6, (World.cell?_setCell_other _ _ _ _ (by simp)).trans h.c7, fun j => by simp [h.fz j]⟩
theorem P8.at7 {w : World} {b : Nat} {v0 v1 v2 v3 v4 v5 v6 v7 : Value} (x : Value) (h : P8 w b v0 v1 v2 v3 v4 v5 v6 v7) : P8 (w.setCell ⟨b, 7, none⟩ x) b v0 v1 v2 v3 v4 v5 v6 x :=
  ⟨(World.cell?_setCell_other _ _ _ _ (by simp)).trans h.c0, (World.cell?_setCell_other _ _ _ _ (by simp)).trans h.c1, (World.cell?_setCell_other _ _ _ _ (by simp)).trans h.c2, (World.cell?_setCell_other _ _ _ _ (by simp)).trans h.c3, (World.cell?_setCell_other _ _ _ _ (by simp)).trans h.c4, (World.cell?_setCell_other _ _ _ _ (by simp)).trans h.c5, (World.cell?_setCell_other _ _ _ _ (by simp)).trans h.c6, World.cell?_setCell_same _ _ _ h.c7, fun j => by simp [h.fz j]⟩
/-- the Reader, the result's box and the tuple's, as they are read into -/
structure DS (w0 w : World) (q b : Nat) (rb : Option Nat) (l : List UInt8) (v0 v1 v2 v3 v4 v5 v6 v7 : Value) : Prop where
  rd : Rd w b 0 l 0 rb
  r8 : P8 w w0.heap.size (.string ⟨#[]⟩) (.string ⟨#[]⟩) (.string ⟨#[]⟩) (.string ⟨#[]⟩) (.string ⟨#[]⟩) (.string ⟨#[]⟩) (.string ⟨#[]⟩) (.slice none 0 0)
  q8 : P8 w q v0 v1 v2 v3 v4 v5 v6 v7
  kp : Keep [] w0 w
  hb : w0.heap.size < b
  hrb : ∀ k, rb = some k → w0.heap.size < k
  qb : b < q
  qrb : ∀ k, rb = some k → k < q
theorem DS.step {w0 w w' : World} {q b : Nat} {rb : Option Nat} {l l' : List UInt8} {v0 v1 v2 v3 v4 v5 v6 v7 : Value} (h : DS w0 w q b rb l v0 v1 v2 v3 v4 v5 v6 v7) (r : Rd w' b 0 l' 0 rb) (k : Keep [b] w w') : DS w0 w' q b rb l' v0 v1 v2 v3 v4 v5 v6 v7 :=
  ⟨r, h.r8.keep k (by have := h.hb; simp; omega), h.q8.keep k (by have := h.qb; simp; omega), h.kp.more k (fun x hx => .inr (by have := h.hb; simp at hx; omega)), h.hb, h.hrb, h.qb, h.qrb⟩
theorem DS.keep {w0 w w' : World} {q b : Nat} {rb : Option Nat} {l : List UInt8} {v0 v1 v2 v3 v4 v5 v6 v7 : Value} (h : DS w0 w q b rb l v0 v1 v2 v3 v4 v5 v6 v7) (k : Keep [] w w') : DS w0 w' q b rb l v0 v1 v2 v3 v4 v5 v6 v7 :=
  ⟨h.rd.keep k (by simp) (fun x _ => by simp), h.r8.keep k (by simp), h.q8.keep k (by simp), h.kp.trans' k, h.hb, h.hrb, h.qb, h.qrb⟩
theorem DS.at0 {w0 w : World} {q b : Nat} {rb : Option Nat} {l : List UInt8} {v0 v1 v2 v3 v4 v5 v6 v7 : Value} (x : Value) (h : DS w0 w q b rb l v0 v1 v2 v3 v4 v5 v6 v7) : DS w0 (w.setCell ⟨q, 0, none⟩ x) q b rb l x v1 v2 v3 v4 v5 v6 v7 :=
  ⟨h.rd.keep (Keep.set1 w ⟨q, 0, none⟩ x) (by have := h.qb; simp; omega) (fun k hk => by have := h.qrb k hk; simp; omega), h.r8.keep (Keep.set1 w ⟨q, 0, none⟩ x) (by have := h.hb; have := h.qb; simp; omega), h.q8.at0 x, h.kp.more (Keep.set1 w ⟨q, 0, none⟩ x) (fun y hy => .inr (by have := h.hb; have := h.qb; simp at hy; omega)), h.hb, h.hrb, h.qb, h.qrb⟩
theorem DS.at1 {w0 w : World} {q b : Nat} {rb : Option Nat} {l : List UInt8} {v0 v1 v2 v3 v4 v5 v6 v7 : Value} (x : Value) (h : DS w0 w q b rb l v0 v1 v2 v3 v4 v5 v6 v7) : DS w0 (w.setCell ⟨q, 1, none⟩ x) q b rb l v0 x v2 v3 v4 v5 v6 v7 :=
  ⟨h.rd.keep (Keep.set1 w ⟨q, 1, none⟩ x) (by have := h.qb; simp; omega) (fun k hk => by have := h.qrb k hk; simp; omega), h.r8.keep (Keep.set1 w ⟨q, 1, none⟩ x) (by have := h.hb; have := h.qb; simp; omega), h.q8.at1 x, h.kp.more (Keep.set1 w ⟨q, 1, none⟩ x) (fun y hy => .inr (by have := h.hb; have := h.qb; simp at hy; omega)), h.hb, h.hrb, h.qb, h.qrb⟩
theorem DS.at2 {w0 w : World} {q b : Nat} {rb : Option Nat} {l : List UInt8} {v0 v1 v2 v3 v4 v5 v6 v7 : Value} (x : Value) (h : DS w0 w q b rb l v0 v1 v2 v3 v4 v5 v6 v7) : DS w0 (w.setCell ⟨q, 2, none⟩ x) q b rb l v0 v1 x v3 v4 v5 v6 v7 :=
  ⟨h.rd.keep (Keep.set1 w ⟨q, 2, none⟩ x) (by have := h.qb; simp; omega) (fun k hk => by have := h.qrb k hk; simp; omega), h.r8.keep (Keep.set1 w ⟨q, 2, none⟩ x) (by have := h.hb; have := h.qb; simp; omega), h.q8.at2 x, h.kp.more (Keep.set1 w ⟨q, 2, none⟩ x) (fun y hy => .inr (by have := h.hb; have := h.qb; simp at hy; omega)), h.hb, h.hrb, h.qb, h.qrb⟩
theorem DS.at3 {w0 w : World} {q b : Nat} {rb : Option Nat} {l : List UInt8} {v0 v1 v2 v3 v4 v5 v6 v7 : Value} (x : Value) (h : DS w0 w q b rb l v0 v1 v2 v3 v4 v5 v6 v7) : DS w0 (w.setCell ⟨q, 3, none⟩ x) q b rb l v0 v1 v2 x v4 v5 v6 v7 :=
  ⟨h.rd.keep (Keep.set1 w ⟨q, 3, none⟩ x) (by have := h.qb; simp; omega) (fun k hk => by have := h.qrb k hk; simp; omega), h.r8.keep (Keep.set1 w ⟨q, 3, none⟩ x) (by have := h.hb; have := h.qb; simp; omega), h.q8.at3 x, h.kp.more (Keep.set1 w ⟨q, 3, none⟩ x) (fun y hy => .inr (by have := h.hb; have := h.qb; simp at hy; omega)), h.hb, h.hrb, h.qb, h.qrb⟩
theorem DS.at4 {w0 w : World} {q b : Nat} {rb : Option Nat} {l : List UInt8} {v0 v1 v2 v3 v4 v5 v6 v7 : Value} (x : Value) (h : DS w0 w q b rb l v0 v1 v2 v3 v4 v5 v6 v7) : DS w0 (w.setCell ⟨q, 4, none⟩ x) q b rb l v0 v1 v2 v3 x v5 v6 v7 :=
  ⟨h.rd.keep (Keep.set1 w ⟨q, 4, none⟩ x) (by have := h.qb; simp; omega) (fun k hk => by have := h.qrb k hk; simp; omega), h.r8.keep (Keep.set1 w ⟨q, 4, none⟩ x) (by have := h.hb; have := h.qb; simp; omega), h.q8.at4 x, h.kp.more (Keep.set1 w ⟨q, 4, none⟩ x) (fun y hy => .inr (by have := h.hb; have := h.qb; simp at hy; omega)), h.hb, h.hrb, h.qb, h.qrb⟩
theorem DS.at5 {w0 w : World} {q b : Nat} {rb : Option Nat} {l : List UInt8} {v0 v1 v2 v3 v4 v5 v6 v7 : Value} (x : Value) (h : DS w0 w q b rb l v0 v1 v2 v3 v4 v5 v6 v7) : DS w0 (w.setCell ⟨q, 5, none⟩ x) q b rb l v0 v1 v2 v3 v4 x v6 v7 :=
  ⟨h.rd.keep (Keep.set1 w ⟨q, 5, none⟩ x) (by have := h.qb; simp; omega) (fun k hk => by have := h.qrb k hk; simp; omega), h.r8.keep (Keep.set1 w ⟨q, 5, none⟩ x) (by have := h.hb; have := h.qb; simp; omega), h.q8.at5 x, h.kp.more (Keep.set1 w ⟨q, 5, none⟩ x) (fun y hy => .inr (by have := h.hb; have := h.qb; simp at hy; omega)), h.hb, h.hrb, h.qb, h.qrb⟩
theorem DS.at6 {w0 w : World} {q b : Nat} {rb : Option Nat} {l : List UInt8} {v0 v1 v2 v3 v4 v5 v6 v7 : Value} (x : Value) (h : DS w0 w q b rb l v0 v1 v2 v3 v4 v5 v6 v7) : DS w0 (w.setCell ⟨q, 6, none⟩ x) q b rb l v0 v1 v2 v3 v4 v5 x v7 :=
  ⟨h.rd.keep (Keep.set1 w ⟨q, 6, none⟩ x) (by have := h.qb; simp; omega) (fun k hk => by have := h.qrb k hk; simp; omega), h.r8.keep (Keep.set1 w ⟨q, 6, none⟩ x) (by have := h.hb; have := h.qb; simp; omega), h.q8.at6 x, h.kp.more (Keep.set1 w ⟨q, 6, none⟩ x) (fun y hy => .inr (by have := h.hb; have := h.qb; simp at hy; omega)), h.hb, h.hrb, h.qb, h.qrb⟩
theorem DS.at7 {w0 w : World} {q b : Nat} {rb : Option Nat} {l : List UInt8} {v0 v1 v2 v3 v4 v5 v6 v7 : Value} (x : Value) (h : DS w0 w q b rb l v0 v1 v2 v3 v4 v5 v6 v7) : DS w0 (w.setCell ⟨q, 7, none⟩ x) q b rb l v0 v1 v2 v3 v4 v5 v6 x :=
  ⟨h.rd.keep (Keep.set1 w ⟨q, 7, none⟩ x) (by have := h.qb; simp; omega) (fun k hk => by have := h.qrb k hk; simp; omega), h.r8.keep (Keep.set1 w ⟨q, 7, none⟩ x) (by have := h.hb; have := h.qb; simp; omega), h.q8.at7 x, h.kp.more (Keep.set1 w ⟨q, 7, none⟩ x) (fun y hy => .inr (by have := h.hb; have := h.qb; simp at hy; omega)), h.hb, h.hrb, h.qb, h.qrb⟩

set_option maxRecDepth 1000000 in
set_option maxHeartbeats 12800000 in
theorem decode_B0 (v : Value) (w : World) (hv : Bs w v [1, 100, 1, 49, 1, 114, 1, 117, 1, 97, 0, 0, 0]) : Calls Tryz.prog 17 #[v] w fun e w' => e = .returned (.tuple #[T0, .int .i64 0]) ∧ Keep [] w w' := by
  have hR := fun w1 (k : Keep [] w w1) => Read_any v [1, 100, 1, 49, 1, 114, 1, 117, 1, 97, 0, 0, 0] w1 (hv.keep k (Off.nil _)) (by decide)
  have hM := mayBe_T0
  obtain ⟨ao, cap, rfl, -⟩ := hv.ex
  clear hv
  go_enter Tryz.func17, Tryz.ntmps17
  go_wp2_with fail
  refine (hR _ (Keep.alloc1 w _)).mono ?_
  rintro e9 w1 ⟨b, rb, rfl, rd1, hb1, hrb1, k1⟩
  have HD0 : Hid _ := DS.mk (w0 := w) (rd1.alloc _) ((P8.first k1).keep (Keep.alloc1 w1 (.cells #[.string ⟨#[]⟩, .string ⟨#[]⟩, .string ⟨#[]⟩, .string ⟨#[]⟩, .string ⟨#[]⟩, .string ⟨#[]⟩, .string ⟨#[]⟩, .slice none 0 0] 28)) (by simp)) (P8.first (Keep.refl [] (w1.alloc (.cells #[.string ⟨#[]⟩, .string ⟨#[]⟩, .string ⟨#[]⟩, .string ⟨#[]⟩, .string ⟨#[]⟩, .string ⟨#[]⟩, .string ⟨#[]⟩, .slice none 0 0] 28)))) (((Keep.alloc1 w _).trans' k1).alloc _) (by simp at hb1; omega) (fun k hk => by have := hrb1 k hk; simp at this; omega) rd1.blt (fun k hk => rd1.lt k hk)
  obtain ⟨q, HQ⟩ : ∃ q, Hid (q = w1.heap.size) := ⟨_, show _ = _ from rfl⟩
  clear rd1 hb1 hrb1 k1 hR
  go_wp2_with fail
  refine (text_lit (t := [100]) (l' := [1, 49, 1, 114, 1, 117, 1, 97, 0, 0, 0]) (by decide) (by decide) _ HD0.out.rd).mono ?_
  rintro e9 u1 ⟨rfl, rd1, k1⟩
  have HE1 : Hid _ := HD0.out.step rd1 k1
  have HD1 : Hid _ := HE1.out.at0 (.string ⟨(List.toArray [100])⟩)
  have hq := HQ.out
  rw [← hq] at HE1 HD1 ⊢
  clear hq
  obtain ⟨c0, c1, c2, c3, c4, c5, c6, c7, cz⟩ := HE1.out.q8
  clear rd1 k1 HD0 HE1
  have d0 := c0
  have d1 := c1
  have d2 := c2
  have d3 := c3
  have d4 := c4
  have d5 := c5
  have d6 := c6
  have d7 := c7
  have dz := cz
  clear c0 c1 c2 c3 c4 c5 c6 c7 cz
  go_wp2_with fail
  refine (text_lit (t := [49]) (l' := [1, 114, 1, 117, 1, 97, 0, 0, 0]) (by decide) (by decide) _ HD1.out.rd).mono ?_
  rintro e9 u2 ⟨rfl, rd1, k1⟩
  have HE2 : Hid _ := HD1.out.step rd1 k1
  have HD2 : Hid _ := HE2.out.at1 (.string ⟨(List.toArray [49])⟩)
  obtain ⟨c0, c1, c2, c3, c4, c5, c6, c7, cz⟩ := HE2.out.q8
  clear rd1 k1 HD1 HE2 d0 d1 d2 d3 d4 d5 d6 d7 dz
  have d0 := c0
  have d1 := c1
  have d2 := c2
  have d3 := c3
  have d4 := c4
  have d5 := c5
  have d6 := c6
  have d7 := c7
  have dz := cz
  clear c0 c1 c2 c3 c4 c5 c6 c7 cz
  go_wp2_with fail
  refine (text_lit (t := [114]) (l' := [1, 117, 1, 97, 0, 0, 0]) (by decide) (by decide) _ HD2.out.rd).mono ?_
  rintro e9 u3 ⟨rfl, rd1, k1⟩
  have HE3 : Hid _ := HD2.out.step rd1 k1
  have HD3 : Hid _ := HE3.out.at2 (.string ⟨(List.toArray [114])⟩)
  obtain ⟨c0, c1, c2, c3, c4, c5, c6, c7, cz⟩ := HE3.out.q8
  clear rd1 k1 HD2 HE3 d0 d1 d2 d3 d4 d5 d6 d7 dz
  have d0 := c0
  have d1 := c1
  have d2 := c2
  have d3 := c3
  have d4 := c4
  have d5 := c5
  have d6 := c6
  have d7 := c7
  have dz := cz
  clear c0 c1 c2 c3 c4 c5 c6 c7 cz
  go_wp2_with fail
  refine (text_lit (t := [117]) (l' := [1, 97, 0, 0, 0]) (by decide) (by decide) _ HD3.out.rd).mono ?_
  rintro e9 u4 ⟨rfl, rd1, k1⟩
  have HE4 : Hid _ := HD3.out.step rd1 k1
  have HD4 : Hid _ := HE4.out.at3 (.string ⟨(List.toArray [117])⟩)
  obtain ⟨c0, c1, c2, c3, c4, c5, c6, c7, cz⟩ := HE4.out.q8
  clear rd1 k1 HD3 HE4 d0 d1 d2 d3 d4 d5 d6 d7 dz
  have d0 := c0
  have d1 := c1
  have d2 := c2
  have d3 := c3
  have d4 := c4
  have d5 := c5
  have d6 := c6
  have d7 := c7
  have dz := cz
  clear c0 c1 c2 c3 c4 c5 c6 c7 cz
  go_wp2_with fail
  refine (text_lit (t := [97]) (l' := [0, 0, 0]) (by decide) (by decide) _ HD4.out.rd).mono ?_
  rintro e9 u5 ⟨rfl, rd1, k1⟩
  have HE5 : Hid _ := HD4.out.step rd1 k1
  have HD5 : Hid _ := HE5.out.at4 (.string ⟨(List.toArray [97])⟩)
  obtain ⟨c0, c1, c2, c3, c4, c5, c6, c7, cz⟩ := HE5.out.q8
  clear rd1 k1 HD4 HE5 d0 d1 d2 d3 d4 d5 d6 d7 dz
  have d0 := c0
  have d1 := c1
  have d2 := c2
  have d3 := c3
  have d4 := c4
  have d5 := c5
  have d6 := c6
  have d7 := c7
  have dz := cz
  clear c0 c1 c2 c3 c4 c5 c6 c7 cz
  go_wp2_with fail
  refine (text_lit (t := []) (l' := [0, 0]) (by decide) (by decide) _ HD5.out.rd).mono ?_
  rintro e9 u6 ⟨rfl, rd1, k1⟩
  have HE6 : Hid _ := HD5.out.step rd1 k1
  have HD6 : Hid _ := HE6.out.at5 (.string ⟨(List.toArray [])⟩)
  obtain ⟨c0, c1, c2, c3, c4, c5, c6, c7, cz⟩ := HE6.out.q8
  clear rd1 k1 HD5 HE6 d0 d1 d2 d3 d4 d5 d6 d7 dz
  have d0 := c0
  have d1 := c1
  have d2 := c2
  have d3 := c3
  have d4 := c4
  have d5 := c5
  have d6 := c6
  have d7 := c7
  have dz := cz
  clear c0 c1 c2 c3 c4 c5 c6 c7 cz
  go_wp2_with fail
  refine (text_lit (t := []) (l' := [0]) (by decide) (by decide) _ HD6.out.rd).mono ?_
  rintro e9 u7 ⟨rfl, rd1, k1⟩
  have HE7 : Hid _ := HD6.out.step rd1 k1
  have HD7 : Hid _ := HE7.out.at6 (.string ⟨(List.toArray [])⟩)
  obtain ⟨c0, c1, c2, c3, c4, c5, c6, c7, cz⟩ := HE7.out.q8
  clear rd1 k1 HD6 HE7 d0 d1 d2 d3 d4 d5 d6 d7 dz
  have d0 := c0
  have d1 := c1
  have d2 := c2
  have d3 := c3
  have d4 := c4
  have d5 := c5
  have d6 := c6
  have d7 := c7
  have dz := cz
  clear c0 c1 c2 c3 c4 c5 c6 c7 cz
  go_wp2_with fail
  refine (readArgs_0 b rb _ HD7.out.rd).mono ?_
  rintro e9 u8 ⟨rfl, rd1, k1⟩
  have HE8 : Hid _ := HD7.out.step rd1 k1
  have HD8 : Hid _ := HE8.out.at7 (.slice none 0 0)
  clear d0 d1 d2 d3 d4 d5 d6 d7 dz
  obtain ⟨d0, d1, d2, d3, d4, d5, d6, d7, dz⟩ := HE8.out.q8
  clear rd1 k1 HD7 HE8
  go_wp2_with fail
  refine (end_nil b 0 rb _ HD8.out.rd).mono ?_
  rintro e9 u9 ⟨rfl, hw⟩
  obtain rfl := hw.symm
  clear hw
  go_wp2_with fail
  refine (hM _).mono ?_
  rintro e9 w3 ⟨rfl, k3⟩
  have HD9 : Hid _ := HD8.out.keep k3
  have HNE : Hid (w.heap.size < q) := by
    have h1 := HD9.out.hb
    have h2 := HD9.out.qb
    show _ < _
    omega
  clear k3 HD8 d0 d1 d2 d3 d4 d5 d6 d7 dz
  obtain ⟨c0, c1, c2, c3, c4, c5, c6, c7, cz⟩ := HD9.out.q8
  obtain ⟨d0, d1, d2, d3, d4, d5, d6, d7, dz⟩ := HD9.out.r8
  have hne1 : ¬ q = w.heap.size := by have := HNE.out; omega
  have hne2 : ¬ w.heap.size = q := by have := HNE.out; omega
  go_wp2
  have hW := HD9.out.r8.set8 (.string (b1 100)) (.string (b1 49)) (.string (b1 114)) (.string (b1 117)) (.string (b1 97)) (.string ⟨#[]⟩) (.string ⟨#[]⟩) (.slice none 0 0)
  have KS6 : Keep [w.heap.size] w3 ((((((((w3.setCell ⟨w.heap.size, 0, none⟩ (.string (b1 100))).setCell ⟨w.heap.size, 1, none⟩ (.string (b1 49))).setCell ⟨w.heap.size, 2, none⟩ (.string (b1 114))).setCell ⟨w.heap.size, 3, none⟩ (.string (b1 117))).setCell ⟨w.heap.size, 4, none⟩ (.string (b1 97))).setCell ⟨w.heap.size, 5, none⟩ (.string ⟨#[]⟩)).setCell ⟨w.heap.size, 6, none⟩ (.string ⟨#[]⟩)).setCell ⟨w.heap.size, 7, none⟩ (.slice none 0 0)) := (((((((((Keep.refl [w.heap.size] w3).setCell (p := ⟨w.heap.size, 0, none⟩) (.inl (by simp)) _).setCell (p := ⟨w.heap.size, 1, none⟩) (.inl (by simp)) _).setCell (p := ⟨w.heap.size, 2, none⟩) (.inl (by simp)) _).setCell (p := ⟨w.heap.size, 3, none⟩) (.inl (by simp)) _).setCell (p := ⟨w.heap.size, 4, none⟩) (.inl (by simp)) _).setCell (p := ⟨w.heap.size, 5, none⟩) (.inl (by simp)) _).setCell (p := ⟨w.heap.size, 6, none⟩) (.inl (by simp)) _).setCell (p := ⟨w.heap.size, 7, none⟩) (.inl (by simp)) _)
  have HKF : Keep [] w ((((((((w3.setCell ⟨w.heap.size, 0, none⟩ (.string (b1 100))).setCell ⟨w.heap.size, 1, none⟩ (.string (b1 49))).setCell ⟨w.heap.size, 2, none⟩ (.string (b1 114))).setCell ⟨w.heap.size, 3, none⟩ (.string (b1 117))).setCell ⟨w.heap.size, 4, none⟩ (.string (b1 97))).setCell ⟨w.heap.size, 5, none⟩ (.string ⟨#[]⟩)).setCell ⟨w.heap.size, 6, none⟩ (.string ⟨#[]⟩)).setCell ⟨w.heap.size, 7, none⟩ (.slice none 0 0)) := HD9.out.kp.more KS6 (fun x hx => .inr (by simp at hx; omega))
  clear KS6
  generalize ((((((((w3.setCell ⟨w.heap.size, 0, none⟩ (.string (b1 100))).setCell ⟨w.heap.size, 1, none⟩ (.string (b1 49))).setCell ⟨w.heap.size, 2, none⟩ (.string (b1 114))).setCell ⟨w.heap.size, 3, none⟩ (.string (b1 117))).setCell ⟨w.heap.size, 4, none⟩ (.string (b1 97))).setCell ⟨w.heap.size, 5, none⟩ (.string ⟨#[]⟩)).setCell ⟨w.heap.size, 6, none⟩ (.string ⟨#[]⟩)).setCell ⟨w.heap.size, 7, none⟩ (.slice none 0 0)) = WW at hW HKF ⊢
  obtain ⟨r0, r1, r2, r3, r4, r5, r6, r7, _⟩ := hW
  refine bodyPost_ret (v := .tuple #[T0, .int .i64 0]) (by simp [results, Tryz.results17, go_sem, r0, r1, r2, r3, r4, r5, r6, r7]) rfl ⟨rfl, HKF⟩
end Go.Proofs.YtclapbpkkaljgaaGreatDoor
