/- Lists of arguments that read alike are the same to the document's plain comparison. -/
import Derived.Test.YtfpcpociejefaaaGreatDoorSaF
import Derived.Deep.RegionHeld3
import Derived.Deep.RegionWith
import Derived.Deep.QuietTactic
import Derived.BigQuiet

namespace Go.Proofs.YtfpcpociejefaaaGreatDoor
open Go.RowKit Go.PlainAid
set_option maxRecDepth 1000000 in
set_option maxHeartbeats 1600000 in
theorem sameArg_self (x : AD) (u v : Value) (w : World) (hu : Ts w u x.val.texts) (hv : Ts w v x.val.texts) :
  Calls Tryz.prog 81 #[x.agg u, x.agg v] w fun e w' => e = .returned (.bool true) ∧ Keep [] w w' := by
 have HC : Hid (∀ w1, Keep [] w w1 → Calls Tryz.prog 103 #[x.val.val u, x.val.val v] w1 fun e w' => e = .returned (.bool true) ∧ Keep [] w1 w') := fun w1 k1 => sameValue_self _ u v w1 (hu.keep k1 (Off.nil _)) (hv.keep k1 (Off.nil _))
 obtain ⟨a1, c1, rfl, _, _, _, _⟩ := hu.ex
 obtain ⟨a2, c2, rfl, _, _, _, _⟩ := hv.ex
 have hsf := store_f32
 simp only [Go.stored] at hsf
 clear hu hv
 go_enter Tryz.func81, Tryz.ntmps81
 go_wp2_with fail
 refine (HC.out _ (((Keep.refl [] w).alloc _).alloc _)).mono ?_
 rintro e w1 ⟨rfl, k1⟩
 have HK : Hid (Keep [] w w1) := (((Keep.refl [] w).alloc _).alloc _).trans' k1
 clear k1 HC
 go_wp2
 go_ret
 exact ⟨rfl, HK.out⟩
set_option maxRecDepth 1000000 in
set_option maxHeartbeats 3200000 in
theorem sameArgs_self (u v : Value) (l : List AD) (w : World) (hu : As w u l) (hv : As w v l) :
  Calls Tryz.prog 53 #[u, v] w fun e w' => e = .returned (.bool true) ∧ Keep [] w w' := by
 obtain ⟨ao, ca, rfl, p1, p2, p3⟩ := hu.ex
 obtain ⟨bo, cb, rfl, q1, q2, q3⟩ := hv.ex
 have HE : Hid ((l ≠ [] → ∃ b o, ao = some ⟨b, o, none⟩ ∧ ∀ i (h : i < l.length), ∃ u, ArgC w b (o + i * 7) l[i] u ∧ Ts w u l[i].val.texts) ∧ (l ≠ [] → ∃ b o, bo = some ⟨b, o, none⟩ ∧ ∀ i (h : i < l.length), ∃ u, ArgC w b (o + i * 7) l[i] u ∧ Ts w u l[i].val.texts)) := ⟨p3, q3⟩
 clear p3 q3 hu hv
 go_enter Tryz.func53, Tryz.ntmps53
 go_wp2
 go_loopw [5] (fun iv wr => ∃ k : Nat, iv = .int .i64 (k : Int) ∧ k ≤ l.length ∧ Hid (Keep [] w wr)) (fun iv _ => l.length - (RowKit.intOf iv).toNat)
 case atStart => exact ⟨0, rfl, Nat.zero_le _, Keep.refl _ _⟩
 case round =>
  obtain ⟨k, rfl, hk, HK⟩ := hrel
  by_cases hl1 : k < l.length
  ·have hlti : (k : Int) < (l.length : Int) := by omega
   obtain ⟨b, o, rfl, hat⟩ := HE.out.1 (by intro hz; rw [hz] at hl1; simp at hl1)
   obtain ⟨b2, o2, rfl, hat2⟩ := HE.out.2 (by intro hz; rw [hz] at hl1; simp at hl1)
   obtain ⟨t1, hA, ht1⟩ := hat k hl1
   obtain ⟨t2, hB, ht2⟩ := hat2 k hl1
   have HC0 : ∀ w1, Keep [] w w1 → Calls Tryz.prog 81 #[l[k].agg t1, l[k].agg t2] w1 fun e w' => e = .returned (.bool true) ∧ Keep [] w1 w' := fun w1 k1 => sameArg_self _ t1 t2 w1 (ht1.keep k1 (Off.nil _)) (ht2.keep k1 (Off.nil _))
   obtain ⟨a1, c1, rfl, _, _, _, _⟩ := ht1.ex
   obtain ⟨a2, c2, rfl, _, _, _, _⟩ := ht2.ex
   clear ht1 ht2 hat hat2
   generalize l[k].val.texts.length = n1 at hA hB HC0
   generalize l[k] = x at hA hB HC0
   have HC : Hid (∀ w1, Keep [] w w1 → Calls Tryz.prog 81 #[x.agg (.slice a1 n1 c1), x.agg (.slice a2 n1 c2)] w1 fun e w' => e = .returned (.bool true) ∧ Keep [] w1 w') := HC0
   have HS : Hid (∀ w', Keep [] w w' → (fun w' : World => w'.cell? ⟨b, o + k * 7, none⟩ = some (.string x.nm) ∧ w'.cell? ⟨b, o + k * 7 + 1, none⟩ = some (.int .i64 x.val.kind) ∧ w'.cell? ⟨b, o + k * 7 + 2, none⟩ = some (.bool x.val.bool) ∧ w'.cell? ⟨b, o + k * 7 + 3, none⟩ = some (.int .i64 x.val.int) ∧ w'.cell? ⟨b, o + k * 7 + 4, none⟩ = some (.float .f32 x.val.real) ∧ w'.cell? ⟨b, o + k * 7 + 5, none⟩ = some (.string x.val.text) ∧ w'.cell? ⟨b, o + k * 7 + 6, none⟩ = some (.slice a1 n1 c1) ∧ w'.cell? ⟨b2, o2 + k * 7, none⟩ = some (.string x.nm) ∧ w'.cell? ⟨b2, o2 + k * 7 + 1, none⟩ = some (.int .i64 x.val.kind) ∧ w'.cell? ⟨b2, o2 + k * 7 + 2, none⟩ = some (.bool x.val.bool) ∧ w'.cell? ⟨b2, o2 + k * 7 + 3, none⟩ = some (.int .i64 x.val.int) ∧ w'.cell? ⟨b2, o2 + k * 7 + 4, none⟩ = some (.float .f32 x.val.real) ∧ w'.cell? ⟨b2, o2 + k * 7 + 5, none⟩ = some (.string x.val.text) ∧ w'.cell? ⟨b2, o2 + k * 7 + 6, none⟩ = some (.slice a2 n1 c2) ∧ Hid (Keep [] w w')) w') := fun w' k' => by
    have h1 := hA.keep k'
    have h2 := hB.keep k'
    exact ⟨h1.nm, h1.kind, h1.bool, h1.int, h1.real, h1.text, h1.texts, h2.nm, h2.kind, h2.bool, h2.int, h2.real, h2.text, h2.texts, k'⟩
   clear hA hB HC0
   go_wp2
   refine wp_region_held_drew (S := (fun w' : World => w'.cell? ⟨b, o + k * 7, none⟩ = some (.string x.nm) ∧ w'.cell? ⟨b, o + k * 7 + 1, none⟩ = some (.int .i64 x.val.kind) ∧ w'.cell? ⟨b, o + k * 7 + 2, none⟩ = some (.bool x.val.bool) ∧ w'.cell? ⟨b, o + k * 7 + 3, none⟩ = some (.int .i64 x.val.int) ∧ w'.cell? ⟨b, o + k * 7 + 4, none⟩ = some (.float .f32 x.val.real) ∧ w'.cell? ⟨b, o + k * 7 + 5, none⟩ = some (.string x.val.text) ∧ w'.cell? ⟨b, o + k * 7 + 6, none⟩ = some (.slice a1 n1 c1) ∧ w'.cell? ⟨b2, o2 + k * 7, none⟩ = some (.string x.nm) ∧ w'.cell? ⟨b2, o2 + k * 7 + 1, none⟩ = some (.int .i64 x.val.kind) ∧ w'.cell? ⟨b2, o2 + k * 7 + 2, none⟩ = some (.bool x.val.bool) ∧ w'.cell? ⟨b2, o2 + k * 7 + 3, none⟩ = some (.int .i64 x.val.int) ∧ w'.cell? ⟨b2, o2 + k * 7 + 4, none⟩ = some (.float .f32 x.val.real) ∧ w'.cell? ⟨b2, o2 + k * 7 + 5, none⟩ = some (.string x.val.text) ∧ w'.cell? ⟨b2, o2 + k * 7 + 6, none⟩ = some (.slice a2 n1 c2) ∧ Hid (Keep [] w w'))) (by kernel_rfl) (HS.out _ (HK.out.drew)) (fun hHeld => ?_)
   try dsimp only at hHeld
   refine wpAnyH_take (i := 0) (oi := { dst := some 17, op := Go.Op.move (Go.Operand.tmp 0), type := 26, pos := "same.go:372", after := #[], guard := none }) (v := ?_) rfl (by kernel_rfl) (by kernel_rfl) (by kernel_rfl) (fun _ _ _ h => h) (Or.inl ⟨by rfl, ?_⟩) (by assumption) ?_
   rotate_left
   ·intro w7 hSw
    try dsimp only at hSw
    first | (go_simp; done) | (go_simp; with_reducible rfl)
   try simp only [Act.put, List.setIfInBounds_toArray, List.set_cons_zero, List.set_cons_succ]
   refine wpAnyH_take (i := 1) (oi := { dst := some 18, op := Go.Op.move (Go.Operand.tmp 5), type := 3, pos := "same.go:372", after := #[], guard := none }) (v := ?_) rfl (by kernel_rfl) (by kernel_rfl) (by kernel_rfl) (fun _ _ _ h => h) (Or.inl ⟨by rfl, ?_⟩) (by assumption) ?_
   rotate_left
   ·intro w7 hSw
    try dsimp only at hSw
    first | (go_simp; done) | (go_simp; with_reducible rfl)
   try simp only [Act.put, List.setIfInBounds_toArray, List.set_cons_zero, List.set_cons_succ]
   refine wpAnyH_take (i := 2) (oi := { dst := some 19, op := Go.Op.indexAddr 26 (Go.Operand.tmp 17) (Go.Operand.tmp 18), type := 0, pos := "same.go:372", after := #[{ on := 0, ground := Go.Ground.data }, { on := 1, ground := Go.Ground.data }], guard := none }) (v := ?_) rfl (by kernel_rfl) (by kernel_rfl) (by kernel_rfl) (fun _ _ _ h => h) (Or.inl ⟨by rfl, ?_⟩) (by assumption) ?_
   rotate_left
   ·intro w7 hSw
    try dsimp only at hSw
    first | (go_simp; done) | (go_simp; with_reducible rfl)
   try simp only [Act.put, List.setIfInBounds_toArray, List.set_cons_zero, List.set_cons_succ]
   refine wpAnyH_take (i := 3) (oi := { dst := some 20, op := Go.Op.load 63 (Go.Operand.tmp 19), type := 63, pos := "same.go:372", after := #[{ on := 2, ground := Go.Ground.data }], guard := none }) (v := ?_) rfl (by kernel_rfl) (by kernel_rfl) (by kernel_rfl) (fun _ _ _ h => h) (Or.inl ⟨by rfl, ?_⟩) (by assumption) ?_
   rotate_left
   ·intro w7 hSw
    try dsimp only at hSw
    first | (go_simp; done) | (go_simp; with_reducible rfl)
   try simp only [Act.put, List.setIfInBounds_toArray, List.set_cons_zero, List.set_cons_succ]
   refine wpAnyH_take (i := 4) (oi := { dst := some 21, op := Go.Op.move (Go.Operand.tmp 1), type := 26, pos := "same.go:372", after := #[], guard := none }) (v := ?_) rfl (by kernel_rfl) (by kernel_rfl) (by kernel_rfl) (fun _ _ _ h => h) (Or.inl ⟨by rfl, ?_⟩) (by assumption) ?_
   rotate_left
   ·intro w7 hSw
    try dsimp only at hSw
    first | (go_simp; done) | (go_simp; with_reducible rfl)
   try simp only [Act.put, List.setIfInBounds_toArray, List.set_cons_zero, List.set_cons_succ]
   refine wpAnyH_take (i := 5) (oi := { dst := some 22, op := Go.Op.move (Go.Operand.tmp 5), type := 3, pos := "same.go:372", after := #[], guard := none }) (v := ?_) rfl (by kernel_rfl) (by kernel_rfl) (by kernel_rfl) (fun _ _ _ h => h) (Or.inl ⟨by rfl, ?_⟩) (by assumption) ?_
   rotate_left
   ·intro w7 hSw
    try dsimp only at hSw
    first | (go_simp; done) | (go_simp; with_reducible rfl)
   try simp only [Act.put, List.setIfInBounds_toArray, List.set_cons_zero, List.set_cons_succ]
   refine wpAnyH_take (i := 6) (oi := { dst := some 23, op := Go.Op.indexAddr 26 (Go.Operand.tmp 21) (Go.Operand.tmp 22), type := 0, pos := "same.go:372", after := #[{ on := 4, ground := Go.Ground.data }, { on := 5, ground := Go.Ground.data }], guard := none }) (v := ?_) rfl (by kernel_rfl) (by kernel_rfl) (by kernel_rfl) (fun _ _ _ h => h) (Or.inl ⟨by rfl, ?_⟩) (by assumption) ?_
   rotate_left
   ·intro w7 hSw
    try dsimp only at hSw
    first | (go_simp; done) | (go_simp; with_reducible rfl)
   try simp only [Act.put, List.setIfInBounds_toArray, List.set_cons_zero, List.set_cons_succ]
   refine wpAnyH_take (i := 7) (oi := { dst := some 24, op := Go.Op.load 63 (Go.Operand.tmp 23), type := 63, pos := "same.go:372", after := #[{ on := 6, ground := Go.Ground.data }], guard := none }) (v := ?_) rfl (by kernel_rfl) (by kernel_rfl) (by kernel_rfl) (fun _ _ _ h => h) (Or.inl ⟨by rfl, ?_⟩) (by assumption) ?_
   rotate_left
   ·intro w7 hSw
    try dsimp only at hSw
    first | (go_simp; done) | (go_simp; with_reducible rfl)
   try simp only [Act.put, List.setIfInBounds_toArray, List.set_cons_zero, List.set_cons_succ]
   refine wpAnyH_ready (rs := [8]) (by kernel_rfl) (by simp) ?_
   refine AllReadyH.cons (o := { dst := some 25, op := Go.Op.call { callee := Go.Callee.value (Go.Operand.func 81), args := #[Go.Operand.tmp 20, Go.Operand.tmp 24], argTypes := #[63, 63] }, type := 4, pos := "same.go:372", after := #[{ on := 3, ground := Go.Ground.data }, { on := 7, ground := Go.Ground.data }], guard := none }) rfl (fun K hK => ?_) AllReadyH.nil
   go_simp
   (go_at_call 81; refine (HC.out _ hHeld.2.2.2.2.2.2.2.2.2.2.2.2.2.2.out).mono ?_; rintro e9 w9 ⟨rfl, k9⟩)
   go_wp2_with fail
   refine hK.out _ _ (HS.out _ (hHeld.2.2.2.2.2.2.2.2.2.2.2.2.2.2.out.trans' k9)) (fun hHeld2 => ?_)
   try dsimp only at hHeld2
   clear hK hHeld
   have hHeld := hHeld2
   clear hHeld2
   try simp only [Act.put, List.setIfInBounds_toArray, List.set_cons_zero, List.set_cons_succ]
   refine wpAnyH_take (i := 9) (oi := { dst := some 26, op := Go.Op.unOp Go.UnOp.not 4 (Go.Operand.tmp 25), type := 4, pos := "same.go:372", after := #[{ on := 8, ground := Go.Ground.data }], guard := none }) (v := ?_) rfl (by kernel_rfl) (by kernel_rfl) (by kernel_rfl) (fun _ _ _ h => h) (Or.inl ⟨by rfl, ?_⟩) (by assumption) ?_
   rotate_left
   ·intro w7 hSw
    try dsimp only at hSw
    first | (go_simp; done) | (go_simp; with_reducible rfl)
   try simp only [Act.put, List.setIfInBounds_toArray, List.set_cons_zero, List.set_cons_succ]
   refine wpAnyH_done (by kernel_rfl) ?_ _
   have HZ : Hid (Keep [] w _) := hHeld.2.2.2.2.2.2.2.2.2.2.2.2.2.2
   clear hHeld HS
   go_wp2
   go_roundw
   case rel => exact ⟨k + 1, by go_num, by omega, HZ⟩
   case measure => simp [RowKit.intOf]; omega
  ·have hlti : ¬ (k : Int) < (l.length : Int) := by omega
   go_wp2
   go_ret
   exact ⟨rfl, HK.out⟩
end Go.Proofs.YtfpcpociejefaaaGreatDoor

/- Rows of arguments of one's own: the cells, an append, what is lent. -/
namespace Go.Proofs.YtfpcpociejefaaaGreatDoor
open Go.RowKit Go.PlainAid
abbrev cells7 (p : AD × Value) : List Value := [.string p.1.nm, .int .i64 p.1.val.kind, .bool p.1.val.bool, .int .i64 p.1.val.int, .float .f32 p.1.val.real, .string p.1.val.text, p.2]
theorem flat7_get : ∀ (ps : List (AD × Value)) (i c : Nat) (h : i < ps.length), c < 7 → (ps.flatMap cells7)[i * 7 + c]? = (cells7 ps[i])[c]?
 | p :: ps, 0, c, _, hc => by
  rw [List.flatMap_cons, List.getElem?_append_left (by simp; omega)]
  simp
 | p :: ps, i + 1, c, h, hc => by
  rw [List.flatMap_cons, List.getElem?_append_right (by simp; omega)]
  have := flat7_get ps i c (by simpa using h) hc
  rw [show (i + 1) * 7 + c - (cells7 p).length = i * 7 + c by simp; omega, this]
  simp
theorem infoA : (Tryz.prog.info? 63).map (fun i => (i.zero, i.size, i.bytes)) = some (some (.agg #[.string ByteArray.empty, .int .i64 0, .bool false, .int .i64 0, .float .f32 0, .string ByteArray.empty, .slice none 0 0]), 7, 88) := by kernel_rfl
/-- a row of arguments of one's own -/
abbrev RowP (w : World) (v : Value) (ps : List (AD × Value)) : Prop := RowC w 63 7 v ps.length (ps.flatMap cells7)
abbrev blk7 (x : AD) (u : Value) : Obj := .cells #[.string x.nm, .int .i64 x.val.kind, .bool x.val.bool, .int .i64 x.val.int, .float .f32 x.val.real, .string x.val.text, u] 63 (0, 0)
theorem src_arg (w : World) (x : AD) (ao : Option Addr) (n c : Nat) : Src Tryz.prog 7 26 (.slice (some ⟨w.heap.size, 0, none⟩) 1 1) 1 (cells7 (x, .slice ao n c)) (w.alloc (blk7 x (.slice ao n c))) := by
 refine Src.ofSlice _ Tryz.underlying26 ⟨w.heap.size, 0, none⟩ 1 1 (cells7 (x, .slice ao n c)) rfl (fun j u hu => ?_) (fun u hu => ?_)
 ·have hj := (List.getElem?_eq_some_iff.1 hu).1
  have hj : j < 7 := by simpa using hj
  rcases (show j = 0 ∨ j = 1 ∨ j = 2 ∨ j = 3 ∨ j = 4 ∨ j = 5 ∨ j = 6 by omega) with rfl | rfl | rfl | rfl | rfl | rfl | rfl <;>
  ·simp at hu
   subst hu
   simp [Addr.add]
 ·simp at hu
  rcases hu with rfl | rfl | rfl | rfl | rfl | rfl | rfl <;> rfl
/-- the texts of p are lent: they lie at lo or behind, off the row z, with the marks behind their end -/
def UL (w : World) (lo : Nat) (z : Value) (p : AD × Value) : Prop := ∃ g c, p.2 = .slice (some ⟨g, 0, none⟩) p.1.val.texts.length c ∧ Ts w (.slice (some ⟨g, 0, none⟩) (p.1.val.texts.length + 24) c) (p.1.val.texts ++ marks 24) ∧ Ts w (.slice (some ⟨g, 0, none⟩) p.1.val.texts.length c) p.1.val.texts ∧ lo ≤ g ∧ g < w.heap.size ∧ ∀ x, z.ownBlock = some x → g ≠ x
theorem UL.keep {w w' : World} {lo : Nat} {z z' : Value} {p : AD × Value} {F : List Nat} (h : UL w lo z p) (k : Keep F w w') (hF : ∀ x ∈ F, (∃ y, z.ownBlock = some y ∧ x = y) ∨ x < lo ∨ w.heap.size ≤ x) (hz : ∀ x, z'.ownBlock = some x → z.ownBlock = some x ∨ w.heap.size ≤ x) : UL w' lo z' p := by
 obtain ⟨g, c, e, h1, h2, h3, h4, h5⟩ := h
 have hoff : g ∉ F := fun hx => by
  rcases hF g hx with ⟨y, e1, e2⟩ | e1 | e1
  ·exact h5 y e1 e2
  ·omega
  ·omega
 refine ⟨g, c, e, h1.keep k (fun q hq => ?_), h2.keep k (fun q hq => ?_), h3, Nat.lt_of_lt_of_le h4 k.size, fun x hx e1 => ?_⟩
 ·simp [Value.ownBlock] at hq; subst hq; exact hoff
 ·simp [Value.ownBlock] at hq; subst hq; exact hoff
 ·rcases hz x hx with e2 | e2
  ·exact h5 x e2 e1
  ·omega
/-- a mark as an argument -/
def mkA (i : Nat) : AD × Value := (⟨markS i, ⟨0, false, 0, 0, ByteArray.empty, []⟩⟩, .slice none 0 0)
def mkAs (n : Nat) : List (AD × Value) := (List.range n).map mkA
theorem mkAs_len (n : Nat) : (mkAs n).length = n := by simp [mkAs]
theorem mkAs_snoc (n : Nat) : mkAs (n + 1) = mkAs n ++ [mkA n] := by simp [mkAs, List.range_succ]
/-- a list of arguments that is lent: at g, with the marks behind its end -/
structure Lg (w : World) (lo g cap : Nat) (l : List AD) : Prop where
 cap1 : l.length + 24 ≤ cap
 cap2 : cap ≤ 9223372036854775807
 lo1 : lo ≤ g
 lt : g < w.heap.size
 arg : ∀ i (h : i < l.length), ∃ g' c, ArgC w g (i * 7) l[i] (.slice (some ⟨g', 0, none⟩) l[i].val.texts.length c) ∧ Ts w (.slice (some ⟨g', 0, none⟩) (l[i].val.texts.length + 24) c) (l[i].val.texts ++ marks 24) ∧ Ts w (.slice (some ⟨g', 0, none⟩) l[i].val.texts.length c) l[i].val.texts ∧ lo ≤ g'
 mks : ∀ j, j < 24 → w.cell? ⟨g, (l.length + j) * 7, none⟩ = some (.string (markS j))
theorem ArgC.keepF {w w' : World} {b o : Nat} {x : AD} {u : Value} {F : List Nat} (h : ArgC w b o x u) (k : Keep F w w') (hn : b ∉ F) : ArgC w' b o x u :=
 ⟨k.cell' h.nm hn, k.cell' h.kind hn, k.cell' h.bool hn, k.cell' h.int hn, k.cell' h.real hn, k.cell' h.text hn, k.cell' h.texts hn⟩
theorem Lg.keep {w w' : World} {lo g cap : Nat} {l : List AD} {F : List Nat} (h : Lg w lo g cap l) (k : Keep F w w') (hF : ∀ x ∈ F, x < lo) : Lg w' lo g cap l := by
 have hg : g ∉ F := fun hx => by have := hF g hx; have := h.lo1; omega
 refine ⟨h.cap1, h.cap2, h.lo1, Nat.lt_of_lt_of_le h.lt k.size, fun i hi => ?_, fun j hj => k.cell' (h.mks j hj) hg⟩
 obtain ⟨g', c, h1, h2, h3, h4⟩ := h.arg i hi
 have hg' : g' ∉ F := fun hx => by have := hF g' hx; omega
 exact ⟨g', c, h1.keepF k hg, h2.keep k (fun q hq => by simp [Value.ownBlock] at hq; subst hq; exact hg'), h3.keep k (fun q hq => by simp [Value.ownBlock] at hq; subst hq; exact hg'), h4⟩
theorem Lg.as {w : World} {lo g cap : Nat} {l : List AD} (h : Lg w lo g cap l) (hok : ∀ x ∈ l, x.val.Ok) : As w (.slice (some ⟨g, 0, none⟩) l.length cap) l := by
 refine ⟨hok, some ⟨g, 0, none⟩, cap, rfl, by have := h.cap1; omega, h.cap2, fun _ => ⟨g, 0, rfl, fun i hi => ?_⟩⟩
 obtain ⟨g', c, h1, h2, h3, h4⟩ := h.arg i hi
 exact ⟨_, by rw [Nat.zero_add]; exact h1, h3⟩
theorem Lg.later {w : World} {lo lo' g cap : Nat} {l : List AD} (h : Lg w lo g cap l) (hl : lo' ≤ lo) : Lg w lo' g cap l :=
 ⟨h.cap1, h.cap2, Nat.le_trans hl h.lo1, h.lt, fun i hi => by obtain ⟨g', c, h1, h2, h3, h4⟩ := h.arg i hi; exact ⟨g', c, h1, h2, h3, Nat.le_trans hl h4⟩, h.mks⟩
/-- a row with the marks behind is lent -/
theorem Lg.ofRow {w : World} {lo g cap : Nat} {ps : List (AD × Value)} {z : Value} (h : RowP w z (ps ++ mkAs 24)) (hz : z = .slice (some ⟨g, 0, none⟩) (ps.length + 24) cap) (hlo : lo ≤ g) (hu : ∀ p ∈ ps, UL w lo z p) : Lg w lo g cap (ps.map (·.1)) := by
 subst hz
 rcases RowC.cases h with ⟨_, _, h3⟩ | ⟨g', cap', he, h1, h2, h3, hc, _⟩
 ·simp at h3
 ·simp only [Value.slice.injEq, Option.some.injEq, Addr.mk.injEq] at he
  obtain ⟨⟨rfl, _, _⟩, hn, rfl⟩ := he
  rw [List.length_append, mkAs_len] at h1 hc
  have cell : ∀ i (hi : i < (ps ++ mkAs 24).length) c, c < 7 → w.cell? ⟨g, i * 7 + c, none⟩ = (cells7 (ps ++ mkAs 24)[i])[c]? := fun i hi c hcc => by
   rw [List.length_append, mkAs_len] at hi
   rw [hc (i * 7 + c) (by omega), flat7_get _ i c (by rw [List.length_append, mkAs_len]; exact hi) hcc]
  refine ⟨by simpa using h1, h2, hlo, h3, fun i hi => ?_, fun j hj => ?_⟩
  ·have hi' : i < ps.length := by simpa using hi
   have he : (ps ++ mkAs 24)[i]'(by rw [List.length_append]; omega) = ps[i] := List.getElem_append_left hi'
   obtain ⟨g', c, e, t1, t2, t3, t4, t5⟩ := hu ps[i] (List.getElem_mem hi')
   have hx : (ps.map (·.1))[i] = ps[i].1 := by simp
   rw [hx]
   have cc : ∀ k, k < 7 → w.cell? ⟨g, i * 7 + k, none⟩ = (cells7 ps[i])[k]? := fun k hk => by
    have := cell i (by rw [List.length_append]; omega) k hk
    rwa [he] at this
   refine ⟨g', c, ⟨cc 0 (by omega), cc 1 (by omega), cc 2 (by omega), cc 3 (by omega), cc 4 (by omega), cc 5 (by omega), (cc 6 (by omega)).trans (congrArg some e)⟩, t1, t2, t3⟩
  ·have he : (ps ++ mkAs 24)[ps.length + j]'(by rw [List.length_append, mkAs_len]; omega) = mkA j := by
    rw [List.getElem_append_right (by omega)]
    simp [mkAs]
   have := cell (ps.length + j) (by rw [List.length_append, mkAs_len]; omega) 0 (by omega)
   rw [he] at this
   simpa [mkA] using this
end Go.Proofs.YtfpcpociejefaaaGreatDoor

/- LentArg and KeptArg. -/
namespace Go.Proofs.YtfpcpociejefaaaGreatDoor
open Go.RowKit Go.PlainAid
theorem set_7 {w : World} {b : Nat} {v0 v1 v2 v3 v4 v5 v6 u0 u1 u2 u3 u4 u5 u6 : Value} (d0 : w.cell? ⟨b, 0, none⟩ = some u0) (d1 : w.cell? ⟨b, 1, none⟩ = some u1) (d2 : w.cell? ⟨b, 2, none⟩ = some u2) (d3 : w.cell? ⟨b, 3, none⟩ = some u3) (d4 : w.cell? ⟨b, 4, none⟩ = some u4) (d5 : w.cell? ⟨b, 5, none⟩ = some u5) (d6 : w.cell? ⟨b, 6, none⟩ = some u6) :
  (((((((w.setCell ⟨b, 0, none⟩ v0).setCell ⟨b, 1, none⟩ v1).setCell ⟨b, 2, none⟩ v2).setCell ⟨b, 3, none⟩ v3).setCell ⟨b, 4, none⟩ v4).setCell ⟨b, 5, none⟩ v5).setCell ⟨b, 6, none⟩ v6).cell? ⟨b, 0, none⟩ = some v0 ∧
  (((((((w.setCell ⟨b, 0, none⟩ v0).setCell ⟨b, 1, none⟩ v1).setCell ⟨b, 2, none⟩ v2).setCell ⟨b, 3, none⟩ v3).setCell ⟨b, 4, none⟩ v4).setCell ⟨b, 5, none⟩ v5).setCell ⟨b, 6, none⟩ v6).cell? ⟨b, 1, none⟩ = some v1 ∧
  (((((((w.setCell ⟨b, 0, none⟩ v0).setCell ⟨b, 1, none⟩ v1).setCell ⟨b, 2, none⟩ v2).setCell ⟨b, 3, none⟩ v3).setCell ⟨b, 4, none⟩ v4).setCell ⟨b, 5, none⟩ v5).setCell ⟨b, 6, none⟩ v6).cell? ⟨b, 2, none⟩ = some v2 ∧
  (((((((w.setCell ⟨b, 0, none⟩ v0).setCell ⟨b, 1, none⟩ v1).setCell ⟨b, 2, none⟩ v2).setCell ⟨b, 3, none⟩ v3).setCell ⟨b, 4, none⟩ v4).setCell ⟨b, 5, none⟩ v5).setCell ⟨b, 6, none⟩ v6).cell? ⟨b, 3, none⟩ = some v3 ∧
  (((((((w.setCell ⟨b, 0, none⟩ v0).setCell ⟨b, 1, none⟩ v1).setCell ⟨b, 2, none⟩ v2).setCell ⟨b, 3, none⟩ v3).setCell ⟨b, 4, none⟩ v4).setCell ⟨b, 5, none⟩ v5).setCell ⟨b, 6, none⟩ v6).cell? ⟨b, 4, none⟩ = some v4 ∧
  (((((((w.setCell ⟨b, 0, none⟩ v0).setCell ⟨b, 1, none⟩ v1).setCell ⟨b, 2, none⟩ v2).setCell ⟨b, 3, none⟩ v3).setCell ⟨b, 4, none⟩ v4).setCell ⟨b, 5, none⟩ v5).setCell ⟨b, 6, none⟩ v6).cell? ⟨b, 5, none⟩ = some v5 ∧
  (((((((w.setCell ⟨b, 0, none⟩ v0).setCell ⟨b, 1, none⟩ v1).setCell ⟨b, 2, none⟩ v2).setCell ⟨b, 3, none⟩ v3).setCell ⟨b, 4, none⟩ v4).setCell ⟨b, 5, none⟩ v5).setCell ⟨b, 6, none⟩ v6).cell? ⟨b, 6, none⟩ = some v6 := by
 refine ⟨?_, ?_, ?_, ?_, ?_, ?_, ?_⟩
 ·rw [World.cell?_setCell_other _ _ _ _ (by simp), World.cell?_setCell_other _ _ _ _ (by simp), World.cell?_setCell_other _ _ _ _ (by simp), World.cell?_setCell_other _ _ _ _ (by simp), World.cell?_setCell_other _ _ _ _ (by simp), World.cell?_setCell_other _ _ _ _ (by simp)]; exact World.cell?_setCell_same _ _ _ (by exact d0)
 ·rw [World.cell?_setCell_other _ _ _ _ (by simp), World.cell?_setCell_other _ _ _ _ (by simp), World.cell?_setCell_other _ _ _ _ (by simp), World.cell?_setCell_other _ _ _ _ (by simp), World.cell?_setCell_other _ _ _ _ (by simp)]; exact World.cell?_setCell_same _ _ _ (by rw [World.cell?_setCell_other _ _ _ _ (by simp)]; exact d1)
 ·rw [World.cell?_setCell_other _ _ _ _ (by simp), World.cell?_setCell_other _ _ _ _ (by simp), World.cell?_setCell_other _ _ _ _ (by simp), World.cell?_setCell_other _ _ _ _ (by simp)]; exact World.cell?_setCell_same _ _ _ (by rw [World.cell?_setCell_other _ _ _ _ (by simp), World.cell?_setCell_other _ _ _ _ (by simp)]; exact d2)
 ·rw [World.cell?_setCell_other _ _ _ _ (by simp), World.cell?_setCell_other _ _ _ _ (by simp), World.cell?_setCell_other _ _ _ _ (by simp)]; exact World.cell?_setCell_same _ _ _ (by rw [World.cell?_setCell_other _ _ _ _ (by simp), World.cell?_setCell_other _ _ _ _ (by simp), World.cell?_setCell_other _ _ _ _ (by simp)]; exact d3)
 ·rw [World.cell?_setCell_other _ _ _ _ (by simp), World.cell?_setCell_other _ _ _ _ (by simp)]; exact World.cell?_setCell_same _ _ _ (by rw [World.cell?_setCell_other _ _ _ _ (by simp), World.cell?_setCell_other _ _ _ _ (by simp), World.cell?_setCell_other _ _ _ _ (by simp), World.cell?_setCell_other _ _ _ _ (by simp)]; exact d4)
 ·rw [World.cell?_setCell_other _ _ _ _ (by simp)]; exact World.cell?_setCell_same _ _ _ (by rw [World.cell?_setCell_other _ _ _ _ (by simp), World.cell?_setCell_other _ _ _ _ (by simp), World.cell?_setCell_other _ _ _ _ (by simp), World.cell?_setCell_other _ _ _ _ (by simp), World.cell?_setCell_other _ _ _ _ (by simp)]; exact d5)
 ·exact World.cell?_setCell_same _ _ _ (by rw [World.cell?_setCell_other _ _ _ _ (by simp), World.cell?_setCell_other _ _ _ _ (by simp), World.cell?_setCell_other _ _ _ _ (by simp), World.cell?_setCell_other _ _ _ _ (by simp), World.cell?_setCell_other _ _ _ _ (by simp), World.cell?_setCell_other _ _ _ _ (by simp)]; exact d6)
theorem two_cells7 {w w' : World} {a0 a1 a2 a3 a4 a5 a6 z0 z1 z2 z3 z4 z5 z6 : Value} (k : Keep [] ((w.alloc (.cells #[a0, a1, a2, a3, a4, a5, a6] 63)).alloc (.cells #[z0, z1, z2, z3, z4, z5, z6] 63)) w') :
  (w'.cell? ⟨w.heap.size, 0, none⟩ = some a0 ∧ w'.cell? ⟨w.heap.size, 1, none⟩ = some a1 ∧ w'.cell? ⟨w.heap.size, 2, none⟩ = some a2 ∧ w'.cell? ⟨w.heap.size, 3, none⟩ = some a3 ∧ w'.cell? ⟨w.heap.size, 4, none⟩ = some a4 ∧ w'.cell? ⟨w.heap.size, 5, none⟩ = some a5 ∧ w'.cell? ⟨w.heap.size, 6, none⟩ = some a6) ∧ (w'.cell? ⟨w.heap.size + 1, 0, none⟩ = some z0 ∧ w'.cell? ⟨w.heap.size + 1, 1, none⟩ = some z1 ∧ w'.cell? ⟨w.heap.size + 1, 2, none⟩ = some z2 ∧ w'.cell? ⟨w.heap.size + 1, 3, none⟩ = some z3 ∧ w'.cell? ⟨w.heap.size + 1, 4, none⟩ = some z4 ∧ w'.cell? ⟨w.heap.size + 1, 5, none⟩ = some z5 ∧ w'.cell? ⟨w.heap.size + 1, 6, none⟩ = some z6) := by
 refine ⟨⟨k.cell' ?_ (by simp), k.cell' ?_ (by simp), k.cell' ?_ (by simp), k.cell' ?_ (by simp), k.cell' ?_ (by simp), k.cell' ?_ (by simp), k.cell' ?_ (by simp)⟩, ⟨k.cell' ?_ (by simp), k.cell' ?_ (by simp), k.cell' ?_ (by simp), k.cell' ?_ (by simp), k.cell' ?_ (by simp), k.cell' ?_ (by simp), k.cell' ?_ (by simp)⟩⟩ <;> simp [go_sem]
set_option maxRecDepth 1000000 in
set_option maxHeartbeats 1600000 in
theorem lentArg_any (p : AD) (u : Value) (w : World) (hu : Ts w u p.val.texts) (hlen : p.val.texts.length ≤ 8796093021952) :
  Calls Tryz.prog 29 #[p.agg u] w fun e w' => ∃ g cap, e = .returned (p.agg (.slice (some ⟨g, 0, none⟩) p.val.texts.length cap)) ∧ (Ts w' (.slice (some ⟨g, 0, none⟩) (p.val.texts.length + 24) cap) (p.val.texts ++ marks 24) ∧ Ts w' (.slice (some ⟨g, 0, none⟩) p.val.texts.length cap) p.val.texts) ∧ Keep [] w w' ∧ w.heap.size ≤ g := by
 have hL := fun w1 k => lentTexts_any u p.val.texts w1 (hu.keep (F := []) (w' := w1) k (Off.nil _)) hlen
 obtain ⟨ao, ca, rfl, _, _, _, _⟩ := hu.ex
 clear hu
 obtain ⟨m, kd, b, n, x, t, ts⟩ := p
 simp only [] at hL hlen ⊢
 go_enter Tryz.func29, Tryz.ntmps29
 go_wp2_with fail
 refine (hL _ ((Keep.alloc1 w _).alloc _)).mono ?_
 rintro e9 w1 ⟨g, cap, rfl, ⟨h1, h2⟩, k1, hg⟩
 obtain ⟨⟨c0, c1, c2, c3, c4, c5, c6⟩, ⟨d0, d1, d2, d3, d4, d5, d6⟩⟩ := two_cells7 k1
 have fz : w1.frozen? ⟨w.heap.size, 6, none⟩ = false := (k1.frozen (by simp; omega) (by simp)).trans (by simp)
 have g0 : w1.frozen? ⟨w.heap.size + 1, 0, none⟩ = false := (k1.frozen (by simp) (by simp)).trans (by simp)
 have g1 : w1.frozen? ⟨w.heap.size + 1, 1, none⟩ = false := (k1.frozen (by simp) (by simp)).trans (by simp)
 have g2 : w1.frozen? ⟨w.heap.size + 1, 2, none⟩ = false := (k1.frozen (by simp) (by simp)).trans (by simp)
 have g3 : w1.frozen? ⟨w.heap.size + 1, 3, none⟩ = false := (k1.frozen (by simp) (by simp)).trans (by simp)
 have g4 : w1.frozen? ⟨w.heap.size + 1, 4, none⟩ = false := (k1.frozen (by simp) (by simp)).trans (by simp)
 have g5 : w1.frozen? ⟨w.heap.size + 1, 5, none⟩ = false := (k1.frozen (by simp) (by simp)).trans (by simp)
 have g6 : w1.frozen? ⟨w.heap.size + 1, 6, none⟩ = false := (k1.frozen (by simp) (by simp)).trans (by simp)
 have hgq : w.heap.size + 2 ≤ g := by simpa using hg
 have HK : Hid (Keep [] w w1) := ((Keep.alloc1 w _).alloc _).trans' k1
 have HT : Hid (Ts w1 (.slice (some ⟨g, 0, none⟩) (ts.length + 24) cap) (ts ++ marks 24) ∧ Ts w1 (.slice (some ⟨g, 0, none⟩) ts.length cap) ts) := ⟨h1, h2⟩
 clear hL k1 hg h1 h2
 have HG : Hid (w.heap.size + 2 ≤ g) := hgq
 clear hgq
 have HQ : ∃ q, Hid (q = w.heap.size) := ⟨_, rfl⟩
 obtain ⟨q, HQ⟩ := HQ
 have hq := HQ.out
 rw [← hq] at c0 c1 c2 c3 c4 c5 c6 d0 d1 d2 d3 d4 d5 d6 fz g0 g1 g2 g3 g4 g5 g6 ⊢
 clear hq
 have hsf := store_f32
 simp only [Go.stored] at hsf
 go_wp2
 have hW := set_7 (w := (w1.setCell ⟨q, 6, none⟩ (.slice (some ⟨g, 0, none⟩) ts.length cap))) (b := q + 1) (v0 := .string m) (v1 := .int .i64 kd) (v2 := .bool b) (v3 := .int .i64 n) (v4 := .float .f32 x) (v5 := .string t) (v6 := .slice (some ⟨g, 0, none⟩) ts.length cap)
  (by rw [World.cell?_setCell_other _ _ _ _ (by simp)]; exact d0) (by rw [World.cell?_setCell_other _ _ _ _ (by simp)]; exact d1) (by rw [World.cell?_setCell_other _ _ _ _ (by simp)]; exact d2) (by rw [World.cell?_setCell_other _ _ _ _ (by simp)]; exact d3) (by rw [World.cell?_setCell_other _ _ _ _ (by simp)]; exact d4) (by rw [World.cell?_setCell_other _ _ _ _ (by simp)]; exact d5) (by rw [World.cell?_setCell_other _ _ _ _ (by simp)]; exact d6)
 have KS : Keep [q, q + 1] w1 ((((((((w1.setCell ⟨q, 6, none⟩ (.slice (some ⟨g, 0, none⟩) ts.length cap)).setCell ⟨q + 1, 0, none⟩ (.string m)).setCell ⟨q + 1, 1, none⟩ (.int .i64 kd)).setCell ⟨q + 1, 2, none⟩ (.bool b)).setCell ⟨q + 1, 3, none⟩ (.int .i64 n)).setCell ⟨q + 1, 4, none⟩ (.float .f32 x)).setCell ⟨q + 1, 5, none⟩ (.string t)).setCell ⟨q + 1, 6, none⟩ (.slice (some ⟨g, 0, none⟩) ts.length cap)) :=
  (((((((((Keep.refl [q, q + 1] w1).setCell (p := ⟨q, 6, none⟩) (.inl (by simp)) _).setCell (p := ⟨q + 1, 0, none⟩) (.inl (by simp)) _).setCell (p := ⟨q + 1, 1, none⟩) (.inl (by simp)) _).setCell (p := ⟨q + 1, 2, none⟩) (.inl (by simp)) _).setCell (p := ⟨q + 1, 3, none⟩) (.inl (by simp)) _).setCell (p := ⟨q + 1, 4, none⟩) (.inl (by simp)) _).setCell (p := ⟨q + 1, 5, none⟩) (.inl (by simp)) _).setCell (p := ⟨q + 1, 6, none⟩) (.inl (by simp)) _)
 generalize ((((((((w1.setCell ⟨q, 6, none⟩ (.slice (some ⟨g, 0, none⟩) ts.length cap)).setCell ⟨q + 1, 0, none⟩ (.string m)).setCell ⟨q + 1, 1, none⟩ (.int .i64 kd)).setCell ⟨q + 1, 2, none⟩ (.bool b)).setCell ⟨q + 1, 3, none⟩ (.int .i64 n)).setCell ⟨q + 1, 4, none⟩ (.float .f32 x)).setCell ⟨q + 1, 5, none⟩ (.string t)).setCell ⟨q + 1, 6, none⟩ (.slice (some ⟨g, 0, none⟩) ts.length cap)) = W at hW KS ⊢
 obtain ⟨r0, r1, r2, r3, r4, r5, r6⟩ := hW
 refine bodyPost_ret (v := .agg #[.string m, .int .i64 kd, .bool b, .int .i64 n, .float .f32 x, .string t, .slice (some ⟨g, 0, none⟩) ts.length cap]) (by simp [results, Tryz.results29, go_sem, r0, r1, r2, r3, r4, r5, r6]) rfl ?_
 have hoff : Off (.slice (some ⟨g, 0, none⟩) ts.length cap) [q, q + 1] := fun k hk hn => by
  have h1 := HG.out
  have h2 := HQ.out
  simp [Value.ownBlock] at hk hn
  omega
 have hoff2 : Off (.slice (some ⟨g, 0, none⟩) (ts.length + 24) cap) [q, q + 1] := fun k hk hn => by
  have h1 := HG.out
  have h2 := HQ.out
  simp [Value.ownBlock] at hk hn
  omega
 exact ⟨g, cap, rfl, ⟨HT.out.1.keep KS hoff2, HT.out.2.keep KS hoff⟩, HK.out.more KS (fun x hx => .inr (by have := HQ.out; simp at hx; omega)), by have := HG.out; omega⟩
set_option maxRecDepth 1000000 in
set_option maxHeartbeats 1600000 in
theorem keptArg_any (p : AD) (g cap : Nat) (v : Value) (w : World) (hx : Ts w (.slice (some ⟨g, 0, none⟩) (p.val.texts.length + 24) cap) (p.val.texts ++ marks 24)) (hx2 : Ts w (.slice (some ⟨g, 0, none⟩) p.val.texts.length cap) p.val.texts) (hv : Ts w v p.val.texts) (hlen : p.val.texts.length ≤ 8796093021952) :
  Calls Tryz.prog 54 #[p.agg (.slice (some ⟨g, 0, none⟩) p.val.texts.length cap), p.agg v] w fun e w' => e = .returned (.bool true) ∧ Keep [] w w' := by
 have hS := fun w1 (k : Keep [] w w1) => sameArg_self p _ v w1 (hx2.keep k (Off.nil _)) (hv.keep k (Off.nil _))
 have hT := fun w1 (k : Keep [] w w1) => keptTexts_any g cap v p.val.texts w1 (hx.keep k (Off.nil _)) (hv.keep k (Off.nil _)) hlen
 obtain ⟨bo, cb, rfl, _, _, _, _⟩ := hv.ex
 clear hx hx2 hv hlen
 obtain ⟨m, kd, b, n, x, t, ts⟩ := p
 simp only [] at hT hS ⊢
 have hR := sameReal_self x
 have K0 : Hid (Keep [] w ((w.alloc (.cells #[.string m, .int .i64 kd, .bool b, .int .i64 n, .float .f32 x, .string t, .slice (some ⟨g, 0, none⟩) ts.length cap] 63)).alloc (.cells #[.string m, .int .i64 kd, .bool b, .int .i64 n, .float .f32 x, .string t, .slice bo ts.length cb] 63))) := (Keep.alloc1 w _).alloc _
 go_enter Tryz.func54, Tryz.ntmps54
 go_wp2_with fail
 refine (hS _ K0.out).mono ?_
 rintro e9 w1 ⟨rfl, k1⟩
 obtain ⟨⟨c0, c1, c2, c3, c4, c5, c6⟩, ⟨d0, d1, d2, d3, d4, d5, d6⟩⟩ := two_cells7 k1
 have HK1 : Hid (Keep [] w w1) := K0.out.trans' k1
 clear k1 hS
 go_wp2_with (first
  | (go_at_call 82; refine (hR _).mono ?_; rintro e9 w9 ⟨rfl, hw9⟩; obtain rfl := hw9.symm)
  | (go_at_call 83; refine (hT _ HK1.out).mono ?_; rintro e9 w2 ⟨rfl, k2⟩))
 go_ret
 exact ⟨rfl, HK1.out.trans' k2⟩
end Go.Proofs.YtfpcpociejefaaaGreatDoor

/- LentArgs: a list of arguments of one's own, with marks behind its end. -/
namespace Go.Proofs.YtfpcpociejefaaaGreatDoor
open Go.RowKit Go.PlainAid
theorem As.keep0 {w w' : World} {v : Value} {l : List AD} (h : As w v l) (k : Keep [] w w') : As w' v l := by
 obtain ⟨ao, cap, rfl, h1, h2, h3⟩ := h.ex
 refine ⟨h.ok, ao, cap, rfl, h1, h2, fun hl => ?_⟩
 obtain ⟨b, o, rfl, hc⟩ := h3 hl
 exact ⟨b, o, rfl, fun i hi => by obtain ⟨u, q1, q2⟩ := hc i hi; exact ⟨u, q1.keep k, q2.keep k (Off.nil _)⟩⟩
theorem As.at {w : World} {v : Value} {l : List AD} (h : As w v l) (k : Nat) (hk : k < l.length) : ∃ b o cap u, v = .slice (some ⟨b, o, none⟩) l.length cap ∧ l.length ≤ cap ∧ cap ≤ 9223372036854775807 ∧ ArgC w b (o + k * 7) l[k] u ∧ Ts w u l[k].val.texts := by
 obtain ⟨ao, cap, rfl, h1, h2, h4⟩ := h.ex
 obtain ⟨b, o, rfl, hc⟩ := h4 (by intro e; rw [e] at hk; simp at hk)
 obtain ⟨u, q1, q2⟩ := hc k hk
 exact ⟨b, o, cap, u, rfl, h1, h2, q1, q2⟩
/-- what holds while the arguments are copied -/
structure LiP (w wr : World) (z : Value) (ps : List (AD × Value)) (q : List (AD × Value)) : Prop where
 row : RowP wr z (ps ++ q)
 kp : Keep [] w wr
 own : ∀ x, z.ownBlock = some x → w.heap.size ≤ x
 ul : ∀ p ∈ ps, UL wr w.heap.size z p
theorem LiP.start (w : World) : LiP w w (.slice none 0 0) [] [] := ⟨World.ownsRow_nil _ 0 63 7, Keep.refl _ _, fun x hx => by simp [Value.ownBlock] at hx, fun p hp => by cases hp⟩
theorem LiP.keep {w wr w' : World} {z : Value} {ps q : List (AD × Value)} (h : LiP w wr z ps q) (k : Keep [] wr w') : LiP w w' z ps q :=
 ⟨RowC.keep h.row k (Off.nil _), h.kp.trans' k, h.own, fun p hp => (h.ul p hp).keep k (fun x hx => by cases hx) (fun x hx => .inl hx)⟩
theorem flat_snoc (ps : List (AD × Value)) (p : AD × Value) : (ps ++ [p]).flatMap cells7 = ps.flatMap cells7 ++ cells7 p := by simp
/-- behind an append: a copied argument -/
theorem LiP.more {w w1 w9 : World} {z z9 : Value} {ps : List (AD × Value)} {p : AD × Value} (h : LiP w w1 z ps []) (hp : UL w1 w.heap.size z p) (R9 : RowC w9 63 7 z9 (ps.length + 1) (ps.flatMap cells7 ++ cells7 p)) (K9 : Keep z.ownBlock.toList w1 w9) (F9 : z9.ownBlock = z.ownBlock ∨ Fresh w1 w9 z9) : LiP w w9 z9 (ps ++ [p]) [] := by
 have hz : ∀ x, z9.ownBlock = some x → z.ownBlock = some x ∨ w1.heap.size ≤ x := fun x hx => by
  rcases F9 with e | e
  ·exact .inl (by rw [← e]; exact hx)
  ·exact .inr (e x hx).1
 have hF : ∀ x ∈ z.ownBlock.toList, (∃ y, z.ownBlock = some y ∧ x = y) ∨ x < w.heap.size ∨ w1.heap.size ≤ x := fun x hx => .inl ⟨x, by simpa using hx, rfl⟩
 refine ⟨?_, h.kp.more K9 (fun x hx => .inr (h.own x (by simpa using hx))), fun x hx => ?_, fun r hr => ?_⟩
 ·rw [List.append_nil]
  unfold RowP
  rw [flat_snoc, List.length_append]
  exact R9
 ·have := h.kp.size
  rcases hz x hx with e | e
  ·exact h.own x e
  ·omega
 ·rcases List.mem_append.1 hr with hr | hr
  ·exact (h.ul r hr).keep K9 hF hz
  ·simp at hr
   subst hr
   exact hp.keep K9 hF hz
/-- behind an append: a mark -/
theorem LiP.mark {w w1 w9 : World} {z z9 : Value} {ps q : List (AD × Value)} {p : AD × Value} (h : LiP w w1 z ps q) (R9 : RowC w9 63 7 z9 ((ps ++ q).length + 1) ((ps ++ q).flatMap cells7 ++ cells7 p)) (K9 : Keep z.ownBlock.toList w1 w9) (F9 : z9.ownBlock = z.ownBlock ∨ Fresh w1 w9 z9) : LiP w w9 z9 ps (q ++ [p]) := by
 have hz : ∀ x, z9.ownBlock = some x → z.ownBlock = some x ∨ w1.heap.size ≤ x := fun x hx => by
  rcases F9 with e | e
  ·exact .inl (by rw [← e]; exact hx)
  ·exact .inr (e x hx).1
 have hF : ∀ x ∈ z.ownBlock.toList, (∃ y, z.ownBlock = some y ∧ x = y) ∨ x < w.heap.size ∨ w1.heap.size ≤ x := fun x hx => .inl ⟨x, by simpa using hx, rfl⟩
 refine ⟨?_, h.kp.more K9 (fun x hx => .inr (h.own x (by simpa using hx))), fun x hx => ?_, fun r hr => (h.ul r hr).keep K9 hF hz⟩
 ·unfold RowP
  rw [show ps ++ (q ++ [p]) = (ps ++ q) ++ [p] by simp, flat_snoc, List.length_append]
  exact R9
 ·have := h.kp.size
  rcases hz x hx with e | e
  ·exact h.own x e
  ·omega
theorem map_take {ps : List (AD × Value)} {l : List AD} {k : Nat} (h : ps.map (fun p : AD × Value => p.1) = l.take k) (hk : k < l.length) (u : Value) : (ps ++ [(l[k], u)]).map (fun p : AD × Value => p.1) = l.take (k + 1) := by
 rw [List.map_append, h, List.take_succ_eq_append_getElem hk]
 rfl
set_option maxRecDepth 1000000 in
set_option maxHeartbeats 3200000 in
theorem lentArgs_any (v : Value) (l : List AD) (w : World) (h : As w v l) (hl : l.length * 88 ≤ 140737488351232) (ht : ∀ x ∈ l, x.val.texts.length * 16 ≤ 140737488351232) :
  Calls Tryz.prog 11 #[v] w fun e w' => ∃ g cap, e = .returned (.slice (some ⟨g, 0, none⟩) l.length cap) ∧ Lg w' w.heap.size g cap l ∧ Keep [] w w' := by
 have hT : Hid (As w v l) := h
 have HL : Hid (∀ i (hi : i < l.length), l[i].val.texts.length ≤ 8796093021952) := fun i hi => by have := ht l[i] (List.getElem_mem hi); omega
 obtain ⟨ao, cap, rfl, -⟩ := h.ex
 clear h ht
 go_enter Tryz.func11, Tryz.ntmps11
 go_wp2
 go_loopw [3, 4] (fun z3 z4 wr => ∃ (k : Nat), z4 = .int .i64 (k : Int) ∧ k ≤ l.length ∧ Hid (∃ ps : List (AD × Value), ps.map (fun p : AD × Value => p.1) = l.take k ∧ LiP w wr z3 ps [])) (fun _ z4 _ => l.length - (RowKit.intOf z4).toNat)
 case atStart => exact ⟨0, rfl, Nat.zero_le _, [], rfl, LiP.start w⟩
 case round =>
  obtain ⟨k, rfl, hk, hI⟩ := hrel
  by_cases hlt : k < l.length
  ·have hlti : (k : Int) < (l.length : Int) := by omega
   obtain ⟨ps, hps0, hLi0⟩ := hI.out
   have hps : Hid (ps.map (fun p : AD × Value => p.1) = l.take k) := hps0
   have hLi : Hid (LiP w wr u3 ps []) := hLi0
   have hpl : Hid (ps.length = k) := by
    have := congrArg List.length hps0
    simp at this
    show ps.length = k
    omega
   clear hps0 hLi0 hI
   obtain ⟨bb, oo, cc, uu, he, hcc, hcc2, hA, hU⟩ := (hT.out.keep0 hLi.out.kp).at k hlt
   simp at he
   obtain ⟨rfl, rfl⟩ := he
   have hmt : Hid (∀ u, (ps ++ [(l[k], u)]).map (fun p : AD × Value => p.1) = l.take (k + 1)) := fun u => map_take hps.out hlt u
   have hCx : Hid (∀ w1, Keep [] wr w1 → Calls Tryz.prog 29 #[l[k].agg uu] w1 fun e w' => ∃ g cap, e = .returned (l[k].agg (.slice (some ⟨g, 0, none⟩) l[k].val.texts.length cap)) ∧ (Ts w' (.slice (some ⟨g, 0, none⟩) (l[k].val.texts.length + 24) cap) (l[k].val.texts ++ marks 24) ∧ Ts w' (.slice (some ⟨g, 0, none⟩) l[k].val.texts.length cap) l[k].val.texts) ∧ Keep [] w1 w' ∧ w1.heap.size ≤ g) := fun w1 k1 => lentArg_any l[k] uu w1 (hU.keep k1 (Off.nil _)) (HL.out k hlt)
   obtain ⟨a1, c1, rfl, _, _, _, _⟩ := hU.ex
   clear hU
   generalize l[k] = x at hA hmt hCx
   obtain ⟨n0, n1, n2, n3, n4, n5, n6⟩ := hA
   have hal : Hid ((ps.length + 1) * 88 ≤ 140737488355328 ∧ ps.length + 1 ≤ maxLen) := by
    have := hpl.out
    show _ ∧ _
    refine ⟨by omega, ?_⟩
    unfold maxLen; omega
   go_wp2_with fail
   refine (hCx.out _ (Keep.refl _ _)).mono ?_
   rintro e w1 ⟨g1, cap1, rfl, ⟨t1, t2⟩, k1, hg1⟩
   have hLi1 : Hid (LiP w w1 u3 ps []) := hLi.out.keep k1
   have hUL : Hid (UL w1 w.heap.size u3 (x, .slice (some ⟨g1, 0, none⟩) x.val.texts.length cap1)) := by
    refine ⟨g1, cap1, rfl, t1, t2, by have := hLi.out.kp.size; omega, ?_, fun y hy e => ?_⟩
    ·obtain ⟨b9, o9, c9, e9, _, _, hc9⟩ := t1.at 0 (by rw [List.length_append, marks_len]; omega)
     simp at e9
     have := World.block_lt_of_cell? _ _ hc9
     simp only at this
     omega
    ·have := RowC.lt hLi.out.row y hy
     omega
   have HS : Hid _ := src_arg w1 x (some ⟨g1, 0, none⟩) x.val.texts.length cap1
   have HR : Hid (RowC (w1.alloc (blk7 x (.slice (some ⟨g1, 0, none⟩) x.val.texts.length cap1))) 63 7 u3 ps.length (ps.flatMap cells7)) := by
    have := RowC.keep hLi1.out.row (Keep.alloc1 w1 (blk7 x (.slice (some ⟨g1, 0, none⟩) x.val.texts.length cap1))) (Off.nil _)
    show RowC _ _ _ _ _ _
    simpa using this
   clear t1 t2 k1 hg1 hCx hLi n0 n1 n2 n3 n4 n5 n6
   go_wp2_with (at_builtin; refine wp_appC infoA rfl rfl (.tmp 12) (.tmp 18) 26 26 rfl Tryz.underlying26 u3 ps.length (ps.flatMap cells7) rfl HR.out _ 1 _ rfl HS.out hal.out.1 hal.out.2 ?_)
   intro v9 w9 R9 K9 F9 S9 _
   obtain ⟨a9, c9, rfl⟩ := S9
   have hx : Hid (LiP w w9 (.slice a9 (ps.length + 1) c9) (ps ++ [(x, .slice (some ⟨g1, 0, none⟩) x.val.texts.length cap1)]) []) :=
    (hLi1.out.keep (Keep.alloc1 w1 (blk7 x (.slice (some ⟨g1, 0, none⟩) x.val.texts.length cap1)))).more (hUL.out.keep (Keep.alloc1 w1 _) (fun x hx => by cases hx) (fun x hx => .inl hx)) R9 K9 F9
   clear R9 K9 F9 HR HS hLi1 hUL
   go_wp2
   go_roundw
   case rel => exact ⟨k + 1, by go_num, by omega, _, hmt.out _, hx.out⟩
   case measure => simp [RowKit.intOf]; omega
  ·have hlti : ¬ (k : Int) < (l.length : Int) := by omega
   obtain ⟨ps, hps0, hLi0⟩ := hI.out
   have hps : Hid (ps.map (fun p : AD × Value => p.1) = l) := by
    rw [List.take_of_length_le (by omega)] at hps0
    exact hps0
   have hLi : Hid (LiP w wr u3 ps (mkAs 0)) := hLi0
   have hpl : Hid (ps.length = l.length) := by
    have := congrArg List.length hps.out
    show ps.length = l.length
    simpa using this
   clear hps0 hLi0 hI
   go_wp2
   go_loopw [3, 5] (fun z3 z5 wr => ∃ (j : Nat), z5 = .int .i64 (j : Int) ∧ j ≤ 24 ∧ Hid (LiP w wr z3 ps (mkAs j))) (fun _ z5 _ => 24 - (RowKit.intOf z5).toNat)
   case atStart => exact ⟨0, rfl, by omega, hLi⟩
   case round =>
    clear hLi
    obtain ⟨j, rfl, hj, hLi⟩ := hrel
    by_cases hjl : j < 24
    ·have hji : (j : Int) < 24 := by omega
     have HM : Hid (∀ w, Calls Tryz.prog 30 #[.int .i64 1, .int .i64 (j : Int)] w fun e w' => e = .returned (.string (markS j)) ∧ Keep [] w w') := fun w => markText_any j hjl w
     obtain ⟨rs, hrs⟩ : ∃ rs, Hid (rs = ps ++ mkAs j) := ⟨_, show _ = _ from rfl⟩
     have hal : Hid ((rs.length + 1) * 88 ≤ 140737488355328 ∧ rs.length + 1 ≤ maxLen) := by
      have := hpl.out
      show _ ∧ _
      rw [hrs.out, List.length_append, mkAs_len]
      refine ⟨by omega, ?_⟩
      unfold maxLen; omega
     have hsn : Hid (mkAs (j + 1) = mkAs j ++ [(⟨markS j, ⟨0, false, 0, 0, ByteArray.empty, []⟩⟩, .slice none 0 0)]) := mkAs_snoc j
     go_wp2_with fail
     refine (HM.out _).mono ?_
     rintro e w1 ⟨rfl, k1⟩
     have hLi1 : Hid (LiP w w1 u3 ps (mkAs j)) := hLi.out.keep k1
     clear k1 hLi HM
     generalize hmk : markS j = mk at hsn ⊢
     clear hmk
     have HS : Hid _ := src_arg w1 ⟨mk, ⟨0, false, 0, 0, ByteArray.empty, []⟩⟩ none 0 0
     have HR : Hid (RowC (w1.alloc (blk7 ⟨mk, ⟨0, false, 0, 0, ByteArray.empty, []⟩⟩ (.slice none 0 0))) 63 7 u3 rs.length (rs.flatMap cells7)) := by
      rw [hrs.out]
      exact RowC.keep hLi1.out.row (Keep.alloc1 w1 (blk7 ⟨mk, ⟨0, false, 0, 0, ByteArray.empty, []⟩⟩ (.slice none 0 0))) (Off.nil _)
     go_wp2_with (at_builtin; refine wp_appC infoA rfl rfl (.tmp 24) (.tmp 28) 26 26 rfl Tryz.underlying26 u3 rs.length (rs.flatMap cells7) rfl HR.out _ 1 _ rfl HS.out hal.out.1 hal.out.2 ?_)
     intro v9 w9 R9 K9 F9 S9 _
     obtain ⟨a9, c9, rfl⟩ := S9
     have hx : Hid (LiP w w9 (.slice a9 (rs.length + 1) c9) ps (mkAs (j + 1))) := by
      show LiP _ _ _ _ _
      rw [hsn.out]
      rw [hrs.out] at R9 F9 ⊢
      exact (hLi1.out.keep (Keep.alloc1 w1 (blk7 ⟨mk, ⟨0, false, 0, 0, ByteArray.empty, []⟩⟩ (.slice none 0 0)))).mark R9 K9 F9
     clear R9 K9 F9 HR HS hLi1
     clear hrs
     go_wp2
     go_roundw
     case rel => exact ⟨j + 1, by go_num, by omega, hx⟩
     case measure => simp [RowKit.intOf]; omega
    ·have hji : ¬ (j : Int) < 24 := by omega
     have hje : j = 24 := by omega
     subst hje
     have hll : (ps ++ mkAs 24).length = l.length + 24 := by rw [List.length_append, mkAs_len, hpl.out]
     rcases RowC.cases hLi.out.row with ⟨h0, -⟩ | ⟨g, cap9, e, hc1, hc2, -⟩
     ·rw [hll] at h0; omega
     rw [hll] at e hc1
     have hfin : Hid (Lg wr w.heap.size g cap9 l ∧ Keep [] w wr) := by
      refine ⟨?_, hLi.out.kp⟩
      have := Lg.ofRow (lo := w.heap.size) hLi.out.row (by rw [e, hpl.out]) (hLi.out.own g (by rw [e]; rfl)) hLi.out.ul
      rwa [hps.out] at this
     subst e
     have hcl : l.length ≤ cap9 := by omega
     clear hLi hll
     go_wp2
     go_ret
     exact ⟨g, cap9, rfl, hfin.out⟩
end Go.Proofs.YtfpcpociejefaaaGreatDoor

/- KeptArgs: a list of arguments that was lent is as it was. -/
namespace Go.Proofs.YtfpcpociejefaaaGreatDoor
open Go.RowKit Go.PlainAid
abbrev oLgD0 : Oper := { dst := some 23, op := Go.Op.move (Go.Operand.tmp 6), type := 3, pos := "lent.go:573", after := #[], guard := none }
abbrev oLgD1 : Oper := { dst := some 24, op := Go.Op.move (Go.Operand.tmp 1), type := 26, pos := "lent.go:573", after := #[], guard := none }
abbrev oLgD2 : Oper := { dst := some 25, op := Go.Op.call { callee := Go.Callee.builtin Go.Builtin.len, args := #[Go.Operand.tmp 24], argTypes := #[26] }, type := 3, pos := "lent.go:573", after := #[{ on := 1, ground := Go.Ground.data }], guard := none }
abbrev oLgD3 : Oper := { dst := some 26, op := Go.Op.binOp Go.BinOp.lss 3 (Go.Operand.tmp 23) (Go.Operand.tmp 25) 3, type := 4, pos := "lent.go:573", after := #[{ on := 0, ground := Go.Ground.data }, { on := 2, ground := Go.Ground.data }], guard := none }
abbrev oLgD4 : Oper := { dst := some 27, op := Go.Op.move (Go.Operand.tmp 26), type := 4, pos := "lent.go:573", after := #[{ on := 3, ground := Go.Ground.data }], guard := none }
abbrev oLgD5 : Oper := { dst := some 28, op := Go.Op.move (Go.Operand.tmp 5), type := 26, pos := "lent.go:573", after := #[{ on := 4, ground := Go.Ground.guard }], guard := some (4, true) }
abbrev oLgD6 : Oper := { dst := some 29, op := Go.Op.move (Go.Operand.tmp 6), type := 3, pos := "lent.go:573", after := #[{ on := 4, ground := Go.Ground.guard }], guard := some (4, true) }
abbrev oLgD7 : Oper := { dst := some 30, op := Go.Op.indexAddr 26 (Go.Operand.tmp 28) (Go.Operand.tmp 29), type := 0, pos := "lent.go:573", after := #[{ on := 5, ground := Go.Ground.data }, { on := 6, ground := Go.Ground.data }, { on := 4, ground := Go.Ground.guard }], guard := some (4, true) }
abbrev oLgD8 : Oper := { dst := some 31, op := Go.Op.load 63 (Go.Operand.tmp 30), type := 63, pos := "lent.go:573", after := #[{ on := 7, ground := Go.Ground.data }, { on := 4, ground := Go.Ground.guard }], guard := some (4, true) }
abbrev oLgD9 : Oper := { dst := some 32, op := Go.Op.move (Go.Operand.tmp 1), type := 26, pos := "lent.go:573", after := #[{ on := 4, ground := Go.Ground.guard }], guard := some (4, true) }
abbrev oLgD10 : Oper := { dst := some 33, op := Go.Op.move (Go.Operand.tmp 6), type := 3, pos := "lent.go:573", after := #[{ on := 4, ground := Go.Ground.guard }], guard := some (4, true) }
abbrev oLgD11 : Oper := { dst := some 34, op := Go.Op.indexAddr 26 (Go.Operand.tmp 32) (Go.Operand.tmp 33), type := 0, pos := "lent.go:573", after := #[{ on := 9, ground := Go.Ground.data }, { on := 10, ground := Go.Ground.data }, { on := 4, ground := Go.Ground.guard }], guard := some (4, true) }
abbrev oLgD12 : Oper := { dst := some 35, op := Go.Op.load 63 (Go.Operand.tmp 34), type := 63, pos := "lent.go:573", after := #[{ on := 11, ground := Go.Ground.data }, { on := 4, ground := Go.Ground.guard }], guard := some (4, true) }
abbrev oLgD13 : Oper := { dst := some 36, op := Go.Op.call { callee := Go.Callee.value (Go.Operand.func 54), args := #[Go.Operand.tmp 31, Go.Operand.tmp 35], argTypes := #[63, 63] }, type := 4, pos := "lent.go:573", after := #[{ on := 8, ground := Go.Ground.data }, { on := 12, ground := Go.Ground.data }, { on := 4, ground := Go.Ground.chain }, { on := 4, ground := Go.Ground.guard }], guard := some (4, true) }
abbrev oLgD14 : Oper := { dst := some 37, op := Go.Op.unOp Go.UnOp.not 4 (Go.Operand.tmp 36), type := 4, pos := "lent.go:573", after := #[{ on := 13, ground := Go.Ground.data }, { on := 4, ground := Go.Ground.guard }], guard := some (4, true) }
abbrev oLgD15 : Oper := { dst := some 38, op := Go.Op.pick (Go.Operand.tmp 27) (Go.Operand.tmp 37) (Go.Operand.const (Go.Value.bool false)), type := 4, pos := "lent.go:573", after := #[{ on := 4, ground := Go.Ground.data }, { on := 14, ground := Go.Ground.data }], guard := none }
abbrev oLgD16 : Oper := { dst := some 39, op := Go.Op.move (Go.Operand.tmp 38), type := 4, pos := "lent.go:573", after := #[{ on := 15, ground := Go.Ground.data }, { on := 13, ground := Go.Ground.chain }], guard := none }
abbrev oLgD17 : Oper := { dst := some 40, op := Go.Op.move (Go.Operand.tmp 6), type := 3, pos := "lent.go:573", after := #[{ on := 16, ground := Go.Ground.guard }], guard := some (16, false) }
abbrev oLgD18 : Oper := { dst := some 41, op := Go.Op.move (Go.Operand.tmp 1), type := 26, pos := "lent.go:573", after := #[{ on := 16, ground := Go.Ground.guard }], guard := some (16, false) }
abbrev oLgD19 : Oper := { dst := some 42, op := Go.Op.call { callee := Go.Callee.builtin Go.Builtin.len, args := #[Go.Operand.tmp 41], argTypes := #[26] }, type := 3, pos := "lent.go:573", after := #[{ on := 18, ground := Go.Ground.data }, { on := 16, ground := Go.Ground.guard }], guard := some (16, false) }
abbrev oLgD20 : Oper := { dst := some 43, op := Go.Op.binOp Go.BinOp.geq 3 (Go.Operand.tmp 40) (Go.Operand.tmp 42) 3, type := 4, pos := "lent.go:573", after := #[{ on := 17, ground := Go.Ground.data }, { on := 19, ground := Go.Ground.data }, { on := 16, ground := Go.Ground.guard }], guard := some (16, false) }
abbrev oLgD21 : Oper := { dst := some 44, op := Go.Op.move (Go.Operand.tmp 43), type := 4, pos := "lent.go:573", after := #[{ on := 20, ground := Go.Ground.data }, { on := 16, ground := Go.Ground.chain }, { on := 16, ground := Go.Ground.guard }], guard := some (16, false) }
abbrev oLgD22 : Oper := { dst := some 45, op := Go.Op.move (Go.Operand.tmp 5), type := 26, pos := "lent.go:573", after := #[{ on := 21, ground := Go.Ground.guard }], guard := some (21, true) }
abbrev oLgD23 : Oper := { dst := some 46, op := Go.Op.move (Go.Operand.tmp 6), type := 3, pos := "lent.go:573", after := #[{ on := 21, ground := Go.Ground.guard }], guard := some (21, true) }
abbrev oLgD24 : Oper := { dst := some 47, op := Go.Op.indexAddr 26 (Go.Operand.tmp 45) (Go.Operand.tmp 46), type := 0, pos := "lent.go:573", after := #[{ on := 22, ground := Go.Ground.data }, { on := 23, ground := Go.Ground.data }, { on := 21, ground := Go.Ground.guard }], guard := some (21, true) }
abbrev oLgD25 : Oper := { dst := some 48, op := Go.Op.fieldAddr 63 (Go.Operand.tmp 47) 0, type := 0, pos := "lent.go:573", after := #[{ on := 24, ground := Go.Ground.data }, { on := 21, ground := Go.Ground.guard }], guard := some (21, true) }
abbrev oLgD26 : Oper := { dst := some 49, op := Go.Op.load 9 (Go.Operand.tmp 48), type := 9, pos := "lent.go:573", after := #[{ on := 25, ground := Go.Ground.data }, { on := 21, ground := Go.Ground.guard }], guard := some (21, true) }
abbrev oLgD27 : Oper := { dst := some 50, op := Go.Op.move (Go.Operand.tmp 6), type := 3, pos := "lent.go:573", after := #[{ on := 21, ground := Go.Ground.guard }], guard := some (21, true) }
abbrev oLgD28 : Oper := { dst := some 51, op := Go.Op.move (Go.Operand.tmp 1), type := 26, pos := "lent.go:573", after := #[{ on := 21, ground := Go.Ground.guard }], guard := some (21, true) }
abbrev oLgD29 : Oper := { dst := some 52, op := Go.Op.call { callee := Go.Callee.builtin Go.Builtin.len, args := #[Go.Operand.tmp 51], argTypes := #[26] }, type := 3, pos := "lent.go:573", after := #[{ on := 28, ground := Go.Ground.data }, { on := 21, ground := Go.Ground.guard }], guard := some (21, true) }
abbrev oLgD30 : Oper := { dst := some 53, op := Go.Op.binOp Go.BinOp.sub 3 (Go.Operand.tmp 50) (Go.Operand.tmp 52) 3, type := 3, pos := "lent.go:573", after := #[{ on := 27, ground := Go.Ground.data }, { on := 29, ground := Go.Ground.data }, { on := 21, ground := Go.Ground.guard }], guard := some (21, true) }
abbrev oLgD31 : Oper := { dst := some 54, op := Go.Op.call { callee := Go.Callee.value (Go.Operand.func 30), args := #[Go.Operand.const (Go.Value.int Go.IntKind.i64 1), Go.Operand.tmp 53], argTypes := #[3, 3] }, type := 9, pos := "lent.go:573", after := #[{ on := 30, ground := Go.Ground.data }, { on := 21, ground := Go.Ground.chain }, { on := 21, ground := Go.Ground.guard }], guard := some (21, true) }
abbrev oLgD32 : Oper := { dst := some 55, op := Go.Op.binOp Go.BinOp.eql 9 (Go.Operand.tmp 49) (Go.Operand.tmp 54) 9, type := 4, pos := "lent.go:573", after := #[{ on := 26, ground := Go.Ground.data }, { on := 31, ground := Go.Ground.data }, { on := 21, ground := Go.Ground.guard }], guard := some (21, true) }
abbrev oLgD33 : Oper := { dst := some 56, op := Go.Op.unOp Go.UnOp.not 4 (Go.Operand.tmp 55), type := 4, pos := "lent.go:573", after := #[{ on := 32, ground := Go.Ground.data }, { on := 21, ground := Go.Ground.guard }], guard := some (21, true) }
abbrev oLgD34 : Oper := { dst := some 57, op := Go.Op.pick (Go.Operand.tmp 44) (Go.Operand.tmp 56) (Go.Operand.const (Go.Value.bool false)), type := 4, pos := "lent.go:573", after := #[{ on := 21, ground := Go.Ground.data }, { on := 33, ground := Go.Ground.data }, { on := 16, ground := Go.Ground.guard }], guard := some (16, false) }
abbrev oLgD35 : Oper := { dst := some 58, op := Go.Op.pick (Go.Operand.tmp 39) (Go.Operand.const (Go.Value.bool true)) (Go.Operand.tmp 57), type := 4, pos := "lent.go:573", after := #[{ on := 16, ground := Go.Ground.data }, { on := 34, ground := Go.Ground.data }], guard := none }
set_option maxRecDepth 1000000 in
set_option maxHeartbeats 6400000 in
theorem keptArgs_any (lo g cap : Nat) (v : Value) (l : List AD) (w : World) (hx : Lg w lo g cap l) (hv : As w v l) (hl : l.length * 88 ≤ 140737488351232) (ht : ∀ x ∈ l, x.val.texts.length * 16 ≤ 140737488351232) :
  Calls Tryz.prog 28 #[.slice (some ⟨g, 0, none⟩) l.length cap, v] w fun e w' => e = .returned (.bool true) ∧ Keep [] w w' := by
 have HX : Hid (Lg w lo g cap l) := hx
 have HL : Hid (∀ i (hi : i < l.length), l[i].val.texts.length ≤ 8796093021952) := fun i hi => by have := ht l[i] (List.getElem_mem hi); omega
 have hcap1 := hx.cap1
 have hcap2 := hx.cap2
 have HV : Hid (As w v l) := hv
 obtain ⟨bo, cb, rfl, q1, q2, _⟩ := hv.ex
 have hne : ((l.length : Int) != (l.length : Int)) = false := by simp
 clear hx hv ht
 go_enter Tryz.func28, Tryz.ntmps28
 go_wp2
 go_loopw [6] (fun z wr => ∃ (k : Nat), z = .int .i64 (k : Int) ∧ k ≤ l.length + 24 ∧ Hid (Keep [] w wr)) (fun z _ => l.length + 24 - (RowKit.intOf z).toNat)
 case atStart => exact ⟨0, rfl, Nat.zero_le _, Keep.refl _ _⟩
 case round =>
  obtain ⟨k, rfl, hk, HK⟩ := hrel
  by_cases hlt : k < l.length
  ·have hlti : (k : Int) < (l.length : Int) := by omega
   have hlt2 : (k : Int) < (l.length : Int) + 24 := by omega
   have hlg : ¬ (l.length : Int) ≤ (k : Int) := by omega
   have hld : decide (l.length ≤ k) = false := by simpa using hlt
   obtain ⟨g1, c1, hA, t1, t2, _⟩ := HX.out.arg k hlt
   obtain ⟨b2, o2, c', u2, he, _, _, hB, t3⟩ := HV.out.at k hlt
   simp at he
   obtain ⟨rfl, rfl⟩ := he
   have HC0 : ∀ w1, Keep [] w w1 → Calls Tryz.prog 54 #[l[k].agg (.slice (some ⟨g1, 0, none⟩) l[k].val.texts.length c1), l[k].agg u2] w1 fun e w' => e = .returned (.bool true) ∧ Keep [] w1 w' := fun w1 k1 => keptArg_any l[k] g1 c1 u2 w1 (t1.keep k1 (Off.nil _)) (t2.keep k1 (Off.nil _)) (t3.keep k1 (Off.nil _)) (HL.out k hlt)
   obtain ⟨a2, c2, rfl, _, _, _, _⟩ := t3.ex
   clear t1 t2 t3
   generalize l[k].val.texts.length = n1 at hA hB HC0
   generalize l[k] = x at hA hB HC0
   have HC : Hid (∀ w1, Keep [] w w1 → Calls Tryz.prog 54 #[x.agg (.slice (some ⟨g1, 0, none⟩) n1 c1), x.agg (.slice a2 n1 c2)] w1 fun e w' => e = .returned (.bool true) ∧ Keep [] w1 w') := HC0
   have HS : Hid (∀ w', Keep [] w w' → (fun w' : World => w'.cell? ⟨g, k * 7, none⟩ = some (.string x.nm) ∧ w'.cell? ⟨g, k * 7 + 1, none⟩ = some (.int .i64 x.val.kind) ∧ w'.cell? ⟨g, k * 7 + 2, none⟩ = some (.bool x.val.bool) ∧ w'.cell? ⟨g, k * 7 + 3, none⟩ = some (.int .i64 x.val.int) ∧ w'.cell? ⟨g, k * 7 + 4, none⟩ = some (.float .f32 x.val.real) ∧ w'.cell? ⟨g, k * 7 + 5, none⟩ = some (.string x.val.text) ∧ w'.cell? ⟨g, k * 7 + 6, none⟩ = some (.slice (some ⟨g1, 0, none⟩) n1 c1) ∧ w'.cell? ⟨b2, o2 + k * 7, none⟩ = some (.string x.nm) ∧ w'.cell? ⟨b2, o2 + k * 7 + 1, none⟩ = some (.int .i64 x.val.kind) ∧ w'.cell? ⟨b2, o2 + k * 7 + 2, none⟩ = some (.bool x.val.bool) ∧ w'.cell? ⟨b2, o2 + k * 7 + 3, none⟩ = some (.int .i64 x.val.int) ∧ w'.cell? ⟨b2, o2 + k * 7 + 4, none⟩ = some (.float .f32 x.val.real) ∧ w'.cell? ⟨b2, o2 + k * 7 + 5, none⟩ = some (.string x.val.text) ∧ w'.cell? ⟨b2, o2 + k * 7 + 6, none⟩ = some (.slice a2 n1 c2) ∧ Hid (Keep [] w w')) w') := fun w' k' => by
    have h1 := hA.keep k'
    have h2 := hB.keep k'
    exact ⟨h1.nm, h1.kind, h1.bool, h1.int, h1.real, h1.text, h1.texts, h2.nm, h2.kind, h2.bool, h2.int, h2.real, h2.text, h2.texts, k'⟩
   clear hA hB HC0
   go_wp2
   refine wp_region_held_drew (S := (fun w' : World => w'.cell? ⟨g, k * 7, none⟩ = some (.string x.nm) ∧ w'.cell? ⟨g, k * 7 + 1, none⟩ = some (.int .i64 x.val.kind) ∧ w'.cell? ⟨g, k * 7 + 2, none⟩ = some (.bool x.val.bool) ∧ w'.cell? ⟨g, k * 7 + 3, none⟩ = some (.int .i64 x.val.int) ∧ w'.cell? ⟨g, k * 7 + 4, none⟩ = some (.float .f32 x.val.real) ∧ w'.cell? ⟨g, k * 7 + 5, none⟩ = some (.string x.val.text) ∧ w'.cell? ⟨g, k * 7 + 6, none⟩ = some (.slice (some ⟨g1, 0, none⟩) n1 c1) ∧ w'.cell? ⟨b2, o2 + k * 7, none⟩ = some (.string x.nm) ∧ w'.cell? ⟨b2, o2 + k * 7 + 1, none⟩ = some (.int .i64 x.val.kind) ∧ w'.cell? ⟨b2, o2 + k * 7 + 2, none⟩ = some (.bool x.val.bool) ∧ w'.cell? ⟨b2, o2 + k * 7 + 3, none⟩ = some (.int .i64 x.val.int) ∧ w'.cell? ⟨b2, o2 + k * 7 + 4, none⟩ = some (.float .f32 x.val.real) ∧ w'.cell? ⟨b2, o2 + k * 7 + 5, none⟩ = some (.string x.val.text) ∧ w'.cell? ⟨b2, o2 + k * 7 + 6, none⟩ = some (.slice a2 n1 c2) ∧ Hid (Keep [] w w'))) (by kernel_rfl) (HS.out _ (HK.out.drew)) (fun hHeld => ?_)
   try dsimp only at hHeld
   refine wpAnyH_take (i := 0) (oi := oLgD0) (v := ?_) rfl (by kernel_rfl) (by kernel_rfl) (by kernel_rfl) (fun _ _ _ h => h) (Or.inl ⟨by rfl, ?_⟩) (by assumption) ?_
   rotate_left
   ·intro w7 hSw
    try dsimp only at hSw
    first | (go_simp; done) | (go_simp; with_reducible rfl)
   try simp only [Act.put, List.setIfInBounds_toArray, List.set_cons_zero, List.set_cons_succ]
   refine wpAnyH_take (i := 1) (oi := oLgD1) (v := ?_) rfl (by kernel_rfl) (by kernel_rfl) (by kernel_rfl) (fun _ _ _ h => h) (Or.inl ⟨by rfl, ?_⟩) (by assumption) ?_
   rotate_left
   ·intro w7 hSw
    try dsimp only at hSw
    first | (go_simp; done) | (go_simp; with_reducible rfl)
   try simp only [Act.put, List.setIfInBounds_toArray, List.set_cons_zero, List.set_cons_succ]
   refine wpAnyH_take (i := 2) (oi := oLgD2) (v := ?_) rfl (by kernel_rfl) (by kernel_rfl) (by kernel_rfl) (fun _ _ _ h => h) (Or.inl ⟨by rfl, ?_⟩) (by assumption) ?_
   rotate_left
   ·intro w7 hSw
    try dsimp only at hSw
    first | (go_simp; done) | (go_simp; with_reducible rfl)
   try simp only [Act.put, List.setIfInBounds_toArray, List.set_cons_zero, List.set_cons_succ]
   refine wpAnyH_take (i := 3) (oi := oLgD3) (v := ?_) rfl (by kernel_rfl) (by kernel_rfl) (by kernel_rfl) (fun _ _ _ h => h) (Or.inl ⟨by rfl, ?_⟩) (by assumption) ?_
   rotate_left
   ·intro w7 hSw
    try dsimp only at hSw
    first | (go_simp; done) | (go_simp; with_reducible rfl)
   try simp only [Act.put, List.setIfInBounds_toArray, List.set_cons_zero, List.set_cons_succ]
   refine wpAnyH_take (i := 4) (oi := oLgD4) (v := ?_) rfl (by kernel_rfl) (by kernel_rfl) (by kernel_rfl) (fun _ _ _ h => h) (Or.inl ⟨by rfl, ?_⟩) (by assumption) ?_
   rotate_left
   ·intro w7 hSw
    try dsimp only at hSw
    first | (go_simp; done) | (go_simp; with_reducible rfl)
   try simp only [Act.put, List.setIfInBounds_toArray, List.set_cons_zero, List.set_cons_succ]
   refine wpAnyH_take (i := 5) (oi := oLgD5) (v := ?_) rfl (by kernel_rfl) (by kernel_rfl) (by kernel_rfl) (fun _ _ _ h => h) (Or.inl ⟨by rfl, ?_⟩) (by assumption) ?_
   rotate_left
   ·intro w7 hSw
    try dsimp only at hSw
    first | (go_simp; done) | (go_simp; with_reducible rfl)
   try simp only [Act.put, List.setIfInBounds_toArray, List.set_cons_zero, List.set_cons_succ]
   refine wpAnyH_take (i := 6) (oi := oLgD6) (v := ?_) rfl (by kernel_rfl) (by kernel_rfl) (by kernel_rfl) (fun _ _ _ h => h) (Or.inl ⟨by rfl, ?_⟩) (by assumption) ?_
   rotate_left
   ·intro w7 hSw
    try dsimp only at hSw
    first | (go_simp; done) | (go_simp; with_reducible rfl)
   try simp only [Act.put, List.setIfInBounds_toArray, List.set_cons_zero, List.set_cons_succ]
   refine wpAnyH_take (i := 7) (oi := oLgD7) (v := ?_) rfl (by kernel_rfl) (by kernel_rfl) (by kernel_rfl) (fun _ _ _ h => h) (Or.inl ⟨by rfl, ?_⟩) (by assumption) ?_
   rotate_left
   ·intro w7 hSw
    try dsimp only at hSw
    first | (go_simp; done) | (go_simp; with_reducible rfl)
   try simp only [Act.put, List.setIfInBounds_toArray, List.set_cons_zero, List.set_cons_succ]
   refine wpAnyH_take (i := 8) (oi := oLgD8) (v := ?_) rfl (by kernel_rfl) (by kernel_rfl) (by kernel_rfl) (fun _ _ _ h => h) (Or.inl ⟨by rfl, ?_⟩) (by assumption) ?_
   rotate_left
   ·intro w7 hSw
    try dsimp only at hSw
    first | (go_simp; done) | (go_simp; with_reducible rfl)
   try simp only [Act.put, List.setIfInBounds_toArray, List.set_cons_zero, List.set_cons_succ]
   refine wpAnyH_take (i := 9) (oi := oLgD9) (v := ?_) rfl (by kernel_rfl) (by kernel_rfl) (by kernel_rfl) (fun _ _ _ h => h) (Or.inl ⟨by rfl, ?_⟩) (by assumption) ?_
   rotate_left
   ·intro w7 hSw
    try dsimp only at hSw
    first | (go_simp; done) | (go_simp; with_reducible rfl)
   try simp only [Act.put, List.setIfInBounds_toArray, List.set_cons_zero, List.set_cons_succ]
   refine wpAnyH_take (i := 10) (oi := oLgD10) (v := ?_) rfl (by kernel_rfl) (by kernel_rfl) (by kernel_rfl) (fun _ _ _ h => h) (Or.inl ⟨by rfl, ?_⟩) (by assumption) ?_
   rotate_left
   ·intro w7 hSw
    try dsimp only at hSw
    first | (go_simp; done) | (go_simp; with_reducible rfl)
   try simp only [Act.put, List.setIfInBounds_toArray, List.set_cons_zero, List.set_cons_succ]
   refine wpAnyH_take (i := 11) (oi := oLgD11) (v := ?_) rfl (by kernel_rfl) (by kernel_rfl) (by kernel_rfl) (fun _ _ _ h => h) (Or.inl ⟨by rfl, ?_⟩) (by assumption) ?_
   rotate_left
   ·intro w7 hSw
    try dsimp only at hSw
    first | (go_simp; done) | (go_simp; with_reducible rfl)
   try simp only [Act.put, List.setIfInBounds_toArray, List.set_cons_zero, List.set_cons_succ]
   refine wpAnyH_take (i := 12) (oi := oLgD12) (v := ?_) rfl (by kernel_rfl) (by kernel_rfl) (by kernel_rfl) (fun _ _ _ h => h) (Or.inl ⟨by rfl, ?_⟩) (by assumption) ?_
   rotate_left
   ·intro w7 hSw
    try dsimp only at hSw
    first | (go_simp; done) | (go_simp; with_reducible rfl)
   try simp only [Act.put, List.setIfInBounds_toArray, List.set_cons_zero, List.set_cons_succ]
   refine wpAnyH_ready (rs := [13]) (by kernel_rfl) (by simp) ?_
   refine AllReadyH.cons (o := oLgD13) rfl (fun K hK => ?_) AllReadyH.nil
   go_simp
   (go_at_call 54; refine (HC.out _ hHeld.2.2.2.2.2.2.2.2.2.2.2.2.2.2.out).mono ?_; rintro e9 w9 ⟨rfl, k9⟩)
   go_wp2_with fail
   refine hK.out _ _ (HS.out _ (hHeld.2.2.2.2.2.2.2.2.2.2.2.2.2.2.out.trans' k9)) (fun hHeld2 => ?_)
   try dsimp only at hHeld2
   clear hK hHeld
   have hHeld := hHeld2
   clear hHeld2
   try simp only [Act.put, List.setIfInBounds_toArray, List.set_cons_zero, List.set_cons_succ]
   refine wpAnyH_take (i := 14) (oi := oLgD14) (v := ?_) rfl (by kernel_rfl) (by kernel_rfl) (by kernel_rfl) (fun _ _ _ h => h) (Or.inl ⟨by rfl, ?_⟩) (by assumption) ?_
   rotate_left
   ·intro w7 hSw
    try dsimp only at hSw
    first | (go_simp; done) | (go_simp; with_reducible rfl)
   try simp only [Act.put, List.setIfInBounds_toArray, List.set_cons_zero, List.set_cons_succ]
   refine wpAnyH_take (i := 15) (oi := oLgD15) (v := ?_) rfl (by kernel_rfl) (by kernel_rfl) (by kernel_rfl) (fun _ _ _ h => h) (Or.inl ⟨by rfl, ?_⟩) (by assumption) ?_
   rotate_left
   ·intro w7 hSw
    try dsimp only at hSw
    first | (go_simp; done) | (go_simp; with_reducible rfl)
   try simp only [Act.put, List.setIfInBounds_toArray, List.set_cons_zero, List.set_cons_succ]
   refine wpAnyH_take (i := 16) (oi := oLgD16) (v := ?_) rfl (by kernel_rfl) (by kernel_rfl) (by kernel_rfl) (fun _ _ _ h => h) (Or.inl ⟨by rfl, ?_⟩) (by assumption) ?_
   rotate_left
   ·intro w7 hSw
    try dsimp only at hSw
    first | (go_simp; done) | (go_simp; with_reducible rfl)
   try simp only [Act.put, List.setIfInBounds_toArray, List.set_cons_zero, List.set_cons_succ]
   refine wpAnyH_take (i := 17) (oi := oLgD17) (v := ?_) rfl (by kernel_rfl) (by kernel_rfl) (by kernel_rfl) (fun _ _ _ h => h) (Or.inl ⟨by rfl, ?_⟩) (by assumption) ?_
   rotate_left
   ·intro w7 hSw
    try dsimp only at hSw
    first | (go_simp; done) | (go_simp; with_reducible rfl)
   try simp only [Act.put, List.setIfInBounds_toArray, List.set_cons_zero, List.set_cons_succ]
   refine wpAnyH_take (i := 18) (oi := oLgD18) (v := ?_) rfl (by kernel_rfl) (by kernel_rfl) (by kernel_rfl) (fun _ _ _ h => h) (Or.inl ⟨by rfl, ?_⟩) (by assumption) ?_
   rotate_left
   ·intro w7 hSw
    try dsimp only at hSw
    first | (go_simp; done) | (go_simp; with_reducible rfl)
   try simp only [Act.put, List.setIfInBounds_toArray, List.set_cons_zero, List.set_cons_succ]
   refine wpAnyH_take (i := 19) (oi := oLgD19) (v := ?_) rfl (by kernel_rfl) (by kernel_rfl) (by kernel_rfl) (fun _ _ _ h => h) (Or.inl ⟨by rfl, ?_⟩) (by assumption) ?_
   rotate_left
   ·intro w7 hSw
    try dsimp only at hSw
    first | (go_simp; done) | (go_simp; with_reducible rfl)
   try simp only [Act.put, List.setIfInBounds_toArray, List.set_cons_zero, List.set_cons_succ]
   refine wpAnyH_take (i := 20) (oi := oLgD20) (v := ?_) rfl (by kernel_rfl) (by kernel_rfl) (by kernel_rfl) (fun _ _ _ h => h) (Or.inl ⟨by rfl, ?_⟩) (by assumption) ?_
   rotate_left
   ·intro w7 hSw
    try dsimp only at hSw
    first | (go_simp; done) | (go_simp; with_reducible rfl)
   try simp only [Act.put, List.setIfInBounds_toArray, List.set_cons_zero, List.set_cons_succ]
   refine wpAnyH_take (i := 21) (oi := oLgD21) (v := ?_) rfl (by kernel_rfl) (by kernel_rfl) (by kernel_rfl) (fun _ _ _ h => h) (Or.inl ⟨by rfl, ?_⟩) (by assumption) ?_
   rotate_left
   ·intro w7 hSw
    try dsimp only at hSw
    first | (go_simp; done) | (go_simp; with_reducible rfl)
   try simp only [Act.put, List.setIfInBounds_toArray, List.set_cons_zero, List.set_cons_succ]
   refine wpAnyH_take (i := 22) (oi := oLgD22) (v := undef) rfl (by kernel_rfl) (by kernel_rfl) (by kernel_rfl) (fun _ _ _ h => h) (Or.inr ⟨by rfl, rfl⟩) (by assumption) ?_
   try simp only [Act.put, List.setIfInBounds_toArray, List.set_cons_zero, List.set_cons_succ]
   refine wpAnyH_take (i := 23) (oi := oLgD23) (v := undef) rfl (by kernel_rfl) (by kernel_rfl) (by kernel_rfl) (fun _ _ _ h => h) (Or.inr ⟨by rfl, rfl⟩) (by assumption) ?_
   try simp only [Act.put, List.setIfInBounds_toArray, List.set_cons_zero, List.set_cons_succ]
   refine wpAnyH_take (i := 24) (oi := oLgD24) (v := undef) rfl (by kernel_rfl) (by kernel_rfl) (by kernel_rfl) (fun _ _ _ h => h) (Or.inr ⟨by rfl, rfl⟩) (by assumption) ?_
   try simp only [Act.put, List.setIfInBounds_toArray, List.set_cons_zero, List.set_cons_succ]
   refine wpAnyH_take (i := 25) (oi := oLgD25) (v := undef) rfl (by kernel_rfl) (by kernel_rfl) (by kernel_rfl) (fun _ _ _ h => h) (Or.inr ⟨by rfl, rfl⟩) (by assumption) ?_
   try simp only [Act.put, List.setIfInBounds_toArray, List.set_cons_zero, List.set_cons_succ]
   refine wpAnyH_take (i := 26) (oi := oLgD26) (v := undef) rfl (by kernel_rfl) (by kernel_rfl) (by kernel_rfl) (fun _ _ _ h => h) (Or.inr ⟨by rfl, rfl⟩) (by assumption) ?_
   try simp only [Act.put, List.setIfInBounds_toArray, List.set_cons_zero, List.set_cons_succ]
   refine wpAnyH_take (i := 27) (oi := oLgD27) (v := undef) rfl (by kernel_rfl) (by kernel_rfl) (by kernel_rfl) (fun _ _ _ h => h) (Or.inr ⟨by rfl, rfl⟩) (by assumption) ?_
   try simp only [Act.put, List.setIfInBounds_toArray, List.set_cons_zero, List.set_cons_succ]
   refine wpAnyH_take (i := 28) (oi := oLgD28) (v := undef) rfl (by kernel_rfl) (by kernel_rfl) (by kernel_rfl) (fun _ _ _ h => h) (Or.inr ⟨by rfl, rfl⟩) (by assumption) ?_
   try simp only [Act.put, List.setIfInBounds_toArray, List.set_cons_zero, List.set_cons_succ]
   refine wpAnyH_take (i := 29) (oi := oLgD29) (v := undef) rfl (by kernel_rfl) (by kernel_rfl) (by kernel_rfl) (fun _ _ _ h => h) (Or.inr ⟨by rfl, rfl⟩) (by assumption) ?_
   try simp only [Act.put, List.setIfInBounds_toArray, List.set_cons_zero, List.set_cons_succ]
   refine wpAnyH_take (i := 30) (oi := oLgD30) (v := undef) rfl (by kernel_rfl) (by kernel_rfl) (by kernel_rfl) (fun _ _ _ h => h) (Or.inr ⟨by rfl, rfl⟩) (by assumption) ?_
   try simp only [Act.put, List.setIfInBounds_toArray, List.set_cons_zero, List.set_cons_succ]
   refine wpAnyH_take (i := 31) (oi := oLgD31) (v := undef) rfl (by kernel_rfl) (by kernel_rfl) (by kernel_rfl) (fun _ _ _ h => h) (Or.inr ⟨by rfl, rfl⟩) (by assumption) ?_
   try simp only [Act.put, List.setIfInBounds_toArray, List.set_cons_zero, List.set_cons_succ]
   refine wpAnyH_take (i := 32) (oi := oLgD32) (v := undef) rfl (by kernel_rfl) (by kernel_rfl) (by kernel_rfl) (fun _ _ _ h => h) (Or.inr ⟨by rfl, rfl⟩) (by assumption) ?_
   try simp only [Act.put, List.setIfInBounds_toArray, List.set_cons_zero, List.set_cons_succ]
   refine wpAnyH_take (i := 33) (oi := oLgD33) (v := undef) rfl (by kernel_rfl) (by kernel_rfl) (by kernel_rfl) (fun _ _ _ h => h) (Or.inr ⟨by rfl, rfl⟩) (by assumption) ?_
   try simp only [Act.put, List.setIfInBounds_toArray, List.set_cons_zero, List.set_cons_succ]
   refine wpAnyH_take (i := 34) (oi := oLgD34) (v := ?_) rfl (by kernel_rfl) (by kernel_rfl) (by kernel_rfl) (fun _ _ _ h => h) (Or.inl ⟨by rfl, ?_⟩) (by assumption) ?_
   rotate_left
   ·intro w7 hSw
    try dsimp only at hSw
    first | (go_simp; done) | (go_simp; with_reducible rfl)
   try simp only [Act.put, List.setIfInBounds_toArray, List.set_cons_zero, List.set_cons_succ]
   refine wpAnyH_take (i := 35) (oi := oLgD35) (v := ?_) rfl (by kernel_rfl) (by kernel_rfl) (by kernel_rfl) (fun _ _ _ h => h) (Or.inl ⟨by rfl, ?_⟩) (by assumption) ?_
   rotate_left
   ·intro w7 hSw
    try dsimp only at hSw
    first | (go_simp; done) | (go_simp; with_reducible rfl)
   try simp only [Act.put, List.setIfInBounds_toArray, List.set_cons_zero, List.set_cons_succ]
   refine wpAnyH_done (by kernel_rfl) ?_ _
   have HZ : Hid (Keep [] w _) := hHeld.2.2.2.2.2.2.2.2.2.2.2.2.2.2
   clear hHeld HS
   go_wp2
   go_roundw
   case rel => exact ⟨k + 1, by go_num, by omega, HZ⟩
   case measure => simp [RowKit.intOf]; omega
  ·have hlti : ¬ (k : Int) < (l.length : Int) := by omega
   have hlg : (l.length : Int) ≤ (k : Int) := by omega
   by_cases hlt2 : k < l.length + 24
   ·have hlti2 : (k : Int) < (l.length : Int) + 24 := by omega
    obtain ⟨j, hj⟩ : ∃ j, k = l.length + j := ⟨k - l.length, by omega⟩
    have hsub : (k : Int) - (l.length : Int) = (j : Int) := by omega
    have hj24 : j < 24 := by omega
    have HM : Hid (∀ w, Calls Tryz.prog 30 #[.int .i64 1, .int .i64 (IntKind.i64.wrap (j : Int))] w fun e w' => e = .returned (.string (markS j)) ∧ Keep [] w w') := fun w => by
     have e : IntKind.i64.wrap (j : Int) = (j : Int) := by rw [IntKind.wrap_i64]; omega
     rw [e]
     exact markText_any j hj24 w
    have HS : Hid (∀ wx, Keep [] w wx → wx.cell? ⟨g, k * 7, none⟩ = some (.string (markS j)) ∧ Keep [] w wx) := fun wx kx => by
     refine ⟨kx.cell' ?_ (by simp), kx⟩
     rw [hj]
     exact HX.out.mks j hj24
    have hmm : ((markS j).toList != (markS j).toList) = false := by simp
    clear hj
    generalize markS j = mk at *
    go_wp2
    refine wp_region_held_drew (S := (fun w' => w'.cell? ⟨g, k * 7, none⟩ = some (.string mk) ∧ Keep [] w w')) (by kernel_rfl) (HS.out _ HK.out.drew) (fun hHeld => ?_)
    try dsimp only at hHeld
    refine wpAnyH_take (i := 0) (oi := oLgD0) (v := ?_) rfl (by kernel_rfl) (by kernel_rfl) (by kernel_rfl) (fun _ _ _ h => h) (Or.inl ⟨by rfl, ?_⟩) (by assumption) ?_
    rotate_left
    ·intro w7 hSw
     try dsimp only at hSw
     first | (go_simp; done) | (go_simp; with_reducible rfl)
    try simp only [Act.put, List.setIfInBounds_toArray, List.set_cons_zero, List.set_cons_succ]
    refine wpAnyH_take (i := 1) (oi := oLgD1) (v := ?_) rfl (by kernel_rfl) (by kernel_rfl) (by kernel_rfl) (fun _ _ _ h => h) (Or.inl ⟨by rfl, ?_⟩) (by assumption) ?_
    rotate_left
    ·intro w7 hSw
     try dsimp only at hSw
     first | (go_simp; done) | (go_simp; with_reducible rfl)
    try simp only [Act.put, List.setIfInBounds_toArray, List.set_cons_zero, List.set_cons_succ]
    refine wpAnyH_take (i := 2) (oi := oLgD2) (v := ?_) rfl (by kernel_rfl) (by kernel_rfl) (by kernel_rfl) (fun _ _ _ h => h) (Or.inl ⟨by rfl, ?_⟩) (by assumption) ?_
    rotate_left
    ·intro w7 hSw
     try dsimp only at hSw
     first | (go_simp; done) | (go_simp; with_reducible rfl)
    try simp only [Act.put, List.setIfInBounds_toArray, List.set_cons_zero, List.set_cons_succ]
    refine wpAnyH_take (i := 3) (oi := oLgD3) (v := ?_) rfl (by kernel_rfl) (by kernel_rfl) (by kernel_rfl) (fun _ _ _ h => h) (Or.inl ⟨by rfl, ?_⟩) (by assumption) ?_
    rotate_left
    ·intro w7 hSw
     try dsimp only at hSw
     first | (go_simp; done) | (go_simp; with_reducible rfl)
    try simp only [Act.put, List.setIfInBounds_toArray, List.set_cons_zero, List.set_cons_succ]
    refine wpAnyH_take (i := 4) (oi := oLgD4) (v := ?_) rfl (by kernel_rfl) (by kernel_rfl) (by kernel_rfl) (fun _ _ _ h => h) (Or.inl ⟨by rfl, ?_⟩) (by assumption) ?_
    rotate_left
    ·intro w7 hSw
     try dsimp only at hSw
     first | (go_simp; done) | (go_simp; with_reducible rfl)
    try simp only [Act.put, List.setIfInBounds_toArray, List.set_cons_zero, List.set_cons_succ]
    refine wpAnyH_take (i := 5) (oi := oLgD5) (v := undef) rfl (by kernel_rfl) (by kernel_rfl) (by kernel_rfl) (fun _ _ _ h => h) (Or.inr ⟨by rfl, rfl⟩) (by assumption) ?_
    try simp only [Act.put, List.setIfInBounds_toArray, List.set_cons_zero, List.set_cons_succ]
    refine wpAnyH_take (i := 6) (oi := oLgD6) (v := undef) rfl (by kernel_rfl) (by kernel_rfl) (by kernel_rfl) (fun _ _ _ h => h) (Or.inr ⟨by rfl, rfl⟩) (by assumption) ?_
    try simp only [Act.put, List.setIfInBounds_toArray, List.set_cons_zero, List.set_cons_succ]
    refine wpAnyH_take (i := 7) (oi := oLgD7) (v := undef) rfl (by kernel_rfl) (by kernel_rfl) (by kernel_rfl) (fun _ _ _ h => h) (Or.inr ⟨by rfl, rfl⟩) (by assumption) ?_
    try simp only [Act.put, List.setIfInBounds_toArray, List.set_cons_zero, List.set_cons_succ]
    refine wpAnyH_take (i := 8) (oi := oLgD8) (v := undef) rfl (by kernel_rfl) (by kernel_rfl) (by kernel_rfl) (fun _ _ _ h => h) (Or.inr ⟨by rfl, rfl⟩) (by assumption) ?_
    try simp only [Act.put, List.setIfInBounds_toArray, List.set_cons_zero, List.set_cons_succ]
    refine wpAnyH_take (i := 9) (oi := oLgD9) (v := undef) rfl (by kernel_rfl) (by kernel_rfl) (by kernel_rfl) (fun _ _ _ h => h) (Or.inr ⟨by rfl, rfl⟩) (by assumption) ?_
    try simp only [Act.put, List.setIfInBounds_toArray, List.set_cons_zero, List.set_cons_succ]
    refine wpAnyH_take (i := 10) (oi := oLgD10) (v := undef) rfl (by kernel_rfl) (by kernel_rfl) (by kernel_rfl) (fun _ _ _ h => h) (Or.inr ⟨by rfl, rfl⟩) (by assumption) ?_
    try simp only [Act.put, List.setIfInBounds_toArray, List.set_cons_zero, List.set_cons_succ]
    refine wpAnyH_take (i := 11) (oi := oLgD11) (v := undef) rfl (by kernel_rfl) (by kernel_rfl) (by kernel_rfl) (fun _ _ _ h => h) (Or.inr ⟨by rfl, rfl⟩) (by assumption) ?_
    try simp only [Act.put, List.setIfInBounds_toArray, List.set_cons_zero, List.set_cons_succ]
    refine wpAnyH_take (i := 12) (oi := oLgD12) (v := undef) rfl (by kernel_rfl) (by kernel_rfl) (by kernel_rfl) (fun _ _ _ h => h) (Or.inr ⟨by rfl, rfl⟩) (by assumption) ?_
    try simp only [Act.put, List.setIfInBounds_toArray, List.set_cons_zero, List.set_cons_succ]
    refine wpAnyH_take (i := 13) (oi := oLgD13) (v := undef) rfl (by kernel_rfl) (by kernel_rfl) (by kernel_rfl) (fun _ _ _ h => h) (Or.inr ⟨by rfl, rfl⟩) (by assumption) ?_
    try simp only [Act.put, List.setIfInBounds_toArray, List.set_cons_zero, List.set_cons_succ]
    refine wpAnyH_take (i := 14) (oi := oLgD14) (v := undef) rfl (by kernel_rfl) (by kernel_rfl) (by kernel_rfl) (fun _ _ _ h => h) (Or.inr ⟨by rfl, rfl⟩) (by assumption) ?_
    try simp only [Act.put, List.setIfInBounds_toArray, List.set_cons_zero, List.set_cons_succ]
    refine wpAnyH_take (i := 15) (oi := oLgD15) (v := ?_) rfl (by kernel_rfl) (by kernel_rfl) (by kernel_rfl) (fun _ _ _ h => h) (Or.inl ⟨by rfl, ?_⟩) (by assumption) ?_
    rotate_left
    ·intro w7 hSw
     try dsimp only at hSw
     first | (go_simp; done) | (go_simp; with_reducible rfl)
    try simp only [Act.put, List.setIfInBounds_toArray, List.set_cons_zero, List.set_cons_succ]
    refine wpAnyH_take (i := 16) (oi := oLgD16) (v := ?_) rfl (by kernel_rfl) (by kernel_rfl) (by kernel_rfl) (fun _ _ _ h => h) (Or.inl ⟨by rfl, ?_⟩) (by assumption) ?_
    rotate_left
    ·intro w7 hSw
     try dsimp only at hSw
     first | (go_simp; done) | (go_simp; with_reducible rfl)
    try simp only [Act.put, List.setIfInBounds_toArray, List.set_cons_zero, List.set_cons_succ]
    refine wpAnyH_take (i := 17) (oi := oLgD17) (v := ?_) rfl (by kernel_rfl) (by kernel_rfl) (by kernel_rfl) (fun _ _ _ h => h) (Or.inl ⟨by rfl, ?_⟩) (by assumption) ?_
    rotate_left
    ·intro w7 hSw
     try dsimp only at hSw
     first | (go_simp; done) | (go_simp; with_reducible rfl)
    try simp only [Act.put, List.setIfInBounds_toArray, List.set_cons_zero, List.set_cons_succ]
    refine wpAnyH_take (i := 18) (oi := oLgD18) (v := ?_) rfl (by kernel_rfl) (by kernel_rfl) (by kernel_rfl) (fun _ _ _ h => h) (Or.inl ⟨by rfl, ?_⟩) (by assumption) ?_
    rotate_left
    ·intro w7 hSw
     try dsimp only at hSw
     first | (go_simp; done) | (go_simp; with_reducible rfl)
    try simp only [Act.put, List.setIfInBounds_toArray, List.set_cons_zero, List.set_cons_succ]
    refine wpAnyH_take (i := 19) (oi := oLgD19) (v := ?_) rfl (by kernel_rfl) (by kernel_rfl) (by kernel_rfl) (fun _ _ _ h => h) (Or.inl ⟨by rfl, ?_⟩) (by assumption) ?_
    rotate_left
    ·intro w7 hSw
     try dsimp only at hSw
     first | (go_simp; done) | (go_simp; with_reducible rfl)
    try simp only [Act.put, List.setIfInBounds_toArray, List.set_cons_zero, List.set_cons_succ]
    refine wpAnyH_take (i := 20) (oi := oLgD20) (v := ?_) rfl (by kernel_rfl) (by kernel_rfl) (by kernel_rfl) (fun _ _ _ h => h) (Or.inl ⟨by rfl, ?_⟩) (by assumption) ?_
    rotate_left
    ·intro w7 hSw
     try dsimp only at hSw
     first | (go_simp; done) | (go_simp; with_reducible rfl)
    try simp only [Act.put, List.setIfInBounds_toArray, List.set_cons_zero, List.set_cons_succ]
    refine wpAnyH_take (i := 21) (oi := oLgD21) (v := ?_) rfl (by kernel_rfl) (by kernel_rfl) (by kernel_rfl) (fun _ _ _ h => h) (Or.inl ⟨by rfl, ?_⟩) (by assumption) ?_
    rotate_left
    ·intro w7 hSw
     try dsimp only at hSw
     first | (go_simp; done) | (go_simp; with_reducible rfl)
    try simp only [Act.put, List.setIfInBounds_toArray, List.set_cons_zero, List.set_cons_succ]
    refine wpAnyH_take (i := 22) (oi := oLgD22) (v := ?_) rfl (by kernel_rfl) (by kernel_rfl) (by kernel_rfl) (fun _ _ _ h => h) (Or.inl ⟨by rfl, ?_⟩) (by assumption) ?_
    rotate_left
    ·intro w7 hSw
     try dsimp only at hSw
     first | (go_simp; done) | (go_simp; with_reducible rfl)
    try simp only [Act.put, List.setIfInBounds_toArray, List.set_cons_zero, List.set_cons_succ]
    refine wpAnyH_take (i := 23) (oi := oLgD23) (v := ?_) rfl (by kernel_rfl) (by kernel_rfl) (by kernel_rfl) (fun _ _ _ h => h) (Or.inl ⟨by rfl, ?_⟩) (by assumption) ?_
    rotate_left
    ·intro w7 hSw
     try dsimp only at hSw
     first | (go_simp; done) | (go_simp; with_reducible rfl)
    try simp only [Act.put, List.setIfInBounds_toArray, List.set_cons_zero, List.set_cons_succ]
    refine wpAnyH_take (i := 24) (oi := oLgD24) (v := ?_) rfl (by kernel_rfl) (by kernel_rfl) (by kernel_rfl) (fun _ _ _ h => h) (Or.inl ⟨by rfl, ?_⟩) (by assumption) ?_
    rotate_left
    ·intro w7 hSw
     try dsimp only at hSw
     first | (go_simp; done) | (go_simp; with_reducible rfl)
    try simp only [Act.put, List.setIfInBounds_toArray, List.set_cons_zero, List.set_cons_succ]
    refine wpAnyH_take (i := 25) (oi := oLgD25) (v := ?_) rfl (by kernel_rfl) (by kernel_rfl) (by kernel_rfl) (fun _ _ _ h => h) (Or.inl ⟨by rfl, ?_⟩) (by assumption) ?_
    rotate_left
    ·intro w7 hSw
     try dsimp only at hSw
     first | (go_simp; done) | (go_simp; with_reducible rfl)
    try simp only [Act.put, List.setIfInBounds_toArray, List.set_cons_zero, List.set_cons_succ]
    refine wpAnyH_take (i := 26) (oi := oLgD26) (v := ?_) rfl (by kernel_rfl) (by kernel_rfl) (by kernel_rfl) (fun _ _ _ h => h) (Or.inl ⟨by rfl, ?_⟩) (by assumption) ?_
    rotate_left
    ·intro w7 hSw
     try dsimp only at hSw
     first | (go_simp; done) | (go_simp; with_reducible rfl)
    try simp only [Act.put, List.setIfInBounds_toArray, List.set_cons_zero, List.set_cons_succ]
    refine wpAnyH_take (i := 27) (oi := oLgD27) (v := ?_) rfl (by kernel_rfl) (by kernel_rfl) (by kernel_rfl) (fun _ _ _ h => h) (Or.inl ⟨by rfl, ?_⟩) (by assumption) ?_
    rotate_left
    ·intro w7 hSw
     try dsimp only at hSw
     first | (go_simp; done) | (go_simp; with_reducible rfl)
    try simp only [Act.put, List.setIfInBounds_toArray, List.set_cons_zero, List.set_cons_succ]
    refine wpAnyH_take (i := 28) (oi := oLgD28) (v := ?_) rfl (by kernel_rfl) (by kernel_rfl) (by kernel_rfl) (fun _ _ _ h => h) (Or.inl ⟨by rfl, ?_⟩) (by assumption) ?_
    rotate_left
    ·intro w7 hSw
     try dsimp only at hSw
     first | (go_simp; done) | (go_simp; with_reducible rfl)
    try simp only [Act.put, List.setIfInBounds_toArray, List.set_cons_zero, List.set_cons_succ]
    refine wpAnyH_take (i := 29) (oi := oLgD29) (v := ?_) rfl (by kernel_rfl) (by kernel_rfl) (by kernel_rfl) (fun _ _ _ h => h) (Or.inl ⟨by rfl, ?_⟩) (by assumption) ?_
    rotate_left
    ·intro w7 hSw
     try dsimp only at hSw
     first | (go_simp; done) | (go_simp; with_reducible rfl)
    try simp only [Act.put, List.setIfInBounds_toArray, List.set_cons_zero, List.set_cons_succ]
    refine wpAnyH_take (i := 30) (oi := oLgD30) (v := ?_) rfl (by kernel_rfl) (by kernel_rfl) (by kernel_rfl) (fun _ _ _ h => h) (Or.inl ⟨by rfl, ?_⟩) (by assumption) ?_
    rotate_left
    ·intro w7 hSw
     try dsimp only at hSw
     first | (go_simp; done) | (go_simp; with_reducible rfl)
    try simp only [Act.put, List.setIfInBounds_toArray, List.set_cons_zero, List.set_cons_succ]
    refine wpAnyH_ready (rs := [31]) (by kernel_rfl) (by simp) ?_
    refine AllReadyH.cons (o := oLgD31) rfl (fun K hK => ?_) AllReadyH.nil
    go_simp
    (go_at_call 30; refine (HM.out _).mono ?_; rintro e9 w9 ⟨rfl, k9⟩)
    go_wp2_with fail
    refine hK.out _ _ (HS.out _ (hHeld.2.trans' k9)) (fun hHeld2 => ?_)
    try dsimp only at hHeld2
    clear hK hHeld
    have hHeld := hHeld2
    clear hHeld2
    try simp only [Act.put, List.setIfInBounds_toArray, List.set_cons_zero, List.set_cons_succ]
    refine wpAnyH_take (i := 32) (oi := oLgD32) (v := ?_) rfl (by kernel_rfl) (by kernel_rfl) (by kernel_rfl) (fun _ _ _ h => h) (Or.inl ⟨by rfl, ?_⟩) (by assumption) ?_
    rotate_left
    ·intro w7 hSw
     try dsimp only at hSw
     first | (go_simp; done) | (go_simp; with_reducible rfl)
    try simp only [Act.put, List.setIfInBounds_toArray, List.set_cons_zero, List.set_cons_succ]
    refine wpAnyH_take (i := 33) (oi := oLgD33) (v := ?_) rfl (by kernel_rfl) (by kernel_rfl) (by kernel_rfl) (fun _ _ _ h => h) (Or.inl ⟨by rfl, ?_⟩) (by assumption) ?_
    rotate_left
    ·intro w7 hSw
     try dsimp only at hSw
     first | (go_simp; done) | (go_simp; with_reducible rfl)
    try simp only [Act.put, List.setIfInBounds_toArray, List.set_cons_zero, List.set_cons_succ]
    refine wpAnyH_take (i := 34) (oi := oLgD34) (v := ?_) rfl (by kernel_rfl) (by kernel_rfl) (by kernel_rfl) (fun _ _ _ h => h) (Or.inl ⟨by rfl, ?_⟩) (by assumption) ?_
    rotate_left
    ·intro w7 hSw
     try dsimp only at hSw
     first | (go_simp; done) | (go_simp; with_reducible rfl)
    try simp only [Act.put, List.setIfInBounds_toArray, List.set_cons_zero, List.set_cons_succ]
    refine wpAnyH_take (i := 35) (oi := oLgD35) (v := ?_) rfl (by kernel_rfl) (by kernel_rfl) (by kernel_rfl) (fun _ _ _ h => h) (Or.inl ⟨by rfl, ?_⟩) (by assumption) ?_
    rotate_left
    ·intro w7 hSw
     try dsimp only at hSw
     first | (go_simp; done) | (go_simp; with_reducible rfl)
    try simp only [Act.put, List.setIfInBounds_toArray, List.set_cons_zero, List.set_cons_succ]
    refine wpAnyH_done (by kernel_rfl) ?_ _
    go_wp2
    go_roundw
    case rel => exact ⟨k + 1, by go_num, by omega, hHeld.2⟩
    case measure => simp [RowKit.intOf]; omega
   ·have hlti2 : ¬ (k : Int) < (l.length : Int) + 24 := by omega
    go_wp2
    go_ret
    exact ⟨rfl, HK.out⟩
end Go.Proofs.YtfpcpociejefaaaGreatDoor
