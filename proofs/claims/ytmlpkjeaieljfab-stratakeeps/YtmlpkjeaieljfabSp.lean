/- A walk with a list of what waits: spreader's closures show and take, for whatever says whether a node is new. -/
import Derived.Test.YtmlpkjeaieljfabGi
import Derived.RangeFuncWrites
import Derived.RangeFuncNested
namespace Go.Proofs.Ytmlpkjeaieljfab
open Go.RowKit Go.PlainAid Go.Sort

/-- a block of cells -/
def IsC (w : World) (x : Nat) : Prop := ∃ c t f, w.heap[x]? = some (.cells c t f)
theorem Bx.isC {w : World} {b : Nat} {t : TypeId} {v : Value} (h : Bx w b t v) : IsC w b := ⟨_, _, _, h⟩
theorem RowC.isC {w : World} {E : TypeId} {s : Nat} {v : Value} {n : Nat} {xs : List Value} (h : RowC w E s v n xs) : ∀ x ∈ v.ownBlock.toList, IsC w x := by
  intro x hx
  rcases h.2 with ⟨rfl, _⟩ | ⟨g, cap, cur, rfl, _, hg, _⟩
  · simp [Value.ownBlock] at hx
  · simp [Value.ownBlock] at hx
    subst hx
    exact ⟨_, _, _, hg⟩
theorem Arr.isC {α : Type} {E : TypeId} {e : α → Value} {w : World} {g n : Nat} {l : List α} (h : Arr E e w g n l) : IsC w g := RowC.isC h.row g (by simp [Value.ownBlock])

/-- below B nothing but F has turned, and what is no cells lies as it lay -/
structure Kp (B : Nat) (F : List Nat) (w w' : World) : Prop where
  os : w'.os = w.os
  tape : w'.tape = w.tape
  output : w'.output = w.output
  size : w.heap.size ≤ w'.heap.size
  block : ∀ k, k < B → k ∉ F → w'.heap[k]? = w.heap[k]?
  oth : ∀ (k : Nat) (o : Obj), w.heap[k]? = some o → o.isCells = false → w'.heap[k]? = some o
theorem Kp.refl (B : Nat) (F : List Nat) (w : World) : Kp B F w w := ⟨rfl, rfl, rfl, Nat.le_refl _, fun _ _ _ => rfl, fun _ _ h _ => h⟩
theorem Kp.trans {B : Nat} {F : List Nat} {a b c : World} (h : Kp B F a b) (k : Kp B F b c) : Kp B F a c := ⟨k.os.trans h.os, k.tape.trans h.tape, k.output.trans h.output, Nat.le_trans h.size k.size, fun i hi hn => (k.block i hi hn).trans (h.block i hi hn), fun i o h1 h2 => k.oth i o (h.oth i o h1 h2) h2⟩
theorem Kp.mono {B : Nat} {F G : List Nat} {a b : World} (h : Kp B F a b) (hF : ∀ x ∈ F, x ∈ G) : Kp B G a b := ⟨h.os, h.tape, h.output, h.size, fun i hi hn => h.block i hi (fun hx => hn (hF i hx)), h.oth⟩
theorem Kp.less {B C : Nat} {F : List Nat} {a b : World} (h : Kp B F a b) (hC : C ≤ B) : Kp C F a b := ⟨h.os, h.tape, h.output, h.size, fun i hi hn => h.block i (Nat.lt_of_lt_of_le hi hC) hn, h.oth⟩
theorem Kp.of {B : Nat} {F G : List Nat} {a b : World} (h : Keep F a b) (hB : B ≤ a.heap.size) (hF : ∀ x ∈ F, x ∈ G ∨ B ≤ x) (hc : ∀ x ∈ F, IsC a x := by simp) : Kp B G a b := ⟨h.os, h.tape, h.output, h.size, fun i hi hn => h.block i (by omega) (fun hx => by rcases hF i hx with h | h; exact hn h; omega), fun i o h1 h2 => (h.block i (Array.getElem?_eq_some_iff.1 h1).1 (fun hx => by obtain ⟨c, t, f, h3⟩ := hc i hx; rw [h1] at h3; cases h3; cases h2)).trans h1⟩
theorem Kp.cell {B : Nat} {F : List Nat} {w w' : World} (h : Kp B F w w') {b o : Nat} (hb : b < B) (hn : b ∉ F) : w'.cell? ⟨b, o, none⟩ = w.cell? ⟨b, o, none⟩ := World.cell?_of_block (w := w) (h.block b hb hn)
theorem Kp.bx {B : Nat} {F : List Nat} {w w' : World} (h : Kp B F w w') {b : Nat} {t : TypeId} {v : Value} (hx : Bx w b t v) (hb : b < B) (hn : b ∉ F) : Bx w' b t v := (h.block b hb hn).trans hx
theorem Kp.arr {α : Type} {E : TypeId} {e : α → Value} {B : Nat} {F : List Nat} {w w' : World} (h : Kp B F w w') {g n : Nat} {l : List α} (ha : Arr E e w g n l) (hb : g < B) (hn : g ∉ F) : Arr E e w' g n l := by
  refine ⟨?_, ha.len⟩
  have hr := ha.row
  refine ⟨hr.1, ?_⟩
  rcases hr.2 with hz | ⟨g', cap, cur, he, hb', hg, r⟩
  · exact .inl hz
  · simp at he
    obtain ⟨rfl, rfl⟩ := he
    exact .inr ⟨g, n, cur, rfl, hb', (h.block g hb hn).trans hg, r⟩
theorem Kp.rd {α : Type} {enc : α → List Value} {k : Nat} {B : Nat} {F : List Nat} {w w' : World} {v : Value} {l : List α} (h : Kp B F w w') (hr : Rd enc k w v l) (hv : ∀ x, v.ownBlock = some x → x < B ∧ x ∉ F) : Rd enc k w' v l := by
  obtain ⟨ao, cap, rfl, h1, h2, h3, h4⟩ := hr.ex
  refine ⟨ao, cap, rfl, h1, h2, h3, fun hl => ?_⟩
  obtain ⟨b, o, rfl, hb, hc⟩ := h4 hl
  have hv' := hv b rfl
  refine ⟨b, o, rfl, Nat.lt_of_lt_of_le hb h.size, fun j hj i hi => ?_⟩
  rw [← hc j hj i hi]
  exact h.cell hv'.1 hv'.2
/-- what is new since w0 alone has turned -/
theorem Kp.keep {B : Nat} {F : List Nat} {w0 w w' : World} (k0 : Keep [] w0 w) (h : Kp B F w w') (hB : w0.heap.size ≤ B) (hF : ∀ x ∈ F, w0.heap.size ≤ x) : Keep [] w0 w' :=
  ⟨h.os.trans k0.os, h.tape.trans k0.tape, h.output.trans k0.output, Nat.le_trans k0.size h.size, fun i hi hn => (h.block i (by omega) (fun hx => by have := hF i hx; omega)).trans (k0.block i hi hn)⟩

/-- a variable that holds a list of numbers of its own, laid since B -/
structure Wt (B : Nat) (w : World) (bw : Nat) (W : List Nat) : Prop where
  ex : ∃ v, Bx w bw 28 v ∧ Rw 3 encN 1 w v W ∧ ∀ x, v.ownBlock = some x → B ≤ x
theorem Wt.kp {B : Nat} {w w' : World} {bw : Nat} {W : List Nat} (h : Wt B w bw W) (k : Keep [] w w') : Wt B w' bw W := by
  obtain ⟨v, h1, h2, h3⟩ := h.ex
  exact ⟨v, h1.keep k (by simp), h2.keep k (Off.nil _), h3⟩

/-- the call that says whether a node is new: T w m: its memory, with the marks m -/
structure MeetOk (B bw fm n : Nat) (cb : Array Value) (F : List Nat) (T : World → List Bool → Prop) : Prop where
  enters : ∀ args w, (callFunc fm args).run Try.prog w = .ok (.enter fm args) w
  call : ∀ (w : World) (m : List Bool) (k : Nat), T w m → k < n → B ≤ w.heap.size → Calls Try.prog fm (#[.int .i64 (k : Int)] ++ cb) w fun e w' => e = .returned (.bool (!m.getD k false)) ∧ (T w' (m.set k true) ∧ ∀ x ∈ F, IsC w x) ∧ Keep F w w'
  keep : ∀ (w w' : World) (m : List Bool), T w m → Kp B [bw] w w' → T w' m
  len : ∀ (w : World) (m : List Bool), T w m → m.length = n

theorem src_nat (w : World) (x : Nat) : Src Try.prog 1 28 (.slice (some ⟨w.heap.size, 0, none⟩) 1 1) 1 [.int .i64 (x : Int)] (w.alloc (.cells #[.int .i64 (x : Int)] 3 (0, 0))) := by
  refine Src.ofSlice _ Try.underlying28 ⟨w.heap.size, 0, none⟩ 1 1 _ rfl (fun j u hu => ?_) (fun u hu => ?_)
  · have hj : j = 0 := by
      have := (List.getElem?_eq_some_iff.1 hu).1
      simpa using this
    subst hj
    simp at hu
    subst hu
    simp [Addr.add]
  · simp at hu
    subst hu
    rfl

/-- a number is put behind the list -/
theorem Wt.push {B : Nat} {w w' : World} {bw : Nat} {W : List Nat} {v v' : Value} {k : Nat} (hbw : bw < B) (hB : B ≤ w.heap.size) (hbx : Bx w bw 28 v) (hv : ∀ x, v.ownBlock = some x → B ≤ x) (hr0 : RowC w 3 1 v W.length (W.flatMap encN)) (hr : RowC w' 3 1 v' (W.length + 1) (W.flatMap encN ++ [.int .i64 (k : Int)])) (hk : Keep v.ownBlock.toList w w') (hf : v'.ownBlock = v.ownBlock ∨ Fresh w w' v') : Wt B (w'.setCell ⟨bw, 0, none⟩ v') bw (W ++ [k]) ∧ Kp B [bw] w (w'.setCell ⟨bw, 0, none⟩ v') := by
  have hb' : ∀ x, v'.ownBlock = some x → B ≤ x := fun x hx => by
    rcases hf with e | e
    · rw [e] at hx; exact hv x hx
    · have := (e x hx).1; omega
  have hnb : bw ∉ v.ownBlock.toList := fun hm => by
    have := hv bw (by simpa using hm)
    omega
  have hx' : Bx w' bw 28 v := hbx.keep hk hnb
  refine ⟨⟨v', hx'.set v', ?_, hb'⟩, ?_⟩
  · unfold Rw
    rw [List.length_append, List.flatMap_append]
    exact RowC.keep hr (Keep.set1 w' ⟨bw, 0, none⟩ v') (fun x hx hm => by have := hb' x hx; simp at hm; omega)
  · refine (Kp.of hk hB (fun x hx => .inr (hv x (by simpa using hx))) hr0.isC).trans (Kp.of (Keep.set1 w' ⟨bw, 0, none⟩ v') (Nat.le_trans hB hk.size) (fun x hx => .inl (by simpa using hx)) (fun x hx => by simp at hx; subst hx; exact hx'.isC))

set_option maxRecDepth 1000000 in
set_option maxHeartbeats 1000000 in
theorem show_any {B bw bf fm n : Nat} {cb : Array Value} {F : List Nat} {T : World → List Bool → Prop} (hM : MeetOk B bw fm n cb F T) (k : Nat) (m : List Bool) (W : List Nat) (w : World) (hk : k < n) (hT : T w m) (hW : Wt B w bw W) (hcf : w.cell? ⟨bf, 0, none⟩ = some (.func (.func fm) #[] cb)) (hbw : bw < B) (hB : B ≤ w.heap.size) (hbwF : bw ∉ F) (hF : ∀ x ∈ F, x < B) (hlen : W.length ≤ 100000) :
    Calls Try.prog 52 #[.int .i64 (k : Int), .pointer (some ⟨bf, 0, none⟩), .pointer (some ⟨bw, 0, none⟩)] w fun e w' => e = .returned (.tuple #[]) ∧ T w' (m.set k true) ∧ Wt B w' bw (if m.getD k false then W else W ++ [k]) ∧ Kp B (bw :: F) w w' := by
  have eg := hM.enters
  have HC : Hid (Calls Try.prog fm (#[.int .i64 (k : Int)] ++ cb) w fun e w' => e = .returned (.bool (!m.getD k false)) ∧ (T w' (m.set k true) ∧ ∀ x ∈ F, IsC w x) ∧ Keep F w w') := hM.call w m k hT hk hB
  have HM : Hid (MeetOk B bw fm n cb F T) := hM
  have HW : Hid (Wt B w bw W) := hW
  clear hM hT hW
  cases hm : m.getD k false with
  | true =>
    rw [hm] at HC
    clear hm
    go_enter Try.func52, Try.ntmps52
    go_wp2_with fail
    refine HC.out.mono ?_
    rintro e w1 ⟨rfl, ⟨t1, hic⟩, k1⟩
    have HE : Hid (T w1 (m.set k true) ∧ Wt B w1 bw W ∧ Kp B (bw :: F) w w1) := by
      refine ⟨t1, ?_, Kp.of k1 hB (fun x hx => .inl (by simp [hx])) hic⟩
      obtain ⟨v, h1, h2, h3⟩ := HW.out.ex
      exact ⟨v, h1.keep k1 hbwF, h2.keep k1 (fun x hx hm => by have := h3 x hx; have := hF x hm; omega), h3⟩
    clear t1 k1 HC HM HW hic
    go_wp2
    go_end0
    exact ⟨rfl, HE.out⟩
  | false =>
    rw [hm] at HC
    clear hm
    go_enter Try.func52, Try.ntmps52
    go_wp2_with fail
    refine HC.out.mono ?_
    rintro e w1 ⟨rfl, ⟨t1, hic⟩, k1⟩
    obtain ⟨v, h1, h2, h3⟩ := HW.out.ex
    have hw1 : B ≤ w1.heap.size := Nat.le_trans hB k1.size
    have hb1 : Bx w1 bw 28 v := h1.keep k1 hbwF
    have HR : Hid (RowC (w1.alloc (.cells #[.int .i64 (k : Int)] 3 (0, 0))) 3 1 v W.length (W.flatMap encN)) := RowC.keep (h2.keep k1 (fun x hx hm => by have := h3 x hx; have := hF x hm; omega)) (Keep.alloc1 w1 _) (Off.nil _)
    have HS : Hid _ := src_nat w1 k
    have hal : Hid ((W.length + 1) * 8 ≤ 140737488355328 ∧ W.length + 1 ≤ maxLen) := by
      refine ⟨by omega, ?_⟩
      unfold maxLen; omega
    have HB1 : Hid (Bx (w1.alloc (.cells #[.int .i64 (k : Int)] 3 (0, 0))) bw 28 v ∧ ∀ x, v.ownBlock = some x → B ≤ x) := ⟨hb1.keep (Keep.alloc1 w1 _) (by simp), h3⟩
    have hc1 : w1.cell? ⟨bw, 0, none⟩ = some v := hb1.cell
    have HT : Hid (T w1 (m.set k true) ∧ Kp B (bw :: F) w w1) := ⟨t1, Kp.of k1 hB (fun x hx => .inl (by simp [hx])) hic⟩
    clear h1 h2 h3 hb1 t1 k1 HC HW hcf hic
    go_wp2_with (at_builtin; refine wp_appC infoI rfl rfl (.tmp 7) (.tmp 9) 28 28 rfl Try.underlying28 v W.length (W.flatMap encN) rfl HR.out _ 1 _ rfl HS.out hal.out.1 hal.out.2 ?_)
    intro v9 w9 R9 K9 F9 S9 _
    have h9 := Wt.push (k := k) hbw (by simp; omega) HB1.out.1 HB1.out.2 HR.out R9 K9 F9
    obtain ⟨a9, c9, rfl⟩ := S9
    have hx9 : Bx w9 bw 28 v := HB1.out.1.keep K9 (fun hm => by have := HB1.out.2 bw (by simpa using hm); omega)
    have c9' := hx9.cell
    have f9 := hx9.free
    have H9 : Hid (T (w9.setCell ⟨bw, 0, none⟩ (.slice a9 (W.length + 1) c9)) (m.set k true) ∧ Wt B (w9.setCell ⟨bw, 0, none⟩ (.slice a9 (W.length + 1) c9)) bw (W ++ [k]) ∧ Kp B (bw :: F) w (w9.setCell ⟨bw, 0, none⟩ (.slice a9 (W.length + 1) c9))) := by
      have hk2 : Kp B [bw] w1 (w9.setCell ⟨bw, 0, none⟩ (.slice a9 (W.length + 1) c9)) := (Kp.of (Keep.alloc1 w1 _) hw1 (by simp)).trans h9.2
      exact ⟨HM.out.keep _ _ _ HT.out.1 hk2, h9.1, HT.out.2.trans (hk2.mono (by simp))⟩
    clear h9 R9 K9 F9 HR HS HB1 HT HM hx9
    go_wp2
    go_end0
    exact ⟨rfl, H9.out⟩

/-- the last one is taken off the list -/
theorem Wt.pop {B : Nat} {w : World} {bw : Nat} {W : List Nat} {k : Nat} (hbw : bw < B) (hB : B ≤ w.heap.size) (h : Wt B w bw (W ++ [k])) : ∃ g cap, w.cell? ⟨bw, 0, none⟩ = some (.slice (some ⟨g, 0, none⟩) (W.length + 1) cap) ∧ w.frozen? ⟨bw, 0, none⟩ = false ∧ W.length + 1 ≤ cap ∧ cap ≤ 9223372036854775807 ∧ w.cell? ⟨g, W.length, none⟩ = some (.int .i64 (k : Int)) ∧
    Wt B (w.setCell ⟨bw, 0, none⟩ (.slice (some ⟨g, 0, none⟩) W.length cap)) bw W ∧ Kp B [bw] w (w.setCell ⟨bw, 0, none⟩ (.slice (some ⟨g, 0, none⟩) W.length cap)) := by
  obtain ⟨v, h1, h2, h3⟩ := h.ex
  have hl : (W ++ [k]).length = W.length + 1 := by simp
  rcases h2.cases encN_len with ⟨he, _⟩ | ⟨g, cap, rfl, h4, h5, h6, h7, h8⟩
  · simp at he
  rw [hl] at h1 h4
  refine ⟨g, cap, h1.cell, h1.free, h4, h5, ?_, ⟨_, h1.set _, ?_, fun x hx => h3 x (by simpa [Value.ownBlock] using hx)⟩, Kp.of (Keep.set1 w ⟨bw, 0, none⟩ _) hB (by simp) (fun x hx => by simp at hx; subst hx; exact h1.isC)⟩
  · have := h7 W.length (by omega) 0 (by omega)
    rw [Nat.mul_one, Nat.add_zero] at this
    rw [this]
    simp [encN, eN]
  · have hr : RowC w 3 1 (.slice (some ⟨g, 0, none⟩) (W.length + 1) cap) (W.length + 1) ((W ++ [k]).flatMap encN) := by
      unfold Rw at h2
      rwa [hl] at h2
    have ht := RowC.take hr W.length (by omega) (by simp)
    have e : ((W ++ [k]).flatMap encN).take (W.length * 1) = W.flatMap encN := by
      rw [List.flatMap_append]
      exact List.take_left' (by rw [flat_len encN_len])
    rw [e] at ht
    have hgb : B ≤ g := h3 g (by simp [Value.ownBlock])
    exact RowC.keep ht (Keep.set1 w ⟨bw, 0, none⟩ _) (fun x hx hm => by simp [Value.ownBlock] at hx; simp at hm; omega)

set_option maxRecDepth 1000000 in
theorem take_any {B bw : Nat} (k : Nat) (W : List Nat) (w : World) (hW : Wt B w bw (W ++ [k])) (hbw : bw < B) (hB : B ≤ w.heap.size) :
    Calls Try.prog 53 #[.pointer (some ⟨bw, 0, none⟩)] w fun e w' => e = .returned (.int .i64 (k : Int)) ∧ Wt B w' bw W ∧ Kp B [bw] w w' := by
  obtain ⟨g, cap, c0, f0, h1, h2, c1, h3, h4⟩ := hW.pop hbw hB
  have H3 : Hid (Wt B (w.setCell ⟨bw, 0, none⟩ (.slice (some ⟨g, 0, none⟩) W.length cap)) bw W ∧ Kp B [bw] w (w.setCell ⟨bw, 0, none⟩ (.slice (some ⟨g, 0, none⟩) W.length cap))) := ⟨h3, h4⟩
  clear h3 h4 hW
  have hl : (W.length : Int) < (W.length : Int) + 1 := by omega
  go_enter Try.func53, Try.ntmps53
  go_wp2
  go_ret
  exact ⟨rfl, H3.out⟩
end Go.Proofs.Ytmlpkjeaieljfab

