/- What the Writer's parts write, each for every Writer and every input. -/
import Derived.Test.YtncbanpimfhhbaaGreatDoorOwn
import Derived.Lib.Varint
import Derived.Lib.Zigzag

namespace Go.Proofs.YtncbanpimfhhbaaGreatDoor
open Go.RowKit Go.PlainAid

/-- at b, o lies a Writer that has written l, in the block rb (or in none) -/
structure Wr (w : World) (b o : Nat) (l : List UInt8) (rb : Option Nat) : Prop where
  ex : w.frozen? ⟨b, o, none⟩ = false ∧ rb ≠ some b ∧ ∃ v, w.cell? ⟨b, o, none⟩ = some v ∧ v.ownBlock = rb ∧ Row w v l

/-- the block is the one of before, or a new one -/
def Newer (w w' : World) (rb rb' : Option Nat) : Prop := rb' = rb ∨ ∀ k, rb' = some k → w.heap.size ≤ k ∧ k < w'.heap.size

theorem Newer.refl (w w' : World) (rb : Option Nat) : Newer w w' rb rb := .inl rfl
theorem Newer.trans {a b c : World} {r s t : Option Nat} (h : Newer a b r s) (k : Newer b c s t) (hs : a.heap.size ≤ b.heap.size) (hs2 : b.heap.size ≤ c.heap.size) : Newer a c r t := by
  rcases k with rfl | k
  · rcases h with rfl | h
    · exact .inl rfl
    · exact .inr fun x hx => ⟨(h x hx).1, Nat.lt_of_lt_of_le (h x hx).2 hs2⟩
  · exact .inr fun x hx => ⟨Nat.le_trans hs (k x hx).1, (k x hx).2⟩
theorem Newer.foot {w w' : World} {r s : Option Nat} {b : Nat} (h : Newer w w' r s) : ∀ x ∈ b :: s.toList, x ∈ b :: r.toList ∨ w.heap.size ≤ x := by
  intro x hx
  rcases h with rfl | h
  · exact .inl hx
  · simp at hx
    rcases hx with rfl | hx
    · exact .inl (by simp)
    · exact .inr (h x hx).1

theorem Wr.lt {w : World} {b o : Nat} {l : List UInt8} {rb : Option Nat} (h : Wr w b o l rb) : b < w.heap.size := by
  obtain ⟨_, _, v, hc, _⟩ := h.ex
  exact World.block_lt_of_cell? w _ hc
theorem Wr.ltR {w : World} {b o : Nat} {l : List UInt8} {rb : Option Nat} (h : Wr w b o l rb) : ∀ k, rb = some k → k < w.heap.size := by
  obtain ⟨_, _, v, hc, rfl, hr⟩ := h.ex
  exact hr.lt
theorem Wr.keep {F : List Nat} {w w' : World} {b o : Nat} {l : List UInt8} {rb : Option Nat} (h : Wr w b o l rb) (k : Keep F w w') (hb : b ∉ F) (hr : ∀ x, rb = some x → x ∉ F) : Wr w' b o l rb := by
  obtain ⟨hf, hne, v, hc, rfl, hrow⟩ := h.ex
  exact ⟨(k.frozen (World.block_lt_of_cell? w _ hc) hb).trans hf, hne, v, k.cell' hc hb, rfl, hrow.keep k hr⟩
theorem Wr.zero (w : World) (b o : Nat) (hc : w.cell? ⟨b, o, none⟩ = some (.slice none 0 0)) (hf : w.frozen? ⟨b, o, none⟩ = false) : Wr w b o [] none :=
  ⟨hf, by simp, _, hc, rfl, Row.nil w⟩

theorem stored {w1 : World} {b o : Nat} {v v' : Value} {l : List UInt8} (hc : w1.cell? ⟨b, o, none⟩ = some v) (hf : w1.frozen? ⟨b, o, none⟩ = false) (hr : Row w1 v' l) (hne : v'.ownBlock ≠ some b) :
    Wr (w1.setCell ⟨b, o, none⟩ v') b o l v'.ownBlock := by
  have hk := Keep.set1 w1 ⟨b, o, none⟩ v'
  refine ⟨by rw [World.frozen?_setCell]; exact hf, hne, v', World.cell?_setCell_same w1 _ v' hc, rfl, hr.keep hk ?_⟩
  intro k hk2 hm
  simp at hm
  subst hm
  exact hne hk2

set_option maxHeartbeats 800000 in
theorem put_any (b o : Nat) (l r : List UInt8) (rb : Option Nat) (u : Value) (w : World) (hw : Wr w b o l rb) (hu : Bs w u r) (hn : l.length + r.length ≤ 140737488355328) :
    Calls Tryz.prog 99 #[.pointer (some ⟨b, o, none⟩), u] w fun e w' => e = .returned (.tuple #[]) ∧ ∃ rb', Wr w' b o (l ++ r) rb' ∧ Keep (b :: rb.toList) w w' ∧ Newer w w' rb rb' := by
  obtain ⟨hf, hne, v, hc, rfl, hrow⟩ := hw.ex
  have hb : b < w.heap.size := World.block_lt_of_cell? w _ hc
  go_enter Tryz.func99, Tryz.ntmps99
  go_wp2_with (at_builtin; refine wp_app rfl (.tmp 8) (.tmp 9) 45 45 rfl underS v l rfl hrow u r rfl hu.src hn ?_)
  intro v' w1 h1 h2 h3 h4
  obtain ⟨a9, c9, hv9⟩ := h4
  have hbF : b ∉ v.ownBlock.toList := by
    intro hm
    simp at hm
    exact hne hm
  have k0 := h2.cell' hc hbF
  have e0 := (h2.frozen (p := ⟨b, o, none⟩) hb hbF).trans hf
  have hne' : v'.ownBlock ≠ some b := by
    rcases h3 with h3 | h3
    · rw [h3]; exact hne
    · intro hx
      have := (h3 b hx).1
      omega
  have S := stored k0 e0 h1 hne'
  have HS : Hid (Wr (w1.setCell ⟨b, o, none⟩ v') b o (l ++ r) v'.ownBlock) := S
  have HK : Hid (Keep (b :: v.ownBlock.toList) w (w1.setCell ⟨b, o, none⟩ v')) :=
    (h2.mono (fun x hx => .inl (by simp; right; simpa using hx))).setCell (.inl (by simp)) v'
  have HN : Hid (Newer w (w1.setCell ⟨b, o, none⟩ v') v.ownBlock v'.ownBlock) := by
    rcases h3 with h3 | h3
    · exact .inl h3
    · exact .inr fun k hk => ⟨(h3 k hk).1, by have := (h3 k hk).2; simpa [World.setCell] using this⟩
  subst hv9
  clear S h1 h2 h3 hu hrow
  go_wp2
  go_end0
  exact ⟨rfl, _, HS.out, HK.out, HN.out⟩

set_option maxHeartbeats 800000 in
theorem putText_any (b o : Nat) (l : List UInt8) (s : ByteArray) (rb : Option Nat) (w : World) (hw : Wr w b o l rb) (hn : l.length + s.size ≤ 140737488355328) :
    Calls Tryz.prog 131 #[.pointer (some ⟨b, o, none⟩), .string s] w fun e w' => e = .returned (.tuple #[]) ∧ ∃ rb', Wr w' b o (l ++ s.data.toList) rb' ∧ Keep (b :: rb.toList) w w' ∧ Newer w w' rb rb' := by
  obtain ⟨hf, hne, v, hc, rfl, hrow⟩ := hw.ex
  have hb : b < w.heap.size := World.block_lt_of_cell? w _ hc
  have hsrc : Src Tryz.prog 1 9 (.string s) s.data.toList.length (bv s.data.toList) w := by
    have := Src.ofString (P := Tryz.prog) w Tryz.underlying9 s
    rw [bv_byteCells] at this
    simpa using this
  have hn' : l.length + s.data.toList.length ≤ 140737488355328 := by simpa using hn
  go_enter Tryz.func131, Tryz.ntmps131
  go_wp2_with (at_builtin; refine wp_app rfl (.tmp 8) (.tmp 9) 45 9 rfl underS v l rfl hrow (.string s) s.data.toList rfl hsrc hn' ?_)
  intro v' w1 h1 h2 h3 h4
  obtain ⟨a9, c9, hv9⟩ := h4
  have hbF : b ∉ v.ownBlock.toList := by
    intro hm
    simp at hm
    exact hne hm
  have k0 := h2.cell' hc hbF
  have e0 := (h2.frozen (p := ⟨b, o, none⟩) hb hbF).trans hf
  have hne' : v'.ownBlock ≠ some b := by
    rcases h3 with h3 | h3
    · rw [h3]; exact hne
    · intro hx
      have := (h3 b hx).1
      omega
  have S := stored k0 e0 h1 hne'
  have HS : Hid (Wr (w1.setCell ⟨b, o, none⟩ v') b o (l ++ s.data.toList) v'.ownBlock) := S
  have HK : Hid (Keep (b :: v.ownBlock.toList) w (w1.setCell ⟨b, o, none⟩ v')) :=
    (h2.mono (fun x hx => .inl (by simp; right; simpa using hx))).setCell (.inl (by simp)) v'
  have HN : Hid (Newer w (w1.setCell ⟨b, o, none⟩ v') v.ownBlock v'.ownBlock) := by
    rcases h3 with h3 | h3
    · exact .inl h3
    · exact .inr fun k hk => ⟨(h3 k hk).1, by have := (h3 k hk).2; simpa [World.setCell] using this⟩
  subst hv9
  clear S h1 h2 h3 hrow hsrc
  go_wp2
  go_end0
  exact ⟨rfl, _, HS.out, HK.out, HN.out⟩

theorem Bs.one (w : World) (c : Nat) (hc : c < 256) : Bs (w.alloc (.cells #[.int .u8 (c : Int)] TB)) (.slice (some ⟨w.heap.size, 0, none⟩) 1 1) [c.toUInt8] := by
  refine ⟨some ⟨w.heap.size, 0, none⟩, 1, rfl, by simp, by simp [maxLen], (by intro h; cases h), fun _ => ⟨w.heap.size, 0, rfl, fun j hj => ?_⟩⟩
  have hj0 : j = 0 := by simpa using hj
  subst hj0
  have h1 : (c.toUInt8).toNat = c := by simp; omega
  simp [h1]

theorem Wr.alloc {w : World} {b o : Nat} {l : List UInt8} {rb : Option Nat} (h : Wr w b o l rb) (x : Obj) : Wr (w.alloc x) b o l rb := h.keep (Keep.alloc1 w x) (by simp) (fun _ _ => by simp)

end Go.Proofs.YtncbanpimfhhbaaGreatDoor



/- The short form of a number is written by the loop of putShort. -/
namespace Go.Proofs.YtncbanpimfhhbaaGreatDoor
open Go.RowKit Go.PlainAid Go.Lib

set_option maxHeartbeats 1600000 in
theorem putShort_any (b o : Nat) (l : List UInt8) (rb : Option Nat) (x : Nat) (w : World) (hx : x < 18446744073709551616) (hw : Wr w b o l rb) (hn : l.length + 10 ≤ 140737488355328) :
    Calls Tryz.prog 128 #[.pointer (some ⟨b, o, none⟩), .int .u64 (x : Int)] w fun e w' => e = .returned (.tuple #[]) ∧ ∃ rb', Wr w' b o (l ++ uvarint x) rb' ∧ Keep (b :: rb.toList) w w' ∧ Newer w w' rb rb' := by
  go_enter Tryz.func128, Tryz.ntmps128
  go_wp2
  go_loopw [1] (fun xv wr => ∃ (y : Nat) (p : List UInt8) (r : Option Nat), xv = .int .u64 (y : Int) ∧ y ≤ x ∧ p ++ uvarint y = uvarint x ∧ Wr wr b o (l ++ p) r ∧ Keep (b :: rb.toList) w wr ∧ Newer w wr rb r)
    (fun xv _ => (intOf xv).toNat)
  case atStart => exact ⟨x, [], rb, rfl, Nat.le_refl _, rfl, by simpa using hw, Keep.refl _ _, Newer.refl _ _ _⟩
  case round =>
    obtain ⟨y, p, r, rfl, hyx, hp, hwr, hkr, hnr⟩ := hrel
    have hlen : p.length + (uvarint y).length ≤ 10 := by
      have h1 := uvarint_length64 hx
      rw [← hp, List.length_append] at h1
      exact h1
    have hpos := uvarint_pos y
    by_cases hy : y < 128
    · have hyi : ¬ ((128 : Int) ≤ (y : Int)) := by omega
      go_wp2_with fail
      refine (put_any b o (l ++ p) [y.toUInt8] r _ _ (hwr.alloc _) (Bs.one wr y (by omega)) (by simp; omega)).mono ?_
      rintro e w9 ⟨rfl, r', hw9, hk9, hn9⟩
      rw [uvarint_small hy] at hp
      rw [List.append_assoc, hp] at hw9
      have HK : Hid (Keep (b :: rb.toList) w w9) := (hkr.alloc _).more hk9 (fun z hz => by rcases hnr.foot z hz with h | h; exact .inl h; exact .inr h)
      have HN : Hid (Newer w w9 rb r') := hnr.trans (b := wr) (c := w9) (by
        rcases hn9 with h | h
        · exact .inl h
        · exact .inr fun k hk => ⟨by have := (h k hk).1; simp at this; omega, (h k hk).2⟩) hkr.size (by have := hk9.size; simp at this; omega)
      clear hk9 hn9 hkr hnr hwr
      go_wp2
      go_end0
      exact ⟨rfl, r', hw9, HK.out, HN.out⟩
    · have hyi : ((128 : Int) ≤ (y : Int)) := by omega
      have hor : bits .or .u8 ((y : Int) % 256) 128 = ((y % 128 + 128 : Nat) : Int) := by
        rw [u8_or128_any _ (by omega) (by omega)]
        omega
      go_wp2_with fail
      refine (put_any b o (l ++ p) [(y % 128 + 128).toUInt8] r _ _ (hwr.alloc _) (Bs.one wr (y % 128 + 128) (by omega)) (by simp; omega)).mono ?_
      rintro e w9 ⟨rfl, r', hw9, hk9, hn9⟩
      rw [uvarint_big (by omega)] at hp
      have HP : Hid (p ++ [(y % 128 + 128).toUInt8] ++ uvarint (y / 128) = uvarint x) := by
        rw [List.append_assoc]; exact hp
      have HK : Hid (Keep (b :: rb.toList) w w9) := (hkr.alloc _).more hk9 (fun z hz => by rcases hnr.foot z hz with h | h; exact .inl h; exact .inr h)
      have HN : Hid (Newer w w9 rb r') := hnr.trans (b := wr) (c := w9) (by
        rcases hn9 with h | h
        · exact .inl h
        · exact .inr fun k hk => ⟨by have := (h k hk).1; simp at this; omega, (h k hk).2⟩) hkr.size (by have := hk9.size; simp at this; omega)
      have HW : Hid (Wr w9 b o (l ++ (p ++ [(y % 128 + 128).toUInt8])) r') := by
        rw [← List.append_assoc]; exact hw9
      clear hk9 hn9 hkr hnr hwr hw9 hp
      go_wp2
      go_roundw
      case rel => exact ⟨y / 128, _, r', by go_num, by omega, HP.out, HW.out, HK.out, HN.out⟩
      case measure => simp [intOf]; omega

end Go.Proofs.YtncbanpimfhhbaaGreatDoor


