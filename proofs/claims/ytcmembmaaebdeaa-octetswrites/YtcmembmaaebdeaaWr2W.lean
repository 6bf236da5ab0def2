/- A Writer beside another one in the same array: what each method writes, the neighbour being left as it was. -/
import Derived.Test.YtcmembmaaebdeaaPutW
import Derived.Deep.RegionWith
namespace Go.Proofs.Ytcmembmaaebdeaa
open Go.RowKit Go.PlainAid Go.Lib

/-- a Writer at b, o; in the same block, at oc, lies uc -/
structure Wr2 (oc : Nat) (uc : Value) (w : World) (b o : Nat) (l : List UInt8) (rb : Option Nat) : Prop where
  ex : w.frozen? ⟨b, o, none⟩ = false ∧ rb ≠ some b ∧ ∃ v, w.cell? ⟨b, o, none⟩ = some v ∧ v.ownBlock = rb ∧ Row w v l
  cn : oc ≠ o
  cc : w.cell? ⟨b, oc, none⟩ = some uc
  cf : w.frozen? ⟨b, oc, none⟩ = false

theorem Wr2.wr {oc : Nat} {uc : Value} {w : World} {b o : Nat} {l : List UInt8} {rb : Option Nat} (h : Wr2 oc uc w b o l rb) : Wr w b o l rb := ⟨h.ex⟩
theorem Wr2.keep {oc : Nat} {uc : Value} {F : List Nat} {w w' : World} {b o : Nat} {l : List UInt8} {rb : Option Nat} (h : Wr2 oc uc w b o l rb) (k : Keep F w w') (hb : b ∉ F) (hr : ∀ x, rb = some x → x ∉ F) : Wr2 oc uc w' b o l rb :=
  ⟨(h.wr.keep k hb hr).ex, h.cn, k.cell' h.cc hb, (k.frozen (p := ⟨b, oc, none⟩) (World.block_lt_of_cell? w _ h.cc) hb).trans h.cf⟩
theorem Wr2.alloc {oc : Nat} {uc : Value} {w : World} {b o : Nat} {l : List UInt8} {rb : Option Nat} (h : Wr2 oc uc w b o l rb) (x : Obj) : Wr2 oc uc (w.alloc x) b o l rb := h.keep (Keep.alloc1 w x) (by simp) (fun _ _ => by simp)
theorem stored2 {oc : Nat} {uc : Value} {w1 : World} {b o : Nat} {v v' : Value} {l : List UInt8} (hc : w1.cell? ⟨b, o, none⟩ = some v) (hf : w1.frozen? ⟨b, o, none⟩ = false) (hr : Row w1 v' l) (hne : v'.ownBlock ≠ some b)
    (hcn : oc ≠ o) (hcc : w1.cell? ⟨b, oc, none⟩ = some uc) (hcf : w1.frozen? ⟨b, oc, none⟩ = false) :
    Wr2 oc uc (w1.setCell ⟨b, o, none⟩ v') b o l v'.ownBlock :=
  ⟨(stored hc hf hr hne).ex, hcn, by rw [World.cell?_setCell_other _ _ _ _ (by simp)]; exact hcc, by rw [World.frozen?_setCell]; exact hcf⟩

set_option maxHeartbeats 800000 in
theorem put2_any {oc : Nat} {uc : Value} (b o : Nat) (l r : List UInt8) (rb : Option Nat) (u : Value) (w : World) (hw : Wr2 oc uc w b o l rb) (hu : Bs w u r) (hn : l.length + r.length ≤ 140737488355328) :
    Calls Try.prog 76 #[.pointer (some ⟨b, o, none⟩), u] w fun e w' => e = .returned (.tuple #[]) ∧ ∃ rb', Wr2 oc uc w' b o (l ++ r) rb' ∧ Keep (b :: rb.toList) w w' ∧ Newer w w' rb rb' := by
  obtain ⟨hf, hne, v, hc, rfl, hrow⟩ := hw.ex
  have hb : b < w.heap.size := World.block_lt_of_cell? w _ hc
  go_enter Try.func76, Try.ntmps76
  go_wp2_with (at_builtin; refine wp_app rfl (.tmp 8) (.tmp 9) 24 24 rfl underS v l rfl hrow u r rfl hu.src hn ?_)
  intro v' w1 h1 h2 h3 h4
  obtain ⟨a9, c9, hv9⟩ := h4
  have hbF : b ∉ v.ownBlock.toList := by
    intro hm
    simp at hm
    exact hne hm
  have k0 := h2.cell' hc hbF
  have e0 := (h2.frozen (p := ⟨b, o, none⟩) hb hbF).trans hf
  have hne' : v'.ownBlock ≠ some b := by
    rcases h3 with h3 | h3
    · rw [h3]; exact hne
    · intro hx
      have := (h3 b hx).1
      omega
  have S := stored2 k0 e0 h1 hne' (hw.cn) (h2.cell' hw.cc hbF) ((h2.frozen (p := ⟨b, oc, none⟩) hb hbF).trans hw.cf)
  have HS : Hid (Wr2 oc uc (w1.setCell ⟨b, o, none⟩ v') b o (l ++ r) v'.ownBlock) := S
  have HK : Hid (Keep (b :: v.ownBlock.toList) w (w1.setCell ⟨b, o, none⟩ v')) :=
    (h2.mono (fun x hx => .inl (by simp; right; simpa using hx))).setCell (.inl (by simp)) v'
  have HN : Hid (Newer w (w1.setCell ⟨b, o, none⟩ v') v.ownBlock v'.ownBlock) := by
    rcases h3 with h3 | h3
    · exact .inl h3
    · exact .inr fun k hk => ⟨(h3 k hk).1, by have := (h3 k hk).2; simpa [World.setCell] using this⟩
  subst hv9
  clear S h1 h2 h3 hu hrow
  go_wp2
  go_end0
  exact ⟨rfl, _, HS.out, HK.out, HN.out⟩

set_option maxHeartbeats 800000 in
theorem putText2_any {oc : Nat} {uc : Value} (b o : Nat) (l : List UInt8) (s : ByteArray) (rb : Option Nat) (w : World) (hw : Wr2 oc uc w b o l rb) (hn : l.length + s.size ≤ 140737488355328) :
    Calls Try.prog 82 #[.pointer (some ⟨b, o, none⟩), .string s] w fun e w' => e = .returned (.tuple #[]) ∧ ∃ rb', Wr2 oc uc w' b o (l ++ s.data.toList) rb' ∧ Keep (b :: rb.toList) w w' ∧ Newer w w' rb rb' := by
  obtain ⟨hf, hne, v, hc, rfl, hrow⟩ := hw.ex
  have hb : b < w.heap.size := World.block_lt_of_cell? w _ hc
  have hsrc : Src Try.prog 1 9 (.string s) s.data.toList.length (bv s.data.toList) w := by
    have := Src.ofString (P := Try.prog) w Try.underlying9 s
    rw [bv_byteCells] at this
    simpa using this
  have hn' : l.length + s.data.toList.length ≤ 140737488355328 := by simpa using hn
  go_enter Try.func82, Try.ntmps82
  go_wp2_with (at_builtin; refine wp_app rfl (.tmp 8) (.tmp 9) 24 9 rfl underS v l rfl hrow (.string s) s.data.toList rfl hsrc hn' ?_)
  intro v' w1 h1 h2 h3 h4
  obtain ⟨a9, c9, hv9⟩ := h4
  have hbF : b ∉ v.ownBlock.toList := by
    intro hm
    simp at hm
    exact hne hm
  have k0 := h2.cell' hc hbF
  have e0 := (h2.frozen (p := ⟨b, o, none⟩) hb hbF).trans hf
  have hne' : v'.ownBlock ≠ some b := by
    rcases h3 with h3 | h3
    · rw [h3]; exact hne
    · intro hx
      have := (h3 b hx).1
      omega
  have S := stored2 k0 e0 h1 hne' (hw.cn) (h2.cell' hw.cc hbF) ((h2.frozen (p := ⟨b, oc, none⟩) hb hbF).trans hw.cf)
  have HS : Hid (Wr2 oc uc (w1.setCell ⟨b, o, none⟩ v') b o (l ++ s.data.toList) v'.ownBlock) := S
  have HK : Hid (Keep (b :: v.ownBlock.toList) w (w1.setCell ⟨b, o, none⟩ v')) :=
    (h2.mono (fun x hx => .inl (by simp; right; simpa using hx))).setCell (.inl (by simp)) v'
  have HN : Hid (Newer w (w1.setCell ⟨b, o, none⟩ v') v.ownBlock v'.ownBlock) := by
    rcases h3 with h3 | h3
    · exact .inl h3
    · exact .inr fun k hk => ⟨(h3 k hk).1, by have := (h3 k hk).2; simpa [World.setCell] using this⟩
  subst hv9
  clear S h1 h2 h3 hrow hsrc
  go_wp2
  go_end0
  exact ⟨rfl, _, HS.out, HK.out, HN.out⟩

set_option maxHeartbeats 1600000 in
theorem putShort2_any {oc : Nat} {uc : Value} (b o : Nat) (l : List UInt8) (rb : Option Nat) (x : Nat) (w : World) (hx : x < 18446744073709551616) (hw : Wr2 oc uc w b o l rb) (hn : l.length + 10 ≤ 140737488355328) :
    Calls Try.prog 78 #[.pointer (some ⟨b, o, none⟩), .int .u64 (x : Int)] w fun e w' => e = .returned (.tuple #[]) ∧ ∃ rb', Wr2 oc uc w' b o (l ++ uvarint x) rb' ∧ Keep (b :: rb.toList) w w' ∧ Newer w w' rb rb' := by
  go_enter Try.func78, Try.ntmps78
  go_wp2
  go_loopw [1] (fun xv wr => ∃ (y : Nat) (p : List UInt8) (r : Option Nat), xv = .int .u64 (y : Int) ∧ y ≤ x ∧ p ++ uvarint y = uvarint x ∧ Wr2 oc uc wr b o (l ++ p) r ∧ Keep (b :: rb.toList) w wr ∧ Newer w wr rb r)
    (fun xv _ => (intOf xv).toNat)
  case atStart => exact ⟨x, [], rb, rfl, Nat.le_refl _, rfl, by simpa using hw, Keep.refl _ _, Newer.refl _ _ _⟩
  case round =>
    obtain ⟨y, p, r, rfl, hyx, hp, hwr, hkr, hnr⟩ := hrel
    have hlen : p.length + (uvarint y).length ≤ 10 := by
      have h1 := uvarint_length64 hx
      rw [← hp, List.length_append] at h1
      exact h1
    have hpos := uvarint_pos y
    by_cases hy : y < 128
    · have hyi : ¬ ((128 : Int) ≤ (y : Int)) := by omega
      go_wp2_with fail
      refine (put2_any b o (l ++ p) [y.toUInt8] r _ _ (hwr.alloc _) (Bs.one wr y (by omega)) (by simp; omega)).mono ?_
      rintro e w9 ⟨rfl, r', hw9, hk9, hn9⟩
      rw [uvarint_small hy] at hp
      rw [List.append_assoc, hp] at hw9
      have HK : Hid (Keep (b :: rb.toList) w w9) := (hkr.alloc _).more hk9 (fun z hz => by rcases hnr.foot z hz with h | h; exact .inl h; exact .inr h)
      have HN : Hid (Newer w w9 rb r') := hnr.trans (b := wr) (c := w9) (by
        rcases hn9 with h | h
        · exact .inl h
        · exact .inr fun k hk => ⟨by have := (h k hk).1; simp at this; omega, (h k hk).2⟩) hkr.size (by have := hk9.size; simp at this; omega)
      clear hk9 hn9 hkr hnr hwr
      go_wp2
      go_end0
      exact ⟨rfl, r', hw9, HK.out, HN.out⟩
    · have hyi : ((128 : Int) ≤ (y : Int)) := by omega
      have hor : bits .or .u8 ((y : Int) % 256) 128 = ((y % 128 + 128 : Nat) : Int) := by
        rw [u8_or128_any _ (by omega) (by omega)]
        omega
      go_wp2_with fail
      refine (put2_any b o (l ++ p) [(y % 128 + 128).toUInt8] r _ _ (hwr.alloc _) (Bs.one wr (y % 128 + 128) (by omega)) (by simp; omega)).mono ?_
      rintro e w9 ⟨rfl, r', hw9, hk9, hn9⟩
      rw [uvarint_big (by omega)] at hp
      have HP : Hid (p ++ [(y % 128 + 128).toUInt8] ++ uvarint (y / 128) = uvarint x) := by
        rw [List.append_assoc]; exact hp
      have HK : Hid (Keep (b :: rb.toList) w w9) := (hkr.alloc _).more hk9 (fun z hz => by rcases hnr.foot z hz with h | h; exact .inl h; exact .inr h)
      have HN : Hid (Newer w w9 rb r') := hnr.trans (b := wr) (c := w9) (by
        rcases hn9 with h | h
        · exact .inl h
        · exact .inr fun k hk => ⟨by have := (h k hk).1; simp at this; omega, (h k hk).2⟩) hkr.size (by have := hk9.size; simp at this; omega)
      have HW : Hid (Wr2 oc uc w9 b o (l ++ (p ++ [(y % 128 + 128).toUInt8])) r') := by
        rw [← List.append_assoc]; exact hw9
      clear hk9 hn9 hkr hnr hwr hw9 hp
      go_wp2
      go_roundw
      case rel => exact ⟨y / 128, _, r', by go_num, by omega, HP.out, HW.out, HK.out, HN.out⟩
      case measure => simp [intOf]; omega

/-- behind it the Writer has r more -/
def Wrote2 (oc : Nat) (uc : Value) (w w' : World) (b o : Nat) (l r : List UInt8) (rb : Option Nat) : Prop := ∃ rb', Wr2 oc uc w' b o (l ++ r) rb' ∧ Keep (b :: rb.toList) w w' ∧ Newer w w' rb rb'

theorem Wrote2.after {oc : Nat} {uc : Value} {w0 w w' : World} {b o : Nat} {l r : List UInt8} {rb : Option Nat} (h : Wrote2 oc uc w w' b o l r rb) (k : Keep [] w0 w) : Wrote2 oc uc w0 w' b o l r rb := by
  obtain ⟨rb', h1, h2, h3⟩ := h
  refine ⟨rb', h1, k.trans h2 (fun _ h => by cases h) (fun x hx => .inl hx), ?_⟩
  rcases h3 with h3 | h3
  · exact .inl h3
  · exact .inr fun x hx => ⟨Nat.le_trans k.size (h3 x hx).1, (h3 x hx).2⟩

set_option maxHeartbeats 800000 in
theorem wByte2_any {oc : Nat} {uc : Value} (b o : Nat) (l : List UInt8) (rb : Option Nat) (c : Nat) (hc : c < 256) (w : World) (hw : Wr2 oc uc w b o l rb) (hn : l.length + 1 ≤ 140737488355328) :
    Calls Try.prog 44 #[.pointer (some ⟨b, o, none⟩), .int .u8 (c : Int)] w fun e w' => e = .returned (.tuple #[]) ∧ Wrote2 oc uc w w' b o l [c.toUInt8] rb := by
  go_enter Try.func44, Try.ntmps44
  go_wp2_with fail
  refine (put2_any b o l [c.toUInt8] rb _ _ (hw.alloc _) (Bs.one w c hc) (by simpa using hn)).mono ?_
  rintro e w9 ⟨rfl, h9⟩
  have HW : Hid (Wrote2 oc uc w w9 b o l [c.toUInt8] rb) := Wrote2.after (w := w.alloc _) h9 (Keep.alloc1 w _)
  clear h9
  go_wp2
  go_end0
  exact ⟨rfl, HW.out⟩

set_option maxHeartbeats 800000 in
theorem wUint2_any {oc : Nat} {uc : Value} (b o : Nat) (l : List UInt8) (rb : Option Nat) (x : Nat) (hx : x < 18446744073709551616) (w : World) (hw : Wr2 oc uc w b o l rb) (hn : l.length + 10 ≤ 140737488355328) :
    Calls Try.prog 40 #[.pointer (some ⟨b, o, none⟩), .int .u64 (x : Int)] w fun e w' => e = .returned (.tuple #[]) ∧ Wrote2 oc uc w w' b o l (uvarint x) rb := by
  go_enter Try.func40, Try.ntmps40
  go_wp2_with fail
  refine (putShort2_any b o l rb x w hx hw hn).mono ?_
  rintro e w9 ⟨rfl, h9⟩
  have HW : Hid (Wrote2 oc uc w w9 b o l (uvarint x) rb) := h9
  clear h9
  go_wp2
  go_end0
  exact ⟨rfl, HW.out⟩

theorem putShort2_from {oc : Nat} {uc : Value} (b o : Nat) (l : List UInt8) (rb : Option Nat) (x : Nat) (w0 w : World) (hx : x < 18446744073709551616) (hw : Wr2 oc uc w0 b o l rb) (k : Keep [] w0 w) (hn : l.length + 10 ≤ 140737488355328) :
    Calls Try.prog 78 #[.pointer (some ⟨b, o, none⟩), .int .u64 (x : Int)] w fun e w' => e = .returned (.tuple #[]) ∧ Wrote2 oc uc w0 w' b o l (uvarint x) rb := by
  refine (putShort2_any b o l rb x w hx (hw.keep k (by simp) (fun _ _ => by simp)) hn).mono ?_
  rintro e w9 ⟨rfl, h9⟩
  exact ⟨rfl, Wrote2.after (w := w) h9 k⟩

set_option maxHeartbeats 800000 in
theorem wInt2_any {oc : Nat} {uc : Value} (b o : Nat) (l : List UInt8) (rb : Option Nat) (x : Int) (h0 : -9223372036854775808 ≤ x) (h1 : x ≤ 9223372036854775807) (w : World) (hw : Wr2 oc uc w b o l rb) (hn : l.length + 10 ≤ 140737488355328) :
    Calls Try.prog 41 #[.pointer (some ⟨b, o, none⟩), .int .i64 x] w fun e w' => e = .returned (.tuple #[]) ∧ Wrote2 oc uc w w' b o l (uvarint (zigzag x)) rb := by
  have hz := zigzag_lt h0 h1
  go_enter Try.func41, Try.ntmps41
  go_wp2
  go_region_with (first
    | (go_at_call 79; refine (turned_any x h0 h1 _).mono ?_; rintro e w8 ⟨rfl, rfl⟩)
    | (go_at_call 78; refine (putShort2_from b o l rb (zigzag x) w _ hz hw (by repeat (first | exact Keep.refl _ _ | apply Keep.drew | apply Keep.drewN)) hn).mono ?_; rintro e w9 ⟨rfl, h9⟩))
  all_goals
    rename_i h9
    have HW : Hid (Wrote2 oc uc w _ b o l (uvarint (zigzag x)) rb) := h9
    clear h9
    go_wp2
    go_end0
    exact ⟨rfl, HW.out⟩

set_option maxHeartbeats 800000 in
theorem wReal2_any {oc : Nat} {uc : Value} (b o : Nat) (l : List UInt8) (rb : Option Nat) (x : Nat) (hx : x < 4294967296) (w : World) (hw : Wr2 oc uc w b o l rb) (hn : l.length + 4 ≤ 140737488355328) :
    Calls Try.prog 42 #[.pointer (some ⟨b, o, none⟩), .float .f32 x] w fun e w' => e = .returned (.tuple #[]) ∧ Wrote2 oc uc w w' b o l (four (keyN x)) rb := by
  have hk := keyN_lt x hx
  have hkey := key_any x hx w
  generalize keyN x = k at hk hkey ⊢
  go_enter Try.func42, Try.ntmps42
  go_wp2_with fail
  refine hkey.mono ?_
  rintro e w8 ⟨rfl, hw8⟩
  obtain rfl := hw8.symm
  go_wp2_with fail
  have hb4 := Bs.four w k
  have hput := put2_any b o l (four k) rb _ _ (hw.alloc _) hb4 (by simpa [four] using hn)
  have e4 : Obj.cells #[Value.int .u8 ((k : Int) / 16777216), .int .u8 ((k : Int) / 65536 % 256), .int .u8 ((k : Int) / 256 % 256), .int .u8 ((k : Int) % 256)] 5 = Obj.cells #[.int .u8 ((k / 16777216 % 256 : Nat) : Int), .int .u8 ((k / 65536 % 256 : Nat) : Int), .int .u8 ((k / 256 % 256 : Nat) : Int), .int .u8 ((k % 256 : Nat) : Int)] TB := by
    rw [show ((k / 16777216 % 256 : Nat) : Int) = (k : Int) / 16777216 by omega]
    rfl
  rw [e4]
  refine hput.mono ?_
  rintro e w9 ⟨rfl, h9⟩
  have HW : Hid (Wrote2 oc uc w w9 b o l (four k) rb) := Wrote2.after (w := w.alloc _) h9 (Keep.alloc1 w _)
  clear h9 hput hb4
  go_wp2
  go_end0
  exact ⟨rfl, HW.out⟩

set_option maxHeartbeats 800000 in
theorem wText2_any {oc : Nat} {uc : Value} (b o : Nat) (l : List UInt8) (rb : Option Nat) (s : ByteArray) (w : World) (hw : Wr2 oc uc w b o l rb) (hn : l.length + 10 + s.size ≤ 140737488355328) :
    Calls Try.prog 45 #[.pointer (some ⟨b, o, none⟩), .string s] w fun e w' => e = .returned (.tuple #[]) ∧ Wrote2 oc uc w w' b o l (uvarint s.size ++ s.data.toList) rb := by
  have hs : s.size < 18446744073709551616 := by omega
  have hl := uvarint_length64 hs
  go_enter Try.func45, Try.ntmps45
  go_wp2_with fail
  refine (putShort2_any b o l rb s.size w hs hw (by omega)).mono ?_
  rintro e w8 ⟨rfl, r8, h8, k8, n8⟩
  go_wp2_with fail
  refine (putText2_any b o (l ++ uvarint s.size) s r8 w8 h8 (by rw [List.length_append]; omega)).mono ?_
  rintro e w9 ⟨rfl, r9, h9, k9, n9⟩
  have HW : Hid (Wrote2 oc uc w w9 b o l (uvarint s.size ++ s.data.toList) rb) :=
    ⟨r9, by rw [← List.append_assoc]; exact h9, k8.more k9 (fun x hx => n8.foot x hx), n8.trans n9 k8.size k9.size⟩
  clear h9 k9 n9 h8 k8 n8
  go_wp2
  go_end0
  exact ⟨rfl, HW.out⟩

set_option maxHeartbeats 800000 in
theorem wRaw2_any {oc : Nat} {uc : Value} (b o : Nat) (l r : List UInt8) (rb : Option Nat) (u : Value) (w : World) (hw : Wr2 oc uc w b o l rb) (hu : Bs w u r) (hn : l.length + r.length ≤ 140737488355328) :
    Calls Try.prog 38 #[.pointer (some ⟨b, o, none⟩), u] w fun e w' => e = .returned (.tuple #[]) ∧ Wrote2 oc uc w w' b o l r rb := by
  go_enter Try.func38, Try.ntmps38
  go_wp2_with fail
  refine (put2_any b o l r rb u w hw hu hn).mono ?_
  rintro e w9 ⟨rfl, h9⟩
  have HW : Hid (Wrote2 oc uc w w9 b o l r rb) := h9
  clear h9
  go_wp2
  go_end0
  exact ⟨rfl, HW.out⟩

set_option maxRecDepth 1000000 in
set_option maxHeartbeats 6400000 in
theorem write2_any {oc : Nat} {uc : Value} (b o : Nat) (l : List UInt8) (rb : Option Nat) (p : PutD) (hp : p.Ok) (u r : Value) (w : World) (hw : Wr2 oc uc w b o l rb) (hr : Bs w r p.raw) (hn : l.length + p.bulk ≤ 140737488355328) :
    Calls Try.prog 12 #[.pointer (some ⟨b, o, none⟩), p.val u, r] w fun e w' => e = .returned (.tuple #[]) ∧ Wrote2 oc uc w w' b o l p.bytes rb := by
  have hP := pick_any p.kind 6 hp.kind0 hp.kind1 (by omega) (w.alloc (p.blk u))
  rw [p.k_eq] at hP
  have K0 := Keep.alloc1 w (p.blk u)
  have W0 := hw.keep K0 (by simp) (fun _ _ => by simp)
  have R0 := hr.keep K0 (Off.nil _)
  have hk := p.k_lt
  have hc : p.k = 0 ∨ p.k = 1 ∨ p.k = 2 ∨ p.k = 3 ∨ p.k = 4 ∨ p.k = 5 := by omega
  unfold PutD.bulk at hn
  have hbl : p.bytes = p.bytes := rfl
  conv at hbl => rhs; unfold PutD.bytes
  rcases hc with e | e | e | e | e | e <;> simp only [e, reduceIte, Nat.reduceEqDiff] at hbl hP <;> rw [hbl] <;> clear hbl
  · have hC := wByte2_any b o l rb (p.uint % 256) (by omega) _ W0 (by omega)
    have HK : Hid (Keep [] w (w.alloc (p.blk u))) := K0
    clear W0 R0 hw hr K0
    go_enter Try.func12, Try.ntmps12
    go_wp2_with fail
    refine hP.mono ?_
    rintro e1 w1 ⟨rfl, hw1⟩
    obtain rfl := hw1.symm
    clear hP
    go_wp2_with fail
    refine hC.mono ?_
    rintro e2 w2 ⟨rfl, h2⟩
    have HW : Hid (Wrote2 oc uc w w2 b o l _ rb) := Wrote2.after h2 HK.out
    clear h2 hC
    go_wp2
    go_end0
    exact ⟨rfl, HW.out⟩
  · have hC := wUint2_any b o l rb p.uint hp.uint1 _ W0 (by omega)
    have HK : Hid (Keep [] w (w.alloc (p.blk u))) := K0
    clear W0 R0 hw hr K0
    go_enter Try.func12, Try.ntmps12
    go_wp2_with fail
    refine hP.mono ?_
    rintro e1 w1 ⟨rfl, hw1⟩
    obtain rfl := hw1.symm
    clear hP
    go_wp2_with fail
    refine hC.mono ?_
    rintro e2 w2 ⟨rfl, h2⟩
    have HW : Hid (Wrote2 oc uc w w2 b o l _ rb) := Wrote2.after h2 HK.out
    clear h2 hC
    go_wp2
    go_end0
    exact ⟨rfl, HW.out⟩
  · have hC := wInt2_any b o l rb p.int hp.int0 hp.int1 _ W0 (by omega)
    have HK : Hid (Keep [] w (w.alloc (p.blk u))) := K0
    clear W0 R0 hw hr K0
    go_enter Try.func12, Try.ntmps12
    go_wp2_with fail
    refine hP.mono ?_
    rintro e1 w1 ⟨rfl, hw1⟩
    obtain rfl := hw1.symm
    clear hP
    go_wp2_with fail
    refine hC.mono ?_
    rintro e2 w2 ⟨rfl, h2⟩
    have HW : Hid (Wrote2 oc uc w w2 b o l _ rb) := Wrote2.after h2 HK.out
    clear h2 hC
    go_wp2
    go_end0
    exact ⟨rfl, HW.out⟩
  · have hC := wReal2_any b o l rb p.real hp.real1 _ W0 (by omega)
    have HK : Hid (Keep [] w (w.alloc (p.blk u))) := K0
    clear W0 R0 hw hr K0
    go_enter Try.func12, Try.ntmps12
    go_wp2_with fail
    refine hP.mono ?_
    rintro e1 w1 ⟨rfl, hw1⟩
    obtain rfl := hw1.symm
    clear hP
    go_wp2_with fail
    refine hC.mono ?_
    rintro e2 w2 ⟨rfl, h2⟩
    have HW : Hid (Wrote2 oc uc w w2 b o l _ rb) := Wrote2.after h2 HK.out
    clear h2 hC
    go_wp2
    go_end0
    exact ⟨rfl, HW.out⟩
  · have hC := wText2_any b o l rb p.text _ W0 (by omega)
    have HK : Hid (Keep [] w (w.alloc (p.blk u))) := K0
    clear W0 R0 hw hr K0
    go_enter Try.func12, Try.ntmps12
    go_wp2_with fail
    refine hP.mono ?_
    rintro e1 w1 ⟨rfl, hw1⟩
    obtain rfl := hw1.symm
    clear hP
    go_wp2_with fail
    refine hC.mono ?_
    rintro e2 w2 ⟨rfl, h2⟩
    have HW : Hid (Wrote2 oc uc w w2 b o l _ rb) := Wrote2.after h2 HK.out
    clear h2 hC
    go_wp2
    go_end0
    exact ⟨rfl, HW.out⟩
  · have hC := wRaw2_any b o l p.raw rb r _ W0 R0 (by omega)
    have HK : Hid (Keep [] w (w.alloc (p.blk u))) := K0
    clear W0 R0 hw hr K0
    go_enter Try.func12, Try.ntmps12
    go_wp2_with fail
    refine hP.mono ?_
    rintro e1 w1 ⟨rfl, hw1⟩
    obtain rfl := hw1.symm
    clear hP
    go_wp2_with fail
    refine hC.mono ?_
    rintro e2 w2 ⟨rfl, h2⟩
    have HW : Hid (Wrote2 oc uc w w2 b o l _ rb) := Wrote2.after h2 HK.out
    clear h2 hC
    go_wp2
    go_end0
    exact ⟨rfl, HW.out⟩

end Go.Proofs.Ytcmembmaaebdeaa
