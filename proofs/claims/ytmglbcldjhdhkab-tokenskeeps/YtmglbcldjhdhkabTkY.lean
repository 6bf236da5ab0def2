/- writeQuoted and printable. -/
import Derived.Test.YtmglbcldjhdhkabTkV
import Derived.Test.YtmglbcldjhdhkabTkI
namespace Go.Proofs.Ytmglbcldjhdhkab
open Go.RowKit Go.PlainAid

theorem shr_tab : ∀ a : Fin 256, (a.val : Int) / 16 = ((a.val / 16 : Nat) : Int) := by decide +kernel
theorem and_tab : ∀ a : Fin 256, bits .and .u8 (a.val : Int) 15 = ((a.val % 16 : Nat) : Int) := by decide +kernel
abbrev litH : ByteArray := ⟨#[48, 49, 50, 51, 52, 53, 54, 55, 56, 57, 97, 98, 99, 100, 101, 102]⟩
theorem lit_dig : ∀ n : Fin 16, litH[n.val]'n.isLt = hexD n.val := by decide
theorem esc_len (c : UInt8) : (escB c).length ≤ 4 := by
  unfold escB
  repeat' split
  all_goals simp
theorem escL_take (s : ByteArray) (k : Nat) (h : k < s.size) : ∃ c, bt s k = (c.toNat : Int) ∧ escL (s.toList.take (k + 1)) = escL (s.toList.take k) ++ escB c := by
  obtain ⟨c, hc, hb⟩ := bt_drop s k h
  refine ⟨c, hb, ?_⟩
  rw [List.take_add, hc]
  simp [escL]
theorem escL_len : ∀ (l : List UInt8), (escL l).length ≤ 4 * l.length
  | [] => by simp [escL]
  | c :: l => by
    have := escL_len l
    have := esc_len c
    simp [escL] at *
    omega

set_option maxRecDepth 1000000 in
set_option maxHeartbeats 1000000 in
theorem writeQuoted_any (B b : Nat) (l : List UInt8) (p v : Value) (s : ByteArray) (w : World) (hb : b < B) (hB : B ≤ w.heap.size) (h : Bd B w b l p v) (hn : l.length + 4 * s.size + 16 ≤ 140737488355328) :
    Calls Try.prog 24 #[.pointer (some ⟨b, 0, none⟩), .string s] w fun e w' => e = .returned (.tuple #[]) ∧ ∃ p' v', Bd B w' b (l ++ quoteL s.toList) p' v' ∧ Wd b v v' w w' := by
  have hgb := get_bt s
  have h' : Hid _ := h
  clear h
  go_enter Try.func24, Try.ntmps24
  go_wp2_with (go_at_call 22; refine (writeByte_any B b l p v 34 w hb hB h'.out (by omega)).mono ?_; rintro e w1 ⟨rfl, p1, v1, b1, k1⟩)
  have hI0 : Hid (∃ p2 v2, Bd B w1 b (l ++ 34 :: escL (s.toList.take 0)) p2 v2 ∧ Wd b v v2 w w1) := ⟨p1, v1, by simpa [escL] using b1, k1⟩
  clear b1 k1 h'
  go_loopw [10] (fun z wr => ∃ (k : Nat), z = .int .i64 (k : Int) ∧ k ≤ s.size ∧ Hid (∃ p2 v2, Bd B wr b (l ++ 34 :: escL (s.toList.take k)) p2 v2 ∧ Wd b v v2 w wr)) (fun z _ => s.size - (intOf z).toNat)
  case atStart => exact ⟨0, rfl, Nat.zero_le _, hI0⟩
  case round =>
    obtain ⟨k, rfl, hk, hI⟩ := hrel
    obtain ⟨p2, v2, hbd, hK1⟩ := hI.out
    have hK : Hid (Wd b v v2 w wr) := hK1
    clear hK1
    have hBr : B ≤ wr.heap.size := Nat.le_trans hB hK.out.keep.size
    have hlen : (l ++ 34 :: escL (s.toList.take k)).length + 8 ≤ 140737488355328 := by
      have := escL_len (s.toList.take k)
      rw [List.length_take, toList_len] at this
      simp
      omega
    by_cases hlt : k < s.size
    · have hlti : (k : Int) < (s.size : Int) := by omega
      obtain ⟨c, hc, hesc⟩ := escL_take s k hlt
      have hcl : c.toNat < 256 := c.toNat_lt
      have hHB : Hid _ := hbd
      have hfin : Hid (∀ w' p' v', Bd B w' b ((l ++ 34 :: escL (s.toList.take k)) ++ escB c) p' v' → Wd b v2 v' wr w' → (∃ p2 v2, Bd B w' b (l ++ 34 :: escL (s.toList.take (k + 1))) p2 v2 ∧ Wd b v v2 w w')) := fun w' p' v' hx hy => ⟨p', v', by rw [hesc]; simpa using hx, hK.out.trans hy⟩
      generalize hL : l ++ 34 :: escL (s.toList.take k) = L at hHB hlen hfin
      have hgc : ((s[k]'hlt).toNat : Int) = (c.toNat : Int) := (hgb k hlt).trans hc
      have hBd : Hid (Bd B wr b L p2 v2) := hHB.out
      clear hgb hc hbd hI hesc
      by_cases q1 : c = 34 ∨ c = 92
      · have he : escB c = [92, c] := by unfold escB; rw [if_pos q1]
        rw [he] at hfin
        have hq : ((c.toNat : Int) = 34) ∨ ((c.toNat : Int) = 92) := by rcases q1 with rfl | rfl; exact .inl rfl; exact .inr rfl
        clear q1 he
        rcases hq with hq | hq
        all_goals
          go_wp2_with fail
          refine (writeByte_any B b L p2 v2 92 wr hb hBr hBd.out (by omega)).mono ?_
          rintro e w3 ⟨rfl, p3, v3, b3, k3⟩
          have hb3 : Hid _ := b3
          have hk3 : Hid _ := k3
          clear b3 k3
          go_wp2_with fail
          rw [← hq]
          refine (writeByte_any B b _ p3 v3 c w3 hb (Nat.le_trans hBr hk3.out.keep.size) hb3.out (by simp; omega)).mono ?_
          rintro e w4 ⟨rfl, p4, v4, b4, k4⟩
          have hx : Hid _ := hfin.out w4 p4 v4 (by simpa using b4) (hk3.out.trans k4)
          clear b4 k4
          go_wp2
          go_roundw
          case rel => exact ⟨k + 1, by go_num, by omega, hx⟩
          case measure => simp [intOf]; omega
      have n1 : ((c.toNat : Int) == 34) = false := by simpa using fun e : (c.toNat : Int) = 34 => q1 (.inl (by apply UInt8.toNat_inj.1; show c.toNat = 34; omega))
      have n2 : ((c.toNat : Int) == 92) = false := by simpa using fun e : (c.toNat : Int) = 92 => q1 (.inr (by apply UInt8.toNat_inj.1; show c.toNat = 92; omega))
      by_cases q2 : c = 10
      · have he : escB c = [92, 110] := by subst q2; rfl
        rw [he] at hfin
        have hq : (c.toNat : Int) = 10 := by subst q2; rfl
        clear q1 q2 he
        go_wp2_with fail
        refine (writeString_any B b L p2 v2 ⟨#[92, 110]⟩ wr hb hBr hBd.out (by show _ + 2 ≤ _; omega)).mono ?_
        rintro e w3 ⟨rfl, p3, v3, b3, k3⟩
        rw [show (⟨#[92, 110]⟩ : ByteArray).toList = [92, 110] from ba_toList [92, 110]] at b3
        have hx : Hid _ := hfin.out w3 p3 v3 b3 k3
        clear b3 k3
        go_wp2
        go_roundw
        case rel => exact ⟨k + 1, by go_num, by omega, hx⟩
        case measure => simp [intOf]; omega
      have n3 : ((c.toNat : Int) == 10) = false := by simpa using fun e : (c.toNat : Int) = 10 => q2 (by apply UInt8.toNat_inj.1; show c.toNat = 10; omega)
      by_cases q3 : c.toNat < 32 ∨ 126 < c.toNat
      · have he : escB c = [92, 120, hexD (c.toNat / 16), hexD (c.toNat % 16)] := by unfold escB; rw [if_neg q1, if_neg q2, if_pos q3]
        rw [he] at hfin
        have hq : ((c.toNat : Int) < 32) ∨ (¬ ((c.toNat : Int) < 32) ∧ (126 : Int) < (c.toNat : Int)) := by omega
        clear q1 q2 q3 he
        rcases hq with hq | ⟨hq, hq2⟩
        all_goals
          go_wp2_with fail
          refine (writeString_any B b L p2 v2 ⟨#[92, 120]⟩ wr hb hBr hBd.out (by show _ + 2 ≤ _; omega)).mono ?_
          rintro e w3 ⟨rfl, p3, v3, b3, k3⟩
          rw [show (⟨#[92, 120]⟩ : ByteArray).toList = [92, 120] from ba_toList [92, 120]] at b3
          have hb3 : Hid (Bd B w3 b (L ++ [92, 120]) p3 v3) := b3
          have hk3 : Hid _ := k3
          clear b3 k3
          have hand : bits .and .u8 (c.toNat : Int) 15 = ((c.toNat % 16 : Nat) : Int) := and_tab ⟨c.toNat, hcl⟩
          have hm1 : ((c.toNat % 16 : Nat) : Int) < 16 := by omega
          go_wp2_with fail
          refine (writeByte_any B b _ p3 v3 _ w3 hb (Nat.le_trans hBr hk3.out.keep.size) hb3.out (by simp; omega)).mono ?_
          rintro e w4 ⟨rfl, p4, v4, b4, k4⟩
          rw [lit_dig ⟨c.toNat / 16, by omega⟩] at b4
          have hb4 : Hid _ := b4
          have hk4 : Hid _ := hk3.out.trans k4
          clear b4 k4
          go_wp2_with fail
          refine (writeByte_any B b _ p4 v4 _ w4 hb (Nat.le_trans hBr hk4.out.keep.size) hb4.out (by simp; omega)).mono ?_
          rintro e w5 ⟨rfl, p5, v5, b5, k5⟩
          rw [lit_dig ⟨c.toNat % 16, by omega⟩] at b5
          have hx : Hid _ := hfin.out w5 p5 v5 (by simpa using b5) (hk4.out.trans k5)
          clear b5 k5
          go_wp2
          go_roundw
          case rel => exact ⟨k + 1, by go_num, by omega, hx⟩
          case measure => simp [intOf]; omega
      · have he : escB c = [c] := by unfold escB; rw [if_neg q1, if_neg q2, if_neg q3]
        rw [he] at hfin
        have n4 : ¬ ((c.toNat : Int) < 32) := by omega
        have n5 : ¬ ((126 : Int) < (c.toNat : Int)) := by omega
        clear q1 q2 q3 he
        go_wp2_with fail
        refine (writeByte_any B b L p2 v2 c wr hb hBr hBd.out (by omega)).mono ?_
        rintro e w3 ⟨rfl, p3, v3, b3, k3⟩
        have hx : Hid _ := hfin.out w3 p3 v3 b3 k3
        clear b3 k3
        go_wp2
        go_roundw
        case rel => exact ⟨k + 1, by go_num, by omega, hx⟩
        case measure => simp [intOf]; omega
    · have hbd' : Hid (Bd B wr b (l ++ 34 :: escL s.toList) p2 v2) := by
        rw [List.take_of_length_le (by rw [toList_len]; omega)] at hbd
        exact hbd
      rw [List.take_of_length_le (by rw [toList_len]; omega)] at hlen
      clear hbd hI
      go_wp2_with fail
      refine (writeByte_any B b _ p2 v2 34 wr hb hBr hbd'.out (by omega)).mono ?_
      rintro e w3 ⟨rfl, p3, v3, b3, k3⟩
      have hx : Hid (Bd B w3 b (l ++ quoteL s.toList) p3 v3) := by
        show Bd B w3 b (l ++ quoteL s.toList) p3 v3
        unfold quoteL
        simpa using b3
      have hkk : Hid _ := hK.out.trans k3
      clear b3 k3
      go_wp2
      go_end0
      exact ⟨rfl, p3, v3, hx.out, hkk.out⟩

set_option maxRecDepth 1000000 in
set_option maxHeartbeats 1000000 in
theorem printable_any (t : TokD) (w : World) (hs : t.text.length ≤ 140737488355327) :
    Calls Try.prog 21 #[.agg #[.int .i64 t.kind, .string (ba t.text), .int .i64 t.line, .int .i64 t.col]] w fun e w' => e = .returned (.bool (printB t)) ∧ Keep [] w w' := by
  obtain ⟨tk, tt, tl, tc⟩ := t
  simp only at hs ⊢
  have hpc : Hid (∀ w, Calls Try.prog 17 #[.string (ba tt)] w fun e w' => e = .returned (.agg #[.int .i64 (pieceL tt).kind, .string (ba (pieceL tt).text), .int .i64 ((pieceL tt).size : Int)]) ∧ Keep [] w w') := fun w => by
    have := piece_any (ba tt) w (by rw [ba_size]; exact hs)
    rwa [ba_toList] at this
  have hsz := ba_size tt
  have hB : Hid (printB ⟨tk, tt, tl, tc⟩ = if tk = 1 ∨ tk = 2 ∨ tk = 3 ∨ tk = 4 ∨ tk = 6 then decide ((pieceL tt).kind = tk) && decide ((pieceL tt).size = tt.length) else decide (tk = 5)) := rfl
  generalize printB ⟨tk, tt, tl, tc⟩ = z at hB ⊢
  by_cases hk : tk = 1 ∨ tk = 2 ∨ tk = 3 ∨ tk = 4 ∨ tk = 6
  · rw [if_pos hk] at hB
    generalize pieceL tt = f at hpc hB
    obtain ⟨fk, ft, fs⟩ := f
    simp only at hpc hB
    have hB2 : Hid (z = ((fk == tk) && ((fs : Int) == (tt.length : Int)))) := by
      show _ = _
      rw [hB.out]
      have e : (decide (fs = tt.length)) = ((fs : Int) == (tt.length : Int)) := by
        by_cases h : fs = tt.length
        · subst h; simp
        · have h2 : ¬ ((fs : Int) = (tt.length : Int)) := by omega
          simp [h, h2]
      rw [e]
      rfl
    clear hB
    rcases hk with rfl | rfl | rfl | rfl | rfl
    · by_cases hq : fk = 1
      · subst hq
        go_enter Try.func21, Try.ntmps21
        go_wp2_with (go_at_call 17; refine (hpc.out _).mono ?_; rintro e w1 ⟨rfl, k1⟩; have hbx := new_kept k1 (by simp); have d0 := fun O => (box_cell ((Below.heap_alloc w1 O _ (Array.getElem?_eq_some_iff.1 hbx).1).trans hbx) 0).1; have d1 := fun O => (box_cell ((Below.heap_alloc w1 O _ (Array.getElem?_eq_some_iff.1 hbx).1).trans hbx) 1).1; simp only [List.getElem?_toArray, List.getElem?_cons_zero, List.getElem?_cons_succ] at d0 d1)
        go_ret
        exact ⟨by rw [hB2.out]; rfl, ((Keep.alloc1 w _).trans' k1).alloc _⟩
      · have hz : Hid (z = false) := by show _ = _; rw [hB2.out, show (fk == 1) = false by simpa using hq]; rfl
        go_enter Try.func21, Try.ntmps21
        go_wp2_with (go_at_call 17; refine (hpc.out _).mono ?_; rintro e w1 ⟨rfl, k1⟩; have hbx := new_kept k1 (by simp); have d0 := fun O => (box_cell ((Below.heap_alloc w1 O _ (Array.getElem?_eq_some_iff.1 hbx).1).trans hbx) 0).1; have d1 := fun O => (box_cell ((Below.heap_alloc w1 O _ (Array.getElem?_eq_some_iff.1 hbx).1).trans hbx) 1).1; simp only [List.getElem?_toArray, List.getElem?_cons_zero, List.getElem?_cons_succ] at d0 d1)
        go_ret
        exact ⟨by rw [hz.out]; rfl, ((Keep.alloc1 w _).trans' k1).alloc _⟩
    · by_cases hq : fk = 2
      · subst hq
        go_enter Try.func21, Try.ntmps21
        go_wp2_with (go_at_call 17; refine (hpc.out _).mono ?_; rintro e w1 ⟨rfl, k1⟩; have hbx := new_kept k1 (by simp); have d0 := fun O => (box_cell ((Below.heap_alloc w1 O _ (Array.getElem?_eq_some_iff.1 hbx).1).trans hbx) 0).1; have d1 := fun O => (box_cell ((Below.heap_alloc w1 O _ (Array.getElem?_eq_some_iff.1 hbx).1).trans hbx) 1).1; simp only [List.getElem?_toArray, List.getElem?_cons_zero, List.getElem?_cons_succ] at d0 d1)
        go_ret
        exact ⟨by rw [hB2.out]; rfl, ((Keep.alloc1 w _).trans' k1).alloc _⟩
      · have hz : Hid (z = false) := by show _ = _; rw [hB2.out, show (fk == 2) = false by simpa using hq]; rfl
        go_enter Try.func21, Try.ntmps21
        go_wp2_with (go_at_call 17; refine (hpc.out _).mono ?_; rintro e w1 ⟨rfl, k1⟩; have hbx := new_kept k1 (by simp); have d0 := fun O => (box_cell ((Below.heap_alloc w1 O _ (Array.getElem?_eq_some_iff.1 hbx).1).trans hbx) 0).1; have d1 := fun O => (box_cell ((Below.heap_alloc w1 O _ (Array.getElem?_eq_some_iff.1 hbx).1).trans hbx) 1).1; simp only [List.getElem?_toArray, List.getElem?_cons_zero, List.getElem?_cons_succ] at d0 d1)
        go_ret
        exact ⟨by rw [hz.out]; rfl, ((Keep.alloc1 w _).trans' k1).alloc _⟩
    · by_cases hq : fk = 3
      · subst hq
        go_enter Try.func21, Try.ntmps21
        go_wp2_with (go_at_call 17; refine (hpc.out _).mono ?_; rintro e w1 ⟨rfl, k1⟩; have hbx := new_kept k1 (by simp); have d0 := fun O => (box_cell ((Below.heap_alloc w1 O _ (Array.getElem?_eq_some_iff.1 hbx).1).trans hbx) 0).1; have d1 := fun O => (box_cell ((Below.heap_alloc w1 O _ (Array.getElem?_eq_some_iff.1 hbx).1).trans hbx) 1).1; simp only [List.getElem?_toArray, List.getElem?_cons_zero, List.getElem?_cons_succ] at d0 d1)
        go_ret
        exact ⟨by rw [hB2.out]; rfl, ((Keep.alloc1 w _).trans' k1).alloc _⟩
      · have hz : Hid (z = false) := by show _ = _; rw [hB2.out, show (fk == 3) = false by simpa using hq]; rfl
        go_enter Try.func21, Try.ntmps21
        go_wp2_with (go_at_call 17; refine (hpc.out _).mono ?_; rintro e w1 ⟨rfl, k1⟩; have hbx := new_kept k1 (by simp); have d0 := fun O => (box_cell ((Below.heap_alloc w1 O _ (Array.getElem?_eq_some_iff.1 hbx).1).trans hbx) 0).1; have d1 := fun O => (box_cell ((Below.heap_alloc w1 O _ (Array.getElem?_eq_some_iff.1 hbx).1).trans hbx) 1).1; simp only [List.getElem?_toArray, List.getElem?_cons_zero, List.getElem?_cons_succ] at d0 d1)
        go_ret
        exact ⟨by rw [hz.out]; rfl, ((Keep.alloc1 w _).trans' k1).alloc _⟩
    · by_cases hq : fk = 4
      · subst hq
        go_enter Try.func21, Try.ntmps21
        go_wp2_with (go_at_call 17; refine (hpc.out _).mono ?_; rintro e w1 ⟨rfl, k1⟩; have hbx := new_kept k1 (by simp); have d0 := fun O => (box_cell ((Below.heap_alloc w1 O _ (Array.getElem?_eq_some_iff.1 hbx).1).trans hbx) 0).1; have d1 := fun O => (box_cell ((Below.heap_alloc w1 O _ (Array.getElem?_eq_some_iff.1 hbx).1).trans hbx) 1).1; simp only [List.getElem?_toArray, List.getElem?_cons_zero, List.getElem?_cons_succ] at d0 d1)
        go_ret
        exact ⟨by rw [hB2.out]; rfl, ((Keep.alloc1 w _).trans' k1).alloc _⟩
      · have hz : Hid (z = false) := by show _ = _; rw [hB2.out, show (fk == 4) = false by simpa using hq]; rfl
        go_enter Try.func21, Try.ntmps21
        go_wp2_with (go_at_call 17; refine (hpc.out _).mono ?_; rintro e w1 ⟨rfl, k1⟩; have hbx := new_kept k1 (by simp); have d0 := fun O => (box_cell ((Below.heap_alloc w1 O _ (Array.getElem?_eq_some_iff.1 hbx).1).trans hbx) 0).1; have d1 := fun O => (box_cell ((Below.heap_alloc w1 O _ (Array.getElem?_eq_some_iff.1 hbx).1).trans hbx) 1).1; simp only [List.getElem?_toArray, List.getElem?_cons_zero, List.getElem?_cons_succ] at d0 d1)
        go_ret
        exact ⟨by rw [hz.out]; rfl, ((Keep.alloc1 w _).trans' k1).alloc _⟩
    · by_cases hq : fk = 6
      · subst hq
        go_enter Try.func21, Try.ntmps21
        go_wp2_with (go_at_call 17; refine (hpc.out _).mono ?_; rintro e w1 ⟨rfl, k1⟩; have hbx := new_kept k1 (by simp); have d0 := fun O => (box_cell ((Below.heap_alloc w1 O _ (Array.getElem?_eq_some_iff.1 hbx).1).trans hbx) 0).1; have d1 := fun O => (box_cell ((Below.heap_alloc w1 O _ (Array.getElem?_eq_some_iff.1 hbx).1).trans hbx) 1).1; simp only [List.getElem?_toArray, List.getElem?_cons_zero, List.getElem?_cons_succ] at d0 d1)
        go_ret
        exact ⟨by rw [hB2.out]; rfl, ((Keep.alloc1 w _).trans' k1).alloc _⟩
      · have hz : Hid (z = false) := by show _ = _; rw [hB2.out, show (fk == 6) = false by simpa using hq]; rfl
        go_enter Try.func21, Try.ntmps21
        go_wp2_with (go_at_call 17; refine (hpc.out _).mono ?_; rintro e w1 ⟨rfl, k1⟩; have hbx := new_kept k1 (by simp); have d0 := fun O => (box_cell ((Below.heap_alloc w1 O _ (Array.getElem?_eq_some_iff.1 hbx).1).trans hbx) 0).1; have d1 := fun O => (box_cell ((Below.heap_alloc w1 O _ (Array.getElem?_eq_some_iff.1 hbx).1).trans hbx) 1).1; simp only [List.getElem?_toArray, List.getElem?_cons_zero, List.getElem?_cons_succ] at d0 d1)
        go_ret
        exact ⟨by rw [hz.out]; rfl, ((Keep.alloc1 w _).trans' k1).alloc _⟩
  · rw [if_neg hk] at hB
    have e1 : (tk == 1) = false := by simp; omega
    have e2 : (tk == 2) = false := by simp; omega
    have e3 : (tk == 3) = false := by simp; omega
    have e4 : (tk == 4) = false := by simp; omega
    have e6 : (tk == 6) = false := by simp; omega
    have hB5 : Hid (z = (tk == 5)) := by show _ = _; rw [hB.out]; rfl
    clear hk hB
    go_enter Try.func21, Try.ntmps21
    go_wp2
    go_ret
    exact ⟨by rw [hB5.out]; rfl, Keep.alloc1 w _⟩
end Go.Proofs.Ytmglbcldjhdhkab

