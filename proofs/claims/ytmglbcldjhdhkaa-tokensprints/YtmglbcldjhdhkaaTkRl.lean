/- The document's piece. -/
import Derived.Test.YtmglbcldjhdhkaaTkRj

namespace Go.Proofs.Ytmglbcldjhdhkaa
open Go.RowKit Go.PlainAid

theorem box4f {w : World} {b : Nat} {x y z u : Value} {T : TypeId} (h : w.heap[b]? = some (.cells #[x, y, z, u] T (0, 0))) :
    (w.cell? ⟨b, 0, none⟩ = some x ∧ w.cell? ⟨b, 1, none⟩ = some y ∧ w.cell? ⟨b, 2, none⟩ = some z ∧ w.cell? ⟨b, 3, none⟩ = some u) ∧
    (w.frozen? ⟨b, 0, none⟩ = false ∧ w.frozen? ⟨b, 1, none⟩ = false ∧ w.frozen? ⟨b, 2, none⟩ = false ∧ w.frozen? ⟨b, 3, none⟩ = false) :=
  ⟨⟨(box_cell h 0).1, (box_cell h 1).1, (box_cell h 2).1, (box_cell h 3).1⟩, (box_cell h 0).2, (box_cell h 1).2, (box_cell h 2).2, (box_cell h 3).2⟩
abbrev zeroTok : Obj := .cells #[.int .i64 0, .string ByteArray.empty, .int .i64 0, .int .i64 0] 37 (0, 0)
theorem res_words (l : List UInt8) : resL l = wordsL.any (· == l) := by
  have e : ∀ a b : List UInt8, (a == b) = (b == a) := fun a b => by
    rw [Bool.eq_iff_iff, beq_iff_eq, beq_iff_eq]
    exact eq_comm
  unfold resL wordsL
  simp only [List.any_cons, List.any_nil, Bool.or_false]
  rw [e [116, 121, 112, 101] l, e [114, 101, 108, 97, 116, 105, 111, 110] l, e [99, 111, 110, 100] l, e [111, 114] l, e [97, 110, 100] l, e [110, 111, 116] l, e [102, 114, 111, 109] l, e [119, 105, 116, 104] l, e [105, 110] l, e [116, 114, 117, 101] l, e [102, 97, 108, 115, 101] l, e [110, 97, 110] l, e [105, 110, 102] l]
  simp only [Bool.or_assoc]
theorem row_kind (l : List UInt8) (hs : smallB (hd l) = true) (h32 : rowN l ≤ 32) (h1 : 1 ≤ rowN l) : nameL (l.take (rowN l)) = !(wordsL.any (· == l.take (rowN l))) := by
  have ha := (take_nm l).1
  have hlen : (l.take (rowN l)).length = rowN l := by rw [List.length_take]; have := rowN_le l; omega
  have hh : hd (l.take (rowN l)) = hd l := by
    cases l with
    | nil => rfl
    | cons c t =>
      obtain ⟨m, hm⟩ : ∃ m, rowN (c :: t) = m + 1 := ⟨rowN (c :: t) - 1, by omega⟩
      rw [hm]
      rfl
  unfold nameL
  rw [hlen, hh, hs, res_words, decide_eq_true h1, decide_eq_true h32]
  have ha' : ((l.take (rowN l)).all fun c => inNameB (c.toNat : Int)) = true := ha
  rw [ha']
  simp

set_option maxRecDepth 1000000 in
set_option maxHeartbeats 1000000 in
theorem rp_row (s : ByteArray) (a : Nat) (c : UInt8) (t : List UInt8) (w : World) (hs : s.size ≤ 65536) (hdr : s.toList.drop a = c :: t) (hc : smallB (c.toNat : Int) = true) (h32 : rowN (c :: t) ≤ 32) :
    Calls Try.prog 33 #[.string s, .int .i64 (a : Int)] w fun e w' => e = .returned (.tuple #[.agg #[.int .i64 (if nameL ((c :: t).take (rowN (c :: t))) then 1 else 2), .string (ba ((c :: t).take (rowN (c :: t)))), .int .i64 0, .int .i64 0], .int .i64 ((a + rowN (c :: t) : Nat) : Int)]) ∧ Keep [] w w' := by
  have hnm : nm c = true := by simp [nm, inNameB, hc]
  have hr1 : rowN (c :: t) = rowN t + 1 := by simp [rowN, hnm]
  have hk := row_kind (c :: t) hc h32 (by omega)
  obtain ⟨hlt, hg, hd1⟩ := at_drop hdr
  have hlti : (a : Int) < (s.size : Int) := by omega
  have hle : a + rowN (c :: t) ≤ s.size := by
    have := rowN_le (c :: t)
    rw [← hdr, List.length_drop, toList_len] at this
    rw [← hdr]
    omega
  obtain ⟨E, hE⟩ : ∃ E, a + rowN (c :: t) = E := ⟨_, rfl⟩
  have hex : Hid (s.extract a E = ba ((c :: t).take (rowN (c :: t)))) := by
    show _ = _
    rw [ext_mid, hdr, show E - a = rowN (c :: t) by omega]
  have h0 : Hid (a + 1 + rowN (s.toList.drop (a + 1)) = E) := by show _ = _; rw [hd1]; omega
  rw [hE] at hle ⊢
  have hWd : Hid (∀ w, Calls Try.prog 57 #[.string (ba ((c :: t).take (rowN (c :: t))))] w fun e w' => e = .returned (.bool (wordsL.any (· == (c :: t).take (rowN (c :: t))))) ∧ Keep [] w w') := fun w => by
    have := word_in (ba ((c :: t).take (rowN (c :: t)))) w
    rwa [ba_toList] at this
  generalize (c :: t).take (rowN (c :: t)) = x at hk hex hWd ⊢
  obtain ⟨kd, hkd0⟩ : ∃ kd : Int, (if nameL x = true then 1 else 2) = kd := ⟨_, rfl⟩
  rw [hkd0]
  generalize wordsL.any (· == x) = wb at hk hWd
  have hkd : Hid (kd = if wb = true then 2 else 1) := by
    show _ = _
    rw [← hkd0, hk]
    cases wb <;> rfl
  clear hkd0 hk
  have hS : Hid (∀ w, Calls Try.prog 55 #[.int .u8 (c.toNat : Int)] w fun e w' => e = .returned (.bool true) ∧ w' = w) := fun w => by
    have := rsmall_any (c.toNat : Int) w
    rwa [hc] at this
  have hWi : Hid (∀ (c : UInt8) w, Calls Try.prog 56 #[.int .u8 (c.toNat : Int)] w fun e w' => e = .returned (.bool (nm c)) ∧ w' = w) := fun c w => rwithin_any _ w
  have haE : a + 1 ≤ E := by omega
  clear hd1 hdr hr1 hnm hc h32 hE
  go_enter Try.func33, Try.ntmps33
  go_wp2_with (go_at_call 55; refine (hS.out _).mono ?_; rintro e w' ⟨rfl, rfl⟩)
  go_loopw [6] (fun z6 wr => ∃ (k : Nat), z6 = .int .i64 (k : Int) ∧ (a + 1 ≤ k ∧ k ≤ E) ∧ wr = w.alloc zeroTok ∧ Hid (k + rowN (s.toList.drop k) = E)) (fun z6 _ => s.size - (intOf z6).toNat)
  case atStart => exact ⟨a + 1, by go_num, ⟨Nat.le_refl _, haE⟩, rfl, h0⟩
  case round =>
    clear h0
    obtain ⟨k, rfl, ⟨hak, hkE⟩, rfl, hI⟩ := hrel
    by_cases hlt2 : k < s.size ∧ ∃ c2, s.toList.drop k = c2 :: s.toList.drop (k + 1) ∧ nm c2 = true
    · obtain ⟨hl2, c2, hc2, hn2⟩ := hlt2
      have hl2i : (k : Int) < (s.size : Int) := by omega
      obtain ⟨hx1, hg2, -⟩ := at_drop hc2
      have hnx : Hid (k + 1 + rowN (s.toList.drop (k + 1)) = E) := by
        show _ = _
        have := hI.out
        rw [hc2] at this
        have e : rowN (c2 :: s.toList.drop (k + 1)) = rowN (s.toList.drop (k + 1)) + 1 := by simp [rowN, hn2]
        omega
      have hkE2 : k + 1 ≤ E := by have := hnx.out; omega
      clear hI hc2
      go_wp2_with (go_at_call 56; refine (hWi.out c2 _).mono ?_; rintro e w' ⟨rfl, rfl⟩; rw [hn2])
      go_roundw
      case rel => exact ⟨k + 1, by go_num, by omega, trivial, hnx⟩
      case measure => simp [intOf]; omega
    · have hkE3 : k = E := by
        have hI2 := hI.out
        by_cases hl2 : k < s.size
        · obtain ⟨c2, hc2, _⟩ := bt_drop s k hl2
          have hn2 : nm c2 = false := by
            cases e : nm c2
            · rfl
            · exact absurd ⟨hl2, c2, hc2, e⟩ hlt2
          rw [hc2] at hI2
          have e : rowN (c2 :: s.toList.drop (k + 1)) = 0 := by simp [rowN, hn2]
          omega
        · rw [List.drop_of_length_le (by rw [toList_len]; omega)] at hI2
          simpa [rowN] using hI2
      subst hkE3
      have hkE4 : a ≤ k := by omega
      have hbx := heap_alloc_new w zeroTok
      have hxx := hex.out
      have hsl1 : (a : Int) ≤ (k : Int) := by omega
      have hsl2 : (k : Int) ≤ (s.size : Int) := by omega
      have fin : Hid (∀ w3, Keep [] (w.alloc zeroTok) w3 → w3.heap[w.heap.size]? = some zeroTok) := fun w3 k3 => (k3.block _ (by simp) (by simp)).trans hbx
      have finK : Hid (∀ w3, Keep [] (w.alloc zeroTok) w3 → ∀ a b c d, Keep [] w ((((w3.setCell ⟨w.heap.size, 0, none⟩ a).setCell ⟨w.heap.size, 1, none⟩ b).setCell ⟨w.heap.size, 2, none⟩ c).setCell ⟨w.heap.size, 3, none⟩ d)) := fun w3 k3 a b c d => (((((Keep.alloc1 w _).trans' k3).setCell (.inr (Nat.le_refl _)) _).setCell (.inr (Nat.le_refl _)) _).setCell (.inr (Nat.le_refl _)) _).setCell (.inr (Nat.le_refl _)) _
      clear hI hbx
      by_cases hl2 : k < s.size
      · obtain ⟨c2, hc2, _⟩ := bt_drop s k hl2
        have hn2 : nm c2 = false := by
          cases e : nm c2
          · rfl
          · exact absurd ⟨hl2, c2, hc2, e⟩ hlt2
        obtain ⟨hx1, hg2, -⟩ := at_drop hc2
        have hl2i : (k : Int) < (s.size : Int) := by omega
        clear hlt2 hc2
        cases wb
        · have hkd1 : kd = 1 := hkd.out
          subst hkd1
          go_wp2_with (first | (go_at_call 56; refine (hWi.out c2 _).mono ?_; rintro e w' ⟨rfl, rfl⟩; rw [hn2]) | (go_at_call 57; refine (hWd.out _).mono ?_; rintro e w3 ⟨rfl, k3⟩; obtain ⟨⟨g0, g1, g2, g3⟩, e0, e1, e2, e3⟩ := box4f (fin.out _ k3)))
          refine bodyPost_ret (v := .tuple #[.agg #[.int .i64 1, .string (ba x), .int .i64 0, .int .i64 0], .int .i64 (k : Int)]) (by simp [results, Try.results33, go_sem, g0, g1, g2, g3]) rfl ⟨rfl, finK.out _ k3 _ _ _ _⟩
        · have hkd1 : kd = 2 := hkd.out
          subst hkd1
          go_wp2_with (first | (go_at_call 56; refine (hWi.out c2 _).mono ?_; rintro e w' ⟨rfl, rfl⟩; rw [hn2]) | (go_at_call 57; refine (hWd.out _).mono ?_; rintro e w3 ⟨rfl, k3⟩; obtain ⟨⟨g0, g1, g2, g3⟩, e0, e1, e2, e3⟩ := box4f (fin.out _ k3)))
          refine bodyPost_ret (v := .tuple #[.agg #[.int .i64 2, .string (ba x), .int .i64 0, .int .i64 0], .int .i64 (k : Int)]) (by simp [results, Try.results33, go_sem, g0, g1, g2, g3]) rfl ⟨rfl, finK.out _ k3 _ _ _ _⟩
      · have hl2i : ¬ (k : Int) < (s.size : Int) := by omega
        clear hlt2
        cases wb
        · have hkd1 : kd = 1 := hkd.out
          subst hkd1
          go_wp2_with (go_at_call 57; refine (hWd.out _).mono ?_; rintro e w3 ⟨rfl, k3⟩; obtain ⟨⟨g0, g1, g2, g3⟩, e0, e1, e2, e3⟩ := box4f (fin.out _ k3))
          refine bodyPost_ret (v := .tuple #[.agg #[.int .i64 1, .string (ba x), .int .i64 0, .int .i64 0], .int .i64 (k : Int)]) (by simp [results, Try.results33, go_sem, g0, g1, g2, g3]) rfl ⟨rfl, finK.out _ k3 _ _ _ _⟩
        · have hkd1 : kd = 2 := hkd.out
          subst hkd1
          go_wp2_with (go_at_call 57; refine (hWd.out _).mono ?_; rintro e w3 ⟨rfl, k3⟩; obtain ⟨⟨g0, g1, g2, g3⟩, e0, e1, e2, e3⟩ := box4f (fin.out _ k3))
          refine bodyPost_ret (v := .tuple #[.agg #[.int .i64 2, .string (ba x), .int .i64 0, .int .i64 0], .int .i64 (k : Int)]) (by simp [results, Try.results33, go_sem, g0, g1, g2, g3]) rfl ⟨rfl, finK.out _ k3 _ _ _ _⟩
end Go.Proofs.Ytmglbcldjhdhkaa

/- The document's piece: numbers, texts, marks; all of them. -/
namespace Go.Proofs.Ytmglbcldjhdhkaa
open Go.RowKit Go.PlainAid

theorem finZ (w w3 : World) (k3 : Keep [] (w.alloc zeroTok) w3) : w3.heap[w.heap.size]? = some zeroTok := (k3.block _ (by simp) (by simp)).trans (heap_alloc_new w zeroTok)
theorem finKZ (w w3 : World) (k3 : Keep [] (w.alloc zeroTok) w3) (a b c d : Value) : Keep [] w ((((w3.setCell ⟨w.heap.size, 0, none⟩ a).setCell ⟨w.heap.size, 1, none⟩ b).setCell ⟨w.heap.size, 2, none⟩ c).setCell ⟨w.heap.size, 3, none⟩ d) :=
  (((((Keep.alloc1 w _).trans' k3).setCell (.inr (Nat.le_refl _)) _).setCell (.inr (Nat.le_refl _)) _).setCell (.inr (Nat.le_refl _)) _).setCell (.inr (Nat.le_refl _)) _

set_option maxRecDepth 1000000 in
set_option maxHeartbeats 1000000 in
theorem rp_num (s : ByteArray) (a : Nat) (c : UInt8) (t : List UInt8) (w : World) (hs : s.size ≤ 65536) (hdr : s.toList.drop a = c :: t) (hc : digitB (c.toNat : Int) = true) (hn : okN (numGo 1 (c :: t))) :
    Calls Try.prog 33 #[.string s, .int .i64 (a : Int)] w fun e w' => e = .returned (.tuple #[.agg #[.int .i64 (if (numGo 1 (c :: t)).2.1 = 1 then 3 else 4), .string (ba ((c :: t).take (numGo 1 (c :: t)).1)), .int .i64 0, .int .i64 0], .int .i64 ((a + (numGo 1 (c :: t)).1 : Nat) : Int)]) ∧ Keep [] w w' := by
  obtain ⟨hlt, hg, hd1⟩ := at_drop hdr
  have hlti : (a : Int) < (s.size : Int) := by omega
  have hN : Hid (∀ w, Calls Try.prog 59 #[.string s, .int .i64 (a : Int)] w fun e w' => e = .returned (.tuple #[.int .i64 ((a + (numGo 1 (c :: t)).1 : Nat) : Int), .bool (decide ((numGo 1 (c :: t)).2.1 ≠ 1))]) ∧ w' = w) := fun w => by
    have := rnumber_any s a w (by omega) (by omega) (by rw [hdr]; exact hn)
    rwa [hdr] at this
  have hle : a + (numGo 1 (c :: t)).1 ≤ s.size := by
    have := numGo_le (c :: t) 1
    have h2 := congrArg List.length hdr
    rw [List.length_drop, toList_len] at h2
    omega
  generalize hE : a + (numGo 1 (c :: t)).1 = E at hN hle ⊢
  have hex : s.extract a E = ba ((c :: t).take (numGo 1 (c :: t)).1) := by
    rw [ext_mid, hdr, show E - a = (numGo 1 (c :: t)).1 by omega]
  have haE : (a : Int) ≤ (E : Int) := by omega
  have haE2 : a ≤ E := by omega
  have hEs : (E : Int) ≤ (s.size : Int) := by omega
  generalize (c :: t).take (numGo 1 (c :: t)).1 = x at hex ⊢
  have hS : Hid (∀ w, Calls Try.prog 55 #[.int .u8 (c.toNat : Int)] w fun e w' => e = .returned (.bool false) ∧ w' = w) := fun w => by
    have := rsmall_any (c.toNat : Int) w
    rwa [dig_not_small hc] at this
  have hD : Hid (∀ w, Calls Try.prog 58 #[.int .u8 (c.toNat : Int)] w fun e w' => e = .returned (.bool true) ∧ w' = w) := fun w => by
    have := rdigit_any (c.toNat : Int) w
    rwa [hc] at this
  by_cases hst : (numGo 1 (c :: t)).2.1 = 1
  · rw [if_pos hst]
    rw [decide_eq_false (by simpa using hst)] at hN
    clear hdr hd1 hn hc hE hst
    go_enter Try.func33, Try.ntmps33
    go_wp2_with (first | (go_at_call 55; refine (hS.out _).mono ?_; rintro e w' ⟨rfl, rfl⟩) | (go_at_call 58; refine (hD.out _).mono ?_; rintro e w' ⟨rfl, rfl⟩) | (go_at_call 59; refine (hN.out _).mono ?_; rintro e w' ⟨rfl, rfl⟩))
    refine bodyPost_ret (v := .tuple #[.agg #[.int .i64 3, .string (ba x), .int .i64 0, .int .i64 0], .int .i64 (E : Int)]) (by simp [results, Try.results33, go_sem]) rfl ⟨rfl, Keep.alloc1 w _⟩
  · rw [if_neg hst]
    rw [decide_eq_true (by simpa using hst)] at hN
    clear hdr hd1 hn hc hE hst
    go_enter Try.func33, Try.ntmps33
    go_wp2_with (first | (go_at_call 55; refine (hS.out _).mono ?_; rintro e w' ⟨rfl, rfl⟩) | (go_at_call 58; refine (hD.out _).mono ?_; rintro e w' ⟨rfl, rfl⟩) | (go_at_call 59; refine (hN.out _).mono ?_; rintro e w' ⟨rfl, rfl⟩))
    refine bodyPost_ret (v := .tuple #[.agg #[.int .i64 4, .string (ba x), .int .i64 0, .int .i64 0], .int .i64 (E : Int)]) (by simp [results, Try.results33, go_sem]) rfl ⟨rfl, Keep.alloc1 w _⟩

set_option maxRecDepth 1000000 in
set_option maxHeartbeats 1000000 in
theorem rp_quote (s : ByteArray) (a : Nat) (t x : List UInt8) (w : World) (hs : s.size ≤ 65536) (hdr : s.toList.drop a = 34 :: t) (hq : (qGo 0 0 [] t).1 = some x) :
    Calls Try.prog 33 #[.string s, .int .i64 (a : Int)] w fun e w' => e = .returned (.tuple #[.agg #[.int .i64 5, .string (ba x), .int .i64 0, .int .i64 0], .int .i64 ((a + ((qGo 0 0 [] t).2 + 1) : Nat) : Int)]) ∧ Keep [] w w' := by
  obtain ⟨hlt, hg, hd1⟩ := at_drop hdr
  have hlti : (a : Int) < (s.size : Int) := by omega
  have hQ : Hid (∀ w, Calls Try.prog 60 #[.string s, .int .i64 (a : Int)] w fun e w' => e = .returned (.tuple #[.int .i64 ((a + ((qGo 0 0 [] t).2 + 1) : Nat) : Int), .string (ba x)]) ∧ Keep [] w w') := fun w => by
    have := rquoted_any s a x w (by omega) hs (by rw [hd1]; exact hq)
    rw [hd1] at this
    rwa [show a + 1 + (qGo 0 0 [] t).2 = a + ((qGo 0 0 [] t).2 + 1) by omega] at this
  generalize a + ((qGo 0 0 [] t).2 + 1) = E at hQ ⊢
  have hg' : ((s[a]'hlt).toNat : Int) = 34 := hg
  have hS : Hid (∀ w, Calls Try.prog 55 #[.int .u8 34] w fun e w' => e = .returned (.bool false) ∧ w' = w) := fun w => rsmall_any 34 w
  have hD : Hid (∀ w, Calls Try.prog 58 #[.int .u8 34] w fun e w' => e = .returned (.bool false) ∧ w' = w) := fun w => rdigit_any 34 w
  have fin : Hid (∀ w3, Keep [] (w.alloc zeroTok) w3 → w3.heap[w.heap.size]? = some zeroTok) := finZ w
  have finK : Hid (∀ w3, Keep [] (w.alloc zeroTok) w3 → ∀ a b c d, Keep [] w ((((w3.setCell ⟨w.heap.size, 0, none⟩ a).setCell ⟨w.heap.size, 1, none⟩ b).setCell ⟨w.heap.size, 2, none⟩ c).setCell ⟨w.heap.size, 3, none⟩ d)) := finKZ w
  clear hdr hd1 hq hg
  go_enter Try.func33, Try.ntmps33
  go_wp2_with (first | (go_at_call 55; refine (hS.out _).mono ?_; rintro e w' ⟨rfl, rfl⟩) | (go_at_call 58; refine (hD.out _).mono ?_; rintro e w' ⟨rfl, rfl⟩) | (go_at_call 60; refine (hQ.out _).mono ?_; rintro e w3 ⟨rfl, k3⟩; obtain ⟨⟨g0, g1, g2, g3⟩, e0, e1, e2, e3⟩ := box4f (fin.out _ k3)))
  refine bodyPost_ret (v := .tuple #[.agg #[.int .i64 5, .string (ba x), .int .i64 0, .int .i64 0], .int .i64 (E : Int)]) (by simp [results, Try.results33, go_sem, g0, g1, g2, g3]) rfl ⟨rfl, finK.out _ k3 _ _ _ _⟩

set_option maxRecDepth 1000000 in
set_option maxHeartbeats 1000000 in
theorem rp_mark (s : ByteArray) (a : Nat) (c : UInt8) (t : List UInt8) (w : World) (hs : s.size ≤ 65536) (hdr : s.toList.drop a = c :: t) (h1 : smallB (c.toNat : Int) = false) (h2 : digitB (c.toNat : Int) = false) (h3 : c ≠ 34) :
    Calls Try.prog 33 #[.string s, .int .i64 (a : Int)] w fun e w' => ∃ (b : Bool), (b = true ↔ ∃ d u, t = d :: u ∧ marksL.any (· == [c, d]) = true) ∧ e = .returned (.tuple #[.agg #[.int .i64 6, .string (ba ((c :: t).take (if b then 2 else 1))), .int .i64 0, .int .i64 0], .int .i64 ((a + (if b then 2 else 1) : Nat) : Int)]) ∧ Keep [] w w' := by
  obtain ⟨hlt, hg, hd1⟩ := at_drop hdr
  have hlti : (a : Int) < (s.size : Int) := by omega
  have hS : Hid (∀ w, Calls Try.prog 55 #[.int .u8 (c.toNat : Int)] w fun e w' => e = .returned (.bool false) ∧ w' = w) := fun w => by
    have := rsmall_any (c.toNat : Int) w
    rwa [h1] at this
  have hD : Hid (∀ w, Calls Try.prog 58 #[.int .u8 (c.toNat : Int)] w fun e w' => e = .returned (.bool false) ∧ w' = w) := fun w => by
    have := rdigit_any (c.toNat : Int) w
    rwa [h2] at this
  have e34 : ((c.toNat : Int) == 34) = false := beq_of (k := 34) h3
  have fin : Hid (∀ w3, Keep [] (w.alloc zeroTok) w3 → w3.heap[w.heap.size]? = some zeroTok) := finZ w
  have finK : Hid (∀ w3, Keep [] (w.alloc zeroTok) w3 → ∀ a b c d, Keep [] w ((((w3.setCell ⟨w.heap.size, 0, none⟩ a).setCell ⟨w.heap.size, 1, none⟩ b).setCell ⟨w.heap.size, 2, none⟩ c).setCell ⟨w.heap.size, 3, none⟩ d)) := finKZ w
  have hex1 : s.extract a (a + 1) = ba [c] := by
    rw [ext_mid, hdr, show a + 1 - a = 1 by omega]
    rfl
  cases t with
  | nil =>
    have hend : ¬ (a : Int) + 1 < (s.size : Int) := by
      have h4 := congrArg List.length hdr
      rw [List.length_drop, toList_len] at h4
      simp at h4
      omega
    have hend2 : (a : Int) + 1 ≤ (s.size : Int) := by omega
    have hend3 : a + 1 ≤ s.size := by omega
    clear hdr hd1 h1 h2 h3
    go_enter Try.func33, Try.ntmps33
    go_wp2_with (first | (go_at_call 55; refine (hS.out _).mono ?_; rintro e w' ⟨rfl, rfl⟩) | (go_at_call 58; refine (hD.out _).mono ?_; rintro e w' ⟨rfl, rfl⟩))
    refine bodyPost_ret (v := .tuple #[.agg #[.int .i64 6, .string (ba [c]), .int .i64 0, .int .i64 0], .int .i64 ((a : Int) + 1)]) (by simp [results, Try.results33, go_sem]) rfl ?_
    first
      | exact ⟨rfl, Keep.alloc1 w _⟩
      | exact ⟨false, by simp, rfl, Keep.alloc1 w _⟩
  | cons d u =>
    obtain ⟨hlt2, hg2, hd2⟩ := at_drop hd1
    have hend : (a : Int) + 1 < (s.size : Int) := by omega
    have hex2 : s.extract a (a + 1 + 1) = ba [c, d] := by
      rw [ext_mid, hdr, show a + 1 + 1 - a = 2 by omega]
      rfl
    have hM : Hid (∀ w, Calls Try.prog 61 #[.string (ba [c, d])] w fun e w' => e = .returned (.bool (marksL.any (· == [c, d]))) ∧ Keep [] w w') := fun w => by
      have := mark_in (ba [c, d]) w
      rwa [ba_toList] at this
    have hb2 : (a : Int) + 1 + 1 ≤ (s.size : Int) := by omega
    have hb3 : (a : Int) + 1 ≤ (s.size : Int) := by omega
    have hb4 : a + 1 + 1 ≤ s.size := by omega
    have hiff : Hid ((∃ d' u', d :: u = d' :: u' ∧ marksL.any (· == [c, d']) = true) ↔ marksL.any (· == [c, d]) = true) := by
      constructor
      · rintro ⟨d', u', e, h⟩
        simp only [List.cons.injEq] at e
        rw [e.1]; exact h
      · intro h; exact ⟨d, u, rfl, h⟩
    generalize marksL.any (· == [c, d]) = b at hM hiff
    clear hdr hd1 h1 h2 h3 hd2
    cases b
    · go_enter Try.func33, Try.ntmps33
      go_wp2_with (first | (go_at_call 55; refine (hS.out _).mono ?_; rintro e w' ⟨rfl, rfl⟩) | (go_at_call 58; refine (hD.out _).mono ?_; rintro e w' ⟨rfl, rfl⟩) | (go_at_call 61; refine (hM.out _).mono ?_; rintro e w3 ⟨rfl, k3⟩; obtain ⟨⟨g0, g1, g2, g3⟩, e0, e1, e2, e3⟩ := box4f (fin.out _ k3)))
      refine bodyPost_ret (v := .tuple #[.agg #[.int .i64 6, .string (ba [c]), .int .i64 0, .int .i64 0], .int .i64 ((a : Int) + 1)]) (by simp [results, Try.results33, go_sem, g0, g1, g2, g3]) rfl ⟨false, ⟨(fun h => absurd h (by simp)), (fun h => absurd (hiff.out.1 h) (by simp))⟩, rfl, finK.out _ k3 _ _ _ _⟩
    · go_enter Try.func33, Try.ntmps33
      go_wp2_with (first | (go_at_call 55; refine (hS.out _).mono ?_; rintro e w' ⟨rfl, rfl⟩) | (go_at_call 58; refine (hD.out _).mono ?_; rintro e w' ⟨rfl, rfl⟩) | (go_at_call 61; refine (hM.out _).mono ?_; rintro e w3 ⟨rfl, k3⟩; obtain ⟨⟨g0, g1, g2, g3⟩, e0, e1, e2, e3⟩ := box4f (fin.out _ k3)))
      refine bodyPost_ret (v := .tuple #[.agg #[.int .i64 6, .string (ba [c, d]), .int .i64 0, .int .i64 0], .int .i64 ((a : Int) + 1 + 1)]) (by simp [results, Try.results33, go_sem, g0, g1, g2, g3]) rfl ⟨true, ⟨(fun _ => hiff.out.2 (by simp)), (fun _ => rfl)⟩, rfl, finK.out _ k3 _ _ _ _⟩

theorem marks_two (c d : UInt8) : marksL.any (· == [c, d]) = (decide (d = 61) && (decide (c = 61) || decide (c = 33) || decide (c = 60) || decide (c = 62))) := by
  have e : ∀ x y : UInt8, ([x, y] == [c, d]) = (decide (c = x) && decide (d = y)) := fun x y => by
    rw [Bool.eq_iff_iff, beq_iff_eq]
    simp only [List.cons.injEq, and_true, Bool.and_eq_true, decide_eq_true_eq]
    exact ⟨fun h => ⟨h.1.symm, h.2.symm⟩, fun h => ⟨h.1.symm, h.2.symm⟩⟩
  have e1 : ∀ x : UInt8, ([x] == [c, d]) = false := fun x => by simp
  unfold marksL
  simp only [List.any_cons, List.any_nil, e, e1, Bool.false_or, Bool.or_false]
  cases decide (d = 61) <;> cases decide (c = 61) <;> cases decide (c = 33) <;> cases decide (c = 60) <;> cases decide (c = 62) <;> rfl
theorem class_mark : ∀ a : Fin 256, (classI (a.val : Int) = 6 → smallB (a.val : Int) = false ∧ digitB (a.val : Int) = false ∧ a.val ≠ 34 ∧ a.val ≠ 61 ∧ a.val ≠ 33 ∧ a.val ≠ 60 ∧ a.val ≠ 62) ∧
    (classI (a.val : Int) = 7 ∨ classI (a.val : Int) = 8 → smallB (a.val : Int) = false ∧ digitB (a.val : Int) = false ∧ a.val ≠ 34 ∧ (a.val = 61 ∨ a.val = 33 ∨ a.val = 60 ∨ a.val = 62)) ∧ (classI (a.val : Int) = 5 → a.val = 34) := by decide +kernel
/-- the piece that the document finds is the one that is found -/
theorem rpiece_any (s : ByteArray) (a : Nat) (w : World) (hs : s.size ≤ 65536) (ha : a < s.size) (hk : (pieceL (s.toList.drop a)).kind ≠ 0) :
    Calls Try.prog 33 #[.string s, .int .i64 (a : Int)] w fun e w' => e = .returned (.tuple #[.agg #[.int .i64 (pieceL (s.toList.drop a)).kind, .string (ba (pieceL (s.toList.drop a)).text), .int .i64 0, .int .i64 0], .int .i64 ((a + (pieceL (s.toList.drop a)).size : Nat) : Int)]) ∧ Keep [] w w' := by
  obtain ⟨c, hdr, _⟩ := bt_drop s a ha
  generalize ht : s.toList.drop (a + 1) = t at hdr
  rw [hdr] at hk ⊢
  rw [pieceL] at hk ⊢
  obtain ⟨m6, m78, m5⟩ := class_mark ⟨c.toNat, c.toNat_lt⟩
  simp only at m6 m78 m5
  by_cases h2 : classI (c.toNat : Int) = 2
  · rw [if_pos h2] at hk ⊢
    unfold rowL at hk ⊢
    by_cases hl : 32 < rowN (c :: t)
    · rw [if_pos hl] at hk; exact absurd rfl hk
    · rw [if_neg hl]
      exact rp_row s a c t w hs hdr (class_small.1 h2) (by omega)
  · by_cases h3 : classI (c.toNat : Int) = 3
    · rw [if_neg h2, if_pos h3] at hk ⊢
      unfold numberL at hk ⊢
      cases hb : (numGo 1 (c :: t)).2.2 with
      | true => rw [hb, if_pos rfl] at hk; exact absurd rfl hk
      | false =>
        rw [hb] at hk
        simp only [Bool.false_eq_true, if_false] at hk ⊢
        unfold endedL at hk ⊢
        have hok : okN (numGo 1 (c :: t)) := by
          refine ⟨hb, ?_⟩
          by_cases e1 : (numGo 1 (c :: t)).2.1 = 1
          · exact .inl e1
          · by_cases e2 : (numGo 1 (c :: t)).2.1 = 3 ∨ (numGo 1 (c :: t)).2.1 = 6
            · exact .inr e2
            · rw [if_neg e1, if_neg e2] at hk; exact absurd rfl hk
        have := rp_num s a c t w hs hdr (class3 h3) hok
        by_cases e1 : (numGo 1 (c :: t)).2.1 = 1
        · rw [if_pos e1] at this ⊢
          exact this
        · have e2 : (numGo 1 (c :: t)).2.1 = 3 ∨ (numGo 1 (c :: t)).2.1 = 6 := by have := hok.2; omega
          rw [if_neg e1] at this ⊢
          rw [if_pos e2]
          exact this
    · by_cases h5 : classI (c.toNat : Int) = 5
      · rw [if_neg h2, if_neg h3, if_pos h5] at hk ⊢
        have hc34 : c = 34 := UInt8.toNat_inj.1 (m5 h5)
        subst hc34
        unfold quotedL at hk ⊢
        simp only [List.drop_succ_cons, List.drop_zero] at hk ⊢
        cases hq : (qGo 0 0 [] t).1 with
        | none => rw [hq] at hk; exact absurd rfl hk
        | some x => exact rp_quote s a t x w hs hdr hq
      · by_cases h6 : classI (c.toNat : Int) = 6
        · rw [if_neg h2, if_neg h3, if_neg h5, if_pos h6]
          obtain ⟨n1, n2, n3, n4, n5, n6, n7⟩ := m6 h6
          refine (rp_mark s a c t w hs hdr n1 n2 (fun e => n3 (by rw [e]; rfl))).mono ?_
          rintro e w' ⟨b, hb, rfl, k⟩
          have hbf : b = false := by
            cases b
            · rfl
            · obtain ⟨d, u, _, h⟩ := hb.1 rfl
              rw [marks_two] at h
              simp only [Bool.and_eq_true, Bool.or_eq_true, decide_eq_true_eq] at h
              rcases h.2 with ((e | e) | e) | e
              · exact absurd (by rw [e]; rfl) n4
              · exact absurd (by rw [e]; rfl) n5
              · exact absurd (by rw [e]; rfl) n6
              · exact absurd (by rw [e]; rfl) n7
          subst hbf
          exact ⟨rfl, k⟩
        · by_cases h78 : classI (c.toNat : Int) = 7 ∨ classI (c.toNat : Int) = 8
          · rw [if_neg h2, if_neg h3, if_neg h5, if_neg h6, if_pos h78] at hk ⊢
            obtain ⟨n1, n2, n3, n4⟩ := m78 h78
            have hcc : c = 61 ∨ c = 33 ∨ c = 60 ∨ c = 62 := by
              rcases n4 with e | e | e | e
              · exact .inl (UInt8.toNat_inj.1 e)
              · exact .inr (.inl (UInt8.toNat_inj.1 e))
              · exact .inr (.inr (.inl (UInt8.toNat_inj.1 e)))
              · exact .inr (.inr (.inr (UInt8.toNat_inj.1 e)))
            refine (rp_mark s a c t w hs hdr n1 n2 (fun e => n3 (by rw [e]; rfl))).mono ?_
            rintro e w' ⟨b, hb, rfl, k⟩
            by_cases hh : t.head? = some 61
            · cases t with
              | nil => simp at hh
              | cons d u =>
                simp only [List.head?_cons, Option.some.injEq] at hh
                subst hh
                have hbt : b = true := hb.2 ⟨61, u, rfl, by rw [marks_two]; rcases hcc with e | e | e | e <;> simp [e]⟩
                subst hbt
                rw [if_pos rfl]
                exact ⟨rfl, k⟩
            · have hbf : b = false := by
                cases b
                · rfl
                · obtain ⟨d, u, e, h⟩ := hb.1 rfl
                  rw [marks_two] at h
                  simp only [Bool.and_eq_true, decide_eq_true_eq] at h
                  exact absurd (by rw [e, h.1]; rfl) hh
              subst hbf
              rw [if_neg hh] at hk ⊢
              by_cases h7 : classI (c.toNat : Int) = 7
              · rw [if_pos h7]
                exact ⟨rfl, k⟩
              · rw [if_neg h7] at hk
                exact absurd rfl hk
          · rw [if_neg h2, if_neg h3, if_neg h5, if_neg h6, if_neg h78] at hk
            exact absurd rfl hk
end Go.Proofs.Ytmglbcldjhdhkaa
