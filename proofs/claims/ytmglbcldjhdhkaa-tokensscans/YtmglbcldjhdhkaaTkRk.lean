/- The document's piece. -/
import Derived.Test.YtmglbcldjhdhkaaTkRj
namespace Go.Proofs.Ytmglbcldjhdhkaa
open Go.RowKit Go.PlainAid

theorem box4f {w : World} {b : Nat} {x y z u : Value} {T : TypeId} (h : w.heap[b]? = some (.cells #[x, y, z, u] T (0, 0))) :
    (w.cell? ⟨b, 0, none⟩ = some x ∧ w.cell? ⟨b, 1, none⟩ = some y ∧ w.cell? ⟨b, 2, none⟩ = some z ∧ w.cell? ⟨b, 3, none⟩ = some u) ∧
    (w.frozen? ⟨b, 0, none⟩ = false ∧ w.frozen? ⟨b, 1, none⟩ = false ∧ w.frozen? ⟨b, 2, none⟩ = false ∧ w.frozen? ⟨b, 3, none⟩ = false) :=
  ⟨⟨(box_cell h 0).1, (box_cell h 1).1, (box_cell h 2).1, (box_cell h 3).1⟩, (box_cell h 0).2, (box_cell h 1).2, (box_cell h 2).2, (box_cell h 3).2⟩
abbrev zeroTok : Obj := .cells #[.int .i64 0, .string ByteArray.empty, .int .i64 0, .int .i64 0] 37 (0, 0)
theorem res_words (l : List UInt8) : resL l = wordsL.any (· == l) := by
  have e : ∀ a b : List UInt8, (a == b) = (b == a) := fun a b => by
    rw [Bool.eq_iff_iff, beq_iff_eq, beq_iff_eq]
    exact eq_comm
  unfold resL wordsL
  simp only [List.any_cons, List.any_nil, Bool.or_false]
  rw [e [116, 121, 112, 101] l, e [114, 101, 108, 97, 116, 105, 111, 110] l, e [99, 111, 110, 100] l, e [111, 114] l, e [97, 110, 100] l, e [110, 111, 116] l, e [102, 114, 111, 109] l, e [119, 105, 116, 104] l, e [105, 110] l, e [116, 114, 117, 101] l, e [102, 97, 108, 115, 101] l, e [110, 97, 110] l, e [105, 110, 102] l]
  simp only [Bool.or_assoc]
theorem row_kind (l : List UInt8) (hs : smallB (hd l) = true) (h32 : rowN l ≤ 32) (h1 : 1 ≤ rowN l) : nameL (l.take (rowN l)) = !(wordsL.any (· == l.take (rowN l))) := by
  have ha := (take_nm l).1
  have hlen : (l.take (rowN l)).length = rowN l := by rw [List.length_take]; have := rowN_le l; omega
  have hh : hd (l.take (rowN l)) = hd l := by
    cases l with
    | nil => rfl
    | cons c t =>
      obtain ⟨m, hm⟩ : ∃ m, rowN (c :: t) = m + 1 := ⟨rowN (c :: t) - 1, by omega⟩
      rw [hm]
      rfl
  unfold nameL
  rw [hlen, hh, hs, res_words, decide_eq_true h1, decide_eq_true h32]
  have ha' : ((l.take (rowN l)).all fun c => inNameB (c.toNat : Int)) = true := ha
  rw [ha']
  simp

set_option maxRecDepth 1000000 in
set_option maxHeartbeats 1000000 in
theorem rp_row (s : ByteArray) (a : Nat) (c : UInt8) (t : List UInt8) (w : World) (hs : s.size ≤ 65536) (hdr : s.toList.drop a = c :: t) (hc : smallB (c.toNat : Int) = true) (h32 : rowN (c :: t) ≤ 32) :
    Calls Try.prog 33 #[.string s, .int .i64 (a : Int)] w fun e w' => e = .returned (.tuple #[.agg #[.int .i64 (if nameL ((c :: t).take (rowN (c :: t))) then 1 else 2), .string (ba ((c :: t).take (rowN (c :: t)))), .int .i64 0, .int .i64 0], .int .i64 ((a + rowN (c :: t) : Nat) : Int)]) ∧ Keep [] w w' := by
  have hnm : nm c = true := by simp [nm, inNameB, hc]
  have hr1 : rowN (c :: t) = rowN t + 1 := by simp [rowN, hnm]
  have hk := row_kind (c :: t) hc h32 (by omega)
  obtain ⟨hlt, hg, hd1⟩ := at_drop hdr
  have hlti : (a : Int) < (s.size : Int) := by omega
  have hle : a + rowN (c :: t) ≤ s.size := by
    have := rowN_le (c :: t)
    rw [← hdr, List.length_drop, toList_len] at this
    rw [← hdr]
    omega
  obtain ⟨E, hE⟩ : ∃ E, a + rowN (c :: t) = E := ⟨_, rfl⟩
  have hex : Hid (s.extract a E = ba ((c :: t).take (rowN (c :: t)))) := by
    show _ = _
    rw [ext_mid, hdr, show E - a = rowN (c :: t) by omega]
  have h0 : Hid (a + 1 + rowN (s.toList.drop (a + 1)) = E) := by show _ = _; rw [hd1]; omega
  rw [hE] at hle ⊢
  have hWd : Hid (∀ w, Calls Try.prog 57 #[.string (ba ((c :: t).take (rowN (c :: t))))] w fun e w' => e = .returned (.bool (wordsL.any (· == (c :: t).take (rowN (c :: t))))) ∧ Keep [] w w') := fun w => by
    have := word_in (ba ((c :: t).take (rowN (c :: t)))) w
    rwa [ba_toList] at this
  generalize (c :: t).take (rowN (c :: t)) = x at hk hex hWd ⊢
  obtain ⟨kd, hkd0⟩ : ∃ kd : Int, (if nameL x = true then 1 else 2) = kd := ⟨_, rfl⟩
  rw [hkd0]
  generalize wordsL.any (· == x) = wb at hk hWd
  have hkd : Hid (kd = if wb = true then 2 else 1) := by
    show _ = _
    rw [← hkd0, hk]
    cases wb <;> rfl
  clear hkd0 hk
  have hS : Hid (∀ w, Calls Try.prog 55 #[.int .u8 (c.toNat : Int)] w fun e w' => e = .returned (.bool true) ∧ w' = w) := fun w => by
    have := rsmall_any (c.toNat : Int) w
    rwa [hc] at this
  have hWi : Hid (∀ (c : UInt8) w, Calls Try.prog 56 #[.int .u8 (c.toNat : Int)] w fun e w' => e = .returned (.bool (nm c)) ∧ w' = w) := fun c w => rwithin_any _ w
  have haE : a + 1 ≤ E := by omega
  clear hd1 hdr hr1 hnm hc h32 hE
  go_enter Try.func33, Try.ntmps33
  go_wp2_with (go_at_call 55; refine (hS.out _).mono ?_; rintro e w' ⟨rfl, rfl⟩)
  go_loopw [6] (fun z6 wr => ∃ (k : Nat), z6 = .int .i64 (k : Int) ∧ (a + 1 ≤ k ∧ k ≤ E) ∧ wr = w.alloc zeroTok ∧ Hid (k + rowN (s.toList.drop k) = E)) (fun z6 _ => s.size - (intOf z6).toNat)
  case atStart => exact ⟨a + 1, by go_num, ⟨Nat.le_refl _, haE⟩, rfl, h0⟩
  case round =>
    clear h0
    obtain ⟨k, rfl, ⟨hak, hkE⟩, rfl, hI⟩ := hrel
    by_cases hlt2 : k < s.size ∧ ∃ c2, s.toList.drop k = c2 :: s.toList.drop (k + 1) ∧ nm c2 = true
    · obtain ⟨hl2, c2, hc2, hn2⟩ := hlt2
      have hl2i : (k : Int) < (s.size : Int) := by omega
      obtain ⟨hx1, hg2, -⟩ := at_drop hc2
      have hnx : Hid (k + 1 + rowN (s.toList.drop (k + 1)) = E) := by
        show _ = _
        have := hI.out
        rw [hc2] at this
        have e : rowN (c2 :: s.toList.drop (k + 1)) = rowN (s.toList.drop (k + 1)) + 1 := by simp [rowN, hn2]
        omega
      have hkE2 : k + 1 ≤ E := by have := hnx.out; omega
      clear hI hc2
      go_wp2_with (go_at_call 56; refine (hWi.out c2 _).mono ?_; rintro e w' ⟨rfl, rfl⟩; rw [hn2])
      go_roundw
      case rel => exact ⟨k + 1, by go_num, by omega, trivial, hnx⟩
      case measure => simp [intOf]; omega
    · have hkE3 : k = E := by
        have hI2 := hI.out
        by_cases hl2 : k < s.size
        · obtain ⟨c2, hc2, _⟩ := bt_drop s k hl2
          have hn2 : nm c2 = false := by
            cases e : nm c2
            · rfl
            · exact absurd ⟨hl2, c2, hc2, e⟩ hlt2
          rw [hc2] at hI2
          have e : rowN (c2 :: s.toList.drop (k + 1)) = 0 := by simp [rowN, hn2]
          omega
        · rw [List.drop_of_length_le (by rw [toList_len]; omega)] at hI2
          simpa [rowN] using hI2
      subst hkE3
      have hkE4 : a ≤ k := by omega
      have hbx := heap_alloc_new w zeroTok
      have hxx := hex.out
      have hsl1 : (a : Int) ≤ (k : Int) := by omega
      have hsl2 : (k : Int) ≤ (s.size : Int) := by omega
      have fin : Hid (∀ w3, Keep [] (w.alloc zeroTok) w3 → w3.heap[w.heap.size]? = some zeroTok) := fun w3 k3 => (k3.block _ (by simp) (by simp)).trans hbx
      have finK : Hid (∀ w3, Keep [] (w.alloc zeroTok) w3 → ∀ a b c d, Keep [] w ((((w3.setCell ⟨w.heap.size, 0, none⟩ a).setCell ⟨w.heap.size, 1, none⟩ b).setCell ⟨w.heap.size, 2, none⟩ c).setCell ⟨w.heap.size, 3, none⟩ d)) := fun w3 k3 a b c d => (((((Keep.alloc1 w _).trans' k3).setCell (.inr (Nat.le_refl _)) _).setCell (.inr (Nat.le_refl _)) _).setCell (.inr (Nat.le_refl _)) _).setCell (.inr (Nat.le_refl _)) _
      clear hI hbx
      by_cases hl2 : k < s.size
      · obtain ⟨c2, hc2, _⟩ := bt_drop s k hl2
        have hn2 : nm c2 = false := by
          cases e : nm c2
          · rfl
          · exact absurd ⟨hl2, c2, hc2, e⟩ hlt2
        obtain ⟨hx1, hg2, -⟩ := at_drop hc2
        have hl2i : (k : Int) < (s.size : Int) := by omega
        clear hlt2 hc2
        cases wb
        · have hkd1 : kd = 1 := hkd.out
          subst hkd1
          go_wp2_with (first | (go_at_call 56; refine (hWi.out c2 _).mono ?_; rintro e w' ⟨rfl, rfl⟩; rw [hn2]) | (go_at_call 57; refine (hWd.out _).mono ?_; rintro e w3 ⟨rfl, k3⟩; obtain ⟨⟨g0, g1, g2, g3⟩, e0, e1, e2, e3⟩ := box4f (fin.out _ k3)))
          refine bodyPost_ret (v := .tuple #[.agg #[.int .i64 1, .string (ba x), .int .i64 0, .int .i64 0], .int .i64 (k : Int)]) (by simp [results, Try.results33, go_sem, g0, g1, g2, g3]) rfl ⟨rfl, finK.out _ k3 _ _ _ _⟩
        · have hkd1 : kd = 2 := hkd.out
          subst hkd1
          go_wp2_with (first | (go_at_call 56; refine (hWi.out c2 _).mono ?_; rintro e w' ⟨rfl, rfl⟩; rw [hn2]) | (go_at_call 57; refine (hWd.out _).mono ?_; rintro e w3 ⟨rfl, k3⟩; obtain ⟨⟨g0, g1, g2, g3⟩, e0, e1, e2, e3⟩ := box4f (fin.out _ k3)))
          refine bodyPost_ret (v := .tuple #[.agg #[.int .i64 2, .string (ba x), .int .i64 0, .int .i64 0], .int .i64 (k : Int)]) (by simp [results, Try.results33, go_sem, g0, g1, g2, g3]) rfl ⟨rfl, finK.out _ k3 _ _ _ _⟩
      · have hl2i : ¬ (k : Int) < (s.size : Int) := by omega
        clear hlt2
        cases wb
        · have hkd1 : kd = 1 := hkd.out
          subst hkd1
          go_wp2_with (go_at_call 57; refine (hWd.out _).mono ?_; rintro e w3 ⟨rfl, k3⟩; obtain ⟨⟨g0, g1, g2, g3⟩, e0, e1, e2, e3⟩ := box4f (fin.out _ k3))
          refine bodyPost_ret (v := .tuple #[.agg #[.int .i64 1, .string (ba x), .int .i64 0, .int .i64 0], .int .i64 (k : Int)]) (by simp [results, Try.results33, go_sem, g0, g1, g2, g3]) rfl ⟨rfl, finK.out _ k3 _ _ _ _⟩
        · have hkd1 : kd = 2 := hkd.out
          subst hkd1
          go_wp2_with (go_at_call 57; refine (hWd.out _).mono ?_; rintro e w3 ⟨rfl, k3⟩; obtain ⟨⟨g0, g1, g2, g3⟩, e0, e1, e2, e3⟩ := box4f (fin.out _ k3))
          refine bodyPost_ret (v := .tuple #[.agg #[.int .i64 2, .string (ba x), .int .i64 0, .int .i64 0], .int .i64 (k : Int)]) (by simp [results, Try.results33, go_sem, g0, g1, g2, g3]) rfl ⟨rfl, finK.out _ k3 _ _ _ _⟩
end Go.Proofs.Ytmglbcldjhdhkaa
