/- What the two readers read of a value's bytes: the value. -/
import Derived.Test.YtppimacfeelneaaDcP5
import Derived.Test.YtppimacfeelneaaDcG
namespace Go.Proofs.Ytppimacfeelneaa
open Go.RowKit Go.PlainAid Go.Lib

/-- alike: but for a nan's bits -/
structure Alike (y z : VD) : Prop where
  kind : y.kind = z.kind
  bool : y.bool = z.bool
  int : y.int = z.int
  real : keyN y.real = keyN z.real
  real0 : y.kind ≠ 3 → y.real = z.real
  text : y.text = z.text
  texts : y.texts = z.texts

theorem enc_head (z : VD) : ∃ r, encL z = z.kind.toNat.toUInt8 :: r := ⟨_, rfl⟩
theorem kind_byte (z : VD) (hm : z.mayB = true) : (z.kind.toNat.toUInt8.toNat : Int) = z.kind := by
  have := may_kind z hm
  simp
  omega
theorem body_pos (z : VD) (hm : z.mayB = true) : 0 < (bodyL z).length := by
  have hk := may_kind z hm
  unfold bodyL
  split
  · simp
  · split
    · exact uvarint_pos _
    · split
      · simp [four]
      · split
        · unfold textB
          have := uvarint_pos z.text.size
          rw [List.length_append]
          omega
        · have := uvarint_pos z.texts.length
          rw [List.length_append]
          omega

/-- the document's -/
theorem first_back (z y : VD) (l : List UInt8) (hz : z.Ok) (hm : z.mayB = true) (hs : Shaped z) (hl : l = encL z) (hy : FstB l y) : Alike y z := by
  have hk := may_kind z hm
  have hkb := kind_byte z hm
  obtain ⟨m1, m2, m3⟩ := may_short z hm
  have h0 : y.kind = z.kind := by rw [hy.kind, hl]; exact hkb
  have hd : l.drop 1 = bodyL z := by rw [hl]; rfl
  have sh := hy.shaped
  have e1 : z.kind ≠ 1 → y.bool = z.bool := fun h => by rw [sh.bool.resolve_left (by omega), hs.bool.resolve_left h]
  have e2 : z.kind ≠ 2 → y.int = z.int := fun h => by rw [sh.int.resolve_left (by omega), hs.int.resolve_left h]
  have e3 : z.kind ≠ 3 → y.real = z.real := fun h => by rw [sh.real.resolve_left (by omega), hs.real.resolve_left h]
  have e4 : z.kind ≠ 4 → y.text = z.text := fun h => by rw [sh.text.resolve_left (by omega), hs.text.resolve_left h]
  have e5 : z.kind ≠ 5 → y.texts = z.texts := fun h => by rw [sh.texts.resolve_left (by omega), hs.texts.resolve_left h]
  by_cases k1 : z.kind = 1
  · have hb : bodyL z = [if z.bool then 1 else 0] := by unfold bodyL; rw [if_pos k1]
    have : y.bool = z.bool := by
      rw [hy.b1 (by omega), hl]
      show (((bodyL z).getD 0 0).toNat == 1) = z.bool
      rw [hb]
      cases z.bool <;> rfl
    exact ⟨h0, this, e2 (by omega), by rw [e3 (by omega)], fun _ => e3 (by omega), e4 (by omega), e5 (by omega)⟩
  by_cases k2 : z.kind = 2
  · have hb : bodyL z = uvarint (zigzag z.int) := by unfold bodyL; rw [if_neg k1, if_pos k2]
    have : y.int = z.int := by
      rw [hy.b2 (by omega) (zigzag z.int) [] (zigzag_lt hz.int0 hz.int1) (by rw [hd, hb, List.append_nil])]
      exact unzig_zig _ hz.int0 hz.int1
    exact ⟨h0, e1 (by omega), this, by rw [e3 (by omega)], fun _ => e3 (by omega), e4 (by omega), e5 (by omega)⟩
  by_cases k3 : z.kind = 3
  · have hb : bodyL z = four (keyN z.real) := by unfold bodyL; rw [if_neg k1, if_neg k2, if_pos k3]
    have hkl := keyN_lt z.real hz.real1
    have h5 : l.length = 5 := by rw [hl]; show (bodyL z).length + 1 = 5; rw [hb]; rfl
    have hR := hy.b3 (by omega) h5
    have hbe : be4 (l.drop 1) = keyN z.real := by
      have := be4_four (keyN z.real) hkl []
      rw [List.append_nil] at this
      rw [hd, hb, this]
    rw [hbe] at hR
    have hr : keyN y.real = keyN z.real := by
      rw [hR.2]
      by_cases hn : nanB z.real = true
      · rw [key_nanB _ hn, if_neg (by omega)]
      · have hn2 : ¬ 2139095040 < z.real % 2147483648 := by unfold nanB at hn; simpa using hn
        have hq : keyN z.real = if 2147483648 ≤ z.real then 4294967295 - z.real else z.real + 2147483648 := by unfold keyN; rw [if_neg hn]
        have h9 := hz.real1
        rw [hq]
        by_cases hh : 2147483648 ≤ z.real
        · rw [if_pos hh, if_pos (by omega)]
        · rw [if_neg hh, if_pos (by omega)]
    exact ⟨h0, e1 (by omega), e2 (by omega), hr, fun h => absurd (h0.trans k3) h, e4 (by omega), e5 (by omega)⟩
  by_cases k4 : z.kind = 4
  · have hb : bodyL z = textB z.text := by unfold bodyL; rw [if_neg k1, if_neg k2, if_neg k3, if_pos k4]
    have : y.text = z.text := hy.b4 (by omega) z.text [] m1 (by rw [hd, hb, List.append_nil])
    exact ⟨h0, e1 (by omega), e2 (by omega), by rw [e3 (by omega)], fun _ => e3 (by omega), this, e5 (by omega)⟩
  · have hb : bodyL z = uvarint z.texts.length ++ textsB z.texts := by unfold bodyL; rw [if_neg k1, if_neg k2, if_neg k3, if_neg k4]
    have : y.texts = z.texts := hy.b5 (by omega) z.texts [] ⟨m2, m3, by rw [hd, hb, List.append_nil]⟩
    exact ⟨h0, e1 (by omega), e2 (by omega), by rw [e3 (by omega)], fun _ => e3 (by omega), e4 (by omega), this⟩

theorem alike_enc {y z : VD} (h : Alike y z) : encL y = encL z := by
  unfold encL bodyL
  rw [h.kind, h.bool, h.int, h.real, h.text, h.texts]
theorem alike_may {y z : VD} (h : Alike y z) : y.mayB = z.mayB := by
  obtain ⟨k, b, i, r, t, ts⟩ := y
  obtain ⟨k', b', i', r', t', ts'⟩ := z
  obtain ⟨h1, h2, h3, h4, h5, h6, h7⟩ := h
  simp only [] at h1 h2 h3 h4 h5 h6 h7
  subst h1 h2 h3 h6 h7
  by_cases hk : k = 3
  · subst hk
    simp [VD.mayB, VD.clear, VD.emptyB, VD.shortB]
  · rw [h5 hk]

theorem readV_shaped (l : List UInt8) : Shaped (readV l) := by
  unfold readV
  simp only []
  split
  · exact ⟨.inl rfl, .inr rfl, .inr rfl, .inr rfl, .inr rfl⟩
  · split
    · exact ⟨.inr rfl, .inl rfl, .inr rfl, .inr rfl, .inr rfl⟩
    · split
      · exact ⟨.inr rfl, .inr rfl, .inl rfl, .inr rfl, .inr rfl⟩
      · split
        · exact ⟨.inr rfl, .inr rfl, .inr rfl, .inl rfl, .inr rfl⟩
        · split
          · exact ⟨.inr rfl, .inr rfl, .inr rfl, .inr rfl, .inl rfl⟩
          · exact ⟨.inr rfl, .inr rfl, .inr rfl, .inr rfl, .inr rfl⟩
theorem readT_back : ∀ (tl : List ByteArray) (r : List UInt8), (∀ s ∈ tl, s.size ≤ 256) → readT tl.length (textsB tl ++ r) 0 = tl
  | [], _, _ => rfl
  | t :: tl, r, h => by
    have ht : t.size ≤ 256 := h t (by simp)
    have hss : t.data.toList.length = t.size := by simp
    have e : textsB (t :: tl) ++ r = uvarint t.data.toList.length ++ t.data.toList ++ (textsB tl ++ r) := by
      rw [hss]
      simp [textsB, textB]
    have hq := textL_at t.data.toList (textsB tl ++ r) (by omega)
    rw [List.length_cons, readT, e, rdOf_pos, hq]
    simp only []
    rw [← List.append_assoc] at e
    rw [show (uvarint t.data.toList.length).length + t.data.toList.length = (uvarint t.data.toList.length ++ t.data.toList).length by simp, List.drop_left]
    rw [readT_back tl r (fun s hs => h s (by simp [hs]))]
/-- the program's -/
theorem read_back (z : VD) (hz : z.Ok) (hm : z.mayB = true) (hs : Shaped z) : Alike (readV (encL z)) z := by
  have hk := may_kind z hm
  have hkb := kind_byte z hm
  obtain ⟨m1, m2, m3⟩ := may_short z hm
  have hB : rdOf 0 (encL z) 0 (byteL (encL z)) = (z.kind.toNat, bodyL z, 0) := by
    rw [rdOf_pos]
    show (z.kind.toNat.toUInt8.toNat, bodyL z, (0 : Int)) = _
    rw [show z.kind.toNat.toUInt8.toNat = z.kind.toNat by omega]
  have hv : readV (encL z) = (if z.kind.toNat = 1 then ⟨1, ((rdOf 0 (bodyL z) 0 (byteL (bodyL z))).1 : Int) != 0, 0, 0, ⟨#[]⟩, []⟩
    else if z.kind.toNat = 2 then ⟨2, false, (rdOf 0 (bodyL z) 0 (turnL (bodyL z))).1, 0, ⟨#[]⟩, []⟩
    else if z.kind.toNat = 3 then ⟨3, false, 0, (rdOf 0 (bodyL z) 0 (realL (bodyL z))).1, ⟨#[]⟩, []⟩
    else if z.kind.toNat = 4 then ⟨4, false, 0, 0, ⟨(rdOf [] (bodyL z) 0 (textL (bodyL z) 256)).1.toArray⟩, []⟩
    else if z.kind.toNat = 5 then ⟨5, false, 0, 0, ⟨#[]⟩, readL (bodyL z) 0⟩
    else ⟨(z.kind.toNat : Int), false, 0, 0, ⟨#[]⟩, []⟩) := by unfold readV; rw [hB]
  rw [hv]
  by_cases k1 : z.kind = 1
  · have hb : bodyL z = [if z.bool then 1 else 0] := by unfold bodyL; rw [if_pos k1]
    rw [if_pos (by omega), hb, rdOf_pos]
    refine ⟨k1.symm, ?_, (hs.int.resolve_left (by omega)).symm, by rw [hs.real.resolve_left (by omega)], fun _ => (hs.real.resolve_left (by omega)).symm, (hs.text.resolve_left (by omega)).symm, (hs.texts.resolve_left (by omega)).symm⟩
    cases z.bool <;> rfl
  rw [if_neg (by omega)]
  by_cases k2 : z.kind = 2
  · have hb : bodyL z = uvarint (zigzag z.int) := by unfold bodyL; rw [if_neg k1, if_pos k2]
    have hq := numL_fwd (zigzag z.int) [] (zigzag_lt hz.int0 hz.int1)
    rw [List.append_nil] at hq
    rw [if_pos (by omega), hb, rdOf_pos]
    refine ⟨k2.symm, (hs.bool.resolve_left (by omega)).symm, ?_, by rw [hs.real.resolve_left (by omega)], fun _ => (hs.real.resolve_left (by omega)).symm, (hs.text.resolve_left (by omega)).symm, (hs.texts.resolve_left (by omega)).symm⟩
    show unzig (numL (uvarint (zigzag z.int))).1 = z.int
    rw [hq]
    exact unzig_zig _ hz.int0 hz.int1
  rw [if_neg (by omega)]
  by_cases k3 : z.kind = 3
  · have hb : bodyL z = four (keyN z.real) := by unfold bodyL; rw [if_neg k1, if_neg k2, if_pos k3]
    have hkl := keyN_lt z.real hz.real1
    have hbe := be4_four (keyN z.real) hkl []
    rw [List.append_nil] at hbe
    obtain ⟨q1, q2⟩ := key_unkey z.real hz.real1
    have hr : realL (four (keyN z.real)) = (unkeyN (keyN z.real), 4, 0) := by
      unfold realL
      rw [if_neg (by simp [four]), hbe, if_pos q1]
    rw [if_pos (by omega), hb, rdOf_pos, hr]
    refine ⟨k3.symm, (hs.bool.resolve_left (by omega)).symm, (hs.int.resolve_left (by omega)).symm, ?_, fun h => absurd rfl h, (hs.text.resolve_left (by omega)).symm, (hs.texts.resolve_left (by omega)).symm⟩
    rcases q2 with q2 | ⟨q2, q3⟩
    · show keyN (unkeyN (keyN z.real)) = keyN z.real
      rw [q2]
    · show keyN (unkeyN (keyN z.real)) = keyN z.real
      rw [key_nanB _ q3, key_nanB _ q2]
  rw [if_neg (by omega)]
  by_cases k4 : z.kind = 4
  · have hb : bodyL z = textB z.text := by unfold bodyL; rw [if_neg k1, if_neg k2, if_neg k3, if_pos k4]
    have hss : z.text.data.toList.length = z.text.size := by simp
    have hq := textL_at z.text.data.toList [] (by omega)
    rw [List.append_nil, hss] at hq
    rw [if_pos (by omega), hb, rdOf_pos]
    refine ⟨k4.symm, (hs.bool.resolve_left (by omega)).symm, (hs.int.resolve_left (by omega)).symm, by rw [hs.real.resolve_left (by omega)], fun _ => (hs.real.resolve_left (by omega)).symm, ?_, (hs.texts.resolve_left (by omega)).symm⟩
    show (⟨(textL (textB z.text) 256).1.toArray⟩ : ByteArray) = z.text
    unfold textB
    rw [hq]
  rw [if_neg (by omega), if_pos (by omega)]
  have hb : bodyL z = uvarint z.texts.length ++ textsB z.texts := by unfold bodyL; rw [if_neg k1, if_neg k2, if_neg k3, if_neg k4]
  have hq := numL_fwd z.texts.length (textsB z.texts) (by omega)
  rw [hb]
  refine ⟨by show (5 : Int) = z.kind; omega, (hs.bool.resolve_left (by omega)).symm, (hs.int.resolve_left (by omega)).symm, by rw [hs.real.resolve_left (by omega)], fun _ => (hs.real.resolve_left (by omega)).symm, (hs.text.resolve_left (by omega)).symm, ?_⟩
  show readL (uvarint z.texts.length ++ textsB z.texts) 0 = z.texts
  unfold readL
  rw [rdOf_pos, hq]
  simp only []
  rw [Nat.min_eq_left m2, List.drop_left]
  have := readT_back z.texts [] m3
  rwa [List.append_nil] at this

/-- both say the same of any bytes -/
theorem both_same (l : List UInt8) (y : VD) (hy : FstB l y) : isB y l = isB (readV l) l ∧ (isB (readV l) l = true → Alike (readV l) y) := by
  have h1 : isB (readV l) l = true → isB y l = true ∧ Alike (readV l) y := fun h => by
    unfold isB at h ⊢
    simp only [Bool.and_eq_true, beq_iff_eq] at h ⊢
    have ha := first_back (readV l) y l (readV_ok l) h.1 (readV_shaped l) h.2.symm hy
    exact ⟨⟨by rw [alike_may ha]; exact h.1, by rw [alike_enc ha]; exact h.2⟩, ⟨ha.kind.symm, ha.bool.symm, ha.int.symm, ha.real.symm, fun h3 => (ha.real0 (by rw [ha.kind]; exact h3)).symm, ha.text.symm, ha.texts.symm⟩⟩
  have h2 : isB y l = true → isB (readV l) l = true := fun h => by
    unfold isB at h ⊢
    simp only [Bool.and_eq_true, beq_iff_eq] at h ⊢
    have ha := read_back y hy.ok h.1 hy.shaped
    rw [h.2] at ha
    exact ⟨by rw [alike_may ha]; exact h.1, by rw [alike_enc ha]; exact h.2⟩
  refine ⟨?_, fun h => (h1 h).2⟩
  cases ha : isB (readV l) l
  · cases hb : isB y l
    · rfl
    · rw [h2 hb] at ha; cases ha
  · exact (h1 ha).1
/-- and of fewer than two: no value -/
theorem short_none (l : List UInt8) (h : l.length < 2) : isB (readV l) l = false := by
  cases hb : isB (readV l) l
  · rfl
  · unfold isB at hb
    simp only [Bool.and_eq_true, beq_iff_eq] at hb
    have h1 := body_pos (readV l) hb.1
    have h2 := congrArg List.length hb.2
    have h3 : (encL (readV l)).length = (bodyL (readV l)).length + 1 := rfl
    omega
end Go.Proofs.Ytppimacfeelneaa
