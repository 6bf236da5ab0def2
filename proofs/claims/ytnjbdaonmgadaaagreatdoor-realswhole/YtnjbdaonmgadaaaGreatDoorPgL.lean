/- The program's Parse of a whole number's text. -/
import Derived.Test.YtnjbdaonmgadaaaGreatDoorPgK
namespace Go.Proofs.YtnjbdaonmgadaaaGreatDoor
open Go.RowKit Go.PlainAid

/-- the library's tables, as far as whole numbers' texts ask for them -/
structure TabA (w : World) : Prop where
  pw : ∀ p, p ≤ 18 → TabP w p
  fl : TabF w
  opt : w.cell? ⟨10, 0, none⟩ = some (.bool true)
theorem TabA.below {w w' : World} (h : TabA w) (hb : Below w.heap.size w w') : TabA w' := by
  refine ⟨fun p hp => ⟨cell_next hb (h.pw p hp).hi, cell_next hb (h.pw p hp).lo⟩, ?_, cell_next hb h.opt⟩
  obtain ⟨g, o, cap, h1, h2⟩ := h.fl
  exact ⟨g, o, cap, cell_next hb h1, fun k hk => cell_next hb (h2 k hk)⟩

theorem empty_false (l : List UInt8) (h : 0 < l.length) : (bl l).toList.isEmpty = false := by
  rw [ByteArray.toList_eq, bl_data]
  cases l with
  | nil => simp at h
  | cons x l => rfl
theorem dig_drop (l m : List UInt8) (h : Dig (l ++ m)) : Dig l := fun c hc => h c (List.mem_append_left _ hc)

/-- the digits of a number above 0, with no nought at the end -/
theorem parts_of (N : Nat) (h0 : 0 < N) (h1 : N < 10 ^ 19) : ∃ c0 cs j, Lib.trimRightB (Lib.decDigits N) 48 = c0 :: cs ∧ (49 ≤ c0.toNat ∧ c0.toNat ≤ 57) ∧ Dig cs ∧ (Lib.decDigits N).length = cs.length + 1 + j ∧ (Lib.decDigits N).length ≤ 19 ∧ dvL (c0 :: cs) * 10 ^ j = N := by
  obtain ⟨j, hj, hl⟩ := cut_noughts (Lib.decDigits N)
  obtain ⟨c, ds, hc, hc49⟩ := dec_head N h0
  have hdig := dec_digit N
  obtain ⟨l1, l2⟩ := dec_len N h1
  have hv := dv_dec N
  rw [← hj, dv_noughts] at hv
  generalize hE : Lib.trimRightB (Lib.decDigits N) 48 = E at *
  cases E with
  | nil =>
    exfalso
    simp [dvL] at hv
    omega
  | cons c0 cs =>
    have e : c0 = c := by
      rw [hc] at hj
      simpa using (List.cons.inj hj).1
    refine ⟨c0, cs, j, rfl, ⟨by rw [e]; exact hc49, ?_⟩, ?_, ?_, l2, hv⟩
    · exact (hdig c0 (by rw [← hj]; simp)).2
    · intro x hx
      exact hdig x (by rw [← hj]; simp [hx])
    · rw [← hl]; simp

/-- cut of the digits of a number above 0 and .0 -/
theorem cut_whole (N : Nat) (h0 : 0 < N) (h1 : N < 10 ^ 19) (w : World) :
    Calls Tryz.prog 20 #[.string (bl (Lib.decDigits N ++ [46, 48]))] w fun e w' => e = .returned (.tuple #[.agg #[.string (bl (Lib.trimRightB (Lib.decDigits N) 48)), .int .i64 (((Lib.decDigits N).length : Int) - 1)], .bool true]) ∧ Below w.heap.size w w' := by
  have hdig : Dig (Lib.decDigits N) := dec_digit N
  obtain ⟨l1, l2⟩ := dec_len N h1
  obtain ⟨c, ds, hc, hc49⟩ := dec_head N h0
  have hD := bl_extract (Lib.decDigits N) [46, 48]
  have hD2 := bl_extract (Lib.decDigits N ++ [46]) [48]
  have hcut := fun w => cut_at (bl (Lib.decDigits N ++ [46, 48])) 46 (Lib.decDigits N).length (by rw [bl_size]; simp) (by rw [bl_size]; unfold maxLen; simp; omega) (by rw [bl_data]; exact index_some _ _ _ (dig_not _ hdig 46 (by decide))) w
  have e1 : (bl (Lib.decDigits N ++ [46, 48])).extract 0 (Lib.decDigits N).length = bl (Lib.decDigits N) := hD.1
  have e2 : (bl (Lib.decDigits N ++ [46, 48])).extract ((Lib.decDigits N).length + 1) (bl (Lib.decDigits N ++ [46, 48])).size = bl [48] := by
    have h5 := hD2.2
    rw [List.append_assoc] at h5
    rw [bl_size]
    simpa using h5
  rw [e1, e2] at hcut
  refine cut_raw _ (bl (Lib.decDigits N)) (bl [48]) (bl (Lib.decDigits N ++ [48])) _ _ w rfl (by rw [bl_size]; exact l2) ?_ hcut (dig_yes _ hdig (by omega) (by omega)) (dig_yes [48] (by unfold Dig; decide) (by decide) (by decide)) (bl_app _ _) ?_ ?_ (by rw [bl_size])
  · intro w
    refine cut_none _ 101 ?_ w
    rw [bl_data]
    refine index_none _ _ ?_
    intro x hx
    rcases List.mem_append.1 hx with hx | hx
    · exact dig_not _ hdig 101 (by decide) x hx
    · intro e
      rw [e] at hx
      exact absurd hx (by decide)
  · intro w
    have h6 := Tryz.strings_TrimLeft_one (bl (Lib.decDigits N ++ [48])) 48 (by decide) w
    have e6 : (⟨(Lib.trimLeftB (bl (Lib.decDigits N ++ [48])).data.toList 48).toArray⟩ : ByteArray) = bl (Lib.decDigits N ++ [48]) := by
      rw [bl_data, hc]
      unfold Lib.trimLeftB
      rw [List.cons_append, List.dropWhile_cons_of_neg]
      · rfl
      · intro h
        have : c = 48 := by simpa using h
        rw [this] at hc49
        exact absurd hc49 (by decide)
    rw [e6] at h6
    exact h6
  · intro w
    have h7 := Tryz.strings_TrimRight_one (bl (Lib.decDigits N ++ [48])) 48 (by decide) w (by rw [bl_size]; simp; omega)
    rw [bl_data, trimR_zero] at h7
    exact h7
end Go.Proofs.YtnjbdaonmgadaaaGreatDoor
