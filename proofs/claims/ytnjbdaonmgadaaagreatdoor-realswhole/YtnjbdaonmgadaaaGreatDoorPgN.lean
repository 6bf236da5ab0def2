/- The program's Parse of any whole number's text. -/
import Derived.Test.YtnjbdaonmgadaaaGreatDoorPgM
namespace Go.Proofs.YtnjbdaonmgadaaaGreatDoor
open Go.RowKit Go.PlainAid

abbrev sZ : ByteArray := ⟨#[48, 46, 48]⟩
set_option maxRecDepth 1000000 in
theorem cutZ (w : World) : Calls Tryz.prog 32 #[.string sZ, .string ⟨#[46]⟩] w fun e w' => e = .returned (.tuple #[.string ⟨#[48]⟩, .string ⟨#[48]⟩, .bool true]) ∧ ∃ n, w' = w.drewN n := by
  have h := cut_at sZ 46 1 (by decide) (by decide) (by decide) w
  have e1 : sZ.extract 0 1 = ⟨#[48]⟩ := by decide
  have e2 : sZ.extract (1 + 1) sZ.size = ⟨#[48]⟩ := by decide
  rw [e1, e2] at h
  exact h
theorem trimL_z (w : World) : Calls Tryz.prog 35 #[.string ⟨#[48, 48]⟩, .string ⟨#[48]⟩] w fun e w' => e = .returned (.string ⟨#[]⟩) ∧ w' = w :=
  Tryz.strings_TrimLeft_one ⟨#[48, 48]⟩ 48 (by decide) w
theorem trimR_z (w : World) : Calls Tryz.prog 36 #[.string ⟨#[]⟩, .string ⟨#[48]⟩] w fun e w' => e = .returned (.string ⟨#[]⟩) ∧ w' = w :=
  Tryz.strings_TrimRight_one ⟨#[]⟩ 48 (by decide) w (by decide)
set_option maxRecDepth 1000000 in
set_option maxHeartbeats 1000000 in
theorem cutq_zero (w : World) : Calls Tryz.prog 20 #[.string sZ] w fun e w' => e = .returned (.tuple #[.agg #[.string ⟨#[]⟩, .int .i64 (-2)], .bool true]) ∧ Below w.heap.size w w' := by
  have h1 := cut_none sZ 101 (by decide)
  have h2 := cutZ
  have h3 := cutPrefix_no ⟨#[]⟩ (by decide)
  go_enter Tryz.func20, Tryz.ntmps20
  go_wp2_with (first
    | (go_at_call_of 32 (Value.string ⟨#[101]⟩); refine (h1 _).mono ?_; rintro e9 w9 ⟨rfl, hw9⟩; obtain rfl := hw9.symm)
    | (go_at_call_of 32 (Value.string ⟨#[46]⟩); refine (h2 _).mono ?_; rintro e9 w9 ⟨rfl, n9, rfl⟩)
    | (go_at_call 17; refine (h3 _).mono ?_; rintro e9 w9 ⟨rfl, hw9⟩; obtain rfl := hw9.symm)
    | (go_at_call 33; refine (digits_0 _).mono ?_; rintro e9 w9 ⟨rfl, hw9⟩; obtain rfl := hw9.symm)
    | (go_at_call 34; refine (atMostFar_none _).mono ?_; rintro e9 w9 ⟨rfl, hw9⟩; obtain rfl := hw9.symm)
    | (go_at_call 35; refine (trimL_z _).mono ?_; rintro e9 w9 ⟨rfl, hw9⟩; obtain rfl := hw9.symm)
    | (go_at_call 36; refine (trimR_z _).mono ?_; rintro e9 w9 ⟨rfl, hw9⟩; obtain rfl := hw9.symm))
  refine bodyPost_ret (v := .tuple #[.agg #[.string ⟨#[]⟩, .int .i64 (-2)], .bool true]) (by simp [results, Tryz.results20, go_sem]) rfl ⟨rfl, by go_grown; exact below_drewN (by go_grown) _⟩
set_option maxRecDepth 1000000 in
theorem nearest_zero (w : World) : Calls Tryz.prog 21 #[.agg #[.string ⟨#[]⟩, .int .i64 (-2)]] w fun e w' => e = .returned (.tuple #[.float .f32 0, .bool true]) ∧ Below w.heap.size w w' := by
  go_enter Tryz.func21, Tryz.ntmps21
  go_wp2
  go_ret2
  exact ⟨rfl, by go_grown⟩

theorem ne_word (l : List UInt8) (c : UInt8) (m : List UInt8) (h : ∀ x ∈ l, x ≠ c) : ((bl l).toList == c :: m) = false := by
  rw [ByteArray.toList_eq, bl_data]
  cases l with
  | nil => rfl
  | cons x l =>
    have := h x (List.mem_cons_self ..)
    simp [this]

/-- the text of any whole number and .0 -/
theorem parse_int (n : Int) (h1 : -9223372036854775808 ≤ n) (h2 : n ≤ 9223372036854775807) (w : World) (hT : TabA w) :
    Calls Tryz.prog 7 #[.string (bl (Lib.itoa n ++ [46, 48]))] w fun e w' => e = .returned (.tuple #[.float .f32 (fromI n), .int .i64 0]) ∧ Below w.heap.size w w' := by
  have hpref := fun w => Tryz.strings_CutPrefix (bl (Lib.itoa n ++ [46, 48])) ⟨#[45]⟩ w
  rw [bl_data] at hpref
  by_cases h0 : n = 0
  · subst h0
    have e0 : Lib.itoa 0 ++ [46, 48] = [48, 46, 48] := by
      unfold Lib.itoa; rw [if_neg (by decide), Lib.decDigits_one (by decide)]; rfl
    rw [e0] at hpref ⊢
    have ef : fromI 0 = 0 := by decide
    rw [ef]
    have e1 : Lib.hasPrefix [48, 46, 48] (⟨#[45]⟩ : ByteArray).data.toList = false := by decide
    have e2 : (⟨(Lib.trimPrefix [48, 46, 48] (⟨#[45]⟩ : ByteArray).data.toList).toArray⟩ : ByteArray) = bl [48, 46, 48] := by decide
    rw [e1, e2] at hpref
    exact parse_raw _ _ ⟨#[]⟩ (-2) false 0 0 w (by decide) (if_neg (by decide)) hpref (ne_word _ _ _ (by decide)) (ne_word _ _ _ (by decide)) cutq_zero (fun w' _ => nearest_zero w')
  · obtain ⟨N, hN⟩ : ∃ N, N = n.natAbs := ⟨_, rfl⟩
    have hN0 : 0 < N := by omega
    have hN1 : N ≤ 9223372036854775808 := by omega
    obtain ⟨a1, a2, _, _, _⟩ := near_whole N hN0 hN1
    have hdig : Dig (Lib.decDigits N) := dec_digit N
    have hnot : ∀ c : UInt8, 57 < c.toNat → ∀ x ∈ Lib.decDigits N ++ [46, 48], x ≠ c := by
      intro c hc x hx
      rcases List.mem_append.1 hx with hx | hx
      · exact dig_not _ hdig c (.inr hc) x hx
      · intro e
        rw [e] at hx
        have : c = 46 ∨ c = 48 := by simpa using hx
        rcases this with h | h <;> (rw [h] at hc; exact absurd hc (by decide))
    have hnear := fun w' (hb : Below w.heap.size w w') => nearest_whole N hN0 hN1 w' (hT.below hb)
    by_cases hn : n < 0
    · have ei : Lib.itoa n = 45 :: Lib.decDigits N := by unfold Lib.itoa; rw [if_pos hn, hN]
      rw [ei] at hpref ⊢
      have e1 : Lib.hasPrefix (45 :: Lib.decDigits N ++ [46, 48]) (⟨#[45]⟩ : ByteArray).data.toList = true := by
        show List.isPrefixOf [45] (45 :: _) = true
        simp
      have e2 : (⟨(Lib.trimPrefix (45 :: Lib.decDigits N ++ [46, 48]) (⟨#[45]⟩ : ByteArray).data.toList).toArray⟩ : ByteArray) = bl (Lib.decDigits N ++ [46, 48]) := by
        unfold Lib.trimPrefix
        rw [if_pos e1]
        rfl
      rw [e1, e2] at hpref
      refine parse_raw _ _ _ _ true (rndR (N * P149)) (fromI n) w (by omega) ?_ hpref (ne_word _ _ _ ?_) (ne_word _ _ _ (hnot 105 (by decide))) (fun w => cut_whole N hN0 (by omega) w) hnear
      · rw [fromI_p, if_pos hn, if_pos rfl, hN]
      · intro x hx
        rcases List.mem_cons.1 hx with rfl | hx
        · decide
        · exact hnot 110 (by decide) x hx
    · have ei : Lib.itoa n = Lib.decDigits N := by
        unfold Lib.itoa; rw [if_neg hn, hN]; congr 1; omega
      rw [ei] at hpref ⊢
      obtain ⟨c, ds, hc, hc49⟩ := dec_head N hN0
      have e1 : Lib.hasPrefix (Lib.decDigits N ++ [46, 48]) (⟨#[45]⟩ : ByteArray).data.toList = false := by
        rw [hc]
        show List.isPrefixOf [45] (c :: _) = false
        have : c ≠ 45 := by intro e; rw [e] at hc49; exact absurd hc49 (by decide)
        simp [List.isPrefixOf, this.symm]
      have e2 : (⟨(Lib.trimPrefix (Lib.decDigits N ++ [46, 48]) (⟨#[45]⟩ : ByteArray).data.toList).toArray⟩ : ByteArray) = bl (Lib.decDigits N ++ [46, 48]) := by
        unfold Lib.trimPrefix
        rw [e1]
        rfl
      rw [e1, e2] at hpref
      refine parse_raw _ _ _ _ false (rndR (N * P149)) (fromI n) w (by omega) ?_ hpref (ne_word _ _ _ (hnot 110 (by decide))) (ne_word _ _ _ (hnot 105 (by decide))) (fun w => cut_whole N hN0 (by omega) w) hnear
      rw [fromI_p, if_neg hn, hN, if_neg (by decide)]
end Go.Proofs.YtnjbdaonmgadaaaGreatDoor
