/- The document's decimal. -/
import Derived.Test.YtjdihnkcigoajaaGreatDoorNgP
import Derived.Test.YtjdihnkcigoajaaGreatDoorNgB
import Derived.Deep.RegionWith
import Derived.Handy
import Derived.Test.YtjdihnkcigoajaaGreatDoorTxP

namespace Go.Proofs.YtjdihnkcigoajaaGreatDoor
open Go.RowKit Go.PlainAid

theorem str_cell (w : World) (b : Nat) (k : Int) (hc : w.cell? ⟨b, 0, none⟩ = some (.int .u8 k)) : (convert 31 9 (.slice (some ⟨b, 0, none⟩) 1 1)).run Tryz.prog w = .ok (.string ⟨#[UInt8.ofNat k.toNat]⟩) w := by
  rw [run_convert_bytes_string w 31 9 5 _ _ _ underS Tryz.underlying5 Tryz.underlying9]
  have hld : (loadCells ⟨b, 0, none⟩ 1).run Tryz.prog w = .ok (([k] : List Int).map (Value.int .u8)).toArray w := by
    have := run_loadCells_list (P := Tryz.prog) w ⟨b, 0, none⟩ [.int .u8 k] (by
      intro j u hu
      match j, hu with
      | 0, hu =>
        simp only [List.getElem?_cons_zero, Option.some.injEq] at hu
        rw [← hu, ← hc]
        rfl)
    exact this
  rw [run_bytesToString w _ 1 1 _ hld]
  rfl

theorem str_later {w0 w9 : World} (b : Nat) (k : Int) (h : Below w0.heap.size w0 w9) (hb : b < w0.heap.size) (hc : w0.cell? ⟨b, 0, none⟩ = some (.int .u8 k)) : (convert 31 9 (.slice (some ⟨b, 0, none⟩) 1 1)).run Tryz.prog w9 = .ok (.string ⟨#[UInt8.ofNat k.toNat]⟩) w9 :=
  str_cell w9 b k ((h.cell hb).trans hc)

theorem ofNat_toNat (C : Int) : (⟨#[UInt8.ofNat C.toNat]⟩ : ByteArray).data.toList = [UInt8.ofNat C.toNat] := rfl

set_option maxRecDepth 1000000 in
set_option maxHeartbeats 400000 in
theorem dec_step (q m : Nat) (h10 : 10 ≤ q) (hm : m ≤ 20) (hq : q ≤ 1000000000000) (w : World) (ih : ∀ w : World, Calls Tryz.prog 51 #[.int .i64 ((q / 10 : Nat) : Int)] w fun e w' => (∃ T : ByteArray, e = .returned (.string T) ∧ T.data.toList = decL (q / 10) m) ∧ Below w.heap.size w w') :
    Calls Tryz.prog 51 #[.int .i64 (q : Int)] w fun e w' => (∃ T : ByteArray, e = .returned (.string T) ∧ T.data.toList = decL q (m + 1)) ∧ Below w.heap.size w w' := by
  have hi : ¬ (q : Int) < 10 := by omega
  obtain ⟨D, hD⟩ : ∃ D : Int, (q : Int).tdiv 10 = D := ⟨_, rfl⟩
  obtain ⟨R, hR⟩ : ∃ R : Int, (q : Int).tmod 10 = R := ⟨_, rfl⟩
  obtain ⟨C, hC⟩ : ∃ C : Int, 48 + R = C := ⟨_, rfl⟩
  have hDq : ((q / 10 : Nat) : Int) = D := by rw [← hD, Int.tdiv_eq_ediv_of_nonneg (by omega)]; omega
  have hRq : R = ((q % 10 : Nat) : Int) := by rw [← hR, Int.tmod_eq_emod_of_nonneg (by omega)]; omega
  have hC0 : 48 ≤ C := by omega
  have hC1 : C ≤ 57 := by omega
  have hR0 : 0 ≤ R := by omega
  have hR1 : R ≤ 9 := by omega
  have HC : Hid (C.toNat = 48 + q % 10) := show C.toNat = 48 + q % 10 by omega
  rw [hDq] at ih
  have hS1 := str_cell (w.alloc (Obj.cells #[.int .u8 C] 5)).drew w.heap.size C (by simp)
  have hD0 : 0 ≤ D := by omega
  have hD1 : D ≤ 1000000000000 := by omega
  have HZ : Hid (∀ T : ByteArray, T.data.toList = decL (q / 10) m → T.size ≤ 20) := fun T h => by
    have h3 : T.data.toList.length = T.size := Array.length_toList
    rw [← h3, h, decL_len]
    exact hm
  clear hDq hRq hq h10 hm
  have hw1 : IntKind.i64.wrap D = D := by go_arith
  have hw2 : IntKind.i64.wrap C = C := by go_arith
  have hw3 : IntKind.u8.wrap C = C := by go_arith
  go_enter Tryz.func51, Tryz.ntmps51
  go_wp2_with fail
  go_region_with (go_at_call 51; refine (ih _).mono ?_; rintro e9 w9 ⟨⟨T, rfl, hT⟩, hb⟩; have hS2 := one_str w9 C; have hz := HZ.out T hT; have hS3 := str_later w.heap.size C hb; simp at hS3)
  all_goals
    go_wp2_with fail
    go_ret
    refine ⟨⟨_, rfl, ?_⟩, Keep.below ?_⟩
    · rw [ba_app, hT, decL_succ, ← HC.out, ofNat_toNat C]
    · first
        | exact ((Keep.refl [] w).alloc _).drew.trans' (Keep.ofBelow hb)
        | exact ((Keep.refl [] w).drew.trans' (Keep.ofBelow hb)).alloc _

theorem dec_one (q : Nat) (h : q < 10) (w : World) : Calls Tryz.prog 51 #[.int .i64 (q : Int)] w fun e w' => (∃ T : ByteArray, e = .returned (.string T) ∧ T.data.toList = decL q 1) ∧ Below w.heap.size w w' := by
  rw [decL_one q h]
  exact decimal_digit q h w
/-- the document's decimal of a number of m digits -/
theorem decimal_any : ∀ (m q : Nat), 1 ≤ m → m ≤ 12 → 10 ^ (m - 1) ≤ q ∨ m = 1 → q < 10 ^ m → ∀ w : World, Calls Tryz.prog 51 #[.int .i64 (q : Int)] w fun e w' => (∃ T : ByteArray, e = .returned (.string T) ∧ T.data.toList = decL q m) ∧ Below w.heap.size w w' := by
  intro m
  induction m with
  | zero => intro q h; omega
  | succ m ih =>
    intro q _ hm h1 h2 w
    rcases Nat.eq_zero_or_pos m with h0 | h0
    · subst h0
      exact dec_one q h2 w
    · have h1 := h1.resolve_right (by omega)
      rw [Nat.add_sub_cancel] at h1
      obtain ⟨r, rfl⟩ : ∃ r, m = r + 1 := ⟨m - 1, by omega⟩
      rw [Nat.pow_succ] at h1
      rw [Nat.pow_succ] at h2
      have hp : 1 ≤ 10 ^ r := Nat.one_le_pow _ _ (by decide)
      have hq : 10 ^ (r + 1) * 10 ≤ 10 ^ 12 := by rw [← Nat.pow_succ]; exact Nat.pow_le_pow_right (by decide) hm
      have hq2 : (10 : Nat) ^ 12 = 1000000000000 := by decide
      refine dec_step q (r + 1) (by omega) (by omega) (by omega) w (fun w => ?_)
      refine ih (q / 10) (by omega) (by omega) (.inl ?_) ?_ w
      · rw [Nat.add_sub_cancel]
        omega
      · omega

end Go.Proofs.YtjdihnkcigoajaaGreatDoor


/- The document's noughts, for up to a thousand of them. -/
namespace Go.Proofs.YtjdihnkcigoajaaGreatDoor
open Go.RowKit Go.PlainAid

set_option maxRecDepth 1000000 in
set_option maxHeartbeats 1600000 in
theorem noughts_any (k : Nat) (hk : k ≤ 1000) (w : World) : Calls Tryz.prog 52 #[.int .i64 (k : Int)] w fun e w' => (∃ T : ByteArray, e = .returned (.string T) ∧ T.data.toList = List.replicate k 48) ∧ w' = w := by
  have hk3 : (k : Int) ≤ 1000 := by omega
  go_enter Tryz.func52, Tryz.ntmps52
  go_wp2
  go_loopw [3, 4] (fun sv iv wr => ∃ (T : ByteArray) (i : Nat), sv = .string T ∧ iv = .int .i64 (i : Int) ∧ i ≤ k ∧ Hid (T.data.toList = List.replicate i 48) ∧ wr = w) (fun _ iv _ => k - (intOf iv).toNat)
  case atStart => exact ⟨_, 0, rfl, rfl, Nat.zero_le _, (rfl : _ = _), rfl⟩
  case round =>
    obtain ⟨T, i, rfl, rfl, hik, hT, rfl⟩ := hrel
    by_cases h : i < k
    · have hi : (i : Int) < (k : Int) := by omega
      have hTs : T.size = i := by
        show T.data.size = i
        rw [← Array.length_toList, hT.out, List.length_replicate]
      have hN : Hid ((T ++ ⟨#[48]⟩ : ByteArray).data.toList = List.replicate (i + 1) 48) := by
        show _ = _
        rw [ba_app, hT.out, List.replicate_succ']
      go_wp2
      go_roundw
      case rel => exact ⟨_, i + 1, rfl, by go_num, by omega, hN, trivial⟩
      case measure => (simp [intOf]; try omega)
    · have hi : ¬ (i : Int) < (k : Int) := by omega
      obtain rfl : i = k := by omega
      go_wp2
      go_ret
      exact ⟨⟨_, rfl, hT.out⟩, rfl⟩

end Go.Proofs.YtjdihnkcigoajaaGreatDoor

