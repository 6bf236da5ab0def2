/- The document's Reader, method by method: the answer, what is left, the error. -/
import Derived.Test.YtcmembmaaebdeaaReadN
namespace Go.Proofs.Ytcmembmaaebdeaa
open Go.RowKit Go.PlainAid Go.Lib

theorem RefR.refl {w : World} {M d : Nat} {l : List UInt8} {e : Int} (h : RefR w M d l e) : RefR w M d l e ∧ Keep [d] w w := ⟨h, Keep.refl _ _⟩

set_option maxRecDepth 1000000 in
set_option maxHeartbeats 3200000 in
theorem rfByte_any (M d : Nat) (l : List UInt8) (e : Int) (w : World) (hr : RefR w M d l e) (hl : l.length ≤ 140737488355328) :
    Calls Try.prog 53 #[.pointer (some ⟨d, 0, none⟩)] w fun x w' => x = .returned (.int .u8 ((rdOf 0 l e (byteL l)).1 : Nat)) ∧ RefR w' M d (rdOf 0 l e (byteL l)).2.1 (rdOf 0 l e (byteL l)).2.2 ∧ Keep [d] w w' := by
  have herr := hr.err
  obtain ⟨v, h1, h2, h3⟩ := hr.b
  obtain ⟨ao, cap, rfl, hlc, hcm, _, _⟩ := h2.ex
  have HR : Hid (RefR w M d l e) := hr
  clear hr h2 h3
  by_cases he : e = 0
  · subst he
    rw [rdOf_pos]
    cases l with
    | nil =>
      have hl0 : (([] : List UInt8).length : Int) = 0 := rfl
      go_enter Try.func53, Try.ntmps53
      go_wp2_with (first | (go_at_call 84; refine (refuse_any M d [] 0 20 _ HR.out).mono ?_; rintro e9 w9 ⟨rfl, R9, K9⟩))
      go_ret
      exact ⟨rfl, R9, K9⟩
    | cons c r =>
      have hl1 : (((c :: r).length : Int) == 0) = false := by simp only [beq_eq_false_iff_ne, List.length_cons]; omega
      have hl2 : ((r.length : Int) + 1 == 0) = false := by simp only [beq_eq_false_iff_ne]; omega
      have hT := take_any M d 1 (c :: r) 0 w HR.out (by simp) hl
      go_enter Try.func53, Try.ntmps53
      go_wp2_with fail
      refine hT.mono ?_
      rintro e9 w9 ⟨v9, rfl, R9, F9, S9, K9⟩
      have hc9 : ∃ g cp, v9 = .slice (some ⟨g, 0, none⟩) 1 cp ∧ w9.cell? ⟨g, 0, none⟩ = some (.int .u8 (c.toNat : Int)) := by
        rcases R9.2 with ⟨_, h⟩ | ⟨g, cp, cur, h, _⟩
        · simp at h
        · refine ⟨g, cp, by simpa using h, ?_⟩
          have := World.ownsRow.cellAt (h ▸ R9) 0 (by simp)
          rw [this]
          simp [bv]
      obtain ⟨g, cp, rfl, hc9⟩ := hc9
      have HS : Hid (RefR w9 M d r 0 ∧ Keep [d] w w9) := ⟨S9, K9⟩
      clear hT R9 F9 S9 K9
      go_wp2
      go_ret
      exact ⟨rfl, HS.out⟩
  · rw [rdOf_neg _ _ _ _ he]
    have hne : (e != 0) = true := by simpa using he
    go_enter Try.func53, Try.ntmps53
    go_wp2
    go_ret
    exact ⟨rfl, HR.out.refl⟩

set_option maxRecDepth 1000000 in
set_option maxHeartbeats 3200000 in
theorem rfUint_any (M d : Nat) (l : List UInt8) (e : Int) (w : World) (hr : RefR w M d l e) (hl : l.length ≤ 140737488355328) :
    Calls Try.prog 54 #[.pointer (some ⟨d, 0, none⟩)] w fun x w' => x = .returned (.int .u64 ((rdOf 0 l e (numL l)).1 : Nat)) ∧ RefR w' M d (rdOf 0 l e (numL l)).2.1 (rdOf 0 l e (numL l)).2.2 ∧ Keep [d] w w' := by
  have herr := hr.err
  obtain ⟨v, h1, h2, h3⟩ := hr.b
  have HR : Hid (RefR w M d l e) := hr
  by_cases he : e = 0
  · subst he
    rw [rdOf_pos]
    have hN := refNumber_any v l w h2
    have hz := numL_zero l
    have hsz := numL_size l
    generalize numL l = R at hN hz hsz ⊢
    obtain ⟨x, n, er⟩ := R
    simp only at hN hz hsz ⊢
    clear hr h2 h3
    by_cases her : er = 0
    · subst her
      have hT := take_any M d n l 0 w HR.out hsz hl
      clear hz
      go_enter Try.func54, Try.ntmps54
      go_wp2_with (first
        | (go_at_call 86; refine hN.mono ?_; rintro e8 w8 ⟨rfl, hw8⟩; obtain rfl := hw8.symm)
        | (go_at_call 85; refine hT.mono ?_; rintro e9 w9 ⟨v9, rfl, _, _, S9, K9⟩))
      go_ret
      exact ⟨rfl, S9, K9⟩
    · obtain ⟨rfl, rfl⟩ := hz her
      have hne : (er != 0) = true := by simpa using her
      rw [List.drop_zero]
      clear hz
      go_enter Try.func54, Try.ntmps54
      go_wp2_with (first
        | (go_at_call 86; refine hN.mono ?_; rintro e8 w8 ⟨rfl, hw8⟩; obtain rfl := hw8.symm)
        | (go_at_call 84; refine (refuse_any M d l 0 er _ HR.out).mono ?_; rintro e9 w9 ⟨rfl, R9, K9⟩))
      go_ret
      exact ⟨rfl, R9, K9⟩
  · rw [rdOf_neg _ _ _ _ he]
    have hne : (e != 0) = true := by simpa using he
    clear hr h2 h3
    go_enter Try.func54, Try.ntmps54
    go_wp2
    go_ret
    exact ⟨rfl, HR.out.refl⟩

end Go.Proofs.Ytcmembmaaebdeaa
