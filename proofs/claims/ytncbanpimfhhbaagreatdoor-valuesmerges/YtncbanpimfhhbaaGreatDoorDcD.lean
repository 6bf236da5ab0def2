/- readTexts: as many texts as a number says, at most 32. -/
import Derived.Test.YtncbanpimfhhbaaGreatDoorDcN
import Derived.Test.YtncbanpimfhhbaaGreatDoorLtA
namespace Go.Proofs.YtncbanpimfhhbaaGreatDoor
open Go.RowKit Go.PlainAid Go.Lib

def readT : Nat → List UInt8 → Int → List ByteArray
  | 0, _, _ => []
  | k + 1, l, e => ⟨(rdOf [] l e (textL l 256)).1.toArray⟩ :: readT k (rdOf [] l e (textL l 256)).2.1 (rdOf [] l e (textL l 256)).2.2
theorem readT_len : ∀ k l e, (readT k l e).length = k
  | 0, _, _ => rfl
  | k + 1, l, e => by rw [readT, List.length_cons, readT_len]
theorem textL_short (l : List UInt8) : (textL l 256).1.length ≤ 256 := by
  unfold textL
  (repeat' split) <;> simp <;> omega
theorem rd_short (l : List UInt8) (e : Int) : (rdOf [] l e (textL l 256)).1.length ≤ 256 := by
  unfold rdOf
  split
  · exact textL_short l
  · simp
theorem readT_short : ∀ k l e, ∀ s ∈ readT k l e, s.size ≤ 256
  | 0, _, _ => fun s hs => by cases hs
  | k + 1, l, e => fun s hs => by
    rw [readT] at hs
    rcases List.mem_cons.1 hs with h | h
    · subst h; exact rd_short l e
    · exact readT_short k _ _ s h
/-- the list that readTexts reads -/
def readL (l : List UInt8) (e : Int) : List ByteArray := readT (min (rdOf 0 l e (numL l)).1 32) (rdOf 0 l e (numL l)).2.1 (rdOf 0 l e (numL l)).2.2

set_option maxRecDepth 1000000 in
set_option maxHeartbeats 800000 in
theorem readTexts_any (b o : Nat) (l : List UInt8) (e : Int) (rb : Option Nat) (w : World) (hr : Rd w b o l e rb) :
    Calls Tryz.prog 63 #[.pointer (some ⟨b, o, none⟩)] w fun x w' => ∃ v, x = .returned v ∧ (Ts w' v (readL l e) ∧ ∃ a n c, v = .slice a n c) ∧ Keep [b] w w' ∧ ∀ k, v.ownBlock = some k → w.heap.size ≤ k := by
  have hU := rUint_any b o l e rb w hr
  have HB : Hid (b < w.heap.size ∧ ∀ k, rb = some k → k < w.heap.size) := ⟨hr.blt, hr.lt⟩
  have hL : Hid (readL l e = readT (min (rdOf 0 l e (numL l)).1 32) (rdOf 0 l e (numL l)).2.1 (rdOf 0 l e (numL l)).2.2) := (rfl : readL l e = _)
  generalize (rdOf 0 l e (numL l)).1 = n at *
  generalize (rdOf 0 l e (numL l)).2.1 = l1 at *
  generalize (rdOf 0 l e (numL l)).2.2 = e1 at *
  generalize readL l e = R at *
  clear hr
  obtain ⟨m, hm⟩ : ∃ m, m = min n 32 := ⟨_, rfl⟩
  have HM : Hid (m = min n 32) := hm
  have hm32 : m ≤ 32 := by omega
  rw [← hm] at hL
  clear hm
  by_cases hn32 : n ≤ 32
  all_goals
    go_enter Tryz.func63, Tryz.ntmps63
    go_wp2_with fail
    refine hU.mono ?_
    rintro e9 w1 ⟨rfl, h1, h2⟩
    have HR : Hid (Rd w1 b o l1 e1 rb ∧ Keep [b] w w1) := ⟨h1, h2⟩
    clear h1 h2 hU
    first | (have hq : (n : Int) ≤ 32 := by omega) | (have hq : (32 : Int) < (n : Int) := by omega)
    go_wp2
    go_loopw [3, 7] (fun z3 z7 wr => ∃ (k : Nat) (D : List ByteArray) (l' : List UInt8) (e' : Int), z7 = .int .u64 (k : Int) ∧ k ≤ m ∧ Hid (RowS wr z3 D ∧ D.length = k ∧ R = D ++ readT (m - k) l' e' ∧ Rd wr b o l' e' rb ∧ Keep [b] w wr ∧ ∀ x, z3.ownBlock = some x → w.heap.size ≤ x)) (fun _ z7 _ => m - (intOf z7).toNat)
    case atStart => exact ⟨0, [], l1, e1, rfl, Nat.zero_le _, ⟨World.ownsRow_nil _ 0 9 1, rfl, hL.out, HR.out.1, HR.out.2, fun x hx => by simp [Value.ownBlock] at hx⟩⟩
    case round =>
      clear HR
      obtain ⟨k, D, l', e', rfl, hk, hI⟩ := hrel
      by_cases hlt : k < m
      · have hk1 : (k : Int) < (n : Int) := by have := HM.out; omega
        have hk2 : (k : Int) < 32 := by omega
        have hT := rText_any b o l' e' rb 256 (by omega) _ hI.out.2.2.2.1
        have HS1 : Hid (readT (m - k) l' e' = ⟨(rdOf [] l' e' (textL l' 256)).1.toArray⟩ :: readT (m - (k + 1)) (rdOf [] l' e' (textL l' 256)).2.1 (rdOf [] l' e' (textL l' 256)).2.2) := by
          show _ = _
          rw [show m - k = (m - (k + 1)) + 1 by omega, readT]
        generalize (⟨(rdOf [] l' e' (textL l' 256)).1.toArray⟩ : ByteArray) = t at hT HS1
        generalize (rdOf [] l' e' (textL l' 256)).2.1 = l2 at hT HS1
        generalize (rdOf [] l' e' (textL l' 256)).2.2 = e2 at hT HS1
        go_wp2_with fail
        refine hT.mono ?_
        rintro e9 w2 ⟨rfl, t1, t2⟩
        have hal : Hid ((D.length + 1) * 16 ≤ 140737488355328 ∧ D.length + 1 ≤ maxLen) := by
          show _ ∧ _
          have := hI.out.2.1
          refine ⟨by omega, ?_⟩
          unfold maxLen; omega
        have hoff : Off u3 [b] := fun x hx hm => by
          have h1 := hI.out.2.2.2.2.2 x hx
          have h2 := HB.out.1
          simp at hm
          omega
        have HS : Hid _ := src_str w2 t
        have HR2 : Hid (RowS (w2.alloc (.cells #[.string t] 9 (0, 0))) u3 D) := (RowC.keep hI.out.1 t2 hoff).keep (Keep.alloc1 w2 _) (Off.nil _)
        have HI2 : Hid (D.length = k ∧ R = D ++ readT (m - k) l' e' ∧ Rd w2 b o l2 e2 rb ∧ Keep [b] w w2 ∧ ∀ x, u3.ownBlock = some x → w.heap.size ≤ x) := ⟨hI.out.2.1, hI.out.2.2.1, t1, hI.out.2.2.2.2.1.trans' t2, hI.out.2.2.2.2.2⟩
        clear hT t1 t2 hI hoff
        go_wp2_with (at_builtin; refine wp_appC infoS rfl rfl (.tmp 9) (.tmp 12) 29 29 rfl Tryz.underlying29 u3 D.length (strC D) rfl HR2.out _ 1 [.string t] rfl HS.out hal.out.1 hal.out.2 ?_)
        intro v9 w9 R9 K9 F9 S9 _
        have hx : Hid (RowS w9 v9 (D ++ [t]) ∧ (D ++ [t]).length = k + 1 ∧ R = (D ++ [t]) ++ readT (m - (k + 1)) l2 e2 ∧ Rd w9 b o l2 e2 rb ∧ Keep [b] w w9 ∧ ∀ x, v9.ownBlock = some x → w.heap.size ≤ x) := by
          obtain ⟨i1, i2, i3, i4, i5⟩ := HI2.out
          have hsz := i4.size
          refine ⟨?_, by simp [i1], by rw [i2, HS1.out]; simp, ?_, ?_, ?_⟩
          · unfold RowS; rw [strC_snoc, List.length_append]; exact R9
          · refine (i3.keep (Keep.alloc1 w2 _) (by simp) (fun _ _ => by simp)).keep K9 (fun hm => ?_) (fun x hx hm => ?_)
            · have := i5 b (by simpa using hm)
              have := HB.out.1
              omega
            · have h1 := i5 x (by simpa using hm)
              have := HB.out.2 x hx
              omega
          · exact (i4.alloc _).more K9 (fun x hx => .inr (i5 x (by simpa using hx)))
          · intro x hx
            rcases F9 with e | e
            · rw [e] at hx; exact i5 x hx
            · have := (e x hx).1; simp at this; omega
        obtain ⟨a9, c9, rfl⟩ := S9
        clear R9 K9 F9 HR2 HS HI2 HS1
        go_wp2
        go_roundw
        case rel => exact ⟨k + 1, _, l2, e2, by go_num, by omega, hx⟩
        case measure => simp [intOf]; omega
      · have hkm : k = m := by omega
        have HF : Hid ((Ts wr u3 R ∧ ∃ a n c, u3 = .slice a n c) ∧ Keep [b] w wr ∧ ∀ x, u3.ownBlock = some x → w.heap.size ≤ x) := by
          obtain ⟨i0, i1, i2, i3, i4, i5⟩ := hI.out
          have hR : R = D := by rw [i2, show m - k = 0 by omega, readT, List.append_nil]
          have hsm : ∀ s ∈ D, s.size ≤ 9223372036854775807 := fun s hs => by
            have : s ∈ readT m l1 e1 := by rw [← hL.out, hR]; exact hs
            have := readT_short _ _ _ s this
            omega
          refine ⟨?_, i4, i5⟩
          rw [hR]
          rcases RowC.cases i0 with ⟨h0, _, h3⟩ | ⟨g, cap, h3, _⟩
          · subst h3
            have : D = [] := List.eq_nil_of_length_eq_zero h0
            subst this
            exact ⟨Ts.nil _, _, _, _, rfl⟩
          · rw [h3] at i0 ⊢
            exact ⟨Ts.ofRow i0 hsm rfl, _, _, _, rfl⟩
        have hk1 : n ≤ 32 → ¬ (k : Int) < (n : Int) := fun h => by have := HM.out; omega
        have hk2 : ¬ n ≤ 32 → ¬ (k : Int) < 32 := fun h => by have := HM.out; omega
        first | (have hk3 := hk1 hn32) | (have hk3 := hk2 hn32)
        clear hI hk1 hk2
        go_wp2
        go_ret
        exact ⟨_, rfl, HF.out⟩
end Go.Proofs.YtncbanpimfhhbaaGreatDoor

