/- What is read at the beginning of some bytes: a byte, a number's short form, a turned one, a key. -/
import Derived.Test.YtncbanpimfhhbaaGreatDoorWMeth

namespace Go.Proofs.YtncbanpimfhhbaaGreatDoor
open Go.RowKit Go.PlainAid Go.Lib

def numG : List UInt8 → Nat → Nat → Nat × Nat × Int
  | [], _, _ => (0, 0, 20)
  | c :: r, i, acc => if (0 < i ∧ c.toNat = 0) ∨ (i = 9 ∧ 1 < c.toNat) then (0, 0, 21) else if c.toNat < 128 then (acc + c.toNat % 128 * 128 ^ i, i + 1, 0) else numG r (i + 1) (acc + c.toNat % 128 * 128 ^ i)
def numL (l : List UInt8) : Nat × Nat × Int := numG l 0 0

theorem pow7 (i : Nat) : 2 ^ (7 * i) = 128 ^ i := by rw [Nat.pow_mul]
theorem pow128_le (i : Nat) (h : i ≤ 8) : 128 ^ i ≤ 72057594037927936 := Nat.le_trans (Nat.pow_le_pow_right (by decide) h) (by decide)

theorem step_lt (acc c i : Nat) (hacc : acc < 128 ^ i) (hi : i ≤ 9) (h9 : i = 9 → c ≤ 1) : acc + c % 128 * 128 ^ i < 18446744073709551616 := by
  by_cases h : i = 9
  · have := h9 h
    subst h
    have e : 128 ^ 9 = 9223372036854775808 := by decide
    rw [e] at hacc ⊢
    have : c % 128 ≤ 1 := by omega
    have := Nat.mul_le_mul_right 9223372036854775808 this
    omega
  · have h8 := pow128_le i (by omega)
    have : c % 128 ≤ 127 := by omega
    have := Nat.mul_le_mul this h8
    omega

theorem next_lt (acc c i : Nat) (hacc : acc < 128 ^ i) : acc + c % 128 * 128 ^ i < 128 ^ (i + 1) := by
  have : c % 128 ≤ 127 := by omega
  have := Nat.mul_le_mul_right (128 ^ i) this
  rw [Nat.pow_succ]
  omega

theorem or_step (acc c i : Nat) (hacc : acc < 128 ^ i) (hc : c < 256) (hi : i ≤ 9) (h9 : i = 9 → c ≤ 1) :
    bits .or .u64 (acc : Int) (IntKind.u64.wrap (IntKind.u64.wrap (bits .andNot .u8 (c : Int) 128) * 2 ^ (7 * i))) = ((acc + c % 128 * 128 ^ i : Nat) : Int) := by
  have h1 : bits .andNot .u8 (c : Int) 128 = ((c % 128 : Nat) : Int) := by
    have h2 := u8_andNot_nat c 128 hc (by decide)
    have e : ((128 : Nat) : Int) = 128 := rfl
    rw [e] at h2
    rw [h2]
    have h3 : c &&& 127 = c % 2 ^ 7 := Nat.and_two_pow_sub_one_eq_mod c 7
    rw [show 255 - 128 = 127 from rfl, h3]
  have h2 : IntKind.u64.wrap ((c % 128 : Nat) : Int) = ((c % 128 : Nat) : Int) := by rw [IntKind.wrap_u64]; omega
  have hlt := step_lt acc c i hacc hi h9
  have h3 : ((c % 128 : Nat) : Int) * 2 ^ (7 * i) = ((c % 128 * 128 ^ i : Nat) : Int) := by
    rw [← pow7 i]
    simp
  have h4 : IntKind.u64.wrap ((c % 128 * 128 ^ i : Nat) : Int) = ((c % 128 * 128 ^ i : Nat) : Int) := by rw [IntKind.wrap_u64]; omega
  rw [h1, h2, h3, h4, u64_or_nat acc (c % 128 * 128 ^ i) (by omega) (by omega)]
  have h5 := Nat.two_pow_add_eq_or_of_lt (i := 7 * i) (b := acc) (by rw [pow7]; exact hacc) (c % 128)
  rw [pow7, Nat.mul_comm] at h5
  rw [Nat.or_comm, ← h5, Nat.add_comm]

theorem drop_cons (l : List UInt8) (i : Nat) (h : i < l.length) : l.drop i = l.getD i 0 :: l.drop (i + 1) := by
  rw [List.drop_eq_getElem_cons h, List.getD_eq_getElem?_getD, List.getElem?_eq_getElem h]
  rfl

set_option maxRecDepth 1000000 in
set_option maxHeartbeats 3200000 in
theorem short_some (b o cap : Nat) (l : List UInt8) (w : World) (_hl : l.length ≤ cap) (_hcap : cap ≤ 9223372036854775807)
    (hc : ∀ j, j < l.length → w.cell? ⟨b, o + j, none⟩ = some (.int .u8 ((l.getD j 0).toNat : Int))) :
    Calls Tryz.prog 124 #[.slice (some ⟨b, o, none⟩) l.length cap] w fun e w' => e = .returned (.tuple #[.int .u64 ((numL l).1 : Nat), .int .i64 ((numL l).2.1 : Nat), .int .i64 (numL l).2.2]) ∧ w' = w := by
  go_enter Tryz.func124, Tryz.ntmps124
  go_wp2
  go_loop [2, 9] (fun xv iv => ∃ (i acc : Nat), iv = .int .i64 (i : Int) ∧ xv = .int .u64 (acc : Int) ∧ i ≤ l.length ∧ i ≤ 9 ∧ acc < 128 ^ i ∧ numL l = numG (l.drop i) i acc)
    (fun _ iv => l.length - (intOf iv).toNat)
  case atStart => exact ⟨0, 0, rfl, rfl, Nat.zero_le _, by omega, by decide, rfl⟩
  case round =>
    obtain ⟨i, acc, rfl, rfl, hi, hi9, hacc, hnum⟩ := hrel
    by_cases hil : i < l.length
    · have hci := hc i hil
      rw [drop_cons l i hil] at hnum
      obtain ⟨c, hcd⟩ : ∃ c : Nat, c = (l.getD i 0).toNat := ⟨_, rfl⟩
      have hc255 : c < 256 := by rw [hcd]; exact (l.getD i 0).toNat_lt
      rw [← hcd] at hci
      rw [numG, ← hcd] at hnum
      clear hcd hc
      have hili : (i : Int) < (l.length : Int) := by omega
      by_cases hE : (0 < i ∧ c = 0) ∨ (i = 9 ∧ 1 < c)
      · rw [if_pos hE] at hnum
        rcases hE with ⟨h0, h1⟩ | ⟨h0, h1⟩
        · have t1 : (0 : Int) < (i : Int) := by omega
          have t2 : ((c : Int) == 0) = true := by simp; omega
          have HN : Hid (numL l = (0, 0, 21)) := hnum
          clear hnum h1
          go_wp2
          refine bodyPost_ret (v := .tuple #[.int .u64 0, .int .i64 0, .int .i64 21]) (by simp [results, Tryz.results124, go_sem]) rfl ⟨by rw [HN.out]; rfl, rfl⟩
        · have t1 : (0 : Int) < (i : Int) := by omega
          have t2 : ((c : Int) == 0) = false := by simp; omega
          have t3 : ((i : Int) == 9) = true := by simp; omega
          have t4 : (1 : Int) < (c : Int) := by omega
          have HN : Hid (numL l = (0, 0, 21)) := hnum
          clear hnum h0
          go_wp2
          refine bodyPost_ret (v := .tuple #[.int .u64 0, .int .i64 0, .int .i64 21]) (by simp [results, Tryz.results124, go_sem]) rfl ⟨by rw [HN.out]; rfl, rfl⟩
      · rw [if_neg hE] at hnum
        have hor := or_step acc c i hacc hc255 hi9 (by omega)
        by_cases hD : c < 128
        · rw [if_pos hD] at hnum
          have t5 : (c : Int) < 128 := by omega
          obtain ⟨A, hA⟩ : ∃ A, A = acc + c % 128 * 128 ^ i := ⟨_, rfl⟩
          rw [← hA] at hnum hor
          have HN : Hid (numL l = (A, i + 1, 0)) := hnum
          have HA : Hid (A = acc + c % 128 * 128 ^ i) := hA
          clear hnum hA hacc
          by_cases h0 : i = 0
          · have t1 : ¬ ((0 : Int) < (i : Int)) := by omega
            have t3 : ((i : Int) == 9) = false := by simp; omega
            clear hE h0
            go_wp2
            refine bodyPost_ret (v := .tuple #[.int .u64 (A : Int), .int .i64 ((i : Int) + 1), .int .i64 0]) (by simp [results, Tryz.results124, go_sem]) rfl ⟨by rw [HN.out]; rfl, rfl⟩
          · have t1 : (0 : Int) < (i : Int) := by omega
            have t2 : ((c : Int) == 0) = false := by simp; omega
            by_cases h9 : i = 9
            · have t3 : ((i : Int) == 9) = true := by simp; omega
              have t4 : ¬ ((1 : Int) < (c : Int)) := by omega
              clear hE h0 h9
              go_wp2
              refine bodyPost_ret (v := .tuple #[.int .u64 (A : Int), .int .i64 ((i : Int) + 1), .int .i64 0]) (by simp [results, Tryz.results124, go_sem]) rfl ⟨by rw [HN.out]; rfl, rfl⟩
            · have t3 : ((i : Int) == 9) = false := by simp; omega
              clear hE h0 h9
              go_wp2
              refine bodyPost_ret (v := .tuple #[.int .u64 (A : Int), .int .i64 ((i : Int) + 1), .int .i64 0]) (by simp [results, Tryz.results124, go_sem]) rfl ⟨by rw [HN.out]; rfl, rfl⟩
        · rw [if_neg hD] at hnum
          have t5 : ¬ ((c : Int) < 128) := by omega
          have HA := next_lt acc c i hacc
          obtain ⟨A, hA⟩ : ∃ A, A = acc + c % 128 * 128 ^ i := ⟨_, rfl⟩
          rw [← hA] at hnum hor HA
          have HN : Hid (numL l = numG (l.drop (i + 1)) (i + 1) A) := hnum
          have HB : Hid (A < 128 ^ (i + 1)) := HA
          have hi8 : i < 9 := by omega
          clear hnum hA hacc HA
          by_cases h0 : i = 0
          · have t1 : ¬ ((0 : Int) < (i : Int)) := by omega
            have t3 : ((i : Int) == 9) = false := by simp; omega
            clear hE h0
            go_wp2
            go_round
            case rel => exact ⟨i + 1, A, by go_num, rfl, by omega, by omega, HB.out, HN.out⟩
            case measure => simp [intOf]; omega
          · have t1 : (0 : Int) < (i : Int) := by omega
            have t2 : ((c : Int) == 0) = false := by simp; omega
            have t3 : ((i : Int) == 9) = false := by simp; omega
            clear hE h0
            go_wp2
            go_round
            case rel => exact ⟨i + 1, A, by go_num, rfl, by omega, by omega, HB.out, HN.out⟩
            case measure => simp [intOf]; omega
    · have hil2 : ¬ ((i : Int) < (l.length : Int)) := by omega
      rw [List.drop_of_length_le (by omega)] at hnum
      have HN : Hid (numL l = (0, 0, 20)) := hnum
      clear hnum hc
      go_wp2
      refine bodyPost_ret (v := .tuple #[.int .u64 0, .int .i64 0, .int .i64 20]) (by simp [results, Tryz.results124, go_sem]) rfl ⟨by rw [HN.out]; rfl, rfl⟩

end Go.Proofs.YtncbanpimfhhbaaGreatDoor



/- A Reader in memory: what it has left and its error; what is asked of it without reading. -/
namespace Go.Proofs.YtncbanpimfhhbaaGreatDoor
open Go.RowKit Go.PlainAid Go.Lib

/-- at b, o lies a Reader that has l left, in the block rb (or in none), and the error e -/
structure Rd (w : World) (b o : Nat) (l : List UInt8) (e : Int) (rb : Option Nat) : Prop where
  f0 : w.frozen? ⟨b, o, none⟩ = false
  f1 : w.frozen? ⟨b, o + 1, none⟩ = false
  ne : rb ≠ some b
  lt : ∀ k, rb = some k → k < w.heap.size
  err : w.cell? ⟨b, o + 1, none⟩ = some (.int .i64 e)
  rest : (l = [] ∧ rb = none ∧ w.cell? ⟨b, o, none⟩ = some (.slice none 0 0)) ∨
    (∃ b2 o2 cap, rb = some b2 ∧ w.cell? ⟨b, o, none⟩ = some (.slice (some ⟨b2, o2, none⟩) l.length cap) ∧ l.length ≤ cap ∧ cap ≤ 9223372036854775807 ∧
      ∀ j, j < l.length → w.cell? ⟨b2, o2 + j, none⟩ = some (.int .u8 ((l.getD j 0).toNat : Int)))

theorem Rd.blt {w : World} {b o : Nat} {l : List UInt8} {e : Int} {rb : Option Nat} (h : Rd w b o l e rb) : b < w.heap.size := World.block_lt_of_cell? w _ h.err

theorem Rd.keep {F : List Nat} {w w' : World} {b o : Nat} {l : List UInt8} {e : Int} {rb : Option Nat} (h : Rd w b o l e rb) (k : Keep F w w') (hb : b ∉ F) (hr : ∀ x, rb = some x → x ∉ F) : Rd w' b o l e rb := by
  refine ⟨(k.frozen (p := ⟨b, o, none⟩) h.blt hb).trans h.f0, (k.frozen (p := ⟨b, o + 1, none⟩) h.blt hb).trans h.f1, h.ne, fun x hx => Nat.lt_of_lt_of_le (h.lt x hx) k.size, k.cell' h.err hb, ?_⟩
  rcases h.rest with ⟨h1, h2, h3⟩ | ⟨b2, o2, cap, h1, h2, h3, h4, h5⟩
  · exact .inl ⟨h1, h2, k.cell' h3 hb⟩
  · exact .inr ⟨b2, o2, cap, h1, k.cell' h2 hb, h3, h4, fun j hj => k.cell' (h5 j hj) (hr b2 h1)⟩

theorem Rd.len {w : World} {b o : Nat} {l : List UInt8} {e : Int} {rb : Option Nat} (h : Rd w b o l e rb) : l.length ≤ 9223372036854775807 := by
  rcases h.rest with ⟨h1, _⟩ | ⟨b2, o2, cap, h1, h2, h3, h4, h5⟩
  · rw [h1]; simp
  · omega

/-- the Reader goes on: n bytes are read, and its error is er -/
theorem Rd.stored {w w1 : World} {b o : Nat} {l : List UInt8} {e : Int} {rb : Option Nat} (h : Rd w b o l e rb) (k : Keep [] w w1) (l' : List UInt8) (er : Int) (v : Value)
    (hv : (l' = [] ∧ rb = none ∧ v = .slice none 0 0) ∨ (∃ b2 o2 cap, rb = some b2 ∧ v = .slice (some ⟨b2, o2, none⟩) l'.length cap ∧ l'.length ≤ cap ∧ cap ≤ 9223372036854775807 ∧
      ∀ j, j < l'.length → w.cell? ⟨b2, o2 + j, none⟩ = some (.int .u8 ((l'.getD j 0).toNat : Int)))) :
    Rd ((w1.setCell ⟨b, o, none⟩ v).setCell ⟨b, o + 1, none⟩ (.int .i64 er)) b o l' er rb ∧ Keep [b] w1 ((w1.setCell ⟨b, o, none⟩ v).setCell ⟨b, o + 1, none⟩ (.int .i64 er)) := by
  have h1 := h.keep k (by simp) (fun _ _ => by simp)
  have K : Keep [b] w1 ((w1.setCell ⟨b, o, none⟩ v).setCell ⟨b, o + 1, none⟩ (.int .i64 er)) :=
    ((Keep.refl [b] w1).setCell (p := ⟨b, o, none⟩) (.inl (by simp)) v).setCell (p := ⟨b, o + 1, none⟩) (.inl (by simp)) _
  refine ⟨⟨?_, ?_, h1.ne, fun x hx => Nat.lt_of_lt_of_le (h1.lt x hx) K.size, ?_, ?_⟩, K⟩
  · rw [World.frozen?_setCell, World.frozen?_setCell]; exact h1.f0
  · rw [World.frozen?_setCell, World.frozen?_setCell]; exact h1.f1
  · have h9 : (w1.setCell ⟨b, o, none⟩ v).cell? ⟨b, o + 1, none⟩ = some (.int .i64 e) := by
      rw [World.cell?_setCell_other _ _ _ _ (by simp)]
      exact h1.err
    exact World.cell?_setCell_same _ _ _ h9
  · have hself : ∃ u, w1.cell? ⟨b, o, none⟩ = some u := by
      rcases h1.rest with ⟨_, _, h3⟩ | ⟨b2, o2, cap, _, h3, _⟩
      · exact ⟨_, h3⟩
      · exact ⟨_, h3⟩
    obtain ⟨u, hu⟩ := hself
    have hc : ((w1.setCell ⟨b, o, none⟩ v).setCell ⟨b, o + 1, none⟩ (.int .i64 er)).cell? ⟨b, o, none⟩ = some v := by
      rw [World.cell?_setCell_other _ _ _ _ (by simp)]
      exact World.cell?_setCell_same _ _ _ hu
    rcases hv with ⟨h2, h3, rfl⟩ | ⟨b2, o2, cap, h2, rfl, h4, h5, h6⟩
    · exact .inl ⟨h2, h3, hc⟩
    · refine .inr ⟨b2, o2, cap, h2, hc, h4, h5, fun j hj => ?_⟩
      have hne : b2 ∉ [b] := by
        intro hm
        simp at hm
        subst hm
        exact h.ne h2
      exact K.cell' (k.cell' (h6 j hj) (by simp)) hne

set_option maxHeartbeats 800000 in
theorem err_any (b o : Nat) (l : List UInt8) (e : Int) (rb : Option Nat) (w : World) (hr : Rd w b o l e rb) :
    Calls Tryz.prog 123 #[.pointer (some ⟨b, o, none⟩)] w fun x w' => x = .returned (.int .i64 e) ∧ w' = w := by
  have h1 := hr.err
  go_enter Tryz.func123, Tryz.ntmps123
  go_wp2
  go_ret
  exact ⟨rfl, rfl⟩

set_option maxHeartbeats 800000 in
theorem err_none (w : World) : Calls Tryz.prog 123 #[.pointer none] w fun x w' => x = .returned (.int .i64 1) ∧ w' = w := by
  go_enter Tryz.func123, Tryz.ntmps123
  go_wp2
  go_ret
  exact ⟨rfl, rfl⟩

def endE (l : List UInt8) (e : Int) : Int := if e = 0 then (if l = [] then 0 else 23) else e

/-- a new Reader of the bytes l -/
theorem Rd.made {w : World} {v : Value} {l : List UInt8} (h : Row w v l) :
    Rd (w.alloc (.cells #[v, .int .i64 0] 93)) w.heap.size 0 l 0 v.ownBlock := by
  have K := Keep.alloc1 w (.cells #[v, .int .i64 0] 93)
  refine ⟨by simp, by simp, fun hx => ?_, fun k hk => ?_, by simp, ?_⟩
  · have := h.lt _ hx
    omega
  · have := h.lt k hk
    simp
    omega
  · rcases h.2 with ⟨rfl, h0⟩ | ⟨g, cap, cur, rfl, _, hg, hnc, hcm, _, _⟩
    · exact .inl ⟨List.eq_nil_of_length_eq_zero h0, rfl, by simp⟩
    · refine .inr ⟨g, 0, cap, rfl, by simp, hnc, by simpa [maxLen] using hcm, fun j hj => ?_⟩
      have hb := h.bs
      obtain ⟨ao, cap', he, _, _, _, h4⟩ := hb.ex
      obtain ⟨b, o, rfl, hc⟩ := h4 (by intro hl; rw [hl] at hj; simp at hj)
      simp at he
      obtain ⟨⟨rfl, rfl⟩, _⟩ := he
      exact K.cell' (hc j hj) (by simp)

set_option maxHeartbeats 800000 in
theorem Read_any (v : Value) (l : List UInt8) (w : World) (hv : Bs w v l) (hn : l.length ≤ 140737488355328) :
    Calls Tryz.prog 31 #[v] w fun e w' => ∃ b rb, e = .returned (.pointer (some ⟨b, 0, none⟩)) ∧ Rd w' b 0 l 0 rb ∧ w.heap.size ≤ b ∧ (∀ k, rb = some k → w.heap.size ≤ k) ∧ Keep [] w w' := by
  go_enter Tryz.func31, Tryz.ntmps31
  go_wp2_with fail
  refine (clone_any v l w hv hn).mono ?_
  rintro e w9 ⟨v9, rfl, h1, h2, h3, h4⟩
  have HM : Hid (Rd (w9.alloc (.cells #[v9, .int .i64 0] 93)) w9.heap.size 0 l 0 v9.ownBlock) := Rd.made h1
  have HS : Hid (w.heap.size ≤ w9.heap.size) := h3.size
  have HF : Hid (∀ k, v9.ownBlock = some k → w.heap.size ≤ k) := fun k hk => (h2 k hk).1
  have HK : Hid (Keep [] w (w9.alloc (.cells #[v9, .int .i64 0] 93))) := h3.alloc _
  obtain ⟨a8, c8, hv9⟩ := h4
  clear h1 h2 h3 hv
  subst hv9
  go_wp2
  go_ret
  exact ⟨_, _, rfl, HM.out, HS.out, HF.out, HK.out⟩

end Go.Proofs.YtncbanpimfhhbaaGreatDoor


