/- The library's reading of digits about a point, an e and digits; the real of that text. -/
import Derived.Test.YtnjbdaonmgadaaaGreatDoorPgG
import Derived.Test.YtnjbdaonmgadaaaGreatDoorDgM
import Derived.Test.YtnjbdaonmgadaaaGreatDoorPfD
namespace Go.Proofs.YtnjbdaonmgadaaaGreatDoor
open Go.RowKit Go.PlainAid

/-- a text by its bytes -/
def bl (l : List UInt8) : ByteArray := ⟨l.toArray⟩
theorem bl_size (l : List UInt8) : (bl l).size = l.length := by unfold bl; simp [ByteArray.size]
theorem bl_bt (l : List UInt8) (k : Nat) (h : k < l.length) : bt (bl l) k = ((l[k]).toNat : Int) := by
  unfold bt
  rw [dif_pos (by rw [bl_size]; exact h)]
  rfl
theorem bl_app (a b : List UInt8) : bl a ++ bl b = bl (a ++ b) := by
  apply ByteArray.ext
  unfold bl
  simp [ByteArray.data_append]
theorem bl_data (l : List UInt8) : (bl l).data.toList = l := by unfold bl; simp

/-- the text that the library is handed -/
def numT (c0 : UInt8) (cs es : List UInt8) : List UInt8 := c0 :: 46 :: (cs ++ 101 :: es)
def Dig (l : List UInt8) : Prop := ∀ c ∈ l, 48 ≤ c.toNat ∧ c.toNat ≤ 57

theorem num_at (c0 : UInt8) (cs es : List UInt8) (k : Nat) (h : k < (numT c0 cs es).length) :
    bt (bl (numT c0 cs es)) k = ((numT c0 cs es)[k].toNat : Int) := bl_bt _ k h
theorem num_len (c0 : UInt8) (cs es : List UInt8) : (numT c0 cs es).length = cs.length + es.length + 3 := by
  unfold numT; simp; omega

theorem run_d (c0 : UInt8) (cs es : List UInt8) (h0 : 49 ≤ c0.toNat ∧ c0.toNat ≤ 57) (hc : Dig cs) (hl : cs.length ≤ 18) :
    RunD (bl (numT c0 cs es)) (2 + cs.length) (fun k => if k = 0 then 0 else (dvL (c0 :: cs.take (k - 2)) : Int)) (fun k => if k = 0 then 0 else 1 + ((k - 2 : Nat) : Int)) (fun k => if k ≤ 1 then 0 else 1) (fun k => decide (2 ≤ k)) := by
  intro k hk
  have hlen := num_len c0 cs es
  rw [num_at c0 cs es k (by omega)]
  rcases Nat.lt_or_ge k 2 with h2 | h2
  · have : k = 0 ∨ k = 1 := by omega
    rcases this with rfl | rfl
    · right
      have e : (numT c0 cs es)[0] = c0 := rfl
      rw [e]
      simp only [dvL, List.foldl_cons]
      simp
      omega
    · left
      have e : (numT c0 cs es)[1] = 46 := rfl
      rw [e]
      simp
  · right
    obtain ⟨j, rfl⟩ : ∃ j, k = j + 2 := ⟨k - 2, by omega⟩
    have hj : j < cs.length := by omega
    have e : (numT c0 cs es)[j + 2]'(by omega) = cs[j] := by
      unfold numT
      simp only [List.getElem_cons_succ]
      exact List.getElem_append_left hj
    rw [e]
    have hd := hc cs[j] (List.getElem_mem hj)
    have hlt : dvL (c0 :: cs.take j) < 10 ^ (1 + j) := by
      have := dv_lt (c0 :: cs.take j) (by
        intro c hc'
        rcases List.mem_cons.1 hc' with rfl | hc'
        · omega
        · exact hc c (List.mem_of_mem_take hc'))
      simpa [Nat.min_eq_left (Nat.le_of_lt hj), Nat.add_comm] using this
    have hle : 10 ^ (1 + j) ≤ 10 ^ 18 := Nat.pow_le_pow_right (by decide) (by omega)
    have hs : dvL (c0 :: cs.take (j + 1)) = dvL (c0 :: cs.take j) * 10 + (cs[j].toNat - 48) := by
      rw [← dv_snoc, List.take_succ_eq_append_getElem hj]; rfl
    simp only [show j + 2 - 2 = j by omega, show j + 2 + 1 - 2 = j + 1 by omega, show ¬ (j + 2 = 0) by omega, show ¬ (j + 2 + 1 = 0) by omega, if_false, show ¬ (j + 2 ≤ 1) by omega, show ¬ (j + 2 + 1 ≤ 1) by omega]
    rw [hs]
    refine ⟨by omega, by omega, by omega, by omega, by omega, by omega, by omega, by omega, by omega, trivial, ?_⟩
    simp

theorem run_e (c0 : UInt8) (cs es : List UInt8) (he : Dig es) (hl : es.length ≤ 2) :
    RunE (bl (numT c0 cs es)) (2 + cs.length + 1) (bl (numT c0 cs es)).size (fun k => (dvL (es.take (k - (2 + cs.length + 1))) : Int)) := by
  intro k h1 h2
  have hlen := num_len c0 cs es
  rw [bl_size] at h2
  obtain ⟨j, rfl⟩ : ∃ j, k = 2 + cs.length + 1 + j := ⟨k - (2 + cs.length + 1), by omega⟩
  have hj : j < es.length := by omega
  rw [num_at c0 cs es _ h2]
  have e : (numT c0 cs es)[2 + cs.length + 1 + j] = es[j] := by
    unfold numT
    simp only [show 2 + cs.length + 1 + j = (cs.length + (j + 1)) + 1 + 1 by omega, List.getElem_cons_succ]
    rw [List.getElem_append_right (by omega)]
    simp
  rw [e]
  have hd := he es[j] (List.getElem_mem hj)
  have hlt : dvL (es.take j) < 10 ^ j := by
    have := dv_lt (es.take j) (fun c hc' => he c (List.mem_of_mem_take hc'))
    simpa [Nat.min_eq_left (Nat.le_of_lt hj)] using this
  have hle : 10 ^ j ≤ 10 ^ 2 := Nat.pow_le_pow_right (by decide) (by omega)
  have hs : dvL (es.take (j + 1)) = dvL (es.take j) * 10 + (es[j].toNat - 48) := by
    rw [← dv_snoc, List.take_succ_eq_append_getElem hj]
  simp only [show 2 + cs.length + 1 + j - (2 + cs.length + 1) = j by omega, show 2 + cs.length + 1 + j + 1 - (2 + cs.length + 1) = j + 1 by omega]
  rw [hs]
  omega

theorem read_any (c0 : UInt8) (cs es : List UInt8) (h0 : 49 ≤ c0.toNat ∧ c0.toNat ≤ 57) (hc : Dig cs) (hl : cs.length ≤ 18) (he : Dig es) (hle : es.length ≤ 2) (hes : 0 < es.length) (w : World) :
    Calls Tryz.prog 116 #[.string (bl (numT c0 cs es))] w fun e w' => e = .returned (.tuple #[.int .u64 (dvL (c0 :: cs) : Int), .int .i64 ((dvL es : Int) - (cs.length : Int)), .bool false, .bool false, .bool false, .int .i64 ((bl (numT c0 cs es)).size : Nat), .bool true]) ∧ w' = w := by
  have hlen := num_len c0 cs es
  have hdv : dvL es < 100 := by
    have h1 := dv_lt es he
    have h2 : 10 ^ es.length ≤ 10 ^ 2 := Nat.pow_le_pow_right (by decide) hle
    omega
  have hpos : 0 < dvL (c0 :: cs) := by
    have : ∀ (l : List UInt8) (a : Nat), 0 < a → 0 < l.foldl (fun a c => a * 10 + (c.toNat - 48)) a := by
      intro l
      induction l with
      | nil => intro a h; exact h
      | cons c l ih => intro a h; exact ih _ (Nat.lt_of_lt_of_le (show 0 < a * 10 by omega) (Nat.le_add_right _ _))
    exact this cs _ (by simp; omega)
  have h := readFloat_any (bl (numT c0 cs es)) (2 + cs.length) _ _ _ _ _ w (by rw [bl_size]; omega) (run_d c0 cs es h0 hc hl) (by simp) (by omega)
    (by rw [num_at c0 cs es 0 (by omega)]; show 49 ≤ (c0.toNat : Int) ∧ (c0.toNat : Int) ≤ 57; omega)
    (by
      simp only [show ¬ (2 + cs.length = 0) by omega, if_false, show ¬ (2 + cs.length ≤ 1) by omega, show 2 + cs.length - 2 = cs.length by omega, List.take_length]
      refine ⟨by simp, by omega, by omega, by omega, by omega, by omega⟩)
    (by
      rw [num_at c0 cs es _ (by omega)]
      have e : (numT c0 cs es)[2 + cs.length]'(by omega) = 101 := by
        unfold numT
        simp only [show 2 + cs.length = cs.length + 1 + 1 by omega, List.getElem_cons_succ]
        rw [List.getElem_append_right (by omega)]
        simp
      rw [e]; rfl)
    (by rw [bl_size]; omega) (run_e c0 cs es he hle) (by simp [dvL])
    (by
      rw [bl_size, hlen, show cs.length + es.length + 3 - (2 + cs.length + 1) = es.length by omega, List.take_length]
      omega)
  simp only [show ¬ (2 + cs.length = 0) by omega, if_false, show ¬ (2 + cs.length ≤ 1) by omega, show 2 + cs.length - 2 = cs.length by omega, List.take_length] at h
  rw [bl_size, hlen, show cs.length + es.length + 3 - (2 + cs.length + 1) = es.length by omega, List.take_length, show (1 : Int) + (dvL es : Int) - (1 + (cs.length : Int)) = (dvL es : Int) - (cs.length : Int) by omega] at h
  rw [bl_size, hlen]
  exact h
end Go.Proofs.YtnjbdaonmgadaaaGreatDoor
