/- The plain mathematics of texts there and back. -/
import Derived.Test.YtkkbnbcjkjbepabMidW
namespace Go.Proofs.Ytkkbnbcjkjbepab
open Go.RowKit Go.PlainAid

theorem no_mark (p : Int → Bool) (m : Int) (hm : p m = false) {l : List UInt8} (h : l.all (fun c => p (c.toNat : Int)) = true) : cutF m l = false := by
  unfold cutF
  simp only [Bool.not_eq_false']
  rw [List.all_eq_true] at h ⊢
  intro c hc
  unfold notM
  have := h c hc
  simp only [Bool.not_eq_true', beq_eq_false_iff_ne]
  intro e
  rw [e, hm] at this
  exact absurd this (by decide)
theorem name_all {l : List UInt8} (h : nameL l = true) : l.all (fun c => inNameB (c.toNat : Int)) = true := by
  unfold nameL at h; simp only [Bool.and_eq_true] at h; exact h.2
theorem id_all {l : List UInt8} (h : idL l = true) : l.all (fun c => inIdB (c.toNat : Int)) = true := by
  unfold idL at h; simp only [Bool.and_eq_true] at h; exact h.2
theorem name_no58 {l : List UInt8} (h : nameL l = true) : cutF 58 l = false := no_mark inNameB 58 (by decide) (name_all h)
theorem id_no35 {l : List UInt8} (h : idL l = true) : cutF 35 l = false := no_mark inIdB 35 (by decide) (id_all h)
theorem id_not_star {l : List UInt8} (h : idL l = true) : (l == [42]) = false := by
  cases e : (l == [42])
  · rfl
  · simp at e; subst e; exact absurd h (by decide)
theorem name_not_nil {l : List UInt8} (h : nameL l = true) : l.isEmpty = false := by
  cases l with
  | nil => exact absurd h (by decide)
  | cons c l => rfl

theorem sub_there {u j r : List UInt8} (h : faultL u j r = 0) : subT (subTextL u j r) = u ∧ subI (subTextL u j r) = j ∧ subR (subTextL u j r) = r ∧ subE (subTextL u j r) = 0 := by
  have h0 : (faultL u j r != 0) = false := by rw [h]; rfl
  have hn := (fault_ok h0).1
  unfold faultL at h
  rw [if_neg (by rw [hn]; decide)] at h
  by_cases h2 : (j == [42]) = true ∧ r.isEmpty = true
  · have ej : j = [42] := by simpa using h2.1
    have er : r = [] := by simpa using h2.2
    subst ej er
    obtain ⟨x, y, z⟩ := cut_mid 58 58 rfl u [42] (name_no58 hn)
    have e : subTextL u [42] [] = u ++ [58] ++ [42] := by unfold subTextL; rw [h0]; rfl
    have eE : subE (u ++ [58] ++ [42]) = 0 := by unfold subE; rw [x, y, z, hn]; rfl
    rw [e]
    exact ⟨by unfold subT; rw [eE, x]; rfl, by unfold subI; rw [eE, y]; rfl, by unfold subR; rw [eE, y]; rfl, eE⟩
  rw [if_neg h2] at h
  have hi : idL j = true := by cases e : idL j; · rw [e] at h; simp at h
                               · rfl
  rw [if_neg (by rw [hi]; decide)] at h
  cases er : r.isEmpty
  · have hr : nameL r = true := by cases e : nameL r; · rw [e, er] at h; simp at h
                                   · rfl
    have e : subTextL u j r = u ++ [58] ++ (j ++ [35] ++ r) := by unfold subTextL; rw [h0, er]; simp
    have eE := subE_mid u j r (name_no58 hn) (id_no35 hi)
    rw [hn, hi, hr] at eE
    simp only [Bool.true_eq_false, if_false] at eE
    obtain ⟨x, y, z⟩ := cut_mid 58 58 rfl u (j ++ [35] ++ r) (name_no58 hn)
    obtain ⟨x2, y2, z2⟩ := cut_mid 35 35 rfl j r (id_no35 hi)
    rw [e]
    exact ⟨by unfold subT; rw [eE, x]; rfl, by unfold subI; rw [eE, y, not_star, x2]; rfl, by unfold subR; rw [eE, y, not_star, y2]; rfl, eE⟩
  · have er' : r = [] := by simpa using er
    subst er'
    have e : subTextL u j [] = u ++ [58] ++ j := by unfold subTextL; rw [h0]; rfl
    obtain ⟨x, y, z⟩ := cut_mid 58 58 rfl u j (name_no58 hn)
    obtain ⟨x2, y2⟩ := cut_no (id_no35 hi)
    have eE : subE (u ++ [58] ++ j) = 0 := by unfold subE; rw [x, y, z, hn, id_not_star hi, x2, hi, id_no35 hi]; rfl
    rw [e]
    exact ⟨by unfold subT; rw [eE, x]; rfl, by unfold subI; rw [eE, y, id_not_star hi, x2]; rfl, by unfold subR; rw [eE, y, id_not_star hi, y2]; rfl, eE⟩

theorem cut_join (m : Int) (c : UInt8) (hc : ∀ x : UInt8, (x.toNat : Int) = m → x = c) {l : List UInt8} (h : cutF m l = true) : cutA m l ++ [c] ++ cutB m l = l := by
  induction l with
  | nil => simp [cutF] at h
  | cons x l ih =>
    cases hx : notM m x
    · have : x = c := hc x (by simpa [notM] using hx)
      subst this
      simp [cutA, cutB, hx]
    · have h' : cutF m l = true := by simpa [cutF, hx] using h
      have := ih h'
      unfold cutA cutB at this ⊢
      simp only [List.takeWhile_cons, List.dropWhile_cons, hx, if_true, List.cons_append]
      rw [this]
theorem is58 (x : UInt8) (h : (x.toNat : Int) = 58) : x = 58 := UInt8.toNat_inj.1 (by show x.toNat = 58; omega)
theorem is35 (x : UInt8) (h : (x.toNat : Int) = 35) : x = 35 := UInt8.toNat_inj.1 (by show x.toNat = 35; omega)

theorem obj_parts {l : List UInt8} (h : objE l = 0) : cutF 58 l = true ∧ nameL (cutA 58 l) = true ∧ idL (cutB 58 l) = true := by
  unfold objE at h
  cases h1 : cutF 58 l
  · rw [h1] at h; simp at h
  cases h2 : nameL (cutA 58 l)
  · rw [h1, h2] at h; simp at h
  cases h3 : idL (cutB 58 l)
  · rw [h1, h2, h3] at h; simp at h
  exact ⟨rfl, rfl, rfl⟩
theorem obj_back {l : List UInt8} (h : objE l = 0) : objT l ++ [58] ++ objI l = l ∧ nameL (objT l) = true ∧ idL (objI l) = true := by
  obtain ⟨a, b, c⟩ := obj_parts h
  unfold objT objI
  rw [if_pos h, if_pos h]
  exact ⟨cut_join 58 58 is58 a, b, c⟩
theorem obj_sub {l : List UInt8} (h : objE l = 0) : subE l = 0 ∧ subT l = objT l ∧ subI l = objI l ∧ subR l = [] := by
  obtain ⟨a, b, c⟩ := obj_parts h
  obtain ⟨x2, y2⟩ := cut_no (id_no35 c)
  have eE : subE l = 0 := by unfold subE; rw [a, b, id_not_star c, x2, c, id_no35 c]; rfl
  refine ⟨eE, ?_, ?_, ?_⟩
  · unfold subT objT; rw [if_pos eE, if_pos h]
  · unfold subI objI; rw [if_pos eE, if_pos h, id_not_star c, x2]; rfl
  · unfold subR; rw [if_pos eE, id_not_star c, y2]; rfl
theorem sub_back {l : List UInt8} (h : subE l = 0) : faultL (subT l) (subI l) (subR l) = 0 ∧ subTextL (subT l) (subI l) (subR l) = l ∧ (kindL (subT l) (subI l) (subR l) == 1) = (objE l == 0) := by
  have hT : subT l = cutA 58 l := by unfold subT; rw [if_pos h]
  have hI : subI l = if (cutB 58 l == [42]) = true then [42] else cutA 35 (cutB 58 l) := by unfold subI; rw [if_pos h]
  have hR : subR l = if (cutB 58 l == [42]) = true then [] else cutB 35 (cutB 58 l) := by unfold subR; rw [if_pos h]
  unfold subE at h
  cases h1 : cutF 58 l
  · rw [h1] at h; simp at h
  cases h2 : nameL (cutA 58 l)
  · rw [h1, h2] at h; simp at h
  have hj := cut_join 58 58 is58 h1
  rw [h1, h2] at h
  simp only [Bool.true_eq_false, if_false] at h
  cases h3 : (cutB 58 l == [42])
  · rw [h3] at h hI hR
    simp only [Bool.false_eq_true, if_false] at h hI hR
    cases h4 : idL (cutA 35 (cutB 58 l))
    · rw [h4] at h; simp at h
    cases h5 : cutF 35 (cutB 58 l)
    · obtain ⟨x2, y2⟩ := cut_no h5
      rw [x2] at hI h4
      rw [y2] at hR
      have f0 : faultL (subT l) (subI l) (subR l) = 0 := by unfold faultL; rw [hT, hI, hR, h2, h3, h4]; rfl
      have f1 : (faultL (subT l) (subI l) (subR l) != 0) = false := by rw [f0]; rfl
      refine ⟨f0, ?_, ?_⟩
      · unfold subTextL; rw [f1, hT, hI, hR]; simpa using hj
      · unfold kindL objE; rw [f1, hI, hR, h1, h2, h3, h4]; rfl
    · cases h6 : nameL (cutB 35 (cutB 58 l))
      · rw [h4, h5, h6] at h; simp at h
      have hk := cut_join 35 35 is35 h5
      have f0 : faultL (subT l) (subI l) (subR l) = 0 := by unfold faultL; rw [hT, hI, hR, h2, name_not_nil h6, h4, h6]; simp
      have f1 : (faultL (subT l) (subI l) (subR l) != 0) = false := by rw [f0]; rfl
      have hno : idL (cutB 58 l) = false := by
        cases e : idL (cutB 58 l)
        · rfl
        · rw [id_no35 e] at h5; exact absurd h5 (by decide)
      refine ⟨f0, ?_, ?_⟩
      · unfold subTextL; rw [f1, hT, hI, hR, name_not_nil h6]
        simp only [Bool.false_eq_true, if_false]
        rw [List.append_assoc, List.append_assoc (cutA 58 l ++ [58]), ← List.append_assoc (cutA 35 (cutB 58 l)), hk]; exact hj
      · unfold kindL objE; rw [f1, hI, hR, h1, h2, hno, name_not_nil h6, id_not_star h4]; rfl
  · have e42 : cutB 58 l = [42] := by simpa using h3
    rw [h3] at hI hR
    simp only [if_true] at hI hR
    have f0 : faultL (subT l) (subI l) (subR l) = 0 := by unfold faultL; rw [hT, hI, hR, h2]; rfl
    have f1 : (faultL (subT l) (subI l) (subR l) != 0) = false := by rw [f0]; rfl
    refine ⟨f0, ?_, ?_⟩
    · unfold subTextL; rw [f1, hT, hI, hR]; rw [e42] at hj; simpa using hj
    · unfold kindL objE; rw [f1, hI, hR, h1, h2, e42]; rfl
end Go.Proofs.Ytkkbnbcjkjbepab
