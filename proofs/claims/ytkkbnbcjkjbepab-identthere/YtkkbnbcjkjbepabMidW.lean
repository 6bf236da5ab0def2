/- What Object and Subject of package ident answer to texts that are put together of parts. -/
import Derived.Test.YtkkbnbcjkjbepabAwakeW
namespace Go.Proofs.Ytkkbnbcjkjbepab
open Go.RowKit Go.PlainAid

theorem cutF_false {m : Int} {l : List UInt8} (h : cutF m l = false) : l.all (notM m) = true := by
  unfold cutF at h; simpa using h
theorem cut_mid (m : Int) (c : UInt8) (hc : (c.toNat : Int) = m) (l r : List UInt8) (h : cutF m l = false) : cutA m (l ++ [c] ++ r) = l ∧ cutB m (l ++ [c] ++ r) = r ∧ cutF m (l ++ [c] ++ r) = true := by
  have h' := cutF_false h
  have hn : notM m c = false := by simp [notM, hc]
  clear h
  induction l with
  | nil => simp [cutA, cutB, cutF, hn]
  | cons x l ih =>
    simp only [List.all_cons, Bool.and_eq_true] at h'
    obtain ⟨a, b, d⟩ := ih h'.2
    refine ⟨?_, ?_, ?_⟩
    · unfold cutA at a ⊢; simp only [List.cons_append, List.takeWhile_cons, h'.1, if_true]; rw [a]
    · unfold cutB at b ⊢; simp only [List.cons_append, List.dropWhile_cons, h'.1, if_true]; exact b
    · unfold cutF at d ⊢; simp only [List.cons_append, List.all_cons, h'.1, Bool.true_and]; exact d
theorem cut_no {m : Int} {l : List UInt8} (h : cutF m l = false) : cutA m l = l ∧ cutB m l = [] := by
  obtain ⟨a, b⟩ := tw_all _ _ (cutF_false h)
  exact ⟨a, by unfold cutB; rw [b]; rfl⟩

theorem sep58 : (⟨#[58]⟩ : ByteArray).toList = [58] := ByteArray.toList_mk [58]
theorem sep35 : (⟨#[35]⟩ : ByteArray).toList = [35] := ByteArray.toList_mk [35]
theorem sep0 : (⟨#[]⟩ : ByteArray).toList = [] := ByteArray.toList_mk []
theorem mid_list (a b : ByteArray) : (a ++ ⟨#[58]⟩ ++ b).toList = a.toList ++ [58] ++ b.toList := by
  rw [toList_app, toList_app, sep58]
theorem mid_list2 (a b c : ByteArray) : (a ++ ⟨#[58]⟩ ++ b ++ ⟨#[35]⟩ ++ c).toList = a.toList ++ [58] ++ (b.toList ++ [35] ++ c.toList) := by
  rw [toList_app, toList_app, mid_list, sep35]; simp

theorem mid_size (a b : ByteArray) (h : a.size + b.size ≤ 4000) : (a ++ ⟨#[58]⟩ ++ b).size ≤ maxLen := by
  rw [← toList_len, mid_list]; unfold maxLen; simp only [List.length_append, toList_len, List.length_singleton]; omega
theorem mid_size2 (a b c : ByteArray) (h : a.size + b.size + c.size ≤ 4000) : (a ++ ⟨#[58]⟩ ++ b ++ ⟨#[35]⟩ ++ c).size ≤ maxLen := by
  rw [← toList_len, mid_list2]; unfold maxLen; simp only [List.length_append, toList_len, List.length_singleton]; omega

theorem objE_mid (a b : List UInt8) (h : cutF 58 a = false) : objE (a ++ [58] ++ b) = if nameL a = false then 10 else if idL b = false then 11 else 0 := by
  obtain ⟨x, y, z⟩ := cut_mid 58 58 rfl a b h
  unfold objE; rw [x, y, z]; simp
theorem not_star (b c : List UInt8) : (b ++ [35] ++ c == [42]) = false := by
  cases b with
  | nil => rfl
  | cons x l => cases l <;> simp
theorem subE_mid (a b c : List UInt8) (h : cutF 58 a = false) (h2 : cutF 35 b = false) : subE (a ++ [58] ++ (b ++ [35] ++ c)) = if nameL a = false then 10 else if idL b = false then 11 else if nameL c = false then 10 else 0 := by
  obtain ⟨x, y, z⟩ := cut_mid 58 58 rfl a (b ++ [35] ++ c) h
  obtain ⟨x2, y2, z2⟩ := cut_mid 35 35 rfl b c h2
  unfold subE; rw [x, y, z, not_star, x2, y2, z2]; simp

theorem object_of {s x y : ByteArray} {z : Int} (w : World) (hs : s.size ≤ maxLen) (h1 : objT s.toList = x.toList) (h2 : objI s.toList = y.toList) (h3 : objE s.toList = z) :
    Calls Try.prog 17 #[.string s] w fun e w' => e = .returned (.tuple #[.agg #[.string x, .string y], .int .i64 z]) ∧ Below w.heap.size w w' := by
  have := object_any s w hs
  rw [h1, h2, h3, toList_ba, toList_ba] at this
  exact this
theorem subject_of {s x y q : ByteArray} {z : Int} (w : World) (hs : s.size ≤ maxLen) (h1 : subT s.toList = x.toList) (h2 : subI s.toList = y.toList) (h4 : subR s.toList = q.toList) (h3 : subE s.toList = z) :
    Calls Try.prog 18 #[.string s] w fun e w' => e = .returned (.tuple #[.agg #[.string x, .string y, .string q], .int .i64 z]) ∧ Below w.heap.size w w' := by
  have := subject_any s w hs
  rw [h1, h2, h3, h4, toList_ba, toList_ba, toList_ba] at this
  exact this
theorem objT_bad {l : List UInt8} (h : objE l ≠ 0) : objT l = (⟨#[]⟩ : ByteArray).toList ∧ objI l = (⟨#[]⟩ : ByteArray).toList := by rw [sep0]; simp [objT, objI, h]
theorem subT_bad {l : List UInt8} (h : subE l ≠ 0) : subT l = (⟨#[]⟩ : ByteArray).toList ∧ subI l = (⟨#[]⟩ : ByteArray).toList ∧ subR l = (⟨#[]⟩ : ByteArray).toList := by rw [sep0]; simp [subT, subI, subR, h]

theorem object_mid_bad (a b : ByteArray) (z : Int) (w : World) (hs : a.size + b.size ≤ 4000) (h : cutF 58 a.toList = false) (hz : (if nameL a.toList = false then 10 else if idL b.toList = false then 11 else 0) = z) (hz0 : z ≠ 0) :
    Calls Try.prog 17 #[.string (a ++ ⟨#[58]⟩ ++ b)] w fun e w' => e = .returned (.tuple #[.agg #[.string ⟨#[]⟩, .string ⟨#[]⟩], .int .i64 z]) ∧ Below w.heap.size w w' := by
  have e : objE (a ++ ⟨#[58]⟩ ++ b).toList = z := by rw [mid_list, objE_mid _ _ h]; exact hz
  have t := objT_bad (show objE (a ++ ⟨#[58]⟩ ++ b).toList ≠ 0 by rw [e]; exact hz0)
  exact object_of w (mid_size a b hs) t.1 t.2 e
theorem object_mid_ok (a b : ByteArray) (w : World) (hs : a.size + b.size ≤ 4000) (h : cutF 58 a.toList = false) (hn : nameL a.toList = true) (hi : idL b.toList = true) :
    Calls Try.prog 17 #[.string (a ++ ⟨#[58]⟩ ++ b)] w fun e w' => e = .returned (.tuple #[.agg #[.string a, .string b], .int .i64 0]) ∧ Below w.heap.size w w' := by
  have e : objE (a ++ ⟨#[58]⟩ ++ b).toList = 0 := by rw [mid_list, objE_mid _ _ h, hn, hi]; rfl
  obtain ⟨x, y, z⟩ := cut_mid 58 58 rfl a.toList b.toList h
  exact object_of w (mid_size a b hs) (by unfold objT; rw [e, mid_list, x]; rfl) (by unfold objI; rw [e, mid_list, y]; rfl) e
theorem object_no (a : ByteArray) (w : World) (hs : a.size ≤ maxLen) (h : cutF 58 a.toList = false) :
    Calls Try.prog 17 #[.string a] w fun e w' => e = .returned (.tuple #[.agg #[.string ⟨#[]⟩, .string ⟨#[]⟩], .int .i64 12]) ∧ Below w.heap.size w w' := by
  have e : objE a.toList = 12 := by unfold objE; rw [h]; rfl
  have t := objT_bad (show objE a.toList ≠ 0 by rw [e]; decide)
  exact object_of w hs t.1 t.2 e
theorem subject_no (a : ByteArray) (w : World) (hs : a.size ≤ maxLen) (h : cutF 58 a.toList = false) :
    Calls Try.prog 18 #[.string a] w fun e w' => e = .returned (.tuple #[.agg #[.string ⟨#[]⟩, .string ⟨#[]⟩, .string ⟨#[]⟩], .int .i64 13]) ∧ Below w.heap.size w w' := by
  have e : subE a.toList = 13 := by unfold subE; rw [h]; rfl
  have t := subT_bad (show subE a.toList ≠ 0 by rw [e]; decide)
  exact subject_of w hs t.1 t.2.1 t.2.2 e
theorem subject_mid_bad (a b c : ByteArray) (z : Int) (w : World) (hs : a.size + b.size + c.size ≤ 4000) (h : cutF 58 a.toList = false) (h2 : cutF 35 b.toList = false) (hz : (if nameL a.toList = false then 10 else if idL b.toList = false then 11 else if nameL c.toList = false then 10 else 0) = z) (hz0 : z ≠ 0) :
    Calls Try.prog 18 #[.string (a ++ ⟨#[58]⟩ ++ b ++ ⟨#[35]⟩ ++ c)] w fun e w' => e = .returned (.tuple #[.agg #[.string ⟨#[]⟩, .string ⟨#[]⟩, .string ⟨#[]⟩], .int .i64 z]) ∧ Below w.heap.size w w' := by
  have e : subE (a ++ ⟨#[58]⟩ ++ b ++ ⟨#[35]⟩ ++ c).toList = z := by rw [mid_list2, subE_mid _ _ _ h h2]; exact hz
  have t := subT_bad (show subE (a ++ ⟨#[58]⟩ ++ b ++ ⟨#[35]⟩ ++ c).toList ≠ 0 by rw [e]; exact hz0)
  exact subject_of w (mid_size2 a b c hs) t.1 t.2.1 t.2.2 e
theorem subject_mid_ok (a b c : ByteArray) (w : World) (hs : a.size + b.size + c.size ≤ 4000) (h : cutF 58 a.toList = false) (h2 : cutF 35 b.toList = false) (hn : nameL a.toList = true) (hi : idL b.toList = true) (hr : nameL c.toList = true) :
    Calls Try.prog 18 #[.string (a ++ ⟨#[58]⟩ ++ b ++ ⟨#[35]⟩ ++ c)] w fun e w' => e = .returned (.tuple #[.agg #[.string a, .string b, .string c], .int .i64 0]) ∧ Below w.heap.size w w' := by
  have e : subE (a ++ ⟨#[58]⟩ ++ b ++ ⟨#[35]⟩ ++ c).toList = 0 := by rw [mid_list2, subE_mid _ _ _ h h2, hn, hi, hr]; rfl
  obtain ⟨x, y, z⟩ := cut_mid 58 58 rfl a.toList (b.toList ++ [35] ++ c.toList) h
  obtain ⟨x2, y2, z2⟩ := cut_mid 35 35 rfl b.toList c.toList h2
  exact subject_of w (mid_size2 a b c hs)
    (by unfold subT; rw [e, mid_list2, x]; rfl) (by unfold subI; rw [e, mid_list2, y, not_star, x2]; rfl) (by unfold subR; rw [e, mid_list2, y, not_star, y2]; rfl) e
end Go.Proofs.Ytkkbnbcjkjbepab
