/- Two rows that are apart: each is written and grown, and neither shows in the other. -/
import Derived.Test.YtkelhglflpdpeaaGz
import Derived.Test.YtkelhglflpdpeaaRj

namespace Go.Proofs.Ytkelhglflpdpeaa
open Go.RowKit Go.PlainAid

open Go.Shelf
theorem enc_set : ∀ (l : List Pr) (i : Nat) (p : Pr), ((l.flatMap encP).set (i * 2) (.int .i64 p.k)).set (i * 2 + 1) (.int .i64 p.m) = (l.set i p).flatMap encP
  | [], i, p => by simp
  | q :: l, 0, p => by simp [encP]
  | q :: l, i + 1, p => by
    have ih := enc_set l i p
    rw [List.set_cons_succ, List.flatMap_cons, List.flatMap_cons, ← ih, show (i + 1) * 2 = i * 2 + 1 + 1 from by omega]
    rfl
theorem Rw.set2 {W : World} {g n cap : Nat} {M : List Pr} (h : Rw 29 encP 2 W (.slice (some ⟨g, 0, none⟩) n cap) M) (hn : M.length = n) (i : Nat) (p : Pr) : Rw 29 encP 2 ((W.setCell ⟨g, i * 2, none⟩ (.int .i64 p.k)).setCell ⟨g, i * 2 + 1, none⟩ (.int .i64 p.m)) (.slice (some ⟨g, 0, none⟩) n cap) (M.set i p) := by
  subst hn
  have h1 := RowC.set (RowC.set h (i * 2) (.int .i64 p.k)) (i * 2 + 1) (.int .i64 p.m)
  rw [enc_set] at h1
  show RowC _ _ _ _ _ _
  rw [List.length_set]
  exact h1
/-- a row that is grown -/
structure Gq (w : World) (u v : Value) (K : List Pr) (W : World) : Prop where
  row : Rw 29 encP 2 W v K
  kp : Keep u.ownBlock.toList w W
  at' : v.ownBlock = u.ownBlock ∨ Fresh w W v
theorem Gq.step {w wr w1 : World} {u v v' : Value} {K : List Pr} {y : Pr} {o : Obj} (h : Gq w u v K wr) (a1 : RowC w1 29 2 v' (K.length + 1) (K.flatMap encP ++ encP y)) (a2 : Keep v.ownBlock.toList (wr.alloc o) w1) (a3 : v'.ownBlock = v.ownBlock ∨ Fresh (wr.alloc o) w1 v') : Gq w u v' (K ++ [y]) w1 := by
  have ka := Keep.alloc1 wr o
  have s1 := ka.size
  have s2 := a2.size
  have s0 := h.kp.size
  refine ⟨?_, ?_, ?_⟩
  · show RowC _ _ _ _ _ _
    have e : (K ++ [y]).flatMap encP = K.flatMap encP ++ encP y := by simp
    rw [e, List.length_append]
    exact a1
  · refine (h.kp.more ka (by simp)).more a2 (fun x hx => ?_)
    simp at hx
    rcases h.at' with h1 | h1
    · exact .inl (by rw [← h1]; simpa using hx)
    · exact .inr (h1 x hx).1
  · rcases a3 with h1 | h1
    · rcases h.at' with h2 | h2
      · exact .inl (h1.trans h2)
      · exact .inr (fun k hk => by have := h2 k (by rw [← h1]; exact hk); omega)
    · exact .inr (fun k hk => by have := h1 k hk; omega)
theorem Rd.front {W : World} {g cap cap2 : Nat} {L r : List Pr} (h : Rw 29 encP 2 W (.slice (some ⟨g, 0, none⟩) (L ++ r).length cap) (L ++ r)) (h1 : L.length ≤ cap2) (h2 : cap2 ≤ 9223372036854775807) : Rd encP 2 W (.slice (some ⟨g, 0, none⟩) L.length cap2) L := by
  refine ⟨_, cap2, rfl, h1, by simp only [maxLen]; omega, (fun h => by cases h), fun hl => ?_⟩
  rcases h.cases encP_len with ⟨h3, _⟩ | ⟨g', cap', he, _, _, hg, hc, _⟩
  · simp at h3; exact absurd h3.1 hl
  · simp at he
    obtain ⟨rfl, rfl⟩ := he
    refine ⟨g, 0, rfl, hg, fun j hj i hi => ?_⟩
    have := hc j (by simp; omega) i hi
    rw [Nat.zero_add, this, List.getElem_append_left hj]
/-- the one whose growth it is reads as before -/
theorem Gq.old {w wr w1 : World} {u v : Value} {L r : List Pr} {o : Obj} (h : Gq w u v (L ++ r) wr) (hu : Rw 29 encP 2 w u L) (hr : Rd encP 2 wr u L) (a2 : Keep v.ownBlock.toList (wr.alloc o) w1) (a5 : RowC w1 29 2 v (L ++ r).length ((L ++ r).flatMap encP)) : Rd encP 2 w1 u L := by
  rcases hu.cases encP_len with ⟨rfl, rfl⟩ | ⟨g, cap, rfl, hc1, hc2, hg, _⟩
  · exact Rd.nil _ _ _
  rcases h.at' with h1 | h1
  · rcases Rw.cases encP_len (show Rw 29 encP 2 w1 v (L ++ r) from a5) with ⟨h3, h4⟩ | ⟨g', cap', he, _⟩
    · rw [h4] at h1; simp [Value.ownBlock] at h1
    · rw [he] at h1 a5
      simp [Value.ownBlock] at h1
      subst h1
      exact Rd.front a5 hc1 hc2
  · exact (hr.keep (Keep.alloc1 wr o) (Off.nil _)).keep a2 (fun k hk hm => by
      simp at hm
      have := (h1 k hm).1
      simp [Value.ownBlock] at hk
      omega)
/-- what is appended to the one, and to the other -/
def gM (n : Nat) : List Pr := (List.range n).map fun (i : Nat) => ⟨-(i : Int), -1000 - (i : Int)⟩
def hM (n : Nat) : List Pr := (List.range n).map fun (i : Nat) => ⟨(i : Int), -2000 - (i : Int)⟩
theorem gM_succ (n : Nat) : gM (n + 1) = gM n ++ [⟨-(n : Int), -1000 - (n : Int)⟩] := by simp [gM, List.range_succ]
theorem hM_succ (n : Nat) : hM (n + 1) = hM n ++ [⟨(n : Int), -2000 - (n : Int)⟩] := by simp [hM, List.range_succ]
theorem gM_len (n : Nat) : (gM n).length = n := by simp [gM]
theorem hM_len (n : Nat) : (hM n).length = n := by simp [hM]
theorem gM_at (M : List Pr) (i : Nat) (hi : i < 70) (h : M.length + i < (M ++ gM 70).length) : (M ++ gM 70)[M.length + i] = ⟨-(i : Int), -1000 - (i : Int)⟩ := by
  rw [List.getElem_append_right (by omega)]
  simp [gM]
theorem hM_at (M : List Pr) (i : Nat) (hi : i < 70) (h : M.length + i < (M ++ hM 70).length) : (M ++ hM 70)[M.length + i] = ⟨(i : Int), -2000 - (i : Int)⟩ := by
  rw [List.getElem_append_right (by omega)]
  simp [hM]

end Go.Proofs.Ytkelhglflpdpeaa
