/- Arguments: a list of them that may be is taken, one that is too long is refused; lists of texts that the law makes. -/
import Derived.Test.YtncbanpimfhhbaaGreatDoorSameV
import Derived.Test.YtncbanpimfhhbaaGreatDoorINameW
import Derived.Deep.RegionHeld3
namespace Go.Proofs.YtncbanpimfhhbaaGreatDoor
open Go.RowKit Go.PlainAid Go.Lib

def xs (n : Nat) : ByteArray := ⟨(List.replicate n 120).toArray⟩
theorem xs_size (n : Nat) : (xs n).size = n := by
  show (List.replicate n (120 : UInt8)).toArray.size = n
  simp
theorem xs_succ (n : Nat) : xs n ++ (⟨#[120]⟩ : ByteArray) = xs (n + 1) := by
  apply ByteArray.ext
  rw [ByteArray.data_append]
  apply Array.toList_inj.1
  simp [xs, List.replicate_succ']

theorem infoStr : (Tryz.prog.info? 9).map (fun i => (i.zero, i.size, i.bytes)) = some (some (.string ⟨#[]⟩), 1, 16) := by kernel_rfl
theorem srcStr (w : World) (s : ByteArray) : Src Tryz.prog 1 29 (.slice (some ⟨w.heap.size, 0, none⟩) 1 1) 1 [.string s] (w.alloc (.cells #[.string s] 9)) := by
  refine Src.ofSlice _ Tryz.underlying29 ⟨w.heap.size, 0, none⟩ 1 1 [.string s] rfl (fun j u hu => ?_) (fun u hu => by simp at hu; rw [hu]; rfl)
  have hj : j = 0 := by
    have := (List.getElem?_eq_some_iff.1 hu).1
    simpa using this
  subst hj
  simp at hu
  subst hu
  simp [go_sem]

theorem app_freshC {w wr w1 : World} {o : Obj} {v v' : Value} (hk : Keep [] w wr) (hf : Fresh w wr v) (h2 : Keep v.ownBlock.toList (wr.alloc o) w1) (h3 : v'.ownBlock = v.ownBlock ∨ Fresh (wr.alloc o) w1 v') :
    Keep [] w w1 ∧ Fresh w w1 v' := by
  have hs : (wr.alloc o).heap.size = wr.heap.size + 1 := by simp
  have h4 := h2.size
  have h5 := hk.size
  refine ⟨(hk.alloc o).more h2 (fun x hx => .inr (hf x (by simpa using hx)).1), fun x hx => ?_⟩
  rcases h3 with h3 | h3
  · have := hf x (by rw [← h3]; exact hx)
    omega
  · have := h3 x hx
    omega

/-- a row of one's own of n like texts reads as them -/
theorem RowC.texts {w : World} {v : Value} {n : Nat} {s : ByteArray} (h : RowC w 9 1 v n (List.replicate n (.string s))) (hs : s.size ≤ 9223372036854775807) : Ts w v (List.replicate n s) := by
  rcases h.cases with ⟨rfl, _, rfl⟩ | ⟨g, cap, rfl, h1, h2, _, h4, _⟩
  · exact Ts.nil w
  · refine ⟨some ⟨g, 0, none⟩, cap, by simp, by simpa using h1, h2, fun t ht => by rw [(List.mem_replicate.1 ht).2]; exact hs, fun _ => ⟨g, 0, rfl, fun j hj => ?_⟩⟩
    simp at hj
    rw [Nat.zero_add, h4 j (by omega)]
    simp [hj]

end Go.Proofs.YtncbanpimfhhbaaGreatDoor


