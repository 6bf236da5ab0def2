/- What is read at the beginning of some bytes: a text of at most so many bytes. -/
import Derived.Test.YtbflhpafejmelaaFirst3
namespace Go.Proofs.Ytbflhpafejmelaa
open Go.RowKit Go.PlainAid Go.Lib

theorem push_fold : ∀ (l : List UInt8) (s : ByteArray), (l.map fun x => ((x.toNat : Nat) : Int)).foldl (fun r n => r.push (UInt8.ofNat n.toNat)) s = ⟨s.data ++ l.toArray⟩
  | [], s => by simp
  | x :: r, s => by
    rw [List.map_cons, List.foldl_cons, push_fold r]
    have hx : UInt8.ofNat ((x.toNat : Nat) : Int).toNat = x := by simp
    rw [hx]
    congr 1
    apply Array.ext'
    simp [ByteArray.push]

theorem run_str {w : World} {v : Value} {l : List UInt8} (h : Bs w v l) : (convert 57 9 v).run Try.prog w = .ok (.string ⟨l.toArray⟩) w := by
  have key : ∀ (a : Addr) (cap : Nat), (∀ j u, (bv l)[j]? = some u → w.cell? (a.add j) = some u) → (convert 57 9 (.slice (some a) l.length cap)).run Try.prog w = .ok (.string ⟨l.toArray⟩) w := by
    intro a cap hc
    rw [run_convert_bytes_string w 57 9 5 _ _ _ underS Try.underlying5 Try.underlying9]
    have hld : (loadCells a l.length).run Try.prog w = .ok ((l.map fun x => ((x.toNat : Nat) : Int)).map (Value.int .u8)).toArray w := by
      have := run_loadCells_list (P := Try.prog) w a (bv l) hc
      rw [bv_length] at this
      rw [this]
      simp [bv, Function.comp_def]
    rw [run_bytesToString w a l.length cap _ hld, push_fold]
    simp
  rcases h.cases with ⟨rfl, ao, cap, rfl, _, _⟩ | ⟨_, b, o, cap, rfl, _, _, _, hc⟩
  · cases ao with
    | none =>
      rw [run_convert_bytes_string w 57 9 5 _ _ _ underS Try.underlying5 Try.underlying9]
      rfl
    | some a => exact key a cap (fun j u hj => by simp [bv] at hj)
  · refine key _ cap (fun j u hu => ?_)
    have hj : j < l.length := by
      have := (List.getElem?_eq_some_iff.1 hu).1
      simpa [bv_length] using this
    rw [bv_get l j hj] at hu
    have hadd : (⟨b, o, none⟩ : Addr).add j = ⟨b, o + j, none⟩ := by unfold Addr.add; split <;> simp_all
    rw [hadd, hc j hj, List.getD_eq_getElem?_getD, List.getElem?_eq_getElem hj]
    exact hu

def textL (l : List UInt8) (most : Int) : List UInt8 × Nat × Int :=
  if most < 0 then ([], 0, 2) else if (numL l).2.2 ≠ 0 then ([], 0, (numL l).2.2) else if most < ((numL l).1 : Nat) then ([], 0, 3)
  else if l.length - (numL l).2.1 < (numL l).1 then ([], 0, 20) else ((l.drop (numL l).2.1).take (numL l).1, (numL l).2.1 + (numL l).1, 0)

theorem textL_size (l : List UInt8) (most : Int) : (textL l most).2.1 ≤ l.length := by
  have := numL_size l
  unfold textL
  repeat' split
  all_goals simp
  omega

end Go.Proofs.Ytbflhpafejmelaa



