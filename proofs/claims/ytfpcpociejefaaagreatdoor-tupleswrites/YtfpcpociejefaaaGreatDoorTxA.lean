/- The library's FormatFloat at the one number that is asked for. -/
import Derived.Test.YtfpcpociejefaaaGreatDoorShA

namespace Go.Proofs.YtfpcpociejefaaaGreatDoor
open Go.RowKit Go.PlainAid
set_option maxRecDepth 1000000 in
theorem run_sbits (x : Nat) (w : World) : (callFunc 181 #[.float .f32 x]).run Tryz.prog w = .ok (.value (.int .u32 (x : Int))) w :=
 (run_callFunc_extern (e := Extern.MathFloatBits.float32bits) Tryz.func181 (by kernel_rfl) (by kernel_rfl) (by kernel_rfl) (by kernel_rfl) _ w).trans rfl
def zeros32 : Array Value := #[.int .u8 0, .int .u8 0, .int .u8 0, .int .u8 0, .int .u8 0, .int .u8 0, .int .u8 0, .int .u8 0, .int .u8 0, .int .u8 0, .int .u8 0, .int .u8 0, .int .u8 0, .int .u8 0, .int .u8 0, .int .u8 0, .int .u8 0, .int .u8 0, .int .u8 0, .int .u8 0, .int .u8 0, .int .u8 0, .int .u8 0, .int .u8 0, .int .u8 0, .int .u8 0, .int .u8 0, .int .u8 0, .int .u8 0, .int .u8 0, .int .u8 0, .int .u8 0]
theorem zeros32_at (j : Nat) (h : j < 32) : zeros32[j]? = some (.int .u8 0) := by
 have e : zeros32 = Array.replicate 32 (.int .u8 0) := rfl
 rw [e, Array.getElem?_replicate, if_pos h]
theorem zeros_new (w : World) (t : TypeId) (j : Nat) (h : j < 32) : (w.alloc (.cells zeros32 t)).cell? ⟨w.heap.size, j, none⟩ = some (.int .u8 0) ∧ (w.alloc (.cells zeros32 t)).frozen? ⟨w.heap.size, j, none⟩ = false := by
 refine ⟨?_, ?_⟩
 ·rw [World.cell?_alloc_new, zeros32_at j h]
 ·simp [go_sem]
end Go.Proofs.YtfpcpociejefaaaGreatDoor

/- FormatFloat and the program's Text at the one number that is asked for. -/
namespace Go.Proofs.YtfpcpociejefaaaGreatDoor
open Go.RowKit Go.PlainAid
theorem push_fold : ∀ (l : List UInt8) (s : ByteArray), (l.map fun x => ((x.toNat : Nat) : Int)).foldl (fun r n => r.push (UInt8.ofNat n.toNat)) s = ⟨s.data ++ l.toArray⟩
 | [], s => by simp
 | x :: r, s => by
  rw [List.map_cons, List.foldl_cons, push_fold r]
  have hx : UInt8.ofNat ((x.toNat : Nat) : Int).toNat = x := by simp
  rw [hx]
  congr 1
  apply Array.ext'
  simp [ByteArray.push]
theorem run_str {w : World} {v : Value} {l : List UInt8} (h : Bs w v l) : (convert 33 9 v).run Tryz.prog w = .ok (.string ⟨l.toArray⟩) w := by
 have key : ∀ (a : Addr) (cap : Nat), (∀ j u, (bv l)[j]? = some u → w.cell? (a.add j) = some u) → (convert 33 9 (.slice (some a) l.length cap)).run Tryz.prog w = .ok (.string ⟨l.toArray⟩) w := by
  intro a cap hc
  rw [run_convert_bytes_string w 33 9 5 _ _ _ underS Tryz.underlying5 Tryz.underlying9]
  have hld : (loadCells a l.length).run Tryz.prog w = .ok ((l.map fun x => ((x.toNat : Nat) : Int)).map (Value.int .u8)).toArray w := by
   have := run_loadCells_list (P := Tryz.prog) w a (bv l) hc
   rw [bv_length] at this
   rw [this]
   simp [bv, Function.comp_def]
  rw [run_bytesToString w a l.length cap _ hld, push_fold]
  simp
 rcases h.cases with ⟨rfl, ao, cap, rfl, _, _⟩ | ⟨_, b, o, cap, rfl, _, _, _, hc⟩
 ·cases ao with
  | none =>
   rw [run_convert_bytes_string w 33 9 5 _ _ _ underS Tryz.underlying5 Tryz.underlying9]
   rfl
  | some a => exact key a cap (fun j u hj => by simp [bv] at hj)
 ·refine key _ cap (fun j u hu => ?_)
  have hj : j < l.length := by
   have := (List.getElem?_eq_some_iff.1 hu).1
   simpa [bv_length] using this
  rw [bv_get l j hj] at hu
  have hadd : (⟨b, o, none⟩ : Addr).add j = ⟨b, o + j, none⟩ := by unfold Addr.add; split <;> simp_all
  rw [hadd, hc j hj, List.getD_eq_getElem?_getD, List.getElem?_eq_getElem hj]
  exact hu
/-- the library's tables, as far as Text reads them -/
structure Tabx (w : World) : Prop where
 tabs : Tabs w
 ten : w.cell? ⟨2, 7, none⟩ = some (.int .u64 10000000)
 most : ∃ m, w.cell? ⟨5, 0, none⟩ = some (.int .i64 m)
theorem Tabx.below {w w' : World} (h : Tabx w) (hb : Below w.heap.size w w') : Tabx w' := by
 obtain ⟨m, hm⟩ := h.most
 exact ⟨h.tabs.below hb, cell_next hb h.ten, m, cell_next hb hm⟩
end Go.Proofs.YtfpcpociejefaaaGreatDoor
