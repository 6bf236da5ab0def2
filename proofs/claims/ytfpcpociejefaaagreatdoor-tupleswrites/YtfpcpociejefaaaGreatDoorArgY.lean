/- Arguments that may be are taken, too many are refused. -/
import Derived.Test.YtfpcpociejefaaaGreatDoorJLeaf
import Derived.Deep.RegionWith
namespace Go.Proofs.YtfpcpociejefaaaGreatDoor
open Go.RowKit Go.PlainAid Go.Lib
/-- an argument: its name and its value -/
structure AD where
 nm : ByteArray
 val : VD
/-- the argument x lies at b, o; u: its texts -/
structure ArgC (w : World) (b o : Nat) (x : AD) (u : Value) : Prop where
 nm : w.cell? ⟨b, o, none⟩ = some (.string x.nm)
 kind : w.cell? ⟨b, o + 1, none⟩ = some (.int .i64 x.val.kind)
 bool : w.cell? ⟨b, o + 2, none⟩ = some (.bool x.val.bool)
 int : w.cell? ⟨b, o + 3, none⟩ = some (.int .i64 x.val.int)
 real : w.cell? ⟨b, o + 4, none⟩ = some (.float .f32 x.val.real)
 text : w.cell? ⟨b, o + 5, none⟩ = some (.string x.val.text)
 texts : w.cell? ⟨b, o + 6, none⟩ = some u
theorem ArgC.keep {w w' : World} {b o : Nat} {x : AD} {u : Value} (h : ArgC w b o x u) (k : Keep [] w w') : ArgC w' b o x u :=
 ⟨k.cell' h.nm (by simp), k.cell' h.kind (by simp), k.cell' h.bool (by simp), k.cell' h.int (by simp), k.cell' h.real (by simp), k.cell' h.text (by simp), k.cell' h.texts (by simp)⟩
/-- the slice v reads as the arguments l -/
structure As (w : World) (v : Value) (l : List AD) : Prop where
 ok : ∀ x ∈ l, x.val.Ok
 ex : ∃ ao cap, v = .slice ao l.length cap ∧ l.length ≤ cap ∧ cap ≤ 9223372036854775807 ∧ (l ≠ [] → ∃ b o, ao = some ⟨b, o, none⟩ ∧ ∀ i (h : i < l.length), ∃ u, ArgC w b (o + i * 7) l[i] u ∧ Ts w u l[i].val.texts)
theorem args_long (a : Option Addr) (n c : Nat) (h : 16 < n) (hn : n ≤ 9223372036854775807) (w : World) : Calls Tryz.prog 61 #[.slice a n c] w fun e w' => e = .returned (.int .i64 41) ∧ w' = w := by
 have hi : (16 : Int) < (n : Int) := by omega
 go_enter Tryz.func61, Tryz.ntmps61
 go_wp2
 go_ret
 exact ⟨rfl, rfl⟩
/-- the box of an argument, and a name behind it -/
theorem arg_start {w0 w w' : World} {v0 v1 v2 v3 v4 v5 v6 : Value} {t : TypeId} (k0 : Keep [] w0 w) (k : Keep [] (w.alloc (.cells #[v0, v1, v2, v3, v4, v5, v6] t)) w') :
  w'.cell? ⟨w.heap.size, 0, none⟩ = some v0 ∧ w'.cell? ⟨w.heap.size, 1, none⟩ = some v1 ∧ w'.cell? ⟨w.heap.size, 2, none⟩ = some v2 ∧ w'.cell? ⟨w.heap.size, 3, none⟩ = some v3 ∧ w'.cell? ⟨w.heap.size, 4, none⟩ = some v4 ∧ w'.cell? ⟨w.heap.size, 5, none⟩ = some v5 ∧ w'.cell? ⟨w.heap.size, 6, none⟩ = some v6 ∧ Keep [] w0 w' := by
 refine ⟨k.cell' ?_ (by simp), k.cell' ?_ (by simp), k.cell' ?_ (by simp), k.cell' ?_ (by simp), k.cell' ?_ (by simp), k.cell' ?_ (by simp), k.cell' ?_ (by simp), (k0.alloc _).trans' k⟩ <;> simp [go_sem]
end Go.Proofs.YtfpcpociejefaaaGreatDoor
