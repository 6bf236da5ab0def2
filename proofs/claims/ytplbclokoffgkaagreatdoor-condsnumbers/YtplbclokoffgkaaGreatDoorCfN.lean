/- Conditions: the literals of whole numbers and of an empty text are short. -/
import Derived.Test.YtplbclokoffgkaaGreatDoorCfH
import Derived.Test.YtplbclokoffgkaaGreatDoorShelf
import Derived.Lib.SlBytesConst
import Derived.Lib.SmallJoins

namespace Go.Proofs.YtplbclokoffgkaaGreatDoor
open Go.RowKit Go.PlainAid Go.Shelf

theorem nDigits_le : ∀ (k u : Nat), u < 10 ^ (k + 1) → Lib.nDigits u ≤ k + 1
  | 0, u, h => by
    rw [Lib.nDigits]
    rw [dif_pos (by omega)]
    exact Nat.le_refl _
  | k + 1, u, h => by
    rw [Lib.nDigits]
    split
    · omega
    · have := nDigits_le k (u / 10) (by rw [Nat.div_lt_iff_lt_mul (by decide)]; rw [Nat.pow_succ] at h; exact h)
      omega
theorem itoa_len (n : Int) (h : In64 n) : (Lib.itoa n).length ≤ 21 := by
  obtain ⟨h1, h2⟩ := h
  unfold Lib.itoa
  split
  · rw [List.length_cons, Lib.decDigits_length]
    have := nDigits_le 19 n.natAbs (by have e : (10 : Nat) ^ (19 + 1) = 100000000000000000000 := by decide
                                       rw [e]; omega)
    omega
  · rw [Lib.decDigits_length]
    have := nDigits_le 19 n.toNat (by have e : (10 : Nat) ^ (19 + 1) = 100000000000000000000 := by decide
                                      rw [e]; omega)
    omega
theorem ti_24 (v : Value) (w : World) : (Instr.typeAssert (.iface 2 v) 20 4 true).run Tryz.prog w = .ok (.tuple #[.bool false, .bool false]) w := by
  have hz : (zeroValue 4).run Tryz.prog w = .ok (.bool false) w := by kernel_rfl
  simp [Instr.typeAssert, run_underlying Tryz.underlying4, go_sem, Result.andThen, hz]
theorem ti_22 (v : Value) (w : World) : (Instr.typeAssert (.iface 2 v) 20 2 true).run Tryz.prog w = .ok (.tuple #[v, .bool true]) w := by
  simp [Instr.typeAssert, run_underlying Tryz.underlying2, go_sem, Result.andThen]
theorem ti_94 (v : Value) (w : World) : (Instr.typeAssert (.iface 9 v) 20 4 true).run Tryz.prog w = .ok (.tuple #[.bool false, .bool false]) w := by
  have hz : (zeroValue 4).run Tryz.prog w = .ok (.bool false) w := by kernel_rfl
  simp [Instr.typeAssert, run_underlying Tryz.underlying4, go_sem, Result.andThen, hz]
theorem ti_92 (v : Value) (w : World) : (Instr.typeAssert (.iface 9 v) 20 2 true).run Tryz.prog w = .ok (.tuple #[.int .i64 0, .bool false]) w := by
  have hz : (zeroValue 2).run Tryz.prog w = .ok (.int .i64 0) w := by kernel_rfl
  simp [Instr.typeAssert, run_underlying Tryz.underlying2, go_sem, Result.andThen, hz]
theorem ti_931 (v : Value) (w : World) : (Instr.typeAssert (.iface 9 v) 20 31 true).run Tryz.prog w = .ok (.tuple #[.float .f32 0, .bool false]) w := by
  have hz : (zeroValue 31).run Tryz.prog w = .ok (.float .f32 0) w := by kernel_rfl
  simp [Instr.typeAssert, run_underlying Tryz.underlying31, go_sem, Result.andThen, hz]
theorem ti_99 (v : Value) (w : World) : (Instr.typeAssert (.iface 9 v) 20 9 true).run Tryz.prog w = .ok (.tuple #[v, .bool true]) w := by
  simp [Instr.typeAssert, run_underlying Tryz.underlying9, go_sem, Result.andThen]

set_option maxRecDepth 1000000 in
set_option maxHeartbeats 1600000 in
theorem held_int (n : Int) (w : World) : Calls Tryz.prog 144 #[intV n] w fun e w' => e = .returned (.iface 2 (.int .i64 n)) ∧ Keep [] w w' := by
  have hsf := store_f32
  simp only [Go.stored] at hsf
  go_enter Tryz.func144, Tryz.ntmps144
  go_wp2
  go_ret
  exact ⟨rfl, Keep.alloc1 _ _⟩
abbrev txtV : Value := .agg #[.int .i64 4, .bool false, .int .i64 0, .float .f32 0, .string ⟨#[]⟩, .slice none 0 0]
set_option maxRecDepth 1000000 in
set_option maxHeartbeats 1600000 in
theorem held_txt (w : World) : Calls Tryz.prog 144 #[txtV] w fun e w' => e = .returned (.iface 9 (.string ⟨#[]⟩)) ∧ Keep [] w w' := by
  have hsf := store_f32
  simp only [Go.stored] at hsf
  go_enter Tryz.func144, Tryz.ntmps144
  go_wp2
  go_ret
  exact ⟨rfl, Keep.alloc1 _ _⟩
set_option maxRecDepth 1000000 in
set_option maxHeartbeats 1600000 in
theorem literal_int (n : Int) (hn : In64 n) (w : World) (hT : Tb w) : Calls Tryz.prog 143 #[.iface 2 (.int .i64 n)] w fun e w' => (∃ s : ByteArray, e = .returned (.string s) ∧ s.size ≤ 256) ∧ Keep [] w w' := by
  have h1 := ti_24 (.int .i64 n)
  have h2 := ti_22 (.int .i64 n)
  have hF := Any.strconv_FormatInt_10 Tryz.laysM173 n hn.1 hn.2 w hT.pow
  have HL : Hid ((Lib.itoa n).length ≤ 21) := itoa_len n hn
  clear hT hn
  generalize Lib.itoa n = L at *
  go_enter Tryz.func143, Tryz.ntmps143
  go_wp2_with fail
  refine Calls.mono (show Calls Tryz.prog 154 _ _ _ from hF) ?_
  rintro e w5 ⟨rfl, k, os, rfl⟩
  have HK : Hid (Keep [] w (Go.Sort.grow (w.drewN k) os)) := Keep.ofBelow (Lib.below_grow _ _ (Nat.le_refl _) _ _)
  clear hF h1 h2
  generalize Go.Sort.grow (w.drewN k) os = w6 at *
  go_wp2
  go_ret
  exact ⟨⟨_, rfl, by have := HL.out; simp [ByteArray.size]; omega⟩, HK.out⟩
set_option maxRecDepth 1000000 in
set_option maxHeartbeats 1600000 in
theorem textOk_int (n : Int) (hn : In64 n) : TextOk 2 n := by
  intro w hT
  have hC := vcheck_int n hn
  have hH := held_int n
  have HL : Hid (∀ w, Tb w → Calls Tryz.prog 143 #[.iface 2 (.int .i64 n)] w fun e w' => (∃ s : ByteArray, e = .returned (.string s) ∧ s.size ≤ 256) ∧ Keep [] w w') := fun w hT => literal_int n hn w hT
  have HT : Hid (Tb w) := hT
  have hsf := store_f32
  simp only [Go.stored] at hsf
  clear hT hn
  go_enter Tryz.func122, Tryz.ntmps122
  go_wp2_with fail
  refine (hC _).mono ?_
  rintro e w5 ⟨rfl, k5⟩
  have v0 : w5.cell? ⟨w.heap.size, 0, none⟩ = some (.int .i64 2) := k5.cell' (by go_simp) (by simp)
  have v1 : w5.cell? ⟨w.heap.size, 1, none⟩ = some (.bool false) := k5.cell' (by go_simp) (by simp)
  have v2 : w5.cell? ⟨w.heap.size, 2, none⟩ = some (.int .i64 n) := k5.cell' (by go_simp) (by simp)
  have v3 : w5.cell? ⟨w.heap.size, 3, none⟩ = some (.float .f32 0) := k5.cell' (by go_simp) (by simp)
  have v4 : w5.cell? ⟨w.heap.size, 4, none⟩ = some (.string ⟨#[]⟩) := k5.cell' (by go_simp) (by simp)
  have v5 : w5.cell? ⟨w.heap.size, 5, none⟩ = some (.slice none 0 0) := k5.cell' (by go_simp) (by simp)
  have HK5 : Hid (Keep [] w w5) := (Keep.alloc1 _ _).trans' k5
  clear k5 hC
  go_wp2_with fail
  refine (hH _).mono ?_
  rintro e w6 ⟨rfl, k6⟩
  have HK6 : Hid (Keep [] w w6) := HK5.out.trans' k6
  clear k6 hH v0 v1 v2 v3 v4 v5
  go_wp2_with fail
  refine (HL.out _ (HT.out.keep HK6.out (by simp))).mono ?_
  rintro e w7 ⟨⟨s, rfl, hs⟩, k7⟩
  have HK7 : Hid (Keep [] w w7 ∧ s.size ≤ 256) := ⟨HK6.out.trans' k7, hs⟩
  clear k7 hs HL
  go_wp2
  go_ret2
  exact ⟨s, rfl, HK7.out.2, HK7.out.1⟩
theorem push_fold : ∀ (l : List UInt8) (s : ByteArray), (l.map fun x => ((x.toNat : Nat) : Int)).foldl (fun r n => r.push (UInt8.ofNat n.toNat)) s = ⟨s.data ++ l.toArray⟩
  | [], s => by simp
  | x :: r, s => by
    rw [List.map_cons, List.foldl_cons, push_fold r]
    have hx : UInt8.ofNat ((x.toNat : Nat) : Int).toNat = x := by simp
    rw [hx]
    congr 1
    apply Array.ext'
    simp [ByteArray.push]

theorem run_str {w : World} {v : Value} {l : List UInt8} (h : Bs w v l) : (convert 87 9 v).run Tryz.prog w = .ok (.string ⟨l.toArray⟩) w := by
  have key : ∀ (a : Addr) (cap : Nat), (∀ j u, (bv l)[j]? = some u → w.cell? (a.add j) = some u) → (convert 87 9 (.slice (some a) l.length cap)).run Tryz.prog w = .ok (.string ⟨l.toArray⟩) w := by
    intro a cap hc
    rw [run_convert_bytes_string w 87 9 5 _ _ _ underS Tryz.underlying5 Tryz.underlying9]
    have hld : (loadCells a l.length).run Tryz.prog w = .ok ((l.map fun x => ((x.toNat : Nat) : Int)).map (Value.int .u8)).toArray w := by
      have := run_loadCells_list (P := Tryz.prog) w a (bv l) hc
      rw [bv_length] at this
      rw [this]
      simp [bv, Function.comp_def]
    rw [run_bytesToString w a l.length cap _ hld, push_fold]
    simp
  rcases h.cases with ⟨rfl, ao, cap, rfl, _, _⟩ | ⟨_, b, o, cap, rfl, _, _, _, hc⟩
  · cases ao with
    | none =>
      rw [run_convert_bytes_string w 87 9 5 _ _ _ underS Tryz.underlying5 Tryz.underlying9]
      rfl
    | some a => exact key a cap (fun j u hj => by simp [bv] at hj)
  · refine key _ cap (fun j u hu => ?_)
    have hj : j < l.length := by
      have := (List.getElem?_eq_some_iff.1 hu).1
      simpa [bv_length] using this
    rw [bv_get l j hj] at hu
    have hadd : (⟨b, o, none⟩ : Addr).add j = ⟨b, o + j, none⟩ := by unfold Addr.add; split <;> simp_all
    rw [hadd, hc j hj, List.getD_eq_getElem?_getD, List.getElem?_eq_getElem hj]
    exact hu
set_option maxRecDepth 1000000 in
set_option maxHeartbeats 800000 in
theorem quoted_none (w : World) : Calls Tryz.prog 156 #[.string ⟨#[]⟩] w fun e w' => (∃ s : ByteArray, e = .returned (.string s) ∧ s.size ≤ 256) ∧ Keep [] w w' := by
  have hb : (w.alloc (.cells #[.int .u8 34] 5 (1, 2))).heap[w.heap.size]? = some (.cells #[.int .u8 34] 5 (1, 2)) := heap_alloc_new' w _
  have hB : Bs (w.alloc (.cells #[.int .u8 34] 5 (1, 2))) (.slice (some ⟨w.heap.size, 0, none⟩) 1 1) [34] := ⟨some ⟨w.heap.size, 0, none⟩, 1, rfl, by simp, by simp [maxLen], (fun h => by cases h), fun _ => ⟨w.heap.size, 0, rfl, fun j hj => by
    have : j = 0 := by simpa using hj
    subst this
    unfold World.cell?
    rw [hb]
    rfl⟩⟩
  have HB : Hid (type_of% hB) := hB
  have hst := run_str hB
  have HK : Hid (Keep [] w (w.alloc (.cells #[.int .u8 34] 5 (1, 2)))) := Keep.alloc1 _ _
  have hcv := fun (w : World) (C : Array Value) (n c : Nat) => Lib.run_convert_bytes_const (P := Tryz.prog) w 87 5 C n c Tryz.underlying87 Tryz.underlying5
  clear hB hb
  go_enter Tryz.func156, Tryz.ntmps156
  go_wp2
  clear hcv
  generalize w.alloc (.cells #[.int .u8 34] 5 (1, 2)) = W at *
  go_loopw [3, 9] (fun b i wr => b = .slice (some ⟨w.heap.size, 0, none⟩) 1 1 ∧ i = .int .i64 0 ∧ Hid (wr = W)) (fun _ _ _ => 0)
  case atStart => exact ⟨rfl, rfl, show _ = _ from rfl⟩
  case round =>
    obtain ⟨rfl, rfl, HW⟩ := hrel
    obtain rfl := HW.out
    clear HW
    go_wp2
    go_ret
    exact ⟨⟨_, rfl, by decide⟩, HK.out⟩
set_option maxRecDepth 1000000 in
set_option maxHeartbeats 1600000 in
theorem literal_txt (w : World) : Calls Tryz.prog 143 #[.iface 9 (.string ⟨#[]⟩)] w fun e w' => (∃ s : ByteArray, e = .returned (.string s) ∧ s.size ≤ 256) ∧ Keep [] w w' := by
  have h1 := ti_94 (.string ⟨#[]⟩)
  have h2 := ti_92 (.string ⟨#[]⟩)
  have h3 := ti_931 (.string ⟨#[]⟩)
  have h4 := ti_99 (.string ⟨#[]⟩)
  have hQ := fun w9 => quoted_none w9
  go_enter Tryz.func143, Tryz.ntmps143
  go_wp2_with fail
  refine (hQ _).mono ?_
  rintro e w5 ⟨⟨s, rfl, hs⟩, k5⟩
  have HK : Hid (Keep [] w w5 ∧ s.size ≤ 256) := ⟨k5, hs⟩
  clear k5 hs hQ h1 h2 h3 h4
  go_wp2
  go_ret
  exact ⟨⟨_, rfl, HK.out.2⟩, HK.out.1⟩
set_option maxRecDepth 1000000 in
set_option maxHeartbeats 1600000 in
theorem textOk_txt : TextOk 4 0 := by
  intro w hT
  have hC : ∀ w, Calls Tryz.prog 42 #[txtV] w fun e w' => e = .returned (.int .i64 0) ∧ Keep [] w w' := fun w => by
    have h := check_any (Pt.mk 1 ⟨#[]⟩ 4 0).vd (Pt.Ok.vd ⟨by decide, by decide, by decide, by decide, by decide, by decide⟩) (.slice none 0 0) w (Ts.nil _)
    rw [show (Pt.mk 1 ⟨#[]⟩ 4 0).vd.mayB = true by kernel_rfl] at h
    exact h
  have hH := held_txt
  have HL : Hid (∀ w, Tb w → Calls Tryz.prog 143 #[.iface 9 (.string ⟨#[]⟩)] w fun e w' => (∃ s : ByteArray, e = .returned (.string s) ∧ s.size ≤ 256) ∧ Keep [] w w') := fun w _ => literal_txt w
  have HT : Hid (Tb w) := hT
  have hsf := store_f32
  simp only [Go.stored] at hsf
  clear hT
  go_enter Tryz.func122, Tryz.ntmps122
  go_wp2_with fail
  refine (hC _).mono ?_
  rintro e w5 ⟨rfl, k5⟩
  have v0 : w5.cell? ⟨w.heap.size, 0, none⟩ = some (.int .i64 4) := k5.cell' (by go_simp) (by simp)
  have v1 : w5.cell? ⟨w.heap.size, 1, none⟩ = some (.bool false) := k5.cell' (by go_simp) (by simp)
  have v2 : w5.cell? ⟨w.heap.size, 2, none⟩ = some (.int .i64 0) := k5.cell' (by go_simp) (by simp)
  have v3 : w5.cell? ⟨w.heap.size, 3, none⟩ = some (.float .f32 0) := k5.cell' (by go_simp) (by simp)
  have v4 : w5.cell? ⟨w.heap.size, 4, none⟩ = some (.string ⟨#[]⟩) := k5.cell' (by go_simp) (by simp)
  have v5 : w5.cell? ⟨w.heap.size, 5, none⟩ = some (.slice none 0 0) := k5.cell' (by go_simp) (by simp)
  have HK5 : Hid (Keep [] w w5) := (Keep.alloc1 _ _).trans' k5
  clear k5 hC
  go_wp2_with fail
  refine (hH _).mono ?_
  rintro e w6 ⟨rfl, k6⟩
  have HK6 : Hid (Keep [] w w6) := HK5.out.trans' k6
  clear k6 hH v0 v1 v2 v3 v4 v5
  go_wp2_with fail
  refine (HL.out _ (HT.out.keep HK6.out (by simp))).mono ?_
  rintro e w7 ⟨⟨s, rfl, hs⟩, k7⟩
  have HK7 : Hid (Keep [] w w7 ∧ s.size ≤ 256) := ⟨HK6.out.trans' k7, hs⟩
  clear k7 hs HL
  go_wp2
  go_ret2
  exact ⟨s, rfl, HK7.out.2, HK7.out.1⟩
end Go.Proofs.YtplbclokoffgkaaGreatDoor

/- Conditions: the condition n < 2 and what is made of it; Check of a tree. -/
namespace Go.Proofs.YtplbclokoffgkaaGreatDoor
open Go.RowKit Go.PlainAid Go.Shelf

theorem ccheck_tree (nm : ByteArray) (ps : List PD) (t : Tr) (xs : List Pt) (hxs : t.flat = xs) (vals : List Int) (es : Nat → Int) (D : Nat) (ht : t.ok) (hok : CdOk nm ps xs) (hD : Dup ps D) (hK : Kd ps xs vals es) (hE : 0 ≤ (kindE vals es xs.length).2 ∧ (kindE vals es xs.length).2 ≤ 100) (hl1 : 1 ≤ xs.length) (hl : xs.length ≤ 20)
    (vp vx : Value) (w : World) (hp : Pm w vp ps) (hx : Pp w vx xs) (hT : Tb w) (hlp : Lo w.heap.size vp) (hlx : Lo w.heap.size vx) :
    Calls Tryz.prog 6 #[.agg #[.string nm, vp, vx]] w fun e w' => e = .returned (chkV ps D (kindE vals es xs.length)) ∧ Keep [] w w' := by
  have hcl := part_any t ht vx xs 0 [] (by simp [hxs]) (by omega)
  rw [hxs] at hcl
  exact ccheck_any nm ps xs vp vx D (kindE vals es xs.length) _ (2048 * xs.length) w hp hx hT hok hlp hlx hcl (by omega) hD hE
    (fun w1 k1 => kindFault_any nm ps xs vals es hK vp vx w1 (hp.keep0 k1) (hx.keep0 k1) hl1 (by omega) (fun k hk => Nat.lt_of_lt_of_le (hlp k hk) k1.size) (fun k hk => Nat.lt_of_lt_of_le (hlx k hk) k1.size))

theorem bl_n : (⟨#[110]⟩ : ByteArray).toList = [110] := by rw [ByteArray.toList_eq]
theorem bl_m : (⟨#[109]⟩ : ByteArray).toList = [109] := by rw [ByteArray.toList_eq]
theorem bl_less : (⟨#[108, 101, 115, 115]⟩ : ByteArray).toList = [108, 101, 115, 115] := by rw [ByteArray.toList_eq]
theorem nm_n : nameL (⟨#[110]⟩ : ByteArray).toList = true := by rw [bl_n]; decide
theorem nm_m : nameL (⟨#[109]⟩ : ByteArray).toList = true := by rw [bl_m]; decide
theorem nm_less : nameL (⟨#[108, 101, 115, 115]⟩ : ByteArray).toList = true := by rw [bl_less]; decide
theorem pk_n : pKind [⟨⟨#[110]⟩, 2⟩] ⟨#[110]⟩ = 2 := by simp [pKind]
theorem pk_m : pKind [⟨⟨#[110]⟩, 2⟩] ⟨#[109]⟩ = 0 := by simp [pKind]
theorem dup1 : Dup [⟨⟨#[110]⟩, 2⟩] 1 := ⟨by simp, fun k hk h => by
    have : k = 0 := by omega
    subst this
    rfl, fun h => by simp at h⟩
theorem dup2 : Dup [⟨⟨#[110]⟩, 2⟩, ⟨⟨#[110]⟩, 1⟩] 1 := ⟨by simp, fun k hk h => by
    have : k = 0 := by omega
    subst this
    rfl, fun h => by simp [pKind]⟩
theorem kd0 : Kd [⟨⟨#[110]⟩, 2⟩] [⟨11, ⟨#[]⟩, 0, 0⟩, ⟨2, ⟨#[110]⟩, 0, 0⟩, ⟨1, ⟨#[]⟩, 2, 2⟩] [1, 2, 2] (fun _ => 0) := by
  refine ⟨rfl, ?_, ?_, ?_, ?_⟩
  · intro x hx
    simp at hx
    rcases hx with rfl | rfl | rfl <;> simp [Pt.sp]
  · intro j i h hi
    have hi3 : i < 3 := hi
    match i, hi3 with
    | 0, _ =>
      obtain rfl : j = 2 := by simp at h; omega
      show 2 ≤ 2
      decide
    | 1, _ =>
      obtain rfl : j = 1 := by simp at h; omega
      show 0 ≤ 1
      decide
    | 2, _ =>
      obtain rfl : j = 0 := by simp at h; omega
      show 0 ≤ 0
      decide
  · intro j hj
    have hj3 : j < 4 := by simp at hj; omega
    match j, hj3 with
    | 0, _ => show 0 ≤ 100; decide
    | 1, _ => show 1 ≤ 100; decide
    | 2, _ => show 2 ≤ 100; decide
    | 3, _ => show 1 ≤ 100; decide
  · intro j i h hi
    have hi3 : i < 3 := hi
    match i, hi3 with
    | 0, _ =>
      obtain rfl : j = 2 := by simp at h; omega
      show pk [⟨⟨#[110]⟩, 2⟩] ⟨11, ⟨#[]⟩, 0, 0⟩ 2 2 = (1, 0)
      rfl
    | 1, _ =>
      obtain rfl : j = 1 := by simp at h; omega
      show pk [⟨⟨#[110]⟩, 2⟩] ⟨2, ⟨#[110]⟩, 0, 0⟩ 0 0 = (2, 0)
      simp [pk, errK, pk_n]
    | 2, _ =>
      obtain rfl : j = 0 := by simp at h; omega
      show pk [⟨⟨#[110]⟩, 2⟩] ⟨1, ⟨#[]⟩, 2, 2⟩ 0 0 = (2, 0)
      rfl

theorem kd1 : Kd [⟨⟨#[110]⟩, 2⟩] [⟨11, ⟨#[]⟩, 0, 0⟩, ⟨2, ⟨#[109]⟩, 0, 0⟩, ⟨1, ⟨#[]⟩, 2, 2⟩] [0, 0, 2] (fun i => if i = 1 then 71 else 0) := by
  refine ⟨rfl, ?_, ?_, ?_, ?_⟩
  · intro x hx
    simp at hx
    rcases hx with rfl | rfl | rfl <;> simp [Pt.sp]
  · intro j i h hi
    have hi3 : i < 3 := hi
    match i, hi3 with
    | 0, _ =>
      obtain rfl : j = 2 := by simp at h; omega
      show 2 ≤ 2
      decide
    | 1, _ =>
      obtain rfl : j = 1 := by simp at h; omega
      show 0 ≤ 1
      decide
    | 2, _ =>
      obtain rfl : j = 0 := by simp at h; omega
      show 0 ≤ 0
      decide
  · intro j hj
    have hj3 : j < 4 := by simp at hj; omega
    match j, hj3 with
    | 0, _ => show 0 ≤ 100; decide
    | 1, _ => show 1 ≤ 100; decide
    | 2, _ => show 2 ≤ 100; decide
    | 3, _ => show 1 ≤ 100; decide
  · intro j i h hi
    have hi3 : i < 3 := hi
    match i, hi3 with
    | 0, _ =>
      obtain rfl : j = 2 := by simp at h; omega
      show pk [⟨⟨#[110]⟩, 2⟩] ⟨11, ⟨#[]⟩, 0, 0⟩ 0 2 = (0, 0)
      rfl
    | 1, _ =>
      obtain rfl : j = 1 := by simp at h; omega
      show pk [⟨⟨#[110]⟩, 2⟩] ⟨2, ⟨#[109]⟩, 0, 0⟩ 0 0 = (0, 71)
      simp [pk, errK, pk_m]
    | 2, _ =>
      obtain rfl : j = 0 := by simp at h; omega
      show pk [⟨⟨#[110]⟩, 2⟩] ⟨1, ⟨#[]⟩, 2, 2⟩ 0 0 = (2, 0)
      rfl

theorem kd2 : Kd [⟨⟨#[110]⟩, 2⟩] [⟨11, ⟨#[]⟩, 0, 0⟩, ⟨1, ⟨#[]⟩, 4, 0⟩, ⟨1, ⟨#[]⟩, 2, 2⟩] [0, 4, 2] (fun i => if i = 0 then 70 else 0) := by
  refine ⟨rfl, ?_, ?_, ?_, ?_⟩
  · intro x hx
    simp at hx
    rcases hx with rfl | rfl | rfl <;> simp [Pt.sp]
  · intro j i h hi
    have hi3 : i < 3 := hi
    match i, hi3 with
    | 0, _ =>
      obtain rfl : j = 2 := by simp at h; omega
      show 2 ≤ 2
      decide
    | 1, _ =>
      obtain rfl : j = 1 := by simp at h; omega
      show 0 ≤ 1
      decide
    | 2, _ =>
      obtain rfl : j = 0 := by simp at h; omega
      show 0 ≤ 0
      decide
  · intro j hj
    have hj3 : j < 4 := by simp at hj; omega
    match j, hj3 with
    | 0, _ => show 0 ≤ 100; decide
    | 1, _ => show 1 ≤ 100; decide
    | 2, _ => show 2 ≤ 100; decide
    | 3, _ => show 1 ≤ 100; decide
  · intro j i h hi
    have hi3 : i < 3 := hi
    match i, hi3 with
    | 0, _ =>
      obtain rfl : j = 2 := by simp at h; omega
      show pk [⟨⟨#[110]⟩, 2⟩] ⟨11, ⟨#[]⟩, 0, 0⟩ 4 2 = (0, 70)
      rfl
    | 1, _ =>
      obtain rfl : j = 1 := by simp at h; omega
      show pk [⟨⟨#[110]⟩, 2⟩] ⟨1, ⟨#[]⟩, 4, 0⟩ 0 0 = (4, 0)
      rfl
    | 2, _ =>
      obtain rfl : j = 0 := by simp at h; omega
      show pk [⟨⟨#[110]⟩, 2⟩] ⟨1, ⟨#[]⟩, 2, 2⟩ 0 0 = (2, 0)
      rfl

theorem kd3 : Kd [⟨⟨#[110]⟩, 2⟩, ⟨⟨#[110]⟩, 1⟩] [⟨11, ⟨#[]⟩, 0, 0⟩, ⟨1, ⟨#[]⟩, 4, 0⟩, ⟨1, ⟨#[]⟩, 2, 2⟩] [0, 4, 2] (fun i => if i = 0 then 70 else 0) := by
  refine ⟨rfl, ?_, ?_, ?_, ?_⟩
  · intro x hx
    simp at hx
    rcases hx with rfl | rfl | rfl <;> simp [Pt.sp]
  · intro j i h hi
    have hi3 : i < 3 := hi
    match i, hi3 with
    | 0, _ =>
      obtain rfl : j = 2 := by simp at h; omega
      show 2 ≤ 2
      decide
    | 1, _ =>
      obtain rfl : j = 1 := by simp at h; omega
      show 0 ≤ 1
      decide
    | 2, _ =>
      obtain rfl : j = 0 := by simp at h; omega
      show 0 ≤ 0
      decide
  · intro j hj
    have hj3 : j < 4 := by simp at hj; omega
    match j, hj3 with
    | 0, _ => show 0 ≤ 100; decide
    | 1, _ => show 1 ≤ 100; decide
    | 2, _ => show 2 ≤ 100; decide
    | 3, _ => show 1 ≤ 100; decide
  · intro j i h hi
    have hi3 : i < 3 := hi
    match i, hi3 with
    | 0, _ =>
      obtain rfl : j = 2 := by simp at h; omega
      show pk [⟨⟨#[110]⟩, 2⟩, ⟨⟨#[110]⟩, 1⟩] ⟨11, ⟨#[]⟩, 0, 0⟩ 4 2 = (0, 70)
      rfl
    | 1, _ =>
      obtain rfl : j = 1 := by simp at h; omega
      show pk [⟨⟨#[110]⟩, 2⟩, ⟨⟨#[110]⟩, 1⟩] ⟨1, ⟨#[]⟩, 4, 0⟩ 0 0 = (4, 0)
      rfl
    | 2, _ =>
      obtain rfl : j = 0 := by simp at h; omega
      show pk [⟨⟨#[110]⟩, 2⟩, ⟨⟨#[110]⟩, 1⟩] ⟨1, ⟨#[]⟩, 2, 2⟩ 0 0 = (2, 0)
      rfl

theorem ok0 : CdOk ⟨#[108, 101, 115, 115]⟩ [⟨⟨#[110]⟩, 2⟩] [⟨11, ⟨#[]⟩, 0, 0⟩, ⟨2, ⟨#[110]⟩, 0, 0⟩, ⟨1, ⟨#[]⟩, 2, 2⟩] := by
  refine ⟨nm_less, by simp, ?_, by simp, ?_, rfl⟩
  · intro p hp
    simp at hp
    rcases hp with rfl <;> exact ⟨nm_n, by decide, by decide⟩
  · intro p hp
    simp at hp
    rcases hp with rfl | rfl | rfl
    · exact ⟨⟨by decide, by decide, by decide, by decide, by decide, by decide⟩, .inr (.inr ⟨by decide, rfl, rfl, rfl⟩)⟩
    · exact ⟨⟨by decide, by decide, by decide, by decide, by decide, by decide⟩, .inr (.inl ⟨rfl, nm_n, rfl, rfl⟩)⟩
    · exact ⟨⟨by decide, by decide, by decide, by decide, by decide, by decide⟩, .inl ⟨rfl, rfl, by kernel_rfl⟩⟩
theorem ok1 : CdOk ⟨#[108, 101, 115, 115]⟩ [⟨⟨#[110]⟩, 2⟩] [⟨11, ⟨#[]⟩, 0, 0⟩, ⟨2, ⟨#[109]⟩, 0, 0⟩, ⟨1, ⟨#[]⟩, 2, 2⟩] := by
  refine ⟨nm_less, by simp, ?_, by simp, ?_, rfl⟩
  · intro p hp
    simp at hp
    rcases hp with rfl <;> exact ⟨nm_n, by decide, by decide⟩
  · intro p hp
    simp at hp
    rcases hp with rfl | rfl | rfl
    · exact ⟨⟨by decide, by decide, by decide, by decide, by decide, by decide⟩, .inr (.inr ⟨by decide, rfl, rfl, rfl⟩)⟩
    · exact ⟨⟨by decide, by decide, by decide, by decide, by decide, by decide⟩, .inr (.inl ⟨rfl, nm_m, rfl, rfl⟩)⟩
    · exact ⟨⟨by decide, by decide, by decide, by decide, by decide, by decide⟩, .inl ⟨rfl, rfl, by kernel_rfl⟩⟩
theorem ok2 : CdOk ⟨#[108, 101, 115, 115]⟩ [⟨⟨#[110]⟩, 2⟩] [⟨11, ⟨#[]⟩, 0, 0⟩, ⟨1, ⟨#[]⟩, 4, 0⟩, ⟨1, ⟨#[]⟩, 2, 2⟩] := by
  refine ⟨nm_less, by simp, ?_, by simp, ?_, rfl⟩
  · intro p hp
    simp at hp
    rcases hp with rfl <;> exact ⟨nm_n, by decide, by decide⟩
  · intro p hp
    simp at hp
    rcases hp with rfl | rfl | rfl
    · exact ⟨⟨by decide, by decide, by decide, by decide, by decide, by decide⟩, .inr (.inr ⟨by decide, rfl, rfl, rfl⟩)⟩
    · exact ⟨⟨by decide, by decide, by decide, by decide, by decide, by decide⟩, .inl ⟨rfl, rfl, by kernel_rfl⟩⟩
    · exact ⟨⟨by decide, by decide, by decide, by decide, by decide, by decide⟩, .inl ⟨rfl, rfl, by kernel_rfl⟩⟩
theorem ok3 : CdOk ⟨#[108, 101, 115, 115]⟩ [⟨⟨#[110]⟩, 2⟩, ⟨⟨#[110]⟩, 1⟩] [⟨11, ⟨#[]⟩, 0, 0⟩, ⟨1, ⟨#[]⟩, 4, 0⟩, ⟨1, ⟨#[]⟩, 2, 2⟩] := by
  refine ⟨nm_less, by simp, ?_, by simp, ?_, rfl⟩
  · intro p hp
    simp at hp
    rcases hp with rfl | rfl <;> exact ⟨nm_n, by decide, by decide⟩
  · intro p hp
    simp at hp
    rcases hp with rfl | rfl | rfl
    · exact ⟨⟨by decide, by decide, by decide, by decide, by decide, by decide⟩, .inr (.inr ⟨by decide, rfl, rfl, rfl⟩)⟩
    · exact ⟨⟨by decide, by decide, by decide, by decide, by decide, by decide⟩, .inl ⟨rfl, rfl, by kernel_rfl⟩⟩
    · exact ⟨⟨by decide, by decide, by decide, by decide, by decide, by decide⟩, .inl ⟨rfl, rfl, by kernel_rfl⟩⟩

theorem tr0 : (Tr.bin 11 (.par ⟨#[110]⟩) (.val 2 2)).ok := ⟨by decide, (by show (⟨#[110]⟩ : ByteArray).size ≤ 256; decide), textOk_int 2 (by decide), by decide⟩
theorem tr1 : (Tr.bin 11 (.par ⟨#[109]⟩) (.val 2 2)).ok := ⟨by decide, (by show (⟨#[109]⟩ : ByteArray).size ≤ 256; decide), textOk_int 2 (by decide), by decide⟩
theorem tr2 : (Tr.bin 11 (.val 4 0) (.val 2 2)).ok := ⟨by decide, ⟨textOk_txt, by decide⟩, textOk_int 2 (by decide), by decide⟩
/-- Check of the four -/
theorem chk0 (vp vx : Value) (w : World) (hp : Pm w vp [⟨⟨#[110]⟩, 2⟩]) (hx : Pp w vx [⟨11, ⟨#[]⟩, 0, 0⟩, ⟨2, ⟨#[110]⟩, 0, 0⟩, ⟨1, ⟨#[]⟩, 2, 2⟩]) (hT : Tb w) (hlp : Lo w.heap.size vp) (hlx : Lo w.heap.size vx) : Calls Tryz.prog 6 #[.agg #[.string ⟨#[108, 101, 115, 115]⟩, vp, vx]] w fun e w' => e = .returned F0 ∧ Keep [] w w' :=
  ccheck_tree _ _ (Tr.bin 11 (.par ⟨#[110]⟩) (.val 2 2)) _ rfl _ _ 1 tr0 ok0 dup1 kd0 (by decide) (by decide) (by decide) vp vx w hp hx hT hlp hlx
theorem chk1 (vp vx : Value) (w : World) (hp : Pm w vp [⟨⟨#[110]⟩, 2⟩]) (hx : Pp w vx [⟨11, ⟨#[]⟩, 0, 0⟩, ⟨2, ⟨#[109]⟩, 0, 0⟩, ⟨1, ⟨#[]⟩, 2, 2⟩]) (hT : Tb w) (hlp : Lo w.heap.size vp) (hlx : Lo w.heap.size vx) : Calls Tryz.prog 6 #[.agg #[.string ⟨#[108, 101, 115, 115]⟩, vp, vx]] w fun e w' => e = .returned (.agg #[.int .i64 71, .int .i64 0, .int .i64 2, .int .i64 (-1)]) ∧ Keep [] w w' :=
  ccheck_tree _ _ (Tr.bin 11 (.par ⟨#[109]⟩) (.val 2 2)) _ rfl _ _ 1 tr1 ok1 dup1 kd1 (by decide) (by decide) (by decide) vp vx w hp hx hT hlp hlx
theorem chk2 (vp vx : Value) (w : World) (hp : Pm w vp [⟨⟨#[110]⟩, 2⟩]) (hx : Pp w vx [⟨11, ⟨#[]⟩, 0, 0⟩, ⟨1, ⟨#[]⟩, 4, 0⟩, ⟨1, ⟨#[]⟩, 2, 2⟩]) (hT : Tb w) (hlp : Lo w.heap.size vp) (hlx : Lo w.heap.size vx) : Calls Tryz.prog 6 #[.agg #[.string ⟨#[108, 101, 115, 115]⟩, vp, vx]] w fun e w' => e = .returned (.agg #[.int .i64 70, .int .i64 0, .int .i64 1, .int .i64 (-1)]) ∧ Keep [] w w' :=
  ccheck_tree _ _ (Tr.bin 11 (.val 4 0) (.val 2 2)) _ rfl _ _ 1 tr2 ok2 dup1 kd2 (by decide) (by decide) (by decide) vp vx w hp hx hT hlp hlx
theorem chk3 (vp vx : Value) (w : World) (hp : Pm w vp [⟨⟨#[110]⟩, 2⟩, ⟨⟨#[110]⟩, 1⟩]) (hx : Pp w vx [⟨11, ⟨#[]⟩, 0, 0⟩, ⟨1, ⟨#[]⟩, 4, 0⟩, ⟨1, ⟨#[]⟩, 2, 2⟩]) (hT : Tb w) (hlp : Lo w.heap.size vp) (hlx : Lo w.heap.size vx) : Calls Tryz.prog 6 #[.agg #[.string ⟨#[108, 101, 115, 115]⟩, vp, vx]] w fun e w' => e = .returned (.agg #[.int .i64 90, .int .i64 0, .int .i64 1, .int .i64 (-1)]) ∧ Keep [] w w' :=
  ccheck_tree _ _ (Tr.bin 11 (.val 4 0) (.val 2 2)) _ rfl _ _ 1 tr2 ok3 dup2 kd3 (by decide) (by decide) (by decide) vp vx w hp hx hT hlp hlx
end Go.Proofs.YtplbclokoffgkaaGreatDoor

/- Conditions: the condition n < 2 as it is laid; Eval of arguments that may not be. -/
namespace Go.Proofs.YtplbclokoffgkaaGreatDoor
open Go.RowKit Go.PlainAid Go.Shelf

abbrev C38 : Array Value := #[.string ⟨#[110]⟩, .int .i64 2]
abbrev C36 (nm : ByteArray) : Array Value := #[.int .i64 11, .string ⟨#[]⟩, .int .i64 0, .bool false, .int .i64 0, .float .f32 0, .string ⟨#[]⟩, .slice none 0 0, .int .i64 2, .string nm, .int .i64 0, .bool false, .int .i64 0, .float .f32 0, .string ⟨#[]⟩, .slice none 0 0, .int .i64 1, .string ⟨#[]⟩, .int .i64 2, .bool false, .int .i64 2, .float .f32 0, .string ⟨#[]⟩, .slice none 0 0]
abbrev C36t : Array Value := #[.int .i64 11, .string ⟨#[]⟩, .int .i64 0, .bool false, .int .i64 0, .float .f32 0, .string ⟨#[]⟩, .slice none 0 0, .int .i64 1, .string ⟨#[]⟩, .int .i64 4, .bool false, .int .i64 0, .float .f32 0, .string ⟨#[]⟩, .slice none 0 0, .int .i64 1, .string ⟨#[]⟩, .int .i64 2, .bool false, .int .i64 2, .float .f32 0, .string ⟨#[]⟩, .slice none 0 0]
set_option maxRecDepth 1000000 in
set_option maxHeartbeats 1600000 in
theorem lessC_any (w : World) : Calls Tryz.prog 5 #[] w fun e w' => ∃ g1 g2, e = .returned (.agg #[.string ⟨#[108, 101, 115, 115]⟩, .slice (some ⟨g1, 0, none⟩) 1 1, .slice (some ⟨g2, 0, none⟩) 3 3]) ∧ w.heap.size ≤ g1 ∧ g1 < g2 ∧ w'.heap[g1]? = some (.cells C38 38 (0, 0)) ∧ w'.heap[g2]? = some (.cells (C36 ⟨#[110]⟩) 36 (0, 0)) ∧ Keep [] w w' := by
  have hsf := store_f32
  simp only [Go.stored] at hsf
  go_enter Tryz.func5, Tryz.ntmps5
  go_wp2
  refine bodyPost_ret (v := .agg #[.string ⟨#[108, 101, 115, 115]⟩, .slice (some ⟨w.heap.size + 2, 0, none⟩) 1 1, .slice (some ⟨w.heap.size + 3, 0, none⟩) 3 3]) (by simp [results, Tryz.results5, go_sem]) rfl ⟨w.heap.size + 2, w.heap.size + 3, rfl, by omega, by omega, ?_, ?_, ((((Keep.alloc1 _ _).alloc _).alloc _).alloc _)⟩
  · refine (Below.heap_alloc _ _ _ (by simp)).trans ?_
    have := heap_alloc_new' ((w.alloc (.cells #[.string ⟨#[108, 101, 115, 115]⟩, .slice (some ⟨w.heap.size + 1 + 1, 0, none⟩) 1 1, .slice (some ⟨w.heap.size + 1 + 1 + 1, 0, none⟩) 3 3] 25)).alloc (.cells #[.int .i64 2, .bool false, .int .i64 2, .float .f32 0, .string ⟨#[]⟩, .slice none 0 0] 34)) (.cells C38 38)
    rw [World.size_alloc, World.size_alloc] at this
    exact this
  · have := heap_alloc_new' (((w.alloc (.cells #[.string ⟨#[108, 101, 115, 115]⟩, .slice (some ⟨w.heap.size + 1 + 1, 0, none⟩) 1 1, .slice (some ⟨w.heap.size + 1 + 1 + 1, 0, none⟩) 3 3] 25)).alloc (.cells #[.int .i64 2, .bool false, .int .i64 2, .float .f32 0, .string ⟨#[]⟩, .slice none 0 0] 34)).alloc (.cells C38 38)) (.cells (C36 ⟨#[110]⟩) 36)
    rw [World.size_alloc, World.size_alloc, World.size_alloc] at this
    exact this
theorem pm_of {W : World} {g : Nat} (h : W.heap[g]? = some (.cells C38 38 (0, 0))) : Pm W (.slice (some ⟨g, 0, none⟩) 1 1) [⟨⟨#[110]⟩, 2⟩] := by
  refine ⟨some ⟨g, 0, none⟩, 1, rfl, by simp, by decide, fun _ => ⟨g, 0, rfl, fun i hi => ?_⟩⟩
  have hi1 : i < 1 := hi
  match i, hi1 with
  | 0, _ => constructor <;> (unfold World.cell?; rw [h]; rfl)
theorem pp_of {W : World} {g : Nat} (nm : ByteArray) (h : W.heap[g]? = some (.cells (C36 nm) 36 (0, 0))) : Pp W (.slice (some ⟨g, 0, none⟩) 3 3) [⟨11, ⟨#[]⟩, 0, 0⟩, ⟨2, nm, 0, 0⟩, ⟨1, ⟨#[]⟩, 2, 2⟩] := by
  refine ⟨some ⟨g, 0, none⟩, 3, rfl, by simp, by decide, fun _ => ⟨g, 0, rfl, fun i hi => ?_⟩⟩
  have hi1 : i < 3 := hi
  match i, hi1 with
  | 0, _ => refine ⟨?_, ?_, ?_, ?_, ?_, ?_, ?_, ?_⟩ <;> (unfold World.cell?; rw [h]; rfl)
  | 1, _ => refine ⟨?_, ?_, ?_, ?_, ?_, ?_, ?_, ?_⟩ <;> (unfold World.cell?; rw [h]; rfl)
  | 2, _ => refine ⟨?_, ?_, ?_, ?_, ?_, ?_, ?_, ?_⟩ <;> (unfold World.cell?; rw [h]; rfl)
theorem ppt_of {W : World} {g : Nat} (h : W.heap[g]? = some (.cells C36t 36 (0, 0))) : Pp W (.slice (some ⟨g, 0, none⟩) 3 3) [⟨11, ⟨#[]⟩, 0, 0⟩, ⟨1, ⟨#[]⟩, 4, 0⟩, ⟨1, ⟨#[]⟩, 2, 2⟩] := by
  refine ⟨some ⟨g, 0, none⟩, 3, rfl, by simp, by decide, fun _ => ⟨g, 0, rfl, fun i hi => ?_⟩⟩
  have hi1 : i < 3 := hi
  match i, hi1 with
  | 0, _ => refine ⟨?_, ?_, ?_, ?_, ?_, ?_, ?_, ?_⟩ <;> (unfold World.cell?; rw [h]; rfl)
  | 1, _ => refine ⟨?_, ?_, ?_, ?_, ?_, ?_, ?_, ?_⟩ <;> (unfold World.cell?; rw [h]; rfl)
  | 2, _ => refine ⟨?_, ?_, ?_, ?_, ?_, ?_, ?_, ?_⟩ <;> (unfold World.cell?; rw [h]; rfl)

set_option maxRecDepth 1000000 in
set_option maxHeartbeats 1600000 in
theorem evalBad_any (nm : ByteArray) (vp vx va : Value) (R : Int) (hR0 : R ≠ 0) (hsl : (∃ a n c, vp = .slice a n c) ∧ ∃ a n c, vx = .slice a n c) (w : World)
    (hr : ∀ w1, Keep [] w w1 → Calls Tryz.prog 13 #[.agg #[.string nm, vp, vx], va] w1 fun e w' => e = .returned (.int .i64 R) ∧ Keep [] w1 w') :
    Calls Tryz.prog 7 #[.agg #[.string nm, vp, vx], va] w fun e w' => e = .returned (.tuple #[.agg #[.bool false, .bool false, .slice none 0 0], .int .i64 R]) ∧ Keep [] w w' := by
  obtain ⟨⟨a1, n1, c1, rfl⟩, a2, n2, c2, rfl⟩ := hsl
  have hR := hr ((w.alloc (.cells #[.string nm, .slice a1 n1 c1, .slice a2 n2 c2] 25)).alloc (.cells #[.bool false, .bool false, .slice none 0 0] 40)) ((Keep.alloc1 _ _).alloc _)
  have hRb : (R != 0) = true := by simpa using hR0
  have HK0 : Hid (Keep [] w ((w.alloc (.cells #[.string nm, .slice a1 n1 c1, .slice a2 n2 c2] 25)).alloc (.cells #[.bool false, .bool false, .slice none 0 0] 40))) := (Keep.alloc1 _ _).alloc _
  clear hr hR0
  go_enter Tryz.func7, Tryz.ntmps7
  go_wp2_with fail
  refine hR.mono ?_
  rintro e w5 ⟨rfl, k5⟩
  have g0 : w5.cell? ⟨w.heap.size + 1, 0, none⟩ = some (.bool false) := k5.cell' (by go_simp) (by simp)
  have g1 : w5.cell? ⟨w.heap.size + 1, 1, none⟩ = some (.bool false) := k5.cell' (by go_simp) (by simp)
  have g2 : w5.cell? ⟨w.heap.size + 1, 2, none⟩ = some (.slice none 0 0) := k5.cell' (by go_simp) (by simp)
  have f0 : w5.frozen? ⟨w.heap.size + 1, 0, none⟩ = false := (k5.frozen (by simp) (by simp)).trans (by go_simp)
  have f1 : w5.frozen? ⟨w.heap.size + 1, 1, none⟩ = false := (k5.frozen (by simp) (by simp)).trans (by go_simp)
  have f2 : w5.frozen? ⟨w.heap.size + 1, 2, none⟩ = false := (k5.frozen (by simp) (by simp)).trans (by go_simp)
  have HK : Hid (Keep [] w w5) := HK0.out.trans' k5
  clear k5 hR HK0
  go_wp2
  refine bodyPost_ret (v := .tuple #[.agg #[.bool false, .bool false, .slice none 0 0], .int .i64 R]) (by simp [results, Tryz.results7, go_sem, g0, g1, g2]) rfl ⟨rfl, ?_⟩
  repeat (first | exact HK.out | refine Keep.setCell ?_ (.inr (by simp)) _)
end Go.Proofs.YtplbclokoffgkaaGreatDoor

/- Conditions: CondsNumbers. -/
namespace Go.Proofs.YtplbclokoffgkaaGreatDoor
open Go.RowKit Go.PlainAid Go.Shelf

theorem infoP38 : (Tryz.prog.info? 38).map (fun i => (i.zero, i.size, i.bytes)) = some (some (.agg #[.string ⟨#[]⟩, .int .i64 0]), 2, 24) := by kernel_rfl
theorem three_cell {W : World} {b : Nat} {u0 u1 u2 : Value} {t : TypeId} (h : W.heap[b]? = some (.cells #[u0, u1, u2] t (0, 0))) : W.cell? ⟨b, 0, none⟩ = some u0 ∧ W.cell? ⟨b, 1, none⟩ = some u1 ∧ W.cell? ⟨b, 2, none⟩ = some u2 := by
  refine ⟨?_, ?_, ?_⟩
  all_goals (unfold World.cell?; rw [h]; rfl)
theorem three_free {W : World} {b : Nat} {cs : Array Value} {t : TypeId} (h : W.heap[b]? = some (.cells cs t (0, 0))) (j : Nat) : W.frozen? ⟨b, j, none⟩ = false := by unfold World.frozen?; rw [h]; simp
theorem blk {F : List Nat} {W W' : World} {b : Nat} {o : Obj} (k : Keep F W W') (h : W.heap[b]? = some o) (hn : b ∉ F) : W'.heap[b]? = some o := (k.block _ (Array.getElem?_eq_some_iff.1 h).1 hn).trans h
theorem lo_lt {W : World} {b : Nat} {o : Obj} {n c : Nat} (h : W.heap[b]? = some o) : Lo W.heap.size (.slice (some ⟨b, 0, none⟩) n c) := fun k hk => by
  simp [Value.ownBlock] at hk
  subst hk
  exact (Array.getElem?_eq_some_iff.1 h).1
theorem nm_or : nameL (⟨#[111, 114]⟩ : ByteArray).toList = false := by rw [ByteArray.toList_eq]; decide
abbrev C44 : Array Value := #[.string ⟨#[111, 114]⟩, .int .i64 2, .bool false, .int .i64 0, .float .f32 0, .string ⟨#[]⟩, .slice none 0 0]
theorem ar_of {W : World} {g : Nat} (h : W.heap[g]? = some (.cells C44 44 (0, 0))) : Ar W (.slice (some ⟨g, 0, none⟩) 1 1) [⟨⟨#[111, 114]⟩, 0⟩] := by
  refine ⟨g, 0, 1, rfl, fun i hi => ?_⟩
  have hi1 : i < 1 := hi
  match i, hi1 with
  | 0, _ => refine ⟨?_, ?_, ?_, ?_, ?_, ?_, ?_⟩ <;> (unfold World.cell?; rw [h]; rfl)
/-- Eval of n < 2 with an argument named or -/
theorem evalOr (vp vx : Value) (g : Nat) (w : World) (hsl : (∃ a n c, vp = .slice a n c) ∧ ∃ a n c, vx = .slice a n c) (hp : Pm w vp [⟨⟨#[110]⟩, 2⟩]) (hx : Pp w vx [⟨11, ⟨#[]⟩, 0, 0⟩, ⟨2, ⟨#[110]⟩, 0, 0⟩, ⟨1, ⟨#[]⟩, 2, 2⟩]) (hT : Tb w) (hlp : Lo w.heap.size vp) (hlx : Lo w.heap.size vx) (ha : w.heap[g]? = some (.cells C44 44 (0, 0))) :
    Calls Tryz.prog 7 #[.agg #[.string ⟨#[108, 101, 115, 115]⟩, vp, vx], .slice (some ⟨g, 0, none⟩) 1 1] w fun e w' => e = .returned (.tuple #[.agg #[.bool false, .bool false, .slice none 0 0], .int .i64 41]) ∧ Keep [] w w' :=
  evalBad_any _ vp vx _ 41 (by decide) hsl w (fun w1 k1 => refused_any _ vp vx _ 41 hsl w1
    (fun w2 k2 => chk0 vp vx w2 (hp.keep0 (k1.trans' k2)) (hx.keep0 (k1.trans' k2)) (hT.keep (k1.trans' k2) (by simp)) (fun k hk => Nat.lt_of_lt_of_le (hlp k hk) (k1.trans' k2).size) (fun k hk => Nat.lt_of_lt_of_le (hlx k hk) (k1.trans' k2).size))
    (fun w2 k2 => argsFault_bad _ 0 _ w2 (ar_of (blk (k1.trans' k2) ha (by simp))) nm_or))

set_option maxRecDepth 1000000 in
set_option maxHeartbeats 6400000 in
theorem numbers_walk (w : World) (hT : Tb w) : Calls Tryz.prog 3 #[] w fun e w' => e = .returned (.bool true) ∧ Keep [] w w' := by
  have HT : Hid (Tb w) := hT
  have hsf := store_f32
  simp only [Go.stored] at hsf
  clear hT
  go_enter Tryz.func3, Tryz.ntmps3
  go_wp2_with fail
  refine (lessC_any _).mono ?_
  rintro e w1 ⟨g1, g2, rfl, h1, h2, p1, x1, k1⟩
  obtain ⟨B, HB⟩ : ∃ B : Nat, Hid (B = w1.heap.size) := ⟨_, show _ = _ from rfl⟩
  have HN : Hid (w.heap.size ≤ g1 ∧ g1 < g2 ∧ g2 < B) := ⟨h1, h2, by rw [HB.out]; exact (Array.getElem?_eq_some_iff.1 x1).1⟩
  have ka : Keep [] w1 (w1.alloc (.cells #[.string ⟨#[108, 101, 115, 115]⟩, (.slice (some ⟨g1, 0, none⟩) 1 1), (.slice (some ⟨g2, 0, none⟩) 3 3)] 25)) := Keep.alloc1 _ _
  have HA : Hid (Keep [] w (w1.alloc (.cells #[.string ⟨#[108, 101, 115, 115]⟩, (.slice (some ⟨g1, 0, none⟩) 1 1), (.slice (some ⟨g2, 0, none⟩) 3 3)] 25)) ∧ (w1.alloc (.cells #[.string ⟨#[108, 101, 115, 115]⟩, (.slice (some ⟨g1, 0, none⟩) 1 1), (.slice (some ⟨g2, 0, none⟩) 3 3)] 25)).heap[g1]? = some (.cells C38 38 (0, 0)) ∧ (w1.alloc (.cells #[.string ⟨#[108, 101, 115, 115]⟩, (.slice (some ⟨g1, 0, none⟩) 1 1), (.slice (some ⟨g2, 0, none⟩) 3 3)] 25)).heap[g2]? = some (.cells (C36 ⟨#[110]⟩) 36 (0, 0)) ∧ (w1.alloc (.cells #[.string ⟨#[108, 101, 115, 115]⟩, (.slice (some ⟨g1, 0, none⟩) 1 1), (.slice (some ⟨g2, 0, none⟩) 3 3)] 25)).heap[B]? = some (.cells #[.string ⟨#[108, 101, 115, 115]⟩, (.slice (some ⟨g1, 0, none⟩) 1 1), (.slice (some ⟨g2, 0, none⟩) 3 3)] 25 (0, 0))) := ⟨k1.trans' ka, blk ka p1 (by simp), blk ka x1 (by simp), by rw [HB.out]; exact heap_alloc_new' _ _⟩
  clear h1 h2 p1 x1 k1 ka
  go_wp2_with fail
  rw [← HB.out]
  clear HB
  generalize w1.alloc (.cells #[.string ⟨#[108, 101, 115, 115]⟩, (.slice (some ⟨g1, 0, none⟩) 1 1), (.slice (some ⟨g2, 0, none⟩) 3 3)] 25) = wa at *
  refine (chk0 _ _ _ (pm_of HA.out.2.1) (pp_of _ HA.out.2.2.1) (HT.out.keep HA.out.1 (by simp)) (lo_lt HA.out.2.1) (lo_lt HA.out.2.2.1)).mono ?_
  rintro e w2 ⟨rfl, k2⟩
  -- the name m
  obtain ⟨T2, HT2⟩ : ∃ T2 : Nat, Hid (T2 = w2.heap.size) := ⟨_, show _ = _ from rfl⟩
  have kb : Keep [] wa (w2.alloc (.cells #[.int .i64 0, .int .i64 0, .int .i64 0, .int .i64 0] 29)) := k2.alloc _
  have HC : Hid (Keep [] w (w2.alloc (.cells #[.int .i64 0, .int .i64 0, .int .i64 0, .int .i64 0] 29)) ∧ (w2.alloc (.cells #[.int .i64 0, .int .i64 0, .int .i64 0, .int .i64 0] 29)).heap[g1]? = some (.cells C38 38 (0, 0)) ∧ (w2.alloc (.cells #[.int .i64 0, .int .i64 0, .int .i64 0, .int .i64 0] 29)).heap[g2]? = some (.cells (C36 ⟨#[110]⟩) 36 (0, 0)) ∧ (w2.alloc (.cells #[.int .i64 0, .int .i64 0, .int .i64 0, .int .i64 0] 29)).heap[B]? = some (.cells #[.string ⟨#[108, 101, 115, 115]⟩, (.slice (some ⟨g1, 0, none⟩) 1 1), (.slice (some ⟨g2, 0, none⟩) 3 3)] 25 (0, 0)) ∧ (w2.alloc (.cells #[.int .i64 0, .int .i64 0, .int .i64 0, .int .i64 0] 29)).heap[T2]? = some (.cells #[.int .i64 0, .int .i64 0, .int .i64 0, .int .i64 0] 29 (0, 0)) ∧ B < T2) := ⟨HA.out.1.trans' kb, blk kb HA.out.2.1 (by simp), blk kb HA.out.2.2.1 (by simp), blk kb HA.out.2.2.2 (by simp), (by rw [HT2.out]; exact heap_alloc_new' _ _), (by rw [HT2.out]; exact Nat.lt_of_lt_of_le (Array.getElem?_eq_some_iff.1 HA.out.2.2.2).1 k2.size)⟩
  obtain ⟨b0, b1, b2⟩ := three_cell HC.out.2.2.2.1
  have y9 : (w2.alloc (.cells #[.int .i64 0, .int .i64 0, .int .i64 0, .int .i64 0] 29)).cell? ⟨g2, 9, none⟩ = some (.string ⟨#[110]⟩) := by unfold World.cell?; rw [HC.out.2.2.1]; rfl
  have z9 := three_free HC.out.2.2.1 9
  have km : Keep [g2] (w2.alloc (.cells #[.int .i64 0, .int .i64 0, .int .i64 0, .int .i64 0] 29)) ((w2.alloc (.cells #[.int .i64 0, .int .i64 0, .int .i64 0, .int .i64 0] 29)).setCell ⟨g2, 9, none⟩ (.string ⟨#[109]⟩)) := Keep.set1 _ ⟨g2, 9, none⟩ _
  have nB : B ∉ [g2] := by have := HN.out; simp; omega
  have nG : g1 ∉ [g2] := by have := HN.out; simp; omega
  have nT : T2 ∉ [g2] := by have := HN.out; have := HC.out.2.2.2.2.2; simp; omega
  have HD : Hid (Keep [] w ((w2.alloc (.cells #[.int .i64 0, .int .i64 0, .int .i64 0, .int .i64 0] 29)).setCell ⟨g2, 9, none⟩ (.string ⟨#[109]⟩)) ∧ ((w2.alloc (.cells #[.int .i64 0, .int .i64 0, .int .i64 0, .int .i64 0] 29)).setCell ⟨g2, 9, none⟩ (.string ⟨#[109]⟩)).heap[g1]? = some (.cells C38 38 (0, 0)) ∧ ((w2.alloc (.cells #[.int .i64 0, .int .i64 0, .int .i64 0, .int .i64 0] 29)).setCell ⟨g2, 9, none⟩ (.string ⟨#[109]⟩)).heap[g2]? = some (.cells (C36 ⟨#[109]⟩) 36 (0, 0)) ∧ ((w2.alloc (.cells #[.int .i64 0, .int .i64 0, .int .i64 0, .int .i64 0] 29)).setCell ⟨g2, 9, none⟩ (.string ⟨#[109]⟩)).heap[B]? = some (.cells #[.string ⟨#[108, 101, 115, 115]⟩, (.slice (some ⟨g1, 0, none⟩) 1 1), (.slice (some ⟨g2, 0, none⟩) 3 3)] 25 (0, 0)) ∧ ((w2.alloc (.cells #[.int .i64 0, .int .i64 0, .int .i64 0, .int .i64 0] 29)).setCell ⟨g2, 9, none⟩ (.string ⟨#[109]⟩)).heap[T2]? = some (.cells #[.int .i64 0, .int .i64 0, .int .i64 0, .int .i64 0] 29 (0, 0)) ∧ B < T2) :=
    ⟨HC.out.1.more km (fun x hx => .inr (by simp at hx; have := HN.out; omega)), blk km HC.out.2.1 nG, heap_setCell_same _ g2 9 _ 36 _ HC.out.2.2.1, blk km HC.out.2.2.2.1 nB, blk km HC.out.2.2.2.2.1 nT, HC.out.2.2.2.2.2⟩
  obtain ⟨d0, d1, d2⟩ := three_cell HD.out.2.2.2.1
  clear k2 kb km
  go_wp2_with fail
  rw [← HT2.out]
  clear HT2 HA HC b0 b1 b2 y9 z9
  generalize (w2.alloc (.cells #[.int .i64 0, .int .i64 0, .int .i64 0, .int .i64 0] 29)).setCell ⟨g2, 9, none⟩ (.string ⟨#[109]⟩) = wb at *
  refine (chk1 _ _ _ (pm_of HD.out.2.1) (pp_of _ HD.out.2.2.1) (HT.out.keep HD.out.1 (by simp)) (lo_lt HD.out.2.1) (lo_lt HD.out.2.2.1)).mono ?_
  rintro e w3 ⟨rfl, k3⟩
  clear d0 d1 d2
  -- a text in its place
  obtain ⟨T3, HT3⟩ : ∃ T3 : Nat, Hid (T3 = w3.heap.size) := ⟨_, show _ = _ from rfl⟩
  have kb : Keep [] wb (w3.alloc (.cells #[.int .i64 71, .int .i64 0, .int .i64 2, .int .i64 (-1)] 29)) := k3.alloc _
  have HE : Hid (Keep [] w (w3.alloc (.cells #[.int .i64 71, .int .i64 0, .int .i64 2, .int .i64 (-1)] 29)) ∧ (w3.alloc (.cells #[.int .i64 71, .int .i64 0, .int .i64 2, .int .i64 (-1)] 29)).heap[g1]? = some (.cells C38 38 (0, 0)) ∧ (w3.alloc (.cells #[.int .i64 71, .int .i64 0, .int .i64 2, .int .i64 (-1)] 29)).heap[g2]? = some (.cells (C36 ⟨#[109]⟩) 36 (0, 0)) ∧ (w3.alloc (.cells #[.int .i64 71, .int .i64 0, .int .i64 2, .int .i64 (-1)] 29)).heap[B]? = some (.cells #[.string ⟨#[108, 101, 115, 115]⟩, (.slice (some ⟨g1, 0, none⟩) 1 1), (.slice (some ⟨g2, 0, none⟩) 3 3)] 25 (0, 0)) ∧ (w3.alloc (.cells #[.int .i64 71, .int .i64 0, .int .i64 2, .int .i64 (-1)] 29)).heap[T2]? = some (.cells #[.int .i64 0, .int .i64 0, .int .i64 0, .int .i64 0] 29 (0, 0)) ∧ (w3.alloc (.cells #[.int .i64 71, .int .i64 0, .int .i64 2, .int .i64 (-1)] 29)).heap[T3]? = some (.cells #[.int .i64 71, .int .i64 0, .int .i64 2, .int .i64 (-1)] 29 (0, 0)) ∧ B < T2 ∧ B < T3) := ⟨HD.out.1.trans' kb, blk kb HD.out.2.1 (by simp), blk kb HD.out.2.2.1 (by simp), blk kb HD.out.2.2.2.1 (by simp), blk kb HD.out.2.2.2.2.1 (by simp), (by rw [HT3.out]; exact heap_alloc_new' _ _), HD.out.2.2.2.2.2, (by rw [HT3.out]; exact Nat.lt_of_lt_of_le (Array.getElem?_eq_some_iff.1 HD.out.2.2.2.1).1 k3.size)⟩
  obtain ⟨b0, b1, b2⟩ := three_cell HE.out.2.2.2.1
  have y8 : (w3.alloc (.cells #[.int .i64 71, .int .i64 0, .int .i64 2, .int .i64 (-1)] 29)).cell? ⟨g2, 8, none⟩ = some (.int .i64 2) := by unfold World.cell?; rw [HE.out.2.2.1]; rfl
  have z8 := three_free HE.out.2.2.1 8
  have y9 : (w3.alloc (.cells #[.int .i64 71, .int .i64 0, .int .i64 2, .int .i64 (-1)] 29)).cell? ⟨g2, 9, none⟩ = some (.string ⟨#[109]⟩) := by unfold World.cell?; rw [HE.out.2.2.1]; rfl
  have z9 := three_free HE.out.2.2.1 9
  have y10 : (w3.alloc (.cells #[.int .i64 71, .int .i64 0, .int .i64 2, .int .i64 (-1)] 29)).cell? ⟨g2, 10, none⟩ = some (.int .i64 0) := by unfold World.cell?; rw [HE.out.2.2.1]; rfl
  have z10 := three_free HE.out.2.2.1 10
  have y11 : (w3.alloc (.cells #[.int .i64 71, .int .i64 0, .int .i64 2, .int .i64 (-1)] 29)).cell? ⟨g2, 11, none⟩ = some (.bool false) := by unfold World.cell?; rw [HE.out.2.2.1]; rfl
  have z11 := three_free HE.out.2.2.1 11
  have y12 : (w3.alloc (.cells #[.int .i64 71, .int .i64 0, .int .i64 2, .int .i64 (-1)] 29)).cell? ⟨g2, 12, none⟩ = some (.int .i64 0) := by unfold World.cell?; rw [HE.out.2.2.1]; rfl
  have z12 := three_free HE.out.2.2.1 12
  have y13 : (w3.alloc (.cells #[.int .i64 71, .int .i64 0, .int .i64 2, .int .i64 (-1)] 29)).cell? ⟨g2, 13, none⟩ = some (.float .f32 0) := by unfold World.cell?; rw [HE.out.2.2.1]; rfl
  have z13 := three_free HE.out.2.2.1 13
  have y14 : (w3.alloc (.cells #[.int .i64 71, .int .i64 0, .int .i64 2, .int .i64 (-1)] 29)).cell? ⟨g2, 14, none⟩ = some (.string ⟨#[]⟩) := by unfold World.cell?; rw [HE.out.2.2.1]; rfl
  have z14 := three_free HE.out.2.2.1 14
  have y15 : (w3.alloc (.cells #[.int .i64 71, .int .i64 0, .int .i64 2, .int .i64 (-1)] 29)).cell? ⟨g2, 15, none⟩ = some (.slice none 0 0) := by unfold World.cell?; rw [HE.out.2.2.1]; rfl
  have z15 := three_free HE.out.2.2.1 15
  have km : Keep [g2] (w3.alloc (.cells #[.int .i64 71, .int .i64 0, .int .i64 2, .int .i64 (-1)] 29)) (((((((((w3.alloc (.cells #[.int .i64 71, .int .i64 0, .int .i64 2, .int .i64 (-1)] 29)).setCell ⟨g2, 8, none⟩ (.int .i64 1)).setCell ⟨g2, 9, none⟩ (.string ⟨#[]⟩)).setCell ⟨g2, 10, none⟩ (.int .i64 4)).setCell ⟨g2, 11, none⟩ (.bool false)).setCell ⟨g2, 12, none⟩ (.int .i64 0)).setCell ⟨g2, 13, none⟩ (.float .f32 0)).setCell ⟨g2, 14, none⟩ (.string ⟨#[]⟩)).setCell ⟨g2, 15, none⟩ (.slice none 0 0)) := (((((((((Keep.refl [g2] _).setCell (p := ⟨g2, 8, none⟩) (.inl (by simp)) (.int .i64 1)).setCell (p := ⟨g2, 9, none⟩) (.inl (by simp)) (.string ⟨#[]⟩)).setCell (p := ⟨g2, 10, none⟩) (.inl (by simp)) (.int .i64 4)).setCell (p := ⟨g2, 11, none⟩) (.inl (by simp)) (.bool false)).setCell (p := ⟨g2, 12, none⟩) (.inl (by simp)) (.int .i64 0)).setCell (p := ⟨g2, 13, none⟩) (.inl (by simp)) (.float .f32 0)).setCell (p := ⟨g2, 14, none⟩) (.inl (by simp)) (.string ⟨#[]⟩)).setCell (p := ⟨g2, 15, none⟩) (.inl (by simp)) (.slice none 0 0))
  have nT3 : T3 ∉ [g2] := by have := HN.out; have := HE.out.2.2.2.2.2.2.2; simp; omega
  have HG : Hid (Keep [] w (((((((((w3.alloc (.cells #[.int .i64 71, .int .i64 0, .int .i64 2, .int .i64 (-1)] 29)).setCell ⟨g2, 8, none⟩ (.int .i64 1)).setCell ⟨g2, 9, none⟩ (.string ⟨#[]⟩)).setCell ⟨g2, 10, none⟩ (.int .i64 4)).setCell ⟨g2, 11, none⟩ (.bool false)).setCell ⟨g2, 12, none⟩ (.int .i64 0)).setCell ⟨g2, 13, none⟩ (.float .f32 0)).setCell ⟨g2, 14, none⟩ (.string ⟨#[]⟩)).setCell ⟨g2, 15, none⟩ (.slice none 0 0)) ∧ (((((((((w3.alloc (.cells #[.int .i64 71, .int .i64 0, .int .i64 2, .int .i64 (-1)] 29)).setCell ⟨g2, 8, none⟩ (.int .i64 1)).setCell ⟨g2, 9, none⟩ (.string ⟨#[]⟩)).setCell ⟨g2, 10, none⟩ (.int .i64 4)).setCell ⟨g2, 11, none⟩ (.bool false)).setCell ⟨g2, 12, none⟩ (.int .i64 0)).setCell ⟨g2, 13, none⟩ (.float .f32 0)).setCell ⟨g2, 14, none⟩ (.string ⟨#[]⟩)).setCell ⟨g2, 15, none⟩ (.slice none 0 0)).heap[g1]? = some (.cells C38 38 (0, 0)) ∧ (((((((((w3.alloc (.cells #[.int .i64 71, .int .i64 0, .int .i64 2, .int .i64 (-1)] 29)).setCell ⟨g2, 8, none⟩ (.int .i64 1)).setCell ⟨g2, 9, none⟩ (.string ⟨#[]⟩)).setCell ⟨g2, 10, none⟩ (.int .i64 4)).setCell ⟨g2, 11, none⟩ (.bool false)).setCell ⟨g2, 12, none⟩ (.int .i64 0)).setCell ⟨g2, 13, none⟩ (.float .f32 0)).setCell ⟨g2, 14, none⟩ (.string ⟨#[]⟩)).setCell ⟨g2, 15, none⟩ (.slice none 0 0)).heap[g2]? = some (.cells (C36t) 36 (0, 0)) ∧ (((((((((w3.alloc (.cells #[.int .i64 71, .int .i64 0, .int .i64 2, .int .i64 (-1)] 29)).setCell ⟨g2, 8, none⟩ (.int .i64 1)).setCell ⟨g2, 9, none⟩ (.string ⟨#[]⟩)).setCell ⟨g2, 10, none⟩ (.int .i64 4)).setCell ⟨g2, 11, none⟩ (.bool false)).setCell ⟨g2, 12, none⟩ (.int .i64 0)).setCell ⟨g2, 13, none⟩ (.float .f32 0)).setCell ⟨g2, 14, none⟩ (.string ⟨#[]⟩)).setCell ⟨g2, 15, none⟩ (.slice none 0 0)).heap[B]? = some (.cells #[.string ⟨#[108, 101, 115, 115]⟩, (.slice (some ⟨g1, 0, none⟩) 1 1), (.slice (some ⟨g2, 0, none⟩) 3 3)] 25 (0, 0)) ∧ (((((((((w3.alloc (.cells #[.int .i64 71, .int .i64 0, .int .i64 2, .int .i64 (-1)] 29)).setCell ⟨g2, 8, none⟩ (.int .i64 1)).setCell ⟨g2, 9, none⟩ (.string ⟨#[]⟩)).setCell ⟨g2, 10, none⟩ (.int .i64 4)).setCell ⟨g2, 11, none⟩ (.bool false)).setCell ⟨g2, 12, none⟩ (.int .i64 0)).setCell ⟨g2, 13, none⟩ (.float .f32 0)).setCell ⟨g2, 14, none⟩ (.string ⟨#[]⟩)).setCell ⟨g2, 15, none⟩ (.slice none 0 0)).heap[T2]? = some (.cells #[.int .i64 0, .int .i64 0, .int .i64 0, .int .i64 0] 29 (0, 0)) ∧ (((((((((w3.alloc (.cells #[.int .i64 71, .int .i64 0, .int .i64 2, .int .i64 (-1)] 29)).setCell ⟨g2, 8, none⟩ (.int .i64 1)).setCell ⟨g2, 9, none⟩ (.string ⟨#[]⟩)).setCell ⟨g2, 10, none⟩ (.int .i64 4)).setCell ⟨g2, 11, none⟩ (.bool false)).setCell ⟨g2, 12, none⟩ (.int .i64 0)).setCell ⟨g2, 13, none⟩ (.float .f32 0)).setCell ⟨g2, 14, none⟩ (.string ⟨#[]⟩)).setCell ⟨g2, 15, none⟩ (.slice none 0 0)).heap[T3]? = some (.cells #[.int .i64 71, .int .i64 0, .int .i64 2, .int .i64 (-1)] 29 (0, 0)) ∧ B < T2 ∧ B < T3) :=
    ⟨HE.out.1.more km (fun x hx => .inr (by simp at hx; have := HN.out; omega)), blk km HE.out.2.1 nG, (heap_setCell_same _ g2 15 _ 36 (.slice none 0 0) (heap_setCell_same _ g2 14 _ 36 (.string ⟨#[]⟩) (heap_setCell_same _ g2 13 _ 36 (.float .f32 0) (heap_setCell_same _ g2 12 _ 36 (.int .i64 0) (heap_setCell_same _ g2 11 _ 36 (.bool false) (heap_setCell_same _ g2 10 _ 36 (.int .i64 4) (heap_setCell_same _ g2 9 _ 36 (.string ⟨#[]⟩) (heap_setCell_same _ g2 8 _ 36 (.int .i64 1) HE.out.2.2.1)))))))), blk km HE.out.2.2.2.1 nB, blk km HE.out.2.2.2.2.1 nT, blk km HE.out.2.2.2.2.2.1 nT3, HE.out.2.2.2.2.2.2⟩
  obtain ⟨d0, d1, d2⟩ := three_cell HG.out.2.2.2.1
  clear k3 kb km
  go_wp2_with fail
  rw [← HT3.out]
  clear HT3 HD HE b0 b1 b2 y8 y9 y10 y11 y12 y13 y14 y15 z8 z9 z10 z11 z12 z13 z14 z15
  generalize (((((((((w3.alloc (.cells #[.int .i64 71, .int .i64 0, .int .i64 2, .int .i64 (-1)] 29)).setCell ⟨g2, 8, none⟩ (.int .i64 1)).setCell ⟨g2, 9, none⟩ (.string ⟨#[]⟩)).setCell ⟨g2, 10, none⟩ (.int .i64 4)).setCell ⟨g2, 11, none⟩ (.bool false)).setCell ⟨g2, 12, none⟩ (.int .i64 0)).setCell ⟨g2, 13, none⟩ (.float .f32 0)).setCell ⟨g2, 14, none⟩ (.string ⟨#[]⟩)).setCell ⟨g2, 15, none⟩ (.slice none 0 0)) = wc at *
  refine (chk2 _ _ _ (pm_of HG.out.2.1) (ppt_of HG.out.2.2.1) (HT.out.keep HG.out.1 (by simp)) (lo_lt HG.out.2.1) (lo_lt HG.out.2.2.1)).mono ?_
  rintro e w4 ⟨rfl, k4⟩
  clear d0 d1 d2
  -- a second parameter n
  obtain ⟨T4, HT4⟩ : ∃ T4 : Nat, Hid (T4 = w4.heap.size) := ⟨_, show _ = _ from rfl⟩
  have kb : Keep [] wc (w4.alloc (.cells #[.int .i64 70, .int .i64 0, .int .i64 1, .int .i64 (-1)] 29)) := k4.alloc _
  have hB9 : (w4.alloc (.cells #[.int .i64 70, .int .i64 0, .int .i64 1, .int .i64 (-1)] 29)).heap[B]? = some (.cells #[.string ⟨#[108, 101, 115, 115]⟩, (.slice (some ⟨g1, 0, none⟩) 1 1), (.slice (some ⟨g2, 0, none⟩) 3 3)] 25 (0, 0)) := blk kb HG.out.2.2.2.1 (by simp)
  obtain ⟨b0, b1, b2⟩ := three_cell hB9
  have kc : Keep [] wc ((w4.alloc (.cells #[.int .i64 70, .int .i64 0, .int .i64 1, .int .i64 (-1)] 29)).alloc (.cells #[.string ⟨#[110]⟩, .int .i64 1] 38)) := kb.alloc _
  have HI : Hid (Keep [] w ((w4.alloc (.cells #[.int .i64 70, .int .i64 0, .int .i64 1, .int .i64 (-1)] 29)).alloc (.cells #[.string ⟨#[110]⟩, .int .i64 1] 38)) ∧ ((w4.alloc (.cells #[.int .i64 70, .int .i64 0, .int .i64 1, .int .i64 (-1)] 29)).alloc (.cells #[.string ⟨#[110]⟩, .int .i64 1] 38)).heap[g1]? = some (.cells C38 38 (0, 0)) ∧ ((w4.alloc (.cells #[.int .i64 70, .int .i64 0, .int .i64 1, .int .i64 (-1)] 29)).alloc (.cells #[.string ⟨#[110]⟩, .int .i64 1] 38)).heap[g2]? = some (.cells (C36t) 36 (0, 0)) ∧ ((w4.alloc (.cells #[.int .i64 70, .int .i64 0, .int .i64 1, .int .i64 (-1)] 29)).alloc (.cells #[.string ⟨#[110]⟩, .int .i64 1] 38)).heap[B]? = some (.cells #[.string ⟨#[108, 101, 115, 115]⟩, (.slice (some ⟨g1, 0, none⟩) 1 1), (.slice (some ⟨g2, 0, none⟩) 3 3)] 25 (0, 0)) ∧ ((w4.alloc (.cells #[.int .i64 70, .int .i64 0, .int .i64 1, .int .i64 (-1)] 29)).alloc (.cells #[.string ⟨#[110]⟩, .int .i64 1] 38)).heap[T2]? = some (.cells #[.int .i64 0, .int .i64 0, .int .i64 0, .int .i64 0] 29 (0, 0)) ∧ ((w4.alloc (.cells #[.int .i64 70, .int .i64 0, .int .i64 1, .int .i64 (-1)] 29)).alloc (.cells #[.string ⟨#[110]⟩, .int .i64 1] 38)).heap[T3]? = some (.cells #[.int .i64 71, .int .i64 0, .int .i64 2, .int .i64 (-1)] 29 (0, 0)) ∧ B < T2 ∧ B < T3 ∧ ((w4.alloc (.cells #[.int .i64 70, .int .i64 0, .int .i64 1, .int .i64 (-1)] 29)).alloc (.cells #[.string ⟨#[110]⟩, .int .i64 1] 38)).heap[T4]? = some (.cells #[.int .i64 70, .int .i64 0, .int .i64 1, .int .i64 (-1)] 29 (0, 0)) ∧ B < T4) := ⟨HG.out.1.trans' kc, blk kc HG.out.2.1 (by simp), blk kc HG.out.2.2.1 (by simp), blk kc HG.out.2.2.2.1 (by simp), blk kc HG.out.2.2.2.2.1 (by simp), blk kc HG.out.2.2.2.2.2.1 (by simp), HG.out.2.2.2.2.2.2.1, HG.out.2.2.2.2.2.2.2, blk (Keep.alloc1 _ (.cells #[.string ⟨#[110]⟩, .int .i64 1] 38)) (by rw [HT4.out]; exact heap_alloc_new' _ _) (by simp), (by rw [HT4.out]; exact Nat.lt_of_lt_of_le (Array.getElem?_eq_some_iff.1 HG.out.2.2.2.1).1 k4.size)⟩
  have HR : Hid (RowC ((w4.alloc (.cells #[.int .i64 70, .int .i64 0, .int .i64 1, .int .i64 (-1)] 29)).alloc (.cells #[.string ⟨#[110]⟩, .int .i64 1] 38)) 38 2 (.slice (some ⟨g1, 0, none⟩) 1 1) 1 C38.toList) := ⟨rfl, .inr ⟨g1, 1, C38, rfl, Nat.zero_le _, HI.out.2.1, Nat.le_refl _, by simp [maxLen], rfl, rfl⟩⟩
  have HSr : Hid (Src Tryz.prog 2 22 (.slice (some ⟨w4.heap.size + 1, 0, none⟩) 1 1) 1 [.string ⟨#[110]⟩, .int .i64 1] ((w4.alloc (.cells #[.int .i64 70, .int .i64 0, .int .i64 1, .int .i64 (-1)] 29)).alloc (.cells #[.string ⟨#[110]⟩, .int .i64 1] 38))) := by
    have e9 : (w4.alloc (.cells #[.int .i64 70, .int .i64 0, .int .i64 1, .int .i64 (-1)] 29)).heap.size = w4.heap.size + 1 := by simp
    rw [← e9]
    refine Src.ofSlice _ Tryz.underlying22 ⟨(w4.alloc (.cells #[.int .i64 70, .int .i64 0, .int .i64 1, .int .i64 (-1)] 29)).heap.size, 0, none⟩ 1 1 _ rfl (fun j u hu => ?_) (fun u hu => ?_)
    · have hb := heap_alloc_new' (w4.alloc (.cells #[.int .i64 70, .int .i64 0, .int .i64 1, .int .i64 (-1)] 29)) (.cells #[.string ⟨#[110]⟩, .int .i64 1] 38)
      have hj : j < 2 := by
        have := (List.getElem?_eq_some_iff.1 hu).1
        simpa using this
      match j, hj with
      | 0, _ => simp at hu; subst hu; unfold World.cell?; rw [show (Addr.add ⟨(w4.alloc (.cells #[.int .i64 70, .int .i64 0, .int .i64 1, .int .i64 (-1)] 29)).heap.size, 0, none⟩ 0).block = (w4.alloc (.cells #[.int .i64 70, .int .i64 0, .int .i64 1, .int .i64 (-1)] 29)).heap.size from rfl, hb]; rfl
      | 1, _ => simp at hu; subst hu; unfold World.cell?; rw [show (Addr.add ⟨(w4.alloc (.cells #[.int .i64 70, .int .i64 0, .int .i64 1, .int .i64 (-1)] 29)).heap.size, 0, none⟩ 1).block = (w4.alloc (.cells #[.int .i64 70, .int .i64 0, .int .i64 1, .int .i64 (-1)] 29)).heap.size from rfl, hb]; rfl
    · simp at hu
      rcases hu with rfl | rfl <;> rfl
  clear k4 kb kc hB9 HG
  go_wp2_with (at_builtin; refine wp_appC infoP38 rfl rfl (.tmp 25) (.tmp 27) 22 22 rfl Tryz.underlying22 (.slice (some ⟨g1, 0, none⟩) 1 1) 1 C38.toList rfl HR.out _ 1 [.string ⟨#[110]⟩, .int .i64 1] rfl HSr.out (by decide) (by decide) ?_)
  intro v' w11 a1 a2 a3 a4 a5
  rw [← HT4.out]
  rcases a1.cases with ⟨h0, _⟩ | ⟨g', c', rfl, hgc1, hgc2, hgl, hcell, _⟩
  · omega
  have hg' : g' = g1 ∨ w4.heap.size ≤ g' := by
    rcases a3 with h | h
    · simp [Value.ownBlock] at h
      exact .inl h
    · have := (h g' rfl).1
      simp at this
      exact .inr (by omega)
  have nG1 : ∀ x, x ∈ (Value.slice (some ⟨g1, 0, none⟩) 1 1).ownBlock.toList → x = g1 := fun x hx => by simpa [Value.ownBlock] using hx
  have i1 := HI.out
  have hn := HN.out
  have hT4 := HT4.out
  have hlt4 : w4.heap.size ≤ T4 := by omega
  have nn : ∀ x, x ≠ g1 → x ∉ (Value.slice (some ⟨g1, 0, none⟩) 1 1).ownBlock.toList := fun x hx hm => hx (nG1 x hm)
  have hB11 := blk a2 i1.2.2.2.1 (nn B (by omega))
  obtain ⟨e0, e1, e2⟩ := three_cell hB11
  have fB := three_free hB11 1
  have kB : Keep [B] w11 (w11.setCell ⟨B, 1, none⟩ (.slice (some ⟨g', 0, none⟩) 2 c')) := Keep.set1 _ ⟨B, 1, none⟩ _
  have hg2B : g' ≠ B := by
    rcases hg' with h | h
    · omega
    · have := (Array.getElem?_eq_some_iff.1 i1.2.2.2.1).1
      rcases a3 with h3 | h3
      · simp [Value.ownBlock] at h3
        omega
      · have := (h3 g' rfl).1
        omega
  have HJ : Hid (Keep [] w (w11.setCell ⟨B, 1, none⟩ (.slice (some ⟨g', 0, none⟩) 2 c')) ∧ Pm (w11.setCell ⟨B, 1, none⟩ (.slice (some ⟨g', 0, none⟩) 2 c')) (.slice (some ⟨g', 0, none⟩) 2 c') [⟨⟨#[110]⟩, 2⟩, ⟨⟨#[110]⟩, 1⟩] ∧ (w11.setCell ⟨B, 1, none⟩ (.slice (some ⟨g', 0, none⟩) 2 c')).heap[g2]? = some (.cells C36t 36 (0, 0)) ∧ (w11.setCell ⟨B, 1, none⟩ (.slice (some ⟨g', 0, none⟩) 2 c')).heap[B]? = some (.cells #[.string ⟨#[108, 101, 115, 115]⟩, .slice (some ⟨g', 0, none⟩) 2 c', (.slice (some ⟨g2, 0, none⟩) 3 3)] 25 (0, 0)) ∧ (w11.setCell ⟨B, 1, none⟩ (.slice (some ⟨g', 0, none⟩) 2 c')).heap[T2]? = some (.cells #[.int .i64 0, .int .i64 0, .int .i64 0, .int .i64 0] 29 (0, 0)) ∧ (w11.setCell ⟨B, 1, none⟩ (.slice (some ⟨g', 0, none⟩) 2 c')).heap[T3]? = some (.cells #[.int .i64 71, .int .i64 0, .int .i64 2, .int .i64 (-1)] 29 (0, 0)) ∧ (w11.setCell ⟨B, 1, none⟩ (.slice (some ⟨g', 0, none⟩) 2 c')).heap[T4]? = some (.cells #[.int .i64 70, .int .i64 0, .int .i64 1, .int .i64 (-1)] 29 (0, 0)) ∧ g' < (w11.setCell ⟨B, 1, none⟩ (.slice (some ⟨g', 0, none⟩) 2 c')).heap.size) := by
    refine ⟨(i1.1.more a2 (fun x hx => .inr (by have := nG1 x hx; omega))).more kB (fun x hx => .inr (by simp at hx; omega)), ?_, blk kB (blk a2 i1.2.2.1 (nn _ (by omega))) (by simp; omega), heap_setCell_same _ B 1 _ 25 _ hB11, blk kB (blk a2 i1.2.2.2.2.1 (nn _ (by omega))) (by simp; omega), blk kB (blk a2 i1.2.2.2.2.2.1 (nn _ (by omega))) (by simp; omega), blk kB (blk a2 i1.2.2.2.2.2.2.2.2.1 (nn _ (by omega))) (by simp; omega), Nat.lt_of_lt_of_le hgl kB.size⟩
    refine ⟨some ⟨g', 0, none⟩, c', rfl, hgc1, hgc2, fun _ => ⟨g', 0, rfl, fun i hi => ?_⟩⟩
    have hi1 : i < 2 := hi
    have nb : g' ∉ [B] := by simpa using hg2B
    match i, hi1 with
    | 0, _ => exact ⟨kB.cell' (hcell 0 (by decide)) nb, kB.cell' (hcell 1 (by decide)) nb⟩
    | 1, _ => exact ⟨kB.cell' (hcell 2 (by decide)) nb, kB.cell' (hcell 3 (by decide)) nb⟩
  obtain ⟨d0, d1, d2⟩ := three_cell HJ.out.2.2.2.1
  clear a1 a2 a3 a4 a5 hcell nG1 i1 hT4 nn hB11 kB hg2B HI HR HSr hgc1 hgc2 hgl hg' hlt4 hn b0 b1 b2
  go_wp2_with fail
  clear HT4 e0 e1 e2 fB
  generalize w11.setCell ⟨B, 1, none⟩ (.slice (some ⟨g', 0, none⟩) 2 c') = wd at *
  refine (chk3 _ _ _ HJ.out.2.1 (ppt_of HJ.out.2.2.1) (HT.out.keep HJ.out.1 (by simp)) (fun k hk => by simp [Value.ownBlock] at hk; subst hk; exact HJ.out.2.2.2.2.2.2.2) (lo_lt HJ.out.2.2.1)).mono ?_
  rintro e w5 ⟨rfl, k5⟩
  clear d0 d1 d2
  -- an argument that is named or
  obtain ⟨T5, HT5⟩ : ∃ T5 : Nat, Hid (T5 = w5.heap.size) := ⟨_, show _ = _ from rfl⟩
  have kb : Keep [] wd (w5.alloc (.cells #[.int .i64 90, .int .i64 0, .int .i64 1, .int .i64 (-1)] 29)) := k5.alloc _
  have HL : Hid (Keep [] w (w5.alloc (.cells #[.int .i64 90, .int .i64 0, .int .i64 1, .int .i64 (-1)] 29)) ∧ (w5.alloc (.cells #[.int .i64 90, .int .i64 0, .int .i64 1, .int .i64 (-1)] 29)).heap[T2]? = some (.cells #[.int .i64 0, .int .i64 0, .int .i64 0, .int .i64 0] 29 (0, 0)) ∧ (w5.alloc (.cells #[.int .i64 90, .int .i64 0, .int .i64 1, .int .i64 (-1)] 29)).heap[T3]? = some (.cells #[.int .i64 71, .int .i64 0, .int .i64 2, .int .i64 (-1)] 29 (0, 0)) ∧ (w5.alloc (.cells #[.int .i64 90, .int .i64 0, .int .i64 1, .int .i64 (-1)] 29)).heap[T4]? = some (.cells #[.int .i64 70, .int .i64 0, .int .i64 1, .int .i64 (-1)] 29 (0, 0)) ∧ (w5.alloc (.cells #[.int .i64 90, .int .i64 0, .int .i64 1, .int .i64 (-1)] 29)).heap[T5]? = some (.cells #[.int .i64 90, .int .i64 0, .int .i64 1, .int .i64 (-1)] 29 (0, 0))) := ⟨HJ.out.1.trans' kb, blk kb HJ.out.2.2.2.2.1 (by simp), blk kb HJ.out.2.2.2.2.2.1 (by simp), blk kb HJ.out.2.2.2.2.2.2.1 (by simp), (by rw [HT5.out]; exact heap_alloc_new' _ _)⟩
  clear k5 kb HJ
  go_wp2_with fail
  rw [← HT5.out]
  clear HT5
  generalize w5.alloc (.cells #[.int .i64 90, .int .i64 0, .int .i64 1, .int .i64 (-1)] 29) = we at *
  refine (lessC_any _).mono ?_
  rintro e w6 ⟨h1, h2, rfl, q1, q2, p1, x1, k6⟩
  have ka : Keep [] w6 (w6.alloc (.cells C44 44)) := Keep.alloc1 _ _
  have HM : Hid (Keep [] w (w6.alloc (.cells C44 44)) ∧ (w6.alloc (.cells C44 44)).heap[h1]? = some (.cells C38 38 (0, 0)) ∧ (w6.alloc (.cells C44 44)).heap[h2]? = some (.cells (C36 ⟨#[110]⟩) 36 (0, 0)) ∧ (w6.alloc (.cells C44 44)).heap[w6.heap.size]? = some (.cells C44 44 (0, 0)) ∧ Keep [] we (w6.alloc (.cells C44 44))) := ⟨(HL.out.1.trans' k6).trans' ka, blk ka p1 (by simp), blk ka x1 (by simp), heap_alloc_new' _ _, k6.trans' ka⟩
  clear q1 q2 p1 x1 k6 ka
  go_wp2_with fail
  generalize w6.alloc (.cells C44 44) = wf at *
  refine (evalOr _ _ _ _ ⟨⟨_, _, _, rfl⟩, _, _, _, rfl⟩ (pm_of HM.out.2.1) (pp_of _ HM.out.2.2.1) (HT.out.keep HM.out.1 (by simp)) (lo_lt HM.out.2.1) (lo_lt HM.out.2.2.1) HM.out.2.2.2.1).mono ?_
  rintro e w7 ⟨rfl, k7⟩
  have kb : Keep [] we (w7.alloc (.cells #[.bool false, .bool false, .slice none 0 0] 40)) := (HM.out.2.2.2.2.trans' k7).alloc _
  have HK : Hid (Keep [] w (w7.alloc (.cells #[.bool false, .bool false, .slice none 0 0] 40))) := HL.out.1.trans' kb
  obtain ⟨⟨m0, m1, m2, m3⟩, -⟩ := four_cell (blk kb HL.out.2.1 (by simp))
  obtain ⟨⟨n0, n1, n2, n3⟩, -⟩ := four_cell (blk kb HL.out.2.2.1 (by simp))
  obtain ⟨⟨o0, o1, o2, o3⟩, -⟩ := four_cell (blk kb HL.out.2.2.2.1 (by simp))
  obtain ⟨⟨r0, r1, r2, r3⟩, -⟩ := four_cell (blk kb HL.out.2.2.2.2 (by simp))
  clear k7 kb HM HL
  go_wp2
  go_ret
  exact ⟨rfl, HK.out⟩
end Go.Proofs.YtplbclokoffgkaaGreatDoor
