/- Conditions: the literals of whole numbers and of an empty text are short. -/
import Derived.Test.YtplbclokoffgkaaGreatDoorCfH
import Derived.Test.YtplbclokoffgkaaGreatDoorShelf
import Derived.Lib.SlBytesConst
import Derived.Lib.SmallJoins

namespace Go.Proofs.YtplbclokoffgkaaGreatDoor
open Go.RowKit Go.PlainAid Go.Shelf

theorem nDigits_le : ∀ (k u : Nat), u < 10 ^ (k + 1) → Lib.nDigits u ≤ k + 1
  | 0, u, h => by
    rw [Lib.nDigits]
    rw [dif_pos (by omega)]
    exact Nat.le_refl _
  | k + 1, u, h => by
    rw [Lib.nDigits]
    split
    · omega
    · have := nDigits_le k (u / 10) (by rw [Nat.div_lt_iff_lt_mul (by decide)]; rw [Nat.pow_succ] at h; exact h)
      omega
theorem itoa_len (n : Int) (h : In64 n) : (Lib.itoa n).length ≤ 21 := by
  obtain ⟨h1, h2⟩ := h
  unfold Lib.itoa
  split
  · rw [List.length_cons, Lib.decDigits_length]
    have := nDigits_le 19 n.natAbs (by have e : (10 : Nat) ^ (19 + 1) = 100000000000000000000 := by decide
                                       rw [e]; omega)
    omega
  · rw [Lib.decDigits_length]
    have := nDigits_le 19 n.toNat (by have e : (10 : Nat) ^ (19 + 1) = 100000000000000000000 := by decide
                                      rw [e]; omega)
    omega
theorem ti_24 (v : Value) (w : World) : (Instr.typeAssert (.iface 2 v) 20 4 true).run Tryz.prog w = .ok (.tuple #[.bool false, .bool false]) w := by
  have hz : (zeroValue 4).run Tryz.prog w = .ok (.bool false) w := by kernel_rfl
  simp [Instr.typeAssert, run_underlying Tryz.underlying4, go_sem, Result.andThen, hz]
theorem ti_22 (v : Value) (w : World) : (Instr.typeAssert (.iface 2 v) 20 2 true).run Tryz.prog w = .ok (.tuple #[v, .bool true]) w := by
  simp [Instr.typeAssert, run_underlying Tryz.underlying2, go_sem, Result.andThen]
theorem ti_94 (v : Value) (w : World) : (Instr.typeAssert (.iface 9 v) 20 4 true).run Tryz.prog w = .ok (.tuple #[.bool false, .bool false]) w := by
  have hz : (zeroValue 4).run Tryz.prog w = .ok (.bool false) w := by kernel_rfl
  simp [Instr.typeAssert, run_underlying Tryz.underlying4, go_sem, Result.andThen, hz]
theorem ti_92 (v : Value) (w : World) : (Instr.typeAssert (.iface 9 v) 20 2 true).run Tryz.prog w = .ok (.tuple #[.int .i64 0, .bool false]) w := by
  have hz : (zeroValue 2).run Tryz.prog w = .ok (.int .i64 0) w := by kernel_rfl
  simp [Instr.typeAssert, run_underlying Tryz.underlying2, go_sem, Result.andThen, hz]
theorem ti_931 (v : Value) (w : World) : (Instr.typeAssert (.iface 9 v) 20 31 true).run Tryz.prog w = .ok (.tuple #[.float .f32 0, .bool false]) w := by
  have hz : (zeroValue 31).run Tryz.prog w = .ok (.float .f32 0) w := by kernel_rfl
  simp [Instr.typeAssert, run_underlying Tryz.underlying31, go_sem, Result.andThen, hz]
theorem ti_99 (v : Value) (w : World) : (Instr.typeAssert (.iface 9 v) 20 9 true).run Tryz.prog w = .ok (.tuple #[v, .bool true]) w := by
  simp [Instr.typeAssert, run_underlying Tryz.underlying9, go_sem, Result.andThen]

set_option maxRecDepth 1000000 in
set_option maxHeartbeats 1600000 in
theorem held_int (n : Int) (w : World) : Calls Tryz.prog 144 #[intV n] w fun e w' => e = .returned (.iface 2 (.int .i64 n)) ∧ Keep [] w w' := by
  have hsf := store_f32
  simp only [Go.stored] at hsf
  go_enter Tryz.func144, Tryz.ntmps144
  go_wp2
  go_ret
  exact ⟨rfl, Keep.alloc1 _ _⟩
abbrev txtV : Value := .agg #[.int .i64 4, .bool false, .int .i64 0, .float .f32 0, .string ⟨#[]⟩, .slice none 0 0]
set_option maxRecDepth 1000000 in
set_option maxHeartbeats 1600000 in
theorem held_txt (w : World) : Calls Tryz.prog 144 #[txtV] w fun e w' => e = .returned (.iface 9 (.string ⟨#[]⟩)) ∧ Keep [] w w' := by
  have hsf := store_f32
  simp only [Go.stored] at hsf
  go_enter Tryz.func144, Tryz.ntmps144
  go_wp2
  go_ret
  exact ⟨rfl, Keep.alloc1 _ _⟩
set_option maxRecDepth 1000000 in
set_option maxHeartbeats 1600000 in
theorem literal_int (n : Int) (hn : In64 n) (w : World) (hT : Tb w) : Calls Tryz.prog 143 #[.iface 2 (.int .i64 n)] w fun e w' => (∃ s : ByteArray, e = .returned (.string s) ∧ s.size ≤ 256) ∧ Keep [] w w' := by
  have h1 := ti_24 (.int .i64 n)
  have h2 := ti_22 (.int .i64 n)
  have hF := Any.strconv_FormatInt_10 Tryz.laysM173 n hn.1 hn.2 w hT.pow
  have HL : Hid ((Lib.itoa n).length ≤ 21) := itoa_len n hn
  clear hT hn
  generalize Lib.itoa n = L at *
  go_enter Tryz.func143, Tryz.ntmps143
  go_wp2_with fail
  refine Calls.mono (show Calls Tryz.prog 154 _ _ _ from hF) ?_
  rintro e w5 ⟨rfl, k, os, rfl⟩
  have HK : Hid (Keep [] w (Go.Sort.grow (w.drewN k) os)) := Keep.ofBelow (Lib.below_grow _ _ (Nat.le_refl _) _ _)
  clear hF h1 h2
  generalize Go.Sort.grow (w.drewN k) os = w6 at *
  go_wp2
  go_ret
  exact ⟨⟨_, rfl, by have := HL.out; simp [ByteArray.size]; omega⟩, HK.out⟩
set_option maxRecDepth 1000000 in
set_option maxHeartbeats 1600000 in
theorem textOk_int (n : Int) (hn : In64 n) : TextOk 2 n := by
  intro w hT
  have hC := vcheck_int n hn
  have hH := held_int n
  have HL : Hid (∀ w, Tb w → Calls Tryz.prog 143 #[.iface 2 (.int .i64 n)] w fun e w' => (∃ s : ByteArray, e = .returned (.string s) ∧ s.size ≤ 256) ∧ Keep [] w w') := fun w hT => literal_int n hn w hT
  have HT : Hid (Tb w) := hT
  have hsf := store_f32
  simp only [Go.stored] at hsf
  clear hT hn
  go_enter Tryz.func122, Tryz.ntmps122
  go_wp2_with fail
  refine (hC _).mono ?_
  rintro e w5 ⟨rfl, k5⟩
  have v0 : w5.cell? ⟨w.heap.size, 0, none⟩ = some (.int .i64 2) := k5.cell' (by go_simp) (by simp)
  have v1 : w5.cell? ⟨w.heap.size, 1, none⟩ = some (.bool false) := k5.cell' (by go_simp) (by simp)
  have v2 : w5.cell? ⟨w.heap.size, 2, none⟩ = some (.int .i64 n) := k5.cell' (by go_simp) (by simp)
  have v3 : w5.cell? ⟨w.heap.size, 3, none⟩ = some (.float .f32 0) := k5.cell' (by go_simp) (by simp)
  have v4 : w5.cell? ⟨w.heap.size, 4, none⟩ = some (.string ⟨#[]⟩) := k5.cell' (by go_simp) (by simp)
  have v5 : w5.cell? ⟨w.heap.size, 5, none⟩ = some (.slice none 0 0) := k5.cell' (by go_simp) (by simp)
  have HK5 : Hid (Keep [] w w5) := (Keep.alloc1 _ _).trans' k5
  clear k5 hC
  go_wp2_with fail
  refine (hH _).mono ?_
  rintro e w6 ⟨rfl, k6⟩
  have HK6 : Hid (Keep [] w w6) := HK5.out.trans' k6
  clear k6 hH v0 v1 v2 v3 v4 v5
  go_wp2_with fail
  refine (HL.out _ (HT.out.keep HK6.out (by simp))).mono ?_
  rintro e w7 ⟨⟨s, rfl, hs⟩, k7⟩
  have HK7 : Hid (Keep [] w w7 ∧ s.size ≤ 256) := ⟨HK6.out.trans' k7, hs⟩
  clear k7 hs HL
  go_wp2
  go_ret2
  exact ⟨s, rfl, HK7.out.2, HK7.out.1⟩
theorem push_fold : ∀ (l : List UInt8) (s : ByteArray), (l.map fun x => ((x.toNat : Nat) : Int)).foldl (fun r n => r.push (UInt8.ofNat n.toNat)) s = ⟨s.data ++ l.toArray⟩
  | [], s => by simp
  | x :: r, s => by
    rw [List.map_cons, List.foldl_cons, push_fold r]
    have hx : UInt8.ofNat ((x.toNat : Nat) : Int).toNat = x := by simp
    rw [hx]
    congr 1
    apply Array.ext'
    simp [ByteArray.push]

theorem run_str {w : World} {v : Value} {l : List UInt8} (h : Bs w v l) : (convert 87 9 v).run Tryz.prog w = .ok (.string ⟨l.toArray⟩) w := by
  have key : ∀ (a : Addr) (cap : Nat), (∀ j u, (bv l)[j]? = some u → w.cell? (a.add j) = some u) → (convert 87 9 (.slice (some a) l.length cap)).run Tryz.prog w = .ok (.string ⟨l.toArray⟩) w := by
    intro a cap hc
    rw [run_convert_bytes_string w 87 9 5 _ _ _ underS Tryz.underlying5 Tryz.underlying9]
    have hld : (loadCells a l.length).run Tryz.prog w = .ok ((l.map fun x => ((x.toNat : Nat) : Int)).map (Value.int .u8)).toArray w := by
      have := run_loadCells_list (P := Tryz.prog) w a (bv l) hc
      rw [bv_length] at this
      rw [this]
      simp [bv, Function.comp_def]
    rw [run_bytesToString w a l.length cap _ hld, push_fold]
    simp
  rcases h.cases with ⟨rfl, ao, cap, rfl, _, _⟩ | ⟨_, b, o, cap, rfl, _, _, _, hc⟩
  · cases ao with
    | none =>
      rw [run_convert_bytes_string w 87 9 5 _ _ _ underS Tryz.underlying5 Tryz.underlying9]
      rfl
    | some a => exact key a cap (fun j u hj => by simp [bv] at hj)
  · refine key _ cap (fun j u hu => ?_)
    have hj : j < l.length := by
      have := (List.getElem?_eq_some_iff.1 hu).1
      simpa [bv_length] using this
    rw [bv_get l j hj] at hu
    have hadd : (⟨b, o, none⟩ : Addr).add j = ⟨b, o + j, none⟩ := by unfold Addr.add; split <;> simp_all
    rw [hadd, hc j hj, List.getD_eq_getElem?_getD, List.getElem?_eq_getElem hj]
    exact hu
set_option maxRecDepth 1000000 in
set_option maxHeartbeats 800000 in
theorem quoted_none (w : World) : Calls Tryz.prog 156 #[.string ⟨#[]⟩] w fun e w' => (∃ s : ByteArray, e = .returned (.string s) ∧ s.size ≤ 256) ∧ Keep [] w w' := by
  have hb : (w.alloc (.cells #[.int .u8 34] 5 (1, 2))).heap[w.heap.size]? = some (.cells #[.int .u8 34] 5 (1, 2)) := heap_alloc_new' w _
  have hB : Bs (w.alloc (.cells #[.int .u8 34] 5 (1, 2))) (.slice (some ⟨w.heap.size, 0, none⟩) 1 1) [34] := ⟨some ⟨w.heap.size, 0, none⟩, 1, rfl, by simp, by simp [maxLen], (fun h => by cases h), fun _ => ⟨w.heap.size, 0, rfl, fun j hj => by
    have : j = 0 := by simpa using hj
    subst this
    unfold World.cell?
    rw [hb]
    rfl⟩⟩
  have HB : Hid (type_of% hB) := hB
  have hst := run_str hB
  have HK : Hid (Keep [] w (w.alloc (.cells #[.int .u8 34] 5 (1, 2)))) := Keep.alloc1 _ _
  have hcv := fun (w : World) (C : Array Value) (n c : Nat) => Lib.run_convert_bytes_const (P := Tryz.prog) w 87 5 C n c Tryz.underlying87 Tryz.underlying5
  clear hB hb
  go_enter Tryz.func156, Tryz.ntmps156
  go_wp2
  clear hcv
  generalize w.alloc (.cells #[.int .u8 34] 5 (1, 2)) = W at *
  go_loopw [3, 9] (fun b i wr => b = .slice (some ⟨w.heap.size, 0, none⟩) 1 1 ∧ i = .int .i64 0 ∧ Hid (wr = W)) (fun _ _ _ => 0)
  case atStart => exact ⟨rfl, rfl, show _ = _ from rfl⟩
  case round =>
    obtain ⟨rfl, rfl, HW⟩ := hrel
    obtain rfl := HW.out
    clear HW
    go_wp2
    go_ret
    exact ⟨⟨_, rfl, by decide⟩, HK.out⟩
set_option maxRecDepth 1000000 in
set_option maxHeartbeats 1600000 in
theorem literal_txt (w : World) : Calls Tryz.prog 143 #[.iface 9 (.string ⟨#[]⟩)] w fun e w' => (∃ s : ByteArray, e = .returned (.string s) ∧ s.size ≤ 256) ∧ Keep [] w w' := by
  have h1 := ti_94 (.string ⟨#[]⟩)
  have h2 := ti_92 (.string ⟨#[]⟩)
  have h3 := ti_931 (.string ⟨#[]⟩)
  have h4 := ti_99 (.string ⟨#[]⟩)
  have hQ := fun w9 => quoted_none w9
  go_enter Tryz.func143, Tryz.ntmps143
  go_wp2_with fail
  refine (hQ _).mono ?_
  rintro e w5 ⟨⟨s, rfl, hs⟩, k5⟩
  have HK : Hid (Keep [] w w5 ∧ s.size ≤ 256) := ⟨k5, hs⟩
  clear k5 hs hQ h1 h2 h3 h4
  go_wp2
  go_ret
  exact ⟨⟨_, rfl, HK.out.2⟩, HK.out.1⟩
set_option maxRecDepth 1000000 in
set_option maxHeartbeats 1600000 in
theorem textOk_txt : TextOk 4 0 := by
  intro w hT
  have hC : ∀ w, Calls Tryz.prog 42 #[txtV] w fun e w' => e = .returned (.int .i64 0) ∧ Keep [] w w' := fun w => by
    have h := check_any (Pt.mk 1 ⟨#[]⟩ 4 0).vd (Pt.Ok.vd ⟨by decide, by decide, by decide, by decide, by decide, by decide⟩) (.slice none 0 0) w (Ts.nil _)
    rw [show (Pt.mk 1 ⟨#[]⟩ 4 0).vd.mayB = true by kernel_rfl] at h
    exact h
  have hH := held_txt
  have HL : Hid (∀ w, Tb w → Calls Tryz.prog 143 #[.iface 9 (.string ⟨#[]⟩)] w fun e w' => (∃ s : ByteArray, e = .returned (.string s) ∧ s.size ≤ 256) ∧ Keep [] w w') := fun w _ => literal_txt w
  have HT : Hid (Tb w) := hT
  have hsf := store_f32
  simp only [Go.stored] at hsf
  clear hT
  go_enter Tryz.func122, Tryz.ntmps122
  go_wp2_with fail
  refine (hC _).mono ?_
  rintro e w5 ⟨rfl, k5⟩
  have v0 : w5.cell? ⟨w.heap.size, 0, none⟩ = some (.int .i64 4) := k5.cell' (by go_simp) (by simp)
  have v1 : w5.cell? ⟨w.heap.size, 1, none⟩ = some (.bool false) := k5.cell' (by go_simp) (by simp)
  have v2 : w5.cell? ⟨w.heap.size, 2, none⟩ = some (.int .i64 0) := k5.cell' (by go_simp) (by simp)
  have v3 : w5.cell? ⟨w.heap.size, 3, none⟩ = some (.float .f32 0) := k5.cell' (by go_simp) (by simp)
  have v4 : w5.cell? ⟨w.heap.size, 4, none⟩ = some (.string ⟨#[]⟩) := k5.cell' (by go_simp) (by simp)
  have v5 : w5.cell? ⟨w.heap.size, 5, none⟩ = some (.slice none 0 0) := k5.cell' (by go_simp) (by simp)
  have HK5 : Hid (Keep [] w w5) := (Keep.alloc1 _ _).trans' k5
  clear k5 hC
  go_wp2_with fail
  refine (hH _).mono ?_
  rintro e w6 ⟨rfl, k6⟩
  have HK6 : Hid (Keep [] w w6) := HK5.out.trans' k6
  clear k6 hH v0 v1 v2 v3 v4 v5
  go_wp2_with fail
  refine (HL.out _ (HT.out.keep HK6.out (by simp))).mono ?_
  rintro e w7 ⟨⟨s, rfl, hs⟩, k7⟩
  have HK7 : Hid (Keep [] w w7 ∧ s.size ≤ 256) := ⟨HK6.out.trans' k7, hs⟩
  clear k7 hs HL
  go_wp2
  go_ret2
  exact ⟨s, rfl, HK7.out.2, HK7.out.1⟩
end Go.Proofs.YtplbclokoffgkaaGreatDoor

/- Conditions: the condition n < 2 and what is made of it; Check of a tree. -/
namespace Go.Proofs.YtplbclokoffgkaaGreatDoor
open Go.RowKit Go.PlainAid Go.Shelf

theorem ccheck_tree (nm : ByteArray) (ps : List PD) (t : Tr) (xs : List Pt) (hxs : t.flat = xs) (vals : List Int) (es : Nat → Int) (D : Nat) (ht : t.ok) (hok : CdOk nm ps xs) (hD : Dup ps D) (hK : Kd ps xs vals es) (hE : 0 ≤ (kindE vals es xs.length).2 ∧ (kindE vals es xs.length).2 ≤ 100) (hl1 : 1 ≤ xs.length) (hl : xs.length ≤ 20)
    (vp vx : Value) (w : World) (hp : Pm w vp ps) (hx : Pp w vx xs) (hT : Tb w) (hlp : Lo w.heap.size vp) (hlx : Lo w.heap.size vx) :
    Calls Tryz.prog 6 #[.agg #[.string nm, vp, vx]] w fun e w' => e = .returned (chkV ps D (kindE vals es xs.length)) ∧ Keep [] w w' := by
  have hcl := part_any t ht vx xs 0 [] (by simp [hxs]) (by omega)
  rw [hxs] at hcl
  exact ccheck_any nm ps xs vp vx D (kindE vals es xs.length) _ (2048 * xs.length) w hp hx hT hok hlp hlx hcl (by omega) hD hE
    (fun w1 k1 => kindFault_any nm ps xs vals es hK vp vx w1 (hp.keep0 k1) (hx.keep0 k1) hl1 (by omega) (fun k hk => Nat.lt_of_lt_of_le (hlp k hk) k1.size) (fun k hk => Nat.lt_of_lt_of_le (hlx k hk) k1.size))

theorem bl_n : (⟨#[110]⟩ : ByteArray).toList = [110] := by rw [ByteArray.toList_eq]
theorem bl_m : (⟨#[109]⟩ : ByteArray).toList = [109] := by rw [ByteArray.toList_eq]
theorem bl_less : (⟨#[108, 101, 115, 115]⟩ : ByteArray).toList = [108, 101, 115, 115] := by rw [ByteArray.toList_eq]
theorem nm_n : nameL (⟨#[110]⟩ : ByteArray).toList = true := by rw [bl_n]; decide
theorem nm_m : nameL (⟨#[109]⟩ : ByteArray).toList = true := by rw [bl_m]; decide
theorem nm_less : nameL (⟨#[108, 101, 115, 115]⟩ : ByteArray).toList = true := by rw [bl_less]; decide
theorem pk_n : pKind [⟨⟨#[110]⟩, 2⟩] ⟨#[110]⟩ = 2 := by simp [pKind]
theorem pk_m : pKind [⟨⟨#[110]⟩, 2⟩] ⟨#[109]⟩ = 0 := by simp [pKind]
theorem dup1 : Dup [⟨⟨#[110]⟩, 2⟩] 1 := ⟨by simp, fun k hk h => by
    have : k = 0 := by omega
    subst this
    rfl, fun h => by simp at h⟩
theorem dup2 : Dup [⟨⟨#[110]⟩, 2⟩, ⟨⟨#[110]⟩, 1⟩] 1 := ⟨by simp, fun k hk h => by
    have : k = 0 := by omega
    subst this
    rfl, fun h => by simp [pKind]⟩
theorem kd0 : Kd [⟨⟨#[110]⟩, 2⟩] [⟨11, ⟨#[]⟩, 0, 0⟩, ⟨2, ⟨#[110]⟩, 0, 0⟩, ⟨1, ⟨#[]⟩, 2, 2⟩] [1, 2, 2] (fun _ => 0) := by
  refine ⟨rfl, ?_, ?_, ?_, ?_⟩
  · intro x hx
    simp at hx
    rcases hx with rfl | rfl | rfl <;> simp [Pt.sp]
  · intro j i h hi
    have hi3 : i < 3 := hi
    match i, hi3 with
    | 0, _ =>
      obtain rfl : j = 2 := by simp at h; omega
      show 2 ≤ 2
      decide
    | 1, _ =>
      obtain rfl : j = 1 := by simp at h; omega
      show 0 ≤ 1
      decide
    | 2, _ =>
      obtain rfl : j = 0 := by simp at h; omega
      show 0 ≤ 0
      decide
  · intro j hj
    have hj3 : j < 4 := by simp at hj; omega
    match j, hj3 with
    | 0, _ => show 0 ≤ 100; decide
    | 1, _ => show 1 ≤ 100; decide
    | 2, _ => show 2 ≤ 100; decide
    | 3, _ => show 1 ≤ 100; decide
  · intro j i h hi
    have hi3 : i < 3 := hi
    match i, hi3 with
    | 0, _ =>
      obtain rfl : j = 2 := by simp at h; omega
      show pk [⟨⟨#[110]⟩, 2⟩] ⟨11, ⟨#[]⟩, 0, 0⟩ 2 2 = (1, 0)
      rfl
    | 1, _ =>
      obtain rfl : j = 1 := by simp at h; omega
      show pk [⟨⟨#[110]⟩, 2⟩] ⟨2, ⟨#[110]⟩, 0, 0⟩ 0 0 = (2, 0)
      simp [pk, errK, pk_n]
    | 2, _ =>
      obtain rfl : j = 0 := by simp at h; omega
      show pk [⟨⟨#[110]⟩, 2⟩] ⟨1, ⟨#[]⟩, 2, 2⟩ 0 0 = (2, 0)
      rfl

theorem kd1 : Kd [⟨⟨#[110]⟩, 2⟩] [⟨11, ⟨#[]⟩, 0, 0⟩, ⟨2, ⟨#[109]⟩, 0, 0⟩, ⟨1, ⟨#[]⟩, 2, 2⟩] [0, 0, 2] (fun i => if i = 1 then 71 else 0) := by
  refine ⟨rfl, ?_, ?_, ?_, ?_⟩
  · intro x hx
    simp at hx
    rcases hx with rfl | rfl | rfl <;> simp [Pt.sp]
  · intro j i h hi
    have hi3 : i < 3 := hi
    match i, hi3 with
    | 0, _ =>
      obtain rfl : j = 2 := by simp at h; omega
      show 2 ≤ 2
      decide
    | 1, _ =>
      obtain rfl : j = 1 := by simp at h; omega
      show 0 ≤ 1
      decide
    | 2, _ =>
      obtain rfl : j = 0 := by simp at h; omega
      show 0 ≤ 0
      decide
  · intro j hj
    have hj3 : j < 4 := by simp at hj; omega
    match j, hj3 with
    | 0, _ => show 0 ≤ 100; decide
    | 1, _ => show 1 ≤ 100; decide
    | 2, _ => show 2 ≤ 100; decide
    | 3, _ => show 1 ≤ 100; decide
  · intro j i h hi
    have hi3 : i < 3 := hi
    match i, hi3 with
    | 0, _ =>
      obtain rfl : j = 2 := by simp at h; omega
      show pk [⟨⟨#[110]⟩, 2⟩] ⟨11, ⟨#[]⟩, 0, 0⟩ 0 2 = (0, 0)
      rfl
    | 1, _ =>
      obtain rfl : j = 1 := by simp at h; omega
      show pk [⟨⟨#[110]⟩, 2⟩] ⟨2, ⟨#[109]⟩, 0, 0⟩ 0 0 = (0, 71)
      simp [pk, errK, pk_m]
    | 2, _ =>
      obtain rfl : j = 0 := by simp at h; omega
      show pk [⟨⟨#[110]⟩, 2⟩] ⟨1, ⟨#[]⟩, 2, 2⟩ 0 0 = (2, 0)
      rfl

theorem kd2 : Kd [⟨⟨#[110]⟩, 2⟩] [⟨11, ⟨#[]⟩, 0, 0⟩, ⟨1, ⟨#[]⟩, 4, 0⟩, ⟨1, ⟨#[]⟩, 2, 2⟩] [0, 4, 2] (fun i => if i = 0 then 70 else 0) := by
  refine ⟨rfl, ?_, ?_, ?_, ?_⟩
  · intro x hx
    simp at hx
    rcases hx with rfl | rfl | rfl <;> simp [Pt.sp]
  · intro j i h hi
    have hi3 : i < 3 := hi
    match i, hi3 with
    | 0, _ =>
      obtain rfl : j = 2 := by simp at h; omega
      show 2 ≤ 2
      decide
    | 1, _ =>
      obtain rfl : j = 1 := by simp at h; omega
      show 0 ≤ 1
      decide
    | 2, _ =>
      obtain rfl : j = 0 := by simp at h; omega
      show 0 ≤ 0
      decide
  · intro j hj
    have hj3 : j < 4 := by simp at hj; omega
    match j, hj3 with
    | 0, _ => show 0 ≤ 100; decide
    | 1, _ => show 1 ≤ 100; decide
    | 2, _ => show 2 ≤ 100; decide
    | 3, _ => show 1 ≤ 100; decide
  · intro j i h hi
    have hi3 : i < 3 := hi
    match i, hi3 with
    | 0, _ =>
      obtain rfl : j = 2 := by simp at h; omega
      show pk [⟨⟨#[110]⟩, 2⟩] ⟨11, ⟨#[]⟩, 0, 0⟩ 4 2 = (0, 70)
      rfl
    | 1, _ =>
      obtain rfl : j = 1 := by simp at h; omega
      show pk [⟨⟨#[110]⟩, 2⟩] ⟨1, ⟨#[]⟩, 4, 0⟩ 0 0 = (4, 0)
      rfl
    | 2, _ =>
      obtain rfl : j = 0 := by simp at h; omega
      show pk [⟨⟨#[110]⟩, 2⟩] ⟨1, ⟨#[]⟩, 2, 2⟩ 0 0 = (2, 0)
      rfl

theorem kd3 : Kd [⟨⟨#[110]⟩, 2⟩, ⟨⟨#[110]⟩, 1⟩] [⟨11, ⟨#[]⟩, 0, 0⟩, ⟨1, ⟨#[]⟩, 4, 0⟩, ⟨1, ⟨#[]⟩, 2, 2⟩] [0, 4, 2] (fun i => if i = 0 then 70 else 0) := by
  refine ⟨rfl, ?_, ?_, ?_, ?_⟩
  · intro x hx
    simp at hx
    rcases hx with rfl | rfl | rfl <;> simp [Pt.sp]
  · intro j i h hi
    have hi3 : i < 3 := hi
    match i, hi3 with
    | 0, _ =>
      obtain rfl : j = 2 := by simp at h; omega
      show 2 ≤ 2
      decide
    | 1, _ =>
      obtain rfl : j = 1 := by simp at h; omega
      show 0 ≤ 1
      decide
    | 2, _ =>
      obtain rfl : j = 0 := by simp at h; omega
      show 0 ≤ 0
      decide
  · intro j hj
    have hj3 : j < 4 := by simp at hj; omega
    match j, hj3 with
    | 0, _ => show 0 ≤ 100; decide
    | 1, _ => show 1 ≤ 100; decide
    | 2, _ => show 2 ≤ 100; decide
    | 3, _ => show 1 ≤ 100; decide
  · intro j i h hi
    have hi3 : i < 3 := hi
    match i, hi3 with
    | 0, _ =>
      obtain rfl : j = 2 := by simp at h; omega
      show pk [⟨⟨#[110]⟩, 2⟩, ⟨⟨#[110]⟩, 1⟩] ⟨11, ⟨#[]⟩, 0, 0⟩ 4 2 = (0, 70)
      rfl
    | 1, _ =>
      obtain rfl : j = 1 := by simp at h; omega
      show pk [⟨⟨#[110]⟩, 2⟩, ⟨⟨#[110]⟩, 1⟩] ⟨1, ⟨#[]⟩, 4, 0⟩ 0 0 = (4, 0)
      rfl
    | 2, _ =>
      obtain rfl : j = 0 := by simp at h; omega
      show pk [⟨⟨#[110]⟩, 2⟩, ⟨⟨#[110]⟩, 1⟩] ⟨1, ⟨#[]⟩, 2, 2⟩ 0 0 = (2, 0)
      rfl

theorem ok0 : CdOk ⟨#[108, 101, 115, 115]⟩ [⟨⟨#[110]⟩, 2⟩] [⟨11, ⟨#[]⟩, 0, 0⟩, ⟨2, ⟨#[110]⟩, 0, 0⟩, ⟨1, ⟨#[]⟩, 2, 2⟩] := by
  refine ⟨nm_less, by simp, ?_, by simp, ?_, rfl⟩
  · intro p hp
    simp at hp
    rcases hp with rfl <;> exact ⟨nm_n, by decide, by decide⟩
  · intro p hp
    simp at hp
    rcases hp with rfl | rfl | rfl
    · exact ⟨⟨by decide, by decide, by decide, by decide, by decide, by decide⟩, .inr (.inr ⟨by decide, rfl, rfl, rfl⟩)⟩
    · exact ⟨⟨by decide, by decide, by decide, by decide, by decide, by decide⟩, .inr (.inl ⟨rfl, nm_n, rfl, rfl⟩)⟩
    · exact ⟨⟨by decide, by decide, by decide, by decide, by decide, by decide⟩, .inl ⟨rfl, rfl, by kernel_rfl⟩⟩
theorem ok1 : CdOk ⟨#[108, 101, 115, 115]⟩ [⟨⟨#[110]⟩, 2⟩] [⟨11, ⟨#[]⟩, 0, 0⟩, ⟨2, ⟨#[109]⟩, 0, 0⟩, ⟨1, ⟨#[]⟩, 2, 2⟩] := by
  refine ⟨nm_less, by simp, ?_, by simp, ?_, rfl⟩
  · intro p hp
    simp at hp
    rcases hp with rfl <;> exact ⟨nm_n, by decide, by decide⟩
  · intro p hp
    simp at hp
    rcases hp with rfl | rfl | rfl
    · exact ⟨⟨by decide, by decide, by decide, by decide, by decide, by decide⟩, .inr (.inr ⟨by decide, rfl, rfl, rfl⟩)⟩
    · exact ⟨⟨by decide, by decide, by decide, by decide, by decide, by decide⟩, .inr (.inl ⟨rfl, nm_m, rfl, rfl⟩)⟩
    · exact ⟨⟨by decide, by decide, by decide, by decide, by decide, by decide⟩, .inl ⟨rfl, rfl, by kernel_rfl⟩⟩
theorem ok2 : CdOk ⟨#[108, 101, 115, 115]⟩ [⟨⟨#[110]⟩, 2⟩] [⟨11, ⟨#[]⟩, 0, 0⟩, ⟨1, ⟨#[]⟩, 4, 0⟩, ⟨1, ⟨#[]⟩, 2, 2⟩] := by
  refine ⟨nm_less, by simp, ?_, by simp, ?_, rfl⟩
  · intro p hp
    simp at hp
    rcases hp with rfl <;> exact ⟨nm_n, by decide, by decide⟩
  · intro p hp
    simp at hp
    rcases hp with rfl | rfl | rfl
    · exact ⟨⟨by decide, by decide, by decide, by decide, by decide, by decide⟩, .inr (.inr ⟨by decide, rfl, rfl, rfl⟩)⟩
    · exact ⟨⟨by decide, by decide, by decide, by decide, by decide, by decide⟩, .inl ⟨rfl, rfl, by kernel_rfl⟩⟩
    · exact ⟨⟨by decide, by decide, by decide, by decide, by decide, by decide⟩, .inl ⟨rfl, rfl, by kernel_rfl⟩⟩
theorem ok3 : CdOk ⟨#[108, 101, 115, 115]⟩ [⟨⟨#[110]⟩, 2⟩, ⟨⟨#[110]⟩, 1⟩] [⟨11, ⟨#[]⟩, 0, 0⟩, ⟨1, ⟨#[]⟩, 4, 0⟩, ⟨1, ⟨#[]⟩, 2, 2⟩] := by
  refine ⟨nm_less, by simp, ?_, by simp, ?_, rfl⟩
  · intro p hp
    simp at hp
    rcases hp with rfl | rfl <;> exact ⟨nm_n, by decide, by decide⟩
  · intro p hp
    simp at hp
    rcases hp with rfl | rfl | rfl
    · exact ⟨⟨by decide, by decide, by decide, by decide, by decide, by decide⟩, .inr (.inr ⟨by decide, rfl, rfl, rfl⟩)⟩
    · exact ⟨⟨by decide, by decide, by decide, by decide, by decide, by decide⟩, .inl ⟨rfl, rfl, by kernel_rfl⟩⟩
    · exact ⟨⟨by decide, by decide, by decide, by decide, by decide, by decide⟩, .inl ⟨rfl, rfl, by kernel_rfl⟩⟩

theorem tr0 : (Tr.bin 11 (.par ⟨#[110]⟩) (.val 2 2)).ok := ⟨by decide, (by show (⟨#[110]⟩ : ByteArray).size ≤ 256; decide), textOk_int 2 (by decide), by decide⟩
theorem tr1 : (Tr.bin 11 (.par ⟨#[109]⟩) (.val 2 2)).ok := ⟨by decide, (by show (⟨#[109]⟩ : ByteArray).size ≤ 256; decide), textOk_int 2 (by decide), by decide⟩
theorem tr2 : (Tr.bin 11 (.val 4 0) (.val 2 2)).ok := ⟨by decide, ⟨textOk_txt, by decide⟩, textOk_int 2 (by decide), by decide⟩
/-- Check of the four -/
theorem chk0 (vp vx : Value) (w : World) (hp : Pm w vp [⟨⟨#[110]⟩, 2⟩]) (hx : Pp w vx [⟨11, ⟨#[]⟩, 0, 0⟩, ⟨2, ⟨#[110]⟩, 0, 0⟩, ⟨1, ⟨#[]⟩, 2, 2⟩]) (hT : Tb w) (hlp : Lo w.heap.size vp) (hlx : Lo w.heap.size vx) : Calls Tryz.prog 6 #[.agg #[.string ⟨#[108, 101, 115, 115]⟩, vp, vx]] w fun e w' => e = .returned F0 ∧ Keep [] w w' :=
  ccheck_tree _ _ (Tr.bin 11 (.par ⟨#[110]⟩) (.val 2 2)) _ rfl _ _ 1 tr0 ok0 dup1 kd0 (by decide) (by decide) (by decide) vp vx w hp hx hT hlp hlx
theorem chk1 (vp vx : Value) (w : World) (hp : Pm w vp [⟨⟨#[110]⟩, 2⟩]) (hx : Pp w vx [⟨11, ⟨#[]⟩, 0, 0⟩, ⟨2, ⟨#[109]⟩, 0, 0⟩, ⟨1, ⟨#[]⟩, 2, 2⟩]) (hT : Tb w) (hlp : Lo w.heap.size vp) (hlx : Lo w.heap.size vx) : Calls Tryz.prog 6 #[.agg #[.string ⟨#[108, 101, 115, 115]⟩, vp, vx]] w fun e w' => e = .returned (.agg #[.int .i64 71, .int .i64 0, .int .i64 2, .int .i64 (-1)]) ∧ Keep [] w w' :=
  ccheck_tree _ _ (Tr.bin 11 (.par ⟨#[109]⟩) (.val 2 2)) _ rfl _ _ 1 tr1 ok1 dup1 kd1 (by decide) (by decide) (by decide) vp vx w hp hx hT hlp hlx
theorem chk2 (vp vx : Value) (w : World) (hp : Pm w vp [⟨⟨#[110]⟩, 2⟩]) (hx : Pp w vx [⟨11, ⟨#[]⟩, 0, 0⟩, ⟨1, ⟨#[]⟩, 4, 0⟩, ⟨1, ⟨#[]⟩, 2, 2⟩]) (hT : Tb w) (hlp : Lo w.heap.size vp) (hlx : Lo w.heap.size vx) : Calls Tryz.prog 6 #[.agg #[.string ⟨#[108, 101, 115, 115]⟩, vp, vx]] w fun e w' => e = .returned (.agg #[.int .i64 70, .int .i64 0, .int .i64 1, .int .i64 (-1)]) ∧ Keep [] w w' :=
  ccheck_tree _ _ (Tr.bin 11 (.val 4 0) (.val 2 2)) _ rfl _ _ 1 tr2 ok2 dup1 kd2 (by decide) (by decide) (by decide) vp vx w hp hx hT hlp hlx
theorem chk3 (vp vx : Value) (w : World) (hp : Pm w vp [⟨⟨#[110]⟩, 2⟩, ⟨⟨#[110]⟩, 1⟩]) (hx : Pp w vx [⟨11, ⟨#[]⟩, 0, 0⟩, ⟨1, ⟨#[]⟩, 4, 0⟩, ⟨1, ⟨#[]⟩, 2, 2⟩]) (hT : Tb w) (hlp : Lo w.heap.size vp) (hlx : Lo w.heap.size vx) : Calls Tryz.prog 6 #[.agg #[.string ⟨#[108, 101, 115, 115]⟩, vp, vx]] w fun e w' => e = .returned (.agg #[.int .i64 90, .int .i64 0, .int .i64 1, .int .i64 (-1)]) ∧ Keep [] w w' :=
  ccheck_tree _ _ (Tr.bin 11 (.val 4 0) (.val 2 2)) _ rfl _ _ 1 tr2 ok3 dup2 kd3 (by decide) (by decide) (by decide) vp vx w hp hx hT hlp hlx
end Go.Proofs.YtplbclokoffgkaaGreatDoor
