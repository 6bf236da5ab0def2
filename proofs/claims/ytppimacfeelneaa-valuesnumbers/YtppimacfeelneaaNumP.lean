/- The numbers of this layer, asked for at the limits: ValuesNumbers answers true. -/
import Derived.Test.YtppimacfeelneaaDecN
import Derived.Test.YtppimacfeelneaaWrW
import Derived.Test.YtppimacfeelneaaArgY
namespace Go.Proofs.Ytppimacfeelneaa
open Go.RowKit Go.PlainAid Go.Lib

theorem longB_rep (n : Nat) (s : ByteArray) (h : s.size ≤ 256) : longB (List.replicate n s) = false := by
  unfold longB
  rw [List.any_eq_false]
  intro x hx
  rw [(List.mem_replicate.1 hx).2]
  simpa using h

def goodD : VD := ⟨5, false, 0, 0, ⟨#[]⟩, List.replicate 32 (xs 256)⟩
def longD : VD := ⟨4, false, 0, 0, xs 257, []⟩
def manyD : VD := ⟨5, false, 0, 0, ⟨#[]⟩, List.replicate 33 (xs 0)⟩
theorem goodD_yes : goodD.mayB = true := by
  have h1 : goodD.clear = ⟨5, false, 0, 0, ⟨#[]⟩, []⟩ := rfl
  have h2 : goodD.shortB = true := by
    unfold VD.shortB
    have : longB goodD.texts = false := longB_rep 32 (xs 256) (by rw [xs_size]; omega)
    rw [this]
    have e1 : goodD.text.size = 0 := rfl
    have e2 : goodD.texts.length = 32 := by simp [goodD]
    rw [e1, e2]
    rfl
  unfold VD.mayB
  rw [h1, h2]
  decide
theorem longD_no : longD.mayB = false := by
  have h2 : longD.shortB = false := by
    unfold VD.shortB
    have e1 : longD.text.size = 257 := xs_size 257
    rw [e1]
    rfl
  unfold VD.mayB
  rw [h2]
  simp
theorem manyD_no : manyD.mayB = false := by
  have h2 : manyD.shortB = false := by
    unfold VD.shortB
    have e2 : manyD.texts.length = 33 := by simp [manyD]
    rw [e2]
    simp
  unfold VD.mayB
  rw [h2]
  simp

/-- the argument number i -/
def nmN (i : Nat) : ByteArray := ⟨#[(97 + i).toUInt8]⟩
def flagD : VD := ⟨1, false, 0, 0, ⟨#[]⟩, []⟩
theorem flagD_ok : flagD.Ok := ⟨by decide, by decide, by decide, by decide, by decide, Nat.zero_le _⟩
def argD (i : Nat) : AD := ⟨nmN i, flagD⟩
theorem nm_list (i : Nat) : (nmN i).toList = [(97 + i).toUInt8] := by rw [ByteArray.toList_eq]; rfl
def argCells (i : Nat) : List Value := [.string (nmN i), .int .i64 1, .bool false, .int .i64 0, .float .f32 0, .string ⟨#[]⟩, .slice none 0 0]
def allCells (n : Nat) : List Value := (List.range n).flatMap argCells
theorem allCells_succ (n : Nat) : allCells (n + 1) = allCells n ++ argCells n := by simp [allCells, List.range_succ]
theorem allCells_len (n : Nat) : (allCells n).length = n * 7 := by
  induction n with
  | zero => rfl
  | succ n ih => rw [allCells_succ, List.length_append, ih]; simp [argCells]; omega
theorem allCells_at (n k r : Nat) (hk : k < n) (hr : r < 7) : (allCells n)[k * 7 + r]? = (argCells k)[r]? := by
  induction n with
  | zero => omega
  | succ n ih =>
    rw [allCells_succ]
    by_cases h : k < n
    · rw [List.getElem?_append_left (by rw [allCells_len]; omega), ih h]
    · have : k = n := by omega
      subst this
      rw [List.getElem?_append_right (by rw [allCells_len]; omega), allCells_len]
      congr 1
      omega

theorem nm_nameF : ∀ i : Fin 16, nameL [(97 + i.val).toUInt8] = true := by decide
theorem nm_riseF : ∀ i : Fin 15, Op.bytesLess [(97 + i.val).toUInt8] [(97 + (i.val + 1)).toUInt8] = true := by decide
theorem flagD_yes : flagD.mayB = true := by decide

theorem RowC.args {w : World} {v : Value} {n : Nat} (h : RowC w 32 7 v n (allCells n)) (hn : n ≤ 16) : As w v ((List.range n).map argD) := by
  refine ⟨fun x hx => ?_, ?_⟩
  · obtain ⟨i, _, rfl⟩ := List.mem_map.1 hx
    exact flagD_ok
  · rcases h.cases with ⟨rfl, _, rfl⟩ | ⟨g, cap, rfl, h1, h2, _, h4, _⟩
    · exact ⟨none, 0, rfl, by simp, by omega, fun h => absurd rfl h⟩
    · refine ⟨some ⟨g, 0, none⟩, cap, by simp, by simpa using h1, h2, fun _ => ⟨g, 0, rfl, fun i hi => ⟨.slice none 0 0, ?_, ?_⟩⟩⟩
      · simp at hi
        have hc : ∀ r, r < 7 → w.cell? ⟨g, 0 + i * 7 + r, none⟩ = (argCells i)[r]? := fun r hr => by
          rw [Nat.zero_add, h4 _ (by omega), allCells_at n i r hi hr]
        have e : ((List.range n).map argD)[i]'(by simpa using hi) = argD i := by simp
        rw [e]
        exact ⟨hc 0 (by omega), hc 1 (by omega), hc 2 (by omega), hc 3 (by omega), hc 4 (by omega), hc 5 (by omega), hc 6 (by omega)⟩
      · have e : ((List.range n).map argD)[i] = argD i := by simp
        rw [e]
        exact Ts.nil w

theorem infoArg : (Try.prog.info? 32).map (fun i => (i.zero, i.size, i.bytes)) = some (some (.agg #[.string ⟨#[]⟩, .int .i64 0, .bool false, .int .i64 0, .float .f32 0, .string ⟨#[]⟩, .slice none 0 0]), 7, 88) := by kernel_rfl

theorem args16 {w : World} {v : Value} (h : RowC w 32 7 v 16 (allCells 16)) : Calls Try.prog 9 #[v] w fun e w' => e = .returned (.int .i64 0) ∧ Keep [] w w' := by
  refine args_yes v _ w (h.args (Nat.le_refl _)) (by simp) (fun x hx => ?_) (fun i hi => ?_)
  · obtain ⟨i, hi, rfl⟩ := List.mem_map.1 hx
    simp at hi
    have h1 := nm_nameF ⟨i, hi⟩
    refine ⟨?_, flagD_yes⟩
    show nameL (nmN i).toList = true
    rw [nm_list]
    exact h1
  · simp at hi
    have h1 := nm_riseF ⟨i, by omega⟩
    simp only [List.getElem_map, List.getElem_range]
    show Op.bytesLess (nmN i).toList (nmN (i + 1)).toList = true
    rw [nm_list, nm_list]
    exact h1

theorem srcArg (w : World) (i : Nat) : Src Try.prog 7 29 (.slice (some ⟨w.heap.size, 0, none⟩) 1 1) 1 (argCells i) (w.alloc (.cells #[.string (nmN i), .int .i64 1, .bool false, .int .i64 0, .float .f32 0, .string ⟨#[]⟩, .slice none 0 0] 32)) := by
  refine Src.ofSlice _ Try.underlying29 ⟨w.heap.size, 0, none⟩ 1 1 (argCells i) rfl (fun j u hu => ?_) (fun u hu => ?_)
  · have hj : j < 7 := by
      have := (List.getElem?_eq_some_iff.1 hu).1
      simpa [argCells] using this
    have : j = 0 ∨ j = 1 ∨ j = 2 ∨ j = 3 ∨ j = 4 ∨ j = 5 ∨ j = 6 := by omega
    rcases this with rfl | rfl | rfl | rfl | rfl | rfl | rfl <;> simp [argCells] at hu <;> subst hu <;> simp [go_sem]
  · simp [argCells] at hu
    rcases hu with rfl | rfl | rfl | rfl | rfl | rfl | rfl <;> rfl

def zCells : List Value := [.string ⟨#[122]⟩, .int .i64 1, .bool false, .int .i64 0, .float .f32 0, .string ⟨#[]⟩, .slice none 0 0]
theorem srcZ (w : World) : Src Try.prog 7 29 (.slice (some ⟨w.heap.size, 0, none⟩) 1 1) 1 zCells (w.alloc (.cells #[.string ⟨#[122]⟩, .int .i64 1, .bool false, .int .i64 0, .float .f32 0, .string ⟨#[]⟩, .slice none 0 0] 32)) := by
  refine Src.ofSlice _ Try.underlying29 ⟨w.heap.size, 0, none⟩ 1 1 zCells rfl (fun j u hu => ?_) (fun u hu => ?_)
  · have hj : j < 7 := by
      have := (List.getElem?_eq_some_iff.1 hu).1
      simpa [zCells] using this
    have : j = 0 ∨ j = 1 ∨ j = 2 ∨ j = 3 ∨ j = 4 ∨ j = 5 ∨ j = 6 := by omega
    rcases this with rfl | rfl | rfl | rfl | rfl | rfl | rfl <;> simp [zCells] at hu <;> subst hu <;> simp [go_sem]
  · simp [zCells] at hu
    rcases hu with rfl | rfl | rfl | rfl | rfl | rfl | rfl <;> rfl

theorem letter_str (w : World) (i : Nat) (hi : i < 16) : (convert 30 9 (.slice (some ⟨w.heap.size, 0, none⟩) 1 1)).run Try.prog (w.alloc (.cells #[.int .u8 (97 + (i : Int))] 5)) = .ok (.string (nmN i)) (w.alloc (.cells #[.int .u8 (97 + (i : Int))] 5)) := by
  have hB := Bs.one w (97 + i) (by omega)
  have e : (((97 + i : Nat)) : Int) = 97 + (i : Int) := by omega
  rw [e] at hB
  exact run_str hB

set_option maxRecDepth 1000000 in
set_option maxHeartbeats 12800000 in
theorem numbers_law (w : World) : Calls Try.prog 3 #[] w fun e w' => e = .returned (.bool true) ∧ Below w.heap.size w w' := by
  have hsf := store_f32
  simp only [Go.stored] at hsf
  go_enter Try.func3, Try.ntmps3
  go_wp2_with fail
  refine (texts_any 32 256 (by omega) (by omega) w).mono ?_
  rintro e1 w1 ⟨v1, rfl, T1, K1⟩
  have hC1 := check_yes goodD ⟨by decide, by decide, by decide, by decide, by decide, Nat.zero_le _⟩ v1 w1 T1 goodD_yes
  obtain ⟨a1, c1, rfl, -⟩ := T1.ex
  simp only [goodD, VD.val] at hC1
  have HK1 : Hid (Keep [] w w1) := K1
  clear K1 T1
  go_wp2_with fail
  refine hC1.mono ?_
  rintro e2 w2 ⟨rfl, K2⟩
  have HK2 : Hid (Keep [] w w2) := HK1.out.trans' K2
  clear K2 HK1 hC1
  go_wp2_with fail
  refine (texts_any 1 257 (by omega) (by omega) w2).mono ?_
  rintro e3 w3 ⟨v3, rfl, T3, K3⟩
  have HK3 : Hid (Keep [] w w3) := HK2.out.trans' K3
  obtain ⟨a3, c3, rfl, q1, q2, -, q4⟩ := T3.ex
  obtain ⟨b3, o3, rfl, q5⟩ := q4 (by simp)
  have hcell := q5 0 (by simp)
  simp only [List.getElem_replicate, Nat.add_zero] at hcell
  simp only [List.length_replicate] at q1
  have hC3 := check_no longD ⟨by decide, by decide, by decide, by decide, by decide, by show (xs 257).size ≤ _; rw [xs_size]; omega⟩ (.slice none 0 0) w3 (Ts.nil _) longD_no
  simp only [longD, VD.val] at hC3
  clear K3 T3 q4 q5 HK2
  generalize xs 257 = s at hcell hC3
  go_wp2_with fail
  refine hC3.mono ?_
  rintro e4 w4 ⟨rfl, K4⟩
  have HK4 : Hid (Keep [] w w4) := HK3.out.trans' K4
  clear K4 HK3 hC3 hcell
  go_wp2_with fail
  refine (texts_any 33 0 (by omega) (by omega) w4).mono ?_
  rintro e5 w5 ⟨v5, rfl, T5, K5⟩
  have HK5 : Hid (Keep [] w w5) := HK4.out.trans' K5
  have hC5 := check_no manyD ⟨by decide, by decide, by decide, by decide, by decide, Nat.zero_le _⟩ v5 w5 T5 manyD_no
  obtain ⟨a5, c5, rfl, -⟩ := T5.ex
  simp only [manyD, VD.val] at hC5
  clear K5 T5 HK4
  go_wp2_with fail
  refine hC5.mono ?_
  rintro e6 w6 ⟨rfl, K6⟩
  have HK6 : Hid (Keep [] w w6) := HK5.out.trans' K6
  clear K6 HK5 hC5
  go_wp2
  go_loopw [4, 5] (fun lv iv wr => ∃ i : Nat, iv = .int .i64 (i : Int) ∧ i ≤ 16 ∧ RowC wr 32 7 lv i (allCells i) ∧ Keep [] w wr ∧ Fresh w wr lv) (fun _ iv _ => 16 - (intOf iv).toNat)
  case atStart => exact ⟨0, rfl, Nat.zero_le _, World.ownsRow_nil _ _ _ _, HK6.out, Fresh.nil _ _⟩
  case round =>
    obtain ⟨i, rfl, hi, hrow, hkp, hfr⟩ := hrel
    clear HK6
    by_cases hil : i < 16
    · have hii : (i : Int) < 16 := by omega
      have hls := letter_str wr i hil
      have hsrc := srcArg (wr.alloc (.cells #[.int .u8 (97 + (i : Int))] 5)) i
      rw [show (wr.alloc (.cells #[.int .u8 (97 + (i : Int))] 5)).heap.size = wr.heap.size + 1 by simp] at hsrc
      have hr2 : RowC ((wr.alloc (.cells #[.int .u8 (97 + (i : Int))] 5)).alloc (.cells #[.string (nmN i), .int .i64 1, .bool false, .int .i64 0, .float .f32 0, .string ⟨#[]⟩, .slice none 0 0] 32)) 32 7 u4 i (allCells i) := (hrow.keep (Keep.alloc1 wr _) (Off.nil _)).keep (Keep.alloc1 _ _) (Off.nil _)
      have HKF : Hid (Keep [] w (wr.alloc (.cells #[.int .u8 (97 + (i : Int))] 5)) ∧ Fresh w (wr.alloc (.cells #[.int .u8 (97 + (i : Int))] 5)) u4) := ⟨hkp.alloc _, hfr.later (by simp)⟩
      have hmod : (i : Int) % 256 = (i : Int) := by omega
      have hmod2 : (97 + (i : Int)) % 256 = 97 + (i : Int) := by omega
      clear hrow hkp hfr
      generalize nmN i = nm at hls hsrc hr2
      go_wp2_with (at_builtin; refine wp_appC infoArg rfl rfl (.tmp 25) (.tmp 33) 29 29 rfl Try.underlying29 _ i (allCells i) rfl hr2 _ 1 (argCells i) rfl hsrc (by omega) (by simp only [maxLen]; omega) ?_)
      intro v' w9 g1 g2 g3 g4 g5
      have HA : Hid (Keep [] w w9 ∧ Fresh w w9 v') := app_freshC HKF.out.1 HKF.out.2 g2 g3
      have HR : Hid (RowC w9 32 7 v' (i + 1) (allCells (i + 1))) := by
        rw [allCells_succ]
        exact g1
      clear g1 g2 g3 g4 g5 hsrc hr2 hls
      go_wp2
      go_roundw
      case rel => exact ⟨i + 1, by go_num, by omega, HR.out, HA.out.1, HA.out.2⟩
      case measure => simp [intOf]; omega
    · have hii : ¬ ((i : Int) < 16) := by omega
      have hie : i = 16 := by omega
      subst hie
      have HR : Hid (RowC wr 32 7 u4 16 (allCells 16) ∧ Keep [] w wr ∧ Fresh w wr u4) := ⟨hrow, hkp, hfr⟩
      clear hrow hkp hfr
      go_wp2_with fail
      refine (args16 HR.out.1).mono ?_
      rintro e7 w7 ⟨rfl, K7⟩
      have HR7 : Hid (RowC w7 32 7 u4 16 (allCells 16) ∧ Keep [] w w7 ∧ Fresh w w7 u4) := ⟨HR.out.1.keep K7 (Off.nil _), HR.out.2.1.trans' K7, HR.out.2.2.later K7.size⟩
      clear K7 HR
      have hsrc := srcZ w7
      have hr2 : RowC (w7.alloc (.cells #[.string ⟨#[122]⟩, .int .i64 1, .bool false, .int .i64 0, .float .f32 0, .string ⟨#[]⟩, .slice none 0 0] 32)) 32 7 u4 16 (allCells 16) := HR7.out.1.keep (Keep.alloc1 w7 _) (Off.nil _)
      go_wp2_with (at_builtin; refine wp_appC infoArg rfl rfl (.tmp 37) (.tmp 40) 29 29 rfl Try.underlying29 _ 16 (allCells 16) rfl hr2 _ 1 zCells rfl hsrc (by omega) (by simp only [maxLen]; omega) ?_)
      intro v' w8 g1 g2 g3 g4 g5
      have HA : Hid (Keep [] w w8) := (app_freshC HR7.out.2.1 HR7.out.2.2 g2 g3).1
      obtain ⟨a8, c8, rfl⟩ := g4
      clear g1 g2 g3 g5 hsrc hr2 HR7
      go_wp2_with fail
      refine (args_long a8 17 c8 (by omega) (by omega) w8).mono ?_
      rintro e9 w9 ⟨rfl, hw9⟩
      obtain rfl := hw9.symm
      go_wp2_with fail
      refine (decode_nil w8).mono ?_
      rintro e10 w10 ⟨rfl, K10⟩
      have HZ : Hid (Keep [] w w10) := HA.out.trans' K10
      clear K10 HA
      go_wp2
      go_ret
      exact ⟨rfl, (HZ.out.alloc _).below⟩

end Go.Proofs.Ytppimacfeelneaa
