/- Lists of texts with marks behind their ends: LentTexts; what reads as the same: SameTexts, SameReal. -/
import Derived.Test.YtfpcpociejefaaaGreatDoorRvA
import Derived.Test.YtfpcpociejefaaaGreatDoorTxA
import Derived.Test.YtfpcpociejefaaaGreatDoorOwn
import Derived.Test.YtfpcpociejefaaaGreatDoorBigA
import Derived.Laws.BytesString
import Derived.Deep.RegionWith
import Derived.Deep.QuietTactic
import Derived.BigQuiet
import Derived.Test.YtfpcpociejefaaaGreatDoorSaA
import Derived.Test.YtfpcpociejefaaaGreatDoorLentW
import Derived.Test.YtfpcpociejefaaaGreatDoorJLeaf
import Derived.Lib.Strings
import Derived.Test.YtfpcpociejefaaaGreatDoorAnyW
import Derived.Deep.RegionLaw

namespace Go.Proofs.YtfpcpociejefaaaGreatDoor
open Go.RowKit Go.PlainAid
def markS (i : Nat) : ByteArray := ⟨#[35, 1, 0, 0, 47, i.toUInt8, 0, 0]⟩
def marks (n : Nat) : List ByteArray := (List.range n).map markS
theorem marks_len (n : Nat) : (marks n).length = n := by simp [marks]
theorem marks_snoc (n : Nat) : marks (n + 1) = marks n ++ [markS n] := by simp [marks, List.range_succ]
theorem marks_get (n i : Nat) (h : i < (marks n).length) : (marks n)[i] = markS i := by simp [marks]
set_option maxRecDepth 1000000 in
set_option maxHeartbeats 1000000 in
theorem markText_any (i : Nat) (hi : i < 24) (w : World) :
  Calls Tryz.prog 30 #[.int .i64 1, .int .i64 (i : Int)] w fun e w' => e = .returned (.string (markS i)) ∧ Keep [] w w' := by
 have hst : (convert 33 9 (.slice (some ⟨w.heap.size, 0, none⟩) 8 8)).run Tryz.prog (w.alloc (.cells #[.int .u8 35, .int .u8 1, .int .u8 0, .int .u8 0, .int .u8 47, .int .u8 (i : Int), .int .u8 0, .int .u8 0] 5 (0, 0))) = .ok (.string (markS i)) (w.alloc (.cells #[.int .u8 35, .int .u8 1, .int .u8 0, .int .u8 0, .int .u8 47, .int .u8 (i : Int), .int .u8 0, .int .u8 0] 5 (0, 0))) := by
  have e : (i : Int) = ((i.toUInt8).toNat : Int) := by simp; omega
  have hr : Row (w.alloc (.cells #[.int .u8 35, .int .u8 1, .int .u8 0, .int .u8 0, .int .u8 47, .int .u8 (i : Int), .int .u8 0, .int .u8 0] 5 (0, 0))) (.slice (some ⟨w.heap.size, 0, none⟩) 8 8) [35, 1, 0, 0, 47, i.toUInt8, 0, 0] := by
   rw [e]
   exact World.ownsRow_lit w #[.int .u8 35, .int .u8 1, .int .u8 0, .int .u8 0, .int .u8 47, .int .u8 (i.toUInt8.toNat : Int), .int .u8 0, .int .u8 0] 8 (Nat.zero_le _) (by unfold maxLen; omega) rfl
  exact run_str hr.bs
 have hw : IntKind.u8.wrap (i : Int) = (i : Int) := by rw [IntKind.wrap_u8]; omega
 have hd1 : (i : Int) / 256 = 0 := by omega
 have hd2 : (i : Int) / 65536 = 0 := by omega
 go_enter Tryz.func30, Tryz.ntmps30
 go_wp2
 go_ret
 exact ⟨rfl, Keep.alloc1 w _⟩
theorem infoS : (Tryz.prog.info? 9).map (fun i => (i.zero, i.size, i.bytes)) = some (some (.string ByteArray.empty), 1, 16) := by kernel_rfl
def strC (l : List ByteArray) : List Value := l.map fun x => .string x
theorem strC_snoc (l : List ByteArray) (x : ByteArray) : strC (l ++ [x]) = strC l ++ [.string x] := by simp [strC]
/-- a row of texts of one's own -/
abbrev RowS (w : World) (v : Value) (l : List ByteArray) : Prop := RowC w 9 1 v l.length (strC l)
theorem src_str (w : World) (x : ByteArray) : Src Tryz.prog 1 59 (.slice (some ⟨w.heap.size, 0, none⟩) 1 1) 1 [.string x] (w.alloc (.cells #[.string x] 9 (0, 0))) := by
 refine Src.ofSlice _ Tryz.underlying59 ⟨w.heap.size, 0, none⟩ 1 1 [.string x] rfl (fun j u hu => ?_) (fun u hu => ?_)
 ·have hj : j = 0 := by
   have := (List.getElem?_eq_some_iff.1 hu).1
   simpa using this
  subst hj
  simp at hu
  subst hu
  simp [Addr.add]
 ·simp at hu
  subst hu
  rfl
/-- a row of one's own reads as its texts -/
theorem Ts.ofRow {w : World} {g n cap : Nat} {l : List ByteArray} (h : RowS w (.slice (some ⟨g, 0, none⟩) n cap) l) (hs : ∀ s ∈ l, s.size ≤ 9223372036854775807) (hn : n = l.length) : Ts w (.slice (some ⟨g, 0, none⟩) n cap) l := by
 rcases RowC.cases h with ⟨_, _, h3⟩ | ⟨g', cap', he, h1, h2, _, hc, _⟩
 ·simp at h3
 ·simp at he
  obtain ⟨rfl, _, rfl⟩ := he
  subst hn
  refine ⟨some ⟨g, 0, none⟩, cap, rfl, h1, h2, hs, fun _ => ⟨g, 0, rfl, fun j hj => ?_⟩⟩
  rw [Nat.zero_add, hc j (by omega)]
  simp [strC, hj]
theorem Ts.front {w : World} {g cap : Nat} {a b : List ByteArray} (h : Ts w (.slice (some ⟨g, 0, none⟩) (a.length + b.length) cap) (a ++ b)) : Ts w (.slice (some ⟨g, 0, none⟩) a.length cap) a := by
 obtain ⟨ao, c, he, h1, h2, h3, h4⟩ := h.ex
 simp at he
 obtain ⟨rfl, rfl⟩ := he
 rw [List.length_append] at h1
 refine ⟨some ⟨g, 0, none⟩, cap, rfl, by omega, h2, fun s hs => h3 s (by simp [hs]), fun hl => ?_⟩
 obtain ⟨b', o, he, hc⟩ := h4 (by simp [hl])
 simp at he
 obtain ⟨rfl, rfl⟩ := he
 refine ⟨g, 0, rfl, fun j hj => ?_⟩
 rw [hc j (by rw [List.length_append]; omega)]
 rw [List.getElem_append_left hj]
theorem Ts.at {w : World} {v : Value} {l : List ByteArray} (h : Ts w v l) (k : Nat) (hk : k < l.length) : ∃ b o cap, v = .slice (some ⟨b, o, none⟩) l.length cap ∧ l.length ≤ cap ∧ cap ≤ 9223372036854775807 ∧ w.cell? ⟨b, o + k, none⟩ = some (.string l[k]) := by
 obtain ⟨ao, cap, rfl, h1, h2, _, h4⟩ := h.ex
 obtain ⟨b, o, rfl, hc⟩ := h4 (by intro e; rw [e] at hk; simp at hk)
 exact ⟨b, o, cap, rfl, h1, h2, hc k hk⟩
set_option maxRecDepth 1000000 in
set_option maxHeartbeats 1000000 in
theorem lentRow_any (v : Value) (l : List ByteArray) (w : World) (h : Ts w v l) (hlen : l.length ≤ 8796093021952) :
  Calls Tryz.prog 55 #[v] w fun e w' => ∃ g cap, e = .returned (.slice (some ⟨g, 0, none⟩) l.length cap) ∧ RowS w' (.slice (some ⟨g, 0, none⟩) (l.length + 24) cap) (l ++ marks 24) ∧ Keep [] w w' ∧ w.heap.size ≤ g := by
 have hT : Hid (Ts w v l) := h
 obtain ⟨ao, cap, rfl, -⟩ := h.ex
 clear h
 go_enter Tryz.func55, Tryz.ntmps55
 go_wp2
 go_loopw [3, 4] (fun z3 z4 wr => ∃ (k : Nat), z4 = .int .i64 (k : Int) ∧ k ≤ l.length ∧ Hid (RowS wr z3 (l.take k) ∧ Keep [] w wr ∧ ∀ x, z3.ownBlock = some x → w.heap.size ≤ x)) (fun _ z4 _ => l.length - (RowKit.intOf z4).toNat)
 case atStart => exact ⟨0, rfl, Nat.zero_le _, ⟨World.ownsRow_nil _ 0 9 1, Keep.refl _ _, fun x hx => by simp [Value.ownBlock] at hx⟩⟩
 case round =>
  obtain ⟨k, rfl, hk, hI⟩ := hrel
  by_cases hlt : k < l.length
  ·have hlti : (k : Int) < (l.length : Int) := by omega
   obtain ⟨bb, oo, cc, he, hcc, hcc2, c0⟩ := (hT.out.keep hI.out.2.1 (Off.nil _)).at k hlt
   simp at he
   obtain ⟨rfl, rfl⟩ := he
   have hd : Hid (l.take (k + 1) = l.take k ++ [l[k]]) := List.take_succ_eq_append_getElem hlt
   generalize l[k] = t at c0 hd
   have hal : Hid (((l.take k).length + 1) * 16 ≤ 140737488355328 ∧ (l.take k).length + 1 ≤ maxLen) := by
    show _ ∧ _
    rw [List.length_take]
    refine ⟨by omega, ?_⟩
    unfold maxLen; omega
   have HS : Hid _ := src_str wr t
   have HR : Hid _ := RowC.keep hI.out.1 (Keep.alloc1 wr (.cells #[.string t] 9 (0, 0))) (Off.nil _)
   go_wp2_with (at_builtin; refine wp_appC infoS rfl rfl (.tmp 12) (.tmp 17) 59 59 rfl Tryz.underlying59 u3 (l.take k).length (strC (l.take k)) rfl HR.out _ 1 [.string t] rfl HS.out hal.out.1 hal.out.2 ?_)
   intro v9 w9 R9 K9 F9 S9 _
   obtain ⟨a9, c9, rfl⟩ := S9
   have hx : Hid (RowS w9 (.slice a9 (k + 1) c9) (l.take (k + 1)) ∧ Keep [] w w9 ∧ ∀ x, (Value.slice a9 (k + 1) c9).ownBlock = some x → w.heap.size ≤ x) := by
    have hsz := hI.out.2.1.size
    refine ⟨?_, ?_, fun x hx => ?_⟩
    ·unfold RowS; rw [hd.out, strC_snoc, List.length_append, List.length_take, Nat.min_eq_left (Nat.le_of_lt hlt)]; exact R9
    ·exact (hI.out.2.1.alloc _).more K9 (fun x hx => .inr (hI.out.2.2 x (by simpa using hx)))
    ·rcases F9 with e | e
     ·rw [e] at hx; exact hI.out.2.2 x hx
     ·have := (e x hx).1; simp at this; omega
   clear R9 K9 F9 HR HS hI
   go_wp2
   go_roundw
   case rel => exact ⟨k + 1, by go_num, by omega, hx⟩
   case measure => simp [RowKit.intOf]; omega
  ·have hlti : ¬ (k : Int) < (l.length : Int) := by omega
   have hI2 : Hid (RowS wr u3 (l ++ marks 0) ∧ Keep [] w wr ∧ ∀ x, u3.ownBlock = some x → w.heap.size ≤ x) := by
    have := hI.out
    rw [List.take_of_length_le (by omega)] at this
    show _ ∧ _
    rw [show marks 0 = [] from rfl, List.append_nil]
    exact this
   clear hI
   go_wp2
   go_loopw [3, 5] (fun z3 z5 wr => ∃ (j : Nat), z5 = .int .i64 (j : Int) ∧ j ≤ 24 ∧ Hid (RowS wr z3 (l ++ marks j) ∧ Keep [] w wr ∧ ∀ x, z3.ownBlock = some x → w.heap.size ≤ x)) (fun _ z5 _ => 24 - (RowKit.intOf z5).toNat)
   case atStart => exact ⟨0, rfl, by omega, hI2⟩
   case round =>
    clear hI2
    obtain ⟨j, rfl, hj, hI⟩ := hrel
    by_cases hjl : j < 24
    ·have hji : (j : Int) < 24 := by omega
     have HM : Hid (∀ w, Calls Tryz.prog 30 #[.int .i64 1, .int .i64 (j : Int)] w fun e w' => e = .returned (.string (markS j)) ∧ Keep [] w w') := fun w => markText_any j hjl w
     have hal : Hid (((l ++ marks j).length + 1) * 16 ≤ 140737488355328 ∧ (l ++ marks j).length + 1 ≤ maxLen) := by
      show _ ∧ _
      rw [List.length_append, marks_len]
      refine ⟨by omega, ?_⟩
      unfold maxLen; omega
     have hsn : Hid (l ++ marks (j + 1) = (l ++ marks j) ++ [markS j]) := by show _ = _; rw [marks_snoc, List.append_assoc]
     go_wp2_with fail
     refine (HM.out _).mono ?_
     rintro e w1 ⟨rfl, k1⟩
     have HS : Hid _ := src_str w1 (markS j)
     have HR : Hid _ := RowC.keep (RowC.keep hI.out.1 k1 (Off.nil _)) (Keep.alloc1 w1 (.cells #[.string (markS j)] 9 (0, 0))) (Off.nil _)
     have hI1 : Hid (Keep [] w w1 ∧ ∀ x, u3.ownBlock = some x → w.heap.size ≤ x) := ⟨hI.out.2.1.trans' k1, hI.out.2.2⟩
     clear k1 hI HM
     generalize hmk : markS j = mk at HS HR hsn ⊢
     clear hmk
     go_wp2_with (at_builtin; refine wp_appC infoS rfl rfl (.tmp 23) (.tmp 26) 59 59 rfl Tryz.underlying59 u3 (l ++ marks j).length (strC (l ++ marks j)) rfl HR.out _ 1 [.string mk] rfl HS.out hal.out.1 hal.out.2 ?_)
     intro v9 w9 R9 K9 F9 S9 _
     obtain ⟨a9, c9, rfl⟩ := S9
     have hx : Hid (RowS w9 (.slice a9 (l.length + (marks j).length + 1) c9) (l ++ marks (j + 1)) ∧ Keep [] w w9 ∧ ∀ x, (Value.slice a9 (l.length + (marks j).length + 1) c9).ownBlock = some x → w.heap.size ≤ x) := by
      have hsz := hI1.out.1.size
      refine ⟨?_, ?_, fun x hx => ?_⟩
      ·have e9 : ((l ++ marks j) ++ [mk]).length = l.length + (marks j).length + 1 := by rw [List.length_append, List.length_append]; rfl
       unfold RowS; rw [hsn.out, strC_snoc, e9]; exact R9
      ·exact (hI1.out.1.alloc _).more K9 (fun x hx => .inr (hI1.out.2 x (by simpa using hx)))
      ·rcases F9 with e | e
       ·rw [e] at hx; exact hI1.out.2 x hx
       ·have := (e x hx).1; simp at this; omega
     clear R9 K9 F9 HR HS hI1
     go_wp2
     go_roundw
     case rel => exact ⟨j + 1, by go_num, by omega, hx⟩
     case measure => simp [RowKit.intOf]; omega
    ·have hji : ¬ (j : Int) < 24 := by omega
     have hje : j = 24 := by omega
     subst hje
     obtain ⟨h1, h2, h3⟩ := hI.out
     have hll : (l ++ marks 24).length = l.length + 24 := by rw [List.length_append, marks_len]
     rcases RowC.cases h1 with ⟨h0, -⟩ | ⟨g, cap9, e, hc1, hc2, -⟩
     ·rw [hll] at h0; omega
     rw [hll] at e hc1
     have hfin : Hid (RowS wr (.slice (some ⟨g, 0, none⟩) (l.length + 24) cap9) (l ++ marks 24) ∧ Keep [] w wr ∧ w.heap.size ≤ g) := ⟨by rw [← e]; exact h1, h2, h3 g (by rw [e]; rfl)⟩
     subst e
     have hcl : l.length ≤ cap9 := by omega
     clear hI h1 h2 h3
     go_wp2
     go_ret
     exact ⟨g, cap9, rfl, hfin.out⟩
theorem marks_size : ∀ s ∈ marks 24, s.size ≤ 9223372036854775807 := by
 intro s hs
 simp [marks] at hs
 obtain ⟨i, _, rfl⟩ := hs
 show (8 : Nat) ≤ _
 omega
theorem Ts.sizes {w : World} {v : Value} {l : List ByteArray} (h : Ts w v l) : ∀ s ∈ l, s.size ≤ 9223372036854775807 := by
 obtain ⟨ao, cap, rfl, _, _, h3, _⟩ := h.ex
 exact h3
/-- LentTexts: a list of one's own that reads as l, with the marks behind its end -/
theorem lentTexts_any (v : Value) (l : List ByteArray) (w : World) (h : Ts w v l) (hlen : l.length ≤ 8796093021952) :
  Calls Tryz.prog 55 #[v] w fun e w' => ∃ g cap, e = .returned (.slice (some ⟨g, 0, none⟩) l.length cap) ∧ (Ts w' (.slice (some ⟨g, 0, none⟩) (l.length + 24) cap) (l ++ marks 24) ∧ Ts w' (.slice (some ⟨g, 0, none⟩) l.length cap) l) ∧ Keep [] w w' ∧ w.heap.size ≤ g := by
 refine (lentRow_any v l w h hlen).mono ?_
 rintro e w' ⟨g, cap, rfl, hr, hk, hg⟩
 have hll : (l ++ marks 24).length = l.length + 24 := by rw [List.length_append, marks_len]
 have h1 : Ts w' (.slice (some ⟨g, 0, none⟩) (l.length + 24) cap) (l ++ marks 24) := Ts.ofRow hr (fun s hs => by
  rcases List.mem_append.1 hs with hs | hs
  ·exact h.sizes s hs
  ·exact marks_size s hs) hll.symm
 refine ⟨g, cap, rfl, ⟨h1, ?_⟩, hk, hg⟩
 exact Ts.front (b := marks 24) (by rw [marks_len]; exact h1)
/-- SameTexts of two lists that read as one -/
theorem sameTexts_self (u v : Value) (l : List ByteArray) (w : World) (hu : Ts w u l) (hv : Ts w v l) :
  Calls Tryz.prog 122 #[u, v] w fun e w' => e = .returned (.bool true) ∧ ∃ n, w' = w.drewN n := by
 obtain ⟨ao, ca, rfl, p1, p2, _, p4⟩ := hu.ex
 obtain ⟨bo, cb, rfl, q1, q2, _, q4⟩ := hv.ex
 have HE : Hid ((l ≠ [] → ∃ b o, ao = some ⟨b, o, none⟩ ∧ ∀ j (h : j < l.length), w.cell? ⟨b, o + j, none⟩ = some (.string l[j])) ∧ (l ≠ [] → ∃ g o, bo = some ⟨g, o, none⟩ ∧ ∀ j (h : j < l.length), w.cell? ⟨g, o + j, none⟩ = some (.string l[j]))) := ⟨p4, q4⟩
 have hne : ((l.length : Int) != (l.length : Int)) = false := by simp
 clear p4 q4 hu hv
 go_enter Tryz.func122, Tryz.ntmps122
 go_wp2
 go_loopw [5] (fun iv wr => ∃ k n : Nat, iv = .int .i64 (k : Int) ∧ k ≤ l.length ∧ wr = w.drewN n) (fun iv _ => l.length - (RowKit.intOf iv).toNat)
 case atStart => exact ⟨0, 0, rfl, Nat.zero_le _, rfl⟩
 case round =>
  obtain ⟨k, n, rfl, hka, rfl⟩ := hrel
  by_cases hk : k < l.length
  ·have hki : (k : Int) < (l.length : Int) := by omega
   obtain ⟨g, o, rfl, hc⟩ := HE.out.1 (by intro hz; rw [hz] at hk; simp at hk)
   obtain ⟨g', o', rfl, hc'⟩ := HE.out.2 (by intro hz; rw [hz] at hk; simp at hk)
   have hca := hc k hk
   have hcb := hc' k hk
   have hee : (l[k].toList == l[k].toList) = true := by simp
   clear hc hc' HE
   generalize l[k] = s at hca hcb hee
   go_wp2
   go_quiet (fail)
   go_wp2
   go_roundw
   case rel => exact ⟨k + 1, _, by go_num, by omega, rfl⟩
   case measure => simp [RowKit.intOf]; omega
  ·have hki : ¬ ((k : Int) < (l.length : Int)) := by omega
   clear HE
   go_wp2
   go_ret
   exact ⟨rfl, n, rfl⟩
/-- SameReal of a real and itself -/
theorem sameReal_self (x : Nat) (w : World) : Calls Tryz.prog 82 #[.float .f32 x, .float .f32 x] w fun e w' => e = .returned (.bool true) ∧ w' = w := by
 have hb := run_f32bits x
 have hee : ((x : Int) == (x : Int)) = true := by simp
 go_enter Tryz.func82, Tryz.ntmps82
 go_wp2
 go_ret
 exact ⟨rfl, rfl⟩
end Go.Proofs.YtfpcpociejefaaaGreatDoor

/- Lists of texts, as they were: KeptTexts. -/
namespace Go.Proofs.YtfpcpociejefaaaGreatDoor
open Go.RowKit Go.PlainAid
set_option maxRecDepth 1000000 in
set_option maxHeartbeats 2000000 in
theorem keptTexts_any (g cap : Nat) (v : Value) (l : List ByteArray) (w : World) (hx : Ts w (.slice (some ⟨g, 0, none⟩) (l.length + 24) cap) (l ++ marks 24)) (hv : Ts w v l) (hlen : l.length ≤ 8796093021952) :
  Calls Tryz.prog 83 #[.slice (some ⟨g, 0, none⟩) l.length cap, v] w fun e w' => e = .returned (.bool true) ∧ Keep [] w w' := by
 have HX : Hid (∀ wx, Keep [] w wx → ∀ k (h : k < (l ++ marks 24).length), wx.cell? ⟨g, k, none⟩ = some (.string (l ++ marks 24)[k])) := fun wx kx k h => by
  obtain ⟨b, o, c, he, _, _, hc⟩ := hx.at k h
  simp at he
  obtain ⟨⟨rfl, rfl⟩, _⟩ := he
  refine kx.cell' ?_ (by simp)
  simpa using hc
 have hcap : l.length + 24 ≤ cap ∧ cap ≤ 9223372036854775807 := by
  obtain ⟨ao, c, he, h1, h2, _⟩ := hx.ex
  simp only [Value.slice.injEq] at he
  obtain ⟨_, _, rfl⟩ := he
  rw [List.length_append, marks_len] at h1
  exact ⟨h1, h2⟩
 have HV : Hid (Ts w v l) := hv
 obtain ⟨bo, cb, rfl, q1, q2, _, _⟩ := hv.ex
 have hne : ((l.length : Int) != (l.length : Int)) = false := by simp
 obtain ⟨hcap1, hcap2⟩ := hcap
 clear hx hv
 go_enter Tryz.func83, Tryz.ntmps83
 go_wp2
 go_loopw [6] (fun z wr => ∃ (k : Nat), z = .int .i64 (k : Int) ∧ k ≤ l.length + 24 ∧ Hid (Keep [] w wr)) (fun z _ => l.length + 24 - (RowKit.intOf z).toNat)
 case atStart => exact ⟨0, rfl, Nat.zero_le _, Keep.refl _ _⟩
 case round =>
  obtain ⟨k, rfl, hk, HK⟩ := hrel
  by_cases hlt : k < l.length
  ·have hlti : (k : Int) < (l.length : Int) := by omega
   have hlt2 : (k : Int) < (l.length : Int) + 24 := by omega
   have hlg : ¬ (l.length : Int) ≤ (k : Int) := by omega
   have hld : decide (l.length ≤ k) = false := by simpa using hlt
   have hca : wr.cell? ⟨g, k, none⟩ = some (.string l[k]) := by
    have := HX.out wr HK.out k (by rw [List.length_append]; omega)
    rw [List.getElem_append_left hlt] at this
    exact this
   obtain ⟨g', o', c', he, _, _, hcb⟩ := (HV.out.keep HK.out (Off.nil _)).at k hlt
   simp at he
   obtain ⟨rfl, rfl⟩ := he
   have hee : (l[k].toList == l[k].toList) = true := by simp
   generalize l[k] = s at hca hcb hee
   go_wp2
   go_quiet (fail)
   go_wp2
   go_roundw
   case rel => exact ⟨k + 1, by go_num, by omega, by first | exact HK.out.drewN _ | exact HK.out.drew | exact HK.out⟩
   case measure => simp [RowKit.intOf]; omega
  ·have hlti : ¬ (k : Int) < (l.length : Int) := by omega
   have hlg : (l.length : Int) ≤ (k : Int) := by omega
   by_cases hlt2 : k < l.length + 24
   ·have hlti2 : (k : Int) < (l.length : Int) + 24 := by omega
    obtain ⟨j, hj⟩ : ∃ j, k = l.length + j := ⟨k - l.length, by omega⟩
    have hsub : (k : Int) - (l.length : Int) = (j : Int) := by omega
    have hj24 : j < 24 := by omega
    have HM : Hid (∀ w, Calls Tryz.prog 30 #[.int .i64 1, .int .i64 (IntKind.i64.wrap (j : Int))] w fun e w' => e = .returned (.string (markS j)) ∧ Keep [] w w') := fun w => by
     have e : IntKind.i64.wrap (j : Int) = (j : Int) := by rw [IntKind.wrap_i64]; omega
     rw [e]
     exact markText_any j hj24 w
    have HS : Hid (∀ wx, Keep [] w wx → wx.cell? ⟨g, k, none⟩ = some (.string (markS j)) ∧ Keep [] w wx) := fun wx kx => by
     have hk2 : k < (l ++ marks 24).length := by rw [List.length_append, marks_len]; omega
     have hc := HX.out wx kx k hk2
     have he : (l ++ marks 24)[k] = markS j := by
      rw [List.getElem_append_right (by omega)]
      have := marks_get 24 (k - l.length) (by rw [marks_len]; omega)
      rw [this, hj, Nat.add_sub_cancel_left]
     rw [he] at hc
     exact ⟨hc, kx⟩
    have hmm : ((markS j).toList != (markS j).toList) = false := by simp
    clear hj
    generalize markS j = mk at *
    go_wp2
    refine wp_region_held_drew (S := (fun w' => w'.cell? ⟨g, k, none⟩ = some (.string (mk)) ∧ Keep [] w w')) (by kernel_rfl) (HS.out _ HK.out.drew) (fun hHeld => ?_)
    try dsimp only at hHeld
    refine wpAnyH_take (i := 0) (oi := { dst := some 23, op := Go.Op.move (Go.Operand.tmp 6), type := 3, pos := "lent.go:94", after := #[], guard := none }) (v := ?_) rfl (by kernel_rfl) (by kernel_rfl) (by kernel_rfl) (fun _ _ _ h => h) (Or.inl ⟨by rfl, ?_⟩) (by assumption) ?_
    rotate_left
    ·intro w7 hSw
     try dsimp only at hSw
     first | (go_simp; done) | (go_simp; with_reducible rfl)
    try simp only [Act.put, List.setIfInBounds_toArray, List.set_cons_zero, List.set_cons_succ]
    refine wpAnyH_take (i := 1) (oi := { dst := some 24, op := Go.Op.move (Go.Operand.tmp 1), type := 59, pos := "lent.go:94", after := #[], guard := none }) (v := ?_) rfl (by kernel_rfl) (by kernel_rfl) (by kernel_rfl) (fun _ _ _ h => h) (Or.inl ⟨by rfl, ?_⟩) (by assumption) ?_
    rotate_left
    ·intro w7 hSw
     try dsimp only at hSw
     first | (go_simp; done) | (go_simp; with_reducible rfl)
    try simp only [Act.put, List.setIfInBounds_toArray, List.set_cons_zero, List.set_cons_succ]
    refine wpAnyH_take (i := 2) (oi := { dst := some 25, op := Go.Op.call { callee := Go.Callee.builtin Go.Builtin.len, args := #[Go.Operand.tmp 24], argTypes := #[59] }, type := 3, pos := "lent.go:94", after := #[{ on := 1, ground := Go.Ground.data }], guard := none }) (v := ?_) rfl (by kernel_rfl) (by kernel_rfl) (by kernel_rfl) (fun _ _ _ h => h) (Or.inl ⟨by rfl, ?_⟩) (by assumption) ?_
    rotate_left
    ·intro w7 hSw
     try dsimp only at hSw
     first | (go_simp; done) | (go_simp; with_reducible rfl)
    try simp only [Act.put, List.setIfInBounds_toArray, List.set_cons_zero, List.set_cons_succ]
    refine wpAnyH_take (i := 3) (oi := { dst := some 26, op := Go.Op.binOp Go.BinOp.lss 3 (Go.Operand.tmp 23) (Go.Operand.tmp 25) 3, type := 4, pos := "lent.go:94", after := #[{ on := 0, ground := Go.Ground.data }, { on := 2, ground := Go.Ground.data }], guard := none }) (v := ?_) rfl (by kernel_rfl) (by kernel_rfl) (by kernel_rfl) (fun _ _ _ h => h) (Or.inl ⟨by rfl, ?_⟩) (by assumption) ?_
    rotate_left
    ·intro w7 hSw
     try dsimp only at hSw
     first | (go_simp; done) | (go_simp; with_reducible rfl)
    try simp only [Act.put, List.setIfInBounds_toArray, List.set_cons_zero, List.set_cons_succ]
    refine wpAnyH_take (i := 4) (oi := { dst := some 27, op := Go.Op.move (Go.Operand.tmp 26), type := 4, pos := "lent.go:94", after := #[{ on := 3, ground := Go.Ground.data }], guard := none }) (v := ?_) rfl (by kernel_rfl) (by kernel_rfl) (by kernel_rfl) (fun _ _ _ h => h) (Or.inl ⟨by rfl, ?_⟩) (by assumption) ?_
    rotate_left
    ·intro w7 hSw
     try dsimp only at hSw
     first | (go_simp; done) | (go_simp; with_reducible rfl)
    try simp only [Act.put, List.setIfInBounds_toArray, List.set_cons_zero, List.set_cons_succ]
    refine wpAnyH_take (i := 5) (oi := { dst := some 28, op := Go.Op.move (Go.Operand.tmp 5), type := 59, pos := "lent.go:94", after := #[{ on := 4, ground := Go.Ground.guard }], guard := some (4, true) }) (v := undef) rfl (by kernel_rfl) (by kernel_rfl) (by kernel_rfl) (fun _ _ _ h => h) (Or.inr ⟨by rfl, rfl⟩) (by assumption) ?_
    try simp only [Act.put, List.setIfInBounds_toArray, List.set_cons_zero, List.set_cons_succ]
    refine wpAnyH_take (i := 6) (oi := { dst := some 29, op := Go.Op.move (Go.Operand.tmp 6), type := 3, pos := "lent.go:94", after := #[{ on := 4, ground := Go.Ground.guard }], guard := some (4, true) }) (v := undef) rfl (by kernel_rfl) (by kernel_rfl) (by kernel_rfl) (fun _ _ _ h => h) (Or.inr ⟨by rfl, rfl⟩) (by assumption) ?_
    try simp only [Act.put, List.setIfInBounds_toArray, List.set_cons_zero, List.set_cons_succ]
    refine wpAnyH_take (i := 7) (oi := { dst := some 30, op := Go.Op.indexAddr 59 (Go.Operand.tmp 28) (Go.Operand.tmp 29), type := 0, pos := "lent.go:94", after := #[{ on := 5, ground := Go.Ground.data }, { on := 6, ground := Go.Ground.data }, { on := 4, ground := Go.Ground.guard }], guard := some (4, true) }) (v := undef) rfl (by kernel_rfl) (by kernel_rfl) (by kernel_rfl) (fun _ _ _ h => h) (Or.inr ⟨by rfl, rfl⟩) (by assumption) ?_
    try simp only [Act.put, List.setIfInBounds_toArray, List.set_cons_zero, List.set_cons_succ]
    refine wpAnyH_take (i := 8) (oi := { dst := some 31, op := Go.Op.load 9 (Go.Operand.tmp 30), type := 9, pos := "lent.go:94", after := #[{ on := 7, ground := Go.Ground.data }, { on := 4, ground := Go.Ground.guard }], guard := some (4, true) }) (v := undef) rfl (by kernel_rfl) (by kernel_rfl) (by kernel_rfl) (fun _ _ _ h => h) (Or.inr ⟨by rfl, rfl⟩) (by assumption) ?_
    try simp only [Act.put, List.setIfInBounds_toArray, List.set_cons_zero, List.set_cons_succ]
    refine wpAnyH_take (i := 9) (oi := { dst := some 32, op := Go.Op.move (Go.Operand.tmp 1), type := 59, pos := "lent.go:94", after := #[{ on := 4, ground := Go.Ground.guard }], guard := some (4, true) }) (v := undef) rfl (by kernel_rfl) (by kernel_rfl) (by kernel_rfl) (fun _ _ _ h => h) (Or.inr ⟨by rfl, rfl⟩) (by assumption) ?_
    try simp only [Act.put, List.setIfInBounds_toArray, List.set_cons_zero, List.set_cons_succ]
    refine wpAnyH_take (i := 10) (oi := { dst := some 33, op := Go.Op.move (Go.Operand.tmp 6), type := 3, pos := "lent.go:94", after := #[{ on := 4, ground := Go.Ground.guard }], guard := some (4, true) }) (v := undef) rfl (by kernel_rfl) (by kernel_rfl) (by kernel_rfl) (fun _ _ _ h => h) (Or.inr ⟨by rfl, rfl⟩) (by assumption) ?_
    try simp only [Act.put, List.setIfInBounds_toArray, List.set_cons_zero, List.set_cons_succ]
    refine wpAnyH_take (i := 11) (oi := { dst := some 34, op := Go.Op.indexAddr 59 (Go.Operand.tmp 32) (Go.Operand.tmp 33), type := 0, pos := "lent.go:94", after := #[{ on := 9, ground := Go.Ground.data }, { on := 10, ground := Go.Ground.data }, { on := 4, ground := Go.Ground.guard }], guard := some (4, true) }) (v := undef) rfl (by kernel_rfl) (by kernel_rfl) (by kernel_rfl) (fun _ _ _ h => h) (Or.inr ⟨by rfl, rfl⟩) (by assumption) ?_
    try simp only [Act.put, List.setIfInBounds_toArray, List.set_cons_zero, List.set_cons_succ]
    refine wpAnyH_take (i := 12) (oi := { dst := some 35, op := Go.Op.load 9 (Go.Operand.tmp 34), type := 9, pos := "lent.go:94", after := #[{ on := 11, ground := Go.Ground.data }, { on := 4, ground := Go.Ground.guard }], guard := some (4, true) }) (v := undef) rfl (by kernel_rfl) (by kernel_rfl) (by kernel_rfl) (fun _ _ _ h => h) (Or.inr ⟨by rfl, rfl⟩) (by assumption) ?_
    try simp only [Act.put, List.setIfInBounds_toArray, List.set_cons_zero, List.set_cons_succ]
    refine wpAnyH_take (i := 13) (oi := { dst := some 36, op := Go.Op.binOp Go.BinOp.eql 9 (Go.Operand.tmp 31) (Go.Operand.tmp 35) 9, type := 4, pos := "lent.go:94", after := #[{ on := 8, ground := Go.Ground.data }, { on := 12, ground := Go.Ground.data }, { on := 4, ground := Go.Ground.guard }], guard := some (4, true) }) (v := undef) rfl (by kernel_rfl) (by kernel_rfl) (by kernel_rfl) (fun _ _ _ h => h) (Or.inr ⟨by rfl, rfl⟩) (by assumption) ?_
    try simp only [Act.put, List.setIfInBounds_toArray, List.set_cons_zero, List.set_cons_succ]
    refine wpAnyH_take (i := 14) (oi := { dst := some 37, op := Go.Op.unOp Go.UnOp.not 4 (Go.Operand.tmp 36), type := 4, pos := "lent.go:94", after := #[{ on := 13, ground := Go.Ground.data }, { on := 4, ground := Go.Ground.guard }], guard := some (4, true) }) (v := undef) rfl (by kernel_rfl) (by kernel_rfl) (by kernel_rfl) (fun _ _ _ h => h) (Or.inr ⟨by rfl, rfl⟩) (by assumption) ?_
    try simp only [Act.put, List.setIfInBounds_toArray, List.set_cons_zero, List.set_cons_succ]
    refine wpAnyH_take (i := 15) (oi := { dst := some 38, op := Go.Op.pick (Go.Operand.tmp 27) (Go.Operand.tmp 37) (Go.Operand.const (Go.Value.bool false)), type := 4, pos := "lent.go:94", after := #[{ on := 4, ground := Go.Ground.data }, { on := 14, ground := Go.Ground.data }], guard := none }) (v := ?_) rfl (by kernel_rfl) (by kernel_rfl) (by kernel_rfl) (fun _ _ _ h => h) (Or.inl ⟨by rfl, ?_⟩) (by assumption) ?_
    rotate_left
    ·intro w7 hSw
     try dsimp only at hSw
     first | (go_simp; done) | (go_simp; with_reducible rfl)
    try simp only [Act.put, List.setIfInBounds_toArray, List.set_cons_zero, List.set_cons_succ]
    refine wpAnyH_take (i := 16) (oi := { dst := some 39, op := Go.Op.move (Go.Operand.tmp 38), type := 4, pos := "lent.go:94", after := #[{ on := 15, ground := Go.Ground.data }, { on := 4, ground := Go.Ground.chain }], guard := none }) (v := ?_) rfl (by kernel_rfl) (by kernel_rfl) (by kernel_rfl) (fun _ _ _ h => h) (Or.inl ⟨by rfl, ?_⟩) (by assumption) ?_
    rotate_left
    ·intro w7 hSw
     try dsimp only at hSw
     first | (go_simp; done) | (go_simp; with_reducible rfl)
    try simp only [Act.put, List.setIfInBounds_toArray, List.set_cons_zero, List.set_cons_succ]
    refine wpAnyH_take (i := 17) (oi := { dst := some 40, op := Go.Op.move (Go.Operand.tmp 6), type := 3, pos := "lent.go:94", after := #[{ on := 16, ground := Go.Ground.guard }], guard := some (16, false) }) (v := ?_) rfl (by kernel_rfl) (by kernel_rfl) (by kernel_rfl) (fun _ _ _ h => h) (Or.inl ⟨by rfl, ?_⟩) (by assumption) ?_
    rotate_left
    ·intro w7 hSw
     try dsimp only at hSw
     first | (go_simp; done) | (go_simp; with_reducible rfl)
    try simp only [Act.put, List.setIfInBounds_toArray, List.set_cons_zero, List.set_cons_succ]
    refine wpAnyH_take (i := 18) (oi := { dst := some 41, op := Go.Op.move (Go.Operand.tmp 1), type := 59, pos := "lent.go:94", after := #[{ on := 16, ground := Go.Ground.guard }], guard := some (16, false) }) (v := ?_) rfl (by kernel_rfl) (by kernel_rfl) (by kernel_rfl) (fun _ _ _ h => h) (Or.inl ⟨by rfl, ?_⟩) (by assumption) ?_
    rotate_left
    ·intro w7 hSw
     try dsimp only at hSw
     first | (go_simp; done) | (go_simp; with_reducible rfl)
    try simp only [Act.put, List.setIfInBounds_toArray, List.set_cons_zero, List.set_cons_succ]
    refine wpAnyH_take (i := 19) (oi := { dst := some 42, op := Go.Op.call { callee := Go.Callee.builtin Go.Builtin.len, args := #[Go.Operand.tmp 41], argTypes := #[59] }, type := 3, pos := "lent.go:94", after := #[{ on := 18, ground := Go.Ground.data }, { on := 16, ground := Go.Ground.guard }], guard := some (16, false) }) (v := ?_) rfl (by kernel_rfl) (by kernel_rfl) (by kernel_rfl) (fun _ _ _ h => h) (Or.inl ⟨by rfl, ?_⟩) (by assumption) ?_
    rotate_left
    ·intro w7 hSw
     try dsimp only at hSw
     first | (go_simp; done) | (go_simp; with_reducible rfl)
    try simp only [Act.put, List.setIfInBounds_toArray, List.set_cons_zero, List.set_cons_succ]
    refine wpAnyH_take (i := 20) (oi := { dst := some 43, op := Go.Op.binOp Go.BinOp.geq 3 (Go.Operand.tmp 40) (Go.Operand.tmp 42) 3, type := 4, pos := "lent.go:94", after := #[{ on := 17, ground := Go.Ground.data }, { on := 19, ground := Go.Ground.data }, { on := 16, ground := Go.Ground.guard }], guard := some (16, false) }) (v := ?_) rfl (by kernel_rfl) (by kernel_rfl) (by kernel_rfl) (fun _ _ _ h => h) (Or.inl ⟨by rfl, ?_⟩) (by assumption) ?_
    rotate_left
    ·intro w7 hSw
     try dsimp only at hSw
     first | (go_simp; done) | (go_simp; with_reducible rfl)
    try simp only [Act.put, List.setIfInBounds_toArray, List.set_cons_zero, List.set_cons_succ]
    refine wpAnyH_take (i := 21) (oi := { dst := some 44, op := Go.Op.move (Go.Operand.tmp 43), type := 4, pos := "lent.go:94", after := #[{ on := 20, ground := Go.Ground.data }, { on := 16, ground := Go.Ground.chain }, { on := 16, ground := Go.Ground.guard }], guard := some (16, false) }) (v := ?_) rfl (by kernel_rfl) (by kernel_rfl) (by kernel_rfl) (fun _ _ _ h => h) (Or.inl ⟨by rfl, ?_⟩) (by assumption) ?_
    rotate_left
    ·intro w7 hSw
     try dsimp only at hSw
     first | (go_simp; done) | (go_simp; with_reducible rfl)
    try simp only [Act.put, List.setIfInBounds_toArray, List.set_cons_zero, List.set_cons_succ]
    refine wpAnyH_take (i := 22) (oi := { dst := some 45, op := Go.Op.move (Go.Operand.tmp 5), type := 59, pos := "lent.go:94", after := #[{ on := 21, ground := Go.Ground.guard }], guard := some (21, true) }) (v := ?_) rfl (by kernel_rfl) (by kernel_rfl) (by kernel_rfl) (fun _ _ _ h => h) (Or.inl ⟨by rfl, ?_⟩) (by assumption) ?_
    rotate_left
    ·intro w7 hSw
     try dsimp only at hSw
     first | (go_simp; done) | (go_simp; with_reducible rfl)
    try simp only [Act.put, List.setIfInBounds_toArray, List.set_cons_zero, List.set_cons_succ]
    refine wpAnyH_take (i := 23) (oi := { dst := some 46, op := Go.Op.move (Go.Operand.tmp 6), type := 3, pos := "lent.go:94", after := #[{ on := 21, ground := Go.Ground.guard }], guard := some (21, true) }) (v := ?_) rfl (by kernel_rfl) (by kernel_rfl) (by kernel_rfl) (fun _ _ _ h => h) (Or.inl ⟨by rfl, ?_⟩) (by assumption) ?_
    rotate_left
    ·intro w7 hSw
     try dsimp only at hSw
     first | (go_simp; done) | (go_simp; with_reducible rfl)
    try simp only [Act.put, List.setIfInBounds_toArray, List.set_cons_zero, List.set_cons_succ]
    refine wpAnyH_take (i := 24) (oi := { dst := some 47, op := Go.Op.indexAddr 59 (Go.Operand.tmp 45) (Go.Operand.tmp 46), type := 0, pos := "lent.go:94", after := #[{ on := 22, ground := Go.Ground.data }, { on := 23, ground := Go.Ground.data }, { on := 21, ground := Go.Ground.guard }], guard := some (21, true) }) (v := ?_) rfl (by kernel_rfl) (by kernel_rfl) (by kernel_rfl) (fun _ _ _ h => h) (Or.inl ⟨by rfl, ?_⟩) (by assumption) ?_
    rotate_left
    ·intro w7 hSw
     try dsimp only at hSw
     first | (go_simp; done) | (go_simp; with_reducible rfl)
    try simp only [Act.put, List.setIfInBounds_toArray, List.set_cons_zero, List.set_cons_succ]
    refine wpAnyH_take (i := 25) (oi := { dst := some 48, op := Go.Op.load 9 (Go.Operand.tmp 47), type := 9, pos := "lent.go:94", after := #[{ on := 24, ground := Go.Ground.data }, { on := 21, ground := Go.Ground.guard }], guard := some (21, true) }) (v := ?_) rfl (by kernel_rfl) (by kernel_rfl) (by kernel_rfl) (fun _ _ _ h => h) (Or.inl ⟨by rfl, ?_⟩) (by assumption) ?_
    rotate_left
    ·intro w7 hSw
     try dsimp only at hSw
     first | (go_simp; done) | (go_simp; with_reducible rfl)
    try simp only [Act.put, List.setIfInBounds_toArray, List.set_cons_zero, List.set_cons_succ]
    refine wpAnyH_take (i := 26) (oi := { dst := some 49, op := Go.Op.move (Go.Operand.tmp 6), type := 3, pos := "lent.go:94", after := #[{ on := 21, ground := Go.Ground.guard }], guard := some (21, true) }) (v := ?_) rfl (by kernel_rfl) (by kernel_rfl) (by kernel_rfl) (fun _ _ _ h => h) (Or.inl ⟨by rfl, ?_⟩) (by assumption) ?_
    rotate_left
    ·intro w7 hSw
     try dsimp only at hSw
     first | (go_simp; done) | (go_simp; with_reducible rfl)
    try simp only [Act.put, List.setIfInBounds_toArray, List.set_cons_zero, List.set_cons_succ]
    refine wpAnyH_take (i := 27) (oi := { dst := some 50, op := Go.Op.move (Go.Operand.tmp 1), type := 59, pos := "lent.go:94", after := #[{ on := 21, ground := Go.Ground.guard }], guard := some (21, true) }) (v := ?_) rfl (by kernel_rfl) (by kernel_rfl) (by kernel_rfl) (fun _ _ _ h => h) (Or.inl ⟨by rfl, ?_⟩) (by assumption) ?_
    rotate_left
    ·intro w7 hSw
     try dsimp only at hSw
     first | (go_simp; done) | (go_simp; with_reducible rfl)
    try simp only [Act.put, List.setIfInBounds_toArray, List.set_cons_zero, List.set_cons_succ]
    refine wpAnyH_take (i := 28) (oi := { dst := some 51, op := Go.Op.call { callee := Go.Callee.builtin Go.Builtin.len, args := #[Go.Operand.tmp 50], argTypes := #[59] }, type := 3, pos := "lent.go:94", after := #[{ on := 27, ground := Go.Ground.data }, { on := 21, ground := Go.Ground.guard }], guard := some (21, true) }) (v := ?_) rfl (by kernel_rfl) (by kernel_rfl) (by kernel_rfl) (fun _ _ _ h => h) (Or.inl ⟨by rfl, ?_⟩) (by assumption) ?_
    rotate_left
    ·intro w7 hSw
     try dsimp only at hSw
     first | (go_simp; done) | (go_simp; with_reducible rfl)
    try simp only [Act.put, List.setIfInBounds_toArray, List.set_cons_zero, List.set_cons_succ]
    refine wpAnyH_take (i := 29) (oi := { dst := some 52, op := Go.Op.binOp Go.BinOp.sub 3 (Go.Operand.tmp 49) (Go.Operand.tmp 51) 3, type := 3, pos := "lent.go:94", after := #[{ on := 26, ground := Go.Ground.data }, { on := 28, ground := Go.Ground.data }, { on := 21, ground := Go.Ground.guard }], guard := some (21, true) }) (v := ?_) rfl (by kernel_rfl) (by kernel_rfl) (by kernel_rfl) (fun _ _ _ h => h) (Or.inl ⟨by rfl, ?_⟩) (by assumption) ?_
    rotate_left
    ·intro w7 hSw
     try dsimp only at hSw
     first | (go_simp; done) | (go_simp; with_reducible rfl)
    try simp only [Act.put, List.setIfInBounds_toArray, List.set_cons_zero, List.set_cons_succ]
    refine wpAnyH_ready (rs := [30]) (by kernel_rfl) (by simp) ?_
    refine AllReadyH.cons (o := { dst := some 53, op := Go.Op.call { callee := Go.Callee.value (Go.Operand.func 30), args := #[Go.Operand.const (Go.Value.int Go.IntKind.i64 1), Go.Operand.tmp 52], argTypes := #[3, 3] }, type := 9, pos := "lent.go:94", after := #[{ on := 29, ground := Go.Ground.data }, { on := 21, ground := Go.Ground.chain }, { on := 21, ground := Go.Ground.guard }], guard := some (21, true) }) rfl (fun K hK => ?_) AllReadyH.nil
    go_simp
    (go_at_call 30; refine (HM.out _).mono ?_; rintro e9 w9 ⟨rfl, k9⟩)
    go_wp2_with fail
    refine hK.out _ _ (HS.out _ (hHeld.2.trans' k9)) (fun hHeld2 => ?_)
    try dsimp only at hHeld2
    clear hK hHeld
    have hHeld := hHeld2
    clear hHeld2
    try simp only [Act.put, List.setIfInBounds_toArray, List.set_cons_zero, List.set_cons_succ]
    refine wpAnyH_take (i := 31) (oi := { dst := some 54, op := Go.Op.binOp Go.BinOp.neq 9 (Go.Operand.tmp 48) (Go.Operand.tmp 53) 9, type := 4, pos := "lent.go:94", after := #[{ on := 25, ground := Go.Ground.data }, { on := 30, ground := Go.Ground.data }, { on := 21, ground := Go.Ground.guard }], guard := some (21, true) }) (v := ?_) rfl (by kernel_rfl) (by kernel_rfl) (by kernel_rfl) (fun _ _ _ h => h) (Or.inl ⟨by rfl, ?_⟩) (by assumption) ?_
    rotate_left
    ·intro w7 hSw
     try dsimp only at hSw
     first | (go_simp; done) | (go_simp; with_reducible rfl)
    try simp only [Act.put, List.setIfInBounds_toArray, List.set_cons_zero, List.set_cons_succ]
    refine wpAnyH_take (i := 32) (oi := { dst := some 55, op := Go.Op.pick (Go.Operand.tmp 44) (Go.Operand.tmp 54) (Go.Operand.const (Go.Value.bool false)), type := 4, pos := "lent.go:94", after := #[{ on := 21, ground := Go.Ground.data }, { on := 31, ground := Go.Ground.data }, { on := 16, ground := Go.Ground.guard }], guard := some (16, false) }) (v := ?_) rfl (by kernel_rfl) (by kernel_rfl) (by kernel_rfl) (fun _ _ _ h => h) (Or.inl ⟨by rfl, ?_⟩) (by assumption) ?_
    rotate_left
    ·intro w7 hSw
     try dsimp only at hSw
     first | (go_simp; done) | (go_simp; with_reducible rfl)
    try simp only [Act.put, List.setIfInBounds_toArray, List.set_cons_zero, List.set_cons_succ]
    refine wpAnyH_take (i := 33) (oi := { dst := some 56, op := Go.Op.pick (Go.Operand.tmp 39) (Go.Operand.const (Go.Value.bool true)) (Go.Operand.tmp 55), type := 4, pos := "lent.go:94", after := #[{ on := 16, ground := Go.Ground.data }, { on := 32, ground := Go.Ground.data }], guard := none }) (v := ?_) rfl (by kernel_rfl) (by kernel_rfl) (by kernel_rfl) (fun _ _ _ h => h) (Or.inl ⟨by rfl, ?_⟩) (by assumption) ?_
    rotate_left
    ·intro w7 hSw
     try dsimp only at hSw
     first | (go_simp; done) | (go_simp; with_reducible rfl)
    try simp only [Act.put, List.setIfInBounds_toArray, List.set_cons_zero, List.set_cons_succ]
    refine wpAnyH_done (by kernel_rfl) ?_ _
    go_wp2
    go_roundw
    case rel => exact ⟨k + 1, by go_num, by omega, hHeld.2⟩
    case measure => simp [RowKit.intOf]; omega
   ·have hlti2 : ¬ (k : Int) < (l.length : Int) + 24 := by omega
    go_wp2
    go_ret
    exact ⟨rfl, HK.out⟩
end Go.Proofs.YtfpcpociejefaaaGreatDoor

/- Values as they were: SameValue, KeptValue. -/
namespace Go.Proofs.YtfpcpociejefaaaGreatDoor
open Go.RowKit Go.PlainAid
set_option maxRecDepth 1000000 in
set_option maxHeartbeats 1600000 in
theorem sameValue_self (p : VD) (u v : Value) (w : World) (hu : Ts w u p.texts) (hv : Ts w v p.texts) :
  Calls Tryz.prog 103 #[p.val u, p.val v] w fun e w' => e = .returned (.bool true) ∧ Keep [] w w' := by
 have hT := fun w1 (k : Keep [] w w1) => sameTexts_self u v p.texts w1 (hu.keep k (Off.nil _)) (hv.keep k (Off.nil _))
 obtain ⟨ao, ca, rfl, _, _, _, _⟩ := hu.ex
 obtain ⟨bo, cb, rfl, _, _, _, _⟩ := hv.ex
 clear hu hv
 obtain ⟨kd, b, n, x, t, ts⟩ := p
 simp only [] at hT ⊢
 have hR := sameReal_self x
 have e1 : (kd == kd) = true := by simp
 have e2 : (b == b) = true := by simp
 have e3 : (n == n) = true := by simp
 have e4 : (t.toList == t.toList) = true := by simp
 have K0 : Hid (Keep [] w ((w.alloc (.cells #[.int .i64 kd, .bool b, .int .i64 n, .float .f32 x, .string t, .slice ao ts.length ca] 61)).alloc (.cells #[.int .i64 kd, .bool b, .int .i64 n, .float .f32 x, .string t, .slice bo ts.length cb] 61))) := (Keep.alloc1 w _).alloc _
 cases h3 : (kd == 3)
 ·have h3' : (kd != 3) = true := by simp [bne, h3]
  cases hq : (FloatKind.f32.format.order x x == some Ordering.eq)
  all_goals
   go_enter Tryz.func103, Tryz.ntmps103
   go_wp2_with (first
    | (go_at_call 82; refine (hR _).mono ?_; rintro e9 w9 ⟨rfl, hw9⟩; obtain rfl := hw9.symm)
    | (go_at_call 122; refine (hT _ K0.out).mono ?_; rintro e9 w9 ⟨rfl, n9, rfl⟩))
   go_ret
   exact ⟨rfl, K0.out.drewN _⟩
 ·have h3' : (kd != 3) = false := by simp [bne, h3]
  go_enter Tryz.func103, Tryz.ntmps103
  go_wp2_with (first
   | (go_at_call 82; refine (hR _).mono ?_; rintro e9 w9 ⟨rfl, hw9⟩; obtain rfl := hw9.symm)
   | (go_at_call 122; refine (hT _ K0.out).mono ?_; rintro e9 w9 ⟨rfl, n9, rfl⟩))
  go_ret
  exact ⟨rfl, K0.out.drewN _⟩
end Go.Proofs.YtfpcpociejefaaaGreatDoor

/- What Id and cut of package ident answer, for every text. -/
namespace Go.Proofs.YtfpcpociejefaaaGreatDoor
open Go.RowKit Go.PlainAid
set_option maxHeartbeats 400000 in
theorem id_any (s : ByteArray) (w : World) :
  Calls Tryz.prog 32 #[.string s] w fun e w' => e = .returned (.bool (idL s.toList)) ∧ w' = w := by
 have hb := get_bt s
 have HL : Hid (idL s.toList = (decide (1 ≤ s.size) && decide (s.size ≤ 64) && s.toList.all (fun c => inIdB (c.toNat : Int)))) := by
  show _ = _
  rw [← toList_len]; rfl
 by_cases h0 : s.size = 0
 ·have z0 : ((s.size : Int) == 0) = true := by simp [h0]
  go_enter Tryz.func32, Tryz.ntmps32
  go_wp2
  go_ret
  exact ⟨by rw [HL.out, h0]; rfl, rfl⟩
 have z0 : ((s.size : Int) == 0) = false := by simp [h0]
 by_cases h1 : 64 < s.size
 ·have z1 : (64 : Int) < (s.size : Int) := by omega
  go_enter Tryz.func32, Tryz.ntmps32
  go_wp2
  go_ret
  exact ⟨by rw [HL.out]; simp; omega, rfl⟩
 have z1 : ¬ (64 : Int) < (s.size : Int) := by omega
 go_enter Tryz.func32, Tryz.ntmps32
 go_wp2
 go_loop [14] (fun i => ∃ k : Nat, k ≤ s.size ∧ i = .int .i64 k ∧ Hid (∀ j, j < k → inIdB (bt s j) = true)) (fun i => s.size - (RowKit.intOf i).toNat)
 case atStart => exact ⟨0, Nat.zero_le _, rfl, fun j hj => absurd hj (Nat.not_lt_zero j)⟩
 case round =>
  obtain ⟨k, hk, rfl, hall⟩ := hrel
  by_cases hlt : k < s.size
  ·cases hc : inIdB (bt s k)
   ·go_wp2_with (go_at_call 59; refine (inId_any _ _).mono ?_; rintro e w' ⟨rfl, rfl⟩)
    go_ret
    exact ⟨by rw [HL.out, all_not inIdB s k hlt hc]; simp, rfl⟩
   ·go_wp2_with (go_at_call 59; refine (inId_any _ _).mono ?_; rintro e w' ⟨rfl, rfl⟩)
    go_round
    case rel => exact ⟨k + 1, by omega, by go_num, fun j hj => (by
     by_cases e : j = k
     ·rw [e]; exact hc
     ·exact hall.out j (by omega))⟩
    case measure => simp [RowKit.intOf]; omega
  ·go_wp2
   go_ret
   exact ⟨by rw [HL.out, all_of inIdB s (fun j hj => hall.out j (by omega))]; simp; omega, rfl⟩
theorem ba_of {s : ByteArray} {l : List UInt8} (h : s.toList = l) : s = ba l := by rw [← h, toList_ba]
end Go.Proofs.YtfpcpociejefaaaGreatDoor

/- Texts: their literals, as the program writes them. -/
namespace Go.Proofs.YtfpcpociejefaaaGreatDoor
open Go.RowKit Go.PlainAid
def hexB (k : Nat) : UInt8 := if k < 10 then UInt8.ofNat (48 + k) else UInt8.ofNat (87 + k)
/-- how a byte is written within a text's literal -/
def escL (c : UInt8) : List UInt8 :=
 if c = 34 ∨ c = 92 then [92, c] else if c = 10 then [92, 110] else if c.toNat < 32 ∨ 126 < c.toNat then [92, 120, hexB (c.toNat / 16), hexB (c.toNat % 16)] else [c]
/-- a text's literal -/
def quoL (l : List UInt8) : List UInt8 := 34 :: l.flatMap escL ++ [34]
theorem row_lit (w : World) (r : List UInt8) (hs : r.length ≤ 100) : Row (w.alloc (.cells (bv r).toArray 5 (0, 0))) (.slice (some ⟨w.heap.size, 0, none⟩) r.length r.length) r := by
 have hl := bv_length r
 have h1 := World.ownsRow_lit (e := 5) (base := 0) (size := 1) w (bv r).toArray r.length (Nat.zero_le _) (by unfold maxLen; omega) (by simp [hl])
 exact h1
theorem step_appX {ops : Array Oper} {o : Oper} {a : Act} {w : World} {K : Act → World → Prop} {Q : Exit → Act → World → Prop} {X : Prop} (hg : o.guard = none) (s x : Operand) (t tx : TypeId)
  (ho : o.op = .call { callee := .builtin .append, args := #[s, x], argTypes := #[t, tx] }) (ht : Tryz.prog.underlying t = some (.slice TB))
  (v : Value) (l : List UInt8) (hv : a.eval s = v) (hown : RowX w v l) (u : Value) (r : List UInt8) (hu : a.eval x = u) (hs : Src Tryz.prog 1 tx u r.length (bv r) w)
  (hr0 : r ≠ []) (hbytes : l.length + r.length ≤ 140737488355328)
  (h : ∀ v' w', Row w' v' (l ++ r) → Keep v.ownBlock.toList w w' → (v'.ownBlock = v.ownBlock ∨ Fresh w w' v') → Sl v' (l.length + r.length) → K (a.put o.dst v') w') :
  if Region.wanted o (yielded ops a.tmps) = true then Oper.wp Tryz.prog o a w K Q else X := by
 have hw : Region.wanted o (yielded ops a.tmps) = true := by simp [Region.wanted, hg]
 rw [if_pos hw]
 have hall : ∃ v' w', (Builtin.append_ #[t, tx] o.type #[v, u]).run Tryz.prog w = .ok v' w' ∧ Row w' v' (l ++ r) ∧ Keep v.ownBlock.toList w w' ∧ (v'.ownBlock = v.ownBlock ∨ Fresh w w' v') ∧ Sl v' (l.length + r.length) := by
  rcases hown with hown | ⟨hb, g, e⟩
  ·obtain ⟨v', w', h1, h2, h3, h4, h5⟩ := run_app w t tx o.type ht v l hown u r hs hbytes
   exact ⟨v', w', h1, h2, h3, h4, h5⟩
  ·subst e
   obtain ⟨v', w', hr, h1, h2, h3, h4⟩ := run_appF w t tx o.type ht g l hb u r hs hr0 hbytes
   exact ⟨v', w', hr, h1, h2.mono (fun _ h => by cases h), .inr h3, h4⟩
 obtain ⟨v', w', hr, h1, h2, h3, h4⟩ := hall
 unfold Oper.wp execOp
 simp only [ho, resolve, invoke, builtin, Sem.run_bind, Sem.run_pure, Result.andThen_ok, List.map_toArray, List.map_cons, List.map_nil, hv, hu, hr]
 exact h v' w' h1 h2 h3 h4
end Go.Proofs.YtfpcpociejefaaaGreatDoor

/- How a byte is written, by the program. -/
namespace Go.Proofs.YtfpcpociejefaaaGreatDoor
open Go.RowKit Go.PlainAid
set_option maxRecDepth 1000000 in
set_option maxHeartbeats 800000 in
theorem esc_quote (c : UInt8) (hc : c = 34) (v : Value) (l : List UInt8) (w : World) (hr : RowX w v l) (hn : l.length ≤ 100000) :
  Calls Tryz.prog 108 #[v, .int .u8 (c.toNat : Int)] w fun e w' => ∃ v', e = .returned v' ∧ Row w' v' (l ++ [92, 34]) ∧ Keep v.ownBlock.toList w w' ∧ (v'.ownBlock = v.ownBlock ∨ Fresh w w' v') := by
 subst hc
 have e0 : (((34 : UInt8).toNat : Nat) : Int) = 34 := rfl
 rw [e0]
 have HO : Hid (Row (w.alloc (.cells #[.int .u8 92, .int .u8  34] 5 (0, 0))) (.slice (some ⟨w.heap.size, 0, none⟩) 2 2) [92, 34]) := row_lit w [92, 34] (by simp)
 have HR2 : Hid (RowX (w.alloc (.cells #[.int .u8 92, .int .u8  34] 5 (0, 0))) v l) := hr.keep (Keep.alloc1 w _) (Off.nil _)
 obtain ⟨ao, ca, hv, _⟩ := hr.bs.ex
 subst hv
 clear hr
 go_enter Tryz.func108, Tryz.ntmps108
 go_wp2_with (at_builtin; refine wp_appX rfl (.tmp 12) (.tmp 14) 33 33 rfl underS (.slice ao l.length ca) l rfl HR2.out (.slice (some ⟨w.heap.size, 0, none⟩) 2 2) [92, 34] rfl HO.out.bs.src (by simp) (by simp; omega) ?_)
 intro v' w1 R1 K1 F1 S1
 obtain ⟨a9, c9, rfl⟩ := S1
 have HK : Hid (Keep (Value.slice ao l.length ca).ownBlock.toList w w1) := by
  show Keep _ _ _
  exact (Keep.alloc1 w _).trans K1 (fun _ h => by cases h) (fun x hx => .inl hx)
 have HF : Hid ((Value.slice a9 (l.length + [92, 34].length) c9).ownBlock = (Value.slice ao l.length ca).ownBlock ∨ Fresh w w1 (Value.slice a9 (l.length + [92, 34].length) c9)) := by
  show _ ∨ _
  rcases F1 with h | h
  ·exact .inl h
  ·exact .inr (fun k hk => ⟨by have := (h k hk).1; simp at this; omega, (h k hk).2⟩)
 have HR1 : Hid (Row w1 (Value.slice a9 (l.length + [92, 34].length) c9) (l ++ [92, 34])) := R1
 clear K1 F1 R1 HO HR2
 go_wp2
 go_ret
 exact ⟨_, rfl, HR1.out, HK.out, HF.out⟩
set_option maxRecDepth 1000000 in
set_option maxHeartbeats 800000 in
theorem esc_back (c : UInt8) (hc : c = 92) (v : Value) (l : List UInt8) (w : World) (hr : RowX w v l) (hn : l.length ≤ 100000) :
  Calls Tryz.prog 108 #[v, .int .u8 (c.toNat : Int)] w fun e w' => ∃ v', e = .returned v' ∧ Row w' v' (l ++ [92, 92]) ∧ Keep v.ownBlock.toList w w' ∧ (v'.ownBlock = v.ownBlock ∨ Fresh w w' v') := by
 subst hc
 have e0 : (((92 : UInt8).toNat : Nat) : Int) = 92 := rfl
 rw [e0]
 have HO : Hid (Row (w.alloc (.cells #[.int .u8 92, .int .u8  92] 5 (0, 0))) (.slice (some ⟨w.heap.size, 0, none⟩) 2 2) [92, 92]) := row_lit w [92, 92] (by simp)
 have HR2 : Hid (RowX (w.alloc (.cells #[.int .u8 92, .int .u8  92] 5 (0, 0))) v l) := hr.keep (Keep.alloc1 w _) (Off.nil _)
 obtain ⟨ao, ca, hv, _⟩ := hr.bs.ex
 subst hv
 clear hr
 go_enter Tryz.func108, Tryz.ntmps108
 go_wp2_with (at_builtin; refine wp_appX rfl (.tmp 12) (.tmp 14) 33 33 rfl underS (.slice ao l.length ca) l rfl HR2.out (.slice (some ⟨w.heap.size, 0, none⟩) 2 2) [92, 92] rfl HO.out.bs.src (by simp) (by simp; omega) ?_)
 intro v' w1 R1 K1 F1 S1
 obtain ⟨a9, c9, rfl⟩ := S1
 have HK : Hid (Keep (Value.slice ao l.length ca).ownBlock.toList w w1) := by
  show Keep _ _ _
  exact (Keep.alloc1 w _).trans K1 (fun _ h => by cases h) (fun x hx => .inl hx)
 have HF : Hid ((Value.slice a9 (l.length + [92, 92].length) c9).ownBlock = (Value.slice ao l.length ca).ownBlock ∨ Fresh w w1 (Value.slice a9 (l.length + [92, 92].length) c9)) := by
  show _ ∨ _
  rcases F1 with h | h
  ·exact .inl h
  ·exact .inr (fun k hk => ⟨by have := (h k hk).1; simp at this; omega, (h k hk).2⟩)
 have HR1 : Hid (Row w1 (Value.slice a9 (l.length + [92, 92].length) c9) (l ++ [92, 92])) := R1
 clear K1 F1 R1 HO HR2
 go_wp2
 go_ret
 exact ⟨_, rfl, HR1.out, HK.out, HF.out⟩
set_option maxRecDepth 1000000 in
set_option maxHeartbeats 800000 in
theorem esc_line (c : UInt8) (hc : c = 10) (v : Value) (l : List UInt8) (w : World) (hr : RowX w v l) (hn : l.length ≤ 100000) :
  Calls Tryz.prog 108 #[v, .int .u8 (c.toNat : Int)] w fun e w' => ∃ v', e = .returned v' ∧ Row w' v' (l ++ [92, 110]) ∧ Keep v.ownBlock.toList w w' ∧ (v'.ownBlock = v.ownBlock ∨ Fresh w w' v') := by
 subst hc
 have e0 : (((10 : UInt8).toNat : Nat) : Int) = 10 := rfl
 rw [e0]
 have HO : Hid (Row (w.alloc (.cells #[.int .u8 92, .int .u8  110] 5 (0, 0))) (.slice (some ⟨w.heap.size, 0, none⟩) 2 2) [92, 110]) := row_lit w [92, 110] (by simp)
 have HR2 : Hid (RowX (w.alloc (.cells #[.int .u8 92, .int .u8  110] 5 (0, 0))) v l) := hr.keep (Keep.alloc1 w _) (Off.nil _)
 obtain ⟨ao, ca, hv, _⟩ := hr.bs.ex
 subst hv
 clear hr
 go_enter Tryz.func108, Tryz.ntmps108
 go_wp2_with (at_builtin; refine wp_appX rfl (.tmp 19) (.tmp 20) 33 33 rfl underS (.slice ao l.length ca) l rfl HR2.out (.slice (some ⟨w.heap.size, 0, none⟩) 2 2) [92, 110] rfl HO.out.bs.src (by simp) (by simp; omega) ?_)
 intro v' w1 R1 K1 F1 S1
 obtain ⟨a9, c9, rfl⟩ := S1
 have HK : Hid (Keep (Value.slice ao l.length ca).ownBlock.toList w w1) := by
  show Keep _ _ _
  exact (Keep.alloc1 w _).trans K1 (fun _ h => by cases h) (fun x hx => .inl hx)
 have HF : Hid ((Value.slice a9 (l.length + [92, 110].length) c9).ownBlock = (Value.slice ao l.length ca).ownBlock ∨ Fresh w w1 (Value.slice a9 (l.length + [92, 110].length) c9)) := by
  show _ ∨ _
  rcases F1 with h | h
  ·exact .inl h
  ·exact .inr (fun k hk => ⟨by have := (h k hk).1; simp at this; omega, (h k hk).2⟩)
 have HR1 : Hid (Row w1 (Value.slice a9 (l.length + [92, 110].length) c9) (l ++ [92, 110])) := R1
 clear K1 F1 R1 HO HR2
 go_wp2
 go_ret
 exact ⟨_, rfl, HR1.out, HK.out, HF.out⟩
set_option maxRecDepth 1000000 in
set_option maxHeartbeats 800000 in
theorem esc_plain (c : UInt8) (h1 : c ≠ 34) (h2 : c ≠ 92) (h4 : 32 ≤ c.toNat) (h5 : c.toNat ≤ 126) (v : Value) (l : List UInt8) (w : World) (hr : RowX w v l) (hn : l.length ≤ 100000) :
  Calls Tryz.prog 108 #[v, .int .u8 (c.toNat : Int)] w fun e w' => ∃ v', e = .returned v' ∧ Row w' v' (l ++ [c]) ∧ Keep v.ownBlock.toList w w' ∧ (v'.ownBlock = v.ownBlock ∨ Fresh w w' v') := by
 have e1 : ((c.toNat : Int) == 34) = false := by
  have : c.toNat ≠ 34 := fun e => h1 (UInt8.toNat_inj.1 e)
  simp; omega
 have e2 : ((c.toNat : Int) == 92) = false := by
  have : c.toNat ≠ 92 := fun e => h2 (UInt8.toNat_inj.1 e)
  simp; omega
 have e3 : ((c.toNat : Int) == 10) = false := by simp; omega
 have e4 : ¬ (c.toNat : Int) < 32 := by omega
 have e5 : ¬ 126 < (c.toNat : Int) := by omega
 clear h1 h2 h4 h5
 have HO : Hid (Row (w.alloc (.cells #[.int .u8 (c.toNat : Int)] 5 (0, 0))) (.slice (some ⟨w.heap.size, 0, none⟩) 1 1) [c]) := row_lit w [c] (by simp)
 have HR2 : Hid (RowX (w.alloc (.cells #[.int .u8 (c.toNat : Int)] 5 (0, 0))) v l) := hr.keep (Keep.alloc1 w _) (Off.nil _)
 obtain ⟨ao, ca, hv, _⟩ := hr.bs.ex
 subst hv
 clear hr
 go_enter Tryz.func108, Tryz.ntmps108
 go_wp2_with (at_builtin; refine wp_appX rfl (.tmp 38) (.tmp 40) 33 33 rfl underS (.slice ao l.length ca) l rfl HR2.out (.slice (some ⟨w.heap.size, 0, none⟩) 1 1) [c] rfl HO.out.bs.src (by simp) (by simp; omega) ?_)
 intro v' w1 R1 K1 F1 S1
 obtain ⟨a9, c9, rfl⟩ := S1
 have HK : Hid (Keep (Value.slice ao l.length ca).ownBlock.toList w w1) := by
  show Keep _ _ _
  exact (Keep.alloc1 w _).trans K1 (fun _ h => by cases h) (fun x hx => .inl hx)
 have HF : Hid ((Value.slice a9 (l.length + [c].length) c9).ownBlock = (Value.slice ao l.length ca).ownBlock ∨ Fresh w w1 (Value.slice a9 (l.length + [c].length) c9)) := by
  show _ ∨ _
  rcases F1 with h | h
  ·exact .inl h
  ·exact .inr (fun k hk => ⟨by have := (h k hk).1; simp at this; omega, (h k hk).2⟩)
 have HR1 : Hid (Row w1 (Value.slice a9 (l.length + [c].length) c9) (l ++ [c])) := R1
 clear K1 F1 R1 HO HR2
 go_wp2
 go_ret
 exact ⟨_, rfl, HR1.out, HK.out, HF.out⟩
end Go.Proofs.YtfpcpociejefaaaGreatDoor
