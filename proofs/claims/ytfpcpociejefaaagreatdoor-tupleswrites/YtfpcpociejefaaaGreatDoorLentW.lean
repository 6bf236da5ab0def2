/- The reference's Same and Key. -/
import Derived.Test.YtfpcpociejefaaaGreatDoorNearW
import Derived.Test.YtfpcpociejefaaaGreatDoorRvA
import Derived.Shelf.Small.Wraps
import Derived.Shelf.Strings.Prefix
import Derived.Shelf.Strings.OnBuilder
import Derived.Test.YtfpcpociejefaaaGreatDoorProg
import Derived.Test.YtfpcpociejefaaaGreatDoorTxA
import Derived.Test.YtfpcpociejefaaaGreatDoorOwn
import Derived.Test.YtfpcpociejefaaaGreatDoorBigA
import Derived.Laws.BytesString
import Derived.Lib.SlBytesConst
import Derived.Test.YtfpcpociejefaaaGreatDoorJLeaf
import Derived.Deep.RegionHeld3
import Derived.PlainAid
import Derived.Test.YtfpcpociejefaaaGreatDoorWMeth
import Derived.Deep.QuietTactic
import Derived.BigQuiet
import Derived.Test.YtfpcpociejefaaaGreatDoorBigA

namespace Go.Proofs.YtfpcpociejefaaaGreatDoor
open Go.RowKit Go.PlainAid Go.Lib
set_option maxHeartbeats 1600000 in
/-- the reference's Key is the program's -/
theorem rKey_any (x : Nat) (h : x < 4294967296) (w : World) : Calls Tryz.prog 79 #[.float .f32 x] w fun e w' => e = .returned (.int .u32 (keyN x : Nat)) ∧ w' = w := by
 have hN := rIsNan_any x
 have hB := rBelow_any x h
 unfold keyN
 cases hx : nanB x
 ·have hM := number_any x h hx
  have hr : rungN x ≤ 2139095040 := by simpa [nanB, rungN] using hx
  rw [hx] at hN
  unfold belowB at hB
  rw [hx] at hB
  rw [if_neg (by decide)]
  by_cases hs : 2147483648 ≤ x
  ·rw [show decide (2147483648 ≤ x) = true by simpa using hs] at hB
   rw [if_pos hs]
   have hz : x = rungN x + 2147483648 := by unfold rungN; omega
   have HG : Hid (4294967295 - x = 2147483647 - rungN x) := show _ = _ by omega
   clear hz
   generalize rungN x = r at *
   go_enter Tryz.func79, Tryz.ntmps79
   go_wp2_with (first | (go_at_call 97; refine (hN _).mono ?_; rintro e9 w9 ⟨rfl, hw9⟩; obtain rfl := hw9.symm) | (go_at_call 98; refine (hB _).mono ?_; rintro e9 w9 ⟨rfl, hw9⟩; obtain rfl := hw9.symm) | (go_at_call 99; refine (hM _).mono ?_; rintro e9 w9 ⟨rfl, hw9⟩; obtain rfl := hw9.symm))
   go_ret
   refine ⟨?_, rfl⟩
   rw [HG.out]
   have e1 : ((2147483647 - r : Nat) : Int) = 2147483647 - (r : Int) := by omega
   rw [e1]
   rfl
  ·rw [show decide (2147483648 ≤ x) = false by simpa using hs] at hB
   rw [if_neg hs]
   have hz : rungN x = x := by unfold rungN; omega
   rw [hz] at hM hr
   clear hz
   go_enter Tryz.func79, Tryz.ntmps79
   go_wp2_with (first | (go_at_call 97; refine (hN _).mono ?_; rintro e9 w9 ⟨rfl, hw9⟩; obtain rfl := hw9.symm) | (go_at_call 98; refine (hB _).mono ?_; rintro e9 w9 ⟨rfl, hw9⟩; obtain rfl := hw9.symm) | (go_at_call 99; refine (hM _).mono ?_; rintro e9 w9 ⟨rfl, hw9⟩; obtain rfl := hw9.symm))
   go_ret
   refine ⟨?_, rfl⟩
   have e1 : ((x + 2147483648 : Nat) : Int) = 2147483648 + (x : Int) := by omega
   rw [e1]
   rfl
 ·rw [hx] at hN
  rw [if_pos rfl]
  go_enter Tryz.func79, Tryz.ntmps79
  go_wp2_with (first | (go_at_call 97; refine (hN _).mono ?_; rintro e9 w9 ⟨rfl, hw9⟩; obtain rfl := hw9.symm))
  go_ret
  exact ⟨rfl, rfl⟩
end Go.Proofs.YtfpcpociejefaaaGreatDoor

/- Comparing is an order where it can be asked. -/
namespace Go.Proofs.YtfpcpociejefaaaGreatDoor
open Go.RowKit Go.PlainAid Go.Lib
theorem may_kind (p : VD) (h : p.mayB = true) : 1 ≤ p.kind ∧ p.kind ≤ 5 := by
 unfold VD.mayB at h
 simp at h
 exact h.1.1
end Go.Proofs.YtfpcpociejefaaaGreatDoor

/-
 DERIVED: THE SHELF's CONTRACTS AT THIS DUMP, IN PLAIN WORDS (tools/lay-plain.mjs out of 'TryzShelf.lean', which tools/lay-shelf.mjs wrote): THE SAME DECLARATIONS UNDER THE SAME NAMES: 'import', 'namespace', 'open', 'def', 'theorem' AND NOTHING ELSE: no command of the shelf's: FOR A HAND-IN. Each laying: the table of numbers ('.._ren') and one theorem, a field a fact of the dump's own or the kernel's comparison; each contract: ONE APPLICATION.
-/
namespace Go.Proofs
open Go.Shelf
def Tryz.lays156_ren : Go.Shelf.Ren := ⟨fun | 156 => 109 | 165 => 128 | 166 => 13 | 169 => 16 | 240 => 35 | 241 => 147 | 276 => 62 | 277 => 162 | n => n, fun | 31 => 59 | 9 => 9 | 3 => 3 | 4 => 4 | 0 => 0 | 20 => 20 | 72 => 42 | 76 => 45 | 70 => 40 | 37 => 33 | 75 => 44 | 127 => 77 | 164 => 90 | 5 => 5 | 80 => 49 | n => n, fun | n => n⟩
theorem Tryz.lays156 : Go.Proofs.Lays.n156 Tryz.prog Tryz.lays156_ren := {
 mixed := by kernel_rfl
 f156 := Tryz.func109.trans (congrArg some (by kernel_rfl))
 f165 := Tryz.func128.trans (congrArg some (by kernel_rfl))
 f166 := Tryz.func13.trans (congrArg some (by kernel_rfl))
 f169 := Tryz.func16.trans (congrArg some (by kernel_rfl))
 f240 := Tryz.func35.trans (congrArg some (by kernel_rfl))
 f241 := Tryz.func147.trans (congrArg some (by kernel_rfl))
 f276 := Tryz.func62.trans (congrArg some (by kernel_rfl))
 f277 := Tryz.func162.trans (congrArg some (by kernel_rfl))
 t0 := Tryz.underlying0
 a0 := Tryz.isAgg0
 z0 := Tryz.sizeOf0
 v0 := Tryz.zeroValue0
 t3 := Tryz.underlying3
 a3 := Tryz.isAgg3
 z3 := Tryz.sizeOf3
 v3 := Tryz.zeroValue3
 t4 := Tryz.underlying4
 a4 := Tryz.isAgg4
 z4 := Tryz.sizeOf4
 v4 := Tryz.zeroValue4
 t9 := Tryz.underlying9
 a9 := Tryz.isAgg9
 z9 := Tryz.sizeOf9
 v9 := Tryz.zeroValue9
 t20 := Tryz.underlying20
 a20 := Tryz.isAgg20
 z20 := Tryz.sizeOf20
 v20 := Tryz.zeroValue20
 t31 := Tryz.underlying59
 a31 := Tryz.isAgg59
 z31 := Tryz.sizeOf59
 v31 := Tryz.zeroValue59
 t37 := Tryz.underlying33
 a37 := Tryz.isAgg33
 z37 := Tryz.sizeOf33
 v37 := Tryz.zeroValue33
 t70 := Tryz.underlying40
 a70 := Tryz.isAgg40
 z70 := Tryz.sizeOf40
 v70 := Tryz.zeroValue40
 t72 := Tryz.underlying42
 a72 := Tryz.isAgg42
 z72 := Tryz.sizeOf42
 v72 := Tryz.zeroValue42
 t75 := Tryz.underlying44
 a75 := Tryz.isAgg44
 z75 := Tryz.sizeOf44
 v75 := Tryz.zeroValue44
 t76 := Tryz.underlying45
 a76 := Tryz.isAgg45
 z76 := Tryz.sizeOf45
 v76 := Tryz.zeroValue45
 t127 := Tryz.underlying77
 a127 := Tryz.isAgg77
 z127 := Tryz.sizeOf77
 v127 := Tryz.zeroValue77
 t164 := Tryz.underlying90
 a164 := Tryz.isAgg90
 z164 := Tryz.sizeOf90
 v164 := Tryz.zeroValue90 }
theorem Tryz.Builder_Extra_156 : Builder.Extra Tryz.prog Tryz.lays156_ren := {
 sizeBuilder := by kernel_rfl
 liesBuilder := by kernel_rfl
 t5 := Tryz.underlying5
 a5 := Tryz.isAgg5
 z5 := Tryz.sizeOf5
 v5 := Tryz.zeroValue5
 infoByte := by kernel_rfl
 cellsByte := by kernel_rfl
 sizeByte := by kernel_rfl
 neB5 := by decide }
end Go.Proofs

/- Rows of bytes that may be full; bytes as texts. -/
namespace Go.Proofs.YtfpcpociejefaaaGreatDoor
open Go.RowKit Go.PlainAid
def ba (l : List UInt8) : ByteArray := ⟨l.toArray⟩
theorem ba_toList (l : List UInt8) : (ba l).toList = l := ByteArray.toList_mk l
theorem ba_size (l : List UInt8) : (ba l).size = l.length := by unfold ba; simp [ByteArray.size]
theorem ba_bt (l : List UInt8) (k : Nat) (h : k < l.length) : bt (ba l) k = ((l[k]).toNat : Int) := by
 unfold bt
 rw [dif_pos (by rw [ba_size]; exact h)]
 rfl
theorem bal_app (a b : List UInt8) : ba a ++ ba b = ba (a ++ b) := by
 apply ByteArray.ext
 unfold ba
 simp [ByteArray.data_append]
theorem ba_data (l : List UInt8) : (ba l).data.toList = l := by unfold ba; simp
/-- bytes that can be appended to: a row of one's own, or a full one -/
def RowX (w : World) (v : Value) (l : List UInt8) : Prop := Row w v l ∨ (Bs w v l ∧ ∃ b, v = .slice (some ⟨b, 0, none⟩) l.length l.length)
theorem RowX.bs {w : World} {v : Value} {l : List UInt8} (h : RowX w v l) : Bs w v l := by
 rcases h with h | h
 ·exact h.bs
 ·exact h.1
theorem RowX.keep {F : List Nat} {w w' : World} {v : Value} {l : List UInt8} (h : RowX w v l) (k : Keep F w w') (hn : Off v F) : RowX w' v l := by
 rcases h with h | h
 ·exact .inl (h.keep k hn)
 ·exact .inr ⟨h.1.keep k hn, h.2⟩
theorem run_appF (w : World) (t tx ty : TypeId) (ht : Tryz.prog.underlying t = some (.slice TB)) (g : Nat) (l : List UInt8) (hb : Bs w (.slice (some ⟨g, 0, none⟩) l.length l.length) l) (x : Value) (r : List UInt8) (hs : Src Tryz.prog 1 tx x r.length (bv r) w)
  (hr0 : r ≠ []) (hbytes : l.length + r.length ≤ 140737488355328) :
  ∃ v' w', (Builtin.append_ #[t, tx] ty #[.slice (some ⟨g, 0, none⟩) l.length l.length, x]).run Tryz.prog w = .ok v' w' ∧ Row w' v' (l ++ r) ∧ Keep [] w w' ∧ Fresh w w' v' ∧ Sl v' (l.length + r.length) := by
 obtain ⟨i, hi, hz, hsize, hby⟩ := info_parts infoB
 have hrl : 0 < r.length := by cases r; exact absurd rfl hr0; simp
 have h63 : l.length + r.length ≤ maxLen := by simp only [maxLen]; omega
 have hs' : Src Tryz.prog i.size tx x r.length (bv r) w := by rw [hsize]; exact hs
 have holds : ∀ j u, (bv l)[j]? = some u → w.cell? ((⟨g, 0, none⟩ : Addr).add j) = some u := by
  intro j u hu
  have hj : j < l.length := by
   have := (List.getElem?_eq_some_iff.1 hu).1
   simpa [bv_length] using this
  rcases hb.cases with ⟨rfl, _⟩ | ⟨_, b, o, cap, e, _, _, _, hc⟩
  ·simp at hj
  ·simp at e
   obtain ⟨⟨rfl, rfl⟩, _⟩ := e
   rw [bv_get l j hj] at hu
   have hadd : (⟨g, 0, none⟩ : Addr).add j = ⟨g, 0 + j, none⟩ := by unfold Addr.add; split <;> simp_all
   rw [hadd, hc j hj, List.getD_eq_getElem?_getD, List.getElem?_eq_getElem hj]
   exact hu
 have hr := run_append_grow_src (P := Tryz.prog) w t tx ty TB i (.int .u8 0) ht hi hz (some ⟨g, 0, none⟩) l.length l.length (bv l) (run_firstCells_some w.drew i.size l.length ⟨g, 0, none⟩ l.length l.length (bv l) (by rw [hsize]; simp [bv_length]) (by simpa using holds)) x r.length (bv r) hs' (by omega) (by simp only [maxLen] at h63; omega)
  (by rw [hby]; exact growslice_fits (bytes := 1) (by omega) (by omega))
 refine ⟨_, _, hr, ?_, ((Keep.refl _ w).drew).alloc _, ?_, ⟨_, _, rfl⟩⟩
 ·have hge := grownCap_ge w (l.length + r.length) l.length TB
  have hcm : grownCap w (l.length + r.length) l.length TB ≤ maxLen := grownCap_le_maxLen w _ _ TB h63
  refine ⟨by simp [bv_length], .inr ⟨w.heap.size, _, _, by simp, Nat.zero_le _, heap_alloc_new w.drew _, by simpa using hge, hcm, ?_, ?_⟩⟩
  ·simp only [Array.size_append, List.size_toArray, size_zeroCells, List.length_append, bv_length]
   simp [Value.cells]
   omega
  ·simp only [Array.toList_append, bv_append]
   rw [List.take_append_of_le_length (by simp [bv_length])]
   exact List.take_of_length_le (by simp [bv_length])
 ·intro k hk
  simp [Value.ownBlock] at hk
  subst hk
  exact ⟨Nat.le_refl _, by simp⟩
theorem wp_appX {ops : Array Oper} {rest : List Oper} {o : Oper} {a : Act} {w : World} {Q : Exit → Act → World → Prop} (hgd : o.guard = none) (s x : Operand) (t tx : TypeId)
  (ho : o.op = .call { callee := .builtin .append, args := #[s, x], argTypes := #[t, tx] }) (ht : Tryz.prog.underlying t = some (.slice TB))
  (v : Value) (l : List UInt8) (hv : a.eval s = v) (hown : RowX w v l) (u : Value) (r : List UInt8) (hu : a.eval x = u) (hs : Src Tryz.prog 1 tx u r.length (bv r) w)
  (hr0 : r ≠ []) (hbytes : l.length + r.length ≤ 140737488355328)
  (h : ∀ v' w', Row w' v' (l ++ r) → Keep v.ownBlock.toList w w' → (v'.ownBlock = v.ownBlock ∨ Fresh w w' v') → Sl v' (l.length + r.length) → wpList Tryz.prog ops Q rest (a.put o.dst v') w') : wpList Tryz.prog ops Q (o :: rest) a w := by
 rcases hown with hown | ⟨hb, g, e⟩
 ·exact wp_app hgd s x t tx ho ht v l hv hown u r hu hs hbytes h
 ·subst e
  obtain ⟨v', w', hr, h1, h2, h3, h4⟩ := run_appF w t tx o.type ht g l hb u r hs hr0 hbytes
  refine wpList_plain hgd fun K hK => ?_
  unfold Oper.wp execOp
  simp only [ho, resolve, invoke, builtin, Sem.run_bind, Sem.run_pure, Result.andThen_ok, List.map_toArray, List.map_cons, List.map_nil, hv, hu, hr]
  exact hK _ _ (h v' w' h1 (h2.mono (fun _ h => by cases h)) (.inr h3) h4)
end Go.Proofs.YtfpcpociejefaaaGreatDoor

/- What Name of the document's answer answers, for every text, where its table of words lies in memory. -/
namespace Go.Proofs.YtfpcpociejefaaaGreatDoor
open Go.RowKit Go.PlainAid
def wordsL : List (List UInt8) := [[116, 121, 112, 101], [114, 101, 108, 97, 116, 105, 111, 110], [99, 111, 110, 100], [111, 114], [97, 110, 100], [110, 111, 116], [102, 114, 111, 109], [119, 105, 116, 104], [105, 110], [116, 114, 117, 101], [102, 97, 108, 115, 101], [110, 97, 110], [105, 110, 102]]
def wordAt (k : Nat) : List UInt8 := wordsL.getD k []
def Words (w : World) : Prop := ∀ k, k < 13 → w.cell? ⟨0, k, none⟩ = some (.string (ba (wordAt k)))
theorem Words.below {w w' : World} (h : Words w) (hb : Below w.heap.size w w') : Words w' := fun k hk => by
 rw [hb.cell (p := ⟨0, k, none⟩) (World.block_lt_of_cell? w _ (h k hk))]; exact h k hk
theorem Words.alloc {w : World} (h : Words w) {X : Obj} : Words (w.alloc X) := h.below ((Below.refl _ _).alloc (Nat.le_refl _) _)
theorem Words.drewN {w : World} (h : Words w) {n : Nat} : Words (w.drewN n) := h.below (below_drewN (Below.refl _ _) n)
theorem res_words (l : List UInt8) : resL l = wordsL.any (· == l) := by
 unfold resL wordsL
 simp only [List.any_cons, List.any_nil, Bool.or_false, Bool.or_assoc]
 simp only [Bool.beq_comm]
theorem res_at {l : List UInt8} {k : Nat} (hk : k < 13) (h : wordAt k = l) : resL l = true := by
 rw [res_words, List.any_eq_true]
 refine ⟨wordAt k, ?_, by simp [h]⟩
 unfold wordAt
 have : k < wordsL.length := hk
 rw [List.getD_eq_getElem?_getD, List.getElem?_eq_getElem this]
 exact List.getElem_mem this
theorem res_none {l : List UInt8} (h : ∀ k, k < 13 → wordAt k ≠ l) : resL l = false := by
 rw [res_words, List.any_eq_false]
 intro x hx
 obtain ⟨k, hk, rfl⟩ := List.getElem_of_mem hx
 have := h k hk
 unfold wordAt at this
 rw [List.getD_eq_getElem?_getD, List.getElem?_eq_getElem hk] at this
 simpa using this
set_option maxHeartbeats 400000 in
theorem rsmall_any (c : Int) (w : World) :
  Calls Tryz.prog 71 #[.int .u8 c] w fun e w' => e = .returned (.bool (smallB c)) ∧ w' = w := by
 by_cases h1 : 97 ≤ c <;> by_cases h2 : c ≤ 122
 all_goals
  have hb : smallB c = (decide (97 ≤ c) && decide (c ≤ 122)) := rfl
  simp only [h1, h2, decide_true, decide_false, Bool.and_true, Bool.and_false] at hb
  rw [hb]; clear hb
  go_enter Tryz.func71, Tryz.ntmps71
  go_wp2
  go_ret
  exact ⟨rfl, rfl⟩
set_option maxHeartbeats 400000 in
theorem rdigit_any (c : Int) (w : World) :
  Calls Tryz.prog 72 #[.int .u8 c] w fun e w' => e = .returned (.bool (digitB c)) ∧ w' = w := by
 by_cases h1 : 48 ≤ c <;> by_cases h2 : c ≤ 57
 all_goals
  have hb : digitB c = (decide (48 ≤ c) && decide (c ≤ 57)) := rfl
  simp only [h1, h2, decide_true, decide_false, Bool.and_true, Bool.and_false] at hb
  rw [hb]; clear hb
  go_enter Tryz.func72, Tryz.ntmps72
  go_wp2
  go_ret
  exact ⟨rfl, rfl⟩
set_option maxHeartbeats 1000000 in
theorem rname_any (s : ByteArray) (w : World) (hW : Words w) :
  Calls Tryz.prog 46 #[.string s] w fun e w' => e = .returned (.bool (nameL s.toList)) ∧ w' = w := by
 have hb := get_bt s
 have hba := ba_toList
 have HW : Hid (∀ k, k < 13 → w.cell? ⟨0, k, none⟩ = some (.string (ba (wordAt k)))) := hW
 clear hW
 have HL : Hid (nameL s.toList = (decide (1 ≤ s.size) && decide (s.size ≤ 32) && smallB (bt s 0) && !resL s.toList && s.toList.all (fun c => inNameB (c.toNat : Int)))) := by
  show _ = _
  rw [bt_hd, ← toList_len]; rfl
 by_cases h0 : s.size < 1
 ·have z0 : (s.size : Int) < 1 := by omega
  go_enter Tryz.func46, Tryz.ntmps46
  go_wp2
  go_ret
  exact ⟨ret_bool (by rw [HL.out, show decide (1 ≤ s.size) = false from decide_eq_false (by omega)]; simp), rfl⟩
 have z0 : ¬ (s.size : Int) < 1 := by omega
 by_cases h1 : 32 < s.size
 ·have z1 : (32 : Int) < (s.size : Int) := by omega
  go_enter Tryz.func46, Tryz.ntmps46
  go_wp2
  go_ret
  exact ⟨ret_bool (by rw [HL.out]; simp; omega), rfl⟩
 have z1 : ¬ (32 : Int) < (s.size : Int) := by omega
 cases h2 : smallB (bt s 0)
 ·go_enter Tryz.func46, Tryz.ntmps46
  go_wp2_with (go_at_call 71; refine (rsmall_any _ _).mono ?_; rintro e w9 ⟨rfl, hw⟩; obtain rfl := hw.symm)
  go_ret
  exact ⟨ret_bool (by rw [HL.out, h2]; simp), rfl⟩
 go_enter Tryz.func46, Tryz.ntmps46
 go_wp2_with (go_at_call 71; refine (rsmall_any _ _).mono ?_; rintro e w9 ⟨rfl, hw⟩; obtain rfl := hw.symm)
 go_loop [3] (fun i => ∃ k : Nat, k ≤ s.size ∧ i = .int .i64 k ∧ Hid (∀ j, j < k → inNameB (bt s j) = true)) (fun i => s.size - (RowKit.intOf i).toNat)
 case atStart => exact ⟨0, Nat.zero_le _, rfl, fun j hj => absurd hj (Nat.not_lt_zero j)⟩
 case round =>
  obtain ⟨k, hk, rfl, hall⟩ := hrel
  by_cases hlt : k < s.size
  ·have HN : Hid (inNameB (bt s k) = (smallB (bt s k) || digitB (bt s k) || bt s k == 95)) := rfl
   cases hs : smallB (bt s k)
   ·cases hd : digitB (bt s k)
    ·cases hu : (bt s k == 95)
     ·have hu' : (bt s k != 95) = true := by rw [bne, hu]; rfl
      go_wp2_with (first | (go_at_call 71; refine (rsmall_any _ _).mono ?_; rintro e w9 ⟨rfl, hw⟩; obtain rfl := hw.symm) | (go_at_call 72; refine (rdigit_any _ _).mono ?_; rintro e w9 ⟨rfl, hw⟩; obtain rfl := hw.symm))
      go_ret
      exact ⟨ret_bool (by rw [HL.out, all_not inNameB s k hlt (by rw [HN.out, hs, hd, hu]; rfl)]; simp), rfl⟩
     ·have hu' : (bt s k != 95) = false := by rw [bne, hu]; rfl
      go_wp2_with (first | (go_at_call 71; refine (rsmall_any _ _).mono ?_; rintro e w9 ⟨rfl, hw⟩; obtain rfl := hw.symm) | (go_at_call 72; refine (rdigit_any _ _).mono ?_; rintro e w9 ⟨rfl, hw⟩; obtain rfl := hw.symm))
      go_round
      case rel => exact ⟨k + 1, by omega, by go_num, fun j hj => (by
       by_cases e : j = k
       ·rw [e, HN.out, hs, hd, hu]; rfl
       ·exact hall.out j (by omega))⟩
      case measure => simp [RowKit.intOf]; omega
    ·go_wp2_with (first | (go_at_call 71; refine (rsmall_any _ _).mono ?_; rintro e w9 ⟨rfl, hw⟩; obtain rfl := hw.symm) | (go_at_call 72; refine (rdigit_any _ _).mono ?_; rintro e w9 ⟨rfl, hw⟩; obtain rfl := hw.symm))
     go_round
     case rel => exact ⟨k + 1, by omega, by go_num, fun j hj => (by
      by_cases e : j = k
      ·rw [e, HN.out, hs, hd]; rfl
      ·exact hall.out j (by omega))⟩
     case measure => simp [RowKit.intOf]; omega
   ·go_wp2_with (first | (go_at_call 71; refine (rsmall_any _ _).mono ?_; rintro e w9 ⟨rfl, hw⟩; obtain rfl := hw.symm) | (go_at_call 72; refine (rdigit_any _ _).mono ?_; rintro e w9 ⟨rfl, hw⟩; obtain rfl := hw.symm))
    go_round
    case rel => exact ⟨k + 1, by omega, by go_num, fun j hj => (by
     by_cases e : j = k
     ·rw [e, HN.out, hs]; rfl
     ·exact hall.out j (by omega))⟩
    case measure => simp [RowKit.intOf]; omega
  ·have HA : Hid (s.toList.all (fun c => inNameB (c.toNat : Int)) = true) := all_of inNameB s (fun j hj => hall.out j (by omega))
   clear hall
   go_wp2
   go_loop [4] (fun i => ∃ k : Nat, k ≤ 13 ∧ i = .int .i64 k ∧ Hid (∀ j, j < k → wordAt j ≠ s.toList)) (fun i => 13 - (RowKit.intOf i).toNat)
   case atStart => exact ⟨0, by omega, rfl, fun j hj => absurd hj (Nat.not_lt_zero j)⟩
   case round =>
    obtain ⟨q, hq, rfl, hal2⟩ := hrel
    by_cases hlq : q < 13
    ·have hcell := HW.out q hlq
     cases hc : (wordAt q == s.toList)
     ·go_wp2
      go_round
      case rel => exact ⟨q + 1, by omega, by go_num, fun j hj => (by
       by_cases e : j = q
       ·rw [e]; simpa using hc
       ·exact hal2.out j (by omega))⟩
      case measure => simp [RowKit.intOf]; omega
     ·go_wp2
      go_ret
      exact ⟨ret_bool (by rw [HL.out, res_at hlq (by simpa using hc)]; simp), rfl⟩
    ·go_wp2
     go_ret
     exact ⟨ret_bool (by rw [HL.out, h2, HA.out, res_none (fun j hj => hal2.out j (by omega))]; simp; omega), rfl⟩
theorem Words.keep {w w' : World} {F : List Nat} (h : Words w) (k : Keep F w w') (h0 : 0 ∉ F) : Words w' := fun i hi => k.cell' (h i hi) h0
end Go.Proofs.YtfpcpociejefaaaGreatDoor

/- The document's order of texts and of lists of texts; sign. -/
namespace Go.Proofs.YtfpcpociejefaaaGreatDoor
open Go.RowKit Go.PlainAid
set_option maxHeartbeats 1000000 in
theorem rTexts_any (a b : ByteArray) (w : World) (hsa : a.size ≤ maxLen) :
  Calls Tryz.prog 94 #[.string a, .string b] w fun e w' => e = .returned (.int .i64 (cmpT a.toList b.toList)) ∧ ∃ n, w' = w.drewN n := by
 have hba := get_bt a
 have hbb := get_bt b
 unfold maxLen at hsa
 go_enter Tryz.func94, Tryz.ntmps94
 go_wp2
 go_loopw [5] (fun i wr => ∃ k : Nat, k ≤ a.size ∧ k ≤ b.size ∧ i = .int .i64 k ∧ Hid (∀ j, j < k → bt a j = bt b j) ∧ ∃ n, wr = w.drewN n) (fun i _ => a.size - (RowKit.intOf i).toNat)
 case atStart => exact ⟨0, Nat.zero_le _, Nat.zero_le _, rfl, fun j hj => absurd hj (Nat.not_lt_zero j), 0, rfl⟩
 case round =>
  obtain ⟨k, hk1, hk2, rfl, hall, n, rfl⟩ := hrel
  by_cases hlt : k < a.size ∧ k < b.size
  ·obtain ⟨hla, hlb⟩ := hlt
   by_cases h1 : bt a k < bt b k
   ·go_wp2
    go_quiet (fail)
    go_wp2
    go_ret
    exact ⟨ret_int (cmp_less a b k hla hlb hall.out h1).symm, drew_two⟩
   ·by_cases h2 : bt b k < bt a k
    ·go_wp2
     go_quiet (fail)
     go_wp2
     go_quiet (fail)
     go_wp2
     go_ret
     exact ⟨ret_int (cmp_more a b k hla hlb hall.out h2).symm, drew_three⟩
    ·go_wp2
     go_quiet (fail)
     go_wp2
     go_quiet (fail)
     go_wp2
     go_roundw
     case rel => exact ⟨k + 1, by omega, by omega, by go_num, fun j hj => (by
      by_cases e : j = k
      ·rw [e]; omega
      ·exact hall.out j (by omega)), _, rfl⟩
     case measure => simp [RowKit.intOf]; omega
  ·have HE : Hid (cmpT a.toList b.toList = if a.size < b.size then -1 else if b.size < a.size then 1 else 0) := cmp_end a b k hk1 hk2 hall.out (by omega)
   clear hall
   by_cases hla : k < a.size
   ·have hlb : ¬ k < b.size := fun h => hlt ⟨hla, h⟩
    clear hlt
    go_wp2
    go_ret
    exact ⟨ret_int (by rw [HE.out, if_neg (by omega), if_pos (by omega)]), _, rfl⟩
   ·clear hlt
    by_cases h1 : a.size < b.size
    ·go_wp2
     go_ret
     exact ⟨ret_int (by rw [HE.out, if_pos h1]), _, rfl⟩
    ·go_wp2
     go_ret
     exact ⟨ret_int (by rw [HE.out, if_neg h1, if_neg (by omega)]), _, rfl⟩
end Go.Proofs.YtfpcpociejefaaaGreatDoor

/- A tuple's seven texts. -/
namespace Go.Proofs.YtfpcpociejefaaaGreatDoor
open Go.RowKit Go.PlainAid
structure K7 where
 a : ByteArray
 b : ByteArray
 c : ByteArray
 d : ByteArray
 e : ByteArray
 f : ByteArray
 g : ByteArray
abbrev K7.tup (x : K7) (u : Value) : Value := .agg #[.string x.a, .string x.b, .string x.c, .string x.d, .string x.e, .string x.f, .string x.g, u]
end Go.Proofs.YtfpcpociejefaaaGreatDoor

/- What a value's bytes are; held, write, Encode. -/
namespace Go.Proofs.YtfpcpociejefaaaGreatDoor
open Go.RowKit Go.PlainAid Go.Lib
def vtextB (s : ByteArray) : List UInt8 := uvarint s.size ++ s.data.toList
def textsB (l : List ByteArray) : List UInt8 := l.flatMap vtextB
/-- what stands behind the kind -/
def bodyL (x : VD) : List UInt8 :=
 if x.kind = 1 then [if x.bool then 1 else 0] else if x.kind = 2 then uvarint (zigzag x.int) else if x.kind = 3 then four (keyN x.real) else if x.kind = 4 then vtextB x.text else uvarint x.texts.length ++ textsB x.texts
/-- a value's bytes -/
def encL (x : VD) : List UInt8 := x.kind.toNat.toUInt8 :: bodyL x
theorem held_1 (x : VD) (h : x.kind = 1) (u : Value) (hu : ∃ a n c, u = .slice a n c) (w : World) : Calls Tryz.prog 44 #[x.val u] w fun e w' => e = .returned (.iface 4 (.bool x.bool)) ∧ Keep [] w w' := by
 obtain ⟨a, n, c, rfl⟩ := hu
 have k1 : (x.kind == 1) = true := by simpa using h
 clear h
 go_enter Tryz.func44, Tryz.ntmps44
 go_wp2
 go_ret
 exact ⟨rfl, Keep.alloc1 _ _⟩
end Go.Proofs.YtfpcpociejefaaaGreatDoor

/- What an interface holds is told: the type switch's steps. -/
namespace Go.Proofs.YtfpcpociejefaaaGreatDoor
open Go.RowKit Go.PlainAid Go.Lib
theorem ta_4_4 (v : Value) (w : World) : (Instr.typeAssert (.iface 4 v) 20 4 true).run Tryz.prog w = .ok (.tuple #[v, .bool true]) w := by
 simp [Instr.typeAssert, run_underlying Tryz.underlying4, go_sem, Result.andThen]
theorem ta_2_4 (v : Value) (w : World) : (Instr.typeAssert (.iface 2 v) 20 4 true).run Tryz.prog w = .ok (.tuple #[.bool false, .bool false]) w := by
 have hz : (zeroValue 4).run Tryz.prog w = .ok (.bool false) w := by kernel_rfl
 simp [Instr.typeAssert, run_underlying Tryz.underlying4, go_sem, Result.andThen, hz]
theorem ta_2_2 (v : Value) (w : World) : (Instr.typeAssert (.iface 2 v) 20 2 true).run Tryz.prog w = .ok (.tuple #[v, .bool true]) w := by
 simp [Instr.typeAssert, run_underlying Tryz.underlying2, go_sem, Result.andThen]
theorem ta_26_4 (v : Value) (w : World) : (Instr.typeAssert (.iface 58 v) 20 4 true).run Tryz.prog w = .ok (.tuple #[.bool false, .bool false]) w := by
 have hz : (zeroValue 4).run Tryz.prog w = .ok (.bool false) w := by kernel_rfl
 simp [Instr.typeAssert, run_underlying Tryz.underlying4, go_sem, Result.andThen, hz]
theorem ta_26_2 (v : Value) (w : World) : (Instr.typeAssert (.iface 58 v) 20 2 true).run Tryz.prog w = .ok (.tuple #[.int .i64 0, .bool false]) w := by
 have hz : (zeroValue 2).run Tryz.prog w = .ok (.int .i64 0) w := by kernel_rfl
 simp [Instr.typeAssert, run_underlying Tryz.underlying2, go_sem, Result.andThen, hz]
theorem ta_26_26 (v : Value) (w : World) : (Instr.typeAssert (.iface 58 v) 20 58 true).run Tryz.prog w = .ok (.tuple #[v, .bool true]) w := by
 simp [Instr.typeAssert, run_underlying Tryz.underlying58, go_sem, Result.andThen]
theorem ta_9_4 (v : Value) (w : World) : (Instr.typeAssert (.iface 9 v) 20 4 true).run Tryz.prog w = .ok (.tuple #[.bool false, .bool false]) w := by
 have hz : (zeroValue 4).run Tryz.prog w = .ok (.bool false) w := by kernel_rfl
 simp [Instr.typeAssert, run_underlying Tryz.underlying4, go_sem, Result.andThen, hz]
theorem ta_9_2 (v : Value) (w : World) : (Instr.typeAssert (.iface 9 v) 20 2 true).run Tryz.prog w = .ok (.tuple #[.int .i64 0, .bool false]) w := by
 have hz : (zeroValue 2).run Tryz.prog w = .ok (.int .i64 0) w := by kernel_rfl
 simp [Instr.typeAssert, run_underlying Tryz.underlying2, go_sem, Result.andThen, hz]
theorem ta_9_26 (v : Value) (w : World) : (Instr.typeAssert (.iface 9 v) 20 58 true).run Tryz.prog w = .ok (.tuple #[.float .f32 0, .bool false]) w := by
 have hz : (zeroValue 58).run Tryz.prog w = .ok (.float .f32 0) w := by kernel_rfl
 simp [Instr.typeAssert, run_underlying Tryz.underlying58, go_sem, Result.andThen, hz]
theorem ta_9_9 (v : Value) (w : World) : (Instr.typeAssert (.iface 9 v) 20 9 true).run Tryz.prog w = .ok (.tuple #[v, .bool true]) w := by
 simp [Instr.typeAssert, run_underlying Tryz.underlying9, go_sem, Result.andThen]
theorem ta_24_4 (v : Value) (w : World) : (Instr.typeAssert (.iface 59 v) 20 4 true).run Tryz.prog w = .ok (.tuple #[.bool false, .bool false]) w := by
 have hz : (zeroValue 4).run Tryz.prog w = .ok (.bool false) w := by kernel_rfl
 simp [Instr.typeAssert, run_underlying Tryz.underlying4, go_sem, Result.andThen, hz]
theorem ta_24_2 (v : Value) (w : World) : (Instr.typeAssert (.iface 59 v) 20 2 true).run Tryz.prog w = .ok (.tuple #[.int .i64 0, .bool false]) w := by
 have hz : (zeroValue 2).run Tryz.prog w = .ok (.int .i64 0) w := by kernel_rfl
 simp [Instr.typeAssert, run_underlying Tryz.underlying2, go_sem, Result.andThen, hz]
theorem ta_24_26 (v : Value) (w : World) : (Instr.typeAssert (.iface 59 v) 20 58 true).run Tryz.prog w = .ok (.tuple #[.float .f32 0, .bool false]) w := by
 have hz : (zeroValue 58).run Tryz.prog w = .ok (.float .f32 0) w := by kernel_rfl
 simp [Instr.typeAssert, run_underlying Tryz.underlying58, go_sem, Result.andThen, hz]
theorem ta_24_9 (v : Value) (w : World) : (Instr.typeAssert (.iface 59 v) 20 9 true).run Tryz.prog w = .ok (.tuple #[.string ⟨#[]⟩, .bool false]) w := by
 have hz : (zeroValue 9).run Tryz.prog w = .ok (.string ⟨#[]⟩) w := by kernel_rfl
 simp [Instr.typeAssert, run_underlying Tryz.underlying9, go_sem, Result.andThen, hz]
theorem ta_24_24 (v : Value) (w : World) : (Instr.typeAssert (.iface 59 v) 20 59 true).run Tryz.prog w = .ok (.tuple #[v, .bool true]) w := by
 simp [Instr.typeAssert, run_underlying Tryz.underlying59, go_sem, Result.andThen]
end Go.Proofs.YtfpcpociejefaaaGreatDoor

/- Lists that are lent with marksB behind them: what is lent, and that it is as it was. -/
namespace Go.Proofs.YtfpcpociejefaaaGreatDoor
open Go.RowKit Go.PlainAid Go.Lib
theorem take_snoc (l : List UInt8) (i : Nat) (h : i < l.length) : l.take (i + 1) = l.take i ++ [l.getD i 0] := by
 rw [List.take_succ_eq_append_getElem h, List.getD_eq_getElem?_getD, List.getElem?_eq_getElem h]
 rfl
def mkN (k i : Nat) : Nat := 11400714819323198485 * (1000003 * (k + 7) + i) % 18446744073709551616 / 72057594037927936
def mkB (k i : Nat) : UInt8 := (mkN k i).toUInt8
def marksB (k n : Nat) : List UInt8 := (List.range n).map (mkB k)
end Go.Proofs.YtfpcpociejefaaaGreatDoor
