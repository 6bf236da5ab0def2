/- What is read at the beginning of some bytes, for every slice of bytes: a byte, a number, a turned one, a key, a text, some bytes. -/
import Derived.Test.YtjdihnkcigoajaaGreatDoorRdW
import Derived.Laws.BytesString
import Derived.Test.YtjdihnkcigoajaaGreatDoorOwn
import Derived.Test.YtjdihnkcigoajaaGreatDoorWrW
import Derived.Shelf.Small.Wraps
import Derived.Shelf.Strings.Prefix
import Derived.Shelf.Strings.OnBuilder
import Derived.Test.YtjdihnkcigoajaaGreatDoorProg
import Derived.Lib.SlBytesConst
import Derived.Deep.RegionLaw

namespace Go.Proofs.YtjdihnkcigoajaaGreatDoor
open Go.RowKit Go.PlainAid Go.Lib

theorem numG_size : ∀ (l : List UInt8) (i acc : Nat), (numG l i acc).2.2 ≠ 0 ∧ (numG l i acc).2.1 = 0 ∧ (numG l i acc).1 = 0 ∨ (numG l i acc).2.2 = 0 ∧ i < (numG l i acc).2.1 ∧ (numG l i acc).2.1 ≤ i + l.length
  | [], i, acc => .inl ⟨by simp [numG], rfl, rfl⟩
  | c :: r, i, acc => by
    rw [numG]
    split
    · exact .inl ⟨by simp, rfl, rfl⟩
    · split
      · exact .inr ⟨rfl, by simp, by simp⟩
      · rcases numG_size r (i + 1) (acc + c.toNat % 128 * 128 ^ i) with h | ⟨h1, h2, h3⟩
        · exact .inl h
        · exact .inr ⟨h1, by omega, by simp; omega⟩

theorem numG_lt : ∀ (l : List UInt8) (i acc : Nat), i ≤ 9 → acc < 128 ^ i → (numG l i acc).1 < 18446744073709551616 ∧ (numG l i acc).2.1 ≤ 10
  | [], i, acc, _, _ => by simp [numG]
  | c :: r, i, acc, hi, hacc => by
    rw [numG]
    split
    · simp
    · rename_i hE
      split
      · rename_i hD
        exact ⟨step_lt acc c.toNat i hacc hi (by omega), by simp; omega⟩
      · rename_i hD
        exact numG_lt r (i + 1) _ (by omega) (next_lt acc c.toNat i hacc)

theorem numL_size (l : List UInt8) : (numL l).2.1 ≤ l.length := by
  rcases numG_size l 0 0 with ⟨_, h, _⟩ | ⟨_, _, h⟩
  · unfold numL; rw [h]; exact Nat.zero_le _
  · unfold numL; omega
theorem numL_lt (l : List UInt8) : (numL l).1 < 18446744073709551616 := (numG_lt l 0 0 (by omega) (by decide)).1
theorem numL_zero (l : List UInt8) (h : (numL l).2.2 ≠ 0) : (numL l).1 = 0 ∧ (numL l).2.1 = 0 := by
  rcases numG_size l 0 0 with ⟨_, h1, h2⟩ | ⟨h1, _, _⟩
  · exact ⟨h2, h1⟩
  · exact absurd h1 h

def byteL (l : List UInt8) : Nat × Nat × Int := match l with | [] => (0, 0, 20) | c :: _ => (c.toNat, 1, 0)

end Go.Proofs.YtjdihnkcigoajaaGreatDoor



/- What is read at the beginning of some bytes: a text, some bytes. -/
namespace Go.Proofs.YtjdihnkcigoajaaGreatDoor
open Go.RowKit Go.PlainAid Go.Lib

def rawL (l : List UInt8) (n : Int) : List UInt8 × Nat × Int := if n < 0 then ([], 0, 2) else if (l.length : Int) < n then ([], 0, 20) else (l.take n.toNat, n.toNat, 0)

theorem rawL_size (l : List UInt8) (n : Int) : (rawL l n).2.1 ≤ l.length := by
  unfold rawL
  split
  · simp
  · split
    · simp
    · simp; omega

/-- what firstRaw leaves: its own bytes -/
def RawP (w : World) (r : List UInt8) (x : Value) (w1 : World) : Prop := Row w1 x r ∧ Fresh w w1 x ∧ Sl x r.length

end Go.Proofs.YtjdihnkcigoajaaGreatDoor



/- What is read at the beginning of some bytes: a text of at most so many bytes. -/
namespace Go.Proofs.YtjdihnkcigoajaaGreatDoor
open Go.RowKit Go.PlainAid Go.Lib

def textL (l : List UInt8) (most : Int) : List UInt8 × Nat × Int :=
  if most < 0 then ([], 0, 2) else if (numL l).2.2 ≠ 0 then ([], 0, (numL l).2.2) else if most < ((numL l).1 : Nat) then ([], 0, 3)
  else if l.length - (numL l).2.1 < (numL l).1 then ([], 0, 20) else ((l.drop (numL l).2.1).take (numL l).1, (numL l).2.1 + (numL l).1, 0)

theorem textL_size (l : List UInt8) (most : Int) : (textL l most).2.1 ≤ l.length := by
  have := numL_size l
  unfold textL
  repeat' split
  all_goals simp
  omega

end Go.Proofs.YtjdihnkcigoajaaGreatDoor



/-
  DERIVED: THE SHELF's CONTRACTS AT THIS DUMP, IN PLAIN WORDS (tools/lay-plain.mjs out of 'TryzShelf.lean', which tools/lay-shelf.mjs wrote): THE SAME DECLARATIONS UNDER THE SAME NAMES: 'import', 'namespace', 'open', 'def', 'theorem' AND NOTHING ELSE: no command of the shelf's: FOR A HAND-IN. Each laying: the table of numbers ('.._ren') and one theorem, a field a fact of the dump's own or the kernel's comparison; each contract: ONE APPLICATION.
-/
namespace Go.Proofs
open Go.Shelf
def Tryz.lays99_ren : Go.Shelf.Ren := ⟨fun | 99 => 117 | 206 => 134 | n => n, fun | 9 => 9 | 4 => 4 | 3 => 3 | n => n, fun | n => n⟩
theorem Tryz.lays99 : Go.Proofs.Lays.n99 Tryz.prog Tryz.lays99_ren := {
  mixed := by kernel_rfl
  f99 := Tryz.func117.trans (congrArg some (by kernel_rfl))
  f206 := Tryz.func134.trans (congrArg some (by kernel_rfl))
  t3 := Tryz.underlying3
  a3 := Tryz.isAgg3
  z3 := Tryz.sizeOf3
  v3 := Tryz.zeroValue3
  t4 := Tryz.underlying4
  a4 := Tryz.isAgg4
  z4 := Tryz.sizeOf4
  v4 := Tryz.zeroValue4
  t9 := Tryz.underlying9
  a9 := Tryz.isAgg9
  z9 := Tryz.sizeOf9
  v9 := Tryz.zeroValue9 }
def Tryz.lays156_ren : Go.Shelf.Ren := ⟨fun | 156 => 60 | 165 => 82 | 166 => 83 | 169 => 84 | 240 => 103 | 241 => 104 | 276 => 119 | 277 => 120 | n => n, fun | 31 => 23 | 9 => 9 | 3 => 3 | 4 => 4 | 0 => 0 | 20 => 20 | 72 => 102 | 76 => 106 | 70 => 100 | 37 => 31 | 75 => 105 | 127 => 127 | 164 => 139 | 5 => 5 | 80 => 108 | n => n, fun | n => n⟩
theorem Tryz.lays156 : Go.Proofs.Lays.n156 Tryz.prog Tryz.lays156_ren := {
  mixed := by kernel_rfl
  f156 := Tryz.func60.trans (congrArg some (by kernel_rfl))
  f165 := Tryz.func82.trans (congrArg some (by kernel_rfl))
  f166 := Tryz.func83.trans (congrArg some (by kernel_rfl))
  f169 := Tryz.func84.trans (congrArg some (by kernel_rfl))
  f240 := Tryz.func103.trans (congrArg some (by kernel_rfl))
  f241 := Tryz.func104.trans (congrArg some (by kernel_rfl))
  f276 := Tryz.func119.trans (congrArg some (by kernel_rfl))
  f277 := Tryz.func120.trans (congrArg some (by kernel_rfl))
  t0 := Tryz.underlying0
  a0 := Tryz.isAgg0
  z0 := Tryz.sizeOf0
  v0 := Tryz.zeroValue0
  t3 := Tryz.underlying3
  a3 := Tryz.isAgg3
  z3 := Tryz.sizeOf3
  v3 := Tryz.zeroValue3
  t4 := Tryz.underlying4
  a4 := Tryz.isAgg4
  z4 := Tryz.sizeOf4
  v4 := Tryz.zeroValue4
  t9 := Tryz.underlying9
  a9 := Tryz.isAgg9
  z9 := Tryz.sizeOf9
  v9 := Tryz.zeroValue9
  t20 := Tryz.underlying20
  a20 := Tryz.isAgg20
  z20 := Tryz.sizeOf20
  v20 := Tryz.zeroValue20
  t31 := Tryz.underlying23
  a31 := Tryz.isAgg23
  z31 := Tryz.sizeOf23
  v31 := Tryz.zeroValue23
  t37 := Tryz.underlying31
  a37 := Tryz.isAgg31
  z37 := Tryz.sizeOf31
  v37 := Tryz.zeroValue31
  t70 := Tryz.underlying100
  a70 := Tryz.isAgg100
  z70 := Tryz.sizeOf100
  v70 := Tryz.zeroValue100
  t72 := Tryz.underlying102
  a72 := Tryz.isAgg102
  z72 := Tryz.sizeOf102
  v72 := Tryz.zeroValue102
  t75 := Tryz.underlying105
  a75 := Tryz.isAgg105
  z75 := Tryz.sizeOf105
  v75 := Tryz.zeroValue105
  t76 := Tryz.underlying106
  a76 := Tryz.isAgg106
  z76 := Tryz.sizeOf106
  v76 := Tryz.zeroValue106
  t127 := Tryz.underlying127
  a127 := Tryz.isAgg127
  z127 := Tryz.sizeOf127
  v127 := Tryz.zeroValue127
  t164 := Tryz.underlying139
  a164 := Tryz.isAgg139
  z164 := Tryz.sizeOf139
  v164 := Tryz.zeroValue139 }
theorem Tryz.Builder_Extra_156 : Builder.Extra Tryz.prog Tryz.lays156_ren := {
  sizeBuilder := by kernel_rfl
  liesBuilder := by kernel_rfl
  t5 := Tryz.underlying5
  a5 := Tryz.isAgg5
  z5 := Tryz.sizeOf5
  v5 := Tryz.zeroValue5
  infoByte := by kernel_rfl
  cellsByte := by kernel_rfl
  sizeByte := by kernel_rfl
  neB5 := by decide }
end Go.Proofs


/- Rows of bytes that may be full; bytes as texts. -/
namespace Go.Proofs.YtjdihnkcigoajaaGreatDoor
open Go.RowKit Go.PlainAid

def ba (l : List UInt8) : ByteArray := ⟨l.toArray⟩
theorem ba_toList (l : List UInt8) : (ba l).toList = l := ByteArray.toList_mk l
theorem ba_size (l : List UInt8) : (ba l).size = l.length := by unfold ba; simp [ByteArray.size]
theorem ba_bt (l : List UInt8) (k : Nat) (h : k < l.length) : bt (ba l) k = ((l[k]).toNat : Int) := by
  unfold bt
  rw [dif_pos (by rw [ba_size]; exact h)]
  rfl
theorem bal_app (a b : List UInt8) : ba a ++ ba b = ba (a ++ b) := by
  apply ByteArray.ext
  unfold ba
  simp [ByteArray.data_append]
theorem ba_data (l : List UInt8) : (ba l).data.toList = l := by unfold ba; simp
theorem bal_drop (a b : List UInt8) : (ba (a ++ b)).extract a.length (a ++ b).length = ba b := by
  apply ByteArray.ext
  unfold ba
  simp

/-- bytes that are written as they are -/
def Plain (l : List UInt8) : Prop := ∀ c ∈ l, c ≠ 34 ∧ c ≠ 92 ∧ 32 ≤ c.toNat ∧ c.toNat ≤ 126

theorem row_one (w : World) (c : UInt8) : Row (w.alloc (.cells #[.int .u8 (c.toNat : Int)] 5 (0, 0))) (.slice (some ⟨w.heap.size, 0, none⟩) 1 1) [c] :=
  World.ownsRow_lit w #[.int .u8 (c.toNat : Int)] 1 (Nat.zero_le _) (by unfold maxLen; omega) rfl

/-- bytes that can be appended to: a row of one's own, or a full one -/
def RowX (w : World) (v : Value) (l : List UInt8) : Prop := Row w v l ∨ (Bs w v l ∧ ∃ b, v = .slice (some ⟨b, 0, none⟩) l.length l.length)
theorem RowX.bs {w : World} {v : Value} {l : List UInt8} (h : RowX w v l) : Bs w v l := by
  rcases h with h | h
  · exact h.bs
  · exact h.1
theorem RowX.keep {F : List Nat} {w w' : World} {v : Value} {l : List UInt8} (h : RowX w v l) (k : Keep F w w') (hn : Off v F) : RowX w' v l := by
  rcases h with h | h
  · exact .inl (h.keep k hn)
  · exact .inr ⟨h.1.keep k hn, h.2⟩

theorem run_appF (w : World) (t tx ty : TypeId) (ht : Tryz.prog.underlying t = some (.slice TB)) (g : Nat) (l : List UInt8) (hb : Bs w (.slice (some ⟨g, 0, none⟩) l.length l.length) l) (x : Value) (r : List UInt8) (hs : Src Tryz.prog 1 tx x r.length (bv r) w)
    (hr0 : r ≠ []) (hbytes : l.length + r.length ≤ 140737488355328) :
    ∃ v' w', (Builtin.append_ #[t, tx] ty #[.slice (some ⟨g, 0, none⟩) l.length l.length, x]).run Tryz.prog w = .ok v' w' ∧ Row w' v' (l ++ r) ∧ Keep [] w w' ∧ Fresh w w' v' ∧ Sl v' (l.length + r.length) := by
  obtain ⟨i, hi, hz, hsize, hby⟩ := info_parts infoB
  have hrl : 0 < r.length := by cases r; exact absurd rfl hr0; simp
  have h63 : l.length + r.length ≤ maxLen := by simp only [maxLen]; omega
  have hs' : Src Tryz.prog i.size tx x r.length (bv r) w := by rw [hsize]; exact hs
  have holds : ∀ j u, (bv l)[j]? = some u → w.cell? ((⟨g, 0, none⟩ : Addr).add j) = some u := by
    intro j u hu
    have hj : j < l.length := by
      have := (List.getElem?_eq_some_iff.1 hu).1
      simpa [bv_length] using this
    rcases hb.cases with ⟨rfl, _⟩ | ⟨_, b, o, cap, e, _, _, _, hc⟩
    · simp at hj
    · simp at e
      obtain ⟨⟨rfl, rfl⟩, _⟩ := e
      rw [bv_get l j hj] at hu
      have hadd : (⟨g, 0, none⟩ : Addr).add j = ⟨g, 0 + j, none⟩ := by unfold Addr.add; split <;> simp_all
      rw [hadd, hc j hj, List.getD_eq_getElem?_getD, List.getElem?_eq_getElem hj]
      exact hu
  have hr := run_append_grow_src (P := Tryz.prog) w t tx ty TB i (.int .u8 0) ht hi hz (some ⟨g, 0, none⟩) l.length l.length (bv l) (run_firstCells_some w.drew i.size l.length ⟨g, 0, none⟩ l.length l.length (bv l) (by rw [hsize]; simp [bv_length]) (by simpa using holds)) x r.length (bv r) hs' (by omega) (by simp only [maxLen] at h63; omega)
    (by rw [hby]; exact growslice_fits (bytes := 1) (by omega) (by omega))
  refine ⟨_, _, hr, ?_, ((Keep.refl _ w).drew).alloc _, ?_, ⟨_, _, rfl⟩⟩
  · have hge := grownCap_ge w (l.length + r.length) l.length TB
    have hcm : grownCap w (l.length + r.length) l.length TB ≤ maxLen := grownCap_le_maxLen w _ _ TB h63
    refine ⟨by simp [bv_length], .inr ⟨w.heap.size, _, _, by simp, Nat.zero_le _, heap_alloc_new w.drew _, by simpa using hge, hcm, ?_, ?_⟩⟩
    · simp only [Array.size_append, List.size_toArray, size_zeroCells, List.length_append, bv_length]
      simp [Value.cells]
      omega
    · simp only [Array.toList_append, bv_append]
      rw [List.take_append_of_le_length (by simp [bv_length])]
      exact List.take_of_length_le (by simp [bv_length])
  · intro k hk
    simp [Value.ownBlock] at hk
    subst hk
    exact ⟨Nat.le_refl _, by simp⟩
theorem wp_appX {ops : Array Oper} {rest : List Oper} {o : Oper} {a : Act} {w : World} {Q : Exit → Act → World → Prop} (hgd : o.guard = none) (s x : Operand) (t tx : TypeId)
    (ho : o.op = .call { callee := .builtin .append, args := #[s, x], argTypes := #[t, tx] }) (ht : Tryz.prog.underlying t = some (.slice TB))
    (v : Value) (l : List UInt8) (hv : a.eval s = v) (hown : RowX w v l) (u : Value) (r : List UInt8) (hu : a.eval x = u) (hs : Src Tryz.prog 1 tx u r.length (bv r) w)
    (hr0 : r ≠ []) (hbytes : l.length + r.length ≤ 140737488355328)
    (h : ∀ v' w', Row w' v' (l ++ r) → Keep v.ownBlock.toList w w' → (v'.ownBlock = v.ownBlock ∨ Fresh w w' v') → Sl v' (l.length + r.length) → wpList Tryz.prog ops Q rest (a.put o.dst v') w') : wpList Tryz.prog ops Q (o :: rest) a w := by
  rcases hown with hown | ⟨hb, g, e⟩
  · exact wp_app hgd s x t tx ho ht v l hv hown u r hu hs hbytes h
  · subst e
    obtain ⟨v', w', hr, h1, h2, h3, h4⟩ := run_appF w t tx o.type ht g l hb u r hs hr0 hbytes
    refine wpList_plain hgd fun K hK => ?_
    unfold Oper.wp execOp
    simp only [ho, resolve, invoke, builtin, Sem.run_bind, Sem.run_pure, Result.andThen_ok, List.map_toArray, List.map_cons, List.map_nil, hv, hu, hr]
    exact hK _ _ (h v' w' h1 (h2.mono (fun _ h => by cases h)) (.inr h3) h4)

end Go.Proofs.YtjdihnkcigoajaaGreatDoor


/- A row of one's own, of elements of any type: an append to it, and that what it was before still reads as it did. -/
namespace Go.Proofs.YtjdihnkcigoajaaGreatDoor
open Go.RowKit Go.PlainAid

abbrev RowC (w : World) (E : TypeId) (s : Nat) (v : Value) (n : Nat) (xs : List Value) : Prop := w.ownsRow 0 E s v n xs

theorem RowC.keep {F : List Nat} {w w' : World} {E : TypeId} {s : Nat} {v : Value} {n : Nat} {xs : List Value} (h : RowC w E s v n xs) (k : Keep F w w') (hn : Off v F) : RowC w' E s v n xs := by
  refine ⟨h.1, ?_⟩
  rcases h.2 with hz | ⟨g, cap, cur, rfl, hb, hg, r⟩
  · exact .inl hz
  · exact .inr ⟨g, cap, cur, rfl, hb, (k.block g (Array.getElem?_eq_some_iff.1 hg).1 (hn g rfl)).trans hg, r⟩
theorem RowC.lt {w : World} {E : TypeId} {s : Nat} {v : Value} {n : Nat} {xs : List Value} (h : RowC w E s v n xs) : ∀ k, v.ownBlock = some k → k < w.heap.size := fun k hk => (World.ownsRow.lt h k hk).2
/-- nothing; or an address, and the cells behind it -/
theorem RowC.cases {w : World} {E : TypeId} {s : Nat} {v : Value} {n : Nat} {xs : List Value} (h : RowC w E s v n xs) : (n = 0 ∧ xs = [] ∧ v = .slice none 0 0) ∨
    ∃ g cap, v = .slice (some ⟨g, 0, none⟩) n cap ∧ n ≤ cap ∧ cap ≤ 9223372036854775807 ∧ g < w.heap.size ∧ (∀ j, j < n * s → w.cell? ⟨g, j, none⟩ = xs[j]?) ∧ ∀ j, w.frozen? ⟨g, j, none⟩ = false := by
  have h0 := h
  rcases h.2 with ⟨rfl, rfl⟩ | ⟨g, cap, cur, rfl, hb, hg, hnc, hcm, hcs, htake⟩
  · exact .inl ⟨rfl, List.eq_nil_of_length_eq_zero (by simpa using h.1), rfl⟩
  · refine .inr ⟨g, cap, rfl, hnc, by simp only [maxLen] at hcm; omega, h0.lt g rfl, fun j hj => World.ownsRow.cellAt h0 j hj, fun j => World.ownsRow.frozenAt h0 j⟩

theorem run_appC {P : Program} {E : TypeId} {z : Value} {s nb : Nat} (hinfo : (P.info? E).map (fun i => (i.zero, i.size, i.bytes)) = some (some z, s, nb)) (hzs : z.cells.size = s)
    (w : World) (t tx ty : TypeId) (ht : P.underlying t = some (.slice E)) (v : Value) (n : Nat) (xs : List Value) (hown : RowC w E s v n xs) (x : Value) (m : Nat) (ys : List Value) (hs : Src P s tx x m ys w)
    (hbytes : (n + m) * nb ≤ 140737488355328) (h63 : n + m ≤ maxLen) :
    ∃ v' w', (Builtin.append_ #[t, tx] ty #[v, x]).run P w = .ok v' w' ∧ RowC w' E s v' (n + m) (xs ++ ys) ∧ Keep v.ownBlock.toList w w' ∧ (v'.ownBlock = v.ownBlock ∨ Fresh w w' v') ∧ Sl v' (n + m) ∧ RowC w' E s v n xs := by
  obtain ⟨i, hi, hz, hsize, hby⟩ := info_parts hinfo
  have hxl : xs.length = n * s := hown.1
  have hyl : ys.length = m * s := hs.newsLen
  have hs' : Src P i.size tx x m ys w := by rw [hsize]; exact hs
  have hmul : (n + m) * s = n * s + m * s := Nat.add_mul _ _ _
  have grown : ∀ (old : Nat), old < n + m →
      RowC (w.drew.alloc (.cells ((xs ++ ys).toArray ++ Builtin.zeroCells z.cells (grownCap w (n + m) old E - (n + m))) E)) E s (.slice (some ⟨w.heap.size, 0, none⟩) (n + m) (grownCap w (n + m) old E)) (n + m) (xs ++ ys) ∧
      Keep [] w (w.drew.alloc (.cells ((xs ++ ys).toArray ++ Builtin.zeroCells z.cells (grownCap w (n + m) old E - (n + m))) E)) ∧
      Fresh w (w.drew.alloc (.cells ((xs ++ ys).toArray ++ Builtin.zeroCells z.cells (grownCap w (n + m) old E - (n + m))) E)) (.slice (some ⟨w.heap.size, 0, none⟩) (n + m) (grownCap w (n + m) old E)) := by
    intro old ho
    have hge := grownCap_ge w (n + m) old E
    have hcm : grownCap w (n + m) old E ≤ maxLen := grownCap_le_maxLen w _ old E h63
    refine ⟨⟨by simp [hxl, hyl, hmul], .inr ⟨w.heap.size, _, _, rfl, Nat.zero_le _, heap_alloc_new w.drew _, hge, hcm, ?_, ?_⟩⟩, ((Keep.refl _ w).drew).alloc _, ?_⟩
    · simp only [Array.size_append, List.size_toArray, size_zeroCells, List.length_append, hxl, hyl, hzs]
      rw [← hmul, ← Nat.add_mul]
      congr 1
      omega
    · simp only [Array.toList_append]
      rw [List.take_append_of_le_length (by simp [hxl, hyl, hmul])]
      exact List.take_of_length_le (by simp [hxl, hyl, hmul])
    · intro k hk
      simp [Value.ownBlock] at hk
      subst hk
      exact ⟨Nat.le_refl _, by simp⟩
  have hown0 := hown
  rcases hown.2 with ⟨rfl, rfl⟩ | ⟨g, cap, cur, rfl, hbg, hg, hnc, hcm, hcs, htake⟩
  · have hx0 : xs = [] := List.eq_nil_of_length_eq_zero (by simpa using hxl)
    subst hx0
    by_cases hm : m = 0
    · subst hm
      have hy0 : ys = [] := List.eq_nil_of_length_eq_zero (by simpa using hyl)
      subst hy0
      refine ⟨.slice none 0 0, w, ?_, World.ownsRow_nil w 0 E s, Keep.refl _ w, .inl rfl, ⟨none, 0, rfl⟩, hown0⟩
      have hc := hs'.cells
      have hl := hs'.len
      rcases hs'.kind with ⟨e', hk⟩ | hk <;>
        simp [Builtin.append_, run_underlying ht, run_underlying hk, sizeOf, typeInfo, hi, hl, hc]
    · have hr := run_append_grow_src (P := P) w t tx ty E i z ht hi hz none 0 0 [] (run_firstCells_none w.drew i.size 0 0 0) x m ys hs' (by omega) (by simp only [maxLen] at h63; omega)
        (by rw [hby]; exact growslice_fits (by omega) hbytes)
      obtain ⟨g1, g2, g3⟩ := grown 0 (by omega)
      exact ⟨_, _, hr, g1, g2.mono (fun _ h => by cases h), .inr g3, ⟨_, _, rfl⟩, World.ownsRow_nil _ 0 E s⟩
  · by_cases hroom : n + m ≤ cap
    · have hfit : n * i.size + ys.length ≤ cur.size := by
        rw [hsize, hcs, hyl, ← hmul]
        exact Nat.mul_le_mul_right _ hroom
      have hst := run_storeCells_at P g (n * i.size) E ys 0 cur w hg (by simpa using hfit) hs'.one
      simp only [Nat.add_zero] at hst
      have hcl : cur.toList.length = cap * s := by rw [Array.length_toList, hcs]
      have hns : n * s ≤ cap * s := Nat.mul_le_mul_right _ hnc
      have hnm : n * s + ys.length ≤ cap * s := by rw [hyl, ← hmul]; exact Nat.mul_le_mul_right _ hroom
      have hsz : (cur.toList.take (n * i.size) ++ ys ++ cur.toList.drop (n * i.size + ys.length)).toArray.size = cap * s := by
        rw [hsize]
        simp only [List.size_toArray, List.length_append, List.length_take, List.length_drop, hcl]
        omega
      refine ⟨.slice (some ⟨g, 0, none⟩) (n + m) cap, w.setRow g (cur.toList.take (n * i.size) ++ ys ++ cur.toList.drop (n * i.size + ys.length)).toArray, ?_, ⟨by simp [hxl, hyl, hmul], .inr ⟨g, cap, _, rfl, Nat.zero_le _, setRow_heap w g cur _ E _ hg, hroom, hcm, hsz, ?_⟩⟩, ?_, .inl rfl, ⟨_, _, rfl⟩, ⟨hxl, .inr ⟨g, cap, _, rfl, Nat.zero_le _, setRow_heap w g cur _ E _ hg, hnc, hcm, hsz, ?_⟩⟩⟩
      · rcases hs'.kind with ⟨e', hk⟩ | hk <;>
          simp [Builtin.append_, run_underlying ht, run_underlying hk, sizeOf, typeInfo, hi, hs'.len, hroom, hs'.cells, Addr.add_lit, hst]
      · rw [hsize, htake]
        simp only []
        rw [List.take_append_of_le_length (by simp [hxl, hyl, hmul])]
        exact List.take_of_length_le (by simp [hxl, hyl, hmul])
      · exact ⟨rfl, rfl, rfl, by simp, fun k _ hk => setRow_other w g k _ (fun e => hk (by simp [Value.ownBlock, e]))⟩
      · rw [hsize, htake, List.append_assoc]
        simp only []
        rw [List.take_append_of_le_length (by omega)]
        exact List.take_of_length_le (by omega)
    · have holds : ∀ j u, xs[j]? = some u → w.cell? ((⟨g, 0, none⟩ : Addr).add j) = some u := World.ownsRow.cells hown (g := g) rfl
      have hr := run_append_grow_src (P := P) w t tx ty E i z ht hi hz (some ⟨g, 0, none⟩) n cap xs (run_firstCells_some w.drew i.size n ⟨g, 0, none⟩ n cap xs (by rw [hsize]; exact hxl) (by simpa using holds)) x m ys hs' (by omega) (by simp only [maxLen] at h63; omega)
        (by rw [hby]; exact growslice_fits (by omega) hbytes)
      obtain ⟨g1, g2, g3⟩ := grown cap (by omega)
      exact ⟨_, _, hr, g1, g2.mono (fun _ h => by cases h), .inr g3, ⟨_, _, rfl⟩, hown0.keep g2 (Off.nil _)⟩

/-- x = append(x, ..): the row goes on by what is appended, and what it was before reads as it did -/
theorem wp_appC {P : Program} {E : TypeId} {z : Value} {sz nb : Nat} (hinfo : (P.info? E).map (fun i => (i.zero, i.size, i.bytes)) = some (some z, sz, nb)) (hzs : z.cells.size = sz)
    {ops : Array Oper} {rest : List Oper} {o : Oper} {a : Act} {w : World} {Q : Exit → Act → World → Prop} (hgd : o.guard = none) (s x : Operand) (t tx : TypeId)
    (ho : o.op = .call { callee := .builtin .append, args := #[s, x], argTypes := #[t, tx] }) (ht : P.underlying t = some (.slice E))
    (v : Value) (n : Nat) (xs : List Value) (hv : a.eval s = v) (hown : RowC w E sz v n xs) (u : Value) (m : Nat) (ys : List Value) (hu : a.eval x = u) (hs : Src P sz tx u m ys w)
    (hbytes : (n + m) * nb ≤ 140737488355328) (h63 : n + m ≤ maxLen)
    (h : ∀ v' w', RowC w' E sz v' (n + m) (xs ++ ys) → Keep v.ownBlock.toList w w' → (v'.ownBlock = v.ownBlock ∨ Fresh w w' v') → Sl v' (n + m) → RowC w' E sz v n xs → wpList P ops Q rest (a.put o.dst v') w') : wpList P ops Q (o :: rest) a w := by
  obtain ⟨v', w', hr, h1, h2, h3, h4, h5⟩ := run_appC hinfo hzs w t tx o.type ht v n xs hown u m ys hs hbytes h63
  refine wpList_plain hgd fun K hK => ?_
  unfold Oper.wp execOp
  simp only [ho, resolve, invoke, builtin, Sem.run_bind, Sem.run_pure, Result.andThen_ok, List.map_toArray, List.map_cons, List.map_nil, hv, hu, hr]
  exact hK _ _ (h v' w' h1 h2 h3 h4 h5)

/-- the same, as one step of a region whose order is left open -/
theorem step_appC {P : Program} {E : TypeId} {z : Value} {sz nb : Nat} (hinfo : (P.info? E).map (fun i => (i.zero, i.size, i.bytes)) = some (some z, sz, nb)) (hzs : z.cells.size = sz)
    {ops : Array Oper} {o : Oper} {a : Act} {w : World} {K : Act → World → Prop} {Q : Exit → Act → World → Prop} {X : Prop} (hg : o.guard = none) (s x : Operand) (t tx : TypeId)
    (ho : o.op = .call { callee := .builtin .append, args := #[s, x], argTypes := #[t, tx] }) (ht : P.underlying t = some (.slice E))
    (v : Value) (n : Nat) (xs : List Value) (hv : a.eval s = v) (hown : RowC w E sz v n xs) (u : Value) (m : Nat) (ys : List Value) (hu : a.eval x = u) (hs : Src P sz tx u m ys w)
    (hbytes : (n + m) * nb ≤ 140737488355328) (h63 : n + m ≤ maxLen)
    (h : ∀ v' w', RowC w' E sz v' (n + m) (xs ++ ys) → Keep v.ownBlock.toList w w' → (v'.ownBlock = v.ownBlock ∨ Fresh w w' v') → Sl v' (n + m) → RowC w' E sz v n xs → K (a.put o.dst v') w') :
    if Region.wanted o (yielded ops a.tmps) = true then Oper.wp P o a w K Q else X := by
  have hw : Region.wanted o (yielded ops a.tmps) = true := by simp [Region.wanted, hg]
  rw [if_pos hw]
  obtain ⟨v', w', hr, h1, h2, h3, h4, h5⟩ := run_appC hinfo hzs w t tx o.type ht v n xs hown u m ys hs hbytes h63
  unfold Oper.wp execOp
  simp only [ho, resolve, invoke, builtin, Sem.run_bind, Sem.run_pure, Result.andThen_ok, List.map_toArray, List.map_cons, List.map_nil, hv, hu, hr]
  exact h v' w' h1 h2 h3 h4 h5

end Go.Proofs.YtjdihnkcigoajaaGreatDoor


/- Texts: their literals, as the program writes them. -/
namespace Go.Proofs.YtjdihnkcigoajaaGreatDoor
open Go.RowKit Go.PlainAid

def hexB (k : Nat) : UInt8 := if k < 10 then UInt8.ofNat (48 + k) else UInt8.ofNat (87 + k)
/-- how a byte is written within a text's literal -/
def escL (c : UInt8) : List UInt8 :=
  if c = 34 ∨ c = 92 then [92, c] else if c = 10 then [92, 110] else if c.toNat < 32 ∨ 126 < c.toNat then [92, 120, hexB (c.toNat / 16), hexB (c.toNat % 16)] else [c]
/-- a text's literal -/
def quoL (l : List UInt8) : List UInt8 := 34 :: l.flatMap escL ++ [34]

theorem row_lit (w : World) (r : List UInt8) (hs : r.length ≤ 100) : Row (w.alloc (.cells (bv r).toArray 5 (0, 0))) (.slice (some ⟨w.heap.size, 0, none⟩) r.length r.length) r := by
  have hl := bv_length r
  have h1 := World.ownsRow_lit (e := 5) (base := 0) (size := 1) w (bv r).toArray r.length (Nat.zero_le _) (by unfold maxLen; omega) (by simp [hl])
  exact h1

theorem step_appX {ops : Array Oper} {o : Oper} {a : Act} {w : World} {K : Act → World → Prop} {Q : Exit → Act → World → Prop} {X : Prop} (hg : o.guard = none) (s x : Operand) (t tx : TypeId)
    (ho : o.op = .call { callee := .builtin .append, args := #[s, x], argTypes := #[t, tx] }) (ht : Tryz.prog.underlying t = some (.slice TB))
    (v : Value) (l : List UInt8) (hv : a.eval s = v) (hown : RowX w v l) (u : Value) (r : List UInt8) (hu : a.eval x = u) (hs : Src Tryz.prog 1 tx u r.length (bv r) w)
    (hr0 : r ≠ []) (hbytes : l.length + r.length ≤ 140737488355328)
    (h : ∀ v' w', Row w' v' (l ++ r) → Keep v.ownBlock.toList w w' → (v'.ownBlock = v.ownBlock ∨ Fresh w w' v') → Sl v' (l.length + r.length) → K (a.put o.dst v') w') :
    if Region.wanted o (yielded ops a.tmps) = true then Oper.wp Tryz.prog o a w K Q else X := by
  have hw : Region.wanted o (yielded ops a.tmps) = true := by simp [Region.wanted, hg]
  rw [if_pos hw]
  have hall : ∃ v' w', (Builtin.append_ #[t, tx] o.type #[v, u]).run Tryz.prog w = .ok v' w' ∧ Row w' v' (l ++ r) ∧ Keep v.ownBlock.toList w w' ∧ (v'.ownBlock = v.ownBlock ∨ Fresh w w' v') ∧ Sl v' (l.length + r.length) := by
    rcases hown with hown | ⟨hb, g, e⟩
    · obtain ⟨v', w', h1, h2, h3, h4, h5⟩ := run_app w t tx o.type ht v l hown u r hs hbytes
      exact ⟨v', w', h1, h2, h3, h4, h5⟩
    · subst e
      obtain ⟨v', w', hr, h1, h2, h3, h4⟩ := run_appF w t tx o.type ht g l hb u r hs hr0 hbytes
      exact ⟨v', w', hr, h1, h2.mono (fun _ h => by cases h), .inr h3, h4⟩
  obtain ⟨v', w', hr, h1, h2, h3, h4⟩ := hall
  unfold Oper.wp execOp
  simp only [ho, resolve, invoke, builtin, Sem.run_bind, Sem.run_pure, Result.andThen_ok, List.map_toArray, List.map_cons, List.map_nil, hv, hu, hr]
  exact h v' w' h1 h2 h3 h4
end Go.Proofs.YtjdihnkcigoajaaGreatDoor
