/- A text's literal, as the document writes it. -/
import Derived.Test.YtfpcpociejefaaaGreatDoorJRefB
import Derived.Deep.RegionLaw

namespace Go.Proofs.YtfpcpociejefaaaGreatDoor
open Go.RowKit Go.PlainAid
/-- how the document's row stands -/
def QI (w wr : World) (b : Value) (l : List UInt8) (k : Nat) : Prop := Row wr b (34 :: (l.take k).flatMap escL) ∧ Keep [] w wr ∧ Fresh w wr b
theorem QI.next {w wr wa w1 : World} {b v' : Value} {l : List UInt8} {k : Nat} {r : List UInt8} (h : QI w wr b l k) (hlt : k < l.length) (he : escL l[k] = r) (ka : Keep [] wr wa) (R : Row w1 v' ((34 :: (l.take k).flatMap escL) ++ r)) (K : Keep b.ownBlock.toList wa w1) (F : v'.ownBlock = b.ownBlock ∨ Fresh wa w1 v') : QI w w1 v' l (k + 1) := by
 obtain ⟨h1, h2, h3⟩ := h
 have hk : Keep [] w w1 := (h2.trans' ka).more K (fun x hx => .inr (h3 x (by simpa using hx)).1)
 refine ⟨?_, hk, ?_⟩
 ·rw [List.take_succ_eq_append_getElem hlt, List.flatMap_append]
  simp only [List.flatMap_cons, List.flatMap_nil, List.append_nil]
  rw [he]
  exact R
 ·rcases F with h | h
  ·intro j hj
   rw [h] at hj
   have := h3 j hj
   exact ⟨this.1, Nat.lt_of_lt_of_le this.2 (Nat.le_trans ka.size K.size)⟩
  ·intro j hj
   exact ⟨Nat.le_trans (Nat.le_trans h2.size ka.size) (h j hj).1, (h j hj).2⟩
theorem step_appR {ops : Array Oper} {o : Oper} {a : Act} {w : World} {K : Act → World → Prop} {Q : Exit → Act → World → Prop} {X : Prop} (hg : o.guard = none) (s x : Operand) (t tx : TypeId)
  (ho : o.op = .call { callee := .builtin .append, args := #[s, x], argTypes := #[t, tx] }) (ht : Tryz.prog.underlying t = some (.slice TB))
  (v : Value) (l : List UInt8) (hv : a.eval s = v) (hown : Row w v l) (u : Value) (r : List UInt8) (hu : a.eval x = u) (hs : Src Tryz.prog 1 tx u r.length (bv r) w)
  (hbytes : l.length + r.length ≤ 140737488355328)
  (h : ∀ v' w', Row w' v' (l ++ r) → Keep v.ownBlock.toList w w' → (v'.ownBlock = v.ownBlock ∨ Fresh w w' v') → Sl v' (l.length + r.length) → K (a.put o.dst v') w') :
  if Region.wanted o (yielded ops a.tmps) = true then Oper.wp Tryz.prog o a w K Q else X := by
 have hw : Region.wanted o (yielded ops a.tmps) = true := by simp [Region.wanted, hg]
 rw [if_pos hw]
 obtain ⟨v', w', hr, h1, h2, h3, h4⟩ := run_app w t tx o.type ht v l hown u r hs hbytes
 unfold Oper.wp execOp
 simp only [ho, resolve, invoke, builtin, Sem.run_bind, Sem.run_pure, Result.andThen_ok, List.map_toArray, List.map_cons, List.map_nil, hv, hu, hr]
 exact h v' w' h1 h2 h3 h4
set_option maxRecDepth 1000000 in
set_option maxHeartbeats 3200000 in
theorem rquoted_all (l : List UInt8) (w : World) (hn : l.length ≤ 1000) :
  Calls Tryz.prog 78 #[.string (ba l)] w fun e w' => e = .returned (.string (ba (quoL l))) ∧ Keep [] w w' := by
 obtain ⟨S, hS⟩ : ∃ S, ba (quoL l) = S := ⟨_, rfl⟩
 rw [hS]
 have HS : Hid (ba (quoL l) = S) := hS
 clear hS
 have hsz : (ba l).size = l.length := ba_size l
 have HG : Hid (∀ i (h : i < (ba l).size), (((ba l)[i]'h).toNat : Int) = bt (ba l) i) := get_bt (ba l)
 have hi : (l.length : Int) ≤ 1000 := by omega
 have HR0 : Hid (QI w (w.alloc (.cells #[.int .u8 34] 5 (0, 0))) (.slice (some ⟨w.heap.size, 0, none⟩) 1 1) l 0) := ⟨row_lit w [34] (by simp), Keep.alloc1 w _, fun k hk => by simp [Value.ownBlock] at hk; subst hk; simp⟩
 go_enter Tryz.func78, Tryz.ntmps78
 go_wp2
 go_loopw [3, 4] (fun b i wr => ∃ k : Nat, k ≤ l.length ∧ i = .int .i64 k ∧ Hid (QI w wr b l k)) (fun _ i _ => l.length - (intOf i).toNat)
 case atStart => exact ⟨0, Nat.zero_le _, rfl, HR0.out⟩
 case round =>
  clear HR0
  obtain ⟨k, hk, rfl, HI⟩ := hrel
  obtain ⟨ao, ca, hv, _⟩ := HI.out.1.bs.ex
  have hel := esc_len (l.take k)
  rw [List.length_take] at hel
  obtain ⟨E, hE9⟩ : ∃ E, (l.take k).flatMap escL = E := ⟨_, rfl⟩
  have HR1 : Hid (Row wr u3 (34 :: E)) := by show Row _ _ _; rw [← hE9]; exact HI.out.1
  rw [hE9] at hel hv
  have HE9 : Hid ((l.take k).flatMap escL = E) := hE9
  have hel2 : E.length ≤ 4000 := by omega
  clear hE9 hel
  rw [List.length_cons] at hv
  subst hv
  by_cases hlt : k < l.length
  ·have hks : k < (ba l).size := by omega
   have hki : (k : Int) < (l.length : Int) := by omega
   have gk : (((ba l)[k]'hks).toNat : Int) = ((l[k]).toNat : Int) := (HG.out k hks).trans (ba_bt l k hlt)
   obtain ⟨c, hc⟩ : ∃ c, l[k] = c := ⟨_, rfl⟩
   have HC : Hid (l[k] = c) := hc
   rw [hc] at gk
   clear hc HG
   by_cases h1 : c = 34
   ·subst h1
    have e0 : (((34 : UInt8).toNat : Nat) : Int) = 34 := rfl
    rw [e0] at gk
    have hesc : Hid (escL 34 = [92, 34]) := by show _ = _; decide
    have HO : Hid (Row (wr.alloc (.cells #[.int .u8 92, .int .u8 34] 5 (0, 0))) (.slice (some ⟨wr.heap.size, 0, none⟩) 2 2) [92, 34]) := row_lit wr [92, 34] (by simp)
    have HR2 : Hid (Row (wr.alloc (.cells #[.int .u8 92, .int .u8 34] 5 (0, 0))) (.slice ao (E.length + 1) ca) (34 :: E)) := HR1.out.keep (Keep.alloc1 wr _) (Off.nil _)
    go_wp2_with (at_builtin; refine wp_app rfl (.tmp 27) (.tmp 29) 33 33 rfl underS (.slice ao (E.length + 1) ca) (34 :: E) rfl HR2.out (.slice (some ⟨wr.heap.size, 0, none⟩) 2 2) [92, 34] rfl HO.out.bs.src (by simp; omega) ?_)
    intro v' w1 R1 K1 F1 S1
    obtain ⟨a9, c9, rfl⟩ := S1
    have HJ : Hid (QI w w1 (.slice a9 (E.length + 1 + 2) c9) l (k + 1)) := QI.next (r := [92, 34]) HI.out hlt ((congrArg escL HC.out).trans hesc.out) (Keep.alloc1 wr _) (by rw [HE9.out]; exact R1) K1 F1
    clear K1 F1 R1 HO HR2 HI HR1 hesc
    go_wp2
    go_roundw
    case rel => exact ⟨k + 1, by omega, by go_num, HJ⟩
    case measure => simp [intOf]; omega
   ·by_cases h2 : c = 92
    ·subst h2
     have e0 : (((92 : UInt8).toNat : Nat) : Int) = 92 := rfl
     rw [e0] at gk
     have hesc : Hid (escL 92 = [92, 92]) := by show _ = _; decide
     have HO : Hid (Row (wr.alloc (.cells #[.int .u8 92, .int .u8 92] 5 (0, 0))) (.slice (some ⟨wr.heap.size, 0, none⟩) 2 2) [92, 92]) := row_lit wr [92, 92] (by simp)
     have HR2 : Hid (Row (wr.alloc (.cells #[.int .u8 92, .int .u8 92] 5 (0, 0))) (.slice ao (E.length + 1) ca) (34 :: E)) := HR1.out.keep (Keep.alloc1 wr _) (Off.nil _)
     go_wp2_with (at_builtin; refine wp_app rfl (.tmp 27) (.tmp 29) 33 33 rfl underS (.slice ao (E.length + 1) ca) (34 :: E) rfl HR2.out (.slice (some ⟨wr.heap.size, 0, none⟩) 2 2) [92, 92] rfl HO.out.bs.src (by simp; omega) ?_)
     intro v' w1 R1 K1 F1 S1
     obtain ⟨a9, c9, rfl⟩ := S1
     have HJ : Hid (QI w w1 (.slice a9 (E.length + 1 + 2) c9) l (k + 1)) := QI.next (r := [92, 92]) HI.out hlt ((congrArg escL HC.out).trans hesc.out) (Keep.alloc1 wr _) (by rw [HE9.out]; exact R1) K1 F1
     clear K1 F1 R1 HO HR2 HI HR1 hesc
     go_wp2
     go_roundw
     case rel => exact ⟨k + 1, by omega, by go_num, HJ⟩
     case measure => simp [intOf]; omega
    ·by_cases h3 : c = 10
     ·subst h3
      have e0 : (((10 : UInt8).toNat : Nat) : Int) = 10 := rfl
      rw [e0] at gk
      have hesc : Hid (escL 10 = [92, 110]) := by show _ = _; decide
      have HO : Hid (Row (wr.alloc (.cells #[.int .u8 92, .int .u8 110] 5 (0, 0))) (.slice (some ⟨wr.heap.size, 0, none⟩) 2 2) [92, 110]) := row_lit wr [92, 110] (by simp)
      have HR2 : Hid (Row (wr.alloc (.cells #[.int .u8 92, .int .u8 110] 5 (0, 0))) (.slice ao (E.length + 1) ca) (34 :: E)) := HR1.out.keep (Keep.alloc1 wr _) (Off.nil _)
      go_wp2_with (at_builtin; refine wp_app rfl (.tmp 34) (.tmp 35) 33 33 rfl underS (.slice ao (E.length + 1) ca) (34 :: E) rfl HR2.out (.slice (some ⟨wr.heap.size, 0, none⟩) 2 2) [92, 110] rfl HO.out.bs.src (by simp; omega) ?_)
      intro v' w1 R1 K1 F1 S1
      obtain ⟨a9, c9, rfl⟩ := S1
      have HJ : Hid (QI w w1 (.slice a9 (E.length + 1 + 2) c9) l (k + 1)) := QI.next (r := [92, 110]) HI.out hlt ((congrArg escL HC.out).trans hesc.out) (Keep.alloc1 wr _) (by rw [HE9.out]; exact R1) K1 F1
      clear K1 F1 R1 HO HR2 HI HR1 hesc
      go_wp2
      go_roundw
      case rel => exact ⟨k + 1, by omega, by go_num, HJ⟩
      case measure => simp [intOf]; omega
     ·have e1 : ((c.toNat : Int) == 34) = false := by
       have : c.toNat ≠ 34 := fun e => h1 (UInt8.toNat_inj.1 e)
       simp; omega
      have e2 : ((c.toNat : Int) == 92) = false := by
       have : c.toNat ≠ 92 := fun e => h2 (UInt8.toNat_inj.1 e)
       simp; omega
      have e3 : ((c.toNat : Int) == 10) = false := by
       have : c.toNat ≠ 10 := fun e => h3 (UInt8.toNat_inj.1 e)
       simp; omega
      by_cases h4 : c.toNat < 32 ∨ 126 < c.toNat
      ·have hesc : Hid (escL c = [92, 120, hexB (c.toNat / 16), hexB (c.toNat % 16)]) := by
        show _ = _
        unfold escL
        rw [if_neg (by simp [h1, h2]), if_neg h3, if_pos h4]
       have hlt2 : c.toNat < 256 := c.toNat_lt
       obtain ⟨a, ha⟩ : ∃ a : Nat, c.toNat / 16 = a := ⟨_, rfl⟩
       obtain ⟨b, hb⟩ : ∃ b : Nat, c.toNat % 16 = b := ⟨_, rfl⟩
       have ha16 : a < 16 := by omega
       have hb16 : b < 16 := by omega
       have hai : (c.toNat : Int) / 16 = (a : Int) := by omega
       have hbi : (c.toNat : Int).tmod 16 = (b : Int) := by rw [Int.tmod_eq_emod_of_nonneg (by omega)]; omega
       obtain ⟨A, hA⟩ : ∃ A : Int, ((hexB a).toNat : Int) = A := ⟨_, rfl⟩
       obtain ⟨B, hB⟩ : ∃ B : Int, ((hexB b).toNat : Int) = B := ⟨_, rfl⟩
       have ga := (hex_at a ha16).trans hA
       have gb := (hex_at b hb16).trans hB
       have ha2 : (a : Int) < 16 := by omega
       have hwa : IntKind.u8.wrap (a : Int) = (a : Int) := by go_arith
       have hwb : IntKind.u8.wrap (b : Int) = (b : Int) := by go_arith
       have hb2 : (b : Int) < 16 := by omega
       rw [ha, hb] at hesc
       have HO2 : Row (wr.alloc (.cells #[.int .u8 92, .int .u8 120, .int .u8 A, .int .u8 B] 5 (0, 0))) (.slice (some ⟨wr.heap.size, 0, none⟩) 4 4) [92, 120, hexB a, hexB b] := by
        have := row_lit wr [92, 120, hexB a, hexB b] (by simp)
        have e : (bv [92, 120, hexB a, hexB b]).toArray = #[.int .u8 92, .int .u8 120, .int .u8 A, .int .u8 B] := by rw [← hA, ← hB]; rfl
        rw [e] at this
        exact this
       obtain ⟨r4, hr4⟩ : ∃ r4 : List UInt8, [92, 120, hexB a, hexB b] = r4 := ⟨_, rfl⟩
       have HL : Hid ([92, 120, hexB a, hexB b] = r4) := hr4
       have hl4 : r4.length = 4 := by rw [← hr4]; rfl
       rw [hr4] at HO2 hesc
       have KD : Keep [] (wr.alloc (.cells #[.int .u8 92, .int .u8 120, .int .u8 A, .int .u8 B] 5 (0, 0))) (wr.alloc (.cells #[.int .u8 92, .int .u8 120, .int .u8 A, .int .u8 B] 5 (0, 0))).drew := (Keep.refl [] _).drew
       have HO : Hid (Src Tryz.prog 1 33 (.slice (some ⟨wr.heap.size, 0, none⟩) 4 4) r4.length (bv r4) (wr.alloc (.cells #[.int .u8 92, .int .u8 120, .int .u8 A, .int .u8 B] 5 (0, 0))).drew) := (HO2.keep KD (Off.nil _)).bs.src
       have HR2 : Hid (Row (wr.alloc (.cells #[.int .u8 92, .int .u8 120, .int .u8 A, .int .u8 B] 5 (0, 0))).drew (.slice ao (E.length + 1) ca) (34 :: E)) := (HR1.out.keep (Keep.alloc1 wr _) (Off.nil _)).keep KD (Off.nil _)
       have HJ0 : Hid (∀ w1 (v9 : Value), Row w1 v9 ((34 :: E) ++ r4) → Keep (Value.slice ao (E.length + 1) ca).ownBlock.toList (wr.alloc (.cells #[.int .u8 92, .int .u8 120, .int .u8 A, .int .u8 B] 5 (0, 0))).drew w1 → (v9.ownBlock = (Value.slice ao (E.length + 1) ca).ownBlock ∨ Fresh (wr.alloc (.cells #[.int .u8 92, .int .u8 120, .int .u8 A, .int .u8 B] 5 (0, 0))).drew w1 v9) → QI w w1 v9 l (k + 1)) := fun w1 v9 R1 K1 F1 =>
        QI.next (r := r4) HI.out hlt ((congrArg escL HC.out).trans hesc.out) ((Keep.alloc1 wr _).drew) (by rw [HE9.out]; exact R1) K1 F1
       clear h1 h2 h3 HO2 KD hr4 ha hb hA hB hl4 hesc HI HR1
       rcases h4 with h4 | h4
       ·have e4 : (c.toNat : Int) < 32 := by omega
        clear h4 hlt2
        go_wp2_with fail
        go_region_law (refine step_appR rfl (.tmp 44) (.tmp 51) 33 33 rfl underS (.slice ao (E.length + 1) ca) (34 :: E) rfl HR2.out (.slice (some ⟨wr.heap.size, 0, none⟩) 4 4) r4 rfl HO.out (by rw [← HL.out]; simp; omega) ?_; intro v' w1 R1 K1 F1 S1; obtain ⟨a9, c9, rfl⟩ := S1; have HJ : Hid (QI w w1 (.slice a9 (E.length + 1 + r4.length) c9) l (k + 1)) := HJ0.out w1 _ R1 K1 F1; clear K1 F1 R1)
        all_goals
         go_wp2
         go_roundw
         case rel => exact ⟨k + 1, by omega, by go_num, HJ⟩
         case measure => simp [intOf]; omega
       ·have e4 : ¬ (c.toNat : Int) < 32 := by omega
        have e5 : 126 < (c.toNat : Int) := by omega
        clear h4 hlt2
        go_wp2_with fail
        go_region_law (refine step_appR rfl (.tmp 44) (.tmp 51) 33 33 rfl underS (.slice ao (E.length + 1) ca) (34 :: E) rfl HR2.out (.slice (some ⟨wr.heap.size, 0, none⟩) 4 4) r4 rfl HO.out (by rw [← HL.out]; simp; omega) ?_; intro v' w1 R1 K1 F1 S1; obtain ⟨a9, c9, rfl⟩ := S1; have HJ : Hid (QI w w1 (.slice a9 (E.length + 1 + r4.length) c9) l (k + 1)) := HJ0.out w1 _ R1 K1 F1; clear K1 F1 R1)
        all_goals
         go_wp2
         go_roundw
         case rel => exact ⟨k + 1, by omega, by go_num, HJ⟩
         case measure => simp [intOf]; omega
      ·have hesc : Hid (escL c = [c]) := by
        show _ = _
        unfold escL
        rw [if_neg (by simp [h1, h2]), if_neg h3, if_neg h4]
       have e4 : ¬ (c.toNat : Int) < 32 := by omega
       have e5 : ¬ 126 < (c.toNat : Int) := by omega
       clear h1 h2 h3 h4
       have HO : Hid (Row (wr.alloc (.cells #[.int .u8 (c.toNat : Int)] 5 (0, 0))) (.slice (some ⟨wr.heap.size, 0, none⟩) 1 1) [c]) := row_lit wr [c] (by simp)
       have HR2 : Hid (Row (wr.alloc (.cells #[.int .u8 (c.toNat : Int)] 5 (0, 0))) (.slice ao (E.length + 1) ca) (34 :: E)) := HR1.out.keep (Keep.alloc1 wr _) (Off.nil _)
       go_wp2_with (at_builtin; refine wp_app rfl (.tmp 16) (.tmp 18) 33 33 rfl underS (.slice ao (E.length + 1) ca) (34 :: E) rfl HR2.out (.slice (some ⟨wr.heap.size, 0, none⟩) 1 1) [c] rfl HO.out.bs.src (by simp; omega) ?_)
       intro v' w1 R1 K1 F1 S1
       obtain ⟨a9, c9, rfl⟩ := S1
       have HJ : Hid (QI w w1 (.slice a9 (E.length + 1 + 1) c9) l (k + 1)) := QI.next (r := [c]) HI.out hlt ((congrArg escL HC.out).trans hesc.out) (Keep.alloc1 wr _) (by rw [HE9.out]; exact R1) K1 F1
       clear K1 F1 R1 HO HR2 HI HR1 hesc
       go_wp2
       go_roundw
       case rel => exact ⟨k + 1, by omega, by go_num, HJ⟩
       case measure => simp [intOf]; omega
  ·obtain rfl : k = l.length := by omega
   have HO : Hid (Row (wr.alloc (.cells #[.int .u8 34] 5 (0, 0))) (.slice (some ⟨wr.heap.size, 0, none⟩) 1 1) [34]) := row_lit wr [34] (by simp)
   have HR2 : Hid (Row (wr.alloc (.cells #[.int .u8 34] 5 (0, 0))) (.slice ao (E.length + 1) ca) (34 :: E)) := HR1.out.keep (Keep.alloc1 wr _) (Off.nil _)
   have hkk : ¬ ((l.length : Nat) : Int) < ((l.length : Nat) : Int) := by omega
   go_wp2_with (at_builtin; refine wp_app rfl (.tmp 53) (.tmp 54) 33 33 rfl underS (.slice ao (E.length + 1) ca) (34 :: E) rfl HR2.out (.slice (some ⟨wr.heap.size, 0, none⟩) 1 1) [34] rfl HO.out.bs.src (by simp; omega) ?_)
   intro v' w1 R1 K1 F1 S1
   obtain ⟨a9, c9, rfl⟩ := S1
   have hst := run_str R1.bs
   have HK : Hid (Keep [] w w1) := (HI.out.2.1.trans' (Keep.alloc1 wr _)).more K1 (fun x hx => .inr (HI.out.2.2 x (by simpa using hx)).1)
   have e2 : (⟨(34 :: (E ++ [34])).toArray⟩ : ByteArray) = S := by
    rw [← HS.out]
    unfold ba quoL
    rw [← HE9.out, List.take_length]
    rfl
   clear K1 F1 R1 HO HR2 HI HR1
   rw [e2] at hst
   go_wp2
   go_ret
   exact ⟨rfl, HK.out⟩
end Go.Proofs.YtfpcpociejefaaaGreatDoor

/- What Kind, Object, Subject and the texts of the document's answer answer, for every input, where its table of words lies in memory. -/
namespace Go.Proofs.YtfpcpociejefaaaGreatDoor
open Go.RowKit Go.PlainAid
theorem id_not_star {l : List UInt8} (h : idL l = true) : (l == [42]) = false := by
 cases e : (l == [42])
 ·rfl
 ·simp at e; subst e; exact absurd h (by decide)
theorem star_not_id {l : List UInt8} (h : (l == [42]) = true) : idL l = false := by
 simp at h; subst h; decide
set_option maxHeartbeats 400000 in
theorem rkind_any (u j r : ByteArray) (w : World) (hW : Words w) :
  Calls Tryz.prog 48 #[.agg #[.string u, .string j, .string r]] w fun e w' => e = .returned (.int .i64 (kindL u.toList j.toList r.toList)) ∧ Below w.heap.size w w' := by
 cases h1 : nameL u.toList
 ·go_enter Tryz.func48, Tryz.ntmps48
  go_wp2_with (first | (go_at_call 46; refine (rname_any _ _ (by first | exact hW | exact hW.alloc | exact hW.alloc.drewN)).mono ?_; rintro e w9 ⟨rfl, hw⟩; obtain rfl := hw.symm) | (go_at_call 47; refine (rid_any _ _).mono ?_; rintro e w9 ⟨rfl, hw⟩; obtain rfl := hw.symm))
  go_ret
  exact ⟨ret_int (by simp [kindL, faultL, h1]), (Below.refl _ _).alloc (Nat.le_refl _) _⟩
 cases h2 : r.toList.isEmpty
 ·cases h3 : idL j.toList
  ·go_enter Tryz.func48, Tryz.ntmps48
   go_wp2_with (first | (go_at_call 46; refine (rname_any _ _ (by first | exact hW | exact hW.alloc | exact hW.alloc.drewN)).mono ?_; rintro e w9 ⟨rfl, hw⟩; obtain rfl := hw.symm) | (go_at_call 47; refine (rid_any _ _).mono ?_; rintro e w9 ⟨rfl, hw⟩; obtain rfl := hw.symm))
   go_ret
   exact ⟨ret_int (by simp [kindL, faultL, h1, h2, h3]), (Below.refl _ _).alloc (Nat.le_refl _) _⟩
  have h4 := id_not_star h3
  cases h5 : nameL r.toList
  ·go_enter Tryz.func48, Tryz.ntmps48
   go_wp2_with (first | (go_at_call 46; refine (rname_any _ _ (by first | exact hW | exact hW.alloc | exact hW.alloc.drewN)).mono ?_; rintro e w9 ⟨rfl, hw⟩; obtain rfl := hw.symm) | (go_at_call 47; refine (rid_any _ _).mono ?_; rintro e w9 ⟨rfl, hw⟩; obtain rfl := hw.symm))
   go_ret
   exact ⟨ret_int (by simp [kindL, faultL, h1, h2, h3, h5]), (Below.refl _ _).alloc (Nat.le_refl _) _⟩
  ·go_enter Tryz.func48, Tryz.ntmps48
   go_wp2_with (first | (go_at_call 46; refine (rname_any _ _ (by first | exact hW | exact hW.alloc | exact hW.alloc.drewN)).mono ?_; rintro e w9 ⟨rfl, hw⟩; obtain rfl := hw.symm) | (go_at_call 47; refine (rid_any _ _).mono ?_; rintro e w9 ⟨rfl, hw⟩; obtain rfl := hw.symm))
   go_ret
   exact ⟨ret_int (by simp [kindL, faultL, h1, h2, h3, h4, h5]), (Below.refl _ _).alloc (Nat.le_refl _) _⟩
 ·cases h3 : idL j.toList
  ·cases h4 : (j.toList == [42])
   ·go_enter Tryz.func48, Tryz.ntmps48
    go_wp2_with (first | (go_at_call 46; refine (rname_any _ _ (by first | exact hW | exact hW.alloc | exact hW.alloc.drewN)).mono ?_; rintro e w9 ⟨rfl, hw⟩; obtain rfl := hw.symm) | (go_at_call 47; refine (rid_any _ _).mono ?_; rintro e w9 ⟨rfl, hw⟩; obtain rfl := hw.symm))
    go_ret
    exact ⟨ret_int (by simp [kindL, faultL, h1, h3, h4]), (Below.refl _ _).alloc (Nat.le_refl _) _⟩
   ·go_enter Tryz.func48, Tryz.ntmps48
    go_wp2_with (first | (go_at_call 46; refine (rname_any _ _ (by first | exact hW | exact hW.alloc | exact hW.alloc.drewN)).mono ?_; rintro e w9 ⟨rfl, hw⟩; obtain rfl := hw.symm) | (go_at_call 47; refine (rid_any _ _).mono ?_; rintro e w9 ⟨rfl, hw⟩; obtain rfl := hw.symm))
    go_ret
    exact ⟨ret_int (by simp [kindL, faultL, h1, h2, h4]), (Below.refl _ _).alloc (Nat.le_refl _) _⟩
  have h4 := id_not_star h3
  go_enter Tryz.func48, Tryz.ntmps48
  go_wp2_with (first | (go_at_call 46; refine (rname_any _ _ (by first | exact hW | exact hW.alloc | exact hW.alloc.drewN)).mono ?_; rintro e w9 ⟨rfl, hw⟩; obtain rfl := hw.symm) | (go_at_call 47; refine (rid_any _ _).mono ?_; rintro e w9 ⟨rfl, hw⟩; obtain rfl := hw.symm))
  go_ret
  exact ⟨ret_int (by simp [kindL, faultL, h1, h2, h3, h4]), (Below.refl _ _).alloc (Nat.le_refl _) _⟩
set_option maxHeartbeats 400000 in
theorem robjText_any (t i : ByteArray) (w : World) (hW : Words w) :
  Calls Tryz.prog 22 #[.agg #[.string t, .string i]] w fun e w' => e = .returned (.tuple #[.string (ba (objTextL t.toList i.toList)), .int .i64 (objErrL t.toList i.toList)]) ∧ Below w.heap.size w w' := by
 cases h1 : nameL t.toList
 ·go_enter Tryz.func22, Tryz.ntmps22
  go_wp2_with (first | (go_at_call 46; refine (rname_any _ _ (by first | exact hW | exact hW.alloc | exact hW.alloc.drewN)).mono ?_; rintro e w9 ⟨rfl, hw⟩; obtain rfl := hw.symm) | (go_at_call 47; refine (rid_any _ _).mono ?_; rintro e w9 ⟨rfl, hw⟩; obtain rfl := hw.symm))
  go_ret2
  exact ⟨ret_si (by simp [objTextL, h1]; rfl) (by simp [objErrL, h1]), (Below.refl _ _).alloc (Nat.le_refl _) _⟩
 cases h2 : idL i.toList
 ·go_enter Tryz.func22, Tryz.ntmps22
  go_wp2_with (first | (go_at_call 46; refine (rname_any _ _ (by first | exact hW | exact hW.alloc | exact hW.alloc.drewN)).mono ?_; rintro e w9 ⟨rfl, hw⟩; obtain rfl := hw.symm) | (go_at_call 47; refine (rid_any _ _).mono ?_; rintro e w9 ⟨rfl, hw⟩; obtain rfl := hw.symm))
  go_ret2
  exact ⟨ret_si (by simp [objTextL, h2]; rfl) (by simp [objErrL, h1, h2]), (Below.refl _ _).alloc (Nat.le_refl _) _⟩
 have l1 := name_len h1
 have l2 := id_len h2
 rw [toList_len] at l1 l2
 go_enter Tryz.func22, Tryz.ntmps22
 go_wp2_with (first | (go_at_call 46; refine (rname_any _ _ (by first | exact hW | exact hW.alloc | exact hW.alloc.drewN)).mono ?_; rintro e w9 ⟨rfl, hw⟩; obtain rfl := hw.symm) | (go_at_call 47; refine (rid_any _ _).mono ?_; rintro e w9 ⟨rfl, hw⟩; obtain rfl := hw.symm))
 go_ret2
 exact ⟨ret_si (ba_of (by simp [objTextL, h1, h2, toList_app])) (by simp [objErrL, h1, h2]), (Below.refl _ _).alloc (Nat.le_refl _) _⟩
set_option maxHeartbeats 400000 in
theorem rsubText_any (t i r : ByteArray) (w : World) (hW : Words w) :
  Calls Tryz.prog 23 #[.agg #[.string t, .string i, .string r]] w fun e w' => e = .returned (.tuple #[.string (ba (subTextL t.toList i.toList r.toList)), .int .i64 (faultL t.toList i.toList r.toList)]) ∧ Below w.heap.size w w' := by
 cases h1 : nameL t.toList
 ·have HF : Hid (faultL t.toList i.toList r.toList = 10) := (by show _ = _; simp [faultL, h1])
  go_enter Tryz.func23, Tryz.ntmps23
  go_wp2_with (first | (go_at_call 46; refine (rname_any _ _ (by first | exact hW | exact hW.alloc | exact hW.alloc.drewN)).mono ?_; rintro e w9 ⟨rfl, hw⟩; obtain rfl := hw.symm) | (go_at_call 47; refine (rid_any _ _).mono ?_; rintro e w9 ⟨rfl, hw⟩; obtain rfl := hw.symm))
  go_ret2
  exact ⟨ret_si (by rw [subTextL, if_pos (by rw [HF.out]; decide)]; rfl) HF.out.symm, (Below.refl _ _).alloc (Nat.le_refl _) _⟩
 cases h2 : r.toList.isEmpty
 ·cases h3 : idL i.toList
  ·cases h4 : (i.toList == [42])
   all_goals
    have HF : Hid (faultL t.toList i.toList r.toList = 11) := (by show _ = _; simp [faultL, h1, h2, h3])
    go_enter Tryz.func23, Tryz.ntmps23
    go_wp2_with (first | (go_at_call 46; refine (rname_any _ _ (by first | exact hW | exact hW.alloc | exact hW.alloc.drewN)).mono ?_; rintro e w9 ⟨rfl, hw⟩; obtain rfl := hw.symm) | (go_at_call 47; refine (rid_any _ _).mono ?_; rintro e w9 ⟨rfl, hw⟩; obtain rfl := hw.symm))
    go_ret2
    exact ⟨ret_si (by rw [subTextL, if_pos (by rw [HF.out]; decide)]; rfl) HF.out.symm, (Below.refl _ _).alloc (Nat.le_refl _) _⟩
  have h4 := id_not_star h3
  cases h5 : nameL r.toList
  ·have HF : Hid (faultL t.toList i.toList r.toList = 10) := (by show _ = _; simp [faultL, h1, h2, h3, h5])
   go_enter Tryz.func23, Tryz.ntmps23
   go_wp2_with (first | (go_at_call 46; refine (rname_any _ _ (by first | exact hW | exact hW.alloc | exact hW.alloc.drewN)).mono ?_; rintro e w9 ⟨rfl, hw⟩; obtain rfl := hw.symm) | (go_at_call 47; refine (rid_any _ _).mono ?_; rintro e w9 ⟨rfl, hw⟩; obtain rfl := hw.symm))
   go_ret2
   exact ⟨ret_si (by rw [subTextL, if_pos (by rw [HF.out]; decide)]; rfl) HF.out.symm, (Below.refl _ _).alloc (Nat.le_refl _) _⟩
  ·have HF : Hid (faultL t.toList i.toList r.toList = 0) := (by show _ = _; simp [faultL, h1, h2, h3, h5])
   obtain ⟨n1, l2, l3⟩ := fault_ok (t := t.toList) (i := i.toList) (r := r.toList) (by rw [HF.out]; rfl)
   have l1 := (name_len n1).2
   rw [toList_len] at l1 l2 l3
   clear n1
   go_enter Tryz.func23, Tryz.ntmps23
   go_wp2_with (first | (go_at_call 46; refine (rname_any _ _ (by first | exact hW | exact hW.alloc | exact hW.alloc.drewN)).mono ?_; rintro e w9 ⟨rfl, hw⟩; obtain rfl := hw.symm) | (go_at_call 47; refine (rid_any _ _).mono ?_; rintro e w9 ⟨rfl, hw⟩; obtain rfl := hw.symm))
   go_ret2
   exact ⟨ret_si (ba_of (by rw [subTextL, if_neg (by rw [HF.out]; decide)]; simp [h2, toList_app])) HF.out.symm, (Below.refl _ _).alloc (Nat.le_refl _) _⟩
 ·cases h4 : (i.toList == [42])
  ·cases h3 : idL i.toList
   ·have HF : Hid (faultL t.toList i.toList r.toList = 11) := (by show _ = _; simp [faultL, h1, h3, h4])
    go_enter Tryz.func23, Tryz.ntmps23
    go_wp2_with (first | (go_at_call 46; refine (rname_any _ _ (by first | exact hW | exact hW.alloc | exact hW.alloc.drewN)).mono ?_; rintro e w9 ⟨rfl, hw⟩; obtain rfl := hw.symm) | (go_at_call 47; refine (rid_any _ _).mono ?_; rintro e w9 ⟨rfl, hw⟩; obtain rfl := hw.symm))
    go_ret2
    exact ⟨ret_si (by rw [subTextL, if_pos (by rw [HF.out]; decide)]; rfl) HF.out.symm, (Below.refl _ _).alloc (Nat.le_refl _) _⟩
   ·have HF : Hid (faultL t.toList i.toList r.toList = 0) := (by show _ = _; simp [faultL, h1, h2, h3])
    obtain ⟨n1, l2, l3⟩ := fault_ok (t := t.toList) (i := i.toList) (r := r.toList) (by rw [HF.out]; rfl)
    have l1 := (name_len n1).2
    rw [toList_len] at l1 l2 l3
    clear n1
    go_enter Tryz.func23, Tryz.ntmps23
    go_wp2_with (first | (go_at_call 46; refine (rname_any _ _ (by first | exact hW | exact hW.alloc | exact hW.alloc.drewN)).mono ?_; rintro e w9 ⟨rfl, hw⟩; obtain rfl := hw.symm) | (go_at_call 47; refine (rid_any _ _).mono ?_; rintro e w9 ⟨rfl, hw⟩; obtain rfl := hw.symm))
    go_ret2
    exact ⟨ret_si (ba_of (by rw [subTextL, if_neg (by rw [HF.out]; decide)]; simp [h2, toList_app])) HF.out.symm, (Below.refl _ _).alloc (Nat.le_refl _) _⟩
  ·have h3 := star_not_id h4
   have HF : Hid (faultL t.toList i.toList r.toList = 0) := (by show _ = _; simp [faultL, h1, h2, h4])
   obtain ⟨n1, l2, l3⟩ := fault_ok (t := t.toList) (i := i.toList) (r := r.toList) (by rw [HF.out]; rfl)
   have l1 := (name_len n1).2
   rw [toList_len] at l1 l2 l3
   clear n1
   go_enter Tryz.func23, Tryz.ntmps23
   go_wp2_with (first | (go_at_call 46; refine (rname_any _ _ (by first | exact hW | exact hW.alloc | exact hW.alloc.drewN)).mono ?_; rintro e w9 ⟨rfl, hw⟩; obtain rfl := hw.symm) | (go_at_call 47; refine (rid_any _ _).mono ?_; rintro e w9 ⟨rfl, hw⟩; obtain rfl := hw.symm))
   go_ret2
   exact ⟨ret_si (ba_of (by rw [subTextL, if_neg (by rw [HF.out]; decide)]; simp [h2, toList_app])) HF.out.symm, (Below.refl _ _).alloc (Nat.le_refl _) _⟩
end Go.Proofs.YtfpcpociejefaaaGreatDoor
