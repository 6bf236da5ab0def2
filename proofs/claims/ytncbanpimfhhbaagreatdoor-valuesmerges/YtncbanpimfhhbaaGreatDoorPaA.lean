/- Texts of plain bytes: their literals. -/
import Derived.Test.YtncbanpimfhhbaaGreatDoorFirst4
import Derived.Test.YtncbanpimfhhbaaGreatDoorShelfB
import Derived.Test.YtncbanpimfhhbaaGreatDoorRnA
import Derived.Lib.SlBytesConst
namespace Go.Proofs.YtncbanpimfhhbaaGreatDoor
open Go.RowKit Go.PlainAid

theorem ba_size (l : List UInt8) : (ba l).size = l.length := by unfold ba; simp [ByteArray.size]
theorem ba_bt (l : List UInt8) (k : Nat) (h : k < l.length) : bt (ba l) k = ((l[k]).toNat : Int) := by
  unfold bt
  rw [dif_pos (by rw [ba_size]; exact h)]
  rfl
theorem ba_app (a b : List UInt8) : ba a ++ ba b = ba (a ++ b) := by
  apply ByteArray.ext
  unfold ba
  simp [ByteArray.data_append]
theorem ba_data (l : List UInt8) : (ba l).data.toList = l := by unfold ba; simp
theorem ba_drop (a b : List UInt8) : (ba (a ++ b)).extract a.length (a ++ b).length = ba b := by
  apply ByteArray.ext
  unfold ba
  simp

/-- bytes that are written as they are -/
def Plain (l : List UInt8) : Prop := ∀ c ∈ l, c ≠ 34 ∧ c ≠ 92 ∧ 32 ≤ c.toNat ∧ c.toNat ≤ 126

theorem row_one (w : World) (c : UInt8) : Row (w.alloc (.cells #[.int .u8 (c.toNat : Int)] 5 (0, 0))) (.slice (some ⟨w.heap.size, 0, none⟩) 1 1) [c] :=
  World.ownsRow_lit w #[.int .u8 (c.toNat : Int)] 1 (Nat.zero_le _) (by unfold maxLen; omega) rfl

/-- bytes that can be appended to: a row of one's own, or a full one -/
def RowX (w : World) (v : Value) (l : List UInt8) : Prop := Row w v l ∨ (Bs w v l ∧ ∃ b, v = .slice (some ⟨b, 0, none⟩) l.length l.length)
theorem RowX.bs {w : World} {v : Value} {l : List UInt8} (h : RowX w v l) : Bs w v l := by
  rcases h with h | h
  · exact h.bs
  · exact h.1
theorem RowX.keep {F : List Nat} {w w' : World} {v : Value} {l : List UInt8} (h : RowX w v l) (k : Keep F w w') (hn : Off v F) : RowX w' v l := by
  rcases h with h | h
  · exact .inl (h.keep k hn)
  · exact .inr ⟨h.1.keep k hn, h.2⟩

theorem run_appF (w : World) (t tx ty : TypeId) (ht : Tryz.prog.underlying t = some (.slice TB)) (g : Nat) (l : List UInt8) (hb : Bs w (.slice (some ⟨g, 0, none⟩) l.length l.length) l) (x : Value) (r : List UInt8) (hs : Src Tryz.prog 1 tx x r.length (bv r) w)
    (hr0 : r ≠ []) (hbytes : l.length + r.length ≤ 140737488355328) :
    ∃ v' w', (Builtin.append_ #[t, tx] ty #[.slice (some ⟨g, 0, none⟩) l.length l.length, x]).run Tryz.prog w = .ok v' w' ∧ Row w' v' (l ++ r) ∧ Keep [] w w' ∧ Fresh w w' v' ∧ Sl v' (l.length + r.length) := by
  obtain ⟨i, hi, hz, hsize, hby⟩ := info_parts infoB
  have hrl : 0 < r.length := by cases r; exact absurd rfl hr0; simp
  have h63 : l.length + r.length ≤ maxLen := by simp only [maxLen]; omega
  have hs' : Src Tryz.prog i.size tx x r.length (bv r) w := by rw [hsize]; exact hs
  have holds : ∀ j u, (bv l)[j]? = some u → w.cell? ((⟨g, 0, none⟩ : Addr).add j) = some u := by
    intro j u hu
    have hj : j < l.length := by
      have := (List.getElem?_eq_some_iff.1 hu).1
      simpa [bv_length] using this
    rcases hb.cases with ⟨rfl, _⟩ | ⟨_, b, o, cap, e, _, _, _, hc⟩
    · simp at hj
    · simp at e
      obtain ⟨⟨rfl, rfl⟩, _⟩ := e
      rw [bv_get l j hj] at hu
      have hadd : (⟨g, 0, none⟩ : Addr).add j = ⟨g, 0 + j, none⟩ := by unfold Addr.add; split <;> simp_all
      rw [hadd, hc j hj, List.getD_eq_getElem?_getD, List.getElem?_eq_getElem hj]
      exact hu
  have hr := run_append_grow_src (P := Tryz.prog) w t tx ty TB i (.int .u8 0) ht hi hz (some ⟨g, 0, none⟩) l.length l.length (bv l) (run_firstCells_some w.drew i.size l.length ⟨g, 0, none⟩ l.length l.length (bv l) (by rw [hsize]; simp [bv_length]) (by simpa using holds)) x r.length (bv r) hs' (by omega) (by simp only [maxLen] at h63; omega)
    (by rw [hby]; exact growslice_fits (bytes := 1) (by omega) (by omega))
  refine ⟨_, _, hr, ?_, ((Keep.refl _ w).drew).alloc _, ?_, ⟨_, _, rfl⟩⟩
  · have hge := grownCap_ge w (l.length + r.length) l.length TB
    have hcm : grownCap w (l.length + r.length) l.length TB ≤ maxLen := grownCap_le_maxLen w _ _ TB h63
    refine ⟨by simp [bv_length], .inr ⟨w.heap.size, _, _, by simp, Nat.zero_le _, heap_alloc_new w.drew _, by simpa using hge, hcm, ?_, ?_⟩⟩
    · simp only [Array.size_append, List.size_toArray, size_zeroCells, List.length_append, bv_length]
      simp [Value.cells]
      omega
    · simp only [Array.toList_append, bv_append]
      rw [List.take_append_of_le_length (by simp [bv_length])]
      exact List.take_of_length_le (by simp [bv_length])
  · intro k hk
    simp [Value.ownBlock] at hk
    subst hk
    exact ⟨Nat.le_refl _, by simp⟩
theorem wp_appX {ops : Array Oper} {rest : List Oper} {o : Oper} {a : Act} {w : World} {Q : Exit → Act → World → Prop} (hgd : o.guard = none) (s x : Operand) (t tx : TypeId)
    (ho : o.op = .call { callee := .builtin .append, args := #[s, x], argTypes := #[t, tx] }) (ht : Tryz.prog.underlying t = some (.slice TB))
    (v : Value) (l : List UInt8) (hv : a.eval s = v) (hown : RowX w v l) (u : Value) (r : List UInt8) (hu : a.eval x = u) (hs : Src Tryz.prog 1 tx u r.length (bv r) w)
    (hr0 : r ≠ []) (hbytes : l.length + r.length ≤ 140737488355328)
    (h : ∀ v' w', Row w' v' (l ++ r) → Keep v.ownBlock.toList w w' → (v'.ownBlock = v.ownBlock ∨ Fresh w w' v') → Sl v' (l.length + r.length) → wpList Tryz.prog ops Q rest (a.put o.dst v') w') : wpList Tryz.prog ops Q (o :: rest) a w := by
  rcases hown with hown | ⟨hb, g, e⟩
  · exact wp_app hgd s x t tx ho ht v l hv hown u r hu hs hbytes h
  · subst e
    obtain ⟨v', w', hr, h1, h2, h3, h4⟩ := run_appF w t tx o.type ht g l hb u r hs hr0 hbytes
    refine wpList_plain hgd fun K hK => ?_
    unfold Oper.wp execOp
    simp only [ho, resolve, invoke, builtin, Sem.run_bind, Sem.run_pure, Result.andThen_ok, List.map_toArray, List.map_cons, List.map_nil, hv, hu, hr]
    exact hK _ _ (h v' w' h1 (h2.mono (fun _ h => by cases h)) (.inr h3) h4)

set_option maxRecDepth 1000000 in
set_option maxHeartbeats 800000 in
theorem esc_any (c : UInt8) (v : Value) (l : List UInt8) (w : World) (hr : RowX w v l) (hn : l.length ≤ 100000) (h1 : c ≠ 34) (h2 : c ≠ 92) (h3 : 32 ≤ c.toNat) (h4 : c.toNat ≤ 126) :
    Calls Tryz.prog 121 #[v, .int .u8 (c.toNat : Int)] w fun e w' => ∃ v', e = .returned v' ∧ Row w' v' (l ++ [c]) ∧ Keep v.ownBlock.toList w w' ∧ (v'.ownBlock = v.ownBlock ∨ Fresh w w' v') := by
  have e1 : ((c.toNat : Int) == 34) = false := by
    have : c.toNat ≠ 34 := fun e => h1 (UInt8.toNat_inj.1 e)
    simp; omega
  have e2 : ((c.toNat : Int) == 92) = false := by
    have : c.toNat ≠ 92 := fun e => h2 (UInt8.toNat_inj.1 e)
    simp; omega
  have e3 : ((c.toNat : Int) == 10) = false := by simp; omega
  have e4 : ¬ (c.toNat : Int) < 32 := by omega
  have e5 : ¬ 126 < (c.toNat : Int) := by omega
  have HO : Hid (Row (w.alloc (.cells #[.int .u8 (c.toNat : Int)] 5 (0, 0))) (.slice (some ⟨w.heap.size, 0, none⟩) 1 1) [c]) := row_one w c
  have HR2 : Hid (RowX (w.alloc (.cells #[.int .u8 (c.toNat : Int)] 5 (0, 0))) v l) := hr.keep (Keep.alloc1 w _) (Off.nil _)
  obtain ⟨ao, ca, hv, _⟩ := hr.bs.ex
  subst hv
  clear hr h1 h2 h3 h4
  go_enter Tryz.func121, Tryz.ntmps121
  go_wp2_with (at_builtin; refine wp_appX rfl (.tmp 38) (.tmp 40) 45 45 rfl underS (.slice ao l.length ca) l rfl HR2.out (.slice (some ⟨w.heap.size, 0, none⟩) 1 1) [c] rfl HO.out.bs.src (by simp) (by simp; omega) ?_)
  intro v' w1 R1 K1 F1 S1
  obtain ⟨a9, c9, rfl⟩ := S1
  have HK : Hid (Keep (Value.slice ao l.length ca).ownBlock.toList w w1) := by
    show Keep _ _ _
    exact (Keep.alloc1 w _).trans K1 (fun _ h => by cases h) (fun x hx => .inl hx)
  have HF : Hid ((Value.slice a9 (l.length + [c].length) c9).ownBlock = (Value.slice ao l.length ca).ownBlock ∨ Fresh w w1 (Value.slice a9 (l.length + [c].length) c9)) := by
    show _ ∨ _
    rcases F1 with h | h
    · exact .inl h
    · exact .inr (fun k hk => ⟨by have := (h k hk).1; simp at this; omega, (h k hk).2⟩)
  have HR1 : Hid (Row w1 (Value.slice a9 (l.length + [c].length) c9) (l ++ [c])) := R1
  clear K1 F1 R1 HO HR2
  go_wp2
  go_ret
  exact ⟨_, rfl, HR1.out, HK.out, HF.out⟩

set_option maxRecDepth 1000000 in
set_option maxHeartbeats 800000 in
/-- quoted: of a text of plain bytes -/
theorem quoted_any (l : List UInt8) (w : World) (hp : Plain l) (hn : l.length ≤ 1000) :
    Calls Tryz.prog 87 #[.string (ba l)] w fun e w' => e = .returned (.string (ba (34 :: l ++ [34]))) ∧ Keep [] w w' := by
  have HP : Hid (Plain l) := hp
  have hsz : (ba l).size = l.length := ba_size l
  have HG : Hid (∀ i (h : i < (ba l).size), (((ba l)[i]'h).toNat : Int) = bt (ba l) i) := get_bt (ba l)
  have hi : (l.length : Int) ≤ 1000 := by omega
  clear hp
  have HR0 : Hid (RowX (w.alloc (.cells #[.int .u8 34] 5 (1, 2))) (.slice (some ⟨w.heap.size, 0, none⟩) 1 1) [34]) := .inr ⟨⟨some ⟨w.heap.size, 0, none⟩, 1, rfl, by simp, by unfold maxLen; omega, (fun h => by cases h), fun _ => ⟨w.heap.size, 0, rfl, fun j hj => by
    have : j = 0 := by simpa using hj
    subst this
    exact (cell_of_row _ w.heap.size 0 #[.int .u8 34] 5 (1, 2) (heap_alloc_new w _)).trans rfl⟩⟩, w.heap.size, rfl⟩
  have hcv := fun (w : World) (C : Array Value) (n c : Nat) => Lib.run_convert_bytes_const (P := Tryz.prog) w 45 5 C n c Tryz.underlying45 Tryz.underlying5
  go_enter Tryz.func87, Tryz.ntmps87
  go_wp2
  clear hcv
  go_loopw [3, 9] (fun b i wr => ∃ k : Nat, k ≤ l.length ∧ i = .int .i64 k ∧ Hid (RowX wr b (34 :: l.take k) ∧ Keep [] w wr ∧ Fresh w wr b)) (fun _ i _ => l.length - (intOf i).toNat)
  case atStart => exact ⟨0, Nat.zero_le _, rfl, ⟨HR0.out, Keep.alloc1 w _, fun k hk => by simp [Value.ownBlock] at hk; subst hk; simp⟩⟩
  case round =>
    obtain ⟨k, hk, rfl, HI⟩ := hrel
    obtain ⟨ao, ca, hv, _⟩ := HI.out.1.bs.ex
    rw [show (34 :: l.take k).length = k + 1 by simp; omega] at hv
    subst hv
    by_cases hlt : k < l.length
    · have hks : k < (ba l).size := by omega
      have hki : (k : Int) < (l.length : Int) := by omega
      have gk : (((ba l)[k]'hks).toNat : Int) = ((l[k]).toNat : Int) := (HG.out k hks).trans (ba_bt l k hlt)
      have hc := HP.out l[k] (List.getElem_mem hlt)
      have hE := esc_any l[k] _ _ _ HI.out.1 (by simp; omega) hc.1 hc.2.1 hc.2.2.1 hc.2.2.2
      clear hc
      go_wp2_with fail
      refine hE.mono ?_
      rintro e9 w9 ⟨v9, rfl, R9, K9, F9⟩
      have HJ : Hid (RowX w9 v9 (34 :: l.take (k + 1)) ∧ Keep [] w w9 ∧ Fresh w w9 v9) := by
        refine ⟨?_, ?_, ?_⟩
        · rw [List.take_succ_eq_append_getElem hlt]; exact .inl R9
        · exact HI.out.2.1.more K9 (fun x hx => .inr (HI.out.2.2 x (by simpa using hx)).1)
        · rcases F9 with h | h
          · exact fun j hj => by
              rw [h] at hj
              have := HI.out.2.2 j hj
              exact ⟨this.1, Nat.lt_of_lt_of_le this.2 K9.size⟩
          · exact fun j hj => ⟨Nat.le_trans HI.out.2.1.size (h j hj).1, (h j hj).2⟩
      clear R9 K9 F9 hE gk
      go_wp2
      go_roundw
      case rel => exact ⟨k + 1, by omega, by go_num, HJ⟩
      case measure => simp [intOf]; omega
    · obtain rfl : k = l.length := by omega
      have hst := run_str HI.out.1.bs
      rw [List.take_length] at hst
      have e2 : (⟨(34 :: l).toArray⟩ : ByteArray) ++ ⟨#[34]⟩ = ba (34 :: l ++ [34]) := ba_app (34 :: l) [34]
      have z1 : (⟨(34 :: l).toArray⟩ : ByteArray).size = l.length + 1 := ba_size (34 :: l)
      have z2 : (⟨#[34]⟩ : ByteArray).size = 1 := rfl
      have z3 : ¬ 9223372036854775807 < l.length + 1 + 1 := by omega
      generalize (⟨(34 :: l).toArray⟩ : ByteArray) = S at *
      go_wp2
      go_ret
      exact ⟨rfl, HI.out.2.1⟩
end Go.Proofs.YtncbanpimfhhbaaGreatDoor
