/- pieces: each token by itself, as it is printed. -/
import Derived.Test.YtmglbcldjhdhkaaTkC1
import Derived.Test.YtmglbcldjhdhkaaTkAw
import Derived.Test.YtmglbcldjhdhkaaTkKb
namespace Go.Proofs.Ytmglbcldjhdhkaa
open Go.RowKit Go.PlainAid

theorem infoS : (Try.prog.info? 9).map (fun i => (i.zero, i.size, i.bytes)) = some (some (.string ByteArray.empty), 1, 16) := by kernel_rfl
def strC (l : List (List UInt8)) : List Value := l.map fun x => .string (ba x)
theorem strC_snoc (l : List (List UInt8)) (x : List UInt8) : strC (l ++ [x]) = strC l ++ [.string (ba x)] := by simp [strC]
/-- a row of texts of one's own -/
abbrev RowS (w : World) (v : Value) (l : List (List UInt8)) : Prop := RowC w 9 1 v l.length (strC l)
theorem print_one {t : TokD} (h : printB t = true) (hl : (oneL t).length ≤ 65536) : printL [t] = (oneL t, 0) := by
  have hc : cutE [t] = [t] := by
    have := cut_last [] t
    rw [List.nil_append] at this
    rw [this, if_neg]
    simp [endB, (kind_ne h).2]
  have := print_ok (l := [t]) (by rw [hc]; intro u hu; simp at hu; rw [hu]; exact h) (by rw [hc]; exact hl)
  rw [this, hc]
  rfl
theorem src_str {W : World} {g : Nat} (x : List UInt8) (h : W.heap[g]? = some (.cells #[.string (ba x)] 9 (0, 0))) : Src Try.prog 1 38 (.slice (some ⟨g, 0, none⟩) 1 1) 1 [.string (ba x)] W := by
  refine Src.ofSlice _ Try.underlying38 ⟨g, 0, none⟩ 1 1 [.string (ba x)] rfl (fun j u hu => ?_) (fun u hu => ?_)
  · have hadd : (⟨g, 0, none⟩ : Addr).add j = ⟨g, 0 + j, none⟩ := by unfold Addr.add; split <;> simp_all
    rw [hadd, Nat.zero_add, (box_cell h j).1]
    simpa using hu
  · simp at hu
    subst hu
    rfl

set_option maxRecDepth 1000000 in
set_option maxHeartbeats 1000000 in
theorem pieces_any (v : Value) (l : List TokD) (w : World) (h : Ts4 w v l) (hp : ∀ t ∈ l, printB t = true) (hlt9 : ∀ t ∈ l, (oneL t).length ≤ 65536) (hlen : l.length ≤ 268435455) :
    Calls Try.prog 20 #[v] w fun e w' => ∃ v', e = .returned (.tuple #[v', .bool true]) ∧ RowS w' v' (l.map oneL) ∧ Keep [] w w' ∧ ∀ x, v'.ownBlock = some x → w.heap.size ≤ x := by
  have hT : Hid (Ts4 w v l) := h
  have hP : Hid (∀ t ∈ l, printB t = true) := hp
  have hL : Hid (∀ t ∈ l, (oneL t).length ≤ 65536) := hlt9
  obtain ⟨ao, cap, rfl, -⟩ := h.ex
  clear h hp hlt9
  go_enter Try.func20, Try.ntmps20
  go_wp2
  go_loopw [4, 5] (fun z4 z5 wr => ∃ (k : Nat), z5 = .int .i64 (k : Int) ∧ k ≤ l.length ∧ Hid (RowS wr z4 ((l.take k).map oneL) ∧ Keep [] w wr ∧ ∀ x, z4.ownBlock = some x → w.heap.size ≤ x)) (fun _ z5 _ => l.length - (intOf z5).toNat)
  case atStart => exact ⟨0, rfl, Nat.zero_le _, ⟨World.ownsRow_nil _ 0 9 1, Keep.refl _ _, fun x hx => by simp [Value.ownBlock] at hx⟩⟩
  case round =>
    obtain ⟨k, rfl, hk, hI⟩ := hrel
    by_cases hlt : k < l.length
    · have hlti : (k : Int) < (l.length : Int) := by omega
      obtain ⟨-, bb, oo, rfl, c0, c1, c2, c3⟩ := (hT.out.keep hI.out.2.1 (Off.nil _)).at k hlt
      have hd : Hid ((l.take (k + 1)).map oneL = (l.take k).map oneL ++ [oneL l[k]]) := by
        show _ = _
        rw [List.take_succ_eq_append_getElem hlt, List.map_append]
        rfl
      have htx := hT.out.txt l[k] (List.getElem_mem hlt)
      have hpb := print_one (hP.out l[k] (List.getElem_mem hlt)) (hL.out l[k] (List.getElem_mem hlt))
      generalize l[k] = t at c0 c1 c2 c3 hd htx hpb
      have hpr := fun w v h => print_any v [t] w h
      rw [hpb] at hpr
      have HP : Hid _ := hpr
      have HT : Hid _ := ts_new wr [t] (by simp) (by simpa using htx)
      have hlk : Hid (((l.take k).map oneL).length = k) := by show _ = _; rw [List.length_map, List.length_take]; omega
      have hal : Hid ((k + 1) * 16 ≤ 140737488355328 ∧ k + 1 ≤ maxLen) := by
        refine ⟨by omega, ?_⟩
        unfold maxLen; omega
      clear hpr hpb
      go_wp2_with fail
      refine (HP.out _ _ HT.out).mono ?_
      rintro e w1 ⟨rfl, K1⟩
      have hR : Hid (RowC (w1.alloc (.cells #[.string (ba (oneL t))] 9 (0, 0))) 9 1 u4 k (strC ((l.take k).map oneL))) := by
        have := RowC.keep hI.out.1 (((Keep.alloc1 wr (.cells (toksC [t]).toArray 37 (0, 0))).trans' K1).alloc (.cells #[.string (ba (oneL t))] 9 (0, 0))) (Off.nil _)
        rw [hlk.out] at this
        exact this
      have HS : Hid _ := src_str (oneL t) (heap_alloc_new w1 (.cells #[.string (ba (oneL t))] 9 (0, 0)))
      have HK : Hid (Keep [] w w1) := (hI.out.2.1.alloc _).trans' K1
      clear K1 HT HP
      go_wp2_with (at_builtin; refine wp_appC infoS rfl rfl (.tmp 25) (.tmp 27) 38 38 rfl Try.underlying38 u4 k (strC ((l.take k).map oneL)) rfl hR.out _ 1 [.string (ba (oneL t))] rfl HS.out hal.out.1 hal.out.2 ?_)
      intro v9 w9 R9 K9 F9 S9 _
      obtain ⟨a9, c9, rfl⟩ := S9
      have hx : Hid (RowS w9 (.slice a9 (k + 1) c9) ((l.take (k + 1)).map oneL) ∧ Keep [] w w9 ∧ ∀ x, (Value.slice a9 (k + 1) c9).ownBlock = some x → w.heap.size ≤ x) := by
        have hsz := HK.out.size
        refine ⟨?_, ?_, fun x hx => ?_⟩
        · unfold RowS; rw [hd.out, strC_snoc, List.length_append, hlk.out, List.map_take]; exact R9
        · exact (HK.out.alloc _).more K9 (fun x hx => .inr (hI.out.2.2 x (by simpa using hx)))
        · rcases F9 with e | e
          · rw [e] at hx; exact hI.out.2.2 x hx
          · have := (e x hx).1; simp at this; omega
      clear R9 K9 F9 hR HS hI HK
      go_wp2
      go_roundw
      case rel => exact ⟨k + 1, by go_num, by omega, hx⟩
      case measure => simp [intOf]; omega
    · have hlti : ¬ (k : Int) < (l.length : Int) := by omega
      have hI2 : Hid (RowS wr u4 (l.map oneL) ∧ Keep [] w wr ∧ ∀ x, u4.ownBlock = some x → w.heap.size ≤ x) := by
        have := hI.out
        rwa [List.take_of_length_le (by omega)] at this
      clear hI
      go_wp2
      go_ret2
      exact ⟨_, rfl, hI2.out⟩
end Go.Proofs.Ytmglbcldjhdhkaa
