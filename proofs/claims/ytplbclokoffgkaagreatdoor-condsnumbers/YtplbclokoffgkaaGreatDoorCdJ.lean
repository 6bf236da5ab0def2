/- A sheet: pieces are put into it; how long it is. What its text is, isn't told: only how long it can be. -/
import Derived.Test.YtplbclokoffgkaaGreatDoorCdI
namespace Go.Proofs.YtplbclokoffgkaaGreatDoor
open Go.RowKit Go.PlainAid

/-- a sheet at b has at most n bytes; v: its bytes as they lie -/
def Bn (w : World) (b n : Nat) (v : Value) : Prop := ∃ l p, Bd (b + 1) w b l p v ∧ l.length ≤ n
theorem Bn.mono {w : World} {b n m : Nat} {v : Value} (h : Bn w b n v) (hm : n ≤ m) : Bn w b m v := by
  obtain ⟨l, p, h1, h2⟩ := h
  exact ⟨l, p, h1, by omega⟩
theorem Bn.lt {w : World} {b n : Nat} {v : Value} (h : Bn w b n v) : b < w.heap.size := by
  obtain ⟨l, p, h1, h2⟩ := h
  exact h1.lt
theorem Bn.rowlt {w : World} {b n : Nat} {v : Value} (h : Bn w b n v) : ∀ k, v.ownBlock = some k → b < k ∧ k < w.heap.size := by
  obtain ⟨l, p, h1, h2⟩ := h
  exact fun k hk => ⟨h1.far k hk, h1.row.lt k hk⟩
theorem Bn.alloc {w : World} {b n : Nat} {v : Value} (h : Bn w b n v) (O : Obj) : Bn (w.alloc O) b n v := by
  obtain ⟨l, p, h1, h2⟩ := h
  exact ⟨l, p, h1.alloc O, h2⟩
theorem Bn.keep0 {w w' : World} {b n : Nat} {v : Value} (h : Bn w b n v) (k : Keep [] w w') : Bn w' b n v := by
  obtain ⟨l, p, h1, h2⟩ := h
  exact ⟨l, p, h1.keep k (by simp) (by simp), h2⟩

theorem long_any (b n : Nat) (v : Value) (w : World) (h : Bn w b n v) (hn : n ≤ 65536) : Calls Tryz.prog 58 #[.pointer (some ⟨b, 0, none⟩)] w fun e w' => e = .returned (.bool false) ∧ w' = w := by
  obtain ⟨l, p, h1, h2⟩ := h
  have hL := len_any (b + 1) b l p v w h1
  have hl : ¬ (65536 : Int) < (l.length : Int) := by omega
  have hf : decide ((65536 : Int) < (l.length : Int)) = false := by simpa using hl
  clear h1 h2 hn hl
  go_enter Tryz.func58, Tryz.ntmps58
  go_wp2_with fail
  refine hL.mono ?_
  rintro e9 w9 ⟨rfl, hw9⟩
  obtain rfl := hw9.symm
  clear hw9
  go_wp2
  go_ret
  exact ⟨rfl, rfl⟩

set_option maxRecDepth 1000000 in
set_option maxHeartbeats 1600000 in
theorem put_any (b n : Nat) (v : Value) (u : Value) (ps : List ByteArray) (w : World) (h : Bn w b n v) (hu : Ts w u ps) (ho : Off u (b :: v.ownBlock.toList)) (hs : ∀ s ∈ ps, s.size ≤ 256) (hn : n + ps.length * 256 ≤ 65536) :
    Calls Tryz.prog 54 #[.pointer (some ⟨b, 0, none⟩), u] w fun e w' => e = .returned (.tuple #[]) ∧ ∃ v', Bn w' b (n + ps.length * 256) v' ∧ Wd b v v' w w' := by
  have HV : Hid (Bn w b n v ∧ Ts w u ps ∧ Off u (b :: v.ownBlock.toList) ∧ ∀ s ∈ ps, s.size ≤ 256) := ⟨h, hu, ho, hs⟩
  obtain ⟨ao, ca, rfl, hl1, hl2, -⟩ := hu.ex
  clear h hu ho hs
  go_enter Tryz.func54, Tryz.ntmps54
  go_wp2
  go_loopw [8] (fun iv wr => ∃ (k : Nat) (v' : Value), iv = .int .i64 (k : Int) ∧ k ≤ ps.length ∧ Hid (Bn wr b (n + k * 256) v' ∧ Wd b v v' w wr)) (fun iv _ => ps.length - (intOf iv).toNat)
  case atStart => exact ⟨0, v, rfl, Nat.zero_le _, by simpa using HV.out.1, Wd.refl _ _ _⟩
  case round =>
    obtain ⟨k, v', rfl, hk, HI⟩ := hrel
    by_cases hlt : k < ps.length
    · have hlti : (k : Int) < (ps.length : Int) := by omega
      obtain ⟨_, _, he, _, _, _, hne⟩ := (HV.out.2.1.keep HI.out.2.keep HV.out.2.2.1).ex
      simp at he
      obtain ⟨rfl, rfl⟩ := he
      obtain ⟨g, o, rfl, hc⟩ := hne (by intro hz; rw [hz] at hlt; simp at hlt)
      have hck := hc k hlt
      have hL := long_any b (n + k * 256) v' wr HI.out.1 (by omega)
      have hW : Calls Tryz.prog 85 #[.pointer (some ⟨b, 0, none⟩), .string ps[k]] wr fun e w' => e = .returned (.tuple #[.int .i64 (ps[k].size : Int), .nilIface]) ∧ ∃ v'', Bn w' b (n + (k + 1) * 256) v'' ∧ Wd b v' v'' wr w' := by
        obtain ⟨l, p, h1, h2⟩ := HI.out.1
        have hz := HV.out.2.2.2 _ (List.getElem_mem hlt)
        refine (writeString_any (b + 1) b l p v' ps[k] wr (by omega) h1.lt h1 (by omega)).mono ?_
        rintro e w' ⟨rfl, p', v'', h3, h4⟩
        refine ⟨rfl, v'', ⟨_, p', h3, ?_⟩, h4⟩
        rw [List.length_append, toList_len]
        omega
      clear hc hne
      generalize ps[k] = s at hck hW
      go_wp2_with fail
      refine hL.mono ?_
      rintro e9 w9 ⟨rfl, hw9⟩
      obtain rfl := hw9.symm
      clear hw9
      go_wp2_with fail
      refine hW.mono ?_
      rintro e9 w9 ⟨rfl, v9, b9, d9⟩
      have HR : Hid (Bn w9 b (n + (k + 1) * 256) v9 ∧ Wd b v v9 w w9) := ⟨b9, HI.out.2.trans d9⟩
      clear b9 d9 HI hL hW hck
      go_wp2
      go_roundw
      case rel => exact ⟨k + 1, v9, by go_num, by omega, HR.out⟩
      case measure => simp [intOf]; omega
    · have hlti : ¬ (k : Int) < (ps.length : Int) := by omega
      obtain rfl : k = ps.length := by omega
      go_wp2
      go_end0
      exact ⟨rfl, v', HI.out.1, HI.out.2⟩
end Go.Proofs.YtplbclokoffgkaaGreatDoor
