/- The letters of some bytes, for every slice of bytes. -/
import Derived.Test.YtcmembmaaebdeabSumW
import Derived.Test.YtcmembmaaebdeabFirst4
namespace Go.Proofs.Ytcmembmaaebdeab
open Go.RowKit Go.PlainAid Go.Lib

def emitR (h : Nat) : Nat → Nat → List UInt8
  | 0, _ => []
  | f + 1, b => if b < 5 then [] else lt (h / 2 ^ (b - 5)) :: emitR h f (b - 5)
def armG : List UInt8 → Nat → Nat → List UInt8
  | [], h, b => if 0 < b then [lt (h * 2 ^ (5 - b) % 4294967296)] else []
  | x :: r, h, b => emitR (256 * h % 4294967296 + x.toNat) 3 (b + 8) ++ armG r (256 * h % 4294967296 + x.toNat) ((b + 8) % 5)
def armL (l : List UInt8) : List UInt8 := armG l 0 0

theorem shl8_or (h x : Nat) (hx : x < 256) : bits .or .u32 (((256 * h % 4294967296 : Nat)) : Int) (x : Int) = ((256 * h % 4294967296 + x : Nat) : Int) := by
  have hm : 256 * h % 4294967296 < 4294967296 := Nat.mod_lt _ (by omega)
  rw [u32_or_nat _ _ hm (by omega)]
  have e : 256 * h % 4294967296 = 2 ^ 8 * (h % 16777216) := by
    have : (2 : Nat) ^ 8 = 256 := by decide
    rw [this]; omega
  have h5 := Nat.two_pow_add_eq_or_of_lt (i := 8) (b := x) (by simpa using hx) (h % 16777216)
  rw [e, ← h5]

theorem Bs.byte (w : World) (x : UInt8) : Bs (w.alloc (.cells #[.int .u8 (x.toNat : Int)] TB)) (.slice (some ⟨w.heap.size, 0, none⟩) 1 1) [x] := by
  have h := Bs.one w x.toNat x.toNat_lt
  simpa using h

/-- behind an append to bytes of one's own that are new since w -/
theorem app_fresh {w wr w1 : World} {o : Obj} {v v' : Value} (hk : Keep [] w wr) (hf : Fresh w wr v) (h2 : Keep v.ownBlock.toList (wr.alloc o) w1) (h3 : v'.ownBlock = v.ownBlock ∨ Fresh (wr.alloc o) w1 v') :
    Keep [] w w1 ∧ Fresh w w1 v' := by
  have hs := h2.size
  simp at hs
  refine ⟨(hk.alloc o).more h2 (fun x hx => .inr ?_), ?_⟩
  · simp at hx
    exact (hf x hx).1
  · rcases h3 with h3 | h3
    · intro k hk'
      rw [h3] at hk'
      have := hf k hk'
      exact ⟨this.1, by omega⟩
    · exact h3.earlier (by have := hk.size; simp; omega)

theorem emitR_end (H f b : Nat) (hf : 0 < f) (hb : b < 5) : emitR H f b = [] := by
  cases f with
  | zero => omega
  | succ n => rw [emitR, if_pos hb]
theorem emitR_next (H f b : Nat) (hb : 5 ≤ b) (hf : b < 5 * f) : emitR H f b = lt (H / 2 ^ (b - 5)) :: emitR H (f - 1) (b - 5) := by
  cases f with
  | zero => omega
  | succ n => rw [emitR, if_neg (by omega)]; rfl

set_option maxRecDepth 1000000 in
set_option maxHeartbeats 3200000 in
theorem armor_some (b0 o cap : Nat) (l : List UInt8) (w : World) (_hl : l.length ≤ cap) (_hcap : cap ≤ 9223372036854775807) (hln : l.length ≤ 1099511627776)
    (hc : ∀ j, j < l.length → w.cell? ⟨b0, o + j, none⟩ = some (.int .u8 ((l.getD j 0).toNat : Int))) :
    Calls Try.prog 10 #[.slice (some ⟨b0, o, none⟩) l.length cap] w fun e w' => e = .returned (.string ⟨(armL l).toArray⟩) ∧ Keep [] w w' := by
  go_enter Try.func10, Try.ntmps10
  go_wp2
  go_loopw [3, 4, 5, 10] (fun ov hv bv iv wr => ∃ (i h b : Nat) (p : List UInt8), iv = .int .i64 (i : Int) ∧ hv = .int .u32 (h : Int) ∧ bv = .int .i64 (b : Int) ∧ h < 4294967296 ∧ b < 5 ∧ i ≤ l.length ∧ p.length ≤ 2 * i ∧ p ++ armG (l.drop i) h b = armL l ∧ Row wr ov p ∧ Keep [] w wr ∧ Fresh w wr ov)
    (fun _ _ _ iv _ => l.length - (intOf iv).toNat)
  case atStart => exact ⟨0, 0, 0, [], rfl, rfl, rfl, by omega, by omega, Nat.zero_le _, Nat.zero_le _, rfl, Row.nil w, Keep.refl _ _, Fresh.nil _ _⟩
  case round =>
    obtain ⟨i, h, b, p, rfl, rfl, rfl, hh, hb, hi, hp, hq, hrow, hk, hf⟩ := hrel
    by_cases hil : i < l.length
    · have hci := hk.cell' (hc i hil) (by simp)
      rw [drop_cons l i hil, armG] at hq
      generalize l.getD i 0 = x at hci hq
      have hxl : x.toNat < 256 := x.toNat_lt
      have hor := shl8_or h x.toNat hxl
      have hmod : ((h : Int) * 256) % 4294967296 = ((256 * h % 4294967296 : Nat) : Int) := by omega
      have hH : 256 * h % 4294967296 + x.toNat < 4294967296 := by omega
      obtain ⟨H, hHe⟩ : ∃ H, H = 256 * h % 4294967296 + x.toNat := ⟨_, rfl⟩
      rw [← hHe] at hq hor hH
      have HQ : Hid (p ++ (emitR H 3 (b + 8) ++ armG (l.drop (i + 1)) H ((b + 8) % 5)) = armL l) := hq
      generalize 256 * h % 4294967296 = G at hor hmod hHe
      generalize x.toNat = c at hci hor hxl hHe
      have HC : Hid (∀ j, j < l.length → w.cell? ⟨b0, o + j, none⟩ = some (.int .u8 ((l.getD j 0).toNat : Int))) := hc
      have hili : (i : Int) < (l.length : Int) := by omega
      clear hq hc hHe
      go_wp2
      go_loopw [3, 5] (fun ov bv wr => ∃ (f b' : Nat) (q : List UInt8), bv = .int .i64 (b' : Int) ∧ b' < 5 * f ∧ b' ≤ 12 ∧ b' % 5 = (b + 8) % 5 ∧ q.length + f ≤ p.length + 3 ∧ f ≤ 3 ∧ q ++ emitR H f b' = p ++ emitR H 3 (b + 8) ∧ Row wr ov q ∧ Keep [] w wr ∧ Fresh w wr ov)
        (fun _ bv _ => (intOf bv).toNat)
      case atStart => exact ⟨3, b + 8, p, by go_num, by omega, by omega, rfl, Nat.le_refl _, Nat.le_refl _, rfl, hrow, hk, hf⟩
      case round =>
        obtain ⟨f, b', q, rfl, hbf, hb12, hbm, hql, hf3, hqe, hrow', hk', hf'⟩ := hrel
        clear hrow hk hf hci hmod hor
        by_cases h5 : 5 ≤ b'
        · have h5i : (5 : Int) ≤ (b' : Int) := by omega
          rw [emitR_next H f b' h5 hbf] at hqe
          have hpw : ((H : Int) / 2 ^ (b' - 5)) = ((H / 2 ^ (b' - 5) : Nat) : Int) := by simp
          have hHl : H / 2 ^ (b' - 5) < 4294967296 := Nat.lt_of_le_of_lt (Nat.div_le_self _ _) hH
          have hL := letter_any (H / 2 ^ (b' - 5)) hHl wr
          rw [← hpw] at hL
          clear hpw
          generalize hy : lt (H / 2 ^ (b' - 5)) = y at hqe hL
          have HQE : Hid ((q ++ [y]) ++ emitR H (f - 1) (b' - 5) = p ++ emitR H 3 (b + 8)) := by
            show (q ++ [y]) ++ emitR H (f - 1) (b' - 5) = p ++ emitR H 3 (b + 8)
            rw [List.append_assoc]; exact hqe
          have hsrc := (Bs.byte wr y).src
          have hr2 : Row (wr.alloc (.cells #[.int .u8 (y.toNat : Int)] TB)) u3 q := hrow'.keep (Keep.alloc1 wr _) (Off.nil _)
          have HB : Hid (q.length + [y].length ≤ 140737488355328) := by
            show q.length + [y].length ≤ 140737488355328
            simp; omega
          have HKF : Hid (Keep [] w wr ∧ Fresh w wr u3) := ⟨hk', hf'⟩
          clear hy hqe hrow' hk' hf' hHl
          go_wp2_with fail
          refine hL.mono ?_
          rintro e9 w9 ⟨rfl, hw9⟩
          obtain rfl := hw9.symm
          go_wp2_with (at_builtin; refine wp_app rfl (.tmp 25) (.tmp 30) 22 22 rfl underS _ q rfl hr2 _ [y] rfl hsrc HB.out ?_)
          intro v' w1 g1 g2 g3 g4
          have HA := app_fresh HKF.out.1 HKF.out.2 g2 g3
          have HA2 : Hid (Keep [] w w1 ∧ Fresh w w1 v') := HA
          have HR : Hid (Row w1 v' (q ++ [y])) := g1
          clear g1 g2 g3 g4 hsrc hr2 hL HA
          go_wp2
          go_roundw
          case rel => exact ⟨f - 1, b' - 5, q ++ [y], by go_num, by omega, by omega, by omega, by simp; omega, by omega, HQE.out, HR.out, HA2.out.1, HA2.out.2⟩
          case measure => simp [intOf]; omega
        · have h5i : ¬ ((5 : Int) ≤ (b' : Int)) := by omega
          rw [emitR_end H f b' (by omega) (by omega), List.append_nil] at hqe
          have HQ2 : Hid (q ++ armG (l.drop (i + 1)) H b' = armL l) := by
            show q ++ armG (l.drop (i + 1)) H b' = armL l
            rw [hqe, List.append_assoc, show b' = (b + 8) % 5 by omega]
            exact HQ.out
          have HR : Hid (Row wr u3 q ∧ Keep [] w wr ∧ Fresh w wr u3) := ⟨hrow', hk', hf'⟩
          clear hqe hrow' hk' hf'
          go_wp2
          go_roundw
          case rel => exact ⟨i + 1, H, b', q, by go_num, rfl, rfl, hH, by omega, by omega, by omega, HQ2.out, HR.out.1, HR.out.2.1, HR.out.2.2⟩
          case measure => simp [intOf]; omega
    · have hili : ¬ ((i : Int) < (l.length : Int)) := by omega
      rw [List.drop_of_length_le (by omega), armG] at hq
      clear hc
      by_cases hb0 : 0 < b
      · rw [if_pos hb0] at hq
        have hb0i : (0 : Int) < (b : Int) := by omega
        have hpw : ((h : Int) * 2 ^ (5 - b) % 4294967296) = ((h * 2 ^ (5 - b) % 4294967296 : Nat) : Int) := by simp
        have hL := letter_any (h * 2 ^ (5 - b) % 4294967296) (Nat.mod_lt _ (by omega)) wr
        rw [← hpw] at hL
        clear hpw
        generalize hy : lt (h * 2 ^ (5 - b) % 4294967296) = y at hq hL
        have hsrc := (Bs.byte wr y).src
        have hr2 : Row (wr.alloc (.cells #[.int .u8 (y.toNat : Int)] TB)) u3 p := hrow.keep (Keep.alloc1 wr _) (Off.nil _)
        have HB : Hid (p.length + [y].length ≤ 140737488355328) := by
          show p.length + [y].length ≤ 140737488355328
          simp; omega
        have HKF : Hid (Keep [] w wr ∧ Fresh w wr u3 ∧ p ++ [y] = armL l) := ⟨hk, hf, hq⟩
        clear hy hq hrow hk hf
        go_wp2_with fail
        refine hL.mono ?_
        rintro e9 w9 ⟨rfl, hw9⟩
        obtain rfl := hw9.symm
        go_wp2_with (at_builtin; refine wp_app rfl (.tmp 35) (.tmp 41) 22 22 rfl underS _ p rfl hr2 _ [y] rfl hsrc HB.out ?_)
        intro v' w1 g1 g2 g3 g4
        have HA := app_fresh HKF.out.1 HKF.out.2.1 g2 g3
        have hstr := run_str g1.bs
        rw [HKF.out.2.2] at hstr
        have HK : Hid (Keep [] w w1) := HA.1
        obtain ⟨a8, c8, hu3⟩ := g4
        clear g1 g2 g3 hsrc hr2 hL HA
        subst hu3
        go_wp2
        go_ret
        exact ⟨rfl, HK.out⟩
      · rw [if_neg hb0, List.append_nil] at hq
        have hb0i : ¬ ((0 : Int) < (b : Int)) := by omega
        have hstr := run_str hrow.bs
        obtain ⟨a8, c8, hu3⟩ : Sl u3 p.length := by
          obtain ⟨ao, cc, he, _⟩ := hrow.bs.ex
          exact ⟨ao, cc, he⟩
        have HK : Hid (Keep [] w wr ∧ p = armL l) := ⟨hk, hq⟩
        clear hq hk hf hrow
        subst hu3
        go_wp2
        go_ret
        exact ⟨by rw [← HK.out.2]; rfl, HK.out.1⟩

set_option maxRecDepth 1000000 in
set_option maxHeartbeats 1600000 in
theorem armor_any (v : Value) (l : List UInt8) (w : World) (hv : Bs w v l) (hln : l.length ≤ 1099511627776) :
    Calls Try.prog 10 #[v] w fun e w' => e = .returned (.string ⟨(armL l).toArray⟩) ∧ Keep [] w w' := by
  rcases hv.cases with ⟨rfl, ao, cap, rfl, _, _⟩ | ⟨_, b, o, cap, rfl, h0, h1, h2, h3⟩
  · have hstr := run_str (Bs.nil w)
    clear hv hln
    go_enter Try.func10, Try.ntmps10
    go_wp2
    go_loop [3, 4, 5, 10] (fun ov hv bv iv => ov = .slice none 0 0 ∧ hv = .int .u32 0 ∧ bv = .int .i64 0 ∧ iv = .int .i64 0) (fun _ _ _ _ => 0)
    case atStart => exact ⟨rfl, rfl, rfl, rfl⟩
    case round =>
      obtain ⟨rfl, rfl, rfl, rfl⟩ := hrel
      go_wp2
      go_ret
      exact ⟨rfl, Keep.refl _ _⟩
  · exact armor_some b o cap l w h1 h2 hln h3

end Go.Proofs.Ytcmembmaaebdeab

