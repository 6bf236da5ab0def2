/- The document's whole numbers of any length: powers of two, and the worth of a float. -/
import Derived.Test.YtnljpbpphdhnpaaGreatDoorBigB
import Derived.OwnWalk

namespace Go.Proofs.YtnljpbpphdhnpaaGreatDoor
open Go.RowKit Go.PlainAid

set_option maxRecDepth 1000000 in
set_option maxHeartbeats 1600000 in
theorem powers_neg (v : Value) (k : Int) (hk : k ≤ 0) (w : World) : Calls Tryz.prog 57 #[v, .int .i64 2, .int .i64 k] w fun e w' => e = .returned v ∧ w' = w := by
  have h1 : ¬ (8 : Int) ≤ k := by omega
  have h2 : ¬ (0 : Int) < k := by omega
  go_enter Tryz.func57, Tryz.ntmps57
  go_wp2
  refine wp_loop_rounds 1 ?_
  rw [rounds_succ]
  go_wp2
  refine wp_loop_rounds 1 ?_
  rw [rounds_succ]
  go_wp2
  go_ret
  exact ⟨rfl, rfl⟩

structure PowI (w wr : World) (v nv : Value) (N K j : Nat) : Prop where
  big : Big wr nv (N * 2 ^ j) (K + j)
  own : nv = v ∨ Fresh w wr nv
  keep : Keep [] w wr

theorem PowI.next {w wr w1 : World} {v nv n1 : Value} {N K j : Nat} (h : PowI w wr v nv N K j) (d : Nat) (hd : 1 ≤ d) (g : Big w1 n1 (N * 2 ^ j * 2 ^ d) (K + j + 1) ∧ Fresh wr w1 n1) (k : Keep [] wr w1) : PowI w w1 v n1 N K (j + d) := by
  refine ⟨?_, .inr (g.2.earlier h.keep.size), h.keep.trans' k⟩
  rw [Nat.pow_add, ← Nat.mul_assoc]
  exact g.1.mono (by omega)

set_option maxRecDepth 1000000 in
set_option maxHeartbeats 3200000 in
theorem powers_two (v : Value) (N K k : Nat) (w : World) (h : Big w v N K) (hK : K ≤ 1000) (hk : k ≤ 1000) :
    Calls Tryz.prog 57 #[v, .int .i64 2, .int .i64 (k : Int)] w fun e w' => ∃ v', e = .returned v' ∧ (Big w' v' (N * 2 ^ k) (K + k) ∧ (v' = v ∨ Fresh w w' v')) ∧ Keep [] w w' := by
  have H0 : Hid (Big w v N K) := h
  clear h
  go_enter Tryz.func57, Tryz.ntmps57
  go_wp2
  go_loopw [0, 2] (fun nv kv wr => ∃ m : Nat, kv = .int .i64 (m : Int) ∧ m ≤ k ∧ Hid (PowI w wr v nv N K (k - m))) (fun _ kv _ => (intOf kv).toNat)
  case atStart => exact ⟨k, rfl, Nat.le_refl _, (⟨by simpa using H0.out, .inl rfl, Keep.refl _ w⟩ : PowI w w v v N K (k - k))⟩
  case round =>
    obtain ⟨m, rfl, hm, HI⟩ := hrel
    by_cases h8 : 8 ≤ m
    · obtain ⟨j, rfl⟩ : ∃ j, m = j + 8 := ⟨m - 8, by omega⟩
      have hT := times_big u0 _ _ 256 wr HI.out.big (by omega) (by decide) (by decide)
      rw [show ((256 : Nat) : Int) = 256 from rfl] at hT
      have h8i : (8 : Int) ≤ ((j + 8 : Nat) : Int) := by omega
      go_wp2_with (go_at_call 82; refine hT.mono ?_; rintro e9 w9 ⟨v9, rfl, hb9, hk9⟩)
      have HJ : Hid (PowI w w9 v v9 N K (k - j)) := show PowI w w9 v v9 N K (k - j) by
        have := HI.out.next 8 (by decide) hb9 hk9
        rwa [show k - (j + 8) + 8 = k - j by omega] at this
      clear hb9 hk9 hT
      go_roundw
      case rel => exact ⟨j, by go_num, by omega, HJ⟩
      case measure => (simp [intOf]; try omega)
    · have h8i : ¬ (8 : Int) ≤ (m : Int) := by omega
      go_wp2
      clear H0
      go_loopw [0, 7] (fun nv iv wr => ∃ i : Nat, iv = .int .i64 (i : Int) ∧ i ≤ m ∧ Hid (PowI w wr v nv N K (k - m + i))) (fun _ iv _ => m - (intOf iv).toNat)
      case atStart => exact ⟨0, rfl, Nat.zero_le _, HI⟩
      case round =>
        clear HI
        obtain ⟨i, rfl, hi, HI⟩ := hrel
        by_cases hl : i < m
        · have hT := times_big u0 _ _ 2 wr HI.out.big (by omega) (by decide) (by decide)
          rw [show ((2 : Nat) : Int) = 2 from rfl] at hT
          have hli : (i : Int) < (m : Int) := by omega
          go_wp2_with (go_at_call 82; refine hT.mono ?_; rintro e9 w9 ⟨v9, rfl, hb9, hk9⟩)
          have HJ : Hid (PowI w w9 v v9 N K (k - m + (i + 1))) := HI.out.next 1 (by decide) hb9 hk9
          clear hb9 hk9 hT
          go_roundw
          case rel => exact ⟨i + 1, by go_num, by omega, HJ⟩
          case measure => (simp [intOf]; try omega)
        · have hli : ¬ (i : Int) < (m : Int) := by omega
          go_wp2
          go_ret
          have h1 := HI.out
          rw [show k - m + i = k by omega] at h1
          exact ⟨_, rfl, ⟨h1.big, h1.own⟩, h1.keep⟩
end Go.Proofs.YtnljpbpphdhnpaaGreatDoor


/- The document's whole numbers of any length: the mathematics of product. -/
namespace Go.Proofs.YtnljpbpphdhnpaaGreatDoor
open Go.RowKit Go.PlainAid

theorem Rw.set {w : World} {g cap n : Nat} {l : List Nat} (h : Rw w (.slice (some ⟨g, 0, none⟩) n cap) l) (hn : l.length = n) (i : Nat) (y : Nat) :
    Rw (w.setCell ⟨g, i, none⟩ (.int .i64 (y : Int))) (.slice (some ⟨g, 0, none⟩) n cap) (l.set i y) := by
  subst hn
  have h1 := (World.ownsRow.stored h i (.int .i64 (y : Int))).1
  have h2 : (iv l).set i (.int .i64 (y : Int)) = iv (l.set i y) := by simp [iv, List.map_set]
  rw [h2] at h1
  show World.ownsRow _ _ _ _ _ (l.set i y).length _
  rw [List.length_set]
  exact h1

theorem bigV_set (l : List Nat) (p y : Nat) (hp : p < l.length) : bigV (l.set p y) + 1000000000 ^ p * l.getD p 0 = bigV l + 1000000000 ^ p * y := by
  have h1 := big_split l p hp
  have h2 := big_split (l.set p y) p (by simpa using hp)
  have e1 : (l.set p y).take p = l.take p := by rw [List.take_set_of_le (Nat.le_refl _)]
  have e2 : (l.set p y).drop (p + 1) = l.drop (p + 1) := by rw [List.drop_set_of_lt (by omega)]
  have e3 : (l.set p y).getD p 0 = y := by simp [List.getD_eq_getElem?_getD, hp]
  rw [e1, e2, e3] at h2
  rw [h1, h2, Nat.mul_add, Nat.mul_add]
  omega

theorem Lim.set {l : List Nat} (h : Lim l) (p y : Nat) (hy : y < 1000000000) : Lim (l.set p y) := fun x hx => by
  rcases List.mem_or_eq_of_mem_set hx with h1 | h1
  · exact h x h1
  · omega

theorem getD_set_ne (l : List Nat) (p j y : Nat) (h : p ≠ j) : (l.set p y).getD j 0 = l.getD j 0 := by
  simp [List.getD_eq_getElem?_getD, List.getElem?_set_ne h]

structure ProI (w wr : World) (g n : Nat) (out : List Nat) : Prop where
  row : Rw wr (.slice (some ⟨g, 0, none⟩) n n) out
  len : out.length = n
  keep : Keep [] w wr
  new : w.heap.size ≤ g
  lim : Lim out

theorem ProI.drewN {w wr : World} {g n : Nat} {out : List Nat} (h : ProI w wr g n out) (q : Nat) : ProI w (wr.drewN q) g n out :=
  ⟨h.row.keep ((Keep.refl [] wr).drewN q) (Off.nil _), h.len, h.keep.drewN q, h.new, h.lim⟩
theorem ProI.put {w wr : World} {g n : Nat} {out : List Nat} (h : ProI w wr g n out) (p y : Nat) (hy : y < 1000000000) : ProI w (wr.setCell ⟨g, p, none⟩ (.int .i64 (y : Int))) g n (out.set p y) :=
  ⟨h.row.set h.len p y, by rw [List.length_set]; exact h.len, h.keep.setCell (.inr h.new) _, h.new, h.lim.set p y hy⟩
theorem ProI.cell {w wr : World} {g n : Nat} {out : List Nat} (h : ProI w wr g n out) (p : Nat) (hp : p < n) : wr.cell? ⟨g, p, none⟩ = some (.int .i64 ((out.getD p 0 : Nat) : Int)) := by
  have h1 := h.row
  have hl := h.len
  subst hl
  have := World.ownsRow.cellAt h1 p (by omega)
  rw [this, iv_get out p hp, List.getD_eq_getElem?_getD, List.getElem?_eq_getElem hp]
  rfl
theorem ProI.frozen {w wr : World} {g n : Nat} {out : List Nat} (h : ProI w wr g n out) (p : Nat) : wr.frozen? ⟨g, p, none⟩ = false := by
  have h1 := h.row
  have hl := h.len
  subst hl
  exact World.ownsRow.frozenAt h1 p

/-- a row of product under way: i parts of a are done, k parts of b for the next, c is carried -/
structure InI (w wr : World) (g n : Nat) (out out0 : List Nat) (a b : List Nat) (i k c : Nat) : Prop where
  pro : ProI w wr g n out
  val : bigV out + 1000000000 ^ (i + k) * c = bigV out0 + 1000000000 ^ i * (a.getD i 0 * bigV (b.take k))
  zer : ∀ j, i + b.length ≤ j → out.getD j 0 = 0
  low : c < 1000000000

theorem InI.next {w wr : World} {g n : Nat} {out out0 a b : List Nat} {i k c : Nat} (h : InI w wr g n out out0 a b i k c) (La : Lim a) (Lb : Lim b) (hk : k < b.length) (hn : n = a.length + b.length + 1) (hi : i < a.length)
    (X : Nat) (hX : X = out.getD (i + k) 0 + a.getD i 0 * b.getD k 0 + c) (q : Nat) : InI w ((wr.drewN q).setCell ⟨g, i + k, none⟩ (.int .i64 ((X % 1000000000 : Nat) : Int))) g n (out.set (i + k) (X % 1000000000)) out0 a b i (k + 1) (X / 1000000000) := by
  refine ⟨(h.pro.drewN q).put (i + k) _ (by omega), ?_, fun j hj => ?_, ?_⟩
  · have h1 := bigV_set out (i + k) (X % 1000000000) (by have := h.pro.len; omega)
    have h2 := h.val
    rw [bigV_take b k hk, Nat.mul_add (a.getD i 0), Nat.mul_add (1000000000 ^ i)]
    have h3 : 1000000000 ^ i * (a.getD i 0 * (1000000000 ^ k * b.getD k 0)) = 1000000000 ^ (i + k) * (a.getD i 0 * b.getD k 0) := by
      rw [Nat.pow_add, Nat.mul_assoc]
      congr 1
      rw [← Nat.mul_assoc, Nat.mul_comm (a.getD i 0), Nat.mul_assoc]
    have h4 : 1000000000 ^ (i + (k + 1)) * (X / 1000000000) + 1000000000 ^ (i + k) * (X % 1000000000) = 1000000000 ^ (i + k) * X := by
      rw [← Nat.add_assoc, Nat.pow_succ, Nat.mul_assoc, ← Nat.mul_add, Nat.div_add_mod]
    have h5 : 1000000000 ^ (i + k) * X = 1000000000 ^ (i + k) * out.getD (i + k) 0 + 1000000000 ^ (i + k) * (a.getD i 0 * b.getD k 0) + 1000000000 ^ (i + k) * c := by
      rw [hX, Nat.mul_add, Nat.mul_add]
    rw [h3]
    omega
  · rw [getD_set_ne _ _ _ _ (by omega)]
    exact h.zer j hj
  · have h1 := La.get i
    have h2 := Lb.get k
    have h3 := h.pro.lim.get (i + k)
    have h4 := h.low
    have h5 : a.getD i 0 * b.getD k 0 ≤ 999999999 * 999999999 := Nat.mul_le_mul (by omega) (by omega)
    omega

/-- product under way: i parts of a are done -/
structure OutI (w wr : World) (g n : Nat) (out : List Nat) (a b : List Nat) (i : Nat) : Prop where
  pro : ProI w wr g n out
  val : bigV out = bigV (a.take i) * bigV b
  zer : ∀ j, i + b.length ≤ j → out.getD j 0 = 0

theorem OutI.start {w wr : World} {g n : Nat} {out a b : List Nat} {i : Nat} (h : OutI w wr g n out a b i) : InI w wr g n out out a b i 0 0 := ⟨h.pro, by simp [bigV], h.zer, by decide⟩

theorem OutI.next {w w0 wr : World} {g n : Nat} {out out0 a b : List Nat} {i c : Nat} (h0 : OutI w w0 g n out0 a b i) (h : InI w wr g n out out0 a b i b.length c) (hn : n = a.length + b.length + 1) (hi : i < a.length) :
    OutI w (wr.setCell ⟨g, i + b.length, none⟩ (.int .i64 (c : Int))) g n (out.set (i + b.length) c) a b (i + 1) := by
  refine ⟨h.pro.put (i + b.length) c h.low, ?_, fun j hj => ?_⟩
  · have h1 := bigV_set out (i + b.length) c (by have := h.pro.len; omega)
    rw [h.zer _ (Nat.le_refl _), Nat.mul_zero, Nat.add_zero] at h1
    rw [h1, h.val, h0.val, List.take_of_length_le (Nat.le_refl _), bigV_take a i hi, Nat.add_mul, Nat.mul_assoc]
  · rw [getD_set_ne _ _ _ _ (by omega)]
    exact h.zer j (by omega)

theorem zeros_big (n : Nat) : bigV (List.replicate n 0) = 0 := bigV_none _ (fun _ hx => (List.mem_replicate.1 hx).2)
end Go.Proofs.YtnljpbpphdhnpaaGreatDoor


/- The document's whole numbers of any length: product. -/
namespace Go.Proofs.YtnljpbpphdhnpaaGreatDoor
open Go.RowKit Go.PlainAid

theorem wrap_ok (z : Int) (h1 : -9223372036854775808 ≤ z) (h2 : z ≤ 9223372036854775807) : IntKind.i64.wrap z = z := by
  unfold IntKind.wrap
  simp [IntKind.signed, IntKind.bits]
  omega

set_option maxRecDepth 1000000 in
set_option maxHeartbeats 6400000 in
theorem product_any (u v : Value) (a b : List Nat) (w : World) (hu : Is w u a) (hv : Is w v b) (La : Lim a) (Lb : Lim b) (ha : a.length ≤ 100000) (hb : b.length ≤ 100000) :
    Calls Tryz.prog 66 #[u, v] w fun e w' => ∃ v', e = .returned v' ∧ (Big w' v' (bigV a * bigV b) (a.length + b.length + 1) ∧ Fresh w w' v') ∧ Keep [] w w' := by
  obtain ⟨ao, ca, rfl, p1, p2, _, p4⟩ := hu.ex
  obtain ⟨bo, cb, rfl, q1, q2, _, q4⟩ := hv.ex
  simp only [maxLen] at p2 q2
  have HA : Hid (a ≠ [] → ∃ g o, ao = some ⟨g, o, none⟩ ∧ ∀ j, j < a.length → w.cell? ⟨g, o + j, none⟩ = some (.int .i64 ((a.getD j 0 : Nat) : Int))) := p4
  have HB : Hid (b ≠ [] → ∃ g o, bo = some ⟨g, o, none⟩ ∧ ∀ j, j < b.length → w.cell? ⟨g, o + j, none⟩ = some (.int .i64 ((b.getD j 0 : Nat) : Int))) := q4
  have HLm : Hid (Lim a ∧ Lim b) := ⟨La, Lb⟩
  clear hu hv p4 q4 La Lb
  obtain ⟨i3, hi3, hz3, hs3, hy3⟩ := info_parts infoI
  obtain ⟨n, HN⟩ : ∃ n : Nat, Hid (n = a.length + b.length + 1) := ⟨_, rfl⟩
  have hn1 : (a.length : Int) + (b.length : Int) + 1 = (n : Int) := by have := HN.out; omega
  have HB2 : Hid (i3.bytes * n ≤ 281474976710656) := show i3.bytes * n ≤ 281474976710656 by rw [hy3]; have := HN.out; omega
  have HB3 : Hid (n ≤ maxLen) := show n ≤ maxLen by simp only [maxLen]; have := HN.out; omega
  go_enter Tryz.func66, Tryz.ntmps66
  go_wp2_with (at_make; refine wpList_make_full _ rfl (.tmp 15) (.tmp 15) 55 rfl 0 3 i3 (.int .i64 0) 1 underN hi3 hz3 hs3 .i64 .i64 _ _ n rfl rfl rfl rfl HB2.out HB3.out (Nat.zero_le _) ?_)
  intro w1 r1 r2
  have HO : Hid (OutI w w1 w.heap.size n (List.replicate n 0) a b 0) := by
    have hr : Rw w1 (.slice (some ⟨w.heap.size, 0, none⟩) n n) (List.replicate n 0) := by
      show World.ownsRow _ _ _ _ _ (List.replicate n 0).length _
      rw [List.length_replicate]
      have e : (madeCells #[Value.int IntKind.i64 0] n).toList = iv (List.replicate n 0) := by
        rw [toList_madeCells_one]
        simp [iv]
      rw [← e]
      exact r1
    have hz : ∀ j, (List.replicate n 0).getD j 0 = 0 := fun j => by
      rw [List.getD_eq_getElem?_getD, List.getElem?_replicate]
      split <;> rfl
    exact (⟨⟨hr, by simp, Keep.mono (Keep.grown r2) (by simp), Nat.le_refl _, fun x hx => by rw [(List.mem_replicate.1 hx).2]; decide⟩, by rw [zeros_big]; simp [bigV], fun j _ => hz j⟩ : OutI w w1 w.heap.size n (List.replicate n 0) a b 0)
  clear r1 r2 HB2 HB3 hi3 hz3 hs3 hy3 hn1
  generalize w.heap.size = g at *
  go_wp2
  go_loopw [6] (fun iv9 wr => ∃ (i : Nat) (out : List Nat), iv9 = .int .i64 (i : Int) ∧ i ≤ a.length ∧ Hid (OutI w wr g n out a b i)) (fun iv9 _ => a.length - (intOf iv9).toNat)
  case atStart => exact ⟨0, _, rfl, Nat.zero_le _, HO⟩
  case round =>
    clear HO
    obtain ⟨i, out0, rfl, hia, HO⟩ := hrel
    by_cases hi : i < a.length
    · have hii : (i : Int) < (a.length : Int) := by omega
      obtain ⟨ga, oa, rfl, hca0⟩ := HA.out (by intro hz; rw [hz] at hi; simp at hi)
      have HCA : Hid (w.cell? ⟨ga, oa + i, none⟩ = some (.int .i64 ((a.getD i 0 : Nat) : Int))) := hca0 i hi
      clear hca0
      go_wp2
      go_loopw [7, 8] (fun cv kv wr => ∃ (c k : Nat) (out : List Nat), cv = .int .i64 (c : Int) ∧ kv = .int .i64 (k : Int) ∧ k ≤ b.length ∧ Hid (InI w wr g n out out0 a b i k c)) (fun _ kv _ => b.length - (intOf kv).toNat)
      case atStart => exact ⟨0, 0, _, rfl, rfl, Nat.zero_le _, HO.out.start⟩
      case round =>
        obtain ⟨c, k, out, rfl, rfl, hkb, HI⟩ := hrel
        by_cases hk : k < b.length
        · have hki : (k : Int) < (b.length : Int) := by omega
          obtain ⟨gb, ob, rfl, hcb0⟩ := HB.out (by intro hz; rw [hz] at hk; simp at hk)
          have hca : wr.cell? ⟨ga, oa + i, none⟩ = some (.int .i64 ((a.getD i 0 : Nat) : Int)) := HI.out.pro.keep.cell' HCA.out (by simp)
          have hcb : wr.cell? ⟨gb, ob + k, none⟩ = some (.int .i64 ((b.getD k 0 : Nat) : Int)) := HI.out.pro.keep.cell' (hcb0 k hk) (by simp)
          clear hcb0
          obtain ⟨p, HP⟩ : ∃ p : Nat, Hid (p = i + k) := ⟨_, rfl⟩
          have hpn : p < n := by have := HP.out; have := HN.out; omega
          have hco : wr.cell? ⟨g, p, none⟩ = some (.int .i64 ((out.getD p 0 : Nat) : Int)) := HI.out.pro.cell p hpn
          have hfz : wr.frozen? ⟨g, p, none⟩ = false := HI.out.pro.frozen p
          obtain ⟨X, HX⟩ : ∃ X : Nat, Hid (X = out.getD (i + k) 0 + a.getD i 0 * b.getD k 0 + c) := ⟨_, rfl⟩
          have HJ : Hid (∀ q, InI w ((wr.drewN q).setCell ⟨g, p, none⟩ (.int .i64 ((X % 1000000000 : Nat) : Int))) g n (out.set (i + k) (X % 1000000000)) out0 a b i (k + 1) (X / 1000000000)) := fun q => by
            rw [HP.out]
            exact HI.out.next HLm.out.1 HLm.out.2 hk HN.out hi X HX.out q
          have f1 := HLm.out.1.get i
          have f2 := HLm.out.2.get k
          have f3 := HI.out.pro.lim.get p
          have f4 := HI.out.low
          have f5 : a.getD i 0 * b.getD k 0 ≤ 999999999 * 999999999 := Nat.mul_le_mul (by omega) (by omega)
          have hx : X = out.getD p 0 + a.getD i 0 * b.getD k 0 + c := by rw [HP.out]; exact HX.out
          generalize a.getD i 0 = x at *
          generalize b.getD k 0 = y at *
          generalize out.getD p 0 = z at *
          have hs1 : IntKind.i64.wrap ((i : Int) + (k : Int)) = (p : Int) := by rw [wrap_ok _ (by omega) (by omega)]; have := HP.out; omega
          have hs2 : (i : Int) + (k : Int) = (p : Int) := by have := HP.out; omega
          have hm0 : (x : Int) * (y : Int) = ((x * y : Nat) : Int) := by rw [Int.natCast_mul]
          have hm1 : IntKind.i64.wrap ((x : Int) * (y : Int)) = ((x * y : Nat) : Int) := by rw [wrap_ok _ (by omega) (by omega)]; exact hm0
          generalize x * y = m at *
          have hm2 : IntKind.i64.wrap ((z : Int) + (m : Int)) = ((z + m : Nat) : Int) := by rw [wrap_ok _ (by omega) (by omega)]; omega
          have hm3 : IntKind.i64.wrap (((z + m : Nat) : Int) + (c : Int)) = (X : Int) := by rw [wrap_ok _ (by omega) (by omega)]; omega
          have hXb : (X : Int) ≤ 9223372036854775807 := by omega
          generalize z + m = s at *
          have hpni : (p : Int) < (n : Int) := by omega
          have he : ((X % 1000000000 : Nat) : Int) = (X : Int) % 1000000000 := by omega
          rw [he] at HJ
          clear hx he HP HX f1 f2 f3 f4 f5 HO HI HCA hm0 HN
          go_wp2
          go_quiet (fail)
          go_wp2
          go_roundw
          case rel => exact ⟨X / 1000000000, k + 1, _, by go_num, by go_num, by omega, HJ.out _⟩
          case measure => (simp [intOf]; try omega)
        · have hki : ¬ (k : Int) < (b.length : Int) := by omega
          obtain rfl : k = b.length := by omega
          obtain ⟨p, HP⟩ : ∃ p : Nat, Hid (p = i + b.length) := ⟨_, rfl⟩
          have hpn : p < n := by have := HP.out; have := HN.out; omega
          have hco : wr.cell? ⟨g, p, none⟩ = some (.int .i64 0) := by
            rw [HI.out.pro.cell p hpn, HI.out.zer p (by have := HP.out; omega)]; rfl
          have hfz : wr.frozen? ⟨g, p, none⟩ = false := HI.out.pro.frozen p
          have HJ : Hid (OutI w (wr.setCell ⟨g, p, none⟩ (.int .i64 (c : Int))) g n (out.set (i + b.length) c) a b (i + 1)) := by
            rw [HP.out]
            exact HO.out.next HI.out HN.out hi
          have hs2 : (i : Int) + (b.length : Int) = (p : Int) := by have := HP.out; omega
          have hpni : (p : Int) < (n : Int) := by omega
          have f4 := HI.out.low
          clear HP HO HI HCA HN
          go_wp2
          go_roundw
          case rel => exact ⟨i + 1, _, by go_num, by omega, HJ⟩
          case measure => (simp [intOf]; try omega)
    · have hii : ¬ (i : Int) < (a.length : Int) := by omega
      have hP := plain_any _ _ wr HO.out.pro.row.bs
      go_wp2_with (go_at_call 83; refine hP.mono ?_; rintro e9 w9 ⟨v9, rfl, hc9, hw9⟩; obtain rfl := hw9.symm)
      go_ret
      have hv := HO.out.val
      rw [List.take_of_length_le (by omega)] at hv
      exact ⟨_, rfl, cut_big hc9 HO.out.pro.lim hv (by rw [HO.out.pro.len, HN.out]; exact Nat.le_refl _) (fun k hk => by
        simp [Value.ownBlock] at hk
        subst hk
        exact ⟨HO.out.pro.new, HO.out.pro.row.lt g rfl⟩), HO.out.pro.keep⟩

theorem product_big (u v : Value) (M N K L : Nat) (w : World) (hu : Big w u M K) (hv : Big w v N L) (hK : K ≤ 100000) (hL : L ≤ 100000) :
    Calls Tryz.prog 66 #[u, v] w fun e w' => ∃ v', e = .returned v' ∧ (Big w' v' (M * N) (K + L + 1) ∧ Fresh w w' v') ∧ Keep [] w w' := by
  obtain ⟨a, h1, h2, h3, rfl, h5⟩ := hu
  obtain ⟨b, g1, g2, g3, rfl, g5⟩ := hv
  refine (product_any u v a b w h1 g1 h2 g2 (by omega) (by omega)).mono ?_
  rintro e w' ⟨v', he, ⟨j1, j2⟩, j3⟩
  exact ⟨v', he, ⟨j1.mono (by omega), j2⟩, j3⟩
end Go.Proofs.YtnljpbpphdhnpaaGreatDoor

