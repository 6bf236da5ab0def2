/- The document's whole numbers of any length: product. -/
import Derived.Test.YtppimacfeelneaaBigD
namespace Go.Proofs.Ytppimacfeelneaa
open Go.RowKit Go.PlainAid

theorem wrap_ok (z : Int) (h1 : -9223372036854775808 ≤ z) (h2 : z ≤ 9223372036854775807) : IntKind.i64.wrap z = z := by
  unfold IntKind.wrap
  simp [IntKind.signed, IntKind.bits]
  omega

set_option maxRecDepth 1000000 in
set_option maxHeartbeats 6400000 in
theorem product_any (u v : Value) (a b : List Nat) (w : World) (hu : Is w u a) (hv : Is w v b) (La : Lim a) (Lb : Lim b) (ha : a.length ≤ 100000) (hb : b.length ≤ 100000) :
    Calls Try.prog 120 #[u, v] w fun e w' => ∃ v', e = .returned v' ∧ (Big w' v' (bigV a * bigV b) (a.length + b.length + 1) ∧ Fresh w w' v') ∧ Keep [] w w' := by
  obtain ⟨ao, ca, rfl, p1, p2, _, p4⟩ := hu.ex
  obtain ⟨bo, cb, rfl, q1, q2, _, q4⟩ := hv.ex
  simp only [maxLen] at p2 q2
  have HA : Hid (a ≠ [] → ∃ g o, ao = some ⟨g, o, none⟩ ∧ ∀ j, j < a.length → w.cell? ⟨g, o + j, none⟩ = some (.int .i64 ((a.getD j 0 : Nat) : Int))) := p4
  have HB : Hid (b ≠ [] → ∃ g o, bo = some ⟨g, o, none⟩ ∧ ∀ j, j < b.length → w.cell? ⟨g, o + j, none⟩ = some (.int .i64 ((b.getD j 0 : Nat) : Int))) := q4
  have HLm : Hid (Lim a ∧ Lim b) := ⟨La, Lb⟩
  clear hu hv p4 q4 La Lb
  obtain ⟨i3, hi3, hz3, hs3, hy3⟩ := info_parts infoI
  obtain ⟨n, HN⟩ : ∃ n : Nat, Hid (n = a.length + b.length + 1) := ⟨_, rfl⟩
  have hn1 : (a.length : Int) + (b.length : Int) + 1 = (n : Int) := by have := HN.out; omega
  have HB2 : Hid (i3.bytes * n ≤ 281474976710656) := show i3.bytes * n ≤ 281474976710656 by rw [hy3]; have := HN.out; omega
  have HB3 : Hid (n ≤ maxLen) := show n ≤ maxLen by simp only [maxLen]; have := HN.out; omega
  go_enter Try.func120, Try.ntmps120
  go_wp2_with (at_make; refine wpList_make_full _ rfl (.tmp 15) (.tmp 15) 96 rfl 0 3 i3 (.int .i64 0) 1 underN hi3 hz3 hs3 .i64 .i64 _ _ n rfl rfl rfl rfl HB2.out HB3.out (Nat.zero_le _) ?_)
  intro w1 r1 r2
  have HO : Hid (OutI w w1 w.heap.size n (List.replicate n 0) a b 0) := by
    have hr : Rw w1 (.slice (some ⟨w.heap.size, 0, none⟩) n n) (List.replicate n 0) := by
      show World.ownsRow _ _ _ _ _ (List.replicate n 0).length _
      rw [List.length_replicate]
      have e : (madeCells #[Value.int IntKind.i64 0] n).toList = iv (List.replicate n 0) := by
        rw [toList_madeCells_one]
        simp [iv]
      rw [← e]
      exact r1
    have hz : ∀ j, (List.replicate n 0).getD j 0 = 0 := fun j => by
      rw [List.getD_eq_getElem?_getD, List.getElem?_replicate]
      split <;> rfl
    exact (⟨⟨hr, by simp, Keep.mono (Keep.grown r2) (by simp), Nat.le_refl _, fun x hx => by rw [(List.mem_replicate.1 hx).2]; decide⟩, by rw [zeros_big]; simp [bigV], fun j _ => hz j⟩ : OutI w w1 w.heap.size n (List.replicate n 0) a b 0)
  clear r1 r2 HB2 HB3 hi3 hz3 hs3 hy3 hn1
  generalize w.heap.size = g at *
  go_wp2
  go_loopw [6] (fun iv9 wr => ∃ (i : Nat) (out : List Nat), iv9 = .int .i64 (i : Int) ∧ i ≤ a.length ∧ Hid (OutI w wr g n out a b i)) (fun iv9 _ => a.length - (intOf iv9).toNat)
  case atStart => exact ⟨0, _, rfl, Nat.zero_le _, HO⟩
  case round =>
    clear HO
    obtain ⟨i, out0, rfl, hia, HO⟩ := hrel
    by_cases hi : i < a.length
    · have hii : (i : Int) < (a.length : Int) := by omega
      obtain ⟨ga, oa, rfl, hca0⟩ := HA.out (by intro hz; rw [hz] at hi; simp at hi)
      have HCA : Hid (w.cell? ⟨ga, oa + i, none⟩ = some (.int .i64 ((a.getD i 0 : Nat) : Int))) := hca0 i hi
      clear hca0
      go_wp2
      go_loopw [7, 8] (fun cv kv wr => ∃ (c k : Nat) (out : List Nat), cv = .int .i64 (c : Int) ∧ kv = .int .i64 (k : Int) ∧ k ≤ b.length ∧ Hid (InI w wr g n out out0 a b i k c)) (fun _ kv _ => b.length - (intOf kv).toNat)
      case atStart => exact ⟨0, 0, _, rfl, rfl, Nat.zero_le _, HO.out.start⟩
      case round =>
        obtain ⟨c, k, out, rfl, rfl, hkb, HI⟩ := hrel
        by_cases hk : k < b.length
        · have hki : (k : Int) < (b.length : Int) := by omega
          obtain ⟨gb, ob, rfl, hcb0⟩ := HB.out (by intro hz; rw [hz] at hk; simp at hk)
          have hca : wr.cell? ⟨ga, oa + i, none⟩ = some (.int .i64 ((a.getD i 0 : Nat) : Int)) := HI.out.pro.keep.cell' HCA.out (by simp)
          have hcb : wr.cell? ⟨gb, ob + k, none⟩ = some (.int .i64 ((b.getD k 0 : Nat) : Int)) := HI.out.pro.keep.cell' (hcb0 k hk) (by simp)
          clear hcb0
          obtain ⟨p, HP⟩ : ∃ p : Nat, Hid (p = i + k) := ⟨_, rfl⟩
          have hpn : p < n := by have := HP.out; have := HN.out; omega
          have hco : wr.cell? ⟨g, p, none⟩ = some (.int .i64 ((out.getD p 0 : Nat) : Int)) := HI.out.pro.cell p hpn
          have hfz : wr.frozen? ⟨g, p, none⟩ = false := HI.out.pro.frozen p
          obtain ⟨X, HX⟩ : ∃ X : Nat, Hid (X = out.getD (i + k) 0 + a.getD i 0 * b.getD k 0 + c) := ⟨_, rfl⟩
          have HJ : Hid (∀ q, InI w ((wr.drewN q).setCell ⟨g, p, none⟩ (.int .i64 ((X % 1000000000 : Nat) : Int))) g n (out.set (i + k) (X % 1000000000)) out0 a b i (k + 1) (X / 1000000000)) := fun q => by
            rw [HP.out]
            exact HI.out.next HLm.out.1 HLm.out.2 hk HN.out hi X HX.out q
          have f1 := HLm.out.1.get i
          have f2 := HLm.out.2.get k
          have f3 := HI.out.pro.lim.get p
          have f4 := HI.out.low
          have f5 : a.getD i 0 * b.getD k 0 ≤ 999999999 * 999999999 := Nat.mul_le_mul (by omega) (by omega)
          have hx : X = out.getD p 0 + a.getD i 0 * b.getD k 0 + c := by rw [HP.out]; exact HX.out
          generalize a.getD i 0 = x at *
          generalize b.getD k 0 = y at *
          generalize out.getD p 0 = z at *
          have hs1 : IntKind.i64.wrap ((i : Int) + (k : Int)) = (p : Int) := by rw [wrap_ok _ (by omega) (by omega)]; have := HP.out; omega
          have hs2 : (i : Int) + (k : Int) = (p : Int) := by have := HP.out; omega
          have hm0 : (x : Int) * (y : Int) = ((x * y : Nat) : Int) := by rw [Int.natCast_mul]
          have hm1 : IntKind.i64.wrap ((x : Int) * (y : Int)) = ((x * y : Nat) : Int) := by rw [wrap_ok _ (by omega) (by omega)]; exact hm0
          generalize x * y = m at *
          have hm2 : IntKind.i64.wrap ((z : Int) + (m : Int)) = ((z + m : Nat) : Int) := by rw [wrap_ok _ (by omega) (by omega)]; omega
          have hm3 : IntKind.i64.wrap (((z + m : Nat) : Int) + (c : Int)) = (X : Int) := by rw [wrap_ok _ (by omega) (by omega)]; omega
          have hXb : (X : Int) ≤ 9223372036854775807 := by omega
          generalize z + m = s at *
          have hpni : (p : Int) < (n : Int) := by omega
          have he : ((X % 1000000000 : Nat) : Int) = (X : Int) % 1000000000 := by omega
          rw [he] at HJ
          clear hx he HP HX f1 f2 f3 f4 f5 HO HI HCA hm0 HN
          go_wp2
          go_quiet (fail)
          go_wp2
          go_roundw
          case rel => exact ⟨X / 1000000000, k + 1, _, by go_num, by go_num, by omega, HJ.out _⟩
          case measure => (simp [intOf]; try omega)
        · have hki : ¬ (k : Int) < (b.length : Int) := by omega
          obtain rfl : k = b.length := by omega
          obtain ⟨p, HP⟩ : ∃ p : Nat, Hid (p = i + b.length) := ⟨_, rfl⟩
          have hpn : p < n := by have := HP.out; have := HN.out; omega
          have hco : wr.cell? ⟨g, p, none⟩ = some (.int .i64 0) := by
            rw [HI.out.pro.cell p hpn, HI.out.zer p (by have := HP.out; omega)]; rfl
          have hfz : wr.frozen? ⟨g, p, none⟩ = false := HI.out.pro.frozen p
          have HJ : Hid (OutI w (wr.setCell ⟨g, p, none⟩ (.int .i64 (c : Int))) g n (out.set (i + b.length) c) a b (i + 1)) := by
            rw [HP.out]
            exact HO.out.next HI.out HN.out hi
          have hs2 : (i : Int) + (b.length : Int) = (p : Int) := by have := HP.out; omega
          have hpni : (p : Int) < (n : Int) := by omega
          have f4 := HI.out.low
          clear HP HO HI HCA HN
          go_wp2
          go_roundw
          case rel => exact ⟨i + 1, _, by go_num, by omega, HJ⟩
          case measure => (simp [intOf]; try omega)
    · have hii : ¬ (i : Int) < (a.length : Int) := by omega
      have hP := plain_any _ _ wr HO.out.pro.row.bs
      go_wp2_with (go_at_call 134; refine hP.mono ?_; rintro e9 w9 ⟨v9, rfl, hc9, hw9⟩; obtain rfl := hw9.symm)
      go_ret
      have hv := HO.out.val
      rw [List.take_of_length_le (by omega)] at hv
      exact ⟨_, rfl, cut_big hc9 HO.out.pro.lim hv (by rw [HO.out.pro.len, HN.out]; exact Nat.le_refl _) (fun k hk => by
        simp [Value.ownBlock] at hk
        subst hk
        exact ⟨HO.out.pro.new, HO.out.pro.row.lt g rfl⟩), HO.out.pro.keep⟩

theorem product_big (u v : Value) (M N K L : Nat) (w : World) (hu : Big w u M K) (hv : Big w v N L) (hK : K ≤ 100000) (hL : L ≤ 100000) :
    Calls Try.prog 120 #[u, v] w fun e w' => ∃ v', e = .returned v' ∧ (Big w' v' (M * N) (K + L + 1) ∧ Fresh w w' v') ∧ Keep [] w w' := by
  obtain ⟨a, h1, h2, h3, rfl, h5⟩ := hu
  obtain ⟨b, g1, g2, g3, rfl, g5⟩ := hv
  refine (product_any u v a b w h1 g1 h2 g2 (by omega) (by omega)).mono ?_
  rintro e w' ⟨v', he, ⟨j1, j2⟩, j3⟩
  exact ⟨v', he, ⟨j1.mono (by omega), j2⟩, j3⟩
end Go.Proofs.Ytppimacfeelneaa

