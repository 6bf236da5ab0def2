/- A list of one number again and again: slices.Repeat. -/
import Derived.Test.YtmlpkjeaieljfabShelfM
import Derived.Test.YtmlpkjeaieljfabTu
import Derived.Laws.CopyOwn
namespace Go.Proofs.Ytmlpkjeaieljfab
open Go.RowKit Go.PlainAid Go.Sort

theorem sizeI : (Try.prog.info? 3).map (·.size) = some 1 := by kernel_rfl

/-- k times x, then noughts -/
def repV (x : Int) (k n : Nat) : List Value := List.replicate k (.int .i64 x) ++ List.replicate (n - k) (.int .i64 0)
theorem repV_len (x : Int) (k n : Nat) (h : k ≤ n) : (repV x k n).length = n := by simp [repV]; omega
theorem repV_splice (x : Int) (k c n : Nat) (h : k + c ≤ n) : splice (repV x k n) k (List.replicate c (.int .i64 x)) = repV x (k + c) n := by
  unfold splice repV
  rw [List.take_left' (by simp), List.drop_append]
  simp only [List.length_replicate, List.drop_replicate]
  rw [show k - (k + c) = 0 by omega, List.replicate_zero, List.nil_append, show n - k - (k + c - k) = n - (k + c) by omega, ← List.append_assoc, List.replicate_append_replicate]
theorem repV_get (x : Int) (k n j : Nat) (hj : j < k) : (repV x k n)[j]? = some (.int .i64 x) := by
  unfold repV
  rw [List.getElem?_append_left (by simpa using hj), List.getElem?_replicate, if_pos hj]

theorem blk_cell {w : World} {g : Nat} {l : List Value} {t : TypeId} (h : w.heap[g]? = some (.cells l.toArray t (0, 0))) (j : Nat) : w.cell? ⟨g, j, none⟩ = l[j]? := by
  simp [World.cell?, h]

theorem row_blk {w : World} {g n : Nat} {xs : List Value} (h : RowC w 3 1 (.slice (some ⟨g, 0, none⟩) n n) n xs) : w.heap[g]? = some (.cells xs.toArray 3 (0, 0)) := by
  rcases h.2 with ⟨h1, _⟩ | ⟨g', cap', cur, he, _, hg, _, _, hcs, htake⟩
  · simp at h1
  · simp at he
    obtain ⟨rfl, rfl⟩ := he
    have : cur = xs.toArray := by
      rw [← htake, List.take_of_length_le (by simp [hcs])]
    rw [← this]
    exact hg
theorem blk_row {w : World} {g n : Nat} {xs : List Value} (h : w.heap[g]? = some (.cells xs.toArray 3 (0, 0))) (hl : xs.length = n) (hn : n ≤ maxLen) : RowC w 3 1 (.slice (some ⟨g, 0, none⟩) n n) n xs :=
  ⟨by omega, .inr ⟨g, n, xs.toArray, rfl, Nat.zero_le _, h, Nat.le_refl _, hn, by simp [hl], by simpa using List.take_of_length_le (by omega)⟩⟩

set_option maxRecDepth 1000000 in
set_option maxHeartbeats 1000000 in
theorem repeat_any (b n : Nat) (x : Int) (w : World) (hx : w.cell? ⟨b, 0, none⟩ = some (.int .i64 x)) (hn : n ≤ 4096) :
    Calls Try.prog 47 #[.slice (some ⟨b, 0, none⟩) 1 1, .int .i64 (n : Int)] w fun e w' => e = .returned (.slice (some ⟨w.heap.size, 0, none⟩) n n) ∧ Arr 3 eI w' w.heap.size n (List.replicate n x) ∧ Keep [] w w' := by
  have hM : ∀ w, Calls Try.prog 68 #[.int .u64 1, .int .u64 (n : Int)] w fun e w' => e = .returned (.tuple #[.int .u64 0, .int .u64 (n : Int)]) ∧ w' = w := fun w => by
    have h := Any.bits_Mul Try.mulBits 1 n (by omega) (by omega) w
    rw [show (1 * n / 18446744073709551616 : Nat) = 0 by omega, show (1 * n % 18446744073709551616 : Nat) = n by omega] at h
    exact h
  have HM : Hid (∀ w, Calls Try.prog 68 #[.int .u64 1, .int .u64 (n : Int)] w fun e w' => e = .returned (.tuple #[.int .u64 0, .int .u64 (n : Int)]) ∧ w' = w) := hM
  clear hM
  obtain ⟨i3, hi3, hz3, hs3, hy3⟩ := info_parts infoI
  have HB2 : Hid (i3.bytes * n ≤ 281474976710656) := show i3.bytes * n ≤ 281474976710656 by rw [hy3]; omega
  have HB3 : Hid (n ≤ maxLen) := show n ≤ maxLen by simp only [maxLen]; omega
  have k1 : IntKind.u64.wrap (n : Int) = (n : Int) := by rw [IntKind.wrap_u64]; omega
  have k2 : IntKind.i64.wrap (n : Int) = (n : Int) := wrap_ok _ (by omega) (by omega)
  have k3 : ¬ (n : Int) < 0 := by omega
  have k4 : ¬ (9223372036854775807 : Int) < (n : Int) := by omega
  have k5 : decide ((9223372036854775807 : Int) < (n : Int)) = false := by simp; omega
  go_enter Try.func47, Try.ntmps47
  go_wp2_with (first | (go_at_call 68; refine (HM.out _).mono ?_; rintro e w1 ⟨rfl, hw1⟩; obtain rfl := hw1.symm) | (at_make; refine wpList_make_full _ rfl (.tmp 29) (.tmp 29) 28 rfl 0 3 i3 (.int .i64 0) 1 Try.underlying28 hi3 hz3 hs3 .i64 .i64 _ _ n rfl rfl rfl rfl HB2.out HB3.out (Nat.zero_le _) ?_))
  intro w2 r1 r2
  have H2 : Hid (w2.heap[w.heap.size]? = some (.cells (repV x 0 n).toArray 3 (0, 0)) ∧ Below w.heap.size w w2) := by
    rw [toList_madeCells_one] at r1
    have := row_blk r1
    refine ⟨by simpa [repV] using this, (Keep.mono (Keep.grown r2) (by simp)).below⟩
  have hx2 : w2.cell? ⟨b, 0, none⟩ = some (.int .i64 x) := (Keep.mono (F := _) (G := []) (Keep.grown r2) (by simp)).cell' hx (by simp)
  clear r1 r2 HB2 HB3 hi3 hz3 hs3 hy3 HM hx
  obtain ⟨g, HG⟩ : ∃ g : Nat, Hid (g = w.heap.size) := ⟨_, show _ = _ from rfl⟩
  rw [← HG.out] at H2 ⊢
  obtain ⟨c0, HC0⟩ : ∃ c0 : Nat, Hid (c0 = Nat.min 1 n) := ⟨_, show _ = _ from rfl⟩
  have HQ : Hid (c0 ≤ 1 ∧ c0 ≤ n ∧ (n ≠ 0 → c0 = 1)) := by
    have := HC0.out
    simp [Nat.min_def] at this
    split at this <;> exact ⟨by omega, by omega, fun _ => by omega⟩
  have HS : Hid (∀ j v, (List.replicate c0 (Value.int .i64 x))[j]? = some v → w2.cell? ((⟨b, 0, none⟩ : Addr).add j) = some v) := fun j v hv => by
    rw [List.getElem?_replicate] at hv
    have := HQ.out
    split at hv
    · cases hv
      obtain rfl : j = 0 := by omega
      rw [Addr.add_lit]
      exact hx2
    · cases hv
  have HS1 : Hid (∀ v ∈ List.replicate c0 (Value.int .i64 x), v.oneCell' = true) := fun v hv => by rw [(List.mem_replicate.1 hv).2]; rfl
  have HS2 : Hid ((List.replicate c0 (Value.int .i64 x)).length = Nat.min 1 n) := by show _ = _; rw [List.length_replicate]; exact HC0.out
  have HS3 : Hid (0 + (List.replicate c0 (Value.int .i64 x)).length ≤ (repV x 0 n).length) := by show _ ≤ _; rw [repV_len x 0 n (by omega), List.length_replicate]; have := HQ.out; omega
  go_wp2_with (refine wpList_copy_splice rfl (.tmp 31) (.tmp 32) 28 28 rfl 3 Try.underlying28 sizeI (some ⟨g, 0, none⟩) (some ⟨b, 0, none⟩) n n 1 1 rfl rfl g 0 (repV x 0 n) 3 H2.out.1 (List.replicate c0 (.int .i64 x)) HS2.out (fun _ => ⟨rfl, _, rfl, HS.out⟩) HS3.out HS1.out g w H2.out.2 (Nat.le_refl _) ?_)
  intro w3 h3 b3
  have H3 : Hid (w3.heap[g]? = some (.cells (repV x c0 n).toArray 3 (0, 0)) ∧ Below g w w3) := by
    have := h3.out
    rw [repV_splice x 0 c0 n (by have := HQ.out; omega), Nat.zero_add] at this
    exact ⟨this, b3⟩
  clear h3 b3 H2 HS HS1 HS2 HS3 hx2
  go_wp2
  go_loopw [8] (fun kv wr => ∃ k : Nat, kv = .int .i64 (k : Int) ∧ k ≤ n ∧ (n ≠ 0 → 1 ≤ k) ∧ Hid (wr.heap[g]? = some (.cells (repV x k n).toArray 3 (0, 0)) ∧ Below g w wr)) (fun kv _ => n - (intOf kv).toNat)
  case atStart => exact ⟨c0, rfl, HQ.out.2.1, fun h => by have := HQ.out.2.2 h; omega, H3⟩
  case round =>
    clear H3
    obtain ⟨k, rfl, hkn, hk1, H3⟩ := hrel
    by_cases hlt : k < n
    · have hlti : (k : Int) < (n : Int) := by omega
      replace hk1 := hk1 (by omega)
      obtain ⟨c, HC⟩ : ∃ c : Nat, Hid (c = Nat.min k (n - k)) := ⟨_, show _ = _ from rfl⟩
      have HQ2 : Hid (1 ≤ c ∧ k + c ≤ n ∧ c ≤ k) := by
        have := HC.out
        simp [Nat.min_def] at this
        split at this <;> exact ⟨by omega, by omega, by omega⟩
      have HS : Hid (∀ j v, (List.replicate c (Value.int .i64 x))[j]? = some v → wr.drew.cell? ((⟨g, 0, none⟩ : Addr).add j) = some v) := fun j v hv => by
        rw [List.getElem?_replicate] at hv
        have := HQ2.out
        split at hv
        · cases hv
          rw [Addr.add_lit, Nat.zero_add]
          show wr.cell? _ = _
          rw [blk_cell H3.out.1, repV_get x k n j (by omega)]
        · cases hv
      have HS1 : Hid (∀ v ∈ List.replicate c (Value.int .i64 x), v.oneCell' = true) := fun v hv => by rw [(List.mem_replicate.1 hv).2]; rfl
      have HS2 : Hid ((List.replicate c (Value.int .i64 x)).length = Nat.min k (n - k)) := by show _ = _; rw [List.length_replicate]; exact HC.out
      have HS3 : Hid (k + (List.replicate c (Value.int .i64 x)).length ≤ (repV x k n).length) := by show _ ≤ _; rw [repV_len x k n (by omega), List.length_replicate]; exact HQ2.out.2.1
      have hnk : ¬ n = k := by omega
      have hd : Hid (Below g w wr.drew ∧ wr.drew.heap[g]? = some (.cells (repV x k n).toArray 3 (0, 0))) := ⟨H3.out.2.drew, H3.out.1⟩
      have hcl : (List.replicate c (Value.int IntKind.i64 x)).length = c := List.length_replicate
      have HW : IntKind.i64.wrap ((k : Int) + (c : Int)) = ((k + c : Nat) : Int) := by rw [wrap_ok _ (by omega) (by have := HQ2.out; omega)]; omega
      clear HC HQ HC0
      go_wp2
      go_region_law (refine step_copy_splice rfl (.tmp 41) (.tmp 44) 28 28 rfl 3 Try.underlying28 sizeI (some ⟨g, k, none⟩) (some ⟨g, 0, none⟩) (n - k) (n - k) k n (by go_simp) (by go_simp) g k (repV x k n) 3 hd.out.2 (List.replicate c (.int .i64 x)) HS2.out (fun _ => ⟨rfl, _, rfl, HS.out⟩) HS3.out HS1.out g w hd.out.1 (Nat.le_refl _) ?_; intro w4 h4 b4)
      have H4 : Hid (w4.heap[g]? = some (.cells (repV x (k + c) n).toArray 3 (0, 0)) ∧ Below g w w4) := by
        have := h4.out
        rw [repV_splice x k c n HQ2.out.2.1] at this
        exact ⟨this, b4⟩
      have hq := HQ2.out
      clear h4 b4 H3 HS HS1 HS2 HS3 hd HQ2
      go_simp
      go_roundw
      case rel => exact ⟨.int .i64 ((k : Int) + (c : Int)), _, _, _, _, _, _, _, _, _, _, _, _, _, ⟨k + c, by go_num, by omega, fun _ => by omega, H4⟩, rfl⟩
      case measure => simp [intOf]; omega
    · have hlti : ¬ (k : Int) < (n : Int) := by omega
      obtain rfl : k = n := by omega
      go_wp2
      go_ret
      have hz : repV x k k = (List.replicate k x).map eI := by simp [repV, eI]
      refine ⟨?_, ⟨?_, by simp⟩, ?_⟩
      · rw [← HG.out]; rfl
      · rw [← HG.out, ← hz]
        exact blk_row H3.out.1 (repV_len x k k (Nat.le_refl _)) (by simp only [maxLen]; omega)
      · have := H3.out.2
        rw [HG.out] at this
        exact Keep.ofBelow this
end Go.Proofs.Ytmlpkjeaieljfab

