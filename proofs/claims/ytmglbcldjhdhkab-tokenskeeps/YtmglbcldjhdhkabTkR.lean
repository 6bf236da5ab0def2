/- Rows and numbers at the beginning of a text. -/
import Derived.Test.YtmglbcldjhdhkabTkT
namespace Go.Proofs.Ytmglbcldjhdhkab
open Go.RowKit Go.PlainAid

theorem tw_at (p : UInt8 → Bool) : ∀ (l : List UInt8) (k : Nat), k ≤ l.length → (∀ j, (hj : j < l.length) → j < k → p l[j] = true) → (∀ h : k < l.length, p l[k] = false) → (l.takeWhile p).length = k := by
  intro l
  induction l with
  | nil => intro k h _ _; simp at h; simp [h]
  | cons c l ih =>
    intro k h hall hk
    cases k with
    | zero =>
      have := hk (by simp)
      simp at this
      simp [this]
    | succ k =>
      have hc : p c = true := hall 0 (by simp) (by omega)
      have := ih k (by simpa using h) (fun j hj h2 => hall (j + 1) (by simpa using hj) (by omega)) (fun h => hk (by simpa using h))
      simp [hc, this]
theorem rowN_at (s : ByteArray) (k : Nat) (hk : k ≤ s.size) (hall : ∀ j, j < k → inNameB (bt s j) = true) (he : k < s.size → inNameB (bt s k) = false) : rowN s.toList = k := by
  refine tw_at nm s.toList k (by rw [toList_len]; exact hk) (fun j hj h => ?_) (fun h => ?_)
  · have := hall j h
    rwa [bt_get s j hj] at this
  · have := he (by rw [← toList_len]; exact h)
    rwa [bt_get s k h] at this
theorem tw_ge (p : UInt8 → Bool) : ∀ (l : List UInt8) (k : Nat), k ≤ l.length → (∀ j, (hj : j < l.length) → j < k → p l[j] = true) → k ≤ (l.takeWhile p).length := by
  intro l
  induction l with
  | nil => intro k h _; simp at h; simp [h]
  | cons c l ih =>
    intro k h hall
    cases k with
    | zero => exact Nat.zero_le _
    | succ k =>
      have hc : p c = true := hall 0 (by simp) (by omega)
      have := ih k (by simpa using h) (fun j hj h2 => hall (j + 1) (by simpa using hj) (by omega))
      simp [hc]; omega
theorem rowN_ge (s : ByteArray) (k : Nat) (hk : k ≤ s.size) (hall : ∀ j, j < k → inNameB (bt s j) = true) : k ≤ rowN s.toList := by
  refine tw_ge nm s.toList k (by rw [toList_len]; exact hk) (fun j hj h => ?_)
  have := hall j h
  rwa [bt_get s j hj] at this
theorem inName_low {c : Int} (h : inNameB c = true) : c < 128 := by
  simp [inNameB, smallB, digitB] at h
  omega
theorem inName_high {c : Int} (h : 128 ≤ c) : inNameB c = false := by
  cases e : inNameB c
  · rfl
  · have := inName_low e; omega

abbrev zeroFd : Obj := .cells #[.int .i64 0, .string ⟨#[]⟩, .int .i64 0] 45 (0, 0)
/-- a box of one's own, an iterator behind it, and all else as it was -/
structure It (w wr : World) (s : ByteArray) (pos : Nat) (O : Obj) : Prop where
  box : wr.heap[w.heap.size]? = some O
  it : wr.heap[w.heap.size + 1]? = some (.stringIter s pos)
  keep : Keep [] w wr
theorem It.start (w : World) (s : ByteArray) (O : Obj) : It w ((w.alloc O).iter s 0) s 0 O := by
  refine ⟨?_, ?_, (Keep.alloc1 w O).alloc _⟩
  · exact (Below.heap_alloc (w.alloc O) _ _ (by simp)).trans (heap_alloc_new w O)
  · have := World.iter_heap (w.alloc O) s 0
    simpa using this
theorem It.next {w wr : World} {s : ByteArray} {pos : Nat} {O : Obj} (h : It w wr s pos O) (p : Nat) : It w (wr.iterAt (w.heap.size + 1) s p) s p O :=
  ⟨(Lib.iterAt_other wr _ _ s p (by omega)).trans h.box, Lib.iterAt_heap wr _ s pos p h.it, h.keep.iterAt (.inr (by omega)) s p⟩
theorem It.pos {w wr : World} {s : ByteArray} {pos : Nat} {O : Obj} (h : It w wr s pos O) : wr.iterPos (w.heap.size + 1) = pos := by simp [World.iterPos, h.it]
theorem It.lt {w wr : World} {s : ByteArray} {pos : Nat} {O : Obj} (h : It w wr s pos O) : w.heap.size + 1 < wr.heap.size := (Array.getElem?_eq_some_iff.1 h.it).1

/-- the same three cells, also behind one block more -/
theorem box3_alloc {w : World} {b : Nat} {x y z : Value} {T : TypeId} (h : w.heap[b]? = some (.cells #[x, y, z] T (0, 0))) (O : Obj) :
    (w.alloc O).cell? ⟨b, 0, none⟩ = some x ∧ (w.alloc O).cell? ⟨b, 1, none⟩ = some y ∧ (w.alloc O).cell? ⟨b, 2, none⟩ = some z ∧ (w.alloc O).frozen? ⟨b, 0, none⟩ = false ∧ (w.alloc O).frozen? ⟨b, 1, none⟩ = false ∧ (w.alloc O).frozen? ⟨b, 2, none⟩ = false :=
  box3 ((Below.heap_alloc w O _ (Array.getElem?_eq_some_iff.1 h).1).trans h)
theorem keep_box2 {w W : World} (k : Keep [] w W) (O : Obj) (u v x : Value) {a b c : Nat} : Keep [] w ((((W.alloc O).setCell ⟨w.heap.size, a, none⟩ u).setCell ⟨w.heap.size, b, none⟩ v).setCell ⟨w.heap.size, c, none⟩ x) :=
  (((k.alloc O).setCell (.inr (Nat.le_refl _)) u).setCell (.inr (Nat.le_refl _)) v).setCell (.inr (Nat.le_refl _)) x
theorem keep_box1 {w W : World} (k : Keep [] w W) (u v x : Value) {a b c : Nat} : Keep [] w (((W.setCell ⟨w.heap.size, a, none⟩ u).setCell ⟨w.heap.size, b, none⟩ v).setCell ⟨w.heap.size, c, none⟩ x) :=
  ((k.setCell (.inr (Nat.le_refl _)) u).setCell (.inr (Nat.le_refl _)) v).setCell (.inr (Nat.le_refl _)) x
theorem ret_fd {k k' : Int} {t t' : ByteArray} {n n' : Int} (hk : k = k') (ht : t = t') (hn : n = n') : Ending.returned (.agg #[.int .i64 k, .string t, .int .i64 n]) = .returned (.agg #[.int .i64 k', .string t', .int .i64 n']) := by rw [hk, ht, hn]

set_option maxRecDepth 1000000 in
set_option maxHeartbeats 2000000 in
theorem row_any (s : ByteArray) (w : World) :
    Calls Try.prog 30 #[.string s] w fun e w' => e = .returned (.agg #[.int .i64 (rowL s.toList).kind, .string (ba (rowL s.toList).text), .int .i64 ((rowL s.toList).size : Int)]) ∧ Keep [] w w' := by
  go_enter Try.func30, Try.ntmps30
  go_wp2
  go_loopw [3] (fun z wr => ∃ (pos : Nat), z = .int .i64 (s.size : Int) ∧ pos ≤ s.size ∧ pos ≤ 32 ∧ Hid (It w wr s pos zeroFd) ∧ Hid (∀ j, j < pos → inNameB (bt s j) = true)) (fun _ wr => s.size - wr.iterPos (w.heap.size + 1))
  case atStart => exact ⟨0, rfl, Nat.zero_le _, by omega, It.start w s _, fun j hj => absurd hj (Nat.not_lt_zero j)⟩
  case round =>
    obtain ⟨pos, rfl, hp, h32, hit, hall⟩ := hrel
    have hpos := hit.out.pos
    by_cases hlt : pos < s.size
    · have hnx := next_some (P := Try.prog) wr _ s pos hit.out.it hlt
      have hit2 : Hid _ := hit.out.next (pos + rw' s pos)
      obtain ⟨hw1, hw2⟩ := rw_pos s pos hlt
      generalize hWe : wr.iterAt (w.heap.size + 1) s (pos + rw' s pos) = W at hnx hit2
      clear hWe
      cases hj : inNameB (rn s pos)
      · have hN : Hid (rowN s.toList = pos) := rowN_at s pos hp hall.out (fun _ => by
          rcases Int.lt_or_le (bt s pos) 128 with hb | hb
          · rw [← (rn_low s pos hlt hb).1]; exact hj
          · exact inName_high hb)
        have hR : Hid (rowL s.toList = ⟨if nameL (s.toList.take pos) then 1 else 2, s.toList.take pos, pos⟩) := by
          show _ = _
          unfold rowL
          rw [hN.out, if_neg (by omega)]
        have hA := fun O => box3_alloc hit2.out.box O
        have c0 := fun O => (hA O).1
        have c1 := fun O => (hA O).2.1
        have c2 := fun O => (hA O).2.2.1
        have f0 := fun O => (hA O).2.2.2.1
        have f1 := fun O => (hA O).2.2.2.2.1
        have f2 := fun O => (hA O).2.2.2.2.2
        clear hA
        cases hn : nameL (s.toList.take pos)
        · have hn' : nameL (s.extract 0 pos).toList = nameL (s.toList.take pos) := by rw [ext_take, ba_toList]
          rw [hn] at hn'
          go_wp2_with (first | (go_at_call 37; refine (joins_any _ _).mono ?_; rintro e w' ⟨rfl, hw'⟩; obtain rfl := hw'.symm) | (go_at_call 38; refine (name_any _ _).mono ?_; rintro e w' ⟨rfl, hw'⟩; obtain rfl := hw'.symm))
          refine bodyPost_ret (v := .agg #[.int .i64 2, .string (s.extract 0 pos), .int .i64 (pos : Int)]) (by simp [results, Try.results30, go_sem, c0, c1, c2]) rfl ⟨by rw [hR.out, hn]; exact ret_fd rfl (ext_take s pos) rfl, keep_box2 hit2.out.keep _ _ _ _⟩
        · have hn' : nameL (s.extract 0 pos).toList = nameL (s.toList.take pos) := by rw [ext_take, ba_toList]
          rw [hn] at hn'
          go_wp2_with (first | (go_at_call 37; refine (joins_any _ _).mono ?_; rintro e w' ⟨rfl, hw'⟩; obtain rfl := hw'.symm) | (go_at_call 38; refine (name_any _ _).mono ?_; rintro e w' ⟨rfl, hw'⟩; obtain rfl := hw'.symm))
          refine bodyPost_ret (v := .agg #[.int .i64 1, .string (s.extract 0 pos), .int .i64 (pos : Int)]) (by simp [results, Try.results30, go_sem, c0, c1, c2]) rfl ⟨by rw [hR.out, hn]; exact ret_fd rfl (ext_take s pos) rfl, keep_box2 hit2.out.keep _ _ _ _⟩
      · have hlow := inName_low hj
        obtain ⟨hr1, hr2⟩ : rn s pos = bt s pos ∧ rw' s pos = 1 := by
          rcases Int.lt_or_le (bt s pos) 128 with hb | hb
          · exact rn_low s pos hlt hb
          · have := (rn_high s pos hlt hb).1; omega
        have hall2 : Hid (∀ j, j < pos + 1 → inNameB (bt s j) = true) := fun j hj2 => by
          by_cases e : j = pos
          · rw [e, ← hr1]; exact hj
          · exact hall.out j (by omega)
        rw [hr2] at hit2
        clear hr1 hr2 hw1 hw2 hlow
        by_cases h2 : pos = 32
        · subst h2
          have hR : Hid (rowL s.toList = ⟨0, [], 32⟩) := by
            show _ = _
            unfold rowL
            rw [if_pos (by have := rowN_ge s 33 (by omega) hall2.out; omega)]
          go_wp2_with (first | (go_at_call 37; refine (joins_any _ _).mono ?_; rintro e w' ⟨rfl, hw'⟩; obtain rfl := hw'.symm) | (go_at_call 29; refine (refused_any _ _).mono ?_; rintro e w1 ⟨rfl, k1⟩; obtain ⟨c0, c1, c2, f0, f1, f2⟩ := box3 ((k1.block w.heap.size (by have := hit2.out.lt; omega) (by simp)).trans hit2.out.box)))
          refine bodyPost_ret (v := .agg #[.int .i64 0, .string (ba []), .int .i64 32]) (by simp [results, Try.results30, go_sem, c0, c1, c2]) rfl ⟨by rw [hR.out]; rfl, keep_box1 (hit2.out.keep.trans' k1) _ _ _⟩
        · have h3 : ¬ ((pos : Int) = 32) := by omega
          go_wp2_with (go_at_call 37; refine (joins_any _ _).mono ?_; rintro e w' ⟨rfl, hw'⟩; obtain rfl := hw'.symm)
          go_roundw
          case rel => exact ⟨pos + 1, rfl, by omega, by omega, hit2, hall2⟩
          case measure => rw [hit2.out.pos, hpos]; omega
    · have hnx := next_none (P := Try.prog) wr _ s pos hit.out.it hlt
      have hN : Hid (rowN s.toList = pos) := rowN_at s pos hp hall.out (fun h => absurd h hlt)
      have hR : Hid (rowL s.toList = ⟨if nameL (s.toList.take pos) then 1 else 2, s.toList.take pos, pos⟩) := by
        show _ = _
        unfold rowL
        rw [hN.out, if_neg (by omega)]
      have hsz : s.size = pos := by omega
      rw [hsz]
      have hA := fun O => box3_alloc hit.out.box O
      have c0 := fun O => (hA O).1
      have c1 := fun O => (hA O).2.1
      have c2 := fun O => (hA O).2.2.1
      have f0 := fun O => (hA O).2.2.2.1
      have f1 := fun O => (hA O).2.2.2.2.1
      have f2 := fun O => (hA O).2.2.2.2.2
      clear hA
      cases hn : nameL (s.toList.take pos)
      · have hn' : nameL (s.extract 0 pos).toList = nameL (s.toList.take pos) := by rw [ext_take, ba_toList]
        rw [hn] at hn'
        go_wp2_with (first | (go_at_call 37; refine (joins_any _ _).mono ?_; rintro e w' ⟨rfl, hw'⟩; obtain rfl := hw'.symm) | (go_at_call 38; refine (name_any _ _).mono ?_; rintro e w' ⟨rfl, hw'⟩; obtain rfl := hw'.symm))
        refine bodyPost_ret (v := .agg #[.int .i64 2, .string (s.extract 0 pos), .int .i64 (pos : Int)]) (by simp [results, Try.results30, go_sem, c0, c1, c2]) rfl ⟨by rw [hR.out, hn]; exact ret_fd rfl (ext_take s pos) rfl, keep_box2 hit.out.keep _ _ _ _⟩
      · have hn' : nameL (s.extract 0 pos).toList = nameL (s.toList.take pos) := by rw [ext_take, ba_toList]
        rw [hn] at hn'
        go_wp2_with (first | (go_at_call 37; refine (joins_any _ _).mono ?_; rintro e w' ⟨rfl, hw'⟩; obtain rfl := hw'.symm) | (go_at_call 38; refine (name_any _ _).mono ?_; rintro e w' ⟨rfl, hw'⟩; obtain rfl := hw'.symm))
        refine bodyPost_ret (v := .agg #[.int .i64 1, .string (s.extract 0 pos), .int .i64 (pos : Int)]) (by simp [results, Try.results30, go_sem, c0, c1, c2]) rfl ⟨by rw [hR.out, hn]; exact ret_fd rfl (ext_take s pos) rfl, keep_box2 hit.out.keep _ _ _ _⟩
end Go.Proofs.Ytmglbcldjhdhkab

