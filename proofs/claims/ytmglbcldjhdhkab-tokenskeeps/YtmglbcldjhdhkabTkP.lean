/- Scan, for every text. -/
import Derived.Test.YtmglbcldjhdhkabTkI
import Derived.Test.YtmglbcldjhdhkabTkL
namespace Go.Proofs.Ytmglbcldjhdhkab
open Go.RowKit Go.PlainAid

theorem infoT : (Try.prog.info? 36).map (fun i => (i.zero, i.size, i.bytes)) = some (some (.agg #[.int .i64 0, .string ByteArray.empty, .int .i64 0, .int .i64 0]), 4, 40) := by kernel_rfl

/-- a token's four cells -/
def tokC (t : TokD) : List Value := [.int .i64 t.kind, .string (ba t.text), .int .i64 t.line, .int .i64 t.col]
def toksC (l : List TokD) : List Value := l.flatMap tokC
theorem toksC_len (l : List TokD) : (toksC l).length = l.length * 4 := by
  induction l with
  | nil => rfl
  | cons t l ih => simp [toksC, tokC] at ih ⊢; omega
theorem toksC_snoc (l : List TokD) (t : TokD) : toksC (l ++ [t]) = toksC l ++ tokC t := by simp [toksC]
/-- a row of tokens of one's own -/
abbrev RowT (w : World) (v : Value) (l : List TokD) : Prop := RowC w 36 4 v l.length (toksC l)

theorem src_tok (w : World) (t : TokD) : Src Try.prog 4 23 (.slice (some ⟨w.heap.size, 0, none⟩) 1 1) 1 (tokC t) (w.alloc (.cells #[.int .i64 t.kind, .string (ba t.text), .int .i64 t.line, .int .i64 t.col] 36 (0, 0))) := by
  refine Src.ofSlice _ Try.underlying23 ⟨w.heap.size, 0, none⟩ 1 1 (tokC t) rfl (fun j u hu => ?_) (fun u hu => ?_)
  · have hadd : (⟨w.heap.size, 0, none⟩ : Addr).add j = ⟨w.heap.size, 0 + j, none⟩ := by unfold Addr.add; split <;> simp_all
    rw [hadd, Nat.zero_add, (box_cell (heap_alloc_new w _) j).1]
    simpa [tokC] using hu
  · simp [tokC] at hu
    rcases hu with rfl | rfl | rfl | rfl <;> rfl

theorem rowN_le (l : List UInt8) : rowN l ≤ l.length := List.Sublist.length_le (List.takeWhile_sublist _)
theorem numGo_le : ∀ (l : List UInt8) (st : Int), (numGo st l).1 ≤ l.length
  | [], st => by simp [numGo]
  | c :: t, st => by
    rw [numGo]
    split
    · simp
    · have := numGo_le t (stepI st c.toNat)
      simp; omega
theorem qGo_le : ∀ (l : List UInt8) (st : Int) (d : UInt8) (acc : List UInt8), (qGo st d acc l).2 ≤ l.length
  | [], st, d, acc => by simp [qGo]
  | c :: t, st, d, acc => by
    rw [qGo]
    split
    · simp
    · split
      · simp
      · rename_i st' d' acc' _
        have := qGo_le t st' d' acc'
        simp; omega
theorem piece_size (l : List UInt8) : (pieceL l).size ≤ l.length ∧ ((pieceL l).kind ≠ 0 → 1 ≤ (pieceL l).size) := by
  cases l with
  | nil => simp [pieceL]
  | cons c t =>
    rw [pieceL]
    split
    · rename_i h2
      unfold rowL
      have hr := rowN_le (c :: t)
      have h1 : 1 ≤ rowN (c :: t) := by
        have hs : nm c = true := by
          unfold classI at h2
          split at h2
          · simp [nm, inNameB, *]
          · repeat' split at h2
            all_goals simp at h2
        simp [rowN, List.takeWhile, hs]
      split
      · simp at hr ⊢; omega
      · exact ⟨hr, fun _ => h1⟩
    · split
      · rename_i h2 h3
        unfold numberL
        have hn := numGo_le (c :: t) 1
        have hd : digitB (c.toNat : Int) = true := by
          unfold classI at h3
          split at h3
          · simp at h3
          · split at h3
            · assumption
            · repeat' split at h3
              all_goals simp at h3
        have h1 : 1 ≤ (numGo 1 (c :: t)).1 := by
          rw [numGo, if_neg (by simp [stepI, hd])]
          omega
        split
        · exact ⟨hn, fun _ => h1⟩
        · unfold endedL
          repeat' split
          all_goals exact ⟨hn, fun _ => h1⟩
      · split
        · unfold quotedL
          have hq := qGo_le ((c :: t).drop 1) 0 0 []
          simp only [List.drop_succ_cons, List.drop_zero] at hq ⊢
          split <;> simp <;> omega
        · split
          · simp
          · split
            · split
              · rename_i h
                cases t with
                | nil => simp at h
                | cons d t => simp
              · split <;> simp
            · simp

theorem skip_le : ∀ (l : List UInt8) (b : Bool), skipN b l ≤ l.length
  | [], b => by simp [skipN]
  | c :: t, false => by
    rw [skipN]
    split
    · have := skip_le t false; simp; omega
    · split
      · have := skip_le t true; simp; omega
      · simp
  | c :: t, true => by
    rw [skipN]
    split
    · have := skip_le t false; simp; omega
    · have := skip_le t true; simp; omega

theorem adv_take (l : List UInt8) (p : Nat × Nat) (a b : Nat) (h : a ≤ b) : adv (adv p (l.take a)) ((l.drop a).take (b - a)) = adv p (l.take b) := by
  rw [← adv_append, show b = a + (b - a) by omega, List.take_add, show a + (b - a) - a = b - a by omega]
/-- a round of the scan, told by places of the whole text -/
theorem scan_at (l : List UInt8) (n prev k : Nat) (hk : k = prev + skipN false (l.drop prev)) (hp : prev ≤ l.length) :
    scanF (n + 1) (l.drop prev) (adv (1, 1) (l.take prev)) =
      if l.length ≤ k then (some [⟨7, [], (adv (1, 1) l).1, (adv (1, 1) l).2⟩], (0, 0)) else
      if (pieceL (l.drop k)).kind = 0 then (none, adv (1, 1) (l.take (k + (pieceL (l.drop k)).size))) else
      match scanF n (l.drop (k + (pieceL (l.drop k)).size)) (adv (1, 1) (l.take (k + (pieceL (l.drop k)).size))) with
      | (some ts, q) => (some (⟨(pieceL (l.drop k)).kind, (pieceL (l.drop k)).text, (adv (1, 1) (l.take k)).1, (adv (1, 1) (l.take k)).2⟩ :: ts), q)
      | (none, q) => (none, q) := by
  have e1 : adv (adv (1, 1) (l.take prev)) (l.drop prev) = adv (1, 1) l := by rw [← adv_append, List.take_append_drop]
  have e2 : ∀ m, adv (adv (1, 1) (l.take prev)) ((l.drop prev).take m) = adv (1, 1) (l.take (prev + m)) := fun m => by
    have := adv_take l (1, 1) prev (prev + m) (by omega)
    rwa [show prev + m - prev = m by omega] at this
  have e3 : ((l.drop prev).length ≤ skipN false (l.drop prev)) = (l.length ≤ k) := by
    rw [List.length_drop]
    apply propext
    constructor <;> intro h <;> omega
  rw [scanF]
  simp only [e1, e2, List.drop_drop, e3, ← hk, ← Nat.add_assoc]
  by_cases h1 : l.length ≤ k
  · rw [if_pos h1, if_pos h1]
  · rw [if_neg h1, if_neg h1]
    rfl

theorem begin_any (w : World) : Calls Try.prog 14 #[] w fun e w' => e = .returned (.agg #[.int .i64 0, .int .i64 1, .int .i64 0]) ∧ Keep [] w w' := by
  go_enter Try.func14, Try.ntmps14
  go_wp2
  refine bodyPost_ret (v := .agg #[.int .i64 0, .int .i64 1, .int .i64 0]) (by simp [results, Try.results14, go_sem]) rfl ⟨rfl, Keep.alloc1 w _⟩

abbrev zeroSpot : Obj := .cells #[.int .i64 0, .int .i64 0, .int .i64 0] 26 (0, 0)
/-- put what was found ahead of what is still to be found -/
def ahead (ts : List TokD) : Option (List TokD) × (Nat × Nat) → Option (List TokD) × (Nat × Nat)
  | (some us, q) => (some (ts ++ us), q)
  | (none, q) => (none, q)
structure Sc (w wr : World) (s : ByteArray) (b : Nat) (v : Value) (k prev pk line start n : Nat) (out : List TokD) : Prop where
  spot : wr.heap[w.heap.size]? = some zeroSpot
  pl : Pl wr b pk line start
  hb : w.heap.size < b
  row : RowT wr v out
  far : ∀ x, v.ownBlock = some x → b < x
  keep : Keep [] w wr
  hk : k = prev + skipN false (s.toList.drop prev)
  pp : pk ≤ prev
  ps : prev ≤ s.size
  st : start ≤ pk
  ln : line ≤ pk + 1
  pos : (line, pk - start + 1) = adv (1, 1) (s.toList.take pk)
  fuel : s.size - prev < n
  len : out.length ≤ prev
  go : scanF (s.toList.length + 1) s.toList (1, 1) = ahead out (scanF n (s.toList.drop prev) (adv (1, 1) (s.toList.take prev)))
end Go.Proofs.Ytmglbcldjhdhkab

