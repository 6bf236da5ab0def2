/- Texts as lists of bytes; what a range over a text hands over: a byte below 128 as it is, or a character of bytes that are all from 128 on. -/
import Derived.Test.YtmglbcldjhdhkabAnyW
import Derived.Test.YtmglbcldjhdhkabINameW
import Derived.Lib.DecodeN
import Derived.Lib.OthersKept
import Derived.Lib.Strings
import Derived.Deep.QuietTactic
import Derived.BigQuiet
namespace Go.Proofs.Ytmglbcldjhdhkab
open Go.RowKit Go.PlainAid

def ba (l : List UInt8) : ByteArray := ⟨l.toArray⟩
theorem ba_toList (l : List UInt8) : (ba l).toList = l := ByteArray.toList_mk l
theorem toList_ba (s : ByteArray) : ba s.toList = s := by rw [ByteArray.toList_eq]; unfold ba; simp
theorem ba_of {s : ByteArray} {l : List UInt8} (h : s.toList = l) : s = ba l := by rw [← h, toList_ba]
theorem ba_size (l : List UInt8) : (ba l).size = l.length := by rw [← toList_len, ba_toList]
theorem ba_nil : ba [] = ByteArray.empty := rfl
theorem ba_inj {a b : List UInt8} (h : ba a = ba b) : a = b := by rw [← ba_toList a, h, ba_toList]
theorem ext_take (s : ByteArray) (k : Nat) : s.extract 0 k = ba (s.toList.take k) := ba_of (by rw [Lib.extract_toList, ByteArray.toList_eq]; simp)
theorem ext_drop (s : ByteArray) (k : Nat) : s.extract k s.size = ba (s.toList.drop k) := ba_of (by
  rw [Lib.extract_toList, ByteArray.toList_eq]
  exact List.take_of_length_le (by simp))
theorem ext_mid (s : ByteArray) (a b : Nat) : s.extract a b = ba ((s.toList.drop a).take (b - a)) := ba_of (by rw [Lib.extract_toList, ByteArray.toList_eq])
theorem bt_drop (s : ByteArray) (pos : Nat) (h : pos < s.size) : ∃ c, s.toList.drop pos = c :: s.toList.drop (pos + 1) ∧ bt s pos = (c.toNat : Int) := by
  have h' : pos < s.toList.length := by rw [toList_len]; exact h
  exact ⟨s.toList[pos], List.drop_eq_getElem_cons h', bt_get s pos h'⟩
theorem drop_end (s : ByteArray) (pos : Nat) (h : ¬ pos < s.size) : s.toList.drop pos = [] := List.drop_eq_nil_of_le (by rw [toList_len]; omega)
theorem bt_getD (s : ByteArray) (k : Nat) : bt s k = ((s.toList.getD k 0).toNat : Int) := by
  by_cases h : k < s.toList.length
  · rw [bt_get s k h, List.getD_eq_getElem?_getD, List.getElem?_eq_getElem h]; rfl
  · rw [bt_end s (by rw [← toList_len]; omega), List.getD_eq_getElem?_getD, List.getElem?_eq_none (by omega)]; rfl
theorem bt_ext (s : ByteArray) (a b k : Nat) (h : a + k < b) : bt (s.extract a b) k = bt s (a + k) := by
  rw [bt_getD, bt_getD, ext_mid, ba_toList, List.getD_eq_getElem?_getD, List.getD_eq_getElem?_getD, List.getElem?_take_of_lt (by omega), List.getElem?_drop]

theorem get_bang (s : ByteArray) (k : Nat) (h : k < s.size) : ((s.get! k).toNat : Int) = bt s k := by
  rw [← get_bt s k h]
  have : s.get! k = s[k]'h := by
    show s.data[k]! = _
    exact getElem!_pos s.data k h
  rw [this]

theorem conts (n b0 b1 b2 b3 : Nat) :
    (2 ≤ (Lib.decodeN n b0 b1 b2 b3).2 → b1 / 64 = 2 ∧ 1 < n) ∧ (3 ≤ (Lib.decodeN n b0 b1 b2 b3).2 → b2 / 64 = 2 ∧ 2 < n) ∧ (4 ≤ (Lib.decodeN n b0 b1 b2 b3).2 → b3 / 64 = 2 ∧ 3 < n) ∧ (Lib.decodeN n b0 b1 b2 b3).2 ≤ 4 ∧ (128 ≤ b0 → 128 ≤ (Lib.decodeN n b0 b1 b2 b3).1) ∧ 1 ≤ (Lib.decodeN n b0 b1 b2 b3).2 := by
  unfold Lib.decodeN
  repeat' split
  all_goals (simp only; omega)

/-- what the range hands over at a place: a byte below 128, or a character from 128 on, of bytes from 128 on -/
theorem rune_high (s : ByteArray) (pos : Nat) (h : pos < s.size) (hb : 128 ≤ bt s pos) :
    128 ≤ (Utf8.decode s pos).1 ∧ 1 ≤ (Utf8.decode s pos).2 ∧ pos + (Utf8.decode s pos).2 ≤ s.size ∧ ∀ j, j < (Utf8.decode s pos).2 → 128 ≤ bt s (pos + j) := by
  obtain ⟨c2, c3, c4, c5, c6, c7⟩ := conts (s.size - pos) (s.get! pos).toNat (s.get! (pos + 1)).toNat (s.get! (pos + 2)).toNat (s.get! (pos + 3)).toNat
  rw [← Lib.decode_at] at c2 c3 c4 c5 c6 c7
  have g0 := get_bang s pos h
  refine ⟨c6 (by omega), c7, ?_, fun j hj => ?_⟩
  · rcases Nat.lt_or_ge (Utf8.decode s pos).2 2 with h2 | h2
    · omega
    rcases Nat.lt_or_ge (Utf8.decode s pos).2 3 with h3 | h3
    · have := c2 h2; omega
    rcases Nat.lt_or_ge (Utf8.decode s pos).2 4 with h4 | h4
    · have := c3 h3; omega
    · have := c4 h4; omega
  · have hj4 : j < 4 := by omega
    match j, hj4 with
    | 0, _ => exact hb
    | 1, _ => have k := c2 (by omega); have g := get_bang s (pos + 1) (by omega); omega
    | 2, _ => have k := c3 (by omega); have g := get_bang s (pos + 2) (by omega); omega
    | 3, _ => have k := c4 (by omega); have g := get_bang s (pos + 3) (by omega); omega
theorem rune_low (s : ByteArray) (pos : Nat) (h : pos < s.size) (hb : bt s pos < 128) : ((Utf8.decode s pos).1 : Int) = bt s pos ∧ (Utf8.decode s pos).2 = 1 := by
  have g := get_bt s pos h
  rw [decode_ascii s pos h (by omega)]
  exact ⟨g, rfl⟩
/-- the character at a place, and how many bytes it has -/
def rn (s : ByteArray) (pos : Nat) : Int := (Utf8.decode s pos).1
def rw' (s : ByteArray) (pos : Nat) : Nat := (Utf8.decode s pos).2

theorem Keep.iterAt {F : List Nat} {a w : World} (h : Keep F a w) {k : Nat} (hk : k ∈ F ∨ a.heap.size ≤ k) (s : ByteArray) (pos : Nat) : Keep F a (w.iterAt k s pos) :=
  h.more (G := [k]) ⟨rfl, rfl, rfl, by rw [Lib.iterAt_size]; exact Nat.le_refl _, fun i _ hn => Lib.iterAt_other w k i s pos (by simpa using hn)⟩ (by intro x hx; simp at hx; subst hx; exact hk)

theorem next_some {P : Program} (w : World) (k : Nat) (s : ByteArray) (pos : Nat) (hk : w.heap[k]? = some (.stringIter s pos)) (h : pos < s.size) :
    ∀ ty, (Instr.next (.pointer (some ⟨k, 0, none⟩)) true ty).run P w = .ok (.tuple #[.bool true, .int .i64 pos, .int .i32 (rn s pos)]) (w.iterAt k s (pos + rw' s pos)) := fun ty => Lib.run_next_any_at w k s pos ty hk h
theorem next_none {P : Program} (w : World) (k : Nat) (s : ByteArray) (pos : Nat) (hk : w.heap[k]? = some (.stringIter s pos)) (h : ¬ pos < s.size) :
    ∀ ty, (Instr.next (.pointer (some ⟨k, 0, none⟩)) true ty).run P w = .ok (.tuple #[.bool false]) w := fun ty => Lib.run_next_end_at w k s pos ty hk h
/-- low: the byte itself, one byte on -/
theorem rn_low (s : ByteArray) (pos : Nat) (h : pos < s.size) (hb : bt s pos < 128) : rn s pos = bt s pos ∧ rw' s pos = 1 := rune_low s pos h hb
theorem rn_high (s : ByteArray) (pos : Nat) (h : pos < s.size) (hb : 128 ≤ bt s pos) : 128 ≤ rn s pos ∧ 1 ≤ rw' s pos ∧ pos + rw' s pos ≤ s.size ∧ ∀ j, j < rw' s pos → 128 ≤ bt s (pos + j) := by
  have := rune_high s pos h hb
  refine ⟨by unfold rn; omega, this.2⟩
theorem rn_le (s : ByteArray) (pos : Nat) : rn s pos ≤ 2147483647 := by unfold rn; have := decode_le s pos; omega
theorem rw_pos (s : ByteArray) (pos : Nat) (h : pos < s.size) : 1 ≤ rw' s pos ∧ pos + rw' s pos ≤ s.size := by
  rcases Int.lt_or_le (bt s pos) 128 with hb | hb
  · have := (rn_low s pos h hb).2; omega
  · have := rn_high s pos h hb; omega
end Go.Proofs.Ytmglbcldjhdhkab

