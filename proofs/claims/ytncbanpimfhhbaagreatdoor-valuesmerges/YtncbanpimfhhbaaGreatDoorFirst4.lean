/- What is read at the beginning of some bytes, for every slice of bytes: a byte, a number, a turned one, a key, a text, some bytes. -/
import Derived.Test.YtncbanpimfhhbaaGreatDoorRdW
import Derived.Laws.BytesString

namespace Go.Proofs.YtncbanpimfhhbaaGreatDoor
open Go.RowKit Go.PlainAid Go.Lib

theorem numG_size : ∀ (l : List UInt8) (i acc : Nat), (numG l i acc).2.2 ≠ 0 ∧ (numG l i acc).2.1 = 0 ∧ (numG l i acc).1 = 0 ∨ (numG l i acc).2.2 = 0 ∧ i < (numG l i acc).2.1 ∧ (numG l i acc).2.1 ≤ i + l.length
  | [], i, acc => .inl ⟨by simp [numG], rfl, rfl⟩
  | c :: r, i, acc => by
    rw [numG]
    split
    · exact .inl ⟨by simp, rfl, rfl⟩
    · split
      · exact .inr ⟨rfl, by simp, by simp⟩
      · rcases numG_size r (i + 1) (acc + c.toNat % 128 * 128 ^ i) with h | ⟨h1, h2, h3⟩
        · exact .inl h
        · exact .inr ⟨h1, by omega, by simp; omega⟩

theorem numG_lt : ∀ (l : List UInt8) (i acc : Nat), i ≤ 9 → acc < 128 ^ i → (numG l i acc).1 < 18446744073709551616 ∧ (numG l i acc).2.1 ≤ 10
  | [], i, acc, _, _ => by simp [numG]
  | c :: r, i, acc, hi, hacc => by
    rw [numG]
    split
    · simp
    · rename_i hE
      split
      · rename_i hD
        exact ⟨step_lt acc c.toNat i hacc hi (by omega), by simp; omega⟩
      · rename_i hD
        exact numG_lt r (i + 1) _ (by omega) (next_lt acc c.toNat i hacc)

theorem numL_size (l : List UInt8) : (numL l).2.1 ≤ l.length := by
  rcases numG_size l 0 0 with ⟨_, h, _⟩ | ⟨_, _, h⟩
  · unfold numL; rw [h]; exact Nat.zero_le _
  · unfold numL; omega
theorem numL_lt (l : List UInt8) : (numL l).1 < 18446744073709551616 := (numG_lt l 0 0 (by omega) (by decide)).1
theorem numL_zero (l : List UInt8) (h : (numL l).2.2 ≠ 0) : (numL l).1 = 0 ∧ (numL l).2.1 = 0 := by
  rcases numG_size l 0 0 with ⟨_, h1, h2⟩ | ⟨h1, _, _⟩
  · exact ⟨h2, h1⟩
  · exact absurd h1 h

set_option maxRecDepth 1000000 in
set_option maxHeartbeats 1600000 in
theorem oshort_any (v : Value) (l : List UInt8) (w : World) (hv : Bs w v l) :
    Calls Tryz.prog 124 #[v] w fun e w' => e = .returned (.tuple #[.int .u64 ((numL l).1 : Nat), .int .i64 ((numL l).2.1 : Nat), .int .i64 (numL l).2.2]) ∧ w' = w := by
  rcases hv.cases with ⟨rfl, ao, cap, rfl, _, _⟩ | ⟨_, b, o, cap, rfl, _, h1, h2, h3⟩
  · clear hv
    go_enter Tryz.func124, Tryz.ntmps124
    go_wp2
    go_loop [9] (fun iv => iv = .int .i64 0) (fun _ => 0)
    case atStart => rfl
    case round =>
      obtain rfl := hrel
      go_wp2
      refine bodyPost_ret (v := .tuple #[.int .u64 0, .int .i64 0, .int .i64 20]) (by simp [results, Tryz.results124, go_sem]) rfl ⟨rfl, rfl⟩
  · exact short_some b o cap l w h1 h2 h3

def byteL (l : List UInt8) : Nat × Nat × Int := match l with | [] => (0, 0, 20) | c :: _ => (c.toNat, 1, 0)

set_option maxRecDepth 1000000 in
set_option maxHeartbeats 1600000 in
theorem firstByte_any (v : Value) (l : List UInt8) (w : World) (hv : Bs w v l) :
    Calls Tryz.prog 90 #[v] w fun e w' => e = .returned (.tuple #[.int .u8 ((byteL l).1 : Nat), .int .i64 ((byteL l).2.1 : Nat), .int .i64 (byteL l).2.2]) ∧ w' = w := by
  rcases hv.cases with ⟨rfl, ao, cap, rfl, _, _⟩ | ⟨_, b, o, cap, rfl, h0, h1, h2, h3⟩
  · clear hv
    go_enter Tryz.func90, Tryz.ntmps90
    go_wp2
    refine bodyPost_ret (v := .tuple #[.int .u8 0, .int .i64 0, .int .i64 20]) (by simp [results, Tryz.results90, go_sem]) rfl ⟨rfl, rfl⟩
  · have hc0 := h3 0 h0
    rw [Nat.add_zero] at hc0
    have hl0 : ((l.length : Int) == 0) = false := by simp; omega
    have hl1 : (0 : Int) < (l.length : Int) := by omega
    have HB : Hid (byteL l = ((l.getD 0 0).toNat, 1, 0)) := by
      cases l with
      | nil => simp at h0
      | cons c r => rfl
    obtain ⟨c, hc⟩ : ∃ c, c = (l.getD 0 0).toNat := ⟨_, rfl⟩
    rw [← hc] at hc0
    have HC : Hid (c = (l.getD 0 0).toNat) := hc
    clear hv h3 hc
    go_enter Tryz.func90, Tryz.ntmps90
    go_wp2
    refine bodyPost_ret (v := .tuple #[.int .u8 (c : Int), .int .i64 1, .int .i64 0]) (by simp [results, Tryz.results90, go_sem]) rfl ⟨by rw [HB.out, ← HC.out]; rfl, rfl⟩

set_option maxRecDepth 1000000 in
set_option maxHeartbeats 1600000 in
theorem firstTurned_any (v : Value) (l : List UInt8) (w : World) (hv : Bs w v l) :
    Calls Tryz.prog 92 #[v] w fun e w' => e = .returned (.tuple #[.int .i64 (unzig (numL l).1), .int .i64 ((numL l).2.1 : Nat), .int .i64 (numL l).2.2]) ∧ w' = w := by
  have hS := oshort_any v l w hv
  have hU := unturned_any (numL l).1 (numL_lt l) w
  generalize numL l = N at hS hU ⊢
  obtain ⟨x, n, e⟩ := N
  simp only at hS hU ⊢
  clear hv
  go_enter Tryz.func92, Tryz.ntmps92
  go_wp2_with (first | (go_at_call 124; refine hS.mono ?_; rintro e9 w9 ⟨rfl, hw9⟩; obtain rfl := hw9.symm) | (go_at_call 125; refine hU.mono ?_; rintro e9 w9 ⟨rfl, hw9⟩; obtain rfl := hw9.symm))
  refine bodyPost_ret (v := .tuple #[.int .i64 (unzig x), .int .i64 (n : Int), .int .i64 e]) (by simp [results, Tryz.results92, go_sem]) rfl ⟨rfl, rfl⟩

end Go.Proofs.YtncbanpimfhhbaaGreatDoor



/- What is read at the beginning of some bytes: a text, some bytes. -/
namespace Go.Proofs.YtncbanpimfhhbaaGreatDoor
open Go.RowKit Go.PlainAid Go.Lib

def rawL (l : List UInt8) (n : Int) : List UInt8 × Nat × Int := if n < 0 then ([], 0, 2) else if (l.length : Int) < n then ([], 0, 20) else (l.take n.toNat, n.toNat, 0)

theorem rawL_size (l : List UInt8) (n : Int) : (rawL l n).2.1 ≤ l.length := by
  unfold rawL
  split
  · simp
  · split
    · simp
    · simp; omega

theorem Bs.take {w : World} {ao : Option Addr} {l : List UInt8} {cap : Nat} (n : Nat) (hn : n ≤ l.length) (h : Bs w (.slice ao l.length cap) l) : Bs w (.slice ao n cap) (l.take n) := by
  obtain ⟨ao', cap', he, h1, h2, h3, h4⟩ := h.ex
  simp at he
  obtain ⟨rfl, rfl⟩ := he
  have hl : (l.take n).length = n := by simp; omega
  refine ⟨ao, cap, by rw [hl], by omega, h2, h3, fun hne => ?_⟩
  obtain ⟨b, o, hao, hc⟩ := h4 (by intro hz; rw [hz] at hne; simp at hne)
  refine ⟨b, o, hao, fun j hj => ?_⟩
  rw [hl] at hj
  rw [hc j (by omega)]
  simp [List.getD_eq_getElem?_getD, hj]

/-- what firstRaw leaves: its own bytes -/
def RawP (w : World) (r : List UInt8) (x : Value) (w1 : World) : Prop := Row w1 x r ∧ Fresh w w1 x ∧ Sl x r.length

end Go.Proofs.YtncbanpimfhhbaaGreatDoor



/- What is read at the beginning of some bytes: a text of at most so many bytes. -/
namespace Go.Proofs.YtncbanpimfhhbaaGreatDoor
open Go.RowKit Go.PlainAid Go.Lib

theorem push_fold : ∀ (l : List UInt8) (s : ByteArray), (l.map fun x => ((x.toNat : Nat) : Int)).foldl (fun r n => r.push (UInt8.ofNat n.toNat)) s = ⟨s.data ++ l.toArray⟩
  | [], s => by simp
  | x :: r, s => by
    rw [List.map_cons, List.foldl_cons, push_fold r]
    have hx : UInt8.ofNat ((x.toNat : Nat) : Int).toNat = x := by simp
    rw [hx]
    congr 1
    apply Array.ext'
    simp [ByteArray.push]

theorem run_str {w : World} {v : Value} {l : List UInt8} (h : Bs w v l) : (convert 45 9 v).run Tryz.prog w = .ok (.string ⟨l.toArray⟩) w := by
  have key : ∀ (a : Addr) (cap : Nat), (∀ j u, (bv l)[j]? = some u → w.cell? (a.add j) = some u) → (convert 45 9 (.slice (some a) l.length cap)).run Tryz.prog w = .ok (.string ⟨l.toArray⟩) w := by
    intro a cap hc
    rw [run_convert_bytes_string w 45 9 5 _ _ _ underS Tryz.underlying5 Tryz.underlying9]
    have hld : (loadCells a l.length).run Tryz.prog w = .ok ((l.map fun x => ((x.toNat : Nat) : Int)).map (Value.int .u8)).toArray w := by
      have := run_loadCells_list (P := Tryz.prog) w a (bv l) hc
      rw [bv_length] at this
      rw [this]
      simp [bv, Function.comp_def]
    rw [run_bytesToString w a l.length cap _ hld, push_fold]
    simp
  rcases h.cases with ⟨rfl, ao, cap, rfl, _, _⟩ | ⟨_, b, o, cap, rfl, _, _, _, hc⟩
  · cases ao with
    | none =>
      rw [run_convert_bytes_string w 45 9 5 _ _ _ underS Tryz.underlying5 Tryz.underlying9]
      rfl
    | some a => exact key a cap (fun j u hj => by simp [bv] at hj)
  · refine key _ cap (fun j u hu => ?_)
    have hj : j < l.length := by
      have := (List.getElem?_eq_some_iff.1 hu).1
      simpa [bv_length] using this
    rw [bv_get l j hj] at hu
    have hadd : (⟨b, o, none⟩ : Addr).add j = ⟨b, o + j, none⟩ := by unfold Addr.add; split <;> simp_all
    rw [hadd, hc j hj, List.getD_eq_getElem?_getD, List.getElem?_eq_getElem hj]
    exact hu

def textL (l : List UInt8) (most : Int) : List UInt8 × Nat × Int :=
  if most < 0 then ([], 0, 2) else if (numL l).2.2 ≠ 0 then ([], 0, (numL l).2.2) else if most < ((numL l).1 : Nat) then ([], 0, 3)
  else if l.length - (numL l).2.1 < (numL l).1 then ([], 0, 20) else ((l.drop (numL l).2.1).take (numL l).1, (numL l).2.1 + (numL l).1, 0)

theorem textL_size (l : List UInt8) (most : Int) : (textL l most).2.1 ≤ l.length := by
  have := numL_size l
  unfold textL
  repeat' split
  all_goals simp
  omega

set_option maxRecDepth 1000000 in
set_option maxHeartbeats 3200000 in
theorem firstText_any (v : Value) (l : List UInt8) (most : Int) (hm : most ≤ 9223372036854775807) (w : World) (hv : Bs w v l) :
    Calls Tryz.prog 97 #[v, .int .i64 most] w fun e w' => e = .returned (.tuple #[.string ⟨(textL l most).1.toArray⟩, .int .i64 ((textL l most).2.1 : Nat), .int .i64 (textL l most).2.2]) ∧ w' = w := by
  have hS := oshort_any v l w hv
  have hsz := numL_size l
  have hq : textL l most = if most < 0 then ([], 0, 2) else if (numL l).2.2 ≠ 0 then ([], 0, (numL l).2.2) else if most < ((numL l).1 : Nat) then ([], 0, 3)
    else if l.length - (numL l).2.1 < (numL l).1 then ([], 0, 20) else ((l.drop (numL l).2.1).take (numL l).1, (numL l).2.1 + (numL l).1, 0) := rfl
  have hnil : l = [] → (numL l).2.2 = 20 := by intro h; rw [h]; rfl
  generalize numL l = R at hS hsz hq hnil
  obtain ⟨N, A, er⟩ := R
  simp only at hS hsz hq hnil
  have hlen := hv.len
  by_cases h0 : most < 0
  · rw [if_pos h0] at hq
    rw [hq]
    clear hq hnil hS hv
    go_enter Tryz.func97, Tryz.ntmps97
    go_wp2
    refine bodyPost_ret (v := .tuple #[.string ByteArray.empty, .int .i64 0, .int .i64 2]) (by simp [results, Tryz.results97, go_sem]; rfl) rfl ⟨rfl, rfl⟩
  · rw [if_neg h0] at hq
    by_cases h1 : er ≠ 0
    · rw [if_pos h1] at hq
      rw [hq]
      have he : (er != 0) = true := by simpa using h1
      clear hq hnil hv
      go_enter Tryz.func97, Tryz.ntmps97
      go_wp2_with (go_at_call 124; refine hS.mono ?_; rintro e9 w9 ⟨rfl, hw9⟩; obtain rfl := hw9.symm)
      refine bodyPost_ret (v := .tuple #[.string ByteArray.empty, .int .i64 0, .int .i64 er]) (by simp [results, Tryz.results97, go_sem]; rfl) rfl ⟨rfl, rfl⟩
    · rw [if_neg h1] at hq
      have he0 : er = 0 := by simpa using h1
      subst he0
      have hlnil : l ≠ [] := by intro h; have := hnil h; simp at this
      clear hnil h1
      by_cases h2 : most < (N : Int)
      · rw [if_pos h2] at hq
        rw [hq]
        clear hq hv
        go_enter Tryz.func97, Tryz.ntmps97
        go_wp2_with (go_at_call 124; refine hS.mono ?_; rintro e9 w9 ⟨rfl, hw9⟩; obtain rfl := hw9.symm)
        refine bodyPost_ret (v := .tuple #[.string ByteArray.empty, .int .i64 0, .int .i64 3]) (by simp [results, Tryz.results97, go_sem]; rfl) rfl ⟨rfl, rfl⟩
      · rw [if_neg h2] at hq
        rcases hv.cases with ⟨h, _⟩ | ⟨_, b, o, cap, rfl, hl0, hlc, hcap, hc⟩
        · exact absurd h hlnil
        clear hlnil
        by_cases h3 : l.length - A < N
        · rw [if_pos h3] at hq
          rw [hq]
          have h3i : (l.length : Int) - (A : Int) < (N : Int) := by omega
          clear hq hv hc
          go_enter Tryz.func97, Tryz.ntmps97
          go_wp2_with (go_at_call 124; refine hS.mono ?_; rintro e9 w9 ⟨rfl, hw9⟩; obtain rfl := hw9.symm)
          refine bodyPost_ret (v := .tuple #[.string ByteArray.empty, .int .i64 0, .int .i64 20]) (by simp [results, Tryz.results97, go_sem]; rfl) rfl ⟨rfl, rfl⟩
        · rw [if_neg h3] at hq
          rw [hq]
          have h3i : ¬ ((l.length : Int) - (A : Int) < (N : Int)) := by omega
          have hln : ((l.drop A).take N).length = N := by simp; omega
          by_cases hca : cap = A
          · have HN0 : Hid (N = 0) := by
              show N = 0
              omega
            have hcv : (convert 45 9 (.slice (some ⟨b, o, none⟩) N 0)).run Tryz.prog w = .ok (.string ⟨#[]⟩) w := by
              rw [HN0.out]
              exact run_str (Bs.empty w ⟨b, o, none⟩ 0 (by simp [maxLen]))
            have HS : Hid ((l.drop A).take N = []) := by
              show (l.drop A).take N = []
              rw [HN0.out]; rfl
            subst hca
            clear hq hln hc hv
            go_enter Tryz.func97, Tryz.ntmps97
            go_wp2_with (go_at_call 124; refine hS.mono ?_; rintro e9 w9 ⟨rfl, hw9⟩; obtain rfl := hw9.symm)
            refine bodyPost_ret (v := .tuple #[.string ⟨#[]⟩, .int .i64 ((cap : Int) + (N : Int)), .int .i64 0]) (by simp [results, Tryz.results97, go_sem]) rfl ⟨by rw [HS.out]; simp, rfl⟩
          · have hB : Bs w (.slice (some ⟨b, o + A, none⟩) N (cap - A)) ((l.drop A).take N) := by
              refine ⟨some ⟨b, o + A, none⟩, cap - A, by rw [hln], by rw [hln]; omega, by simp only [maxLen]; omega, (by intro h; cases h), fun _ => ⟨b, o + A, rfl, fun j hj => ?_⟩⟩
              rw [hln] at hj
              have := hc (A + j) (by omega)
              rw [← Nat.add_assoc] at this
              rw [this]
              simp [List.getD_eq_getElem?_getD, hj]
            have hcv := run_str hB
            generalize (l.drop A).take N = S at hcv ⊢
            clear hq hln hc hv hB
            go_enter Tryz.func97, Tryz.ntmps97
            go_wp2_with (go_at_call 124; refine hS.mono ?_; rintro e9 w9 ⟨rfl, hw9⟩; obtain rfl := hw9.symm)
            refine bodyPost_ret (v := .tuple #[.string ⟨S.toArray⟩, .int .i64 ((A : Int) + (N : Int)), .int .i64 0]) (by simp [results, Tryz.results97, go_sem]) rfl ⟨by simp, rfl⟩

set_option maxRecDepth 1000000 in
set_option maxHeartbeats 1600000 in
theorem text1_any (v : Value) (l : List UInt8) (most : Int) (hm : most ≤ 9223372036854775807) (g : Nat) (w : World) (hv : Bs w v l) (hg : w.cell? ⟨g, 0, none⟩ = some (.int .i64 most)) :
    Calls Tryz.prog 96 #[v, .pointer (some ⟨g, 0, none⟩)] w fun e w' => e = .returned (.tuple #[.string ⟨(textL l most).1.toArray⟩, .int .i64 ((textL l most).2.1 : Nat), .int .i64 (textL l most).2.2]) ∧ w' = w := by
  have hF := firstText_any v l most hm w hv
  generalize textL l most = R at hF ⊢
  obtain ⟨r, m, er⟩ := R
  simp only at hF ⊢
  clear hv
  go_enter Tryz.func96, Tryz.ntmps96
  go_wp2_with (go_at_call 97; refine hF.mono ?_; rintro e9 w9 ⟨rfl, hw9⟩; obtain rfl := hw9.symm)
  refine bodyPost_ret (v := .tuple #[.string ⟨r.toArray⟩, .int .i64 (m : Int), .int .i64 er]) (by simp [results, Tryz.results96, go_sem]) rfl ⟨rfl, rfl⟩

end Go.Proofs.YtncbanpimfhhbaaGreatDoor


