/- The document's way of reading: number, text, texts. -/
import Derived.Test.YtppimacfeelneaaDcN
import Derived.Test.YtppimacfeelneaaDcA
import Derived.Test.YtppimacfeelneaaLtA

namespace Go.Proofs.Ytppimacfeelneaa
open Go.RowKit Go.PlainAid Go.Lib

theorem pow7_le (i : Nat) (h : i < 10) : 128 ^ i ≤ 9223372036854775808 := Nat.le_trans (Nat.pow_le_pow_right (by decide) (by omega : i ≤ 9)) (by decide)
theorem shl_step (acc c i : Nat) (_hacc : acc < 18446744073709551616) (_hc : c < 256) :
    IntKind.u64.wrap ((acc : Int) + IntKind.u64.wrap (((c : Int) % 128) * 2 ^ (7 * i))) = (((acc + c % 128 * 128 ^ i) % 18446744073709551616 : Nat) : Int) := by
  have h3 : (((c : Int) % 128) * 2 ^ (7 * i)) = ((c % 128 * 128 ^ i : Nat) : Int) := by
    rw [← pow7 i]
    simp
  rw [h3, IntKind.wrap_u64, IntKind.wrap_u64]
  generalize c % 128 * 128 ^ i = m
  omega

/-- what number says of l at p: a number, and where it ends -/
def NumA (l : List UInt8) (p : Nat) (e : Ending) : Prop := ∃ (n q : Nat) (ok : Bool), e = .returned (.tuple #[.int .u64 (n : Int), .int .i64 (q : Int), .bool ok]) ∧ n < 18446744073709551616 ∧ q ≤ l.length ∧
      ∀ x r, x < 18446744073709551616 → l.drop p = uvarint x ++ r → n = x ∧ q = p + (uvarint x).length ∧ ok = true
theorem uvarint_pos (y : Nat) : 0 < (uvarint y).length := by
  by_cases h : 128 ≤ y
  · rw [uvarint_big h]; simp
  · rw [uvarint_small (by omega)]; simp

set_option maxRecDepth 1000000 in
set_option maxHeartbeats 1600000 in
theorem dNumber_any (v : Value) (l : List UInt8) (hln : l.length ≤ 10000) (p : Nat) (hp : p ≤ l.length) (w : World) (hv : Bs w v l) :
    Calls Try.prog 87 #[v, .int .i64 (p : Int)] w fun e w' => NumA l p e ∧ w' = w := by
  obtain ⟨ao, cap, hve, hlc, hcm, _, hex⟩ := hv.ex
  subst hve
  clear hv
  go_enter Try.func87, Try.ntmps87
  go_wp2
  go_loop [7, 8] (fun xv iv => ∃ (i acc : Nat), iv = .int .i64 (i : Int) ∧ xv = .int .u64 (acc : Int) ∧ i ≤ 10 ∧ acc < 18446744073709551616 ∧
      ∀ x r, x < 18446744073709551616 → l.drop p = uvarint x ++ r → ∃ y, acc + y * 128 ^ i = x ∧ l.drop (p + i) = uvarint y ++ r ∧ (uvarint x).length = i + (uvarint y).length)
    (fun _ iv => 10 - (intOf iv).toNat)
  case atStart => exact ⟨0, 0, rfl, rfl, by omega, by omega, fun x r hx h => ⟨x, by simp, by simpa using h, by simp⟩⟩
  case round =>
    obtain ⟨i, acc, rfl, rfl, hi, hacc, hinv⟩ := hrel
    have HINV : Hid (∀ x r, x < 18446744073709551616 → l.drop p = uvarint x ++ r → ∃ y, acc + y * 128 ^ i = x ∧ l.drop (p + i) = uvarint y ++ r ∧ (uvarint x).length = i + (uvarint y).length) := hinv
    clear hinv
    by_cases hi10 : i < 10
    · have t0 : (i : Int) < 10 := by omega
      by_cases hpl : p + i < l.length
      · have t1 : (p : Int) + (i : Int) < (l.length : Int) := by omega
        obtain ⟨b, o, rfl, h3⟩ := hex (by intro hz; rw [hz] at hpl; simp at hpl)
        have hci := h3 (p + i) hpl
        have hd := drop_cons l (p + i) hpl
        obtain ⟨c, hcd⟩ : ∃ c : Nat, c = (l.getD (p + i) 0).toNat := ⟨_, rfl⟩
        have hc255 : c < 256 := by rw [hcd]; exact (l.getD (p + i) 0).toNat_lt
        rw [← hcd] at hci
        have hci' : w.cell? ⟨b, o + (p + i), none⟩ = some (.int .u8 (c : Int)) := hci
        have hS := shl_step acc c i hacc hc255
        obtain ⟨A, hA⟩ : ∃ A, A = (acc + c % 128 * 128 ^ i) % 18446744073709551616 := ⟨_, rfl⟩
        rw [← hA] at hS
        have HST : Hid (∀ x r, x < 18446744073709551616 → l.drop p = uvarint x ++ r → (c < 128 → A = x ∧ (uvarint x).length = i + 1) ∧ (128 ≤ c → ∃ y, A + y * 128 ^ (i + 1) = x ∧ l.drop (p + (i + 1)) = uvarint y ++ r ∧ (uvarint x).length = (i + 1) + (uvarint y).length)) := by
          show ∀ x r, x < 18446744073709551616 → l.drop p = uvarint x ++ r → (c < 128 → A = x ∧ (uvarint x).length = i + 1) ∧ (128 ≤ c → ∃ y, A + y * 128 ^ (i + 1) = x ∧ l.drop (p + (i + 1)) = uvarint y ++ r ∧ (uvarint x).length = (i + 1) + (uvarint y).length)
          intro x r hx hl
          obtain ⟨y, hy1, hy2, hy3⟩ := HINV.out x r hx hl
          rw [hd] at hy2
          by_cases hyb : 128 ≤ y
          · rw [uvarint_big hyb] at hy2 hy3
            simp only [List.cons_append, List.cons.injEq] at hy2
            have hcc : c = y % 128 + 128 := by rw [hcd, hy2.1]; simp; omega
            refine ⟨fun h => by omega, fun _ => ⟨y / 128, ?_, hy2.2, by simp at hy3; omega⟩⟩
            have e1 : c % 128 = y % 128 := by omega
            have e2 : y * 128 ^ i = y % 128 * 128 ^ i + y / 128 * 128 ^ (i + 1) := by
              rw [Nat.pow_succ, ← Nat.mul_assoc, Nat.mul_right_comm, ← Nat.add_mul]
              congr 1
              omega
            rw [hA, e1]
            rw [e2] at hy1
            have hfin : ∀ m1 m2 : Nat, acc + (m1 + m2) = x → (acc + m1) % 18446744073709551616 + m2 = x := by intro m1 m2 h; omega
            exact hfin _ _ hy1
          · have ey := uvarint_small (show y < 128 by omega)
            rw [ey] at hy2 hy3
            simp only [List.cons_append, List.nil_append, List.cons.injEq] at hy2
            have hcc : c = y := by rw [hcd, hy2.1]; simp; omega
            refine ⟨fun _ => ⟨?_, by simpa using hy3⟩, fun h => by omega⟩
            have e1 : c % 128 = y := by omega
            rw [hA, e1]
            have hfin : ∀ m1 : Nat, acc + m1 = x → (acc + m1) % 18446744073709551616 = x := by intro m1 h; omega
            exact hfin _ hy1
        have hA2 : A < 18446744073709551616 := by rw [hA]; omega
        clear hA hcd hd hci h3 hex HINV
        by_cases hD : c < 128
        · have t5 : (c : Int) < 128 := by omega
          go_wp2
          refine bodyPost_ret (v := .tuple #[.int .u64 (A : Int), .int .i64 ((p : Int) + (i : Int) + 1), .bool true]) (by simp [results, Try.results87, go_sem]) rfl ⟨⟨A, p + i + 1, true, by simp, hA2, by omega, fun x r hx hl => ?_⟩, rfl⟩
          obtain ⟨h1, _⟩ := HST.out x r hx hl
          exact ⟨(h1 hD).1, by rw [(h1 hD).2]; omega, rfl⟩
        · have t5 : ¬ ((c : Int) < 128) := by omega
          go_wp2
          go_roundw
          case rel => exact ⟨i + 1, A, by go_num, rfl, by omega, hA2, fun x r hx hl => (HST.out x r hx hl).2 (by omega)⟩
          case measure => simp [intOf]; omega
      · have t1 : ¬ ((p : Int) + (i : Int) < (l.length : Int)) := by omega
        go_wp2
        refine bodyPost_ret (v := .tuple #[.int .u64 0, .int .i64 0, .bool false]) (by simp [results, Try.results87, go_sem]) rfl ⟨⟨0, 0, false, rfl, by omega, by omega, fun x r hx hl => ?_⟩, rfl⟩
        obtain ⟨y, _, h2, _⟩ := HINV.out x r hx hl
        rw [List.drop_eq_nil_of_le (by omega)] at h2
        have := congrArg List.length h2
        have h9 := uvarint_pos y
        simp at this
        omega
    · have t0 : ¬ ((i : Int) < 10) := by omega
      go_wp2
      refine bodyPost_ret (v := .tuple #[.int .u64 0, .int .i64 0, .bool false]) (by simp [results, Try.results87, go_sem]) rfl ⟨⟨0, 0, false, rfl, by omega, by omega, fun x r hx hl => ?_⟩, rfl⟩
      obtain ⟨y, _, h2, h3⟩ := HINV.out x r hx hl
      have h8 := uvarint_length64 hx
      have h9 := uvarint_pos y
      omega
end Go.Proofs.Ytppimacfeelneaa

/- The document's way of reading: text. -/
namespace Go.Proofs.Ytppimacfeelneaa
open Go.RowKit Go.PlainAid Go.Lib

/-- what text says of l at p: a text, and where it ends -/
def TxtA (l : List UInt8) (p : Nat) (e : Ending) : Prop := ∃ (s : ByteArray) (q : Nat) (ok : Bool), e = .returned (.tuple #[.string s, .int .i64 (q : Int), .bool ok]) ∧ s.size ≤ 256 ∧ q ≤ l.length ∧
      ∀ (t : ByteArray) r, t.size ≤ 256 → l.drop p = textB t ++ r → s = t ∧ q = p + (textB t).length ∧ ok = true

set_option maxRecDepth 1000000 in
set_option maxHeartbeats 1600000 in
theorem dText_any (v : Value) (l : List UInt8) (hln : l.length ≤ 10000) (hl0 : l ≠ []) (p : Nat) (hp : p ≤ l.length) (w : World) (hv : Bs w v l) :
    Calls Try.prog 89 #[v, .int .i64 (p : Int)] w fun e w' => TxtA l p e ∧ w' = w := by
  have hN := dNumber_any v l hln p hp w hv
  rcases hv.cases with ⟨h, _⟩ | ⟨_, b, o, cap, rfl, _, hlc, hcap, hc⟩
  · exact absurd h hl0
  clear hl0
  go_enter Try.func89, Try.ntmps89
  go_wp2_with fail
  refine hN.mono ?_
  rintro e1 w1 ⟨⟨n, q, ok, rfl, hn, hq, hall⟩, hw1⟩
  obtain rfl := hw1.symm
  have HALL : Hid (∀ (t : ByteArray) r, t.size ≤ 256 → l.drop p = textB t ++ r → n = t.size ∧ q = p + (uvarint t.size).length ∧ ok = true ∧ l.drop q = t.data.toList ++ r) := by
    show ∀ (t : ByteArray) r, t.size ≤ 256 → l.drop p = textB t ++ r → n = t.size ∧ q = p + (uvarint t.size).length ∧ ok = true ∧ l.drop q = t.data.toList ++ r
    intro t r ht hd
    unfold textB at hd
    rw [List.append_assoc] at hd
    obtain ⟨h1, h2, h3⟩ := hall t.size (t.data.toList ++ r) (by omega) hd
    refine ⟨h1, h2, h3, ?_⟩
    rw [h2, ← List.drop_drop, hd, List.drop_append_of_le_length (Nat.le_refl _)]
    simp
  clear hall hN hv
  have hbad : Hid ((ok = false ∨ 256 < n ∨ l.length < q + n) → TxtA l p (.returned (.tuple #[.string ⟨#[]⟩, .int .i64 0, .bool false]))) := by
    show (ok = false ∨ 256 < n ∨ l.length < q + n) → TxtA l p (.returned (.tuple #[.string ⟨#[]⟩, .int .i64 0, .bool false]))
    intro hb
    refine ⟨⟨#[]⟩, 0, false, rfl, Nat.zero_le _, by omega, fun t r ht hd => ?_⟩
    exfalso
    obtain ⟨h1, h2, h3, h4⟩ := HALL.out t r ht hd
    have h5 := congrArg List.length h4
    have hss : t.data.toList.length = t.size := by simp
    rw [List.length_drop, List.length_append, hss] at h5
    rw [h3] at hb
    simp at hb
    omega
  cases ok with
  | false =>
    clear HALL hc
    go_wp2
    refine bodyPost_ret (v := .tuple #[.string ⟨#[]⟩, .int .i64 0, .bool false]) (by simp [results, Try.results89, go_sem]) rfl ⟨hbad.out (by simp), rfl⟩
  | true =>
    by_cases h2 : 256 < n
    · have h2i : (256 : Int) < (n : Int) := by omega
      clear HALL hc
      go_wp2
      refine bodyPost_ret (v := .tuple #[.string ⟨#[]⟩, .int .i64 0, .bool false]) (by simp [results, Try.results89, go_sem]) rfl ⟨hbad.out (by omega), rfl⟩
    · have h2i : ¬ ((256 : Int) < (n : Int)) := by omega
      by_cases h3 : l.length < q + n
      · have h3i : (l.length : Int) < (q : Int) + (n : Int) := by omega
        clear HALL hc
        go_wp2
        refine bodyPost_ret (v := .tuple #[.string ⟨#[]⟩, .int .i64 0, .bool false]) (by simp [results, Try.results89, go_sem]) rfl ⟨hbad.out (by omega), rfl⟩
      · have h3i : ¬ ((l.length : Int) < (q : Int) + (n : Int)) := by omega
        have hlt : ((l.drop q).take n).length = n := by simp; omega
        have hgood : Hid (TxtA l p (.returned (.tuple #[.string ⟨((l.drop q).take n).toArray⟩, .int .i64 ((q : Int) + (n : Int)), .bool true]))) := by
          show TxtA l p (.returned (.tuple #[.string ⟨((l.drop q).take n).toArray⟩, .int .i64 ((q : Int) + (n : Int)), .bool true]))
          refine ⟨⟨((l.drop q).take n).toArray⟩, q + n, true, by rw [Int.natCast_add], by show ((l.drop q).take n).toArray.size ≤ 256; rw [List.size_toArray, hlt]; omega, by omega, fun t r ht hd => ?_⟩
          obtain ⟨g1, g2, _, g4⟩ := HALL.out t r ht hd
          have hss : t.data.toList.length = t.size := by simp
          refine ⟨?_, by unfold textB; rw [List.length_append, hss]; omega, rfl⟩
          rw [g4, g1, ← hss, List.take_left]
        clear HALL hbad
        by_cases hca : cap = q
        · have hn0 : n = 0 := by omega
          subst hn0
          subst hca
          have hcv : (convert 30 9 (.slice (some ⟨b, o, none⟩) 0 0)).run Try.prog w = .ok (.string ⟨#[]⟩) w := run_str (Bs.empty w ⟨b, o, none⟩ 0 (by simp [maxLen]))
          rw [List.take_zero] at hgood
          clear hc hlt
          go_wp2
          refine bodyPost_ret (v := .tuple #[.string ⟨#[]⟩, .int .i64 (cap : Int), .bool true]) (by simp [results, Try.results89, go_sem]) rfl ⟨by simpa using hgood.out, rfl⟩
        · have hB : Bs w (.slice (some ⟨b, o + q, none⟩) n (cap - q)) ((l.drop q).take n) := by
            refine ⟨some ⟨b, o + q, none⟩, cap - q, by rw [hlt], by rw [hlt]; omega, by simp only [maxLen]; omega, (by intro h; cases h), fun _ => ⟨b, o + q, rfl, fun j hj => ?_⟩⟩
            rw [hlt] at hj
            have := hc (q + j) (by omega)
            rw [← Nat.add_assoc] at this
            rw [this]
            congr 3
            simp [List.getD_eq_getElem?_getD, hj]
          have hcv := run_str hB
          generalize (⟨((l.drop q).take n).toArray⟩ : ByteArray) = s at hcv hgood
          clear hc hlt hB
          go_wp2
          refine bodyPost_ret (v := .tuple #[.string s, .int .i64 ((q : Int) + (n : Int)), .bool true]) (by simp [results, Try.results89, go_sem]) rfl ⟨hgood.out, rfl⟩
end Go.Proofs.Ytppimacfeelneaa

/- The document's way of reading: texts. -/
namespace Go.Proofs.Ytppimacfeelneaa
open Go.RowKit Go.PlainAid Go.Lib

theorem rowS_ts {w : World} {v : Value} {l : List ByteArray} (h : RowS w v l) (hs : ∀ s ∈ l, s.size ≤ 256) : Ts w v l := by
  rcases RowC.cases h with ⟨h1, _, h3⟩ | ⟨g, cap, he, _⟩
  · have : l = [] := List.eq_nil_of_length_eq_zero h1
    subst this
    subst h3
    exact Ts.nil _
  · subst he
    exact Ts.ofRow h (fun s hs' => by have := hs s hs'; omega) rfl
theorem rowS_sl {w : World} {v : Value} {l : List ByteArray} (h : RowS w v l) : ∃ a c, v = .slice a l.length c := by
  rcases RowC.cases h with ⟨h1, _, h3⟩ | ⟨g, cap, he, _⟩
  · exact ⟨none, 0, by rw [h3, h1]⟩
  · exact ⟨_, _, he⟩
/-- l at p: so many texts, and what is behind -/
def TxsAt (l : List UInt8) (p : Nat) (tl : List ByteArray) (r : List UInt8) : Prop := tl.length ≤ 32 ∧ (∀ s ∈ tl, s.size ≤ 256) ∧ l.drop p = uvarint tl.length ++ (textsB tl ++ r)
def TxsA (l : List UInt8) (p : Nat) (w : World) (e : Ending) (w' : World) : Prop := ∃ v ts, e = .returned v ∧ Ts w' v ts ∧ ts.length ≤ 32 ∧ (∀ s ∈ ts, s.size ≤ 256) ∧ (∀ k, v.ownBlock = some k → w.heap.size ≤ k) ∧ Keep [] w w' ∧ ∀ tl r, TxsAt l p tl r → ts = tl

set_option maxRecDepth 1000000 in
set_option maxHeartbeats 1600000 in
theorem dTexts_any (v : Value) (l : List UInt8) (hln : l.length ≤ 10000) (hl0 : l ≠ []) (p : Nat) (hp : p ≤ l.length) (w : World) (hv : Bs w v l) :
    Calls Try.prog 90 #[v, .int .i64 (p : Int)] w fun e w' => TxsA l p w e w' := by
  have hN := dNumber_any v l hln p hp w hv
  have HV : Hid (Bs w v l) := hv
  have HL : Hid (l.length ≤ 10000 ∧ l ≠ []) := ⟨hln, hl0⟩
  clear hv hl0
  go_enter Try.func90, Try.ntmps90
  go_wp2_with fail
  refine hN.mono ?_
  rintro e1 w1 ⟨⟨n, q0, ok, rfl, hn, hq, hall⟩, hw1⟩
  obtain rfl := hw1.symm
  have HALL : Hid (∀ tl r, TxsAt l p tl r → n = tl.length ∧ ok = true ∧ l.drop q0 = textsB tl ++ r) := by
    show ∀ tl r, TxsAt l p tl r → n = tl.length ∧ ok = true ∧ l.drop q0 = textsB tl ++ r
    rintro tl r ⟨h32, _, hd⟩
    obtain ⟨h1, h2, h3⟩ := hall tl.length (textsB tl ++ r) (by omega) hd
    refine ⟨h1, h3, ?_⟩
    rw [h2, ← List.drop_drop, hd, List.drop_append_of_le_length (Nat.le_refl _)]
    simp
  clear hall hN
  go_wp2
  go_loopw [5, 7, 9] (fun z5 z7 z9 wr => ∃ (i q : Nat) (acc : List ByteArray), z9 = .int .i64 (i : Int) ∧ z7 = .int .i64 (q : Int) ∧ acc.length = i ∧ i ≤ 32 ∧ q ≤ l.length ∧ Hid (RowS wr z5 acc ∧ Keep [] w wr ∧ (∀ x, z5.ownBlock = some x → w.heap.size ≤ x) ∧ (∀ s ∈ acc, s.size ≤ 256) ∧
      ∀ tl r, TxsAt l p tl r → n = tl.length ∧ ok = true ∧ ∃ t2, tl = acc ++ t2 ∧ l.drop q = textsB t2 ++ r)) (fun _ _ z9 _ => 32 - (intOf z9).toNat)
  case atStart => exact ⟨0, q0, [], rfl, rfl, rfl, by omega, hq, ⟨World.ownsRow_nil _ 0 9 1, Keep.refl _ _, fun x hx => by simp [Value.ownBlock] at hx, fun s hs => by simp at hs, fun tl r h => ⟨(HALL.out tl r h).1, (HALL.out tl r h).2.1, tl, rfl, (HALL.out tl r h).2.2⟩⟩⟩
  case round =>
    obtain ⟨i, q, acc, rfl, rfl, hai, hi, hq', hI⟩ := hrel
    clear hq HALL
    have hend : Hid ((ok = false ∨ 32 ≤ i ∨ n ≤ i) → TxsA l p w (.returned u5) wr) := by
      show (ok = false ∨ 32 ≤ i ∨ n ≤ i) → TxsA l p w (.returned u5) wr
      intro hx
      obtain ⟨r1, k1, f1, s1, a1⟩ := hI.out
      refine ⟨u5, acc, rfl, rowS_ts r1 s1, by omega, s1, f1, k1, fun tl r h => ?_⟩
      obtain ⟨g1, g2, t2, g3, _⟩ := a1 tl r h
      have h32 := h.1
      have hll := congrArg List.length g3
      rw [List.length_append] at hll
      have : t2 = [] := List.eq_nil_of_length_eq_zero (by
        rcases hx with hx | hx | hx
        · rw [g2] at hx; simp at hx
        · omega
        · omega)
      rw [g3, this, List.append_nil]
    cases hok : ok with
    | false =>
      have hT := hend.out (.inl hok)
      subst hok
      have HT : Hid (TxsA l p w (.returned u5) wr) := hT
      clear hT hend hI
      go_wp2
      go_ret
      exact HT.out
    | true =>
      by_cases h32 : i < 32
      · have h32i : (i : Int) < 32 := by omega
        by_cases hin : i < n
        · have hini : (i : Int) < (n : Int) := by omega
          subst hok
          clear hend
          have hX := dText_any v l HL.out.1 HL.out.2 q hq' wr (HV.out.keep hI.out.2.1 (Off.nil _))
          go_wp2_with fail
          refine hX.mono ?_
          rintro e2 w2 ⟨⟨s, q2, good, rfl, hs, hq2, hall2⟩, hw2⟩
          obtain rfl := hw2.symm
          clear hX
          have HNX : Hid (∀ tl r, TxsAt l p tl r → good = true ∧ n = tl.length ∧ ∃ t3, tl = (acc ++ [s]) ++ t3 ∧ l.drop q2 = textsB t3 ++ r) := by
            show ∀ tl r, TxsAt l p tl r → good = true ∧ n = tl.length ∧ ∃ t3, tl = (acc ++ [s]) ++ t3 ∧ l.drop q2 = textsB t3 ++ r
            intro tl r h
            obtain ⟨g1, _, t2, g3, g4⟩ := hI.out.2.2.2.2 tl r h
            have hll := congrArg List.length g3
            rw [List.length_append] at hll
            cases t2 with
            | nil => simp at hll; omega
            | cons t t3 =>
              have ht : t.size ≤ 256 := h.2.1 t (by rw [g3]; simp)
              have e3 : textsB (t :: t3) = textB t ++ textsB t3 := by simp [textsB]
              rw [e3, List.append_assoc] at g4
              obtain ⟨m1, m2, m3⟩ := hall2 t (textsB t3 ++ r) ht g4
              refine ⟨m3, g1, t3, by rw [g3, m1]; simp, ?_⟩
              rw [m2, ← List.drop_drop, g4, List.drop_append_of_le_length (Nat.le_refl _)]
              simp
          clear hall2
          cases good with
          | false =>
            have HT : Hid (TxsA l p w (.returned u5) wr) := by
              show TxsA l p w (.returned u5) wr
              obtain ⟨r1, k1, f1, s1, a1⟩ := hI.out
              refine ⟨u5, acc, rfl, rowS_ts r1 s1, by omega, s1, f1, k1, fun tl r h => ?_⟩
              have := (HNX.out tl r h).1
              simp at this
            clear HNX hI
            go_wp2
            go_ret
            exact HT.out
          | true =>
            have hal : Hid ((acc.length + 1) * 16 ≤ 140737488355328 ∧ acc.length + 1 ≤ maxLen) := by
              show _ ∧ _
              refine ⟨by omega, ?_⟩
              unfold maxLen; omega
            have HS : Hid _ := src_str wr s
            have HR : Hid _ := RowC.keep hI.out.1 (Keep.alloc1 wr (.cells #[.string s] 9 (0, 0))) (Off.nil _)
            go_wp2_with (at_builtin; refine wp_appC infoS rfl rfl (.tmp 43) (.tmp 45) 24 24 rfl Try.underlying24 u5 acc.length (strC acc) rfl HR.out _ 1 [.string s] rfl HS.out hal.out.1 hal.out.2 ?_)
            intro v9 w9 R9 K9 F9 S9 _
            obtain ⟨a9, c9, rfl⟩ := S9
            have hx : Hid (RowS w9 (.slice a9 (i + 1) c9) (acc ++ [s]) ∧ Keep [] w w9 ∧ (∀ x, (Value.slice a9 (i + 1) c9).ownBlock = some x → w.heap.size ≤ x) ∧ (∀ y ∈ acc ++ [s], y.size ≤ 256) ∧
                ∀ tl r, TxsAt l p tl r → n = tl.length ∧ true = true ∧ ∃ t2, tl = (acc ++ [s]) ++ t2 ∧ l.drop q2 = textsB t2 ++ r) := by
              have hsz := hI.out.2.1.size
              refine ⟨?_, ?_, fun x hx => ?_, fun y hy => ?_, fun tl r h => ?_⟩
              · unfold RowS; rw [strC_snoc, List.length_append, hai]; exact R9
              · exact (hI.out.2.1.alloc _).more K9 (fun x hx => .inr (hI.out.2.2.1 x (by simpa using hx)))
              · rcases F9 with e | e
                · rw [e] at hx; exact hI.out.2.2.1 x hx
                · have := (e x hx).1; simp at this; omega
              · rcases List.mem_append.1 hy with hy | hy
                · exact hI.out.2.2.2.1 y hy
                · simp at hy; subst hy; exact hs
              · obtain ⟨_, m2, m3⟩ := HNX.out tl r h
                exact ⟨m2, rfl, m3⟩
            clear R9 K9 F9 HR HS hI HNX
            go_wp2
            go_roundw
            case rel => exact ⟨i + 1, q2, acc ++ [s], by go_num, rfl, by simp; omega, by omega, hq2, by simpa using hx⟩
            case measure => simp [intOf]; omega
        · have hini : ¬ (i : Int) < (n : Int) := by omega
          have HT : Hid (TxsA l p w (.returned u5) wr) := hend.out (by omega)
          subst hok
          clear hend hI
          go_wp2
          go_ret
          exact HT.out
      · have h32i : ¬ (i : Int) < 32 := by omega
        have HT : Hid (TxsA l p w (.returned u5) wr) := hend.out (by omega)
        subst hok
        clear hend hI
        go_wp2
        go_ret
        exact HT.out
end Go.Proofs.Ytppimacfeelneaa
