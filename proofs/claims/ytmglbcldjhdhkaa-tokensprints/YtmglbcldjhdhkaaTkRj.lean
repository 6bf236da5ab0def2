/- The document's quoted. -/
import Derived.Test.YtmglbcldjhdhkaaTkRi
import Derived.Deep.QuietTactic
import Derived.BigQuiet
namespace Go.Proofs.Ytmglbcldjhdhkaa
open Go.RowKit Go.PlainAid

/-- where the loop of quoted stands -/
structure Qr (w wr : World) (l x : List UInt8) (N j : Nat) (v : Value) (acc : List UInt8) : Prop where
  row : Row wr v acc
  go : ∃ d, qGo 0 d acc (l.drop j) = (some x, N - j)
  le : j ≤ N
  sz : acc.length ≤ j
  keep : Keep [] w wr
  far : ∀ y, v.ownBlock = some y → w.heap.size ≤ y
theorem q_plain {d : UInt8} {acc x t : List UInt8} {c : UInt8} {n : Nat} (h : qGo 0 d acc (c :: t) = (some x, n)) (h34 : c ≠ 34) (h92 : c ≠ 92) : qGo 0 d (acc ++ [c]) t = (some x, n - 1) ∧ 1 ≤ n := by
  rw [qGo, if_neg (by simp [h34])] at h
  unfold qStep at h
  by_cases h32 : c.toNat < 32
  · simp [h34, h92, h32] at h
  · simp [h34, h92, h32] at h
    obtain ⟨e1, e2⟩ := h
    exact ⟨by rw [← e1, ← e2]; simp, by omega⟩
theorem q_esc {d : UInt8} {acc x t : List UInt8} {n : Nat} (h : qGo 0 d acc (92 :: t) = (some x, n)) : qGo 1 d acc t = (some x, n - 1) ∧ 1 ≤ n := by
  rw [qGo, if_neg (by simp)] at h
  unfold qStep at h
  simp at h
  obtain ⟨e1, e2⟩ := h
  exact ⟨by rw [← e1, ← e2]; simp, by omega⟩
theorem q_one {d : UInt8} {acc x t : List UInt8} {c : UInt8} {n : Nat} (h : qGo 1 d acc (c :: t) = (some x, n)) :
    1 ≤ n ∧ ((c = 34 ∨ c = 92) ∧ qGo 0 d (acc ++ [c]) t = (some x, n - 1) ∨ c = 110 ∧ qGo 0 d (acc ++ [10]) t = (some x, n - 1) ∨ c = 120 ∧ qGo 2 d acc t = (some x, n - 1)) := by
  rw [qGo, if_neg (by simp)] at h
  unfold qStep at h
  by_cases h1 : c = 34 ∨ c = 92
  · simp [h1] at h
    obtain ⟨e1, e2⟩ := h
    exact ⟨by omega, .inl ⟨h1, by rw [← e1, ← e2]; simp⟩⟩
  · by_cases h2 : c = 110
    · subst h2
      simp at h
      obtain ⟨e1, e2⟩ := h
      exact ⟨by omega, .inr (.inl ⟨rfl, by rw [← e1, ← e2]; simp⟩)⟩
    · by_cases h3 : c = 120
      · subst h3
        simp at h
        obtain ⟨e1, e2⟩ := h
        exact ⟨by omega, .inr (.inr ⟨rfl, by rw [← e1, ← e2]; simp⟩)⟩
      · have h1' : ¬ (c = 34) ∧ ¬ (c = 92) := ⟨fun e => h1 (.inl e), fun e => h1 (.inr e)⟩
        simp [h1', h2, h3] at h
theorem q_two {d : UInt8} {acc x t : List UInt8} {n : Nat} (h : qGo 2 d acc t = (some x, n)) :
    ∃ a b u, t = a :: b :: u ∧ 0 ≤ hexI (a.toNat : Int) ∧ 0 ≤ hexI (b.toNat : Int) ∧ 2 ≤ n ∧ ∃ d', qGo 0 d' (acc ++ [((hexI a.toNat).toNat.toUInt8 <<< 4) ||| (hexI b.toNat).toNat.toUInt8]) u = (some x, n - 2) := by
  cases t with
  | nil => simp [qGo] at h
  | cons a t =>
    rw [qGo, if_neg (by simp)] at h
    unfold qStep at h
    by_cases ha : hexI (a.toNat : Int) < 0
    · simp [ha] at h
    · simp [ha] at h
      obtain ⟨e1, e2⟩ := h
      cases t with
      | nil => simp [qGo] at e1
      | cons b u =>
        rw [qGo, if_neg (by simp)] at e1 e2
        unfold qStep at e1 e2
        by_cases hb : hexI (b.toNat : Int) < 0
        · simp [hb] at e1
        · simp [hb] at e1 e2
          refine ⟨a, b, u, rfl, by omega, by omega, by omega, UInt8.ofNat (hexI (a.toNat : Int)).toNat, ?_⟩
          · rw [show (hexI (a.toNat : Int)).toNat.toUInt8 = UInt8.ofNat (hexI (a.toNat : Int)).toNat from rfl, show (hexI (b.toNat : Int)).toNat.toUInt8 = UInt8.ofNat (hexI (b.toNat : Int)).toNat from rfl]
            rw [← e1, ← e2]
            simp
theorem hex_le (c : UInt8) : hexI (c.toNat : Int) ≤ 15 := by
  unfold hexI
  repeat' split
  all_goals omega
theorem hex_byte : ∀ a b : Fin 16, ((a.val.toUInt8 <<< 4) ||| b.val.toUInt8).toNat = 16 * a.val + b.val := by decide +kernel
theorem hex_val (a b : Int) (ha : 0 ≤ a ∧ a ≤ 15) (hb : 0 ≤ b ∧ b ≤ 15) : (((a.toNat.toUInt8 <<< 4) ||| b.toNat.toUInt8).toNat : Int) = 16 * a + b := by
  have := hex_byte ⟨a.toNat, by omega⟩ ⟨b.toNat, by omega⟩
  simp only at this
  rw [this]
  omega

set_option maxRecDepth 1000000 in
set_option maxHeartbeats 1000000 in
theorem rquoted_any (s : ByteArray) (a : Nat) (x : List UInt8) (w : World) (ha : a < s.size) (hs : s.size ≤ 65536) (h : (qGo 0 0 [] (s.toList.drop (a + 1))).1 = some x) :
    Calls Try.prog 60 #[.string s, .int .i64 (a : Int)] w fun e w' => e = .returned (.tuple #[.int .i64 ((a + 1 + (qGo 0 0 [] (s.toList.drop (a + 1))).2 : Nat) : Int), .string (ba x)]) ∧ Keep [] w w' := by
  have hNle : a + 1 + (qGo 0 0 [] (s.toList.drop (a + 1))).2 ≤ s.size := by
    have := qGo_le (s.toList.drop (a + 1)) 0 0 []
    rw [List.length_drop, toList_len] at this
    omega
  obtain ⟨N, hN⟩ : ∃ N, a + 1 + (qGo 0 0 [] (s.toList.drop (a + 1))).2 = N := ⟨_, rfl⟩
  have h0 : Hid (Qr w w s.toList x N (a + 1) (.slice none 0 0) []) := by
    refine ⟨Row.nil w, ⟨0, ?_⟩, by omega, by simp, Keep.refl _ _, fun y hy => by simp [Value.ownBlock] at hy⟩
    rw [← hN]
    refine Prod.ext h ?_
    simp
  rw [hN] at hNle ⊢
  have hcast : ((a + 1 : Nat) : Int) = (a : Int) + 1 := by omega
  have hH : Hid (∀ (c : UInt8) w, Calls Try.prog 75 #[.int .u8 (c.toNat : Int)] w fun e w' => e = .returned (.int .i64 (hexI (c.toNat : Int))) ∧ w' = w) := fun c w => rhex_any c w
  clear h hN
  go_enter Try.func60, Try.ntmps60
  go_wp2
  go_loopw [1, 6] (fun z1 z6 wr => ∃ (j : Nat) (acc : List UInt8), z1 = .int .i64 (j : Int) ∧ j ≤ s.size ∧ Hid (Qr w wr s.toList x N j z6 acc)) (fun z1 _ _ => s.size - (intOf z1).toNat)
  case atStart => exact ⟨a + 1, [], by go_num, by omega, h0⟩
  case round =>
    clear h0 hcast
    obtain ⟨j, acc, rfl, hj, hQ⟩ := hrel
    obtain ⟨d, hgo⟩ := hQ.out.go
    have hNj := hQ.out.le
    have hacc := hQ.out.sz
    cases hdr : s.toList.drop j with
    | nil => rw [hdr] at hgo; simp [qGo] at hgo
    | cons c t =>
      obtain ⟨hlt, hg, hd1⟩ := at_drop hdr
      have hlti : (j : Int) < (s.size : Int) := by omega
      rw [hdr] at hgo
      have happ : Hid (∀ (c : UInt8) W, Keep [] wr W → ∀ (v' : Value) (W' : World), Row W' v' (acc ++ [c]) → Keep u6.ownBlock.toList (W.alloc (.cells #[.int .u8 (c.toNat : Int)] 5 (0, 0))) W' → (v'.ownBlock = u6.ownBlock ∨ Fresh (W.alloc (.cells #[.int .u8 (c.toNat : Int)] 5 (0, 0))) W' v') → ∀ k, j < k → k ≤ N → (∃ d, qGo 0 d (acc ++ [c]) (s.toList.drop k) = (some x, N - k)) → Qr w W' s.toList x N k v' (acc ++ [c])) := by
        intro c W kW v' W' r k f k' hjk hkN hg'
        refine ⟨r, hg', hkN, by simp; omega, ?_, fun y hy => ?_⟩
        · exact (hQ.out.keep.trans' (kW.alloc _)).more k (fun y hy => .inr (hQ.out.far y (by simpa using hy)))
        · rcases f with e | e
          · rw [e] at hy; exact hQ.out.far y hy
          · have h1 := (e y hy).1
            have h2 := hQ.out.keep.size
            have h3 := kW.size
            simp at h1
            omega
      have hal : Hid (acc.length + 1 ≤ 140737488355328) := by show _ ≤ _; omega
      by_cases h34 : c = 34
      · have hx : x = acc ∧ N = j + 1 := by
          rw [qGo, if_pos ⟨rfl, h34⟩] at hgo
          simp only [Prod.mk.injEq, Option.some.injEq] at hgo
          exact ⟨hgo.1.symm, by omega⟩
        obtain ⟨rfl, rfl⟩ := hx
        have e34 : ((c.toNat : Int) != 34) = false := by rw [h34]; rfl
        have hst : ∀ n, (convert 35 9 u6).run Try.prog (wr.drewN n) = .ok (.string (ba x)) (wr.drewN n) := fun n => run_str (Bs.keep hQ.out.row.bs ((Keep.refl [] wr).drewN n) (Off.nil _))
        have hK : Hid (Keep [] w wr) := hQ.out.keep
        obtain ⟨ao, cap, rfl, -⟩ := hQ.out.row.bs.ex
        have hw1 : IntKind.i64.wrap ((j : Int) + 1) = (j : Int) + 1 := by rw [IntKind.wrap_i64]; omega
        clear hgo hdr hd1 happ hQ h34
        go_wp2
        go_quiet (fail)
        go_wp2
        go_ret2
        exact ⟨rfl, by first | exact hK.out.drewN _ | exact hK.out.drew⟩
      · have e34 : ((c.toNat : Int) != 34) = true := neq_of (k := 34) h34
        by_cases h92 : c = 92
        · have e92 : ((c.toNat : Int) == 92) = true := by rw [h92]; rfl
          rw [h92] at hgo
          obtain ⟨hg1, h1n⟩ := q_esc hgo
          cases t with
          | nil => simp [qGo] at hg1
          | cons c2 t2 =>
            obtain ⟨hlt2, hgc2, hd2⟩ := at_drop hd1
            have hlt2i : (j : Int) + 1 < (s.size : Int) := by omega
            obtain ⟨h1m, hcs⟩ := q_one hg1
            rcases hcs with ⟨h34b, hg2⟩ | ⟨h110, hg2⟩ | ⟨h120, hg2⟩
            · have e110 : ((c2.toNat : Int) == 110) = false := beq_of (k := 110) (by rcases h34b with e | e <;> rw [e] <;> decide)
              have e120 : ((c2.toNat : Int) == 120) = false := beq_of (k := 120) (by rcases h34b with e | e <;> rw [e] <;> decide)
              have hrow : Hid (Row (wr.alloc (.cells #[.int .u8 (c2.toNat : Int)] 5 (0, 0))) u6 acc) := hQ.out.row.keep (Keep.alloc1 wr _) (Off.nil _)
              have hap := happ.out c2 wr (Keep.refl _ _)
              have Hap : Hid (∀ (v' : Value) (W' : World), Row W' v' (acc ++ [c2]) → Keep u6.ownBlock.toList (wr.alloc (.cells #[.int .u8 (c2.toNat : Int)] 5 (0, 0))) W' → (v'.ownBlock = u6.ownBlock ∨ Fresh (wr.alloc (.cells #[.int .u8 (c2.toNat : Int)] 5 (0, 0))) W' v') → Qr w W' s.toList x N (j + 2) v' (acc ++ [c2])) := fun v' W' r k f => hap v' W' r k f (j + 2) (by omega) (by omega) ⟨d, by rw [hd2, hg2]; congr 1⟩
              clear hgo hdr hd1 happ h34 h92 hap hg2 hg1 hd2 h34b
              go_wp2_with (at_builtin; refine wp_app rfl (.tmp 45) (.tmp 47) 35 35 rfl underS u6 acc rfl hrow.out _ [c2] rfl (Bs.one wr c2).src hal.out ?_)
              intro v9 w9 R9 K9 F9 S9
              obtain ⟨a9, c9, rfl⟩ := S9
              have hnx : Hid (Qr w w9 s.toList x N (j + 2) (.slice a9 (acc.length + 1) c9) (acc ++ [c2])) := by
                have := Hap.out _ _ R9 K9 F9
                show Qr _ _ _ _ _ _ _ _
                simpa using this
              clear R9 K9 F9 hrow Hap hQ
              go_wp2
              go_roundw
              case rel => exact ⟨j + 2, acc ++ [c2], by go_num, by omega, by first | exact hnx | simpa using hnx⟩
              case measure => simp [intOf]; omega
            · have e110 : ((c2.toNat : Int) == 110) = true := by rw [h110]; rfl
              have hrow : Hid (Row (wr.alloc (.cells #[.int .u8 ((10 : UInt8).toNat : Int)] 5 (0, 0))) u6 acc) := hQ.out.row.keep (Keep.alloc1 wr _) (Off.nil _)
              have hap := happ.out (10 : UInt8) wr (Keep.refl _ _)
              have Hap : Hid (∀ (v' : Value) (W' : World), Row W' v' (acc ++ [(10 : UInt8)]) → Keep u6.ownBlock.toList (wr.alloc (.cells #[.int .u8 ((10 : UInt8).toNat : Int)] 5 (0, 0))) W' → (v'.ownBlock = u6.ownBlock ∨ Fresh (wr.alloc (.cells #[.int .u8 ((10 : UInt8).toNat : Int)] 5 (0, 0))) W' v') → Qr w W' s.toList x N (j + 2) v' (acc ++ [(10 : UInt8)])) := fun v' W' r k f => hap v' W' r k f (j + 2) (by omega) (by omega) ⟨d, by rw [hd2, hg2]; congr 1⟩
              clear hgo hdr hd1 happ h34 h92 hap hg2 hg1 hd2 h110
              go_wp2_with (at_builtin; refine wp_app rfl (.tmp 45) (.tmp 47) 35 35 rfl underS u6 acc rfl hrow.out _ [(10 : UInt8)] rfl (Bs.one wr (10 : UInt8)).src hal.out ?_)
              intro v9 w9 R9 K9 F9 S9
              obtain ⟨a9, c9, rfl⟩ := S9
              have hnx : Hid (Qr w w9 s.toList x N (j + 2) (.slice a9 (acc.length + 1) c9) (acc ++ [(10 : UInt8)])) := by
                have := Hap.out _ _ R9 K9 F9
                show Qr _ _ _ _ _ _ _ _
                simpa using this
              clear R9 K9 F9 hrow Hap hQ
              go_wp2
              go_roundw
              case rel => exact ⟨j + 2, acc ++ [(10 : UInt8)], by go_num, by omega, by first | exact hnx | simpa using hnx⟩
              case measure => simp [intOf]; omega
            · have e110 : ((c2.toNat : Int) == 110) = false := beq_of (k := 110) (by rw [h120]; decide)
              have e120 : ((c2.toNat : Int) == 120) = true := by rw [h120]; rfl
              obtain ⟨x1, x2, u, rfl, hx1, hx2, h2n, d', hg3⟩ := q_two hg2
              obtain ⟨hlt3, hgx1, hd3⟩ := at_drop hd2
              obtain ⟨hlt4, hgx2, hd4⟩ := at_drop hd3
              have hlt3i : (j : Int) + 1 + 1 < (s.size : Int) := by omega
              have hlt4i : (j : Int) + 1 + 1 + 1 < (s.size : Int) := by omega
              have hl1 := hex_le x1
              have hl2 := hex_le x2
              have hval := hex_val _ _ ⟨hx1, hl1⟩ ⟨hx2, hl2⟩
              generalize ((hexI (x1.toNat : Int)).toNat.toUInt8 <<< 4) ||| (hexI (x2.toNat : Int)).toNat.toUInt8 = B at hval hg3
              have hH1 : Hid (∀ w, Calls Try.prog 75 #[.int .u8 (x1.toNat : Int)] w fun e w' => e = .returned (.int .i64 (hexI (x1.toNat : Int))) ∧ w' = w) := hH.out x1
              have hH2 : Hid (∀ w, Calls Try.prog 75 #[.int .u8 (x2.toNat : Int)] w fun e w' => e = .returned (.int .i64 (hexI (x2.toNat : Int))) ∧ w' = w) := hH.out x2
              generalize hexI (x1.toNat : Int) = y1 at hH1 hx1 hl1 hval
              generalize hexI (x2.toNat : Int) = y2 at hH2 hx2 hl2 hval
              have hwa : IntKind.i64.wrap (16 * y1) = 16 * y1 := by rw [IntKind.wrap_i64]; omega
              have hwb : IntKind.i64.wrap (16 * y1 + y2) = 16 * y1 + y2 := by rw [IntKind.wrap_i64]; omega
              obtain ⟨pp, hpp⟩ : ∃ pp, j + 1 + 1 = pp := ⟨_, rfl⟩
              obtain ⟨qq, hqq⟩ : ∃ qq, pp + 1 = qq := ⟨_, rfl⟩
              have hgp : ∃ hl : pp < s.size, ((s[pp]'hl).toNat : Int) = (x1.toNat : Int) := by subst hpp; exact ⟨hlt3, hgx1⟩
              have hgq : ∃ hl : qq < s.size, ((s[qq]'hl).toNat : Int) = (x2.toNat : Int) := by subst hqq; subst hpp; exact ⟨hlt4, hgx2⟩
              obtain ⟨hlp, hgp⟩ := hgp
              obtain ⟨hlq, hgq⟩ := hgq
              have hlpi : (pp : Int) < (s.size : Int) := by omega
              have hlqi : (qq : Int) < (s.size : Int) := by omega
              have hwd : IntKind.i64.wrap ((pp : Int) + 1) = (qq : Int) := by rw [IntKind.wrap_i64]; omega
              have hpi : (j : Int) + 1 + 1 = (pp : Int) := by omega
              have hpp4 : (pp : Int) + 2 = (j : Int) + 4 := by omega
              have Hpi : Hid ((j : Int) + 1 + 1 = (pp : Int)) := hpi
              have Hpp4 : Hid ((pp : Int) + 2 = (j : Int) + 4) := hpp4
              have hwc : IntKind.u8.wrap (16 * y1 + y2) = 16 * y1 + y2 := by
                have hB := B.toNat_lt
                rw [← hval]
                simp [IntKind.wrap, IntKind.signed, IntKind.bits]
                omega
              have Hval : Hid ((B.toNat : Int) = 16 * y1 + y2) := hval
              have Hap : Hid (∀ W, Keep [] wr W → ∀ (v' : Value) (W' : World), Row W' v' (acc ++ [B]) → Keep u6.ownBlock.toList (W.alloc (.cells #[.int .u8 (B.toNat : Int)] 5 (0, 0))) W' → (v'.ownBlock = u6.ownBlock ∨ Fresh (W.alloc (.cells #[.int .u8 (B.toNat : Int)] 5 (0, 0))) W' v') → Qr w W' s.toList x N (j + 4) v' (acc ++ [B])) := fun W kW v' W' r k f => happ.out B W kW v' W' r k f (j + 4) (by omega) (by omega) ⟨d', by rw [hd4, hg3]; congr 1⟩
              clear hgo hdr hd1 happ h34 h92 hg2 hg1 hd2 h120 hd3 hd4 hg3 hval hpp hqq hgx1 hgx2 hlt3 hlt4 hlt3i hlt4i hpi hpp4
              generalize (x1.toNat : Int) = z1 at hgp hH1
              generalize (x2.toNat : Int) = z2 at hgq hH2
              go_wp2
              rw [Hpi.out]
              go_quiet (first | (go_at_call_of 75 (Value.int IntKind.u8 z1); refine (hH1.out _).mono ?_; rintro e9 w9 ⟨rfl, rfl⟩; exact ⟨rfl, _, rfl⟩) | (go_at_call_of 75 (Value.int IntKind.u8 z2); refine (hH2.out _).mono ?_; rintro e9 w9 ⟨rfl, rfl⟩; exact ⟨rfl, _, rfl⟩))
              have hrow : Hid (Row ((wr.drewN nq).alloc (.cells #[.int .u8 (16 * y1 + y2)] 5 (0, 0))) u6 acc) := hQ.out.row.keep (((Keep.refl [] wr).drewN nq).alloc _) (Off.nil _)
              have hone := Bs.one (wr.drewN nq) B
              rw [Hval.out] at hone
              have Hone : Hid _ := hone.src
              have Hap2 := Hap.out (wr.drewN nq) ((Keep.refl [] wr).drewN nq)
              rw [Hval.out] at Hap2
              have HAP : Hid _ := Hap2
              clear hone Hap Hap2
              go_wp2_with (at_builtin; refine wp_app rfl (.tmp 45) (.tmp 47) 35 35 rfl underS u6 acc rfl hrow.out _ [B] rfl Hone.out hal.out ?_)
              intro v9 w9 R9 K9 F9 S9
              obtain ⟨a9, c9, rfl⟩ := S9
              have hnx : Hid (Qr w w9 s.toList x N (j + 4) (.slice a9 (acc.length + 1) c9) (acc ++ [B])) := by
                have := HAP.out _ _ R9 K9 F9
                show Qr _ _ _ _ _ _ _ _
                simpa using this
              clear R9 K9 F9 hrow HAP hQ Hone
              go_wp2
              go_roundw
              case rel => exact ⟨j + 4, acc ++ [B], by have := Hpp4.out; go_num, by have := Hpp4.out; omega, by first | exact hnx | simpa using hnx⟩
              case measure => have := Hpp4.out; simp [intOf]; omega
        · have e92 : ((c.toNat : Int) == 92) = false := beq_of (k := 92) h92
          obtain ⟨hg2, h1n⟩ := q_plain hgo h34 h92
          have hrow : Hid (Row (wr.alloc (.cells #[.int .u8 (c.toNat : Int)] 5 (0, 0))) u6 acc) := hQ.out.row.keep (Keep.alloc1 wr _) (Off.nil _)
          have hap := happ.out c wr (Keep.refl _ _)
          have Hap : Hid (∀ (v' : Value) (W' : World), Row W' v' (acc ++ [c]) → Keep u6.ownBlock.toList (wr.alloc (.cells #[.int .u8 (c.toNat : Int)] 5 (0, 0))) W' → (v'.ownBlock = u6.ownBlock ∨ Fresh (wr.alloc (.cells #[.int .u8 (c.toNat : Int)] 5 (0, 0))) W' v') → Qr w W' s.toList x N (j + 1) v' (acc ++ [c])) := fun v' W' r k f => hap v' W' r k f (j + 1) (by omega) (by omega) ⟨d, by rw [hd1, hg2]; congr 1⟩
          clear hgo hdr hd1 happ h34 h92 hap hg2
          go_wp2_with (at_builtin; refine wp_app rfl (.tmp 45) (.tmp 47) 35 35 rfl underS u6 acc rfl hrow.out _ [c] rfl (Bs.one wr c).src hal.out ?_)
          intro v9 w9 R9 K9 F9 S9
          obtain ⟨a9, c9, rfl⟩ := S9
          have hnx : Hid (Qr w w9 s.toList x N (j + 1) (.slice a9 (acc.length + 1) c9) (acc ++ [c])) := by
            have := Hap.out _ _ R9 K9 F9
            show Qr _ _ _ _ _ _ _ _
            simpa using this
          clear R9 K9 F9 hrow Hap hQ
          go_wp2
          go_roundw
          case rel => exact ⟨j + 1, acc ++ [c], by go_num, by omega, by first | exact hnx | simpa using hnx⟩
          case measure => simp [intOf]; omega
end Go.Proofs.Ytmglbcldjhdhkaa
