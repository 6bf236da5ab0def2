/- Every row of reads of two Readers in turns: OctetsReads answers true. -/
import Derived.Test.YtcmembmaaebdeaaGetW
import Derived.Test.YtcmembmaaebdeaaGetA
import Derived.Test.YtcmembmaaebdeaaOverW
import Derived.Test.YtcmembmaaebdeaaAwakeW
import Derived.Deep.RegionHeld3
namespace Go.Proofs.Ytcmembmaaebdeaa
open Go.RowKit Go.PlainAid Go.Lib

theorem Lent.bs3 {w : World} {v : Value} {l : List UInt8} (h : Lent w v l) : Bs w v l := by
  obtain ⟨g, cap, rfl, hr⟩ := h.ex
  have hb := hr.bs
  have e : (l ++ marks 1 24).length = l.length + 24 := by simp [marks_len]
  have h2 : Bs w (.slice (some ⟨g, 0, none⟩) (l ++ marks 1 24).length cap) (l ++ marks 1 24) := by rw [e]; exact hb
  have h3 := h2.take l.length (by omega)
  rw [List.take_left] at h3
  exact h3
theorem Lent.keep3 {F : List Nat} {w w' : World} {v : Value} {l : List UInt8} (h : Lent w v l) (k : Keep F w w') (hn : Off v F) : Lent w' v l := by
  obtain ⟨g, cap, rfl, hr⟩ := h.ex
  exact ⟨g, cap, rfl, hr.keep k (fun x hx => hn x hx)⟩

theorem rd_fromN {w0 w : World} {b o : Nat} {l : List UInt8} {e : Int} {rb : Option Nat} (h : Rd w0 b o l e rb) (k : Keep [] w0 w) : Rd w b o l e rb := h.keep k (by simp) (fun _ _ => by simp)

/-- two pairs of Readers -/
structure Inv4 (w wr : World) (b1 : Nat) (r1 : Option Nat) (d1 b2 : Nat) (r2 : Option Nat) (d2 : Nat) (l1 : List UInt8) (e1 : Int) (l2 : List UInt8) (e2 : Int) : Prop where
  p1 : Pair wr w.heap.size b1 r1 d1 l1 e1
  p2 : Pair wr w.heap.size b2 r2 d2 l2 e2
  keep : Keep [] w wr
  c1 : ∀ x ∈ [b1, d1], x ≠ d2 ∧ x ≠ b2 ∧ r2 ≠ some x
  c2 : ∀ x ∈ [b2, d2], x ≠ d1 ∧ x ≠ b1 ∧ r1 ≠ some x
  s1 : l1.length ≤ 140737488355328
  s2 : l2.length ≤ 140737488355328

theorem Inv4.new1 {w wr : World} {b1 : Nat} {r1 : Option Nat} {d1 b2 : Nat} {r2 : Option Nat} {d2 : Nat} {l1 : List UInt8} {e1 : Int} {l2 : List UInt8} {e2 : Int} (h : Inv4 w wr b1 r1 d1 b2 r2 d2 l1 e1 l2 e2) : ∀ x ∈ [b1, d1], w.heap.size ≤ x := by
  intro x hx
  have h1 := h.p1.mb
  have h2 := h.p1.rf.md
  simp at hx
  omega
theorem Inv4.new2 {w wr : World} {b1 : Nat} {r1 : Option Nat} {d1 b2 : Nat} {r2 : Option Nat} {d2 : Nat} {l1 : List UInt8} {e1 : Int} {l2 : List UInt8} {e2 : Int} (h : Inv4 w wr b1 r1 d1 b2 r2 d2 l1 e1 l2 e2) : ∀ x ∈ [b2, d2], w.heap.size ≤ x := by
  intro x hx
  have h1 := h.p2.mb
  have h2 := h.p2.rf.md
  simp at hx
  omega
theorem Inv4.same {w wr w' : World} {b1 : Nat} {r1 : Option Nat} {d1 b2 : Nat} {r2 : Option Nat} {d2 : Nat} {l1 : List UInt8} {e1 : Int} {l2 : List UInt8} {e2 : Int} (h : Inv4 w wr b1 r1 d1 b2 r2 d2 l1 e1 l2 e2) (k : Keep [] wr w') : Inv4 w w' b1 r1 d1 b2 r2 d2 l1 e1 l2 e2 :=
  ⟨h.p1.same k, h.p2.same k, h.keep.trans' k, h.c1, h.c2, h.s1, h.s2⟩
theorem Inv4.step1 {w wr w' : World} {b1 : Nat} {r1 : Option Nat} {d1 b2 : Nat} {r2 : Option Nat} {d2 : Nat} {l1 : List UInt8} {e1 : Int} {l2 : List UInt8} {e2 : Int} {l' : List UInt8} {e' : Int} (h : Inv4 w wr b1 r1 d1 b2 r2 d2 l1 e1 l2 e2) (p : Pair w' w.heap.size b1 r1 d1 l' e') (k : Keep [b1, d1] wr w') (hl : l'.length ≤ l1.length) : Inv4 w w' b1 r1 d1 b2 r2 d2 l' e' l2 e2 :=
  ⟨p, h.p2.keep k (fun x hx => ⟨h.new1 x hx, (h.c1 x hx).1, (h.c1 x hx).2.1, (h.c1 x hx).2.2⟩), h.keep.more k (fun x hx => .inr (h.new1 x hx)), h.c1, h.c2, Nat.le_trans hl h.s1, h.s2⟩
theorem Inv4.step2 {w wr w' : World} {b1 : Nat} {r1 : Option Nat} {d1 b2 : Nat} {r2 : Option Nat} {d2 : Nat} {l1 : List UInt8} {e1 : Int} {l2 : List UInt8} {e2 : Int} {l' : List UInt8} {e' : Int} (h : Inv4 w wr b1 r1 d1 b2 r2 d2 l1 e1 l2 e2) (p : Pair w' w.heap.size b2 r2 d2 l' e') (k : Keep [b2, d2] wr w') (hl : l'.length ≤ l2.length) : Inv4 w w' b1 r1 d1 b2 r2 d2 l1 e1 l' e' :=
  ⟨h.p1.keep k (fun x hx => ⟨h.new2 x hx, (h.c2 x hx).1, (h.c2 x hx).2.1, (h.c2 x hx).2.2⟩), p, h.keep.more k (fun x hx => .inr (h.new2 x hx)), h.c1, h.c2, h.s1, Nat.le_trans hl h.s2⟩

theorem get_start {w w' : World} {b o : Nat} {g : GetD} (h : GetAt w b o g) (k : Keep [] w w') :
    w'.cell? ⟨b, o, none⟩ = some (.int .i64 g.on) ∧ w'.cell? ⟨b, o + 1, none⟩ = some (.int .i64 g.kind) ∧ w'.cell? ⟨b, o + 2, none⟩ = some (.int .i64 g.n) :=
  ⟨k.cell' h.on (by simp), k.cell' h.kind (by simp), k.cell' h.n (by simp)⟩

theorem held4_start {w : World} {p q : Addr} {u v : Value} (hc : w.cell? p = some u) (hd : w.cell? q = some v) : w.drew.cell? p = some u ∧ w.drew.cell? q = some v ∧ Keep [] w w.drew := ⟨by simpa using hc, by simpa using hd, (Keep.refl _ _).drew⟩
theorem held4_call {w w1 w2 : World} {p q : Addr} {u v : Value} (h : w1.cell? p = some u ∧ w1.cell? q = some v ∧ Keep [] w w1) (k : Keep [] w1 w2) : w2.cell? p = some u ∧ w2.cell? q = some v ∧ Keep [] w w2 := ⟨k.cell' h.1 (by simp), k.cell' h.2.1 (by simp), h.2.2.trans' k⟩
set_option maxRecDepth 1000000 in
set_option maxHeartbeats 25600000 in
theorem reads_law (a0 b0 c0 : Option Addr) (ca cb cc : Nat) (la lb : List UInt8) (gs : List GetD) (w : World) (ha : Bs w (.slice a0 la.length ca) la) (hb : Bs w (.slice b0 lb.length cb) lb) (hg : Gets w (.slice c0 gs.length cc) gs)
    (hla : la.length ≤ 140737488351232) (hlb : lb.length ≤ 140737488351232) :
    Calls Try.prog 4 #[.slice a0 la.length ca, .slice b0 lb.length cb, .slice c0 gs.length cc] w fun e w' => e = .returned (.bool true) ∧ Below w.heap.size w w' := by
  obtain ⟨ao, cap, he, hlc, hcm, hex⟩ := hg.ex
  simp at he
  obtain ⟨rfl, rfl⟩ := he
  have HA : Hid (Bs w (.slice a0 la.length ca) la ∧ Bs w (.slice b0 lb.length cb) lb) := ⟨ha, hb⟩
  have HEX : Hid (gs ≠ [] → ∃ b o, c0 = some ⟨b, o, none⟩ ∧ ∀ i (h : i < gs.length), GetAt w b (o + i * 3) gs[i]) := hex
  clear ha hb hg hex
  go_enter Try.func4, Try.ntmps4
  go_wp2_with fail
  refine (lent_any _ la w HA.out.1 (by omega)).mono ?_
  rintro e1 w1 ⟨v1, rfl, L1, F1, K1⟩
  go_wp2_with fail
  refine (lent_any _ lb w1 (HA.out.2.keep K1 (Off.nil _)) (by omega)).mono ?_
  rintro e2 w2 ⟨v2, rfl, L2, F2, K2⟩
  have L1' := L1.keep3 K2 (Off.nil _)
  have K2' := K1.trans' K2
  go_wp2_with fail
  refine (Read_any v1 la w2 L1'.bs3 (by omega)).mono ?_
  rintro e3 w3 ⟨b1, r1, rfl, D3, hb3, hr3, K3⟩
  go_wp2_with fail
  refine (Read_any v2 lb w3 ((L2.bs3).keep K3 (Off.nil _)) (by omega)).mono ?_
  rintro e4 w4 ⟨b2, r2, rfl, D4, hb4, hr4, K4⟩
  have K4' := (K2'.trans' K3).trans' K4
  have L14 := (L1'.keep3 K3 (Off.nil _)).keep3 K4 (Off.nil _)
  have L24 := (L2.keep3 K3 (Off.nil _)).keep3 K4 (Off.nil _)
  have hk1 := kept_any v1 _ la w4 L14 (HA.out.1.keep K4' (Off.nil _)) (by omega)
  go_wp2_with fail
  refine hk1.mono ?_
  rintro e5 w5 ⟨rfl, n5, rfl⟩
  have D5 : Keep [] w4 (w4.drewN n5) := (Keep.refl _ _).drewN n5
  clear hk1
  generalize w4.drewN n5 = w5 at D5 ⊢
  have hk2 := kept_any v2 _ lb _ (L24.keep3 D5 (Off.nil _)) ((HA.out.2.keep K4' (Off.nil _)).keep D5 (Off.nil _)) (by omega)
  go_wp2_with fail
  refine hk2.mono ?_
  rintro e6 w6 ⟨rfl, n6, rfl⟩
  have D6 : Keep [] w4 (w5.drewN n6) := D5.drewN n6
  clear hk2
  generalize w5.drewN n6 = w6 at D6 ⊢
  have ho1 := over_any v1 la _ (L14.keep3 D6 (Off.nil _)) (by omega)
  go_wp2_with fail
  refine ho1.mono ?_
  rintro e7 w7 ⟨rfl, K7⟩
  have hs2 := K2.size
  have hs3 := K3.size
  have hs4 := K4.size
  have hf12 : Off v2 v1.ownBlock.toList := fun x hx hm => by
    have h1 := F1 x (by simpa using hm)
    have h2 := F2 x hx
    omega
  have ho2 := over_any v2 lb w7 ((L24.keep3 D6 (Off.nil _)).keep3 K7 hf12) (by omega)
  go_wp2_with fail
  refine ho2.mono ?_
  rintro e8 w8 ⟨rfl, K8⟩
  have D7 := D6.trans K7 (fun _ h => by cases h) (fun x hx => .inl hx)
  have hR1 : Rd w8 b1 0 la 0 r1 := by
    refine ((rd_fromN D3 K4).keep D7 ?_ ?_).keep K8 ?_ ?_
    · intro hm; have h1 := F1 b1 (by simpa using hm); omega
    · intro x hx hm; have h1 := F1 x (by simpa using hm); have h2 := hr3 x hx; omega
    · intro hm; have h1 := F2 b1 (by simpa using hm); omega
    · intro x hx hm; have h1 := F2 x (by simpa using hm); have h2 := hr3 x hx; omega
  have hR2 : Rd w8 b2 0 lb 0 r2 := by
    refine (D4.keep D7 ?_ ?_).keep K8 ?_ ?_
    · intro hm; have h1 := F1 b2 (by simpa using hm); omega
    · intro x hx hm; have h1 := F1 x (by simpa using hm); have h2 := hr4 x hx; omega
    · intro hm; have h1 := F2 b2 (by simpa using hm); omega
    · intro x hx hm; have h1 := F2 x (by simpa using hm); have h2 := hr4 x hx; omega
  have K8' : Keep [] w w8 := (K4'.more D7 (fun x hx => .inr (F1 x (by simpa using hx)).1)).more K8 (fun x hx => .inr (by have h1 := (F2 x (by simpa using hx)).1; have h2 := K1.size; omega))
  have hbb : b1 < b2 ∧ (∀ x, r1 = some x → x < b2) ∧ (∀ x, r2 = some x → b1 < x) ∧ w.heap.size ≤ b1 ∧ w.heap.size ≤ b2 := by
    have h1 := D3.blt
    have h2 := K2'.size
    refine ⟨by omega, fun x hx => by have := D3.lt x hx; omega, fun x hx => by have := hr4 x hx; omega, by omega, by omega⟩
  have HA8 : Hid (Bs w8 (.slice a0 la.length ca) la ∧ Bs w8 (.slice b0 lb.length cb) lb) := ⟨HA.out.1.keep K8' (Off.nil _), HA.out.2.keep K8' (Off.nil _)⟩
  have HI0 : Hid (Inv4 w ((w8.alloc (.cells #[.slice a0 la.length ca, .int .i64 0] 50)).alloc (.cells #[.slice b0 lb.length cb, .int .i64 0] 50)) b1 r1 w8.heap.size b2 r2 (w8.heap.size + 1) la 0 lb 0) := by
    have ka := (Keep.alloc1 w8 (.cells #[.slice a0 la.length ca, .int .i64 0] 50)).alloc (.cells #[.slice b0 lb.length cb, .int .i64 0] 50)
    have h8 := K8'.size
    have x1 := hR1.blt
    have x2 := hR2.blt
    refine ⟨⟨rd_fromN hR1 ka, ⟨by simp [go_sem], by simp [go_sem], by simp [go_sem], h8, _, by simp [go_sem], HA8.out.1.keep ka (Off.nil _), fun hl k hk => HA.out.1.lt hl k hk⟩, by omega, fun h => by have := hR1.lt _ h; omega, hbb.2.2.2.1⟩,
      ⟨rd_fromN hR2 ka, ⟨by simp [go_sem], by simp [go_sem], by simp [go_sem], by omega, _, by simp [go_sem], HA8.out.2.keep ka (Off.nil _), fun hl k hk => HA.out.2.lt hl k hk⟩, by omega, fun h => by have := hR2.lt _ h; omega, hbb.2.2.2.2⟩,
      K8'.trans' ka, fun x hx => ?_, fun x hx => ?_, by omega, by omega⟩
    · simp at hx
      refine ⟨by omega, by have := hbb.1; omega, fun h => ?_⟩
      have h1 := hR2.lt x h
      have h2 := hbb.2.2.1 x h
      omega
    · simp at hx
      refine ⟨by omega, by have := hbb.1; omega, fun h => ?_⟩
      have h1 := hR1.lt x h
      have h2 := hbb.2.1 x h
      omega
  clear L1 F1 K1 L2 F2 K2 L1' K2' D3 hb3 hr3 K3 D4 hb4 hr4 K4 K4' L14 L24 D5 D6 ho1 K7 hs2 hs3 hs4 hf12 ho2 K8 D7 hR1 hR2 K8' hbb HA8
  go_wp2
  generalize (w8.alloc (.cells #[.slice a0 la.length ca, .int .i64 0] 50)).alloc (.cells #[.slice b0 lb.length cb, .int .i64 0] 50) = w10 at HI0 ⊢
  generalize w8.heap.size + 1 = d2 at HI0 ⊢
  generalize w8.heap.size = d1 at HI0 ⊢
  go_loopw [13] (fun iv wr => ∃ (i : Nat) (l1 : List UInt8) (e1 : Int) (l2 : List UInt8) (e2 : Int), iv = .int .i64 (i : Int) ∧ i ≤ gs.length ∧ Inv4 w wr b1 r1 d1 b2 r2 d2 l1 e1 l2 e2) (fun iv _ => gs.length - (intOf iv).toNat)
  case atStart => exact ⟨0, la, 0, lb, 0, rfl, Nat.zero_le _, HI0.out⟩
  case round =>
    obtain ⟨i, l1, e1, l2, e2, rfl, hi, hI⟩ := hrel
    clear HI0
    by_cases hil : i < gs.length
    · have hili : (i : Int) < (gs.length : Int) := by omega
      obtain ⟨b, o, rfl, hat⟩ := HEX.out (by intro hz; rw [hz] at hil; simp at hil)
      have hA := hat i hil
      generalize gs[i] = g at hA
      have hok := hA.ok
      have HI : Hid (Inv4 w wr b1 r1 d1 b2 r2 d2 l1 e1 l2 e2) := hI
      have HG : Hid (GetAt w b (o + i * 3) g) := hA
      obtain ⟨c0, c1, c2⟩ := get_start hA hI.keep
      have hPk := pick_any g.on 2 hok.1.1 hok.1.2 (by omega) wr
      have hon : pickZ g.on 2 = 0 ∨ pickZ g.on 2 = 1 := by
        have h := pickZ_lt g.on 2 (by omega)
        have e : ((2 : Nat) : Int) = 2 := rfl
        rw [e] at h
        omega
      have hee : ∀ x : Int, (x == x) = true := fun x => by simp
      clear hA hat hI
      rcases hon with hon | hon <;> rw [hon] at hPk <;> clear hon
      · go_wp2_with (first | (go_at_call 10; refine hPk.mono ?_; rintro e3 w3 ⟨rfl, hw3⟩; obtain rfl := hw3.symm))
        clear hPk
        go_region_with (first
          | (go_at_call 20; refine (get_any w.heap.size b1 r1 d1 l1 e1 g.on g.kind g.n hok.2.1.1 hok.2.1.2 hok.2.2.1 hok.2.2.2 _ (HI.out.same ((Keep.refl [] _).drew)).p1 HI.out.s1).mono ?_; rintro e8 w8 ⟨rfl, l8, f8, P8, K8, hL8⟩; have I8 := (HI.out.same ((Keep.refl [] _).drew)).step1 P8 K8 hL8; have hE8 := P8.rf.err)
          | (go_at_call 21; refine (err_any b1 0 l8 f8 r1 _ P8.rd).mono ?_; rintro e9 w9 ⟨rfl, hw9⟩; obtain rfl := hw9.symm))
        all_goals
          have HI8 : Hid (Inv4 w w8 b1 r1 d1 b2 r2 d2 l8 f8 l2 e2) := I8
          have hff := hee f8
          clear K8 hL8 I8 P8 c0 c1 c2
          go_wp2
          go_roundw
          case rel => exact ⟨i + 1, l8, f8, l2, e2, by go_num, by omega, HI8.out⟩
          case measure => simp [intOf]; omega
      · go_wp2_with (first | (go_at_call 10; refine hPk.mono ?_; rintro e3 w3 ⟨rfl, hw3⟩; obtain rfl := hw3.symm))
        clear hPk
        go_region_with (first
          | (go_at_call 20; refine (get_any w.heap.size b2 r2 d2 l2 e2 g.on g.kind g.n hok.2.1.1 hok.2.1.2 hok.2.2.1 hok.2.2.2 _ (HI.out.same ((Keep.refl [] _).drew)).p2 HI.out.s2).mono ?_; rintro e8 w8 ⟨rfl, l8, f8, P8, K8, hL8⟩; have I8 := (HI.out.same ((Keep.refl [] _).drew)).step2 P8 K8 hL8; have hE8 := P8.rf.err)
          | (go_at_call 21; refine (err_any b2 0 l8 f8 r2 _ P8.rd).mono ?_; rintro e9 w9 ⟨rfl, hw9⟩; obtain rfl := hw9.symm))
        all_goals
          have HI8 : Hid (Inv4 w w8 b1 r1 d1 b2 r2 d2 l1 e1 l8 f8) := I8
          have hff := hee f8
          clear K8 hL8 I8 P8 c0 c1 c2
          go_wp2
          go_roundw
          case rel => exact ⟨i + 1, l1, e1, l8, f8, by go_num, by omega, HI8.out⟩
          case measure => simp [intOf]; omega
    · have hili : ¬ ((i : Int) < (gs.length : Int)) := by omega
      have HI : Hid (Inv4 w wr b1 r1 d1 b2 r2 d2 l1 e1 l2 e2) := hI
      obtain ⟨x1, hx1, hb1, _⟩ := hI.p1.rf.b
      obtain ⟨x2, hx2, hb2, _⟩ := hI.p2.rf.b
      obtain ⟨y1, z1, rfl, _, _, _, _⟩ := hb1.ex
      obtain ⟨y2, z2, rfl, _, _, _, _⟩ := hb2.ex
      have hL1 := fun w' (k : Keep [] wr w') => left_any b1 0 l1 e1 r1 w' (HI.out.same k).p1.rd
      have hL2 := fun w' (k : Keep [] wr w') => left_any b2 0 l2 e2 r2 w' (HI.out.same k).p2.rd
      have hE1 := fun w' (k : Keep [] wr w') => end_any b1 0 l1 e1 r1 w' (HI.out.same k).p1.rd
      have hE2 := fun w' (k : Keep [] wr w') => end_any b2 0 l2 e2 r2 w' (HI.out.same k).p2.rd
      have hD1 := fun w' (k : Keep [] wr w') => rfEnd_any w.heap.size d1 l1 e1 w' (HI.out.same k).p1.rf
      have hD2 := fun w' (k : Keep [] wr w') => rfEnd_any w.heap.size d2 l2 e2 w' (HI.out.same k).p2.rf
      generalize endE l1 e1 = f1 at hE1 hD1
      generalize endE l2 e2 = f2 at hE2 hD2
      have hll1 : ((l1.length : Int) == (l1.length : Int)) = true := by simp
      have hll2 : ((l2.length : Int) == (l2.length : Int)) = true := by simp
      have hff1 : (f1 == f1) = true := by simp
      have hff2 : (f2 == f2) = true := by simp
      clear hI hb1 hb2
      go_wp2
      go_region_held3 (fun w' => w'.cell? ⟨d1, 0, none⟩ = some (.slice y1 l1.length z1) ∧ w'.cell? ⟨d2, 0, none⟩ = some (.slice y2 l2.length z2) ∧ Keep [] wr w')
        (first | assumption | exact held4_start (by assumption) (by assumption) | exact held4_call (by assumption) (by assumption))
        (first
          | (go_at_call_of 22 b1; refine (hL1 _ (And.right (And.right (by assumption)))).mono ?_; rintro e5 w5 ⟨rfl, hw5⟩; obtain rfl := hw5.symm)
          | (go_at_call_of 22 b2; refine (hL2 _ (And.right (And.right (by assumption)))).mono ?_; rintro e5 w5 ⟨rfl, hw5⟩; obtain rfl := hw5.symm)
          | (go_at_call_of 23 b1; refine (hE1 _ (And.right (And.right (by assumption)))).mono ?_; rintro e5 w5 ⟨rfl, hw5⟩; obtain rfl := hw5.symm)
          | (go_at_call_of 23 b2; refine (hE2 _ (And.right (And.right (by assumption)))).mono ?_; rintro e5 w5 ⟨rfl, hw5⟩; obtain rfl := hw5.symm)
          | (go_at_call_of 24 d1; refine (hD1 _ (And.right (And.right (by assumption)))).mono ?_; rintro e5 w5 ⟨rfl, hw5⟩; obtain rfl := hw5.symm)
          | (go_at_call_of 24 d2; refine (hD2 _ (And.right (And.right (by assumption)))).mono ?_; rintro e5 w5 ⟨rfl, hw5⟩; obtain rfl := hw5.symm)
          | (go_at_call 18; refine (awake_any _).mono ?_; rintro e11 w11 ⟨rfl, K11⟩))
      rename_i hH
      have HK : Hid (Below w.heap.size w w11) := (HI.out.keep.trans' hH.2.2).below
      clear hH hL1 hL2 hE1 hE2 hD1 hD2 K11 HI
      go_wp2
      go_ret
      exact ⟨rfl, HK.out⟩

end Go.Proofs.Ytcmembmaaebdeaa
