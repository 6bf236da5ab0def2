/- StrataRenamed: the walk. -/
import Derived.Test.YtmlpkjeaieljfabRn
namespace Go.Proofs.Ytmlpkjeaieljfab
open Go.RowKit Go.PlainAid

/-- the graph, and the turn in its box -/
structure Rqn (w wr : World) (va : Value) (bt : Nat) (by_ k_ : Int) (A : List Ar) : Prop where
  arcs : Rd encA 3 wr va A
  own : ∀ x, va.ownBlock = some x → x < wr.heap.size
  c0 : wr.cell? ⟨bt, 0, none⟩ = some (.int .i64 by_)
  c1 : wr.cell? ⟨bt, 1, none⟩ = some (.int .i64 k_)
  keep : Keep [] w wr
theorem Rqn.step {w wr w' : World} {va : Value} {bt : Nat} {by_ k_ : Int} {A : List Ar} (h : Rqn w wr va bt by_ k_ A) (k : Keep [] wr w') : Rqn w w' va bt by_ k_ A := ⟨h.arcs.keep k (Off.nil _), fun x hx => Nat.lt_of_lt_of_le (h.own x hx) k.size, k.cell' h.c0 (by simp), k.cell' h.c1 (by simp), h.keep.trans' k⟩
/-- the names, while they are given -/
structure Nmn (w : World) (gn : Nat) (va : Value) (bt : Nat) (by_ k_ : Int) (A : List Ar) (n b : Nat) (i : Nat) (NM : List Nat) (wr : World) : Prop where
  rq : Rqn w wr va bt by_ k_ A
  arr : Arr 3 eN wr gn n NM
  is_ : ∀ x, x < i → NM.getD x 0 = nmN n b x
  off : (∀ x, va.ownBlock = some x → x < gn) ∧ bt < gn ∧ w.heap.size ≤ gn
theorem Nmn.step {w : World} {gn : Nat} {va : Value} {bt : Nat} {by_ k_ : Int} {A : List Ar} {n b i : Nat} {NM : List Nat} {wr w' : World} (h : Nmn w gn va bt by_ k_ A n b i NM wr) (k : Keep [] wr w') : Nmn w gn va bt by_ k_ A n b i NM w' := ⟨h.rq.step k, h.arr.keep k (by simp), h.is_, h.off⟩
theorem Nmn.next {w : World} {gn : Nat} {va : Value} {bt : Nat} {by_ k_ : Int} {A : List Ar} {n b i : Nat} {NM : List Nat} {wr : World} (h : Nmn w gn va bt by_ k_ A n b i NM wr) (hi : i < n) : Nmn w gn va bt by_ k_ A n b (i + 1) (NM.set i (nmN n b i)) (wr.setCell ⟨gn, i, none⟩ (.int .i64 (nmN n b i : Int))) := by
  have k : Keep [gn] wr (wr.setCell ⟨gn, i, none⟩ (.int .i64 (nmN n b i : Int))) := Keep.set1 wr ⟨gn, i, none⟩ _
  have o := h.off
  have hl := h.arr.len
  refine ⟨⟨h.rq.arcs.keep k (fun x hx hm => by have := o.1 x hx; simp at hm; omega), fun x hx => Nat.lt_of_lt_of_le (h.rq.own x hx) k.size, k.cell' h.rq.c0 (by simp; omega), k.cell' h.rq.c1 (by simp; omega), h.rq.keep.more k (fun x hx => .inr (by simp at hx; omega))⟩, h.arr.put i _, fun x hx => ?_, o⟩
  rw [getD_set _ _ _ _ _ (by omega)]
  by_cases e : x = i
  · rw [if_pos e, e]
  · rw [if_neg e]; exact h.is_ x (by omega)
theorem Nmn.far {w : World} {gn : Nat} {va : Value} {bt : Nat} {by_ k_ : Int} {A : List Ar} {n b i : Nat} {NM : List Nat} {wr w' : World} {F : List Nat} (h : Nmn w gn va bt by_ k_ A n b i NM wr) (k : Keep F wr w') (hF : ∀ x ∈ F, gn < x) : Nmn w gn va bt by_ k_ A n b i NM w' := by
  have o := h.off
  have hno : ∀ x, x ≤ gn → x ∉ F := fun x hx hm => by have := hF x hm; omega
  exact ⟨⟨h.rq.arcs.keep k (fun x hx hm => hno x (by have := o.1 x hx; omega) hm), fun x hx => Nat.lt_of_lt_of_le (h.rq.own x hx) k.size, k.cell' h.rq.c0 (hno _ (by simp; omega)), k.cell' h.rq.c1 (hno _ (by simp; omega)), h.rq.keep.more k (fun x hx => .inr (by have := hF x hx; omega))⟩, h.arr.keep k (hno gn (Nat.le_refl _)), h.is_, h.off⟩

/-- one way on for all -/
theorem via5 {P : Prop} (G : World → Option Addr → Nat → Nat → List Nat → Prop) (F : World → Option Addr → Nat → Nat → List Nat → Prop) (h1 : (∀ a b c d e, F a b c d e → G a b c d e) → P) (h2 : ∀ a b c d e, F a b c d e → G a b c d e) : P := h1 h2
/-- Strata's answer, whichever it is -/
def SUn (n : Nat) (A : List Ar) (p : List Nat) (aS : Option Addr) (nS : Nat) (ks : Int) (w : World) : Prop := (ks = 0 ∧ nS = n ∧ NoBad A (fun x => p.getD x 0) ∧ ∃ gs s, aS = some ⟨gs, 0, none⟩ ∧ Arr 3 eN w gs n s ∧ Least A n (fun x => s.getD x 0)) ∨ (ks = 81 ∧ nS = 0 ∧ ¬ NoBad A (fun x => p.getD x 0))
theorem SUn.step {n : Nat} {A : List Ar} {p : List Nat} {aS : Option Addr} {nS : Nat} {ks : Int} {w w' : World} (h : SUn n A p aS nS ks w) (k : Keep [] w w') : SUn n A p aS nS ks w' := by
  rcases h with ⟨h1, h2, h3, gs, s, h4, h5, h6⟩ | h
  · exact .inl ⟨h1, h2, h3, gs, s, h4, h5.keep k (by simp), h6⟩
  · exact .inr h
theorem strata_u (n : Nat) (v : Value) (A : List Ar) (p : List Nat) (w : World) (h : Rd encA 3 w v A) (hf : faultZ (n : Int) (A.map Ar.z) = 0) (hn : ∀ a ∈ A, a.f < n ∧ a.t < n) (hp : Numbered (Ec A) n (fun x => p.getD x 0)) : Calls Try.prog 10 #[.int .i64 (n : Int), v] w fun e w' => ∃ aS nS cS ks, e = .returned (.tuple #[.slice aS nS cS, .int .i64 ks]) ∧ SUn n A p aS nS ks w' ∧ Keep [] w w' := by
  refine (strata_p n v A p w h hf hn hp).mono ?_
  rintro e w' (⟨h1, gs, s, rfl, h2, h3, h4⟩ | ⟨h1, rfl, h4⟩)
  · exact ⟨_, _, _, _, rfl, .inl ⟨rfl, rfl, h1, gs, s, rfl, h2, h3⟩, h4⟩
  · exact ⟨_, _, _, _, rfl, .inr ⟨rfl, rfl, h1⟩, h4⟩
/-- both of Strata's answers -/
def SFn (n : Nat) (nm : Nat → Nat) (aS : Option Addr) (nS : Nat) (aU : Option Addr) (ks : Int) (w : World) : Prop := (ks = 0 ∧ nS = n ∧ ∃ gs ss gu us, aS = some ⟨gs, 0, none⟩ ∧ aU = some ⟨gu, 0, none⟩ ∧ Arr 3 eN w gs n ss ∧ Arr 3 eN w gu n us ∧ ∀ x, x < n → ss.getD x 0 = us.getD (nm x) 0) ∨ ks = 81
theorem SFn.step {n : Nat} {nm : Nat → Nat} {aS aU : Option Addr} {nS : Nat} {ks : Int} {w w' : World} (h : SFn n nm aS nS aU ks w) (k : Keep [] w w') : SFn n nm aS nS aU ks w' := by
  rcases h with ⟨h1, h2, gs, ss, gu, us, h3, h4, h5, h6, h7⟩ | h
  · exact .inl ⟨h1, h2, gs, ss, gu, us, h3, h4, h5.keep k (by simp), h6.keep k (by simp), h7⟩
  · exact .inr h
theorem sfn_of {A B : List Ar} {n : Nat} {nm : Nat → Nat} (h : Ren A B n nm) {p q : List Nat} (hp : Numbered (Ec A) n (fun x => p.getD x 0)) (hq : Numbered (Ec B) n (fun x => q.getD x 0)) {aS aU : Option Addr} {nS nU : Nat} {ks ku : Int} {w : World} (h1 : SUn n A p aS nS ks w) (h2 : SUn n B q aU nU ku w) : ku = ks ∧ nU = nS ∧ SFn n nm aS nS aU ks w := by
  rcases h1 with ⟨rfl, rfl, hb, gs, ss, rfl, a1, l1⟩ | ⟨rfl, rfl, hb⟩
  · rcases h2 with ⟨rfl, rfl, _, gu, us, rfl, a2, l2⟩ | ⟨_, _, hb2⟩
    · exact ⟨rfl, rfl, .inl ⟨rfl, rfl, gs, ss, gu, us, rfl, rfl, a1, a2, fun x hx => h.least l1 l2 x hx⟩⟩
    · exact absurd (h.noBad hp hq hb) hb2
  · rcases h2 with ⟨_, _, hb2, _⟩ | ⟨rfl, rfl, _⟩
    · exact absurd (h.symm.noBad hq hp hb2) hb
    · exact ⟨rfl, rfl, .inr rfl⟩

/-- both graphs -/
structure Rzn (w : World) (gn : Nat) (va vm : Value) (bt : Nat) (by_ k_ : Int) (A B : List Ar) (n b : Nat) (NM : List Nat) (wr : World) : Prop where
  nm : Nmn w gn va bt by_ k_ A n b n NM wr
  brd : Rd encA 3 wr vm B
theorem Rzn.step {w : World} {gn : Nat} {va vm : Value} {bt : Nat} {by_ k_ : Int} {A B : List Ar} {n b : Nat} {NM : List Nat} {wr w' : World} (h : Rzn w gn va vm bt by_ k_ A B n b NM wr) (k : Keep [] wr w') : Rzn w gn va vm bt by_ k_ A B n b NM w' := ⟨h.nm.step k, h.brd.keep k (Off.nil _)⟩

set_option maxRecDepth 1000000 in
set_option maxHeartbeats 16000000 in
theorem renamed_law (n : Int) (va : Value) (l : List Az) (by_ k_ : Int) (w : World) (h : Rd encZ 3 w va l) (hn : -9223372036854775808 ≤ n ∧ n ≤ 9223372036854775807) (hl : ∀ x ∈ l, (-9223372036854775808 ≤ x.f ∧ x.f ≤ 9223372036854775807) ∧ (-9223372036854775808 ≤ x.t ∧ x.t ≤ 9223372036854775807)) (hby : -9223372036854775808 ≤ by_ ∧ by_ ≤ 9223372036854775807) (hk_ : -9223372036854775808 ≤ k_ ∧ k_ ≤ 9223372036854775807) :
    Calls Try.prog 3 #[.int .i64 n, va, .agg #[.int .i64 by_, .int .i64 k_]] w fun e w' => e = .returned (.bool true) ∧ Keep [] w w' := by
  obtain ⟨ao, cap, rfl⟩ := h.form'
  have HFi : Hid (∀ w', Keep [] w w' → Calls Try.prog 6 #[.int .i64 n, .slice ao l.length cap] w' fun e w2 => ∃ v', e = .returned (.tuple #[.int .i64 (fitN n : Int), v']) ∧ Ow 31 encA 3 w' w2 v' (fitA n l)) := fun w' k => fit_any n _ l w' (h.keep k (Off.nil _)) hn hl
  have hN := fitN_lt n
  have HA : Hid ((∀ a ∈ fitA n l, a.f < fitN n ∧ a.t < fitN n) ∧ (fitA n l).length ≤ 400) := ⟨fitA_node n l, fitA_len n l⟩
  generalize fitN n = N at HFi HA hN
  generalize fitA n l = A at HFi HA
  clear h hl hn
  have HPk : Hid (∀ (x : Int) (w : World), (-9223372036854775808 ≤ x ∧ x ≤ 9223372036854775807) → 0 < N → Calls Try.prog 7 #[.int .i64 x, .int .i64 (N : Int)] w fun e w' => e = .returned (.int .i64 ((pickZ x N).toNat : Int)) ∧ w' = w) := fun x w hx h0 => by
    have h1 := pick_any x N hx.1 hx.2 (by omega) w
    have h2 := pickZ_lt x N h0
    rwa [show (((pickZ x N).toNat : Nat) : Int) = pickZ x N by omega]
  have HBK : Hid ((-9223372036854775808 ≤ by_ ∧ by_ ≤ 9223372036854775807) ∧ (-9223372036854775808 ≤ k_ ∧ k_ ≤ 9223372036854775807)) := ⟨hby, hk_⟩
  clear hby hk_
  obtain ⟨bt, HBT⟩ : ∃ bt : Nat, Hid (bt = w.heap.size) := ⟨_, show _ = _ from rfl⟩
  have HW0 : Hid ((w.alloc (.cells #[.int .i64 by_, .int .i64 k_] 24)).cell? ⟨bt, 0, none⟩ = some (.int .i64 by_) ∧ (w.alloc (.cells #[.int .i64 by_, .int .i64 k_] 24)).cell? ⟨bt, 1, none⟩ = some (.int .i64 k_) ∧ Keep [] w (w.alloc (.cells #[.int .i64 by_, .int .i64 k_] 24))) := by
    have hb := heap_alloc_new w (.cells #[.int .i64 by_, .int .i64 k_] 24)
    rw [← HBT.out] at hb
    exact ⟨by simp only [World.cell?, hb]; rfl, by simp only [World.cell?, hb]; rfl, Keep.alloc1 w _⟩
  go_enter Try.func3, Try.ntmps3
  go_wp2_with fail
  rw [← HBT.out]
  refine (awake_any _).mono ?_
  rintro e w1 ⟨rfl, k1⟩
  have H1 : Hid (w1.cell? ⟨bt, 0, none⟩ = some (.int .i64 by_) ∧ w1.cell? ⟨bt, 1, none⟩ = some (.int .i64 k_) ∧ Keep [] w w1) := ⟨k1.cell' HW0.out.1 (by simp), k1.cell' HW0.out.2.1 (by simp), HW0.out.2.2.trans' k1⟩
  clear k1 HW0 HBT
  go_wp2_with fail
  refine (HFi.out _ H1.out.2.2).mono ?_
  rintro e w2 ⟨v2, rfl, o2⟩
  obtain ⟨a2, c2, rfl, hc1, hc2⟩ := (o2.row.rd encA_len).form
  have H2 : Hid (Rqn w w2 (.slice a2 A.length c2) bt by_ k_ A) := ⟨o2.row.rd encA_len, o2.row.lt, o2.keep.cell' H1.out.1 (by simp), o2.keep.cell' H1.out.2.1 (by simp), H1.out.2.2.trans' o2.keep⟩
  clear o2 HFi H1
  have hA4 : A.length ≤ 400 := HA.out.2
  by_cases hN0 : N = 0
  · have hq0 : ((N : Int) == 0) = true := by simp [hN0]
    have HE : Hid (Keep [] w w2) := H2.out.keep
    clear hN0 H2
    go_wp2
    go_ret
    exact ⟨rfl, HE.out⟩
  · have hq0 : ((N : Int) == 0) = false := by simp; omega
    have hNp : 0 < N := by omega
    obtain ⟨bz, HBZ⟩ : ∃ bz : Nat, Hid (bz = (pickZ by_ N).toNat) := ⟨_, show _ = _ from rfl⟩
    have hbz : bz < N := by
      have := pickZ_lt by_ N hNp
      rw [HBZ.out]
      omega
    have HPb : Hid (∀ w, Calls Try.prog 7 #[.int .i64 by_, .int .i64 (N : Int)] w fun e w' => e = .returned (.int .i64 (bz : Int)) ∧ w' = w) := fun w => by
      have := HPk.out by_ w HBK.out.1 hNp
      rwa [← HBZ.out] at this
    obtain ⟨i3, hi3, hz3, hs3, hy3⟩ := info_parts infoI
    have HB2 : Hid (i3.bytes * N ≤ 281474976710656) := show i3.bytes * N ≤ 281474976710656 by rw [hy3]; omega
    have HB3 : Hid (N ≤ maxLen) := show N ≤ maxLen by simp only [maxLen]; omega
    clear hN0
    go_wp2_with (at_make; refine wpList_make_full _ rfl (.tmp 44) (.tmp 44) 28 rfl 0 3 i3 (.int .i64 0) 1 Try.underlying28 hi3 hz3 hs3 .i64 .i64 _ _ N rfl rfl rfl rfl HB2.out HB3.out (Nat.zero_le _) ?_)
    intro w3 r1 r2
    obtain ⟨gn, HGN⟩ : ∃ gn : Nat, Hid (gn = w2.heap.size) := ⟨_, show _ = _ from rfl⟩
    rw [← HGN.out] at r1 ⊢
    have H3 : Hid (Nmn w gn (.slice a2 A.length c2) bt by_ k_ A N bz 0 (List.replicate N 0) w3) := by
      have k3 : Keep [] w2 w3 := Keep.mono (Keep.grown r2) (by simp)
      have hb := World.block_lt_of_cell? _ _ H2.out.c0
      have hs := H2.out.keep.size
      have hg := HGN.out
      exact ⟨H2.out.step k3, Arr.made (e := eN) (z := 0) r1, fun x hx => by omega, fun x hx => by have := H2.out.own x hx; omega, by simp at hb; omega, by omega⟩
    clear r1 r2 HB2 HB3 hi3 hz3 hs3 hy3 H2 HGN
    go_wp2
    go_loopw [9] (fun iv wr => ∃ (i : Nat) (NM : List Nat), iv = .int .i64 (i : Int) ∧ i ≤ N ∧ Hid (Nmn w gn (.slice a2 A.length c2) bt by_ k_ A N bz i NM wr)) (fun iv _ => N - (intOf iv).toNat)
    case atStart => exact ⟨0, _, rfl, Nat.zero_le _, H3⟩
    case round =>
      clear H3
      obtain ⟨i, NM, rfl, hi, HI⟩ := hrel
      by_cases hlt : i < N
      · have hlti : (i : Int) < (N : Int) := by omega
        have d0 := HI.out.rq.c0
        have e0 : wr.cell? ⟨gn, i, none⟩ = some (.int .i64 (NM.getD i 0 : Int)) := HI.out.arr.cell 0 i hlt
        have f0 := HI.out.arr.free i
        have HJ : Hid (Nmn w gn (.slice a2 A.length c2) bt by_ k_ A N bz (i + 1) (NM.set i (nmN N bz i)) (wr.setCell ⟨gn, i, none⟩ (.int .i64 (nmN N bz i : Int)))) := HI.out.next hlt
        have HPn : Hid (∀ w, Calls Try.prog 7 #[.int .i64 ((N : Int) - 1 - (i : Int) + (bz : Int)), .int .i64 (N : Int)] w fun e w' => e = .returned (.int .i64 (nmN N bz i : Int)) ∧ w' = w) := fun w => by
          have := HPk.out ((N : Int) - 1 - (i : Int) + (bz : Int)) w (by omega) hNp
          rwa [pick_nm hbz hlt, Int.toNat_natCast] at this
        generalize nmN N bz i = nmi at HJ HPn
        clear HI
        go_wp2_with fail
        refine (HPb.out _).mono ?_
        rintro e w4 ⟨rfl, hw⟩
        obtain rfl := hw.symm
        go_wp2_with fail
        refine (HPn.out _).mono ?_
        rintro e w4 ⟨rfl, hw⟩
        obtain rfl := hw.symm
        go_wp2
        go_roundw
        case rel => exact ⟨i + 1, _, by go_num, by omega, HJ⟩
        case measure => simp [intOf]; omega
      · have hlti : ¬ (i : Int) < (N : Int) := by omega
        obtain rfl : i = N := by omega
        clear hlt hi
        go_wp2
        go_loopw [10, 11] (fun mv iv wr => ∃ (j : Nat), iv = .int .i64 ((j : Int) - 1) ∧ j ≤ A.length ∧ Hid (Nmn w gn (.slice a2 A.length c2) bt by_ k_ A i bz i NM wr ∧ Rw 31 encA 3 wr mv (twiceL (nmN i bz) (A.drop j).reverse) ∧ ∀ x, mv.ownBlock = some x → gn < x)) (fun _ iv _ => ((intOf iv) + 1).toNat)
        case atStart => exact ⟨A.length, by go_num, Nat.le_refl _, HI.out, by rw [List.drop_length]; exact Rw.nil 31 encA 3 wr, fun x hx => by simp [Value.ownBlock] at hx⟩
        case round =>
          clear HI
          obtain ⟨j0, rfl, hj, HI⟩ := hrel
          rcases j0 with _ | j
          · obtain ⟨B, HB⟩ : ∃ B, Hid (B = twiceL (nmN i bz) A.reverse) := ⟨_, show _ = _ from rfl⟩
            rw [List.drop_zero, ← HB.out] at HI
            have HRen : Hid (Ren A B i (nmN i bz)) := by rw [HB.out]; exact ren_twice hbz HA.out.1
            have hBl : B.length ≤ 800 := by
              rw [HB.out]
              have : ∀ l : List Ar, (twiceL (nmN i bz) l).length = 2 * l.length := fun l => by
                unfold twiceL
                induction l with
                | nil => rfl
                | cons a l ih => rw [List.flatMap_cons, List.length_append, ih]; simp; omega
              rw [this, List.length_reverse]
              omega
            obtain ⟨am, cm, rfl, -, -⟩ := (HI.out.2.1.rd encA_len).form
            have HZ0 : Hid (Rzn w gn (.slice a2 A.length c2) (.slice am B.length cm) bt by_ k_ A B i bz NM wr) := ⟨HI.out.1, HI.out.2.1.rd encA_len⟩
            clear HI HB
            go_wp2_with fail
            refine (copyA_own _ A _ HZ0.out.nm.rq.arcs (by omega)).mono ?_
            rintro e y1 ⟨v1, rfl, r1, k1⟩
            have HZ1 : Hid (Rd encA 3 y1 v1 A ∧ Rzn w gn (.slice a2 A.length c2) (.slice am B.length cm) bt by_ k_ A B i bz NM y1) := ⟨r1, HZ0.out.step k1⟩
            clear r1 k1 HZ0
            go_wp2_with fail
            refine (parts_yes i _ A _ HZ1.out.1 (fault_small (by omega) (by omega) HRen.out.na)).mono ?_
            rintro e y2 ⟨v2, rfl, gp, p, rfl, -, r2, ⟨s2, -⟩, k2⟩
            have HZ2 : Hid (Rzn w gn (.slice a2 A.length c2) (.slice am B.length cm) bt by_ k_ A B i bz NM y2 ∧ Arr 3 eN y2 gp i p) := ⟨HZ1.out.2.step k2, r2⟩
            have HPa : Hid (Numbered (Ec A) i (fun x => p.getD x 0)) := s2
            clear r2 s2 k2 HZ1
            go_wp2_with fail
            refine (copyA_own _ B _ HZ2.out.1.brd (by omega)).mono ?_
            rintro e y3 ⟨v3, rfl, r3, k3⟩
            have HZ3 : Hid (Rd encA 3 y3 v3 B ∧ Rzn w gn (.slice a2 A.length c2) (.slice am B.length cm) bt by_ k_ A B i bz NM y3 ∧ Arr 3 eN y3 gp i p) := ⟨r3, HZ2.out.1.step k3, HZ2.out.2.keep k3 (by simp)⟩
            clear r3 k3 HZ2
            go_wp2_with fail
            refine (parts_yes i _ B _ HZ3.out.1 (fault_small (by omega) (by omega) HRen.out.nb)).mono ?_
            rintro e y4 ⟨v4, rfl, gq, q, rfl, -, r4, ⟨s4, -⟩, k4⟩
            have HZ4 : Hid (Rzn w gn (.slice a2 A.length c2) (.slice am B.length cm) bt by_ k_ A B i bz NM y4 ∧ Arr 3 eN y4 gp i p ∧ Arr 3 eN y4 gq i q) := ⟨HZ3.out.2.1.step k4, HZ3.out.2.2.keep k4 (by simp), r4⟩
            have HPN : Hid (Numbered (Ec A) i (fun x => p.getD x 0) ∧ Numbered (Ec B) i (fun x => q.getD x 0)) := ⟨HPa.out, s4⟩
            clear r4 s4 k4 HZ3 HPa
            go_wp2_with fail
            refine (copyA_own _ A _ HZ4.out.1.nm.rq.arcs (by omega)).mono ?_
            rintro e y5 ⟨v5, rfl, r5, k5⟩
            have HZ5 : Hid (Rd encA 3 y5 v5 A ∧ Rzn w gn (.slice a2 A.length c2) (.slice am B.length cm) bt by_ k_ A B i bz NM y5 ∧ Arr 3 eN y5 gp i p ∧ Arr 3 eN y5 gq i q) := ⟨r5, HZ4.out.1.step k5, HZ4.out.2.1.keep k5 (by simp), HZ4.out.2.2.keep k5 (by simp)⟩
            clear r5 k5 HZ4
            go_wp2_with fail
            refine (strata_u i _ A p _ HZ5.out.1 (fault_small (by omega) (by omega) HRen.out.na) HRen.out.na HPN.out.1).mono ?_
            rintro e y6 ⟨aS, nS, cS, ks, rfl, u6, k6⟩
            have HZ6 : Hid (Rzn w gn (.slice a2 A.length c2) (.slice am B.length cm) bt by_ k_ A B i bz NM y6 ∧ Arr 3 eN y6 gp i p ∧ Arr 3 eN y6 gq i q ∧ SUn i A p aS nS ks y6) := ⟨HZ5.out.2.1.step k6, HZ5.out.2.2.1.keep k6 (by simp), HZ5.out.2.2.2.keep k6 (by simp), u6⟩
            clear u6 k6 HZ5
            go_wp2_with fail
            refine (copyA_own _ B _ HZ6.out.1.brd (by omega)).mono ?_
            rintro e y7 ⟨v7, rfl, r7, k7⟩
            have HZ7 : Hid (Rd encA 3 y7 v7 B ∧ Rzn w gn (.slice a2 A.length c2) (.slice am B.length cm) bt by_ k_ A B i bz NM y7 ∧ Arr 3 eN y7 gp i p ∧ Arr 3 eN y7 gq i q ∧ SUn i A p aS nS ks y7) := ⟨r7, HZ6.out.1.step k7, HZ6.out.2.1.keep k7 (by simp), HZ6.out.2.2.1.keep k7 (by simp), HZ6.out.2.2.2.step k7⟩
            clear r7 k7 HZ6
            go_wp2_with fail
            refine (strata_u i _ B q _ HZ7.out.1 (fault_small (by omega) (by omega) HRen.out.nb) HRen.out.nb HPN.out.2).mono ?_
            rintro e y8 ⟨aU, nU, cU, ku, rfl, u8, k8⟩
            obtain ⟨ek, en, sf⟩ := sfn_of HRen.out HPN.out.1 HPN.out.2 (HZ7.out.2.2.2.2.step k8) u8
            have HAR : Hid (Rzn w gn (.slice a2 A.length c2) (.slice am B.length cm) bt by_ k_ A B i bz NM y8 ∧ Arr 3 eN y8 gp i p ∧ Arr 3 eN y8 gq i q ∧ SFn i (nmN i bz) aS nS aU ks y8) := ⟨HZ7.out.2.1.step k8, HZ7.out.2.2.1.keep k8 (by simp), HZ7.out.2.2.2.1.keep k8 (by simp), sf⟩
            clear u8 k8 sf HZ7
            have ek2 := ek.symm
            have en2 := en.symm
            clear ek en
            subst ek2
            subst en2
            go_wp2
            go_loopw [21] (fun av wr => ∃ a : Nat, av = .int .i64 (a : Int) ∧ a ≤ i ∧ Hid (Rzn w gn (.slice a2 A.length c2) (.slice am B.length cm) bt by_ k_ A B i bz NM wr ∧ Arr 3 eN wr gp i p ∧ Arr 3 eN wr gq i q ∧ SFn i (nmN i bz) aS nS aU ks wr)) (fun av _ => i - (intOf av).toNat)
            case atStart => exact ⟨0, rfl, Nat.zero_le _, HAR⟩
            case round =>
              clear HAR
              obtain ⟨a, rfl, ha, HG⟩ := hrel
              by_cases hlt : a < i
              · have hlti : (a : Int) < (i : Int) := by omega
                have hna : nmN i bz a < i := nmN_lt hbz hlt
                obtain ⟨na, HNA⟩ : ∃ na : Nat, Hid (na = nmN i bz a) := ⟨_, show _ = _ from rfl⟩
                rw [← HNA.out] at hna
                have hnai : (na : Int) < (i : Int) := by omega
                go_wp2
                go_loopw [22] (fun bv wr => ∃ b : Nat, bv = .int .i64 (b : Int) ∧ b ≤ a ∧ Hid (Rzn w gn (.slice a2 A.length c2) (.slice am B.length cm) bt by_ k_ A B i bz NM wr ∧ Arr 3 eN wr gp i p ∧ Arr 3 eN wr gq i q ∧ SFn i (nmN i bz) aS nS aU ks wr)) (fun bv _ => a - (intOf bv).toNat)
                case atStart => exact ⟨0, rfl, Nat.zero_le _, HG⟩
                case round =>
                  clear HG
                  obtain ⟨b, rfl, hb, HG⟩ := hrel
                  by_cases hblt : b < a
                  · have hblti : (b : Int) < (a : Int) := by omega
                    have hbi : b < i := by omega
                    have hbii : (b : Int) < (i : Int) := by omega
                    have hnb : nmN i bz b < i := nmN_lt hbz hbi
                    obtain ⟨nb, HNB⟩ : ∃ nb : Nat, Hid (nb = nmN i bz b) := ⟨_, show _ = _ from rfl⟩
                    rw [← HNB.out] at hnb
                    have hnbi : (nb : Int) < (i : Int) := by omega
                    have q1 : wr.cell? ⟨gp, a, none⟩ = some (.int .i64 (p.getD a 0 : Int)) := HG.out.2.1.cell 0 a hlt
                    have q2 : wr.cell? ⟨gp, b, none⟩ = some (.int .i64 (p.getD b 0 : Int)) := HG.out.2.1.cell 0 b hbi
                    have q3 : wr.cell? ⟨gn, a, none⟩ = some (.int .i64 (na : Int)) := by rw [HG.out.1.nm.arr.cell 0 a hlt, HG.out.1.nm.is_ a hlt, HNA.out]; rfl
                    have q4 : wr.cell? ⟨gn, b, none⟩ = some (.int .i64 (nb : Int)) := by rw [HG.out.1.nm.arr.cell 0 b hbi, HG.out.1.nm.is_ b hbi, HNB.out]; rfl
                    have q5 : wr.cell? ⟨gq, na, none⟩ = some (.int .i64 (q.getD na 0 : Int)) := HG.out.2.2.1.cell 0 na hna
                    have q6 : wr.cell? ⟨gq, nb, none⟩ = some (.int .i64 (q.getD nb 0 : Int)) := HG.out.2.2.1.cell 0 nb hnb
                    have HSm : Hid (p.getD a 0 = p.getD b 0 ↔ q.getD na 0 = q.getD nb 0) := by rw [HNA.out, HNB.out]; exact HRen.out.parts HPN.out.1 HPN.out.2 hlt hbi
                    generalize p.getD a 0 = x1 at q1 HSm
                    generalize p.getD b 0 = x2 at q2 HSm
                    generalize q.getD na 0 = x3 at q5 HSm
                    generalize q.getD nb 0 = x4 at q6 HSm
                    clear HNB
                    by_cases h12 : x1 = x2
                    · have h34 := HSm.out.1 h12
                      have b1 : ((x1 : Int) == (x2 : Int)) = true := by simp [h12]
                      have b2 : ((x3 : Int) == (x4 : Int)) = true := by simp [h34]
                      clear h12 h34 HSm
                      go_wp2
                      go_quiet (fail)
                      go_wp2
                      go_roundw
                      case rel => exact ⟨b + 1, by go_num, by omega, HG.out.1.step ((Keep.refl [] wr).drewN _), HG.out.2.1.keep ((Keep.refl [] wr).drewN _) (by simp), HG.out.2.2.1.keep ((Keep.refl [] wr).drewN _) (by simp), HG.out.2.2.2.step ((Keep.refl [] wr).drewN _)⟩
                      case measure => simp [intOf]; omega
                    · have h34 : ¬ x3 = x4 := fun e => h12 (HSm.out.2 e)
                      have b1 : ((x1 : Int) == (x2 : Int)) = false := by simp; omega
                      have b2 : ((x3 : Int) == (x4 : Int)) = false := by simp; omega
                      clear h12 h34 HSm
                      go_wp2
                      go_quiet (fail)
                      go_wp2
                      go_roundw
                      case rel => exact ⟨b + 1, by go_num, by omega, HG.out.1.step ((Keep.refl [] wr).drewN _), HG.out.2.1.keep ((Keep.refl [] wr).drewN _) (by simp), HG.out.2.2.1.keep ((Keep.refl [] wr).drewN _) (by simp), HG.out.2.2.2.step ((Keep.refl [] wr).drewN _)⟩
                      case measure => simp [intOf]; omega
                  · have hblti : ¬ (b : Int) < (a : Int) := by omega
                    rcases HG.out.2.2.2 with ⟨ek, en, gs, ss, gu, us, es, eu, as_, au, hsu⟩ | ek
                    · have en2 := en.symm
                      subst ek
                      subst es
                      subst eu
                      have q3 : wr.cell? ⟨gn, a, none⟩ = some (.int .i64 (na : Int)) := by rw [HG.out.1.nm.arr.cell 0 a hlt, HG.out.1.nm.is_ a hlt, HNA.out]; rfl
                      have q7 : wr.cell? ⟨gs, a, none⟩ = some (.int .i64 (ss.getD a 0 : Int)) := as_.cell 0 a hlt
                      have q8 : wr.cell? ⟨gu, na, none⟩ = some (.int .i64 (ss.getD a 0 : Int)) := by
                        rw [au.cell 0 na hna, hsu a hlt, HNA.out]
                        rfl
                      generalize ss.getD a 0 = sa at q7 q8
                      clear as_ au hsu en HNA
                      subst en2
                      go_wp2
                      go_quiet (fail)
                      go_wp2
                      go_roundw
                      case rel => exact ⟨a + 1, by go_num, by omega, HG.out.1.step ((Keep.refl [] wr).drewN _), HG.out.2.1.keep ((Keep.refl [] wr).drewN _) (by simp), HG.out.2.2.1.keep ((Keep.refl [] wr).drewN _) (by simp), HG.out.2.2.2.step ((Keep.refl [] wr).drewN _)⟩
                      case measure => simp [intOf]; omega
                    · subst ek
                      clear HNA
                      go_wp2
                      go_quiet (fail)
                      go_wp2
                      go_roundw
                      case rel => exact ⟨a + 1, by go_num, by omega, HG.out.1.step ((Keep.refl [] wr).drewN _), HG.out.2.1.keep ((Keep.refl [] wr).drewN _) (by simp), HG.out.2.2.1.keep ((Keep.refl [] wr).drewN _) (by simp), HG.out.2.2.2.step ((Keep.refl [] wr).drewN _)⟩
                      case measure => simp [intOf]; omega
              · have hlti : ¬ (a : Int) < (i : Int) := by omega
                have hz1 := HG.out.1.nm.rq.c0
                have hz2 := HG.out.1.nm.rq.c1
                obtain ⟨fa, HFA⟩ : ∃ fa : Nat, Hid (fa = (pickZ k_ i).toNat) := ⟨_, show _ = _ from rfl⟩
                have hfa : fa < i := by
                  have := pickZ_lt k_ i hNp
                  rw [HFA.out]
                  omega
                have hfai : (fa : Int) < (i : Int) := by omega
                have HP1 : Hid (∀ n, Calls Try.prog 7 #[.int .i64 k_, .int .i64 (i : Int)] (wr.drewN n) fun e w' => e = .returned (.int .i64 (fa : Int)) ∧ w' = wr.drewN n) := fun n => by
                  have := HPk.out k_ (wr.drewN n) HBK.out.2 hNp
                  rwa [← HFA.out] at this
                have HP2 : Hid (∀ n, Calls Try.prog 7 #[.int .i64 by_, .int .i64 (i : Int)] (wr.drewN n) fun e w' => e = .returned (.int .i64 (bz : Int)) ∧ w' = wr.drewN n) := fun n => HPb.out _
                have HG2 : Hid (∀ n, Rzn w gn (.slice a2 A.length c2) (.slice am B.length cm) bt by_ k_ A B i bz NM (wr.drewN n)) := fun n => HG.out.1.step ((Keep.refl [] wr).drewN n)
                clear HG HFA
                go_wp2
                go_quiet (first | (go_at_call_of 7 k_; exact Calls.quiet_of_same (HP1.out _)) | (go_at_call_of 7 by_; exact Calls.quiet_of_same (HP2.out _)))
                have HZ0 := HG2.out nq
                have HZ1 : Hid (Rzn w gn (.slice a2 A.length c2) (.slice am B.length cm) bt by_ k_ A B i bz NM (wr.drewN nq)) := HZ0
                clear HZ0 HG2 HP1 HP2 hz1 hz2
                generalize wr.drewN nq = wq at HZ1 ⊢
                go_wp2_with fail
                refine (copyA_own _ A _ HZ1.out.nm.rq.arcs (by omega)).mono ?_
                rintro e x1 ⟨v1, rfl, r1, k1⟩
                have HZ2 : Hid (Rd encA 3 x1 v1 A ∧ Rzn w gn (.slice a2 A.length c2) (.slice am B.length cm) bt by_ k_ A B i bz NM x1) := ⟨r1, HZ1.out.step k1⟩
                clear r1 k1 HZ1
                go_wp2_with fail
                refine (reach_gen i _ _ A [fa] _ (HZ2.out.1.keep (Keep.alloc1 x1 _) (Off.nil _)) (by omega) (by omega) HRen.out.na (Rd.lit encI_len x1 (ofN [fa]) _ 3 rfl (by simp [ofN])) (fun x hx => by simp at hx; omega) (fun x hx => by simp [Value.ownBlock] at hx; subst hx; simp)).mono ?_
                rintro e x2 ⟨bO, cO, RO, rfl, rO, sO, kO⟩
                obtain ⟨nO, HNO⟩ : ∃ rn : Nat, Hid (rn = RO.length) := ⟨_, show _ = _ from rfl⟩
                rw [← HNO.out] at rO ⊢
                have HZ3 : Hid (Rzn w gn (.slice a2 A.length c2) (.slice am B.length cm) bt by_ k_ A B i bz NM x2 ∧ Rd encI 1 x2 (.slice bO nO cO) (ofN RO)) := ⟨HZ2.out.2.step ((Keep.alloc1 x1 _).trans' kO), rO⟩
                have HSO : Hid ((∀ x, x ∈ RO ↔ x < i ∧ ∃ k ∈ [fa], Rch (Ec A) k x) ∧ RO.Nodup) := sO
                clear rO sO kO HZ2
                go_wp2_with fail
                refine (copyA_own _ A _ HZ3.out.1.nm.rq.arcs (by omega)).mono ?_
                rintro e x3 ⟨v3, rfl, r3, k3⟩
                have HZ4 : Hid (Rd encA 3 x3 v3 A ∧ Rzn w gn (.slice a2 A.length c2) (.slice am B.length cm) bt by_ k_ A B i bz NM x3 ∧ Rd encI 1 x3 (.slice bO nO cO) (ofN RO)) := ⟨r3, HZ3.out.1.step k3, HZ3.out.2.keep k3 (Off.nil _)⟩
                clear r3 k3 HZ3
                go_wp2_with fail
                refine (reach_gen i _ _ A [bz] _ (HZ4.out.1.keep (Keep.alloc1 x3 _) (Off.nil _)) (by omega) (by omega) HRen.out.na (Rd.lit encI_len x3 (ofN [bz]) _ 3 rfl (by simp [ofN])) (fun x hx => by simp at hx; omega) (fun x hx => by simp [Value.ownBlock] at hx; subst hx; simp)).mono ?_
                rintro e x4 ⟨bT, cT, RT, rfl, rT, sT, kT⟩
                obtain ⟨nT, HNT⟩ : ∃ rn : Nat, Hid (rn = RT.length) := ⟨_, show _ = _ from rfl⟩
                rw [← HNT.out] at rT ⊢
                have HZ5 : Hid (Rzn w gn (.slice a2 A.length c2) (.slice am B.length cm) bt by_ k_ A B i bz NM x4 ∧ Rd encI 1 x4 (.slice bO nO cO) (ofN RO) ∧ Rd encI 1 x4 (.slice bT nT cT) (ofN RT)) := ⟨HZ4.out.2.1.step ((Keep.alloc1 x3 _).trans' kT), (HZ4.out.2.2.keep (Keep.alloc1 x3 _) (Off.nil _)).keep kT (Off.nil _), rT⟩
                have HST : Hid ((∀ x, x ∈ RT ↔ x < i ∧ ∃ k ∈ [bz], Rch (Ec A) k x) ∧ RT.Nodup) := sT
                clear rT sT kT HZ4
                go_wp2_with fail
                refine (copyA_own _ A _ HZ5.out.1.nm.rq.arcs (by omega)).mono ?_
                rintro e x5 ⟨v5, rfl, r5, k5⟩
                have HZ6 : Hid (Rd encA 3 x5 v5 A ∧ Rzn w gn (.slice a2 A.length c2) (.slice am B.length cm) bt by_ k_ A B i bz NM x5 ∧ Rd encI 1 x5 (.slice bO nO cO) (ofN RO) ∧ Rd encI 1 x5 (.slice bT nT cT) (ofN RT)) := ⟨r5, HZ5.out.1.step k5, HZ5.out.2.1.keep k5 (Off.nil _), HZ5.out.2.2.keep k5 (Off.nil _)⟩
                clear r5 k5 HZ5
                go_wp2_with fail
                refine (reach_gen i _ _ A [bz, fa, bz] _ (HZ6.out.1.keep (Keep.alloc1 x5 _) (Off.nil _)) (by omega) (by omega) HRen.out.na (Rd.lit encI_len x5 (ofN [bz, fa, bz]) _ 3 rfl (by simp [ofN])) (fun x hx => by simp at hx; omega) (fun x hx => by simp [Value.ownBlock] at hx; subst hx; simp)).mono ?_
                rintro e wz ⟨bB, cB, RB, rfl, rB, sB, kB⟩
                obtain ⟨nB, HNB⟩ : ∃ rn : Nat, Hid (rn = RB.length) := ⟨_, show _ = _ from rfl⟩
                rw [← HNB.out] at rB ⊢
                have HZ : Hid (Rzn w gn (.slice a2 A.length c2) (.slice am B.length cm) bt by_ k_ A B i bz NM wz) := HZ6.out.2.1.step ((Keep.alloc1 x5 _).trans' kB)
                have HLO : Hid (Rd encI 1 wz (.slice bO nO cO) (ofN RO)) := (HZ6.out.2.2.1.keep (Keep.alloc1 x5 _) (Off.nil _)).keep kB (Off.nil _)
                have HLT : Hid (Rd encI 1 wz (.slice bT nT cT) (ofN RT)) := (HZ6.out.2.2.2.keep (Keep.alloc1 x5 _) (Off.nil _)).keep kB (Off.nil _)
                have HLB : Hid (Rd encI 1 wz (.slice bB nB cB) (ofN RB)) := rB
                have HSB : Hid ((∀ x, x ∈ RB ↔ x < i ∧ ∃ k ∈ [bz, fa, bz], Rch (Ec A) k x) ∧ RB.Nodup) := sB
                clear rB sB kB HZ6
                obtain ⟨fn, HFN⟩ : ∃ fn : Nat, Hid (fn = nmN i bz fa) := ⟨_, show _ = _ from rfl⟩
                have hfn : fn < i := by rw [HFN.out]; exact nmN_lt hbz hfa
                have HS38 : Hid (∀ w', Keep [] wz w' → ((fun w' : World => w'.cell? ⟨gn, fa, none⟩ = some (.int .i64 (fn : Int)) ∧ Hid (Keep [] wz w'))) w') := fun w' k => ⟨k.cell' (by rw [HZ.out.nm.arr.cell 0 fa hfa, HZ.out.nm.is_ fa hfa, HFN.out]; rfl) (by simp), k⟩
                go_wp2
                refine wp_region_held_drew (S := (fun w' : World => w'.cell? ⟨gn, fa, none⟩ = some (.int .i64 (fn : Int)) ∧ Hid (Keep [] wz w'))) (by kernel_rfl) (HS38.out _ ((Keep.refl [] wz).drew)) (fun hHeld => ?_)
                try dsimp only at hHeld
                refine wpAnyH_take (i := 0) (oi := { dst := some 255, op := Go.Op.move (Go.Operand.tmp 0), type := 3, pos := "outright.go:203", after := #[], guard := none }) (v := ?_) rfl (by kernel_rfl) (by kernel_rfl) (by kernel_rfl) (fun _ _ _ h => h) (Or.inl ⟨by rfl, ?_⟩) (by assumption) ?_
                rotate_left
                · intro w7 hSw
                  try dsimp only at hSw
                  first | (go_simp; done) | (go_simp; with_reducible rfl)
                try simp only [Act.put, List.setIfInBounds_toArray, List.set_cons_zero, List.set_cons_succ]
                refine wpAnyH_take (i := 1) (oi := { dst := some 256, op := Go.Op.move (Go.Operand.tmp 10), type := 22, pos := "outright.go:203", after := #[], guard := none }) (v := ?_) rfl (by kernel_rfl) (by kernel_rfl) (by kernel_rfl) (fun _ _ _ h => h) (Or.inl ⟨by rfl, ?_⟩) (by assumption) ?_
                rotate_left
                · intro w7 hSw
                  try dsimp only at hSw
                  first | (go_simp; done) | (go_simp; with_reducible rfl)
                try simp only [Act.put, List.setIfInBounds_toArray, List.set_cons_zero, List.set_cons_succ]
                refine wpAnyH_take (i := 3) (oi := { dst := some 258, op := Go.Op.move (Go.Operand.tmp 8), type := 28, pos := "outright.go:203", after := #[], guard := none }) (v := ?_) rfl (by kernel_rfl) (by kernel_rfl) (by kernel_rfl) (fun _ _ _ h => h) (Or.inl ⟨by rfl, ?_⟩) (by assumption) ?_
                rotate_left
                · intro w7 hSw
                  try dsimp only at hSw
                  first | (go_simp; done) | (go_simp; with_reducible rfl)
                try simp only [Act.put, List.setIfInBounds_toArray, List.set_cons_zero, List.set_cons_succ]
                refine wpAnyH_take (i := 4) (oi := { dst := some 259, op := Go.Op.move (Go.Operand.tmp 23), type := 3, pos := "outright.go:203", after := #[], guard := none }) (v := ?_) rfl (by kernel_rfl) (by kernel_rfl) (by kernel_rfl) (fun _ _ _ h => h) (Or.inl ⟨by rfl, ?_⟩) (by assumption) ?_
                rotate_left
                · intro w7 hSw
                  try dsimp only at hSw
                  first | (go_simp; done) | (go_simp; with_reducible rfl)
                try simp only [Act.put, List.setIfInBounds_toArray, List.set_cons_zero, List.set_cons_succ]
                refine wpAnyH_take (i := 5) (oi := { dst := some 260, op := Go.Op.indexAddr 28 (Go.Operand.tmp 258) (Go.Operand.tmp 259), type := 0, pos := "outright.go:203", after := #[{ on := 3, ground := Go.Ground.data }, { on := 4, ground := Go.Ground.data }], guard := none }) (v := ?_) rfl (by kernel_rfl) (by kernel_rfl) (by kernel_rfl) (fun _ _ _ h => h) (Or.inl ⟨by rfl, ?_⟩) (by assumption) ?_
                rotate_left
                · intro w7 hSw
                  try dsimp only at hSw
                  first | (go_simp; done) | (go_simp; with_reducible rfl)
                try simp only [Act.put, List.setIfInBounds_toArray, List.set_cons_zero, List.set_cons_succ]
                refine wpAnyH_take (i := 6) (oi := { dst := some 261, op := Go.Op.load 3 (Go.Operand.tmp 260), type := 3, pos := "outright.go:203", after := #[{ on := 5, ground := Go.Ground.data }], guard := none }) (v := ?_) rfl (by kernel_rfl) (by kernel_rfl) (by kernel_rfl) (fun _ _ _ h => h) (Or.inl ⟨by rfl, ?_⟩) (by assumption) ?_
                rotate_left
                · intro w7 hSw
                  try dsimp only at hSw
                  first | (go_simp; done) | (go_simp; with_reducible rfl)
                try simp only [Act.put, List.setIfInBounds_toArray, List.set_cons_zero, List.set_cons_succ]
                refine wpAnyH_ready (rs := [2, 7]) (by kernel_rfl) (by simp) ?_
                refine AllReadyH.cons (o := { dst := some 257, op := Go.Op.call { callee := Go.Callee.value (Go.Operand.func 9), args := #[Go.Operand.tmp 256], argTypes := #[22] }, type := 22, pos := "outright.go:203", after := #[{ on := 1, ground := Go.Ground.data }], guard := none }) rfl (fun K hK => ?_) (AllReadyH.cons (o := { dst := some 262, op := Go.Op.buildSlice 28 1 #[(0, Go.Operand.tmp 261)], type := 28, pos := "outright.go:203", after := #[{ on := 6, ground := Go.Ground.data }], guard := none }) rfl (fun K hK => ?_) AllReadyH.nil)
                · skip
                  go_simp
                  (go_at_call 9; refine (copyA_own _ B _ (HZ.out.brd.keep hHeld.2.out (Off.nil _)) (by omega)).mono ?_; rintro e9 w9 ⟨v9, rfl, r9, k9⟩)
                  go_wp2_with fail
                  refine hK.out _ _ (HS38.out _ (hHeld.2.out.trans' k9)) (fun hHeld2 => ?_)
                  try dsimp only at hHeld2
                  clear hK hHeld
                  have hHeld := hHeld2
                  clear hHeld2
                  try simp only [Act.put, List.setIfInBounds_toArray, List.set_cons_zero, List.set_cons_succ]
                  refine wpAnyH_ready (rs := [7]) (by kernel_rfl) (by simp) ?_
                  refine AllReadyH.cons (o := { dst := some 262, op := Go.Op.buildSlice 28 1 #[(0, Go.Operand.tmp 261)], type := 28, pos := "outright.go:203", after := #[{ on := 6, ground := Go.Ground.data }], guard := none }) rfl (fun K hK => ?_) AllReadyH.nil
                  go_simp
                  refine hK.out _ _ (HS38.out _ (hHeld.2.out.alloc _)) (fun hHeld2 => ?_)
                  try dsimp only at hHeld2
                  clear hK hHeld
                  have hHeld := hHeld2
                  clear hHeld2
                  try simp only [Act.put, List.setIfInBounds_toArray, List.set_cons_zero, List.set_cons_succ]
                  refine wpAnyH_ready (rs := [8]) (by kernel_rfl) (by simp) ?_
                  refine AllReadyH.cons (o := { dst := some 263, op := Go.Op.call { callee := Go.Callee.value (Go.Operand.func 11), args := #[Go.Operand.tmp 255, Go.Operand.tmp 257, Go.Operand.tmp 262], argTypes := #[3, 22, 28] }, type := 33, pos := "outright.go:203", after := #[{ on := 0, ground := Go.Ground.data }, { on := 2, ground := Go.Ground.data }, { on := 7, ground := Go.Ground.data }, { on := 2, ground := Go.Ground.chain }], guard := none }) rfl (fun K hK => ?_) AllReadyH.nil
                  go_simp
                  (go_at_call 11; refine (reach_gen i _ _ B [fn] _ (r9.keep (Keep.alloc1 w9 _) (Off.nil _)) (by omega) (by omega) HRen.out.nb (Rd.lit encI_len w9 (ofN [fn]) _ 3 rfl (by simp [ofN])) (fun x hx => by simp at hx; omega) (fun x hx => by simp [Value.ownBlock] at hx; subst hx; simp)).mono ?_; rintro e11 w11 ⟨bH, cH, RH, rfl, rH, sH, k11⟩; have hw12 : ((fun w' : World => w'.cell? ⟨gn, fa, none⟩ = some (.int .i64 (fn : Int)) ∧ Hid (Keep [] wz w'))) w11 := HS38.out _ (hHeld.2.out.trans' k11); obtain ⟨nH, HNH⟩ : ∃ rn : Nat, Hid (rn = RH.length) := ⟨_, show _ = _ from rfl⟩; rw [← HNH.out] at rH ⊢)
                  go_wp2_with fail
                  refine hK.out _ _ (hw12) (fun hHeld2 => ?_)
                  try dsimp only at hHeld2
                  clear hK hHeld
                  have hHeld := hHeld2
                  clear hHeld2
                  try simp only [Act.put, List.setIfInBounds_toArray, List.set_cons_zero, List.set_cons_succ]
                  refine wpAnyH_take (i := 9) (oi := { dst := some 254, op := Go.Op.move (Go.Operand.tmp 263), type := 33, pos := "outright.go:203", after := #[{ on := 8, ground := Go.Ground.data }], guard := none }) (v := ?_) rfl (by kernel_rfl) (by kernel_rfl) (by kernel_rfl) (fun _ _ _ h => h) (Or.inl ⟨by rfl, ?_⟩) (by assumption) ?_
                  rotate_left
                  · intro w7 hSw
                    try dsimp only at hSw
                    first | (go_simp; done) | (go_simp; with_reducible rfl)
                  try simp only [Act.put, List.setIfInBounds_toArray, List.set_cons_zero, List.set_cons_succ]
                  refine wpAnyH_take (i := 10) (oi := { dst := some 264, op := Go.Op.extract (Go.Operand.tmp 254) 0, type := 28, pos := "outright.go:203", after := #[{ on := 9, ground := Go.Ground.data }], guard := none }) (v := ?_) rfl (by kernel_rfl) (by kernel_rfl) (by kernel_rfl) (fun _ _ _ h => h) (Or.inl ⟨by rfl, ?_⟩) (by assumption) ?_
                  rotate_left
                  · intro w7 hSw
                    try dsimp only at hSw
                    first | (go_simp; done) | (go_simp; with_reducible rfl)
                  try simp only [Act.put, List.setIfInBounds_toArray, List.set_cons_zero, List.set_cons_succ]
                  refine wpAnyH_take (i := 11) (oi := { dst := some 265, op := Go.Op.extract (Go.Operand.tmp 254) 1, type := 32, pos := "outright.go:203", after := #[{ on := 9, ground := Go.Ground.data }, { on := 12, ground := Go.Ground.gcOnly Go.Departure.lateStores }], guard := none }) (v := ?_) rfl (by kernel_rfl) (by kernel_rfl) (by kernel_rfl) (fun _ _ _ h => h) (Or.inl ⟨by rfl, ?_⟩) (by assumption) ?_
                  rotate_left
                  · intro w7 hSw
                    try dsimp only at hSw
                    first | (go_simp; done) | (go_simp; with_reducible rfl)
                  try simp only [Act.put, List.setIfInBounds_toArray, List.set_cons_zero, List.set_cons_succ]
                  refine wpAnyH_take (i := 12) (oi := { dst := some 31, op := Go.Op.assign (Go.Operand.tmp 264), type := 28, pos := "outright.go:203", after := #[{ on := 10, ground := Go.Ground.data }, { on := 8, ground := Go.Ground.chain }, { on := 0, ground := Go.Ground.phase }, { on := 1, ground := Go.Ground.phase }, { on := 2, ground := Go.Ground.phase }, { on := 3, ground := Go.Ground.phase }, { on := 4, ground := Go.Ground.phase }, { on := 5, ground := Go.Ground.phase }, { on := 6, ground := Go.Ground.phase }, { on := 7, ground := Go.Ground.phase }, { on := 8, ground := Go.Ground.phase }, { on := 9, ground := Go.Ground.phase }, { on := 10, ground := Go.Ground.phase }, { on := 11, ground := Go.Ground.textOnly Go.Departure.lateStores }], guard := none }) (v := ?_) rfl (by kernel_rfl) (by kernel_rfl) (by kernel_rfl) (fun _ _ _ h => h) (Or.inl ⟨by rfl, ?_⟩) (by assumption) ?_
                  rotate_left
                  · intro w7 hSw
                    try dsimp only at hSw
                    first | (go_simp; done) | (go_simp; with_reducible rfl)
                  try simp only [Act.put, List.setIfInBounds_toArray, List.set_cons_zero, List.set_cons_succ]
                  refine wpAnyH_take (i := 13) (oi := { dst := some 32, op := Go.Op.assign (Go.Operand.tmp 265), type := 32, pos := "outright.go:203", after := #[{ on := 11, ground := Go.Ground.data }, { on := 12, ground := Go.Ground.chain }, { on := 0, ground := Go.Ground.phase }, { on := 1, ground := Go.Ground.phase }, { on := 2, ground := Go.Ground.phase }, { on := 3, ground := Go.Ground.phase }, { on := 4, ground := Go.Ground.phase }, { on := 5, ground := Go.Ground.phase }, { on := 6, ground := Go.Ground.phase }, { on := 7, ground := Go.Ground.phase }, { on := 8, ground := Go.Ground.phase }, { on := 9, ground := Go.Ground.phase }, { on := 10, ground := Go.Ground.phase }, { on := 11, ground := Go.Ground.phase }, { on := 12, ground := Go.Ground.phase }], guard := none }) (v := ?_) rfl (by kernel_rfl) (by kernel_rfl) (by kernel_rfl) (fun _ _ _ h => h) (Or.inl ⟨by rfl, ?_⟩) (by assumption) ?_
                  rotate_left
                  · intro w7 hSw
                    try dsimp only at hSw
                    first | (go_simp; done) | (go_simp; with_reducible rfl)
                  try simp only [Act.put, List.setIfInBounds_toArray, List.set_cons_zero, List.set_cons_succ]
                  refine wpAnyH_done (by kernel_rfl) ?_ _
                  have HKZ : Hid (Keep [] wz w11) := hHeld.2
                  have HSH : Hid ((∀ x, x ∈ RH ↔ x < i ∧ ∃ k ∈ [fn], Rch (Ec B) k x) ∧ RH.Nodup) := sH
                  have HFin : Hid (Rzn w gn (.slice a2 A.length c2) (.slice am B.length cm) bt by_ k_ A B i bz NM w11 ∧ Rd encI 1 w11 (.slice bO nO cO) (ofN RO) ∧ Rd encI 1 w11 (.slice bT nT cT) (ofN RT) ∧ Rd encI 1 w11 (.slice bB nB cB) (ofN RB) ∧ Rd encI 1 w11 (.slice bH nH cH) (ofN RH)) := ⟨HZ.out.step HKZ.out, HLO.out.keep HKZ.out (Off.nil _), HLT.out.keep HKZ.out (Off.nil _), HLB.out.keep HKZ.out (Off.nil _), rH⟩
                  have hfn : fn = nmN i bz fa := HFN.out
                  subst hfn
                  clear hHeld hw12 k11 k9 r9 rH sH HKZ HS38 HZ HLO HLT HLB
                  have h38N : fa < i := hfa
                  go_wp2
                  go_loopw [33] (fun xv wr => ∃ x : Nat, xv = .int .i64 (x : Int) ∧ x ≤ i ∧ Hid (Rzn w gn (.slice a2 A.length c2) (.slice am B.length cm) bt by_ k_ A B i bz NM wr ∧ Rd encI 1 wr (.slice bO nO cO) (ofN RO) ∧ Rd encI 1 wr (.slice bT nT cT) (ofN RT) ∧ Rd encI 1 wr (.slice bB nB cB) (ofN RB) ∧ Rd encI 1 wr (.slice bH nH cH) (ofN RH))) (fun xv _ => i - (intOf xv).toNat)
                  case atStart => exact ⟨0, rfl, Nat.zero_le _, HFin⟩
                  case round =>
                    clear HFin
                    obtain ⟨x, rfl, hx, HG⟩ := hrel
                    by_cases hlt : x < i
                    · have hlti : (x : Int) < (i : Int) := by omega
                      have g0 : wr.cell? ⟨gn, x, none⟩ = some (.int .i64 (nmN i bz x : Int)) := by rw [HG.out.1.nm.arr.cell 0 x hlt, HG.out.1.nm.is_ x hlt]; rfl
                      have hnx : nmN i bz x < i := nmN_lt hbz hlt
                      have HH1 : Hid (∀ n, Calls Try.prog 12 #[.slice bB nB cB, .int .i64 (x : Int)] (wr.drewN n) fun e w' => e = .returned (.bool (decide ((x : Int) ∈ ofN RB))) ∧ w' = wr.drewN n) := fun n => has_any _ (ofN RB) x _ (HG.out.2.2.2.1.keep ((Keep.refl [] wr).drewN n) (Off.nil _))
                      have HH2 : Hid (∀ n, Calls Try.prog 12 #[.slice bO nO cO, .int .i64 (x : Int)] (wr.drewN n) fun e w' => e = .returned (.bool (decide ((x : Int) ∈ ofN RO))) ∧ w' = wr.drewN n) := fun n => has_any _ (ofN RO) x _ (HG.out.2.1.keep ((Keep.refl [] wr).drewN n) (Off.nil _))
                      have HH3 : Hid (∀ n, Calls Try.prog 12 #[.slice bT nT cT, .int .i64 (x : Int)] (wr.drewN n) fun e w' => e = .returned (.bool (decide ((x : Int) ∈ ofN RT))) ∧ w' = wr.drewN n) := fun n => has_any _ (ofN RT) x _ (HG.out.2.2.1.keep ((Keep.refl [] wr).drewN n) (Off.nil _))
                      have HH4 : Hid (∀ n, Calls Try.prog 12 #[.slice bH nH cH, .int .i64 (nmN i bz x : Int)] (wr.drewN n) fun e w' => e = .returned (.bool (decide ((nmN i bz x : Int) ∈ ofN RH))) ∧ w' = wr.drewN n) := fun n => has_any _ (ofN RH) _ _ (HG.out.2.2.2.2.keep ((Keep.refl [] wr).drewN n) (Off.nil _))
                      have HT1 : Hid (decide ((x : Int) ∈ ofN RB) = true ↔ (decide ((x : Int) ∈ ofN RO) = true ∨ decide ((x : Int) ∈ ofN RT) = true)) := by
                        show _ ↔ _
                        simp only [decide_eq_true_iff, mem_ofN, HSB.out.1 x, HSO.out.1 x, HST.out.1 x]
                        constructor
                        · rintro ⟨h1, k, hk, hr⟩
                          simp at hk
                          rcases hk with rfl | rfl | rfl
                          · exact .inr ⟨h1, _, by simp, hr⟩
                          · exact .inl ⟨h1, _, by simp, hr⟩
                          · exact .inr ⟨h1, _, by simp, hr⟩
                        · rintro (⟨h1, k, hk, hr⟩ | ⟨h1, k, hk, hr⟩)
                          · simp at hk; subst hk; exact ⟨h1, _, by simp, hr⟩
                          · simp at hk; subst hk; exact ⟨h1, _, by simp, hr⟩
                      have HT2 : Hid (decide ((x : Int) ∈ ofN RO) = true ↔ decide ((nmN i bz x : Int) ∈ ofN RH) = true) := by
                        show _ ↔ _
                        simp only [decide_eq_true_iff, mem_ofN, HSO.out.1 x, HSH.out.1 (nmN i bz x)]
                        constructor
                        · rintro ⟨h1, k, hk, hr⟩
                          simp at hk; subst hk
                          exact ⟨hnx, _, by simp, (HRen.out.rch_iff hfa hlt).2 hr⟩
                        · rintro ⟨h1, k, hk, hr⟩
                          simp at hk; subst hk
                          exact ⟨hlt, _, by simp, (HRen.out.rch_iff hfa hlt).1 hr⟩
                      generalize nmN i bz x = nx at g0 hnx HH4 HT2
                      generalize decide ((x : Int) ∈ ofN RB) = t1 at HH1 HT1
                      generalize decide ((x : Int) ∈ ofN RO) = t2 at HH2 HT1 HT2
                      generalize decide ((x : Int) ∈ ofN RT) = t3 at HH3 HT1
                      generalize decide ((nx : Int) ∈ ofN RH) = t4 at HH4 HT2
                      have hnxi : (nx : Int) < (i : Int) := by omega
                      cases t2 with
                      | true =>
                        obtain rfl : t1 = true := HT1.out.2 (.inl rfl)
                        obtain rfl : t4 = true := HT2.out.1 rfl
                        clear HT1 HT2
                        go_wp2
                        go_quiet (first | (go_at_call_of 12 bB; exact Calls.quiet_of_same (HH1.out _)) | (go_at_call_of 12 bO; exact Calls.quiet_of_same (HH2.out _)) | (go_at_call_of 12 bT; exact Calls.quiet_of_same (HH3.out _)) | (go_at_call_of 12 bH; exact Calls.quiet_of_same (HH4.out _)))
                        go_wp2
                        go_roundw
                        case rel => exact ⟨x + 1, by go_num, by omega, HG.out.1.step ((Keep.refl [] wr).drewN _), HG.out.2.1.keep ((Keep.refl [] wr).drewN _) (Off.nil _), HG.out.2.2.1.keep ((Keep.refl [] wr).drewN _) (Off.nil _), HG.out.2.2.2.1.keep ((Keep.refl [] wr).drewN _) (Off.nil _), HG.out.2.2.2.2.keep ((Keep.refl [] wr).drewN _) (Off.nil _)⟩
                        case measure => simp [intOf]; omega
                      | false =>
                        obtain rfl : t4 = false := by
                          cases t4
                          · rfl
                          · exact absurd (HT2.out.2 rfl) (by simp)
                        cases t3 with
                        | true =>
                          obtain rfl : t1 = true := HT1.out.2 (.inr rfl)
                          clear HT1 HT2
                          go_wp2
                          go_quiet (first | (go_at_call_of 12 bB; exact Calls.quiet_of_same (HH1.out _)) | (go_at_call_of 12 bO; exact Calls.quiet_of_same (HH2.out _)) | (go_at_call_of 12 bT; exact Calls.quiet_of_same (HH3.out _)) | (go_at_call_of 12 bH; exact Calls.quiet_of_same (HH4.out _)))
                          go_wp2
                          go_roundw
                          case rel => exact ⟨x + 1, by go_num, by omega, HG.out.1.step ((Keep.refl [] wr).drewN _), HG.out.2.1.keep ((Keep.refl [] wr).drewN _) (Off.nil _), HG.out.2.2.1.keep ((Keep.refl [] wr).drewN _) (Off.nil _), HG.out.2.2.2.1.keep ((Keep.refl [] wr).drewN _) (Off.nil _), HG.out.2.2.2.2.keep ((Keep.refl [] wr).drewN _) (Off.nil _)⟩
                          case measure => simp [intOf]; omega
                        | false =>
                          obtain rfl : t1 = false := by
                            cases t1
                            · rfl
                            · have := HT1.out.1 rfl; simp at this
                          clear HT1 HT2
                          go_wp2
                          go_quiet (first | (go_at_call_of 12 bB; exact Calls.quiet_of_same (HH1.out _)) | (go_at_call_of 12 bO; exact Calls.quiet_of_same (HH2.out _)) | (go_at_call_of 12 bT; exact Calls.quiet_of_same (HH3.out _)) | (go_at_call_of 12 bH; exact Calls.quiet_of_same (HH4.out _)))
                          go_wp2
                          go_roundw
                          case rel => exact ⟨x + 1, by go_num, by omega, HG.out.1.step ((Keep.refl [] wr).drewN _), HG.out.2.1.keep ((Keep.refl [] wr).drewN _) (Off.nil _), HG.out.2.2.1.keep ((Keep.refl [] wr).drewN _) (Off.nil _), HG.out.2.2.2.1.keep ((Keep.refl [] wr).drewN _) (Off.nil _), HG.out.2.2.2.2.keep ((Keep.refl [] wr).drewN _) (Off.nil _)⟩
                          case measure => simp [intOf]; omega
                    · have hlti : ¬ (x : Int) < (i : Int) := by omega
                      have hlen : nO = nH := by rw [HNO.out, HNH.out]; exact HRen.out.len hfa (fun y => by rw [HSO.out.1 y]; simp) (fun y => by rw [HSH.out.1 y]; simp) HSO.out.2 HSH.out.2
                      have hq : ((nO : Int) == (nH : Int)) = true := by simp [hlen]
                      have HE : Hid (Keep [] w wr) := HG.out.1.nm.rq.keep
                      clear HG hlen
                      go_wp2
                      go_ret
                      exact ⟨rfl, HE.out⟩
                · skip
                  go_simp
                  refine hK.out _ _ (HS38.out _ (hHeld.2.out.alloc _)) (fun hHeld2 => ?_)
                  try dsimp only at hHeld2
                  clear hK hHeld
                  have hHeld := hHeld2
                  clear hHeld2
                  try simp only [Act.put, List.setIfInBounds_toArray, List.set_cons_zero, List.set_cons_succ]
                  have hU : Hid (Rd encI 1 (wz.alloc (.cells #[.int .i64 (fn : Int)] 3)).drew (.slice (some ⟨wz.heap.size, 0, none⟩) 1 1) (ofN [fn]) ∧ wz.heap.size < (wz.alloc (.cells #[.int .i64 (fn : Int)] 3)).drew.heap.size) := ⟨(Rd.lit encI_len wz (ofN [fn]) _ 3 rfl (by simp [ofN])).keep ((Keep.refl [] _).drew) (Off.nil _), by show wz.heap.size < (wz.alloc (.cells #[.int .i64 (fn : Int)] 3)).heap.size; simp⟩
                  refine wpAnyH_ready (rs := [2]) (by kernel_rfl) (by simp) ?_
                  refine AllReadyH.cons (o := { dst := some 257, op := Go.Op.call { callee := Go.Callee.value (Go.Operand.func 9), args := #[Go.Operand.tmp 256], argTypes := #[22] }, type := 22, pos := "outright.go:203", after := #[{ on := 1, ground := Go.Ground.data }], guard := none }) rfl (fun K hK => ?_) AllReadyH.nil
                  go_simp
                  (go_at_call 9; refine (copyA_own _ B _ (HZ.out.brd.keep hHeld.2.out (Off.nil _)) (by omega)).mono ?_; rintro e9 w9 ⟨v9, rfl, r9, k9⟩)
                  go_wp2_with fail
                  refine hK.out _ _ (HS38.out _ (hHeld.2.out.trans' k9)) (fun hHeld2 => ?_)
                  try dsimp only at hHeld2
                  clear hK hHeld
                  have hHeld := hHeld2
                  clear hHeld2
                  try simp only [Act.put, List.setIfInBounds_toArray, List.set_cons_zero, List.set_cons_succ]
                  refine wpAnyH_ready (rs := [8]) (by kernel_rfl) (by simp) ?_
                  refine AllReadyH.cons (o := { dst := some 263, op := Go.Op.call { callee := Go.Callee.value (Go.Operand.func 11), args := #[Go.Operand.tmp 255, Go.Operand.tmp 257, Go.Operand.tmp 262], argTypes := #[3, 22, 28] }, type := 33, pos := "outright.go:203", after := #[{ on := 0, ground := Go.Ground.data }, { on := 2, ground := Go.Ground.data }, { on := 7, ground := Go.Ground.data }, { on := 2, ground := Go.Ground.chain }], guard := none }) rfl (fun K hK => ?_) AllReadyH.nil
                  go_simp
                  (go_at_call 11; refine (reach_gen i _ _ B [fn] _ r9 (by omega) (by omega) HRen.out.nb (hU.out.1.keep k9 (Off.nil _)) (fun x hx => by simp at hx; omega) (fun x hx => by simp [Value.ownBlock] at hx; subst hx; exact Nat.lt_of_lt_of_le hU.out.2 k9.size)).mono ?_; rintro e11 w11 ⟨bH, cH, RH, rfl, rH, sH, k11⟩; have hw12 : ((fun w' : World => w'.cell? ⟨gn, fa, none⟩ = some (.int .i64 (fn : Int)) ∧ Hid (Keep [] wz w'))) w11 := HS38.out _ (hHeld.2.out.trans' k11); obtain ⟨nH, HNH⟩ : ∃ rn : Nat, Hid (rn = RH.length) := ⟨_, show _ = _ from rfl⟩; rw [← HNH.out] at rH ⊢)
                  go_wp2_with fail
                  refine hK.out _ _ (hw12) (fun hHeld2 => ?_)
                  try dsimp only at hHeld2
                  clear hK hHeld
                  have hHeld := hHeld2
                  clear hHeld2
                  try simp only [Act.put, List.setIfInBounds_toArray, List.set_cons_zero, List.set_cons_succ]
                  refine wpAnyH_take (i := 9) (oi := { dst := some 254, op := Go.Op.move (Go.Operand.tmp 263), type := 33, pos := "outright.go:203", after := #[{ on := 8, ground := Go.Ground.data }], guard := none }) (v := ?_) rfl (by kernel_rfl) (by kernel_rfl) (by kernel_rfl) (fun _ _ _ h => h) (Or.inl ⟨by rfl, ?_⟩) (by assumption) ?_
                  rotate_left
                  · intro w7 hSw
                    try dsimp only at hSw
                    first | (go_simp; done) | (go_simp; with_reducible rfl)
                  try simp only [Act.put, List.setIfInBounds_toArray, List.set_cons_zero, List.set_cons_succ]
                  refine wpAnyH_take (i := 10) (oi := { dst := some 264, op := Go.Op.extract (Go.Operand.tmp 254) 0, type := 28, pos := "outright.go:203", after := #[{ on := 9, ground := Go.Ground.data }], guard := none }) (v := ?_) rfl (by kernel_rfl) (by kernel_rfl) (by kernel_rfl) (fun _ _ _ h => h) (Or.inl ⟨by rfl, ?_⟩) (by assumption) ?_
                  rotate_left
                  · intro w7 hSw
                    try dsimp only at hSw
                    first | (go_simp; done) | (go_simp; with_reducible rfl)
                  try simp only [Act.put, List.setIfInBounds_toArray, List.set_cons_zero, List.set_cons_succ]
                  refine wpAnyH_take (i := 11) (oi := { dst := some 265, op := Go.Op.extract (Go.Operand.tmp 254) 1, type := 32, pos := "outright.go:203", after := #[{ on := 9, ground := Go.Ground.data }, { on := 12, ground := Go.Ground.gcOnly Go.Departure.lateStores }], guard := none }) (v := ?_) rfl (by kernel_rfl) (by kernel_rfl) (by kernel_rfl) (fun _ _ _ h => h) (Or.inl ⟨by rfl, ?_⟩) (by assumption) ?_
                  rotate_left
                  · intro w7 hSw
                    try dsimp only at hSw
                    first | (go_simp; done) | (go_simp; with_reducible rfl)
                  try simp only [Act.put, List.setIfInBounds_toArray, List.set_cons_zero, List.set_cons_succ]
                  refine wpAnyH_take (i := 12) (oi := { dst := some 31, op := Go.Op.assign (Go.Operand.tmp 264), type := 28, pos := "outright.go:203", after := #[{ on := 10, ground := Go.Ground.data }, { on := 8, ground := Go.Ground.chain }, { on := 0, ground := Go.Ground.phase }, { on := 1, ground := Go.Ground.phase }, { on := 2, ground := Go.Ground.phase }, { on := 3, ground := Go.Ground.phase }, { on := 4, ground := Go.Ground.phase }, { on := 5, ground := Go.Ground.phase }, { on := 6, ground := Go.Ground.phase }, { on := 7, ground := Go.Ground.phase }, { on := 8, ground := Go.Ground.phase }, { on := 9, ground := Go.Ground.phase }, { on := 10, ground := Go.Ground.phase }, { on := 11, ground := Go.Ground.textOnly Go.Departure.lateStores }], guard := none }) (v := ?_) rfl (by kernel_rfl) (by kernel_rfl) (by kernel_rfl) (fun _ _ _ h => h) (Or.inl ⟨by rfl, ?_⟩) (by assumption) ?_
                  rotate_left
                  · intro w7 hSw
                    try dsimp only at hSw
                    first | (go_simp; done) | (go_simp; with_reducible rfl)
                  try simp only [Act.put, List.setIfInBounds_toArray, List.set_cons_zero, List.set_cons_succ]
                  refine wpAnyH_take (i := 13) (oi := { dst := some 32, op := Go.Op.assign (Go.Operand.tmp 265), type := 32, pos := "outright.go:203", after := #[{ on := 11, ground := Go.Ground.data }, { on := 12, ground := Go.Ground.chain }, { on := 0, ground := Go.Ground.phase }, { on := 1, ground := Go.Ground.phase }, { on := 2, ground := Go.Ground.phase }, { on := 3, ground := Go.Ground.phase }, { on := 4, ground := Go.Ground.phase }, { on := 5, ground := Go.Ground.phase }, { on := 6, ground := Go.Ground.phase }, { on := 7, ground := Go.Ground.phase }, { on := 8, ground := Go.Ground.phase }, { on := 9, ground := Go.Ground.phase }, { on := 10, ground := Go.Ground.phase }, { on := 11, ground := Go.Ground.phase }, { on := 12, ground := Go.Ground.phase }], guard := none }) (v := ?_) rfl (by kernel_rfl) (by kernel_rfl) (by kernel_rfl) (fun _ _ _ h => h) (Or.inl ⟨by rfl, ?_⟩) (by assumption) ?_
                  rotate_left
                  · intro w7 hSw
                    try dsimp only at hSw
                    first | (go_simp; done) | (go_simp; with_reducible rfl)
                  try simp only [Act.put, List.setIfInBounds_toArray, List.set_cons_zero, List.set_cons_succ]
                  refine wpAnyH_done (by kernel_rfl) ?_ _
                  have HKZ : Hid (Keep [] wz w11) := hHeld.2
                  have HSH : Hid ((∀ x, x ∈ RH ↔ x < i ∧ ∃ k ∈ [fn], Rch (Ec B) k x) ∧ RH.Nodup) := sH
                  have HFin : Hid (Rzn w gn (.slice a2 A.length c2) (.slice am B.length cm) bt by_ k_ A B i bz NM w11 ∧ Rd encI 1 w11 (.slice bO nO cO) (ofN RO) ∧ Rd encI 1 w11 (.slice bT nT cT) (ofN RT) ∧ Rd encI 1 w11 (.slice bB nB cB) (ofN RB) ∧ Rd encI 1 w11 (.slice bH nH cH) (ofN RH)) := ⟨HZ.out.step HKZ.out, HLO.out.keep HKZ.out (Off.nil _), HLT.out.keep HKZ.out (Off.nil _), HLB.out.keep HKZ.out (Off.nil _), rH⟩
                  have hfn : fn = nmN i bz fa := HFN.out
                  subst hfn
                  clear hHeld hw12 k11 k9 r9 rH sH HKZ HS38 HZ HLO HLT HLB
                  have h38N : fa < i := hfa
                  go_wp2
                  go_loopw [33] (fun xv wr => ∃ x : Nat, xv = .int .i64 (x : Int) ∧ x ≤ i ∧ Hid (Rzn w gn (.slice a2 A.length c2) (.slice am B.length cm) bt by_ k_ A B i bz NM wr ∧ Rd encI 1 wr (.slice bO nO cO) (ofN RO) ∧ Rd encI 1 wr (.slice bT nT cT) (ofN RT) ∧ Rd encI 1 wr (.slice bB nB cB) (ofN RB) ∧ Rd encI 1 wr (.slice bH nH cH) (ofN RH))) (fun xv _ => i - (intOf xv).toNat)
                  case atStart => exact ⟨0, rfl, Nat.zero_le _, HFin⟩
                  case round =>
                    clear HFin
                    obtain ⟨x, rfl, hx, HG⟩ := hrel
                    by_cases hlt : x < i
                    · have hlti : (x : Int) < (i : Int) := by omega
                      have g0 : wr.cell? ⟨gn, x, none⟩ = some (.int .i64 (nmN i bz x : Int)) := by rw [HG.out.1.nm.arr.cell 0 x hlt, HG.out.1.nm.is_ x hlt]; rfl
                      have hnx : nmN i bz x < i := nmN_lt hbz hlt
                      have HH1 : Hid (∀ n, Calls Try.prog 12 #[.slice bB nB cB, .int .i64 (x : Int)] (wr.drewN n) fun e w' => e = .returned (.bool (decide ((x : Int) ∈ ofN RB))) ∧ w' = wr.drewN n) := fun n => has_any _ (ofN RB) x _ (HG.out.2.2.2.1.keep ((Keep.refl [] wr).drewN n) (Off.nil _))
                      have HH2 : Hid (∀ n, Calls Try.prog 12 #[.slice bO nO cO, .int .i64 (x : Int)] (wr.drewN n) fun e w' => e = .returned (.bool (decide ((x : Int) ∈ ofN RO))) ∧ w' = wr.drewN n) := fun n => has_any _ (ofN RO) x _ (HG.out.2.1.keep ((Keep.refl [] wr).drewN n) (Off.nil _))
                      have HH3 : Hid (∀ n, Calls Try.prog 12 #[.slice bT nT cT, .int .i64 (x : Int)] (wr.drewN n) fun e w' => e = .returned (.bool (decide ((x : Int) ∈ ofN RT))) ∧ w' = wr.drewN n) := fun n => has_any _ (ofN RT) x _ (HG.out.2.2.1.keep ((Keep.refl [] wr).drewN n) (Off.nil _))
                      have HH4 : Hid (∀ n, Calls Try.prog 12 #[.slice bH nH cH, .int .i64 (nmN i bz x : Int)] (wr.drewN n) fun e w' => e = .returned (.bool (decide ((nmN i bz x : Int) ∈ ofN RH))) ∧ w' = wr.drewN n) := fun n => has_any _ (ofN RH) _ _ (HG.out.2.2.2.2.keep ((Keep.refl [] wr).drewN n) (Off.nil _))
                      have HT1 : Hid (decide ((x : Int) ∈ ofN RB) = true ↔ (decide ((x : Int) ∈ ofN RO) = true ∨ decide ((x : Int) ∈ ofN RT) = true)) := by
                        show _ ↔ _
                        simp only [decide_eq_true_iff, mem_ofN, HSB.out.1 x, HSO.out.1 x, HST.out.1 x]
                        constructor
                        · rintro ⟨h1, k, hk, hr⟩
                          simp at hk
                          rcases hk with rfl | rfl | rfl
                          · exact .inr ⟨h1, _, by simp, hr⟩
                          · exact .inl ⟨h1, _, by simp, hr⟩
                          · exact .inr ⟨h1, _, by simp, hr⟩
                        · rintro (⟨h1, k, hk, hr⟩ | ⟨h1, k, hk, hr⟩)
                          · simp at hk; subst hk; exact ⟨h1, _, by simp, hr⟩
                          · simp at hk; subst hk; exact ⟨h1, _, by simp, hr⟩
                      have HT2 : Hid (decide ((x : Int) ∈ ofN RO) = true ↔ decide ((nmN i bz x : Int) ∈ ofN RH) = true) := by
                        show _ ↔ _
                        simp only [decide_eq_true_iff, mem_ofN, HSO.out.1 x, HSH.out.1 (nmN i bz x)]
                        constructor
                        · rintro ⟨h1, k, hk, hr⟩
                          simp at hk; subst hk
                          exact ⟨hnx, _, by simp, (HRen.out.rch_iff hfa hlt).2 hr⟩
                        · rintro ⟨h1, k, hk, hr⟩
                          simp at hk; subst hk
                          exact ⟨hlt, _, by simp, (HRen.out.rch_iff hfa hlt).1 hr⟩
                      generalize nmN i bz x = nx at g0 hnx HH4 HT2
                      generalize decide ((x : Int) ∈ ofN RB) = t1 at HH1 HT1
                      generalize decide ((x : Int) ∈ ofN RO) = t2 at HH2 HT1 HT2
                      generalize decide ((x : Int) ∈ ofN RT) = t3 at HH3 HT1
                      generalize decide ((nx : Int) ∈ ofN RH) = t4 at HH4 HT2
                      have hnxi : (nx : Int) < (i : Int) := by omega
                      cases t2 with
                      | true =>
                        obtain rfl : t1 = true := HT1.out.2 (.inl rfl)
                        obtain rfl : t4 = true := HT2.out.1 rfl
                        clear HT1 HT2
                        go_wp2
                        go_quiet (first | (go_at_call_of 12 bB; exact Calls.quiet_of_same (HH1.out _)) | (go_at_call_of 12 bO; exact Calls.quiet_of_same (HH2.out _)) | (go_at_call_of 12 bT; exact Calls.quiet_of_same (HH3.out _)) | (go_at_call_of 12 bH; exact Calls.quiet_of_same (HH4.out _)))
                        go_wp2
                        go_roundw
                        case rel => exact ⟨x + 1, by go_num, by omega, HG.out.1.step ((Keep.refl [] wr).drewN _), HG.out.2.1.keep ((Keep.refl [] wr).drewN _) (Off.nil _), HG.out.2.2.1.keep ((Keep.refl [] wr).drewN _) (Off.nil _), HG.out.2.2.2.1.keep ((Keep.refl [] wr).drewN _) (Off.nil _), HG.out.2.2.2.2.keep ((Keep.refl [] wr).drewN _) (Off.nil _)⟩
                        case measure => simp [intOf]; omega
                      | false =>
                        obtain rfl : t4 = false := by
                          cases t4
                          · rfl
                          · exact absurd (HT2.out.2 rfl) (by simp)
                        cases t3 with
                        | true =>
                          obtain rfl : t1 = true := HT1.out.2 (.inr rfl)
                          clear HT1 HT2
                          go_wp2
                          go_quiet (first | (go_at_call_of 12 bB; exact Calls.quiet_of_same (HH1.out _)) | (go_at_call_of 12 bO; exact Calls.quiet_of_same (HH2.out _)) | (go_at_call_of 12 bT; exact Calls.quiet_of_same (HH3.out _)) | (go_at_call_of 12 bH; exact Calls.quiet_of_same (HH4.out _)))
                          go_wp2
                          go_roundw
                          case rel => exact ⟨x + 1, by go_num, by omega, HG.out.1.step ((Keep.refl [] wr).drewN _), HG.out.2.1.keep ((Keep.refl [] wr).drewN _) (Off.nil _), HG.out.2.2.1.keep ((Keep.refl [] wr).drewN _) (Off.nil _), HG.out.2.2.2.1.keep ((Keep.refl [] wr).drewN _) (Off.nil _), HG.out.2.2.2.2.keep ((Keep.refl [] wr).drewN _) (Off.nil _)⟩
                          case measure => simp [intOf]; omega
                        | false =>
                          obtain rfl : t1 = false := by
                            cases t1
                            · rfl
                            · have := HT1.out.1 rfl; simp at this
                          clear HT1 HT2
                          go_wp2
                          go_quiet (first | (go_at_call_of 12 bB; exact Calls.quiet_of_same (HH1.out _)) | (go_at_call_of 12 bO; exact Calls.quiet_of_same (HH2.out _)) | (go_at_call_of 12 bT; exact Calls.quiet_of_same (HH3.out _)) | (go_at_call_of 12 bH; exact Calls.quiet_of_same (HH4.out _)))
                          go_wp2
                          go_roundw
                          case rel => exact ⟨x + 1, by go_num, by omega, HG.out.1.step ((Keep.refl [] wr).drewN _), HG.out.2.1.keep ((Keep.refl [] wr).drewN _) (Off.nil _), HG.out.2.2.1.keep ((Keep.refl [] wr).drewN _) (Off.nil _), HG.out.2.2.2.1.keep ((Keep.refl [] wr).drewN _) (Off.nil _), HG.out.2.2.2.2.keep ((Keep.refl [] wr).drewN _) (Off.nil _)⟩
                          case measure => simp [intOf]; omega
                    · have hlti : ¬ (x : Int) < (i : Int) := by omega
                      have hlen : nO = nH := by rw [HNO.out, HNH.out]; exact HRen.out.len hfa (fun y => by rw [HSO.out.1 y]; simp) (fun y => by rw [HSH.out.1 y]; simp) HSO.out.2 HSH.out.2
                      have hq : ((nO : Int) == (nH : Int)) = true := by simp [hlen]
                      have HE : Hid (Keep [] w wr) := HG.out.1.nm.rq.keep
                      clear HG hlen
                      go_wp2
                      go_ret
                      exact ⟨rfl, HE.out⟩
          · have hjl : j < A.length := by omega
            have hjli : (j : Int) < (A.length : Int) := by omega
            have hj0 : (0 : Int) ≤ (j : Int) := by omega
            obtain ⟨b, o, c, he, hb, e0, e1, e2⟩ := HI.out.1.rq.arcs.arcA j hjl
            simp at he
            obtain ⟨rfl, rfl⟩ := he
            have hnd := HA.out.1 A[j] (List.getElem_mem hjl)
            obtain ⟨f, HF⟩ : ∃ f : Nat, Hid (f = A[j].f) := ⟨_, show _ = _ from rfl⟩
            obtain ⟨t, HT⟩ : ∃ t : Nat, Hid (t = A[j].t) := ⟨_, show _ = _ from rfl⟩
            obtain ⟨gg, HGG⟩ : ∃ gg : Bool, Hid (gg = A[j].g) := ⟨_, show _ = _ from rfl⟩
            rw [← HF.out] at e0
            rw [← HT.out] at e1
            rw [← HGG.out] at e2
            rw [← HF.out, ← HT.out] at hnd
            have hfi : (f : Int) < (i : Int) := by omega
            have hti : (t : Int) < (i : Int) := by omega
            obtain ⟨f2, HF2⟩ : ∃ f2 : Nat, Hid (f2 = nmN i bz f) := ⟨_, show _ = _ from rfl⟩
            obtain ⟨t2, HT2⟩ : ∃ t2 : Nat, Hid (t2 = nmN i bz t) := ⟨_, show _ = _ from rfl⟩
            have g0 : wr.cell? ⟨gn, f, none⟩ = some (.int .i64 (f2 : Int)) := by rw [HI.out.1.arr.cell 0 f hnd.1, HI.out.1.is_ f hnd.1, HF2.out]; rfl
            have g1 : wr.cell? ⟨gn, t, none⟩ = some (.int .i64 (t2 : Int)) := by rw [HI.out.1.arr.cell 0 t hnd.2, HI.out.1.is_ t hnd.2, HT2.out]; rfl
            have HS8 : Hid (∀ w', Keep [] wr w' → (fun w' : World => w'.cell? ⟨b, o + j * 3, none⟩ = some (.int .i64 (f : Int)) ∧ w'.cell? ⟨b, o + j * 3 + 1, none⟩ = some (.int .i64 (t : Int)) ∧ w'.cell? ⟨b, o + j * 3 + 2, none⟩ = some (.bool gg) ∧ w'.cell? ⟨gn, f, none⟩ = some (.int .i64 (f2 : Int)) ∧ w'.cell? ⟨gn, t, none⟩ = some (.int .i64 (t2 : Int))) w') := fun w' k => ⟨k.cell' e0 (by simp), k.cell' e1 (by simp), k.cell' e2 (by simp), k.cell' g0 (by simp), k.cell' g1 (by simp)⟩
            have hsub : (((j + 1 : Nat) : Int) - 1) = (j : Int) := by omega
            have HDr : Hid (twiceL (nmN i bz) (A.drop j).reverse = twiceL (nmN i bz) (A.drop (j + 1)).reverse ++ [⟨f2, t2, gg⟩] ++ [⟨f2, t2, gg⟩]) := by
              show _ = _
              rw [List.drop_eq_getElem_cons hjl, List.reverse_cons]
              unfold twiceL
              rw [List.flatMap_append, HF2.out, HT2.out, HF.out, HT.out, HGG.out]
              simp
            clear e0 e1 e2 g0 g1 hb
            rw [hsub]
            go_wp2
            refine wp_region_tail 23 (S := fun w' : World => w'.cell? ⟨b, o + j * 3, none⟩ = some (.int .i64 (f : Int)) ∧ w'.cell? ⟨b, o + j * 3 + 1, none⟩ = some (.int .i64 (t : Int)) ∧ w'.cell? ⟨b, o + j * 3 + 2, none⟩ = some (.bool gg) ∧ w'.cell? ⟨gn, f, none⟩ = some (.int .i64 (f2 : Int)) ∧ w'.cell? ⟨gn, t, none⟩ = some (.int .i64 (t2 : Int))) (by kernel_rfl) (HS8.out _ ((Keep.refl [] wr).drew)) (fun hHeld => ?_)
            try dsimp only at hHeld
            refine AnyT.take (i := 0) (oi := { dst := some 72, op := Go.Op.move (Go.Operand.tmp 8), type := 28, pos := "outright.go:178", after := #[], guard := none }) (v := ?_) rfl (by kernel_rfl) (by kernel_rfl) (by kernel_rfl) (by kernel_rfl) (fun _ _ _ h => h) (Or.inl ⟨by rfl, ?_⟩) (by assumption) ?_
            rotate_left
            · intro w7 hSw
              try dsimp only at hSw
              first | (go_simp; done) | (go_simp; with_reducible rfl)
            try simp only [Act.put, List.setIfInBounds_toArray, List.set_cons_zero, List.set_cons_succ]
            refine AnyT.take (i := 1) (oi := { dst := some 73, op := Go.Op.move (Go.Operand.tmp 7), type := 22, pos := "outright.go:178", after := #[], guard := none }) (v := ?_) rfl (by kernel_rfl) (by kernel_rfl) (by kernel_rfl) (by kernel_rfl) (fun _ _ _ h => h) (Or.inl ⟨by rfl, ?_⟩) (by assumption) ?_
            rotate_left
            · intro w7 hSw
              try dsimp only at hSw
              first | (go_simp; done) | (go_simp; with_reducible rfl)
            try simp only [Act.put, List.setIfInBounds_toArray, List.set_cons_zero, List.set_cons_succ]
            refine AnyT.take (i := 2) (oi := { dst := some 74, op := Go.Op.move (Go.Operand.tmp 11), type := 3, pos := "outright.go:178", after := #[], guard := none }) (v := ?_) rfl (by kernel_rfl) (by kernel_rfl) (by kernel_rfl) (by kernel_rfl) (fun _ _ _ h => h) (Or.inl ⟨by rfl, ?_⟩) (by assumption) ?_
            rotate_left
            · intro w7 hSw
              try dsimp only at hSw
              first | (go_simp; done) | (go_simp; with_reducible rfl)
            try simp only [Act.put, List.setIfInBounds_toArray, List.set_cons_zero, List.set_cons_succ]
            refine AnyT.take (i := 3) (oi := { dst := some 75, op := Go.Op.indexAddr 22 (Go.Operand.tmp 73) (Go.Operand.tmp 74), type := 0, pos := "outright.go:178", after := #[{ on := 1, ground := Go.Ground.data }, { on := 2, ground := Go.Ground.data }], guard := none }) (v := ?_) rfl (by kernel_rfl) (by kernel_rfl) (by kernel_rfl) (by kernel_rfl) (fun _ _ _ h => h) (Or.inl ⟨by rfl, ?_⟩) (by assumption) ?_
            rotate_left
            · intro w7 hSw
              try dsimp only at hSw
              first | (go_simp; done) | (go_simp; with_reducible rfl)
            try simp only [Act.put, List.setIfInBounds_toArray, List.set_cons_zero, List.set_cons_succ]
            refine AnyT.take (i := 4) (oi := { dst := some 76, op := Go.Op.fieldAddr 31 (Go.Operand.tmp 75) 0, type := 0, pos := "outright.go:178", after := #[{ on := 3, ground := Go.Ground.data }], guard := none }) (v := ?_) rfl (by kernel_rfl) (by kernel_rfl) (by kernel_rfl) (by kernel_rfl) (fun _ _ _ h => h) (Or.inl ⟨by rfl, ?_⟩) (by assumption) ?_
            rotate_left
            · intro w7 hSw
              try dsimp only at hSw
              first | (go_simp; done) | (go_simp; with_reducible rfl)
            try simp only [Act.put, List.setIfInBounds_toArray, List.set_cons_zero, List.set_cons_succ]
            refine AnyT.take (i := 5) (oi := { dst := some 77, op := Go.Op.load 3 (Go.Operand.tmp 76), type := 3, pos := "outright.go:178", after := #[{ on := 4, ground := Go.Ground.data }], guard := none }) (v := ?_) rfl (by kernel_rfl) (by kernel_rfl) (by kernel_rfl) (by kernel_rfl) (fun _ _ _ h => h) (Or.inl ⟨by rfl, ?_⟩) (by assumption) ?_
            rotate_left
            · intro w7 hSw
              try dsimp only at hSw
              first | (go_simp; done) | (go_simp; with_reducible rfl)
            try simp only [Act.put, List.setIfInBounds_toArray, List.set_cons_zero, List.set_cons_succ]
            refine AnyT.take (i := 6) (oi := { dst := some 78, op := Go.Op.indexAddr 28 (Go.Operand.tmp 72) (Go.Operand.tmp 77), type := 0, pos := "outright.go:178", after := #[{ on := 0, ground := Go.Ground.data }, { on := 5, ground := Go.Ground.data }], guard := none }) (v := ?_) rfl (by kernel_rfl) (by kernel_rfl) (by kernel_rfl) (by kernel_rfl) (fun _ _ _ h => h) (Or.inl ⟨by rfl, ?_⟩) (by assumption) ?_
            rotate_left
            · intro w7 hSw
              try dsimp only at hSw
              first | (go_simp; done) | (go_simp; with_reducible rfl)
            try simp only [Act.put, List.setIfInBounds_toArray, List.set_cons_zero, List.set_cons_succ]
            refine AnyT.take (i := 7) (oi := { dst := some 79, op := Go.Op.load 3 (Go.Operand.tmp 78), type := 3, pos := "outright.go:178", after := #[{ on := 6, ground := Go.Ground.data }], guard := none }) (v := ?_) rfl (by kernel_rfl) (by kernel_rfl) (by kernel_rfl) (by kernel_rfl) (fun _ _ _ h => h) (Or.inl ⟨by rfl, ?_⟩) (by assumption) ?_
            rotate_left
            · intro w7 hSw
              try dsimp only at hSw
              first | (go_simp; done) | (go_simp; with_reducible rfl)
            try simp only [Act.put, List.setIfInBounds_toArray, List.set_cons_zero, List.set_cons_succ]
            refine AnyT.take (i := 8) (oi := { dst := some 80, op := Go.Op.move (Go.Operand.tmp 8), type := 28, pos := "outright.go:178", after := #[], guard := none }) (v := ?_) rfl (by kernel_rfl) (by kernel_rfl) (by kernel_rfl) (by kernel_rfl) (fun _ _ _ h => h) (Or.inl ⟨by rfl, ?_⟩) (by assumption) ?_
            rotate_left
            · intro w7 hSw
              try dsimp only at hSw
              first | (go_simp; done) | (go_simp; with_reducible rfl)
            try simp only [Act.put, List.setIfInBounds_toArray, List.set_cons_zero, List.set_cons_succ]
            refine AnyT.take (i := 9) (oi := { dst := some 81, op := Go.Op.move (Go.Operand.tmp 7), type := 22, pos := "outright.go:178", after := #[], guard := none }) (v := ?_) rfl (by kernel_rfl) (by kernel_rfl) (by kernel_rfl) (by kernel_rfl) (fun _ _ _ h => h) (Or.inl ⟨by rfl, ?_⟩) (by assumption) ?_
            rotate_left
            · intro w7 hSw
              try dsimp only at hSw
              first | (go_simp; done) | (go_simp; with_reducible rfl)
            try simp only [Act.put, List.setIfInBounds_toArray, List.set_cons_zero, List.set_cons_succ]
            refine AnyT.take (i := 10) (oi := { dst := some 82, op := Go.Op.move (Go.Operand.tmp 11), type := 3, pos := "outright.go:178", after := #[], guard := none }) (v := ?_) rfl (by kernel_rfl) (by kernel_rfl) (by kernel_rfl) (by kernel_rfl) (fun _ _ _ h => h) (Or.inl ⟨by rfl, ?_⟩) (by assumption) ?_
            rotate_left
            · intro w7 hSw
              try dsimp only at hSw
              first | (go_simp; done) | (go_simp; with_reducible rfl)
            try simp only [Act.put, List.setIfInBounds_toArray, List.set_cons_zero, List.set_cons_succ]
            refine AnyT.take (i := 11) (oi := { dst := some 83, op := Go.Op.indexAddr 22 (Go.Operand.tmp 81) (Go.Operand.tmp 82), type := 0, pos := "outright.go:178", after := #[{ on := 9, ground := Go.Ground.data }, { on := 10, ground := Go.Ground.data }], guard := none }) (v := ?_) rfl (by kernel_rfl) (by kernel_rfl) (by kernel_rfl) (by kernel_rfl) (fun _ _ _ h => h) (Or.inl ⟨by rfl, ?_⟩) (by assumption) ?_
            rotate_left
            · intro w7 hSw
              try dsimp only at hSw
              first | (go_simp; done) | (go_simp; with_reducible rfl)
            try simp only [Act.put, List.setIfInBounds_toArray, List.set_cons_zero, List.set_cons_succ]
            refine AnyT.take (i := 12) (oi := { dst := some 84, op := Go.Op.fieldAddr 31 (Go.Operand.tmp 83) 1, type := 0, pos := "outright.go:178", after := #[{ on := 11, ground := Go.Ground.data }], guard := none }) (v := ?_) rfl (by kernel_rfl) (by kernel_rfl) (by kernel_rfl) (by kernel_rfl) (fun _ _ _ h => h) (Or.inl ⟨by rfl, ?_⟩) (by assumption) ?_
            rotate_left
            · intro w7 hSw
              try dsimp only at hSw
              first | (go_simp; done) | (go_simp; with_reducible rfl)
            try simp only [Act.put, List.setIfInBounds_toArray, List.set_cons_zero, List.set_cons_succ]
            refine AnyT.take (i := 13) (oi := { dst := some 85, op := Go.Op.load 3 (Go.Operand.tmp 84), type := 3, pos := "outright.go:178", after := #[{ on := 12, ground := Go.Ground.data }], guard := none }) (v := ?_) rfl (by kernel_rfl) (by kernel_rfl) (by kernel_rfl) (by kernel_rfl) (fun _ _ _ h => h) (Or.inl ⟨by rfl, ?_⟩) (by assumption) ?_
            rotate_left
            · intro w7 hSw
              try dsimp only at hSw
              first | (go_simp; done) | (go_simp; with_reducible rfl)
            try simp only [Act.put, List.setIfInBounds_toArray, List.set_cons_zero, List.set_cons_succ]
            refine AnyT.take (i := 14) (oi := { dst := some 86, op := Go.Op.indexAddr 28 (Go.Operand.tmp 80) (Go.Operand.tmp 85), type := 0, pos := "outright.go:178", after := #[{ on := 8, ground := Go.Ground.data }, { on := 13, ground := Go.Ground.data }], guard := none }) (v := ?_) rfl (by kernel_rfl) (by kernel_rfl) (by kernel_rfl) (by kernel_rfl) (fun _ _ _ h => h) (Or.inl ⟨by rfl, ?_⟩) (by assumption) ?_
            rotate_left
            · intro w7 hSw
              try dsimp only at hSw
              first | (go_simp; done) | (go_simp; with_reducible rfl)
            try simp only [Act.put, List.setIfInBounds_toArray, List.set_cons_zero, List.set_cons_succ]
            refine AnyT.take (i := 15) (oi := { dst := some 87, op := Go.Op.load 3 (Go.Operand.tmp 86), type := 3, pos := "outright.go:178", after := #[{ on := 14, ground := Go.Ground.data }], guard := none }) (v := ?_) rfl (by kernel_rfl) (by kernel_rfl) (by kernel_rfl) (by kernel_rfl) (fun _ _ _ h => h) (Or.inl ⟨by rfl, ?_⟩) (by assumption) ?_
            rotate_left
            · intro w7 hSw
              try dsimp only at hSw
              first | (go_simp; done) | (go_simp; with_reducible rfl)
            try simp only [Act.put, List.setIfInBounds_toArray, List.set_cons_zero, List.set_cons_succ]
            refine AnyT.take (i := 16) (oi := { dst := some 88, op := Go.Op.move (Go.Operand.tmp 7), type := 22, pos := "outright.go:178", after := #[], guard := none }) (v := ?_) rfl (by kernel_rfl) (by kernel_rfl) (by kernel_rfl) (by kernel_rfl) (fun _ _ _ h => h) (Or.inl ⟨by rfl, ?_⟩) (by assumption) ?_
            rotate_left
            · intro w7 hSw
              try dsimp only at hSw
              first | (go_simp; done) | (go_simp; with_reducible rfl)
            try simp only [Act.put, List.setIfInBounds_toArray, List.set_cons_zero, List.set_cons_succ]
            refine AnyT.take (i := 17) (oi := { dst := some 89, op := Go.Op.move (Go.Operand.tmp 11), type := 3, pos := "outright.go:178", after := #[], guard := none }) (v := ?_) rfl (by kernel_rfl) (by kernel_rfl) (by kernel_rfl) (by kernel_rfl) (fun _ _ _ h => h) (Or.inl ⟨by rfl, ?_⟩) (by assumption) ?_
            rotate_left
            · intro w7 hSw
              try dsimp only at hSw
              first | (go_simp; done) | (go_simp; with_reducible rfl)
            try simp only [Act.put, List.setIfInBounds_toArray, List.set_cons_zero, List.set_cons_succ]
            refine AnyT.take (i := 18) (oi := { dst := some 90, op := Go.Op.indexAddr 22 (Go.Operand.tmp 88) (Go.Operand.tmp 89), type := 0, pos := "outright.go:178", after := #[{ on := 16, ground := Go.Ground.data }, { on := 17, ground := Go.Ground.data }], guard := none }) (v := ?_) rfl (by kernel_rfl) (by kernel_rfl) (by kernel_rfl) (by kernel_rfl) (fun _ _ _ h => h) (Or.inl ⟨by rfl, ?_⟩) (by assumption) ?_
            rotate_left
            · intro w7 hSw
              try dsimp only at hSw
              first | (go_simp; done) | (go_simp; with_reducible rfl)
            try simp only [Act.put, List.setIfInBounds_toArray, List.set_cons_zero, List.set_cons_succ]
            refine AnyT.take (i := 19) (oi := { dst := some 91, op := Go.Op.fieldAddr 31 (Go.Operand.tmp 90) 2, type := 0, pos := "outright.go:178", after := #[{ on := 18, ground := Go.Ground.data }], guard := none }) (v := ?_) rfl (by kernel_rfl) (by kernel_rfl) (by kernel_rfl) (by kernel_rfl) (fun _ _ _ h => h) (Or.inl ⟨by rfl, ?_⟩) (by assumption) ?_
            rotate_left
            · intro w7 hSw
              try dsimp only at hSw
              first | (go_simp; done) | (go_simp; with_reducible rfl)
            try simp only [Act.put, List.setIfInBounds_toArray, List.set_cons_zero, List.set_cons_succ]
            refine AnyT.take (i := 20) (oi := { dst := some 92, op := Go.Op.load 4 (Go.Operand.tmp 91), type := 4, pos := "outright.go:178", after := #[{ on := 19, ground := Go.Ground.data }], guard := none }) (v := ?_) rfl (by kernel_rfl) (by kernel_rfl) (by kernel_rfl) (by kernel_rfl) (fun _ _ _ h => h) (Or.inl ⟨by rfl, ?_⟩) (by assumption) ?_
            rotate_left
            · intro w7 hSw
              try dsimp only at hSw
              first | (go_simp; done) | (go_simp; with_reducible rfl)
            try simp only [Act.put, List.setIfInBounds_toArray, List.set_cons_zero, List.set_cons_succ]
            refine AnyT.take (i := 21) (oi := { dst := some 93, op := Go.Op.build 31 #[(0, Go.Operand.tmp 79), (1, Go.Operand.tmp 87), (2, Go.Operand.tmp 92)], type := 31, pos := "outright.go:178", after := #[{ on := 7, ground := Go.Ground.data }, { on := 15, ground := Go.Ground.data }, { on := 20, ground := Go.Ground.data }], guard := none }) (v := ?_) rfl (by kernel_rfl) (by kernel_rfl) (by kernel_rfl) (by kernel_rfl) (fun _ _ _ h => h) (Or.inl ⟨by rfl, ?_⟩) (by assumption) ?_
            rotate_left
            · intro w7 hSw
              try dsimp only at hSw
              first | (go_simp; done) | (go_simp; with_reducible rfl)
            try simp only [Act.put, List.setIfInBounds_toArray, List.set_cons_zero, List.set_cons_succ]
            refine AnyT.one (i := 22) (o := { dst := some 12, op := Go.Op.alloc 31, type := 0, pos := "outright.go:178", after := #[], guard := none }) (by kernel_rfl) rfl (fun K hK => ?_)
            go_simp
            refine hK.out _ _ (fun _ => HS8.out _ (((Keep.refl [] wr).drew).alloc _)) (fun hHeld2 => ?_)
            clear hK hHeld hHeld2
            try simp only [Act.put, List.setIfInBounds_toArray, List.set_cons_zero, List.set_cons_succ]
            refine AnyT.one (i := 23) (o := { dst := none, op := Go.Op.store 31 (Go.Operand.tmp 12) (Go.Operand.tmp 93), type := 0, pos := "outright.go:178", after := #[{ on := 22, ground := Go.Ground.data }, { on := 21, ground := Go.Ground.data }, { on := 0, ground := Go.Ground.phase }, { on := 1, ground := Go.Ground.phase }, { on := 2, ground := Go.Ground.phase }, { on := 3, ground := Go.Ground.phase }, { on := 4, ground := Go.Ground.phase }, { on := 5, ground := Go.Ground.phase }, { on := 6, ground := Go.Ground.phase }, { on := 7, ground := Go.Ground.phase }, { on := 8, ground := Go.Ground.phase }, { on := 9, ground := Go.Ground.phase }, { on := 10, ground := Go.Ground.phase }, { on := 11, ground := Go.Ground.phase }, { on := 12, ground := Go.Ground.phase }, { on := 13, ground := Go.Ground.phase }, { on := 14, ground := Go.Ground.phase }, { on := 15, ground := Go.Ground.phase }, { on := 16, ground := Go.Ground.phase }, { on := 17, ground := Go.Ground.phase }, { on := 18, ground := Go.Ground.phase }, { on := 19, ground := Go.Ground.phase }, { on := 20, ground := Go.Ground.phase }, { on := 21, ground := Go.Ground.phase }, { on := 22, ground := Go.Ground.phase }], guard := none }) (by kernel_rfl) rfl (fun K hK => ?_)
            go_simp
            refine hK.out _ _ (fun h => absurd rfl h) (fun _ => ?_)
            clear hK
            try simp only [Act.put, List.setIfInBounds_toArray, List.set_cons_zero, List.set_cons_succ]
            refine AnyT.done (by kernel_rfl) ?_ _
            have HW5 : Hid ((wr.alloc (.cells #[.int .i64 (f2 : Int), .int .i64 (t2 : Int), .bool gg] 31)).drew.cell? ⟨wr.heap.size, 0, none⟩ = some (.int .i64 (f2 : Int)) ∧ (wr.alloc (.cells #[.int .i64 (f2 : Int), .int .i64 (t2 : Int), .bool gg] 31)).drew.cell? ⟨wr.heap.size, 1, none⟩ = some (.int .i64 (t2 : Int)) ∧ (wr.alloc (.cells #[.int .i64 (f2 : Int), .int .i64 (t2 : Int), .bool gg] 31)).drew.cell? ⟨wr.heap.size, 2, none⟩ = some (.bool gg) ∧ Keep [] wr (wr.alloc (.cells #[.int .i64 (f2 : Int), .int .i64 (t2 : Int), .bool gg] 31)).drew) := by
              have hb := heap_alloc_new wr (.cells #[.int .i64 (f2 : Int), .int .i64 (t2 : Int), .bool gg] 31)
              refine ⟨?_, ?_, ?_, (Keep.alloc1 wr _).drew⟩
              · show (wr.alloc (.cells #[.int .i64 (f2 : Int), .int .i64 (t2 : Int), .bool gg] 31)).cell? _ = _
                simp only [World.cell?, hb]; rfl
              · show (wr.alloc (.cells #[.int .i64 (f2 : Int), .int .i64 (t2 : Int), .bool gg] 31)).cell? _ = _
                simp only [World.cell?, hb]; rfl
              · show (wr.alloc (.cells #[.int .i64 (f2 : Int), .int .i64 (t2 : Int), .bool gg] 31)).cell? _ = _
                simp only [World.cell?, hb]; rfl
            generalize (wr.alloc (.cells #[.int .i64 (f2 : Int), .int .i64 (t2 : Int), .bool gg] 31)).drew = w5 at HW5 ⊢
            obtain ⟨bx, HBX⟩ : ∃ bx : Nat, Hid (bx = wr.heap.size) := ⟨_, show _ = _ from rfl⟩
            rw [← HBX.out] at HW5 ⊢
            obtain ⟨L0, HL0⟩ : ∃ L0, Hid (L0 = twiceL (nmN i bz) (A.drop (j + 1)).reverse) := ⟨_, show _ = _ from rfl⟩
            rw [← HL0.out] at HI HDr
            have hl0 : L0.length ≤ 800 := by
              rw [HL0.out]
              have : ∀ l : List Ar, (twiceL (nmN i bz) l).length = 2 * l.length := fun l => by
                unfold twiceL
                induction l with
                | nil => rfl
                | cons a l ih => rw [List.flatMap_cons, List.length_append, ih]; simp; omega
              rw [this, List.length_reverse, List.length_drop]
              omega
            have h50 := HW5.out.1
            have h51 := HW5.out.2.1
            have h52 := HW5.out.2.2.1
            have hal : Hid ((L0.length + 1) * 24 ≤ 140737488355328 ∧ L0.length + 1 ≤ maxLen) := ⟨by omega, by unfold maxLen; omega⟩
            have hal2 : Hid ((L0.length + 1 + 1) * 24 ≤ 140737488355328 ∧ L0.length + 1 + 1 ≤ maxLen) := ⟨by omega, by unfold maxLen; omega⟩
            have HSr : Hid _ := src_az w5 ⟨(f2 : Int), (t2 : Int), gg⟩
            have HR : Hid (RowC (w5.alloc (.cells #[.int .i64 (f2 : Int), .int .i64 (t2 : Int), .bool gg] 31 (0, 0))) 31 3 u10 L0.length (L0.flatMap encA)) := RowC.keep (RowC.keep HI.out.2.1 HW5.out.2.2.2 (Off.nil _)) (Keep.alloc1 w5 _) (Off.nil _)
            have HO : Hid (∀ x, u10.ownBlock = some x → gn < x ∧ x < bx) := fun x hx => ⟨HI.out.2.2 x hx, by rw [HBX.out]; exact HI.out.2.1.lt x hx⟩
            have HN5 : Hid (Nmn w gn (.slice (some ⟨b, o, none⟩) A.length c2) bt by_ k_ A i bz i NM w5 ∧ bx < w5.heap.size ∧ gn < bx) := ⟨HI.out.1.step HW5.out.2.2.2, World.block_lt_of_cell? _ _ h50, by rw [HBX.out]; exact HI.out.1.arr.lt⟩
            clear HW5 HI HS8 HF HT HGG HF2 HT2 hnd
            go_wp2_with (at_builtin; refine wp_appC infoA rfl rfl (.tmp 94) (.tmp 96) 22 22 rfl Try.underlying22 u10 L0.length (L0.flatMap encA) rfl HR.out _ 1 (encA ⟨f2, t2, gg⟩) rfl HSr.out hal.out.1 hal.out.2 ?_)
            intro v9 w9 R9 K9 F9 S9 _
            have hbx9 : bx ∉ u10.ownBlock.toList := fun hm => by have := HO.out bx (by simpa using hm); omega
            have k59 : Keep u10.ownBlock.toList w5 w9 := ((Keep.refl _ w5).alloc _).more K9 (fun x hx => .inl hx)
            have h60 := k59.cell' h50 hbx9
            have h61 := k59.cell' h51 hbx9
            have h62 := k59.cell' h52 hbx9
            have H9 : Hid (Nmn w gn (.slice (some ⟨b, o, none⟩) A.length c2) bt by_ k_ A i bz i NM w9 ∧ (∀ x, v9.ownBlock = some x → gn < x) ∧ RowC w9 31 3 v9 (L0.length + 1) (L0.flatMap encA ++ encA ⟨f2, t2, gg⟩)) := by
              refine ⟨HN5.out.1.far k59 (fun x hx => (HO.out x (by simpa using hx)).1), fun x hx => ?_, R9⟩
              rcases F9 with e | e
              · rw [e] at hx; exact (HO.out x hx).1
              · have := (e x hx).1
                have := HN5.out.2
                simp at *
                omega
            obtain ⟨a9, c9, rfl⟩ := S9
            clear R9 K9 F9 HR HSr k59 h50 h51 h52 hal hbx9 HO HN5
            have HSr : Hid _ := src_az w9 ⟨(f2 : Int), (t2 : Int), gg⟩
            have HR : Hid (RowC (w9.alloc (.cells #[.int .i64 (f2 : Int), .int .i64 (t2 : Int), .bool gg] 31 (0, 0))) 31 3 (.slice a9 (L0.length + 1) c9) (L0.length + 1) (L0.flatMap encA ++ encA ⟨f2, t2, gg⟩)) := RowC.keep H9.out.2.2 (Keep.alloc1 w9 _) (Off.nil _)
            go_wp2_with (at_builtin; refine wp_appC infoA rfl rfl (.tmp 98) (.tmp 100) 22 22 rfl Try.underlying22 (.slice a9 (L0.length + 1) c9) (L0.length + 1) (L0.flatMap encA ++ encA ⟨f2, t2, gg⟩) rfl HR.out _ 1 (encA ⟨f2, t2, gg⟩) rfl HSr.out hal2.out.1 hal2.out.2 ?_)
            intro v10 w10 R10 K10 F10 S10 _
            have H10 : Hid (Nmn w gn (.slice (some ⟨b, o, none⟩) A.length c2) bt by_ k_ A i bz i NM w10 ∧ Rw 31 encA 3 w10 v10 (twiceL (nmN i bz) (A.drop j).reverse) ∧ ∀ x, v10.ownBlock = some x → gn < x) := by
              have k : Keep (Value.slice a9 (L0.length + 1) c9).ownBlock.toList w9 w10 := ((Keep.refl _ w9).alloc _).more K10 (fun x hx => .inl hx)
              refine ⟨H9.out.1.far k (fun x hx => H9.out.2.1 x (by simpa using hx)), ?_, fun x hx => ?_⟩
              · rw [HDr.out]
                unfold Rw
                rw [List.length_append, List.length_append, List.flatMap_append, List.flatMap_append]
                simp only [List.flatMap_cons, List.flatMap_nil, List.append_nil, List.length_singleton]
                rw [List.append_assoc]
                exact R10
              · rcases F10 with e | e
                · rw [e] at hx; exact H9.out.2.1 x hx
                · have := (e x hx).1
                  have h2 := H9.out.1.arr.lt
                  simp at this
                  omega
            obtain ⟨a10, c10, rfl⟩ := S10
            clear R10 K10 F10 HR HSr h60 h61 h62 H9 HDr
            go_wp2
            go_roundw
            case rel => exact ⟨j, by go_num, by omega, H10⟩
            case measure => simp [intOf]
end Go.Proofs.Ytmlpkjeaieljfab
