/- The graph that is made of arcs: graphOf (given the library's sort). -/
import Derived.Test.YtmlpkjeaieljfabGf
import Derived.Test.YtmlpkjeaieljfabGh
import Derived.Test.YtmlpkjeaieljfabGm
namespace Go.Proofs.Ytmlpkjeaieljfab
open Go.RowKit Go.PlainAid Go.Sort

/-- a graph in memory -/
structure Gph (w : World) (va vf : Value) (n : Nat) (A : List Ar) (F : List Nat) : Prop where
  arcs : Rd encA 3 w va A
  first : Rd encN 1 w vf F
  ok : GrOk n A F
  big : A.length ≤ 262144 ∧ n ≤ 4096

theorem Gph.keep {w w' : World} {va vf : Value} {n : Nat} {A : List Ar} {F G : List Nat} (h : Gph w va vf n A F) (k : Keep G w w') (h1 : Off va G) (h2 : Off vf G) : Gph w' va vf n A F :=
  ⟨h.arcs.keep k h1, h.first.keep k h2, h.ok, h.big⟩

/-- a graph that was made of arcs -/
def GphR (w w' : World) (va vf : Value) (n : Nat) (l : List Ar) : Prop := ∃ A F, Gph w' va vf n A F ∧ Fresh w w' va ∧ Fresh w w' vf ∧ (∀ a, a ∈ A ↔ a ∈ l) ∧ Keep [] w w'

/-- the sort's contract: what is asked of it here -/
def SortOk : Prop := ∀ (g cap : Nat) (l : List Ar) (w : World), Rw 31 encA 3 w (.slice (some ⟨g, 0, none⟩) l.length cap) l → l.length ≤ 262144 →
  Calls Try.prog 28 #[.slice (some ⟨g, 0, none⟩) l.length cap, .func (.func 29) #[] #[]] w fun e w' => e = .returned (.tuple #[]) ∧ ∃ d, (Rw 31 encA 3 w' (.slice (some ⟨g, 0, none⟩) l.length cap) d ∧ d.length = l.length) ∧ (d.Perm l ∧ d.Pairwise fun a b => a.f ≤ b.f) ∧ Keep [g] w w'
def SortNone : Prop := ∀ (w : World), Calls Try.prog 28 #[.slice none 0 0, .func (.func 29) #[] #[]] w fun e w' => e = .returned (.tuple #[]) ∧ w' = w

theorem onceEach_nil (w : World) : Calls Try.prog 30 #[.slice none 0 0] w fun e w' => e = .returned (.slice none 0 0) ∧ w' = w := by
  go_enter Try.func30, Try.ntmps30
  go_wp2
  refine wp_loop_rounds 1 ?_
  rw [rounds_succ]
  go_wp2
  go_ret
  exact ⟨rfl, rfl⟩

/-- clone, sort, once each -/
def Own3 (w w' : World) (v : Value) (l K : List Ar) : Prop := Rd encA 3 w' v K ∧ Fresh w w' v ∧ (∀ a, a ∈ K ↔ a ∈ l) ∧ (K.Pairwise fun a b => a.f ≤ b.f) ∧ K.length ≤ l.length ∧ Keep [] w w'

/-- the counts behind i arcs -/
structure Cnt (w wr : World) (va : Value) (K : List Ar) (g n : Nat) (F : List Nat) (i : Nat) : Prop where
  arr : Arr 3 eN wr g (n + 1) F
  arcs : Rd encA 3 wr va K
  off : Off va [g]
  keep : Keep [] w wr
  new : w.heap.size ≤ g
  zero : F.getD 0 0 = 0
  cnt : ∀ k, k < n → F.getD (k + 1) 0 = num (K.take i) k

theorem Cnt.next {w wr wr' : World} {va : Value} {K : List Ar} {g n : Nat} {F : List Nat} {i : Nat} (h : Cnt w wr va K g n F i) (hi : i < K.length) (hf : K[i].f < n) (k : Keep [] wr wr') :
    Cnt w (wr'.setCell ⟨g, K[i].f + 1, none⟩ (.int .i64 ((F.getD (K[i].f + 1) 0 + 1 : Nat) : Int))) va K g n (F.set (K[i].f + 1) (F.getD (K[i].f + 1) 0 + 1)) (i + 1) where
  arr := (h.arr.keep k (by simp)).put _ _
  arcs := (h.arcs.keep k (Off.nil _)).keep (Keep.set1 _ _ _) h.off
  off := h.off
  keep := (h.keep.trans' k).setCell (.inr h.new) _
  new := h.new
  zero := by
    have := h.arr.len
    rw [getD_set _ _ _ _ _ (by omega), if_neg (by omega)]
    exact h.zero
  cnt j hj := by
    have := h.arr.len
    rw [getD_set _ _ _ _ _ (by omega), List.take_succ_eq_append_getElem hi, num_snoc, ← h.cnt j hj]
    by_cases he : K[i].f = j
    · rw [if_pos (by omega), if_pos he, he]
    · rw [if_neg (by omega), if_neg he]; rfl

theorem Cnt.step {w wr wr' : World} {va : Value} {K : List Ar} {g n : Nat} {F : List Nat} {i : Nat} (h : Cnt w wr va K g n F i) (k : Keep [] wr wr') : Cnt w wr' va K g n F i :=
  ⟨h.arr.keep k (by simp), h.arcs.keep k (Off.nil _), h.off, h.keep.trans' k, h.new, h.zero, h.cnt⟩

/-- the sums behind i nodes -/
structure Sm (w wr : World) (va : Value) (K : List Ar) (g n : Nat) (F : List Nat) (i : Nat) : Prop where
  arr : Arr 3 eN wr g (n + 1) F
  arcs : Rd encA 3 wr va K
  off : Off va [g]
  keep : Keep [] w wr
  new : w.heap.size ≤ g
  sum : ∀ k, k ≤ i → F.getD k 0 = low K k
  cnt : ∀ k, i ≤ k → k < n → F.getD (k + 1) 0 = num K k

theorem Cnt.sums {w wr : World} {va : Value} {K : List Ar} {g n : Nat} {F : List Nat} (h : Cnt w wr va K g n F K.length) : Sm w wr va K g n F 0 where
  arr := h.arr
  arcs := h.arcs
  off := h.off
  keep := h.keep
  new := h.new
  sum k hk := by
    obtain rfl : k = 0 := by omega
    rw [h.zero, low_zero]
  cnt k _ hk := by have := h.cnt k hk; rwa [List.take_length] at this

theorem Sm.next {w wr : World} {va : Value} {K : List Ar} {g n : Nat} {F : List Nat} {i : Nat} (h : Sm w wr va K g n F i) (hi : i < n) (q : Nat) :
    Sm w ((wr.drewN q).setCell ⟨g, i + 1, none⟩ (.int .i64 ((F.getD (i + 1) 0 + F.getD i 0 : Nat) : Int))) va K g n (F.set (i + 1) (F.getD (i + 1) 0 + F.getD i 0)) (i + 1) where
  arr := (h.arr.drewN q).put _ _
  arcs := (h.arcs.keep ((Keep.refl [] wr).drewN q) (Off.nil _)).keep (Keep.set1 _ _ _) h.off
  off := h.off
  keep := (h.keep.drewN q).setCell (.inr h.new) _
  new := h.new
  sum k hk := by
    have := h.arr.len
    rw [getD_set _ _ _ _ _ (by omega)]
    by_cases he : k = i + 1
    · rw [if_pos he, he, low_succ, h.sum i (Nat.le_refl _), h.cnt i (Nat.le_refl _) hi]; omega
    · rw [if_neg he]; exact h.sum k (by omega)
  cnt k h1 h2 := by
    have := h.arr.len
    rw [getD_set _ _ _ _ _ (by omega), if_neg (by omega)]
    exact h.cnt k (by omega) h2

/-- the block of the result -/
def Bz (w : World) (b : Nat) : Prop := ∃ x y, w.heap[b]? = some (.cells #[x, y] 45 (0, 0))
theorem Bz.cells {w : World} {b : Nat} (h : Bz w b) : (∃ x, w.cell? ⟨b, 0, none⟩ = some x) ∧ (∃ y, w.cell? ⟨b, 1, none⟩ = some y) ∧ w.frozen? ⟨b, 0, none⟩ = false ∧ w.frozen? ⟨b, 1, none⟩ = false := by
  obtain ⟨x, y, h⟩ := h
  exact ⟨⟨x, by simp [World.cell?, h]⟩, ⟨y, by simp [World.cell?, h]⟩, by simp [World.frozen?, h], by simp [World.frozen?, h]⟩

theorem sorted_sub {l d : List Ar} (h : l.Sublist d) (hs : d.Pairwise fun a b => a.f ≤ b.f) : l.Pairwise fun a b => a.f ≤ b.f := hs.sublist h

set_option maxRecDepth 1000000 in
set_option maxHeartbeats 4000000 in
theorem graphOf_own (hS : SortOk) (hSn : SortNone) (n : Nat) (v : Value) (l : List Ar) (w : World) (h : Rd encA 3 w v l) (hl : l.length ≤ 262144) (hn : n ≤ 4096) (hnode : ∀ a ∈ l, a.f < n ∧ a.t < n) :
    Calls Try.prog 18 #[.int .i64 (n : Int), v] w fun e w' => ∃ va vf, e = .returned (.agg #[va, vf]) ∧ GphR w w' va vf n l := by
  obtain ⟨ao, cap0, rfl, -, -⟩ := h.form
  have HL : Hid (∀ w0, Keep [] w w0 → Calls Try.prog 27 #[.slice ao l.length cap0] w0 fun e w' => ∃ v', e = .returned v' ∧ (Rw 31 encA 3 w' v' l ∧ Fresh w0 w' v') ∧ Keep [] w0 w') := fun w0 k => cloneA_any _ l w0 (h.keep k (Off.nil _)) hl
  have HNo : Hid (∀ a ∈ l, a.f < n ∧ a.t < n) := hnode
  have H1 : Hid SortOk := hS
  have H2 : Hid SortNone := hSn
  clear h hnode hS hSn
  go_enter Try.func18, Try.ntmps18
  go_wp2_with fail
  refine (HL.out _ (Keep.alloc1 w _)).mono ?_
  rintro e w1 ⟨v1, rfl, ⟨r1, f1⟩, k1⟩
  obtain ⟨w0, HW0⟩ : ∃ w0 : World, Hid (w0 = w.alloc (.cells #[.slice none 0 0, .slice none 0 0] 45)) := ⟨_, show _ = _ from rfl⟩
  rw [← HW0.out] at k1 f1
  have K1 : Hid (Keep [] w0 w1 ∧ Fresh w0 w1 v1 ∧ Rw 31 encA 3 w1 v1 l) := ⟨k1, f1, r1⟩
  clear k1 f1
  rcases r1.cases encA_len with ⟨hl0, rfl⟩ | ⟨g, cap, rfl, hc1, hc2, hgw, -, -⟩
  · clear r1
    go_wp2_with fail
    refine (H2.out _).mono ?_
    rintro e w2 ⟨rfl, hw⟩
    obtain rfl := hw.symm
    go_wp2_with fail
    refine (onceEach_nil _).mono ?_
    rintro e w3 ⟨rfl, hw⟩
    obtain rfl := hw.symm
    obtain ⟨v3, hv3, K, H3⟩ : ∃ v3, v3 = Value.slice none 0 0 ∧ ∃ K, Hid (Own3 w0 w1 v3 l K) := ⟨_, rfl, [], Rd.nil _ _ _, Fresh.nil _ _, fun a => by rw [hl0], by simp, by simp, K1.out.1⟩
    rw [← hv3]
    clear hv3 K1
    generalize w1 = w3 at *
    clear HL H1 H2 hl0
    obtain ⟨a3, c3, rfl, hc3, hc4⟩ := H3.out.1.form
    have HK : Hid (K.length ≤ 262144) := Nat.le_trans H3.out.2.2.2.2.1 hl
    obtain ⟨i3, hi3, hz3, hs3, hy3⟩ := info_parts infoI
    obtain ⟨n1, HN⟩ : ∃ n1 : Nat, Hid (n1 = n + 1) := ⟨_, show _ = _ from rfl⟩
    have hn1 : (n : Int) + 1 = (n1 : Int) := by have := HN.out; omega
    have HB2 : Hid (i3.bytes * n1 ≤ 281474976710656) := show i3.bytes * n1 ≤ 281474976710656 by rw [hy3]; have := HN.out; omega
    have HB3 : Hid (n1 ≤ maxLen) := show n1 ≤ maxLen by simp only [maxLen]; have := HN.out; omega
    go_wp2_with (at_make; refine wpList_make_full _ rfl (.tmp 17) (.tmp 17) 28 rfl 0 3 i3 (.int .i64 0) 1 Try.underlying28 hi3 hz3 hs3 .i64 .i64 _ _ n1 rfl rfl rfl rfl HB2.out HB3.out (Nat.zero_le _) ?_)
    intro w4 r1 r2
    have H4 : Hid (Cnt w0 w4 (.slice a3 K.length c3) K w3.heap.size n (List.replicate (n + 1) 0) 0) := by
      have hk : Keep [] w3 w4 := Keep.mono (Keep.grown r2) (by simp)
      have hz := H3.out.2.2.2.2.2
      refine ⟨?_, H3.out.1.keep hk (Off.nil _), fun x hx hm => ?_, hz.trans' hk, hz.size, getD_replicate _ _ _, fun k hk => ?_⟩
      · rw [← HN.out]
        exact Arr.made (e := eN) (z := 0) r1
      · have := (H3.out.2.1 x hx).2
        simp at hm
        omega
      · rw [getD_replicate]; simp [num]
    have H4S : Hid (w3.heap.size ≤ w4.heap.size) := (show Keep [] w3 w4 from Keep.mono (Keep.grown r2) (by simp)).size
    have H5 : Hid (Own3 w0 w3 (.slice a3 K.length c3) l K) := H3
    clear r1 r2 HB2 HB3 hi3 hz3 hs3 hy3 H3
    obtain ⟨gf, HGF⟩ : ∃ gf : Nat, Hid (gf = w3.heap.size) := ⟨_, show _ = _ from rfl⟩
    rw [← HGF.out] at H4 ⊢
    go_wp2
    go_loopw [21] (fun iv wr => ∃ (i : Nat) (F : List Nat), iv = .int .i64 (i : Int) ∧ i ≤ K.length ∧ Hid (Cnt w0 wr (.slice a3 K.length c3) K gf n F i) ∧ Hid (w3.heap.size ≤ wr.heap.size)) (fun iv _ => K.length - (intOf iv).toNat)
    case atStart => exact ⟨0, _, rfl, Nat.zero_le _, H4, H4S⟩
    case round =>
      clear H4 H4S
      obtain ⟨i, F, rfl, hi, HC, HSZ⟩ := hrel
      have hk6 := HK.out
      by_cases hlt : i < K.length
      · have hlti : (i : Int) < (K.length : Int) := by omega
        obtain ⟨b, o, c, he, hb, c0, c1, c2⟩ := HC.out.arcs.arcA i hlt
        simp at he
        obtain ⟨rfl, rfl⟩ := he
        have hfn : K[i].f < n := (HNo.out _ ((H5.out.2.2.1 _).1 (List.getElem_mem hlt))).1
        obtain ⟨p, HP⟩ : ∃ p : Nat, Hid (p = K[i].f + 1) := ⟨_, show _ = _ from rfl⟩
        obtain ⟨f, HF⟩ : ∃ f : Nat, Hid (f = K[i].f) := ⟨_, show _ = _ from rfl⟩
        obtain ⟨x, HX⟩ : ∃ x : Nat, Hid (x = F.getD p 0) := ⟨_, show _ = _ from rfl⟩
        have hp1 : (f : Int) + 1 = (p : Int) := by have := HP.out; have := HF.out; omega
        have hpn : p < n + 1 := by have := HP.out; omega
        have hpi : (p : Int) < (n1 : Int) := by have := HN.out; omega
        have cp : wr.cell? ⟨gf, p, none⟩ = some (.int .i64 (x : Int)) := by rw [HX.out]; exact HC.out.arr.cell 0 p hpn
        have fp : wr.frozen? ⟨gf, p, none⟩ = false := HC.out.arr.free p
        have hgl : gf < wr.heap.size := HC.out.arr.lt
        have hxb : x ≤ 262144 := by
          rw [HX.out, HP.out, HC.out.cnt _ hfn]
          have := num_le (K.take i) K[i].f
          rw [List.length_take] at this
          omega
        rw [← HF.out] at c0
        have HJ : Hid (∀ o', Cnt w0 ((wr.setCell ⟨gf, p, none⟩ (.int .i64 ((x + 1 : Nat) : Int))).alloc o') (.slice (some ⟨b, o, none⟩) K.length c3) K gf n (F.set (K[i].f + 1) (F.getD (K[i].f + 1) 0 + 1)) (i + 1)) := fun o' => by
          rw [HX.out, HP.out]
          exact (HC.out.next hlt hfn (Keep.refl [] wr)).step (Keep.alloc1 _ _)
        generalize (K[i].t : Int) = t at c1
        generalize K[i].g = g0 at c2
        have hx1 : ((x + 1 : Nat) : Int) = (x : Int) + 1 := by omega
        rw [hx1] at HJ
        clear HP HX HC HF hx1
        go_wp2
        go_roundw
        case rel => exact ⟨i + 1, _, by go_num, by omega, HJ.out _, by have := HSZ.out; show _ ≤ _; simp; omega⟩
        case measure => simp [intOf]; omega
      · have hlti : ¬ (i : Int) < (K.length : Int) := by omega
        obtain rfl : i = K.length := by omega
        have H6 : Hid (Sm w0 wr (.slice a3 K.length c3) K gf n F 0) := HC.out.sums
        clear HC
        go_wp2
        go_loopw [35] (fun iv wr => ∃ (i : Nat) (F : List Nat), iv = .int .i64 (i : Int) ∧ i ≤ n ∧ Hid (Sm w0 wr (.slice a3 K.length c3) K gf n F i) ∧ Hid (w3.heap.size ≤ wr.heap.size)) (fun iv _ => n - (intOf iv).toNat)
        case atStart => exact ⟨0, _, rfl, Nat.zero_le _, H6, HSZ⟩
        case round =>
          clear H6 HSZ
          obtain ⟨i, F, rfl, hi, HC, HSZ⟩ := hrel
          by_cases hlt : i < n
          · have hlti : (i : Int) < (n : Int) := by omega
            obtain ⟨p, HP⟩ : ∃ p : Nat, Hid (p = i + 1) := ⟨_, show _ = _ from rfl⟩
            obtain ⟨x, HX⟩ : ∃ x : Nat, Hid (x = F.getD p 0) := ⟨_, show _ = _ from rfl⟩
            obtain ⟨y, HY⟩ : ∃ y : Nat, Hid (y = F.getD i 0) := ⟨_, show _ = _ from rfl⟩
            have hp1 : (i : Int) + 1 = (p : Int) := by have := HP.out; omega
            have hp2 : IntKind.i64.wrap ((i : Int) + 1) = (p : Int) := by rw [wrap_ok _ (by omega) (by omega)]; exact hp1
            have hpn : p < n + 1 := by have := HP.out; omega
            have hpi : (p : Int) < (n1 : Int) := by have := HN.out; omega
            have hin : (i : Int) < (n1 : Int) := by have := HN.out; omega
            have cp : wr.cell? ⟨gf, p, none⟩ = some (.int .i64 (x : Int)) := by rw [HX.out]; exact HC.out.arr.cell 0 p hpn
            have ci : wr.cell? ⟨gf, i, none⟩ = some (.int .i64 (y : Int)) := by rw [HY.out]; exact HC.out.arr.cell 0 i (by omega)
            have fp : wr.frozen? ⟨gf, p, none⟩ = false := HC.out.arr.free p
            have hxb : x ≤ 262144 := by
              rw [HX.out, HP.out, HC.out.cnt i (Nat.le_refl _) hlt]
              exact Nat.le_trans (num_le K i) hk6
            have hyb : y ≤ 262144 := by
              rw [HY.out, HC.out.sum i (Nat.le_refl _)]
              exact Nat.le_trans (low_le K i) hk6
            have HJ : Hid (∀ q, Sm w0 ((wr.drewN q).setCell ⟨gf, p, none⟩ (.int .i64 ((x + y : Nat) : Int))) (.slice a3 K.length c3) K gf n (F.set (i + 1) (F.getD (i + 1) 0 + F.getD i 0)) (i + 1)) := fun q => by
              rw [HX.out, HY.out, HP.out]
              exact HC.out.next hlt q
            have hx1 : ((x + y : Nat) : Int) = (x : Int) + (y : Int) := by omega
            have hx2 : IntKind.i64.wrap ((x : Int) + (y : Int)) = ((x + y : Nat) : Int) := by rw [wrap_ok _ (by omega) (by omega)]; exact hx1.symm
            generalize x + y = z at *
            clear HP HX HC HY hx1
            go_wp2
            go_region
            all_goals go_wp2
            go_roundw
            case rel => exact ⟨i + 1, _, by go_num, by omega, HJ.out _, by have := HSZ.out; show _ ≤ _; simp; omega⟩
            case measure => simp [intOf]; omega
          · have hlti : ¬ (i : Int) < (n : Int) := by omega
            obtain rfl : i = n := by omega
            have hb : Bz wr w.heap.size := by
              have hz := HC.out.keep
              rw [HW0.out] at hz
              have := hz.block w.heap.size (by simp) (by simp)
              rw [heap_alloc_new] at this
              exact ⟨_, _, this⟩
            obtain ⟨⟨x0, d0⟩, ⟨x1, d1⟩, e0, e1⟩ := hb.cells
            have HZ : Hid (Sm w0 wr (.slice a3 K.length c3) K gf i F i) := HC
            clear HC
            go_wp2
            refine bodyPost_ret (v := .agg #[.slice a3 K.length c3, .slice (some ⟨gf, 0, none⟩) n1 n1]) (by simp [results, Try.results18, go_sem, d0, d1]) rfl ?_
            have hi1 : i + 1 = n1 := HN.out.symm
            have hw0 : w0.heap.size = w.heap.size + 1 := by rw [HW0.out]; simp
            have kR : Keep [w.heap.size] wr ((wr.setCell ⟨w.heap.size, 0, none⟩ (.slice a3 K.length c3)).setCell ⟨w.heap.size, 1, none⟩ (.slice (some ⟨gf, 0, none⟩) n1 n1)) := (Keep.set1 wr ⟨w.heap.size, 0, none⟩ _).trans' (Keep.set1 _ ⟨w.heap.size, 1, none⟩ _)
            have hz := HZ.out
            have hnew := hz.new
            have hlt2 := hz.arr.lt
            have hfr : ∀ x, (Value.slice a3 K.length c3).ownBlock = some x → w0.heap.size ≤ x ∧ x < wr.heap.size := fun x hx => by
              have h1 := (H5.out.2.1 x hx).1
              refine ⟨h1, ?_⟩
              obtain ⟨ao', cap', he, _, _, hao, hne⟩ := hz.arcs.ex
              simp at he
              obtain ⟨rfl, rfl⟩ := he
              exact Nat.lt_of_lt_of_le (H5.out.2.1 x hx).2 HSZ.out
            have hof : Off (.slice a3 K.length c3) [w.heap.size] := fun x hx hm => by have := (hfr x hx).1; simp at hm; omega
            have hog : Off (.slice (some ⟨gf, 0, none⟩) n1 n1) [w.heap.size] := fun x hx hm => by simp [Value.ownBlock] at hx; simp at hm; omega
            have hrd := hz.arr.rd
            rw [hi1] at hrd
            refine ⟨_, _, rfl, K, F, ⟨hz.arcs.keep kR hof, Rd.keep (enc := encN) hrd kR hog, ⟨hz.arr.len, hz.sum, H5.out.2.2.2.1, fun a ha => HNo.out a ((H5.out.2.2.1 a).1 ha)⟩, HK.out, hn⟩, fun x hx => ?_, fun x hx => ?_, H5.out.2.2.1, ?_⟩
            · have h1 := hfr x hx
              have := kR.size
              exact ⟨by omega, by omega⟩
            · simp [Value.ownBlock] at hx
              have := kR.size
              exact ⟨by omega, by omega⟩
            · refine Keep.more ?_ kR (fun x hx => by simp at hx; subst hx; exact .inr (Nat.le_refl _))
              have := hz.keep
              rw [HW0.out] at this
              exact (Keep.alloc1 w _).trans' this
  · clear r1
    go_wp2_with fail
    refine (H1.out g cap l w1 K1.out.2.2 hl).mono ?_
    rintro e w2 ⟨rfl, d, ⟨hd1, hd2⟩, ⟨hd3, hd4⟩, hd5⟩
    have HE := onceEach_any g cap d w2 (by rw [hd2]; exact hd1) (by omega)
    rw [hd2] at HE
    go_wp2_with fail
    refine HE.mono ?_
    rintro e w3 ⟨v3, rfl, K, ⟨he1, he2⟩, ⟨he3, he4⟩, he5⟩
    have H3 : Hid (Own3 w0 w3 v3 l K) := by
      have hg := K1.out.2.1 g rfl
      refine ⟨he1, fun x hx => ?_, fun a => ⟨fun ha => hd3.mem_iff.1 (he3.mem ha), fun ha => he4 a (hd3.mem_iff.2 ha)⟩, sorted_sub he3 hd4, ?_, ?_⟩
      · rw [he2] at hx
        cases hx
        exact ⟨hg.1, Nat.lt_of_lt_of_le hg.2 (Nat.le_trans hd5.size he5.size)⟩
      · have := he3.length_le; omega
      · exact (K1.out.1.more hd5 (fun x hx => by simp at hx; subst hx; exact .inr hg.1)).more he5 (fun x hx => by simp at hx; subst hx; exact .inr hg.1)
    clear he1 he2 he3 he4 he5 hd1 hd2 hd3 hd4 hd5 K1
    clear HL H1 H2 HE
    obtain ⟨a3, c3, rfl, hc3, hc4⟩ := H3.out.1.form
    have HK : Hid (K.length ≤ 262144) := Nat.le_trans H3.out.2.2.2.2.1 hl
    obtain ⟨i3, hi3, hz3, hs3, hy3⟩ := info_parts infoI
    obtain ⟨n1, HN⟩ : ∃ n1 : Nat, Hid (n1 = n + 1) := ⟨_, show _ = _ from rfl⟩
    have hn1 : (n : Int) + 1 = (n1 : Int) := by have := HN.out; omega
    have HB2 : Hid (i3.bytes * n1 ≤ 281474976710656) := show i3.bytes * n1 ≤ 281474976710656 by rw [hy3]; have := HN.out; omega
    have HB3 : Hid (n1 ≤ maxLen) := show n1 ≤ maxLen by simp only [maxLen]; have := HN.out; omega
    go_wp2_with (at_make; refine wpList_make_full _ rfl (.tmp 17) (.tmp 17) 28 rfl 0 3 i3 (.int .i64 0) 1 Try.underlying28 hi3 hz3 hs3 .i64 .i64 _ _ n1 rfl rfl rfl rfl HB2.out HB3.out (Nat.zero_le _) ?_)
    intro w4 r1 r2
    have H4 : Hid (Cnt w0 w4 (.slice a3 K.length c3) K w3.heap.size n (List.replicate (n + 1) 0) 0) := by
      have hk : Keep [] w3 w4 := Keep.mono (Keep.grown r2) (by simp)
      have hz := H3.out.2.2.2.2.2
      refine ⟨?_, H3.out.1.keep hk (Off.nil _), fun x hx hm => ?_, hz.trans' hk, hz.size, getD_replicate _ _ _, fun k hk => ?_⟩
      · rw [← HN.out]
        exact Arr.made (e := eN) (z := 0) r1
      · have := (H3.out.2.1 x hx).2
        simp at hm
        omega
      · rw [getD_replicate]; simp [num]
    have H4S : Hid (w3.heap.size ≤ w4.heap.size) := (show Keep [] w3 w4 from Keep.mono (Keep.grown r2) (by simp)).size
    have H5 : Hid (Own3 w0 w3 (.slice a3 K.length c3) l K) := H3
    clear r1 r2 HB2 HB3 hi3 hz3 hs3 hy3 H3
    obtain ⟨gf, HGF⟩ : ∃ gf : Nat, Hid (gf = w3.heap.size) := ⟨_, show _ = _ from rfl⟩
    rw [← HGF.out] at H4 ⊢
    go_wp2
    go_loopw [21] (fun iv wr => ∃ (i : Nat) (F : List Nat), iv = .int .i64 (i : Int) ∧ i ≤ K.length ∧ Hid (Cnt w0 wr (.slice a3 K.length c3) K gf n F i) ∧ Hid (w3.heap.size ≤ wr.heap.size)) (fun iv _ => K.length - (intOf iv).toNat)
    case atStart => exact ⟨0, _, rfl, Nat.zero_le _, H4, H4S⟩
    case round =>
      clear H4 H4S
      obtain ⟨i, F, rfl, hi, HC, HSZ⟩ := hrel
      have hk6 := HK.out
      by_cases hlt : i < K.length
      · have hlti : (i : Int) < (K.length : Int) := by omega
        obtain ⟨b, o, c, he, hb, c0, c1, c2⟩ := HC.out.arcs.arcA i hlt
        simp at he
        obtain ⟨rfl, rfl⟩ := he
        have hfn : K[i].f < n := (HNo.out _ ((H5.out.2.2.1 _).1 (List.getElem_mem hlt))).1
        obtain ⟨p, HP⟩ : ∃ p : Nat, Hid (p = K[i].f + 1) := ⟨_, show _ = _ from rfl⟩
        obtain ⟨f, HF⟩ : ∃ f : Nat, Hid (f = K[i].f) := ⟨_, show _ = _ from rfl⟩
        obtain ⟨x, HX⟩ : ∃ x : Nat, Hid (x = F.getD p 0) := ⟨_, show _ = _ from rfl⟩
        have hp1 : (f : Int) + 1 = (p : Int) := by have := HP.out; have := HF.out; omega
        have hpn : p < n + 1 := by have := HP.out; omega
        have hpi : (p : Int) < (n1 : Int) := by have := HN.out; omega
        have cp : wr.cell? ⟨gf, p, none⟩ = some (.int .i64 (x : Int)) := by rw [HX.out]; exact HC.out.arr.cell 0 p hpn
        have fp : wr.frozen? ⟨gf, p, none⟩ = false := HC.out.arr.free p
        have hgl : gf < wr.heap.size := HC.out.arr.lt
        have hxb : x ≤ 262144 := by
          rw [HX.out, HP.out, HC.out.cnt _ hfn]
          have := num_le (K.take i) K[i].f
          rw [List.length_take] at this
          omega
        rw [← HF.out] at c0
        have HJ : Hid (∀ o', Cnt w0 ((wr.setCell ⟨gf, p, none⟩ (.int .i64 ((x + 1 : Nat) : Int))).alloc o') (.slice (some ⟨b, o, none⟩) K.length c3) K gf n (F.set (K[i].f + 1) (F.getD (K[i].f + 1) 0 + 1)) (i + 1)) := fun o' => by
          rw [HX.out, HP.out]
          exact (HC.out.next hlt hfn (Keep.refl [] wr)).step (Keep.alloc1 _ _)
        generalize (K[i].t : Int) = t at c1
        generalize K[i].g = g0 at c2
        have hx1 : ((x + 1 : Nat) : Int) = (x : Int) + 1 := by omega
        rw [hx1] at HJ
        clear HP HX HC HF hx1
        go_wp2
        go_roundw
        case rel => exact ⟨i + 1, _, by go_num, by omega, HJ.out _, by have := HSZ.out; show _ ≤ _; simp; omega⟩
        case measure => simp [intOf]; omega
      · have hlti : ¬ (i : Int) < (K.length : Int) := by omega
        obtain rfl : i = K.length := by omega
        have H6 : Hid (Sm w0 wr (.slice a3 K.length c3) K gf n F 0) := HC.out.sums
        clear HC
        go_wp2
        go_loopw [35] (fun iv wr => ∃ (i : Nat) (F : List Nat), iv = .int .i64 (i : Int) ∧ i ≤ n ∧ Hid (Sm w0 wr (.slice a3 K.length c3) K gf n F i) ∧ Hid (w3.heap.size ≤ wr.heap.size)) (fun iv _ => n - (intOf iv).toNat)
        case atStart => exact ⟨0, _, rfl, Nat.zero_le _, H6, HSZ⟩
        case round =>
          clear H6 HSZ
          obtain ⟨i, F, rfl, hi, HC, HSZ⟩ := hrel
          by_cases hlt : i < n
          · have hlti : (i : Int) < (n : Int) := by omega
            obtain ⟨p, HP⟩ : ∃ p : Nat, Hid (p = i + 1) := ⟨_, show _ = _ from rfl⟩
            obtain ⟨x, HX⟩ : ∃ x : Nat, Hid (x = F.getD p 0) := ⟨_, show _ = _ from rfl⟩
            obtain ⟨y, HY⟩ : ∃ y : Nat, Hid (y = F.getD i 0) := ⟨_, show _ = _ from rfl⟩
            have hp1 : (i : Int) + 1 = (p : Int) := by have := HP.out; omega
            have hp2 : IntKind.i64.wrap ((i : Int) + 1) = (p : Int) := by rw [wrap_ok _ (by omega) (by omega)]; exact hp1
            have hpn : p < n + 1 := by have := HP.out; omega
            have hpi : (p : Int) < (n1 : Int) := by have := HN.out; omega
            have hin : (i : Int) < (n1 : Int) := by have := HN.out; omega
            have cp : wr.cell? ⟨gf, p, none⟩ = some (.int .i64 (x : Int)) := by rw [HX.out]; exact HC.out.arr.cell 0 p hpn
            have ci : wr.cell? ⟨gf, i, none⟩ = some (.int .i64 (y : Int)) := by rw [HY.out]; exact HC.out.arr.cell 0 i (by omega)
            have fp : wr.frozen? ⟨gf, p, none⟩ = false := HC.out.arr.free p
            have hxb : x ≤ 262144 := by
              rw [HX.out, HP.out, HC.out.cnt i (Nat.le_refl _) hlt]
              exact Nat.le_trans (num_le K i) hk6
            have hyb : y ≤ 262144 := by
              rw [HY.out, HC.out.sum i (Nat.le_refl _)]
              exact Nat.le_trans (low_le K i) hk6
            have HJ : Hid (∀ q, Sm w0 ((wr.drewN q).setCell ⟨gf, p, none⟩ (.int .i64 ((x + y : Nat) : Int))) (.slice a3 K.length c3) K gf n (F.set (i + 1) (F.getD (i + 1) 0 + F.getD i 0)) (i + 1)) := fun q => by
              rw [HX.out, HY.out, HP.out]
              exact HC.out.next hlt q
            have hx1 : ((x + y : Nat) : Int) = (x : Int) + (y : Int) := by omega
            have hx2 : IntKind.i64.wrap ((x : Int) + (y : Int)) = ((x + y : Nat) : Int) := by rw [wrap_ok _ (by omega) (by omega)]; exact hx1.symm
            generalize x + y = z at *
            clear HP HX HC HY hx1
            go_wp2
            go_region
            all_goals go_wp2
            go_roundw
            case rel => exact ⟨i + 1, _, by go_num, by omega, HJ.out _, by have := HSZ.out; show _ ≤ _; simp; omega⟩
            case measure => simp [intOf]; omega
          · have hlti : ¬ (i : Int) < (n : Int) := by omega
            obtain rfl : i = n := by omega
            have hb : Bz wr w.heap.size := by
              have hz := HC.out.keep
              rw [HW0.out] at hz
              have := hz.block w.heap.size (by simp) (by simp)
              rw [heap_alloc_new] at this
              exact ⟨_, _, this⟩
            obtain ⟨⟨x0, d0⟩, ⟨x1, d1⟩, e0, e1⟩ := hb.cells
            have HZ : Hid (Sm w0 wr (.slice a3 K.length c3) K gf i F i) := HC
            clear HC
            go_wp2
            refine bodyPost_ret (v := .agg #[.slice a3 K.length c3, .slice (some ⟨gf, 0, none⟩) n1 n1]) (by simp [results, Try.results18, go_sem, d0, d1]) rfl ?_
            have hi1 : i + 1 = n1 := HN.out.symm
            have hw0 : w0.heap.size = w.heap.size + 1 := by rw [HW0.out]; simp
            have kR : Keep [w.heap.size] wr ((wr.setCell ⟨w.heap.size, 0, none⟩ (.slice a3 K.length c3)).setCell ⟨w.heap.size, 1, none⟩ (.slice (some ⟨gf, 0, none⟩) n1 n1)) := (Keep.set1 wr ⟨w.heap.size, 0, none⟩ _).trans' (Keep.set1 _ ⟨w.heap.size, 1, none⟩ _)
            have hz := HZ.out
            have hnew := hz.new
            have hlt2 := hz.arr.lt
            have hfr : ∀ x, (Value.slice a3 K.length c3).ownBlock = some x → w0.heap.size ≤ x ∧ x < wr.heap.size := fun x hx => by
              have h1 := (H5.out.2.1 x hx).1
              refine ⟨h1, ?_⟩
              obtain ⟨ao', cap', he, _, _, hao, hne⟩ := hz.arcs.ex
              simp at he
              obtain ⟨rfl, rfl⟩ := he
              exact Nat.lt_of_lt_of_le (H5.out.2.1 x hx).2 HSZ.out
            have hof : Off (.slice a3 K.length c3) [w.heap.size] := fun x hx hm => by have := (hfr x hx).1; simp at hm; omega
            have hog : Off (.slice (some ⟨gf, 0, none⟩) n1 n1) [w.heap.size] := fun x hx hm => by simp [Value.ownBlock] at hx; simp at hm; omega
            have hrd := hz.arr.rd
            rw [hi1] at hrd
            refine ⟨_, _, rfl, K, F, ⟨hz.arcs.keep kR hof, Rd.keep (enc := encN) hrd kR hog, ⟨hz.arr.len, hz.sum, H5.out.2.2.2.1, fun a ha => HNo.out a ((H5.out.2.2.1 a).1 ha)⟩, HK.out, hn⟩, fun x hx => ?_, fun x hx => ?_, H5.out.2.2.1, ?_⟩
            · have h1 := hfr x hx
              have := kR.size
              exact ⟨by omega, by omega⟩
            · simp [Value.ownBlock] at hx
              have := kR.size
              exact ⟨by omega, by omega⟩
            · refine Keep.more ?_ kR (fun x hx => by simp at hx; subst hx; exact .inr (Nat.le_refl _))
              have := hz.keep
              rw [HW0.out] at this
              exact (Keep.alloc1 w _).trans' this
end Go.Proofs.Ytmlpkjeaieljfab

