/- The comparisons; how many are below. -/
import Derived.Test.YtkelhglflpdpeaaTn

namespace Go.Proofs.Ytkelhglflpdpeaa
open Go.RowKit Go.PlainAid


theorem cmp_lt (k : Nat) (hk : k = 10 ∨ k = 32) (a b : Pr) (w : World) (h : a.k < b.k) : Calls Try.prog k #[vP a, vP b] w fun e w' => ∃ c, e = .returned (.int .i64 c) ∧ c < 0 ∧ Keep [] w w' := by
  rcases hk with rfl | rfl
  · go_enter Try.func10, Try.ntmps10
    go_wp2
    go_ret
    exact ⟨_, rfl, by decide, (Keep.alloc1 _ _).alloc _⟩
  · go_enter Try.func32, Try.ntmps32
    go_wp2
    go_ret
    exact ⟨_, rfl, by decide, (Keep.alloc1 _ _).alloc _⟩
theorem cmp_gt (k : Nat) (hk : k = 10 ∨ k = 32) (a b : Pr) (w : World) (h : b.k < a.k) : Calls Try.prog k #[vP a, vP b] w fun e w' => ∃ c, e = .returned (.int .i64 c) ∧ 0 < c ∧ Keep [] w w' := by
  have h2 : ¬ a.k < b.k := by omega
  rcases hk with rfl | rfl
  · go_enter Try.func10, Try.ntmps10
    go_wp2
    go_ret
    exact ⟨_, rfl, by decide, (Keep.alloc1 _ _).alloc _⟩
  · go_enter Try.func32, Try.ntmps32
    go_wp2
    go_ret
    exact ⟨_, rfl, by decide, (Keep.alloc1 _ _).alloc _⟩
theorem cmp_eq (k : Nat) (hk : k = 10 ∨ k = 32) (a b : Pr) (w : World) (h : a.k = b.k) : Calls Try.prog k #[vP a, vP b] w fun e w' => e = .returned (.int .i64 0) ∧ Keep [] w w' := by
  obtain ⟨ak, am⟩ := a
  obtain ⟨bk, bm⟩ := b
  obtain rfl : ak = bk := h
  have h2 : ¬ ak < ak := by omega
  rcases hk with rfl | rfl
  · go_enter Try.func10, Try.ntmps10
    go_wp2
    go_ret
    exact ⟨rfl, (Keep.alloc1 _ _).alloc _⟩
  · go_enter Try.func32, Try.ntmps32
    go_wp2
    go_ret
    exact ⟨rfl, (Keep.alloc1 _ _).alloc _⟩
theorem cmp_ge (k : Nat) (hk : k = 10 ∨ k = 32) (a b : Pr) (w : World) (h : ¬ a.k < b.k) : Calls Try.prog k #[vP a, vP b] w fun e w' => ∃ c, e = .returned (.int .i64 c) ∧ 0 ≤ c ∧ Keep [] w w' := by
  by_cases h2 : a.k = b.k
  · exact (cmp_eq k hk a b w h2).mono (fun e w' h => ⟨0, h.1, by decide, h.2⟩)
  · exact (cmp_gt k hk a b w (by omega)).mono (fun e w' ⟨c, h1, h2, h3⟩ => ⟨c, h1, by omega, h3⟩)

/-- the list rises -/
def Ris (l : List Pr) : Prop := l.Pairwise (fun a b => a.k < b.k)
/-- how many are below k -/
def rnk (l : List Pr) (k : Int) : Nat := l.countP (fun a => decide (a.k < k))
theorem rnk_of {P S : List Pr} {k : Int} (hP : ∀ a ∈ P, a.k < k) (hS : ∀ a ∈ S, k ≤ a.k) : rnk (P ++ S) k = P.length := by
  unfold rnk
  rw [List.countP_append, List.countP_eq_length.2 (by simpa using hP), List.countP_eq_zero.2 (by simpa using hS)]
  rfl
theorem rnk_le (l : List Pr) (k : Int) : rnk l k ≤ l.length := List.countP_le_length

set_option maxRecDepth 100000 in
set_option maxHeartbeats 2000000 in
theorem rank10_any (p : Option Addr) (T : TT) (x : Pr) (w : World) (h : IsT w p T) (hr : Ris T.list) (hs : T.list.length ≤ 1152921504606846976) :
    Calls Try.prog 55 #[.pointer p, .func (.func 10) #[] #[], vP x] w fun e w' => e = .returned (.int .i64 (rnk T.list x.k : Int)) ∧ Keep [] w w' := by
  have HT : Hid (IsT w p T) := h
  have HR : Hid (Ris T.list) := hr
  have HS : Hid (T.list.length ≤ 1152921504606846976) := hs
  have HX : Hid (Bp w w.heap.size x (w.alloc (.cells #[.int .i64 x.k, .int .i64 x.m] 29))) := Bp.new w x
  obtain ⟨H, HH⟩ : ∃ H : Nat, Hid (H = w.heap.size) := ⟨_, show _ = _ from rfl⟩
  clear h hr hs
  go_enter Try.func55, Try.ntmps55
  go_wp2
  rw [← HH.out]
  go_loopw [0, 7] (fun pv bv wr => Hid (∃ q T' P S, pv = .pointer q ∧ bv = .int .i64 (P.length : Int) ∧ IsT wr q T' ∧ T.list = P ++ (T'.list ++ S) ∧ (∀ a ∈ P, a.k < x.k) ∧ (∀ a ∈ S, x.k ≤ a.k) ∧ Bp w H x wr)) (fun pv bv wr => szOf wr pv)
  case atStart => exact ⟨p, T, [], [], rfl, rfl, HT.out.keep (Keep.alloc1 _ _), by simp, by simp, by simp, by rw [HH.out]; exact HX.out⟩
  case round =>
    obtain ⟨q, T', P, S, rfl, rfl, ht, hl, hP, hS, hx0, hx1, hkk⟩ := hrel.out
    have HKK : Keep [] w wr := hkk.out
    have HL : Hid (T.list = P ++ (T'.list ++ S)) := hl
    have HPS : Hid ((∀ a ∈ P, a.k < x.k) ∧ (∀ a ∈ S, x.k ≤ a.k)) := ⟨hP, hS⟩
    have HB : Hid (Bp w H x wr) := ⟨hx0, hx1, HKK⟩
    have HSZ : Hid (szOf wr (.pointer q) = T'.list.length) := ht.sz
    have hPl : (P.length : Int) ≤ 1152921504606846976 := by have h1 := HS.out; rw [hl] at h1; simp at h1; omega
    have hPl0 : (0 : Int) ≤ (P.length : Int) := by omega
    clear hrel hkk hl hP hS HX HT
    cases T' with
    | leaf =>
      obtain rfl : q = none := ht
      go_wp2
      go_ret
      refine ⟨?_, HKK⟩
      rw [HL.out]
      simp only [TT.list, List.nil_append]
      rw [rnk_of HPS.out.1 HPS.out.2]
      rfl
    | node A y B =>
      obtain ⟨b, pl, pr, rfl, hbb, hA, hB⟩ := ht
      obtain ⟨r0, r1, r2, r3, _⟩ := node_cells hbb
      have HBB : Hid (wr.heap[b]? = some (nodeO y pl pr ((A.list.length + B.list.length + 1 : Nat) : Int))) := hbb
      have HTT : Hid (IsT wr pl A ∧ IsT wr pr B) := ⟨hA, hB⟩
      have HBC : Cs [(⟨H, 0, none⟩, .int .i64 x.k), (⟨H, 1, none⟩, .int .i64 x.m), (⟨b, 0, none⟩, .int .i64 y.k), (⟨b, 1, none⟩, .int .i64 y.m), (⟨b, 2, none⟩, .pointer pl), (⟨b, 3, none⟩, .pointer pr)] wr wr := ⟨hx0, hx1, r0, r1, r2, r3, Keep.refl _ _⟩
      have HCA : Hid (∀ w9, Keep [] wr w9 → Calls Try.prog 53 #[.pointer pl] w9 fun e w' => e = .returned (.int .i64 (A.list.length : Int)) ∧ w9 = w') := fun w9 k => (count_any pl A w9 (hA.keep k)).mono (fun e w' h => ⟨h.1, h.2.symm⟩)
      have HTot : Hid (P.length + A.list.length + 1 ≤ 1152921504606846976) := by show _ ≤ _; have h1 := HS.out; rw [HL.out] at h1; simp [TT.list] at h1; omega
      have hAl0 : (0 : Int) ≤ (A.list.length : Int) := by omega
      have hAl : (P.length : Int) + (A.list.length : Int) + 1 ≤ 1152921504606846976 := by have := HTot.out; omega
      by_cases hc : y.k < x.k
      · have HC : Hid (∀ w9, Calls Try.prog 10 #[vP y, vP x] w9 fun e w' => ∃ c, e = .returned (.int .i64 c) ∧ c < 0 ∧ Keep [] w9 w') := fun w9 => cmp_lt 10 (by decide) y x w9 hc
        have HN : Hid (T.list = (P ++ (A.list ++ [y])) ++ (B.list ++ S) ∧ (∀ a ∈ P ++ (A.list ++ [y]), a.k < x.k)) := by
          have e := HL.out
          refine ⟨by rw [e]; simp [TT.list], fun a ha => ?_⟩
          rcases List.mem_append.1 ha with h1 | h1
          · exact HPS.out.1 a h1
          · rcases List.mem_append.1 h1 with h2 | h2
            · have hr := HR.out
              rw [e] at hr
              have h3 := (List.pairwise_append.1 hr).2.1
              have h4 := (List.pairwise_append.1 h3).1
              have h5 := (List.pairwise_append.1 h4).2.2 a h2 y (by simp)
              omega
            · simp at h2; subst h2; exact hc
        clear hA hB hbb
        go_wp2
        go_region_held3 (fun w' => w'.cell? ⟨H, 0, none⟩ = some (.int .i64 x.k) ∧ w'.cell? ⟨H, 1, none⟩ = some (.int .i64 x.m) ∧ w'.cell? ⟨b, 0, none⟩ = some (.int .i64 y.k) ∧ w'.cell? ⟨b, 1, none⟩ = some (.int .i64 y.m) ∧ w'.cell? ⟨b, 2, none⟩ = some (.pointer pl) ∧ w'.cell? ⟨b, 3, none⟩ = some (.pointer pr) ∧ Hid (Keep [] wr w'))
          (first | assumption | exact Cs.drew (l := [(⟨H, 0, none⟩, .int .i64 x.k), (⟨H, 1, none⟩, .int .i64 x.m), (⟨b, 0, none⟩, .int .i64 y.k), (⟨b, 1, none⟩, .int .i64 y.m), (⟨b, 2, none⟩, .pointer pl), (⟨b, 3, none⟩, .pointer pr)]) HBC | exact Cs.alloc (l := [(⟨H, 0, none⟩, .int .i64 x.k), (⟨H, 1, none⟩, .int .i64 x.m), (⟨b, 0, none⟩, .int .i64 y.k), (⟨b, 1, none⟩, .int .i64 y.m), (⟨b, 2, none⟩, .pointer pl), (⟨b, 3, none⟩, .pointer pr)]) _ (by assumption) | exact Cs.more (l := [(⟨H, 0, none⟩, .int .i64 x.k), (⟨H, 1, none⟩, .int .i64 x.m), (⟨b, 0, none⟩, .int .i64 y.k), (⟨b, 1, none⟩, .int .i64 y.m), (⟨b, 2, none⟩, .pointer pl), (⟨b, 3, none⟩, .pointer pr)]) (by assumption) (by assumption))
          (first | (go_at_call 10; refine (HC.out _).mono ?_; clear HC; rintro e w5 ⟨c5, rfl, hc5, k5⟩))
        rename_i hR5
        have HK5 := Cs.kp (l := [(⟨H, 0, none⟩, .int .i64 x.k), (⟨H, 1, none⟩, .int .i64 x.m), (⟨b, 0, none⟩, .int .i64 y.k), (⟨b, 1, none⟩, .int .i64 y.m), (⟨b, 2, none⟩, .pointer pl), (⟨b, 3, none⟩, .pointer pr)]) hR5
        have HB5 : Hid (type_of% HK5) := HK5
        obtain ⟨y0, y1, s0, s1, s2, s3, _⟩ := hR5
        go_wp2_with (go_at_call 53; refine (HCA.out _ HK5).mono ?_; clear HCA; rintro e w6 ⟨rfl, rfl⟩)
        go_roundw
        case rel =>
          refine ⟨pr, B, P ++ (A.list ++ [y]), S, rfl, ?_, HTT.out.2.keep HB5.out, HN.out.1, HN.out.2, HPS.out.2, HB.out.more HB5.out⟩
          simp
        case measure =>
          rw [HSZ.out, (HTT.out.2.keep HB5.out).sz]
          simp [TT.list]
          omega
      · have HC : Hid (∀ w9, Calls Try.prog 10 #[vP y, vP x] w9 fun e w' => ∃ c, e = .returned (.int .i64 c) ∧ 0 ≤ c ∧ Keep [] w9 w') := fun w9 => cmp_ge 10 (by decide) y x w9 hc
        have HN : Hid (T.list = P ++ (A.list ++ (y :: B.list ++ S)) ∧ (∀ a ∈ y :: B.list ++ S, x.k ≤ a.k)) := by
          have e := HL.out
          refine ⟨by rw [e]; simp [TT.list], fun a ha => ?_⟩
          rcases List.mem_append.1 ha with h1 | h1
          · rcases List.mem_cons.1 h1 with h2 | h2
            · subst h2; omega
            · have hr := HR.out
              rw [e] at hr
              have h3 := (List.pairwise_append.1 hr).2.1
              have h4 := (List.pairwise_append.1 h3).1
              have h5 := (List.pairwise_append.1 h4).2.1
              have h6 := (List.pairwise_cons.1 h5).1 a h2
              omega
          · exact HPS.out.2 a h1
        clear hA hB hbb HCA hPl hPl0 hAl0 hAl hc
        go_wp2
        go_region_held3 (fun w' => w'.cell? ⟨H, 0, none⟩ = some (.int .i64 x.k) ∧ w'.cell? ⟨H, 1, none⟩ = some (.int .i64 x.m) ∧ w'.cell? ⟨b, 0, none⟩ = some (.int .i64 y.k) ∧ w'.cell? ⟨b, 1, none⟩ = some (.int .i64 y.m) ∧ w'.cell? ⟨b, 2, none⟩ = some (.pointer pl) ∧ w'.cell? ⟨b, 3, none⟩ = some (.pointer pr) ∧ Hid (Keep [] wr w'))
          (first | assumption | exact Cs.drew (l := [(⟨H, 0, none⟩, .int .i64 x.k), (⟨H, 1, none⟩, .int .i64 x.m), (⟨b, 0, none⟩, .int .i64 y.k), (⟨b, 1, none⟩, .int .i64 y.m), (⟨b, 2, none⟩, .pointer pl), (⟨b, 3, none⟩, .pointer pr)]) HBC | exact Cs.alloc (l := [(⟨H, 0, none⟩, .int .i64 x.k), (⟨H, 1, none⟩, .int .i64 x.m), (⟨b, 0, none⟩, .int .i64 y.k), (⟨b, 1, none⟩, .int .i64 y.m), (⟨b, 2, none⟩, .pointer pl), (⟨b, 3, none⟩, .pointer pr)]) _ (by assumption) | exact Cs.more (l := [(⟨H, 0, none⟩, .int .i64 x.k), (⟨H, 1, none⟩, .int .i64 x.m), (⟨b, 0, none⟩, .int .i64 y.k), (⟨b, 1, none⟩, .int .i64 y.m), (⟨b, 2, none⟩, .pointer pl), (⟨b, 3, none⟩, .pointer pr)]) (by assumption) (by assumption))
          (first | (go_at_call 10; refine (HC.out _).mono ?_; clear HC; rintro e w5 ⟨c5, rfl, hc5, k5⟩))
        rename_i hR5
        have HK5 := Cs.kp (l := [(⟨H, 0, none⟩, .int .i64 x.k), (⟨H, 1, none⟩, .int .i64 x.m), (⟨b, 0, none⟩, .int .i64 y.k), (⟨b, 1, none⟩, .int .i64 y.m), (⟨b, 2, none⟩, .pointer pl), (⟨b, 3, none⟩, .pointer pr)]) hR5
        have HB5 : Hid (type_of% HK5) := HK5
        obtain ⟨y0, y1, s0, s1, s2, s3, _⟩ := hR5
        clear HK5 k5 HBC r0 r1 r2 r3 hx0 hx1
        go_wp2
        go_roundw
        case rel =>
          exact ⟨pl, A, P, y :: B.list ++ S, rfl, rfl, HTT.out.1.keep HB5.out, HN.out.1, HPS.out.1, HN.out.2, HB.out.more HB5.out⟩
        case measure =>
          rw [HSZ.out, (HTT.out.1.keep HB5.out).sz]
          simp [TT.list]

set_option maxRecDepth 100000 in
set_option maxHeartbeats 2000000 in
theorem rank32_any (p : Option Addr) (T : TT) (x : Pr) (w : World) (h : IsT w p T) (hr : Ris T.list) (hs : T.list.length ≤ 1152921504606846976) :
    Calls Try.prog 55 #[.pointer p, .func (.func 32) #[] #[], vP x] w fun e w' => e = .returned (.int .i64 (rnk T.list x.k : Int)) ∧ Keep [] w w' := by
  have HT : Hid (IsT w p T) := h
  have HR : Hid (Ris T.list) := hr
  have HS : Hid (T.list.length ≤ 1152921504606846976) := hs
  have HX : Hid (Bp w w.heap.size x (w.alloc (.cells #[.int .i64 x.k, .int .i64 x.m] 29))) := Bp.new w x
  obtain ⟨H, HH⟩ : ∃ H : Nat, Hid (H = w.heap.size) := ⟨_, show _ = _ from rfl⟩
  clear h hr hs
  go_enter Try.func55, Try.ntmps55
  go_wp2
  rw [← HH.out]
  go_loopw [0, 7] (fun pv bv wr => Hid (∃ q T' P S, pv = .pointer q ∧ bv = .int .i64 (P.length : Int) ∧ IsT wr q T' ∧ T.list = P ++ (T'.list ++ S) ∧ (∀ a ∈ P, a.k < x.k) ∧ (∀ a ∈ S, x.k ≤ a.k) ∧ Bp w H x wr)) (fun pv bv wr => szOf wr pv)
  case atStart => exact ⟨p, T, [], [], rfl, rfl, HT.out.keep (Keep.alloc1 _ _), by simp, by simp, by simp, by rw [HH.out]; exact HX.out⟩
  case round =>
    obtain ⟨q, T', P, S, rfl, rfl, ht, hl, hP, hS, hx0, hx1, hkk⟩ := hrel.out
    have HKK : Keep [] w wr := hkk.out
    have HL : Hid (T.list = P ++ (T'.list ++ S)) := hl
    have HPS : Hid ((∀ a ∈ P, a.k < x.k) ∧ (∀ a ∈ S, x.k ≤ a.k)) := ⟨hP, hS⟩
    have HB : Hid (Bp w H x wr) := ⟨hx0, hx1, HKK⟩
    have HSZ : Hid (szOf wr (.pointer q) = T'.list.length) := ht.sz
    have hPl : (P.length : Int) ≤ 1152921504606846976 := by have h1 := HS.out; rw [hl] at h1; simp at h1; omega
    have hPl0 : (0 : Int) ≤ (P.length : Int) := by omega
    clear hrel hkk hl hP hS HX HT
    cases T' with
    | leaf =>
      obtain rfl : q = none := ht
      go_wp2
      go_ret
      refine ⟨?_, HKK⟩
      rw [HL.out]
      simp only [TT.list, List.nil_append]
      rw [rnk_of HPS.out.1 HPS.out.2]
      rfl
    | node A y B =>
      obtain ⟨b, pl, pr, rfl, hbb, hA, hB⟩ := ht
      obtain ⟨r0, r1, r2, r3, _⟩ := node_cells hbb
      have HBB : Hid (wr.heap[b]? = some (nodeO y pl pr ((A.list.length + B.list.length + 1 : Nat) : Int))) := hbb
      have HTT : Hid (IsT wr pl A ∧ IsT wr pr B) := ⟨hA, hB⟩
      have HBC : Cs [(⟨H, 0, none⟩, .int .i64 x.k), (⟨H, 1, none⟩, .int .i64 x.m), (⟨b, 0, none⟩, .int .i64 y.k), (⟨b, 1, none⟩, .int .i64 y.m), (⟨b, 2, none⟩, .pointer pl), (⟨b, 3, none⟩, .pointer pr)] wr wr := ⟨hx0, hx1, r0, r1, r2, r3, Keep.refl _ _⟩
      have HCA : Hid (∀ w9, Keep [] wr w9 → Calls Try.prog 53 #[.pointer pl] w9 fun e w' => e = .returned (.int .i64 (A.list.length : Int)) ∧ w9 = w') := fun w9 k => (count_any pl A w9 (hA.keep k)).mono (fun e w' h => ⟨h.1, h.2.symm⟩)
      have HTot : Hid (P.length + A.list.length + 1 ≤ 1152921504606846976) := by show _ ≤ _; have h1 := HS.out; rw [HL.out] at h1; simp [TT.list] at h1; omega
      have hAl0 : (0 : Int) ≤ (A.list.length : Int) := by omega
      have hAl : (P.length : Int) + (A.list.length : Int) + 1 ≤ 1152921504606846976 := by have := HTot.out; omega
      by_cases hc : y.k < x.k
      · have HC : Hid (∀ w9, Calls Try.prog 32 #[vP y, vP x] w9 fun e w' => ∃ c, e = .returned (.int .i64 c) ∧ c < 0 ∧ Keep [] w9 w') := fun w9 => cmp_lt 32 (by decide) y x w9 hc
        have HN : Hid (T.list = (P ++ (A.list ++ [y])) ++ (B.list ++ S) ∧ (∀ a ∈ P ++ (A.list ++ [y]), a.k < x.k)) := by
          have e := HL.out
          refine ⟨by rw [e]; simp [TT.list], fun a ha => ?_⟩
          rcases List.mem_append.1 ha with h1 | h1
          · exact HPS.out.1 a h1
          · rcases List.mem_append.1 h1 with h2 | h2
            · have hr := HR.out
              rw [e] at hr
              have h3 := (List.pairwise_append.1 hr).2.1
              have h4 := (List.pairwise_append.1 h3).1
              have h5 := (List.pairwise_append.1 h4).2.2 a h2 y (by simp)
              omega
            · simp at h2; subst h2; exact hc
        clear hA hB hbb
        go_wp2
        go_region_held3 (fun w' => w'.cell? ⟨H, 0, none⟩ = some (.int .i64 x.k) ∧ w'.cell? ⟨H, 1, none⟩ = some (.int .i64 x.m) ∧ w'.cell? ⟨b, 0, none⟩ = some (.int .i64 y.k) ∧ w'.cell? ⟨b, 1, none⟩ = some (.int .i64 y.m) ∧ w'.cell? ⟨b, 2, none⟩ = some (.pointer pl) ∧ w'.cell? ⟨b, 3, none⟩ = some (.pointer pr) ∧ Hid (Keep [] wr w'))
          (first | assumption | exact Cs.drew (l := [(⟨H, 0, none⟩, .int .i64 x.k), (⟨H, 1, none⟩, .int .i64 x.m), (⟨b, 0, none⟩, .int .i64 y.k), (⟨b, 1, none⟩, .int .i64 y.m), (⟨b, 2, none⟩, .pointer pl), (⟨b, 3, none⟩, .pointer pr)]) HBC | exact Cs.alloc (l := [(⟨H, 0, none⟩, .int .i64 x.k), (⟨H, 1, none⟩, .int .i64 x.m), (⟨b, 0, none⟩, .int .i64 y.k), (⟨b, 1, none⟩, .int .i64 y.m), (⟨b, 2, none⟩, .pointer pl), (⟨b, 3, none⟩, .pointer pr)]) _ (by assumption) | exact Cs.more (l := [(⟨H, 0, none⟩, .int .i64 x.k), (⟨H, 1, none⟩, .int .i64 x.m), (⟨b, 0, none⟩, .int .i64 y.k), (⟨b, 1, none⟩, .int .i64 y.m), (⟨b, 2, none⟩, .pointer pl), (⟨b, 3, none⟩, .pointer pr)]) (by assumption) (by assumption))
          (first | (go_at_call 32; refine (HC.out _).mono ?_; clear HC; rintro e w5 ⟨c5, rfl, hc5, k5⟩))
        rename_i hR5
        have HK5 := Cs.kp (l := [(⟨H, 0, none⟩, .int .i64 x.k), (⟨H, 1, none⟩, .int .i64 x.m), (⟨b, 0, none⟩, .int .i64 y.k), (⟨b, 1, none⟩, .int .i64 y.m), (⟨b, 2, none⟩, .pointer pl), (⟨b, 3, none⟩, .pointer pr)]) hR5
        have HB5 : Hid (type_of% HK5) := HK5
        obtain ⟨y0, y1, s0, s1, s2, s3, _⟩ := hR5
        go_wp2_with (go_at_call 53; refine (HCA.out _ HK5).mono ?_; clear HCA; rintro e w6 ⟨rfl, rfl⟩)
        go_roundw
        case rel =>
          refine ⟨pr, B, P ++ (A.list ++ [y]), S, rfl, ?_, HTT.out.2.keep HB5.out, HN.out.1, HN.out.2, HPS.out.2, HB.out.more HB5.out⟩
          simp
        case measure =>
          rw [HSZ.out, (HTT.out.2.keep HB5.out).sz]
          simp [TT.list]
          omega
      · have HC : Hid (∀ w9, Calls Try.prog 32 #[vP y, vP x] w9 fun e w' => ∃ c, e = .returned (.int .i64 c) ∧ 0 ≤ c ∧ Keep [] w9 w') := fun w9 => cmp_ge 32 (by decide) y x w9 hc
        have HN : Hid (T.list = P ++ (A.list ++ (y :: B.list ++ S)) ∧ (∀ a ∈ y :: B.list ++ S, x.k ≤ a.k)) := by
          have e := HL.out
          refine ⟨by rw [e]; simp [TT.list], fun a ha => ?_⟩
          rcases List.mem_append.1 ha with h1 | h1
          · rcases List.mem_cons.1 h1 with h2 | h2
            · subst h2; omega
            · have hr := HR.out
              rw [e] at hr
              have h3 := (List.pairwise_append.1 hr).2.1
              have h4 := (List.pairwise_append.1 h3).1
              have h5 := (List.pairwise_append.1 h4).2.1
              have h6 := (List.pairwise_cons.1 h5).1 a h2
              omega
          · exact HPS.out.2 a h1
        clear hA hB hbb HCA hPl hPl0 hAl0 hAl hc
        go_wp2
        go_region_held3 (fun w' => w'.cell? ⟨H, 0, none⟩ = some (.int .i64 x.k) ∧ w'.cell? ⟨H, 1, none⟩ = some (.int .i64 x.m) ∧ w'.cell? ⟨b, 0, none⟩ = some (.int .i64 y.k) ∧ w'.cell? ⟨b, 1, none⟩ = some (.int .i64 y.m) ∧ w'.cell? ⟨b, 2, none⟩ = some (.pointer pl) ∧ w'.cell? ⟨b, 3, none⟩ = some (.pointer pr) ∧ Hid (Keep [] wr w'))
          (first | assumption | exact Cs.drew (l := [(⟨H, 0, none⟩, .int .i64 x.k), (⟨H, 1, none⟩, .int .i64 x.m), (⟨b, 0, none⟩, .int .i64 y.k), (⟨b, 1, none⟩, .int .i64 y.m), (⟨b, 2, none⟩, .pointer pl), (⟨b, 3, none⟩, .pointer pr)]) HBC | exact Cs.alloc (l := [(⟨H, 0, none⟩, .int .i64 x.k), (⟨H, 1, none⟩, .int .i64 x.m), (⟨b, 0, none⟩, .int .i64 y.k), (⟨b, 1, none⟩, .int .i64 y.m), (⟨b, 2, none⟩, .pointer pl), (⟨b, 3, none⟩, .pointer pr)]) _ (by assumption) | exact Cs.more (l := [(⟨H, 0, none⟩, .int .i64 x.k), (⟨H, 1, none⟩, .int .i64 x.m), (⟨b, 0, none⟩, .int .i64 y.k), (⟨b, 1, none⟩, .int .i64 y.m), (⟨b, 2, none⟩, .pointer pl), (⟨b, 3, none⟩, .pointer pr)]) (by assumption) (by assumption))
          (first | (go_at_call 32; refine (HC.out _).mono ?_; clear HC; rintro e w5 ⟨c5, rfl, hc5, k5⟩))
        rename_i hR5
        have HK5 := Cs.kp (l := [(⟨H, 0, none⟩, .int .i64 x.k), (⟨H, 1, none⟩, .int .i64 x.m), (⟨b, 0, none⟩, .int .i64 y.k), (⟨b, 1, none⟩, .int .i64 y.m), (⟨b, 2, none⟩, .pointer pl), (⟨b, 3, none⟩, .pointer pr)]) hR5
        have HB5 : Hid (type_of% HK5) := HK5
        obtain ⟨y0, y1, s0, s1, s2, s3, _⟩ := hR5
        clear HK5 k5 HBC r0 r1 r2 r3 hx0 hx1
        go_wp2
        go_roundw
        case rel =>
          exact ⟨pl, A, P, y :: B.list ++ S, rfl, rfl, HTT.out.1.keep HB5.out, HN.out.1, HPS.out.1, HN.out.2, HB.out.more HB5.out⟩
        case measure =>
          rw [HSZ.out, (HTT.out.1.keep HB5.out).sz]
          simp [TT.list]

theorem rank_any (k : Nat) (hk : k = 10 ∨ k = 32) (p : Option Addr) (T : TT) (x : Pr) (w : World) (h : IsT w p T) (hr : Ris T.list) (hs : T.list.length ≤ 1152921504606846976) :
    Calls Try.prog 55 #[.pointer p, .func (.func k) #[] #[], vP x] w fun e w' => e = .returned (.int .i64 (rnk T.list x.k : Int)) ∧ Keep [] w w' := by
  rcases hk with rfl | rfl
  · exact rank10_any p T x w h hr hs
  · exact rank32_any p T x w h hr hs

end Go.Proofs.Ytkelhglflpdpeaa
