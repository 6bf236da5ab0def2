/- ShelfOrdered: the stage's theorem. -/
import Derived.Test.YtkelhglflpdpeaaOm

namespace Go.Proofs.Ytkelhglflpdpeaa
open Go.RowKit Go.PlainAid


/-- between two rounds: one shelf with these elements -/
structure Oz (w : World) (xx : Pr) (bs : Nat) (L : List Pr) (W : World) : Prop where
  s : Sh W bs 32 L
  kx : Keep [] (w.alloc (.cells #[.int .i64 xx.k, .int .i64 xx.m] 29)) W
  ge : w.heap.size + 1 ≤ bs
theorem Oz.kp {w : World} {xx : Pr} {bs : Nat} {L : List Pr} {W : World} (h : Oz w xx bs L W) : Keep [] w W := (Keep.alloc1 _ _).trans' h.kx
theorem Oz.step {w : World} {xx : Pr} {bs : Nat} {L L' : List Pr} {W W' : World} (h : Oz w xx bs L W) (k : Keep [bs] W W') (s : Sh W' bs 32 L') : Oz w xx bs L' W' :=
  ⟨s, h.kx.more k (by intro y hy; simp at hy; have := h.ge; simp; omega), h.ge⟩
theorem Oz.keep {w : World} {xx : Pr} {bs : Nat} {L : List Pr} {W W' : World} (h : Oz w xx bs L W) (k : Keep [] W W') : Oz w xx bs L W' := ⟨h.s.keep0 k, h.kx.trans' k, h.ge⟩
theorem Oz.box {w : World} {xx : Pr} {bs : Nat} {L : List Pr} {W : World} (h : Oz w xx bs L W) : W.cell? ⟨w.heap.size, 0, none⟩ = some (.int .i64 xx.k) ∧ W.cell? ⟨w.heap.size, 1, none⟩ = some (.int .i64 xx.m) :=
  ⟨h.kx.cell' (Bp.new w xx).1 (by simp), h.kx.cell' (Bp.new w xx).2.1 (by simp)⟩
theorem gathered_all (B1 B2 : Nat) (L : List Pr) (z : Int) (w : World) (hq : Sq w B1 B2 L) (hl : L.length ≤ 13194139532928) (hn : (L.length : Int) ≤ z) :
    Calls Try.prog 21 #[vSq B1 B2, .int .i64 z] w fun e w' => ∃ a c, e = .returned (.slice a L.length c) ∧ Rw 29 encP 2 w' (.slice a L.length c) L ∧ Keep [] w w' ∧ Fresh w w' (.slice a L.length c) := by
  obtain ⟨n, rfl⟩ : ∃ n : Nat, z = (n : Int) := ⟨z.toNat, by omega⟩
  refine (gathered_any B1 B2 L n w hq hl).mono ?_
  rintro e w' ⟨v, he, hr, hk, hf⟩
  rw [List.take_of_length_le (by omega)] at hr
  obtain ⟨a, c, rfl, _, _⟩ := (hr.rd encP_len).form
  exact ⟨a, c, he, hr, hk, hf⟩

theorem Sh.notRow {W : World} {b k : Nat} {l : List Pr} (h : Sh W b k l) {E : TypeId} {s : Nat} {v : Value} {n : Nat} {xs : List Value} (hr : RowC W E s v n xs) (hE : E ≠ 82) : Off v [b] := fun g hg hm => by
  simp at hm
  subst hm
  obtain ⟨cur, hb⟩ := RowC.blk hr hg
  obtain ⟨p, T, a, _⟩ := h.ex
  rw [a] at hb
  cases hb
  exact hE rfl
/-- some cells, while F is written and new blocks come -/
def Ds (F : List Nat) (l : List (Addr × Value)) (w0 w' : World) : Prop := match l with
  | [] => Hid (Keep F w0 w')
  | c :: t => w'.cell? c.1 = some c.2 ∧ Ds F t w0 w'
theorem Ds.kp {F : List Nat} {l : List (Addr × Value)} {w0 w' : World} (h : Ds F l w0 w') : Keep F w0 w' := by
  induction l with
  | nil => exact Hid.out h
  | cons c t ih => exact ih h.2
theorem Ds.base {F : List Nat} {l : List (Addr × Value)} {w0 w1 w2 : World} (h : Ds F l w0 w1) (k : Keep F w1 w2) (hn : ∀ c ∈ l, c.1.block ∉ F) : Ds F l w0 w2 := by
  induction l with
  | nil => exact (Hid.out h).trans' k
  | cons c t ih => exact ⟨k.cell' h.1 (hn c (by simp)), ih h.2 (fun c hc => hn c (by simp [hc]))⟩
theorem nth_yes (b k : Nat) (l : List Pr) (i : Nat) (w : World) (h : Sh w b k l) (hs : l.length ≤ 1152921504606846976) (hi : i < l.length) :
    Calls Try.prog 34 #[vA b, .int .i64 (i : Int)] w fun e w' => e = .returned (.tuple #[vP l[i], .bool true]) ∧ Keep [] w w' := (nth_any b k l i w h hs (by omega)).mono (by
  rintro e w' ⟨z, c, he, h1, h2, h3⟩
  rw [List.getElem?_eq_getElem hi] at h1
  cases c
  · cases h1
  · cases h1; exact ⟨he, h3⟩)
theorem add_no {b k : Nat} {l : List Pr} {x : Pr} (hl : lk l x.k = some x) (w : World) (h : Sh w b k l) (hs : l.length + 2 ≤ 1152921504606846976) :
    Calls Try.prog 13 #[vA b, vP x] w fun e w' => e = .returned (.bool false) ∧ Sh w' b k l ∧ Keep [b] w w' := (add_any b k l x w h hs).mono (by
  rintro e w' ⟨he, h1, h2⟩
  rw [hl] at he
  unfold addL at h1
  rw [hl] at h1
  exact ⟨he, h1, h2⟩)

set_option maxRecDepth 100000 in
set_option maxHeartbeats 8000000 in
theorem ordered_law (v0 : Value) (os : List Oc) (xx : Pr) (w : World) (h1 : Rd encO 4 w v0 os) (ho : os.length ≤ 4398046510976) (hok : OkO os) :
    Calls Try.prog 6 #[v0, vP xx] w fun e w' => e = .returned (.bool true) ∧ Keep [] w w' := by
  obtain ⟨a1, c1, rfl, p2, p3⟩ := h1.form
  have H1 : Hid (Rd encO 4 w (.slice a1 os.length c1) os) := h1
  have HB : Hid (os.length ≤ 4398046510976 ∧ OkO os) := ⟨ho, hok⟩
  have HAw : Hid (Calls Try.prog 23 #[] (w.alloc (.cells #[.int .i64 xx.k, .int .i64 xx.m] 29)) fun e w' => e = .returned (.bool true) ∧ Keep [] (w.alloc (.cells #[.int .i64 xx.k, .int .i64 xx.m] 29)) w') := awake_any _
  have HNew : Hid (∀ w9, Calls Try.prog 9 #[vF 32] w9 fun e w' => ∃ b, e = .returned (vA b) ∧ Sh w' b 32 [] ∧ Keep [] w9 w' ∧ w9.heap.size ≤ b) := fun w9 => new_any 32 (by decide) w9
  have hoz : (os.length : Int) ≤ 4398046510976 := by omega
  have ho0 : (0 : Int) ≤ (os.length : Int) := by omega
  clear h1 ho hok
  go_enter Try.func6, Try.ntmps6
  go_wp2_with fail
  refine HAw.out.mono ?_
  clear HAw
  rintro e w1 ⟨rfl, k1⟩
  go_wp2_with fail
  refine (HNew.out _).mono ?_
  clear HNew
  rintro e w2 ⟨bs, rfl, s2, k2, g2⟩
  have HF0 : Hid (Oz w xx bs [] w2) := ⟨s2, k1.trans' k2, by have := k1.size; simp at this; omega⟩
  clear s2 k1 k2 g2
  go_wp2_with fail
  go_loopw [6] (fun iv wr => ∃ i : Nat, iv = .int .i64 (i : Int) ∧ i ≤ os.length ∧ Hid (Oz w xx bs ((os.take i).foldl stepL []) wr)) (fun iv _ => os.length - (intOf iv).toNat)
  case atStart => exact ⟨0, rfl, Nat.zero_le _, HF0.out⟩
  case round =>
    obtain ⟨i, rfl, hi, HI⟩ := hrel
    by_cases hlt : i < os.length
    · have hlti : (i : Int) < (os.length : Int) := by omega
      have hi0 : (0 : Int) ≤ (i : Int) := by omega
      obtain ⟨b, o, c2, he, hb, e0, e1, e2, e3⟩ := H1.out.call i hlt
      simp at he
      obtain ⟨rfl, rfl⟩ := he
      have hbr := HI.out.kp.cell' e1 (by simp)
      have hbx := HI.out.kp.cell' e2 (by simp)
      have hby := HI.out.kp.cell' e3 (by simp)
      have hk := HB.out.2 os[i] (List.getElem_mem hlt)
      have HPk : Hid (∀ w9, Calls Try.prog 11 #[.int .i64 os[i].c, .int .i64 3] w9 fun e w' => e = .returned (.int .i64 (pickZ os[i].c 3)) ∧ w9 = w') := fun w9 => (pick_any os[i].c 3 hk.2.1.1 hk.2.1.2 (by omega) w9).mono (fun e w' h => ⟨h.1, h.2.symm⟩)
      have HTk : Hid ((os.take (i + 1)).foldl stepL [] = stepL ((os.take i).foldl stepL []) os[i]) := by show _ = _; rw [← List.take_append_getElem hlt, List.foldl_append]; rfl
      have HLn : Hid (((os.take i).foldl stepL []).length + 3 ≤ 1152921504606846976) := by
        have h1 := steps_len (os.take i) []
        rw [List.length_take] at h1
        have h3 := HB.out.1
        simp at h1
        show _ ≤ _
        omega
      generalize hLL : (os.take i).foldl stepL [] = L at *
      obtain ⟨L', HL'⟩ : ∃ L', Hid (L' = stepL L os[i]) := ⟨_, show _ = _ from rfl⟩
      rw [← HL'.out] at HTk
      generalize os[i] = oo at *
      obtain ⟨ox, oc, x⟩ := oo
      simp only [] at e2 e3 e1 hbr hbx hby HPk
      have HBC : Cs [(⟨b, o + i * 4 + 2, none⟩, .int .i64 x.k), (⟨b, o + i * 4 + 3, none⟩, .int .i64 x.m)] w w := ⟨e2, e3, Keep.refl _ _⟩
      have hp : 0 ≤ pickZ oc 3 ∧ pickZ oc 3 < 3 := pickZ_lt oc 3 (by omega)
      have hp3 : pickZ oc 3 = 0 ∨ pickZ oc 3 = 1 ∨ pickZ oc 3 = 2 := by omega
      clear hk hLL HF0 e0 e1 hb hp
      rcases hp3 with hz | hz | hz
      · have HLs : Hid (L' = addL L x) := by show _ = _; rw [HL'.out]; unfold stepL; rw [if_pos hz]
        have HA : Hid (∀ w9, Keep [] wr w9 → Calls Try.prog 13 #[vA bs, vP x] w9 fun e w' => e = .returned (.bool (lk L x.k).isNone) ∧ Sh w' bs 32 L' ∧ Keep [bs] w9 w') := fun w9 kk => by rw [HLs.out]; exact add_any bs 32 L x w9 (HI.out.s.keep0 kk) (by have := HLn.out; omega)
        rw [hz] at HPk
        clear hz HLn HLs
        go_wp2_with fail
        refine (HPk.out _).mono ?_
        clear HPk
        rintro e w4 ⟨rfl, rfl⟩
        go_wp2_with fail
        refine (HA.out _ (Keep.refl _ _)).mono ?_
        clear HA
        rintro e w5 ⟨rfl, s5, k5⟩
        have HF : Hid (Oz w xx bs L' w5) := HI.out.step k5 s5
        clear s5 k5
        go_wp2_with fail
        go_roundw
        case rel => exact ⟨i + 1, by simp, by omega, by rw [HTk.out]; exact HF.out⟩
        case measure => simp [intOf]; omega
      · have HLs : Hid (L' = putL L x) := by show _ = _; rw [HL'.out]; unfold stepL; rw [if_neg (by rw [hz]; decide), if_pos hz]
        have HA : Hid (∀ w9, Keep [] wr w9 → Calls Try.prog 14 #[vA bs, vP x] w9 fun e w' => e = .returned (.bool (lk L x.k).isSome) ∧ Sh w' bs 32 L' ∧ Keep [bs] w9 w') := fun w9 kk => by rw [HLs.out]; exact put_any bs 32 L x w9 (HI.out.s.keep0 kk) (by have := HLn.out; omega)
        have HFi : Hid (∀ w9, Sh w9 bs 32 L' → Calls Try.prog 33 #[vA bs, vP x] w9 fun e w' => e = .returned (.tuple #[vP x, .bool true]) ∧ Keep [] w9 w') := fun w9 hs => find_yes bs 32 L' x x w9 hs (by have := HLn.out; have := put_len L x; rw [HLs.out]; omega) (by rw [HLs.out]; exact lk_put HI.out.s.ris x)
        rw [hz] at HPk
        clear hz HLn HLs
        go_wp2_with fail
        refine (HPk.out _).mono ?_
        clear HPk
        rintro e w4 ⟨rfl, rfl⟩
        go_wp2_with fail
        refine (HA.out _ (Keep.refl _ _)).mono ?_
        clear HA
        rintro e w5 ⟨rfl, s5, k5⟩
        have F5 := HI.out.step k5 s5
        have d2 := F5.kp.cell' e2 (by simp)
        have d3 := F5.kp.cell' e3 (by simp)
        go_wp2_with fail
        refine (HFi.out _ s5).mono ?_
        clear HFi
        rintro e w6 ⟨rfl, k6⟩
        have F6 := (F5.keep k6).keep (Keep.alloc1 _ (.cells #[.int .i64 x.k, .int .i64 x.m] 29))
        obtain ⟨⟨y0, y1⟩, _, _⟩ := two_facts (heap_alloc_new w6 (.cells #[.int .i64 x.k, .int .i64 x.m] 29))
        have f2 := F6.kp.cell' e2 (by simp)
        have f3 := F6.kp.cell' e3 (by simp)
        have HF : Hid (Oz w xx bs L' (w6.alloc (.cells #[.int .i64 x.k, .int .i64 x.m] 29))) := F6
        clear s5 k5 k6 F5 F6 d2 d3 hbr hbx hby
        go_wp2_with fail
        go_region_held3 (fun w' => w'.cell? ⟨w6.heap.size, 0, none⟩ = some (.int .i64 x.k) ∧ w'.cell? ⟨w6.heap.size, 1, none⟩ = some (.int .i64 x.m) ∧ w'.cell? ⟨b, o + i * 4 + 2, none⟩ = some (.int .i64 x.k) ∧ w'.cell? ⟨b, o + i * 4 + 3, none⟩ = some (.int .i64 x.m))
          (first | assumption | exact ⟨y0, y1, f2, f3⟩)
          (fail)
        have HF2 : Hid (Oz w xx bs L' (w6.alloc (.cells #[.int .i64 x.k, .int .i64 x.m] 29)).drew) := HF.out.keep ((Keep.refl [] _).drew)
        rename_i hH
        clear y0 y1 f2 f3 HF hH
        go_wp2_with fail
        go_roundw
        case rel => exact ⟨i + 1, by simp, by omega, by rw [HTk.out]; exact HF2.out⟩
        case measure => simp [intOf]; omega
      · have HLs : Hid (L' = remL L x) := by show _ = _; rw [HL'.out]; unfold stepL; rw [if_neg (by rw [hz]; decide), if_neg (by rw [hz]; decide)]
        have HA : Hid (∀ w9, Keep [] wr w9 → Calls Try.prog 16 #[vA bs, vP x] w9 fun e w' => e = .returned (.bool (lk L x.k).isSome) ∧ Sh w' bs 32 L' ∧ Keep [bs] w9 w') := fun w9 kk => by rw [HLs.out]; exact rem_any bs 32 L x w9 (HI.out.s.keep0 kk) (by have := HLn.out; omega)
        have HFi : Hid (∀ w9, Sh w9 bs 32 L' → Calls Try.prog 33 #[vA bs, vP x] w9 fun e w' => e = .returned (.tuple #[vP ⟨0, 0⟩, .bool false]) ∧ Keep [] w9 w') := fun w9 hs => find_no bs 32 L' x w9 hs (by have := HLn.out; have := rem_len L x; rw [HLs.out]; omega) (by rw [HLs.out]; exact lk_rem HI.out.s.ris x)
        rw [hz] at HPk
        clear hz HLn HLs
        go_wp2_with fail
        refine (HPk.out _).mono ?_
        clear HPk
        rintro e w4 ⟨rfl, rfl⟩
        go_wp2_with fail
        refine (HA.out _ (Keep.refl _ _)).mono ?_
        clear HA
        rintro e w5 ⟨rfl, s5, k5⟩
        have F5 := HI.out.step k5 s5
        have d2 := F5.kp.cell' e2 (by simp)
        have d3 := F5.kp.cell' e3 (by simp)
        go_wp2_with fail
        refine (HFi.out _ s5).mono ?_
        clear HFi
        rintro e w6 ⟨rfl, k6⟩
        have HF : Hid (Oz w xx bs L' (w6.alloc (.cells #[.int .i64 0, .int .i64 0] 29))) := (F5.keep k6).keep (Keep.alloc1 _ (.cells #[.int .i64 0, .int .i64 0] 29))
        clear s5 k5 k6 F5 d2 d3 hbr hbx hby
        go_wp2_with fail
        go_roundw
        case rel => exact ⟨i + 1, by simp, by omega, by rw [HTk.out]; exact HF.out⟩
        case measure => simp [intOf]; omega
    · obtain rfl : i = os.length := by omega
      have hnl : ¬ (os.length : Int) < (os.length : Int) := by omega
      have hLn := steps_len (os.take os.length) []
      rw [List.length_take, Nat.min_self] at hLn
      simp only [List.length_nil, Nat.zero_add] at hLn
      have hL3 := HB.out.1
      generalize (os.take os.length).foldl stepL [] = L at *
      have HLL : Hid (L.length ≤ os.length ∧ os.length ≤ 4398046510976) := ⟨hLn, hL3⟩
      clear hLn hL3 HF0 HB hi H1
      have HRis : Hid (Ris L) := HI.out.s.ris
      have hLz : (L.length : Int) ≤ 4398046510976 := by have := HLL.out; omega
      have hL0 : (0 : Int) ≤ (L.length : Int) := by omega
      go_wp2_with fail
      refine (shAll_any bs 32 L _ HI.out.s (by have := HLL.out; omega)).mono ?_
      rintro e x1 ⟨_, rfl, C1, C2, rfl, q1, j1, _, _⟩
      have F1 := HI.out.keep j1
      go_wp2_with fail
      refine (gathered_all C1 C2 L _ _ q1 (by have := HLL.out; omega) (by have := HLL.out; omega)).mono ?_
      rintro e x2 ⟨an, cn, rfl, r2, j2, f2⟩
      have F2 := F1.keep j2
      go_wp2_with fail
      refine (len_any bs 32 L _ F2.s).mono ?_
      rintro e x3 ⟨rfl, rfl⟩
      obtain ⟨cx2, cn1, cn2⟩ : an = an ∧ L.length ≤ cn ∧ cn ≤ 9223372036854775807 := by
        obtain ⟨a', c', he, h1, h2⟩ := (r2.rd encP_len).form
        simp at he
        obtain ⟨rfl, rfl⟩ := he
        exact ⟨rfl, h1, h2⟩
      have HG : Hid (Oz w xx bs L x2 ∧ Rw 29 encP 2 x2 (.slice an L.length cn) L ∧ (∀ g, (Value.slice an L.length cn).ownBlock = some g → w.heap.size + 1 ≤ g)) := ⟨F2, r2, fun g hg => by have h1 := (f2 g hg).1; have h2 := F1.kx.size; simp at h2; omega⟩
      clear F1 F2 q1 j1 j2 f2 r2 HI cx2
      go_wp2_with fail
      go_loopw [12, 13] (fun nv iv wr => ∃ i : Nat, iv = .int .i64 (i : Int) ∧ nv = .int .i64 (rnk (L.take i) xx.k : Int) ∧ i ≤ L.length ∧ Hid (Oz w xx bs L wr ∧ Rw 29 encP 2 wr (.slice an L.length cn) L ∧ (∀ g, (Value.slice an L.length cn).ownBlock = some g → w.heap.size + 1 ≤ g))) (fun nv iv _ => L.length - (intOf iv).toNat)
      case atStart => exact ⟨0, rfl, rfl, Nat.zero_le _, HG.out⟩
      case round =>
        clear HG
        obtain ⟨i, rfl, rfl, hi, HG⟩ := hrel
        by_cases hlt2 : i < L.length
        · have hlti : (i : Int) < (L.length : Int) := by omega
          have hi0 : (0 : Int) ≤ (i : Int) := by omega
          have HNt : Hid (∀ w9, Sh w9 bs 32 L → Calls Try.prog 34 #[vA bs, .int .i64 (i : Int)] w9 fun e w' => e = .returned (.tuple #[vP L[i], .bool true]) ∧ Keep [] w9 w') := fun w9 hs => nth_yes bs 32 L i w9 hs (by have := HLL.out; omega) hlt2
          have HFi : Hid (∀ w9, Sh w9 bs 32 L → Calls Try.prog 33 #[vA bs, .agg #[.int .i64 L[i].k, .int .i64 (-77)]] w9 fun e w' => e = .returned (.tuple #[vP L[i], .bool true]) ∧ Keep [] w9 w') := fun w9 hs => find_yes bs 32 L ⟨L[i].k, -77⟩ L[i] w9 hs (by have := HLL.out; omega) (lk_mem hs.ris hlt2)
          have HRk0 : Hid (∀ w9, Sh w9 bs 32 L → Calls Try.prog 35 #[vA bs, vP L[i]] w9 fun e w' => e = .returned (.int .i64 (i : Int)) ∧ Keep [] w9 w') := fun w9 hs => by
            have h1 := shRank_any bs 32 L L[i] w9 hs (by have := HLL.out; omega)
            rw [rnk_at hs.ris hlt2] at h1
            exact h1
          have HAd0 : Hid (∀ w9, Sh w9 bs 32 L → Calls Try.prog 13 #[vA bs, vP L[i]] w9 fun e w' => e = .returned (.bool false) ∧ Sh w' bs 32 L ∧ Keep [bs] w9 w') := fun w9 hs => add_no (lk_mem hs.ris hlt2) w9 hs (by have := HLL.out; omega)
          have HSn : Hid (rnk (L.take (i + 1)) xx.k = rnk (L.take i) xx.k + (if L[i].k < xx.k then 1 else 0)) := rnk_snoc L i hlt2 xx.k
          have HPv : Hid (∀ j, i = j + 1 → ∃ pv : Pr, L[j]? = some pv ∧ pv.k < L[i].k) := fun j hj => ⟨L[j]'(by omega), List.getElem?_eq_getElem (by omega), ris_at HRis.out hlt2 (by omega)⟩
          obtain ⟨g, oo, cq, he, hg, r0, r1⟩ := (HG.out.2.1.rd encP_len).pair i hlt2
          simp at he
          obtain ⟨rfl, rfl⟩ := he
          have HQi : Hid (L[i]? = some L[i]) := List.getElem?_eq_getElem hlt2
          generalize L[i] = q at *
          have hrn : (rnk (L.take i) xx.k : Int) ≤ (L.length : Int) := by have := rnk_le (L.take i) xx.k; rw [List.length_take] at this; omega
          have hrn0 : (0 : Int) ≤ (rnk (L.take i) xx.k : Int) := by omega
          go_wp2_with fail
          refine (HNt.out _ HG.out.1.s).mono ?_
          clear HNt
          rintro e y1 ⟨rfl, m1⟩
          have G1 := HG.out.1.keep m1
          have R1 := HG.out.2.1.keep m1 (Off.nil _)
          have G2 := G1.keep (Keep.alloc1 y1 (.cells #[.int .i64 q.k, .int .i64 q.m] 29))
          have t0 := (m1.alloc (.cells #[.int .i64 q.k, .int .i64 q.m] 29)).cell' r0 (by simp)
          have t1 := (m1.alloc (.cells #[.int .i64 q.k, .int .i64 q.m] 29)).cell' r1 (by simp)
          obtain ⟨⟨y0, y01⟩, _, _⟩ := two_facts (heap_alloc_new y1 (.cells #[.int .i64 q.k, .int .i64 q.m] 29))
          go_wp2_with fail
          refine (HFi.out _ G2.s).mono ?_
          clear HFi
          rintro e y3 ⟨rfl, m3⟩
          go_wp2_with fail
          have G3 := G2.keep m3
          have G6' := G3.keep (Keep.alloc1 y3 (.cells #[.int .i64 q.k, .int .i64 q.m] 29))
          have R6' := ((R1.keep (Keep.alloc1 y1 (.cells #[.int .i64 q.k, .int .i64 q.m] 29)) (Off.nil _)).keep m3 (Off.nil _)).keep (Keep.alloc1 y3 (.cells #[.int .i64 q.k, .int .i64 q.m] 29)) (Off.nil _)
          have m4 := m3.alloc (.cells #[.int .i64 q.k, .int .i64 q.m] 29)
          have u0 := m4.cell' y0 (by simp)
          have u1 := m4.cell' y01 (by simp)
          obtain ⟨⟨u2, u3⟩, _, _⟩ := two_facts (heap_alloc_new y3 (.cells #[.int .i64 q.k, .int .i64 q.m] 29))
          have u4' := m4.cell' t0 (by simp)
          have u5' := m4.cell' t1 (by simp)
          have hne1 : y1.heap.size ≠ bs := by have := G1.s.lt; omega
          have hne2 : y3.heap.size ≠ bs := by have := G3.s.lt; omega
          have HGb : Hid (g ≠ bs) := fun e => HG.out.1.s.notRow HG.out.2.1 (by decide) g rfl (by simp [e])
          generalize y3.alloc (.cells #[.int .i64 q.k, .int .i64 q.m] 29) = y6 at *
          generalize y3.heap.size = Bz at *
          generalize y1.heap.size = By at *
          have HRk : Hid (∀ w9, Keep [] y6 w9 → Calls Try.prog 35 #[vA bs, vP q] w9 fun e w' => e = .returned (.int .i64 (i : Int)) ∧ Keep [] w9 w') := fun w9 k => HRk0.out w9 (G6'.s.keep0 k)
          have HAd : Hid (∀ w9, Keep [] y6 w9 → Calls Try.prog 13 #[vA bs, vP q] w9 fun e w' => e = .returned (.bool false) ∧ Sh w' bs 32 L ∧ Keep [bs] w9 w') := fun w9 k => HAd0.out w9 (G6'.s.keep0 k)
          have HNe : Hid (By ≠ bs ∧ Bz ≠ bs) := ⟨hne1, hne2⟩
          have G6 := G6'
          have R6 := R6'
          have u0' := u0
          have u1' := u1
          have u2' := u2
          have u3' := u3
          clear m1 m3 m4 G1 G2 G3 R1 t0 t1 y0 y01 HRk0 HAd0 hne1 hne2 r0 r1 G6' R6' u0 u1 u2 u3 hg
          rcases Nat.eq_zero_or_pos i with hiz | hip
          · have hz0 : ¬ (0 : Int) < (i : Int) := by omega
            have hz2 : decide ((0 : Int) < (i : Int)) = false := decide_eq_false hz0
            have hz3 : decide (0 < i) = false := decide_eq_false (by omega)
            have hz4 : ¬ 0 < i := by omega
            clear hz0
            have HDs : Ds [bs] [(⟨By, 0, none⟩, .int .i64 q.k), (⟨By, 1, none⟩, .int .i64 q.m), (⟨Bz, 0, none⟩, .int .i64 q.k), (⟨Bz, 1, none⟩, .int .i64 q.m), (⟨g, oo + i * 2, none⟩, .int .i64 q.k), (⟨g, oo + i * 2 + 1, none⟩, .int .i64 q.m)] y6 y6 := ⟨u0', u1', u2', u3', u4', u5', Keep.refl _ _⟩
            have HDn : Hid (∀ c ∈ ([(⟨By, 0, none⟩, .int .i64 q.k), (⟨By, 1, none⟩, .int .i64 q.m), (⟨Bz, 0, none⟩, .int .i64 q.k), (⟨Bz, 1, none⟩, .int .i64 q.m), (⟨g, oo + i * 2, none⟩, .int .i64 q.k), (⟨g, oo + i * 2 + 1, none⟩, .int .i64 q.m)] : List (Addr × Value)), c.1.block ∉ [bs]) := by
              intro c hc
              have h1 := HNe.out
              have h2 := HGb.out
              simp at hc
              rcases hc with rfl | rfl | rfl | rfl | rfl | rfl <;> simp <;> omega
            clear HPv HQi
            clear hiz
            refine wp_region_held_drew (S := (fun w' => w'.cell? ⟨By, 0, none⟩ = some (.int .i64 q.k) ∧ w'.cell? ⟨By, 1, none⟩ = some (.int .i64 q.m) ∧ w'.cell? ⟨Bz, 0, none⟩ = some (.int .i64 q.k) ∧ w'.cell? ⟨Bz, 1, none⟩ = some (.int .i64 q.m) ∧ w'.cell? ⟨g, oo + i * 2, none⟩ = some (.int .i64 q.k) ∧ w'.cell? ⟨g, oo + i * 2 + 1, none⟩ = some (.int .i64 q.m) ∧ Hid (Keep [bs] y6 w'))) (by kernel_rfl) (Ds.base (F := [bs]) (l := [(⟨By, 0, none⟩, .int .i64 q.k), (⟨By, 1, none⟩, .int .i64 q.m), (⟨Bz, 0, none⟩, .int .i64 q.k), (⟨Bz, 1, none⟩, .int .i64 q.m), (⟨g, oo + i * 2, none⟩, .int .i64 q.k), (⟨g, oo + i * 2 + 1, none⟩, .int .i64 q.m)]) HDs ((Keep.refl _ _).drew) HDn.out) (fun hHeld => ?_)
            try dsimp only at hHeld
            refine wpAnyH_take (i := 0) (oi := { dst := some 128, op := Go.Op.move (Go.Operand.tmp 13), type := 3, pos := "outright.go:64", after := #[], guard := none }) (v := ?_) rfl (by kernel_rfl) (by kernel_rfl) (by kernel_rfl) (fun _ _ _ h => h) (Or.inl ⟨by rfl, ?_⟩) (by assumption) ?_
            rotate_left
            · intro w7 hSw
              try dsimp only at hSw
              first | (go_simp; done) | (go_simp; with_reducible rfl)
            try simp only [Act.put, List.setIfInBounds_toArray, List.set_cons_zero, List.set_cons_succ]
            refine wpAnyH_take (i := 1) (oi := { dst := some 129, op := Go.Op.binOp Go.BinOp.gtr 3 (Go.Operand.tmp 128) (Go.Operand.const (Go.Value.int Go.IntKind.i64 0)) 3, type := 4, pos := "outright.go:64", after := #[{ on := 0, ground := Go.Ground.data }], guard := none }) (v := ?_) rfl (by kernel_rfl) (by kernel_rfl) (by kernel_rfl) (fun _ _ _ h => h) (Or.inl ⟨by rfl, ?_⟩) (by assumption) ?_
            rotate_left
            · intro w7 hSw
              try dsimp only at hSw
              first | (go_simp; done) | (go_simp; with_reducible rfl)
            try simp only [Act.put, List.setIfInBounds_toArray, List.set_cons_zero, List.set_cons_succ]
            refine wpAnyH_take (i := 2) (oi := { dst := some 130, op := Go.Op.move (Go.Operand.tmp 129), type := 4, pos := "outright.go:64", after := #[{ on := 1, ground := Go.Ground.data }], guard := none }) (v := ?_) rfl (by kernel_rfl) (by kernel_rfl) (by kernel_rfl) (fun _ _ _ h => h) (Or.inl ⟨by rfl, ?_⟩) (by assumption) ?_
            rotate_left
            · intro w7 hSw
              try dsimp only at hSw
              first | (go_simp; done) | (go_simp; with_reducible rfl)
            try simp only [Act.put, List.setIfInBounds_toArray, List.set_cons_zero, List.set_cons_succ]
            refine wpAnyH_take (i := 3) (oi := { dst := some 131, op := Go.Op.move (Go.Operand.tmp 11), type := 25, pos := "outright.go:64", after := #[{ on := 2, ground := Go.Ground.guard }], guard := some (2, true) }) (v := undef) rfl (by kernel_rfl) (by kernel_rfl) (by kernel_rfl) (fun _ _ _ h => h) (Or.inr ⟨by rfl, rfl⟩) (by assumption) ?_
            try simp only [Act.put, List.setIfInBounds_toArray, List.set_cons_zero, List.set_cons_succ]
            refine wpAnyH_take (i := 4) (oi := { dst := some 132, op := Go.Op.move (Go.Operand.tmp 13), type := 3, pos := "outright.go:64", after := #[{ on := 2, ground := Go.Ground.guard }], guard := some (2, true) }) (v := undef) rfl (by kernel_rfl) (by kernel_rfl) (by kernel_rfl) (fun _ _ _ h => h) (Or.inr ⟨by rfl, rfl⟩) (by assumption) ?_
            try simp only [Act.put, List.setIfInBounds_toArray, List.set_cons_zero, List.set_cons_succ]
            refine wpAnyH_take (i := 5) (oi := { dst := some 133, op := Go.Op.binOp Go.BinOp.sub 3 (Go.Operand.tmp 132) (Go.Operand.const (Go.Value.int Go.IntKind.i64 1)) 3, type := 3, pos := "outright.go:64", after := #[{ on := 4, ground := Go.Ground.data }, { on := 2, ground := Go.Ground.guard }], guard := some (2, true) }) (v := undef) rfl (by kernel_rfl) (by kernel_rfl) (by kernel_rfl) (fun _ _ _ h => h) (Or.inr ⟨by rfl, rfl⟩) (by assumption) ?_
            try simp only [Act.put, List.setIfInBounds_toArray, List.set_cons_zero, List.set_cons_succ]
            refine wpAnyH_take (i := 6) (oi := { dst := some 134, op := Go.Op.indexAddr 25 (Go.Operand.tmp 131) (Go.Operand.tmp 133), type := 0, pos := "outright.go:64", after := #[{ on := 3, ground := Go.Ground.data }, { on := 5, ground := Go.Ground.data }, { on := 2, ground := Go.Ground.guard }], guard := some (2, true) }) (v := undef) rfl (by kernel_rfl) (by kernel_rfl) (by kernel_rfl) (fun _ _ _ h => h) (Or.inr ⟨by rfl, rfl⟩) (by assumption) ?_
            try simp only [Act.put, List.setIfInBounds_toArray, List.set_cons_zero, List.set_cons_succ]
            refine wpAnyH_take (i := 7) (oi := { dst := some 135, op := Go.Op.fieldAddr 29 (Go.Operand.tmp 134) 0, type := 0, pos := "outright.go:64", after := #[{ on := 6, ground := Go.Ground.data }, { on := 2, ground := Go.Ground.guard }], guard := some (2, true) }) (v := undef) rfl (by kernel_rfl) (by kernel_rfl) (by kernel_rfl) (fun _ _ _ h => h) (Or.inr ⟨by rfl, rfl⟩) (by assumption) ?_
            try simp only [Act.put, List.setIfInBounds_toArray, List.set_cons_zero, List.set_cons_succ]
            refine wpAnyH_take (i := 8) (oi := { dst := some 136, op := Go.Op.load 3 (Go.Operand.tmp 135), type := 3, pos := "outright.go:64", after := #[{ on := 7, ground := Go.Ground.data }, { on := 2, ground := Go.Ground.guard }], guard := some (2, true) }) (v := undef) rfl (by kernel_rfl) (by kernel_rfl) (by kernel_rfl) (fun _ _ _ h => h) (Or.inr ⟨by rfl, rfl⟩) (by assumption) ?_
            try simp only [Act.put, List.setIfInBounds_toArray, List.set_cons_zero, List.set_cons_succ]
            refine wpAnyH_take (i := 9) (oi := { dst := some 137, op := Go.Op.move (Go.Operand.tmp 11), type := 25, pos := "outright.go:64", after := #[{ on := 2, ground := Go.Ground.guard }], guard := some (2, true) }) (v := undef) rfl (by kernel_rfl) (by kernel_rfl) (by kernel_rfl) (fun _ _ _ h => h) (Or.inr ⟨by rfl, rfl⟩) (by assumption) ?_
            try simp only [Act.put, List.setIfInBounds_toArray, List.set_cons_zero, List.set_cons_succ]
            refine wpAnyH_take (i := 10) (oi := { dst := some 138, op := Go.Op.move (Go.Operand.tmp 13), type := 3, pos := "outright.go:64", after := #[{ on := 2, ground := Go.Ground.guard }], guard := some (2, true) }) (v := undef) rfl (by kernel_rfl) (by kernel_rfl) (by kernel_rfl) (fun _ _ _ h => h) (Or.inr ⟨by rfl, rfl⟩) (by assumption) ?_
            try simp only [Act.put, List.setIfInBounds_toArray, List.set_cons_zero, List.set_cons_succ]
            refine wpAnyH_take (i := 11) (oi := { dst := some 139, op := Go.Op.indexAddr 25 (Go.Operand.tmp 137) (Go.Operand.tmp 138), type := 0, pos := "outright.go:64", after := #[{ on := 9, ground := Go.Ground.data }, { on := 10, ground := Go.Ground.data }, { on := 2, ground := Go.Ground.guard }], guard := some (2, true) }) (v := undef) rfl (by kernel_rfl) (by kernel_rfl) (by kernel_rfl) (fun _ _ _ h => h) (Or.inr ⟨by rfl, rfl⟩) (by assumption) ?_
            try simp only [Act.put, List.setIfInBounds_toArray, List.set_cons_zero, List.set_cons_succ]
            refine wpAnyH_take (i := 12) (oi := { dst := some 140, op := Go.Op.fieldAddr 29 (Go.Operand.tmp 139) 0, type := 0, pos := "outright.go:64", after := #[{ on := 11, ground := Go.Ground.data }, { on := 2, ground := Go.Ground.guard }], guard := some (2, true) }) (v := undef) rfl (by kernel_rfl) (by kernel_rfl) (by kernel_rfl) (fun _ _ _ h => h) (Or.inr ⟨by rfl, rfl⟩) (by assumption) ?_
            try simp only [Act.put, List.setIfInBounds_toArray, List.set_cons_zero, List.set_cons_succ]
            refine wpAnyH_take (i := 13) (oi := { dst := some 141, op := Go.Op.load 3 (Go.Operand.tmp 140), type := 3, pos := "outright.go:64", after := #[{ on := 12, ground := Go.Ground.data }, { on := 2, ground := Go.Ground.guard }], guard := some (2, true) }) (v := undef) rfl (by kernel_rfl) (by kernel_rfl) (by kernel_rfl) (fun _ _ _ h => h) (Or.inr ⟨by rfl, rfl⟩) (by assumption) ?_
            try simp only [Act.put, List.setIfInBounds_toArray, List.set_cons_zero, List.set_cons_succ]
            refine wpAnyH_take (i := 14) (oi := { dst := some 142, op := Go.Op.binOp Go.BinOp.geq 3 (Go.Operand.tmp 136) (Go.Operand.tmp 141) 3, type := 4, pos := "outright.go:64", after := #[{ on := 8, ground := Go.Ground.data }, { on := 13, ground := Go.Ground.data }, { on := 2, ground := Go.Ground.guard }], guard := some (2, true) }) (v := undef) rfl (by kernel_rfl) (by kernel_rfl) (by kernel_rfl) (fun _ _ _ h => h) (Or.inr ⟨by rfl, rfl⟩) (by assumption) ?_
            try simp only [Act.put, List.setIfInBounds_toArray, List.set_cons_zero, List.set_cons_succ]
            refine wpAnyH_take (i := 15) (oi := { dst := some 143, op := Go.Op.pick (Go.Operand.tmp 130) (Go.Operand.tmp 142) (Go.Operand.const (Go.Value.bool false)), type := 4, pos := "outright.go:64", after := #[{ on := 2, ground := Go.Ground.data }, { on := 14, ground := Go.Ground.data }], guard := none }) (v := ?_) rfl (by kernel_rfl) (by kernel_rfl) (by kernel_rfl) (fun _ _ _ h => h) (Or.inl ⟨by rfl, ?_⟩) (by assumption) ?_
            rotate_left
            · intro w7 hSw
              try dsimp only at hSw
              first | (go_simp; done) | (go_simp; with_reducible rfl)
            try simp only [Act.put, List.setIfInBounds_toArray, List.set_cons_zero, List.set_cons_succ]
            refine wpAnyH_take (i := 16) (oi := { dst := some 144, op := Go.Op.move (Go.Operand.tmp 143), type := 4, pos := "outright.go:64", after := #[{ on := 15, ground := Go.Ground.data }, { on := 2, ground := Go.Ground.chain }], guard := none }) (v := ?_) rfl (by kernel_rfl) (by kernel_rfl) (by kernel_rfl) (fun _ _ _ h => h) (Or.inl ⟨by rfl, ?_⟩) (by assumption) ?_
            rotate_left
            · intro w7 hSw
              try dsimp only at hSw
              first | (go_simp; done) | (go_simp; with_reducible rfl)
            try simp only [Act.put, List.setIfInBounds_toArray, List.set_cons_zero, List.set_cons_succ]
            refine wpAnyH_take (i := 17) (oi := { dst := some 145, op := Go.Op.move (Go.Operand.tmp 15), type := 4, pos := "outright.go:64", after := #[{ on := 16, ground := Go.Ground.guard }], guard := some (16, false) }) (v := ?_) rfl (by kernel_rfl) (by kernel_rfl) (by kernel_rfl) (fun _ _ _ h => h) (Or.inl ⟨by rfl, ?_⟩) (by assumption) ?_
            rotate_left
            · intro w7 hSw
              try dsimp only at hSw
              first | (go_simp; done) | (go_simp; with_reducible rfl)
            try simp only [Act.put, List.setIfInBounds_toArray, List.set_cons_zero, List.set_cons_succ]
            refine wpAnyH_take (i := 18) (oi := { dst := some 146, op := Go.Op.unOp Go.UnOp.not 4 (Go.Operand.tmp 145), type := 4, pos := "outright.go:64", after := #[{ on := 17, ground := Go.Ground.data }, { on := 16, ground := Go.Ground.guard }], guard := some (16, false) }) (v := ?_) rfl (by kernel_rfl) (by kernel_rfl) (by kernel_rfl) (fun _ _ _ h => h) (Or.inl ⟨by rfl, ?_⟩) (by assumption) ?_
            rotate_left
            · intro w7 hSw
              try dsimp only at hSw
              first | (go_simp; done) | (go_simp; with_reducible rfl)
            try simp only [Act.put, List.setIfInBounds_toArray, List.set_cons_zero, List.set_cons_succ]
            refine wpAnyH_take (i := 19) (oi := { dst := some 147, op := Go.Op.pick (Go.Operand.tmp 144) (Go.Operand.const (Go.Value.bool true)) (Go.Operand.tmp 146), type := 4, pos := "outright.go:64", after := #[{ on := 16, ground := Go.Ground.data }, { on := 18, ground := Go.Ground.data }], guard := none }) (v := ?_) rfl (by kernel_rfl) (by kernel_rfl) (by kernel_rfl) (fun _ _ _ h => h) (Or.inl ⟨by rfl, ?_⟩) (by assumption) ?_
            rotate_left
            · intro w7 hSw
              try dsimp only at hSw
              first | (go_simp; done) | (go_simp; with_reducible rfl)
            try simp only [Act.put, List.setIfInBounds_toArray, List.set_cons_zero, List.set_cons_succ]
            refine wpAnyH_take (i := 20) (oi := { dst := some 148, op := Go.Op.move (Go.Operand.tmp 147), type := 4, pos := "outright.go:64", after := #[{ on := 19, ground := Go.Ground.data }, { on := 16, ground := Go.Ground.chain }], guard := none }) (v := ?_) rfl (by kernel_rfl) (by kernel_rfl) (by kernel_rfl) (fun _ _ _ h => h) (Or.inl ⟨by rfl, ?_⟩) (by assumption) ?_
            rotate_left
            · intro w7 hSw
              try dsimp only at hSw
              first | (go_simp; done) | (go_simp; with_reducible rfl)
            try simp only [Act.put, List.setIfInBounds_toArray, List.set_cons_zero, List.set_cons_succ]
            refine wpAnyH_take (i := 21) (oi := { dst := some 149, op := Go.Op.load 29 (Go.Operand.tmp 14), type := 29, pos := "outright.go:64", after := #[{ on := 20, ground := Go.Ground.guard }], guard := some (20, false) }) (v := ?_) rfl (by kernel_rfl) (by kernel_rfl) (by kernel_rfl) (fun _ _ _ h => h) (Or.inl ⟨by rfl, ?_⟩) (by assumption) ?_
            rotate_left
            · intro w7 hSw
              try dsimp only at hSw
              first | (go_simp; done) | (go_simp; with_reducible rfl)
            try simp only [Act.put, List.setIfInBounds_toArray, List.set_cons_zero, List.set_cons_succ]
            refine wpAnyH_take (i := 22) (oi := { dst := some 150, op := Go.Op.move (Go.Operand.tmp 11), type := 25, pos := "outright.go:64", after := #[{ on := 20, ground := Go.Ground.guard }], guard := some (20, false) }) (v := ?_) rfl (by kernel_rfl) (by kernel_rfl) (by kernel_rfl) (fun _ _ _ h => h) (Or.inl ⟨by rfl, ?_⟩) (by assumption) ?_
            rotate_left
            · intro w7 hSw
              try dsimp only at hSw
              first | (go_simp; done) | (go_simp; with_reducible rfl)
            try simp only [Act.put, List.setIfInBounds_toArray, List.set_cons_zero, List.set_cons_succ]
            refine wpAnyH_take (i := 23) (oi := { dst := some 151, op := Go.Op.move (Go.Operand.tmp 13), type := 3, pos := "outright.go:64", after := #[{ on := 20, ground := Go.Ground.guard }], guard := some (20, false) }) (v := ?_) rfl (by kernel_rfl) (by kernel_rfl) (by kernel_rfl) (fun _ _ _ h => h) (Or.inl ⟨by rfl, ?_⟩) (by assumption) ?_
            rotate_left
            · intro w7 hSw
              try dsimp only at hSw
              first | (go_simp; done) | (go_simp; with_reducible rfl)
            try simp only [Act.put, List.setIfInBounds_toArray, List.set_cons_zero, List.set_cons_succ]
            refine wpAnyH_take (i := 24) (oi := { dst := some 152, op := Go.Op.indexAddr 25 (Go.Operand.tmp 150) (Go.Operand.tmp 151), type := 0, pos := "outright.go:64", after := #[{ on := 22, ground := Go.Ground.data }, { on := 23, ground := Go.Ground.data }, { on := 20, ground := Go.Ground.guard }], guard := some (20, false) }) (v := ?_) rfl (by kernel_rfl) (by kernel_rfl) (by kernel_rfl) (fun _ _ _ h => h) (Or.inl ⟨by rfl, ?_⟩) (by assumption) ?_
            rotate_left
            · intro w7 hSw
              try dsimp only at hSw
              first | (go_simp; done) | (go_simp; with_reducible rfl)
            try simp only [Act.put, List.setIfInBounds_toArray, List.set_cons_zero, List.set_cons_succ]
            refine wpAnyH_take (i := 25) (oi := { dst := some 153, op := Go.Op.load 29 (Go.Operand.tmp 152), type := 29, pos := "outright.go:64", after := #[{ on := 24, ground := Go.Ground.data }, { on := 20, ground := Go.Ground.guard }], guard := some (20, false) }) (v := ?_) rfl (by kernel_rfl) (by kernel_rfl) (by kernel_rfl) (fun _ _ _ h => h) (Or.inl ⟨by rfl, ?_⟩) (by assumption) ?_
            rotate_left
            · intro w7 hSw
              try dsimp only at hSw
              first | (go_simp; done) | (go_simp; with_reducible rfl)
            try simp only [Act.put, List.setIfInBounds_toArray, List.set_cons_zero, List.set_cons_succ]
            refine wpAnyH_take (i := 26) (oi := { dst := some 154, op := Go.Op.binOp Go.BinOp.neq 29 (Go.Operand.tmp 149) (Go.Operand.tmp 153) 29, type := 4, pos := "outright.go:64", after := #[{ on := 21, ground := Go.Ground.data }, { on := 25, ground := Go.Ground.data }, { on := 20, ground := Go.Ground.guard }], guard := some (20, false) }) (v := ?_) rfl (by kernel_rfl) (by kernel_rfl) (by kernel_rfl) (fun _ _ _ h => h) (Or.inl ⟨by rfl, ?_⟩) (by assumption) ?_
            rotate_left
            · intro w7 hSw
              try dsimp only at hSw
              first | (go_simp; done) | (go_simp; with_reducible rfl)
            try simp only [Act.put, List.setIfInBounds_toArray, List.set_cons_zero, List.set_cons_succ]
            refine wpAnyH_take (i := 27) (oi := { dst := some 155, op := Go.Op.pick (Go.Operand.tmp 148) (Go.Operand.const (Go.Value.bool true)) (Go.Operand.tmp 154), type := 4, pos := "outright.go:64", after := #[{ on := 20, ground := Go.Ground.data }, { on := 26, ground := Go.Ground.data }], guard := none }) (v := ?_) rfl (by kernel_rfl) (by kernel_rfl) (by kernel_rfl) (fun _ _ _ h => h) (Or.inl ⟨by rfl, ?_⟩) (by assumption) ?_
            rotate_left
            · intro w7 hSw
              try dsimp only at hSw
              first | (go_simp; done) | (go_simp; with_reducible rfl)
            try simp only [Act.put, List.setIfInBounds_toArray, List.set_cons_zero, List.set_cons_succ]
            refine wpAnyH_take (i := 28) (oi := { dst := some 156, op := Go.Op.move (Go.Operand.tmp 155), type := 4, pos := "outright.go:64", after := #[{ on := 27, ground := Go.Ground.data }, { on := 20, ground := Go.Ground.chain }], guard := none }) (v := ?_) rfl (by kernel_rfl) (by kernel_rfl) (by kernel_rfl) (fun _ _ _ h => h) (Or.inl ⟨by rfl, ?_⟩) (by assumption) ?_
            rotate_left
            · intro w7 hSw
              try dsimp only at hSw
              first | (go_simp; done) | (go_simp; with_reducible rfl)
            try simp only [Act.put, List.setIfInBounds_toArray, List.set_cons_zero, List.set_cons_succ]
            refine wpAnyH_take (i := 29) (oi := { dst := some 157, op := Go.Op.move (Go.Operand.tmp 17), type := 4, pos := "outright.go:64", after := #[{ on := 28, ground := Go.Ground.guard }], guard := some (28, false) }) (v := ?_) rfl (by kernel_rfl) (by kernel_rfl) (by kernel_rfl) (fun _ _ _ h => h) (Or.inl ⟨by rfl, ?_⟩) (by assumption) ?_
            rotate_left
            · intro w7 hSw
              try dsimp only at hSw
              first | (go_simp; done) | (go_simp; with_reducible rfl)
            try simp only [Act.put, List.setIfInBounds_toArray, List.set_cons_zero, List.set_cons_succ]
            refine wpAnyH_take (i := 30) (oi := { dst := some 158, op := Go.Op.unOp Go.UnOp.not 4 (Go.Operand.tmp 157), type := 4, pos := "outright.go:64", after := #[{ on := 29, ground := Go.Ground.data }, { on := 28, ground := Go.Ground.guard }], guard := some (28, false) }) (v := ?_) rfl (by kernel_rfl) (by kernel_rfl) (by kernel_rfl) (fun _ _ _ h => h) (Or.inl ⟨by rfl, ?_⟩) (by assumption) ?_
            rotate_left
            · intro w7 hSw
              try dsimp only at hSw
              first | (go_simp; done) | (go_simp; with_reducible rfl)
            try simp only [Act.put, List.setIfInBounds_toArray, List.set_cons_zero, List.set_cons_succ]
            refine wpAnyH_take (i := 31) (oi := { dst := some 159, op := Go.Op.pick (Go.Operand.tmp 156) (Go.Operand.const (Go.Value.bool true)) (Go.Operand.tmp 158), type := 4, pos := "outright.go:64", after := #[{ on := 28, ground := Go.Ground.data }, { on := 30, ground := Go.Ground.data }], guard := none }) (v := ?_) rfl (by kernel_rfl) (by kernel_rfl) (by kernel_rfl) (fun _ _ _ h => h) (Or.inl ⟨by rfl, ?_⟩) (by assumption) ?_
            rotate_left
            · intro w7 hSw
              try dsimp only at hSw
              first | (go_simp; done) | (go_simp; with_reducible rfl)
            try simp only [Act.put, List.setIfInBounds_toArray, List.set_cons_zero, List.set_cons_succ]
            refine wpAnyH_take (i := 32) (oi := { dst := some 160, op := Go.Op.move (Go.Operand.tmp 159), type := 4, pos := "outright.go:64", after := #[{ on := 31, ground := Go.Ground.data }, { on := 28, ground := Go.Ground.chain }], guard := none }) (v := ?_) rfl (by kernel_rfl) (by kernel_rfl) (by kernel_rfl) (fun _ _ _ h => h) (Or.inl ⟨by rfl, ?_⟩) (by assumption) ?_
            rotate_left
            · intro w7 hSw
              try dsimp only at hSw
              first | (go_simp; done) | (go_simp; with_reducible rfl)
            try simp only [Act.put, List.setIfInBounds_toArray, List.set_cons_zero, List.set_cons_succ]
            refine wpAnyH_take (i := 33) (oi := { dst := some 161, op := Go.Op.load 29 (Go.Operand.tmp 16), type := 29, pos := "outright.go:64", after := #[{ on := 32, ground := Go.Ground.guard }], guard := some (32, false) }) (v := ?_) rfl (by kernel_rfl) (by kernel_rfl) (by kernel_rfl) (fun _ _ _ h => h) (Or.inl ⟨by rfl, ?_⟩) (by assumption) ?_
            rotate_left
            · intro w7 hSw
              try dsimp only at hSw
              first | (go_simp; done) | (go_simp; with_reducible rfl)
            try simp only [Act.put, List.setIfInBounds_toArray, List.set_cons_zero, List.set_cons_succ]
            refine wpAnyH_take (i := 34) (oi := { dst := some 162, op := Go.Op.move (Go.Operand.tmp 11), type := 25, pos := "outright.go:64", after := #[{ on := 32, ground := Go.Ground.guard }], guard := some (32, false) }) (v := ?_) rfl (by kernel_rfl) (by kernel_rfl) (by kernel_rfl) (fun _ _ _ h => h) (Or.inl ⟨by rfl, ?_⟩) (by assumption) ?_
            rotate_left
            · intro w7 hSw
              try dsimp only at hSw
              first | (go_simp; done) | (go_simp; with_reducible rfl)
            try simp only [Act.put, List.setIfInBounds_toArray, List.set_cons_zero, List.set_cons_succ]
            refine wpAnyH_take (i := 35) (oi := { dst := some 163, op := Go.Op.move (Go.Operand.tmp 13), type := 3, pos := "outright.go:64", after := #[{ on := 32, ground := Go.Ground.guard }], guard := some (32, false) }) (v := ?_) rfl (by kernel_rfl) (by kernel_rfl) (by kernel_rfl) (fun _ _ _ h => h) (Or.inl ⟨by rfl, ?_⟩) (by assumption) ?_
            rotate_left
            · intro w7 hSw
              try dsimp only at hSw
              first | (go_simp; done) | (go_simp; with_reducible rfl)
            try simp only [Act.put, List.setIfInBounds_toArray, List.set_cons_zero, List.set_cons_succ]
            refine wpAnyH_take (i := 36) (oi := { dst := some 164, op := Go.Op.indexAddr 25 (Go.Operand.tmp 162) (Go.Operand.tmp 163), type := 0, pos := "outright.go:64", after := #[{ on := 34, ground := Go.Ground.data }, { on := 35, ground := Go.Ground.data }, { on := 32, ground := Go.Ground.guard }], guard := some (32, false) }) (v := ?_) rfl (by kernel_rfl) (by kernel_rfl) (by kernel_rfl) (fun _ _ _ h => h) (Or.inl ⟨by rfl, ?_⟩) (by assumption) ?_
            rotate_left
            · intro w7 hSw
              try dsimp only at hSw
              first | (go_simp; done) | (go_simp; with_reducible rfl)
            try simp only [Act.put, List.setIfInBounds_toArray, List.set_cons_zero, List.set_cons_succ]
            refine wpAnyH_take (i := 37) (oi := { dst := some 165, op := Go.Op.load 29 (Go.Operand.tmp 164), type := 29, pos := "outright.go:64", after := #[{ on := 36, ground := Go.Ground.data }, { on := 32, ground := Go.Ground.guard }], guard := some (32, false) }) (v := ?_) rfl (by kernel_rfl) (by kernel_rfl) (by kernel_rfl) (fun _ _ _ h => h) (Or.inl ⟨by rfl, ?_⟩) (by assumption) ?_
            rotate_left
            · intro w7 hSw
              try dsimp only at hSw
              first | (go_simp; done) | (go_simp; with_reducible rfl)
            try simp only [Act.put, List.setIfInBounds_toArray, List.set_cons_zero, List.set_cons_succ]
            refine wpAnyH_take (i := 38) (oi := { dst := some 166, op := Go.Op.binOp Go.BinOp.neq 29 (Go.Operand.tmp 161) (Go.Operand.tmp 165) 29, type := 4, pos := "outright.go:64", after := #[{ on := 33, ground := Go.Ground.data }, { on := 37, ground := Go.Ground.data }, { on := 32, ground := Go.Ground.guard }], guard := some (32, false) }) (v := ?_) rfl (by kernel_rfl) (by kernel_rfl) (by kernel_rfl) (fun _ _ _ h => h) (Or.inl ⟨by rfl, ?_⟩) (by assumption) ?_
            rotate_left
            · intro w7 hSw
              try dsimp only at hSw
              first | (go_simp; done) | (go_simp; with_reducible rfl)
            try simp only [Act.put, List.setIfInBounds_toArray, List.set_cons_zero, List.set_cons_succ]
            refine wpAnyH_take (i := 39) (oi := { dst := some 167, op := Go.Op.pick (Go.Operand.tmp 160) (Go.Operand.const (Go.Value.bool true)) (Go.Operand.tmp 166), type := 4, pos := "outright.go:64", after := #[{ on := 32, ground := Go.Ground.data }, { on := 38, ground := Go.Ground.data }], guard := none }) (v := ?_) rfl (by kernel_rfl) (by kernel_rfl) (by kernel_rfl) (fun _ _ _ h => h) (Or.inl ⟨by rfl, ?_⟩) (by assumption) ?_
            rotate_left
            · intro w7 hSw
              try dsimp only at hSw
              first | (go_simp; done) | (go_simp; with_reducible rfl)
            try simp only [Act.put, List.setIfInBounds_toArray, List.set_cons_zero, List.set_cons_succ]
            refine wpAnyH_take (i := 40) (oi := { dst := some 168, op := Go.Op.move (Go.Operand.tmp 167), type := 4, pos := "outright.go:64", after := #[{ on := 39, ground := Go.Ground.data }, { on := 32, ground := Go.Ground.chain }], guard := none }) (v := ?_) rfl (by kernel_rfl) (by kernel_rfl) (by kernel_rfl) (fun _ _ _ h => h) (Or.inl ⟨by rfl, ?_⟩) (by assumption) ?_
            rotate_left
            · intro w7 hSw
              try dsimp only at hSw
              first | (go_simp; done) | (go_simp; with_reducible rfl)
            try simp only [Act.put, List.setIfInBounds_toArray, List.set_cons_zero, List.set_cons_succ]
            refine wpAnyH_take (i := 41) (oi := { dst := some 169, op := Go.Op.move (Go.Operand.tmp 5), type := 23, pos := "outright.go:64", after := #[{ on := 40, ground := Go.Ground.guard }], guard := some (40, false) }) (v := ?_) rfl (by kernel_rfl) (by kernel_rfl) (by kernel_rfl) (fun _ _ _ h => h) (Or.inl ⟨by rfl, ?_⟩) (by assumption) ?_
            rotate_left
            · intro w7 hSw
              try dsimp only at hSw
              first | (go_simp; done) | (go_simp; with_reducible rfl)
            try simp only [Act.put, List.setIfInBounds_toArray, List.set_cons_zero, List.set_cons_succ]
            refine wpAnyH_take (i := 42) (oi := { dst := some 170, op := Go.Op.move (Go.Operand.tmp 11), type := 25, pos := "outright.go:64", after := #[{ on := 40, ground := Go.Ground.guard }], guard := some (40, false) }) (v := ?_) rfl (by kernel_rfl) (by kernel_rfl) (by kernel_rfl) (fun _ _ _ h => h) (Or.inl ⟨by rfl, ?_⟩) (by assumption) ?_
            rotate_left
            · intro w7 hSw
              try dsimp only at hSw
              first | (go_simp; done) | (go_simp; with_reducible rfl)
            try simp only [Act.put, List.setIfInBounds_toArray, List.set_cons_zero, List.set_cons_succ]
            refine wpAnyH_take (i := 43) (oi := { dst := some 171, op := Go.Op.move (Go.Operand.tmp 13), type := 3, pos := "outright.go:64", after := #[{ on := 40, ground := Go.Ground.guard }], guard := some (40, false) }) (v := ?_) rfl (by kernel_rfl) (by kernel_rfl) (by kernel_rfl) (fun _ _ _ h => h) (Or.inl ⟨by rfl, ?_⟩) (by assumption) ?_
            rotate_left
            · intro w7 hSw
              try dsimp only at hSw
              first | (go_simp; done) | (go_simp; with_reducible rfl)
            try simp only [Act.put, List.setIfInBounds_toArray, List.set_cons_zero, List.set_cons_succ]
            refine wpAnyH_take (i := 44) (oi := { dst := some 172, op := Go.Op.indexAddr 25 (Go.Operand.tmp 170) (Go.Operand.tmp 171), type := 0, pos := "outright.go:64", after := #[{ on := 42, ground := Go.Ground.data }, { on := 43, ground := Go.Ground.data }, { on := 40, ground := Go.Ground.guard }], guard := some (40, false) }) (v := ?_) rfl (by kernel_rfl) (by kernel_rfl) (by kernel_rfl) (fun _ _ _ h => h) (Or.inl ⟨by rfl, ?_⟩) (by assumption) ?_
            rotate_left
            · intro w7 hSw
              try dsimp only at hSw
              first | (go_simp; done) | (go_simp; with_reducible rfl)
            try simp only [Act.put, List.setIfInBounds_toArray, List.set_cons_zero, List.set_cons_succ]
            refine wpAnyH_take (i := 45) (oi := { dst := some 173, op := Go.Op.load 29 (Go.Operand.tmp 172), type := 29, pos := "outright.go:64", after := #[{ on := 44, ground := Go.Ground.data }, { on := 40, ground := Go.Ground.guard }], guard := some (40, false) }) (v := ?_) rfl (by kernel_rfl) (by kernel_rfl) (by kernel_rfl) (fun _ _ _ h => h) (Or.inl ⟨by rfl, ?_⟩) (by assumption) ?_
            rotate_left
            · intro w7 hSw
              try dsimp only at hSw
              first | (go_simp; done) | (go_simp; with_reducible rfl)
            try simp only [Act.put, List.setIfInBounds_toArray, List.set_cons_zero, List.set_cons_succ]
            refine wpAnyH_take (i := 47) (oi := { dst := some 175, op := Go.Op.move (Go.Operand.tmp 13), type := 3, pos := "outright.go:64", after := #[{ on := 40, ground := Go.Ground.guard }], guard := some (40, false) }) (v := ?_) rfl (by kernel_rfl) (by kernel_rfl) (by kernel_rfl) (fun _ _ _ h => h) (Or.inl ⟨by rfl, ?_⟩) (by assumption) ?_
            rotate_left
            · intro w7 hSw
              try dsimp only at hSw
              first | (go_simp; done) | (go_simp; with_reducible rfl)
            try simp only [Act.put, List.setIfInBounds_toArray, List.set_cons_zero, List.set_cons_succ]
            refine wpAnyH_ready (rs := [46]) (by kernel_rfl) (by simp) ?_
            refine AllReadyH.cons (o := { dst := some 174, op := Go.Op.call { callee := Go.Callee.value (Go.Operand.func 35), args := #[Go.Operand.tmp 169, Go.Operand.tmp 173], argTypes := #[23, 29] }, type := 3, pos := "outright.go:64", after := #[{ on := 41, ground := Go.Ground.data }, { on := 45, ground := Go.Ground.data }, { on := 40, ground := Go.Ground.chain }, { on := 40, ground := Go.Ground.guard }], guard := some (40, false) }) rfl (fun K hK => ?_) AllReadyH.nil
            go_simp
            (go_at_call 35; refine (HRk.out _ ((Keep.refl [] _).drew)).mono ?_; clear HRk; rintro e w7 ⟨rfl, k7⟩)
            go_wp2_with fail
            refine hK.out _ _ (Ds.base (F := [bs]) (l := [(⟨By, 0, none⟩, .int .i64 q.k), (⟨By, 1, none⟩, .int .i64 q.m), (⟨Bz, 0, none⟩, .int .i64 q.k), (⟨Bz, 1, none⟩, .int .i64 q.m), (⟨g, oo + i * 2, none⟩, .int .i64 q.k), (⟨g, oo + i * 2 + 1, none⟩, .int .i64 q.m)]) HDs (((Keep.refl _ _).drew).trans' (k7.mono (by simp))) HDn.out) (fun hHeld2 => ?_)
            try dsimp only at hHeld2
            clear hK hHeld
            have hHeld := hHeld2
            clear hHeld2
            try simp only [Act.put, List.setIfInBounds_toArray, List.set_cons_zero, List.set_cons_succ]
            refine wpAnyH_take (i := 48) (oi := { dst := some 176, op := Go.Op.binOp Go.BinOp.neq 3 (Go.Operand.tmp 174) (Go.Operand.tmp 175) 3, type := 4, pos := "outright.go:64", after := #[{ on := 46, ground := Go.Ground.data }, { on := 47, ground := Go.Ground.data }, { on := 40, ground := Go.Ground.guard }], guard := some (40, false) }) (v := ?_) rfl (by kernel_rfl) (by kernel_rfl) (by kernel_rfl) (fun _ _ _ h => h) (Or.inl ⟨by rfl, ?_⟩) (by assumption) ?_
            rotate_left
            · intro w7 hSw
              try dsimp only at hSw
              first | (go_simp; done) | (go_simp; with_reducible rfl)
            try simp only [Act.put, List.setIfInBounds_toArray, List.set_cons_zero, List.set_cons_succ]
            refine wpAnyH_take (i := 49) (oi := { dst := some 177, op := Go.Op.pick (Go.Operand.tmp 168) (Go.Operand.const (Go.Value.bool true)) (Go.Operand.tmp 176), type := 4, pos := "outright.go:64", after := #[{ on := 40, ground := Go.Ground.data }, { on := 48, ground := Go.Ground.data }], guard := none }) (v := ?_) rfl (by kernel_rfl) (by kernel_rfl) (by kernel_rfl) (fun _ _ _ h => h) (Or.inl ⟨by rfl, ?_⟩) (by assumption) ?_
            rotate_left
            · intro w7 hSw
              try dsimp only at hSw
              first | (go_simp; done) | (go_simp; with_reducible rfl)
            try simp only [Act.put, List.setIfInBounds_toArray, List.set_cons_zero, List.set_cons_succ]
            refine wpAnyH_take (i := 50) (oi := { dst := some 178, op := Go.Op.move (Go.Operand.tmp 177), type := 4, pos := "outright.go:64", after := #[{ on := 49, ground := Go.Ground.data }, { on := 46, ground := Go.Ground.chain }], guard := none }) (v := ?_) rfl (by kernel_rfl) (by kernel_rfl) (by kernel_rfl) (fun _ _ _ h => h) (Or.inl ⟨by rfl, ?_⟩) (by assumption) ?_
            rotate_left
            · intro w7 hSw
              try dsimp only at hSw
              first | (go_simp; done) | (go_simp; with_reducible rfl)
            try simp only [Act.put, List.setIfInBounds_toArray, List.set_cons_zero, List.set_cons_succ]
            refine wpAnyH_take (i := 51) (oi := { dst := some 179, op := Go.Op.move (Go.Operand.tmp 5), type := 23, pos := "outright.go:64", after := #[{ on := 50, ground := Go.Ground.guard }], guard := some (50, false) }) (v := ?_) rfl (by kernel_rfl) (by kernel_rfl) (by kernel_rfl) (fun _ _ _ h => h) (Or.inl ⟨by rfl, ?_⟩) (by assumption) ?_
            rotate_left
            · intro w7 hSw
              try dsimp only at hSw
              first | (go_simp; done) | (go_simp; with_reducible rfl)
            try simp only [Act.put, List.setIfInBounds_toArray, List.set_cons_zero, List.set_cons_succ]
            refine wpAnyH_take (i := 52) (oi := { dst := some 180, op := Go.Op.move (Go.Operand.tmp 11), type := 25, pos := "outright.go:64", after := #[{ on := 50, ground := Go.Ground.guard }], guard := some (50, false) }) (v := ?_) rfl (by kernel_rfl) (by kernel_rfl) (by kernel_rfl) (fun _ _ _ h => h) (Or.inl ⟨by rfl, ?_⟩) (by assumption) ?_
            rotate_left
            · intro w7 hSw
              try dsimp only at hSw
              first | (go_simp; done) | (go_simp; with_reducible rfl)
            try simp only [Act.put, List.setIfInBounds_toArray, List.set_cons_zero, List.set_cons_succ]
            refine wpAnyH_take (i := 53) (oi := { dst := some 181, op := Go.Op.move (Go.Operand.tmp 13), type := 3, pos := "outright.go:64", after := #[{ on := 50, ground := Go.Ground.guard }], guard := some (50, false) }) (v := ?_) rfl (by kernel_rfl) (by kernel_rfl) (by kernel_rfl) (fun _ _ _ h => h) (Or.inl ⟨by rfl, ?_⟩) (by assumption) ?_
            rotate_left
            · intro w7 hSw
              try dsimp only at hSw
              first | (go_simp; done) | (go_simp; with_reducible rfl)
            try simp only [Act.put, List.setIfInBounds_toArray, List.set_cons_zero, List.set_cons_succ]
            refine wpAnyH_take (i := 54) (oi := { dst := some 182, op := Go.Op.indexAddr 25 (Go.Operand.tmp 180) (Go.Operand.tmp 181), type := 0, pos := "outright.go:64", after := #[{ on := 52, ground := Go.Ground.data }, { on := 53, ground := Go.Ground.data }, { on := 50, ground := Go.Ground.guard }], guard := some (50, false) }) (v := ?_) rfl (by kernel_rfl) (by kernel_rfl) (by kernel_rfl) (fun _ _ _ h => h) (Or.inl ⟨by rfl, ?_⟩) (by assumption) ?_
            rotate_left
            · intro w7 hSw
              try dsimp only at hSw
              first | (go_simp; done) | (go_simp; with_reducible rfl)
            try simp only [Act.put, List.setIfInBounds_toArray, List.set_cons_zero, List.set_cons_succ]
            refine wpAnyH_take (i := 55) (oi := { dst := some 183, op := Go.Op.load 29 (Go.Operand.tmp 182), type := 29, pos := "outright.go:64", after := #[{ on := 54, ground := Go.Ground.data }, { on := 50, ground := Go.Ground.guard }], guard := some (50, false) }) (v := ?_) rfl (by kernel_rfl) (by kernel_rfl) (by kernel_rfl) (fun _ _ _ h => h) (Or.inl ⟨by rfl, ?_⟩) (by assumption) ?_
            rotate_left
            · intro w7 hSw
              try dsimp only at hSw
              first | (go_simp; done) | (go_simp; with_reducible rfl)
            try simp only [Act.put, List.setIfInBounds_toArray, List.set_cons_zero, List.set_cons_succ]
            refine wpAnyH_ready (rs := [56]) (by kernel_rfl) (by simp) ?_
            refine AllReadyH.cons (o := { dst := some 184, op := Go.Op.call { callee := Go.Callee.value (Go.Operand.func 13), args := #[Go.Operand.tmp 179, Go.Operand.tmp 183], argTypes := #[23, 29] }, type := 4, pos := "outright.go:64", after := #[{ on := 51, ground := Go.Ground.data }, { on := 55, ground := Go.Ground.data }, { on := 50, ground := Go.Ground.chain }, { on := 50, ground := Go.Ground.guard }], guard := some (50, false) }) rfl (fun K hK => ?_) AllReadyH.nil
            go_simp
            (go_at_call 13; refine (HAd.out _ ((Keep.refl [] _).drew.trans' k7)).mono ?_; clear HAd; rintro e w8 ⟨rfl, s8, k8⟩)
            go_wp2_with fail
            refine hK.out _ _ (Ds.base (F := [bs]) (l := [(⟨By, 0, none⟩, .int .i64 q.k), (⟨By, 1, none⟩, .int .i64 q.m), (⟨Bz, 0, none⟩, .int .i64 q.k), (⟨Bz, 1, none⟩, .int .i64 q.m), (⟨g, oo + i * 2, none⟩, .int .i64 q.k), (⟨g, oo + i * 2 + 1, none⟩, .int .i64 q.m)]) HDs ((((Keep.refl _ _).drew).trans' (k7.mono (by simp))).trans' k8) HDn.out) (fun hHeld2 => ?_)
            try dsimp only at hHeld2
            clear hK hHeld
            have hHeld := hHeld2
            clear hHeld2
            try simp only [Act.put, List.setIfInBounds_toArray, List.set_cons_zero, List.set_cons_succ]
            refine wpAnyH_take (i := 57) (oi := { dst := some 185, op := Go.Op.pick (Go.Operand.tmp 178) (Go.Operand.const (Go.Value.bool true)) (Go.Operand.tmp 184), type := 4, pos := "outright.go:64", after := #[{ on := 50, ground := Go.Ground.data }, { on := 56, ground := Go.Ground.data }], guard := none }) (v := ?_) rfl (by kernel_rfl) (by kernel_rfl) (by kernel_rfl) (fun _ _ _ h => h) (Or.inl ⟨by rfl, ?_⟩) (by assumption) ?_
            rotate_left
            · intro w7 hSw
              try dsimp only at hSw
              first | (go_simp; done) | (go_simp; with_reducible rfl)
            try simp only [Act.put, List.setIfInBounds_toArray, List.set_cons_zero, List.set_cons_succ]
            refine wpAnyH_done (by kernel_rfl) ?_ _
            have GG := ((G6.keep ((Keep.refl [] _).drew)).keep k7).step k8 s8
            have RA := (R6.keep ((Keep.refl [] _).drew) (Off.nil _)).keep k7 (Off.nil _)
            have RR := RA.keep k8 (((G6.keep ((Keep.refl [] _).drew)).keep k7).s.notRow RA (by decide))
            obtain ⟨cx0, cx1⟩ := GG.box
            have cg0 := ((Keep.refl [] y6).drew.trans' k7).cell' u4' (by simp)
            have cg1 := k8.cell' cg0 (by simp; exact HGb.out)
            have HGG : Hid (Oz w xx bs L w8 ∧ Rw 29 encP 2 w8 (.slice (some ⟨g, oo, none⟩) L.length cn) L ∧ (∀ g_1, (Value.slice (some ⟨g, oo, none⟩) L.length cn).ownBlock = some g_1 → w.heap.size + 1 ≤ g_1)) := ⟨GG, RR, HG.out.2.2⟩
            clear hHeld GG RA RR s8 k7 k8 G6 R6 HDs HDn cg0 u0' u1' u2' u3' u4' u5' HG
            by_cases hq : q.k < xx.k
            · have HSq : Hid (rnk (L.take (i + 1)) xx.k = rnk (L.take (i)) xx.k + 1) := by show _ = _; rw [HSn.out, if_pos hq]
              go_wp2_with fail
              go_region_held3 (fun w' => w'.cell? ⟨g, oo + i * 2, none⟩ = some (.int .i64 q.k) ∧ w'.cell? ⟨w.heap.size, 0, none⟩ = some (.int .i64 xx.k))
                (first | assumption | exact ⟨cg1, cx0⟩)
                (fail)
              rename_i hH
              clear hH cg1 cx0 cx1
              go_wp2_with fail
              go_roundw
              case rel => exact ⟨i + 1, by simp, by rw [HSq.out]; simp, by omega, HGG.out.1.keep ((Keep.refl [] _).drew), HGG.out.2.1.keep ((Keep.refl [] _).drew) (Off.nil _), HGG.out.2.2⟩
              case measure => simp [intOf]; omega
            · have HSq : Hid (rnk (L.take (i + 1)) xx.k = rnk (L.take (i)) xx.k) := by show _ = _; rw [HSn.out, if_neg hq]; rfl
              go_wp2_with fail
              go_region_held3 (fun w' => w'.cell? ⟨g, oo + i * 2, none⟩ = some (.int .i64 q.k) ∧ w'.cell? ⟨w.heap.size, 0, none⟩ = some (.int .i64 xx.k))
                (first | assumption | exact ⟨cg1, cx0⟩)
                (fail)
              rename_i hH
              clear hH cg1 cx0 cx1
              go_wp2_with fail
              go_roundw
              case rel => exact ⟨i + 1, by simp, by rw [HSq.out], by omega, HGG.out.1.keep ((Keep.refl [] _).drew), HGG.out.2.1.keep ((Keep.refl [] _).drew) (Off.nil _), HGG.out.2.2⟩
              case measure => simp [intOf]; omega
          · obtain ⟨j, rfl⟩ : ∃ j, i = j + 1 := ⟨i - 1, by omega⟩
            obtain ⟨pv, hpv, hpk⟩ := HPv.out j rfl
            have hjl : j < L.length := by omega
            have u6 : y6.cell? ⟨g, oo + j * 2, none⟩ = some (.int .i64 pv.k) := by
              obtain ⟨g', o', c', he', _, h0', _⟩ := (R6.rd encP_len).pair j hjl
              simp at he'
              obtain ⟨⟨rfl, rfl⟩, _⟩ := he'
              rw [List.getElem?_eq_getElem hjl] at hpv
              rw [← Option.some.inj hpv]
              exact h0'
            have HDs : Ds [bs] [(⟨By, 0, none⟩, .int .i64 q.k), (⟨By, 1, none⟩, .int .i64 q.m), (⟨Bz, 0, none⟩, .int .i64 q.k), (⟨Bz, 1, none⟩, .int .i64 q.m), (⟨g, oo + (j + 1) * 2, none⟩, .int .i64 q.k), (⟨g, oo + (j + 1) * 2 + 1, none⟩, .int .i64 q.m), (⟨g, oo + j * 2, none⟩, .int .i64 pv.k)] y6 y6 := ⟨u0', u1', u2', u3', u4', u5', u6, Keep.refl _ _⟩
            have HDn : Hid (∀ c ∈ ([(⟨By, 0, none⟩, .int .i64 q.k), (⟨By, 1, none⟩, .int .i64 q.m), (⟨Bz, 0, none⟩, .int .i64 q.k), (⟨Bz, 1, none⟩, .int .i64 q.m), (⟨g, oo + (j + 1) * 2, none⟩, .int .i64 q.k), (⟨g, oo + (j + 1) * 2 + 1, none⟩, .int .i64 q.m), (⟨g, oo + j * 2, none⟩, .int .i64 pv.k)] : List (Addr × Value)), c.1.block ∉ [bs]) := by
              intro c hc
              have h1 := HNe.out
              have h2 := HGb.out
              simp at hc
              rcases hc with rfl | rfl | rfl | rfl | rfl | rfl | rfl <;> simp <;> omega
            clear HPv hpv HQi
            have hcast : ((j + 1 : Nat) : Int) = (j : Int) + 1 := by omega
            rw [hcast] at hlti hi0 HRk ⊢
            have hj0 : (0 : Int) ≤ (j : Int) := by omega
            have hj1 : (j : Int) < (L.length : Int) := by omega
            have hj2 : (0 : Int) < (j : Int) + 1 := by omega
            have hpk2 : ¬ q.k ≤ pv.k := by omega
            have hj4 : (j : Int) ≤ 9223372036854775807 := by omega
            have hj5 : j ≤ 9223372036854775807 := by omega
            have hj6 : IntKind.i64.wrap ((j : Int) + 1 - 1) = (j : Int) := by rw [wrap_ok _ (by omega) (by omega)]; omega
            have hj7 : IntKind.i64.wrap (j : Int) = (j : Int) := wrap_ok _ (by omega) (by omega)
            clear hcast
            go_region_held3 (fun w' => w'.cell? ⟨By, 0, none⟩ = some (.int .i64 q.k) ∧ w'.cell? ⟨By, 1, none⟩ = some (.int .i64 q.m) ∧ w'.cell? ⟨Bz, 0, none⟩ = some (.int .i64 q.k) ∧ w'.cell? ⟨Bz, 1, none⟩ = some (.int .i64 q.m) ∧ w'.cell? ⟨g, oo + (j + 1) * 2, none⟩ = some (.int .i64 q.k) ∧ w'.cell? ⟨g, oo + (j + 1) * 2 + 1, none⟩ = some (.int .i64 q.m) ∧ w'.cell? ⟨g, oo + j * 2, none⟩ = some (.int .i64 pv.k) ∧ Hid (Keep [bs] y6 w'))
              (first | assumption | exact Ds.base (F := [bs]) (l := [(⟨By, 0, none⟩, .int .i64 q.k), (⟨By, 1, none⟩, .int .i64 q.m), (⟨Bz, 0, none⟩, .int .i64 q.k), (⟨Bz, 1, none⟩, .int .i64 q.m), (⟨g, oo + (j + 1) * 2, none⟩, .int .i64 q.k), (⟨g, oo + (j + 1) * 2 + 1, none⟩, .int .i64 q.m), (⟨g, oo + j * 2, none⟩, .int .i64 pv.k)]) HDs ((Keep.refl _ _).drew) HDn.out | exact Ds.base (F := [bs]) (l := [(⟨By, 0, none⟩, .int .i64 q.k), (⟨By, 1, none⟩, .int .i64 q.m), (⟨Bz, 0, none⟩, .int .i64 q.k), (⟨Bz, 1, none⟩, .int .i64 q.m), (⟨g, oo + (j + 1) * 2, none⟩, .int .i64 q.k), (⟨g, oo + (j + 1) * 2 + 1, none⟩, .int .i64 q.m), (⟨g, oo + j * 2, none⟩, .int .i64 pv.k)]) HDs (((Keep.refl _ _).drew).trans' (k7.mono (by simp))) HDn.out | exact Ds.base (F := [bs]) (l := [(⟨By, 0, none⟩, .int .i64 q.k), (⟨By, 1, none⟩, .int .i64 q.m), (⟨Bz, 0, none⟩, .int .i64 q.k), (⟨Bz, 1, none⟩, .int .i64 q.m), (⟨g, oo + (j + 1) * 2, none⟩, .int .i64 q.k), (⟨g, oo + (j + 1) * 2 + 1, none⟩, .int .i64 q.m), (⟨g, oo + j * 2, none⟩, .int .i64 pv.k)]) HDs ((((Keep.refl _ _).drew).trans' (k7.mono (by simp))).trans' k8) HDn.out)
              (first | (go_at_call 35; refine (HRk.out _ (by first | exact Keep.refl _ _ | exact (Keep.refl _ _).drew)).mono ?_; clear HRk; rintro e w7 ⟨rfl, k7⟩) | (go_at_call 13; refine (HAd.out _ (by first | exact k7 | exact (Keep.refl [] _).drew.trans' k7)).mono ?_; clear HAd; rintro e w8 ⟨rfl, s8, k8⟩))
            clear hj6 hj7 hj5
            have GG := ((G6.keep ((Keep.refl [] _).drew)).keep k7).step k8 s8
            have RA := (R6.keep ((Keep.refl [] _).drew) (Off.nil _)).keep k7 (Off.nil _)
            have RR := RA.keep k8 (((G6.keep ((Keep.refl [] _).drew)).keep k7).s.notRow RA (by decide))
            obtain ⟨cx0, cx1⟩ := GG.box
            have cg0 := ((Keep.refl [] y6).drew.trans' k7).cell' u4' (by simp)
            have cg1 := k8.cell' cg0 (by simp; exact HGb.out)
            have HGG : Hid (Oz w xx bs L w8 ∧ Rw 29 encP 2 w8 (.slice (some ⟨g, oo, none⟩) L.length cn) L ∧ (∀ g_1, (Value.slice (some ⟨g, oo, none⟩) L.length cn).ownBlock = some g_1 → w.heap.size + 1 ≤ g_1)) := ⟨GG, RR, HG.out.2.2⟩
            rename_i hH
            clear hH GG RA RR s8 k7 k8 G6 R6 HDs HDn cg0 u0' u1' u2' u3' u4' u5' HG
            by_cases hq : q.k < xx.k
            · have HSq : Hid (rnk (L.take (j + 1 + 1)) xx.k = rnk (L.take (j + 1)) xx.k + 1) := by show _ = _; rw [HSn.out, if_pos hq]
              go_wp2_with fail
              go_region_held3 (fun w' => w'.cell? ⟨g, oo + (j + 1) * 2, none⟩ = some (.int .i64 q.k) ∧ w'.cell? ⟨w.heap.size, 0, none⟩ = some (.int .i64 xx.k))
                (first | assumption | exact ⟨cg1, cx0⟩)
                (fail)
              rename_i hH
              clear hH cg1 cx0 cx1
              go_wp2_with fail
              go_roundw
              case rel => exact ⟨j + 1 + 1, by simp <;> omega, by rw [HSq.out]; simp, by omega, HGG.out.1.keep ((Keep.refl [] _).drew), HGG.out.2.1.keep ((Keep.refl [] _).drew) (Off.nil _), HGG.out.2.2⟩
              case measure => simp [intOf]; omega
            · have HSq : Hid (rnk (L.take (j + 1 + 1)) xx.k = rnk (L.take (j + 1)) xx.k) := by show _ = _; rw [HSn.out, if_neg hq]; rfl
              go_wp2_with fail
              go_region_held3 (fun w' => w'.cell? ⟨g, oo + (j + 1) * 2, none⟩ = some (.int .i64 q.k) ∧ w'.cell? ⟨w.heap.size, 0, none⟩ = some (.int .i64 xx.k))
                (first | assumption | exact ⟨cg1, cx0⟩)
                (fail)
              rename_i hH
              clear hH cg1 cx0 cx1
              go_wp2_with fail
              go_roundw
              case rel => exact ⟨j + 1 + 1, by simp <;> omega, by rw [HSq.out], by omega, HGG.out.1.keep ((Keep.refl [] _).drew), HGG.out.2.1.keep ((Keep.refl [] _).drew) (Off.nil _), HGG.out.2.2⟩
              case measure => simp [intOf]; omega
        · obtain rfl : i = L.length := by omega
          have hnl2 : ¬ (L.length : Int) < (L.length : Int) := by omega
          have hrl := rnk_le L xx.k
          rw [List.take_length]
          have HFr : Hid (∀ w9, Sh w9 bs 32 L → Calls Try.prog 26 #[vA bs, vP xx] w9 fun e w' => ∃ v, e = .returned v ∧ SqN w9 w' v (L.drop (rnk L xx.k))) := fun w9 hs => shFrom_any bs 32 L xx w9 hs (by have := HLL.out; omega)
          have HRx : Hid (∀ w9, Sh w9 bs 32 L → Calls Try.prog 35 #[vA bs, vP xx] w9 fun e w' => e = .returned (.int .i64 (rnk L xx.k : Int)) ∧ Keep [] w9 w') := fun w9 hs => shRank_any bs 32 L xx w9 hs (by have := HLL.out; omega)
          obtain ⟨nn, HNn⟩ : ∃ nn : Nat, Hid (nn = rnk L xx.k) := ⟨_, show _ = _ from rfl⟩
          rw [← HNn.out] at HFr HRx hrl ⊢
          obtain ⟨D, HD⟩ : ∃ D : List Pr, Hid (D = L.drop nn) := ⟨_, show _ = _ from rfl⟩
          have HDl : Hid (D.length + nn = L.length) := by show _ = _; rw [HD.out, List.length_drop]; omega
          have HDi : Hid (∀ j (hj : j < D.length), ∃ hh : nn + j < L.length, D[j] = L[nn + j]) := by
            intro j hj
            have h1 := HDl.out
            refine ⟨by omega, ?_⟩
            have hd := HD.out
            subst hd
            rw [List.getElem_drop]
          rw [← HD.out] at HFr
          have hnn : (nn : Int) ≤ (L.length : Int) := by omega
          have hnn0 : (0 : Int) ≤ (nn : Int) := by omega
          have hDz : (D.length : Int) ≤ (L.length : Int) := by have := HDl.out; omega
          have hDs : (L.length : Int) - (nn : Int) = (D.length : Int) := by have := HDl.out; omega
          have HDS : Hid (type_of% hDs) := hDs
          clear hDs
          obtain ⟨bx0, bx1⟩ := HG.out.1.box
          go_wp2_with fail
          refine (HFr.out _ HG.out.1.s).mono ?_
          clear HFr
          rintro e z1 ⟨_, rfl, E1, E2, rfl, q9, n1, _, _⟩
          have F1 := HG.out.1.keep n1
          have R1 := HG.out.2.1.keep n1 (Off.nil _)
          go_wp2_with fail
          refine (gathered_all E1 E2 D _ _ q9 (by have := HLL.out; have := HDl.out; omega) (by omega)).mono ?_
          rintro e z2 ⟨ar, cr, rfl, r2, n2, f2⟩
          have F2 := F1.keep n2
          have R2 := R1.keep n2 (Off.nil _)
          obtain ⟨bx2, bx3⟩ := F2.box
          have hcr : D.length ≤ cr ∧ cr ≤ 9223372036854775807 := by
            obtain ⟨a', c', he, h1, h2⟩ := (r2.rd encP_len).form
            simp at he
            obtain ⟨rfl, rfl⟩ := he
            exact ⟨h1, h2⟩
          obtain ⟨hcr1, hcr2⟩ := hcr
          go_wp2_with fail
          refine (HRx.out _ F2.s).mono ?_
          clear HRx
          rintro e z3 ⟨rfl, n3⟩
          have HZ : Hid (Keep [] w z3 ∧ Rw 29 encP 2 z3 (.slice an L.length cn) L ∧ Rw 29 encP 2 z3 (.slice ar D.length cr) D) := ⟨(F2.keep n3).kp, R2.keep n3 (Off.nil _), r2.keep n3 (Off.nil _)⟩
          clear F1 F2 R1 R2 r2 f2 q9 n1 n2 n3 bx0 bx1 bx2 bx3
          have hsub : IntKind.i64.wrap ((L.length : Int) - (nn : Int)) = (D.length : Int) := by rw [wrap_ok _ (by omega) (by omega)]; exact HDS.out
          go_wp2_with fail
          clear hsub
          go_loopw [19] (fun iv wr => ∃ i : Nat, iv = .int .i64 (i : Int) ∧ i ≤ D.length ∧ Hid (Keep [] w wr ∧ Rw 29 encP 2 wr (.slice an L.length cn) L ∧ Rw 29 encP 2 wr (.slice ar D.length cr) D)) (fun iv _ => D.length - (intOf iv).toNat)
          case atStart => exact ⟨0, rfl, Nat.zero_le _, HZ.out⟩
          case round =>
            clear HZ
            obtain ⟨i, rfl, hi3, HZ⟩ := hrel
            by_cases hlt3 : i < D.length
            · have hlti : (i : Int) < (D.length : Int) := by omega
              have hi0 : (0 : Int) ≤ (i : Int) := by omega
              obtain ⟨hh, heq⟩ := HDi.out i hlt3
              obtain ⟨g1, o1, q1, he1, hg1, r0, r1⟩ := (HZ.out.2.2.rd encP_len).pair i hlt3
              simp at he1
              obtain ⟨rfl, rfl⟩ := he1
              obtain ⟨g2, o2, q2, he2, hg2, r2, r3⟩ := (HZ.out.2.1.rd encP_len).pair (nn + i) hh
              simp at he2
              obtain ⟨rfl, rfl⟩ := he2
              rw [← heq] at r2 r3
              have htn : ((nn : Int) + (i : Int)).toNat = nn + i := by omega
              rw [← htn] at r2 r3
              clear htn
              have hni : (nn : Int) + (i : Int) < (L.length : Int) := by omega
              have hni0 : (0 : Int) ≤ (nn : Int) + (i : Int) := by omega
              have hnw : IntKind.i64.wrap ((nn : Int) + (i : Int)) = (nn : Int) + (i : Int) := wrap_ok _ (by omega) (by omega)
              generalize D[i] = q at *
              clear heq hh
              go_wp2_with fail
              go_region_held3 (fun w' => w'.cell? ⟨g1, o1 + i * 2, none⟩ = some (.int .i64 q.k) ∧ w'.cell? ⟨g1, o1 + i * 2 + 1, none⟩ = some (.int .i64 q.m) ∧ w'.cell? ⟨g2, o2 + ((nn : Int) + (i : Int)).toNat * 2, none⟩ = some (.int .i64 q.k) ∧ w'.cell? ⟨g2, o2 + ((nn : Int) + (i : Int)).toNat * 2 + 1, none⟩ = some (.int .i64 q.m))
                (first | assumption | exact ⟨r0, r1, r2, r3⟩)
                (fail)
              rename_i hH
              clear hH r0 r1 r2 r3 hnw hni hni0
              go_wp2_with fail
              go_roundw
              case rel => exact ⟨i + 1, by simp, by omega, HZ.out.1.drew, HZ.out.2.1.keep ((Keep.refl [] _).drew) (Off.nil _), HZ.out.2.2.keep ((Keep.refl [] _).drew) (Off.nil _)⟩
              case measure => simp [intOf]; omega
            · obtain rfl : i = D.length := by omega
              have hnl3 : ¬ (D.length : Int) < (D.length : Int) := by omega
              go_wp2
              go_ret
              exact ⟨rfl, HZ.out.1⟩

end Go.Proofs.Ytkelhglflpdpeaa
