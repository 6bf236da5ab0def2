/- The document's Reach. -/
import Derived.Test.YtmlpkjeaieljfaaDb
import Derived.Test.YtmlpkjeaieljfaaDa
import Derived.Test.YtmlpkjeaieljfaaRx
namespace Go.Proofs.Ytmlpkjeaieljfaa
open Go.RowKit Go.PlainAid

theorem filter_succ (q : Nat → Bool) (i : Nat) : (List.range (i + 1)).filter q = (List.range i).filter q ++ if q i then [i] else [] := by
  rw [List.range_succ, List.filter_append]
  cases hpi : q i <;> simp [hpi]

theorem rReach_no (n : Int) (v u : Value) (l : List Az) (w : World) (h : Rd encZ 3 w v l) (hf : faultZ n l ≠ 0) :
    Calls Try.prog 22 #[.int .i64 n, v, u] w fun e w' => e = .returned (.tuple #[.slice none 0 0, .int .i64 (faultZ n l)]) ∧ Keep [] w w' := by
  have HC : Hid (∀ (_ : True), Calls Try.prog 33 #[.int .i64 n, v] w fun e w' => e = .returned (.int .i64 (faultZ n l)) ∧ w' = w) := fun _ => rFault_any n v l w h
  generalize faultZ n l = f at HC hf
  have hq : (f != 0) = true := by simpa using hf
  clear h
  go_enter Try.func22, Try.ntmps22
  go_wp2_with fail
  refine (HC.out trivial).mono ?_
  rintro e w1 ⟨rfl, hw⟩
  obtain rfl := hw.symm
  clear HC hf
  go_wp2
  go_ret2
  exact ⟨rfl, Keep.refl _ _⟩

set_option maxRecDepth 1000000 in
set_option maxHeartbeats 2000000 in
theorem rReach_yes (n : Nat) (v u : Value) (A : List Ar) (L : List Int) (w : World) (h : Rd encA 3 w v A) (hf : faultZ (n : Int) (A.map Ar.z) = 0) (hL : Rd encI 1 w u L) :
    Calls Try.prog 22 #[.int .i64 (n : Int), v, u] w fun e w' => RcR w w' n A L e := by
  obtain ⟨ao, cap, rfl, -, -⟩ := h.form
  obtain ⟨uo, ucap, rfl, hu1, hu2⟩ := hL.form
  obtain ⟨N, B, hfn⟩ := fine_of hf
  have hN : n = N := by have := hfn.n; omega
  have hB : A = B := by
    have := hfn.l
    have hza : ∀ l : List Ar, (l.map Ar.z).map Az.a = l := fun l => by
      rw [List.map_map]
      exact (List.map_congr_left (g := id) fun a _ => by cases a; rfl).trans (List.map_id l)
    rw [← hza A, this, hza B]
  subst hN hB
  have hn := hfn.small.1
  have HC : Hid (∀ (_ : True), Calls Try.prog 33 #[.int .i64 (n : Int), .slice ao A.length cap] w fun e w' => e = .returned (.int .i64 0) ∧ w' = w) := fun _ => by
    have := rFault_any (n : Int) (.slice ao A.length cap) (A.map Ar.z) w h.z
    rwa [hf] at this
  have HR : Hid ((∀ x ∈ L, nodeB (n : Int) x = true) → Calls Try.prog 41 #[.int .i64 (n : Int), .slice ao A.length cap, .slice uo L.length ucap] w fun e w' => ∃ v, e = .returned v ∧ RaR w w' v n A (L.map Int.toNat)) := fun hall => by
    have hx : ∀ x ∈ L, 0 ≤ x ∧ x < (n : Int) := fun x hx => by simpa [nodeB] using hall x hx
    have hnt := hL.nats (fun x hx2 => (hx x hx2).1)
    refine rReached_any n _ _ A (L.map Int.toNat) w h hnt hfn.node (fun k hk => ?_) hn
    obtain ⟨x, hx2, rfl⟩ := List.mem_map.1 hk
    have := hx x hx2
    omega
  have HL : Hid (Rd encI 1 w (.slice uo L.length ucap) L) := hL
  have HP : Hid (∀ w' e, RcR w w' n A L e ↔ if L.all (nodeB (n : Int)) = true then ∃ v' m, e = .returned (.tuple #[v', .int .i64 0]) ∧ Nw w w' v' ((List.range n).filter fun k => m.getD k false) ∧ ∀ x, Mk m x ↔ ∃ k ∈ L, Rch (Ec A) k.toNat x
  else e = .returned (.tuple #[.slice none 0 0, .int .i64 80]) ∧ Keep [] w w') := fun w' e => Iff.rfl
  clear h hf hfn hL
  go_enter Try.func22, Try.ntmps22
  go_wp2_with fail
  refine (HC.out trivial).mono ?_
  rintro e w1 ⟨rfl, hw⟩
  obtain rfl := hw.symm
  clear HC
  go_wp2
  go_loopw [9] (fun iv wr => ∃ i : Nat, iv = .int .i64 (i : Int) ∧ i ≤ L.length ∧ Hid (wr = w ∧ ∀ j (hj : j < L.length), j < i → nodeB (n : Int) L[j] = true)) (fun iv _ => L.length - (intOf iv).toNat)
  case atStart => exact ⟨0, rfl, Nat.zero_le _, rfl, fun j _ hj => by omega⟩
  case round =>
    obtain ⟨i, rfl, hi, HI⟩ := hrel
    obtain rfl := HI.out.1.symm
    by_cases hlt : i < L.length
    · have hlti : (i : Int) < (L.length : Int) := by omega
      obtain ⟨b, o, c, he, hb, c0⟩ := HL.out.int i hlt
      simp at he
      obtain ⟨rfl, rfl⟩ := he
      obtain ⟨x, hx0⟩ : ∃ x : Int, Hid (x = L[i]) := ⟨_, show _ = _ from rfl⟩
      have HNd : Hid (nodeB (n : Int) L[i] = decide (0 ≤ x ∧ x < (n : Int))) := by rw [hx0.out]; rfl
      rw [← hx0.out] at c0
      have HBad : Hid (nodeB (n : Int) L[i] = false → ∀ e w', e = .returned (.tuple #[.slice none 0 0, .int .i64 80]) → Keep [] w w' → RcR w w' n A L e) := fun h e w' h1 h2 => by
        rw [HP.out, if_neg]
        · exact ⟨h1, h2⟩
        · intro h3
          rw [List.all_eq_true] at h3
          have := h3 L[i] (List.getElem_mem _)
          rw [h] at this
          cases this
      clear hx0
      by_cases hx : x < 0
      · have HX := HBad.out (by rw [HNd.out]; exact decide_eq_false (by omega))
        have HX2 : Hid (type_of% HX) := HX
        clear HX HBad
        go_wp2
        go_ret2
        exact HX2.out _ _ rfl (Keep.refl _ _)
      by_cases hx2 : x < (n : Int)
      · have HX : Hid (nodeB (n : Int) L[i] = true) := by rw [HNd.out]; exact decide_eq_true (by omega)
        have hx3 : ¬ (n : Int) ≤ x := by omega
        clear HBad
        go_wp2
        go_roundw
        case rel =>
          refine ⟨i + 1, by go_num, by omega, by first | rfl | trivial, fun j hj hji => ?_⟩
          by_cases hj2 : j < i
          · exact HI.out.2 j hj hj2
          · obtain rfl : j = i := by omega
            exact HX.out
        case measure => simp [intOf]; omega
      · have HX := HBad.out (by rw [HNd.out]; exact decide_eq_false (by omega))
        have HX2 : Hid (type_of% HX) := HX
        have hx3 : (n : Int) ≤ x := by omega
        clear HX HBad
        go_wp2
        go_ret2
        exact HX2.out _ _ rfl (Keep.refl _ _)
    · have hlti : ¬ (i : Int) < (L.length : Int) := by omega
      have HAll : Hid (∀ x ∈ L, nodeB (n : Int) x = true) := fun x hx => by
        obtain ⟨j, hj, rfl⟩ := List.getElem_of_mem hx
        exact HI.out.2 j hj (by omega)
      have HR2 : Hid (∀ (_ : True), Calls Try.prog 41 #[.int .i64 (n : Int), .slice ao A.length cap, .slice uo L.length ucap] w fun e w' => ∃ v, e = .returned v ∧ RaR w w' v n A (L.map Int.toNat)) := fun _ => HR.out HAll.out
      clear HR HI
      go_wp2_with fail
      refine (HR2.out trivial).mono ?_
      rintro e w1 ⟨v1, rfl, g, m, rfl, h1, h2, h3, h4⟩
      have HM : Hid (w.heap.size ≤ g ∧ Arr 4 eB w1 g n m ∧ (∀ x, Mk m x ↔ ∃ k ∈ L, Rch (Ec A) k.toNat x) ∧ Keep [] w w1) := ⟨h1, h2, fun x => by
        rw [h3 x]
        constructor
        · rintro ⟨k, hk, hr⟩
          obtain ⟨y, hy, rfl⟩ := List.mem_map.1 hk
          exact ⟨y, hy, hr⟩
        · rintro ⟨y, hy, hr⟩
          exact ⟨y.toNat, List.mem_map.2 ⟨y, hy, rfl⟩, hr⟩, h4⟩
      clear h1 h2 h3 h4 HR2
      go_wp2
      go_loopw [11, 12] (fun lv iv wr => ∃ i : Nat, iv = .int .i64 (i : Int) ∧ i ≤ n ∧ Hid (Nw w1 wr lv ((List.range i).filter fun k => m.getD k false))) (fun _ iv _ => n - (intOf iv).toNat)
      case atStart => exact ⟨0, rfl, Nat.zero_le _, Rw.nil 3 encN 1 w1, fun x hx => by simp [Value.ownBlock] at hx, Keep.refl _ _⟩
      case round =>
        clear hlt hlti hi
        obtain ⟨i, rfl, hi, HN⟩ := hrel
        by_cases hlt : i < n
        · have hlti : (i : Int) < (n : Int) := by omega
          have HL2 : Hid (((List.range i).filter fun k => m.getD k false).length ≤ i) := by show _ ≤ _; have := List.length_filter_le (fun k => m.getD k false) (List.range i); simpa using this
          have hsn : Hid ((List.range (i + 1)).filter (fun k => m.getD k false) = (List.range i).filter (fun k => m.getD k false) ++ if m.getD i false then [i] else []) := filter_succ (fun k => m.getD k false) i
          have c0 : wr.cell? ⟨g, i, none⟩ = some (.bool (m.getD i false)) := HN.out.keep.cell' (HM.out.2.1.cell false i hlt) (by simp)
          generalize (List.range i).filter (fun k => m.getD k false) = l at HN HL2 hsn
          cases hpi : m.getD i false with
          | true =>
            have hal : Hid ((l.length + 1) * 8 ≤ 140737488355328 ∧ l.length + 1 ≤ maxLen) := by
              have := HL2.out
              refine ⟨by omega, ?_⟩
              unfold maxLen; omega
            have HRw : Hid (RowC (wr.alloc (.cells #[.int .i64 (i : Int)] 3 (0, 0))) 3 1 u11 l.length (l.flatMap encN)) := RowC.keep HN.out.row (Keep.alloc1 wr _) (Off.nil _)
            have HS : Hid _ := src_nat wr i
            rw [hpi, if_pos rfl] at hsn
            rw [hpi] at c0
            clear hpi
            go_wp2_with (at_builtin; refine wp_appC infoI rfl rfl (.tmp 51) (.tmp 53) 26 26 rfl Try.underlying26 _ l.length (l.flatMap encN) rfl HRw.out _ 1 _ rfl HS.out hal.out.1 hal.out.2 ?_)
            intro v9 w9 R9 K9 F9 S9 _
            have H9 : Hid (Nw w1 w9 v9 (l ++ [i])) := HN.out.push R9 K9 F9
            clear R9 K9 F9 HRw HS HN
            rw [← hsn.out] at H9
            obtain ⟨a9, c9, rfl⟩ := S9
            go_wp2
            go_roundw
            case rel => exact ⟨i + 1, by go_num, by omega, H9⟩
            case measure => simp [intOf]; omega
          | false =>
            rw [hpi] at hsn c0
            have hs2 : l = (List.range (i + 1)).filter (fun k => m.getD k false) := by rw [hsn.out]; simp
            rw [hs2] at HN
            clear hpi hs2 hsn HL2
            go_wp2
            go_roundw
            case rel => exact ⟨i + 1, by go_num, by omega, HN⟩
            case measure => simp [intOf]; omega
        · have hlti : ¬ (i : Int) < (n : Int) := by omega
          obtain rfl : i = n := by omega
          have HE : Hid (RcR w wr i A L (.returned (.tuple #[u11, .int .i64 0]))) := by
            show RcR w wr i A L _
            rw [HP.out, if_pos (by rw [List.all_eq_true]; exact HAll.out)]
            refine ⟨_, m, rfl, ⟨HN.out.row, fun x hx => ?_, HM.out.2.2.2.trans' HN.out.keep⟩, HM.out.2.2.1⟩
            have := HN.out.new x hx
            have := HM.out.2.2.2.size
            omega
          obtain ⟨a9, c9, rfl, -, -⟩ := (HN.out.row.rd encN_len).form
          clear HN
          go_wp2
          go_ret2
          exact HE.out
end Go.Proofs.Ytmlpkjeaieljfaa
