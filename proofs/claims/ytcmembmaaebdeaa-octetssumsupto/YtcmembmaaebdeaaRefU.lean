/- The document's own way back from letters to bytes, for every text. -/
import Derived.Test.YtcmembmaaebdeaaRefS
namespace Go.Proofs.Ytcmembmaaebdeaa
open Go.RowKit Go.PlainAid Go.Lib

def nbits (s : List UInt8) (m : Nat) : List Int := (List.range m).map fun k => ((nbit s k : Nat) : Int)
theorem nbits_succ (s : List UInt8) (m : Nat) : nbits s (m + 1) = nbits s m ++ [((nbit s m : Nat) : Int)] := by simp [nbits, List.range_succ]
theorem nbits_len (s : List UInt8) (m : Nat) : (nbits s m).length = m := by simp [nbits]
theorem nbits_get (s : List UInt8) (m k : Nat) (h : k < (nbits s m).length) : (nbits s m)[k] = ((nbit s k : Nat) : Int) := by simp [nbits]
theorem nbit_lt (s : List UInt8) (m : Nat) : nbit s m < 2 := Nat.mod_lt _ (by decide)
theorem npart_lt (s : List UInt8) (a : Nat) : ∀ t, npart s a t < 2 ^ t
  | 0 => by simp [npart]
  | t + 1 => by
    have h1 := npart_lt s a t
    have h2 := nbit_lt s (a + t)
    rw [npart, Nat.pow_succ]
    omega

/-- behind an append of a number to a row of one's own that is new since w -/
theorem appI_fresh {w wr w1 : World} {o : Obj} {v v' : Value} (hk : Keep [] w wr) (hf : Fresh w wr v) (h2 : Keep v.ownBlock.toList (wr.alloc o) w1) (h3 : v'.ownBlock = v.ownBlock ∨ Fresh (wr.alloc o) w1 v') :
    Keep [] w w1 ∧ Fresh w w1 v' := app_fresh hk hf h2 h3

theorem un_none (s : List UInt8) (i : Nat) (hi : i < s.length) (h : numC (s.getD i 0).toNat = none) : unL s = none := by
  cases hu : unL s with
  | none => rfl
  | some d =>
    exfalso
    have h1 := armL_unL s d hu
    have h2 := armL_letter d (s.getD i 0) (by rw [h1, List.getD_eq_getElem?_getD, List.getElem?_eq_getElem hi]; exact List.getElem_mem hi)
    unfold numC at h
    unfold isLetter at h2
    split at h
    · cases h
    · split at h
      · cases h
      · omega
theorem un_dec (s : List UInt8) : (armL (decL s) = s → unL s = some (decL s)) ∧ (armL (decL s) ≠ s → unL s = none) := by
  refine ⟨fun h => ?_, fun h => ?_⟩
  · have := unL_armL (decL s)
    rw [h] at this
    exact this
  · cases hu : unL s with
    | none => rfl
    | some d =>
      exfalso
      have h1 := armL_unL s d hu
      have h2 := dec_arm d
      rw [h1] at h2
      rw [h2] at h
      exact h h1

set_option maxRecDepth 1000000 in
set_option maxHeartbeats 12800000 in
theorem refUnarmor_any (s : ByteArray) (w : World) (hln : s.size ≤ 1099511627776) :
    Calls Try.prog 34 #[.string s] w fun e w' => ∃ v er, e = .returned (.tuple #[v, .int .i64 er]) ∧ UnP w (unL s.data.toList) v er w' ∧ Keep [] w w' := by
  have hss : s.data.toList.length = s.size := by simp
  have hbt := get_bt s
  have HBT : Hid (∀ i, i < s.size → bt s i = ((s.data.toList.getD i 0).toNat : Int)) := by
    intro i hi
    rw [← hbt i hi, List.getD_eq_getElem?_getD, List.getElem?_eq_getElem (by rw [hss]; exact hi)]
    rfl
  have HSS : Hid (s.data.toList.length = s.size) := hss
  have HUN : Hid (∀ i, i < s.size → numC (s.data.toList.getD i 0).toNat = none → unL s.data.toList = none) := fun i hi h => un_none _ i (by rw [hss]; exact hi) h
  have HUD : Hid ((armL (decL s.data.toList) = s.data.toList → unL s.data.toList = some (decL s.data.toList)) ∧ (armL (decL s.data.toList) ≠ s.data.toList → unL s.data.toList = none)) := un_dec _
  have HNB : Hid (∀ m, nbit s.data.toList m = numD (s.data.toList.getD (m / 5) 0) / 2 ^ (4 - m % 5) % 2) := fun _ => rfl
  have HSL : Hid (s.toList = s.data.toList) := by
    show s.toList = s.data.toList
    rw [ByteArray.toList_eq]
  have HDL : Hid (decL s.data.toList = (List.range (5 * s.size / 8)).map fun j => (eight s.data.toList j).toUInt8) := by
    show decL s.data.toList = (List.range (5 * s.size / 8)).map fun j => (eight s.data.toList j).toUInt8
    unfold decL
    rw [hss]
  generalize s.data.toList = S at HBT HSS HUN HUD HNB HSL HDL ⊢
  clear hss
  go_enter Try.func34, Try.ntmps34
  go_wp2
  go_loopw [4, 5] (fun bv iv wr => ∃ i : Nat, iv = .int .i64 (i : Int) ∧ i ≤ s.size ∧ RowI wr bv (nbits S (5 * i)) ∧ Keep [] w wr ∧ Fresh w wr bv) (fun _ iv _ => s.size - (intOf iv).toNat)
  case atStart => exact ⟨0, rfl, Nat.zero_le _, by simpa [nbits] using RowI.nil w, Keep.refl _ _, Fresh.nil _ _⟩
  case round =>
    obtain ⟨i, rfl, hi, hrow, hk, hf⟩ := hrel
    by_cases hil : i < s.size
    · have hili : (i : Int) < (s.size : Int) := by omega
      have hb := HBT.out i hil
      have hL := refLetter_any (S.getD i 0).toNat (getD_lt S i) wr
      have hun := HUN.out i hil
      have HND : Hid (numD (S.getD i 0) = (numC (S.getD i 0).toNat).getD 0) := rfl
      have hnl : ∀ x, numC (S.getD i 0).toNat = some x → x < 32 := fun x hx => numC_lt _ x hx
      cases hn : numC (S.getD i 0).toNat with
      | none =>
        rw [hn] at hL
        have hun2 := hun hn
        have HK : Hid (Keep [] w wr ∧ unL S = none) := ⟨hk, hun2⟩
        clear hun hun2 hnl hrow hk hf HND hn
        generalize (S.getD i 0).toNat = c at hb hL
        simp only at hL
        go_wp2_with (first | (go_at_call 75; refine hL.mono ?_; rintro e9 w9 ⟨rfl, hw9⟩; obtain rfl := hw9.symm))
        go_ret2
        exact ⟨_, _, rfl, by rw [HK.out.2]; exact ⟨rfl, rfl⟩, HK.out.1⟩
      | some x =>
        rw [hn] at hL HND
        have hx32 := hnl x hn
        have HX : Hid (numD (S.getD i 0) = x) := HND.out
        have HR0 : Hid (RowI wr u4 (nbits S (5 * i)) ∧ Keep [] w wr ∧ Fresh w wr u4) := ⟨hrow, hk, hf⟩
        clear hun hnl hrow hk hf HND hn
        have HX2 : Hid (∀ q, q < 5 → nbit S (5 * i + (4 - q)) = x / 2 ^ q % 2) := by
          intro q hq
          rw [HNB.out, show (5 * i + (4 - q)) / 5 = i by omega, HX.out, show 4 - (5 * i + (4 - q)) % 5 = q by omega]
        generalize (S.getD i 0).toNat = c at hb hL
        simp only at hL
        have hx0 : (0 : Int) ≤ (x : Int) := by omega
        go_wp2_with (first | (go_at_call 75; refine hL.mono ?_; rintro e9 w9 ⟨rfl, hw9⟩; obtain rfl := hw9.symm))
        go_loopw [4, 7] (fun bv kv wr => ∃ q : Nat, kv = .int .i64 ((q : Int) - 1) ∧ q ≤ 5 ∧ RowI wr bv (nbits S (5 * i + (5 - q))) ∧ Keep [] w wr ∧ Fresh w wr bv) (fun _ kv _ => (intOf kv + 1).toNat)
        case atStart => exact ⟨5, rfl, by omega, HR0.out⟩
        case round =>
          obtain ⟨q, rfl, hq, hrow, hk, hf⟩ := hrel
          clear HR0
          cases q with
          | zero =>
            have HR1 : Hid (RowI wr u4 (nbits S (5 * (i + 1))) ∧ Keep [] w wr ∧ Fresh w wr u4) := ⟨hrow, hk, hf⟩
            clear hrow hk hf
            go_wp2
            go_roundw
            case rel => exact ⟨i + 1, by go_num, by omega, HR1.out⟩
            case measure => simp [intOf]; omega
          | succ q =>
            have hk1 : ((q + 1 : Nat) : Int) - 1 = (q : Int) := by omega
            rw [hk1]
            have hv := HX2.out q (by omega)
            have hbit : ((x : Int) / 2 ^ q).tmod 2 = ((x / 2 ^ q % 2 : Nat) : Int) := by
              rw [show ((x : Int) / 2 ^ q) = ((x / 2 ^ q : Nat) : Int) by simp]
              rfl
            rw [← hv] at hbit
            have HN : Hid (nbits S (5 * i + (5 - q)) = nbits S (5 * i + (5 - (q + 1))) ++ [((nbit S (5 * i + (4 - q)) : Nat) : Int)]) := by
              show nbits S (5 * i + (5 - q)) = nbits S (5 * i + (5 - (q + 1))) ++ [((nbit S (5 * i + (4 - q)) : Nat) : Int)]
              rw [show 5 * i + (5 - q) = (5 * i + (5 - (q + 1))) + 1 by omega, nbits_succ, show 5 * i + (5 - (q + 1)) = 5 * i + (4 - q) by omega]
            have hbl := nbit_lt S (5 * i + (4 - q))
            have hlr := nbits_len S (5 * i + (5 - (q + 1)))
            generalize nbits S (5 * i + (5 - (q + 1))) = acc at hrow HN hlr
            generalize nbit S (5 * i + (4 - q)) = y at hbit HN hbl
            clear hv hk1
            have hsrc := srcI wr (y : Int)
            have hr2 : RowI (wr.alloc (.cells #[.int .i64 (y : Int)] TI)) u4 acc := hrow.keep (Keep.alloc1 wr _) (Off.nil _)
            have HB : Hid (acc.length + [(y : Int)].length ≤ 17592186044416) := by
              show acc.length + [(y : Int)].length ≤ 17592186044416
              simp only [List.length_cons, List.length_nil]; omega
            have HKF : Hid (Keep [] w wr ∧ Fresh w wr u4) := ⟨hk, hf⟩
            clear hrow hk hf
            go_wp2_with (at_builtin; refine wp_appI rfl (.tmp 28) (.tmp 34) 69 69 rfl underI _ acc rfl hr2 _ [(y : Int)] rfl hsrc HB.out ?_)
            intro v' w1 g1 g2 g3 g4
            rw [← HN.out] at g1
            have HA : Hid (Keep [] w w1 ∧ Fresh w w1 v') := app_fresh HKF.out.1 HKF.out.2 g2 g3
            have HR : Hid (RowI w1 v' (nbits S (5 * i + (5 - q)))) := g1
            clear g1 g2 g3 g4 hsrc hr2
            go_wp2
            go_roundw
            case rel => exact ⟨q, by go_num, by omega, HR.out, HA.out.1, HA.out.2⟩
            case measure => simp [intOf]
    · have hili : ¬ ((i : Int) < (s.size : Int)) := by omega
      have hin : i = s.size := by omega
      subst hin
      have HC4 : Hid (∃ a4 c4, u4 = .slice a4 (5 * s.size) c4 ∧ 5 * s.size ≤ c4 ∧ c4 ≤ 9223372036854775807 ∧ (0 < 5 * s.size → ∃ ge, a4 = some ⟨ge, 0, none⟩ ∧ ∀ k, k < 5 * s.size → wr.cell? ⟨ge, k, none⟩ = some (.int .i64 ((nbit S k : Nat) : Int)))) := by
        have hlr := nbits_len S (5 * s.size)
        rcases hrow.cases with ⟨h, h1⟩ | ⟨ge, ce, h1, h2, h3, h4⟩
        · rw [h] at hlr
          simp at hlr
          exact ⟨none, 0, by rw [h1]; simp; omega, by omega, by omega, fun h => by omega⟩
        · rw [hlr] at h1 h2
          refine ⟨_, ce, h1, h2, h3, fun _ => ⟨ge, rfl, fun k hk => ?_⟩⟩
          rw [h4 k (by rw [hlr]; exact hk), nbits_get]
      obtain ⟨a4, c4, rfl, hc4, hc4m, h4x⟩ := HC4.out
      clear HC4
      have H4X : Hid (0 < 5 * s.size → ∃ ge, a4 = some ⟨ge, 0, none⟩ ∧ ∀ k, k < 5 * s.size → wr.cell? ⟨ge, k, none⟩ = some (.int .i64 ((nbit S k : Nat) : Int))) := h4x
      have HK0 : Hid (Keep [] w wr) := hk
      clear h4x hrow hk hf HBT HUN HNB
      go_wp2
      generalize wr = w2 at H4X HK0 ⊢
      go_loopw [8, 9] (fun ov av wr => ∃ j : Nat, av = .int .i64 ((8 * j : Nat) : Int) ∧ j ≤ 5 * s.size / 8 ∧ Row wr ov ((List.range j).map fun j => (eight S j).toUInt8) ∧ Keep [] w2 wr ∧ Fresh w2 wr ov) (fun _ av _ => 5 * s.size + 8 - (intOf av).toNat)
      case atStart => exact ⟨0, rfl, Nat.zero_le _, by simpa using Row.nil w2, Keep.refl _ _, Fresh.nil _ _⟩
      case round =>
        obtain ⟨j, rfl, hj, hrow, hk, hf⟩ := hrel
        by_cases hjl : 8 * j + 8 ≤ 5 * s.size
        · have hjli : ((8 * j : Nat) : Int) + 8 ≤ ((5 * s.size : Nat) : Int) := by omega
          obtain ⟨ge, rfl, hcell⟩ := H4X.out (by omega)
          have HC : Hid (∀ k, k < 5 * s.size → wr.cell? ⟨ge, k, none⟩ = some (.int .i64 ((nbit S k : Nat) : Int))) := fun k hk' => hk.cell' (hcell k hk') (by simp)
          have HR0 : Hid (Row wr u8 ((List.range j).map fun j => (eight S j).toUInt8) ∧ Keep [] w2 wr ∧ Fresh w2 wr u8) := ⟨hrow, hk, hf⟩
          clear hrow hk hf hcell
          go_wp2
          go_loop [10, 11] (fun xv kv => ∃ t : Nat, kv = .int .i64 (t : Int) ∧ t ≤ 8 ∧ xv = .int .i64 ((npart S (8 * j) t : Nat) : Int)) (fun _ kv => 8 - (intOf kv).toNat)
          case atStart => exact ⟨0, rfl, Nat.zero_le _, rfl⟩
          case round =>
            obtain ⟨t, rfl, ht, rfl⟩ := hrel
            by_cases ht8 : t < 8
            · have hti : (t : Int) < 8 := by omega
              have hci := HC.out (8 * j + t) (by omega)
              have hbl := nbit_lt S (8 * j + t)
              have hpl : npart S (8 * j) t < 256 := Nat.lt_of_lt_of_le (npart_lt S (8 * j) t) (Nat.le_trans (Nat.pow_le_pow_right (by decide) ht) (by decide))
              have HP : Hid (npart S (8 * j) (t + 1) = 2 * npart S (8 * j) t + nbit S (8 * j + t)) := rfl
              have hix : (8 * j + t : Nat) < 5 * s.size := by omega
              have hixi : (8 * (j : Int) + (t : Int)) < 5 * (s.size : Int) := by omega
              have hixp : (0 : Int) ≤ 8 * (j : Int) + (t : Int) := by omega
              generalize npart S (8 * j) t = n at hpl HP ⊢
              generalize nbit S (8 * j + t) = y at hci hbl HP
              go_wp2
              go_round
              case rel => exact ⟨t + 1, by go_num, by omega, by rw [HP.out]; go_num⟩
              case measure => simp [intOf]; omega
            · have hti : ¬ ((t : Int) < 8) := by omega
              have ht' : t = 8 := by omega
              subst ht'
              have h256 : npart S (8 * j) 8 < 256 := npart_lt S (8 * j) 8
              have HN : Hid ((List.range (j + 1)).map (fun j => (eight S j).toUInt8) = (List.range j).map (fun j => (eight S j).toUInt8) ++ [(npart S (8 * j) 8).toUInt8]) := by
                show (List.range (j + 1)).map (fun j => (eight S j).toUInt8) = (List.range j).map (fun j => (eight S j).toUInt8) ++ [(npart S (8 * j) 8).toUInt8]
                simp [List.range_succ, eight]
              have hlr : ((List.range j).map (fun j => (eight S j).toUInt8)).length = j := by simp
              generalize (List.range j).map (fun j => (eight S j).toUInt8) = acc at HR0 HN hlr
              generalize npart S (8 * j) 8 = n at h256 HN ⊢
              have hsrc := (Bs.one wr n h256).src
              have hr2 : Row (wr.alloc (.cells #[.int .u8 (n : Int)] TB)) u8 acc := HR0.out.1.keep (Keep.alloc1 wr _) (Off.nil _)
              generalize n.toUInt8 = cb at hsrc HN
              have HB : Hid (acc.length + [cb].length ≤ 140737488355328) := by
                show acc.length + [cb].length ≤ 140737488355328
                simp only [List.length_cons, List.length_nil]; omega
              have HKF : Hid (Keep [] w2 wr ∧ Fresh w2 wr u8) := HR0.out.2
              have hn256 : (n : Int) % 256 = (n : Int) := by omega
              clear HR0 HC
              go_wp2_with (at_builtin; refine wp_app rfl (.tmp 56) (.tmp 59) 24 24 rfl underS _ acc rfl hr2 _ [cb] rfl hsrc HB.out ?_)
              intro v' w1 g1 g2 g3 g4
              rw [← HN.out] at g1
              have HA : Hid (Keep [] w2 w1 ∧ Fresh w2 w1 v') := app_fresh HKF.out.1 HKF.out.2 g2 g3
              have HR : Hid (Row w1 v' ((List.range (j + 1)).map (fun j => (eight S j).toUInt8))) := g1
              clear g1 g2 g3 g4 hsrc hr2
              go_wp2
              go_roundw
              case rel => exact ⟨j + 1, by go_num, by omega, HR.out, HA.out.1, HA.out.2⟩
              case measure => simp [intOf]; omega
        · have hjli : ¬ (((8 * j : Nat) : Int) + 8 ≤ ((5 * s.size : Nat) : Int)) := by omega
          have hjn : j = 5 * s.size / 8 := by omega
          subst hjn
          rw [← HDL.out] at hrow
          have hdl : (decL S).length ≤ 1099511627776 := by
            rw [HDL.out]
            simp
            omega
          have hA := refArmor_any u8 (decL S) wr hrow.bs hdl
          have HR : Hid (Row wr u8 (decL S) ∧ Fresh w wr u8 ∧ Keep [] w wr) := ⟨hrow, hf.earlier HK0.out.size, HK0.out.trans' hk⟩
          obtain ⟨X, hX⟩ : ∃ X : ByteArray, X = ⟨(armL (decL S)).toArray⟩ := ⟨_, rfl⟩
          have HX : Hid (X.toList = armL (decL S)) := by
            show X.toList = armL (decL S)
            rw [ByteArray.toList_eq, hX]
          rw [← hX] at hA
          clear hX hrow hk hf H4X HK0
          by_cases hee : armL (decL S) = S
          · have hq : (X.toList == s.toList) = true := by rw [HX.out, HSL.out, hee]; simp
            have hU := HUD.out.1 hee
            have HU : Hid (unL S = some (decL S)) := hU
            clear hU hee
            go_wp2_with (first | (go_at_call 36; refine hA.mono ?_; rintro e9 w9 ⟨rfl, K9⟩))
            go_ret2
            exact ⟨_, _, rfl, by rw [HU.out]; exact ⟨rfl, HR.out.1.keep K9 (Off.nil _), HR.out.2.1.later K9.size⟩, HR.out.2.2.trans' K9⟩
          · have hq : (X.toList == s.toList) = false := by rw [HX.out, HSL.out]; simpa using hee
            have hU := HUD.out.2 hee
            have HU : Hid (unL S = none) := hU
            clear hU hee
            go_wp2_with (first | (go_at_call 36; refine hA.mono ?_; rintro e9 w9 ⟨rfl, K9⟩))
            go_ret2
            exact ⟨_, _, rfl, by rw [HU.out]; exact ⟨rfl, rfl⟩, HR.out.2.2.trans' K9⟩

end Go.Proofs.Ytcmembmaaebdeaa
