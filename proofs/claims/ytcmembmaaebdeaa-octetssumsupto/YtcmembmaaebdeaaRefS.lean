/- The document's own sum and letters, each for every input. -/
import Derived.Test.YtcmembmaaebdeaaBitN
import Derived.Test.YtcmembmaaebdeaaIntW
import Derived.Test.YtcmembmaaebdeaaHelpW
namespace Go.Proofs.Ytcmembmaaebdeaa
open Go.RowKit Go.PlainAid Go.Lib

set_option maxHeartbeats 1600000 in
theorem refSum_any (v : Value) (l : List UInt8) (w : World) (hv : Bs w v l) :
    Calls Try.prog 35 #[v] w fun e w' => e = .returned (.int .u64 ((sumL l : Nat) : Int)) ∧ w' = w := by
  rcases hv.cases with ⟨rfl, ao, cap, rfl, _, _⟩ | ⟨_, b, o, cap, rfl, h0, h1, h2, h3⟩
  · clear hv
    go_enter Try.func35, Try.ntmps35
    go_wp2
    go_loop [3, 4] (fun sv iv => iv = .int .i64 0 ∧ sv = .int .u64 14695981039346656037) (fun _ _ => 0)
    case atStart => exact ⟨rfl, rfl⟩
    case round =>
      obtain ⟨rfl, rfl⟩ := hrel
      go_wp2
      go_ret
      exact ⟨rfl, rfl⟩
  · clear hv
    go_enter Try.func35, Try.ntmps35
    go_wp2
    go_loop [3, 4] (fun sv iv => ∃ i s : Nat, iv = .int .i64 (i : Int) ∧ sv = .int .u64 (s : Int) ∧ i ≤ l.length ∧ s = sumL (l.take i)) (fun _ iv => l.length - (intOf iv).toNat)
    case atStart => exact ⟨0, 14695981039346656037, rfl, rfl, Nat.zero_le _, rfl⟩
    case round =>
      obtain ⟨i, s, rfl, rfl, hi, hs⟩ := hrel
      have hslt : s < 18446744073709551616 := by rw [hs]; exact sumL_lt _
      by_cases hil : i < l.length
      · have hci := h3 i hil
        have hx := take_snoc l i hil
        have hn : sumL (l.take (i + 1)) = sumStep s (l.getD i 0) := by rw [hx, sumL_snoc, ← hs]
        generalize l.getD i 0 = x at hci hn hx
        have hx2 : bits .xor .u64 (s : Int) (x.toNat : Int) = ((s ^^^ x.toNat : Nat) : Int) := u64_xor_nat s x.toNat hslt (by have := x.toNat_lt; omega)
        have hw : IntKind.u64.wrap (((s ^^^ x.toNat : Nat) : Int) * 1099511628211) = ((sumStep s x : Nat) : Int) := by
          rw [IntKind.wrap_u64]
          unfold sumStep
          generalize s ^^^ x.toNat = y
          omega
        have HN : Hid (sumL (l.take (i + 1)) = sumStep s x) := hn
        have hxl : x.toNat < 256 := x.toNat_lt
        have hw2 : (((s ^^^ x.toNat : Nat) : Int) * 1099511628211) % 18446744073709551616 = ((sumStep s x : Nat) : Int) := by rw [← hw, IntKind.wrap_u64]
        generalize s ^^^ x.toNat = y at hx2 hw hw2
        generalize sumStep s x = z at hw hw2 HN
        generalize x.toNat = c at hci hx2 hxl
        have HS : Hid (s = sumL (l.take i)) := hs
        clear hn hx h3 hs
        have hili : (i : Int) < (l.length : Int) := by omega
        go_wp2
        go_round
        case rel => exact ⟨i + 1, z, by go_num, rfl, by omega, HN.out.symm⟩
        case measure => simp [intOf]; omega
      · have hili : ¬ ((i : Int) < (l.length : Int)) := by omega
        have HS : Hid (s = sumL l) := by
          show s = sumL l
          rw [hs, List.take_of_length_le (by omega)]
        clear hs h3
        go_wp2
        go_ret
        exact ⟨by rw [← HS.out]; rfl, rfl⟩

theorem bit_case (x m : Nat) : ((((x : Int) / 2 ^ m).tmod 2 == 1) = true → x / 2 ^ m % 2 = 1) ∧ ((((x : Int) / 2 ^ m).tmod 2 == 1) = false → x / 2 ^ m % 2 = 0) := by
  have e : ((x : Int) / 2 ^ m) = ((x / 2 ^ m : Nat) : Int) := by simp
  rw [e]
  generalize x / 2 ^ m = y
  have e2 : (y : Int).tmod 2 = ((y % 2 : Nat) : Int) := rfl
  rw [e2]
  constructor
  · intro h
    simp only [beq_iff_eq] at h
    omega
  · intro h
    simp only [beq_eq_false_iff_ne] at h
    omega

abbrev AS : ByteArray := ⟨#[97, 98, 99, 100, 101, 102, 103, 104, 105, 106, 107, 108, 109, 110, 111, 112, 113, 114, 115, 116, 117, 118, 119, 120, 121, 122, 50, 51, 52, 53, 54, 55]⟩
theorem as_size : AS.size = 32 := rfl
theorem as_get (k : Nat) (h : k < 32) : AS[k]'h = lt k := by
  have hall : ∀ k : Fin 32, AS[k.val]'(by have := k.isLt; exact this) = lt k.val := by decide
  exact hall ⟨k, h⟩

set_option maxRecDepth 1000000 in
set_option maxHeartbeats 6400000 in
theorem refArmor_any (v : Value) (l : List UInt8) (w : World) (hv : Bs w v l) (hln : l.length ≤ 1099511627776) :
    Calls Try.prog 36 #[v] w fun e w' => e = .returned (.string ⟨(armL l).toArray⟩) ∧ Keep [] w w' := by
  obtain ⟨ao, cap, rfl, hlc, hcm, _, hex⟩ := hv.ex
  have HEX : Hid (l ≠ [] → ∃ b o, ao = some ⟨b, o, none⟩ ∧ ∀ j, j < l.length → w.cell? ⟨b, o + j, none⟩ = some (.int .u8 ((l.getD j 0).toNat : Int))) := hex
  have HE : Hid (armL l = (List.range ((8 * l.length + 4) / 5)).map fun j => lt (five l j)) := armL_eq l
  clear hex hv
  go_enter Try.func36, Try.ntmps36
  go_wp2
  go_loopw [3, 4] (fun ov av wr => ∃ j : Nat, av = .int .i64 ((5 * j : Nat) : Int) ∧ j ≤ (8 * l.length + 4) / 5 ∧ Row wr ov ((List.range j).map fun j => lt (five l j)) ∧ Keep [] w wr ∧ Fresh w wr ov) (fun _ av _ => 8 * l.length + 5 - (intOf av).toNat)
  case atStart => exact ⟨0, rfl, Nat.zero_le _, by simpa using Row.nil w, Keep.refl _ _, Fresh.nil _ _⟩
  case round =>
    obtain ⟨j, rfl, hj, hrow, hk, hf⟩ := hrel
    by_cases hjl : 5 * j < 8 * l.length
    · have hjli : ((5 * j : Nat) : Int) < 8 * (l.length : Int) := by omega
      have HR0 : Hid (Row wr u3 ((List.range j).map fun j => lt (five l j)) ∧ Keep [] w wr ∧ Fresh w wr u3) := ⟨hrow, hk, hf⟩
      obtain ⟨b, o, rfl, hc⟩ := HEX.out (by intro hz; rw [hz] at hjl; simp at hjl)
      have HC : Hid (∀ j, j < l.length → wr.cell? ⟨b, o + j, none⟩ = some (.int .u8 ((l.getD j 0).toNat : Int))) := fun j hj => hk.cell' (hc j hj) (by simp)
      clear hrow hk hf hc
      go_wp2
      go_loop [5, 6] (fun nv kv => ∃ t : Nat, kv = .int .i64 ((5 * j + t : Nat) : Int) ∧ t ≤ 5 ∧ nv = .int .i64 ((part l (5 * j) t : Nat) : Int)) (fun _ kv => 5 * j + 5 - (intOf kv).toNat)
      case atStart => exact ⟨0, rfl, Nat.zero_le _, rfl⟩
      case round =>
        obtain ⟨t, rfl, ht, rfl⟩ := hrel
        by_cases ht5 : t < 5
        · have hti : ((5 * j + t : Nat) : Int) < ((5 * j : Nat) : Int) + 5 := by omega
          have hpl : part l (5 * j) t < 32 := Nat.lt_of_lt_of_le (part_lt l (5 * j) t) (Nat.le_trans (Nat.pow_le_pow_right (by decide) ht) (by decide))
          have HP : Hid (part l (5 * j) (t + 1) = 2 * part l (5 * j) t + bitOf l (5 * j + t)) := rfl
          have hkb : 5 * j + t ≤ 8796093022300 := by omega
          by_cases hkl : 5 * j + t < 8 * l.length
          · have hki : ((5 * j + t : Nat) : Int) < 8 * (l.length : Int) := by omega
            have hci := HC.out ((5 * j + t) / 8) (by omega)
            have HBit : Hid (bitOf l (5 * j + t) = (l.getD ((5 * j + t) / 8) 0).toNat / 2 ^ (7 - (5 * j + t) % 8) % 2) := rfl
            have hxl := getD_lt l ((5 * j + t) / 8)
            have hil : ((5 * j + t) / 8) < l.length := by omega
            generalize (l.getD ((5 * j + t) / 8) 0).toNat = x at hci HBit hxl
            generalize part l (5 * j) t = n at hpl HP ⊢
            generalize hkk : 5 * j + t = k at hci HBit HP hti hkb hkl hki hil ⊢
            have hbc := bit_case x (7 - k % 8)
            have HBC : Hid (((((x : Int) / 2 ^ (7 - k % 8)).tmod 2 == 1) = true → x / 2 ^ (7 - k % 8) % 2 = 1) ∧ ((((x : Int) / 2 ^ (7 - k % 8)).tmod 2 == 1) = false → x / 2 ^ (7 - k % 8) % 2 = 0)) := hbc
            clear hbc
            go_wp2
            all_goals
              rename_i hT
              refine ⟨⟨t + 1, ?_, by omega, ?_⟩, ?_⟩
              · congr 1; omega
              · rw [HP.out, HBit.out]
                first
                  | (rw [HBC.out.1 hT]; congr 1)
                  | (rw [HBC.out.2 hT]; congr 1)
              · simp [intOf]; omega
          · have hki : ¬ (((5 * j + t : Nat) : Int) < 8 * (l.length : Int)) := by omega
            have HBit : Hid (bitOf l (5 * j + t) = 0) := by
              show bitOf l (5 * j + t) = 0
              unfold bitOf
              rw [List.getD_eq_getElem?_getD, List.getElem?_eq_none (by omega)]
              simp
            generalize part l (5 * j) t = n at hpl HP ⊢
            generalize hkk : 5 * j + t = k at HBit HP hti hkb hkl hki ⊢
            go_wp2
            refine ⟨⟨t + 1, ?_, by omega, ?_⟩, ?_⟩
            · congr 1; omega
            · rw [HP.out, HBit.out]
              congr 1
            · simp [intOf]; omega
        · have hti : ¬ (((5 * j + t : Nat) : Int) < ((5 * j : Nat) : Int) + 5) := by omega
          have ht' : t = 5 := by omega
          subst ht'
          have h32 := five_lt l j
          have HF : Hid (part l (5 * j) 5 = five l j) := rfl
          rw [HF.out]
          have HN : Hid ((List.range (j + 1)).map (fun j => lt (five l j)) = (List.range j).map (fun j => lt (five l j)) ++ [lt (five l j)]) := by
            show (List.range (j + 1)).map (fun j => lt (five l j)) = (List.range j).map (fun j => lt (five l j)) ++ [lt (five l j)]
            simp [List.range_succ]
          have hlr : ((List.range j).map (fun j => lt (five l j))).length = j := by simp
          generalize (List.range j).map (fun j => lt (five l j)) = acc at HR0 HN hlr
          generalize five l j = n at h32 HN ⊢
          have hsrc := (Bs.byte wr (lt n)).src
          have hr2 : Row (wr.alloc (.cells #[.int .u8 ((lt n).toNat : Int)] TB)) u3 acc := HR0.out.1.keep (Keep.alloc1 wr _) (Off.nil _)
          have HB : Hid (acc.length + [lt n].length ≤ 140737488355328) := by
            show acc.length + [lt n].length ≤ 140737488355328
            simp only [List.length_cons, List.length_nil]; omega
          have HKF : Hid (Keep [] w wr ∧ Fresh w wr u3) := HR0.out.2
          rw [← as_get n h32] at hsrc hr2 HB
          clear HR0 HC HEX
          go_wp2_with (at_builtin; refine wp_app rfl (.tmp 44) (.tmp 47) 24 24 rfl underS _ acc rfl hr2 _ [AS[n]'h32] rfl hsrc HB.out ?_)
          intro v' w1 g1 g2 g3 g4
          rw [as_get n h32, ← HN.out] at g1
          have HA : Hid (Keep [] w w1 ∧ Fresh w w1 v') := app_fresh HKF.out.1 HKF.out.2 g2 g3
          have HR : Hid (Row w1 v' ((List.range (j + 1)).map (fun j => lt (five l j)))) := g1
          clear g1 g2 g3 g4 hsrc hr2
          go_wp2
          go_roundw
          case rel => exact ⟨j + 1, by go_num, by omega, HR.out, HA.out.1, HA.out.2⟩
          case measure => simp [intOf]; omega
    · have hjli : ¬ (((5 * j : Nat) : Int) < 8 * (l.length : Int)) := by omega
      have hjn : j = (8 * l.length + 4) / 5 := by omega
      subst hjn
      rw [← HE.out] at hrow
      have hS := run_str hrow.bs
      have HK : Hid (Keep [] w wr) := hk
      clear hrow hk hf HEX
      go_wp2
      go_ret
      exact ⟨rfl, HK.out⟩

theorem numC_as (c : Nat) (hc : c < 256) : (∀ x, numC c = some x → x < 32 ∧ (lt x).toNat = c ∧ ∀ k, k < x → (lt k).toNat ≠ c) ∧ (numC c = none → ∀ k, k < 32 → (lt k).toNat ≠ c) := by
  have hinj : ∀ i j : Fin 32, (lt i.val).toNat = (lt j.val).toNat → i = j := by decide
  refine ⟨fun x hx => ?_, fun hn k hk he => ?_⟩
  · have h1 := numC_lt c x hx
    have h2 : (lt x).toNat = c := by
      have := lt_num c.toUInt8 x (by rw [show c.toUInt8.toNat = c by simp; omega]; exact hx)
      rw [this]
      simp
      omega
    refine ⟨h1, h2, fun k hk he => ?_⟩
    have := hinj ⟨k, by omega⟩ ⟨x, h1⟩ (by simp only; rw [he, h2])
    simp at this
    omega
  · have := numC_ltN k
    rw [he, hn] at this
    cases this

set_option maxRecDepth 1000000 in
set_option maxHeartbeats 3200000 in
theorem refLetter_any (c : Nat) (hc : c < 256) (w : World) :
    Calls Try.prog 75 #[.int .u8 (c : Int)] w fun e w' => e = .returned (.int .i64 (match numC c with | some x => (x : Int) | none => -1)) ∧ w' = w := by
  obtain ⟨h1, h2⟩ := numC_as c hc
  have HG : Hid (∀ k (h : k < 32), (AS[k]'h).toNat = (lt k).toNat) := fun k h => by rw [as_get k h]
  cases hn : numC c with
  | some x =>
    obtain ⟨hx, hxe, hxk⟩ := h1 x hn
    clear h1 h2 hn
    have HX : Hid ((lt x).toNat = c ∧ ∀ k, k < x → (lt k).toNat ≠ c) := ⟨hxe, hxk⟩
    clear hxe hxk
    go_enter Try.func75, Try.ntmps75
    go_wp2
    go_loop [3] (fun iv => ∃ i : Nat, iv = .int .i64 (i : Int) ∧ i ≤ x) (fun iv => 32 - (intOf iv).toNat)
    case atStart => exact ⟨0, rfl, Nat.zero_le _⟩
    case round =>
      obtain ⟨i, rfl, hi⟩ := hrel
      have hi32 : i < 32 := by omega
      have hii : (i : Int) < 32 := by omega
      have hgi := HG.out i hi32
      by_cases hix : i = x
      · subst hix
        have hb : (((AS[i]'hi32).toNat : Int) == (c : Int)) = true := by rw [hgi, HX.out.1]; simp
        clear hgi
        go_wp2
        go_ret
        exact ⟨rfl, rfl⟩
      · have hb : (((AS[i]'hi32).toNat : Int) == (c : Int)) = false := by
          have := HX.out.2 i (by omega)
          rw [hgi]
          simp only [beq_eq_false_iff_ne]
          omega
        clear hgi
        go_wp2
        go_round
        case rel => exact ⟨i + 1, by go_num, by omega⟩
        case measure => simp [intOf]; omega
  | none =>
    have HX : Hid (∀ k, k < 32 → (lt k).toNat ≠ c) := h2 hn
    clear h1 h2 hn
    go_enter Try.func75, Try.ntmps75
    go_wp2
    go_loop [3] (fun iv => ∃ i : Nat, iv = .int .i64 (i : Int) ∧ i ≤ 32) (fun iv => 32 - (intOf iv).toNat)
    case atStart => exact ⟨0, rfl, Nat.zero_le _⟩
    case round =>
      obtain ⟨i, rfl, hi⟩ := hrel
      by_cases hi32 : i < 32
      · have hii : (i : Int) < 32 := by omega
        have hgi := HG.out i hi32
        have hb : (((AS[i]'hi32).toNat : Int) == (c : Int)) = false := by
          have := HX.out i hi32
          rw [hgi]
          simp only [beq_eq_false_iff_ne]
          omega
        clear hgi
        go_wp2
        go_round
        case rel => exact ⟨i + 1, by go_num, by omega⟩
        case measure => simp [intOf]; omega
      · have hii : ¬ ((i : Int) < 32) := by omega
        go_wp2
        go_ret
        exact ⟨rfl, rfl⟩

end Go.Proofs.Ytcmembmaaebdeaa
