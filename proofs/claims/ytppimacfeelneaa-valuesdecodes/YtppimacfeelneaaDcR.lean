/- The document's Decode: what it says of any bytes. -/
import Derived.Test.YtppimacfeelneaaDcQ
import Derived.Test.YtppimacfeelneaaDcO
import Derived.Deep.QuietTactic
import Derived.BigQuiet
namespace Go.Proofs.Ytppimacfeelneaa
open Go.RowKit Go.PlainAid Go.Lib

def DcdA (l : List UInt8) (w : World) (e : Ending) (w' : World) : Prop :=
  ((isB (readV l) l = true ∧ ∃ (y : VD) (u : Value), e = .returned (.tuple #[y.val u, .int .i64 0]) ∧ Ts w' u y.texts ∧ y.Ok ∧ Alike (readV l) y) ∨ (isB (readV l) l = false ∧ e = .returned (.tuple #[zeroW, .int .i64 42]))) ∧ Keep [] w w'

theorem long_none (l : List UInt8) (h : 10000 < l.length) : isB (readV l) l = false := by
  cases hb : isB (readV l) l
  · rfl
  · unfold isB at hb
    simp only [Bool.and_eq_true, beq_iff_eq] at hb
    have h1 := body_len (readV l) (readV_ok l) hb.1
    have h2 := congrArg List.length hb.2
    have h3 : (encL (readV l)).length = (bodyL (readV l)).length + 1 := rfl
    omega

set_option maxRecDepth 1000000 in
set_option maxHeartbeats 1600000 in
theorem dDecode_long (v : Value) (l : List UInt8) (w : World) (hv : Bs w v l) (h : 10000 < l.length) :
    Calls Try.prog 20 #[v] w fun e w' => DcdA l w e w' := by
  have HN : Hid (isB (readV l) l = false) := long_none l h
  obtain ⟨ao, cap, rfl, hlc, hcm, _, _⟩ := hv.ex
  have hi : (10000 : Int) < (l.length : Int) := by omega
  have hsf := store_f32
  simp only [Go.stored] at hsf
  clear hv
  go_enter Try.func20, Try.ntmps20
  go_wp2
  refine bodyPost_ret (v := .tuple #[zeroW, .int .i64 42]) (by simp [results, Try.results20, go_sem]) rfl ?_
  exact ⟨.inr ⟨HN.out, rfl⟩, Keep.alloc1 w _⟩

/-- what first says, as far as Decode goes -/
def FstD (l : List UInt8) (w : World) (e : Ending) (w' : World) : Prop := ∃ (y : VD) (u : Value), e = .returned (y.val u) ∧ Ts w' u y.texts ∧ (∀ k, u.ownBlock = some k → w.heap.size ≤ k) ∧ Keep [] w w' ∧ y.Ok ∧ isB y l = isB (readV l) l ∧ (isB (readV l) l = true → Alike (readV l) y)
theorem fst_of {l : List UInt8} {w w' : World} {e : Ending} (h : FstA l w e w') : FstD l w e w' := by
  obtain ⟨y, u, h1, h2, h3, h4, h5⟩ := h
  obtain ⟨g1, g2⟩ := both_same l y h5
  exact ⟨y, u, h1, h2, h3, h4, h5.ok, g1, g2⟩

set_option maxRecDepth 1000000 in
set_option maxHeartbeats 1600000 in
theorem dDecode_any (v : Value) (l : List UInt8) (w : World) (hv : Bs w v l) (hln : l.length ≤ 10000) (hFst : ∀ W, Keep [] w W → Calls Try.prog 47 #[v] W fun e w' => FstD l W e w') :
    Calls Try.prog 20 #[v] w fun e w' => DcdA l w e w' := by
  have HFst : Hid _ := hFst
  have HV : Hid (Bs w v l) := hv
  have k0 : Keep [] w (w.alloc (.cells #[.int .i64 0, .bool false, .int .i64 0, .float .f32 0, .string ⟨#[]⟩, .slice none 0 0] 28)) := Keep.alloc1 w _
  have HK0 : Hid _ := k0
  have hsf := store_f32
  simp only [Go.stored] at hsf
  obtain ⟨ao, cap, rfl, hlc, hcm, _, hex⟩ := hv.ex
  have HEX : Hid _ := hex
  have hi : ¬ (10000 : Int) < (l.length : Int) := by omega
  clear hFst hv k0 hex
  go_enter Try.func20, Try.ntmps20
  go_wp2_with fail
  refine (HFst.out _ HK0.out).mono ?_
  rintro e1 w1 ⟨y, u, rfl, hu, hub, k1, hok, hsame, hal⟩
  have HU : Hid (Ts w1 u y.texts ∧ (∀ k, u.ownBlock = some k → w.heap.size + 1 ≤ k)) := ⟨hu, fun k hk => by have := hub k hk; simpa using this⟩
  have HS : Hid (isB y l = isB (readV l) l ∧ (isB (readV l) l = true → Alike (readV l) y)) := ⟨hsame, hal⟩
  have HOK : Hid y.Ok := hok
  have HK1 : Hid (Keep [] (w.alloc (.cells #[.int .i64 0, .bool false, .int .i64 0, .float .f32 0, .string ⟨#[]⟩, .slice none 0 0] 28)) w1) := k1
  obtain ⟨au, cu, hue, _, _, _, _⟩ := hu.ex
  subst hue
  clear hu hub k1 hok hsame hal HFst
  by_cases hm : y.mayB = true
  · have HE : Hid (∀ (W : World) (h : Ts W (.slice au y.texts.length cu) y.texts), Calls Try.prog 48 #[y.val (.slice au y.texts.length cu)] W fun e w' => EncA y W e w') := fun W h => dEncode_yes y HOK.out hm _ W h
    have HM : Hid (y.mayB = true) := hm
    clear hm
    go_wp2_with fail
    refine (HE.out _ (HU.out.1.keep (Keep.alloc1 w1 _) (Off.nil _))).mono ?_
    rintro e3 w3 ⟨v3, rfl, ⟨hr3, hf3, hs3⟩, k3⟩
    have HK3 : Hid (Keep [] (w.alloc (.cells #[.int .i64 0, .bool false, .int .i64 0, .float .f32 0, .string ⟨#[]⟩, .slice none 0 0] 28)) w3) := (HK1.out.alloc _).trans' k3
    have HU3 : Hid (Ts w3 (.slice au y.texts.length cu) y.texts) := (HU.out.1.keep (Keep.alloc1 w1 _) (Off.nil _)).keep k3 (Off.nil _)
    have HW3 : Hid (Keep [] w w3) := HK0.out.trans' HK3.out
    obtain ⟨⟨c0, c1, c2, c3, c4, c5⟩, hfz⟩ := six_cells HK3.out (by simp)
    obtain ⟨⟨d0, d1, d2, d3, d4, d5⟩, _⟩ := six_cells k3 (by simp)
    have hRB : Bs w3 v3 (encL y) := hr3.bs
    obtain ⟨a3, ca3, rfl⟩ := hs3
    have f0 := hfz 0
    have f1 := hfz 1
    have f2 := hfz 2
    have f3 := hfz 3
    have f4 := hfz 4
    have f5 := hfz 5
    have hz3 : w.heap.size < w3.heap.size := by have := HK3.out.size; simp at this; omega
    have HIB : Hid (isB (readV l) l = (encL y == l)) := show _ = _ by rw [← HS.out.1]; unfold isB; rw [HM.out]; simp
    clear k3 hfz HK3 hr3 hf3 HE
    by_cases hle : (encL y).length = l.length
    · have hlei : (((encL y).length : Int) != (l.length : Int)) = false := by simp; omega
      have HC : Hid (∀ i, i < l.length → ∃ b o g p, ao = some ⟨b, o, none⟩ ∧ a3 = some ⟨g, p, none⟩ ∧ w3.cell? ⟨b, o + i, none⟩ = some (.int .u8 ((l.getD i 0).toNat : Int)) ∧ w3.cell? ⟨g, p + i, none⟩ = some (.int .u8 (((encL y).getD i 0).toNat : Int))) := by
        show ∀ i, i < l.length → ∃ b o g p, ao = some ⟨b, o, none⟩ ∧ a3 = some ⟨g, p, none⟩ ∧ w3.cell? ⟨b, o + i, none⟩ = some (.int .u8 ((l.getD i 0).toNat : Int)) ∧ w3.cell? ⟨g, p + i, none⟩ = some (.int .u8 (((encL y).getD i 0).toNat : Int))
        intro i hil
        obtain ⟨b, o, rfl, h3⟩ := HEX.out (by intro hz; rw [hz] at hil; simp at hil)
        obtain ⟨ax, cx, he, _, _, _, h4⟩ := hRB.ex
        obtain ⟨g, p, hg, h5⟩ := h4 (by intro hz; rw [hz] at hle; simp at hle; omega)
        simp at he
        obtain ⟨rfl, rfl⟩ := he
        exact ⟨b, o, g, p, rfl, hg, HW3.out.cell' (h3 i hil) (by simp), h5 i (by omega)⟩
      have hcc : ∃ m, m = (encL y).length ∧ m ≤ ca3 ∧ ca3 ≤ 9223372036854775807 := ⟨_, rfl, by
        obtain ⟨ax, cx, he, h1, h2, _⟩ := hRB.ex
        simp at he
        obtain ⟨_, rfl⟩ := he
        simp only [maxLen] at h2
        omega⟩
      obtain ⟨m, hm1, hm2, hm3⟩ := hcc
      have HLE : Hid ((encL y).length = l.length) := hle
      rw [hle]
      rw [hle] at hlei hm1
      subst hm1
      clear hRB hle HEX
      go_wp2
      go_loopw [7] (fun iv wr => ∃ (i n : Nat), iv = .int .i64 (i : Int) ∧ i ≤ l.length ∧ Hid ((encL y).take i = l.take i) ∧ wr = w3.drewN n) (fun iv _ => l.length - (intOf iv).toNat)
      case atStart => exact ⟨0, 0, rfl, Nat.zero_le _, rfl, rfl⟩
      case round =>
        obtain ⟨i, n, rfl, hil, htk, rfl⟩ := hrel
        by_cases hlt : i < l.length
        · have hlti : (i : Int) < (l.length : Int) := by omega
          obtain ⟨b, o, g, p, rfl, rfl, x1, x2⟩ := HC.out i hlt
          have hd1 := take_snoc l i hlt
          have hd2 := take_snoc (encL y) i (by have := HLE.out; omega)
          have HB1 : Hid (l.getD i 0 = (encL y).getD i 0 → (encL y).take (i + 1) = l.take (i + 1)) := fun h => by rw [hd1, hd2, h, htk.out]
          have HB2 : Hid (l.getD i 0 ≠ (encL y).getD i 0 → encL y ≠ l) := fun h h9 => h (by rw [h9])
          clear hd1 hd2 HC
          by_cases heq : l.getD i 0 = (encL y).getD i 0
          · have hT := HB1.out heq
            rw [← heq] at x2
            have HT : Hid ((encL y).take (i + 1) = l.take (i + 1)) := hT
            generalize (l.getD i 0).toNat = c at x1 x2
            have hcc : ((c : Int) != (c : Int)) = false := by simp
            clear hT heq HB1 HB2 htk
            go_wp2
            go_quiet (fail)
            go_wp2
            go_roundw
            case rel => exact ⟨i + 1, _, by go_num, by omega, HT, rfl⟩
            case measure => simp [intOf]; omega
          · have hN := HB2.out heq
            have HNO : Hid (isB (readV l) l = false) := show _ = _ by rw [HIB.out, beq_eq_false_iff_ne]; exact hN
            have hcc : ((((l.getD i 0).toNat : Nat) : Int) != ((((encL y).getD i 0).toNat : Nat) : Int)) = true := by
              simp only [bne_iff_ne, ne_eq]
              intro h
              exact heq (UInt8.toNat_inj.1 (by omega))
            generalize (l.getD i 0).toNat = c at x1 hcc
            generalize ((encL y).getD i 0).toNat = c' at x2 hcc
            clear hN heq HB1 HB2 htk
            go_wp2
            go_quiet (fail)
            go_wp2
            refine bodyPost_ret (v := .tuple #[zeroW, .int .i64 42]) (by simp [results, Try.results20, go_sem, c0, c1, c2, c3, c4, c5]) rfl ⟨.inr ⟨HNO.out, rfl⟩, ?_⟩
            exact ((((((HW3.out.drewN _).setCell (.inr (Nat.le_refl _)) _).setCell (.inr (Nat.le_refl _)) _).setCell (.inr (Nat.le_refl _)) _).setCell (.inr (Nat.le_refl _)) _).setCell (.inr (Nat.le_refl _)) _).setCell (.inr (Nat.le_refl _)) _
        · have hlti : ¬ (i : Int) < (l.length : Int) := by omega
          have hyes : encL y = l := by
            have := htk.out
            rw [List.take_of_length_le (by have := HLE.out; omega), List.take_of_length_le (by omega)] at this
            exact this
          have HY : Hid (isB (readV l) l = true) := show _ = _ by rw [HIB.out, hyes]; simp
          clear hyes htk HC
          go_wp2
          refine bodyPost_ret (v := .tuple #[y.val (.slice au y.texts.length cu), .int .i64 0]) (by simp [results, Try.results20, go_sem, c0, c1, c2, c3, c4, c5]) rfl ⟨.inl ⟨HY.out, y, _, rfl, ?_, HOK.out, HS.out.2 HY.out⟩, ?_⟩
          · refine HU3.out.keep (F := [w.heap.size]) ?_ (fun k hk hm => ?_)
            · exact ((((((((Keep.refl [w.heap.size] w3).drewN _).setCell (.inl (by simp)) _).setCell (.inl (by simp)) _).setCell (.inl (by simp)) _).setCell (.inl (by simp)) _).setCell (.inl (by simp)) _).setCell (.inl (by simp)) _)
            · have h1 := HU.out.2 k hk
              simp at hm
              omega
          exact ((((((HW3.out.drewN _).setCell (.inr (Nat.le_refl _)) _).setCell (.inr (Nat.le_refl _)) _).setCell (.inr (Nat.le_refl _)) _).setCell (.inr (Nat.le_refl _)) _).setCell (.inr (Nat.le_refl _)) _).setCell (.inr (Nat.le_refl _)) _
    · have hlei : (((encL y).length : Int) != (l.length : Int)) = true := by simp; omega
      have HNO : Hid (isB (readV l) l = false) := show _ = _ by
        rw [HIB.out, beq_eq_false_iff_ne]
        intro h
        exact hle (by rw [h])
      clear d0 d1 d2 d3 d4 d5 hRB hle
      go_wp2
      refine bodyPost_ret (v := .tuple #[zeroW, .int .i64 42]) (by simp [results, Try.results20, go_sem, c0, c1, c2, c3, c4, c5]) rfl ⟨.inr ⟨HNO.out, rfl⟩, ?_⟩
      exact (((((HW3.out.setCell (.inr (Nat.le_refl _)) _).setCell (.inr (Nat.le_refl _)) _).setCell (.inr (Nat.le_refl _)) _).setCell (.inr (Nat.le_refl _)) _).setCell (.inr (Nat.le_refl _)) _).setCell (.inr (Nat.le_refl _)) _
  · have hm' : y.mayB = false := by simpa using hm
    have HE : Hid (∀ (W : World) (h : Ts W (.slice au y.texts.length cu) y.texts), Calls Try.prog 48 #[y.val (.slice au y.texts.length cu)] W fun e w' => e = .returned (.tuple #[.slice none 0 0, .int .i64 40]) ∧ Keep [] W w') := fun W h => dEncode_no y HOK.out hm' _ W h
    have HNO : Hid (isB (readV l) l = false) := show _ = _ by rw [← HS.out.1]; unfold isB; rw [hm']; simp
    clear hm hm'
    go_wp2_with fail
    refine (HE.out _ (HU.out.1.keep (Keep.alloc1 w1 _) (Off.nil _))).mono ?_
    rintro e3 w3 ⟨rfl, k3⟩
    have HK3 : Hid (Keep [] (w.alloc (.cells #[.int .i64 0, .bool false, .int .i64 0, .float .f32 0, .string ⟨#[]⟩, .slice none 0 0] 28)) w3) := (HK1.out.alloc _).trans' k3
    obtain ⟨⟨c0, c1, c2, c3, c4, c5⟩, hfz⟩ := six_cells HK3.out (by simp)
    have f0 := hfz 0
    have f1 := hfz 1
    have f2 := hfz 2
    have f3 := hfz 3
    have f4 := hfz 4
    have f5 := hfz 5
    have hz3 : w.heap.size < w3.heap.size := by have := HK3.out.size; simp at this; omega
    have HK : Hid (Keep [] w w3) := HK0.out.trans' HK3.out
    clear k3 hfz HK3 HE
    go_wp2
    refine bodyPost_ret (v := .tuple #[zeroW, .int .i64 42]) (by simp [results, Try.results20, go_sem, c0, c1, c2, c3, c4, c5]) rfl ⟨.inr ⟨HNO.out, rfl⟩, ?_⟩
    exact (((((HK.out.setCell (.inr (Nat.le_refl _)) _).setCell (.inr (Nat.le_refl _)) _).setCell (.inr (Nat.le_refl _)) _).setCell (.inr (Nat.le_refl _)) _).setCell (.inr (Nat.le_refl _)) _).setCell (.inr (Nat.le_refl _)) _
end Go.Proofs.Ytppimacfeelneaa
