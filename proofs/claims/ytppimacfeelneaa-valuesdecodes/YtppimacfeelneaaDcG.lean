/- Decode: what it says of any bytes. -/
import Derived.Test.YtppimacfeelneaaDcF
namespace Go.Proofs.Ytppimacfeelneaa
open Go.RowKit Go.PlainAid Go.Lib

/-- are they the bytes of what is read of them? -/
def isB (x : VD) (l : List UInt8) : Bool := x.mayB && (encL x == l)
abbrev zeroW : Value := .agg #[.int .i64 0, .bool false, .int .i64 0, .float .f32 0, .string ⟨#[]⟩, .slice none 0 0]

set_option maxRecDepth 1000000 in
set_option maxHeartbeats 1600000 in
theorem decode_any (v : Value) (l : List UInt8) (w : World) (hv : Bs w v l) (hln : l.length ≤ 140737488355328) :
    Calls Try.prog 10 #[v] w fun e w' => ((isB (readV l) l = true ∧ ∃ u, e = .returned (.tuple #[(readV l).val u, .int .i64 0]) ∧ Ts w' u (readV l).texts) ∨ (isB (readV l) l = false ∧ e = .returned (.tuple #[zeroW, .int .i64 42]))) ∧ Keep [] w w' := by
  have hok := readV_ok l
  have hF := read_any
  have k0 := Keep.alloc1 w (.cells #[.int .i64 0, .bool false, .int .i64 0, .float .f32 0, .string ⟨#[]⟩, .slice none 0 0] 28)
  have hsf := store_f32
  simp only [Go.stored] at hsf
  have HV : Hid (Bs w v l) := hv
  have HOK : Hid (readV l).Ok := hok
  have HF : Hid (∀ (b : Nat) (rb : Option Nat) (w : World), Rd w b 0 l 0 rb → Calls Try.prog 27 #[.pointer (some ⟨b, 0, none⟩)] w fun e w' => ∃ u, e = .returned ((readV l).val u) ∧ Ts w' u (readV l).texts ∧ (∀ k, u.ownBlock = some k → w.heap.size ≤ k) ∧ Keep [b] w w') := fun b rb w hr => hF b rb l w hr
  generalize readV l = x at *
  have hR := Read_any v l _ (hv.keep k0 (Off.nil _)) hln
  have HK0 : Hid _ := k0
  clear hok hF hv hln k0
  go_enter Try.func10, Try.ntmps10
  go_wp2_with fail
  refine hR.mono ?_
  rintro e1 w1 ⟨b, rb, rfl, hR1, hb, hrb, k1⟩
  have hbs : w.heap.size + 1 ≤ b := by simpa using hb
  have HB : Hid (w.heap.size + 1 ≤ b) := hbs
  have HR : Hid (Rd w1 b 0 l 0 rb) := hR1
  have HK1 : Hid (Keep [] (w.alloc (.cells #[.int .i64 0, .bool false, .int .i64 0, .float .f32 0, .string ⟨#[]⟩, .slice none 0 0] 28)) w1) := k1
  clear hR1 hrb k1 hb hR hbs
  go_wp2_with fail
  refine (HF.out b rb w1 HR.out).mono ?_
  rintro e2 w2 ⟨u, rfl, hu, hub, k2⟩
  have HK2 : Hid (Keep [b] (w.alloc (.cells #[.int .i64 0, .bool false, .int .i64 0, .float .f32 0, .string ⟨#[]⟩, .slice none 0 0] 28)) w2) := (HK1.out.mono (fun _ h => by cases h)).trans' k2
  have HU : Hid (Ts w2 u x.texts) := hu
  have HUB : Hid (∀ k, u.ownBlock = some k → w1.heap.size ≤ k) := hub
  have HS1 : Hid (w.heap.size + 1 ≤ w1.heap.size) := by have := HK1.out.size; simp at this; exact this
  obtain ⟨ao, ca, hue, _, _, _, _⟩ := hu.ex
  subst hue
  have hz : w.heap.size < w2.heap.size := by have := HK2.out.size; simp at this; omega
  have HZ : Hid (w.heap.size < w2.heap.size) := hz
  clear k2 HR HK1 hu hz hub
  have HX : Hid (x.Ok) := HOK.out
  by_cases hm : x.mayB = true
  · have hE := fun (W : World) (h : Ts W (.slice ao x.texts.length ca) x.texts) => encode_yes x HX.out hm (.slice ao x.texts.length ca) W h
    have HE : Hid (∀ (W : World) (h : Ts W (.slice ao x.texts.length ca) x.texts), Calls Try.prog 29 #[x.val (.slice ao x.texts.length ca)] W fun e w' => ∃ v, e = .returned (.tuple #[v, .int .i64 0]) ∧ (Row w' v (encL x) ∧ Fresh W w' v ∧ Sl v (encL x).length) ∧ Keep [] W w') := hE
    have HM : Hid (x.mayB = true) := hm
    clear hE hm
    go_wp2_with fail
    refine (HE.out _ (HU.out.keep (Keep.alloc1 w2 _) (Off.nil _))).mono ?_
    rintro e3 w3 ⟨v3, rfl, ⟨hr3, hf3, hs3⟩, k3⟩
    have HK3 : Hid (Keep [b] (w.alloc (.cells #[.int .i64 0, .bool false, .int .i64 0, .float .f32 0, .string ⟨#[]⟩, .slice none 0 0] 28)) w3) := (HK2.out.alloc _).trans' (k3.mono (fun _ h => by cases h))
    have HU3 : Hid (Ts w3 (.slice ao x.texts.length ca) x.texts) := (HU.out.keep (Keep.alloc1 w2 _) (Off.nil _)).keep k3 (Off.nil _)
    have hw3 : Keep [] w w3 := HK0.out.trans HK3.out (fun _ h => by cases h) (fun y hy => .inr (by have := HB.out; simp at hy; omega))
    have HW3 : Hid (Keep [] w w3) := hw3
    obtain ⟨⟨c0, c1, c2, c3, c4, c5⟩, hfz⟩ := six_cells HK3.out (by have := HB.out; simp; omega)
    obtain ⟨⟨d0, d1, d2, d3, d4, d5⟩, _⟩ := six_cells k3 (by simp)
    have hq := equal_any v3 v (encL x) l w3 hr3.bs (HV.out.keep hw3 (Off.nil _))
    obtain ⟨a3, ca3, rfl⟩ := hs3
    have f0 := hfz 0
    have f1 := hfz 1
    have f2 := hfz 2
    have f3 := hfz 3
    have f4 := hfz 4
    have f5 := hfz 5
    have hz3 : w.heap.size < w3.heap.size := by have := HK3.out.size; simp at this; omega
    clear k3 hfz HK2 HK3 hr3 hf3 hw3 HE
    have hib : isB x l = (encL x == l) := by unfold isB; rw [HM.out]; simp
    clear HM
    cases hzz : (encL x == l)
    · rw [hzz] at hq hib
      have HIB : Hid (isB x l = false) := hib
      clear hib hzz d0 d1 d2 d3 d4 d5
      go_wp2_with fail
      refine hq.mono ?_
      rintro e4 w4 ⟨rfl, rfl⟩
      clear hq
      go_wp2
      refine bodyPost_ret (v := .tuple #[zeroW, .int .i64 42]) (by simp [results, Try.results10, go_sem, c0, c1, c2, c3, c4, c5]) rfl ⟨.inr ⟨HIB.out, rfl⟩, ?_⟩
      exact (((((HW3.out.setCell (.inr (Nat.le_refl _)) _).setCell (.inr (Nat.le_refl _)) _).setCell (.inr (Nat.le_refl _)) _).setCell (.inr (Nat.le_refl _)) _).setCell (.inr (Nat.le_refl _)) _).setCell (.inr (Nat.le_refl _)) _
    · rw [hzz] at hq hib
      have HIB : Hid (isB x l = true) := hib
      clear hib hzz
      go_wp2_with fail
      refine hq.mono ?_
      rintro e4 w4 ⟨rfl, rfl⟩
      clear hq
      go_wp2
      refine bodyPost_ret (v := .tuple #[x.val (.slice ao x.texts.length ca), .int .i64 0]) (by simp [results, Try.results10, go_sem, c0, c1, c2, c3, c4, c5]) rfl ⟨.inl ⟨HIB.out, _, rfl, ?_⟩, ?_⟩
      · refine HU3.out.keep (F := [w.heap.size]) ?_ (fun k hk hm => ?_)
        · exact (((((((Keep.refl [w.heap.size] w4).setCell (.inl (by simp)) _).setCell (.inl (by simp)) _).setCell (.inl (by simp)) _).setCell (.inl (by simp)) _).setCell (.inl (by simp)) _).setCell (.inl (by simp)) _)
        · have h1 := HUB.out k hk
          have h2 := HS1.out
          simp at hm
          omega
      exact (((((HW3.out.setCell (.inr (Nat.le_refl _)) _).setCell (.inr (Nat.le_refl _)) _).setCell (.inr (Nat.le_refl _)) _).setCell (.inr (Nat.le_refl _)) _).setCell (.inr (Nat.le_refl _)) _).setCell (.inr (Nat.le_refl _)) _
  · have hm' : x.mayB = false := by simpa using hm
    have hE := fun (W : World) (h : Ts W (.slice ao x.texts.length ca) x.texts) => encode_no x HX.out hm' (.slice ao x.texts.length ca) W h
    have HE : Hid (∀ (W : World) (h : Ts W (.slice ao x.texts.length ca) x.texts), Calls Try.prog 29 #[x.val (.slice ao x.texts.length ca)] W fun e w' => e = .returned (.tuple #[.slice none 0 0, .int .i64 40]) ∧ Keep [] W w') := hE
    have hib : isB x l = false := by unfold isB; rw [hm']; simp
    have HIB : Hid (isB x l = false) := hib
    clear hE hm hm' hib
    go_wp2_with fail
    refine (HE.out _ (HU.out.keep (Keep.alloc1 w2 _) (Off.nil _))).mono ?_
    rintro e3 w3 ⟨rfl, k3⟩
    have HK3 : Hid (Keep [b] (w.alloc (.cells #[.int .i64 0, .bool false, .int .i64 0, .float .f32 0, .string ⟨#[]⟩, .slice none 0 0] 28)) w3) := (HK2.out.alloc _).trans' (k3.mono (fun _ h => by cases h))
    obtain ⟨⟨c0, c1, c2, c3, c4, c5⟩, hfz⟩ := six_cells HK3.out (by have := HB.out; simp; omega)
    have f0 := hfz 0
    have f1 := hfz 1
    have f2 := hfz 2
    have f3 := hfz 3
    have f4 := hfz 4
    have f5 := hfz 5
    have hz3 : w.heap.size < w3.heap.size := by have := HK3.out.size; simp at this; omega
    have HK : Hid (Keep [] w w3) := HK0.out.trans HK3.out (fun _ h => by cases h) (fun x hx => .inr (by have := HB.out; simp at hx; omega))
    clear k3 hfz HK2 HK3 HE
    go_wp2
    refine bodyPost_ret (v := .tuple #[zeroW, .int .i64 42]) (by simp [results, Try.results10, go_sem, c0, c1, c2, c3, c4, c5]) rfl ⟨.inr ⟨HIB.out, rfl⟩, ?_⟩
    exact (((((HK.out.setCell (.inr (Nat.le_refl _)) _).setCell (.inr (Nat.le_refl _)) _).setCell (.inr (Nat.le_refl _)) _).setCell (.inr (Nat.le_refl _)) _).setCell (.inr (Nat.le_refl _)) _).setCell (.inr (Nat.le_refl _)) _
end Go.Proofs.Ytppimacfeelneaa
