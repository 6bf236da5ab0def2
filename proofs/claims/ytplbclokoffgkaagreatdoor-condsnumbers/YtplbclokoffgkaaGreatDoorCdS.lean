/- Conditions: a schema of one condition that is right by itself has a text (written, syntax.Check). -/
import Derived.Test.YtplbclokoffgkaaGreatDoorCdR
namespace Go.Proofs.YtplbclokoffgkaaGreatDoor
open Go.RowKit Go.PlainAid

theorem Bn.new (w : World) : Bn (w.alloc (.cells #[.pointer none, .slice none 0 0] 91)) w.heap.size 0 (.slice none 0 0) :=
  ⟨[], .pointer none, ⟨heap_alloc_new w _, .inl rfl, Row.nil _, fun k hk => by simp [Value.ownBlock] at hk⟩, Nat.le_refl _⟩

set_option maxRecDepth 1000000 in
set_option maxHeartbeats 6400000 in
theorem written_fine (nm : ByteArray) (ps : List PD) (xs : List Pt) (vp vx : Value) (b : Nat) (r : Int) (c : Nat) (w : World) (hp : Pm w vp ps) (hx : Pp w vx xs) (hT : Tb w) (hok : CdOk nm ps xs)
    (hlp : Lo w.heap.size vp) (hlx : Lo w.heap.size vx) (hcl : Cl 87 (fun p => #[p, vx, .int .i64 0]) vx xs r c) (hc : c ≤ 45000)
    (e0 : w.cell? ⟨b, 0, none⟩ = some (.string nm)) (e1 : w.cell? ⟨b, 1, none⟩ = some vp) (e2 : w.cell? ⟨b, 2, none⟩ = some vx) :
    Calls Tryz.prog 17 #[.agg #[.slice none 0 0, .slice (some ⟨b, 0, none⟩) 1 1]] w fun e w' => (∃ s, e = .returned (.tuple #[.string s, F0])) ∧ Keep [] w w' := by
  have HV : Hid (Pm w vp ps ∧ Pp w vx xs ∧ Tb w ∧ CdOk nm ps xs ∧ Lo w.heap.size vp ∧ Lo w.heap.size vx) := ⟨hp, hx, hT, hok, hlp, hlx⟩
  have HE : Hid (w.cell? ⟨b, 0, none⟩ = some (.string nm) ∧ w.cell? ⟨b, 1, none⟩ = some vp ∧ w.cell? ⟨b, 2, none⟩ = some vx) := ⟨e0, e1, e2⟩
  obtain ⟨ap, cp, rfl, hl1, hl2, -⟩ := hp.ex
  obtain ⟨ax, cx, rfl, hx1, hx2, -⟩ := hx.ex
  clear hp hx hT hok e0 e1 e2 hlp hlx
  have HW0 : Hid (Keep [] w ((w.alloc (.cells #[.slice none 0 0, .slice (some ⟨b, 0, none⟩) 1 1] 53)).alloc (.cells #[.int .i64 0, .int .i64 0, .int .i64 0, .int .i64 0] 29))) := (Keep.alloc1 _ _).alloc _
  have hS := schemaFault_fine nm ps xs (.slice ap ps.length cp) (.slice ax xs.length cx) b _ (HV.out.1.keep0 HW0.out) (HV.out.2.1.keep0 HW0.out) (HV.out.2.2.1.keep HW0.out (by simp)) HV.out.2.2.2.1 (HW0.out.cell' HE.out.1 (by simp)) (HW0.out.cell' HE.out.2.1 (by simp)) (HW0.out.cell' HE.out.2.2 (by simp))
  go_enter Tryz.func17, Tryz.ntmps17
  go_wp2_with fail
  refine hS.mono ?_
  rintro e9 w9 ⟨rfl, k9⟩
  have y0 : w9.cell? ⟨w.heap.size, 0, none⟩ = some (.slice none 0 0) := k9.cell' (by go_simp) (by simp)
  have y1 : w9.cell? ⟨w.heap.size, 1, none⟩ = some (.slice (some ⟨b, 0, none⟩) 1 1) := k9.cell' (by go_simp) (by simp)
  have z0 : w9.cell? ⟨w.heap.size + 1, 0, none⟩ = some (.int .i64 0) := k9.cell' (by go_simp) (by simp)
  have z1 : w9.cell? ⟨w.heap.size + 1, 1, none⟩ = some (.int .i64 0) := k9.cell' (by go_simp) (by simp)
  have z2 : w9.cell? ⟨w.heap.size + 1, 2, none⟩ = some (.int .i64 0) := k9.cell' (by go_simp) (by simp)
  have z3 : w9.cell? ⟨w.heap.size + 1, 3, none⟩ = some (.int .i64 0) := k9.cell' (by go_simp) (by simp)
  have g0 : ∀ j, w9.frozen? ⟨w.heap.size + 1, j, none⟩ = false := fun j => (k9.frozen (by simp) (by simp)).trans (by simp [go_sem])
  have hsz : w.heap.size + 2 ≤ w9.heap.size := by have := k9.size; simpa using this
  have HK9 : Hid (Keep [] w w9 ∧ w.heap.size + 2 ≤ w9.heap.size) := ⟨HW0.out.trans' k9, hsz⟩
  have HZ : Hid ((w9.cell? ⟨w.heap.size + 1, 0, none⟩ = some (.int .i64 0) ∧ w9.cell? ⟨w.heap.size + 1, 1, none⟩ = some (.int .i64 0) ∧ w9.cell? ⟨w.heap.size + 1, 2, none⟩ = some (.int .i64 0) ∧ w9.cell? ⟨w.heap.size + 1, 3, none⟩ = some (.int .i64 0)) ∧ ∀ j, w9.frozen? ⟨w.heap.size + 1, j, none⟩ = false) := ⟨⟨z0, z1, z2, z3⟩, g0⟩
  clear k9 hS z0 z1 z2 z3 g0 hsz
  have a0 : ((w9.alloc (.cells #[.int .i64 0, .int .i64 0, .int .i64 0, .int .i64 0] 29)).alloc (.cells #[.pointer none, .slice none 0 0] 91)).cell? ⟨w.heap.size, 0, none⟩ = some (.slice none 0 0) := ((Keep.alloc1 w9 _).alloc _).cell' y0 (by simp)
  have a1 : ((w9.alloc (.cells #[.int .i64 0, .int .i64 0, .int .i64 0, .int .i64 0] 29)).alloc (.cells #[.pointer none, .slice none 0 0] 91)).cell? ⟨w.heap.size, 1, none⟩ = some (.slice (some ⟨b, 0, none⟩) 1 1) := ((Keep.alloc1 w9 _).alloc _).cell' y1 (by simp)
  have HS : Hid (Bn ((w9.alloc (.cells #[.int .i64 0, .int .i64 0, .int .i64 0, .int .i64 0] 29)).alloc (.cells #[.pointer none, .slice none 0 0] 91)) (w9.heap.size + 1) 0 (.slice none 0 0) ∧ Keep [] w9 ((w9.alloc (.cells #[.int .i64 0, .int .i64 0, .int .i64 0, .int .i64 0] 29)).alloc (.cells #[.pointer none, .slice none 0 0] 91))) :=
    ⟨by simpa using Bn.new (w9.alloc (.cells #[.int .i64 0, .int .i64 0, .int .i64 0, .int .i64 0] 29)), (Keep.alloc1 _ _).alloc _⟩
  go_wp2
  generalize ((w9.alloc (.cells #[.int .i64 0, .int .i64 0, .int .i64 0, .int .i64 0] 29)).alloc (.cells #[.pointer none, .slice none 0 0] 91)) = wS at HS a0 a1 ⊢
  clear y0 y1
  go_loopw [21] (fun iv wr => iv = .int .i64 0 ∧ wr = wS) (fun _ _ => 1)
  case atStart => exact ⟨rfl, rfl⟩
  case round =>
    obtain ⟨rfl, hwr⟩ := hrel
    obtain rfl := hwr.symm
    clear hwr
    go_wp2
    go_loopw [31] (fun iv wr => ∃ (k : Nat) (v' : Value), iv = .int .i64 (k : Int) ∧ k ≤ 1 ∧ Hid (Bn wr (w9.heap.size + 1) (k * (c + 20000)) v' ∧ Wd (w9.heap.size + 1) (.slice none 0 0) v' wS wr)) (fun iv _ => 1 - (intOf iv).toNat)
    case atStart => exact ⟨0, .slice none 0 0, rfl, by omega, by simpa using HS.out.1, Wd.refl _ _ _⟩
    case round =>
      obtain ⟨k, v', rfl, hk, HI⟩ := hrel
      have hkS : Keep [] w wS := HK9.out.1.trans' HS.out.2
      by_cases hlt : k = 0
      · subst hlt
        have hwq : Keep [w9.heap.size + 1] wS wr := by simpa [Value.ownBlock] using HI.out.2.keep
        have hbig := HK9.out.2
        have hKq : Keep [w9.heap.size + 1] w wr := (hkS.mono (by simp)).trans' hwq
        have hbl : b < w.heap.size := block_lt_of_cell HE.out.1
        have hnb : b ∉ [w9.heap.size + 1] := by simp; omega
        have c0 := hKq.cell' HE.out.1 hnb
        have c1 := hKq.cell' HE.out.2.1 hnb
        have c2 := hKq.cell' HE.out.2.2 hnb
        obtain ⟨hp, hx, hT, hok, hlp, hlx⟩ := HV.out
        have hlp' : Lo (w9.heap.size + 1) (.slice ap ps.length cp) := fun k hk => by have := hlp k hk; omega
        have hlx' : Lo (w9.heap.size + 1) (.slice ax xs.length cx) := fun k hk => by have := hlx k hk; omega
        have hC := scond_any nm ps xs (.slice ap ps.length cp) (.slice ax xs.length cx) r c (w9.heap.size + 1) 0 v' (wr.alloc (.cells #[.string nm, .slice ap ps.length cp, .slice ax xs.length cx] 25))
          ⟨(by simpa using HI.out.1.alloc _), hp.keep (hKq.alloc _) (fun x hx hm => by simp at hm; have := hlp x hx; omega), hx.keep (hKq.alloc _) (fun x hx hm => by simp at hm; have := hlx x hx; omega), hT.keep (hKq.alloc _) (fun x hx hm => by simp at hm; have := hT.big; omega), hlp', hlx', by have := hT.big; omega, hok, by omega⟩ hcl
        clear hkS hwq hKq hp hx hT hok hlp hlx hlp' hlx' hnb hbl hbig
        go_wp2_with fail
        refine hC.mono ?_
        rintro e8 w8 ⟨rfl, v8, b8, d8⟩
        have HR : Hid (Bn w8 (w9.heap.size + 1) (1 * (c + 20000)) v8 ∧ Wd (w9.heap.size + 1) (.slice none 0 0) v8 wS w8) := ⟨b8.mono (by omega), HI.out.2.trans d8.alloc⟩
        clear b8 d8 hC c0 c1 c2 HI
        go_wp2
        go_roundw
        case rel => exact ⟨1, v8, by go_num, by omega, HR.out⟩
        case measure => simp [intOf]
      · obtain rfl : k = 1 := by omega
        have hH := whole_any (w9.heap.size + 1) (1 * (c + 20000)) v' wr HI.out.1 (by omega)
        go_wp2_with fail
        refine hH.mono ?_
        rintro e8 w8 ⟨⟨s, rfl⟩, k8⟩
        have hbig := HK9.out.2
        have hA : Keep [w9.heap.size + 1] wS wr := by simpa [Value.ownBlock] using HI.out.2.keep
        have hnew : ∀ x, v'.ownBlock = some x → w.heap.size + 2 ≤ x := fun x hx => by have := (HI.out.1.rowlt x hx).1; omega
        have hK0 : Keep [] w9 w8 := by
          refine ((HS.out.2.mono (G := [w9.heap.size + 1]) (by simp)).trans' hA).trans k8 (fun x hx => .inr (by simp at hx; omega)) (fun x hx => ?_)
          have := (HI.out.1.rowlt x (by simpa using hx)).1
          exact .inr (by omega)
        have z0 := hK0.cell' HZ.out.1.1 (by simp)
        have z1 := hK0.cell' HZ.out.1.2.1 (by simp)
        have z2 := hK0.cell' HZ.out.1.2.2.1 (by simp)
        have z3 := hK0.cell' HZ.out.1.2.2.2 (by simp)
        have hl1' : w.heap.size + 1 < w9.heap.size := by omega
        have g0 := (hK0.frozen (p := ⟨w.heap.size + 1, 0, none⟩) hl1' (by simp)).trans (HZ.out.2 0)
        have g1 := (hK0.frozen (p := ⟨w.heap.size + 1, 1, none⟩) hl1' (by simp)).trans (HZ.out.2 1)
        have g2 := (hK0.frozen (p := ⟨w.heap.size + 1, 2, none⟩) hl1' (by simp)).trans (HZ.out.2 2)
        have g3 := (hK0.frozen (p := ⟨w.heap.size + 1, 3, none⟩) hl1' (by simp)).trans (HZ.out.2 3)
        have HK : Hid (Keep [] w w8) := HK9.out.1.trans' hK0
        clear hK0 k8 hA hnew hH HI hkS hbig hl1'
        go_wp2
        refine bodyPost_ret (v := .tuple #[.string s, F0]) (by simp [results, Tryz.results17, go_sem, *]) rfl ⟨⟨s, rfl⟩, ?_⟩
        exact (((HK.out.setCell (.inr (by simp)) _).setCell (.inr (by simp)) _).setCell (.inr (by simp)) _).setCell (.inr (by simp)) _
end Go.Proofs.YtplbclokoffgkaaGreatDoor
