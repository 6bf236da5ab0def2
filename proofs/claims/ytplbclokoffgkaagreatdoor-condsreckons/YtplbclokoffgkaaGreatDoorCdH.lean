/- Conditions: nothing is wrong with one by itself (paramFault, condFault, schemaFault). -/
import Derived.Test.YtplbclokoffgkaaGreatDoorCdF

namespace Go.Proofs.YtplbclokoffgkaaGreatDoor
open Go.RowKit Go.PlainAid

theorem paramFault_fine (s : ByteArray) (k : Int) (hn : nameL s.toList = true) (h1 : 1 ≤ k) (h5 : k ≤ 5) (w : World) : Calls Tryz.prog 83 #[.agg #[.string s, .int .i64 k]] w fun e w' => e = .returned (.int .i64 0) ∧ Keep [] w w' := by
  have hN := fun w1 => name_any s w1
  rw [hn] at hN
  have hK := fun w1 => isKind_any k w1
  rw [decide_eq_true h1, decide_eq_true h5] at hK
  clear hn h1 h5
  go_enter Tryz.func83, Tryz.ntmps83
  go_wp2_with fail
  refine (hN _).mono ?_
  rintro e9 w9 ⟨rfl, hw9⟩
  obtain rfl := hw9.symm
  clear hw9
  go_wp2_with fail
  refine (hK _).mono ?_
  rintro e9 w9 ⟨rfl, hw9⟩
  obtain rfl := hw9.symm
  clear hw9
  go_wp2
  go_ret
  exact ⟨rfl, Keep.alloc1 _ _⟩

/-- a condition whose parts are right by themselves and make a tree -/
structure CdOk (nm : ByteArray) (ps : List PD) (xs : List Pt) : Prop where
  name : nameL nm.toList = true
  plen : ps.length ≤ 16
  pars : ∀ p ∈ ps, nameL p.nm.toList = true ∧ 1 ≤ p.kind ∧ p.kind ≤ 5
  xlen : xs.length ≤ 100
  prts : ∀ p ∈ xs, p.Ok ∧ p.fine
  tree : wfK (xs.map Pt.kind) [1] = true
abbrev F0 : Value := .agg #[.int .i64 0, .int .i64 0, .int .i64 0, .int .i64 0]

set_option maxRecDepth 1000000 in
set_option maxHeartbeats 3200000 in
theorem condFault_fine (nm : ByteArray) (ps : List PD) (xs : List Pt) (vp vx : Value) (w : World) (hp : Pm w vp ps) (hx : Pp w vx xs) (hT : Tb w) (hok : CdOk nm ps xs) :
    Calls Tryz.prog 53 #[.agg #[.string nm, vp, vx]] w fun e w' => e = .returned F0 ∧ Keep [] w w' := by
  have HV : Hid (Pm w vp ps ∧ Pp w vx xs ∧ Tb w ∧ CdOk nm ps xs) := ⟨hp, hx, hT, hok⟩
  have hN := fun w1 => name_any nm w1
  rw [hok.name] at hN
  have h16 : ¬ (16 : Int) < (ps.length : Int) := by have := hok.plen; omega
  obtain ⟨ap, cp, rfl, hl1, hl2, -⟩ := hp.ex
  obtain ⟨ax, cx, rfl, hx1, hx2, -⟩ := hx.ex
  clear hp hx hT hok
  go_enter Tryz.func53, Tryz.ntmps53
  go_wp2_with fail
  refine (hN _).mono ?_
  rintro e9 w9 ⟨rfl, hw9⟩
  obtain rfl := hw9.symm
  clear hw9 hN
  go_wp2
  have HW0 : Hid (Keep [] w ((w.alloc (.cells #[.string nm, .slice ap ps.length cp, .slice ax xs.length cx] 25)).alloc (.cells #[.int .i64 0, .int .i64 0, .int .i64 0, .int .i64 0] 29))) := (Keep.alloc1 _ _).alloc _
  go_loopw [21] (fun iv wr => ∃ k : Nat, iv = .int .i64 (k : Int) ∧ k ≤ ps.length ∧ Hid (Keep [] ((w.alloc (.cells #[.string nm, .slice ap ps.length cp, .slice ax xs.length cx] 25)).alloc (.cells #[.int .i64 0, .int .i64 0, .int .i64 0, .int .i64 0] 29)) wr)) (fun iv _ => ps.length - (intOf iv).toNat)
  case atStart => exact ⟨0, rfl, Nat.zero_le _, Keep.refl _ _⟩
  case round =>
    obtain ⟨k, rfl, hk, HI⟩ := hrel
    by_cases hlt : k < ps.length
    · have hlti : (k : Int) < (ps.length : Int) := by omega
      obtain ⟨hP, _, _, hok⟩ := HV.out
      obtain ⟨_, _, he, _, _, hne⟩ := (hP.keep0 (HW0.out.trans' HI.out)).ex
      simp at he
      obtain ⟨rfl, rfl⟩ := he
      obtain ⟨b, o, rfl, hc⟩ := hne (by intro hz; rw [hz] at hlt; simp at hlt)
      obtain ⟨e0, e1⟩ := hc k hlt
      obtain ⟨n1, n2, n3⟩ := hok.pars _ (List.getElem_mem hlt)
      generalize ps[k] = x at e0 e1 n1 n2 n3
      have hF := fun w1 => paramFault_fine x.nm x.kind n1 n2 n3 w1
      clear n1 n2 n3 hc hne hP hok
      go_wp2_with fail
      refine (hF _).mono ?_
      rintro e9 w9 ⟨rfl, k9⟩
      have HR : Hid (Keep [] ((w.alloc (.cells #[.string nm, .slice (some ⟨b, o, none⟩) ps.length cp, .slice ax xs.length cx] 25)).alloc (.cells #[.int .i64 0, .int .i64 0, .int .i64 0, .int .i64 0] 29)) w9) := (HI.out.alloc _).trans' k9
      clear k9 HI hF e0 e1
      go_wp2
      go_roundw
      case rel => exact ⟨k + 1, by go_num, by omega, HR.out⟩
      case measure => simp [intOf]; omega
    · have hlti : ¬ (k : Int) < (ps.length : Int) := by omega
      have hE := expr_fine (.slice ax xs.length cx) xs wr (HV.out.2.1.keep0 (HW0.out.trans' HI.out)) (HV.out.2.2.1.keep (HW0.out.trans' HI.out) (by simp)) HV.out.2.2.2.xlen HV.out.2.2.2.prts HV.out.2.2.2.tree
      have c2 : wr.cell? ⟨w.heap.size, 2, none⟩ = some (.slice ax xs.length cx) := HI.out.cell' (by go_simp) (by simp)
      go_wp2_with fail
      refine hE.mono ?_
      rintro e9 w9 ⟨rfl, k9⟩
      have K9 := HI.out.trans' k9
      have z0 : w9.cell? ⟨w.heap.size + 1, 0, none⟩ = some (.int .i64 0) := K9.cell' (by go_simp) (by simp)
      have z1 : w9.cell? ⟨w.heap.size + 1, 1, none⟩ = some (.int .i64 0) := K9.cell' (by go_simp) (by simp)
      have z2 : w9.cell? ⟨w.heap.size + 1, 2, none⟩ = some (.int .i64 0) := K9.cell' (by go_simp) (by simp)
      have z3 : w9.cell? ⟨w.heap.size + 1, 3, none⟩ = some (.int .i64 0) := K9.cell' (by go_simp) (by simp)
      have g0 : w9.frozen? ⟨w.heap.size + 1, 0, none⟩ = false := (K9.frozen (by simp) (by simp)).trans (by go_simp)
      have g1 : w9.frozen? ⟨w.heap.size + 1, 1, none⟩ = false := (K9.frozen (by simp) (by simp)).trans (by go_simp)
      have g2 : w9.frozen? ⟨w.heap.size + 1, 2, none⟩ = false := (K9.frozen (by simp) (by simp)).trans (by go_simp)
      have g3 : w9.frozen? ⟨w.heap.size + 1, 3, none⟩ = false := (K9.frozen (by simp) (by simp)).trans (by go_simp)
      have HK : Hid (Keep [] w w9) := HW0.out.trans' K9
      clear K9 k9 hE c2 HI
      go_wp2
      refine bodyPost_ret (v := F0) (by simp [results, Tryz.results53, go_sem, *]) rfl ⟨rfl, ?_⟩
      exact (((HK.out.setCell (.inr (by simp)) _).setCell (.inr (by simp)) _).setCell (.inr (by simp)) _).setCell (.inr (by simp)) _
end Go.Proofs.YtplbclokoffgkaaGreatDoor

/- Conditions: nothing is wrong with a schema of one condition that is right by itself. -/
namespace Go.Proofs.YtplbclokoffgkaaGreatDoor
open Go.RowKit Go.PlainAid

set_option maxRecDepth 1000000 in
set_option maxHeartbeats 3200000 in
theorem schemaFault_fine (nm : ByteArray) (ps : List PD) (xs : List Pt) (vp vx : Value) (b : Nat) (w : World) (hp : Pm w vp ps) (hx : Pp w vx xs) (hT : Tb w) (hok : CdOk nm ps xs)
    (e0 : w.cell? ⟨b, 0, none⟩ = some (.string nm)) (e1 : w.cell? ⟨b, 1, none⟩ = some vp) (e2 : w.cell? ⟨b, 2, none⟩ = some vx) :
    Calls Tryz.prog 32 #[.agg #[.slice none 0 0, .slice (some ⟨b, 0, none⟩) 1 1]] w fun e w' => e = .returned F0 ∧ Keep [] w w' := by
  have HV : Hid (Pm w vp ps ∧ Pp w vx xs ∧ Tb w ∧ CdOk nm ps xs) := ⟨hp, hx, hT, hok⟩
  have HE : Hid (w.cell? ⟨b, 0, none⟩ = some (.string nm) ∧ w.cell? ⟨b, 1, none⟩ = some vp ∧ w.cell? ⟨b, 2, none⟩ = some vx) := ⟨e0, e1, e2⟩
  obtain ⟨ap, cp, rfl, hl1, hl2, -⟩ := hp.ex
  obtain ⟨ax, cx, rfl, hx1, hx2, -⟩ := hx.ex
  clear hp hx hT hok e0 e1 e2
  have HW0 : Hid (Keep [] w ((w.alloc (.cells #[.slice none 0 0, .slice (some ⟨b, 0, none⟩) 1 1] 53)).alloc (.cells #[.int .i64 0, .int .i64 0, .int .i64 0, .int .i64 0] 29))) := (Keep.alloc1 _ _).alloc _
  go_enter Tryz.func32, Tryz.ntmps32
  go_wp2
  go_loopw [23] (fun iv wr => iv = .int .i64 0 ∧ wr = ((w.alloc (.cells #[.slice none 0 0, .slice (some ⟨b, 0, none⟩) 1 1] 53)).alloc (.cells #[.int .i64 0, .int .i64 0, .int .i64 0, .int .i64 0] 29))) (fun _ _ => 1)
  case atStart => exact ⟨rfl, rfl⟩
  case round =>
    obtain ⟨rfl, rfl⟩ := hrel
    go_wp2
    go_loopw [40] (fun iv wr => ∃ k : Nat, iv = .int .i64 (k : Int) ∧ k ≤ 1 ∧ Hid (Keep [] ((w.alloc (.cells #[.slice none 0 0, .slice (some ⟨b, 0, none⟩) 1 1] 53)).alloc (.cells #[.int .i64 0, .int .i64 0, .int .i64 0, .int .i64 0] 29)) wr)) (fun iv _ => 1 - (intOf iv).toNat)
    case atStart => exact ⟨0, rfl, by omega, Keep.refl _ _⟩
    case round =>
      obtain ⟨k, rfl, hk, HI⟩ := hrel
      by_cases hlt : k = 0
      · subst hlt
        have KI := HW0.out.trans' HI.out
        have c0 := KI.cell' HE.out.1 (by simp)
        have c1 := KI.cell' HE.out.2.1 (by simp)
        have c2 := KI.cell' HE.out.2.2 (by simp)
        have hF := condFault_fine nm ps xs (.slice ap ps.length cp) (.slice ax xs.length cx) (wr.alloc (.cells #[.string nm, .slice ap ps.length cp, .slice ax xs.length cx] 25)) (HV.out.1.keep0 (KI.alloc _)) (HV.out.2.1.keep0 (KI.alloc _)) (HV.out.2.2.1.keep (KI.alloc _) (by simp)) HV.out.2.2.2
        clear KI
        go_wp2_with fail
        refine hF.mono ?_
        rintro e9 w9 ⟨rfl, k9⟩
        have HR : Hid (Keep [] ((w.alloc (.cells #[.slice none 0 0, .slice (some ⟨b, 0, none⟩) 1 1] 53)).alloc (.cells #[.int .i64 0, .int .i64 0, .int .i64 0, .int .i64 0] 29)) w9) := (HI.out.alloc _).trans' k9
        clear k9 HI hF c0 c1 c2
        go_wp2
        go_roundw
        case rel => exact ⟨1, by go_num, by omega, HR.out.alloc _⟩
        case measure => simp [intOf]
      · obtain rfl : k = 1 := by omega
        have K9 := HI.out
        have z0 : wr.cell? ⟨w.heap.size + 1, 0, none⟩ = some (.int .i64 0) := K9.cell' (by go_simp) (by simp)
        have z1 : wr.cell? ⟨w.heap.size + 1, 1, none⟩ = some (.int .i64 0) := K9.cell' (by go_simp) (by simp)
        have z2 : wr.cell? ⟨w.heap.size + 1, 2, none⟩ = some (.int .i64 0) := K9.cell' (by go_simp) (by simp)
        have z3 : wr.cell? ⟨w.heap.size + 1, 3, none⟩ = some (.int .i64 0) := K9.cell' (by go_simp) (by simp)
        have g0 : wr.frozen? ⟨w.heap.size + 1, 0, none⟩ = false := (K9.frozen (by simp) (by simp)).trans (by go_simp)
        have g1 : wr.frozen? ⟨w.heap.size + 1, 1, none⟩ = false := (K9.frozen (by simp) (by simp)).trans (by go_simp)
        have g2 : wr.frozen? ⟨w.heap.size + 1, 2, none⟩ = false := (K9.frozen (by simp) (by simp)).trans (by go_simp)
        have g3 : wr.frozen? ⟨w.heap.size + 1, 3, none⟩ = false := (K9.frozen (by simp) (by simp)).trans (by go_simp)
        have HK : Hid (Keep [] w wr) := HW0.out.trans' K9
        clear K9 HI
        go_wp2
        refine bodyPost_ret (v := F0) (by simp [results, Tryz.results32, go_sem, *]) rfl ⟨rfl, ?_⟩
        exact (((HK.out.setCell (.inr (by simp)) _).setCell (.inr (by simp)) _).setCell (.inr (by simp)) _).setCell (.inr (by simp)) _
end Go.Proofs.YtplbclokoffgkaaGreatDoor
