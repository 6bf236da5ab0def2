/- A sheet: a condition is written into it, whole. -/
import Derived.Test.YtplbclokoffgkaaGreatDoorCdQ

namespace Go.Proofs.YtplbclokoffgkaaGreatDoor
open Go.RowKit Go.PlainAid

theorem name_size {s : ByteArray} (h : nameL s.toList = true) : s.size ≤ 256 := by
  unfold nameL at h
  simp only [Bool.and_eq_true, decide_eq_true_eq] at h
  have := h.1.1.1.2
  rw [toList_len] at this
  omega
theorem Wd.post {b : Nat} {v v' : Value} {w w' w'' : World} (h : Wd b v v' w w') (k : Keep [] w' w'') : Wd b v v' w w'' :=
  ⟨h.keep.more k (by simp), h.nw.imp id (fun e x hx => ⟨(e x hx).1, Nat.lt_of_lt_of_le (e x hx).2 k.size⟩)⟩
theorem Pm.keep {F : List Nat} {w w' : World} {v : Value} {l : List PD} (h : Pm w v l) (k : Keep F w w') (hn : Off v F) : Pm w' v l := by
  obtain ⟨ao, cap, rfl, h1, h2, h3⟩ := h.ex
  refine ⟨ao, cap, rfl, h1, h2, fun hl => ?_⟩
  obtain ⟨b, o, rfl, hc⟩ := h3 hl
  exact ⟨b, o, rfl, fun i hi => ⟨k.cell' (hc i hi).1 (hn b rfl), k.cell' (hc i hi).2 (hn b rfl)⟩⟩
/-- a box made ahead of a sheet's being written to -/
theorem box_kept {w w' : World} {b n : Nat} {v v' : Value} {cs : Array Value} {T : TypeId} (hb : Bn w b n v) (h : Wd b v v' (w.alloc (.cells cs T)) w') : ∀ j u, cs[j]? = some u → w'.cell? ⟨w.heap.size, j, none⟩ = some u := by
  intro j u hu
  refine h.keep.cell' (by rw [World.cell?_alloc_at cs T w.heap.size j rfl]; exact hu) ?_
  intro hm
  simp at hm
  rcases hm with e | e
  · have := hb.lt; omega
  · have := (hb.rowlt _ e).2; omega

structure Cx (w : World) (b n : Nat) (v vp vx : Value) (nm : ByteArray) (ps : List PD) (xs : List Pt) (c : Nat) : Prop where
  bn : Bn w b n v
  pm : Pm w vp ps
  pp : Pp w vx xs
  tb : Tb w
  lp : Lo b vp
  lx : Lo b vx
  b15 : 15 ≤ b
  ok : CdOk nm ps xs
  fits : n + (c + 20000) ≤ 65536
theorem Cx.on {w w' : World} {b n : Nat} {v v' vp vx : Value} {nm : ByteArray} {ps : List PD} {xs : List Pt} {c : Nat} (h : Cx w b n v vp vx nm ps xs c) (d : Wd b v v' w w') : Pm w' vp ps ∧ Pp w' vx xs ∧ Tb w' :=
  ⟨h.pm.keep d.keep (h.lp.off h.bn), h.pp.keep d.keep (h.lx.off h.bn), h.tb.keep d.keep (fun x hx => h.bn.low (by have := h.b15; omega))⟩

set_option maxRecDepth 1000000 in
set_option maxHeartbeats 6400000 in
theorem scond_any (nm : ByteArray) (ps : List PD) (xs : List Pt) (vp vx : Value) (r : Int) (c b n : Nat) (v : Value) (w : World) (h : Cx w b n v vp vx nm ps xs c) (hp : Cl 87 (fun p => #[p, vx, .int .i64 0]) vx xs r c) :
    Calls Tryz.prog 34 #[.pointer (some ⟨b, 0, none⟩), .agg #[.string nm, vp, vx]] w fun e w' => e = .returned (.tuple #[]) ∧ ∃ v', Bn w' b (n + (c + 20000)) v' ∧ Wd b v v' w w' := by
  have HX : Hid (Cx w b n v vp vx nm ps xs c) := h
  obtain ⟨ap, cp, rfl, hl1, hl2, -⟩ := h.pm.ex
  obtain ⟨ax, cx, rfl, hx1, hx2, -⟩ := h.pp.ex
  have h16 : ps.length ≤ 16 := h.ok.plen
  clear h
  go_enter Tryz.func34, Tryz.ntmps34
  go_wp2_with fail
  refine (put_at (w.heap.size + 1) b n v [⟨#[99, 111, 110, 100, 32]⟩, nm, ⟨#[40]⟩] #[.string ⟨#[99, 111, 110, 100, 32]⟩, .string nm, .string ⟨#[40]⟩] 3 (w.alloc (.cells #[.string nm, .slice ap ps.length cp, .slice ax xs.length cx] 25)) (by simp) (HX.out.bn.alloc _) rfl (by intro j hj; match j with | 0 => rfl | 1 => rfl | 2 => rfl | j + 3 => exact absurd hj (by simp)) (by intro x hx; simp at hx; rcases hx with rfl | rfl | rfl; decide; exact name_size HX.out.ok.name; decide) (by have := HX.out.fits; omega)).mono ?_
  rintro e9 w9 ⟨rfl, v9, b9, d9⟩
  have HD : Hid (Bn w9 b (n + 3 * 256) v9 ∧ Wd b v v9 (w.alloc (.cells #[.string nm, .slice ap ps.length cp, .slice ax xs.length cx] 25)) w9) := ⟨b9, d9⟩
  have y1 : w9.cell? ⟨w.heap.size, 1, none⟩ = some (.slice ap ps.length cp) := box_kept HX.out.bn d9 1 _ rfl
  clear b9 d9
  go_wp2
  go_loopw [14] (fun iv wr => ∃ (k : Nat) (v' : Value), iv = .int .i64 (k : Int) ∧ k ≤ ps.length ∧ Hid (Bn wr b (n + 3 * 256 + k * 1024) v' ∧ Wd b v v' (w.alloc (.cells #[.string nm, .slice ap ps.length cp, .slice ax xs.length cx] 25)) wr)) (fun iv _ => ps.length - (intOf iv).toNat)
  case atStart => exact ⟨0, v9, rfl, Nat.zero_le _, by simpa using HD.out.1, HD.out.2⟩
  case round =>
    obtain ⟨k, v', rfl, hk, HI⟩ := hrel
    by_cases hlt : k < ps.length
    · have hlti : (k : Int) < (ps.length : Int) := by omega
      obtain ⟨hP, hQ, hT⟩ := HX.out.on HI.out.2.alloc
      obtain ⟨_, _, he, _, _, hne⟩ := hP.ex
      simp at he
      obtain ⟨rfl, rfl⟩ := he
      obtain ⟨g, o, rfl, hc⟩ := hne (by intro hz; rw [hz] at hlt; simp at hlt)
      obtain ⟨e0, e1⟩ := hc k hlt
      obtain ⟨n1, n2, n3⟩ := HX.out.ok.pars _ (List.getElem_mem hlt)
      generalize ps[k] = x at e0 e1 n1 n2 n3
      obtain ⟨xn, xk⟩ := x
      simp only at e0 e1 n1 n2 n3
      obtain ⟨kn, rfl⟩ : ∃ kn : Nat, xk = (kn : Int) := ⟨xk.toNat, by omega⟩
      have hC := comma_any b (n + 3 * 256 + k * 1024) k v' (wr.alloc (.cells #[.string xn, .int .i64 (kn : Int)] 38)) (HI.out.1.alloc _) (by have := HX.out.fits; omega)
      have HN : Hid (nameL xn.toList = true) := n1
      clear hc hne hP hQ n1
      go_wp2_with fail
      refine hC.mono ?_
      rintro e8 w8 ⟨rfl, v8, b8, d8⟩
      have z0 : w8.cell? ⟨wr.heap.size, 0, none⟩ = some (.string xn) := box_kept HI.out.1 d8 0 _ rfl
      have z1 : w8.cell? ⟨wr.heap.size, 1, none⟩ = some (.int .i64 (kn : Int)) := box_kept HI.out.1 d8 1 _ rfl
      have hkk : w8.cell? ⟨0, kn, none⟩ = some (.string (kindS (kn : Int))) := ((HX.out.on (HI.out.2.alloc.trans d8.alloc)).2.2).kind kn (by omega) (by omega)
      have HD8 : Hid (Bn w8 b (n + 3 * 256 + k * 1024 + 256) v8 ∧ Wd b v v8 (w.alloc (.cells #[.string nm, .slice (some ⟨g, o, none⟩) ps.length cp, .slice ax xs.length cx] 25)) w8) := ⟨b8, HI.out.2.trans d8.alloc⟩
      have hki : (kn : Int) ≤ 5 := n3
      clear b8 d8 hC HI e0 e1 hT n3
      generalize hks : kindS (kn : Int) = ks at hkk
      have HKS : Hid (ks.size ≤ 256) := by rw [← hks]; exact kind_size _
      clear hks
      have HP : Hid _ := put_at w8.heap.size b (n + 3 * 256 + k * 1024 + 256) v8 [xn, ⟨#[58, 32]⟩, ks] #[.string xn, .string ⟨#[58, 32]⟩, .string ks] 3 w8.drew rfl (HD8.out.1.keep0 (Keep.refl [] w8).drew) rfl (by intro j hj; match j with | 0 => rfl | 1 => rfl | 2 => rfl | j + 3 => exact absurd hj (by simp)) (by intro x hx; simp at hx; rcases hx with rfl | rfl | rfl; exact name_size HN.out; decide; exact HKS.out) (by have := HX.out.fits; omega)
      go_wp2_with fail
      go_region_with (first | (go_at_call 54; refine Calls.mono HP.out ?_; rintro e7 w7 ⟨rfl, v7, b7, d7⟩))
      all_goals
        have HR : Hid (Bn w7 b (n + 3 * 256 + (k + 1) * 1024) v7 ∧ Wd b v v7 (w.alloc (.cells #[.string nm, .slice (some ⟨g, o, none⟩) ps.length cp, .slice ax xs.length cx] 25)) w7) := ⟨b7.mono (by omega), HD8.out.2.trans (Wd.pre (Keep.refl [] w8).drew d7)⟩
        clear b7 d7 HP HD8 z0 z1 hkk
        go_wp2
        go_roundw
        case rel => exact ⟨k + 1, v7, by go_num, by omega, HR.out⟩
        case measure => simp [intOf]; omega
    · have hlti : ¬ (k : Int) < (ps.length : Int) := by omega
      obtain rfl : k = ps.length := by omega
      have hP1 := put_at wr.heap.size b (n + 3 * 256 + ps.length * 1024) v' [⟨#[41, 58, 32]⟩] #[.string ⟨#[41, 58, 32]⟩] 1 wr rfl HI.out.1 rfl (by intro j hj; match j with | 0 => rfl | j + 1 => exact absurd hj (by simp)) (by intro x hx; simp at hx; subst hx; decide) (by have := HX.out.fits; omega)
      go_wp2_with fail
      refine hP1.mono ?_
      rintro e8 w8 ⟨rfl, v8, b8, d8⟩
      have D8 := HI.out.2.trans d8
      have z2 : w8.cell? ⟨w.heap.size, 2, none⟩ = some (.slice ax xs.length cx) := box_kept HX.out.bn D8 2 _ rfl
      obtain ⟨_, q8, t8⟩ := HX.out.on D8.alloc
      have hE := sexpr_any (.slice ax xs.length cx) xs r c b (n + 3 * 256 + ps.length * 1024 + 1 * 256) v8 w8 hp b8 q8 t8 HX.out.lx HX.out.b15 (by have := HX.out.fits; omega)
      have HD8 : Hid (Wd b v v8 (w.alloc (.cells #[.string nm, .slice ap ps.length cp, .slice ax xs.length cx] 25)) w8) := D8
      clear b8 d8 D8 q8 t8 hP1 HI
      go_wp2_with fail
      refine hE.mono ?_
      rintro e7 w7 ⟨rfl, v7, b7, d7⟩
      have HD7 : Hid (Wd b v v7 w w7) := (HD8.out.trans d7).alloc
      have hP2 := put_at w7.heap.size b (n + 3 * 256 + ps.length * 1024 + 1 * 256 + c) v7 [⟨#[10]⟩] #[.string ⟨#[10]⟩] 1 w7 rfl b7 rfl (by intro j hj; match j with | 0 => rfl | j + 1 => exact absurd hj (by simp)) (by intro x hx; simp at hx; subst hx; decide) (by have := HX.out.fits; omega)
      clear b7 d7 hE HD8 z2
      go_wp2_with fail
      refine hP2.mono ?_
      rintro e6 w6 ⟨rfl, v6, b6, d6⟩
      have HR : Hid (Bn w6 b (n + (c + 20000)) v6 ∧ Wd b v v6 w w6) := ⟨b6.mono (by omega), HD7.out.trans d6⟩
      clear b6 d6 hP2 HD7
      go_wp2
      go_end0
      exact ⟨rfl, v6, HR.out⟩
end Go.Proofs.YtplbclokoffgkaaGreatDoor

/- Conditions: a schema of one condition that is right by itself has a text (written, syntax.Check). -/
namespace Go.Proofs.YtplbclokoffgkaaGreatDoor
open Go.RowKit Go.PlainAid

theorem Bn.new (w : World) : Bn (w.alloc (.cells #[.pointer none, .slice none 0 0] 91)) w.heap.size 0 (.slice none 0 0) :=
  ⟨[], .pointer none, ⟨heap_alloc_new w _, .inl rfl, Row.nil _, fun k hk => by simp [Value.ownBlock] at hk⟩, Nat.le_refl _⟩

set_option maxRecDepth 1000000 in
set_option maxHeartbeats 6400000 in
theorem written_fine (nm : ByteArray) (ps : List PD) (xs : List Pt) (vp vx : Value) (b : Nat) (r : Int) (c : Nat) (w : World) (hp : Pm w vp ps) (hx : Pp w vx xs) (hT : Tb w) (hok : CdOk nm ps xs)
    (hlp : Lo w.heap.size vp) (hlx : Lo w.heap.size vx) (hcl : Cl 87 (fun p => #[p, vx, .int .i64 0]) vx xs r c) (hc : c ≤ 45000)
    (e0 : w.cell? ⟨b, 0, none⟩ = some (.string nm)) (e1 : w.cell? ⟨b, 1, none⟩ = some vp) (e2 : w.cell? ⟨b, 2, none⟩ = some vx) :
    Calls Tryz.prog 17 #[.agg #[.slice none 0 0, .slice (some ⟨b, 0, none⟩) 1 1]] w fun e w' => (∃ s, e = .returned (.tuple #[.string s, F0])) ∧ Keep [] w w' := by
  have HV : Hid (Pm w vp ps ∧ Pp w vx xs ∧ Tb w ∧ CdOk nm ps xs ∧ Lo w.heap.size vp ∧ Lo w.heap.size vx) := ⟨hp, hx, hT, hok, hlp, hlx⟩
  have HE : Hid (w.cell? ⟨b, 0, none⟩ = some (.string nm) ∧ w.cell? ⟨b, 1, none⟩ = some vp ∧ w.cell? ⟨b, 2, none⟩ = some vx) := ⟨e0, e1, e2⟩
  obtain ⟨ap, cp, rfl, hl1, hl2, -⟩ := hp.ex
  obtain ⟨ax, cx, rfl, hx1, hx2, -⟩ := hx.ex
  clear hp hx hT hok e0 e1 e2 hlp hlx
  have HW0 : Hid (Keep [] w ((w.alloc (.cells #[.slice none 0 0, .slice (some ⟨b, 0, none⟩) 1 1] 53)).alloc (.cells #[.int .i64 0, .int .i64 0, .int .i64 0, .int .i64 0] 29))) := (Keep.alloc1 _ _).alloc _
  have hS := schemaFault_fine nm ps xs (.slice ap ps.length cp) (.slice ax xs.length cx) b _ (HV.out.1.keep0 HW0.out) (HV.out.2.1.keep0 HW0.out) (HV.out.2.2.1.keep HW0.out (by simp)) HV.out.2.2.2.1 (HW0.out.cell' HE.out.1 (by simp)) (HW0.out.cell' HE.out.2.1 (by simp)) (HW0.out.cell' HE.out.2.2 (by simp))
  go_enter Tryz.func17, Tryz.ntmps17
  go_wp2_with fail
  refine hS.mono ?_
  rintro e9 w9 ⟨rfl, k9⟩
  have y0 : w9.cell? ⟨w.heap.size, 0, none⟩ = some (.slice none 0 0) := k9.cell' (by go_simp) (by simp)
  have y1 : w9.cell? ⟨w.heap.size, 1, none⟩ = some (.slice (some ⟨b, 0, none⟩) 1 1) := k9.cell' (by go_simp) (by simp)
  have z0 : w9.cell? ⟨w.heap.size + 1, 0, none⟩ = some (.int .i64 0) := k9.cell' (by go_simp) (by simp)
  have z1 : w9.cell? ⟨w.heap.size + 1, 1, none⟩ = some (.int .i64 0) := k9.cell' (by go_simp) (by simp)
  have z2 : w9.cell? ⟨w.heap.size + 1, 2, none⟩ = some (.int .i64 0) := k9.cell' (by go_simp) (by simp)
  have z3 : w9.cell? ⟨w.heap.size + 1, 3, none⟩ = some (.int .i64 0) := k9.cell' (by go_simp) (by simp)
  have g0 : ∀ j, w9.frozen? ⟨w.heap.size + 1, j, none⟩ = false := fun j => (k9.frozen (by simp) (by simp)).trans (by simp [go_sem])
  have hsz : w.heap.size + 2 ≤ w9.heap.size := by have := k9.size; simpa using this
  have HK9 : Hid (Keep [] w w9 ∧ w.heap.size + 2 ≤ w9.heap.size) := ⟨HW0.out.trans' k9, hsz⟩
  have HZ : Hid ((w9.cell? ⟨w.heap.size + 1, 0, none⟩ = some (.int .i64 0) ∧ w9.cell? ⟨w.heap.size + 1, 1, none⟩ = some (.int .i64 0) ∧ w9.cell? ⟨w.heap.size + 1, 2, none⟩ = some (.int .i64 0) ∧ w9.cell? ⟨w.heap.size + 1, 3, none⟩ = some (.int .i64 0)) ∧ ∀ j, w9.frozen? ⟨w.heap.size + 1, j, none⟩ = false) := ⟨⟨z0, z1, z2, z3⟩, g0⟩
  clear k9 hS z0 z1 z2 z3 g0 hsz
  have a0 : ((w9.alloc (.cells #[.int .i64 0, .int .i64 0, .int .i64 0, .int .i64 0] 29)).alloc (.cells #[.pointer none, .slice none 0 0] 91)).cell? ⟨w.heap.size, 0, none⟩ = some (.slice none 0 0) := ((Keep.alloc1 w9 _).alloc _).cell' y0 (by simp)
  have a1 : ((w9.alloc (.cells #[.int .i64 0, .int .i64 0, .int .i64 0, .int .i64 0] 29)).alloc (.cells #[.pointer none, .slice none 0 0] 91)).cell? ⟨w.heap.size, 1, none⟩ = some (.slice (some ⟨b, 0, none⟩) 1 1) := ((Keep.alloc1 w9 _).alloc _).cell' y1 (by simp)
  have HS : Hid (Bn ((w9.alloc (.cells #[.int .i64 0, .int .i64 0, .int .i64 0, .int .i64 0] 29)).alloc (.cells #[.pointer none, .slice none 0 0] 91)) (w9.heap.size + 1) 0 (.slice none 0 0) ∧ Keep [] w9 ((w9.alloc (.cells #[.int .i64 0, .int .i64 0, .int .i64 0, .int .i64 0] 29)).alloc (.cells #[.pointer none, .slice none 0 0] 91))) :=
    ⟨by simpa using Bn.new (w9.alloc (.cells #[.int .i64 0, .int .i64 0, .int .i64 0, .int .i64 0] 29)), (Keep.alloc1 _ _).alloc _⟩
  go_wp2
  generalize ((w9.alloc (.cells #[.int .i64 0, .int .i64 0, .int .i64 0, .int .i64 0] 29)).alloc (.cells #[.pointer none, .slice none 0 0] 91)) = wS at HS a0 a1 ⊢
  clear y0 y1
  go_loopw [21] (fun iv wr => iv = .int .i64 0 ∧ wr = wS) (fun _ _ => 1)
  case atStart => exact ⟨rfl, rfl⟩
  case round =>
    obtain ⟨rfl, hwr⟩ := hrel
    obtain rfl := hwr.symm
    clear hwr
    go_wp2
    go_loopw [31] (fun iv wr => ∃ (k : Nat) (v' : Value), iv = .int .i64 (k : Int) ∧ k ≤ 1 ∧ Hid (Bn wr (w9.heap.size + 1) (k * (c + 20000)) v' ∧ Wd (w9.heap.size + 1) (.slice none 0 0) v' wS wr)) (fun iv _ => 1 - (intOf iv).toNat)
    case atStart => exact ⟨0, .slice none 0 0, rfl, by omega, by simpa using HS.out.1, Wd.refl _ _ _⟩
    case round =>
      obtain ⟨k, v', rfl, hk, HI⟩ := hrel
      have hkS : Keep [] w wS := HK9.out.1.trans' HS.out.2
      by_cases hlt : k = 0
      · subst hlt
        have hwq : Keep [w9.heap.size + 1] wS wr := by simpa [Value.ownBlock] using HI.out.2.keep
        have hbig := HK9.out.2
        have hKq : Keep [w9.heap.size + 1] w wr := (hkS.mono (by simp)).trans' hwq
        have hbl : b < w.heap.size := block_lt_of_cell HE.out.1
        have hnb : b ∉ [w9.heap.size + 1] := by simp; omega
        have c0 := hKq.cell' HE.out.1 hnb
        have c1 := hKq.cell' HE.out.2.1 hnb
        have c2 := hKq.cell' HE.out.2.2 hnb
        obtain ⟨hp, hx, hT, hok, hlp, hlx⟩ := HV.out
        have hlp' : Lo (w9.heap.size + 1) (.slice ap ps.length cp) := fun k hk => by have := hlp k hk; omega
        have hlx' : Lo (w9.heap.size + 1) (.slice ax xs.length cx) := fun k hk => by have := hlx k hk; omega
        have hC := scond_any nm ps xs (.slice ap ps.length cp) (.slice ax xs.length cx) r c (w9.heap.size + 1) 0 v' (wr.alloc (.cells #[.string nm, .slice ap ps.length cp, .slice ax xs.length cx] 25))
          ⟨(by simpa using HI.out.1.alloc _), hp.keep (hKq.alloc _) (fun x hx hm => by simp at hm; have := hlp x hx; omega), hx.keep (hKq.alloc _) (fun x hx hm => by simp at hm; have := hlx x hx; omega), hT.keep (hKq.alloc _) (fun x hx hm => by simp at hm; have := hT.big; omega), hlp', hlx', by have := hT.big; omega, hok, by omega⟩ hcl
        clear hkS hwq hKq hp hx hT hok hlp hlx hlp' hlx' hnb hbl hbig
        go_wp2_with fail
        refine hC.mono ?_
        rintro e8 w8 ⟨rfl, v8, b8, d8⟩
        have HR : Hid (Bn w8 (w9.heap.size + 1) (1 * (c + 20000)) v8 ∧ Wd (w9.heap.size + 1) (.slice none 0 0) v8 wS w8) := ⟨b8.mono (by omega), HI.out.2.trans d8.alloc⟩
        clear b8 d8 hC c0 c1 c2 HI
        go_wp2
        go_roundw
        case rel => exact ⟨1, v8, by go_num, by omega, HR.out⟩
        case measure => simp [intOf]
      · obtain rfl : k = 1 := by omega
        have hH := whole_any (w9.heap.size + 1) (1 * (c + 20000)) v' wr HI.out.1 (by omega)
        go_wp2_with fail
        refine hH.mono ?_
        rintro e8 w8 ⟨⟨s, rfl⟩, k8⟩
        have hbig := HK9.out.2
        have hA : Keep [w9.heap.size + 1] wS wr := by simpa [Value.ownBlock] using HI.out.2.keep
        have hnew : ∀ x, v'.ownBlock = some x → w.heap.size + 2 ≤ x := fun x hx => by have := (HI.out.1.rowlt x hx).1; omega
        have hK0 : Keep [] w9 w8 := by
          refine ((HS.out.2.mono (G := [w9.heap.size + 1]) (by simp)).trans' hA).trans k8 (fun x hx => .inr (by simp at hx; omega)) (fun x hx => ?_)
          have := (HI.out.1.rowlt x (by simpa using hx)).1
          exact .inr (by omega)
        have z0 := hK0.cell' HZ.out.1.1 (by simp)
        have z1 := hK0.cell' HZ.out.1.2.1 (by simp)
        have z2 := hK0.cell' HZ.out.1.2.2.1 (by simp)
        have z3 := hK0.cell' HZ.out.1.2.2.2 (by simp)
        have hl1' : w.heap.size + 1 < w9.heap.size := by omega
        have g0 := (hK0.frozen (p := ⟨w.heap.size + 1, 0, none⟩) hl1' (by simp)).trans (HZ.out.2 0)
        have g1 := (hK0.frozen (p := ⟨w.heap.size + 1, 1, none⟩) hl1' (by simp)).trans (HZ.out.2 1)
        have g2 := (hK0.frozen (p := ⟨w.heap.size + 1, 2, none⟩) hl1' (by simp)).trans (HZ.out.2 2)
        have g3 := (hK0.frozen (p := ⟨w.heap.size + 1, 3, none⟩) hl1' (by simp)).trans (HZ.out.2 3)
        have HK : Hid (Keep [] w w8) := HK9.out.1.trans' hK0
        clear hK0 k8 hA hnew hH HI hkS hbig hl1'
        go_wp2
        refine bodyPost_ret (v := .tuple #[.string s, F0]) (by simp [results, Tryz.results17, go_sem, *]) rfl ⟨⟨s, rfl⟩, ?_⟩
        exact (((HK.out.setCell (.inr (by simp)) _).setCell (.inr (by simp)) _).setCell (.inr (by simp)) _).setCell (.inr (by simp)) _
end Go.Proofs.YtplbclokoffgkaaGreatDoor

/- Conditions: syntax.Check finds nothing wrong with a schema of one condition that is right by itself. -/
namespace Go.Proofs.YtplbclokoffgkaaGreatDoor
open Go.RowKit Go.PlainAid

set_option maxRecDepth 1000000 in
set_option maxHeartbeats 3200000 in
theorem scheck_fine (nm : ByteArray) (ps : List PD) (xs : List Pt) (vp vx : Value) (b : Nat) (r : Int) (c : Nat) (w : World) (hp : Pm w vp ps) (hx : Pp w vx xs) (hT : Tb w) (hok : CdOk nm ps xs)
    (hlp : Lo w.heap.size vp) (hlx : Lo w.heap.size vx) (hcl : Cl 87 (fun p => #[p, vx, .int .i64 0]) vx xs r c) (hc : c ≤ 45000)
    (e0 : w.cell? ⟨b, 0, none⟩ = some (.string nm)) (e1 : w.cell? ⟨b, 1, none⟩ = some vp) (e2 : w.cell? ⟨b, 2, none⟩ = some vx) :
    Calls Tryz.prog 9 #[.agg #[.slice none 0 0, .slice (some ⟨b, 0, none⟩) 1 1]] w fun e w' => e = .returned F0 ∧ Keep [] w w' := by
  have HW0 : Hid (Keep [] w ((w.alloc (.cells #[.slice none 0 0, .slice (some ⟨b, 0, none⟩) 1 1] 53)).alloc (.cells #[.int .i64 0, .int .i64 0, .int .i64 0, .int .i64 0] 29))) := (Keep.alloc1 _ _).alloc _
  have hW := written_fine nm ps xs vp vx b r c ((w.alloc (.cells #[.slice none 0 0, .slice (some ⟨b, 0, none⟩) 1 1] 53)).alloc (.cells #[.int .i64 0, .int .i64 0, .int .i64 0, .int .i64 0] 29)) (hp.keep0 HW0.out) (hx.keep0 HW0.out) (hT.keep HW0.out (by simp)) hok (fun k hk => by have := hlp k hk; simp; omega) (fun k hk => by have := hlx k hk; simp; omega) hcl hc (HW0.out.cell' e0 (by simp)) (HW0.out.cell' e1 (by simp)) (HW0.out.cell' e2 (by simp))
  clear hp hx hT hok hlp hlx hcl hc e0 e1 e2
  go_enter Tryz.func9, Tryz.ntmps9
  go_wp2_with fail
  refine hW.mono ?_
  rintro e9 w9 ⟨⟨s, rfl⟩, k9⟩
  have z0 : w9.cell? ⟨w.heap.size + 1, 0, none⟩ = some (.int .i64 0) := k9.cell' (by go_simp) (by simp)
  have z1 : w9.cell? ⟨w.heap.size + 1, 1, none⟩ = some (.int .i64 0) := k9.cell' (by go_simp) (by simp)
  have z2 : w9.cell? ⟨w.heap.size + 1, 2, none⟩ = some (.int .i64 0) := k9.cell' (by go_simp) (by simp)
  have z3 : w9.cell? ⟨w.heap.size + 1, 3, none⟩ = some (.int .i64 0) := k9.cell' (by go_simp) (by simp)
  have g0 : w9.frozen? ⟨w.heap.size + 1, 0, none⟩ = false := (k9.frozen (by simp) (by simp)).trans (by go_simp)
  have g1 : w9.frozen? ⟨w.heap.size + 1, 1, none⟩ = false := (k9.frozen (by simp) (by simp)).trans (by go_simp)
  have g2 : w9.frozen? ⟨w.heap.size + 1, 2, none⟩ = false := (k9.frozen (by simp) (by simp)).trans (by go_simp)
  have g3 : w9.frozen? ⟨w.heap.size + 1, 3, none⟩ = false := (k9.frozen (by simp) (by simp)).trans (by go_simp)
  have HK : Hid (Keep [] w w9) := HW0.out.trans' k9
  have hlt : w.heap.size + 1 < w9.heap.size := by have := k9.size; simp at this; omega
  clear k9 hW
  go_wp2
  refine bodyPost_ret (v := F0) (by simp [results, Tryz.results9, go_sem, *]) rfl ⟨rfl, ?_⟩
  repeat (first | exact HK.out | refine Keep.alloc ?_ _ | refine Keep.setCell ?_ (.inr (by simp)) _)
end Go.Proofs.YtplbclokoffgkaaGreatDoor
