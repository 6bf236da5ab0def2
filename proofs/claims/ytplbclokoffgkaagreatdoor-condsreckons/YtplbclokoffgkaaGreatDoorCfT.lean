/- Conditions: what all parts come to; what a condition lacks. -/
import Derived.Test.YtplbclokoffgkaaGreatDoorCfD
import Derived.Test.YtplbclokoffgkaaGreatDoorCfP
import Derived.Test.YtplbclokoffgkaaGreatDoorCfQ

namespace Go.Proofs.YtplbclokoffgkaaGreatDoor
open Go.RowKit Go.PlainAid Go.Shelf

/-- what the parts come to, as they are settled -/
structure We (ps : List PD) (l : List AgD) (xs : List Pt) (vals : List Wo) : Prop where
  len : vals.length = xs.length
  st : ∀ j i, i + j + 1 = xs.length → (hi : i < xs.length) → mdN xs[i].kind ≤ (stkF Wo.no (xs.map Pt.kind) vals j).length
  sl : ∀ j, j ≤ xs.length → (stkF Wo.no (xs.map Pt.kind) vals j).length ≤ 100
  wc : ∀ j i, i + j + 1 = xs.length → (hi : i < xs.length) → Wc ps l xs[i] (popK Wo.no (mdN xs[i].kind) (stkF Wo.no (xs.map Pt.kind) vals j) 0) (popK Wo.no (mdN xs[i].kind) (stkF Wo.no (xs.map Pt.kind) vals j) 1) (vals.getD i Wo.no)
/-- the boxes of a condition and of arguments -/
structure Bx2 (nm : ByteArray) (ps : List PD) (xs : List Pt) (l : List AgD) (vp vx va : Value) (C B : Nat) (W : World) : Prop where
  c0 : W.cell? ⟨C, 0, none⟩ = some (.string nm)
  c1 : W.cell? ⟨C, 1, none⟩ = some vp
  c2 : W.cell? ⟨C, 2, none⟩ = some vx
  c3 : W.cell? ⟨B, 0, none⟩ = some va
  hp : Pm W vp ps
  hx : Pp W vx xs
  ha : Ar W va l
theorem Bx2.keep {nm : ByteArray} {ps : List PD} {xs : List Pt} {l : List AgD} {vp vx va : Value} {C B : Nat} {W W' : World} {G : List Nat} (h : Bx2 nm ps xs l vp vx va C B W) (k : Keep G W W') (hC : C ∉ G) (hB : B ∉ G) (o1 : Off vp G) (o2 : Off vx G) (o3 : Off va G) : Bx2 nm ps xs l vp vx va C B W' :=
  ⟨k.cell' h.c0 hC, k.cell' h.c1 hC, k.cell' h.c2 hC, k.cell' h.c3 hB, h.hp.keep k o1, h.hx.keep k o2, h.ha.keep k o3⟩
theorem Bx2.keep0 {nm : ByteArray} {ps : List PD} {xs : List Pt} {l : List AgD} {vp vx va : Value} {C B : Nat} {W W' : World} (h : Bx2 nm ps xs l vp vx va C B W) (k : Keep [] W W') : Bx2 nm ps xs l vp vx va C B W' := h.keep k (by simp) (by simp) (Off.nil _) (Off.nil _) (Off.nil _)

set_option maxRecDepth 1000000 in
set_option maxHeartbeats 3200000 in
theorem worths_any (nm : ByteArray) (ps : List PD) (xs : List Pt) (l : List AgD) (vals : List Wo) (hW : We ps l xs vals) (vp vx va : Value) (hsl : ∃ a n c, vp = .slice a n c) (w : World) (hp : Pm w vp ps) (hx : Pp w vx xs) (ha : Ar w va l) (hn : xs.length ≤ 100) (hlp : Lo w.heap.size vp) (hlx : Lo w.heap.size vx) (hla : Lo w.heap.size va) :
    Calls Tryz.prog 14 #[.agg #[.string nm, vp, vx], va] w fun e w' => ∃ g c, e = .returned (.slice (some ⟨g, 0, none⟩) xs.length c) ∧ (∀ i, i < xs.length → w'.cell? ⟨g, i, none⟩ = some (vals.getD i Wo.no).enc) ∧ Keep [] w w' := by
  obtain ⟨ap, np, cpp, rfl⟩ := hsl
  obtain ⟨ao, cap, rfl, -, -, -⟩ := hx.ex
  obtain ⟨ba, oa, ca, rfl, -⟩ := ha.ex
  have K2 : Keep [] w ((w.alloc (.cells #[.string nm, .slice ap np cpp, .slice ao xs.length cap] 25)).alloc (.cells #[.slice (some ⟨ba, oa, none⟩) l.length ca] 45)) := (Keep.alloc1 _ _).alloc _
  have HK2 : Hid (Keep [] w ((w.alloc (.cells #[.string nm, .slice ap np cpp, .slice ao xs.length cap] 25)).alloc (.cells #[.slice (some ⟨ba, oa, none⟩) l.length ca] 45))) := K2
  have hB : Bx2 nm ps xs l (.slice ap np cpp) (.slice ao xs.length cap) (.slice (some ⟨ba, oa, none⟩) l.length ca) w.heap.size (w.heap.size + 1) ((w.alloc (.cells #[.string nm, .slice ap np cpp, .slice ao xs.length cap] 25)).alloc (.cells #[.slice (some ⟨ba, oa, none⟩) l.length ca] 45)) := ⟨by go_simp, by go_simp, by go_simp, by go_simp, hp.keep0 K2, hx.keep0 K2, ha.keep0 K2⟩
  have hS := settle_wo xs vals ao cap w.heap.size (w.heap.size + 1) [] (fun _ W => Bx2 nm ps xs l (.slice ap np cpp) (.slice ao xs.length cap) (.slice (some ⟨ba, oa, none⟩) l.length ca) w.heap.size (w.heap.size + 1) W) ((w.alloc (.cells #[.string nm, .slice ap np cpp, .slice ao xs.length cap] 25)).alloc (.cells #[.slice (some ⟨ba, oa, none⟩) l.length ca] 45)) (hx.keep0 K2) hn hW.len hW.st hW.sl hB
    (fun j W W' G h k hG => by
      have nG : ∀ x, x < w.heap.size + 2 → x ∉ G := fun x hx hm => by have := hG x hm; simp at this; omega
      exact h.keep k (nG _ (by omega)) (nG _ (by omega)) (fun x hx => nG x (by have := hlp x hx; omega)) (fun x hx => nG x (by have := hlx x hx; omega)) (fun x hx => nG x (by have := hla x hx; omega)))
    (by simp) (fun b hb => ⟨by simp, by have := hlx b hb; simp; omega⟩)
    (fun j i W hij hi h => (worths_one nm ps _ _ xs l _ i _ _ _ _ _ W ⟨_, _, _, rfl⟩ h.hp h.hx h.ha hi h.c0 h.c1 h.c2 h.c3 (hW.wc j i hij hi)).mono (fun e W' ⟨he, k⟩ => ⟨he, h.keep0 k, k⟩))
  have hmf : ∀ (fn : Fn) (first cap : Array Value) (w : World), (Instr.makeFunc fn first cap).run Tryz.prog w = .ok (.func fn first cap) w := fun _ _ _ _ => rfl
  clear hp hx ha hn hlp hlx hla hW K2 hB
  go_enter Tryz.func14, Tryz.ntmps14
  go_wp2_with fail
  refine hS.mono ?_
  rintro e w5 ⟨g, c, rfl, hg, hc, -, k5⟩
  have HF : Hid ((∀ i, i < xs.length → w5.cell? ⟨g, i, none⟩ = some (vals.getD i Wo.no).enc) ∧ Keep [] w w5) := ⟨hc, HK2.out.trans' k5⟩
  clear hg hc k5 hS HK2
  go_wp2
  go_ret
  exact ⟨g, c, rfl, HF.out.1, HF.out.2⟩

/-- all these names are known -/
def Kn (ps : List PD) (l : List AgD) (L : List (List UInt8)) : Prop := ∀ s ∈ L, ∃ p n, At l ⟨s.toArray⟩ p ∧ (∀ (h : p < l.length), l[p].vi = n) ∧ pKind ps ⟨s.toArray⟩ = 2
set_option maxRecDepth 1000000 in
set_option maxHeartbeats 1600000 in
theorem lack_one (nm : ByteArray) (ps : List PD) (xs : List Pt) (l : List AgD) (vp vx va : Value) (C B : Nat) (s : ByteArray) (p : Nat) (n : Int) (w : World) (hsl : (∃ a n c, vp = .slice a n c) ∧ ∃ a n c, vx = .slice a n c) (h : Bx2 nm ps xs l vp vx va C B w) (h1 : At l s p) (h2 : ∀ (h : p < l.length), l[p].vi = n) (h3 : pKind ps s = 2) :
    Calls Tryz.prog 31 #[.string s, .pointer (some ⟨C, 0, none⟩), .pointer (some ⟨B, 0, none⟩)] w fun e w' => e = .returned (.bool true) ∧ Keep [] w w' := by
  have hK := known_any nm ps vp vx l s p n va w hsl h.hp h3 h.ha h1 h2
  obtain ⟨⟨a1, n1, d1, rfl⟩, a2, n2, d2, rfl⟩ := hsl
  obtain ⟨ba, oa, ca, rfl, -⟩ := h.ha.ex
  have c0 := h.c0
  have c1 := h.c1
  have c2 := h.c2
  have c3 := h.c3
  have heq : ∀ w, Sem.run Tryz.prog (binOp BinOp.neq 60 (.iface 105 (.int .i64 n)) Value.nilIface) w = .ok (.bool true) w := fun w => rfl
  clear h h1 h2 h3
  go_enter Tryz.func31, Tryz.ntmps31
  go_wp2_with fail
  refine hK.mono ?_
  rintro e w5 ⟨rfl, k5⟩
  have HK : Hid (Keep [] w w5) := k5
  clear k5 hK
  simp only [Wo.enc]
  go_wp2
  go_ret
  exact ⟨rfl, HK.out⟩

/-- the names lie there -/
theorem row_at {w : World} {g c : Nat} {L : List (List UInt8)} (h : RowC w 9 1 (.slice (some ⟨g, 0, none⟩) L.length c) L.length (sv L)) (i : Nat) (hi : i < L.length) : w.cell? ⟨g, i, none⟩ = some (.string ⟨L[i].toArray⟩) ∧ w.frozen? ⟨g, i, none⟩ = false := by
  rcases h.cases with ⟨h0, _⟩ | ⟨g', c', he, _, _, _, hc, hf⟩
  · omega
  · simp at he
    obtain ⟨rfl, rfl⟩ := he
    refine ⟨?_, hf i⟩
    rw [hc i (by omega)]
    simp [hi]

set_option maxRecDepth 1000000 in
set_option maxHeartbeats 3200000 in
theorem index_zero (g c C B : Nat) (L : List (List UInt8)) (hL : 1 ≤ L.length) (hL2 : L.length ≤ 100) (w : World) (hr : RowC w 9 1 (.slice (some ⟨g, 0, none⟩) L.length c) L.length (sv L))
    (hC : ∀ s ∈ L, Calls Tryz.prog 31 #[.string ⟨s.toArray⟩, .pointer (some ⟨C, 0, none⟩), .pointer (some ⟨B, 0, none⟩)] w fun e w' => e = .returned (.bool true) ∧ Keep [] w w') :
    Calls Tryz.prog 49 #[.slice (some ⟨g, 0, none⟩) L.length c, .func (.func 31) #[] #[.pointer (some ⟨C, 0, none⟩), .pointer (some ⟨B, 0, none⟩)]] w fun e w' => e = .returned (.int .i64 0) ∧ Keep [] w w' := by
  have z0 := (row_at hr 0 (by omega)).1
  have h0 := hC L[0] (List.getElem_mem (by omega))
  generalize (L[0]'(by omega)).toArray = a0 at *
  have hl0 : (0 : Int) < (L.length : Int) := by omega
  clear hC hr
  go_enter Tryz.func49, Tryz.ntmps49
  go_wp2
  go_loopw [8] (fun iv wr => iv = .int .i64 0 ∧ Hid (wr = w)) (fun _ _ => 0)
  case atStart => exact ⟨rfl, show _ = _ from rfl⟩
  case round =>
    obtain ⟨rfl, HW⟩ := hrel
    obtain rfl := HW.out
    clear HW
    go_wp2_with fail
    refine h0.mono ?_
    rintro e w5 ⟨rfl, k5⟩
    have HK : Hid (Keep [] wr w5) := k5
    clear k5 h0
    go_wp2
    go_ret
    exact ⟨rfl, HK.out⟩
end Go.Proofs.YtplbclokoffgkaaGreatDoor

/- Conditions: what a condition lacks where all it reads is known: nothing. -/
namespace Go.Proofs.YtplbclokoffgkaaGreatDoor
open Go.RowKit Go.PlainAid Go.Shelf

theorem keep_setCells : ∀ (vs : List Value) (w : World) (b o : Nat), Keep [b] w (w.setCells b o vs)
  | [], _, _, _ => Keep.refl _ _
  | v :: vs, w, b, o => (Keep.set1 w ⟨b, o, none⟩ v).trans' (keep_setCells vs _ b (o + 1))
set_option maxRecDepth 1000000 in
set_option maxHeartbeats 3200000 in
theorem delete_all (g c C B : Nat) (L : List (List UInt8)) (hL : 1 ≤ L.length) (hL2 : L.length ≤ 100) (w : World) (hr : RowC w 9 1 (.slice (some ⟨g, 0, none⟩) L.length c) L.length (sv L))
    (hC : ∀ w1, Keep [] w w1 → ∀ s ∈ L, Calls Tryz.prog 31 #[.string ⟨s.toArray⟩, .pointer (some ⟨C, 0, none⟩), .pointer (some ⟨B, 0, none⟩)] w1 fun e w' => e = .returned (.bool true) ∧ Keep [] w1 w') :
    Calls Tryz.prog 29 #[.slice (some ⟨g, 0, none⟩) L.length c, .func (.func 31) #[] #[.pointer (some ⟨C, 0, none⟩), .pointer (some ⟨B, 0, none⟩)]] w fun e w' => e = .returned (.slice (some ⟨g, 0, none⟩) 0 c) ∧ Keep [g] w w' := by
  have hI := index_zero g c C B L hL hL2 w hr (hC w (Keep.refl _ _))
  have HR : Hid (RowC w 9 1 (.slice (some ⟨g, 0, none⟩) L.length c) L.length (sv L) ∧ 1 ≤ L.length ∧ L.length ≤ 100) := ⟨hr, hL, hL2⟩
  have HC : Hid (∀ w1, Keep [] w w1 → ∀ s ∈ L, Calls Tryz.prog 31 #[.string ⟨s.toArray⟩, .pointer (some ⟨C, 0, none⟩), .pointer (some ⟨B, 0, none⟩)] w1 fun e w' => e = .returned (.bool true) ∧ Keep [] w1 w') := hC
  clear hC hr
  go_enter Tryz.func29, Tryz.ntmps29
  go_wp2_with fail
  refine hI.mono ?_
  rintro e w5 ⟨rfl, k5⟩
  have HK5 : Hid (Keep [] w w5) := k5
  clear k5 hI
  go_wp2
  go_loopw [5, 6] (fun iv jv wr => iv = .int .i64 0 ∧ ∃ j : Nat, jv = .int .i64 (j : Int) ∧ j ≤ L.length ∧ Hid (Keep [] w wr)) (fun _ jv _ => L.length - (intOf jv).toNat)
  case atStart => exact ⟨rfl, 1, rfl, hL, HK5⟩
  case round =>
    obtain ⟨rfl, j, rfl, hj, HK⟩ := hrel
    by_cases hlt : j < L.length
    · have hli : (j : Int) < (L.length : Int) := by omega
      have hj100 : (j : Int) ≤ 100 := by omega
      have z0 := (row_at (HR.out.1.keep HK.out (Off.nil _)) j hlt).1
      have hS := HC.out wr HK.out L[j] (List.getElem_mem hlt)
      generalize L[j].toArray = s at *
      go_wp2_with fail
      refine hS.mono ?_
      rintro e w6 ⟨rfl, k6⟩
      have HK6 : Hid (Keep [] w w6) := HK.out.trans' k6
      clear k6 hS z0
      go_wp2
      go_roundw
      case rel => exact ⟨rfl, j + 1, by simp, by omega, HK6⟩
      case measure => (simp [intOf]; try omega)
    · obtain rfl : j = L.length := by omega
      have hnl : ¬ (L.length : Int) < (L.length : Int) := by omega
      have hrw := HR.out.1.keep HK.out (Off.nil _)
      have hclr := fun ty => Lib.run_clear_slice (P := Tryz.prog) wr 32 9 ty (.string ⟨#[]⟩) Tryz.underlying32 (fun _ => by kernel_rfl) rfl rfl g 0 L.length c (by omega) (fun i hi => by rw [Nat.zero_add, (row_at hrw i hi).1]; rfl) (fun i hi => by rw [Nat.zero_add]; exact (row_at hrw i hi).2)
      have HF : Hid (Keep [g] w (wr.setCells g 0 (List.replicate L.length (.string ⟨#[]⟩)))) := (HK.out.mono (by simp)).trans' (keep_setCells _ _ _ _)
      have hn0 : ¬ L.length = 0 := by omega
      clear hrw
      generalize wr.setCells g 0 (List.replicate L.length (.string ⟨#[]⟩)) = wz at *
      have hcl : (L.length : Int) ≤ (c : Int) := by
        rcases HR.out.1.cases with ⟨h0, _⟩ | ⟨g', c', he, h1, _⟩
        · omega
        · simp at he
          omega
      go_wp2
      go_ret
      exact ⟨rfl, HF.out⟩

set_option maxRecDepth 1000000 in
set_option maxHeartbeats 3200000 in
theorem lacks_none (nm : ByteArray) (ps : List PD) (xs : List Pt) (l : List AgD) (vp vx va : Value) (hsl : (∃ a n c, vp = .slice a n c) ∧ ∃ a n c, vx = .slice a n c) (w : World) (hp : Pm w vp ps) (hx : Pp w vx xs) (ha : Ar w va l) (hn : xs.length ≤ 100)
    (hn1 : 1 ≤ (nmsL xs).length) (hs : (nmsL xs).mergeSort (fun x y => decide (x ≤ y)) = nmsL xs) (hc : Lib.compact (nmsL xs) = nmsL xs) (hk : Kn ps l (nmsL xs)) :
    Calls Tryz.prog 16 #[.agg #[.string nm, vp, vx], va] w fun e w' => (∃ g c, e = .returned (.slice (some ⟨g, 0, none⟩) 0 c)) ∧ Keep [] w w' := by
  obtain ⟨⟨ap, np, cpp, rfl⟩, a2, n2, d2, rfl⟩ := hsl
  obtain ⟨ba, oa, ca, rfl, -⟩ := ha.ex
  have K2 : Keep [] w ((w.alloc (.cells #[.string nm, .slice ap np cpp, .slice a2 n2 d2] 25)).alloc (.cells #[.slice (some ⟨ba, oa, none⟩) l.length ca] 45)) := (Keep.alloc1 _ _).alloc _
  have hB : Bx2 nm ps xs l (.slice ap np cpp) (.slice a2 n2 d2) (.slice (some ⟨ba, oa, none⟩) l.length ca) w.heap.size (w.heap.size + 1) ((w.alloc (.cells #[.string nm, .slice ap np cpp, .slice a2 n2 d2] 25)).alloc (.cells #[.slice (some ⟨ba, oa, none⟩) l.length ca] 45)) := ⟨by go_simp, by go_simp, by go_simp, by go_simp, hp.keep0 K2, hx.keep0 K2, ha.keep0 K2⟩
  have hR := reads_any nm (.slice ap np cpp) ⟨_, _, _, rfl⟩ (.slice a2 n2 d2) xs ((w.alloc (.cells #[.string nm, .slice ap np cpp, .slice a2 n2 d2] 25)).alloc (.cells #[.slice (some ⟨ba, oa, none⟩) l.length ca] 45)) (hx.keep0 K2) hn hn1 hs hc
  have HB : Hid (Keep [] w ((w.alloc (.cells #[.string nm, .slice ap np cpp, .slice a2 n2 d2] 25)).alloc (.cells #[.slice (some ⟨ba, oa, none⟩) l.length ca] 45)) ∧ Bx2 nm ps xs l (.slice ap np cpp) (.slice a2 n2 d2) (.slice (some ⟨ba, oa, none⟩) l.length ca) w.heap.size (w.heap.size + 1) ((w.alloc (.cells #[.string nm, .slice ap np cpp, .slice a2 n2 d2] 25)).alloc (.cells #[.slice (some ⟨ba, oa, none⟩) l.length ca] 45))) := ⟨K2, hB⟩
  have HL : Hid (1 ≤ (nmsL xs).length ∧ (nmsL xs).length ≤ 100 ∧ Kn ps l (nmsL xs)) := ⟨hn1, Nat.le_trans (nms_len xs) hn, hk⟩
  have hmf : ∀ (fn : Fn) (first cap : Array Value) (w : World), (Instr.makeFunc fn first cap).run Tryz.prog w = .ok (.func fn first cap) w := fun _ _ _ _ => rfl
  clear hp hx ha hn hn1 hs hc hk K2 hB
  go_enter Tryz.func16, Tryz.ntmps16
  go_wp2_with fail
  refine hR.mono ?_
  rintro e w5 ⟨g, c, rfl, hg, hrw, k5⟩
  have hD := delete_all g c w.heap.size (w.heap.size + 1) (nmsL xs) HL.out.1 HL.out.2.1 w5 hrw (fun w1 k1 s hs => by
    obtain ⟨p, n, q1, q2, q3⟩ := HL.out.2.2 s hs
    exact lack_one nm ps xs l _ _ _ _ _ _ p n w1 ⟨⟨_, _, _, rfl⟩, _, _, _, rfl⟩ (HB.out.2.keep0 (k5.trans' k1)) q1 q2 q3)
  have HG : Hid (w.heap.size ≤ g ∧ Keep [] w w5) := ⟨by simp at hg; omega, HB.out.1.trans' k5⟩
  clear hg hrw k5 hR HB HL
  go_wp2_with fail
  refine hD.mono ?_
  rintro e w6 ⟨rfl, k6⟩
  have HF : Hid (Keep [] w w6) := HG.out.2.more k6 (fun x hx => .inr (by simp at hx; have := HG.out.1; omega))
  clear k6 hD HG
  go_wp2
  go_ret
  exact ⟨⟨g, c, rfl⟩, HF.out⟩
end Go.Proofs.YtplbclokoffgkaaGreatDoor
