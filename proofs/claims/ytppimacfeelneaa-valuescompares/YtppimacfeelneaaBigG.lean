/- How a number stands to a float's worth: the document's against. -/
import Derived.Test.YtppimacfeelneaaBigF
import Derived.Deep.RegionHeld3
namespace Go.Proofs.Ytppimacfeelneaa
open Go.RowKit Go.PlainAid

theorem compare_nums (u v : Value) (M N K L : Nat) (w : World) (hu : Big w u M K) (hv : Big w v N L) : Calls Try.prog 119 #[u, v] w fun e w' => e = .returned (.int .i64 (cmpI (M : Nat) (N : Nat))) ∧ Keep [] w w' := by
  obtain ⟨a, h1, h2, h3, rfl, h5⟩ := hu
  obtain ⟨b, g1, g2, g3, rfl, g5⟩ := hv
  refine (compare_big u v a b w h1 g1 h2 g2 h3 g3).mono ?_
  rintro e w' ⟨rfl, n, rfl⟩
  exact ⟨rfl, (Keep.refl _ w).drewN n⟩

/-- what is held: the four parts -/
def Four (W : World) (p q : Nat) (a b c d : Value) (w : World) : Prop :=
  (w.cell? ⟨p, 0, none⟩ = some a ∧ w.cell? ⟨p, 1, none⟩ = some b ∧ w.cell? ⟨q, 0, none⟩ = some c ∧ w.cell? ⟨q, 1, none⟩ = some d) ∧ Keep [] W w
theorem Four.start {W : World} {p q : Nat} {a b c d : Value} (h : W.cell? ⟨p, 0, none⟩ = some a ∧ W.cell? ⟨p, 1, none⟩ = some b ∧ W.cell? ⟨q, 0, none⟩ = some c ∧ W.cell? ⟨q, 1, none⟩ = some d) : Four W p q a b c d W.drew := ⟨h, (Keep.refl _ W).drew⟩
theorem Four.next {W wi wj : World} {p q : Nat} {a b c d : Value} (hk : Keep [] wi wj) (h : Four W p q a b c d wi) : Four W p q a b c d wj :=
  ⟨⟨hk.cell' h.1.1 (by simp), hk.cell' h.1.2.1 (by simp), hk.cell' h.1.2.2.1 (by simp), hk.cell' h.1.2.2.2 (by simp)⟩, h.2.trans' hk⟩

set_option maxRecDepth 1000000 in
set_option maxHeartbeats 3200000 in
theorem against_at (fa fb : Value) (A B K L m P1 P2 : Nat) (e : Int) (w : World) (ha : Big w fa A K) (hb : Big w fb B L) (hK : K ≤ 3000) (hL : L ≤ 3000)
    (hw : ∀ w : World, Calls Try.prog 118 #[.int .u64 (m : Int), .int .i64 e] w fun r w' => ∃ va vb, r = .returned (.agg #[va, vb]) ∧ (Big w' va P1 1000 ∧ Big w' vb P2 1000) ∧ Keep [] w w') :
    Calls Try.prog 81 #[.agg #[fa, fb], .int .u64 (m : Int), .int .i64 e] w fun r w' => r = .returned (.int .i64 (cmpI (A * P2 : Nat) (P1 * B : Nat))) ∧ Keep [] w w' := by
  obtain ⟨ao, na, ca, rfl⟩ := ha.sl
  obtain ⟨bo, nb, cb, rfl⟩ := hb.sl
  have HA : Hid (Big w (.slice ao na ca) A K) := ha
  have HB : Hid (Big w (.slice bo nb cb) B L) := hb
  clear ha hb
  go_enter Try.func81, Try.ntmps81
  go_wp2_with fail
  refine (hw _).mono ?_
  rintro e9 w1 ⟨vc, vd, rfl, ⟨hc, hd⟩, hk1⟩
  obtain ⟨co, nc, cc, rfl⟩ := hc.sl
  obtain ⟨dO, nd, cd, rfl⟩ := hd.sl
  have HC : Hid (Big w1 (.slice co nc cc) P1 1000) := hc
  have HD : Hid (Big w1 (.slice dO nd cd) P2 1000) := hd
  have HK1 : Hid _ := hk1
  clear hc hd hk1
  go_wp2
  have KW : Keep [] w1 (w1.alloc (Obj.cells #[Value.slice co nc cc, Value.slice dO nd cd] 100)) := Keep.alloc1 _ _
  have hp : w.heap.size < w1.heap.size := by have := HK1.out.size; simp at this; omega
  have c0 : w1.cell? ⟨w.heap.size, 0, none⟩ = some (.slice ao na ca) := HK1.out.cell' (by simp) (by simp)
  have c1 : w1.cell? ⟨w.heap.size, 1, none⟩ = some (.slice bo nb cb) := HK1.out.cell' (by simp) (by simp)
  have HW : Hid (Big (w1.alloc (Obj.cells #[Value.slice co nc cc, Value.slice dO nd cd] 100)) (.slice ao na ca) A K ∧ Big (w1.alloc (Obj.cells #[Value.slice co nc cc, Value.slice dO nd cd] 100)) (.slice bo nb cb) B L ∧ Big (w1.alloc (Obj.cells #[Value.slice co nc cc, Value.slice dO nd cd] 100)) (.slice co nc cc) P1 1000 ∧ Big (w1.alloc (Obj.cells #[Value.slice co nc cc, Value.slice dO nd cd] 100)) (.slice dO nd cd) P2 1000 ∧ Keep [] w (w1.alloc (Obj.cells #[Value.slice co nc cc, Value.slice dO nd cd] 100))) := by
    have k1 : Keep [] w w1 := (Keep.alloc1 w _).trans' HK1.out
    exact ⟨(HA.out.keep k1 (Off.nil _)).keep KW (Off.nil _), (HB.out.keep k1 (Off.nil _)).keep KW (Off.nil _), HC.out.keep KW (Off.nil _), HD.out.keep KW (Off.nil _), k1.trans' KW⟩
  have h4 : (w1.alloc (Obj.cells #[Value.slice co nc cc, Value.slice dO nd cd] 100)).cell? ⟨w.heap.size, 0, none⟩ = some (.slice ao na ca) ∧ (w1.alloc (Obj.cells #[Value.slice co nc cc, Value.slice dO nd cd] 100)).cell? ⟨w.heap.size, 1, none⟩ = some (.slice bo nb cb) ∧ (w1.alloc (Obj.cells #[Value.slice co nc cc, Value.slice dO nd cd] 100)).cell? ⟨w1.heap.size, 0, none⟩ = some (.slice co nc cc) ∧ (w1.alloc (Obj.cells #[Value.slice co nc cc, Value.slice dO nd cd] 100)).cell? ⟨w1.heap.size, 1, none⟩ = some (.slice dO nd cd) :=
    ⟨KW.cell' c0 (by simp), KW.cell' c1 (by simp), by simp, by simp⟩
  clear HA HB HC HD HK1 KW c0 c1 hp
  generalize (w1.alloc (Obj.cells #[Value.slice co nc cc, Value.slice dO nd cd] 100)) = W at HW h4 ⊢
  generalize w.heap.size = p at h4 ⊢
  generalize w1.heap.size = q at h4 ⊢
  have hP1 := product_big (.slice ao na ca) (.slice dO nd cd) A P2 K 1000 W.drew (HW.out.1.keep ((Keep.refl [] W).drew) (Off.nil _)) (HW.out.2.2.2.1.keep ((Keep.refl [] W).drew) (Off.nil _)) (by omega) (by omega)
  have hP2 : ∀ w5, Keep [] W.drew w5 → _ := fun w5 hk5 => product_big (.slice co nc cc) (.slice bo nb cb) P1 B 1000 L w5 ((HW.out.2.2.1.keep ((Keep.refl [] W).drew) (Off.nil _)).keep hk5 (Off.nil _)) ((HW.out.2.1.keep ((Keep.refl [] W).drew) (Off.nil _)).keep hk5 (Off.nil _)) (by omega) (by omega)
  go_region_held3 (fun w' => (w'.cell? ⟨p, 0, none⟩ = some (.slice ao na ca) ∧ w'.cell? ⟨p, 1, none⟩ = some (.slice bo nb cb) ∧ w'.cell? ⟨q, 0, none⟩ = some (.slice co nc cc) ∧ w'.cell? ⟨q, 1, none⟩ = some (.slice dO nd cd)) ∧ Keep [] W w')
    (first | exact Four.start h4 | exact Four.next (by assumption) (by assumption))
    (first
    | (go_at_call_of 120 na; refine hP1.mono ?_; rintro e9 w5 ⟨v5, rfl, ⟨hb5, hf5⟩, hk5⟩)
    | (go_at_call_of 120 nc; refine (hP2 _ hk5).mono ?_; rintro e9 w6 ⟨v6, rfl, ⟨hb6, hf6⟩, hk6⟩)
    | (go_at_call 119; refine (compare_nums v5 v6 (A * P2) (P1 * B) _ _ _ (hb5.keep hk6 (Off.nil _)) hb6).mono ?_; rintro e9 w7 ⟨rfl, hk7⟩))
  go_wp2
  go_ret
  rename_i hH
  exact ⟨rfl, HW.out.2.2.2.2.trans' hH.2⟩

theorem against_any (fa fb : Value) (A B K L m : Nat) (e : Int) (w : World) (ha : Big w fa A K) (hb : Big w fb B L) (hK : K ≤ 3000) (hL : L ≤ 3000) (hm : m < 18446744073709551616) (he1 : -500 ≤ e) (he2 : e ≤ 500) :
    Calls Try.prog 81 #[.agg #[fa, fb], .int .u64 (m : Int), .int .i64 e] w fun r w' => r = .returned (.int .i64 (cmpI (A * 2 ^ (-e).toNat : Nat) (m * 2 ^ e.toNat * B : Nat))) ∧ Keep [] w w' :=
  against_at fa fb A B K L m _ _ e w ha hb hK hL (fun w => worth_any m e hm he1 he2 w)
end Go.Proofs.Ytppimacfeelneaa

