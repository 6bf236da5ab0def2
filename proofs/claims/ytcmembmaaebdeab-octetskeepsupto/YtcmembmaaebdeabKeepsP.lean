/- Bytes that go out are their own memory, a Reader has its own: OctetsKeeps answers true. -/
import Derived.Test.YtcmembmaaebdeabApW
import Derived.Test.YtcmembmaaebdeabMuchW
import Derived.Test.YtcmembmaaebdeabPutW
import Derived.Test.YtcmembmaaebdeabArmM
import Derived.Test.YtcmembmaaebdeabAwakeW
import Derived.Test.YtcmembmaaebdeabUnarmW
import Derived.Deep.RegionHeld3
namespace Go.Proofs.Ytcmembmaaebdeab
open Go.RowKit Go.PlainAid Go.Lib

/-- what stays true while things are written into the Writer at g -/
structure InvK (w wr : World) (g : Nat) (l : List UInt8) (rb : Option Nat) : Prop where
  out : Wr wr g 0 l rb
  keep : Keep [] w wr
  gn : w.heap.size ≤ g
  gl : g < wr.heap.size
  rn : ∀ x, rb = some x → w.heap.size ≤ x

theorem InvK.same {w wr w5 : World} {g : Nat} {l : List UInt8} {rb : Option Nat} (h : InvK w wr g l rb) (k : Keep [] wr w5) : InvK w w5 g l rb :=
  ⟨h.out.keep k (by simp) (fun _ _ => by simp), h.keep.trans' k, h.gn, Nat.lt_of_lt_of_le h.gl k.size, h.rn⟩

theorem InvK.write {w wr w6 : World} {g : Nat} {l r : List UInt8} {rb : Option Nat} (h : InvK w wr g l rb) (k : Wrote wr w6 g 0 l r rb) : ∃ rb', InvK w w6 g (l ++ r) rb' := by
  obtain ⟨rb', h1, h2, h3⟩ := k
  refine ⟨rb', h1, h.keep.more h2 (fun x hx => .inr ?_), h.gn, Nat.lt_of_lt_of_le h.gl h2.size, fun x hx => ?_⟩
  · simp at hx
    rcases hx with rfl | hx
    · exact h.gn
    · exact h.rn x hx
  · rcases h3 with h3 | h3
    · exact h.rn x (h3 ▸ hx)
    · exact Nat.le_trans h.keep.size (h3 x hx).1

theorem bytes_step (l : List PutD) (i : Nat) (h : i < l.length) : bytesAll (l.take (i + 1)) = bytesAll (l.take i) ++ l[i].bytes := by
  rw [take_put l i h, bytesAll_append]
  simp [bytesAll]

theorem wrote_keep {w wr w5 w6 : World} {g : Nat} {l r : List UInt8} {rb : Option Nat} (h : InvK w wr g l rb) (k : Keep [] wr.drew w5) (W : Wrote w5 w6 g 0 l r rb) : Keep [] w w6 := by
  obtain ⟨_, h2⟩ := (h.same (((Keep.refl [] _).drew).trans' k)).write W
  exact h2.keep

/-- the cells of the thing p at b, o; u: its bytes' slice -/
structure PutC (w : World) (b o : Nat) (p : PutD) (u : Value) : Prop where
  on : w.cell? ⟨b, o, none⟩ = some (.int .i64 p.on)
  kind : w.cell? ⟨b, o + 1, none⟩ = some (.int .i64 p.kind)
  uint : w.cell? ⟨b, o + 2, none⟩ = some (.int .u64 (p.uint : Int))
  int : w.cell? ⟨b, o + 3, none⟩ = some (.int .i64 p.int)
  real : w.cell? ⟨b, o + 4, none⟩ = some (.float .f32 p.real)
  text : w.cell? ⟨b, o + 5, none⟩ = some (.string p.text)
  raw : w.cell? ⟨b, o + 6, none⟩ = some u

theorem put_start {w w' : World} {b o : Nat} {p : PutD} {u : Value} (h : PutC w b o p u) (k : Keep [] w w') :
    w'.cell? ⟨b, o, none⟩ = some (.int .i64 p.on) ∧ w'.cell? ⟨b, o + 1, none⟩ = some (.int .i64 p.kind) ∧ w'.cell? ⟨b, o + 2, none⟩ = some (.int .u64 (p.uint : Int)) ∧ w'.cell? ⟨b, o + 3, none⟩ = some (.int .i64 p.int) ∧
    w'.cell? ⟨b, o + 4, none⟩ = some (.float .f32 p.real) ∧ w'.cell? ⟨b, o + 5, none⟩ = some (.string p.text) ∧ w'.cell? ⟨b, o + 6, none⟩ = some u ∧ Keep [] w w' :=
  ⟨k.cell' h.on (by simp), k.cell' h.kind (by simp), k.cell' h.uint (by simp), k.cell' h.int (by simp), k.cell' h.real (by simp), k.cell' h.text (by simp), k.cell' h.raw (by simp), k⟩
theorem put_keep {w w' : World} {A B C D E F G : Prop} (h : A ∧ B ∧ C ∧ D ∧ E ∧ F ∧ G ∧ Keep [] w w') : Keep [] w w' := h.2.2.2.2.2.2.2

theorem Bs.drop {w : World} {a : Addr} {l : List UInt8} {cap : Nat} (m : Nat) (hm : m ≤ l.length) (h : Bs w (.slice (some a) l.length cap) l) : Bs w (.slice (some (a.add m)) (l.length - m) (cap - m)) (l.drop m) := by
  obtain ⟨ao', cap', he, h1, h2, h3, h4⟩ := h.ex
  simp at he
  obtain ⟨rfl, rfl⟩ := he
  have hl : (l.drop m).length = l.length - m := by simp
  refine ⟨some (a.add m), cap - m, by rw [hl], by omega, by omega, (by intro h; cases h), fun hne => ?_⟩
  have hlt : m < l.length := by
    apply Nat.lt_of_not_le
    intro h
    exact hne (List.drop_of_length_le h)
  obtain ⟨b, o, ho, hc⟩ := h4 (by intro h; rw [h] at hlt; simp at hlt)
  simp at ho
  subst ho
  refine ⟨b, o + m, by unfold Addr.add; split <;> simp_all, fun j hj => ?_⟩
  rw [hl] at hj
  rw [Nat.add_assoc, hc (m + j) (by omega)]
  simp [List.getD_eq_getElem?_getD, List.getElem?_drop]

theorem Row.slice {w : World} {v : Value} {l : List UInt8} (h : Row w v l) : ∃ a n c, v = .slice a n c := by
  obtain ⟨a, cp, h, _⟩ := h.formA
  exact ⟨a, _, cp, h⟩

/-- the seven slices that are handed out -/
def seven {α : Type} (z x0 x1 x2 x3 x4 x5 x6 : α) : Nat → α
  | 0 => x0 | 1 => x1 | 2 => x2 | 3 => x3 | 4 => x4 | 5 => x5 | 6 => x6 | _ => z

theorem seven_all {α : Type} {z x0 x1 x2 x3 x4 x5 x6 : α} {P : Nat → α → Prop} (h0 : P 0 x0) (h1 : P 1 x1) (h2 : P 2 x2) (h3 : P 3 x3) (h4 : P 4 x4) (h5 : P 5 x5) (h6 : P 6 x6) : ∀ k, k < 7 → P k (seven z x0 x1 x2 x3 x4 x5 x6 k)
  | 0, _ => h0 | 1, _ => h1 | 2, _ => h2 | 3, _ => h3 | 4, _ => h4 | 5, _ => h5 | 6, _ => h6
  | k + 7, h => by omega

theorem seven_cases {k : Nat} (h : k < 7) : k = 0 ∨ k = 1 ∨ k = 2 ∨ k = 3 ∨ k = 4 ∨ k = 5 ∨ k = 6 := by omega

theorem apart_seven {w w16 : World} {g b1 b2 : Nat} {rb r1 r2 : Option Nat} {L T D lb : List UInt8} {v3 hv : Value} {a1 a2 a4 a5 a6 a7 a8 : Option Addr} {l1 l2 l4 l5 l6 l7 l8 c1 c2 c4 c5 c6 c7 c8 s3 s4 s5 s6 s7 s8 s9 s10 s11 s12 s13 s14 s15 : Nat} (n6 : Nat)
    (hA : Keep [] w w16 ∧ Wr w16 g 0 L rb ∧ (Row w16 (.slice a1 l1 c1) L ∧ Row w16 (.slice a2 l2 c2) L ∧ Row w16 v3 L ∧ Row w16 (.slice a4 l4 c4) T ∧ Row w16 (.slice a5 l5 c5) T ∧ Row w16 (.slice a6 l6 c6) lb ∧ Row w16 (.slice a7 l7 c7) lb ∧ Row w16 (.slice a8 l8 c8) D) ∧ Rd w16 b1 0 [] 0 r1 ∧ Rd w16 b2 0 D 0 r2)
    (hB : Bs w hv D)
    (hN : (∀ x, (Value.slice a1 l1 c1).ownBlock = some x → s3 ≤ x ∧ x < s4) ∧ (∀ x, (Value.slice a2 l2 c2).ownBlock = some x → s4 ≤ x ∧ x < s5) ∧ (∀ x, v3.ownBlock = some x → s5 ≤ x ∧ x < s6) ∧ (∀ x, (Value.slice a4 l4 c4).ownBlock = some x → s9 ≤ x ∧ x < s10) ∧ (∀ x, (Value.slice a5 l5 c5).ownBlock = some x → s10 ≤ x ∧ x < s11) ∧ (∀ x, (Value.slice a6 l6 c6).ownBlock = some x → s12 ≤ x ∧ x < s13) ∧ (∀ x, (Value.slice a7 l7 c7).ownBlock = some x → s13 ≤ x ∧ x < s14) ∧ (∀ x, (Value.slice a8 l8 c8).ownBlock = some x → s15 ≤ x ∧ x < w16.heap.size) ∧
          (w.heap.size ≤ s3 ∧ s3 ≤ s4 ∧ s4 ≤ s5 ∧ s5 ≤ s6 ∧ s6 ≤ s7 ∧ s7 ≤ s8 ∧ s8 ≤ s9 ∧ s9 ≤ s10 ∧ s10 ≤ s11 ∧ s11 ≤ s12 ∧ s12 ≤ s13 ∧ s13 ≤ s14 ∧ s14 ≤ s15 ∧ s15 ≤ w16.heap.size) ∧
          (w.heap.size ≤ g ∧ g < s3 ∧ (∀ x, rb = some x → w.heap.size ≤ x ∧ x < s3)) ∧ (s7 ≤ b1 ∧ b1 < s8 ∧ ∀ x, r1 = some x → s7 ≤ x ∧ x < s8) ∧ (s8 ≤ b2 ∧ b2 < s9 ∧ ∀ x, r2 = some x → s8 ≤ x ∧ x < s9))
    (hL : L.length ≤ 1099511627776) (hT : T.length ≤ 1099511627776) (hD : D.length ≤ 1099511627776) (hlb : lb.length ≤ 1099511627776) :
    Calls Try.prog 20 #[.slice (some ⟨w16.heap.size, 0, none⟩) 7 7] ((w16.drewN n6).alloc (.cells #[.slice a1 l1 c1, .slice a2 l2 c2, .slice a4 l4 c4, .slice a5 l5 c5, .slice a6 l6 c6, .slice a7 l7 c7, .slice a8 l8 c8] 22)) fun e w' => e = .returned (.bool true) ∧ Keep [] w w' ∧ Wr w' g 0 L rb ∧ Row w' v3 L ∧ Rd w' b1 0 [] 0 r1 ∧ Rd w' b2 0 D 0 r2 ∧ Bs w' hv D := by
  obtain ⟨hK, hW, ⟨R1, R2, R3, R4, R5, R6, R7, R8⟩, D1, D2⟩ := hA
  obtain ⟨n1, n2, n3, n4, n5, n6', n7, n8, ⟨t3, t4, t5, t6, t7, t8, t9, t10, t11, t12, t13, t14, t15, t16⟩, ⟨g1, g2, g3⟩, ⟨p1, p2, p3⟩, ⟨q1, q2, q3⟩⟩ := hN
  obtain ⟨w17, hw17⟩ : ∃ w17, w17 = (w16.drewN n6).alloc (.cells #[.slice a1 l1 c1, .slice a2 l2 c2, .slice a4 l4 c4, .slice a5 l5 c5, .slice a6 l6 c6, .slice a7 l7 c7, .slice a8 l8 c8] 22) := ⟨_, rfl⟩
  have k17 : Keep [] w16 w17 := by rw [hw17]; exact ((Keep.refl [] _).drewN n6).alloc _
  have s17 := k17.size
  have cells : ∀ k, k < 7 → w17.cell? ⟨w16.heap.size, k, none⟩ = some (seven (.slice none 0 0) (.slice a1 l1 c1) (.slice a2 l2 c2) (.slice a4 l4 c4) (.slice a5 l5 c5) (.slice a6 l6 c6) (.slice a7 l7 c7) (.slice a8 l8 c8) k) := by
    intro k hk
    rw [hw17, show w16.heap.size = (w16.drewN n6).heap.size from rfl]
    generalize w16.drewN n6 = w5
    rcases seven_cases hk with rfl | rfl | rfl | rfl | rfl | rfl | rfl <;> simp [go_sem, seven]
  have hlt : w16.heap.size < w17.heap.size := by rw [hw17]; simp
  rw [← hw17]
  clear hw17
  have nums : ∀ k, k < 7 → ∀ x, (seven (.slice none 0 0) (.slice a1 l1 c1) (.slice a2 l2 c2) (.slice a4 l4 c4) (.slice a5 l5 c5) (.slice a6 l6 c6) (.slice a7 l7 c7) (.slice a8 l8 c8) k : Value).ownBlock = some x → seven 0 s3 s4 s9 s10 s12 s13 s15 k ≤ x ∧ x < seven 0 s4 s5 s10 s11 s13 s14 w16.heap.size k := by
    intro k hk
    rcases seven_cases hk with rfl | rfl | rfl | rfl | rfl | rfl | rfl
    · exact n1
    · exact n2
    · exact n4
    · exact n5
    · exact n6'
    · exact n7
    · exact n8
  have ord : ∀ j k, j < k → k < 7 → seven 0 s4 s5 s10 s11 s13 s14 w16.heap.size j ≤ seven 0 s3 s4 s9 s10 s12 s13 s15 k := by
    intro j k hjk hk
    rcases seven_cases hk with rfl | rfl | rfl | rfl | rfl | rfl | rfl <;> rcases seven_cases (Nat.lt_trans hjk hk) with rfl | rfl | rfl | rfl | rfl | rfl | rfl <;> simp only [seven] <;> omega
  have rows : ∀ k, k < 7 → Row w17 (seven (.slice none 0 0) (.slice a1 l1 c1) (.slice a2 l2 c2) (.slice a4 l4 c4) (.slice a5 l5 c5) (.slice a6 l6 c6) (.slice a7 l7 c7) (.slice a8 l8 c8) k) (seven [] L L T T lb lb D k) := by
    intro k hk
    rcases seven_cases hk with rfl | rfl | rfl | rfl | rfl | rfl | rfl
    · exact R1.keep k17 (Off.nil _)
    · exact R2.keep k17 (Off.nil _)
    · exact R4.keep k17 (Off.nil _)
    · exact R5.keep k17 (Off.nil _)
    · exact R6.keep k17 (Off.nil _)
    · exact R7.keep k17 (Off.nil _)
    · exact R8.keep k17 (Off.nil _)
  have lens : ∀ k, (seven [] L L T T lb lb D k).length ≤ 1099511627776
    | 0 => hL | 1 => hL | 2 => hT | 3 => hT | 4 => hlb | 5 => hlb | 6 => hD
    | k + 7 => by simp [seven]
  have hi16 : ∀ k, k < 7 → seven 0 s4 s5 s10 s11 s13 s14 w16.heap.size k ≤ w16.heap.size := by
    intro k hk
    rcases seven_cases hk with rfl | rfl | rfl | rfl | rfl | rfl | rfl <;> simp only [seven] <;> omega
  have far : ∀ k, k < 7 → ∀ x, seven 0 s3 s4 s9 s10 s12 s13 s15 k ≤ x ∧ x < seven 0 s4 s5 s10 s11 s13 s14 w16.heap.size k → s3 ≤ x ∧ (x < s5 ∨ s9 ≤ x) := by
    intro k hk x
    rcases seven_cases hk with rfl | rfl | rfl | rfl | rfl | rfl | rfl <;> simp only [seven] <;> omega
  generalize (seven (.slice none 0 0) (.slice a1 l1 c1) (.slice a2 l2 c2) (.slice a4 l4 c4) (.slice a5 l5 c5) (.slice a6 l6 c6) (.slice a7 l7 c7) (.slice a8 l8 c8) : Nat → Value) = F at cells nums rows
  generalize seven [] L L T T lb lb D = m0 at rows lens
  generalize seven 0 s3 s4 s9 s10 s12 s13 s15 = lo at nums ord far
  generalize seven 0 s4 s5 s10 s11 s13 s14 w16.heap.size = hi at nums ord hi16 far
  have hAp : Ap w17 w16.heap.size 7 F m0 := by
    refine ⟨cells, rows, fun k hk hx => ?_, fun j k hj hk hjk x hx hy => ?_⟩
    · have h1 := nums k hk _ hx
      have h2 := hi16 k hk
      omega
    · have h1 := nums j hj x hx
      have h2 := nums k hk x hy
      rcases Nat.lt_or_gt_of_ne hjk with h | h
      · have := ord j k h hk
        omega
      · have := ord k j h hj
        omega
  refine (apart_any w16.heap.size 7 F m0 (fun k => (m0 k).length) w17 hAp (fun _ => rfl) (by omega) hlt lens).mono ?_
  rintro e w18 ⟨rfl, k18⟩
  have hx : ∀ x ∈ blks 7 F, s3 ≤ x ∧ (x < s5 ∨ s9 ≤ x) := by
    intro x hx
    obtain ⟨k, hk, hb⟩ := mem_blks.1 hx
    exact far k hk x (nums k hk x hb)
  have hKw : Keep [] w w18 := (hK.trans' k17).more k18 (fun x h => .inr (by have := hx x h; omega))
  refine ⟨rfl, hKw, ?_, ?_, ?_, ?_, hB.keep hKw (Off.nil _)⟩
  · exact (hW.keep k17 (by simp) (fun _ _ => by simp)).keep k18 (fun h => by have := hx g h; omega) (fun x hr h => by have := hx x h; have := g3 x hr; omega)
  · exact (R3.keep k17 (Off.nil _)).keep k18 (fun x hr h => by have := hx x h; have := n3 x hr; omega)
  · exact (D1.keep k17 (by simp) (fun _ _ => by simp)).keep k18 (fun h => by have := hx b1 h; omega) (fun x hr h => by have := hx x h; have := p3 x hr; omega)
  · exact (D2.keep k17 (by simp) (fun _ _ => by simp)).keep k18 (fun h => by have := hx b2 h; omega) (fun x hr h => by have := hx x h; have := q3 x hr; omega)

theorem Lent.bs2 {w : World} {v : Value} {l : List UInt8} (h : Lent w v l) : Bs w v l := by
  obtain ⟨g, cap, rfl, hr⟩ := h.ex
  have hb := hr.bs
  have e : (l ++ marks 1 24).length = l.length + 24 := by simp [marks_len]
  have h2 : Bs w (.slice (some ⟨g, 0, none⟩) (l ++ marks 1 24).length cap) (l ++ marks 1 24) := by rw [e]; exact hb
  have h3 := Bs.take l.length (by omega) h2
  rw [List.take_left] at h3
  exact h3
theorem Lent.keep2 {F : List Nat} {w w' : World} {v : Value} {l : List UInt8} (h : Lent w v l) (k : Keep F w w') (hn : Off v F) : Lent w' v l := by
  obtain ⟨g, cap, rfl, hr⟩ := h.ex
  exact ⟨g, cap, rfl, hr.keep k (fun x hx => hn x hx)⟩

theorem same_ok (u v : Value) (l : List UInt8) (w : World) (hu : Bs w u l) (hv : Bs w v l) (n : Nat) : Calls Try.prog 11 #[u, v] (w.drewN n) fun e w' => e = .returned (.bool true) ∧ ∃ n, w' = w.drewN n := by
  have h := same_any u v l l (w.drewN n) (hu.keep ((Keep.refl [] _).drewN n) (Off.nil _)) (hv.keep ((Keep.refl [] _).drewN n) (Off.nil _))
  rw [show (l == l) = true by simp] at h
  refine h.mono ?_
  rintro e w9 ⟨rfl, m, rfl⟩
  exact ⟨rfl, _, drewN_drewN _ _ _⟩

theorem same_ok0 (u v : Value) (l : List UInt8) (w : World) (hu : Bs w u l) (hv : Bs w v l) : Calls Try.prog 11 #[u, v] w fun e w' => e = .returned (.bool true) ∧ ∃ n, w' = w.drewN n := same_ok u v l w hu hv 0
theorem left_nil (b : Nat) (rb : Option Nat) (w : World) (hr : Rd w b 0 [] 0 rb) : Calls Try.prog 21 #[.pointer (some ⟨b, 0, none⟩)] w fun x w' => x = .returned (.int .i64 0) ∧ w' = w := left_any b 0 [] 0 rb w hr
theorem end_nil (b : Nat) (rb : Option Nat) (w : World) (hr : Rd w b 0 [] 0 rb) : Calls Try.prog 22 #[.pointer (some ⟨b, 0, none⟩)] w fun x w' => x = .returned (.int .i64 0) ∧ w' = w := end_any b 0 [] 0 rb w hr
theorem rawL_ok (l : List UInt8) (m : Nat) (h : m ≤ l.length) : rdOf [] l 0 (rawL l (m : Int)) = (l.take m, l.drop m, 0) := by
  rw [rdOf_pos]
  unfold rawL
  rw [if_neg (by omega), if_neg (by omega), Int.toNat_natCast]
theorem rawL_all (l : List UInt8) : rdOf [] l 0 (rawL l (l.length : Int)) = (l, [], 0) := by
  rw [rawL_ok l l.length (Nat.le_refl _), List.take_length, List.drop_length]

theorem raw_rest (b : Nat) (l : List UInt8) (rb : Option Nat) (N : Int) (w : World) (hr : Rd w b 0 l 0 rb) (hn : l.length ≤ 140737488355328) (hN : N = (l.length : Int)) :
    Calls Try.prog 18 #[.pointer (some ⟨b, 0, none⟩), .int .i64 N] w fun x w' => ∃ y, x = .returned y ∧ Row w' y l ∧ Rd w' b 0 [] 0 rb ∧ Keep [b] w w' := by
  subst hN
  have h := rRaw_any b 0 l 0 rb (l.length : Int) w hr hn
  rw [rawL_all l] at h
  refine h.mono ?_
  rintro e w1 ⟨y, rfl, h1, _, h3, h4⟩
  exact ⟨y, rfl, h1, h3, h4⟩

set_option maxRecDepth 1000000 in
set_option maxHeartbeats 25600000 in
theorem keeps_law (a0 b0 : Option Addr) (ca cb : Nat) (ps : List PutD) (lb : List UInt8) (n : Int) (w : World) (hps : Puts w (.slice a0 ps.length ca) ps) (hb : Bs w (.slice b0 lb.length cb) lb)
    (hsz : ∀ p ∈ ps, p.text.size ≤ 1048576 ∧ p.raw.length ≤ 1048576) (hlb : lb.length ≤ 1048576) (hc0 : -9223372036854775808 ≤ n) (hc1 : n ≤ 9223372036854775807) :
    Calls Try.prog 5 #[.slice a0 ps.length ca, .slice b0 lb.length cb, .int .i64 n] w fun e w' => e = .returned (.bool true) ∧ Below w.heap.size w w' := by
  have hT := tooMuch_any _ ps w hps (fun p hp => ⟨by have := hsz p hp; omega, by have := hsz p hp; omega⟩)
  obtain ⟨ao, cap, he, hlc, hcm, hex⟩ := hps.ex
  simp at he
  obtain ⟨rfl, rfl⟩ := he
  by_cases hbig : 1073741824 < bulkAll ps
  · rw [show decide (1073741824 < bulkAll ps) = true by simpa using hbig] at hT
    clear hex hps hb
    go_enter Try.func5, Try.ntmps5
    go_wp2_with fail
    refine hT.mono ?_
    rintro e1 w1 ⟨rfl, n1, rfl⟩
    have HK : Hid (Below w.heap.size w (w.drewN n1)) := ((Keep.refl [] w).drewN n1).below
    clear hT
    go_wp2
    go_ret
    exact ⟨rfl, HK.out⟩
  rw [show decide (1073741824 < bulkAll ps) = false by simpa using hbig] at hT
  have hlen16 := bulkAll_len ps
  have hok := hps.ok
  have hbl := bytesAll_len ps hok
  have hpn : ps.length ≤ 67108864 := by omega
  have HEX : Hid (ps ≠ [] → ∃ b o, a0 = some ⟨b, o, none⟩ ∧ ∀ i (h : i < ps.length), PutAt w b (o + i * 7) ps[i]) := hex
  have HP : Hid (Puts w (.slice a0 ps.length ca) ps ∧ (∀ p ∈ ps, p.Ok) ∧ bulkAll ps ≤ 1073741824) := ⟨hps, hok, by omega⟩
  have HM : Hid (Bs w (.slice b0 lb.length cb) lb) := hb
  clear hex hps hb hok hlen16 hbig
  go_enter Try.func5, Try.ntmps5
  go_wp2_with fail
  refine hT.mono ?_
  rintro e1 w1 ⟨rfl, n1, rfl⟩
  have K1 : Keep [] w (w.drewN n1) := (Keep.refl [] w).drewN n1
  clear hT
  generalize w.drewN n1 = w1 at K1 ⊢
  go_wp2_with fail
  refine (awake_any w1).mono ?_
  rintro e2 w2 ⟨rfl, K2⟩
  have K2' := K1.trans' K2
  clear K1 K2
  have I0 : InvK w (w2.alloc (.cells #[.slice none 0 0] 42)) w2.heap.size [] none :=
    ⟨Wr.zero _ _ _ (by simp) (by simp), K2'.alloc _, K2'.size, by simp, fun _ h => (by cases h)⟩
  have HI0 : Hid (InvK w (w2.alloc (.cells #[.slice none 0 0] 42)) w2.heap.size [] none) := I0
  clear I0 K2'
  go_wp2
  generalize w2.heap.size = g at HI0 ⊢
  generalize w2.alloc (.cells #[.slice none 0 0] 42) = w3 at HI0 ⊢
  go_loopw [8] (fun iv wr => ∃ (i : Nat) (rb : Option Nat), iv = .int .i64 (i : Int) ∧ i ≤ ps.length ∧ InvK w wr g (bytesAll (ps.take i)) rb) (fun iv _ => ps.length - (intOf iv).toNat)
  case atStart => exact ⟨0, none, rfl, Nat.zero_le _, HI0.out⟩
  case round =>
    obtain ⟨i, rb, rfl, hi, hI⟩ := hrel
    clear HI0
    by_cases hil : i < ps.length
    · have hili : (i : Int) < (ps.length : Int) := by omega
      obtain ⟨b, o, rfl, hat⟩ := HEX.out (by intro hz; rw [hz] at hil; simp at hil)
      have hA := hat i hil
      have hpok := HP.out.2.1 ps[i] (List.getElem_mem hil)
      have hpz := hsz ps[i] (List.getElem_mem hil)
      have hstep := bytes_step ps i hil
      have hbs := bulk_step ps i hil
      have hbt := bulk_take_le ps (i + 1)
      have hb2 := bytesAll_len (ps.take i) (fun p hp => HP.out.2.1 p (List.mem_of_mem_take hp))
      have hbk := HP.out.2.2
      generalize ps[i] = p at hA hpok hpz hstep hbs
      obtain ⟨u, c6, hu⟩ := hA.raw
      have hC : PutC w b (o + i * 7) p u := ⟨hA.on, hA.kind, hA.uint, hA.int, hA.real, hA.text, c6⟩
      generalize hL : bytesAll (ps.take i) = L at hI hstep hb2
      have HL : Hid (L.length + p.bulk ≤ 1073741824 ∧ p.raw.length ≤ 1048576 ∧ L.length ≤ 1073741824) := ⟨by omega, hpz.2, by omega⟩
      have HST : Hid (bytesAll (ps.take (i + 1)) = L ++ p.bytes) := hstep
      have HI : Hid (InvK w wr g L rb) := hI
      have HU : Hid (Bs w u p.raw ∧ p.Ok) := ⟨hu, hpok⟩
      have HC : Hid (PutC w b (o + i * 7) p u) := hC
      obtain ⟨c0, c1, c2, c3, c4, c5, c6, _⟩ := put_start hC hI.keep
      clear hA hpz hbs hbt hb2 hbk hL hI hu hpok hat hstep hC
      go_wp2
      go_region_held3 (fun w' => w'.cell? ⟨b, o + i * 7, none⟩ = some (.int .i64 p.on) ∧ w'.cell? ⟨b, o + i * 7 + 1, none⟩ = some (.int .i64 p.kind) ∧ w'.cell? ⟨b, o + i * 7 + 2, none⟩ = some (.int .u64 (p.uint : Int)) ∧ w'.cell? ⟨b, o + i * 7 + 3, none⟩ = some (.int .i64 p.int) ∧ w'.cell? ⟨b, o + i * 7 + 4, none⟩ = some (.float .f32 p.real) ∧ w'.cell? ⟨b, o + i * 7 + 5, none⟩ = some (.string p.text) ∧ w'.cell? ⟨b, o + i * 7 + 6, none⟩ = some u ∧ Keep [] w w')
        (first | exact put_start HC.out (Keep.drew HI.out.keep) | exact put_start HC.out (wrote_keep HI.out K5 W6) | exact put_start HC.out (Keep.trans' (put_keep (by assumption)) (by assumption)))
        (first
          | (go_at_call 8; refine (copy_any _ p.raw _ (HU.out.1.keep (put_keep (by assumption)) (Off.nil _)) (by have := HL.out; omega)).mono ?_; rintro e5 w5 ⟨v5, rfl, R5, F5, K5⟩)
          | (go_at_call 14; refine (write_any g 0 L rb p HU.out.2 u _ w5 (HI.out.same (((Keep.refl [] _).drew).trans' K5)).out R5.bs (by have := HL.out; omega)).mono ?_; rintro e6 w6 ⟨rfl, W6⟩))
      rename_i hH
      clear hH c0 c1 c2 c3 c4 c5 c6
      obtain ⟨rb6, I6⟩ := (HI.out.same (((Keep.refl [] _).drew).trans' K5)).write W6
      have HL6 : Hid ((L ++ p.bytes).length ≤ 1073741824) := by
        have h1 := HL.out.1
        have h2 := p.bytes_len HU.out.2
        show (L ++ p.bytes).length ≤ 1073741824
        rw [List.length_append]
        omega
      clear W6 K5 R5 F5 HI HU HC
      rw [← HST.out] at I6
      have HI6 : Hid (InvK w w6 g (bytesAll (ps.take (i + 1))) rb6) := I6
      clear I6 HST HL HL6
      go_wp2
      go_roundw
      case rel => exact ⟨i + 1, rb6, by go_num, by omega, HI6.out⟩
      case measure => simp [intOf]; omega
    · have hili : ¬ ((i : Int) < (ps.length : Int)) := by omega
      rw [List.take_of_length_le (by omega)] at hI
      have hbk := HP.out.2.2
      clear HEX HP
      generalize bytesAll ps = L at hI hbl
      have hLn : L.length ≤ 1073741824 := by omega
      clear hbl hbk
      have HI : Hid (InvK w wr g L rb) := hI
      clear hI
      rename World => w3
      go_wp2_with fail
      refine (wBytes_any g 0 L rb w3 HI.out.out (by omega)).mono ?_
      rintro e4 w4 ⟨v1, rfl, R1, F1, K1, -⟩
      have H4 : Hid (Row w4 v1 L ∧ Fresh w3 w4 v1 ∧ Keep [] w3 w4) := ⟨R1, F1, K1⟩
      clear R1 F1 K1
      go_wp2_with fail
      refine (wBytes_any g 0 L rb w4 (HI.out.same H4.out.2.2).out (by omega)).mono ?_
      rintro e5 w5 ⟨v2, rfl, R1, F1, K1, -⟩
      have H5 : Hid (Row w5 v2 L ∧ Fresh w4 w5 v2 ∧ Keep [] w4 w5) := ⟨R1, F1, K1⟩
      clear R1 F1 K1
      go_wp2_with fail
      refine (copy_any v1 L w5 (H4.out.1.keep H5.out.2.2 (Off.nil _)).bs (by omega)).mono ?_
      rintro e6 w6 ⟨v3, rfl, R1, F1, K1⟩
      have H6 : Hid (Row w6 v3 L ∧ Fresh w5 w6 v3 ∧ Keep [] w5 w6) := ⟨R1, F1, K1⟩
      clear R1 F1 K1
      obtain ⟨m, hm, hpk⟩ : ∃ m : Nat, m ≤ lb.length ∧ pickZ n ((lb.length : Int) + 1) = (m : Int) := by
        have h := pickZ_lt n (lb.length + 1) (by omega)
        rw [Int.natCast_add] at h
        have h' : 0 ≤ pickZ n ((lb.length : Int) + 1) ∧ pickZ n ((lb.length : Int) + 1) < (lb.length : Int) + 1 := h
        exact ⟨(pickZ n ((lb.length : Int) + 1)).toNat, by omega, by omega⟩
      have hPk := pick_any n ((lb.length : Int) + 1) hc0 hc1 (by omega) w6
      rw [hpk] at hPk
      clear hpk
      have HW6 : Hid (Keep [] w w6) := HI.out.keep.trans' (H4.out.2.2.trans' (H5.out.2.2.trans' H6.out.2.2))
      go_wp2_with fail
      refine hPk.mono ?_
      rintro e7 w7 ⟨rfl, hw7⟩
      obtain rfl := hw7.symm
      clear hPk
      go_wp2_with fail
      refine (lent_any _ lb w6 (HM.out.keep HW6.out (Off.nil _)) (by omega)).mono ?_
      rintro e7 w7 ⟨vx, rfl, L7, F7, K7⟩
      have H7 : Hid (Lent w7 vx lb ∧ Fresh w6 w7 vx ∧ Keep [] w6 w7) := ⟨L7, F7, K7⟩
      clear L7 F7 K7
      go_wp2_with fail
      refine (Read_any vx lb w7 H7.out.1.bs2 (by omega)).mono ?_
      rintro e8 w8 ⟨b1, r1, rfl, D1, hb1, hr1, K8⟩
      have H8 : Hid (Rd w8 b1 0 lb 0 r1 ∧ w7.heap.size ≤ b1 ∧ (∀ k, r1 = some k → w7.heap.size ≤ k) ∧ Keep [] w7 w8) := ⟨D1, hb1, hr1, K8⟩
      clear D1 hb1 hr1 K8
      go_wp2_with fail
      refine (Read_any vx lb w8 (H7.out.1.bs2.keep H8.out.2.2.2 (Off.nil _)) (by omega)).mono ?_
      rintro e9 w9 ⟨b2, r2, rfl, D1, hb1, hr1, K8⟩
      have H9 : Hid (Rd w9 b2 0 lb 0 r2 ∧ w8.heap.size ≤ b2 ∧ (∀ k, r2 = some k → w8.heap.size ≤ k) ∧ Keep [] w8 w9) := ⟨D1, hb1, hr1, K8⟩
      clear D1 hb1 hr1 K8
      have hraw := rawL_ok lb m hm
      have hRw := rRaw_any b1 0 lb 0 r1 (m : Int) w9 (H8.out.1.keep H9.out.2.2.2 (by simp) (fun _ _ => by simp)) (by omega)
      rw [hraw] at hRw
      go_wp2_with fail
      refine hRw.mono ?_
      rintro e10 w10 ⟨vc, rfl, R1, F1, D1, K1⟩
      have H10 : Hid (Row w10 vc (lb.take m) ∧ Fresh w9 w10 vc ∧ Rd w10 b1 0 (lb.drop m) 0 r1 ∧ Keep [b1] w9 w10) := ⟨R1, F1, D1, K1⟩
      clear R1 F1 D1 K1 hRw
      have hlt8 : b1 < w8.heap.size ∧ ∀ k, r1 = some k → k < w8.heap.size := ⟨H8.out.1.blt, H8.out.1.lt⟩
      have D2 : Rd w10 b2 0 lb 0 r2 := H9.out.1.keep H10.out.2.2.2 (by have := H9.out.2.1; simp; omega) (fun x hx hm => by have := H9.out.2.2.1 x hx; simp at hm; omega)
      have hRw := rRaw_any b2 0 lb 0 r2 (m : Int) w10 D2 (by omega)
      rw [hraw] at hRw
      clear D2
      go_wp2_with fail
      refine hRw.mono ?_
      rintro e11 w11 ⟨vd, rfl, R1, F1, D1, K1⟩
      have H11 : Hid (Row w11 vd (lb.take m) ∧ Fresh w10 w11 vd ∧ Rd w11 b2 0 (lb.drop m) 0 r2 ∧ Keep [b2] w10 w11) := ⟨R1, F1, D1, K1⟩
      clear R1 F1 D1 K1 hRw hraw
      have hxl : ∀ x, vx.ownBlock = some x → w6.heap.size ≤ x ∧ x < w7.heap.size := H7.out.2.1
      have s8 := H8.out.2.2.2.size
      have s9 := H9.out.2.2.2.size
      have KL : Keep [b1, b2] w7 w11 := ((H8.out.2.2.2.trans' H9.out.2.2.2).mono (fun _ h => by cases h)).trans' ((H10.out.2.2.2.mono (fun x h => .inl (by simp at h; simp [h]))).trans' (H11.out.2.2.2.mono (fun x h => .inl (by simp at h; simp [h]))))
      have L11 : Lent w11 vx lb := H7.out.1.keep2 KL (fun x hx hm => by have h1 := hxl x hx; have h2 := H8.out.2.1; have h3 := H9.out.2.1; simp at hm; omega)
      have HL11 : Hid (Lent w11 vx lb) := L11
      have HKL : Hid (Keep [b1, b2] w7 w11) := KL
      clear L11 KL
      go_wp2_with fail
      refine (armor_any vx lb w11 HL11.out.bs2 (by omega)).mono ?_
      rintro e12 w12 ⟨rfl, K12⟩
      have HK12 : Hid (Keep [] w11 w12) := K12
      clear K12
      have hau : (armL lb).length ≤ 1099511627776 := by rw [armL_len]; omega
      obtain ⟨X, hX⟩ : ∃ X : ByteArray, X = ⟨(armL lb).toArray⟩ := ⟨_, rfl⟩
      rw [← hX]
      have hXs : X.size ≤ 1099511627776 := by
        rw [hX]
        show (armL lb).toArray.size ≤ _
        simpa using hau
      have HX : Hid (unL X.data.toList = some lb) := by
        show unL X.data.toList = some lb
        rw [hX]
        exact unL_armL lb
      clear hX hau
      have hUn : ∀ w0, Calls Try.prog 12 #[.string X] w0 fun e w' => ∃ v, e = .returned (.tuple #[v, .int .i64 0]) ∧ Row w' v lb ∧ Fresh w0 w' v ∧ Keep [] w0 w' := by
        intro w0
        refine (unarmor_any X w0 hXs).mono ?_
        rintro e w1 ⟨v, er, rfl, hu, hk⟩
        rw [HX.out] at hu
        obtain ⟨rfl, h1, h2⟩ := hu
        exact ⟨v, rfl, h1, h2, hk⟩
      go_wp2_with fail
      refine (hUn w12).mono ?_
      rintro e13 w13 ⟨ve, rfl, R1, F1, K1⟩
      have H13 : Hid (Row w13 ve lb ∧ Fresh w12 w13 ve ∧ Keep [] w12 w13) := ⟨R1, F1, K1⟩
      clear R1 F1 K1
      go_wp2_with fail
      refine (hUn w13).mono ?_
      rintro e14 w14 ⟨vf, rfl, R1, F1, K1⟩
      have H14 : Hid (Row w14 vf lb ∧ Fresh w13 w14 vf ∧ Keep [] w13 w14) := ⟨R1, F1, K1⟩
      clear R1 F1 K1 hUn HX
      have HK14 : Hid (Keep [] w11 w14) := HK12.out.trans' (H13.out.2.2.trans' H14.out.2.2)
      go_wp2_with fail
      refine (over_any vx lb w14 (HL11.out.keep2 HK14.out (Off.nil _)) (by omega)).mono ?_
      rintro e15 w15 ⟨rfl, K15⟩
      have HK15 : Hid (Keep vx.ownBlock.toList w14 w15) := K15
      clear K15
      have HRk : Hid (Rd w15 b1 0 (lb.drop m) 0 r1) := by
        have k1 : Keep (b2 :: vx.ownBlock.toList) w10 w15 := (H11.out.2.2.2.mono (fun x h => .inl (by simp at h; simp [h]))).trans' ((HK14.out.mono (fun _ h => by cases h)).trans' (HK15.out.mono (fun x h => .inl (by simp [h]))))
        have h2 := H9.out.2.1
        have h3 := H8.out.2.1
        refine H10.out.2.2.1.keep k1 (fun hx => ?_) (fun x hx hm2 => ?_)
        · simp at hx
          rcases hx with hx | hx
          · omega
          · have := hxl b1 hx
            omega
        · have h4 := H8.out.2.2.1 x hx
          have h5 := hlt8.2 x hx
          simp at hm2
          rcases hm2 with hm2 | hm2
          · omega
          · have := hxl x hm2
            omega
      have hdl : ((lb.drop m).length : Int) = (lb.length : Int) - (m : Int) := by simp; omega
      have hRw := rRaw_any b1 0 (lb.drop m) 0 r1 ((lb.drop m).length : Int) w15 HRk.out (by simp; omega)
      rw [rawL_all (lb.drop m), hdl] at hRw
      have HDL : Hid (((lb.drop m).length : Int) = (lb.length : Int) - (m : Int)) := hdl
      clear hdl
      have hmi : (m : Int) ≤ (lb.length : Int) := by omega
      go_wp2_with fail
      refine hRw.mono ?_
      rintro e16 w16 ⟨vg, rfl, R1, F1, D1, K1⟩
      have H16 : Hid (Row w16 vg (lb.drop m) ∧ Fresh w15 w16 vg ∧ Rd w16 b1 0 [] 0 r1 ∧ Keep [b1] w15 w16) := ⟨R1, F1, D1, K1⟩
      clear R1 F1 D1 K1 hRw HRk
      have HALL : Hid (Keep [] w w16 ∧ Wr w16 g 0 L rb ∧ (Row w16 v1 L ∧ Row w16 v2 L ∧ Row w16 v3 L ∧ Row w16 vc (lb.take m) ∧ Row w16 vd (lb.take m) ∧ Row w16 ve lb ∧ Row w16 vf lb ∧ Row w16 vg (lb.drop m)) ∧ Rd w16 b1 0 [] 0 r1 ∧ Rd w16 b2 0 (lb.drop m) 0 r2 ∧ Bs w16 (.slice b0 lb.length cb) lb) := by
        have h8 := H8.out.2.1
        have h9 := H9.out.2.1
        have h9l := H9.out.1.blt
        obtain ⟨G, hG⟩ : ∃ G : List Nat, G = b1 :: b2 :: vx.ownBlock.toList := ⟨_, rfl⟩
        have m1 : ∀ x ∈ [b1], x ∈ G ∨ False := fun x h => .inl (by rw [hG]; simp at h; simp [h])
        have offG : ∀ x, x < w6.heap.size ∨ w9.heap.size ≤ x → x ∉ G := by
          intro x hx hm2
          have s7 := H7.out.2.2.size
          rw [hG] at hm2
          simp at hm2
          rcases hm2 with hm2 | hm2 | hm2
          · omega
          · omega
          · have := hxl x hm2
            omega
        have q15 : Keep G w15 w16 := H16.out.2.2.2.mono (fun x h => .inl (by rw [hG]; simp at h; simp [h]))
        have q14 : Keep G w14 w16 := (HK15.out.mono (fun x h => .inl (by rw [hG]; simp [h]))).trans' q15
        have q13 : Keep G w13 w16 := (H14.out.2.2.mono (fun _ h => by cases h)).trans' q14
        have q12 : Keep G w12 w16 := (H13.out.2.2.mono (fun _ h => by cases h)).trans' q13
        have q11 : Keep G w11 w16 := (HK12.out.mono (fun _ h => by cases h)).trans' q12
        have q10 : Keep G w10 w16 := (H11.out.2.2.2.mono (fun x h => .inl (by rw [hG]; simp at h; simp [h]))).trans' q11
        have q9 : Keep G w9 w16 := (H10.out.2.2.2.mono (fun x h => .inl (by rw [hG]; simp at h; simp [h]))).trans' q10
        have q8 : Keep G w8 w16 := (H9.out.2.2.2.mono (fun _ h => by cases h)).trans' q9
        have q7 : Keep G w7 w16 := (H8.out.2.2.2.mono (fun _ h => by cases h)).trans' q8
        have q6 : Keep G w6 w16 := (H7.out.2.2.mono (fun _ h => by cases h)).trans' q7
        have q5 : Keep G w5 w16 := (H6.out.2.2.mono (fun _ h => by cases h)).trans' q6
        have q4 : Keep G w4 w16 := (H5.out.2.2.mono (fun _ h => by cases h)).trans' q5
        have q3 : Keep G w3 w16 := (H4.out.2.2.mono (fun _ h => by cases h)).trans' q4
        have s4 := H4.out.2.2.size
        have s5 := H5.out.2.2.size
        have s6 := H6.out.2.2.size
        have s7 := H7.out.2.2.size
        have s10 := H10.out.2.2.2.size
        have s11 := H11.out.2.2.2.size
        have s12 := HK12.out.size
        have s13 := H13.out.2.2.size
        have s14 := H14.out.2.2.size
        have s15 := HK15.out.size
        have sw := HI.out.keep.size
        have gl := HI.out.gl
        have hK : Keep [] w w16 := HI.out.keep.trans q3 (fun _ h => by cases h) (fun x hx => .inr (by
          rw [hG] at hx
          simp at hx
          rcases hx with hx | hx | hx
          · omega
          · omega
          · have := hxl x hx
            omega))
        refine ⟨hK, HI.out.out.keep q3 (offG g (.inl (by omega))) (fun x hx => offG x (.inl (by have := HI.out.out.ltR x hx; omega))), ⟨?_, ?_, ?_, ?_, ?_, ?_, ?_, H16.out.1⟩, H16.out.2.2.1, ?_, HM.out.keep hK (Off.nil _)⟩
        · exact H4.out.1.keep q4 (fun x hx => offG x (.inl (by have := H4.out.2.1 x hx; omega)))
        · exact H5.out.1.keep q5 (fun x hx => offG x (.inl (by have := H5.out.2.1 x hx; omega)))
        · exact H6.out.1.keep q6 (fun x hx => offG x (.inl (by have := H6.out.2.1 x hx; omega)))
        · exact H10.out.1.keep q10 (fun x hx => offG x (.inr (by have := H10.out.2.1 x hx; omega)))
        · exact H11.out.1.keep q11 (fun x hx => offG x (.inr (by have := H11.out.2.1 x hx; omega)))
        · exact H13.out.1.keep q13 (fun x hx => offG x (.inr (by have := H13.out.2.1 x hx; omega)))
        · exact H14.out.1.keep q14 (fun x hx => offG x (.inr (by have := H14.out.2.1 x hx; omega)))
        · have k1 : Keep (b1 :: vx.ownBlock.toList) w11 w16 := (HK14.out.mono (fun _ h => by cases h)).trans' ((HK15.out.mono (fun x h => .inl (by simp [h]))).trans' (H16.out.2.2.2.mono (fun x h => .inl (by simp at h; simp [h]))))
          refine H11.out.2.2.1.keep k1 (fun hx => ?_) (fun x hx hm2 => ?_)
          · simp at hx
            rcases hx with hx | hx
            · omega
            · have := hxl b2 hx
              omega
          · have h4 := H9.out.2.2.1 x hx
            simp at hm2
            rcases hm2 with hm2 | hm2
            · omega
            · have := hxl x hm2
              omega
      have HNUM : Hid ((∀ x, v1.ownBlock = some x → w3.heap.size ≤ x ∧ x < w4.heap.size) ∧ (∀ x, v2.ownBlock = some x → w4.heap.size ≤ x ∧ x < w5.heap.size) ∧ (∀ x, v3.ownBlock = some x → w5.heap.size ≤ x ∧ x < w6.heap.size) ∧ (∀ x, vc.ownBlock = some x → w9.heap.size ≤ x ∧ x < w10.heap.size) ∧ (∀ x, vd.ownBlock = some x → w10.heap.size ≤ x ∧ x < w11.heap.size) ∧ (∀ x, ve.ownBlock = some x → w12.heap.size ≤ x ∧ x < w13.heap.size) ∧ (∀ x, vf.ownBlock = some x → w13.heap.size ≤ x ∧ x < w14.heap.size) ∧ (∀ x, vg.ownBlock = some x → w15.heap.size ≤ x ∧ x < w16.heap.size) ∧
          (w.heap.size ≤ w3.heap.size ∧ w3.heap.size ≤ w4.heap.size ∧ w4.heap.size ≤ w5.heap.size ∧ w5.heap.size ≤ w6.heap.size ∧ w6.heap.size ≤ w7.heap.size ∧ w7.heap.size ≤ w8.heap.size ∧ w8.heap.size ≤ w9.heap.size ∧ w9.heap.size ≤ w10.heap.size ∧ w10.heap.size ≤ w11.heap.size ∧ w11.heap.size ≤ w12.heap.size ∧ w12.heap.size ≤ w13.heap.size ∧ w13.heap.size ≤ w14.heap.size ∧ w14.heap.size ≤ w15.heap.size ∧ w15.heap.size ≤ w16.heap.size) ∧
          (w.heap.size ≤ g ∧ g < w3.heap.size ∧ (∀ x, rb = some x → w.heap.size ≤ x ∧ x < w3.heap.size)) ∧ (w7.heap.size ≤ b1 ∧ b1 < w8.heap.size ∧ ∀ x, r1 = some x → w7.heap.size ≤ x ∧ x < w8.heap.size) ∧ (w8.heap.size ≤ b2 ∧ b2 < w9.heap.size ∧ ∀ x, r2 = some x → w8.heap.size ≤ x ∧ x < w9.heap.size)) :=
        ⟨H4.out.2.1, H5.out.2.1, H6.out.2.1, H10.out.2.1, H11.out.2.1, H13.out.2.1, H14.out.2.1, H16.out.2.1, ⟨HI.out.keep.size, H4.out.2.2.size, H5.out.2.2.size, H6.out.2.2.size, H7.out.2.2.size, s8, s9, H10.out.2.2.2.size, H11.out.2.2.2.size, HK12.out.size, H13.out.2.2.size, H14.out.2.2.size, HK15.out.size, H16.out.2.2.2.size⟩,
          ⟨HI.out.gn, HI.out.gl, fun x hx => ⟨HI.out.rn x hx, HI.out.out.ltR x hx⟩⟩, ⟨H8.out.2.1, hlt8.1, fun x hx => ⟨H8.out.2.2.1 x hx, hlt8.2 x hx⟩⟩, ⟨H9.out.2.1, H9.out.1.blt, fun x hx => ⟨H9.out.2.2.1 x hx, H9.out.1.lt x hx⟩⟩⟩
      clear H4 H5 H6 H7 H8 H9 H10 H11 H13 H14 H16 HK12 HK14 HK15 HL11 HKL HW6 HI hxl hlt8 s8 s9 hXs
      generalize w3.heap.size = s3 at HNUM
      generalize w4.heap.size = s4 at HNUM
      generalize w5.heap.size = s5 at HNUM
      generalize w6.heap.size = s6 at HNUM
      generalize w7.heap.size = s7 at HNUM
      generalize w8.heap.size = s8 at HNUM
      generalize w9.heap.size = s9 at HNUM
      generalize w10.heap.size = s10 at HNUM
      generalize w11.heap.size = s11 at HNUM
      generalize w12.heap.size = s12 at HNUM
      generalize w13.heap.size = s13 at HNUM
      generalize w14.heap.size = s14 at HNUM
      generalize w15.heap.size = s15 at HNUM
      have hcb : lb.length ≤ cb ∧ cb ≤ 9223372036854775807 ∧ (b0 = none → cb = 0) := by
        obtain ⟨b0', cb', he, h1, h2, h3, _⟩ := HALL.out.2.2.2.2.2.ex
        simp at he
        obtain ⟨rfl, rfl⟩ := he
        simp only [maxLen] at h2
        exact ⟨h1, by omega, h3⟩
      have hS0 : Calls Try.prog 11 #[v2, v3] w16 fun e w' => e = .returned (.bool true) ∧ ∃ n, w' = w16.drewN n := same_ok v2 v3 L w16 HALL.out.2.2.1.2.1.bs HALL.out.2.2.1.2.2.1.bs 0
      have hmc : (m : Int) ≤ (cb : Int) := by omega
      go_wp2_with fail
      refine hS0.mono ?_
      rintro e17 w17 ⟨rfl, n1, rfl⟩
      clear hS0
      obtain ⟨a1, l1, c1, rfl⟩ := HALL.out.2.2.1.1.slice
      obtain ⟨a2, l2, c2, rfl⟩ := HALL.out.2.2.1.2.1.slice
      obtain ⟨a4, l4, c4, rfl⟩ := HALL.out.2.2.1.2.2.2.1.slice
      obtain ⟨a5, l5, c5, rfl⟩ := HALL.out.2.2.1.2.2.2.2.1.slice
      obtain ⟨a6, l6, c6, rfl⟩ := HALL.out.2.2.1.2.2.2.2.2.1.slice
      obtain ⟨a7, l7, c7, rfl⟩ := HALL.out.2.2.1.2.2.2.2.2.2.1.slice
      obtain ⟨a8, l8, c8, rfl⟩ := HALL.out.2.2.1.2.2.2.2.2.2.2.slice
      cases b0 with
      | none =>
        obtain rfl := hcb.2.2 rfl
        have hl0 : lb = [] := List.eq_nil_of_length_eq_zero (by omega)
        have hm0 : m = 0 := by omega
        subst hl0
        subst hm0
        clear hcb
        have hLO : Bs w16 (.slice none 0 0) (([] : List UInt8).take 0) := Bs.nil _
        have hHI : Bs w (.slice none 0 0) (([] : List UInt8).drop 0) := Bs.nil _
        have HLH : Hid (Bs w16 (.slice none 0 0) (([] : List UInt8).take 0) ∧ Bs w (.slice none 0 0) (([] : List UInt8).drop 0) ∧ Bs w16 (.slice none 0 0) (([] : List UInt8).drop 0)) := ⟨hLO, hHI, hHI.keep HALL.out.1 (Off.nil _)⟩
        clear hLO hHI
        go_wp2_with fail
        refine (same_ok _ _ (([] : List UInt8).take 0) w16 HALL.out.2.2.1.2.2.2.1.bs HLH.out.1 n1).mono ?_
        rintro e18 w18 ⟨rfl, n2, rfl⟩
        go_wp2_with fail
        refine (same_ok _ _ (([] : List UInt8).take 0) w16 HALL.out.2.2.1.2.2.2.2.1.bs HLH.out.1 n2).mono ?_
        rintro e18 w18 ⟨rfl, n3, rfl⟩
        go_wp2_with fail
        refine (same_ok _ _ ([] : List UInt8) w16 HALL.out.2.2.1.2.2.2.2.2.1.bs HALL.out.2.2.2.2.2 n3).mono ?_
        rintro e18 w18 ⟨rfl, n4, rfl⟩
        go_wp2_with fail
        refine (same_ok _ _ ([] : List UInt8) w16 HALL.out.2.2.1.2.2.2.2.2.2.1.bs HALL.out.2.2.2.2.2 n4).mono ?_
        rintro e18 w18 ⟨rfl, n5, rfl⟩
        go_wp2_with fail
        refine (same_ok _ _ (([] : List UInt8).drop 0) w16 HALL.out.2.2.1.2.2.2.2.2.2.2.bs HLH.out.2.2 n5).mono ?_
        rintro e18 w18 ⟨rfl, n6, rfl⟩
        go_wp2_with fail
        refine (apart_seven n6 ⟨HALL.out.1, HALL.out.2.1, HALL.out.2.2.1, HALL.out.2.2.2.1, HALL.out.2.2.2.2.1⟩ HLH.out.2.1 HNUM.out (by omega) (by first | (simp; done) | (simp; omega)) (by first | (simp; done) | (simp; omega)) (by first | omega | (simp; done))).mono ?_
        rintro e18 w18 ⟨rfl, K18, W18, R18, D1, D2, B18⟩
        have H18 : Hid (Keep [] w w18 ∧ Wr w18 g 0 L rb ∧ Row w18 v3 L ∧ Rd w18 b1 0 [] 0 r1 ∧ Rd w18 b2 0 (([] : List UInt8).drop 0) 0 r2 ∧ Bs w (.slice none 0 0) (([] : List UInt8).drop 0) ∧ w.heap.size ≤ b2 ∧ b1 ≠ b2 ∧ r1 ≠ some b2) := ⟨K18, W18, R18, D1, D2, HLH.out.2.1, by have := HNUM.out; omega, by have := HNUM.out; omega, fun h => by have h1 := HNUM.out.2.2.2.2.2.2.2.2.2.2.1.2.2 _ h; have h2 := HNUM.out.2.2.2.2.2.2.2.2.2.2.2.1; omega⟩
        clear K18 W18 R18 D1 D2 B18 HNUM HALL HLH HM
        go_wp2
        have HWRN : Hid True := trivial
        have HDR : Hid (Keep [] w18 w18.drew) := (Keep.refl [] _).drew
        clear HDL
        go_region_held3 (fun w' => Keep [] w w')
          (first | exact H18.out.1.trans' HDR.out | exact (H18.out.1.trans' HDR.out).trans' K9 | exact ((H18.out.1.trans' HDR.out).trans' K9).drewN n7 | exact (((H18.out.1.trans' HDR.out).trans' K9).drewN n7).more K10 (fun x hx => .inr (by simp at hx; subst hx; exact H18.out.2.2.2.2.2.2.1)) | exact ((((H18.out.1.trans' HDR.out).trans' K9).drewN n7).more K10 (fun x hx => .inr (by simp at hx; subst hx; exact H18.out.2.2.2.2.2.2.1))).drewN n8)
          (first
            | (go_at_call 15; refine (wBytes_any g 0 L rb _ (H18.out.2.1.keep HDR.out (by simp) (fun _ _ => by simp)) (by omega)).mono ?_; rintro e19 w19 ⟨v9, rfl, R9, F9, K9, -⟩)
            | (go_at_call_of 11 v3; refine (same_ok0 v9 v3 L w19 R9.bs ((H18.out.2.2.1.keep HDR.out (Off.nil _)).keep K9 (Off.nil _)).bs).mono ?_; rintro e20 w20 ⟨rfl, n7, rfl⟩)
            | (go_at_call 18; refine (raw_rest b2 (([] : List UInt8).drop 0) r2 _ (w19.drewN n7) (H18.out.2.2.2.2.1.keep ((HDR.out.trans' K9).drewN n7) (by simp) (fun _ _ => by simp)) (by first | (simp; done) | (simp; omega)) (by first | exact HWRN.out | rfl | (simp; done))).mono ?_; rintro e21 w21 ⟨v10, rfl, R10, D10, K10⟩)
            | (go_at_call 11; refine (same_ok0 v10 _ (([] : List UInt8).drop 0) w21 R10.bs (H18.out.2.2.2.2.2.1.keep ((((H18.out.1.trans' HDR.out).trans' K9).drewN n7).more K10 (fun x hx => .inr (by simp at hx; subst hx; exact H18.out.2.2.2.2.2.2.1))) (Off.nil _))).mono ?_; rintro e22 w22 ⟨rfl, n8, rfl⟩)
            | (go_at_call 21; refine (left_nil b1 r1 (w21.drewN n8) ((H18.out.2.2.2.1.keep (((HDR.out.trans' K9).drewN n7)) (by simp) (fun _ _ => by simp)).keep (K10.drewN n8) (by simpa using H18.out.2.2.2.2.2.2.2.1) (fun x hx hm2 => by simp at hm2; subst hm2; exact H18.out.2.2.2.2.2.2.2.2 hx))).mono ?_; rintro e23 w23 ⟨rfl, hw23⟩; obtain rfl := hw23.symm)
            | (go_at_call 22; refine (end_nil b2 r2 (w21.drewN n8) (D10.keep ((Keep.refl [] _).drewN n8) (by simp) (fun _ _ => by simp))).mono ?_; rintro e24 w24 ⟨rfl, hw24⟩; obtain rfl := hw24.symm))
        rename_i hH
        have HF : Hid (Below w.heap.size w (w21.drewN n8)) := Keep.below hH
        clear hH
        go_wp2
        go_ret
        exact ⟨rfl, HF.out⟩
      | some a =>
       by_cases hne : cb = m
       · obtain rfl := hne
         have HCL : Hid (lb.length ≤ cb) := hcb.1
         clear hcb

         have hLO : Bs w16 (.slice (some a) cb cb) (lb.take cb) := Bs.take cb hm HALL.out.2.2.2.2.2
         have hHI : Bs w (.slice (some a) (lb.length - cb) 0) (lb.drop cb) := (by rw [show lb.length - cb = 0 by have := HCL.out; omega, List.drop_of_length_le HCL.out]; exact Bs.empty _ _ 0 (by simp [maxLen]))
         have HLH : Hid (Bs w16 (.slice (some a) cb cb) (lb.take cb) ∧ Bs w (.slice (some a) (lb.length - cb) 0) (lb.drop cb) ∧ Bs w16 (.slice (some a) (lb.length - cb) 0) (lb.drop cb)) := ⟨hLO, hHI, hHI.keep HALL.out.1 (Off.nil _)⟩
         clear hLO hHI
         go_wp2_with fail
         refine (same_ok _ _ (lb.take cb) w16 HALL.out.2.2.1.2.2.2.1.bs HLH.out.1 n1).mono ?_
         rintro e18 w18 ⟨rfl, n2, rfl⟩
         go_wp2_with fail
         refine (same_ok _ _ (lb.take cb) w16 HALL.out.2.2.1.2.2.2.2.1.bs HLH.out.1 n2).mono ?_
         rintro e18 w18 ⟨rfl, n3, rfl⟩
         go_wp2_with fail
         refine (same_ok _ _ lb w16 HALL.out.2.2.1.2.2.2.2.2.1.bs HALL.out.2.2.2.2.2 n3).mono ?_
         rintro e18 w18 ⟨rfl, n4, rfl⟩
         go_wp2_with fail
         refine (same_ok _ _ lb w16 HALL.out.2.2.1.2.2.2.2.2.2.1.bs HALL.out.2.2.2.2.2 n4).mono ?_
         rintro e18 w18 ⟨rfl, n5, rfl⟩
         go_wp2_with fail
         refine (same_ok _ _ (lb.drop cb) w16 HALL.out.2.2.1.2.2.2.2.2.2.2.bs HLH.out.2.2 n5).mono ?_
         rintro e18 w18 ⟨rfl, n6, rfl⟩
         go_wp2_with fail
         refine (apart_seven n6 ⟨HALL.out.1, HALL.out.2.1, HALL.out.2.2.1, HALL.out.2.2.2.1, HALL.out.2.2.2.2.1⟩ HLH.out.2.1 HNUM.out (by omega) (by first | (simp; done) | (simp; omega)) (by first | (simp; done) | (simp; omega)) (by first | omega | (simp; done))).mono ?_
         rintro e18 w18 ⟨rfl, K18, W18, R18, D1, D2, B18⟩
         have H18 : Hid (Keep [] w w18 ∧ Wr w18 g 0 L rb ∧ Row w18 v3 L ∧ Rd w18 b1 0 [] 0 r1 ∧ Rd w18 b2 0 (lb.drop cb) 0 r2 ∧ Bs w (.slice (some a) (lb.length - cb) 0) (lb.drop cb) ∧ w.heap.size ≤ b2 ∧ b1 ≠ b2 ∧ r1 ≠ some b2) := ⟨K18, W18, R18, D1, D2, HLH.out.2.1, by have := HNUM.out; omega, by have := HNUM.out; omega, fun h => by have h1 := HNUM.out.2.2.2.2.2.2.2.2.2.2.1.2.2 _ h; have h2 := HNUM.out.2.2.2.2.2.2.2.2.2.2.2.1; omega⟩
         clear K18 W18 R18 D1 D2 B18 HNUM HALL HLH HM
         go_wp2
         have HWRN : Hid (IntKind.i64.wrap ((lb.length : Int) - (cb : Int)) = ((lb.drop cb).length : Int)) := by
           show IntKind.i64.wrap ((lb.length : Int) - (cb : Int)) = ((lb.drop cb).length : Int)
           rw [IntKind.wrap_i64]; simp; omega
         have HDR : Hid (Keep [] w18 w18.drew) := (Keep.refl [] _).drew
         clear HDL
         go_region_held3 (fun w' => Keep [] w w')
           (first | exact H18.out.1.trans' HDR.out | exact (H18.out.1.trans' HDR.out).trans' K9 | exact ((H18.out.1.trans' HDR.out).trans' K9).drewN n7 | exact (((H18.out.1.trans' HDR.out).trans' K9).drewN n7).more K10 (fun x hx => .inr (by simp at hx; subst hx; exact H18.out.2.2.2.2.2.2.1)) | exact ((((H18.out.1.trans' HDR.out).trans' K9).drewN n7).more K10 (fun x hx => .inr (by simp at hx; subst hx; exact H18.out.2.2.2.2.2.2.1))).drewN n8)
           (first
             | (go_at_call 15; refine (wBytes_any g 0 L rb _ (H18.out.2.1.keep HDR.out (by simp) (fun _ _ => by simp)) (by omega)).mono ?_; rintro e19 w19 ⟨v9, rfl, R9, F9, K9, -⟩)
             | (go_at_call_of 11 v3; refine (same_ok0 v9 v3 L w19 R9.bs ((H18.out.2.2.1.keep HDR.out (Off.nil _)).keep K9 (Off.nil _)).bs).mono ?_; rintro e20 w20 ⟨rfl, n7, rfl⟩)
             | (go_at_call 18; refine (raw_rest b2 (lb.drop cb) r2 _ (w19.drewN n7) (H18.out.2.2.2.2.1.keep ((HDR.out.trans' K9).drewN n7) (by simp) (fun _ _ => by simp)) (by first | (simp; done) | (simp; omega)) (by first | exact HWRN.out | rfl | (simp; done))).mono ?_; rintro e21 w21 ⟨v10, rfl, R10, D10, K10⟩)
             | (go_at_call 11; refine (same_ok0 v10 _ (lb.drop cb) w21 R10.bs (H18.out.2.2.2.2.2.1.keep ((((H18.out.1.trans' HDR.out).trans' K9).drewN n7).more K10 (fun x hx => .inr (by simp at hx; subst hx; exact H18.out.2.2.2.2.2.2.1))) (Off.nil _))).mono ?_; rintro e22 w22 ⟨rfl, n8, rfl⟩)
             | (go_at_call 21; refine (left_nil b1 r1 (w21.drewN n8) ((H18.out.2.2.2.1.keep (((HDR.out.trans' K9).drewN n7)) (by simp) (fun _ _ => by simp)).keep (K10.drewN n8) (by simpa using H18.out.2.2.2.2.2.2.2.1) (fun x hx hm2 => by simp at hm2; subst hm2; exact H18.out.2.2.2.2.2.2.2.2 hx))).mono ?_; rintro e23 w23 ⟨rfl, hw23⟩; obtain rfl := hw23.symm)
             | (go_at_call 22; refine (end_nil b2 r2 (w21.drewN n8) (D10.keep ((Keep.refl [] _).drewN n8) (by simp) (fun _ _ => by simp))).mono ?_; rintro e24 w24 ⟨rfl, hw24⟩; obtain rfl := hw24.symm))
         rename_i hH
         have HF : Hid (Below w.heap.size w (w21.drewN n8)) := Keep.below hH
         clear hH
         go_wp2
         go_ret
         exact ⟨rfl, HF.out⟩

       · clear hcb

         have hLO : Bs w16 (.slice (some a) m cb) (lb.take m) := Bs.take m hm HALL.out.2.2.2.2.2
         have hHI : Bs w (.slice (some (a.add m)) (lb.length - m) (cb - m)) (lb.drop m) := Bs.drop m hm HM.out
         have HLH : Hid (Bs w16 (.slice (some a) m cb) (lb.take m) ∧ Bs w (.slice (some (a.add m)) (lb.length - m) (cb - m)) (lb.drop m) ∧ Bs w16 (.slice (some (a.add m)) (lb.length - m) (cb - m)) (lb.drop m)) := ⟨hLO, hHI, hHI.keep HALL.out.1 (Off.nil _)⟩
         clear hLO hHI
         go_wp2_with fail
         refine (same_ok _ _ (lb.take m) w16 HALL.out.2.2.1.2.2.2.1.bs HLH.out.1 n1).mono ?_
         rintro e18 w18 ⟨rfl, n2, rfl⟩
         go_wp2_with fail
         refine (same_ok _ _ (lb.take m) w16 HALL.out.2.2.1.2.2.2.2.1.bs HLH.out.1 n2).mono ?_
         rintro e18 w18 ⟨rfl, n3, rfl⟩
         go_wp2_with fail
         refine (same_ok _ _ lb w16 HALL.out.2.2.1.2.2.2.2.2.1.bs HALL.out.2.2.2.2.2 n3).mono ?_
         rintro e18 w18 ⟨rfl, n4, rfl⟩
         go_wp2_with fail
         refine (same_ok _ _ lb w16 HALL.out.2.2.1.2.2.2.2.2.2.1.bs HALL.out.2.2.2.2.2 n4).mono ?_
         rintro e18 w18 ⟨rfl, n5, rfl⟩
         go_wp2_with fail
         refine (same_ok _ _ (lb.drop m) w16 HALL.out.2.2.1.2.2.2.2.2.2.2.bs HLH.out.2.2 n5).mono ?_
         rintro e18 w18 ⟨rfl, n6, rfl⟩
         go_wp2_with fail
         refine (apart_seven n6 ⟨HALL.out.1, HALL.out.2.1, HALL.out.2.2.1, HALL.out.2.2.2.1, HALL.out.2.2.2.2.1⟩ HLH.out.2.1 HNUM.out (by omega) (by first | (simp; done) | (simp; omega)) (by first | (simp; done) | (simp; omega)) (by first | omega | (simp; done))).mono ?_
         rintro e18 w18 ⟨rfl, K18, W18, R18, D1, D2, B18⟩
         have H18 : Hid (Keep [] w w18 ∧ Wr w18 g 0 L rb ∧ Row w18 v3 L ∧ Rd w18 b1 0 [] 0 r1 ∧ Rd w18 b2 0 (lb.drop m) 0 r2 ∧ Bs w (.slice (some (a.add m)) (lb.length - m) (cb - m)) (lb.drop m) ∧ w.heap.size ≤ b2 ∧ b1 ≠ b2 ∧ r1 ≠ some b2) := ⟨K18, W18, R18, D1, D2, HLH.out.2.1, by have := HNUM.out; omega, by have := HNUM.out; omega, fun h => by have h1 := HNUM.out.2.2.2.2.2.2.2.2.2.2.1.2.2 _ h; have h2 := HNUM.out.2.2.2.2.2.2.2.2.2.2.2.1; omega⟩
         clear K18 W18 R18 D1 D2 B18 HNUM HALL HLH HM
         go_wp2
         have HWRN : Hid (IntKind.i64.wrap ((lb.length : Int) - (m : Int)) = ((lb.drop m).length : Int)) := by
           show IntKind.i64.wrap ((lb.length : Int) - (m : Int)) = ((lb.drop m).length : Int)
           rw [IntKind.wrap_i64]; simp; omega
         have HDR : Hid (Keep [] w18 w18.drew) := (Keep.refl [] _).drew
         clear HDL
         go_region_held3 (fun w' => Keep [] w w')
           (first | exact H18.out.1.trans' HDR.out | exact (H18.out.1.trans' HDR.out).trans' K9 | exact ((H18.out.1.trans' HDR.out).trans' K9).drewN n7 | exact (((H18.out.1.trans' HDR.out).trans' K9).drewN n7).more K10 (fun x hx => .inr (by simp at hx; subst hx; exact H18.out.2.2.2.2.2.2.1)) | exact ((((H18.out.1.trans' HDR.out).trans' K9).drewN n7).more K10 (fun x hx => .inr (by simp at hx; subst hx; exact H18.out.2.2.2.2.2.2.1))).drewN n8)
           (first
             | (go_at_call 15; refine (wBytes_any g 0 L rb _ (H18.out.2.1.keep HDR.out (by simp) (fun _ _ => by simp)) (by omega)).mono ?_; rintro e19 w19 ⟨v9, rfl, R9, F9, K9, -⟩)
             | (go_at_call_of 11 v3; refine (same_ok0 v9 v3 L w19 R9.bs ((H18.out.2.2.1.keep HDR.out (Off.nil _)).keep K9 (Off.nil _)).bs).mono ?_; rintro e20 w20 ⟨rfl, n7, rfl⟩)
             | (go_at_call 18; refine (raw_rest b2 (lb.drop m) r2 _ (w19.drewN n7) (H18.out.2.2.2.2.1.keep ((HDR.out.trans' K9).drewN n7) (by simp) (fun _ _ => by simp)) (by first | (simp; done) | (simp; omega)) (by first | exact HWRN.out | rfl | (simp; done))).mono ?_; rintro e21 w21 ⟨v10, rfl, R10, D10, K10⟩)
             | (go_at_call 11; refine (same_ok0 v10 _ (lb.drop m) w21 R10.bs (H18.out.2.2.2.2.2.1.keep ((((H18.out.1.trans' HDR.out).trans' K9).drewN n7).more K10 (fun x hx => .inr (by simp at hx; subst hx; exact H18.out.2.2.2.2.2.2.1))) (Off.nil _))).mono ?_; rintro e22 w22 ⟨rfl, n8, rfl⟩)
             | (go_at_call 21; refine (left_nil b1 r1 (w21.drewN n8) ((H18.out.2.2.2.1.keep (((HDR.out.trans' K9).drewN n7)) (by simp) (fun _ _ => by simp)).keep (K10.drewN n8) (by simpa using H18.out.2.2.2.2.2.2.2.1) (fun x hx hm2 => by simp at hm2; subst hm2; exact H18.out.2.2.2.2.2.2.2.2 hx))).mono ?_; rintro e23 w23 ⟨rfl, hw23⟩; obtain rfl := hw23.symm)
             | (go_at_call 22; refine (end_nil b2 r2 (w21.drewN n8) (D10.keep ((Keep.refl [] _).drewN n8) (by simp) (fun _ _ => by simp))).mono ?_; rintro e24 w24 ⟨rfl, hw24⟩; obtain rfl := hw24.symm))
         rename_i hH
         have HF : Hid (Below w.heap.size w (w21.drewN n8)) := Keep.below hH
         clear hH
         go_wp2
         go_ret
         exact ⟨rfl, HF.out⟩

end Go.Proofs.Ytcmembmaaebdeab
