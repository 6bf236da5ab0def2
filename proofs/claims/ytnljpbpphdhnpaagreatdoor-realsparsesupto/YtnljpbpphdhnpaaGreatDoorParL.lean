/- The program's cut of any text, and its Parse's five ways. -/
import Derived.Test.YtnljpbpphdhnpaaGreatDoorParB
import Derived.Test.YtnljpbpphdhnpaaGreatDoorRdT
import Derived.Test.YtnljpbpphdhnpaaGreatDoorBigG

namespace Go.Proofs.YtnljpbpphdhnpaaGreatDoor
open Go.RowKit Go.PlainAid

def WL (l : List UInt8) : List UInt8 := hdL (hdL l 101) 46
def PL (l : List UInt8) : List UInt8 := tlL (hdL l 101) 46
def XL (l : List UInt8) : List UInt8 := offL (tlL l 101)
def FL (l : List UInt8) : List UInt8 := Lib.trimLeftB (WL l ++ PL l) 48
def TL (l : List UInt8) : List UInt8 := Lib.trimRightB (FL l) 48
def kfL (l : List UInt8) : Int := if minL (tlL l 101) = true then -farL (XL l) else farL (XL l)
def kL (l : List UInt8) : Int := kfL l + (((WL l).length : Int) - 1 - (((WL l ++ PL l).length : Int) - (FL l).length))
def okL (l : List UInt8) : Bool := decide (46 ∈ hdL l 101) && digB (WL l) && digB (PL l) && (!decide (101 ∈ l) || digB (XL l))
theorem off_len (l : List UInt8) : (offL l).length ≤ l.length := by unfold offL; split <;> simp
theorem trimL_len (l : List UInt8) (c : UInt8) : (Lib.trimLeftB l c).length ≤ l.length := by
  unfold Lib.trimLeftB; exact (List.dropWhile_sublist _).length_le
theorem lens (l : List UInt8) : (WL l).length ≤ l.length ∧ (PL l).length ≤ l.length ∧ (XL l).length ≤ l.length ∧ (hdL l 101).length ≤ l.length ∧ (tlL l 101).length ≤ l.length := by
  have h1 := hd_len l 101
  have h2 := hd_len (hdL l 101) 46
  have h3 := off_len (tlL l 101)
  exact ⟨Nat.le_trans h2.1 h1.1, Nat.le_trans h2.2 h1.1, Nat.le_trans h3 h1.2, h1.1, h1.2⟩
theorem XL_dig (l : List UInt8) (h : okL l = true) : Dig (XL l) := by
  unfold okL at h
  simp only [Bool.and_eq_true, Bool.or_eq_true, Bool.not_eq_true', decide_eq_false_iff_not] at h
  rcases h.2 with h2 | h2
  · unfold XL
    rw [(hd_none l 101 h2).2]
    intro x hx
    cases hx
  · exact ((digB_yes _).1 h2).1
theorem cutA_ok (l : List UInt8) (hl : l.length ≤ 1000000000) (h : okL l = true) (w : World) : Calls Tryz.prog 28 #[.string (bl l)] w fun e w' => e = .returned (.tuple #[.agg #[.string (bl (TL l)), .int .i64 (kL l)], .bool true]) ∧ Below w.heap.size w w' := by
  obtain ⟨l1, l2, l3, l4, l5⟩ := lens l
  have hX := XL_dig l h
  have hok := h
  unfold okL at hok
  simp only [Bool.and_eq_true, Bool.or_eq_true, Bool.not_eq_true', decide_eq_false_iff_not, decide_eq_true_eq] at hok
  obtain ⟨⟨⟨o1, o2⟩, o3⟩, o4⟩ := hok
  have h2 := fun w => cutL (hdL l 101) 46 (by omega) w
  rw [decide_eq_true o1] at h2
  have h4 := fun w => digitsL (WL l) (by omega) w
  rw [o2] at h4
  have h5 := fun w => digitsL (PL l) (by omega) w
  rw [o3] at h5
  have hF := trimL_len (WL l ++ PL l) 48
  have hFl : (FL l).length ≤ (WL l ++ PL l).length := hF
  rw [List.length_append] at hFl
  have h8 : ∀ w, Calls Tryz.prog 53 #[.string (bl (WL l ++ PL l)), .string ⟨#[48]⟩] w fun e w' => e = .returned (.string (bl (FL l))) ∧ w' = w := fun w => by
    have := Tryz.strings_TrimLeft_one (bl (WL l ++ PL l)) 48 (by decide) w
    rw [bl_data] at this
    exact this
  have h9 : ∀ w, Calls Tryz.prog 54 #[.string (bl (FL l)), .string ⟨#[48]⟩] w fun e w' => e = .returned (.string (bl (TL l))) ∧ w' = w := fun w => by
    have := Tryz.strings_TrimRight_one (bl (FL l)) 48 (by decide) w (by rw [bl_size]; omega)
    rw [bl_data] at this
    exact this
  refine cut_okR (bl l) (bl (hdL l 101)) (bl (tlL l 101)) (bl (WL l)) (bl (PL l)) (bl (XL l)) (bl (WL l ++ PL l)) (bl (FL l)) (bl (TL l)) (decide (101 ∈ l)) (minL (tlL l 101)) (farL (XL l)) (kL l) w (fun w => cutL l 101 hl w) h2 (fun w => prefL (tlL l 101) w) h4 h5 ?_ (fun w => far_any (XL l) hX (by omega) w) (bl_app _ _) h8 h9 ?_ (by rw [bl_size]; omega) (by rw [bl_size]; omega) (by rw [bl_size, List.length_append]; omega) (by rw [bl_size, bl_size]; exact hF) ?_
  · intro hp w
    have hd : digB (XL l) = true := by
      rcases o4 with o4 | o4
      · exact absurd (of_decide_eq_true hp) o4
      · exact o4
    have := digitsL (XL l) (by omega) w
    rw [hd] at this
    exact this
  · exact (far_dv (XL l) hX).1
  · rw [bl_size, bl_size, bl_size]; rfl
theorem cutA_no (l : List UInt8) (hl : l.length ≤ 1000000000) (h : okL l = false) (w : World) : Calls Tryz.prog 28 #[.string (bl l)] w fun e w' => e = .returned (.tuple #[.agg #[.string ⟨#[]⟩, .int .i64 0], .bool false]) ∧ Below w.heap.size w w' := by
  obtain ⟨l1, l2, l3, l4, l5⟩ := lens l
  have h1 := fun w => cutL l 101 hl w
  have h2 := fun w => cutL (hdL l 101) 46 (by omega) w
  have h3 := fun w => prefL (tlL l 101) w
  have h4 := fun w => digitsL (WL l) (by omega) w
  have h5 := fun w => digitsL (PL l) (by omega) w
  have h6 := fun w => digitsL (XL l) (by omega) w
  unfold okL at h
  cases hp : decide (46 ∈ hdL l 101) with
  | false => exact cut_no1 _ _ _ _ _ _ _ _ _ w h1 h2 h3 hp
  | true =>
    rw [hp] at h
    cases hw : digB (WL l) with
    | false => rw [hw] at h4; exact cut_no2 _ _ _ _ _ _ _ _ _ w h1 h2 h3 hp h4
    | true =>
      rw [hw] at h h4
      cases hpp : digB (PL l) with
      | false => rw [hpp] at h5; exact cut_no3 _ _ _ _ _ _ _ _ _ w h1 h2 h3 hp h4 h5
      | true =>
        rw [hpp] at h h5
        have hx : decide (101 ∈ l) = true ∧ digB (XL l) = false := by
          cases hd : decide (101 ∈ l) <;> cases hx : digB (XL l) <;> rw [hd, hx] at h <;> simp at h ⊢
        rw [hx.2] at h6
        exact cut_no4 _ _ _ _ _ _ _ _ _ w h1 h2 h3 hp hx.1 h4 h5 h6
set_option maxRecDepth 1000000 in
theorem parse_nan (s b : ByteArray) (below : Bool) (w : World) (h1 : ∀ w, Calls Tryz.prog 25 #[.string s, .string ⟨#[45]⟩] w fun e w' => e = .returned (.tuple #[.string b, .bool below]) ∧ w' = w) (t1 : (s.toList == [110, 97, 110]) = true) :
    Calls Tryz.prog 9 #[.string s] w fun e w' => e = .returned (.tuple #[.float .f32 2143289344, .int .i64 0]) ∧ Below w.heap.size w w' := by
  have h5 := nan_any
  go_enter Tryz.func9, Tryz.ntmps9
  go_wp2_with fail
  refine (h1 _).mono ?_
  rintro e9 w9 ⟨rfl, hw9⟩
  obtain rfl := hw9.symm
  clear hw9
  go_wp2_with fail
  refine (h5 _).mono ?_
  rintro e9 w9 ⟨rfl, hw9⟩
  obtain rfl := hw9.symm
  clear hw9
  go_wp2
  go_ret2
  exact ⟨rfl, Below.refl _ _⟩
set_option maxRecDepth 1000000 in
theorem parse_inf (s b : ByteArray) (below : Bool) (w : World) (h1 : ∀ w, Calls Tryz.prog 25 #[.string s, .string ⟨#[45]⟩] w fun e w' => e = .returned (.tuple #[.string b, .bool below]) ∧ w' = w) (t1 : (s.toList == [110, 97, 110]) = false) (t2 : (b.toList == [105, 110, 102]) = true) :
    Calls Tryz.prog 9 #[.string s] w fun e w' => e = .returned (.tuple #[.float .f32 (if below then 4286578688 else 2139095040), .int .i64 0]) ∧ Below w.heap.size w w' := by
  have h5 := infinite_any below
  generalize (if below then 4286578688 else 2139095040 : Nat) = R at *
  go_enter Tryz.func9, Tryz.ntmps9
  go_wp2_with fail
  refine (h1 _).mono ?_
  rintro e9 w9 ⟨rfl, hw9⟩
  obtain rfl := hw9.symm
  clear hw9
  go_wp2_with fail
  refine (h5 _).mono ?_
  rintro e9 w9 ⟨rfl, hw9⟩
  obtain rfl := hw9.symm
  clear hw9
  go_wp2
  go_ret2
  exact ⟨rfl, Below.refl _ _⟩
set_option maxRecDepth 1000000 in
theorem parse_none (s b : ByteArray) (below : Bool) (w : World) (h1 : ∀ w, Calls Tryz.prog 25 #[.string s, .string ⟨#[45]⟩] w fun e w' => e = .returned (.tuple #[.string b, .bool below]) ∧ w' = w)
    (t1 : (s.toList == [110, 97, 110]) = false) (t2 : (b.toList == [105, 110, 102]) = false)
    (h2 : ∀ w, Calls Tryz.prog 28 #[.string b] w fun e w' => e = .returned (.tuple #[.agg #[.string ⟨#[]⟩, .int .i64 0], .bool false]) ∧ Below w.heap.size w w') :
    Calls Tryz.prog 9 #[.string s] w fun e w' => e = .returned (.tuple #[.float .f32 0, .int .i64 30]) ∧ Below w.heap.size w w' := by
  go_enter Tryz.func9, Tryz.ntmps9
  go_wp2_with fail
  refine (h1 _).mono ?_
  rintro e9 w9 ⟨rfl, hw9⟩
  obtain rfl := hw9.symm
  clear hw9
  go_wp2_with fail
  refine (h2 _).mono ?_
  rintro e9 w9 ⟨rfl, hb⟩
  have HB : Hid (Below w.heap.size w w9) := hb
  clear hb
  go_wp2
  go_ret2
  exact ⟨rfl, HB.out.alloc HB.out.size _⟩
set_option maxRecDepth 1000000 in
set_option maxHeartbeats 1000000 in
theorem parse_over (s b T : ByteArray) (k : Int) (below : Bool) (x : Nat) (w : World)
    (h1 : ∀ w, Calls Tryz.prog 25 #[.string s, .string ⟨#[45]⟩] w fun e w' => e = .returned (.tuple #[.string b, .bool below]) ∧ w' = w)
    (t1 : (s.toList == [110, 97, 110]) = false) (t2 : (b.toList == [105, 110, 102]) = false)
    (h2 : ∀ w, Calls Tryz.prog 28 #[.string b] w fun e w' => e = .returned (.tuple #[.agg #[.string T, .int .i64 k], .bool true]) ∧ Below w.heap.size w w')
    (h3 : ∀ w', Below w.heap.size w w' → Calls Tryz.prog 29 #[.agg #[.string T, .int .i64 k]] w' fun e w'' => e = .returned (.tuple #[.float .f32 x, .bool false]) ∧ Below w'.heap.size w' w'') :
    Calls Tryz.prog 9 #[.string s] w fun e w' => e = .returned (.tuple #[.float .f32 0, .int .i64 30]) ∧ Below w.heap.size w w' := by
  go_enter Tryz.func9, Tryz.ntmps9
  go_wp2_with fail
  refine (h1 _).mono ?_
  rintro e9 w9 ⟨rfl, hw9⟩
  obtain rfl := hw9.symm
  clear hw9
  go_wp2_with fail
  refine (h2 _).mono ?_
  rintro e9 w9 ⟨rfl, hb⟩
  have HB : Hid (Below w.heap.size w w9) := hb
  clear hb
  go_wp2_with fail
  refine (h3 _ (HB.out.alloc HB.out.size _)).mono ?_
  rintro e9 w8 ⟨rfl, hb8⟩
  have HB8 : Hid _ := (HB.out.alloc HB.out.size _).trans (hb8.mono (HB.out.alloc HB.out.size _).size)
  clear hb8
  go_wp2
  go_ret2
  exact ⟨rfl, HB8.out⟩
set_option maxRecDepth 1000000 in
set_option maxHeartbeats 1000000 in
theorem parse_some (s b T : ByteArray) (k : Int) (below : Bool) (x R : Nat) (w : World) (hx : x < 2147483648) (hR : (if below then x + 2147483648 else x) = R)
    (h1 : ∀ w, Calls Tryz.prog 25 #[.string s, .string ⟨#[45]⟩] w fun e w' => e = .returned (.tuple #[.string b, .bool below]) ∧ w' = w)
    (t1 : (s.toList == [110, 97, 110]) = false) (t2 : (b.toList == [105, 110, 102]) = false)
    (h2 : ∀ w, Calls Tryz.prog 28 #[.string b] w fun e w' => e = .returned (.tuple #[.agg #[.string T, .int .i64 k], .bool true]) ∧ Below w.heap.size w w')
    (h3 : ∀ w', Below w.heap.size w w' → Calls Tryz.prog 29 #[.agg #[.string T, .int .i64 k]] w' fun e w'' => e = .returned (.tuple #[.float .f32 x, .bool true]) ∧ Below w'.heap.size w' w'') :
    Calls Tryz.prog 9 #[.string s] w fun e w' => e = .returned (.tuple #[.float .f32 R, .int .i64 0]) ∧ Below w.heap.size w w' := by
  have h5 := signed_any x hx below
  rw [hR] at h5
  clear hR
  go_enter Tryz.func9, Tryz.ntmps9
  go_wp2_with fail
  refine (h1 _).mono ?_
  rintro e9 w9 ⟨rfl, hw9⟩
  obtain rfl := hw9.symm
  clear hw9
  go_wp2_with fail
  refine (h2 _).mono ?_
  rintro e9 w9 ⟨rfl, hb⟩
  have HB : Hid (Below w.heap.size w w9) := hb
  clear hb
  go_wp2_with fail
  refine (h3 _ (HB.out.alloc HB.out.size _)).mono ?_
  rintro e9 w8 ⟨rfl, hb8⟩
  have HB8 : Hid _ := (HB.out.alloc HB.out.size _).trans (hb8.mono (HB.out.alloc HB.out.size _).size)
  clear hb8
  go_wp2_with fail
  refine (h5 _).mono ?_
  rintro e9 w7 ⟨rfl, hw7⟩
  obtain rfl := hw7.symm
  clear hw7
  go_wp2
  go_ret2
  exact ⟨rfl, HB8.out⟩
end Go.Proofs.YtnljpbpphdhnpaaGreatDoor

/- The program's Parse of any text, told plainly. -/
namespace Go.Proofs.YtnljpbpphdhnpaaGreatDoor
open Go.RowKit Go.PlainAid

/-- the real nearest to A over B -/
noncomputable def nrst (A B : Nat) : Nat := nearB A B (Classical.choose (low_ex A B))
theorem nrst_low (A B : Nat) : LowB A B (Classical.choose (low_ex A B)) := Classical.choose_spec (low_ex A B)
theorem nrst_of (A B m : Nat) (hB : 0 < B) (hl : LowB A B m) : nearB A B m = nrst A B :=
  Nat.le_antisymm (near_mono A B A B m _ hB hB (Nat.le_refl _) hl (nrst_low A B)) (near_mono A B A B _ m hB hB (Nat.le_refl _) (nrst_low A B) hl)
theorem nrst_le (A B : Nat) : nrst A B ≤ 2139095040 := nearB_le A B _ (nrst_low A B).1
/-- the real that digits say, the first at ten to e, if one does -/
noncomputable def rowV (T : List UInt8) (k : Int) : Option Nat :=
  if T = [] ∨ k < -46 then some 0 else if 38 < k then none else
    if nrst (dvL T * 10 ^ (k - ((T.length - 1 : Nat) : Int)).toNat) (10 ^ (((T.length - 1 : Nat) : Int) - k).toNat) < 2139095040 then some (nrst (dvL T * 10 ^ (k - ((T.length - 1 : Nat) : Int)).toNat) (10 ^ (((T.length - 1 : Nat) : Int) - k).toNat)) else none
noncomputable def valP (l : List UInt8) : Option Nat := if okL l = true then rowV (TL l) (kL l) else none
/-- the tables that all this reads -/
structure TabAll (w : World) : Prop where
  b : TabB w
  d : ∀ b, w.heap.size ≤ b → TabD w b
  v : ErV w
  i : Lib.TabIs Tryz.prog w powN .u64 Lib.pow10Tab
  f : 4 < w.heap.size
theorem TabAll.below {w w' : World} (h : TabAll w) (hb : Below w.heap.size w w') : TabAll w' := by
  refine ⟨h.b.below hb, fun b hb2 => (h.d b (Nat.le_trans hb.size hb2)).below hb, h.v.below hb, ?_, Nat.lt_of_lt_of_le h.f hb.size⟩
  have hp := h.i
  unfold Lib.TabIs World.var? at hp ⊢
  rw [pow_named] at hp ⊢
  simp only [Option.bind_some] at hp ⊢
  rw [(Keep.ofBelow hb).block 4 h.f (by simp)]
  exact hp
theorem drop_head (p : UInt8 → Bool) : ∀ (l : List UInt8) (x : UInt8) (t : List UInt8), l.dropWhile p = x :: t → p x = false := by
  intro l
  induction l with
  | nil => intro x t h; cases h
  | cons y l ih =>
    intro x t h
    by_cases hy : p y = true
    · rw [List.dropWhile_cons_of_pos hy] at h; exact ih x t h
    · rw [List.dropWhile_cons_of_neg hy] at h
      have := (List.cons.inj h).1
      rw [← this]
      simpa using hy
theorem TL_parts (l : List UInt8) (h : okL l = true) (hT : TL l ≠ []) : ∃ c0 cs, TL l = c0 :: cs ∧ (49 ≤ c0.toNat ∧ c0.toNat ≤ 57) ∧ Dig cs ∧ noEnd c0 cs := by
  have hok := h
  unfold okL at hok
  simp only [Bool.and_eq_true, Bool.or_eq_true, Bool.not_eq_true', decide_eq_false_iff_not, decide_eq_true_eq] at hok
  obtain ⟨⟨⟨o1, o2⟩, o3⟩, o4⟩ := hok
  have hdA : Dig (WL l ++ PL l) := by
    intro x hx
    rcases List.mem_append.1 hx with hx | hx
    · exact ((digB_yes _).1 o2).1 x hx
    · exact ((digB_yes _).1 o3).1 x hx
  have hdF : Dig (FL l) := fun x hx => hdA x ((List.dropWhile_sublist _).subset hx)
  obtain ⟨j, hj, hjl⟩ := cut_noughts (FL l)
  rw [show Lib.trimRightB (FL l) 48 = TL l from rfl] at hj
  cases hE : TL l with
  | nil => exact absurd hE hT
  | cons c0 cs =>
    rw [hE] at hj
    have hF : FL l = c0 :: (cs ++ List.replicate j 48) := by rw [← hj]; rfl
    have h48 : (c0 == 48) = false := drop_head _ (WL l ++ PL l) c0 _ hF
    have hc0 := hdF c0 (by rw [hF]; exact List.mem_cons_self ..)
    have hne : c0.toNat ≠ 48 := fun e => by
      have : c0 = 48 := UInt8.toNat_inj.1 e
      rw [this] at h48; simp at h48
    have hcs : Dig cs := fun x hx => hdF x (by rw [hF]; exact List.mem_cons_of_mem _ (List.mem_append_left _ hx))
    refine ⟨c0, cs, rfl, ⟨by omega, hc0.2⟩, hcs, fun _ => ?_⟩
    -- the last one
    have hrev : (FL l).reverse.dropWhile (· == 48) = (c0 :: cs).reverse := by
      have : ((FL l).reverse.dropWhile (· == 48)).reverse = c0 :: cs := hE
      rw [← this, List.reverse_reverse]
    obtain ⟨x, t, hxt⟩ : ∃ x t, (c0 :: cs).reverse = x :: t := by
      cases hr : (c0 :: cs).reverse with
      | nil => simp at hr
      | cons x t => exact ⟨x, t, rfl⟩
    have hx48 : (x == 48) = false := drop_head _ _ x t (hrev.trans hxt)
    have hlist : c0 :: cs = t.reverse ++ [x] := by
      have := congrArg List.reverse hxt
      rw [List.reverse_reverse, List.reverse_cons] at this
      exact this
    have hlen : t.reverse.length = cs.length := by
      have := congrArg List.length hlist
      simp at this ⊢
      omega
    have hget : (c0 :: cs).getD cs.length 0 = x := by
      rw [hlist, List.getD_eq_getElem?_getD, List.getElem?_append_right (by omega), hlen, Nat.sub_self]
      rfl
    have hxm : x ∈ c0 :: cs := by rw [hlist]; simp
    have hxd : 48 ≤ x.toNat := by
      rcases List.mem_cons.1 hxm with e | e
      · rw [e]; omega
      · exact (hcs x e).1
    have hxne : x.toNat ≠ 48 := fun e => by
      have : x = 48 := UInt8.toNat_inj.1 e
      rw [this] at hx48; simp at hx48
    unfold fL
    rw [hget]
    omega
theorem TL_len (l : List UInt8) : (TL l).length ≤ 2 * l.length := by
  obtain ⟨j, hj, hjl⟩ := cut_noughts (FL l)
  have h1 := trimL_len (WL l ++ PL l) 48
  have h2 := lens l
  rw [List.length_append] at h1
  have h3 : (TL l).length + j = (FL l).length := hjl
  have h4 : (FL l).length ≤ (WL l).length + (PL l).length := h1
  omega
/-- the program's nearest of what a text says -/
theorem nearest_row (l : List UInt8) (hl : l.length ≤ 1000000000) (h : okL l = true) (w : World) (hT : TabAll w) :
    Calls Tryz.prog 29 #[.agg #[.string (bl (TL l)), .int .i64 (kL l)]] w fun e w' => (∃ x, e = .returned (.tuple #[.float .f32 x, .bool (valP l).isSome]) ∧ (∀ R, valP l = some R → x = R ∧ R < 2139095040)) ∧ Below w.heap.size w w' := by
  have hv : valP l = rowV (TL l) (kL l) := by unfold valP; rw [if_pos h]
  rw [hv]
  by_cases hn : TL l = []
  · have e : rowV (TL l) (kL l) = some 0 := by unfold rowV; rw [if_pos (.inl hn)]
    rw [e, hn]
    refine (nearest_none (kL l) w).mono ?_
    rintro r w' ⟨rfl, hb⟩
    exact ⟨⟨0, rfl, fun R hR => by cases hR; exact ⟨rfl, by decide⟩⟩, hb⟩
  · obtain ⟨c0, cs, hE, h0, hc, hz⟩ := TL_parts l h hn
    have hlen := TL_len l
    rw [hE] at hlen ⊢
    rw [List.length_cons] at hlen
    have hne : (bl (c0 :: cs)).toList.isEmpty = false := nil_false _ (by simp)
    by_cases hlo : kL l < -46
    · have e : rowV (c0 :: cs) (kL l) = some 0 := by unfold rowV; rw [if_pos (.inr hlo)]
      rw [e]
      refine (nearest_low _ (kL l) w hne hlo).mono ?_
      rintro r w' ⟨rfl, hb⟩
      exact ⟨⟨0, rfl, fun R hR => by cases hR; exact ⟨rfl, by decide⟩⟩, hb⟩
    · by_cases hhi : 38 < kL l
      · have e : rowV (c0 :: cs) (kL l) = none := by
          unfold rowV
          rw [if_neg (by intro h; rcases h with h | h; cases h; exact hlo h), if_pos hhi]
        rw [e]
        refine (nearest_high _ (kL l) w hne hhi).mono ?_
        rintro r w' ⟨rfl, hb⟩
        exact ⟨⟨0, rfl, fun R hR => by cases hR⟩, hb⟩
      · have e : rowV (c0 :: cs) (kL l) = if nrst (dvL (c0 :: cs) * 10 ^ (kL l - cs.length).toNat) (10 ^ ((cs.length : Int) - kL l).toNat) < 2139095040 then some (nrst (dvL (c0 :: cs) * 10 ^ (kL l - cs.length).toNat) (10 ^ ((cs.length : Int) - kL l).toNat)) else none := by
          unfold rowV
          rw [if_neg (by intro h; rcases h with h | h; cases h; exact hlo h), if_neg hhi]
          rw [List.length_cons, Nat.add_sub_cancel]
        rw [e]
        obtain ⟨m, hm⟩ := low_ex (dvL (c0 :: cs) * 10 ^ (kL l - cs.length).toNat) (10 ^ ((cs.length : Int) - kL l).toNat)
        have hnr := nrst_of _ _ m (ten_pos _) hm
        have hres : Calls Tryz.prog 29 #[.agg #[.string (bl (c0 :: cs)), .int .i64 (kL l)]] w fun e w' => e = .returned (.tuple #[.float .f32 (nearE c0 cs (kL l) m), .bool (decide (nearE c0 cs (kL l) m < 2139095040))]) ∧ Below w.heap.size w w' := by
          rcases Int.lt_or_le (kL l) 0 with hk | hk
          · obtain ⟨k, hk2⟩ : ∃ k : Nat, kL l = -(k : Int) := ⟨(-kL l).toNat, by omega⟩
            rw [hk2] at hm ⊢
            exact nearest_downA c0 cs k m h0 hc (by omega) (by omega) hz hm w hT.b hT.d hT.v (format_down k (by omega) (by omega) w hT.i)
          · obtain ⟨k, hk2⟩ : ∃ k : Nat, kL l = (k : Int) := ⟨(kL l).toNat, by omega⟩
            rw [hk2] at hm ⊢
            exact nearest_upA c0 cs k m h0 hc (by omega) (by omega) hz hm w hT.b hT.d hT.v
        refine hres.mono ?_
        rintro r w' ⟨rfl, hb⟩
        refine ⟨⟨nearE c0 cs (kL l) m, ?_, fun R hR => ?_⟩, hb⟩
        · rw [show nearE c0 cs (kL l) m = nrst (dvL (c0 :: cs) * 10 ^ (kL l - cs.length).toNat) (10 ^ ((cs.length : Int) - kL l).toNat) from hnr]
          split
          · rename_i h9; rw [decide_eq_true h9]; rfl
          · rename_i h9; rw [decide_eq_false h9]; rfl
        · split at hR
          · rename_i h9
            injection hR with hR
            exact ⟨hnr.trans hR, by rw [← hR]; exact h9⟩
          · cases hR
set_option maxRecDepth 1000000 in
set_option maxHeartbeats 1000000 in
theorem parse_overE (s b T : ByteArray) (k : Int) (below : Bool) (w : World)
    (h1 : ∀ w, Calls Tryz.prog 25 #[.string s, .string ⟨#[45]⟩] w fun e w' => e = .returned (.tuple #[.string b, .bool below]) ∧ w' = w)
    (t1 : (s.toList == [110, 97, 110]) = false) (t2 : (b.toList == [105, 110, 102]) = false)
    (h2 : ∀ w, Calls Tryz.prog 28 #[.string b] w fun e w' => e = .returned (.tuple #[.agg #[.string T, .int .i64 k], .bool true]) ∧ Below w.heap.size w w')
    (h3 : ∀ w', Below w.heap.size w w' → Calls Tryz.prog 29 #[.agg #[.string T, .int .i64 k]] w' fun e w'' => (∃ x : Nat, e = .returned (.tuple #[.float .f32 x, .bool false])) ∧ Below w'.heap.size w' w'') :
    Calls Tryz.prog 9 #[.string s] w fun e w' => e = .returned (.tuple #[.float .f32 0, .int .i64 30]) ∧ Below w.heap.size w w' := by
  go_enter Tryz.func9, Tryz.ntmps9
  go_wp2_with fail
  refine (h1 _).mono ?_
  rintro e9 w9 ⟨rfl, hw9⟩
  obtain rfl := hw9.symm
  clear hw9
  go_wp2_with fail
  refine (h2 _).mono ?_
  rintro e9 w9 ⟨rfl, hb⟩
  have HB : Hid (Below w.heap.size w w9) := hb
  clear hb
  go_wp2_with fail
  refine (h3 _ (HB.out.alloc HB.out.size _)).mono ?_
  rintro e9 w8 ⟨⟨x, rfl⟩, hb8⟩
  have HB8 : Hid _ := (HB.out.alloc HB.out.size _).trans (hb8.mono (HB.out.alloc HB.out.size _).size)
  clear hb8
  go_wp2
  go_ret2
  exact ⟨rfl, HB8.out⟩
/-- the real that a text says -/
noncomputable def parseP (l : List UInt8) : Option Nat :=
  if l = [110, 97, 110] then some 2143289344 else if offL l = [105, 110, 102] then some (if minL l = true then 4286578688 else 2139095040) else
    match valP (offL l) with
    | some R => some (if minL l = true then R + 2147483648 else R)
    | none => none
theorem bl_eqs (l m : List UInt8) : ((bl l).toList == m) = decide (l = m) := by
  have e : (bl l).toList = l := by rw [ByteArray.toList_eq]; rfl
  rw [e]
  by_cases h : l = m
  · rw [decide_eq_true h, h]; simp
  · rw [decide_eq_false h]; simpa using h
theorem parse_any (l : List UInt8) (hl : l.length ≤ 1000000000) (w : World) (hT : TabAll w) :
    Calls Tryz.prog 9 #[.string (bl l)] w fun e w' => e = .returned (match parseP l with | some R => .tuple #[.float .f32 R, .int .i64 0] | none => .tuple #[.float .f32 0, .int .i64 30]) ∧ Below w.heap.size w w' := by
  have h1 := fun w => prefL l w
  have hlo := off_len l
  by_cases hn : l = [110, 97, 110]
  · have e : parseP l = some 2143289344 := by unfold parseP; rw [if_pos hn]
    rw [e]
    exact parse_nan _ _ _ w h1 (by rw [bl_eqs, decide_eq_true hn])
  · have t1 : ((bl l).toList == [110, 97, 110]) = false := by rw [bl_eqs, decide_eq_false hn]
    by_cases hi : offL l = [105, 110, 102]
    · have e : parseP l = some (if minL l = true then 4286578688 else 2139095040) := by unfold parseP; rw [if_neg hn, if_pos hi]
      rw [e]
      exact parse_inf _ _ _ w h1 t1 (by rw [bl_eqs, decide_eq_true hi])
    · have t2 : ((bl (offL l)).toList == [105, 110, 102]) = false := by rw [bl_eqs, decide_eq_false hi]
      have e : parseP l = match valP (offL l) with | some R => some (if minL l = true then R + 2147483648 else R) | none => none := by unfold parseP; rw [if_neg hn, if_neg hi]
      rw [e]
      by_cases hok : okL (offL l) = true
      · have h2 := fun w => cutA_ok (offL l) (by omega) hok w
        have h3 := fun w' (hb : Below w.heap.size w w') => nearest_row (offL l) (by omega) hok w' (hT.below hb)
        cases hv : valP (offL l) with
        | none =>
          rw [hv] at h3
          -- the answer is not told, but it is one
          exact parse_overE _ _ _ _ _ w h1 t1 t2 h2 fun w' hb => (h3 w' hb).mono fun r w'' ⟨⟨x, hx, _⟩, hb2⟩ => ⟨⟨x, hx⟩, hb2⟩
        | some R =>
          rw [hv] at h3
          have hR : R < 2139095040 := by
            unfold valP at hv
            rw [if_pos hok] at hv
            unfold rowV at hv
            split at hv
            · injection hv with hv; omega
            · split at hv
              · cases hv
              · split at hv
                · rename_i h9; injection hv with hv; omega
                · cases hv
          refine parse_some _ _ _ _ _ R _ w (by omega) rfl h1 t1 t2 h2 fun w' hb => (h3 w' hb).mono fun r w'' ⟨⟨x, hx, hx2⟩, hb2⟩ => ?_
          obtain ⟨hx3, _⟩ := hx2 R rfl
          rw [hx3] at hx
          exact ⟨hx, hb2⟩
      · have hok2 : okL (offL l) = false := by simpa using hok
        have hv : valP (offL l) = none := by unfold valP; rw [if_neg hok]
        rw [hv]
        exact parse_none _ _ _ w h1 t1 t2 fun w => cutA_no (offL l) (by omega) hok2 w
end Go.Proofs.YtnljpbpphdhnpaaGreatDoor

/- A text of a real as digits, a point, digits, an e, a minus, digits. -/
namespace Go.Proofs.YtnljpbpphdhnpaaGreatDoor
open Go.RowKit Go.PlainAid

theorem bt_left (A r : List UInt8) (hA : Dig A) (j : Nat) (h : j < A.length) : 48 ≤ bt (bl (A ++ r)) j ∧ bt (bl (A ++ r)) j ≤ 57 := by
  rw [bl_bt _ j (by rw [List.length_append]; omega), List.getElem_append_left h]
  have := hA _ (List.getElem_mem h)
  omega
theorem bt_right (A r : List UInt8) (j : Nat) : bt (bl (A ++ r)) (A.length + j) = bt (bl r) j := by
  by_cases h : j < r.length
  · rw [bl_bt _ _ (by rw [List.length_append]; omega), bl_bt _ _ h, List.getElem_append_right (by omega)]
    congr 3
    omega
  · unfold bt
    rw [dif_neg (by rw [bl_size, List.length_append]; omega), dif_neg (by rw [bl_size]; omega)]
theorem bt_head (c : UInt8) (r : List UInt8) : bt (bl (c :: r)) 0 = (c.toNat : Int) := by rw [bl_bt _ 0 (by simp)]; rfl
theorem bt_at (A : List UInt8) (c : UInt8) (r : List UInt8) : bt (bl (A ++ c :: r)) A.length = (c.toNat : Int) := by
  have := bt_right A (c :: r) 0
  rw [Nat.add_zero] at this
  rw [this, bt_head]
theorem bt_mid (A P r : List UInt8) (hP : Dig P) (j : Nat) (h1 : A.length ≤ j) (h2 : j < A.length + P.length) : 48 ≤ bt (bl (A ++ (P ++ r))) j ∧ bt (bl (A ++ (P ++ r))) j ≤ 57 := by
  obtain ⟨i, rfl⟩ : ∃ i, j = A.length + i := ⟨j - A.length, by omega⟩
  rw [bt_right]
  exact bt_left P r hP i (by omega)
theorem bt_in (A P r : List UInt8) (i : Nat) (h : i < P.length) : bt (bl (A ++ (P ++ r))) (A.length + i) = ((P[i]).toNat : Int) := by
  rw [bt_right, bl_bt _ i (by rw [List.length_append]; omega), List.getElem_append_left h]
theorem ext_mid (A P r : List UInt8) : (bl (A ++ (P ++ r))).extract A.length (A.length + P.length) = bl P := by
  apply ByteArray.ext
  unfold bl
  simp
theorem shape (W P r : List UInt8) : W ++ 46 :: (P ++ r) = (W ++ [46]) ++ (P ++ r) := by simp
theorem shape_len (W : List UInt8) : (W ++ [(46 : UInt8)]).length = W.length + 1 := by simp
/-- what every text with a point has -/
theorem sh (W P r : List UInt8) (hW : Dig W) (hP : Dig P) : (∀ j, j < W.length → 48 ≤ bt (bl (W ++ 46 :: (P ++ r))) j ∧ bt (bl (W ++ 46 :: (P ++ r))) j ≤ 57) ∧ bt (bl (W ++ 46 :: (P ++ r))) W.length = 46 ∧ (∀ j, W.length + 1 ≤ j → j < W.length + 1 + P.length → 48 ≤ bt (bl (W ++ 46 :: (P ++ r))) j ∧ bt (bl (W ++ 46 :: (P ++ r))) j ≤ 57) ∧ (bl (W ++ 46 :: (P ++ r))).extract 0 W.length ++ (bl (W ++ 46 :: (P ++ r))).extract (W.length + 1) (W.length + 1 + P.length) = bl (W ++ P) := by
  refine ⟨fun j hj => bt_left W _ hW j hj, bt_at W 46 _, fun j h1 h2 => ?_, ?_⟩
  · rw [shape]
    exact bt_mid (W ++ [46]) P r hP j (by rw [shape_len]; exact h1) (by rw [shape_len]; exact h2)
  · rw [(bl_extract W _).1]
    have := ext_mid (W ++ [46]) P r
    rw [shape_len, ← shape] at this
    rw [this, bl_app]
/-- digits ahead -/
theorem spanD (l : List UInt8) : ∃ A r, l = A ++ r ∧ Dig A ∧ (r = [] ∨ ∃ c r', r = c :: r' ∧ ¬ (48 ≤ c.toNat ∧ c.toNat ≤ 57)) := by
  induction l with
  | nil => exact ⟨[], [], rfl, (fun x hx => by cases hx), .inl rfl⟩
  | cons x l ih =>
    by_cases hx : 48 ≤ x.toNat ∧ x.toNat ≤ 57
    · obtain ⟨A, r, e, hA, hr⟩ := ih
      refine ⟨x :: A, r, by rw [e]; rfl, fun y hy => ?_, hr⟩
      rcases List.mem_cons.1 hy with rfl | hy
      · exact hx
      · exact hA y hy
    · exact ⟨[], x :: l, rfl, (fun y hy => by cases hy), .inr ⟨x, l, rfl, hx⟩⟩
theorem hd_app (A r : List UInt8) (c : UInt8) (h : ∀ x ∈ A, x ≠ c) : hdL (A ++ c :: r) c = A ∧ tlL (A ++ c :: r) c = r := by
  unfold hdL tlL
  induction A with
  | nil => simp
  | cons y A ih =>
    have hy := h y (List.mem_cons_self ..)
    obtain ⟨i1, i2⟩ := ih fun x hx => h x (List.mem_cons_of_mem _ hx)
    rw [List.cons_append, List.takeWhile_cons_of_pos (by simpa using hy), List.dropWhile_cons_of_pos (by simpa using hy), i1]
    exact ⟨rfl, i2⟩
theorem no_e (W P : List UInt8) (hW : Dig W) (hP : Dig P) : ∀ x ∈ W ++ 46 :: P, x ≠ 101 := by
  intro x hx
  rcases List.mem_append.1 hx with hx | hx
  · exact dig_not W hW 101 (.inr (by decide)) x hx
  · rcases List.mem_cons.1 hx with rfl | hx
    · decide
    · exact dig_not P hP 101 (.inr (by decide)) x hx
theorem digB_of (l : List UInt8) (h : Dig l) (hn : l ≠ []) : digB l = true := (digB_yes l).2 ⟨h, hn⟩
theorem ok_0 (W P : List UInt8) (hW : Dig W) (hW0 : W ≠ []) (hP : Dig P) (hP0 : P ≠ []) : okL (W ++ 46 :: P) = true := by
  have h1 := no_e W P hW hP
  have hn : (101 : UInt8) ∉ W ++ 46 :: P := fun h => h1 101 h rfl
  obtain ⟨e1, e2⟩ := hd_none _ _ hn
  obtain ⟨e3, e4⟩ := hd_app W P 46 (dig_not W hW 46 (.inl (by decide)))
  unfold okL WL PL
  rw [e1, e3, e4, digB_of W hW hW0, digB_of P hP hP0, decide_eq_false hn]
  simp
theorem e_parts (W P t : List UInt8) (hW : Dig W) (hP : Dig P) : hdL (W ++ 46 :: (P ++ 101 :: t)) 101 = W ++ 46 :: P ∧ tlL (W ++ 46 :: (P ++ 101 :: t)) 101 = t := by
  have e : W ++ 46 :: (P ++ 101 :: t) = (W ++ 46 :: P) ++ 101 :: t := by simp
  rw [e]
  exact hd_app _ t 101 (no_e W P hW hP)
theorem ok_e (W P t : List UInt8) (hW : Dig W) (hW0 : W ≠ []) (hP : Dig P) (hP0 : P ≠ []) (ht : Dig (offL t)) (ht0 : offL t ≠ []) : okL (W ++ 46 :: (P ++ 101 :: t)) = true := by
  obtain ⟨e1, e2⟩ := e_parts W P t hW hP
  obtain ⟨e3, e4⟩ := hd_app W P 46 (dig_not W hW 46 (.inl (by decide)))
  unfold okL WL PL XL
  rw [e1, e2, e3, e4, digB_of W hW hW0, digB_of P hP hP0, digB_of _ ht ht0]
  simp
theorem off_dig (X : List UInt8) (h : Dig X) : minL X = false ∧ offL X = X := by
  have e : minL X = false := by
    unfold minL
    cases X with
    | nil => rfl
    | cons x X =>
      have := h x (List.mem_cons_self ..)
      have hx : x ≠ 45 := fun e => by rw [e] at this; exact absurd this.1 (by decide)
      simpa using hx
  refine ⟨e, ?_⟩
  unfold offL
  rw [e]
  simp
theorem off_min (X : List UInt8) : minL (45 :: X) = true ∧ offL (45 :: X) = X := by
  have e : minL (45 :: X) = true := rfl
  refine ⟨e, ?_⟩
  unfold offL
  rw [if_pos e]
  rfl
theorem min_form (t : List UInt8) (h : minL t = true) : t = 45 :: offL t := by
  unfold offL
  rw [if_pos h]
  unfold minL at h
  cases t with
  | nil => cases h
  | cons x t =>
    have : x = 45 := by simpa using h
    rw [this]; rfl
theorem okL_form (l : List UInt8) (h : okL l = true) : Dig (WL l) ∧ WL l ≠ [] ∧ Dig (PL l) ∧ PL l ≠ [] ∧ ((101 ∉ l ∧ l = WL l ++ 46 :: PL l) ∨ (101 ∈ l ∧ Dig (XL l) ∧ XL l ≠ [] ∧ (minL (tlL l 101) = false ∧ l = WL l ++ 46 :: (PL l ++ 101 :: XL l) ∨ minL (tlL l 101) = true ∧ l = WL l ++ 46 :: (PL l ++ 101 :: 45 :: XL l)))) := by
  unfold okL at h
  simp only [Bool.and_eq_true, Bool.or_eq_true, Bool.not_eq_true', decide_eq_false_iff_not, decide_eq_true_eq] at h
  obtain ⟨⟨⟨o1, o2⟩, o3⟩, o4⟩ := h
  obtain ⟨w1, w2⟩ := (digB_yes _).1 o2
  obtain ⟨p1, p2⟩ := (digB_yes _).1 o3
  refine ⟨w1, w2, p1, p2, ?_⟩
  have e1 : hdL l 101 = WL l ++ 46 :: PL l := (hd_tl (hdL l 101) 46 o1).1
  by_cases h101 : (101 : UInt8) ∈ l
  · right
    rcases o4 with o4 | o4
    · exact absurd h101 o4
    obtain ⟨x1, x2⟩ := (digB_yes _).1 o4
    have e2 := (hd_tl l 101 h101).1
    refine ⟨h101, x1, x2, ?_⟩
    cases hm : minL (tlL l 101) with
    | false =>
      left
      have e3 : tlL l 101 = XL l := by unfold XL offL; rw [hm]; simp
      refine ⟨rfl, ?_⟩
      rw [e1, e3] at e2
      simpa using e2
    | true =>
      right
      have e3 : tlL l 101 = 45 :: XL l := min_form _ hm
      refine ⟨rfl, ?_⟩
      rw [e1, e3] at e2
      simpa using e2
  · left
    rw [(hd_none l 101 h101).1] at e1
    exact ⟨h101, e1⟩
/-- the digits of a power, no more than 2^40 -/
def satL (l : List UInt8) : Int := l.foldl (fun n c => min (10 * n + ((c.toNat : Int) - 48)) 1099511627776) 0
theorem sat_snoc (l : List UInt8) (c : UInt8) : satL (l ++ [c]) = min (10 * satL l + ((c.toNat : Int) - 48)) 1099511627776 := by
  unfold satL; rw [List.foldl_append]; rfl
theorem sat_take (l : List UInt8) (h : Dig l) : ∀ k, k ≤ l.length → satL (l.take k) = min (dvL (l.take k) : Int) 1099511627776 := by
  intro k
  induction k with
  | zero => intro _; simp [satL, dvL]; omega
  | succ k ih =>
    intro hk
    have ih := ih (by omega)
    have ht : l.take (k + 1) = l.take k ++ [l[k]'(by omega)] := List.take_succ_eq_append_getElem (by omega)
    have hd := h (l[k]'(by omega)) (List.getElem_mem _)
    rw [ht, sat_snoc, dv_snoc, ih]
    generalize l[k]'(by omega) = c at *
    generalize dvL (l.take k) = d at *
    omega
theorem sat_dv (l : List UInt8) (h : Dig l) : satL l = min (dvL l : Int) 1099511627776 := by
  have := sat_take l h l.length (Nat.le_refl _)
  rwa [List.take_length] at this
theorem sat_bound (l : List UInt8) (h : Dig l) (k : Nat) : 0 ≤ satL (l.take k) ∧ satL (l.take k) ≤ 1099511627776 := by
  rw [sat_dv _ fun x hx => h x ((List.take_sublist k l).subset hx)]
  omega
theorem sat_step (A X r : List UInt8) (k : Nat) (j : Nat) (hk : A.length = k) (h1 : k ≤ j) (h2 : j < k + X.length) : satL (X.take (j + 1 - k)) = min (10 * satL (X.take (j - k)) + (bt (bl (A ++ (X ++ r))) j - 48)) 1099511627776 := by
  subst hk
  obtain ⟨i, rfl⟩ : ∃ i, j = A.length + i := ⟨j - A.length, by omega⟩
  rw [bt_in A X r i (by omega), show A.length + i + 1 - A.length = i + 1 by omega, show A.length + i - A.length = i by omega, List.take_succ_eq_append_getElem (by omega), sat_snoc]
/-- the power that the document's parts tell -/
def eL (l : List UInt8) : Int := (if minL (tlL l 101) = true then -satL (XL l) else satL (XL l)) - ((PL l).length : Int)
end Go.Proofs.YtnljpbpphdhnpaaGreatDoor

/- The document's powers of ten, and a number beside one. -/
namespace Go.Proofs.YtnljpbpphdhnpaaGreatDoor
open Go.RowKit Go.PlainAid

set_option maxRecDepth 1000000 in
set_option maxHeartbeats 1600000 in
theorem powers_neg10 (v : Value) (k : Int) (hk : k ≤ 0) (w : World) : Calls Tryz.prog 57 #[v, .int .i64 10, .int .i64 k] w fun e w' => e = .returned v ∧ w' = w := by
  have h1 : ¬ (8 : Int) ≤ k := by omega
  have h2 : ¬ (0 : Int) < k := by omega
  go_enter Tryz.func57, Tryz.ntmps57
  go_wp2
  refine wp_loop_rounds 1 ?_
  rw [rounds_succ]
  go_wp2
  refine wp_loop_rounds 1 ?_
  rw [rounds_succ]
  go_wp2
  go_ret
  exact ⟨rfl, rfl⟩

structure PowT (w wr : World) (v nv : Value) (N K j : Nat) : Prop where
  big : Big wr nv (N * 10 ^ j) (K + j)
  own : nv = v ∨ Fresh w wr nv
  keep : Keep [] w wr

theorem PowT.next {w wr w1 : World} {v nv n1 : Value} {N K j : Nat} (h : PowT w wr v nv N K j) (d : Nat) (hd : 1 ≤ d) (g : Big w1 n1 (N * 10 ^ j * 10 ^ d) (K + j + 1) ∧ Fresh wr w1 n1) (k : Keep [] wr w1) : PowT w w1 v n1 N K (j + d) := by
  refine ⟨?_, .inr (g.2.earlier h.keep.size), h.keep.trans' k⟩
  rw [Nat.pow_add, ← Nat.mul_assoc]
  exact g.1.mono (by omega)

set_option maxRecDepth 1000000 in
set_option maxHeartbeats 3200000 in
theorem powers_ten (v : Value) (N K k : Nat) (w : World) (h : Big w v N K) (hK : K ≤ 1000) (hk : k ≤ 1000) :
    Calls Tryz.prog 57 #[v, .int .i64 10, .int .i64 (k : Int)] w fun e w' => ∃ v', e = .returned v' ∧ (Big w' v' (N * 10 ^ k) (K + k) ∧ (v' = v ∨ Fresh w w' v')) ∧ Keep [] w w' := by
  have H0 : Hid (Big w v N K) := h
  clear h
  go_enter Tryz.func57, Tryz.ntmps57
  go_wp2
  go_loopw [0, 2] (fun nv kv wr => ∃ m : Nat, kv = .int .i64 (m : Int) ∧ m ≤ k ∧ Hid (PowT w wr v nv N K (k - m))) (fun _ kv _ => (intOf kv).toNat)
  case atStart => exact ⟨k, rfl, Nat.le_refl _, (⟨by simpa using H0.out, .inl rfl, Keep.refl _ w⟩ : PowT w w v v N K (k - k))⟩
  case round =>
    obtain ⟨m, rfl, hm, HI⟩ := hrel
    by_cases h8 : 8 ≤ m
    · obtain ⟨j, rfl⟩ : ∃ j, m = j + 8 := ⟨m - 8, by omega⟩
      have hT := times_big u0 _ _ 100000000 wr HI.out.big (by omega) (by decide) (by decide)
      rw [show ((100000000 : Nat) : Int) = 100000000 from rfl] at hT
      have h8i : (8 : Int) ≤ ((j + 8 : Nat) : Int) := by omega
      go_wp2_with (go_at_call 82; refine hT.mono ?_; rintro e9 w9 ⟨v9, rfl, hb9, hk9⟩)
      have HJ : Hid (PowT w w9 v v9 N K (k - j)) := show PowT w w9 v v9 N K (k - j) by
        have := HI.out.next 8 (by decide) hb9 hk9
        rwa [show k - (j + 8) + 8 = k - j by omega] at this
      clear hb9 hk9 hT
      go_roundw
      case rel => exact ⟨j, by go_num, by omega, HJ⟩
      case measure => (simp [intOf]; try omega)
    · have h8i : ¬ (8 : Int) ≤ (m : Int) := by omega
      go_wp2
      clear H0
      go_loopw [0, 7] (fun nv iv wr => ∃ i : Nat, iv = .int .i64 (i : Int) ∧ i ≤ m ∧ Hid (PowT w wr v nv N K (k - m + i))) (fun _ iv _ => m - (intOf iv).toNat)
      case atStart => exact ⟨0, rfl, Nat.zero_le _, HI⟩
      case round =>
        clear HI
        obtain ⟨i, rfl, hi, HI⟩ := hrel
        by_cases hl : i < m
        · have hT := times_big u0 _ _ 10 wr HI.out.big (by omega) (by decide) (by decide)
          rw [show ((10 : Nat) : Int) = 10 from rfl] at hT
          have hli : (i : Int) < (m : Int) := by omega
          go_wp2_with (go_at_call 82; refine hT.mono ?_; rintro e9 w9 ⟨v9, rfl, hb9, hk9⟩)
          have HJ : Hid (PowT w w9 v v9 N K (k - m + (i + 1))) := HI.out.next 1 (by decide) hb9 hk9
          clear hb9 hk9 hT
          go_roundw
          case rel => exact ⟨i + 1, by go_num, by omega, HJ⟩
          case measure => (simp [intOf]; try omega)
        · have hli : ¬ (i : Int) < (m : Int) := by omega
          go_wp2
          go_ret
          have h1 := HI.out
          rw [show k - m + i = k by omega] at h1
          exact ⟨_, rfl, ⟨h1.big, h1.own⟩, h1.keep⟩

theorem powers_int10 (v : Value) (N K : Nat) (k : Int) (w : World) (h : Big w v N K) (hK : K ≤ 1000) (hk : k ≤ 1000) :
    Calls Tryz.prog 57 #[v, .int .i64 10, .int .i64 k] w fun e w' => ∃ v', e = .returned v' ∧ (Big w' v' (N * 10 ^ k.toNat) (K + k.toNat) ∧ (v' = v ∨ Fresh w w' v')) ∧ Keep [] w w' := by
  by_cases h0 : k ≤ 0
  · refine (powers_neg10 v k h0 w).mono ?_
    rintro e w' ⟨rfl, rfl⟩
    rw [show k.toNat = 0 by omega]
    exact ⟨v, rfl, ⟨by simpa using h, .inl rfl⟩, Keep.refl _ _⟩
  · have hc := powers_ten v N K k.toNat w h hK (by omega)
    rw [show ((k.toNat : Nat) : Int) = k by omega] at hc
    refine hc.mono ?_
    exact fun _ _ h => h

set_option maxRecDepth 1000000 in
set_option maxHeartbeats 3200000 in
theorem ten_any (m : Nat) (e : Int) (hm : m < 9223372036854775808) (he1 : -500 ≤ e) (he2 : e ≤ 500) (w : World) :
    Calls Tryz.prog 43 #[.int .i64 (m : Int), .int .i64 e] w fun r w' => ∃ va vb, r = .returned (.agg #[va, vb]) ∧ (Big w' va (m * 10 ^ e.toNat) 1000 ∧ Big w' vb (10 ^ (-e).toNat) 1000) ∧ Keep [] w w' := by
  go_enter Tryz.func43, Tryz.ntmps43
  go_wp2_with fail
  refine (number_big m (by omega) _).mono ?_
  rintro e9 w1 ⟨v1, rfl, hb1, hf1, hk1⟩
  go_wp2_with fail
  refine (powers_int10 v1 m 3 e _ hb1 (by omega) (by omega)).mono ?_
  rintro e9 w2 ⟨va, rfl, ⟨hba, hoa⟩, hka⟩
  go_wp2_with fail
  refine (powers_int10 _ 1 1 (-e) _ (Big.one w2) (by omega) (by omega)).mono ?_
  rintro e9 w3 ⟨vb, rfl, ⟨hbb, hob⟩, hkb⟩
  have K1 : Keep [] (w.alloc (Obj.cells #[Value.slice none 0 0, Value.slice none 0 0] 57)) w2 := hk1.trans' hka
  have K2 : Keep [] (w.alloc (Obj.cells #[Value.slice none 0 0, Value.slice none 0 0] 57)) w3 := (K1.alloc _).trans' hkb
  have K3 : Keep [] w2 w3 := (Keep.alloc1 w2 _).trans' hkb
  have s1 := hk1.size
  have s2 := hka.size
  simp at s1
  have HA : Hid (Big w3 va (m * 10 ^ e.toNat) 1000 ∧ Off va [w.heap.size]) := ⟨(hba.keep K3 (Off.nil _)).mono (by omega), by
    rcases hoa with rfl | h
    · exact hf1.off1
    · exact (h.earlier (w0 := w.alloc (Obj.cells #[Value.slice none 0 0, Value.slice none 0 0] 57)) (by simpa using s1)).off1⟩
  have HBb : Hid (Big w3 vb (10 ^ (-e).toNat) 1000 ∧ Off vb [w.heap.size]) := ⟨by rw [Nat.one_mul] at hbb; exact hbb.mono (by omega), by
    rcases hob with rfl | h
    · intro k hk hn
      simp [Value.ownBlock] at hk hn
      omega
    · intro k hk hn
      have := (h k hk).1
      simp at this hn
      omega⟩
  have HK : Hid (Keep [] w w3) := (show Keep [] w w3 from ((Keep.alloc1 w _).trans' K2))
  have hc0 : w3.cell? ⟨w.heap.size, 0, none⟩ = some (.slice none 0 0) := K2.cell' (by simp) (by simp)
  have hc1 : w3.cell? ⟨w.heap.size, 1, none⟩ = some (.slice none 0 0) := K2.cell' (by simp) (by simp)
  have hf0 : w3.frozen? ⟨w.heap.size, 0, none⟩ = false := (K2.frozen (by simp) (by simp)).trans (by simp)
  have hf9 : w3.frozen? ⟨w.heap.size, 1, none⟩ = false := (K2.frozen (by simp) (by simp)).trans (by simp)
  obtain ⟨ao, na, ca, rfl⟩ := hba.sl
  obtain ⟨bo, nb, cb, rfl⟩ := hbb.sl
  clear hb1 hf1 hk1 hba hoa hka hbb hob hkb K1 K2 K3 s1 s2
  have HG : Hid (w.heap.size ≤ w.heap.size) := Nat.le_refl _
  generalize hgg : w.heap.size = g at *
  have HG : Hid (w.heap.size ≤ g) := show w.heap.size ≤ g by omega
  clear hgg
  have hd1 : (w3.setCell ⟨g, 0, none⟩ (.slice ao na ca)).cell? ⟨g, 1, none⟩ = some (.slice none 0 0) := by rw [World.cell?_setCell_other _ _ _ _ (by simp)]; exact hc1
  have d1 : ((w3.setCell ⟨g, 0, none⟩ (.slice ao na ca)).setCell ⟨g, 1, none⟩ (.slice bo nb cb)).cell? ⟨g, 1, none⟩ = some (.slice bo nb cb) := World.cell?_setCell_same _ _ _ hd1
  have d0 : ((w3.setCell ⟨g, 0, none⟩ (.slice ao na ca)).setCell ⟨g, 1, none⟩ (.slice bo nb cb)).cell? ⟨g, 0, none⟩ = some (.slice ao na ca) := by
    rw [World.cell?_setCell_other _ _ _ _ (by simp)]; exact World.cell?_setCell_same _ _ _ hc0
  have KS : Keep [g] w3 ((w3.setCell ⟨g, 0, none⟩ (.slice ao na ca)).setCell ⟨g, 1, none⟩ (.slice bo nb cb)) := ((Keep.refl [g] w3).setCell (p := ⟨g, 0, none⟩) (.inl (by simp)) _).setCell (p := ⟨g, 1, none⟩) (.inl (by simp)) _
  have HR : Hid ((Big ((w3.setCell ⟨g, 0, none⟩ (.slice ao na ca)).setCell ⟨g, 1, none⟩ (.slice bo nb cb)) (.slice ao na ca) (m * 10 ^ e.toNat) 1000 ∧ Big ((w3.setCell ⟨g, 0, none⟩ (.slice ao na ca)).setCell ⟨g, 1, none⟩ (.slice bo nb cb)) (.slice bo nb cb) (10 ^ (-e).toNat) 1000) ∧ Keep [] w ((w3.setCell ⟨g, 0, none⟩ (.slice ao na ca)).setCell ⟨g, 1, none⟩ (.slice bo nb cb))) :=
    ⟨⟨HA.out.1.keep KS HA.out.2, HBb.out.1.keep KS HBb.out.2⟩, HK.out.more KS (by intro x hx; simp at hx; subst hx; exact .inr HG.out)⟩
  clear KS HA HBb HK hd1
  go_wp2
  generalize ((w3.setCell ⟨g, 0, none⟩ (.slice ao na ca)).setCell ⟨g, 1, none⟩ (.slice bo nb cb)) = W at d0 d1 HR ⊢
  refine bodyPost_ret (v := .agg #[.slice ao na ca, .slice bo nb cb]) (by simp [results, Tryz.results43, go_sem, d0, d1]) rfl ?_
  exact ⟨_, _, rfl, HR.out⟩
end Go.Proofs.YtnljpbpphdhnpaaGreatDoor


/- The document's digits: a text of digits as a whole number. -/
namespace Go.Proofs.YtnljpbpphdhnpaaGreatDoor
open Go.RowKit Go.PlainAid

theorem dv_from (b : List UInt8) : ∀ a, b.foldl (fun a c => a * 10 + (c.toNat - 48)) a = a * 10 ^ b.length + dvL b := by
  unfold dvL
  induction b with
  | nil => intro a; simp
  | cons x b ih =>
    intro a
    rw [List.foldl_cons, List.foldl_cons, ih, ih (0 * 10 + (x.toNat - 48)), List.length_cons, Nat.pow_succ, Nat.add_mul, Nat.zero_mul, Nat.zero_add, Nat.mul_assoc, Nat.mul_comm 10]
    omega
theorem dv_app (a b : List UInt8) : dvL (a ++ b) = dvL a * 10 ^ b.length + dvL b := by
  have := dv_from b (dvL a)
  rw [← this]
  unfold dvL
  rw [List.foldl_append]
/-- the digits from m on, up to j -/
def dvM (T : List UInt8) (m j : Nat) : Nat := dvL ((T.take j).drop m)
theorem dvM_self (T : List UInt8) (m : Nat) : dvM T m m = 0 := by
  unfold dvM
  rw [List.drop_eq_nil_of_le (by rw [List.length_take]; omega)]
  rfl
theorem dvM_next (T : List UInt8) (m j : Nat) (h1 : m ≤ j) (h2 : j < T.length) : dvM T m (j + 1) = dvM T m j * 10 + ((T[j]).toNat - 48) := by
  unfold dvM
  rw [List.take_succ_eq_append_getElem h2, List.drop_append_of_le_length (by rw [List.length_take]; omega), dv_snoc]
theorem dvM_lt (T : List UInt8) (hT : Dig T) (m j n : Nat) (h : j ≤ m + n) : dvM T m j < 10 ^ n := by
  unfold dvM
  refine Nat.lt_of_lt_of_le (dv_lt _ fun c hc => hT c (List.mem_of_mem_take (List.mem_of_mem_drop hc))) (Nat.pow_le_pow_right (by decide) ?_)
  rw [List.length_drop, List.length_take]
  omega
theorem dv_split (T : List UInt8) (m n : Nat) (h : m ≤ n) (hn : n ≤ T.length) : dvL (T.take n) = dvL (T.take m) * 10 ^ (n - m) + dvM T m n := by
  have e : T.take n = T.take m ++ (T.take n).drop m := by
    have := List.take_append_drop m (T.take n)
    rw [List.take_take, Nat.min_eq_left h] at this
    exact this.symm
  unfold dvM
  conv => lhs; rw [e]
  rw [dv_app, List.length_drop, List.length_take, Nat.min_eq_left hn]
structure DigI (w wr : World) (ov : Value) (T : List UInt8) (l : List Nat) (n : Int) : Prop where
  row : Rw wr ov l
  fresh : Fresh w wr ov
  keep : Keep [] w wr
  lim : Lim l
  val : dvL T = bigV l + 1000000000 ^ l.length * dvL (T.take n.toNat)
  len : n = (T.length : Int) - 9 * (l.length : Int)
  low : -9 < n
theorem DigI.next {w wr w1 : World} {ov v' : Value} {T : List UInt8} {l : List Nat} {n : Int} {m k : Nat} (h : DigI w wr ov T l n) (hT : Dig T) (hn : 0 < n) (hk : (k : Int) = n) (hm : (m : Int) = max (n - 9) 0) (g1 : Rw w1 v' (l ++ [dvM T m k])) (hk2 : Keep [] w w1) (hf : Fresh w w1 v') : DigI w w1 v' T (l ++ [dvM T m k]) (n - 9) := by
  have hlen := h.len
  have hx : dvM T m k < 1000000000 := dvM_lt T hT m k 9 (by omega)
  refine ⟨g1, hf, hk2, h.lim.snoc hx, ?_, by simp; omega, by omega⟩
  rw [h.val, bigV_snoc, List.length_append, List.length_singleton, Nat.pow_succ, show n.toNat = k by omega, show (n - 9).toNat = m by omega, dv_split T m k (by omega) (by omega), Nat.mul_add]
  have h3 : 1000000000 ^ l.length * (dvL (T.take m) * 10 ^ (k - m)) = 1000000000 ^ l.length * 1000000000 * dvL (T.take m) := by
    by_cases h9 : 9 ≤ n
    · rw [show k - m = 9 by omega, show (10 : Nat) ^ 9 = 1000000000 from rfl, Nat.mul_comm (dvL _), Nat.mul_assoc]
    · rw [show m = 0 by omega, List.take_zero, show dvL [] = 0 from rfl]
      simp
  rw [h3]
  omega
set_option maxRecDepth 1000000 in
set_option maxHeartbeats 3200000 in
theorem digits_any (T : List UInt8) (hT : Dig T) (hl : T.length ≤ 1000) (w : World) : Calls Tryz.prog 58 #[.string (bl T)] w fun e w' => ∃ v, e = .returned v ∧ (Big w' v (dvL T) T.length ∧ Fresh w w' v) ∧ Keep [] w w' := by
  obtain ⟨s, hs⟩ : ∃ s, s = bl T := ⟨_, rfl⟩
  rw [← hs]
  have hsz : s.size = T.length := by rw [hs, bl_size]
  have HG : Hid (∀ i (h : i < s.size), ((s[i]'h).toNat : Int) = bt s i) := get_bt s
  have HT : Hid (∀ j (h : j < T.length), bt s j = ((T[j]).toNat : Int)) := fun j h => by rw [hs, bl_bt T j h]
  have HD : Hid (Dig T) := hT
  have HS : Hid (s.size = T.length) := hsz
  have hsl : (s.size : Int) ≤ 1000 := by omega
  have HI0 : Hid (DigI w w (.slice none 0 0) T [] (s.size : Int)) := show DigI _ _ _ _ _ _ from
    ⟨Rw.nil w, Fresh.nil w w, Keep.refl _ w, Lim.nil, by rw [hsz]; simp [bigV], by rw [hsz]; simp, by omega⟩
  clear hs hsz hT hl
  go_enter Tryz.func58, Tryz.ntmps58
  go_wp2
  go_loopw [3, 4] (fun ov nv wr => ∃ (n : Int) (l : List Nat), nv = .int .i64 n ∧ n ≤ (s.size : Int) ∧ Hid (DigI w wr ov T l n)) (fun _ nv _ => (intOf nv).toNat)
  case atStart => exact ⟨(s.size : Int), [], rfl, Int.le_refl _, HI0⟩
  case round =>
    clear HI0
    obtain ⟨n, l, rfl, hns, HI⟩ := hrel
    have hlow : -9 < n := HI.out.low
    by_cases h0 : 0 < n
    · obtain ⟨k, hk⟩ : ∃ k : Nat, (k : Int) = n := ⟨n.toNat, by omega⟩
      obtain ⟨m, hm⟩ : ∃ m : Nat, (m : Int) = max (n - 9) 0 := ⟨(max (n - 9) 0).toNat, by omega⟩
      have HN : Hid (∀ {w1 v'}, Rw w1 v' (l ++ [dvM T m k]) → Keep [] w w1 → Fresh w w1 v' → DigI w w1 v' T (l ++ [dvM T m k]) (n - 9)) := fun a b c => HI.out.next HD.out h0 hk hm a b c
      have HX : Hid (∀ j, m ≤ j → j < k → dvM T m (j + 1) = dvM T m j * 10 + (bt s j - 48).toNat ∧ dvM T m j < 1000000000 ∧ (48 ≤ bt s j ∧ bt s j ≤ 57)) := show ∀ j, _ from fun j h1 h2 => by
        have hS := HS.out
        have hj : j < T.length := by omega
        have e := HT.out j hj
        refine ⟨?_, dvM_lt T HD.out m j 9 (by omega), ?_⟩
        · rw [dvM_next T m j h1 hj, e]
          omega
        · rw [e]
          have := HD.out _ (List.getElem_mem hj)
          omega
      have HX0 : Hid (dvM T m m = 0) := dvM_self T m
      have HXk : Hid (dvM T m k < 1000000000) := dvM_lt T HD.out m k 9 (by omega)
      have HLn : Hid (l.length ≤ 1000) := show l.length ≤ 1000 by have := HI.out.len; have := HS.out; omega
      generalize dvM T m = G at *
      go_wp2
      go_loop [5, 6] (fun xv iv => ∃ j : Nat, m ≤ j ∧ j ≤ k ∧ xv = .int .i64 (G j : Nat) ∧ iv = .int .i64 (j : Int)) (fun _ iv => k - (intOf iv).toNat)
      case atStart => exact ⟨m, Nat.le_refl _, by omega, by rw [HX0.out]; rfl, by go_num⟩
      case round =>
        obtain ⟨j, hj1, hj2, rfl, rfl⟩ := hrel
        by_cases hjk : j < k
        · have hjn : (j : Int) < n := by omega
          have hjs : j < s.size := by omega
          have hji : (j : Int) < (s.size : Int) := by omega
          have gj : ((s[j]'hjs).toNat : Int) = bt s j := HG.out j hjs
          obtain ⟨x1, x2, x3, x4⟩ := HX.out j hj1 hjk
          have H1 : Hid (G (j + 1) = G j * 10 + (bt s j - 48).toNat) := x1
          clear x1
          generalize bt s j = c at *
          generalize G j = x at *
          go_wp2
          go_round
          case rel => exact ⟨j + 1, by omega, by omega, by rw [H1.out]; go_num, by go_num⟩
          case measure => simp [intOf]; omega
        · obtain rfl : k = j := by omega
          have hjn : ¬ (k : Int) < n := by omega
          have hxk := HXk.out
          have hr := HI.out.row.keep (Keep.alloc1 wr (.cells #[.int .i64 ((G k : Nat) : Int)] TI)) (Off.nil _)
          have hs2 := (Is.one wr (G k)).src
          have HB : Hid (l.length + [G k].length ≤ 1000000000) := show l.length + [G k].length ≤ 1000000000 by have := HLn.out; simp; omega
          go_wp2_with (at_builtin; refine wp_appI rfl (.tmp 29) (.tmp 31) 55 55 rfl underN _ l rfl hr _ [G k] rfl hs2 HB.out ?_)
          intro v' w1 g1 g2 g3 g4
          have HA := app_fresh HI.out.keep HI.out.fresh g2 g3
          have HJ : Hid (DigI w w1 v' T (l ++ [G k]) (n - 9)) := HN.out g1 HA.1 HA.2
          clear g1 g2 g3 g4 HA hr hs2
          go_wp2
          go_roundw
          case rel => exact ⟨n - 9, _, by go_num, by omega, HJ⟩
          case measure => (simp [intOf]; try omega)
    · have hP := plain_any u3 l wr HI.out.row.bs
      have hT0 : Hid (bigV l = dvL T ∧ l.length ≤ T.length) := show bigV l = dvL T ∧ l.length ≤ T.length by
        have h1 := HI.out.val
        rw [show n.toNat = 0 by omega, List.take_zero, show dvL [] = 0 from rfl] at h1
        have h2 := HI.out.len
        exact ⟨by omega, by omega⟩
      go_wp2_with (go_at_call 83; refine hP.mono ?_; rintro e9 w9 ⟨v9, rfl, hc9, hw9⟩; obtain rfl := hw9.symm)
      go_ret
      exact ⟨_, rfl, cut_big hc9 HI.out.lim hT0.out.1 hT0.out.2 HI.out.fresh, HI.out.keep⟩
end Go.Proofs.YtnljpbpphdhnpaaGreatDoor
