/- The program's cut of any text, and its Parse's five ways. -/
import Derived.Test.YtnljpbpphdhnpaaGreatDoorParB
import Derived.Test.YtnljpbpphdhnpaaGreatDoorDecR

namespace Go.Proofs.YtnljpbpphdhnpaaGreatDoor
open Go.RowKit Go.PlainAid

def WL (l : List UInt8) : List UInt8 := hdL (hdL l 101) 46
def PL (l : List UInt8) : List UInt8 := tlL (hdL l 101) 46
def XL (l : List UInt8) : List UInt8 := offL (tlL l 101)
def FL (l : List UInt8) : List UInt8 := Lib.trimLeftB (WL l ++ PL l) 48
def TL (l : List UInt8) : List UInt8 := Lib.trimRightB (FL l) 48
def kfL (l : List UInt8) : Int := if minL (tlL l 101) = true then -farL (XL l) else farL (XL l)
def kL (l : List UInt8) : Int := kfL l + (((WL l).length : Int) - 1 - (((WL l ++ PL l).length : Int) - (FL l).length))
def okL (l : List UInt8) : Bool := decide (46 ∈ hdL l 101) && digB (WL l) && digB (PL l) && (!decide (101 ∈ l) || digB (XL l))
theorem off_len (l : List UInt8) : (offL l).length ≤ l.length := by unfold offL; split <;> simp
theorem trimL_len (l : List UInt8) (c : UInt8) : (Lib.trimLeftB l c).length ≤ l.length := by
  unfold Lib.trimLeftB; exact (List.dropWhile_sublist _).length_le
theorem lens (l : List UInt8) : (WL l).length ≤ l.length ∧ (PL l).length ≤ l.length ∧ (XL l).length ≤ l.length ∧ (hdL l 101).length ≤ l.length ∧ (tlL l 101).length ≤ l.length := by
  have h1 := hd_len l 101
  have h2 := hd_len (hdL l 101) 46
  have h3 := off_len (tlL l 101)
  exact ⟨Nat.le_trans h2.1 h1.1, Nat.le_trans h2.2 h1.1, Nat.le_trans h3 h1.2, h1.1, h1.2⟩
theorem XL_dig (l : List UInt8) (h : okL l = true) : Dig (XL l) := by
  unfold okL at h
  simp only [Bool.and_eq_true, Bool.or_eq_true, Bool.not_eq_true', decide_eq_false_iff_not] at h
  rcases h.2 with h2 | h2
  · unfold XL
    rw [(hd_none l 101 h2).2]
    intro x hx
    cases hx
  · exact ((digB_yes _).1 h2).1
theorem cutA_ok (l : List UInt8) (hl : l.length ≤ 1000000000) (h : okL l = true) (w : World) : Calls Tryz.prog 28 #[.string (bl l)] w fun e w' => e = .returned (.tuple #[.agg #[.string (bl (TL l)), .int .i64 (kL l)], .bool true]) ∧ Below w.heap.size w w' := by
  obtain ⟨l1, l2, l3, l4, l5⟩ := lens l
  have hX := XL_dig l h
  have hok := h
  unfold okL at hok
  simp only [Bool.and_eq_true, Bool.or_eq_true, Bool.not_eq_true', decide_eq_false_iff_not, decide_eq_true_eq] at hok
  obtain ⟨⟨⟨o1, o2⟩, o3⟩, o4⟩ := hok
  have h2 := fun w => cutL (hdL l 101) 46 (by omega) w
  rw [decide_eq_true o1] at h2
  have h4 := fun w => digitsL (WL l) (by omega) w
  rw [o2] at h4
  have h5 := fun w => digitsL (PL l) (by omega) w
  rw [o3] at h5
  have hF := trimL_len (WL l ++ PL l) 48
  have hFl : (FL l).length ≤ (WL l ++ PL l).length := hF
  rw [List.length_append] at hFl
  have h8 : ∀ w, Calls Tryz.prog 53 #[.string (bl (WL l ++ PL l)), .string ⟨#[48]⟩] w fun e w' => e = .returned (.string (bl (FL l))) ∧ w' = w := fun w => by
    have := Tryz.strings_TrimLeft_one (bl (WL l ++ PL l)) 48 (by decide) w
    rw [bl_data] at this
    exact this
  have h9 : ∀ w, Calls Tryz.prog 54 #[.string (bl (FL l)), .string ⟨#[48]⟩] w fun e w' => e = .returned (.string (bl (TL l))) ∧ w' = w := fun w => by
    have := Tryz.strings_TrimRight_one (bl (FL l)) 48 (by decide) w (by rw [bl_size]; omega)
    rw [bl_data] at this
    exact this
  refine cut_okR (bl l) (bl (hdL l 101)) (bl (tlL l 101)) (bl (WL l)) (bl (PL l)) (bl (XL l)) (bl (WL l ++ PL l)) (bl (FL l)) (bl (TL l)) (decide (101 ∈ l)) (minL (tlL l 101)) (farL (XL l)) (kL l) w (fun w => cutL l 101 hl w) h2 (fun w => prefL (tlL l 101) w) h4 h5 ?_ (fun w => far_any (XL l) hX (by omega) w) (bl_app _ _) h8 h9 ?_ (by rw [bl_size]; omega) (by rw [bl_size]; omega) (by rw [bl_size, List.length_append]; omega) (by rw [bl_size, bl_size]; exact hF) ?_
  · intro hp w
    have hd : digB (XL l) = true := by
      rcases o4 with o4 | o4
      · exact absurd (of_decide_eq_true hp) o4
      · exact o4
    have := digitsL (XL l) (by omega) w
    rw [hd] at this
    exact this
  · exact (far_dv (XL l) hX).1
  · rw [bl_size, bl_size, bl_size]; rfl
theorem cutA_no (l : List UInt8) (hl : l.length ≤ 1000000000) (h : okL l = false) (w : World) : Calls Tryz.prog 28 #[.string (bl l)] w fun e w' => e = .returned (.tuple #[.agg #[.string ⟨#[]⟩, .int .i64 0], .bool false]) ∧ Below w.heap.size w w' := by
  obtain ⟨l1, l2, l3, l4, l5⟩ := lens l
  have h1 := fun w => cutL l 101 hl w
  have h2 := fun w => cutL (hdL l 101) 46 (by omega) w
  have h3 := fun w => prefL (tlL l 101) w
  have h4 := fun w => digitsL (WL l) (by omega) w
  have h5 := fun w => digitsL (PL l) (by omega) w
  have h6 := fun w => digitsL (XL l) (by omega) w
  unfold okL at h
  cases hp : decide (46 ∈ hdL l 101) with
  | false => exact cut_no1 _ _ _ _ _ _ _ _ _ w h1 h2 h3 hp
  | true =>
    rw [hp] at h
    cases hw : digB (WL l) with
    | false => rw [hw] at h4; exact cut_no2 _ _ _ _ _ _ _ _ _ w h1 h2 h3 hp h4
    | true =>
      rw [hw] at h h4
      cases hpp : digB (PL l) with
      | false => rw [hpp] at h5; exact cut_no3 _ _ _ _ _ _ _ _ _ w h1 h2 h3 hp h4 h5
      | true =>
        rw [hpp] at h h5
        have hx : decide (101 ∈ l) = true ∧ digB (XL l) = false := by
          cases hd : decide (101 ∈ l) <;> cases hx : digB (XL l) <;> rw [hd, hx] at h <;> simp at h ⊢
        rw [hx.2] at h6
        exact cut_no4 _ _ _ _ _ _ _ _ _ w h1 h2 h3 hp hx.1 h4 h5 h6
set_option maxRecDepth 1000000 in
theorem parse_nan (s b : ByteArray) (below : Bool) (w : World) (h1 : ∀ w, Calls Tryz.prog 25 #[.string s, .string ⟨#[45]⟩] w fun e w' => e = .returned (.tuple #[.string b, .bool below]) ∧ w' = w) (t1 : (s.toList == [110, 97, 110]) = true) :
    Calls Tryz.prog 9 #[.string s] w fun e w' => e = .returned (.tuple #[.float .f32 2143289344, .int .i64 0]) ∧ Below w.heap.size w w' := by
  have h5 := nan_any
  go_enter Tryz.func9, Tryz.ntmps9
  go_wp2_with fail
  refine (h1 _).mono ?_
  rintro e9 w9 ⟨rfl, hw9⟩
  obtain rfl := hw9.symm
  clear hw9
  go_wp2_with fail
  refine (h5 _).mono ?_
  rintro e9 w9 ⟨rfl, hw9⟩
  obtain rfl := hw9.symm
  clear hw9
  go_wp2
  go_ret2
  exact ⟨rfl, Below.refl _ _⟩
set_option maxRecDepth 1000000 in
theorem parse_inf (s b : ByteArray) (below : Bool) (w : World) (h1 : ∀ w, Calls Tryz.prog 25 #[.string s, .string ⟨#[45]⟩] w fun e w' => e = .returned (.tuple #[.string b, .bool below]) ∧ w' = w) (t1 : (s.toList == [110, 97, 110]) = false) (t2 : (b.toList == [105, 110, 102]) = true) :
    Calls Tryz.prog 9 #[.string s] w fun e w' => e = .returned (.tuple #[.float .f32 (if below then 4286578688 else 2139095040), .int .i64 0]) ∧ Below w.heap.size w w' := by
  have h5 := infinite_any below
  generalize (if below then 4286578688 else 2139095040 : Nat) = R at *
  go_enter Tryz.func9, Tryz.ntmps9
  go_wp2_with fail
  refine (h1 _).mono ?_
  rintro e9 w9 ⟨rfl, hw9⟩
  obtain rfl := hw9.symm
  clear hw9
  go_wp2_with fail
  refine (h5 _).mono ?_
  rintro e9 w9 ⟨rfl, hw9⟩
  obtain rfl := hw9.symm
  clear hw9
  go_wp2
  go_ret2
  exact ⟨rfl, Below.refl _ _⟩
set_option maxRecDepth 1000000 in
theorem parse_none (s b : ByteArray) (below : Bool) (w : World) (h1 : ∀ w, Calls Tryz.prog 25 #[.string s, .string ⟨#[45]⟩] w fun e w' => e = .returned (.tuple #[.string b, .bool below]) ∧ w' = w)
    (t1 : (s.toList == [110, 97, 110]) = false) (t2 : (b.toList == [105, 110, 102]) = false)
    (h2 : ∀ w, Calls Tryz.prog 28 #[.string b] w fun e w' => e = .returned (.tuple #[.agg #[.string ⟨#[]⟩, .int .i64 0], .bool false]) ∧ Below w.heap.size w w') :
    Calls Tryz.prog 9 #[.string s] w fun e w' => e = .returned (.tuple #[.float .f32 0, .int .i64 30]) ∧ Below w.heap.size w w' := by
  go_enter Tryz.func9, Tryz.ntmps9
  go_wp2_with fail
  refine (h1 _).mono ?_
  rintro e9 w9 ⟨rfl, hw9⟩
  obtain rfl := hw9.symm
  clear hw9
  go_wp2_with fail
  refine (h2 _).mono ?_
  rintro e9 w9 ⟨rfl, hb⟩
  have HB : Hid (Below w.heap.size w w9) := hb
  clear hb
  go_wp2
  go_ret2
  exact ⟨rfl, HB.out.alloc HB.out.size _⟩
set_option maxRecDepth 1000000 in
set_option maxHeartbeats 1000000 in
theorem parse_over (s b T : ByteArray) (k : Int) (below : Bool) (x : Nat) (w : World)
    (h1 : ∀ w, Calls Tryz.prog 25 #[.string s, .string ⟨#[45]⟩] w fun e w' => e = .returned (.tuple #[.string b, .bool below]) ∧ w' = w)
    (t1 : (s.toList == [110, 97, 110]) = false) (t2 : (b.toList == [105, 110, 102]) = false)
    (h2 : ∀ w, Calls Tryz.prog 28 #[.string b] w fun e w' => e = .returned (.tuple #[.agg #[.string T, .int .i64 k], .bool true]) ∧ Below w.heap.size w w')
    (h3 : ∀ w', Below w.heap.size w w' → Calls Tryz.prog 29 #[.agg #[.string T, .int .i64 k]] w' fun e w'' => e = .returned (.tuple #[.float .f32 x, .bool false]) ∧ Below w'.heap.size w' w'') :
    Calls Tryz.prog 9 #[.string s] w fun e w' => e = .returned (.tuple #[.float .f32 0, .int .i64 30]) ∧ Below w.heap.size w w' := by
  go_enter Tryz.func9, Tryz.ntmps9
  go_wp2_with fail
  refine (h1 _).mono ?_
  rintro e9 w9 ⟨rfl, hw9⟩
  obtain rfl := hw9.symm
  clear hw9
  go_wp2_with fail
  refine (h2 _).mono ?_
  rintro e9 w9 ⟨rfl, hb⟩
  have HB : Hid (Below w.heap.size w w9) := hb
  clear hb
  go_wp2_with fail
  refine (h3 _ (HB.out.alloc HB.out.size _)).mono ?_
  rintro e9 w8 ⟨rfl, hb8⟩
  have HB8 : Hid _ := (HB.out.alloc HB.out.size _).trans (hb8.mono (HB.out.alloc HB.out.size _).size)
  clear hb8
  go_wp2
  go_ret2
  exact ⟨rfl, HB8.out⟩
set_option maxRecDepth 1000000 in
set_option maxHeartbeats 1000000 in
theorem parse_some (s b T : ByteArray) (k : Int) (below : Bool) (x R : Nat) (w : World) (hx : x < 2147483648) (hR : (if below then x + 2147483648 else x) = R)
    (h1 : ∀ w, Calls Tryz.prog 25 #[.string s, .string ⟨#[45]⟩] w fun e w' => e = .returned (.tuple #[.string b, .bool below]) ∧ w' = w)
    (t1 : (s.toList == [110, 97, 110]) = false) (t2 : (b.toList == [105, 110, 102]) = false)
    (h2 : ∀ w, Calls Tryz.prog 28 #[.string b] w fun e w' => e = .returned (.tuple #[.agg #[.string T, .int .i64 k], .bool true]) ∧ Below w.heap.size w w')
    (h3 : ∀ w', Below w.heap.size w w' → Calls Tryz.prog 29 #[.agg #[.string T, .int .i64 k]] w' fun e w'' => e = .returned (.tuple #[.float .f32 x, .bool true]) ∧ Below w'.heap.size w' w'') :
    Calls Tryz.prog 9 #[.string s] w fun e w' => e = .returned (.tuple #[.float .f32 R, .int .i64 0]) ∧ Below w.heap.size w w' := by
  have h5 := signed_any x hx below
  rw [hR] at h5
  clear hR
  go_enter Tryz.func9, Tryz.ntmps9
  go_wp2_with fail
  refine (h1 _).mono ?_
  rintro e9 w9 ⟨rfl, hw9⟩
  obtain rfl := hw9.symm
  clear hw9
  go_wp2_with fail
  refine (h2 _).mono ?_
  rintro e9 w9 ⟨rfl, hb⟩
  have HB : Hid (Below w.heap.size w w9) := hb
  clear hb
  go_wp2_with fail
  refine (h3 _ (HB.out.alloc HB.out.size _)).mono ?_
  rintro e9 w8 ⟨rfl, hb8⟩
  have HB8 : Hid _ := (HB.out.alloc HB.out.size _).trans (hb8.mono (HB.out.alloc HB.out.size _).size)
  clear hb8
  go_wp2_with fail
  refine (h5 _).mono ?_
  rintro e9 w7 ⟨rfl, hw7⟩
  obtain rfl := hw7.symm
  clear hw7
  go_wp2
  go_ret2
  exact ⟨rfl, HB8.out⟩
end Go.Proofs.YtnljpbpphdhnpaaGreatDoor

/- The program's Parse of any text, told plainly. -/
namespace Go.Proofs.YtnljpbpphdhnpaaGreatDoor
open Go.RowKit Go.PlainAid

/-- the real nearest to A over B -/
noncomputable def nrst (A B : Nat) : Nat := nearB A B (Classical.choose (low_ex A B))
theorem nrst_low (A B : Nat) : LowB A B (Classical.choose (low_ex A B)) := Classical.choose_spec (low_ex A B)
theorem nrst_of (A B m : Nat) (hB : 0 < B) (hl : LowB A B m) : nearB A B m = nrst A B :=
  Nat.le_antisymm (near_mono A B A B m _ hB hB (Nat.le_refl _) hl (nrst_low A B)) (near_mono A B A B _ m hB hB (Nat.le_refl _) (nrst_low A B) hl)
theorem nrst_le (A B : Nat) : nrst A B ≤ 2139095040 := nearB_le A B _ (nrst_low A B).1
/-- the real that digits say, the first at ten to e, if one does -/
noncomputable def rowV (T : List UInt8) (k : Int) : Option Nat :=
  if T = [] ∨ k < -46 then some 0 else if 38 < k then none else
    if nrst (dvL T * 10 ^ (k - ((T.length - 1 : Nat) : Int)).toNat) (10 ^ (((T.length - 1 : Nat) : Int) - k).toNat) < 2139095040 then some (nrst (dvL T * 10 ^ (k - ((T.length - 1 : Nat) : Int)).toNat) (10 ^ (((T.length - 1 : Nat) : Int) - k).toNat)) else none
noncomputable def valP (l : List UInt8) : Option Nat := if okL l = true then rowV (TL l) (kL l) else none
/-- the tables that all this reads -/
structure TabAll (w : World) : Prop where
  b : TabB w
  d : ∀ b, w.heap.size ≤ b → TabD w b
  v : ErV w
  i : Lib.TabIs Tryz.prog w powN .u64 Lib.pow10Tab
  f : 4 < w.heap.size
theorem TabAll.below {w w' : World} (h : TabAll w) (hb : Below w.heap.size w w') : TabAll w' := by
  refine ⟨h.b.below hb, fun b hb2 => (h.d b (Nat.le_trans hb.size hb2)).below hb, h.v.below hb, ?_, Nat.lt_of_lt_of_le h.f hb.size⟩
  have hp := h.i
  unfold Lib.TabIs World.var? at hp ⊢
  rw [pow_named] at hp ⊢
  simp only [Option.bind_some] at hp ⊢
  rw [(Keep.ofBelow hb).block 4 h.f (by simp)]
  exact hp
theorem drop_head (p : UInt8 → Bool) : ∀ (l : List UInt8) (x : UInt8) (t : List UInt8), l.dropWhile p = x :: t → p x = false := by
  intro l
  induction l with
  | nil => intro x t h; cases h
  | cons y l ih =>
    intro x t h
    by_cases hy : p y = true
    · rw [List.dropWhile_cons_of_pos hy] at h; exact ih x t h
    · rw [List.dropWhile_cons_of_neg hy] at h
      have := (List.cons.inj h).1
      rw [← this]
      simpa using hy
theorem TL_parts (l : List UInt8) (h : okL l = true) (hT : TL l ≠ []) : ∃ c0 cs, TL l = c0 :: cs ∧ (49 ≤ c0.toNat ∧ c0.toNat ≤ 57) ∧ Dig cs ∧ noEnd c0 cs := by
  have hok := h
  unfold okL at hok
  simp only [Bool.and_eq_true, Bool.or_eq_true, Bool.not_eq_true', decide_eq_false_iff_not, decide_eq_true_eq] at hok
  obtain ⟨⟨⟨o1, o2⟩, o3⟩, o4⟩ := hok
  have hdA : Dig (WL l ++ PL l) := by
    intro x hx
    rcases List.mem_append.1 hx with hx | hx
    · exact ((digB_yes _).1 o2).1 x hx
    · exact ((digB_yes _).1 o3).1 x hx
  have hdF : Dig (FL l) := fun x hx => hdA x ((List.dropWhile_sublist _).subset hx)
  obtain ⟨j, hj, hjl⟩ := cut_noughts (FL l)
  rw [show Lib.trimRightB (FL l) 48 = TL l from rfl] at hj
  cases hE : TL l with
  | nil => exact absurd hE hT
  | cons c0 cs =>
    rw [hE] at hj
    have hF : FL l = c0 :: (cs ++ List.replicate j 48) := by rw [← hj]; rfl
    have h48 : (c0 == 48) = false := drop_head _ (WL l ++ PL l) c0 _ hF
    have hc0 := hdF c0 (by rw [hF]; exact List.mem_cons_self ..)
    have hne : c0.toNat ≠ 48 := fun e => by
      have : c0 = 48 := UInt8.toNat_inj.1 e
      rw [this] at h48; simp at h48
    have hcs : Dig cs := fun x hx => hdF x (by rw [hF]; exact List.mem_cons_of_mem _ (List.mem_append_left _ hx))
    refine ⟨c0, cs, rfl, ⟨by omega, hc0.2⟩, hcs, fun _ => ?_⟩
    -- the last one
    have hrev : (FL l).reverse.dropWhile (· == 48) = (c0 :: cs).reverse := by
      have : ((FL l).reverse.dropWhile (· == 48)).reverse = c0 :: cs := hE
      rw [← this, List.reverse_reverse]
    obtain ⟨x, t, hxt⟩ : ∃ x t, (c0 :: cs).reverse = x :: t := by
      cases hr : (c0 :: cs).reverse with
      | nil => simp at hr
      | cons x t => exact ⟨x, t, rfl⟩
    have hx48 : (x == 48) = false := drop_head _ _ x t (hrev.trans hxt)
    have hlist : c0 :: cs = t.reverse ++ [x] := by
      have := congrArg List.reverse hxt
      rw [List.reverse_reverse, List.reverse_cons] at this
      exact this
    have hlen : t.reverse.length = cs.length := by
      have := congrArg List.length hlist
      simp at this ⊢
      omega
    have hget : (c0 :: cs).getD cs.length 0 = x := by
      rw [hlist, List.getD_eq_getElem?_getD, List.getElem?_append_right (by omega), hlen, Nat.sub_self]
      rfl
    have hxm : x ∈ c0 :: cs := by rw [hlist]; simp
    have hxd : 48 ≤ x.toNat := by
      rcases List.mem_cons.1 hxm with e | e
      · rw [e]; omega
      · exact (hcs x e).1
    have hxne : x.toNat ≠ 48 := fun e => by
      have : x = 48 := UInt8.toNat_inj.1 e
      rw [this] at hx48; simp at hx48
    unfold fL
    rw [hget]
    omega
theorem TL_len (l : List UInt8) : (TL l).length ≤ 2 * l.length := by
  obtain ⟨j, hj, hjl⟩ := cut_noughts (FL l)
  have h1 := trimL_len (WL l ++ PL l) 48
  have h2 := lens l
  rw [List.length_append] at h1
  have h3 : (TL l).length + j = (FL l).length := hjl
  have h4 : (FL l).length ≤ (WL l).length + (PL l).length := h1
  omega
/-- the program's nearest of what a text says -/
theorem nearest_row (l : List UInt8) (hl : l.length ≤ 1000000000) (h : okL l = true) (w : World) (hT : TabAll w) :
    Calls Tryz.prog 29 #[.agg #[.string (bl (TL l)), .int .i64 (kL l)]] w fun e w' => (∃ x, e = .returned (.tuple #[.float .f32 x, .bool (valP l).isSome]) ∧ (∀ R, valP l = some R → x = R ∧ R < 2139095040)) ∧ Below w.heap.size w w' := by
  have hv : valP l = rowV (TL l) (kL l) := by unfold valP; rw [if_pos h]
  rw [hv]
  by_cases hn : TL l = []
  · have e : rowV (TL l) (kL l) = some 0 := by unfold rowV; rw [if_pos (.inl hn)]
    rw [e, hn]
    refine (nearest_none (kL l) w).mono ?_
    rintro r w' ⟨rfl, hb⟩
    exact ⟨⟨0, rfl, fun R hR => by cases hR; exact ⟨rfl, by decide⟩⟩, hb⟩
  · obtain ⟨c0, cs, hE, h0, hc, hz⟩ := TL_parts l h hn
    have hlen := TL_len l
    rw [hE] at hlen ⊢
    rw [List.length_cons] at hlen
    have hne : (bl (c0 :: cs)).toList.isEmpty = false := nil_false _ (by simp)
    by_cases hlo : kL l < -46
    · have e : rowV (c0 :: cs) (kL l) = some 0 := by unfold rowV; rw [if_pos (.inr hlo)]
      rw [e]
      refine (nearest_low _ (kL l) w hne hlo).mono ?_
      rintro r w' ⟨rfl, hb⟩
      exact ⟨⟨0, rfl, fun R hR => by cases hR; exact ⟨rfl, by decide⟩⟩, hb⟩
    · by_cases hhi : 38 < kL l
      · have e : rowV (c0 :: cs) (kL l) = none := by
          unfold rowV
          rw [if_neg (by intro h; rcases h with h | h; cases h; exact hlo h), if_pos hhi]
        rw [e]
        refine (nearest_high _ (kL l) w hne hhi).mono ?_
        rintro r w' ⟨rfl, hb⟩
        exact ⟨⟨0, rfl, fun R hR => by cases hR⟩, hb⟩
      · have e : rowV (c0 :: cs) (kL l) = if nrst (dvL (c0 :: cs) * 10 ^ (kL l - cs.length).toNat) (10 ^ ((cs.length : Int) - kL l).toNat) < 2139095040 then some (nrst (dvL (c0 :: cs) * 10 ^ (kL l - cs.length).toNat) (10 ^ ((cs.length : Int) - kL l).toNat)) else none := by
          unfold rowV
          rw [if_neg (by intro h; rcases h with h | h; cases h; exact hlo h), if_neg hhi]
          rw [List.length_cons, Nat.add_sub_cancel]
        rw [e]
        obtain ⟨m, hm⟩ := low_ex (dvL (c0 :: cs) * 10 ^ (kL l - cs.length).toNat) (10 ^ ((cs.length : Int) - kL l).toNat)
        have hnr := nrst_of _ _ m (ten_pos _) hm
        have hres : Calls Tryz.prog 29 #[.agg #[.string (bl (c0 :: cs)), .int .i64 (kL l)]] w fun e w' => e = .returned (.tuple #[.float .f32 (nearE c0 cs (kL l) m), .bool (decide (nearE c0 cs (kL l) m < 2139095040))]) ∧ Below w.heap.size w w' := by
          rcases Int.lt_or_le (kL l) 0 with hk | hk
          · obtain ⟨k, hk2⟩ : ∃ k : Nat, kL l = -(k : Int) := ⟨(-kL l).toNat, by omega⟩
            rw [hk2] at hm ⊢
            exact nearest_downA c0 cs k m h0 hc (by omega) (by omega) hz hm w hT.b hT.d hT.v (format_down k (by omega) (by omega) w hT.i)
          · obtain ⟨k, hk2⟩ : ∃ k : Nat, kL l = (k : Int) := ⟨(kL l).toNat, by omega⟩
            rw [hk2] at hm ⊢
            exact nearest_upA c0 cs k m h0 hc (by omega) (by omega) hz hm w hT.b hT.d hT.v
        refine hres.mono ?_
        rintro r w' ⟨rfl, hb⟩
        refine ⟨⟨nearE c0 cs (kL l) m, ?_, fun R hR => ?_⟩, hb⟩
        · rw [show nearE c0 cs (kL l) m = nrst (dvL (c0 :: cs) * 10 ^ (kL l - cs.length).toNat) (10 ^ ((cs.length : Int) - kL l).toNat) from hnr]
          split
          · rename_i h9; rw [decide_eq_true h9]; rfl
          · rename_i h9; rw [decide_eq_false h9]; rfl
        · split at hR
          · rename_i h9
            injection hR with hR
            exact ⟨hnr.trans hR, by rw [← hR]; exact h9⟩
          · cases hR
set_option maxRecDepth 1000000 in
set_option maxHeartbeats 1000000 in
theorem parse_overE (s b T : ByteArray) (k : Int) (below : Bool) (w : World)
    (h1 : ∀ w, Calls Tryz.prog 25 #[.string s, .string ⟨#[45]⟩] w fun e w' => e = .returned (.tuple #[.string b, .bool below]) ∧ w' = w)
    (t1 : (s.toList == [110, 97, 110]) = false) (t2 : (b.toList == [105, 110, 102]) = false)
    (h2 : ∀ w, Calls Tryz.prog 28 #[.string b] w fun e w' => e = .returned (.tuple #[.agg #[.string T, .int .i64 k], .bool true]) ∧ Below w.heap.size w w')
    (h3 : ∀ w', Below w.heap.size w w' → Calls Tryz.prog 29 #[.agg #[.string T, .int .i64 k]] w' fun e w'' => (∃ x : Nat, e = .returned (.tuple #[.float .f32 x, .bool false])) ∧ Below w'.heap.size w' w'') :
    Calls Tryz.prog 9 #[.string s] w fun e w' => e = .returned (.tuple #[.float .f32 0, .int .i64 30]) ∧ Below w.heap.size w w' := by
  go_enter Tryz.func9, Tryz.ntmps9
  go_wp2_with fail
  refine (h1 _).mono ?_
  rintro e9 w9 ⟨rfl, hw9⟩
  obtain rfl := hw9.symm
  clear hw9
  go_wp2_with fail
  refine (h2 _).mono ?_
  rintro e9 w9 ⟨rfl, hb⟩
  have HB : Hid (Below w.heap.size w w9) := hb
  clear hb
  go_wp2_with fail
  refine (h3 _ (HB.out.alloc HB.out.size _)).mono ?_
  rintro e9 w8 ⟨⟨x, rfl⟩, hb8⟩
  have HB8 : Hid _ := (HB.out.alloc HB.out.size _).trans (hb8.mono (HB.out.alloc HB.out.size _).size)
  clear hb8
  go_wp2
  go_ret2
  exact ⟨rfl, HB8.out⟩
/-- the real that a text says -/
noncomputable def parseP (l : List UInt8) : Option Nat :=
  if l = [110, 97, 110] then some 2143289344 else if offL l = [105, 110, 102] then some (if minL l = true then 4286578688 else 2139095040) else
    match valP (offL l) with
    | some R => some (if minL l = true then R + 2147483648 else R)
    | none => none
theorem bl_eqs (l m : List UInt8) : ((bl l).toList == m) = decide (l = m) := by
  have e : (bl l).toList = l := by rw [ByteArray.toList_eq]; rfl
  rw [e]
  by_cases h : l = m
  · rw [decide_eq_true h, h]; simp
  · rw [decide_eq_false h]; simpa using h
theorem parse_any (l : List UInt8) (hl : l.length ≤ 1000000000) (w : World) (hT : TabAll w) :
    Calls Tryz.prog 9 #[.string (bl l)] w fun e w' => e = .returned (match parseP l with | some R => .tuple #[.float .f32 R, .int .i64 0] | none => .tuple #[.float .f32 0, .int .i64 30]) ∧ Below w.heap.size w w' := by
  have h1 := fun w => prefL l w
  have hlo := off_len l
  by_cases hn : l = [110, 97, 110]
  · have e : parseP l = some 2143289344 := by unfold parseP; rw [if_pos hn]
    rw [e]
    exact parse_nan _ _ _ w h1 (by rw [bl_eqs, decide_eq_true hn])
  · have t1 : ((bl l).toList == [110, 97, 110]) = false := by rw [bl_eqs, decide_eq_false hn]
    by_cases hi : offL l = [105, 110, 102]
    · have e : parseP l = some (if minL l = true then 4286578688 else 2139095040) := by unfold parseP; rw [if_neg hn, if_pos hi]
      rw [e]
      exact parse_inf _ _ _ w h1 t1 (by rw [bl_eqs, decide_eq_true hi])
    · have t2 : ((bl (offL l)).toList == [105, 110, 102]) = false := by rw [bl_eqs, decide_eq_false hi]
      have e : parseP l = match valP (offL l) with | some R => some (if minL l = true then R + 2147483648 else R) | none => none := by unfold parseP; rw [if_neg hn, if_neg hi]
      rw [e]
      by_cases hok : okL (offL l) = true
      · have h2 := fun w => cutA_ok (offL l) (by omega) hok w
        have h3 := fun w' (hb : Below w.heap.size w w') => nearest_row (offL l) (by omega) hok w' (hT.below hb)
        cases hv : valP (offL l) with
        | none =>
          rw [hv] at h3
          -- the answer is not told, but it is one
          exact parse_overE _ _ _ _ _ w h1 t1 t2 h2 fun w' hb => (h3 w' hb).mono fun r w'' ⟨⟨x, hx, _⟩, hb2⟩ => ⟨⟨x, hx⟩, hb2⟩
        | some R =>
          rw [hv] at h3
          have hR : R < 2139095040 := by
            unfold valP at hv
            rw [if_pos hok] at hv
            unfold rowV at hv
            split at hv
            · injection hv with hv; omega
            · split at hv
              · cases hv
              · split at hv
                · rename_i h9; injection hv with hv; omega
                · cases hv
          refine parse_some _ _ _ _ _ R _ w (by omega) rfl h1 t1 t2 h2 fun w' hb => (h3 w' hb).mono fun r w'' ⟨⟨x, hx, hx2⟩, hb2⟩ => ?_
          obtain ⟨hx3, _⟩ := hx2 R rfl
          rw [hx3] at hx
          exact ⟨hx, hb2⟩
      · have hok2 : okL (offL l) = false := by simpa using hok
        have hv : valP (offL l) = none := by unfold valP; rw [if_neg hok]
        rw [hv]
        exact parse_none _ _ _ w h1 t1 t2 fun w => cutA_no (offL l) (by omega) hok2 w
end Go.Proofs.YtnljpbpphdhnpaaGreatDoor
