/- The document's Do, and the walk of the statement on what is reckoned. -/
import Derived.Test.YthdibaeelbkghaaGreatDoorDoE
import Derived.Test.YthdibaeelbkghaaGreatDoorDoC
import Derived.Test.YthdibaeelbkghaaGreatDoorRefH
import Derived.Test.YthdibaeelbkghaaGreatDoorLaidT

namespace Go.Proofs.YthdibaeelbkghaaGreatDoor
open Go.RowKit Go.PlainAid

theorem lt_inf (a : Nat) (na : nanB a = false) (h : rungN a = 2139095040) : (FloatKind.f32.format.order a 0 == some Ordering.lt) = sgnB a := by
  rw [(ord_facts a 0 na (by decide)).1, show svalZ 0 = 0 from rfl, sval_sgn a, h]
  have : 0 < valN 2139095040 := valN_pos (by decide)
  cases sgnB a
  · rw [if_neg (by decide), decide_eq_false (by omega)]
  · rw [if_pos rfl, decide_eq_true (by omega)]
theorem inf_word (a : Nat) (ha : a < 4294967296) (h : rungN a = 2139095040) : wordN (sgnB a) 2139095040 = a := by
  rw [← h]; exact word_back a ha
theorem like_a (a b : Nat) (ha : a < 4294967296) (na : nanB a = false) (h : rungN a = 2139095040) (hb : rungN b < 2139095040 ∨ rungN b = 2139095040 ∧ sgnB a = sgnB b) : Like a (doN 7 a b) := by
  have h1 : Ieee.single.add a b = some a := by
    rcases hb with hb | ⟨hb, hs⟩
    · have := add_inf a b h hb
      rw [word_eq] at this
      rw [this]
      exact congrArg some (inf_word a ha h)
    · rw [add_infs a b h hb, if_pos hs, inf_word a ha h]
  exact ⟨ha, .inr (doN_some (op := .add) rfl h1 na).symm⟩
theorem like_b (a b : Nat) (hb : b < 4294967296) (nb : nanB b = false) (h : rungN b = 2139095040) (ha : rungN a < 2139095040) : Like b (doN 7 a b) := by
  have h1 : Ieee.single.add a b = some b := by
    rw [add_comm']
    have := add_inf b a h ha
    rw [word_eq] at this
    rw [this]
    exact congrArg some (inf_word b hb h)
  exact ⟨hb, .inr (doN_some (op := .add) rfl h1 nb).symm⟩
theorem like_apart (a b : Nat) (h : rungN a = 2139095040) (hb : rungN b = 2139095040) (hs : ¬ sgnB a = sgnB b) : nanB (doN 7 a b) = true := by
  have h1 : Ieee.single.add a b = none := by rw [add_infs a b h hb, if_neg hs]
  rw [doN_none (op := .add) rfl h1]; decide

set_option maxRecDepth 1000000 in
set_option maxHeartbeats 1600000 in
theorem plus_infs (a b : Nat) (ha : a < 4294967296) (hb : b < 4294967296) (na : nanB a = false) (nb : nanB b = false) (hi : rungN a = 2139095040) (hj : rungN b = 2139095040) (w : World) :
    Calls Tryz.prog 15 #[.float .f32 a, .float .f32 b] w fun e w' => ∃ r, e = .returned (.float .f32 r) ∧ Like r (doN 7 a b) ∧ Keep [] w w' := by
  have hFa := finite_any a ha
  have hFb := finite_any b hb
  rw [show finB a = false by unfold finB; simp; omega] at hFa
  rw [show finB b = false by unfold finB; simp; omega] at hFb
  have hla := lt_inf a na hi
  have hlb := lt_inf b nb hj
  by_cases hs : sgnB a = sgnB b
  · have HR : Hid _ := like_a a b ha na hi (.inr ⟨hj, hs⟩)
    rw [← hs] at hlb
    clear hs hi hj na nb
    generalize doN 7 a b = Z at *
    have hsb : (sgnB a != sgnB a) = false := by simp
    generalize sgnB a = sa at *
    go_enter Tryz.func15, Tryz.ntmps15
    go_wp2_with (first
      | (go_at_call_of 20 a; refine (hFa _).mono ?_; rintro e9 w9 ⟨rfl, n1, rfl⟩)
      | (go_at_call_of 20 b; refine (hFb _).mono ?_; rintro e9 w9 ⟨rfl, n2, rfl⟩))
    go_ret
    exact ⟨_, rfl, HR.out, (Keep.refl [] w).drewN _⟩
  · have HR : Hid _ := like_apart a b hi hj hs
    rw [show sgnB b = !sgnB a by revert hs; cases sgnB a <;> cases sgnB b <;> simp] at hlb
    clear hs hi hj na nb
    generalize doN 7 a b = Z at *
    have hsb : (sgnB a != !sgnB a) = true := by cases sgnB a <;> rfl
    generalize sgnB a = sa at *
    go_enter Tryz.func15, Tryz.ntmps15
    go_wp2_with (first
      | (go_at_call_of 20 a; refine (hFa _).mono ?_; rintro e9 w9 ⟨rfl, n1, rfl⟩)
      | (go_at_call_of 20 b; refine (hFb _).mono ?_; rintro e9 w9 ⟨rfl, n2, rfl⟩)
      | (go_at_call 12; refine (rNan_any _).mono ?_; rintro e9 w9 ⟨r, rfl, hr1, hr2, n3, rfl⟩))
    go_ret
    exact ⟨_, rfl, ⟨hr1, .inl ⟨key_nan' hr1 hr2, HR.out⟩⟩, (Keep.refl [] w).drewN _⟩

set_option maxRecDepth 1000000 in
set_option maxHeartbeats 1600000 in
theorem plus_infa (a b : Nat) (ha : a < 4294967296) (hb : b < 4294967296) (na : nanB a = false) (hi : rungN a = 2139095040) (hj : rungN b < 2139095040) (w : World) :
    Calls Tryz.prog 15 #[.float .f32 a, .float .f32 b] w fun e w' => ∃ r, e = .returned (.float .f32 r) ∧ Like r (doN 7 a b) ∧ Keep [] w w' := by
  have hFa := finite_any a ha
  have hFb := finite_any b hb
  rw [show finB a = false by unfold finB; simp; omega] at hFa
  rw [show finB b = true by unfold finB; simpa using hj] at hFb
  have HR : Hid _ := like_a a b ha na hi (.inl hj)
  clear hi hj na
  generalize doN 7 a b = Z at *
  go_enter Tryz.func15, Tryz.ntmps15
  go_wp2_with (first
    | (go_at_call_of 20 a; refine (hFa _).mono ?_; rintro e9 w9 ⟨rfl, n1, rfl⟩)
    | (go_at_call_of 20 b; refine (hFb _).mono ?_; rintro e9 w9 ⟨rfl, n2, rfl⟩))
  go_ret
  exact ⟨_, rfl, HR.out, (Keep.refl [] w).drewN _⟩

set_option maxRecDepth 1000000 in
set_option maxHeartbeats 1600000 in
theorem plus_infb (a b : Nat) (ha : a < 4294967296) (hb : b < 4294967296) (nb : nanB b = false) (hi : rungN a < 2139095040) (hj : rungN b = 2139095040) (w : World) :
    Calls Tryz.prog 15 #[.float .f32 a, .float .f32 b] w fun e w' => ∃ r, e = .returned (.float .f32 r) ∧ Like r (doN 7 a b) ∧ Keep [] w w' := by
  have hFa := finite_any a ha
  have hFb := finite_any b hb
  rw [show finB a = true by unfold finB; simpa using hi] at hFa
  rw [show finB b = false by unfold finB; simp; omega] at hFb
  have HR : Hid _ := like_b a b hb nb hj hi
  clear hi hj nb
  generalize doN 7 a b = Z at *
  go_enter Tryz.func15, Tryz.ntmps15
  go_wp2_with (first
    | (go_at_call_of 20 a; refine (hFa _).mono ?_; rintro e9 w9 ⟨rfl, n1, rfl⟩)
    | (go_at_call_of 20 b; refine (hFb _).mono ?_; rintro e9 w9 ⟨rfl, n2, rfl⟩))
  go_ret
  exact ⟨_, rfl, HR.out, (Keep.refl [] w).drewN _⟩

theorem plus_any (a b : Nat) (ha : a < 4294967296) (hb : b < 4294967296) (na : nanB a = false) (nb : nanB b = false) (w : World) :
    Calls Tryz.prog 15 #[.float .f32 a, .float .f32 b] w fun e w' => ∃ r, e = .returned (.float .f32 r) ∧ Like r (doN 7 a b) ∧ Keep [] w w' := by
  have hra : rungN a ≤ 2139095040 := by simpa [nanB, rungN] using na
  have hrb : rungN b ≤ 2139095040 := by simpa [nanB, rungN] using nb
  by_cases hi : rungN a = 2139095040
  · by_cases hj : rungN b = 2139095040
    · exact plus_infs a b ha hb na nb hi hj w
    · exact plus_infa a b ha hb na hi (by omega) w
  · by_cases hj : rungN b = 2139095040
    · exact plus_infb a b ha hb nb (by omega) hj w
    · have fa : rungN a < 2139095040 := by omega
      have fb : rungN b < 2139095040 := by omega
      by_cases hs : sgnB b = sgnB a
      · by_cases h0 : valN (rungN a) + valN (rungN b) = 0
        · exact plus_same0 a b ha hb na nb fa fb hs h0 w
        · exact plus_same a b ha hb na nb fa fb hs h0 w
      · have hs' : sgnB b = !sgnB a := by revert hs; cases sgnB a <;> cases sgnB b <;> simp
        rcases Nat.lt_trichotomy (valN (rungN a)) (valN (rungN b)) with h | h | h
        · exact plus_fewer a b ha hb na nb fa fb hs' h w
        · exact plus_none a b ha hb na nb fa fb hs' h w
        · exact plus_more a b ha hb na nb fa fb hs' h w

theorem nan_op (op : BinOp) (a b : Nat) (ho : op = .mul ∨ op = .quo ∨ op = .add ∨ op = .sub) (h : nanB a = true ∨ nanB b = true) : floatBits op .f32 a b = none := by
  have ra : nanB a = true → ∃ s f, Ieee.single.read a = .nan s f := fun h => by
    obtain ⟨f, e⟩ := read_nan a (by simpa [nanB, rungN] using h)
    exact ⟨_, f, e⟩
  have rb : nanB b = true → ∃ s f, Ieee.single.read b = .nan s f := fun h => by
    obtain ⟨f, e⟩ := read_nan b (by simpa [nanB, rungN] using h)
    exact ⟨_, f, e⟩
  rcases h with h | h
  · obtain ⟨s, f, e⟩ := ra h
    rcases ho with rfl | rfl | rfl | rfl
    · show Ieee.single.mul a b = none
      unfold Ieee.Format.mul; rw [e]; rfl
    · show Ieee.single.div a b = none
      unfold Ieee.Format.div; rw [e]; rfl
    · show Ieee.single.add a b = none
      unfold Ieee.Format.add; rw [e]; rfl
    · show Ieee.single.sub a b = none
      unfold Ieee.Format.sub; rw [e]; rfl
  · obtain ⟨s, f, e⟩ := rb h
    rcases ho with rfl | rfl | rfl | rfl
    · show Ieee.single.mul a b = none
      unfold Ieee.Format.mul; rw [e]; cases Ieee.single.read a <;> rfl
    · show Ieee.single.div a b = none
      unfold Ieee.Format.div; rw [e]; cases Ieee.single.read a <;> rfl
    · show Ieee.single.add a b = none
      unfold Ieee.Format.add; rw [e]; cases Ieee.single.read a <;> rfl
    · show Ieee.single.sub a b = none
      unfold Ieee.Format.sub; rw [e]; cases Ieee.single.read a <;> rfl
theorem opK_cases (k : Int) : (k = 5 ∧ opK k = some .mul) ∨ (k = 6 ∧ opK k = some .quo) ∨ (k = 7 ∧ opK k = some .add) ∨ (k = 8 ∧ opK k = some .sub) ∨ ((k ≠ 5 ∧ k ≠ 6 ∧ k ≠ 7 ∧ k ≠ 8) ∧ opK k = none) := by
  unfold opK
  by_cases h5 : k = 5
  · exact .inl ⟨h5, by rw [if_pos h5]⟩
  by_cases h6 : k = 6
  · exact .inr (.inl ⟨h6, by rw [if_neg h5, if_pos h6]⟩)
  by_cases h7 : k = 7
  · exact .inr (.inr (.inl ⟨h7, by rw [if_neg h5, if_neg h6, if_pos h7]⟩))
  by_cases h8 : k = 8
  · exact .inr (.inr (.inr (.inl ⟨h8, by rw [if_neg h5, if_neg h6, if_neg h7, if_pos h8]⟩)))
  · exact .inr (.inr (.inr (.inr ⟨⟨h5, h6, h7, h8⟩, by rw [if_neg h5, if_neg h6, if_neg h7, if_neg h8]⟩)))
theorem doN_nan (k : Int) (a b : Nat) (h : nanB a = true ∨ nanB b = true) : nanB (doN k a b) = true := by
  rcases opK_cases k with ⟨_, e⟩ | ⟨_, e⟩ | ⟨_, e⟩ | ⟨_, e⟩ | ⟨_, e⟩
  · rw [doN_none e (nan_op _ a b (by simp) h)]; decide
  · rw [doN_none e (nan_op _ a b (by simp) h)]; decide
  · rw [doN_none e (nan_op _ a b (by simp) h)]; decide
  · rw [doN_none e (nan_op _ a b (by simp) h)]; decide
  · unfold doN; rw [e]; exact nan_nan
theorem negFloat_negN (b : Nat) (h : b < 4294967296) : Op.negFloat .f32 b = negN b := by
  unfold negN
  by_cases hb : 2147483648 ≤ b
  · rw [if_pos hb, neg_high b hb h]
  · rw [if_neg hb, neg_low b (by omega)]
theorem do_less (a b : Nat) (h : b < 4294967296) : doN 8 a b = doN 7 a (negN b) := by
  have h1 : Ieee.single.sub a b = Ieee.single.add a (negN b) := by
    have := sub_neg a (negN b) (negN_facts b h).2.1
    rw [(negN_facts b h).1] at this
    exact this
  have h2 : floatBits .sub .f32 a b = floatBits .add .f32 a (negN b) := h1
  unfold doN
  rw [show opK 8 = some .sub from rfl, show opK 7 = some .add from rfl]
  simp only []
  rw [h2]

set_option maxRecDepth 1000000 in
set_option maxHeartbeats 1600000 in
theorem rDo_nan (k : Int) (a b : Nat) (h : nanB a = true ∨ nanB b = true) (w : World) :
    Calls Tryz.prog 6 #[.int .i64 k, .float .f32 a, .float .f32 b] w fun e w' => ∃ r, e = .returned (.float .f32 r) ∧ Like r (doN k a b) ∧ Keep [] w w' := by
  have hNa := rIsNan_any a
  have hNb := rIsNan_any b
  have HR : Hid _ := doN_nan k a b h
  cases na : nanB a
  · have nb : nanB b = true := by rcases h with h | h; rw [na] at h; cases h; exact h
    rw [na] at hNa
    rw [nb] at hNb
    clear na nb h
    generalize doN k a b = Z at *
    go_enter Tryz.func6, Tryz.ntmps6
    go_wp2_with (first
      | (go_at_call_of 8 a; refine (hNa _).mono ?_; rintro e9 w9 ⟨rfl, hw9⟩; obtain rfl := hw9.symm)
      | (go_at_call_of 8 b; refine (hNb _).mono ?_; rintro e9 w9 ⟨rfl, hw9⟩; obtain rfl := hw9.symm)
      | (go_at_call 12; refine (rNan_any _).mono ?_; rintro e9 w9 ⟨r, rfl, hr1, hr2, n3, rfl⟩))
    go_ret
    exact ⟨_, rfl, ⟨hr1, .inl ⟨key_nan' hr1 hr2, HR.out⟩⟩, (Keep.refl [] w).drewN _⟩
  · rw [na] at hNa
    clear na h
    generalize doN k a b = Z at *
    go_enter Tryz.func6, Tryz.ntmps6
    go_wp2_with (first
      | (go_at_call_of 8 a; refine (hNa _).mono ?_; rintro e9 w9 ⟨rfl, hw9⟩; obtain rfl := hw9.symm)
      | (go_at_call 12; refine (rNan_any _).mono ?_; rintro e9 w9 ⟨r, rfl, hr1, hr2, n3, rfl⟩))
    go_ret
    exact ⟨_, rfl, ⟨hr1, .inl ⟨key_nan' hr1 hr2, HR.out⟩⟩, (Keep.refl [] w).drewN _⟩

set_option maxRecDepth 1000000 in
set_option maxHeartbeats 1600000 in
theorem rDo_num (k : Int) (a b : Nat) (ha : a < 4294967296) (hb : b < 4294967296) (na : nanB a = false) (nb : nanB b = false) (w : World) :
    Calls Tryz.prog 6 #[.int .i64 k, .float .f32 a, .float .f32 b] w fun e w' => ∃ r, e = .returned (.float .f32 r) ∧ Like r (doN k a b) ∧ Keep [] w w' := by
  have hNa := rIsNan_any a
  have hNb := rIsNan_any b
  rw [na] at hNa
  rw [nb] at hNb
  rcases opK_cases k with ⟨rfl, e⟩ | ⟨rfl, e⟩ | ⟨rfl, e⟩ | ⟨rfl, e⟩ | ⟨⟨h5, h6, h7, h8⟩, e⟩
  · have hC := by_any a b ha hb na nb
    clear na nb e
    generalize doN 5 a b = Z at *
    go_enter Tryz.func6, Tryz.ntmps6
    go_wp2_with (first
      | (go_at_call_of 8 a; refine (hNa _).mono ?_; rintro e9 w9 ⟨rfl, hw9⟩; obtain rfl := hw9.symm)
      | (go_at_call_of 8 b; refine (hNb _).mono ?_; rintro e9 w9 ⟨rfl, hw9⟩; obtain rfl := hw9.symm)
      | (go_at_call 13; refine (hC _).mono ?_; rintro e9 w9 ⟨r, rfl, hr1, hk9⟩))
    go_ret
    exact ⟨_, rfl, hr1, hk9⟩
  · have hC := over_any a b ha hb na nb
    clear na nb e
    generalize doN 6 a b = Z at *
    go_enter Tryz.func6, Tryz.ntmps6
    go_wp2_with (first
      | (go_at_call_of 8 a; refine (hNa _).mono ?_; rintro e9 w9 ⟨rfl, hw9⟩; obtain rfl := hw9.symm)
      | (go_at_call_of 8 b; refine (hNb _).mono ?_; rintro e9 w9 ⟨rfl, hw9⟩; obtain rfl := hw9.symm)
      | (go_at_call 14; refine (hC _).mono ?_; rintro e9 w9 ⟨r, rfl, hr1, hk9⟩))
    go_ret
    exact ⟨_, rfl, hr1, hk9⟩
  · have hC := plus_any a b ha hb na nb
    clear na nb e
    generalize doN 7 a b = Z at *
    go_enter Tryz.func6, Tryz.ntmps6
    go_wp2_with (first
      | (go_at_call_of 8 a; refine (hNa _).mono ?_; rintro e9 w9 ⟨rfl, hw9⟩; obtain rfl := hw9.symm)
      | (go_at_call_of 8 b; refine (hNb _).mono ?_; rintro e9 w9 ⟨rfl, hw9⟩; obtain rfl := hw9.symm)
      | (go_at_call 15; refine (hC _).mono ?_; rintro e9 w9 ⟨r, rfl, hr1, hk9⟩))
    go_ret
    exact ⟨_, rfl, hr1, hk9⟩
  · obtain ⟨f1, f2, f3, f4, _⟩ := negN_facts b hb
    have hC := plus_any a (negN b) ha f2 na (by unfold nanB at nb ⊢; unfold rungN at f3; rw [f3]; exact nb)
    rw [← do_less a b hb] at hC
    have hu : ∀ w, (Op.unary .neg (.float .f32 b)).run Tryz.prog w = .ok (.float .f32 (negN b)) w := fun w => by rw [← negFloat_negN b hb]; rfl
    clear na nb e f1 f2 f3 f4
    generalize doN 8 a b = Z at *
    generalize negN b = c at *
    go_enter Tryz.func6, Tryz.ntmps6
    go_wp2_with (first
      | (go_at_call_of 8 a; refine (hNa _).mono ?_; rintro e9 w9 ⟨rfl, hw9⟩; obtain rfl := hw9.symm)
      | (go_at_call_of 8 b; refine (hNb _).mono ?_; rintro e9 w9 ⟨rfl, hw9⟩; obtain rfl := hw9.symm)
      | (go_at_call 15; refine (hC _).mono ?_; rintro e9 w9 ⟨r, rfl, hr1, hk9⟩))
    go_ret
    exact ⟨_, rfl, hr1, hk9⟩
  · have HR : Hid (nanB (doN k a b) = true) := show nanB (doN k a b) = true by unfold doN; rw [e]; exact nan_nan
    have t5 : (k == 5) = false := by simpa using h5
    have t6 : (k == 6) = false := by simpa using h6
    have t7 : (k == 7) = false := by simpa using h7
    have t8 : (k == 8) = false := by simpa using h8
    clear na nb e h5 h6 h7 h8
    generalize doN k a b = Z at *
    go_enter Tryz.func6, Tryz.ntmps6
    go_wp2_with (first
      | (go_at_call_of 8 a; refine (hNa _).mono ?_; rintro e9 w9 ⟨rfl, hw9⟩; obtain rfl := hw9.symm)
      | (go_at_call_of 8 b; refine (hNb _).mono ?_; rintro e9 w9 ⟨rfl, hw9⟩; obtain rfl := hw9.symm)
      | (go_at_call 12; refine (rNan_any _).mono ?_; rintro e9 w9 ⟨r, rfl, hr1, hr2, n3, rfl⟩))
    go_ret
    exact ⟨_, rfl, ⟨hr1, .inl ⟨key_nan' hr1 hr2, HR.out⟩⟩, (Keep.refl [] w).drewN _⟩

theorem rDo_any (k : Int) (a b : Nat) (ha : a < 4294967296) (hb : b < 4294967296) (w : World) :
    Calls Tryz.prog 6 #[.int .i64 k, .float .f32 a, .float .f32 b] w fun e w' => ∃ r, e = .returned (.float .f32 r) ∧ Like r (doN k a b) ∧ Keep [] w w' := by
  cases na : nanB a
  · cases nb : nanB b
    · exact rDo_num k a b ha hb na nb w
    · exact rDo_nan k a b (.inr nb) w
  · exact rDo_nan k a b (.inl na) w
end Go.Proofs.YthdibaeelbkghaaGreatDoor

/- The walk of the statement on what is reckoned with two reals. -/
namespace Go.Proofs.YthdibaeelbkghaaGreatDoor
open Go.RowKit Go.PlainAid

theorem doN_of_nan (k : Int) (a b : Nat) (h : nanB (doN k a b) = true) : doN k a b = 2143289344 := by
  unfold doN at h ⊢
  cases e : opK k with
  | none => rfl
  | some op =>
    rw [e] at h
    simp only [] at h ⊢
    cases f : floatBits op .f32 a b with
    | none => rfl
    | some r =>
      rw [f] at h
      simp only [] at h ⊢
      cases g : nanB r
      · rw [g, if_neg (by decide), g] at h; cases h
      · rw [if_pos rfl]
theorem Like.lt {k : Int} {a b r : Nat} (h : Like r (doN k a b)) : doN k a b < 4294967296 := by
  obtain ⟨h1, h2⟩ := h
  rcases h2 with ⟨_, h2⟩ | h2
  · rw [doN_of_nan k a b h2]; decide
  · rw [← h2]; exact h1
theorem same_do (k : Int) (a b r : Nat) (h : Like r (doN k a b)) (w : World) : Calls Tryz.prog 4 #[.float .f32 (doN k a b), .float .f32 r] w fun e w' => e = .returned (.bool true) ∧ w' = w := by
  have h1 := rSame_any (doN k a b) r h.lt h.1 w
  rw [h.same h.lt] at h1
  exact h1

set_option maxRecDepth 1000000 in
set_option maxHeartbeats 1600000 in
theorem does_walk (k : Int) (a b : Nat) (ha : a < 4294967296) (hb : b < 4294967296) (w : World) (hT : Tabx w) : Calls Tryz.prog 3 #[.int .i64 k, .float .f32 a, .float .f32 b] w fun e w' => e = .returned (.bool true) ∧ Below w.heap.size w w' := by
  have hD := fun k w => do_any k a b w
  have hR := fun k w => rDo_any k a b ha hb w
  have hS := fun k => same_do k a b
  go_enter Tryz.func3, Tryz.ntmps3
  go_wp2_with (first
    | (go_at_call 5; refine (hD _ _).mono ?_; rintro e9 w9 ⟨rfl, n1, rfl⟩)
    | (go_at_call 6; refine (hR _ _).mono ?_; rintro e9 w1 ⟨r, rfl, hl1, hk1⟩)
    | (go_at_call 4; refine (hS _ _ hl1 _).mono ?_; rintro e9 w9 ⟨rfl, hw9⟩; obtain rfl := hw9.symm))
  have HK : Hid (Keep [] w w1) := ((Keep.refl [] w).drewN _).trans' hk1
  clear hk1 hl1
  go_loopw [7] (fun kv wr => ∃ i : Int, kv = .int .i64 i ∧ 5 ≤ i ∧ i ≤ 9 ∧ Hid (Keep [] w wr)) (fun kv _ => (9 - intOf kv).toNat)
  case atStart => exact ⟨5, rfl, by omega, by omega, HK⟩
  case round =>
    clear HK
    obtain ⟨i, rfl, h5, h9, HK⟩ := hrel
    by_cases hi : i ≤ 8
    · go_wp2_with (first
        | (go_at_call 5; refine (hD _ _).mono ?_; rintro e9 w9 ⟨rfl, n1, rfl⟩)
        | (go_at_call 6; refine (hR _ _).mono ?_; rintro e9 w2 ⟨r2, rfl, hl2, hk2⟩)
        | (go_at_call 4; refine (hS _ _ hl2 _).mono ?_; rintro e9 w9 ⟨rfl, hw9⟩; obtain rfl := hw9.symm))
      have HK2 : Hid (Keep [] w w2) := HK.out.trans' (((Keep.refl [] wr).drewN _).trans' hk2)
      clear hk2 hl2 HK
      go_roundw
      case rel => exact ⟨i + 1, rfl, by omega, by omega, HK2⟩
      case measure => (simp [intOf]; try omega)
    · have HB : Hid (Below w.heap.size w wr) := HK.out.below
      clear HK
      go_wp2_with (first
        | (go_at_call 7; refine (awake_any _ (hT.below HB.out)).mono ?_; rintro e9 w4 ⟨rfl, hb4⟩))
      go_ret
      exact ⟨rfl, HB.out.trans (hb4.mono HB.out.size)⟩
end Go.Proofs.YthdibaeelbkghaaGreatDoor
