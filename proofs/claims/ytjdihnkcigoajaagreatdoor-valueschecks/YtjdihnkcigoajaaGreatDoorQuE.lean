/- How a byte is written, by the program. -/
import Derived.Test.YtjdihnkcigoajaaGreatDoorQuB
import Derived.Deep.RegionLaw
import Derived.Handy

namespace Go.Proofs.YtjdihnkcigoajaaGreatDoor
open Go.RowKit Go.PlainAid

set_option maxRecDepth 1000000 in
set_option maxHeartbeats 800000 in
theorem esc_quote (c : UInt8) (hc : c = 34) (v : Value) (l : List UInt8) (w : World) (hr : RowX w v l) (hn : l.length ≤ 100000) :
    Calls Tryz.prog 59 #[v, .int .u8 (c.toNat : Int)] w fun e w' => ∃ v', e = .returned v' ∧ Row w' v' (l ++ [92, 34]) ∧ Keep v.ownBlock.toList w w' ∧ (v'.ownBlock = v.ownBlock ∨ Fresh w w' v') := by
  subst hc
  have e0 : (((34 : UInt8).toNat : Nat) : Int) = 34 := rfl
  rw [e0]
  have HO : Hid (Row (w.alloc (.cells #[.int .u8 92, .int .u8  34] 5 (0, 0))) (.slice (some ⟨w.heap.size, 0, none⟩) 2 2) [92, 34]) := row_lit w [92, 34] (by simp)
  have HR2 : Hid (RowX (w.alloc (.cells #[.int .u8 92, .int .u8  34] 5 (0, 0))) v l) := hr.keep (Keep.alloc1 w _) (Off.nil _)
  obtain ⟨ao, ca, hv, _⟩ := hr.bs.ex
  subst hv
  clear hr
  go_enter Tryz.func59, Tryz.ntmps59
  go_wp2_with (at_builtin; refine wp_appX rfl (.tmp 12) (.tmp 14) 31 31 rfl underS (.slice ao l.length ca) l rfl HR2.out (.slice (some ⟨w.heap.size, 0, none⟩) 2 2) [92, 34] rfl HO.out.bs.src (by simp) (by simp; omega) ?_)
  intro v' w1 R1 K1 F1 S1
  obtain ⟨a9, c9, rfl⟩ := S1
  have HK : Hid (Keep (Value.slice ao l.length ca).ownBlock.toList w w1) := by
    show Keep _ _ _
    exact (Keep.alloc1 w _).trans K1 (fun _ h => by cases h) (fun x hx => .inl hx)
  have HF : Hid ((Value.slice a9 (l.length + [92, 34].length) c9).ownBlock = (Value.slice ao l.length ca).ownBlock ∨ Fresh w w1 (Value.slice a9 (l.length + [92, 34].length) c9)) := by
    show _ ∨ _
    rcases F1 with h | h
    · exact .inl h
    · exact .inr (fun k hk => ⟨by have := (h k hk).1; simp at this; omega, (h k hk).2⟩)
  have HR1 : Hid (Row w1 (Value.slice a9 (l.length + [92, 34].length) c9) (l ++ [92, 34])) := R1
  clear K1 F1 R1 HO HR2
  go_wp2
  go_ret
  exact ⟨_, rfl, HR1.out, HK.out, HF.out⟩
set_option maxRecDepth 1000000 in
set_option maxHeartbeats 800000 in
theorem esc_back (c : UInt8) (hc : c = 92) (v : Value) (l : List UInt8) (w : World) (hr : RowX w v l) (hn : l.length ≤ 100000) :
    Calls Tryz.prog 59 #[v, .int .u8 (c.toNat : Int)] w fun e w' => ∃ v', e = .returned v' ∧ Row w' v' (l ++ [92, 92]) ∧ Keep v.ownBlock.toList w w' ∧ (v'.ownBlock = v.ownBlock ∨ Fresh w w' v') := by
  subst hc
  have e0 : (((92 : UInt8).toNat : Nat) : Int) = 92 := rfl
  rw [e0]
  have HO : Hid (Row (w.alloc (.cells #[.int .u8 92, .int .u8  92] 5 (0, 0))) (.slice (some ⟨w.heap.size, 0, none⟩) 2 2) [92, 92]) := row_lit w [92, 92] (by simp)
  have HR2 : Hid (RowX (w.alloc (.cells #[.int .u8 92, .int .u8  92] 5 (0, 0))) v l) := hr.keep (Keep.alloc1 w _) (Off.nil _)
  obtain ⟨ao, ca, hv, _⟩ := hr.bs.ex
  subst hv
  clear hr
  go_enter Tryz.func59, Tryz.ntmps59
  go_wp2_with (at_builtin; refine wp_appX rfl (.tmp 12) (.tmp 14) 31 31 rfl underS (.slice ao l.length ca) l rfl HR2.out (.slice (some ⟨w.heap.size, 0, none⟩) 2 2) [92, 92] rfl HO.out.bs.src (by simp) (by simp; omega) ?_)
  intro v' w1 R1 K1 F1 S1
  obtain ⟨a9, c9, rfl⟩ := S1
  have HK : Hid (Keep (Value.slice ao l.length ca).ownBlock.toList w w1) := by
    show Keep _ _ _
    exact (Keep.alloc1 w _).trans K1 (fun _ h => by cases h) (fun x hx => .inl hx)
  have HF : Hid ((Value.slice a9 (l.length + [92, 92].length) c9).ownBlock = (Value.slice ao l.length ca).ownBlock ∨ Fresh w w1 (Value.slice a9 (l.length + [92, 92].length) c9)) := by
    show _ ∨ _
    rcases F1 with h | h
    · exact .inl h
    · exact .inr (fun k hk => ⟨by have := (h k hk).1; simp at this; omega, (h k hk).2⟩)
  have HR1 : Hid (Row w1 (Value.slice a9 (l.length + [92, 92].length) c9) (l ++ [92, 92])) := R1
  clear K1 F1 R1 HO HR2
  go_wp2
  go_ret
  exact ⟨_, rfl, HR1.out, HK.out, HF.out⟩
set_option maxRecDepth 1000000 in
set_option maxHeartbeats 800000 in
theorem esc_line (c : UInt8) (hc : c = 10) (v : Value) (l : List UInt8) (w : World) (hr : RowX w v l) (hn : l.length ≤ 100000) :
    Calls Tryz.prog 59 #[v, .int .u8 (c.toNat : Int)] w fun e w' => ∃ v', e = .returned v' ∧ Row w' v' (l ++ [92, 110]) ∧ Keep v.ownBlock.toList w w' ∧ (v'.ownBlock = v.ownBlock ∨ Fresh w w' v') := by
  subst hc
  have e0 : (((10 : UInt8).toNat : Nat) : Int) = 10 := rfl
  rw [e0]
  have HO : Hid (Row (w.alloc (.cells #[.int .u8 92, .int .u8  110] 5 (0, 0))) (.slice (some ⟨w.heap.size, 0, none⟩) 2 2) [92, 110]) := row_lit w [92, 110] (by simp)
  have HR2 : Hid (RowX (w.alloc (.cells #[.int .u8 92, .int .u8  110] 5 (0, 0))) v l) := hr.keep (Keep.alloc1 w _) (Off.nil _)
  obtain ⟨ao, ca, hv, _⟩ := hr.bs.ex
  subst hv
  clear hr
  go_enter Tryz.func59, Tryz.ntmps59
  go_wp2_with (at_builtin; refine wp_appX rfl (.tmp 19) (.tmp 20) 31 31 rfl underS (.slice ao l.length ca) l rfl HR2.out (.slice (some ⟨w.heap.size, 0, none⟩) 2 2) [92, 110] rfl HO.out.bs.src (by simp) (by simp; omega) ?_)
  intro v' w1 R1 K1 F1 S1
  obtain ⟨a9, c9, rfl⟩ := S1
  have HK : Hid (Keep (Value.slice ao l.length ca).ownBlock.toList w w1) := by
    show Keep _ _ _
    exact (Keep.alloc1 w _).trans K1 (fun _ h => by cases h) (fun x hx => .inl hx)
  have HF : Hid ((Value.slice a9 (l.length + [92, 110].length) c9).ownBlock = (Value.slice ao l.length ca).ownBlock ∨ Fresh w w1 (Value.slice a9 (l.length + [92, 110].length) c9)) := by
    show _ ∨ _
    rcases F1 with h | h
    · exact .inl h
    · exact .inr (fun k hk => ⟨by have := (h k hk).1; simp at this; omega, (h k hk).2⟩)
  have HR1 : Hid (Row w1 (Value.slice a9 (l.length + [92, 110].length) c9) (l ++ [92, 110])) := R1
  clear K1 F1 R1 HO HR2
  go_wp2
  go_ret
  exact ⟨_, rfl, HR1.out, HK.out, HF.out⟩
set_option maxRecDepth 1000000 in
set_option maxHeartbeats 800000 in
theorem esc_plain (c : UInt8) (h1 : c ≠ 34) (h2 : c ≠ 92) (h4 : 32 ≤ c.toNat) (h5 : c.toNat ≤ 126) (v : Value) (l : List UInt8) (w : World) (hr : RowX w v l) (hn : l.length ≤ 100000) :
    Calls Tryz.prog 59 #[v, .int .u8 (c.toNat : Int)] w fun e w' => ∃ v', e = .returned v' ∧ Row w' v' (l ++ [c]) ∧ Keep v.ownBlock.toList w w' ∧ (v'.ownBlock = v.ownBlock ∨ Fresh w w' v') := by
  have e1 : ((c.toNat : Int) == 34) = false := by
    have : c.toNat ≠ 34 := fun e => h1 (UInt8.toNat_inj.1 e)
    simp; omega
  have e2 : ((c.toNat : Int) == 92) = false := by
    have : c.toNat ≠ 92 := fun e => h2 (UInt8.toNat_inj.1 e)
    simp; omega
  have e3 : ((c.toNat : Int) == 10) = false := by simp; omega
  have e4 : ¬ (c.toNat : Int) < 32 := by omega
  have e5 : ¬ 126 < (c.toNat : Int) := by omega
  clear h1 h2 h4 h5
  have HO : Hid (Row (w.alloc (.cells #[.int .u8 (c.toNat : Int)] 5 (0, 0))) (.slice (some ⟨w.heap.size, 0, none⟩) 1 1) [c]) := row_lit w [c] (by simp)
  have HR2 : Hid (RowX (w.alloc (.cells #[.int .u8 (c.toNat : Int)] 5 (0, 0))) v l) := hr.keep (Keep.alloc1 w _) (Off.nil _)
  obtain ⟨ao, ca, hv, _⟩ := hr.bs.ex
  subst hv
  clear hr
  go_enter Tryz.func59, Tryz.ntmps59
  go_wp2_with (at_builtin; refine wp_appX rfl (.tmp 38) (.tmp 40) 31 31 rfl underS (.slice ao l.length ca) l rfl HR2.out (.slice (some ⟨w.heap.size, 0, none⟩) 1 1) [c] rfl HO.out.bs.src (by simp) (by simp; omega) ?_)
  intro v' w1 R1 K1 F1 S1
  obtain ⟨a9, c9, rfl⟩ := S1
  have HK : Hid (Keep (Value.slice ao l.length ca).ownBlock.toList w w1) := by
    show Keep _ _ _
    exact (Keep.alloc1 w _).trans K1 (fun _ h => by cases h) (fun x hx => .inl hx)
  have HF : Hid ((Value.slice a9 (l.length + [c].length) c9).ownBlock = (Value.slice ao l.length ca).ownBlock ∨ Fresh w w1 (Value.slice a9 (l.length + [c].length) c9)) := by
    show _ ∨ _
    rcases F1 with h | h
    · exact .inl h
    · exact .inr (fun k hk => ⟨by have := (h k hk).1; simp at this; omega, (h k hk).2⟩)
  have HR1 : Hid (Row w1 (Value.slice a9 (l.length + [c].length) c9) (l ++ [c])) := R1
  clear K1 F1 R1 HO HR2
  go_wp2
  go_ret
  exact ⟨_, rfl, HR1.out, HK.out, HF.out⟩
end Go.Proofs.YtjdihnkcigoajaaGreatDoor

/- How a byte is written that has no sign of its own. -/
namespace Go.Proofs.YtjdihnkcigoajaaGreatDoor
open Go.RowKit Go.PlainAid

theorem hex_at : ∀ k (h : k < 16), (((⟨#[48, 49, 50, 51, 52, 53, 54, 55, 56, 57, 97, 98, 99, 100, 101, 102]⟩ : ByteArray)[k]'h).toNat : Int) = ((hexB k).toNat : Int) := by decide
theorem and15 : ∀ v, v < 256 → bits .and .u8 ((v : Nat) : Int) 15 = ((v % 16 : Nat) : Int) := by decide +kernel

set_option maxRecDepth 1000000 in
set_option maxHeartbeats 800000 in
theorem esc_hex (c : UInt8) (h1 : c ≠ 34) (h2 : c ≠ 92) (h3 : c ≠ 10) (h4 : c.toNat < 32 ∨ 126 < c.toNat) (v : Value) (l : List UInt8) (w : World) (hr : RowX w v l) (hn : l.length ≤ 100000) :
    Calls Tryz.prog 59 #[v, .int .u8 (c.toNat : Int)] w fun e w' => ∃ v', e = .returned v' ∧ Row w' v' (l ++ [92, 120, hexB (c.toNat / 16), hexB (c.toNat % 16)]) ∧ Keep v.ownBlock.toList w w' ∧ (v'.ownBlock = v.ownBlock ∨ Fresh w w' v') := by
  have e1 : ((c.toNat : Int) == 34) = false := by
    have : c.toNat ≠ 34 := fun e => h1 (UInt8.toNat_inj.1 e)
    simp; omega
  have e2 : ((c.toNat : Int) == 92) = false := by
    have : c.toNat ≠ 92 := fun e => h2 (UInt8.toNat_inj.1 e)
    simp; omega
  have e3 : ((c.toNat : Int) == 10) = false := by
    have : c.toNat ≠ 10 := fun e => h3 (UInt8.toNat_inj.1 e)
    simp; omega
  obtain ⟨ao, ca, hv, _⟩ := hr.bs.ex
  subst hv
  have hlt : c.toNat < 256 := c.toNat_lt
  obtain ⟨a, ha⟩ : ∃ a : Nat, c.toNat / 16 = a := ⟨_, rfl⟩
  obtain ⟨b, hb⟩ : ∃ b : Nat, c.toNat % 16 = b := ⟨_, rfl⟩
  have ha16 : a < 16 := by omega
  have hb16 : b < 16 := by omega
  have hai : (c.toNat : Int) / 16 = (a : Int) := by omega
  have hbi : bits .and .u8 ((c.toNat : Nat) : Int) 15 = (b : Int) := by rw [and15 _ hlt, hb]
  obtain ⟨A, hA⟩ : ∃ A : Int, ((hexB a).toNat : Int) = A := ⟨_, rfl⟩
  obtain ⟨B, hB⟩ : ∃ B : Int, ((hexB b).toNat : Int) = B := ⟨_, rfl⟩
  have ga := (hex_at a ha16).trans hA
  have gb := (hex_at b hb16).trans hB
  have ha2 : (a : Int) < 16 := by omega
  have hb2 : (b : Int) < 16 := by omega
  rw [ha, hb]
  have HO2 : Row (w.alloc (.cells #[.int .u8 92, .int .u8 120, .int .u8 A, .int .u8 B] 5 (0, 0))) (.slice (some ⟨w.heap.size, 0, none⟩) 4 4) [92, 120, hexB a, hexB b] := by
    have := row_lit w [92, 120, hexB a, hexB b] (by simp)
    have e : (bv [92, 120, hexB a, hexB b]).toArray = #[.int .u8 92, .int .u8 120, .int .u8 A, .int .u8 B] := by rw [← hA, ← hB]; rfl
    rw [e] at this
    exact this
  obtain ⟨r4, hr4⟩ : ∃ r4 : List UInt8, [92, 120, hexB a, hexB b] = r4 := ⟨_, rfl⟩
  have HL : Hid ([92, 120, hexB a, hexB b] = r4) := hr4
  have hl4 : r4.length = 4 := by rw [← hr4]; rfl
  rw [hr4] at HO2 ⊢
  have KD : Keep [] (w.alloc (.cells #[.int .u8 92, .int .u8 120, .int .u8 A, .int .u8 B] 5 (0, 0))) (w.alloc (.cells #[.int .u8 92, .int .u8 120, .int .u8 A, .int .u8 B] 5 (0, 0))).drew := (Keep.refl [] _).drew
  have HO : Hid (Src Tryz.prog 1 31 (.slice (some ⟨w.heap.size, 0, none⟩) 4 4) r4.length (bv r4) (w.alloc (.cells #[.int .u8 92, .int .u8 120, .int .u8 A, .int .u8 B] 5 (0, 0))).drew) := (HO2.keep KD (Off.nil _)).bs.src
  have HR2 : Hid (RowX (w.alloc (.cells #[.int .u8 92, .int .u8 120, .int .u8 A, .int .u8 B] 5 (0, 0))).drew (.slice ao l.length ca) l) := (hr.keep (Keep.alloc1 w _) (Off.nil _)).keep KD (Off.nil _)
  have HK0 : Hid (∀ w1, Keep (Value.slice ao l.length ca).ownBlock.toList (w.alloc (.cells #[.int .u8 92, .int .u8 120, .int .u8 A, .int .u8 B] 5 (0, 0))).drew w1 → Keep (Value.slice ao l.length ca).ownBlock.toList w w1) := fun w1 K1 =>
    ((Keep.alloc1 w _).drew).trans K1 (fun _ h => by cases h) (fun x hx => .inl hx)
  have HF0 : Hid (∀ w1 (v9 : Value), v9.ownBlock = (Value.slice ao l.length ca).ownBlock ∨ Fresh (w.alloc (.cells #[.int .u8 92, .int .u8 120, .int .u8 A, .int .u8 B] 5 (0, 0))).drew w1 v9 → v9.ownBlock = (Value.slice ao l.length ca).ownBlock ∨ Fresh w w1 v9) := fun w1 v9 F1 => by
    rcases F1 with h | h
    · exact .inl h
    · exact .inr (fun k hk => ⟨by have := (h k hk).1; simp at this; omega, (h k hk).2⟩)
  clear hr h1 h2 h3 HO2 KD hr4 ha hb hA hB hl4
  rcases h4 with h4 | h4
  · have e4 : (c.toNat : Int) < 32 := by omega
    clear h4 hlt
    go_enter Tryz.func59, Tryz.ntmps59
    go_wp2_with fail
    go_region_law (refine step_appX rfl (.tmp 29) (.tmp 36) 31 31 rfl underS (.slice ao l.length ca) l rfl HR2.out (.slice (some ⟨w.heap.size, 0, none⟩) 4 4) r4 rfl HO.out (by rw [← HL.out]; simp) (by rw [← HL.out]; simp; omega) ?_; intro v' w1 R1 K1 F1 S1; obtain ⟨a9, c9, rfl⟩ := S1; have HK : Hid (Keep (Value.slice ao l.length ca).ownBlock.toList w w1) := HK0.out w1 K1; have HF : Hid ((Value.slice a9 (l.length + r4.length) c9).ownBlock = (Value.slice ao l.length ca).ownBlock ∨ Fresh w w1 (Value.slice a9 (l.length + r4.length) c9)) := HF0.out w1 _ F1; have HR1 : Hid (Row w1 (Value.slice a9 (l.length + r4.length) c9) (l ++ r4)) := R1; clear K1 F1 R1)
    all_goals
      go_wp2
      go_ret
      exact ⟨_, rfl, HR1.out, HK.out, HF.out⟩
  · have e4 : ¬ (c.toNat : Int) < 32 := by omega
    have e5 : 126 < (c.toNat : Int) := by omega
    clear h4 hlt
    go_enter Tryz.func59, Tryz.ntmps59
    go_wp2_with fail
    go_region_law (refine step_appX rfl (.tmp 29) (.tmp 36) 31 31 rfl underS (.slice ao l.length ca) l rfl HR2.out (.slice (some ⟨w.heap.size, 0, none⟩) 4 4) r4 rfl HO.out (by rw [← HL.out]; simp) (by rw [← HL.out]; simp; omega) ?_; intro v' w1 R1 K1 F1 S1; obtain ⟨a9, c9, rfl⟩ := S1; have HK : Hid (Keep (Value.slice ao l.length ca).ownBlock.toList w w1) := HK0.out w1 K1; have HF : Hid ((Value.slice a9 (l.length + r4.length) c9).ownBlock = (Value.slice ao l.length ca).ownBlock ∨ Fresh w w1 (Value.slice a9 (l.length + r4.length) c9)) := HF0.out w1 _ F1; have HR1 : Hid (Row w1 (Value.slice a9 (l.length + r4.length) c9) (l ++ r4)) := R1; clear K1 F1 R1)
    all_goals
      go_wp2
      go_ret
      exact ⟨_, rfl, HR1.out, HK.out, HF.out⟩

theorem esc_all (c : UInt8) (v : Value) (l : List UInt8) (w : World) (hr : RowX w v l) (hn : l.length ≤ 100000) :
    Calls Tryz.prog 59 #[v, .int .u8 (c.toNat : Int)] w fun e w' => ∃ v', e = .returned v' ∧ Row w' v' (l ++ escL c) ∧ Keep v.ownBlock.toList w w' ∧ (v'.ownBlock = v.ownBlock ∨ Fresh w w' v') := by
  unfold escL
  by_cases h1 : c = 34
  · rw [if_pos (.inl h1), h1]
    exact esc_quote 34 rfl v l w hr hn
  · by_cases h2 : c = 92
    · rw [if_pos (.inr h2), h2]
      exact esc_back 92 rfl v l w hr hn
    · rw [if_neg (by simp [h1, h2])]
      by_cases h3 : c = 10
      · rw [if_pos h3, h3]
        exact esc_line 10 rfl v l w hr hn
      · rw [if_neg h3]
        by_cases h4 : c.toNat < 32 ∨ 126 < c.toNat
        · rw [if_pos h4]
          exact esc_hex c h1 h2 h3 h4 v l w hr hn
        · rw [if_neg h4]
          exact esc_plain c h1 h2 (by omega) (by omega) v l w hr hn
end Go.Proofs.YtjdihnkcigoajaaGreatDoor

/- A text's literal, as the program writes it. -/
namespace Go.Proofs.YtjdihnkcigoajaaGreatDoor
open Go.RowKit Go.PlainAid

theorem esc_one (c : UInt8) : (escL c).length ≤ 4 := by
  unfold escL
  split
  · simp
  · split
    · simp
    · split <;> simp
theorem esc_len (l : List UInt8) : (l.flatMap escL).length ≤ 4 * l.length := by
  induction l with
  | nil => simp
  | cons c l ih =>
    have := esc_one c
    rw [List.flatMap_cons, List.length_append, List.length_cons]
    omega
theorem quoL_len (l : List UInt8) : (quoL l).length ≤ 4 * l.length + 2 := by
  have := esc_len l
  unfold quoL
  simp only [List.length_append, List.length_cons, List.length_nil]
  omega

set_option maxRecDepth 1000000 in
set_option maxHeartbeats 800000 in
/-- quoted: of any text -/
theorem quoted_all (l : List UInt8) (w : World) (hn : l.length ≤ 1000) :
    Calls Tryz.prog 36 #[.string (ba l)] w fun e w' => e = .returned (.string (ba (quoL l))) ∧ Keep [] w w' := by
  have hsz : (ba l).size = l.length := ba_size l
  have HG : Hid (∀ i (h : i < (ba l).size), (((ba l)[i]'h).toNat : Int) = bt (ba l) i) := get_bt (ba l)
  have hi : (l.length : Int) ≤ 1000 := by omega
  have HR0 : Hid (RowX (w.alloc (.cells #[.int .u8 34] 5 (1, 2))) (.slice (some ⟨w.heap.size, 0, none⟩) 1 1) [34]) := .inr ⟨⟨some ⟨w.heap.size, 0, none⟩, 1, rfl, by simp, by unfold maxLen; omega, (fun h => by cases h), fun _ => ⟨w.heap.size, 0, rfl, fun j hj => by
    have : j = 0 := by simpa using hj
    subst this
    exact (cell_of_row _ w.heap.size 0 #[.int .u8 34] 5 (1, 2) (heap_alloc_new w _)).trans rfl⟩⟩, w.heap.size, rfl⟩
  have hcv := fun (w : World) (C : Array Value) (n c : Nat) => Lib.run_convert_bytes_const (P := Tryz.prog) w 31 5 C n c Tryz.underlying31 Tryz.underlying5
  go_enter Tryz.func36, Tryz.ntmps36
  go_wp2
  clear hcv
  go_loopw [3, 9] (fun b i wr => ∃ k : Nat, k ≤ l.length ∧ i = .int .i64 k ∧ Hid (RowX wr b (34 :: (l.take k).flatMap escL) ∧ Keep [] w wr ∧ Fresh w wr b)) (fun _ i _ => l.length - (intOf i).toNat)
  case atStart => exact ⟨0, Nat.zero_le _, rfl, ⟨HR0.out, Keep.alloc1 w _, fun k hk => by simp [Value.ownBlock] at hk; subst hk; simp⟩⟩
  case round =>
    obtain ⟨k, hk, rfl, HI⟩ := hrel
    obtain ⟨ao, ca, hv, _⟩ := HI.out.1.bs.ex
    have hel := esc_len (l.take k)
    rw [List.length_take] at hel
    obtain ⟨E, hE9⟩ : ∃ E, (l.take k).flatMap escL = E := ⟨_, rfl⟩
    rw [hE9] at HI hel hv
    have HE9 : Hid ((l.take k).flatMap escL = E) := hE9
    have hel2 : E.length ≤ 4000 := by omega
    clear hE9 hel
    rw [List.length_cons] at hv
    subst hv
    by_cases hlt : k < l.length
    · have hks : k < (ba l).size := by omega
      have hki : (k : Int) < (l.length : Int) := by omega
      have gk : (((ba l)[k]'hks).toNat : Int) = ((l[k]).toNat : Int) := (HG.out k hks).trans (ba_bt l k hlt)
      have hE := esc_all l[k] _ _ _ HI.out.1 (by rw [List.length_cons]; omega)
      go_wp2_with fail
      refine hE.mono ?_
      rintro e9 w9 ⟨v9, rfl, R9, K9, F9⟩
      have HJ : Hid (RowX w9 v9 (34 :: (l.take (k + 1)).flatMap escL) ∧ Keep [] w w9 ∧ Fresh w w9 v9) := by
        refine ⟨?_, ?_, ?_⟩
        · rw [List.take_succ_eq_append_getElem hlt, List.flatMap_append, HE9.out]; simp only [List.flatMap_cons, List.flatMap_nil, List.append_nil]; exact .inl R9
        · exact HI.out.2.1.more K9 (fun x hx => .inr (HI.out.2.2 x (by simpa using hx)).1)
        · rcases F9 with h | h
          · exact fun j hj => by
              rw [h] at hj
              have := HI.out.2.2 j hj
              exact ⟨this.1, Nat.lt_of_lt_of_le this.2 K9.size⟩
          · exact fun j hj => ⟨Nat.le_trans HI.out.2.1.size (h j hj).1, (h j hj).2⟩
      clear R9 K9 F9 hE gk
      go_wp2
      go_roundw
      case rel => exact ⟨k + 1, by omega, by go_num, HJ⟩
      case measure => simp [intOf]; omega
    · obtain rfl : k = l.length := by omega
      have hst := run_str HI.out.1.bs
      have e2 : (⟨(34 :: E).toArray⟩ : ByteArray) ++ ⟨#[34]⟩ = ba (quoL l) := (bal_app (34 :: E) [34]).trans (by unfold quoL; rw [← HE9.out, List.take_length])
      have z1 : (⟨(34 :: E).toArray⟩ : ByteArray).size = E.length + 1 := ba_size (34 :: E)
      have z2 : (⟨#[34]⟩ : ByteArray).size = 1 := rfl
      have z3 : ¬ 9223372036854775807 < E.length + 1 + 1 := by omega
      generalize (⟨(34 :: E).toArray⟩ : ByteArray) = S at *
      go_wp2
      go_ret
      exact ⟨rfl, HI.out.2.1⟩
end Go.Proofs.YtjdihnkcigoajaaGreatDoor
