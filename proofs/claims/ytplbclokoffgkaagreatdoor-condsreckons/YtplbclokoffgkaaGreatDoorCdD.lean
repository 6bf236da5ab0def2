/- Conditions: what is wrong with one part by itself, of parts whose values bear no real and no texts. -/
import Derived.Test.YtplbclokoffgkaaGreatDoorCdA
import Derived.Test.YtplbclokoffgkaaGreatDoorCmpA
import Derived.Test.YtplbclokoffgkaaGreatDoorINameW
namespace Go.Proofs.YtplbclokoffgkaaGreatDoor
open Go.RowKit Go.PlainAid

/-- a part: its kind, its name; its value's kind and number, all else of the value is zero -/
structure Pt where
  kind : Int
  nm : ByteArray
  vk : Int
  vi : Int
abbrev Pt.vd (p : Pt) : VD := ⟨p.vk, false, p.vi, 0, ⟨#[]⟩, []⟩
abbrev Pt.cells (p : Pt) : Array Value := #[.int .i64 p.kind, .string p.nm, .int .i64 p.vk, .bool false, .int .i64 p.vi, .float .f32 0, .string ⟨#[]⟩, .slice none 0 0]
abbrev Pt.val (p : Pt) : Value := .agg p.cells
structure Pt.Ok (p : Pt) : Prop where
  kind0 : -9223372036854775808 ≤ p.kind
  kind1 : p.kind ≤ 9223372036854775807
  vk0 : -9223372036854775808 ≤ p.vk
  vk1 : p.vk ≤ 9223372036854775807
  vi0 : -9223372036854775808 ≤ p.vi
  vi1 : p.vi ≤ 9223372036854775807
theorem Pt.Ok.vd {p : Pt} (h : p.Ok) : p.vd.Ok := ⟨h.vk0, h.vk1, h.vi0, h.vi1, (by show 0 < 4294967296; decide), (by show 0 ≤ 9223372036854775807; decide)⟩

theorem isKind_any (k : Int) (w : World) : Calls Tryz.prog 116 #[.int .i64 k] w fun e w' => e = .returned (.bool (decide (1 ≤ k) && decide (k ≤ 5))) ∧ w' = w := by
  by_cases h1 : 1 ≤ k
  · by_cases h2 : k ≤ 5
    · rw [decide_eq_true h1, decide_eq_true h2]
      go_enter Tryz.func116, Tryz.ntmps116
      go_wp2
      go_ret
      exact ⟨rfl, rfl⟩
    · rw [decide_eq_true h1, decide_eq_false h2]
      go_enter Tryz.func116, Tryz.ntmps116
      go_wp2
      go_ret
      exact ⟨rfl, rfl⟩
  · rw [decide_eq_false h1]
    go_enter Tryz.func116, Tryz.ntmps116
    go_wp2
    go_ret
    exact ⟨rfl, rfl⟩
def partB (k : Int) : Bool := decide (1 ≤ k) && decide (k ≤ 17)
theorem isPart_any (k : Int) (w : World) : Calls Tryz.prog 117 #[.int .i64 k] w fun e w' => e = .returned (.bool (partB k)) ∧ w' = w := by
  unfold partB
  by_cases h1 : 1 ≤ k
  · by_cases h2 : k ≤ 17
    · rw [decide_eq_true h1, decide_eq_true h2]
      go_enter Tryz.func117, Tryz.ntmps117
      go_wp2
      go_ret
      exact ⟨rfl, rfl⟩
    · rw [decide_eq_true h1, decide_eq_false h2]
      go_enter Tryz.func117, Tryz.ntmps117
      go_wp2
      go_ret
      exact ⟨rfl, rfl⟩
  · rw [decide_eq_false h1]
    go_enter Tryz.func117, Tryz.ntmps117
    go_wp2
    go_ret
    exact ⟨rfl, rfl⟩

theorem noValue_any (p : Pt) (w : World) : Calls Tryz.prog 141 #[p.vd.val (.slice none 0 0)] w fun e w' => e = .returned (.bool (decide (p.vk = 0) && decide (p.vi = 0))) ∧ Keep [] w w' := by
  obtain ⟨k, s, vk, vi⟩ := p
  simp only [VD.val]
  have hz : (FloatKind.f32.format.order 0 0 == some Ordering.eq) = true := by kernel_rfl
  by_cases h1 : vk = 0
  · subst h1
    by_cases h2 : vi = 0
    · subst h2
      go_enter Tryz.func141, Tryz.ntmps141
      go_wp2
      go_ret
      exact ⟨rfl, Keep.alloc1 _ _⟩
    · have hb : (vi == 0) = false := by simpa using h2
      rw [decide_eq_false h2]
      go_enter Tryz.func141, Tryz.ntmps141
      go_wp2
      go_ret
      exact ⟨rfl, Keep.alloc1 _ _⟩
  · have hb : (vk == 0) = false := by simpa using h1
    rw [decide_eq_false h1]
    go_enter Tryz.func141, Tryz.ntmps141
    go_wp2
    go_ret
    exact ⟨rfl, Keep.alloc1 _ _⟩

theorem nameFault_one (s : ByteArray) (b : Nat) (w : World) (hc : w.cell? ⟨b, 0, none⟩ = some (.string s)) :
    Calls Tryz.prog 140 #[.slice (some ⟨b, 0, none⟩) 1 1] w fun e w' => e = .returned (.int .i64 (if nameL s.toList = true then 0 else 10)) ∧ w' = w := by
  have hN := fun w1 => name_any s w1
  cases hn : nameL s.toList
  · rw [hn] at hN
    go_enter Tryz.func140, Tryz.ntmps140
    go_wp2
    go_loop [7] (fun iv => iv = .int .i64 0) (fun _ => 1)
    case atStart => rfl
    case round =>
      subst hrel
      go_wp2_with fail
      refine (hN _).mono ?_
      rintro e9 w9 ⟨rfl, hw9⟩
      obtain rfl := hw9.symm
      clear hw9
      go_wp2
      go_ret
      exact ⟨rfl, rfl⟩
  · rw [hn] at hN
    go_enter Tryz.func140, Tryz.ntmps140
    go_wp2
    go_loop [7] (fun iv => iv = .int .i64 0 ∨ iv = .int .i64 1) (fun iv => 1 - (intOf iv).toNat)
    case atStart => exact .inl rfl
    case round =>
      rcases hrel with rfl | rfl
      · go_wp2_with fail
        refine (hN _).mono ?_
        rintro e9 w9 ⟨rfl, hw9⟩
        obtain rfl := hw9.symm
        clear hw9
        go_wp2
        go_round
        case rel => exact .inr rfl
        case measure => simp [intOf]
      · go_wp2
        go_ret
        exact ⟨rfl, rfl⟩
/-- a part that is right by itself -/
def Pt.fine (p : Pt) : Prop := (p.kind = 1 ∧ p.nm = ⟨#[]⟩ ∧ p.vd.mayB = true) ∨ (p.kind = 2 ∧ nameL p.nm.toList = true ∧ p.vk = 0 ∧ p.vi = 0) ∨ (3 ≤ p.kind ∧ p.nm = ⟨#[]⟩ ∧ p.vk = 0 ∧ p.vi = 0)
set_option maxHeartbeats 1600000 in
theorem partFault_fine (p : Pt) (hp : p.Ok) (hf : p.fine) (w : World) : Calls Tryz.prog 118 #[p.val] w fun e w' => e = .returned (.int .i64 0) ∧ Keep [] w w' := by
  have hC := fun (w1 : World) (hm : p.vd.mayB = true) => check_yes p.vd hp.vd (.slice none 0 0) w1 (Ts.nil w1) hm
  have hV := fun w1 => noValue_any p w1
  obtain ⟨k, s, vk, vi⟩ := p
  simp only [VD.val] at hC hV
  rcases hf with ⟨rfl, rfl, hm⟩ | ⟨rfl, hn, rfl, rfl⟩ | ⟨h3, rfl, rfl, rfl⟩
  · have hC1 := fun w1 => hC w1 hm
    clear hC hV hm hp
    go_enter Tryz.func118, Tryz.ntmps118
    go_wp2_with fail
    refine (hC1 _).mono ?_
    rintro e9 w9 ⟨rfl, k9⟩
    have HK : Hid (Keep [] w w9) := (Keep.alloc1 _ _).trans' k9
    clear k9 hC1
    go_wp2
    go_ret
    exact ⟨rfl, HK.out⟩
  · clear hC hp
    go_enter Tryz.func118, Tryz.ntmps118
    go_wp2_with fail
    refine (hV _).mono ?_
    rintro e9 w9 ⟨rfl, k9⟩
    have c0 : w9.cell? ⟨w.heap.size, 0, none⟩ = some (.int .i64 2) := k9.cell' (by go_simp) (by simp)
    have c1 : w9.cell? ⟨w.heap.size, 1, none⟩ = some (.string s) := k9.cell' (by go_simp) (by simp)
    have HK : Hid (Keep [] w w9) := (Keep.alloc1 _ _).trans' k9
    clear k9 hV
    go_wp2_with fail
    refine (nameFault_one s _ _ (by go_simp)).mono ?_
    rintro e8 w8 ⟨rfl, hw8⟩
    obtain rfl := hw8.symm
    rw [if_pos hn]
    clear hw8
    go_wp2
    go_ret
    exact ⟨rfl, HK.out.alloc _⟩
  · have h3 : 3 ≤ k := h3
    clear hC hp
    have h1 : (k == 1) = false := by simp; omega
    have h2 : (k == 2) = false := by simp; omega
    go_enter Tryz.func118, Tryz.ntmps118
    go_wp2_with fail
    refine (hV _).mono ?_
    rintro e9 w9 ⟨rfl, k9⟩
    have c0 : w9.cell? ⟨w.heap.size, 0, none⟩ = some (.int .i64 k) := k9.cell' (by go_simp) (by simp)
    have HK : Hid (Keep [] w w9) := (Keep.alloc1 _ _).trans' k9
    clear k9 hV
    go_wp2
    go_ret
    exact ⟨rfl, HK.out⟩
end Go.Proofs.YtplbclokoffgkaaGreatDoor
