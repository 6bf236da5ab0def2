/- Conditions: expressions as they lie in memory; what is wrong with one: nothing, where its parts are right and make a tree. -/
import Derived.Test.YtplbclokoffgkaaGreatDoorCdE
import Derived.Deep.RegionWith
import Derived.Deep.RegionHeld3
import Derived.Lib.AppendIntMem
namespace Go.Proofs.YtplbclokoffgkaaGreatDoor
open Go.RowKit Go.PlainAid

/-- the slice v reads as the parts l -/
structure Pp (w : World) (v : Value) (l : List Pt) : Prop where
  ex : ∃ ao cap, v = .slice ao l.length cap ∧ l.length ≤ cap ∧ cap ≤ 9223372036854775807 ∧ (l ≠ [] → ∃ b o, ao = some ⟨b, o, none⟩ ∧ ∀ i (h : i < l.length),
    w.cell? ⟨b, o + i * 8, none⟩ = some (.int .i64 l[i].kind) ∧ w.cell? ⟨b, o + i * 8 + 1, none⟩ = some (.string l[i].nm) ∧ w.cell? ⟨b, o + i * 8 + 2, none⟩ = some (.int .i64 l[i].vk) ∧ w.cell? ⟨b, o + i * 8 + 3, none⟩ = some (.bool false) ∧
    w.cell? ⟨b, o + i * 8 + 4, none⟩ = some (.int .i64 l[i].vi) ∧ w.cell? ⟨b, o + i * 8 + 5, none⟩ = some (.float .f32 0) ∧ w.cell? ⟨b, o + i * 8 + 6, none⟩ = some (.string ⟨#[]⟩) ∧ w.cell? ⟨b, o + i * 8 + 7, none⟩ = some (.slice none 0 0))
theorem Pp.keep0 {w w' : World} {v : Value} {l : List Pt} (h : Pp w v l) (k : Keep [] w w') : Pp w' v l := by
  obtain ⟨ao, cap, rfl, h1, h2, h3⟩ := h.ex
  refine ⟨ao, cap, rfl, h1, h2, fun hl => ?_⟩
  obtain ⟨b, o, rfl, hc⟩ := h3 hl
  refine ⟨b, o, rfl, fun i hi => ?_⟩
  obtain ⟨c0, c1, c2, c3, c4, c5, c6, c7⟩ := hc i hi
  exact ⟨k.cell' c0 (by simp), k.cell' c1 (by simp), k.cell' c2 (by simp), k.cell' c3 (by simp), k.cell' c4 (by simp), k.cell' c5 (by simp), k.cell' c6 (by simp), k.cell' c7 (by simp)⟩

/-- what the operations' table says of a kind: its rank and its sign -/
def rankN (k : Int) : Int := if k = 1 ∨ k = 2 then 8 else if k = 3 then 7 else if k = 4 then 3 else if k = 5 ∨ k = 6 then 6 else if k = 7 ∨ k = 8 then 5 else if k = 16 then 2 else if k = 17 then 1 else 4
def signN (k : Int) : ByteArray := if k = 3 ∨ k = 8 then ⟨#[45]⟩ else if k = 4 then ⟨#[110, 111, 116]⟩ else if k = 5 then ⟨#[42]⟩ else if k = 6 then ⟨#[47]⟩ else if k = 7 then ⟨#[43]⟩ else if k = 9 then ⟨#[61, 61]⟩ else if k = 10 then ⟨#[33, 61]⟩ else if k = 11 then ⟨#[60]⟩ else if k = 12 then ⟨#[60, 61]⟩ else if k = 13 then ⟨#[62]⟩ else if k = 14 then ⟨#[62, 61]⟩ else if k = 15 then ⟨#[105, 110]⟩ else if k = 16 then ⟨#[97, 110, 100]⟩ else if k = 17 then ⟨#[111, 114]⟩ else ⟨#[]⟩
/-- the names of the kinds of values -/
def kindS (k : Int) : ByteArray := if k = 1 then ⟨#[98, 111, 111, 108]⟩ else if k = 2 then ⟨#[105, 110, 116]⟩ else if k = 3 then ⟨#[114, 101, 97, 108]⟩ else if k = 4 then ⟨#[116, 101, 120, 116]⟩ else ⟨#[116, 101, 120, 116, 115]⟩
/-- the name of the table of powers -/
abbrev laidN : List (String × DataW Unit) := Rows.condsNumbersRow.laid
abbrev powN : String := (laidN[3]'(by decide)).1
/-- the tables lie where they were laid -/
structure Tb (w : World) : Prop where
  made : ∀ k : Nat, 1 ≤ k → k ≤ 17 → w.cell? ⟨1, k * 3 + 1, none⟩ = some (.int .i64 (madeN (k : Int)))
  rank : ∀ k : Nat, 1 ≤ k → k ≤ 17 → w.cell? ⟨1, k * 3, none⟩ = some (.int .i64 (rankN (k : Int)))
  sign : ∀ k : Nat, 1 ≤ k → k ≤ 17 → w.cell? ⟨1, k * 3 + 2, none⟩ = some (.string (signN (k : Int)))
  kind : ∀ k : Nat, 1 ≤ k → k ≤ 5 → w.cell? ⟨0, k, none⟩ = some (.string (kindS (k : Int)))
  big : 15 ≤ w.heap.size
  pow : Lib.TabIs Tryz.prog w powN .u64 Lib.pow10Tab
theorem pow_named : Tryz.prog.globalNamed powN = some 5 := by kernel_rfl
theorem Tb.keep {F : List Nat} {w w' : World} (h : Tb w) (k : Keep F w w') (h1 : ∀ x, x < 15 → x ∉ F) : Tb w' := by
  refine ⟨fun i a b => k.cell' (h.made i a b) (h1 1 (by omega)), fun i a b => k.cell' (h.rank i a b) (h1 1 (by omega)), fun i a b => k.cell' (h.sign i a b) (h1 1 (by omega)), fun i a b => k.cell' (h.kind i a b) (h1 0 (by omega)), Nat.le_trans h.big k.size, ?_⟩
  have hp := h.pow
  have hb := h.big
  unfold Lib.TabIs World.var? at hp ⊢
  rw [pow_named] at hp ⊢
  simp only [Option.bind_some] at hp ⊢
  rw [k.block 5 (by omega) (h1 5 (by omega))]
  exact hp

/-- the outline behind a part of that kind -/
def stk1 (s : List Int) (k : Int) : List Int := trimZ (s.dropLast ++ [s.getLastD 0 - 1, madeN k])
/-- the kinds make a tree -/
def wfK : List Int → List Int → Bool
  | [], s => s.isEmpty
  | k :: l, s => !s.isEmpty && decide (s.length ≤ 16) && decide (1 ≤ s.getLastD 0) && decide (s.getLastD 0 ≤ 100) && decide (1 ≤ k) && decide (k ≤ 17) && wfK l (stk1 s k)
theorem last_split {s : List Int} (h : s ≠ []) : s = s.dropLast ++ [s.getLastD 0] := by
  have e := List.dropLast_concat_getLast h
  rw [List.getLastD_eq_getLast?, List.getLast?_eq_some_getLast h]
  exact e.symm

set_option maxRecDepth 1000000 in
set_option maxHeartbeats 6400000 in
theorem expr_fine (v : Value) (l : List Pt) (w : World) (hv : Pp w v l) (hT : Tb w) (hl : l.length ≤ 100) (hok : ∀ p ∈ l, p.Ok ∧ p.fine) (hwf : wfK (l.map Pt.kind) [1] = true) :
    Calls Tryz.prog 84 #[v] w fun e w' => e = .returned (.tuple #[.int .i64 0, .int .i64 (l.length : Int)]) ∧ Keep [] w w' := by
  have HV : Hid (Pp w v l ∧ Tb w ∧ ∀ p ∈ l, p.Ok ∧ p.fine) := ⟨hv, hT, hok⟩
  have HW : Hid (wfK (l.map Pt.kind) [1] = true) := hwf
  obtain ⟨ao, ca, rfl, hl1, hl2, -⟩ := hv.ex
  clear hv hT hok hwf
  have hsf := store_f32
  simp only [Go.stored] at hsf
  have h128 : ¬ (128 : Int) < (l.length : Int) := by omega
  go_enter Tryz.func84, Tryz.ntmps84
  go_wp2_with fail
  refine (unbegun_any _).mono ?_
  rintro e9 w1 ⟨g, rfl, k1, hg, r1⟩
  have HK1 : Hid (Keep [] w w1 ∧ w.heap.size ≤ g ∧ RowC w1 3 1 (.slice (some ⟨g, 0, none⟩) 1 1) 1 (iz [1])) := ⟨k1, hg, r1⟩
  have hgl : g < w1.heap.size := r1.lt g rfl
  have hz1 : Hid (w.heap.size ≤ w1.heap.size) := k1.size
  clear k1 hg r1
  go_wp2
  go_loopw [15] (fun iv wr => ∃ (k : Nat) (s : List Int) (u : Value), iv = .int .i64 (k : Int) ∧ k ≤ l.length ∧ Hid (Keep [] w wr ∧ Ol wr w1.heap.size s k u ∧ (∀ x, u.ownBlock = some x → w.heap.size ≤ x) ∧ wfK ((l.map Pt.kind).drop k) s = true)) (fun iv _ => l.length - (intOf iv).toNat)
  case atStart =>
    refine ⟨0, [1], .slice (some ⟨g, 0, none⟩) 1 1, rfl, Nat.zero_le _, HK1.out.1.alloc _, ⟨by simpa using heap_alloc_new w1 (.cells #[.slice (some ⟨g, 0, none⟩) 1 1, .int .i64 0] 183), HK1.out.2.2.keep (Keep.alloc1 _ _) (Off.nil _), by simp [Value.ownBlock]; omega⟩, ?_, HW.out⟩
    intro x hx
    simp [Value.ownBlock] at hx
    subst hx
    exact HK1.out.2.1
  case round =>
    obtain ⟨k, s, u, rfl, hk, HI⟩ := hrel
    by_cases hlt : k < l.length
    · have hlti : (k : Int) < (l.length : Int) := by omega
      obtain ⟨kI, oI, fI, wI⟩ := HI.out
      obtain ⟨hP, hT, hok⟩ := HV.out
      obtain ⟨_, _, he, _, _, hne⟩ := (hP.keep0 kI).ex
      simp at he
      obtain ⟨rfl, rfl⟩ := he
      obtain ⟨b, o, rfl, hc⟩ := hne (by intro hz; rw [hz] at hlt; simp at hlt)
      obtain ⟨c0, c1, c2, c3, c4, c5, c6, c7⟩ := hc k hlt
      obtain ⟨pok, pfine⟩ := hok _ (List.getElem_mem hlt)
      have hd : (l.map Pt.kind).drop k = l[k].kind :: (l.map Pt.kind).drop (k + 1) := by
        rw [List.drop_eq_getElem_cons (by simpa using hlt)]; simp
      rw [hd] at wI
      simp only [wfK, Bool.and_eq_true, Bool.not_eq_true', decide_eq_true_eq] at wI
      obtain ⟨⟨⟨⟨⟨⟨w0, w16⟩, wl⟩, wu⟩, wk1⟩, wk2⟩, wn⟩ := wI
      have hs : s ≠ [] := by intro e; rw [e] at w0; simp at w0
      have HT := hT.keep kI (by simp)
      generalize l[k] = x at c0 c1 c2 c3 c4 c5 c6 c7 pok pfine wk1 wk2 wn
      obtain ⟨xk, xs, xv, xi⟩ := x
      simp only at c0 c1 c2 c3 c4 c5 c6 c7 wk1 wk2 wn
      obtain ⟨kn, rfl⟩ : ∃ kn : Nat, xk = (kn : Int) := ⟨xk.toNat, by omega⟩
      have hm := HT.made kn (by omega) (by omega)
      have HP : Hid ((Pt.mk (kn : Int) xs xv xi).Ok ∧ (Pt.mk (kn : Int) xs xv xi).fine) := ⟨pok, pfine⟩
      have HN : Hid (wfK ((l.map Pt.kind).drop (k + 1)) (stk1 s (kn : Int)) = true ∧ 1 ≤ s.getLastD 0 ∧ s.getLastD 0 ≤ 100 ∧ s.length ≤ 16 ∧ s ≠ []) := ⟨wn, wl, wu, w16, hs⟩
      have hkn1 : (kn : Int) ≤ 17 := by omega
      clear hc hne hd w0 w16 wl wu wn hs pok pfine hP hT hok HT
      go_wp2_with fail
      refine (isPart_any _ _).mono ?_
      rintro e8 w8 ⟨rfl, hw8⟩
      obtain rfl := hw8.symm
      have hpb : partB (kn : Int) = true := by unfold partB; simp; omega
      rw [hpb]
      clear hw8 hpb
      have HOa : Hid (Ol (wr.alloc (.cells (Pt.mk (kn : Int) xs xv xi).cells 36)) w1.heap.size s k u ∧ Keep [] w (wr.alloc (.cells (Pt.mk (kn : Int) xs xv xi).cells 36)) ∧ (∀ x, u.ownBlock = some x → w.heap.size ≤ x)) := ⟨oI.keep (Keep.alloc1 _ _) (by simp) (Off.nil _), kI.alloc _, fI⟩
      clear oI kI fI HI
      go_wp2_with fail
      refine (fault_any _ s k u _ HOa.out.1 HN.out.2.2.2.2 HN.out.2.2.2.1).mono ?_
      rintro e8 w8 ⟨rfl, hw8⟩
      obtain rfl := hw8.symm
      clear hw8
      go_wp2_with fail
      refine (partFault_fine (Pt.mk (kn : Int) xs xv xi) HP.out.1 HP.out.2 _).mono ?_
      rintro e8 w8 ⟨rfl, k8⟩
      have x0 : w8.cell? ⟨wr.heap.size, 0, none⟩ = some (.int .i64 (kn : Int)) := k8.cell' (by go_simp) (by simp)
      have hm8 : w8.cell? ⟨1, kn * 3 + 1, none⟩ = some (.int .i64 (madeN (kn : Int))) := k8.cell' ((Keep.alloc1 wr _).cell' hm (by simp)) (by simp)
      have HOb : Hid (Ol w8 w1.heap.size s k u ∧ Keep [] w w8 ∧ (∀ x, u.ownBlock = some x → w.heap.size ≤ x)) := ⟨HOa.out.1.keep k8 (by simp) (Off.nil _), HOa.out.2.1.trans' k8, HOa.out.2.2⟩
      clear k8 hm HOa
      have hA : ∀ w', w' = w8 → Calls Tryz.prog 114 #[.pointer (some ⟨w1.heap.size, 0, none⟩), .int .i64 (madeN (kn : Int))] w' fun e w9 => e = .returned (.tuple #[]) ∧ ∃ v', Ol w9 w1.heap.size (stk1 s (kn : Int)) (k + 1) v' ∧ Keep (w1.heap.size :: u.ownBlock.toList) w8 w9 ∧ (v'.ownBlock = u.ownBlock ∨ Fresh w8 w9 v') := by
        intro w' hw'
        rw [hw']
        obtain ⟨_, n1, n2, n3, n4⟩ := HN.out
        have o := HOb.out.1
        rw [last_split n4] at o
        exact add_any w1.heap.size s.dropLast (s.getLastD 0) (madeN (kn : Int)) k u w8 o (by rw [List.length_dropLast]; omega) (by omega) n1 n2
      generalize hmm : madeN (kn : Int) = mm at hm8 hA
      have HA : Hid (∀ w', w' = w8 → Calls Tryz.prog 114 #[.pointer (some ⟨w1.heap.size, 0, none⟩), .int .i64 mm] w' fun e w9 => e = .returned (.tuple #[]) ∧ ∃ v', Ol w9 w1.heap.size (stk1 s (kn : Int)) (k + 1) v' ∧ Keep (w1.heap.size :: u.ownBlock.toList) w8 w9 ∧ (v'.ownBlock = u.ownBlock ∨ Fresh w8 w9 v')) := hA
      clear hA hmm
      go_wp2_with fail
      refine (HA.out _ rfl).mono ?_
      rintro e9 w9 ⟨rfl, v9, o9, k9, f9⟩
      have HR : Hid (Keep [] w w9 ∧ Ol w9 w1.heap.size (stk1 s (kn : Int)) (k + 1) v9 ∧ (∀ x, v9.ownBlock = some x → w.heap.size ≤ x) ∧ wfK ((l.map Pt.kind).drop (k + 1)) (stk1 s (kn : Int)) = true) := by
        obtain ⟨_, kb, fb⟩ := HOb.out
        refine ⟨kb.more k9 (fun x hx => ?_), o9, fun x hx => ?_, HN.out.1⟩
        · simp at hx
          rcases hx with rfl | hx
          · exact .inr hz1.out
          · exact .inr (fb x (by simpa using hx))
        · rcases f9 with e | e
          · exact fb x (by rw [← e]; exact hx)
          · exact Nat.le_trans kb.size (e x hx).1
      clear o9 k9 f9 HA HOb HN HP x0 hm8
      go_wp2
      go_roundw
      case rel => exact ⟨k + 1, _, v9, by go_num, by omega, HR.out⟩
      case measure => simp [intOf]; omega
    · have hlti : ¬ (k : Int) < (l.length : Int) := by omega
      obtain rfl : k = l.length := by omega
      have hs : s = [] := by
        have := HI.out.2.2.2
        rw [List.drop_eq_nil_of_le (by simp)] at this
        simpa [wfK] using this
      subst hs
      have HO : Hid (Ol wr w1.heap.size [] l.length u ∧ Keep [] w wr) := ⟨HI.out.2.1, HI.out.1⟩
      clear HI
      have c1 := HO.out.1.cell1
      have hE := fun n => end_any w1.heap.size l.length u (wr.drewN n) (HO.out.1.keep ((Keep.refl [] wr).drewN n) (by simp) (Off.nil _))
      go_wp2_with fail
      go_quiet (first | (go_at_call 115; exact Calls.quiet_of_same (hE _)))
      go_wp2
      refine bodyPost_ret (v := .tuple #[.int .i64 0, .int .i64 (l.length : Int)]) (by simp [results, Tryz.results84, go_sem]) rfl ⟨rfl, HO.out.2.drewN _⟩
end Go.Proofs.YtplbclokoffgkaaGreatDoor
