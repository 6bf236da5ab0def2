/- A sheet: parts that are values, and parts that are made of one. -/
import Derived.Test.YtplbclokoffgkaaGreatDoorCdM

namespace Go.Proofs.YtplbclokoffgkaaGreatDoor
open Go.RowKit Go.PlainAid

/-- where a sheet was written to behind a box: what lay there lies there -/
theorem sheet_kept {w w' : World} {b n : Nat} {v v' lv : Value} {l : List Pt} {cs : Array Value} {T : TypeId} (hb : Bn w b n v) (h2 : Pp w lv l ∧ Tb w ∧ Lo b lv ∧ 15 ≤ b) (h : Wd b v v' (w.alloc (.cells cs T)) w') : Pp w' lv l ∧ Tb w' ∧ ∀ j u, cs[j]? = some u → w'.cell? ⟨w.heap.size, j, none⟩ = some u := by
  have d := h.alloc
  refine ⟨h2.1.keep d.keep (h2.2.2.1.off hb), h2.2.1.keep d.keep (fun x hx => hb.low (by have := h2.2.2.2; omega)), fun j u hu => ?_⟩
  refine h.keep.cell' (by rw [World.cell?_alloc_at cs T w.heap.size j rfl]; exact hu) ?_
  intro hm
  simp at hm
  rcases hm with e | e
  · have := hb.lt; omega
  · have := (hb.rowlt _ e).2; omega

set_option maxRecDepth 1000000 in
set_option maxHeartbeats 3200000 in
theorem part_val (vk vi : Int) (hok : TextOk vk vi) (lv : Value) (l : List Pt) (i : Nat) (rest : List Pt) (hd : l.drop i = ⟨1, ⟨#[]⟩, vk, vi⟩ :: rest) (hl : l.length ≤ 100) : Cl 87 (fun p => #[p, lv, .int .i64 (i : Int)]) lv l ((i : Int) + 1) 2048 := by
  refine Cl.more (c := 256) ?_ (by omega)
  intro b n v w h1 h2 h3 h4 h5 h6
  obtain ⟨hi, hx, hr⟩ := drop_head hd
  have H2 : Hid (Pp w lv l ∧ Tb w ∧ Lo b lv ∧ 15 ≤ b) := ⟨h2, h3, h4, h5⟩
  obtain ⟨g, o, ca, rfl, c0, c1, c2, c3, c4, c5, c6, c7⟩ := h2.at i hi
  rw [hx] at c0 c1 c2 c4
  have hil : (i : Int) < (l.length : Int) := by omega
  have hil2 : (i : Int) ≤ 100 := by omega
  have hsf := store_f32
  simp only [Go.stored] at hsf
  have HB : Hid (Bn w b n v) := h1
  have t1 : (w.alloc (.cells #[.int .i64 1, .string ⟨#[]⟩, .int .i64 vk, .bool false, .int .i64 vi, .float .f32 0, .string ⟨#[]⟩, .slice none 0 0] 36)).cell? ⟨1, 5, none⟩ = some (.string (signN 1)) := (Keep.alloc1 w _).cell' (h3.sign 1 (by omega) (by omega)) (by simp)
  have hn : n + 1 * 256 ≤ 65536 := h6
  have HX : Hid _ := hok _ (h3.keep (Keep.alloc1 w (.cells #[.int .i64 1, .string ⟨#[]⟩, .int .i64 vk, .bool false, .int .i64 vi, .float .f32 0, .string ⟨#[]⟩, .slice none 0 0] 36)) (by simp))
  clear h1 h2 h3 h4 h5 h6 hd hx hr
  dsimp only
  go_enter Tryz.func87, Tryz.ntmps87
  go_wp2_with fail
  refine Calls.mono HX.out ?_
  rintro e8 w8 ⟨s, rfl, hs, k8⟩
  have HB8 : Hid (Bn w8 b n v ∧ Keep [] w w8) := ⟨(HB.out.alloc _).keep0 k8, (Keep.alloc1 w _).trans' k8⟩
  clear k8 HX
  go_wp2_with fail
  refine (put_at (w8.heap.size) b n v [s] #[.string s] 1 w8 rfl HB8.out.1 rfl (fun j hj => by simp at hj; subst hj; rfl) (fun x hx => by simp at hx; subst hx; exact hs) hn).mono ?_
  rintro e9 w9 ⟨rfl, v9, b9, d9⟩
  have HR : Hid (Bn w9 b (n + 256) v9 ∧ Wd b v v9 w w9) := ⟨b9, Wd.pre HB8.out.2 d9⟩
  clear b9 d9
  go_wp2
  go_ret
  exact ⟨rfl, v9, HR.out⟩

set_option maxRecDepth 1000000 in
set_option maxHeartbeats 3200000 in
theorem part_un3 (lv : Value) (l : List Pt) (i : Nat) (r : Int) (c : Nat) (rest : List Pt) (hd : l.drop i = ⟨3, ⟨#[]⟩, 0, 0⟩ :: rest) (hl : l.length ≤ 100) (h : Cl 123 (fun p => #[p, .int .i64 3, lv, .int .i64 ((i : Int) + 1)]) lv l r c) : Cl 87 (fun p => #[p, lv, .int .i64 (i : Int)]) lv l r (c + 256) := by
  intro b n v w h1 h2 h3 h4 h5 h6
  obtain ⟨hi, hx, hr⟩ := drop_head hd
  have H2 : Hid (Pp w lv l ∧ Tb w ∧ Lo b lv ∧ 15 ≤ b) := ⟨h2, h3, h4, h5⟩
  obtain ⟨g, o, ca, rfl, c0, c1, c2, c3, c4, c5, c6, c7⟩ := h2.at i hi
  rw [hx] at c0 c1 c2 c4
  have hil : (i : Int) < (l.length : Int) := by omega
  have hil2 : (i : Int) ≤ 100 := by omega
  have hsf := store_f32
  simp only [Go.stored] at hsf
  have HB : Hid (Bn w b n v) := h1
  have t1 : (w.alloc (.cells #[.int .i64 3, .string ⟨#[]⟩, .int .i64 0, .bool false, .int .i64 0, .float .f32 0, .string ⟨#[]⟩, .slice none 0 0] 36)).cell? ⟨1, 11, none⟩ = some (.string (signN 3)) := (Keep.alloc1 w _).cell' (h3.sign 3 (by omega) (by omega)) (by simp)
  have hn : n + 1 * 256 ≤ 65536 := by omega
  have hn6 : n + (c + 256) ≤ 65536 := h6
  clear h1 h2 h3 h4 h5 h6 hd hx hr
  dsimp only
  go_enter Tryz.func87, Tryz.ntmps87
  go_wp2_with fail
  refine (put_at (w.heap.size + 1) b n v [signN 3] #[.string (signN 3)] 1 (w.alloc (.cells #[.int .i64 3, .string ⟨#[]⟩, .int .i64 0, .bool false, .int .i64 0, .float .f32 0, .string ⟨#[]⟩, .slice none 0 0] 36)) (by simp) (HB.out.alloc _) rfl (by intro j hj; match j with | 0 => rfl | j + 1 => exact absurd hj (by simp)) (by intro x hx; simp at hx; rcases hx with rfl <;> decide) hn).mono ?_
  rintro e9 w9 ⟨rfl, v9, b9, d9⟩
  obtain ⟨p9, t9, x9⟩ := sheet_kept HB.out H2.out d9
  have x0 := x9 0 _ rfl
  have hF := h b (n + 1 * 256) v9 w9 b9 p9 t9 H2.out.2.2.1 H2.out.2.2.2 (by omega)
  have HD : Hid (Wd b v v9 w w9) := d9.alloc
  clear b9 d9 p9 t9 x9
  dsimp only at hF
  go_wp2_with fail
  refine hF.mono ?_
  rintro e8 w8 ⟨rfl, v8, b8, d8⟩
  have HR : Hid (Bn w8 b (n + (c + 256)) v8 ∧ Wd b v v8 w w8) := ⟨b8.mono (by omega), HD.out.trans d8⟩
  clear b8 d8 hF HD
  go_wp2
  go_ret
  exact ⟨rfl, v8, HR.out⟩

set_option maxRecDepth 1000000 in
set_option maxHeartbeats 3200000 in
theorem part_un4 (lv : Value) (l : List Pt) (i : Nat) (r : Int) (c : Nat) (rest : List Pt) (hd : l.drop i = ⟨4, ⟨#[]⟩, 0, 0⟩ :: rest) (hl : l.length ≤ 100) (h : Cl 123 (fun p => #[p, .int .i64 4, lv, .int .i64 ((i : Int) + 1)]) lv l r c) : Cl 87 (fun p => #[p, lv, .int .i64 (i : Int)]) lv l r (c + 512) := by
  intro b n v w h1 h2 h3 h4 h5 h6
  obtain ⟨hi, hx, hr⟩ := drop_head hd
  have H2 : Hid (Pp w lv l ∧ Tb w ∧ Lo b lv ∧ 15 ≤ b) := ⟨h2, h3, h4, h5⟩
  obtain ⟨g, o, ca, rfl, c0, c1, c2, c3, c4, c5, c6, c7⟩ := h2.at i hi
  rw [hx] at c0 c1 c2 c4
  have hil : (i : Int) < (l.length : Int) := by omega
  have hil2 : (i : Int) ≤ 100 := by omega
  have hsf := store_f32
  simp only [Go.stored] at hsf
  have HB : Hid (Bn w b n v) := h1
  have t1 : (w.alloc (.cells #[.int .i64 4, .string ⟨#[]⟩, .int .i64 0, .bool false, .int .i64 0, .float .f32 0, .string ⟨#[]⟩, .slice none 0 0] 36)).cell? ⟨1, 14, none⟩ = some (.string (signN 4)) := (Keep.alloc1 w _).cell' (h3.sign 4 (by omega) (by omega)) (by simp)
  have hn : n + 2 * 256 ≤ 65536 := by omega
  have hn6 : n + (c + 512) ≤ 65536 := h6
  clear h1 h2 h3 h4 h5 h6 hd hx hr
  dsimp only
  go_enter Tryz.func87, Tryz.ntmps87
  go_wp2_with fail
  refine (put_at (w.heap.size + 1) b n v [signN 4, ⟨#[32]⟩] #[.string (signN 4), .string (⟨#[32]⟩)] 2 (w.alloc (.cells #[.int .i64 4, .string ⟨#[]⟩, .int .i64 0, .bool false, .int .i64 0, .float .f32 0, .string ⟨#[]⟩, .slice none 0 0] 36)) (by simp) (HB.out.alloc _) rfl (by intro j hj; match j with | 0 => rfl | 1 => rfl | j + 2 => exact absurd hj (by simp)) (by intro x hx; simp at hx; rcases hx with rfl | rfl <;> decide) hn).mono ?_
  rintro e9 w9 ⟨rfl, v9, b9, d9⟩
  obtain ⟨p9, t9, x9⟩ := sheet_kept HB.out H2.out d9
  have x0 := x9 0 _ rfl
  have hF := h b (n + 2 * 256) v9 w9 b9 p9 t9 H2.out.2.2.1 H2.out.2.2.2 (by omega)
  have HD : Hid (Wd b v v9 w w9) := d9.alloc
  clear b9 d9 p9 t9 x9
  dsimp only at hF
  go_wp2_with fail
  refine hF.mono ?_
  rintro e8 w8 ⟨rfl, v8, b8, d8⟩
  have HR : Hid (Bn w8 b (n + (c + 512)) v8 ∧ Wd b v v8 w w8) := ⟨b8.mono (by omega), HD.out.trans d8⟩
  clear b8 d8 hF HD
  go_wp2
  go_ret
  exact ⟨rfl, v8, HR.out⟩

end Go.Proofs.YtplbclokoffgkaaGreatDoor

/- A sheet: parts that are made of two; every tree. -/
namespace Go.Proofs.YtplbclokoffgkaaGreatDoor
open Go.RowKit Go.PlainAid

theorem ite_sz {p : Prop} [Decidable p] {a b : ByteArray} (ha : a.size ≤ 256) (hb : b.size ≤ 256) : (if p then a else b).size ≤ 256 := by split <;> assumption
set_option maxRecDepth 1000000 in
theorem sign_size (k : Int) : (signN k).size ≤ 256 := by
  unfold signN
  repeat (refine ite_sz (by decide) ?_)
  decide
set_option maxRecDepth 1000000 in
theorem kind_size (k : Int) : (kindS k).size ≤ 256 := by
  unfold kindS
  repeat (refine ite_sz (by decide) ?_)
  decide

set_option maxRecDepth 1000000 in
set_option maxHeartbeats 3200000 in
theorem part_bin (k : Nat) (hk5 : 5 ≤ k) (hk17 : k ≤ 17) (lv : Value) (l : List Pt) (i m : Nat) (r : Int) (c c' : Nat) (rest : List Pt) (hd : l.drop i = ⟨(k : Int), ⟨#[]⟩, 0, 0⟩ :: rest) (hl : l.length ≤ 100)
    (h : Cl 123 (fun p => #[p, .int .i64 (k : Int), lv, .int .i64 ((i : Int) + 1)]) lv l (m : Int) c) (h' : Cl 124 (fun p => #[p, .int .i64 (k : Int), lv, .int .i64 (m : Int)]) lv l r c') : Cl 87 (fun p => #[p, lv, .int .i64 (i : Int)]) lv l r (c + c' + 768) := by
  intro b n v w h1 h2 h3 h4 h5 h6
  obtain ⟨hi, hx, hr⟩ := drop_head hd
  have H2 : Hid (Pp w lv l ∧ Tb w ∧ Lo b lv ∧ 15 ≤ b) := ⟨h2, h3, h4, h5⟩
  obtain ⟨g, o, ca, rfl, c0, c1, c2, c3, c4, c5, c6, c7⟩ := h2.at i hi
  rw [hx] at c0 c1 c2 c4
  have hil : (i : Int) < (l.length : Int) := by omega
  have hil2 : (i : Int) ≤ 100 := by omega
  have hsf := store_f32
  simp only [Go.stored] at hsf
  have HB : Hid (Bn w b n v) := h1
  have t1 : (w.alloc (.cells #[.int .i64 (k : Int), .string ⟨#[]⟩, .int .i64 0, .bool false, .int .i64 0, .float .f32 0, .string ⟨#[]⟩, .slice none 0 0] 36)).cell? ⟨1, k * 3 + 2, none⟩ = some (.string (signN (k : Int))) := (Keep.alloc1 w _).cell' (h3.sign k (by omega) (by omega)) (by simp)
  have hn6 : n + (c + c' + 768) ≤ 65536 := h6
  have b1 : ((k : Int) == 1) = false := by simp; omega
  have b2 : ((k : Int) == 2) = false := by simp; omega
  have b3 : ((k : Int) == 3) = false := by simp; omega
  have b4 : ((k : Int) == 4) = false := by simp; omega
  have hki : (k : Int) ≤ 17 := by omega
  have hF : Calls Tryz.prog 123 #[.pointer (some ⟨b, 0, none⟩), .int .i64 (k : Int), .slice (some ⟨g, o, none⟩) l.length ca, .int .i64 ((i : Int) + 1)] (w.alloc (.cells #[.int .i64 (k : Int), .string ⟨#[]⟩, .int .i64 0, .bool false, .int .i64 0, .float .f32 0, .string ⟨#[]⟩, .slice none 0 0] 36)) fun e w' => e = .returned (.int .i64 (m : Int)) ∧ ∃ v', Bn w' b (n + c) v' ∧ Wd b v v' (w.alloc (.cells #[.int .i64 (k : Int), .string ⟨#[]⟩, .int .i64 0, .bool false, .int .i64 0, .float .f32 0, .string ⟨#[]⟩, .slice none 0 0] 36)) w' :=
    h b n v (w.alloc (.cells #[.int .i64 (k : Int), .string ⟨#[]⟩, .int .i64 0, .bool false, .int .i64 0, .float .f32 0, .string ⟨#[]⟩, .slice none 0 0] 36)) (h1.alloc _) (h2.keep0 (Keep.alloc1 _ _)) (h3.keep (Keep.alloc1 _ _) (by simp)) h4 h5 (by omega)
  generalize hsg : signN (k : Int) = sg at t1
  have HSz : Hid (sg.size ≤ 256) := by rw [← hsg]; exact sign_size _
  clear h1 h2 h3 h4 h5 h6 hd hx hr hsg h
  dsimp only
  go_enter Tryz.func87, Tryz.ntmps87
  go_wp2_with fail
  refine hF.mono ?_
  rintro e9 w9 ⟨rfl, v9, b9, d9⟩
  obtain ⟨p9, t9, x9⟩ := sheet_kept HB.out H2.out d9
  have x0 := x9 0 _ rfl
  have HD : Hid (Wd b v v9 w w9 ∧ Bn w9 b (n + c) v9 ∧ Pp w9 (.slice (some ⟨g, o, none⟩) l.length ca) l ∧ Tb w9 ∧ ∀ k, v9.ownBlock = some k → k ≠ w.heap.size) := by
    refine ⟨d9.alloc, b9, p9, t9, fun k hk he => ?_⟩
    rcases d9.nw with e | e
    · have := (HB.out.rowlt k (by rw [← e]; exact hk)).2; omega
    · have := (e k hk).1; simp at this; omega
  clear b9 d9 p9 t9 x9 hF
  go_wp2_with fail
  refine (put_at w9.heap.size b (n + c) v9 [⟨#[32]⟩, sg, ⟨#[32]⟩] #[.string ⟨#[32]⟩, .string sg, .string ⟨#[32]⟩] 3 w9 rfl HD.out.2.1 rfl (by intro j hj; match j with | 0 => rfl | 1 => rfl | 2 => rfl | j + 3 => exact absurd hj (by simp)) (by intro x hx; simp at hx; rcases hx with rfl | rfl | rfl; decide; exact HSz.out; decide) (by omega)).mono ?_
  rintro e8 w8 ⟨rfl, v8, b8, d8⟩
  have y0 : w8.cell? ⟨w.heap.size, 0, none⟩ = some (.int .i64 (k : Int)) := by
    refine d8.keep.cell' x0 ?_
    intro hm
    simp at hm
    rcases hm with e | e
    · have := HB.out.lt; omega
    · exact HD.out.2.2.2.2 _ e rfl
  have hS : Calls Tryz.prog 124 #[.pointer (some ⟨b, 0, none⟩), .int .i64 (k : Int), .slice (some ⟨g, o, none⟩) l.length ca, .int .i64 (m : Int)] w8 fun e w' => e = .returned (.int .i64 r) ∧ ∃ v', Bn w' b (n + c + 3 * 256 + c') v' ∧ Wd b v8 v' w8 w' :=
    h' b (n + c + 3 * 256) v8 w8 b8 (HD.out.2.2.1.keep d8.keep (H2.out.2.2.1.off HD.out.2.1)) (HD.out.2.2.2.1.keep d8.keep (fun x hx => HD.out.2.1.low (by have := H2.out.2.2.2; omega))) H2.out.2.2.1 H2.out.2.2.2 (by omega)
  have HD8 : Hid (Wd b v v8 w w8) := HD.out.1.trans d8
  clear b8 d8 HD x0 h'
  go_wp2_with fail
  refine hS.mono ?_
  rintro e7 w7 ⟨rfl, v7, b7, d7⟩
  have HR : Hid (Bn w7 b (n + (c + c' + 768)) v7 ∧ Wd b v v7 w w7) := ⟨b7.mono (by omega), HD8.out.trans d7⟩
  clear b7 d7 hS HD8
  go_wp2
  go_ret
  exact ⟨rfl, v7, HR.out⟩

theorem flat_pos (t : Tr) (h : t.ok) : 1 ≤ t.flat.length := by
  obtain ⟨p, q, e, _⟩ := t.head h
  rw [e]
  simp
/-- every tree is written; the answer is where the next one begins -/
theorem part_any (t : Tr) : ∀ (_ : t.ok) (lv : Value) (l : List Pt) (i : Nat) (rest : List Pt) (_ : l.drop i = t.flat ++ rest) (_ : l.length ≤ 100), Cl 87 (fun p => #[p, lv, .int .i64 (i : Int)]) lv l ((i : Int) + (t.flat.length : Int)) (2048 * t.flat.length) := by
  induction t with
  | val vk vi => intro h lv l i rest hd hl; exact part_val vk vi h.1 lv l i rest hd hl
  | par s => intro h lv l i rest hd hl; exact part_par s h lv l i rest hd hl
  | un k t ih =>
    intro h lv l i rest hd hl
    obtain ⟨hi, hx, hr⟩ := drop_head (p := ⟨(k : Int), ⟨#[]⟩, 0, 0⟩) (q := t.flat ++ rest) hd
    have hp := ih h.2 lv l (i + 1) rest hr hl
    obtain ⟨p, q, e, h1, h2, h3⟩ := t.head h.2
    obtain ⟨hi1, hx1, _⟩ := drop_head (p := p) (q := q ++ rest) (by rw [hr, e]; rfl)
    have e1 : ((i + 1 : Nat) : Int) = (i : Int) + 1 := by omega
    have e2 : (((Tr.un k t).flat.length : Nat) : Int) = 1 + (t.flat.length : Int) := by simp [Tr.flat]; omega
    have e3 : (Tr.un k t).flat.length = t.flat.length + 1 := by simp [Tr.flat]
    have hF := fun (hk1 : 1 ≤ k) (hk2 : k ≤ 17) => first_of lv l (i + 1) k _ _ hi1 hk1 hk2 (by rw [hx1]; exact h1) (by rw [hx1]; exact h2) (by rw [hx1]; exact h3) hp
    rw [e1] at hF
    have e4 : (i : Int) + 1 + (t.flat.length : Int) = (i : Int) + (((Tr.un k t).flat.length : Nat) : Int) := by rw [e2]; omega
    rw [e4] at hF
    rcases h.1 with rfl | rfl
    · exact (part_un3 lv l i _ _ (t.flat ++ rest) hd hl (hF (by omega) (by omega))).more (by rw [e3]; omega)
    · exact (part_un4 lv l i _ _ (t.flat ++ rest) hd hl (hF (by omega) (by omega))).more (by rw [e3]; omega)
  | bin k a b iha ihb =>
    intro h lv l i rest hd hl
    have hd' : l.drop i = ⟨(k : Int), ⟨#[]⟩, 0, 0⟩ :: (a.flat ++ (b.flat ++ rest)) := by rw [hd]; simp [Tr.flat]
    obtain ⟨hi, hx, hr⟩ := drop_head hd'
    have hr2 : l.drop (i + 1 + a.flat.length) = b.flat ++ rest := by
      rw [← List.drop_drop, hr]; simp
    have hp := iha h.2.1 lv l (i + 1) (b.flat ++ rest) hr hl
    have hq := ihb h.2.2 lv l (i + 1 + a.flat.length) rest hr2 hl
    obtain ⟨p, q, e, h1, h2, h3⟩ := a.head h.2.1
    obtain ⟨hi1, hx1, _⟩ := drop_head (p := p) (q := q ++ (b.flat ++ rest)) (by rw [hr, e]; rfl)
    obtain ⟨p', q', e', h1', h2', h3'⟩ := b.head h.2.2
    obtain ⟨hi2, hx2, _⟩ := drop_head (p := p') (q := q' ++ rest) (by rw [hr2, e']; rfl)
    have hF := first_of lv l (i + 1) k _ _ hi1 (by have := h.1; omega) (by have := h.1; omega) (by rw [hx1]; exact h1) (by rw [hx1]; exact h2) (by rw [hx1]; exact h3) hp
    have hS := second_of lv l (i + 1 + a.flat.length) k _ _ hi2 (by have := h.1; omega) (by have := h.1; omega) (by rw [hx2]; exact h1') (by rw [hx2]; exact h2') (by rw [hx2]; exact h3') hq
    have e1 : ((i + 1 : Nat) : Int) = (i : Int) + 1 := by omega
    have e3 : (Tr.bin k a b).flat.length = a.flat.length + b.flat.length + 1 := by simp [Tr.flat]
    have e4 : ((i + 1 : Nat) : Int) + (a.flat.length : Int) = ((i + 1 + a.flat.length : Nat) : Int) := by omega
    have e5 : ((i + 1 + a.flat.length : Nat) : Int) + (b.flat.length : Int) = (i : Int) + (((Tr.bin k a b).flat.length : Nat) : Int) := by rw [e3]; omega
    rw [e4, e1] at hF
    rw [e5] at hS
    have hp1 := flat_pos a h.2.1
    exact (part_bin k h.1.1 h.1.2 lv l i (i + 1 + a.flat.length) _ _ _ (a.flat ++ (b.flat ++ rest)) hd' hl hF hS).more (by rw [e3]; omega)
end Go.Proofs.YtplbclokoffgkaaGreatDoor
