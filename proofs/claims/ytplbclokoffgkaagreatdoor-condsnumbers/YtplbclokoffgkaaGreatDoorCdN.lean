/- A sheet: parts that are values, and parts that are made of one. -/
import Derived.Test.YtplbclokoffgkaaGreatDoorCdM
namespace Go.Proofs.YtplbclokoffgkaaGreatDoor
open Go.RowKit Go.PlainAid

/-- where a sheet was written to behind a box: what lay there lies there -/
theorem sheet_kept {w w' : World} {b n : Nat} {v v' lv : Value} {l : List Pt} {cs : Array Value} {T : TypeId} (hb : Bn w b n v) (h2 : Pp w lv l ∧ Tb w ∧ Lo b lv ∧ 15 ≤ b) (h : Wd b v v' (w.alloc (.cells cs T)) w') : Pp w' lv l ∧ Tb w' ∧ ∀ j u, cs[j]? = some u → w'.cell? ⟨w.heap.size, j, none⟩ = some u := by
  have d := h.alloc
  refine ⟨h2.1.keep d.keep (h2.2.2.1.off hb), h2.2.1.keep d.keep (fun x hx => hb.low (by have := h2.2.2.2; omega)), fun j u hu => ?_⟩
  refine h.keep.cell' (by rw [World.cell?_alloc_at cs T w.heap.size j rfl]; exact hu) ?_
  intro hm
  simp at hm
  rcases hm with e | e
  · have := hb.lt; omega
  · have := (hb.rowlt _ e).2; omega

set_option maxRecDepth 1000000 in
set_option maxHeartbeats 3200000 in
theorem part_val (vk vi : Int) (hok : TextOk vk vi) (lv : Value) (l : List Pt) (i : Nat) (rest : List Pt) (hd : l.drop i = ⟨1, ⟨#[]⟩, vk, vi⟩ :: rest) (hl : l.length ≤ 100) : Cl 87 (fun p => #[p, lv, .int .i64 (i : Int)]) lv l ((i : Int) + 1) 2048 := by
  refine Cl.more (c := 256) ?_ (by omega)
  intro b n v w h1 h2 h3 h4 h5 h6
  obtain ⟨hi, hx, hr⟩ := drop_head hd
  have H2 : Hid (Pp w lv l ∧ Tb w ∧ Lo b lv ∧ 15 ≤ b) := ⟨h2, h3, h4, h5⟩
  obtain ⟨g, o, ca, rfl, c0, c1, c2, c3, c4, c5, c6, c7⟩ := h2.at i hi
  rw [hx] at c0 c1 c2 c4
  have hil : (i : Int) < (l.length : Int) := by omega
  have hil2 : (i : Int) ≤ 100 := by omega
  have hsf := store_f32
  simp only [Go.stored] at hsf
  have HB : Hid (Bn w b n v) := h1
  have t1 : (w.alloc (.cells #[.int .i64 1, .string ⟨#[]⟩, .int .i64 vk, .bool false, .int .i64 vi, .float .f32 0, .string ⟨#[]⟩, .slice none 0 0] 36)).cell? ⟨1, 5, none⟩ = some (.string (signN 1)) := (Keep.alloc1 w _).cell' (h3.sign 1 (by omega) (by omega)) (by simp)
  have hn : n + 1 * 256 ≤ 65536 := h6
  have HX : Hid _ := hok _ (h3.keep (Keep.alloc1 w (.cells #[.int .i64 1, .string ⟨#[]⟩, .int .i64 vk, .bool false, .int .i64 vi, .float .f32 0, .string ⟨#[]⟩, .slice none 0 0] 36)) (by simp))
  clear h1 h2 h3 h4 h5 h6 hd hx hr
  dsimp only
  go_enter Tryz.func87, Tryz.ntmps87
  go_wp2_with fail
  refine Calls.mono HX.out ?_
  rintro e8 w8 ⟨s, rfl, hs, k8⟩
  have HB8 : Hid (Bn w8 b n v ∧ Keep [] w w8) := ⟨(HB.out.alloc _).keep0 k8, (Keep.alloc1 w _).trans' k8⟩
  clear k8 HX
  go_wp2_with fail
  refine (put_at (w8.heap.size) b n v [s] #[.string s] 1 w8 rfl HB8.out.1 rfl (fun j hj => by simp at hj; subst hj; rfl) (fun x hx => by simp at hx; subst hx; exact hs) hn).mono ?_
  rintro e9 w9 ⟨rfl, v9, b9, d9⟩
  have HR : Hid (Bn w9 b (n + 256) v9 ∧ Wd b v v9 w w9) := ⟨b9, Wd.pre HB8.out.2 d9⟩
  clear b9 d9
  go_wp2
  go_ret
  exact ⟨rfl, v9, HR.out⟩

set_option maxRecDepth 1000000 in
set_option maxHeartbeats 3200000 in
theorem part_un3 (lv : Value) (l : List Pt) (i : Nat) (r : Int) (c : Nat) (rest : List Pt) (hd : l.drop i = ⟨3, ⟨#[]⟩, 0, 0⟩ :: rest) (hl : l.length ≤ 100) (h : Cl 123 (fun p => #[p, .int .i64 3, lv, .int .i64 ((i : Int) + 1)]) lv l r c) : Cl 87 (fun p => #[p, lv, .int .i64 (i : Int)]) lv l r (c + 256) := by
  intro b n v w h1 h2 h3 h4 h5 h6
  obtain ⟨hi, hx, hr⟩ := drop_head hd
  have H2 : Hid (Pp w lv l ∧ Tb w ∧ Lo b lv ∧ 15 ≤ b) := ⟨h2, h3, h4, h5⟩
  obtain ⟨g, o, ca, rfl, c0, c1, c2, c3, c4, c5, c6, c7⟩ := h2.at i hi
  rw [hx] at c0 c1 c2 c4
  have hil : (i : Int) < (l.length : Int) := by omega
  have hil2 : (i : Int) ≤ 100 := by omega
  have hsf := store_f32
  simp only [Go.stored] at hsf
  have HB : Hid (Bn w b n v) := h1
  have t1 : (w.alloc (.cells #[.int .i64 3, .string ⟨#[]⟩, .int .i64 0, .bool false, .int .i64 0, .float .f32 0, .string ⟨#[]⟩, .slice none 0 0] 36)).cell? ⟨1, 11, none⟩ = some (.string (signN 3)) := (Keep.alloc1 w _).cell' (h3.sign 3 (by omega) (by omega)) (by simp)
  have hn : n + 1 * 256 ≤ 65536 := by omega
  have hn6 : n + (c + 256) ≤ 65536 := h6
  clear h1 h2 h3 h4 h5 h6 hd hx hr
  dsimp only
  go_enter Tryz.func87, Tryz.ntmps87
  go_wp2_with fail
  refine (put_at (w.heap.size + 1) b n v [signN 3] #[.string (signN 3)] 1 (w.alloc (.cells #[.int .i64 3, .string ⟨#[]⟩, .int .i64 0, .bool false, .int .i64 0, .float .f32 0, .string ⟨#[]⟩, .slice none 0 0] 36)) (by simp) (HB.out.alloc _) rfl (by intro j hj; match j with | 0 => rfl | j + 1 => exact absurd hj (by simp)) (by intro x hx; simp at hx; rcases hx with rfl <;> decide) hn).mono ?_
  rintro e9 w9 ⟨rfl, v9, b9, d9⟩
  obtain ⟨p9, t9, x9⟩ := sheet_kept HB.out H2.out d9
  have x0 := x9 0 _ rfl
  have hF := h b (n + 1 * 256) v9 w9 b9 p9 t9 H2.out.2.2.1 H2.out.2.2.2 (by omega)
  have HD : Hid (Wd b v v9 w w9) := d9.alloc
  clear b9 d9 p9 t9 x9
  dsimp only at hF
  go_wp2_with fail
  refine hF.mono ?_
  rintro e8 w8 ⟨rfl, v8, b8, d8⟩
  have HR : Hid (Bn w8 b (n + (c + 256)) v8 ∧ Wd b v v8 w w8) := ⟨b8.mono (by omega), HD.out.trans d8⟩
  clear b8 d8 hF HD
  go_wp2
  go_ret
  exact ⟨rfl, v8, HR.out⟩

set_option maxRecDepth 1000000 in
set_option maxHeartbeats 3200000 in
theorem part_un4 (lv : Value) (l : List Pt) (i : Nat) (r : Int) (c : Nat) (rest : List Pt) (hd : l.drop i = ⟨4, ⟨#[]⟩, 0, 0⟩ :: rest) (hl : l.length ≤ 100) (h : Cl 123 (fun p => #[p, .int .i64 4, lv, .int .i64 ((i : Int) + 1)]) lv l r c) : Cl 87 (fun p => #[p, lv, .int .i64 (i : Int)]) lv l r (c + 512) := by
  intro b n v w h1 h2 h3 h4 h5 h6
  obtain ⟨hi, hx, hr⟩ := drop_head hd
  have H2 : Hid (Pp w lv l ∧ Tb w ∧ Lo b lv ∧ 15 ≤ b) := ⟨h2, h3, h4, h5⟩
  obtain ⟨g, o, ca, rfl, c0, c1, c2, c3, c4, c5, c6, c7⟩ := h2.at i hi
  rw [hx] at c0 c1 c2 c4
  have hil : (i : Int) < (l.length : Int) := by omega
  have hil2 : (i : Int) ≤ 100 := by omega
  have hsf := store_f32
  simp only [Go.stored] at hsf
  have HB : Hid (Bn w b n v) := h1
  have t1 : (w.alloc (.cells #[.int .i64 4, .string ⟨#[]⟩, .int .i64 0, .bool false, .int .i64 0, .float .f32 0, .string ⟨#[]⟩, .slice none 0 0] 36)).cell? ⟨1, 14, none⟩ = some (.string (signN 4)) := (Keep.alloc1 w _).cell' (h3.sign 4 (by omega) (by omega)) (by simp)
  have hn : n + 2 * 256 ≤ 65536 := by omega
  have hn6 : n + (c + 512) ≤ 65536 := h6
  clear h1 h2 h3 h4 h5 h6 hd hx hr
  dsimp only
  go_enter Tryz.func87, Tryz.ntmps87
  go_wp2_with fail
  refine (put_at (w.heap.size + 1) b n v [signN 4, ⟨#[32]⟩] #[.string (signN 4), .string (⟨#[32]⟩)] 2 (w.alloc (.cells #[.int .i64 4, .string ⟨#[]⟩, .int .i64 0, .bool false, .int .i64 0, .float .f32 0, .string ⟨#[]⟩, .slice none 0 0] 36)) (by simp) (HB.out.alloc _) rfl (by intro j hj; match j with | 0 => rfl | 1 => rfl | j + 2 => exact absurd hj (by simp)) (by intro x hx; simp at hx; rcases hx with rfl | rfl <;> decide) hn).mono ?_
  rintro e9 w9 ⟨rfl, v9, b9, d9⟩
  obtain ⟨p9, t9, x9⟩ := sheet_kept HB.out H2.out d9
  have x0 := x9 0 _ rfl
  have hF := h b (n + 2 * 256) v9 w9 b9 p9 t9 H2.out.2.2.1 H2.out.2.2.2 (by omega)
  have HD : Hid (Wd b v v9 w w9) := d9.alloc
  clear b9 d9 p9 t9 x9
  dsimp only at hF
  go_wp2_with fail
  refine hF.mono ?_
  rintro e8 w8 ⟨rfl, v8, b8, d8⟩
  have HR : Hid (Bn w8 b (n + (c + 512)) v8 ∧ Wd b v v8 w w8) := ⟨b8.mono (by omega), HD.out.trans d8⟩
  clear b8 d8 hF HD
  go_wp2
  go_ret
  exact ⟨rfl, v8, HR.out⟩

end Go.Proofs.YtplbclokoffgkaaGreatDoor
