/- A sheet: the first and the second part of which one is made. -/
import Derived.Test.YtplbclokoffgkaaGreatDoorCdK

namespace Go.Proofs.YtplbclokoffgkaaGreatDoor
open Go.RowKit Go.PlainAid

/-- the part at i, as it lies -/
theorem Pp.at {w : World} {lv : Value} {l : List Pt} (h : Pp w lv l) (i : Nat) (hi : i < l.length) : ∃ b o c, lv = .slice (some ⟨b, o, none⟩) l.length c ∧
    w.cell? ⟨b, o + i * 8, none⟩ = some (.int .i64 l[i].kind) ∧ w.cell? ⟨b, o + i * 8 + 1, none⟩ = some (.string l[i].nm) ∧ w.cell? ⟨b, o + i * 8 + 2, none⟩ = some (.int .i64 l[i].vk) ∧ w.cell? ⟨b, o + i * 8 + 3, none⟩ = some (.bool false) ∧
    w.cell? ⟨b, o + i * 8 + 4, none⟩ = some (.int .i64 l[i].vi) ∧ w.cell? ⟨b, o + i * 8 + 5, none⟩ = some (.float .f32 0) ∧ w.cell? ⟨b, o + i * 8 + 6, none⟩ = some (.string ⟨#[]⟩) ∧ w.cell? ⟨b, o + i * 8 + 7, none⟩ = some (.slice none 0 0) := by
  obtain ⟨ao, cap, rfl, _, _, hne⟩ := h.ex
  obtain ⟨b, o, rfl, hc⟩ := hne (by intro hz; rw [hz] at hi; simp at hi)
  exact ⟨b, o, cap, rfl, hc i hi⟩

theorem Wd.pre {b : Nat} {v v' : Value} {w0 w w' : World} (k : Keep [] w0 w) (h : Wd b v v' w w') : Wd b v v' w0 w' :=
  ⟨(k.mono (by simp)).trans' h.keep, h.nw.imp id (fun e x hx => ⟨Nat.le_trans k.size (e x hx).1, (e x hx).2⟩)⟩

set_option maxRecDepth 1000000 in
set_option maxHeartbeats 3200000 in
theorem first_of (lv : Value) (l : List Pt) (i kn : Nat) (r : Int) (c : Nat) (hi : i < l.length) (hk1 : 1 ≤ kn) (hk2 : kn ≤ 17) (ho1 : 1 ≤ l[i].kind) (ho2 : l[i].kind ≤ 17) (hv3 : l[i].vk ≠ 3)
    (h : Cl 87 (fun p => #[p, lv, .int .i64 (i : Int)]) lv l r c) : Cl 123 (fun p => #[p, .int .i64 (kn : Int), lv, .int .i64 (i : Int)]) lv l r (c + 512) := by
  intro b n v w h1 h2 h3 h4 h5 h6
  have hA := fun (y : Bool) (w' : World) (k : Keep [] w w') => apart_of lv l i r c y h b n v w' (h1.keep0 k) (h2.keep0 k) (h3.keep k (by simp)) h4 h5 h6
  obtain ⟨g, o, ca, rfl, c0, c1, c2, c3, c4, c5, c6, c7⟩ := h2.at i hi
  have hM := fun w' => takesMinus_any l[i] hv3 w'
  obtain ⟨on, hon⟩ : ∃ on : Nat, l[i].kind = (on : Int) := ⟨l[i].kind.toNat, by omega⟩
  rw [hon] at ho1 ho2
  have t1 := h3.rank kn hk1 hk2
  have t2 := h3.rank on (by omega) (by omega)
  have hil : (i : Int) < (l.length : Int) := by omega
  generalize l[i] = x at hon c0 c1 c2 c4 hM hv3
  obtain ⟨xk, xs, xv, xi⟩ := x
  simp only at hon c0 c1 c2 c4 hM hv3
  subst hon
  generalize rankN (kn : Int) = rk at t1
  generalize rankN (on : Int) = ro at t2
  have hkn : (kn : Int) ≤ 17 := by omega
  have HA : Hid _ := hA
  clear hA h h1 h2 h3 h4 h5 h6 hv3 hk1
  dsimp only
  go_enter Tryz.func123, Tryz.ntmps123
  go_wp2_with fail
  go_quiet (fail)
  by_cases ha : ro < rk
  · have hd : decide (ro < rk) = true := by simpa using ha
    go_wp2_with fail
    refine (HA.out _ (w.drewN nq) ((Keep.refl [] w).drewN nq)).mono ?_
    rintro e9 w9 ⟨rfl, v9, b9, d9⟩
    have HR : Hid (Bn w9 b (n + (c + 512)) v9 ∧ Wd b v v9 w w9) := ⟨b9, Wd.pre ((Keep.refl [] w).drewN nq) d9⟩
    clear b9 d9
    go_wp2
    go_ret
    exact ⟨rfl, v9, HR.out⟩
  · have hd : decide (ro < rk) = false := by simpa using ha
    by_cases hb : ro = rk
    · subst hb
      have he : (ro == ro) = true := by simp
      by_cases h4 : ro = 4
      · have h4b : (ro == 4) = true := by simpa using h4
        go_wp2_with fail
        refine (HA.out _ (w.drewN nq) ((Keep.refl [] w).drewN nq)).mono ?_
        rintro e9 w9 ⟨rfl, v9, b9, d9⟩
        have HR : Hid (Bn w9 b (n + (c + 512)) v9 ∧ Wd b v v9 w w9) := ⟨b9, Wd.pre ((Keep.refl [] w).drewN nq) d9⟩
        clear b9 d9
        go_wp2
        go_ret
        exact ⟨rfl, v9, HR.out⟩
      · have h4b : (ro == 4) = false := by simpa using h4
        by_cases hm : kn = 3
        · subst hm
          go_wp2_with fail
          refine (hM _).mono ?_
          rintro e8 w8 ⟨rfl, k8⟩
          have HK8 : Hid (Keep [] w w8) := ((Keep.refl [] w).drewN nq).trans' k8
          clear k8
          generalize (decide (xv = 2) && decide (0 ≤ xi)) = mb
          go_wp2_with fail
          refine (HA.out _ w8 HK8.out).mono ?_
          rintro e9 w9 ⟨rfl, v9, b9, d9⟩
          have HR : Hid (Bn w9 b (n + (c + 512)) v9 ∧ Wd b v v9 w w9) := ⟨b9, Wd.pre HK8.out d9⟩
          clear b9 d9
          go_wp2
          go_ret
          exact ⟨rfl, v9, HR.out⟩
        · have hm3 : ((kn : Int) == 3) = false := by simp; omega
          go_wp2_with fail
          refine (HA.out _ (w.drewN nq) ((Keep.refl [] w).drewN nq)).mono ?_
          rintro e9 w9 ⟨rfl, v9, b9, d9⟩
          have HR : Hid (Bn w9 b (n + (c + 512)) v9 ∧ Wd b v v9 w w9) := ⟨b9, Wd.pre ((Keep.refl [] w).drewN nq) d9⟩
          clear b9 d9
          go_wp2
          go_ret
          exact ⟨rfl, v9, HR.out⟩
    · have he : (ro == rk) = false := by simpa using hb
      by_cases hm : kn = 3
      · subst hm
        go_wp2_with fail
        refine (hM _).mono ?_
        rintro e8 w8 ⟨rfl, k8⟩
        have HK8 : Hid (Keep [] w w8) := ((Keep.refl [] w).drewN nq).trans' k8
        clear k8
        generalize (decide (xv = 2) && decide (0 ≤ xi)) = mb
        go_wp2_with fail
        refine (HA.out _ w8 HK8.out).mono ?_
        rintro e9 w9 ⟨rfl, v9, b9, d9⟩
        have HR : Hid (Bn w9 b (n + (c + 512)) v9 ∧ Wd b v v9 w w9) := ⟨b9, Wd.pre HK8.out d9⟩
        clear b9 d9
        go_wp2
        go_ret
        exact ⟨rfl, v9, HR.out⟩
      · have hm3 : ((kn : Int) == 3) = false := by simp; omega
        go_wp2_with fail
        refine (HA.out _ (w.drewN nq) ((Keep.refl [] w).drewN nq)).mono ?_
        rintro e9 w9 ⟨rfl, v9, b9, d9⟩
        have HR : Hid (Bn w9 b (n + (c + 512)) v9 ∧ Wd b v v9 w w9) := ⟨b9, Wd.pre ((Keep.refl [] w).drewN nq) d9⟩
        clear b9 d9
        go_wp2
        go_ret
        exact ⟨rfl, v9, HR.out⟩
set_option maxRecDepth 1000000 in
set_option maxHeartbeats 3200000 in
theorem second_of (lv : Value) (l : List Pt) (i kn : Nat) (r : Int) (c : Nat) (hi : i < l.length) (hk1 : 1 ≤ kn) (hk2 : kn ≤ 17) (ho1 : 1 ≤ l[i].kind) (ho2 : l[i].kind ≤ 17) (hv3 : l[i].vk ≠ 3)
    (h : Cl 87 (fun p => #[p, lv, .int .i64 (i : Int)]) lv l r c) : Cl 124 (fun p => #[p, .int .i64 (kn : Int), lv, .int .i64 (i : Int)]) lv l r (c + 512) := by
  intro b n v w h1 h2 h3 h4 h5 h6
  have hA := fun (y : Bool) (w' : World) (k : Keep [] w w') => apart_of lv l i r c y h b n v w' (h1.keep0 k) (h2.keep0 k) (h3.keep k (by simp)) h4 h5 h6
  obtain ⟨g, o, ca, rfl, c0, c1, c2, c3, c4, c5, c6, c7⟩ := h2.at i hi
  have hM := fun w' => takesMinus_any l[i] hv3 w'
  obtain ⟨on, hon⟩ : ∃ on : Nat, l[i].kind = (on : Int) := ⟨l[i].kind.toNat, by omega⟩
  rw [hon] at ho1 ho2
  have t1 := h3.rank kn hk1 hk2
  have t2 := h3.rank on (by omega) (by omega)
  have hil : (i : Int) < (l.length : Int) := by omega
  generalize l[i] = x at hon c0 c1 c2 c4 hM hv3
  obtain ⟨xk, xs, xv, xi⟩ := x
  simp only at hon c0 c1 c2 c4 hM hv3
  subst hon
  generalize rankN (kn : Int) = rk at t1
  generalize rankN (on : Int) = ro at t2
  have hkn : (kn : Int) ≤ 17 := by omega
  have HA : Hid _ := hA
  clear hA h h1 h2 h3 h4 h5 h6 hv3 hk1 hM c1 c2 c3 c4 c5 c6 c7
  dsimp only
  go_enter Tryz.func124, Tryz.ntmps124
  go_wp2_with fail
  go_region_with (first | (go_at_call 146; refine (HA.out _ w.drew (Keep.refl [] w).drew).mono ?_; rintro e9 w9 ⟨rfl, v9, b9, d9⟩))
  all_goals
    have HR : Hid (Bn w9 b (n + (c + 512)) v9 ∧ Wd b v v9 w w9) := ⟨b9, Wd.pre (Keep.refl [] w).drew d9⟩
    clear b9 d9
    go_wp2
    go_ret
    exact ⟨rfl, v9, HR.out⟩
end Go.Proofs.YtplbclokoffgkaaGreatDoor

/- A sheet: an expression that is a tree is written, part by part. -/
namespace Go.Proofs.YtplbclokoffgkaaGreatDoor
open Go.RowKit Go.PlainAid

/-- as put_new, the address of the pieces told -/
theorem put_at (a b n : Nat) (v : Value) (ps : List ByteArray) (cs : Array Value) (k : Nat) (w : World) (ha : w.heap.size = a) (h : Bn w b n v) (hk : ps.length = k) (hcs : ∀ j (h : j < ps.length), cs[j]? = some (.string ps[j])) (hs : ∀ s ∈ ps, s.size ≤ 256) (hn : n + k * 256 ≤ 65536) :
    Calls Tryz.prog 54 #[.pointer (some ⟨b, 0, none⟩), .slice (some ⟨a, 0, none⟩) k k] (w.alloc (.cells cs 9)) fun e w' => e = .returned (.tuple #[]) ∧ ∃ v', Bn w' b (n + k * 256) v' ∧ Wd b v v' w w' := by
  subst ha
  exact put_new b n v ps cs k w h hk hcs hs hn

inductive Tr where
  | val (vk vi : Int)
  | par (s : ByteArray)
  | un (k : Nat) (t : Tr)
  | bin (k : Nat) (a b : Tr)
def Tr.flat : Tr → List Pt
  | .val vk vi => [⟨1, ⟨#[]⟩, vk, vi⟩]
  | .par s => [⟨2, s, 0, 0⟩]
  | .un k t => ⟨(k : Int), ⟨#[]⟩, 0, 0⟩ :: t.flat
  | .bin k a b => ⟨(k : Int), ⟨#[]⟩, 0, 0⟩ :: (a.flat ++ b.flat)
/-- the literal of a value has at most 256 bytes, where nothing but new memory is written -/
def TextOk (vk vi : Int) : Prop := ∀ w, Tb w → Calls Tryz.prog 122 #[.agg #[.int .i64 vk, .bool false, .int .i64 vi, .float .f32 0, .string ⟨#[]⟩, .slice none 0 0]] w fun e w' => ∃ s : ByteArray, e = .returned (.tuple #[.string s, .int .i64 0]) ∧ s.size ≤ 256 ∧ Keep [] w w'
def Tr.ok : Tr → Prop
  | .val vk vi => TextOk vk vi ∧ vk ≠ 3
  | .par s => s.size ≤ 256
  | .un k t => (k = 3 ∨ k = 4) ∧ t.ok
  | .bin k a b => (5 ≤ k ∧ k ≤ 17) ∧ a.ok ∧ b.ok
theorem Tr.head (t : Tr) (h : t.ok) : ∃ p q, t.flat = p :: q ∧ 1 ≤ p.kind ∧ p.kind ≤ 17 ∧ p.vk ≠ 3 := by
  cases t with
  | val vk vi => exact ⟨_, _, rfl, by simp, by simp, h.2⟩
  | par s => exact ⟨_, _, rfl, by simp, by simp, by simp⟩
  | un k t => exact ⟨_, _, rfl, by have := h.1; simp; omega, by have := h.1; simp; omega, by simp⟩
  | bin k a b => exact ⟨_, _, rfl, by have := h.1; simp; omega, by have := h.1; simp; omega, by simp⟩
theorem drop_head {l : List Pt} {i : Nat} {p : Pt} {q : List Pt} (h : l.drop i = p :: q) : ∃ hi : i < l.length, l[i] = p ∧ l.drop (i + 1) = q := by
  have hi : i < l.length := by
    rcases Nat.lt_or_ge i l.length with e | e
    · exact e
    · rw [List.drop_eq_nil_of_le e] at h; cases h
  rw [List.drop_eq_getElem_cons hi] at h
  injection h with h1 h2
  exact ⟨hi, h1, h2⟩
set_option maxRecDepth 1000000 in
set_option maxHeartbeats 3200000 in
theorem part_par (s : ByteArray) (hs : s.size ≤ 256) (lv : Value) (l : List Pt) (i : Nat) (rest : List Pt) (hd : l.drop i = ⟨2, s, 0, 0⟩ :: rest) (hl : l.length ≤ 100) : Cl 87 (fun p => #[p, lv, .int .i64 (i : Int)]) lv l ((i : Int) + 1) 2048 := by
  refine Cl.more (c := 256) ?_ (by omega)
  intro b n v w h1 h2 h3 h4 h5 h6
  obtain ⟨hi, hx, _⟩ := drop_head hd
  obtain ⟨g, o, ca, rfl, c0, c1, c2, c3, c4, c5, c6, c7⟩ := h2.at i hi
  rw [hx] at c0 c1 c2 c4
  have t1 : (w.alloc (.cells #[.int .i64 2, .string s, .int .i64 0, .bool false, .int .i64 0, .float .f32 0, .string ⟨#[]⟩, .slice none 0 0] 36)).cell? ⟨1, 8, none⟩ = some (.string (signN 2)) := (Keep.alloc1 w _).cell' (h3.sign 2 (by omega) (by omega)) (by simp)
  have hil : (i : Int) < (l.length : Int) := by omega
  have hil2 : (i : Int) ≤ 100 := by omega
  have hsf := store_f32
  simp only [Go.stored] at hsf
  have HB : Hid (Bn w b n v) := h1
  have hn : n + 1 * 256 ≤ 65536 := h6
  clear h1 h2 h3 h4 h5 h6 hd hx
  dsimp only
  go_enter Tryz.func87, Tryz.ntmps87
  go_wp2_with fail
  refine (put_at (w.heap.size + 1) b n v [s] #[.string s] 1 _ (by simp) (HB.out.alloc _) rfl (fun j hj => by simp at hj; subst hj; rfl) (fun x hx => by simp at hx; subst hx; exact hs) hn).mono ?_
  rintro e9 w9 ⟨rfl, v9, b9, d9⟩
  have HR : Hid (Bn w9 b (n + 256) v9 ∧ Wd b v v9 w w9) := ⟨b9, d9.alloc⟩
  clear b9 d9
  go_wp2
  go_ret
  exact ⟨rfl, v9, HR.out⟩
end Go.Proofs.YtplbclokoffgkaaGreatDoor
