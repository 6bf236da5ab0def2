/- A sheet: a strings.Builder within a struct, as the own text of a schema is put into it. -/
import Derived.Test.YtplbclokoffgkaaGreatDoorCdH
import Derived.Lib.Builder

namespace Go.Proofs.YtplbclokoffgkaaGreatDoor
open Go.RowKit Go.PlainAid

/-- a builder of one's own at b has written l; its row lies from B on -/
structure Bd (B : Nat) (w : World) (b : Nat) (l : List UInt8) (p v : Value) : Prop where
  box : w.heap[b]? = some (.cells #[p, v] 91 (0, 0))
  ptr : p = .pointer none ∨ p = .pointer (some ⟨b, 0, none⟩)
  row : Row w v l
  far : ∀ k, v.ownBlock = some k → B ≤ k
theorem Bd.lt {B : Nat} {w : World} {b : Nat} {l : List UInt8} {p v : Value} (h : Bd B w b l p v) : b < w.heap.size := (Array.getElem?_eq_some_iff.1 h.box).1
theorem box_cell {w : World} {b : Nat} {cs : Array Value} {T : TypeId} (h : w.heap[b]? = some (.cells cs T (0, 0))) (j : Nat) : w.cell? ⟨b, j, none⟩ = cs[j]? ∧ w.frozen? ⟨b, j, none⟩ = false := ⟨by simp [World.cell?, h], by simp [World.frozen?, h]⟩
theorem box2 {w : World} {b : Nat} {x y : Value} {T : TypeId} (h : w.heap[b]? = some (.cells #[x, y] T (0, 0))) :
    w.cell? ⟨b, 0, none⟩ = some x ∧ w.cell? ⟨b, 1, none⟩ = some y ∧ w.frozen? ⟨b, 0, none⟩ = false ∧ w.frozen? ⟨b, 1, none⟩ = false :=
  ⟨(box_cell h 0).1, (box_cell h 1).1, (box_cell h 0).2, (box_cell h 1).2⟩
theorem Bd.alloc {B : Nat} {w : World} {b : Nat} {l : List UInt8} {p v : Value} (h : Bd B w b l p v) (O : Obj) : Bd B (w.alloc O) b l p v :=
  ⟨(Below.heap_alloc w O _ h.lt).trans h.box, h.ptr, h.row.keep (Keep.alloc1 w O) (Off.nil _), h.far⟩
theorem Bd.keep {B : Nat} {w w' : World} {b : Nat} {l : List UInt8} {p v : Value} (h : Bd B w b l p v) {F : List Nat} (k : Keep F w w') (hb : b ∉ F) (hF : ∀ x ∈ F, x < B ∨ w.heap.size ≤ x) : Bd B w' b l p v :=
  ⟨(k.block b h.lt hb).trans h.box, h.ptr, h.row.keep k (fun x hx hm => by
    have := h.far x hx
    have := h.row.lt x hx
    rcases hF x hm with e | e <;> omega), h.far⟩
/-- nothing but the builder, its row and new blocks are written; its row is the one of before or a new one -/
structure Wd (b : Nat) (v v' : Value) (w w' : World) : Prop where
  keep : Keep (b :: v.ownBlock.toList) w w'
  nw : v'.ownBlock = v.ownBlock ∨ Fresh w w' v'
theorem Wd.refl (b : Nat) (v : Value) (w : World) : Wd b v v w w := ⟨Keep.refl _ _, .inl rfl⟩
theorem Wd.trans {b : Nat} {v v' v'' : Value} {w w' w'' : World} (h : Wd b v v' w w') (k : Wd b v' v'' w' w'') : Wd b v v'' w w'' := by
  refine ⟨h.keep.more k.keep (fun x hx => ?_), ?_⟩
  · simp at hx
    rcases hx with rfl | hx
    · exact .inl (by simp)
    · rcases h.nw with e | e
      · exact .inl (by simp; right; rw [← e]; exact hx)
      · exact .inr (e x hx).1
  · rcases k.nw with e | e
    · rcases h.nw with f | f
      · exact .inl (e.trans f)
      · exact .inr fun x hx => ⟨(f x (by rw [← e]; exact hx)).1, Nat.lt_of_lt_of_le (f x (by rw [← e]; exact hx)).2 k.keep.size⟩
    · exact .inr fun x hx => ⟨Nat.le_trans h.keep.size (e x hx).1, (e x hx).2⟩
theorem Wd.alloc {b : Nat} {v v' : Value} {w w' : World} {O : Obj} (h : Wd b v v' (w.alloc O) w') : Wd b v v' w w' :=
  ⟨((Keep.alloc1 w O).mono (by simp)).trans' h.keep, h.nw.imp id (fun e x hx => ⟨Nat.le_trans (by simp) (e x hx).1, (e x hx).2⟩)⟩
theorem Bd.put {B : Nat} {w w1 : World} {b : Nat} {l l' : List UInt8} {p v v' : Value} (h : Bd B w b l p v) (hb : b < B) (hB : B ≤ w.heap.size) (h1 : Row w1 v' l') (h2 : Keep v.ownBlock.toList w w1) (h3 : v'.ownBlock = v.ownBlock ∨ Fresh w w1 v') :
    Bd B (w1.setCell ⟨b, 1, none⟩ v') b l' p v' ∧ Wd b v v' w (w1.setCell ⟨b, 1, none⟩ v') ∧ w1.heap[b]? = some (.cells #[p, v] 91 (0, 0)) := by
  have hbw : b ∉ v.ownBlock.toList := by
    intro hm
    have := h.far b (by simpa using hm)
    omega
  have hbox := (h2.block b (by omega) hbw).trans h.box
  have far : ∀ k, v'.ownBlock = some k → B ≤ k := fun k hk => by
    rcases h3 with h3 | h3
    · exact h.far k (by rw [← h3]; exact hk)
    · have := (h3 k hk).1; omega
  refine ⟨⟨heap_setCell_same w1 b 1 _ 91 _ hbox, h.ptr, h1.keep (Keep.set1 w1 _ _) (fun k hk hm => by have := far k hk; simp at hm; omega), far⟩, ?_, hbox⟩
  exact ⟨(h2.mono (fun x hx => .inl (by simp at hx ⊢; exact .inr hx))).setCell (.inl (by simp)) v', h3.imp id (fun e x hx => ⟨(e x hx).1, by have := (e x hx).2; simpa [World.setCell] using this⟩)⟩
theorem Bd.used {B : Nat} {w : World} {b : Nat} {l : List UInt8} {p v : Value} (h : Bd B w b l p v) (hb : b < B) : Bd B (w.setCell ⟨b, 0, none⟩ (.pointer (some ⟨b, 0, none⟩))) b l (.pointer (some ⟨b, 0, none⟩)) v :=
  ⟨heap_setCell_same w b 0 _ 91 _ h.box, .inr rfl, h.row.keep (Keep.set1 w _ _) (fun k hk hm => by have := h.far k hk; simp at hm; omega), h.far⟩

set_option maxHeartbeats 1000000 in
set_option maxRecDepth 100000 in
theorem copyCheck_any (B b : Nat) (l : List UInt8) (p v : Value) (w : World) (hb : b < B) (h : Bd B w b l p v) :
    Calls Tryz.prog 119 #[.pointer (some ⟨b, 0, none⟩)] w fun e w' => e = .returned (.tuple #[]) ∧ Bd B w' b l (.pointer (some ⟨b, 0, none⟩)) v ∧ Wd b v v w w' := by
  obtain ⟨c0, c1, f0, f1⟩ := box2 h.box
  have hsh : w.shape? b = some (91, 2) := by simp [World.shape?, h.box]
  rcases h.ptr with rfl | rfl
  · have hto : (convert 86 215 (.pointer (some ⟨b, 0, none⟩))).run Tryz.prog w = .ok (.pointer (some ⟨b, 0, none⟩)) w :=
      Lib.run_to_unsafe w ⟨b, 0, none⟩ Tryz.underlying86 Tryz.underlying215 (j := (Tryz.prog.info? 89).get (by kernel_rfl)) (by kernel_rfl) (by decide +kernel) hsh (Nat.zero_lt_succ 1)
    have hfrom : (convert 215 86 (.pointer (some ⟨b, 0, none⟩))).run Tryz.prog w = .ok (.pointer (some ⟨b, 0, none⟩)) w :=
      Lib.run_from_unsafe w ⟨b, 0, none⟩ Tryz.underlying215 Tryz.underlying86 (j := (Tryz.prog.info? 89).get (by kernel_rfl)) (by kernel_rfl) hsh (by kernel_rfl)
    go_enter Tryz.func119, Tryz.ntmps119
    go_wp2
    rw [run_callFunc_extern Tryz.func142 (by kernel_rfl) (by kernel_rfl) (by kernel_rfl) (e := Extern.AbiNoEscape.same) (by kernel_rfl)]
    rw [Lib.run_noEscape]
    simp only [Result.andThen]
    rw [Oper.upon_value]
    go_wp2
    go_end0
    exact ⟨rfl, h.used hb, (Keep.refl _ _).setCell (.inl (by simp)) _, .inl rfl⟩
  · have hne := Lib.run_neq_ptr_same (P := Tryz.prog) w (tp := 86) (te := 89) ⟨b, 0, none⟩ Tryz.underlying86 (j := (Tryz.prog.info? 89).get (by kernel_rfl)) (by kernel_rfl)
    go_enter Tryz.func119, Tryz.ntmps119
    go_wp2
    go_end0
    exact ⟨rfl, h, Wd.refl _ _ _⟩

set_option maxHeartbeats 1000000 in
theorem len_any (B b : Nat) (l : List UInt8) (p v : Value) (w : World) (h : Bd B w b l p v) :
    Calls Tryz.prog 88 #[.pointer (some ⟨b, 0, none⟩)] w fun e w' => e = .returned (.int .i64 (l.length : Int)) ∧ w' = w := by
  obtain ⟨c0, c1, f0, f1⟩ := box2 h.box
  obtain ⟨ao, cap, rfl, _⟩ := h.row.bs.ex
  go_enter Tryz.func88, Tryz.ntmps88
  go_wp2
  go_ret
  exact ⟨rfl, rfl⟩

set_option maxHeartbeats 1000000 in
theorem writeString_any (B b : Nat) (l : List UInt8) (p v : Value) (s : ByteArray) (w : World) (hb : b < B) (hB : B ≤ w.heap.size) (h : Bd B w b l p v) (hn : l.length + s.size ≤ 140737488355328) :
    Calls Tryz.prog 85 #[.pointer (some ⟨b, 0, none⟩), .string s] w fun e w' => e = .returned (.tuple #[.int .i64 (s.size : Int), .nilIface]) ∧ ∃ p' v', Bd B w' b (l ++ s.toList) p' v' ∧ Wd b v v' w w' := by
  have h' : Hid _ := h
  clear h
  have hsrc : ∀ w, Src Tryz.prog 1 9 (.string s) s.toList.length (bv s.toList) w := fun w => by
    have := Src.ofString (P := Tryz.prog) w Tryz.underlying9 s
    rw [bv_byteCells, ← ByteArray.toList_eq, ← toList_len] at this
    exact this
  have HS : Hid _ := hsrc
  have hn' : Hid (l.length + s.toList.length ≤ 140737488355328) := by show _ ≤ _; rw [toList_len]; exact hn
  clear hsrc hn
  go_enter Tryz.func85, Tryz.ntmps85
  go_wp2_with (first | (go_at_call 119; refine (copyCheck_any B b l p v w hb h'.out).mono ?_; rintro e w1 ⟨rfl, hb1, k1⟩; obtain ⟨c0, c1, f0, f1⟩ := box2 hb1.box; have hB1 : B ≤ w1.heap.size := Nat.le_trans hB k1.keep.size) | (at_builtin; refine wp_app rfl (.tmp 12) (.tmp 13) 87 9 rfl underS v l rfl hb1.row _ s.toList rfl (HS.out _) hn'.out ?_))
  intro v' w2 h1 h2 h3 h4
  obtain ⟨a9, c9, rfl⟩ := h4
  obtain ⟨U1, K1, hbx⟩ := hb1.put hb hB1 h1 h2 h3
  obtain ⟨g0, g1, e0, e1⟩ := box2 hbx
  have HU : Hid _ := U1
  have HK : Hid _ := k1.trans K1
  clear U1 K1 h1 h2 h3 hb1 k1 c0 c1 f0 f1
  go_wp2
  go_ret2
  exact ⟨rfl, _, _, HU.out, HK.out⟩
end Go.Proofs.YtplbclokoffgkaaGreatDoor

/- A sheet: pieces are put into it; how long it is. What its text is, isn't told: only how long it can be. -/
namespace Go.Proofs.YtplbclokoffgkaaGreatDoor
open Go.RowKit Go.PlainAid

/-- a sheet at b has at most n bytes; v: its bytes as they lie -/
def Bn (w : World) (b n : Nat) (v : Value) : Prop := ∃ l p, Bd (b + 1) w b l p v ∧ l.length ≤ n
theorem Bn.mono {w : World} {b n m : Nat} {v : Value} (h : Bn w b n v) (hm : n ≤ m) : Bn w b m v := by
  obtain ⟨l, p, h1, h2⟩ := h
  exact ⟨l, p, h1, by omega⟩
theorem Bn.lt {w : World} {b n : Nat} {v : Value} (h : Bn w b n v) : b < w.heap.size := by
  obtain ⟨l, p, h1, h2⟩ := h
  exact h1.lt
theorem Bn.rowlt {w : World} {b n : Nat} {v : Value} (h : Bn w b n v) : ∀ k, v.ownBlock = some k → b < k ∧ k < w.heap.size := by
  obtain ⟨l, p, h1, h2⟩ := h
  exact fun k hk => ⟨h1.far k hk, h1.row.lt k hk⟩
theorem Bn.alloc {w : World} {b n : Nat} {v : Value} (h : Bn w b n v) (O : Obj) : Bn (w.alloc O) b n v := by
  obtain ⟨l, p, h1, h2⟩ := h
  exact ⟨l, p, h1.alloc O, h2⟩
theorem Bn.keep0 {w w' : World} {b n : Nat} {v : Value} (h : Bn w b n v) (k : Keep [] w w') : Bn w' b n v := by
  obtain ⟨l, p, h1, h2⟩ := h
  exact ⟨l, p, h1.keep k (by simp) (by simp), h2⟩

theorem long_any (b n : Nat) (v : Value) (w : World) (h : Bn w b n v) (hn : n ≤ 65536) : Calls Tryz.prog 58 #[.pointer (some ⟨b, 0, none⟩)] w fun e w' => e = .returned (.bool false) ∧ w' = w := by
  obtain ⟨l, p, h1, h2⟩ := h
  have hL := len_any (b + 1) b l p v w h1
  have hl : ¬ (65536 : Int) < (l.length : Int) := by omega
  have hf : decide ((65536 : Int) < (l.length : Int)) = false := by simpa using hl
  clear h1 h2 hn hl
  go_enter Tryz.func58, Tryz.ntmps58
  go_wp2_with fail
  refine hL.mono ?_
  rintro e9 w9 ⟨rfl, hw9⟩
  obtain rfl := hw9.symm
  clear hw9
  go_wp2
  go_ret
  exact ⟨rfl, rfl⟩

set_option maxRecDepth 1000000 in
set_option maxHeartbeats 1600000 in
theorem put_any (b n : Nat) (v : Value) (u : Value) (ps : List ByteArray) (w : World) (h : Bn w b n v) (hu : Ts w u ps) (ho : Off u (b :: v.ownBlock.toList)) (hs : ∀ s ∈ ps, s.size ≤ 256) (hn : n + ps.length * 256 ≤ 65536) :
    Calls Tryz.prog 54 #[.pointer (some ⟨b, 0, none⟩), u] w fun e w' => e = .returned (.tuple #[]) ∧ ∃ v', Bn w' b (n + ps.length * 256) v' ∧ Wd b v v' w w' := by
  have HV : Hid (Bn w b n v ∧ Ts w u ps ∧ Off u (b :: v.ownBlock.toList) ∧ ∀ s ∈ ps, s.size ≤ 256) := ⟨h, hu, ho, hs⟩
  obtain ⟨ao, ca, rfl, hl1, hl2, -⟩ := hu.ex
  clear h hu ho hs
  go_enter Tryz.func54, Tryz.ntmps54
  go_wp2
  go_loopw [8] (fun iv wr => ∃ (k : Nat) (v' : Value), iv = .int .i64 (k : Int) ∧ k ≤ ps.length ∧ Hid (Bn wr b (n + k * 256) v' ∧ Wd b v v' w wr)) (fun iv _ => ps.length - (intOf iv).toNat)
  case atStart => exact ⟨0, v, rfl, Nat.zero_le _, by simpa using HV.out.1, Wd.refl _ _ _⟩
  case round =>
    obtain ⟨k, v', rfl, hk, HI⟩ := hrel
    by_cases hlt : k < ps.length
    · have hlti : (k : Int) < (ps.length : Int) := by omega
      obtain ⟨_, _, he, _, _, _, hne⟩ := (HV.out.2.1.keep HI.out.2.keep HV.out.2.2.1).ex
      simp at he
      obtain ⟨rfl, rfl⟩ := he
      obtain ⟨g, o, rfl, hc⟩ := hne (by intro hz; rw [hz] at hlt; simp at hlt)
      have hck := hc k hlt
      have hL := long_any b (n + k * 256) v' wr HI.out.1 (by omega)
      have hW : Calls Tryz.prog 85 #[.pointer (some ⟨b, 0, none⟩), .string ps[k]] wr fun e w' => e = .returned (.tuple #[.int .i64 (ps[k].size : Int), .nilIface]) ∧ ∃ v'', Bn w' b (n + (k + 1) * 256) v'' ∧ Wd b v' v'' wr w' := by
        obtain ⟨l, p, h1, h2⟩ := HI.out.1
        have hz := HV.out.2.2.2 _ (List.getElem_mem hlt)
        refine (writeString_any (b + 1) b l p v' ps[k] wr (by omega) h1.lt h1 (by omega)).mono ?_
        rintro e w' ⟨rfl, p', v'', h3, h4⟩
        refine ⟨rfl, v'', ⟨_, p', h3, ?_⟩, h4⟩
        rw [List.length_append, toList_len]
        omega
      clear hc hne
      generalize ps[k] = s at hck hW
      go_wp2_with fail
      refine hL.mono ?_
      rintro e9 w9 ⟨rfl, hw9⟩
      obtain rfl := hw9.symm
      clear hw9
      go_wp2_with fail
      refine hW.mono ?_
      rintro e9 w9 ⟨rfl, v9, b9, d9⟩
      have HR : Hid (Bn w9 b (n + (k + 1) * 256) v9 ∧ Wd b v v9 w w9) := ⟨b9, HI.out.2.trans d9⟩
      clear b9 d9 HI hL hW hck
      go_wp2
      go_roundw
      case rel => exact ⟨k + 1, v9, by go_num, by omega, HR.out⟩
      case measure => simp [intOf]; omega
    · have hlti : ¬ (k : Int) < (ps.length : Int) := by omega
      obtain rfl : k = ps.length := by omega
      go_wp2
      go_end0
      exact ⟨rfl, v', HI.out.1, HI.out.2⟩
end Go.Proofs.YtplbclokoffgkaaGreatDoor

/- A sheet: what is put apart, the first and the second part of one. -/
namespace Go.Proofs.YtplbclokoffgkaaGreatDoor
open Go.RowKit Go.PlainAid

theorem put_new (b n : Nat) (v : Value) (ps : List ByteArray) (cs : Array Value) (k : Nat) (w : World) (h : Bn w b n v) (hk : ps.length = k) (hcs : ∀ j (h : j < ps.length), cs[j]? = some (.string ps[j])) (hs : ∀ s ∈ ps, s.size ≤ 256) (hn : n + k * 256 ≤ 65536) :
    Calls Tryz.prog 54 #[.pointer (some ⟨b, 0, none⟩), .slice (some ⟨w.heap.size, 0, none⟩) k k] (w.alloc (.cells cs 9)) fun e w' => e = .returned (.tuple #[]) ∧ ∃ v', Bn w' b (n + k * 256) v' ∧ Wd b v v' w w' := by
  subst hk
  have hT : Ts (w.alloc (.cells cs 9)) (.slice (some ⟨w.heap.size, 0, none⟩) ps.length ps.length) ps := by
    refine ⟨_, _, rfl, Nat.le_refl _, by omega, fun s h => by have := hs s h; omega, fun _ => ⟨w.heap.size, 0, rfl, fun j hj => ?_⟩⟩
    rw [World.cell?_alloc_at cs 9 w.heap.size (0 + j) rfl, Nat.zero_add]
    exact hcs j hj
  have hO : Off (.slice (some ⟨w.heap.size, 0, none⟩) ps.length ps.length) (b :: v.ownBlock.toList) := by
    intro x hx hm
    simp [Value.ownBlock] at hx
    subst hx
    simp at hm
    rcases hm with e | e
    · have := h.lt; omega
    · have := (h.rowlt _ e).2; omega
  refine (put_any b n v _ ps _ (h.alloc _) hT hO hs hn).mono ?_
  rintro e w' ⟨rfl, v', h1, h2⟩
  exact ⟨rfl, v', h1, h2.alloc⟩

/-- a value's memory lies below b -/
def Lo (b : Nat) (u : Value) : Prop := ∀ k, u.ownBlock = some k → k < b
theorem Pp.keep {F : List Nat} {w w' : World} {v : Value} {l : List Pt} (h : Pp w v l) (k : Keep F w w') (hn : Off v F) : Pp w' v l := by
  obtain ⟨ao, cap, rfl, h1, h2, h3⟩ := h.ex
  refine ⟨ao, cap, rfl, h1, h2, fun hl => ?_⟩
  obtain ⟨b, o, rfl, hc⟩ := h3 hl
  refine ⟨b, o, rfl, fun i hi => ?_⟩
  obtain ⟨c0, c1, c2, c3, c4, c5, c6, c7⟩ := hc i hi
  have hb := hn b rfl
  exact ⟨k.cell' c0 hb, k.cell' c1 hb, k.cell' c2 hb, k.cell' c3 hb, k.cell' c4 hb, k.cell' c5 hb, k.cell' c6 hb, k.cell' c7 hb⟩
theorem Bn.low {w : World} {b n : Nat} {v : Value} (h : Bn w b n v) {x : Nat} (hx : x < b) : x ∉ (b :: v.ownBlock.toList) := by
  intro hm
  simp at hm
  rcases hm with e | e
  · omega
  · have := (h.rowlt _ e).1; omega
theorem Lo.off {w : World} {b n : Nat} {v u : Value} (h : Lo b u) (hb : Bn w b n v) : Off u (b :: v.ownBlock.toList) := fun k hk => hb.low (h k hk)

/-- a call that writes a part of the expression l at lv into a sheet: it answers r, and puts at most c bytes -/
def Cl (f : Nat) (mk : Value → Array Value) (lv : Value) (l : List Pt) (r : Int) (c : Nat) : Prop :=
  ∀ (b n : Nat) (v : Value) (w : World), Bn w b n v → Pp w lv l → Tb w → Lo b lv → 15 ≤ b → n + c ≤ 65536 →
    Calls Tryz.prog f (mk (.pointer (some ⟨b, 0, none⟩))) w fun e w' => e = .returned (.int .i64 r) ∧ ∃ v', Bn w' b (n + c) v' ∧ Wd b v v' w w'
theorem Cl.more {f : Nat} {mk : Value → Array Value} {lv : Value} {l : List Pt} {r : Int} {c d : Nat} (h : Cl f mk lv l r c) (hd : c ≤ d) : Cl f mk lv l r d := by
  intro b n v w h1 h2 h3 h4 h5 h6
  refine (h b n v w h1 h2 h3 h4 h5 (by omega)).mono ?_
  rintro e w' ⟨rfl, v', h7, h8⟩
  exact ⟨rfl, v', h7.mono (by omega), h8⟩

set_option maxRecDepth 1000000 in
set_option maxHeartbeats 1600000 in
theorem apart_of (lv : Value) (l : List Pt) (i : Int) (r : Int) (c : Nat) (y : Bool) (h : Cl 87 (fun p => #[p, lv, .int .i64 i]) lv l r c) : Cl 146 (fun p => #[p, .bool y, lv, .int .i64 i]) lv l r (c + 512) := by
  cases y
  · refine Cl.more (c := c) ?_ (by omega)
    intro b n v w h1 h2 h3 h4 h5 h6
    have hP := h b n v w h1 h2 h3 h4 h5 h6
    clear h h1 h2 h3 h4 h5 h6
    dsimp only at hP ⊢
    go_enter Tryz.func146, Tryz.ntmps146
    go_wp2_with fail
    refine hP.mono ?_
    rintro e9 w9 ⟨rfl, v9, b9, d9⟩
    have HR : Hid (Bn w9 b (n + c) v9 ∧ Wd b v v9 w w9) := ⟨b9, d9⟩
    clear b9 d9
    go_wp2
    go_ret
    exact ⟨rfl, v9, HR.out⟩
  · intro b n v w h1 h2 h3 h4 h5 h6
    have HV : Hid (Bn w b n v ∧ Pp w lv l ∧ Tb w ∧ Lo b lv ∧ 15 ≤ b ∧ n + (c + 512) ≤ 65536) := ⟨h1, h2, h3, h4, h5, h6⟩
    clear h1 h2 h3 h4 h5 h6
    dsimp only
    go_enter Tryz.func146, Tryz.ntmps146
    go_wp2_with fail
    refine (put_new b n v [⟨#[40]⟩] #[.string ⟨#[40]⟩] 1 w HV.out.1 rfl (fun j hj => by simp at hj; subst hj; rfl) (fun s hs => by simp at hs; subst hs; decide) (by have := HV.out.2.2.2.2.2; omega)).mono ?_
    rintro e9 w9 ⟨rfl, v9, b9, d9⟩
    have hP := h b (n + 1 * 256) v9 w9 b9 (HV.out.2.1.keep d9.keep (HV.out.2.2.2.1.off HV.out.1)) (HV.out.2.2.1.keep d9.keep (fun x hx => HV.out.1.low (by have := HV.out.2.2.2.2.1; omega))) HV.out.2.2.2.1 HV.out.2.2.2.2.1 (by have := HV.out.2.2.2.2.2; omega)
    have HD : Hid (Wd b v v9 w w9) := d9
    clear b9 d9
    dsimp only at hP
    go_wp2_with fail
    refine hP.mono ?_
    rintro e8 w8 ⟨rfl, v8, b8, d8⟩
    have HR : Hid (Bn w8 b (n + 1 * 256 + c) v8 ∧ Wd b v v8 w w8) := ⟨b8, HD.out.trans d8⟩
    clear b8 d8 hP HD
    go_wp2_with fail
    refine (put_new b (n + 1 * 256 + c) v8 [⟨#[41]⟩] #[.string ⟨#[41]⟩] 1 w8 HR.out.1 rfl (fun j hj => by simp at hj; subst hj; rfl) (fun s hs => by simp at hs; subst hs; decide) (by have := HV.out.2.2.2.2.2; omega)).mono ?_
    rintro e7 w7 ⟨rfl, v7, b7, d7⟩
    have HR7 : Hid (Bn w7 b (n + (c + 512)) v7 ∧ Wd b v v7 w w7) := ⟨b7.mono (by omega), HR.out.2.trans d7⟩
    clear b7 d7
    go_wp2
    go_ret
    exact ⟨rfl, v7, HR7.out⟩

theorem takesMinus_any (p : Pt) (hv : p.vk ≠ 3) (w : World) : Calls Tryz.prog 145 #[p.val] w fun e w' => e = .returned (.bool (decide (p.vk = 2) && decide (0 ≤ p.vi))) ∧ Keep [] w w' := by
  obtain ⟨k, s, vk, vi⟩ := p
  have hsf := store_f32
  simp only [Go.stored] at hsf
  simp only at hv ⊢
  have h3 : (vk == 3) = false := by simpa using hv
  by_cases h2 : vk = 2
  · subst h2
    by_cases h0 : 0 ≤ vi
    · rw [decide_eq_true h0]
      go_enter Tryz.func145, Tryz.ntmps145
      go_wp2
      go_ret
      exact ⟨rfl, (Keep.alloc1 _ _).alloc _⟩
    · rw [decide_eq_false h0]
      go_enter Tryz.func145, Tryz.ntmps145
      go_wp2
      go_ret
      exact ⟨rfl, (Keep.alloc1 _ _).alloc _⟩
  · have hb : (vk == 2) = false := by simpa using h2
    rw [decide_eq_false h2]
    go_enter Tryz.func145, Tryz.ntmps145
    go_wp2
    go_ret
    exact ⟨rfl, (Keep.alloc1 _ _).alloc _⟩
end Go.Proofs.YtplbclokoffgkaaGreatDoor
