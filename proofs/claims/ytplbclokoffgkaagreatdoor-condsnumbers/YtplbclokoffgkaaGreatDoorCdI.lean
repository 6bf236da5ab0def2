/- A sheet: a strings.Builder within a struct, as the own text of a schema is put into it. -/
import Derived.Test.YtplbclokoffgkaaGreatDoorCdH
import Derived.Lib.Builder
namespace Go.Proofs.YtplbclokoffgkaaGreatDoor
open Go.RowKit Go.PlainAid

/-- a builder of one's own at b has written l; its row lies from B on -/
structure Bd (B : Nat) (w : World) (b : Nat) (l : List UInt8) (p v : Value) : Prop where
  box : w.heap[b]? = some (.cells #[p, v] 91 (0, 0))
  ptr : p = .pointer none ∨ p = .pointer (some ⟨b, 0, none⟩)
  row : Row w v l
  far : ∀ k, v.ownBlock = some k → B ≤ k
theorem Bd.lt {B : Nat} {w : World} {b : Nat} {l : List UInt8} {p v : Value} (h : Bd B w b l p v) : b < w.heap.size := (Array.getElem?_eq_some_iff.1 h.box).1
theorem box_cell {w : World} {b : Nat} {cs : Array Value} {T : TypeId} (h : w.heap[b]? = some (.cells cs T (0, 0))) (j : Nat) : w.cell? ⟨b, j, none⟩ = cs[j]? ∧ w.frozen? ⟨b, j, none⟩ = false := ⟨by simp [World.cell?, h], by simp [World.frozen?, h]⟩
theorem box2 {w : World} {b : Nat} {x y : Value} {T : TypeId} (h : w.heap[b]? = some (.cells #[x, y] T (0, 0))) :
    w.cell? ⟨b, 0, none⟩ = some x ∧ w.cell? ⟨b, 1, none⟩ = some y ∧ w.frozen? ⟨b, 0, none⟩ = false ∧ w.frozen? ⟨b, 1, none⟩ = false :=
  ⟨(box_cell h 0).1, (box_cell h 1).1, (box_cell h 0).2, (box_cell h 1).2⟩
theorem Bd.alloc {B : Nat} {w : World} {b : Nat} {l : List UInt8} {p v : Value} (h : Bd B w b l p v) (O : Obj) : Bd B (w.alloc O) b l p v :=
  ⟨(Below.heap_alloc w O _ h.lt).trans h.box, h.ptr, h.row.keep (Keep.alloc1 w O) (Off.nil _), h.far⟩
theorem Bd.keep {B : Nat} {w w' : World} {b : Nat} {l : List UInt8} {p v : Value} (h : Bd B w b l p v) {F : List Nat} (k : Keep F w w') (hb : b ∉ F) (hF : ∀ x ∈ F, x < B ∨ w.heap.size ≤ x) : Bd B w' b l p v :=
  ⟨(k.block b h.lt hb).trans h.box, h.ptr, h.row.keep k (fun x hx hm => by
    have := h.far x hx
    have := h.row.lt x hx
    rcases hF x hm with e | e <;> omega), h.far⟩
/-- nothing but the builder, its row and new blocks are written; its row is the one of before or a new one -/
structure Wd (b : Nat) (v v' : Value) (w w' : World) : Prop where
  keep : Keep (b :: v.ownBlock.toList) w w'
  nw : v'.ownBlock = v.ownBlock ∨ Fresh w w' v'
theorem Wd.refl (b : Nat) (v : Value) (w : World) : Wd b v v w w := ⟨Keep.refl _ _, .inl rfl⟩
theorem Wd.trans {b : Nat} {v v' v'' : Value} {w w' w'' : World} (h : Wd b v v' w w') (k : Wd b v' v'' w' w'') : Wd b v v'' w w'' := by
  refine ⟨h.keep.more k.keep (fun x hx => ?_), ?_⟩
  · simp at hx
    rcases hx with rfl | hx
    · exact .inl (by simp)
    · rcases h.nw with e | e
      · exact .inl (by simp; right; rw [← e]; exact hx)
      · exact .inr (e x hx).1
  · rcases k.nw with e | e
    · rcases h.nw with f | f
      · exact .inl (e.trans f)
      · exact .inr fun x hx => ⟨(f x (by rw [← e]; exact hx)).1, Nat.lt_of_lt_of_le (f x (by rw [← e]; exact hx)).2 k.keep.size⟩
    · exact .inr fun x hx => ⟨Nat.le_trans h.keep.size (e x hx).1, (e x hx).2⟩
theorem Wd.alloc {b : Nat} {v v' : Value} {w w' : World} {O : Obj} (h : Wd b v v' (w.alloc O) w') : Wd b v v' w w' :=
  ⟨((Keep.alloc1 w O).mono (by simp)).trans' h.keep, h.nw.imp id (fun e x hx => ⟨Nat.le_trans (by simp) (e x hx).1, (e x hx).2⟩)⟩
theorem Bd.put {B : Nat} {w w1 : World} {b : Nat} {l l' : List UInt8} {p v v' : Value} (h : Bd B w b l p v) (hb : b < B) (hB : B ≤ w.heap.size) (h1 : Row w1 v' l') (h2 : Keep v.ownBlock.toList w w1) (h3 : v'.ownBlock = v.ownBlock ∨ Fresh w w1 v') :
    Bd B (w1.setCell ⟨b, 1, none⟩ v') b l' p v' ∧ Wd b v v' w (w1.setCell ⟨b, 1, none⟩ v') ∧ w1.heap[b]? = some (.cells #[p, v] 91 (0, 0)) := by
  have hbw : b ∉ v.ownBlock.toList := by
    intro hm
    have := h.far b (by simpa using hm)
    omega
  have hbox := (h2.block b (by omega) hbw).trans h.box
  have far : ∀ k, v'.ownBlock = some k → B ≤ k := fun k hk => by
    rcases h3 with h3 | h3
    · exact h.far k (by rw [← h3]; exact hk)
    · have := (h3 k hk).1; omega
  refine ⟨⟨heap_setCell_same w1 b 1 _ 91 _ hbox, h.ptr, h1.keep (Keep.set1 w1 _ _) (fun k hk hm => by have := far k hk; simp at hm; omega), far⟩, ?_, hbox⟩
  exact ⟨(h2.mono (fun x hx => .inl (by simp at hx ⊢; exact .inr hx))).setCell (.inl (by simp)) v', h3.imp id (fun e x hx => ⟨(e x hx).1, by have := (e x hx).2; simpa [World.setCell] using this⟩)⟩
theorem Bd.used {B : Nat} {w : World} {b : Nat} {l : List UInt8} {p v : Value} (h : Bd B w b l p v) (hb : b < B) : Bd B (w.setCell ⟨b, 0, none⟩ (.pointer (some ⟨b, 0, none⟩))) b l (.pointer (some ⟨b, 0, none⟩)) v :=
  ⟨heap_setCell_same w b 0 _ 91 _ h.box, .inr rfl, h.row.keep (Keep.set1 w _ _) (fun k hk hm => by have := h.far k hk; simp at hm; omega), h.far⟩

set_option maxHeartbeats 1000000 in
set_option maxRecDepth 100000 in
theorem copyCheck_any (B b : Nat) (l : List UInt8) (p v : Value) (w : World) (hb : b < B) (h : Bd B w b l p v) :
    Calls Tryz.prog 119 #[.pointer (some ⟨b, 0, none⟩)] w fun e w' => e = .returned (.tuple #[]) ∧ Bd B w' b l (.pointer (some ⟨b, 0, none⟩)) v ∧ Wd b v v w w' := by
  obtain ⟨c0, c1, f0, f1⟩ := box2 h.box
  have hsh : w.shape? b = some (91, 2) := by simp [World.shape?, h.box]
  rcases h.ptr with rfl | rfl
  · have hto : (convert 86 215 (.pointer (some ⟨b, 0, none⟩))).run Tryz.prog w = .ok (.pointer (some ⟨b, 0, none⟩)) w :=
      Lib.run_to_unsafe w ⟨b, 0, none⟩ Tryz.underlying86 Tryz.underlying215 (j := (Tryz.prog.info? 89).get (by kernel_rfl)) (by kernel_rfl) (by decide +kernel) hsh (Nat.zero_lt_succ 1)
    have hfrom : (convert 215 86 (.pointer (some ⟨b, 0, none⟩))).run Tryz.prog w = .ok (.pointer (some ⟨b, 0, none⟩)) w :=
      Lib.run_from_unsafe w ⟨b, 0, none⟩ Tryz.underlying215 Tryz.underlying86 (j := (Tryz.prog.info? 89).get (by kernel_rfl)) (by kernel_rfl) hsh (by kernel_rfl)
    go_enter Tryz.func119, Tryz.ntmps119
    go_wp2
    rw [run_callFunc_extern Tryz.func142 (by kernel_rfl) (by kernel_rfl) (by kernel_rfl) (e := Extern.AbiNoEscape.same) (by kernel_rfl)]
    rw [Lib.run_noEscape]
    simp only [Result.andThen]
    rw [Oper.upon_value]
    go_wp2
    go_end0
    exact ⟨rfl, h.used hb, (Keep.refl _ _).setCell (.inl (by simp)) _, .inl rfl⟩
  · have hne := Lib.run_neq_ptr_same (P := Tryz.prog) w (tp := 86) (te := 89) ⟨b, 0, none⟩ Tryz.underlying86 (j := (Tryz.prog.info? 89).get (by kernel_rfl)) (by kernel_rfl)
    go_enter Tryz.func119, Tryz.ntmps119
    go_wp2
    go_end0
    exact ⟨rfl, h, Wd.refl _ _ _⟩

set_option maxHeartbeats 1000000 in
theorem len_any (B b : Nat) (l : List UInt8) (p v : Value) (w : World) (h : Bd B w b l p v) :
    Calls Tryz.prog 88 #[.pointer (some ⟨b, 0, none⟩)] w fun e w' => e = .returned (.int .i64 (l.length : Int)) ∧ w' = w := by
  obtain ⟨c0, c1, f0, f1⟩ := box2 h.box
  obtain ⟨ao, cap, rfl, _⟩ := h.row.bs.ex
  go_enter Tryz.func88, Tryz.ntmps88
  go_wp2
  go_ret
  exact ⟨rfl, rfl⟩

set_option maxHeartbeats 1000000 in
theorem writeString_any (B b : Nat) (l : List UInt8) (p v : Value) (s : ByteArray) (w : World) (hb : b < B) (hB : B ≤ w.heap.size) (h : Bd B w b l p v) (hn : l.length + s.size ≤ 140737488355328) :
    Calls Tryz.prog 85 #[.pointer (some ⟨b, 0, none⟩), .string s] w fun e w' => e = .returned (.tuple #[.int .i64 (s.size : Int), .nilIface]) ∧ ∃ p' v', Bd B w' b (l ++ s.toList) p' v' ∧ Wd b v v' w w' := by
  have h' : Hid _ := h
  clear h
  have hsrc : ∀ w, Src Tryz.prog 1 9 (.string s) s.toList.length (bv s.toList) w := fun w => by
    have := Src.ofString (P := Tryz.prog) w Tryz.underlying9 s
    rw [bv_byteCells, ← ByteArray.toList_eq, ← toList_len] at this
    exact this
  have HS : Hid _ := hsrc
  have hn' : Hid (l.length + s.toList.length ≤ 140737488355328) := by show _ ≤ _; rw [toList_len]; exact hn
  clear hsrc hn
  go_enter Tryz.func85, Tryz.ntmps85
  go_wp2_with (first | (go_at_call 119; refine (copyCheck_any B b l p v w hb h'.out).mono ?_; rintro e w1 ⟨rfl, hb1, k1⟩; obtain ⟨c0, c1, f0, f1⟩ := box2 hb1.box; have hB1 : B ≤ w1.heap.size := Nat.le_trans hB k1.keep.size) | (at_builtin; refine wp_app rfl (.tmp 12) (.tmp 13) 87 9 rfl underS v l rfl hb1.row _ s.toList rfl (HS.out _) hn'.out ?_))
  intro v' w2 h1 h2 h3 h4
  obtain ⟨a9, c9, rfl⟩ := h4
  obtain ⟨U1, K1, hbx⟩ := hb1.put hb hB1 h1 h2 h3
  obtain ⟨g0, g1, e0, e1⟩ := box2 hbx
  have HU : Hid _ := U1
  have HK : Hid _ := k1.trans K1
  clear U1 K1 h1 h2 h3 hb1 k1 c0 c1 f0 f1
  go_wp2
  go_ret2
  exact ⟨rfl, _, _, HU.out, HK.out⟩
end Go.Proofs.YtplbclokoffgkaaGreatDoor
