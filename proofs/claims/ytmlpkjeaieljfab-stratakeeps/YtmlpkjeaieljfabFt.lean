/- Pick, fit; has, least, held. -/
import Derived.Test.YtmlpkjeaieljfabLk
namespace Go.Proofs.Ytmlpkjeaieljfab
open Go.RowKit Go.PlainAid

def pickZ (x n : Int) : Int := if n < 1 then 0 else x % n

theorem pickZ_lt (x : Int) (n : Nat) (h : 0 < n) : 0 ≤ pickZ x n ∧ pickZ x n < n := by
  unfold pickZ
  rw [if_neg (by omega)]
  exact ⟨Int.emod_nonneg _ (by omega), Int.emod_lt_of_pos _ (by omega)⟩

set_option maxHeartbeats 1600000 in
theorem pick_any (x n : Int) (h0 : -9223372036854775808 ≤ x) (h1 : x ≤ 9223372036854775807) (hn : n ≤ 9223372036854775807) (w : World) :
    Calls Try.prog 7 #[.int .i64 x, .int .i64 n] w fun e w' => e = .returned (.int .i64 (pickZ x n)) ∧ w' = w := by
  by_cases hn1 : n < 1
  · have hq : pickZ x n = 0 := by unfold pickZ; rw [if_pos hn1]
    rw [hq]
    clear hq
    go_enter Try.func7, Try.ntmps7
    go_wp2
    go_ret
    exact ⟨rfl, rfl⟩
  · have hq : pickZ x n = x % n := by unfold pickZ; rw [if_neg hn1]
    have hn0 : (n == 0) = false := by simp; omega
    have e1 : x.tmod n < 0 → x.tmod n + n = x % n := by
      intro h
      rw [Int.emod_eq_tmod]
      have hx : ¬ 0 ≤ x := by
        intro hx
        have := Int.tmod_nonneg n hx
        omega
      have hd : ¬ n ∣ x := by
        intro hd
        have := Int.tmod_eq_zero_of_dvd hd
        omega
      rw [if_neg (by simp [hx, hd])]
      omega
    have e2 : ¬ x.tmod n < 0 → x.tmod n = x % n := by
      intro h
      rw [Int.emod_eq_tmod]
      by_cases hx : 0 ≤ x
      · rw [if_pos (.inl hx)]; omega
      · by_cases hd : n ∣ x
        · rw [if_pos (.inr hd)]; omega
        · exfalso
          have h3 : x.tmod n ≤ 0 := by
            have := Int.tmod_nonneg n (show 0 ≤ -x by omega)
            rw [Int.neg_tmod] at this
            omega
          have h4 : x.tmod n = 0 := by omega
          exact hd (Int.dvd_of_tmod_eq_zero h4)
    have hlo : -9223372036854775808 ≤ x.tmod n ∧ x.tmod n < n := by
      have h5 := Int.emod_nonneg x (show n ≠ 0 by omega)
      have h6 := Int.emod_lt_of_pos x (show 0 < n by omega)
      by_cases h : x.tmod n < 0
      · have := e1 h
        omega
      · have := e2 h
        omega
    rw [hq]
    have HE : Hid ((x.tmod n < 0 → x.tmod n + n = x % n) ∧ (¬ x.tmod n < 0 → x.tmod n = x % n)) := ⟨e1, e2⟩
    clear hq e1 e2
    go_enter Try.func7, Try.ntmps7
    go_wp2
    all_goals go_ret
    · have h7 : x.tmod n < 0 := by assumption
      have h8 := HE.out.1 h7
      refine ⟨?_, rfl⟩
      show Ending.returned (Value.int .i64 (x.tmod n + n)) = _
      rw [h8]
    · have h7 : 0 ≤ x.tmod n := by assumption
      have h8 := HE.out.2 (by omega)
      refine ⟨?_, rfl⟩
      show Ending.returned (Value.int .i64 (x.tmod n)) = _
      rw [h8]

def Eqx (a b : World) : Prop := a = b
/-- the graph that is looked at -/
def fitN (n : Int) : Nat := (pickZ n 40).toNat
def fitF (N : Nat) (z : Az) : Ar := ⟨(pickZ z.f N).toNat, (pickZ z.t N).toNat, z.g⟩
def fitA (n : Int) (l : List Az) : List Ar := if fitN n = 0 then [] else (l.take 400).map (fitF (fitN n))
theorem fitN_lt (n : Int) : fitN n < 40 := by
  have : 0 ≤ pickZ n 40 ∧ pickZ n 40 < 40 := pickZ_lt n 40 (by omega)
  unfold fitN
  omega
theorem fitA_node (n : Int) (l : List Az) : ∀ a ∈ fitA n l, a.f < fitN n ∧ a.t < fitN n := fun a ha => by
  unfold fitA at ha
  split at ha
  · simp at ha
  · rename_i h0
    obtain ⟨z, _, rfl⟩ := List.mem_map.1 ha
    have h1 := pickZ_lt z.f (fitN n) (by omega)
    have h2 := pickZ_lt z.t (fitN n) (by omega)
    exact ⟨by show (pickZ z.f (fitN n)).toNat < fitN n; omega, by show (pickZ z.t (fitN n)).toNat < fitN n; omega⟩
theorem fitA_len (n : Int) (l : List Az) : (fitA n l).length ≤ 400 := by
  unfold fitA
  split
  · simp
  · simp; omega
theorem Ow.pushD {w wr wr' : World} {v v' : Value} {l : List Ar} {x : Ar} {o : Obj} (h : Ow 31 encA 3 w wr v l) (hr : RowC wr' 31 3 v' (l.length + 1) (l.flatMap encA ++ encA x)) (hk : Keep v.ownBlock.toList (wr.drew.alloc o) wr') (hf : v'.ownBlock = v.ownBlock ∨ Fresh (wr.drew.alloc o) wr' v') : Ow 31 encA 3 w wr' v' (l ++ [x]) :=
  Ow.push (h.step ((Keep.refl [] wr).drew)) hr hk hf
theorem src_ad (w : World) (x : Ar) : Src Try.prog 3 22 (.slice (some ⟨w.heap.size, 0, none⟩) 1 1) 1 (encA x) (w.drew.alloc (.cells #[.int .i64 (x.f : Int), .int .i64 (x.t : Int), .bool x.g] 31 (0, 0))) := src_az w.drew x.z

set_option maxRecDepth 1000000 in
set_option maxHeartbeats 2000000 in
theorem fit_any (n : Int) (v : Value) (l : List Az) (w : World) (h : Rd encZ 3 w v l) (hn : -9223372036854775808 ≤ n ∧ n ≤ 9223372036854775807) (hl : ∀ x ∈ l, (-9223372036854775808 ≤ x.f ∧ x.f ≤ 9223372036854775807) ∧ (-9223372036854775808 ≤ x.t ∧ x.t ≤ 9223372036854775807)) :
    Calls Try.prog 6 #[.int .i64 n, v] w fun e w' => ∃ v', e = .returned (.tuple #[.int .i64 (fitN n : Int), v']) ∧ Ow 31 encA 3 w w' v' (fitA n l) := by
  obtain ⟨ao, cap, rfl, hc1, hc2⟩ := h.form
  have HA : Hid (Rd encZ 3 w (.slice ao l.length cap) l) := h
  have HP0 : Hid (∀ (_ : True), Calls Try.prog 7 #[.int .i64 n, .int .i64 40] w fun e w' => e = .returned (.int .i64 (fitN n : Int)) ∧ w' = w) := fun _ => by
    have := pick_any n 40 hn.1 hn.2 (by omega) w
    have h2 : 0 ≤ pickZ n 40 ∧ pickZ n 40 < 40 := pickZ_lt n 40 (by omega)
    rwa [show ((fitN n : Nat) : Int) = pickZ n 40 by unfold fitN; omega]
  have HL : Hid (∀ x ∈ l, (-9223372036854775808 ≤ x.f ∧ x.f ≤ 9223372036854775807) ∧ (-9223372036854775808 ≤ x.t ∧ x.t ≤ 9223372036854775807)) := hl
  have HF : Hid (fitA n l = if fitN n = 0 then [] else (l.take 400).map (fitF (fitN n))) := rfl
  have hN := fitN_lt n
  generalize fitN n = N at HP0 HF hN
  generalize fitA n l = FA at HF
  clear h hl hn
  go_enter Try.func6, Try.ntmps6
  go_wp2_with fail
  refine (HP0.out trivial).mono ?_
  rintro e w1 ⟨rfl, hw⟩
  obtain rfl := hw.symm
  clear HP0
  go_wp2
  go_loopw [6, 7] (fun vv iv wr => ∃ (i : Nat), iv = .int .i64 (i : Int) ∧ i ≤ l.length ∧ i ≤ 400 ∧ (N = 0 → i = 0) ∧ Hid (Ow 31 encA 3 w wr vv ((l.take i).map (fitF N)))) (fun _ iv _ => l.length - (intOf iv).toNat)
  case atStart => exact ⟨0, rfl, Nat.zero_le _, by omega, fun _ => rfl, Ow.nil (Keep.refl _ _)⟩
  case round =>
    obtain ⟨i, rfl, hi, hi4, hi0, HI⟩ := hrel
    by_cases hgo : i < l.length ∧ i < 400 ∧ 0 < N
    · obtain ⟨hlt, h400, hNp⟩ := hgo
      have hlti : (i : Int) < (l.length : Int) := by omega
      have h4i : (i : Int) < 400 := by omega
      have hNi : (0 : Int) < (N : Int) := by omega
      obtain ⟨bb, oo, cc, he, hb, e0, e1, e2⟩ := HA.out.arc i hlt
      simp at he
      obtain ⟨rfl, rfl⟩ := he
      have hok := HL.out l[i] (List.getElem_mem hlt)
      have HT : Hid ((l.take (i + 1)).map (fitF N) = (l.take i).map (fitF N) ++ [⟨(pickZ l[i].f N).toNat, (pickZ l[i].t N).toNat, l[i].g⟩]) := by
        show _ = _
        rw [List.take_succ_eq_append_getElem hlt, List.map_append]
        rfl
      have HP1 : Hid (∀ w, Calls Try.prog 7 #[.int .i64 l[i].f, .int .i64 (N : Int)] w fun e w' => e = .returned (.int .i64 ((pickZ l[i].f N).toNat : Int)) ∧ w' = w) := fun w => by
        have := pick_any l[i].f N hok.1.1 hok.1.2 (by omega) w
        have h2 := pickZ_lt l[i].f N hNp
        rwa [show (((pickZ l[i].f N).toNat : Nat) : Int) = pickZ l[i].f N by omega]
      have HP2 : Hid (∀ w, Calls Try.prog 7 #[.int .i64 l[i].t, .int .i64 (N : Int)] w fun e w' => e = .returned (.int .i64 ((pickZ l[i].t N).toNat : Int)) ∧ w' = w) := fun w => by
        have := pick_any l[i].t N hok.2.1 hok.2.2 (by omega) w
        have h2 := pickZ_lt l[i].t N hNp
        rwa [show (((pickZ l[i].t N).toNat : Nat) : Int) = pickZ l[i].t N by omega]
      have HBl : Hid (((l.take i).map (fitF N)).length ≤ 400) := by show _ ≤ _; simp; omega
      generalize (pickZ l[i].f N).toNat = f2 at HP1 HT
      generalize (pickZ l[i].t N).toNat = t2 at HP2 HT
      generalize l[i].f = f at e0 HP1
      generalize l[i].t = t at e1 HP2
      generalize l[i].g = gg at e2 HT
      generalize (l.take i).map (fitF N) = B at HI HT HBl
      clear hok
      have hal : Hid ((B.length + 1) * 24 ≤ 140737488355328 ∧ B.length + 1 ≤ maxLen) := by
        have := HBl.out
        refine ⟨by omega, ?_⟩
        unfold maxLen; omega
      have HS8 : Hid (∀ w', Keep u6.ownBlock.toList wr w' → ((fun w' : World => w'.cell? ⟨bb, oo + i * 3, none⟩ = some (.int .i64 f) ∧ w'.cell? ⟨bb, oo + i * 3 + 1, none⟩ = some (.int .i64 t) ∧ w'.cell? ⟨bb, oo + i * 3 + 2, none⟩ = some (.bool gg))) w') := fun w' k => by
        have hb2 : bb < wr.heap.size := Nat.lt_of_lt_of_le hb HI.out.keep.size
        have hn : bb ∉ u6.ownBlock.toList := fun hm => by
          have := HI.out.new bb (by simpa using hm)
          omega
        have q0 := HI.out.keep.cell' e0 (by simp)
        have q1 := HI.out.keep.cell' e1 (by simp)
        have q2 := HI.out.keep.cell' e2 (by simp)
        exact ⟨k.cell' q0 hn, k.cell' q1 hn, k.cell' q2 hn⟩
      have HSr : Hid _ := src_ad wr ⟨f2, t2, gg⟩
      have HR : Hid (RowC (wr.drew.alloc (.cells #[.int .i64 (f2 : Int), .int .i64 (t2 : Int), .bool gg] 31 (0, 0))) 31 3 u6 B.length (B.flatMap encA)) := RowC.keep (RowC.keep HI.out.row ((Keep.refl [] wr).drew) (Off.nil _)) (Keep.alloc1 wr.drew _) (Off.nil _)
      clear e0 e1 e2
      go_wp2
      refine wp_region_held_drew (S := (fun w' : World => w'.cell? ⟨bb, oo + i * 3, none⟩ = some (.int .i64 f) ∧ w'.cell? ⟨bb, oo + i * 3 + 1, none⟩ = some (.int .i64 t) ∧ w'.cell? ⟨bb, oo + i * 3 + 2, none⟩ = some (.bool gg))) (by kernel_rfl) (HS8.out _ ((Keep.refl _ wr).drew)) (fun hHeld => ?_)
      try dsimp only at hHeld
      refine wpAnyH_take (i := 0) (oi := { dst := some 24, op := Go.Op.move (Go.Operand.tmp 6), type := 22, pos := "outright.go:27", after := #[], guard := none }) (v := ?_) rfl (by kernel_rfl) (by kernel_rfl) (by kernel_rfl) (fun _ _ _ h => h) (Or.inl ⟨by rfl, ?_⟩) (by assumption) ?_
      rotate_left
      · intro w7 hSw
        try dsimp only at hSw
        first | (go_simp; done) | (go_simp; with_reducible rfl)
      try simp only [Act.put, List.setIfInBounds_toArray, List.set_cons_zero, List.set_cons_succ]
      refine wpAnyH_take (i := 1) (oi := { dst := some 25, op := Go.Op.move (Go.Operand.tmp 1), type := 22, pos := "outright.go:27", after := #[], guard := none }) (v := ?_) rfl (by kernel_rfl) (by kernel_rfl) (by kernel_rfl) (fun _ _ _ h => h) (Or.inl ⟨by rfl, ?_⟩) (by assumption) ?_
      rotate_left
      · intro w7 hSw
        try dsimp only at hSw
        first | (go_simp; done) | (go_simp; with_reducible rfl)
      try simp only [Act.put, List.setIfInBounds_toArray, List.set_cons_zero, List.set_cons_succ]
      refine wpAnyH_take (i := 2) (oi := { dst := some 26, op := Go.Op.move (Go.Operand.tmp 7), type := 3, pos := "outright.go:27", after := #[], guard := none }) (v := ?_) rfl (by kernel_rfl) (by kernel_rfl) (by kernel_rfl) (fun _ _ _ h => h) (Or.inl ⟨by rfl, ?_⟩) (by assumption) ?_
      rotate_left
      · intro w7 hSw
        try dsimp only at hSw
        first | (go_simp; done) | (go_simp; with_reducible rfl)
      try simp only [Act.put, List.setIfInBounds_toArray, List.set_cons_zero, List.set_cons_succ]
      refine wpAnyH_take (i := 3) (oi := { dst := some 27, op := Go.Op.indexAddr 22 (Go.Operand.tmp 25) (Go.Operand.tmp 26), type := 0, pos := "outright.go:27", after := #[{ on := 1, ground := Go.Ground.data }, { on := 2, ground := Go.Ground.data }], guard := none }) (v := ?_) rfl (by kernel_rfl) (by kernel_rfl) (by kernel_rfl) (fun _ _ _ h => h) (Or.inl ⟨by rfl, ?_⟩) (by assumption) ?_
      rotate_left
      · intro w7 hSw
        try dsimp only at hSw
        first | (go_simp; done) | (go_simp; with_reducible rfl)
      try simp only [Act.put, List.setIfInBounds_toArray, List.set_cons_zero, List.set_cons_succ]
      refine wpAnyH_take (i := 4) (oi := { dst := some 28, op := Go.Op.fieldAddr 31 (Go.Operand.tmp 27) 0, type := 0, pos := "outright.go:27", after := #[{ on := 3, ground := Go.Ground.data }], guard := none }) (v := ?_) rfl (by kernel_rfl) (by kernel_rfl) (by kernel_rfl) (fun _ _ _ h => h) (Or.inl ⟨by rfl, ?_⟩) (by assumption) ?_
      rotate_left
      · intro w7 hSw
        try dsimp only at hSw
        first | (go_simp; done) | (go_simp; with_reducible rfl)
      try simp only [Act.put, List.setIfInBounds_toArray, List.set_cons_zero, List.set_cons_succ]
      refine wpAnyH_take (i := 5) (oi := { dst := some 29, op := Go.Op.load 3 (Go.Operand.tmp 28), type := 3, pos := "outright.go:27", after := #[{ on := 4, ground := Go.Ground.data }], guard := none }) (v := ?_) rfl (by kernel_rfl) (by kernel_rfl) (by kernel_rfl) (fun _ _ _ h => h) (Or.inl ⟨by rfl, ?_⟩) (by assumption) ?_
      rotate_left
      · intro w7 hSw
        try dsimp only at hSw
        first | (go_simp; done) | (go_simp; with_reducible rfl)
      try simp only [Act.put, List.setIfInBounds_toArray, List.set_cons_zero, List.set_cons_succ]
      refine wpAnyH_take (i := 6) (oi := { dst := some 30, op := Go.Op.move (Go.Operand.tmp 0), type := 3, pos := "outright.go:27", after := #[], guard := none }) (v := ?_) rfl (by kernel_rfl) (by kernel_rfl) (by kernel_rfl) (fun _ _ _ h => h) (Or.inl ⟨by rfl, ?_⟩) (by assumption) ?_
      rotate_left
      · intro w7 hSw
        try dsimp only at hSw
        first | (go_simp; done) | (go_simp; with_reducible rfl)
      try simp only [Act.put, List.setIfInBounds_toArray, List.set_cons_zero, List.set_cons_succ]
      refine wpAnyH_take (i := 8) (oi := { dst := some 32, op := Go.Op.move (Go.Operand.tmp 1), type := 22, pos := "outright.go:27", after := #[], guard := none }) (v := ?_) rfl (by kernel_rfl) (by kernel_rfl) (by kernel_rfl) (fun _ _ _ h => h) (Or.inl ⟨by rfl, ?_⟩) (by assumption) ?_
      rotate_left
      · intro w7 hSw
        try dsimp only at hSw
        first | (go_simp; done) | (go_simp; with_reducible rfl)
      try simp only [Act.put, List.setIfInBounds_toArray, List.set_cons_zero, List.set_cons_succ]
      refine wpAnyH_take (i := 9) (oi := { dst := some 33, op := Go.Op.move (Go.Operand.tmp 7), type := 3, pos := "outright.go:27", after := #[], guard := none }) (v := ?_) rfl (by kernel_rfl) (by kernel_rfl) (by kernel_rfl) (fun _ _ _ h => h) (Or.inl ⟨by rfl, ?_⟩) (by assumption) ?_
      rotate_left
      · intro w7 hSw
        try dsimp only at hSw
        first | (go_simp; done) | (go_simp; with_reducible rfl)
      try simp only [Act.put, List.setIfInBounds_toArray, List.set_cons_zero, List.set_cons_succ]
      refine wpAnyH_take (i := 10) (oi := { dst := some 34, op := Go.Op.indexAddr 22 (Go.Operand.tmp 32) (Go.Operand.tmp 33), type := 0, pos := "outright.go:27", after := #[{ on := 8, ground := Go.Ground.data }, { on := 9, ground := Go.Ground.data }], guard := none }) (v := ?_) rfl (by kernel_rfl) (by kernel_rfl) (by kernel_rfl) (fun _ _ _ h => h) (Or.inl ⟨by rfl, ?_⟩) (by assumption) ?_
      rotate_left
      · intro w7 hSw
        try dsimp only at hSw
        first | (go_simp; done) | (go_simp; with_reducible rfl)
      try simp only [Act.put, List.setIfInBounds_toArray, List.set_cons_zero, List.set_cons_succ]
      refine wpAnyH_take (i := 11) (oi := { dst := some 35, op := Go.Op.fieldAddr 31 (Go.Operand.tmp 34) 1, type := 0, pos := "outright.go:27", after := #[{ on := 10, ground := Go.Ground.data }], guard := none }) (v := ?_) rfl (by kernel_rfl) (by kernel_rfl) (by kernel_rfl) (fun _ _ _ h => h) (Or.inl ⟨by rfl, ?_⟩) (by assumption) ?_
      rotate_left
      · intro w7 hSw
        try dsimp only at hSw
        first | (go_simp; done) | (go_simp; with_reducible rfl)
      try simp only [Act.put, List.setIfInBounds_toArray, List.set_cons_zero, List.set_cons_succ]
      refine wpAnyH_take (i := 12) (oi := { dst := some 36, op := Go.Op.load 3 (Go.Operand.tmp 35), type := 3, pos := "outright.go:27", after := #[{ on := 11, ground := Go.Ground.data }], guard := none }) (v := ?_) rfl (by kernel_rfl) (by kernel_rfl) (by kernel_rfl) (fun _ _ _ h => h) (Or.inl ⟨by rfl, ?_⟩) (by assumption) ?_
      rotate_left
      · intro w7 hSw
        try dsimp only at hSw
        first | (go_simp; done) | (go_simp; with_reducible rfl)
      try simp only [Act.put, List.setIfInBounds_toArray, List.set_cons_zero, List.set_cons_succ]
      refine wpAnyH_take (i := 13) (oi := { dst := some 37, op := Go.Op.move (Go.Operand.tmp 0), type := 3, pos := "outright.go:27", after := #[], guard := none }) (v := ?_) rfl (by kernel_rfl) (by kernel_rfl) (by kernel_rfl) (fun _ _ _ h => h) (Or.inl ⟨by rfl, ?_⟩) (by assumption) ?_
      rotate_left
      · intro w7 hSw
        try dsimp only at hSw
        first | (go_simp; done) | (go_simp; with_reducible rfl)
      try simp only [Act.put, List.setIfInBounds_toArray, List.set_cons_zero, List.set_cons_succ]
      refine wpAnyH_take (i := 15) (oi := { dst := some 39, op := Go.Op.move (Go.Operand.tmp 1), type := 22, pos := "outright.go:27", after := #[], guard := none }) (v := ?_) rfl (by kernel_rfl) (by kernel_rfl) (by kernel_rfl) (fun _ _ _ h => h) (Or.inl ⟨by rfl, ?_⟩) (by assumption) ?_
      rotate_left
      · intro w7 hSw
        try dsimp only at hSw
        first | (go_simp; done) | (go_simp; with_reducible rfl)
      try simp only [Act.put, List.setIfInBounds_toArray, List.set_cons_zero, List.set_cons_succ]
      refine wpAnyH_take (i := 16) (oi := { dst := some 40, op := Go.Op.move (Go.Operand.tmp 7), type := 3, pos := "outright.go:27", after := #[], guard := none }) (v := ?_) rfl (by kernel_rfl) (by kernel_rfl) (by kernel_rfl) (fun _ _ _ h => h) (Or.inl ⟨by rfl, ?_⟩) (by assumption) ?_
      rotate_left
      · intro w7 hSw
        try dsimp only at hSw
        first | (go_simp; done) | (go_simp; with_reducible rfl)
      try simp only [Act.put, List.setIfInBounds_toArray, List.set_cons_zero, List.set_cons_succ]
      refine wpAnyH_take (i := 17) (oi := { dst := some 41, op := Go.Op.indexAddr 22 (Go.Operand.tmp 39) (Go.Operand.tmp 40), type := 0, pos := "outright.go:27", after := #[{ on := 15, ground := Go.Ground.data }, { on := 16, ground := Go.Ground.data }], guard := none }) (v := ?_) rfl (by kernel_rfl) (by kernel_rfl) (by kernel_rfl) (fun _ _ _ h => h) (Or.inl ⟨by rfl, ?_⟩) (by assumption) ?_
      rotate_left
      · intro w7 hSw
        try dsimp only at hSw
        first | (go_simp; done) | (go_simp; with_reducible rfl)
      try simp only [Act.put, List.setIfInBounds_toArray, List.set_cons_zero, List.set_cons_succ]
      refine wpAnyH_take (i := 18) (oi := { dst := some 42, op := Go.Op.fieldAddr 31 (Go.Operand.tmp 41) 2, type := 0, pos := "outright.go:27", after := #[{ on := 17, ground := Go.Ground.data }], guard := none }) (v := ?_) rfl (by kernel_rfl) (by kernel_rfl) (by kernel_rfl) (fun _ _ _ h => h) (Or.inl ⟨by rfl, ?_⟩) (by assumption) ?_
      rotate_left
      · intro w7 hSw
        try dsimp only at hSw
        first | (go_simp; done) | (go_simp; with_reducible rfl)
      try simp only [Act.put, List.setIfInBounds_toArray, List.set_cons_zero, List.set_cons_succ]
      refine wpAnyH_take (i := 19) (oi := { dst := some 43, op := Go.Op.load 4 (Go.Operand.tmp 42), type := 4, pos := "outright.go:27", after := #[{ on := 18, ground := Go.Ground.data }], guard := none }) (v := ?_) rfl (by kernel_rfl) (by kernel_rfl) (by kernel_rfl) (fun _ _ _ h => h) (Or.inl ⟨by rfl, ?_⟩) (by assumption) ?_
      rotate_left
      · intro w7 hSw
        try dsimp only at hSw
        first | (go_simp; done) | (go_simp; with_reducible rfl)
      try simp only [Act.put, List.setIfInBounds_toArray, List.set_cons_zero, List.set_cons_succ]
      refine wpAnyH_ready (rs := [7]) (by kernel_rfl) (by simp) ?_
      refine AllReadyH.cons (o := { dst := some 31, op := Go.Op.call { callee := Go.Callee.value (Go.Operand.func 7), args := #[Go.Operand.tmp 29, Go.Operand.tmp 30], argTypes := #[3, 3] }, type := 3, pos := "outright.go:27", after := #[{ on := 5, ground := Go.Ground.data }, { on := 6, ground := Go.Ground.data }], guard := none }) rfl (fun K hK => ?_) AllReadyH.nil
      go_simp
      (go_at_call_of 7 f; refine (HP1.out _).mono ?_; rintro e9 w9 ⟨rfl, hw9⟩; obtain rfl := hw9.symm)
      go_wp2_with fail
      refine hK.out _ _ (hHeld) (fun hHeld2 => ?_)
      try dsimp only at hHeld2
      clear hK hHeld
      have hHeld := hHeld2
      clear hHeld2
      try simp only [Act.put, List.setIfInBounds_toArray, List.set_cons_zero, List.set_cons_succ]
      refine wpAnyH_ready (rs := [14]) (by kernel_rfl) (by simp) ?_
      refine AllReadyH.cons (o := { dst := some 38, op := Go.Op.call { callee := Go.Callee.value (Go.Operand.func 7), args := #[Go.Operand.tmp 36, Go.Operand.tmp 37], argTypes := #[3, 3] }, type := 3, pos := "outright.go:27", after := #[{ on := 12, ground := Go.Ground.data }, { on := 13, ground := Go.Ground.data }, { on := 7, ground := Go.Ground.chain }], guard := none }) rfl (fun K hK => ?_) AllReadyH.nil
      go_simp
      (go_at_call_of 7 t; refine (HP2.out _).mono ?_; rintro e9 w9 ⟨rfl, hw9⟩; obtain rfl := hw9.symm)
      go_wp2_with fail
      refine hK.out _ _ (hHeld) (fun hHeld2 => ?_)
      try dsimp only at hHeld2
      clear hK hHeld
      have hHeld := hHeld2
      clear hHeld2
      try simp only [Act.put, List.setIfInBounds_toArray, List.set_cons_zero, List.set_cons_succ]
      refine wpAnyH_take (i := 20) (oi := { dst := some 44, op := Go.Op.build 31 #[(0, Go.Operand.tmp 31), (1, Go.Operand.tmp 38), (2, Go.Operand.tmp 43)], type := 31, pos := "outright.go:27", after := #[{ on := 7, ground := Go.Ground.data }, { on := 14, ground := Go.Ground.data }, { on := 19, ground := Go.Ground.data }], guard := none }) (v := ?_) rfl (by kernel_rfl) (by kernel_rfl) (by kernel_rfl) (fun _ _ _ h => h) (Or.inl ⟨by rfl, ?_⟩) (by assumption) ?_
      rotate_left
      · intro w7 hSw
        try dsimp only at hSw
        first | (go_simp; done) | (go_simp; with_reducible rfl)
      try simp only [Act.put, List.setIfInBounds_toArray, List.set_cons_zero, List.set_cons_succ]
      refine wpAnyH_ready (rs := [21]) (by kernel_rfl) (by simp) ?_
      refine AllReadyH.cons (o := { dst := some 45, op := Go.Op.buildSlice 22 1 #[(0, Go.Operand.tmp 44)], type := 22, pos := "outright.go:27", after := #[{ on := 20, ground := Go.Ground.data }], guard := none }) rfl (fun K hK => ?_) AllReadyH.nil
      go_simp
      refine hK.out _ _ (HS8.out _ (((Keep.refl _ wr).drew).alloc _)) (fun hHeld2 => ?_)
      try dsimp only at hHeld2
      clear hK hHeld
      have hHeld := hHeld2
      clear hHeld2
      try simp only [Act.put, List.setIfInBounds_toArray, List.set_cons_zero, List.set_cons_succ]
      refine wpAnyH_ready (rs := [22]) (by kernel_rfl) (by simp) ?_
      refine AllReadyH.cons (o := { dst := some 46, op := Go.Op.call { callee := Go.Callee.builtin Go.Builtin.append, args := #[Go.Operand.tmp 24, Go.Operand.tmp 45], argTypes := #[22, 22] }, type := 22, pos := "outright.go:27", after := #[{ on := 0, ground := Go.Ground.data }, { on := 21, ground := Go.Ground.data }, { on := 14, ground := Go.Ground.chain }], guard := none }) rfl (fun K hK => ?_) AllReadyH.nil
      refine step_appC infoA rfl rfl (.tmp 24) (.tmp 45) 22 22 rfl Try.underlying22 u6 B.length (B.flatMap encA) rfl HR.out _ 1 (encA ⟨f2, t2, gg⟩) rfl HSr.out hal.out.1 hal.out.2 ?_
      intro v9 w9 R9 K9 F9 S9 _
      obtain ⟨a9, c9, rfl⟩ := S9
      have H9 : Hid (Ow 31 encA 3 w w9 (.slice a9 (B.length + 1) c9) (B ++ [⟨f2, t2, gg⟩])) := HI.out.pushD R9 K9 F9
      have HK9 : Hid (Keep u6.ownBlock.toList wr w9) := (((Keep.refl _ wr).drew).alloc _).more K9 (fun x hx => .inl hx)
      clear R9 K9 F9 HR HSr
      refine hK.out _ _ (HS8.out _ HK9.out) (fun hHeld2 => ?_)
      try dsimp only at hHeld2
      clear hK hHeld
      have hHeld := hHeld2
      clear hHeld2
      try simp only [Act.put, List.setIfInBounds_toArray, List.set_cons_zero, List.set_cons_succ]
      refine wpAnyH_take (i := 23) (oi := { dst := some 6, op := Go.Op.assign (Go.Operand.tmp 46), type := 22, pos := "outright.go:27", after := #[{ on := 22, ground := Go.Ground.data }, { on := 22, ground := Go.Ground.chain }, { on := 0, ground := Go.Ground.phase }, { on := 1, ground := Go.Ground.phase }, { on := 2, ground := Go.Ground.phase }, { on := 3, ground := Go.Ground.phase }, { on := 4, ground := Go.Ground.phase }, { on := 5, ground := Go.Ground.phase }, { on := 6, ground := Go.Ground.phase }, { on := 7, ground := Go.Ground.phase }, { on := 8, ground := Go.Ground.phase }, { on := 9, ground := Go.Ground.phase }, { on := 10, ground := Go.Ground.phase }, { on := 11, ground := Go.Ground.phase }, { on := 12, ground := Go.Ground.phase }, { on := 13, ground := Go.Ground.phase }, { on := 14, ground := Go.Ground.phase }, { on := 15, ground := Go.Ground.phase }, { on := 16, ground := Go.Ground.phase }, { on := 17, ground := Go.Ground.phase }, { on := 18, ground := Go.Ground.phase }, { on := 19, ground := Go.Ground.phase }, { on := 20, ground := Go.Ground.phase }, { on := 21, ground := Go.Ground.phase }, { on := 22, ground := Go.Ground.phase }], guard := none }) (v := ?_) rfl (by kernel_rfl) (by kernel_rfl) (by kernel_rfl) (fun _ _ _ h => h) (Or.inl ⟨by rfl, ?_⟩) (by assumption) ?_
      rotate_left
      · intro w7 hSw
        try dsimp only at hSw
        first | (go_simp; done) | (go_simp; with_reducible rfl)
      try simp only [Act.put, List.setIfInBounds_toArray, List.set_cons_zero, List.set_cons_succ]
      refine wpAnyH_done (by kernel_rfl) ?_ _
      go_wp2
      go_roundw
      case rel => exact ⟨i + 1, by go_num, by omega, by omega, fun h => by omega, by rw [HT.out]; exact H9.out⟩
      case measure => simp [intOf]; omega
    · have HE : Hid ((l.take i).map (fitF N) = FA) := by
        show _ = _
        rw [HF.out]
        by_cases h0 : N = 0
        · rw [if_pos h0, hi0 h0]; rfl
        · rw [if_neg h0]
          have : l.take i = l.take 400 := by
            by_cases h1 : i < l.length
            · have : i = 400 := by omega
              rw [this]
            · rw [List.take_of_length_le (by omega), List.take_of_length_le (by omega)]
          rw [this]
      have HI2 : Hid (Ow 31 encA 3 w wr u6 FA) := by
        have := HI.out
        rwa [HE.out] at this
      clear HI HE HF
      obtain ⟨a9, c9, rfl, -, -⟩ := (HI2.out.row.rd encA_len).form
      by_cases hlt : (i : Int) < (l.length : Int)
      · by_cases h400 : (i : Int) < 400
        · have hNi : ¬ (0 : Int) < (N : Int) := by omega
          clear hgo
          go_wp2
          go_ret2
          exact ⟨_, rfl, HI2.out⟩
        · clear hgo
          go_wp2
          go_ret2
          exact ⟨_, rfl, HI2.out⟩
      · clear hgo
        go_wp2
        go_ret2
        exact ⟨_, rfl, HI2.out⟩

set_option maxRecDepth 1000000 in
set_option maxHeartbeats 1000000 in
theorem has_any (v : Value) (l : List Int) (x : Int) (w : World) (h : Rd encI 1 w v l) : Calls Try.prog 12 #[v, .int .i64 x] w fun e w' => e = .returned (.bool (decide (x ∈ l))) ∧ w' = w := by
  obtain ⟨ao, cap, rfl, hc1, hc2⟩ := h.form
  have HA : Hid (Rd encI 1 w (.slice ao l.length cap) l) := h
  have HD : Hid ((∀ j (hj : j < l.length), l[j] ≠ x) → decide (x ∈ l) = false) := fun h => decide_eq_false (fun hm => by
    obtain ⟨j, hj, e⟩ := List.getElem_of_mem hm
    exact h j hj e)
  have HD2 : Hid (∀ j (hj : j < l.length), l[j] = x → decide (x ∈ l) = true) := fun j hj e => decide_eq_true (by rw [← e]; exact List.getElem_mem hj)
  generalize decide (x ∈ l) = dd at HD HD2 ⊢
  clear h
  go_enter Try.func12, Try.ntmps12
  go_wp2
  go_loopw [5] (fun iv wr => ∃ i : Nat, iv = .int .i64 (i : Int) ∧ i ≤ l.length ∧ Eqx wr w ∧ Hid (∀ j (hj : j < l.length), j < i → l[j] ≠ x)) (fun iv _ => l.length - (intOf iv).toNat)
  case atStart => exact ⟨0, rfl, Nat.zero_le _, rfl, fun j _ hj => by omega⟩
  case round =>
    obtain ⟨i, rfl, hi, he, HI⟩ := hrel
    obtain rfl := (show wr = w from he).symm
    clear he
    by_cases hlt : i < l.length
    · have hlti : (i : Int) < (l.length : Int) := by omega
      obtain ⟨b, o, c, he, hb, c0⟩ := HA.out.int i hlt
      simp at he
      obtain ⟨rfl, rfl⟩ := he
      have HX : Hid (l[i] = x → dd = true) := HD2.out i hlt
      have HY : Hid (l[i] ≠ x → ∀ j (hj : j < l.length), j < i + 1 → l[j] ≠ x) := fun h j hj hji => by
        by_cases e : j < i
        · exact HI.out j hj e
        · obtain rfl : j = i := by omega
          exact h
      generalize l[i] = y at c0 HX HY
      by_cases hxy : y = x
      · subst hxy
        have HZ : Hid (dd = true) := HX.out rfl
        clear HX HY
        go_wp2
        go_ret
        exact ⟨by rw [HZ.out]; rfl, rfl⟩
      · have hq : (y == x) = false := by simpa using hxy
        have HZ : Hid (∀ j (hj : j < l.length), j < i + 1 → l[j] ≠ x) := HY.out hxy
        clear HX HY hxy
        go_wp2
        go_roundw
        case rel => exact ⟨i + 1, by go_num, by omega, rfl, HZ⟩
        case measure => simp [intOf]; omega
    · have hlti : ¬ (i : Int) < (l.length : Int) := by omega
      have HZ : Hid (dd = false) := HD.out (fun j hj => HI.out j hj (by omega))
      clear HI
      go_wp2
      go_ret
      exact ⟨by rw [HZ.out]; rfl, rfl⟩

/-- the first place of a number -/
def FirstOf (l : List Int) (x z : Int) : Prop := (z = -1 ∧ ∀ j (hj : j < l.length), l[j] ≠ x) ∨ ∃ i : Nat, z = (i : Int) ∧ ∃ hi : i < l.length, l[i] = x ∧ ∀ j (hj : j < l.length), j < i → l[j] ≠ x
def LstR (w w' : World) (e : Ending) (l : List Int) (x : Int) : Prop := ∃ z, e = .returned (.int .i64 z) ∧ FirstOf l x z ∧ w' = w
end Go.Proofs.Ytmlpkjeaieljfab

