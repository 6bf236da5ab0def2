/- Unarmor undoes Armor, and Armor undoes Unarmor: the reckoning alone. -/
import Derived.Test.YtcmembmaaebdeabUnarmW
namespace Go.Proofs.Ytcmembmaaebdeab

theorem lt_mod (n : Nat) : lt n = lt (n % 32) := by unfold lt; rw [Nat.mod_mod]
theorem lt_congr {a b : Nat} (h : a % 32 = b % 32) : lt a = lt b := by rw [lt_mod a, lt_mod b, h]

theorem numC_ltF : ∀ k : Fin 32, numC (lt k.val).toNat = some k.val := by decide
theorem numC_ltN (n : Nat) : numC (lt n).toNat = some (n % 32) := by
  rw [lt_mod]
  exact numC_ltF ⟨n % 32, Nat.mod_lt _ (by decide)⟩

theorem lt_valF : ∀ k : Fin 32, (lt k.val).toNat = if k.val < 26 then k.val + 97 else k.val + 24 := by decide
theorem lt_num (c : UInt8) (x : Nat) (h : numC c.toNat = some x) : lt x = c := by
  have hx := numC_lt c.toNat x h
  have hv := lt_valF ⟨x, hx⟩
  simp only at hv
  apply UInt8.toNat_inj.1
  rw [hv]
  unfold numC at h
  split at h
  · simp at h
    split <;> omega
  · split at h
    · simp at h
      split <;> omega
    · simp at h

theorem unG_cons (n : Nat) (r : List UInt8) (h b : Nat) : unG (lt n :: r) h b = if 8 ≤ b + 5 then (unG r (32 * h % 4294967296 + n % 32) (b - 3)).map (fun d => ((32 * h % 4294967296 + n % 32) / 2 ^ (b - 3) % 256).toUInt8 :: d) else unG r (32 * h % 4294967296 + n % 32) (b + 5) := by
  rw [unG, numC_ltN]

theorem toU8 (a b : Nat) (h : a % 256 = b % 256) : a.toUInt8 = b.toUInt8 := by
  apply UInt8.toNat_inj.1
  simpa using h
theorem toU8x (a : Nat) (x : UInt8) (h : a % 256 = x.toNat) : a.toUInt8 = x := by
  apply UInt8.toNat_inj.1
  simpa using h

def topB (h b h' b' : Nat) : UInt8 := (h' % 2 ^ b' * 2 ^ b + h % 2 ^ b).toUInt8

theorem arm_un : ∀ (l : List UInt8) (h h' : Nat), unG (armG l h 0) h' 0 = some l ∧ unG (armG l h 1) h' 7 = some (topB h 1 h' 7 :: l) ∧ unG (armG l h 2) h' 6 = some (topB h 2 h' 6 :: l) ∧ unG (armG l h 3) h' 5 = some (topB h 3 h' 5 :: l) ∧ unG (armG l h 4) h' 4 = some (topB h 4 h' 4 :: l)
  | [], h, h' => by
    refine ⟨?_, ?_, ?_, ?_, ?_⟩
    · simp [armG, unG, Nat.mod_one]
    · simp only [armG, topB]
      rw [if_pos (by decide), unG_cons, if_pos (by decide), unG, if_neg (by simp; omega)]
      simp only [Option.map_some, Option.some.injEq, List.cons.injEq, and_true]
      congr 1
      simp
      omega
    · simp only [armG, topB]
      rw [if_pos (by decide), unG_cons, if_pos (by decide), unG, if_neg (by simp; omega)]
      simp only [Option.map_some, Option.some.injEq, List.cons.injEq, and_true]
      congr 1
      simp
      omega
    · simp only [armG, topB]
      rw [if_pos (by decide), unG_cons, if_pos (by decide), unG, if_neg (by simp; omega)]
      simp only [Option.map_some, Option.some.injEq, List.cons.injEq, and_true]
      congr 1
      simp
      omega
    · simp only [armG, topB]
      rw [if_pos (by decide), unG_cons, if_pos (by decide), unG, if_neg (by simp; omega)]
      simp only [Option.map_some, Option.some.injEq, List.cons.injEq, and_true]
      congr 1
      simp
      omega
  | x :: r, h, h' => by
    have hx : x.toNat < 256 := x.toNat_lt
    obtain ⟨H, hH⟩ : ∃ H, H = 256 * h % 4294967296 + x.toNat := ⟨_, rfl⟩
    refine ⟨?_, ?_, ?_, ?_, ?_⟩
    · rw [armG, ← hH, show emitR H 3 (0 + 8) = [lt (H / 2 ^ 3)] by simp [emitR], show (0 + 8) % 5 = 3 from rfl]
      simp only [List.cons_append, List.nil_append]
      rw [unG_cons, if_neg (by decide)]
      simp only [Nat.reduceAdd]
      rw [(arm_un r H _).2.2.2.1]
      simp only [Option.some.injEq, List.cons.injEq, and_true, topB]
      exact toU8x _ _ (by simp; omega)
    · rw [armG, ← hH, show emitR H 3 (1 + 8) = [lt (H / 2 ^ 4)] by simp [emitR], show (1 + 8) % 5 = 4 from rfl]
      simp only [List.cons_append, List.nil_append]
      rw [unG_cons, if_pos (by decide)]
      simp only [Nat.reduceSub]
      rw [(arm_un r H _).2.2.2.2]
      simp only [Option.map_some, Option.some.injEq, List.cons.injEq, and_true, topB]
      exact ⟨toU8 _ _ (by simp; omega), toU8x _ _ (by simp; omega)⟩
    · rw [armG, ← hH, show emitR H 3 (2 + 8) = [lt (H / 2 ^ 5), lt (H / 2 ^ 0)] by simp [emitR], show (2 + 8) % 5 = 0 from rfl]
      simp only [List.cons_append, List.nil_append]
      rw [unG_cons, if_pos (by decide)]
      rw [unG_cons, if_pos (by decide)]
      simp only [Nat.reduceSub]
      rw [(arm_un r H _).1]
      simp only [Option.map_some, Option.some.injEq, List.cons.injEq, and_true, topB]
      exact ⟨toU8 _ _ (by simp; omega), toU8x _ _ (by simp; omega)⟩
    · rw [armG, ← hH, show emitR H 3 (3 + 8) = [lt (H / 2 ^ 6), lt (H / 2 ^ 1)] by simp [emitR], show (3 + 8) % 5 = 1 from rfl]
      simp only [List.cons_append, List.nil_append]
      rw [unG_cons, if_pos (by decide)]
      rw [unG_cons, if_neg (by decide)]
      simp only [Nat.reduceAdd, Nat.reduceSub]
      rw [(arm_un r H _).2.1]
      simp only [Option.map_some, Option.some.injEq, List.cons.injEq, and_true, topB]
      exact ⟨toU8 _ _ (by simp; omega), toU8x _ _ (by simp; omega)⟩
    · rw [armG, ← hH, show emitR H 3 (4 + 8) = [lt (H / 2 ^ 7), lt (H / 2 ^ 2)] by simp [emitR], show (4 + 8) % 5 = 2 from rfl]
      simp only [List.cons_append, List.nil_append]
      rw [unG_cons, if_pos (by decide)]
      rw [unG_cons, if_neg (by decide)]
      simp only [Nat.reduceAdd, Nat.reduceSub]
      rw [(arm_un r H _).2.2.1]
      simp only [Option.map_some, Option.some.injEq, List.cons.injEq, and_true, topB]
      exact ⟨toU8 _ _ (by simp; omega), toU8x _ _ (by simp; omega)⟩

theorem un_arm : ∀ (s : List UInt8) (h h' : Nat) (d : List UInt8),
    (unG s h' 0 = some d → armG d h 0 = s) ∧
    (unG s h' 5 = some d → armG d h 0 = lt (h % 1 * 32 + h' % 32) :: s) ∧
    (unG s h' 2 = some d → armG d h 3 = lt (h % 8 * 4 + h' % 4) :: s) ∧
    (unG s h' 7 = some d → armG d h 3 = lt ((h % 8 * 128 + h' % 128) / 32) :: lt (h % 8 * 128 + h' % 128) :: s) ∧
    (unG s h' 4 = some d → armG d h 1 = lt (h % 2 * 16 + h' % 16) :: s) ∧
    (unG s h' 1 = some d → armG d h 4 = lt (h % 16 * 2 + h' % 2) :: s) ∧
    (unG s h' 6 = some d → armG d h 4 = lt ((h % 16 * 64 + h' % 64) / 32) :: lt (h % 16 * 64 + h' % 64) :: s) ∧
    (unG s h' 3 = some d → armG d h 2 = lt (h % 4 * 8 + h' % 8) :: s)
  | [], h, h', d => by
    refine ⟨?_, ?_, ?_, ?_, ?_, ?_, ?_, ?_⟩
    · intro hu
      rw [unG] at hu
      split at hu
      · cases hu
      · simp only [Option.some.injEq] at hu
        subst hu
        rfl
    · intro hu
      rw [unG, if_pos (.inl (by decide))] at hu
      cases hu
    · intro hu
      rw [unG] at hu
      split at hu
      · cases hu
      · rename_i hn
        simp only [Option.some.injEq] at hu
        subst hu
        have hz : h' % 4 = 0 := by
          have : h' % 2 ^ 2 = 0 := by
            rcases Nat.eq_zero_or_pos (h' % 2 ^ 2) with h1 | h1
            · exact h1
            · exact absurd (.inr (by omega)) hn
          simpa using this
        rw [armG, if_pos (by decide)]
        simp only [List.cons.injEq, and_true]
        exact lt_congr (by first | omega | (simp; omega))
    · intro hu
      rw [unG, if_pos (.inl (by decide))] at hu
      cases hu
    · intro hu
      rw [unG] at hu
      split at hu
      · cases hu
      · rename_i hn
        simp only [Option.some.injEq] at hu
        subst hu
        have hz : h' % 16 = 0 := by
          have : h' % 2 ^ 4 = 0 := by
            rcases Nat.eq_zero_or_pos (h' % 2 ^ 4) with h1 | h1
            · exact h1
            · exact absurd (.inr (by omega)) hn
          simpa using this
        rw [armG, if_pos (by decide)]
        simp only [List.cons.injEq, and_true]
        exact lt_congr (by first | omega | (simp; omega))
    · intro hu
      rw [unG] at hu
      split at hu
      · cases hu
      · rename_i hn
        simp only [Option.some.injEq] at hu
        subst hu
        have hz : h' % 2 = 0 := by
          have : h' % 2 ^ 1 = 0 := by
            rcases Nat.eq_zero_or_pos (h' % 2 ^ 1) with h1 | h1
            · exact h1
            · exact absurd (.inr (by omega)) hn
          simpa using this
        rw [armG, if_pos (by decide)]
        simp only [List.cons.injEq, and_true]
        exact lt_congr (by first | omega | (simp; omega))
    · intro hu
      rw [unG, if_pos (.inl (by decide))] at hu
      cases hu
    · intro hu
      rw [unG] at hu
      split at hu
      · cases hu
      · rename_i hn
        simp only [Option.some.injEq] at hu
        subst hu
        have hz : h' % 8 = 0 := by
          have : h' % 2 ^ 3 = 0 := by
            rcases Nat.eq_zero_or_pos (h' % 2 ^ 3) with h1 | h1
            · exact h1
            · exact absurd (.inr (by omega)) hn
          simpa using this
        rw [armG, if_pos (by decide)]
        simp only [List.cons.injEq, and_true]
        exact lt_congr (by first | omega | (simp; omega))
  | c :: r, h, h', d => by
    cases hc : numC c.toNat with
    | none => refine ⟨?_, ?_, ?_, ?_, ?_, ?_, ?_, ?_⟩ <;> (intro hu; rw [unG, hc] at hu; cases hu)
    | some x =>
      have hx := numC_lt c.toNat x hc
      have hcx := lt_num c x hc
      subst hcx
      refine ⟨?_, ?_, ?_, ?_, ?_, ?_, ?_, ?_⟩
      · intro hu
        rw [unG, hc] at hu
        simp only at hu
        rw [if_neg (by decide)] at hu
        rw [(un_arm r h _ d).2.1 hu]
        simp only [List.cons.injEq, and_true]
        exact lt_congr (by omega)
      · intro hu
        rw [unG, hc] at hu
        simp only at hu
        rw [if_pos (by decide), Option.map_eq_some_iff] at hu
        obtain ⟨d', hd, rfl⟩ := hu
        obtain ⟨z, hz⟩ : ∃ z, z = ((32 * h' % 4294967296 + x) / 2 ^ (5 - 3) % 256).toUInt8 := ⟨_, rfl⟩
        have hzn : z.toNat = (32 * h' % 4294967296 + x) / 4 % 256 := by rw [hz]; simp
        rw [← hz]
        obtain ⟨G, hG⟩ : ∃ G, G = 256 * h % 4294967296 + z.toNat := ⟨_, rfl⟩
        rw [armG, ← hG, show emitR G 3 (0 + 8) = [lt (G / 2 ^ 3)] by simp [emitR], show (0 + 8) % 5 = 3 from rfl, (un_arm r G _ d').2.2.1 hd]
        simp only [List.cons_append, List.nil_append, List.cons.injEq, and_true]
        exact ⟨lt_congr (by first | omega | (simp; omega)), lt_congr (by first | omega | (simp; omega))⟩
      · intro hu
        rw [unG, hc] at hu
        simp only at hu
        rw [if_neg (by decide)] at hu
        rw [(un_arm r h _ d).2.2.2.1 hu]
        simp only [List.cons.injEq, and_true]
        exact ⟨lt_congr (by omega), lt_congr (by omega)⟩
      · intro hu
        rw [unG, hc] at hu
        simp only at hu
        rw [if_pos (by decide), Option.map_eq_some_iff] at hu
        obtain ⟨d', hd, rfl⟩ := hu
        obtain ⟨z, hz⟩ : ∃ z, z = ((32 * h' % 4294967296 + x) / 2 ^ (7 - 3) % 256).toUInt8 := ⟨_, rfl⟩
        have hzn : z.toNat = (32 * h' % 4294967296 + x) / 16 % 256 := by rw [hz]; simp
        rw [← hz]
        obtain ⟨G, hG⟩ : ∃ G, G = 256 * h % 4294967296 + z.toNat := ⟨_, rfl⟩
        rw [armG, ← hG, show emitR G 3 (3 + 8) = [lt (G / 2 ^ 6), lt (G / 2 ^ 1)] by simp [emitR], show (3 + 8) % 5 = 1 from rfl, (un_arm r G _ d').2.2.2.2.1 hd]
        simp only [List.cons_append, List.nil_append, List.cons.injEq, and_true]
        exact ⟨lt_congr (by first | omega | (simp; omega)), lt_congr (by first | omega | (simp; omega)), lt_congr (by first | omega | (simp; omega))⟩
      · intro hu
        rw [unG, hc] at hu
        simp only at hu
        rw [if_pos (by decide), Option.map_eq_some_iff] at hu
        obtain ⟨d', hd, rfl⟩ := hu
        obtain ⟨z, hz⟩ : ∃ z, z = ((32 * h' % 4294967296 + x) / 2 ^ (4 - 3) % 256).toUInt8 := ⟨_, rfl⟩
        have hzn : z.toNat = (32 * h' % 4294967296 + x) / 2 % 256 := by rw [hz]; simp
        rw [← hz]
        obtain ⟨G, hG⟩ : ∃ G, G = 256 * h % 4294967296 + z.toNat := ⟨_, rfl⟩
        rw [armG, ← hG, show emitR G 3 (1 + 8) = [lt (G / 2 ^ 4)] by simp [emitR], show (1 + 8) % 5 = 4 from rfl, (un_arm r G _ d').2.2.2.2.2.1 hd]
        simp only [List.cons_append, List.nil_append, List.cons.injEq, and_true]
        exact ⟨lt_congr (by first | omega | (simp; omega)), lt_congr (by first | omega | (simp; omega))⟩
      · intro hu
        rw [unG, hc] at hu
        simp only at hu
        rw [if_neg (by decide)] at hu
        rw [(un_arm r h _ d).2.2.2.2.2.2.1 hu]
        simp only [List.cons.injEq, and_true]
        exact ⟨lt_congr (by omega), lt_congr (by omega)⟩
      · intro hu
        rw [unG, hc] at hu
        simp only at hu
        rw [if_pos (by decide), Option.map_eq_some_iff] at hu
        obtain ⟨d', hd, rfl⟩ := hu
        obtain ⟨z, hz⟩ : ∃ z, z = ((32 * h' % 4294967296 + x) / 2 ^ (6 - 3) % 256).toUInt8 := ⟨_, rfl⟩
        have hzn : z.toNat = (32 * h' % 4294967296 + x) / 8 % 256 := by rw [hz]; simp
        rw [← hz]
        obtain ⟨G, hG⟩ : ∃ G, G = 256 * h % 4294967296 + z.toNat := ⟨_, rfl⟩
        rw [armG, ← hG, show emitR G 3 (4 + 8) = [lt (G / 2 ^ 7), lt (G / 2 ^ 2)] by simp [emitR], show (4 + 8) % 5 = 2 from rfl, (un_arm r G _ d').2.2.2.2.2.2.2 hd]
        simp only [List.cons_append, List.nil_append, List.cons.injEq, and_true]
        exact ⟨lt_congr (by first | omega | (simp; omega)), lt_congr (by first | omega | (simp; omega)), lt_congr (by first | omega | (simp; omega))⟩
      · intro hu
        rw [unG, hc] at hu
        simp only at hu
        rw [if_pos (by decide), Option.map_eq_some_iff] at hu
        obtain ⟨d', hd, rfl⟩ := hu
        obtain ⟨z, hz⟩ : ∃ z, z = ((32 * h' % 4294967296 + x) / 2 ^ (3 - 3) % 256).toUInt8 := ⟨_, rfl⟩
        have hzn : z.toNat = (32 * h' % 4294967296 + x) / 1 % 256 := by rw [hz]; simp
        rw [← hz]
        obtain ⟨G, hG⟩ : ∃ G, G = 256 * h % 4294967296 + z.toNat := ⟨_, rfl⟩
        rw [armG, ← hG, show emitR G 3 (2 + 8) = [lt (G / 2 ^ 5), lt (G / 2 ^ 0)] by simp [emitR], show (2 + 8) % 5 = 0 from rfl, (un_arm r G _ d').1 hd]
        simp only [List.cons_append, List.nil_append, List.cons.injEq, and_true]
        exact ⟨lt_congr (by first | omega | (simp; omega)), lt_congr (by first | omega | (simp; omega))⟩

theorem unL_armL (a : List UInt8) : unL (armL a) = some a := (arm_un a 0 0).1
theorem armL_unL (s d : List UInt8) (h : unL s = some d) : armL d = s := (un_arm s 0 0 d).1 h
theorem armL_inj (a b : List UInt8) (h : armL a = armL b) : a = b := by
  have h1 := unL_armL a
  rw [h, unL_armL b] at h1
  simpa using h1.symm

theorem armG_len : ∀ (l : List UInt8) (h b : Nat), b < 5 → (armG l h b).length = (8 * l.length + b + 4) / 5
  | [], h, b, hb => by
    rw [armG]
    split
    · simp; omega
    · have : b = 0 := by omega
      subst this
      simp
  | x :: r, h, b, hb => by
    rw [armG, List.length_append, armG_len r _ _ (Nat.mod_lt _ (by decide))]
    have h5 : b = 0 ∨ b = 1 ∨ b = 2 ∨ b = 3 ∨ b = 4 := by omega
    rcases h5 with rfl | rfl | rfl | rfl | rfl <;> simp [emitR] <;> omega

theorem armL_len (l : List UInt8) : (armL l).length = (8 * l.length + 4) / 5 := armG_len l 0 0 (by decide)

def isLetter (c : UInt8) : Prop := (97 ≤ c.toNat ∧ c.toNat ≤ 122) ∨ (50 ≤ c.toNat ∧ c.toNat ≤ 55)
theorem lt_letter (n : Nat) : isLetter (lt n) := by
  have h := numC_ltN n
  unfold numC at h
  unfold isLetter
  split at h
  · exact .inl (by assumption)
  · split at h
    · exact .inr (by assumption)
    · cases h
theorem emitR_letter : ∀ (f H b : Nat), ∀ c ∈ emitR H f b, isLetter c
  | 0, H, b, c, h => by simp [emitR] at h
  | f + 1, H, b, c, h => by
    rw [emitR] at h
    split at h
    · cases h
    · rcases List.mem_cons.1 h with rfl | h
      · exact lt_letter _
      · exact emitR_letter f H _ c h
theorem armG_letter : ∀ (l : List UInt8) (h b : Nat), ∀ c ∈ armG l h b, isLetter c
  | [], h, b, c, hc => by
    rw [armG] at hc
    split at hc
    · rcases List.mem_cons.1 hc with rfl | hc
      · exact lt_letter _
      · cases hc
    · cases hc
  | x :: r, h, b, c, hc => by
    rw [armG] at hc
    rcases List.mem_append.1 hc with hc | hc
    · exact emitR_letter _ _ _ c hc
    · exact armG_letter r _ _ c hc
theorem armL_letter (l : List UInt8) : ∀ c ∈ armL l, isLetter c := armG_letter l 0 0

end Go.Proofs.Ytcmembmaaebdeab

