/- A number of 64 bits by a power of ten from -70 to 40: nothing that is not whole comes near a whole number in its first places. -/
import Derived.Test.YtnljpbpphdhnpaaGreatDoorWhI
import Derived.LaidMore
import Derived.Lay
import Derived.Test.YtnljpbpphdhnpaaGreatDoorNearW

namespace Go.Proofs.YtnljpbpphdhnpaaGreatDoor

/-- so great that no number of 64 bits comes nearer -/
def reachR (M : Nat) : Nat := 8 * M / 2 ^ 101 + 1
/-- two short vectors (x, a x) over M -/
def certOk (a M : Nat) (v : Int × Int × Int × Int) : Prop :=
  ((a : Int) * v.1 - v.2.1) % (M : Int) = 0 ∧ ((a : Int) * v.2.2.1 - v.2.2.2) % (M : Int) = 0 ∧ v.1 * v.2.2.2 - v.2.2.1 * v.2.1 ≠ 0 ∧
  2 ^ 64 * v.2.1.natAbs + reachR M * v.1.natAbs < M ∧ 2 ^ 64 * v.2.2.2.natAbs + reachR M * v.2.2.1.natAbs < M
instance (a M : Nat) (v : Int × Int × Int × Int) : Decidable (certOk a M v) := by unfold certOk; infer_instance
theorem dvd_zero_of (z : Int) (M : Nat) (h : z % (M : Int) = 0) (hb : z.natAbs < M) : z = 0 := by
  have h1 : (M : Int) ∣ z := Int.dvd_of_emod_eq_zero h
  have h2 : M ∣ z.natAbs := Int.ofNat_dvd_left.1 h1
  rcases Nat.eq_zero_or_pos z.natAbs with h3 | h3
  · omega
  · have := Nat.le_of_dvd h3 h2
    omega
theorem lat (a M : Nat) (v : Int × Int × Int × Int) (hc : certOk a M v) (x : Nat) (hx0 : 0 < x) (hx : x < 2 ^ 64) (c : Int) (h : ((a : Int) * x - c) % (M : Int) = 0) (hcb : c.natAbs ≤ reachR M) : False := by
  obtain ⟨x1, c1, x2, c2⟩ := v
  obtain ⟨k1, k2, k3, k4, k5⟩ := hc
  simp only at k1 k2 k3 k4 k5
  have z (y d : Int) (hy : ((a : Int) * y - d) % (M : Int) = 0) (hb : 2 ^ 64 * d.natAbs + reachR M * y.natAbs < M) : (x : Int) * d - c * y = 0 := by
    refine dvd_zero_of _ M ?_ ?_
    · have e : (x : Int) * d - c * y = y * ((a : Int) * x - c) - x * ((a : Int) * y - d) := by
        rw [Int.mul_sub, Int.mul_sub]
        have e1 : y * ((a : Int) * x) = x * ((a : Int) * y) := by rw [← Int.mul_assoc, ← Int.mul_assoc, Int.mul_comm y, Int.mul_comm (x : Int), Int.mul_assoc, Int.mul_comm y, ← Int.mul_assoc]
        rw [e1, Int.mul_comm y c]
        omega
      rw [e]
      have d1 := Int.dvd_of_emod_eq_zero h
      have d2 := Int.dvd_of_emod_eq_zero hy
      exact Int.emod_eq_zero_of_dvd (Int.dvd_sub (Int.dvd_mul_of_dvd_right d1) (Int.dvd_mul_of_dvd_right d2))
    · have b1 : ((x : Int) * d).natAbs ≤ 2 ^ 64 * d.natAbs := by
        rw [Int.natAbs_mul, Int.natAbs_natCast]
        exact Nat.mul_le_mul_right _ (Nat.le_of_lt hx)
      have b2 : (c * y).natAbs ≤ reachR M * y.natAbs := by
        rw [Int.natAbs_mul]
        exact Nat.mul_le_mul_right _ hcb
      omega
  have e1 := z x1 c1 k1 k4
  have e2 := z x2 c2 k2 k5
  have e3 : (x : Int) * (x1 * c2 - x2 * c1) = 0 := by
    have f1 : (x : Int) * c1 = c * x1 := by omega
    have f2 : (x : Int) * c2 = c * x2 := by omega
    rw [Int.mul_sub]
    have g1 : (x : Int) * (x1 * c2) = x1 * (c * x2) := by rw [← f2, ← Int.mul_assoc, Int.mul_comm (x : Int), Int.mul_assoc]
    have g2 : (x : Int) * (x2 * c1) = x2 * (c * x1) := by rw [← f1, ← Int.mul_assoc, Int.mul_comm (x : Int), Int.mul_assoc]
    have g3 : x1 * (c * x2) = x2 * (c * x1) := by rw [← Int.mul_assoc, ← Int.mul_assoc, Int.mul_comm x1, Int.mul_assoc, Int.mul_comm x1, ← Int.mul_assoc, Int.mul_comm c]
    rw [g1, g2, g3]
    omega
  rcases Int.mul_eq_zero.1 e3 with h0 | h0
  · omega
  · exact k3 h0
theorem far_of (a M : Nat) (v : Int × Int × Int × Int) (hM : 0 < M) (hc : certOk a M v) (x : Nat) (hx0 : 0 < x) (hx : x < 2 ^ 64) : reachR M ≤ a * x % M ∧ a * x % M + reachR M ≤ M := by
  have hlt := Nat.mod_lt (a * x) hM
  have hd := Nat.div_add_mod (a * x) M
  have hcast : ((a * x : Nat) : Int) = (a : Int) * x := Int.natCast_mul _ _
  have hmod : ((a : Int) * x - ((a * x % M : Nat) : Int)) % (M : Int) = 0 := by
    refine Int.emod_eq_zero_of_dvd ⟨((a * x / M : Nat) : Int), ?_⟩
    rw [← hcast, ← Int.natCast_mul]
    omega
  refine ⟨?_, ?_⟩
  · rcases Nat.lt_or_ge (a * x % M) (reachR M) with h | h
    · exact (lat a M v hc x hx0 hx _ hmod (by omega)).elim
    · exact h
  · rcases Nat.lt_or_ge M (a * x % M + reachR M) with h | h
    · refine (lat a M v hc x hx0 hx (((a * x % M : Nat) : Int) - (M : Int)) ?_ (by omega)).elim
      have d1 := Int.dvd_of_emod_eq_zero hmod
      have e : (a : Int) * x - (((a * x % M : Nat) : Int) - (M : Int)) = ((a : Int) * x - ((a * x % M : Nat) : Int)) + (M : Int) := by omega
      rw [e]
      exact Int.emod_eq_zero_of_dvd (Int.dvd_add d1 (Int.dvd_refl _))
    · exact h
theorem reach_ok (M c : Nat) (h : reachR M ≤ c) : 8 * M ≤ c * 2 ^ 101 := by
  unfold reachR at h
  have h1 := Nat.lt_div_mul_add (show 0 < 2 ^ 101 from Nat.two_pow_pos _) (a := 8 * M)
  have h2 : (8 * M / 2 ^ 101 + 1) * 2 ^ 101 ≤ c * 2 ^ 101 := Nat.mul_le_mul_right _ h
  rw [Nat.add_mul, Nat.one_mul] at h2
  omega

/-- for ten to the powers 27 to 40 -/
def upC : List (Int × Int × Int × Int) := [
  (10062750188229765821, 15351898345, -75278890228693237829, 11127845551),
  (-7896811204159807994, 443660739174, 16177094774379627645, 375349353037),
  (-11132230159035733523, 1842954342833, 12941675819503702116, 1501397412148),
  (7403116359608627551, 1159840481463, -133311205712200880311, 1031936206385),
  (7403116359608627551, 5799202407315, -108129587841682429759, 2967904344077),
  (-897191761432328809, 84156738046487, 61019314399733678026, 63654620199626),
  (-12383301232233201367, 20502117846861, 1011841933997393196858, 1961097487138),
  (-12383301232233201367, 102510589234305, 806996886951467917213, 28346507795413),
  (5786243235417211890, 13178048437581866, -46640083311224199523, 8639236003477033),
  (4628994588333769512, 52712193750327464, -46640083311224199523, 43196180017385165),
  (-5624820991577824295, 254044955018695021, 41015262319646375228, 38064054931769196),
  (-8999713586524518872, 2032359640149560168, 37640369724699680651, 952455139714931043),
  (4256491586050449614, 14099068120327223094, -20127672966074262551, 13274062341331990133),
  (-620341324374492819, 69670334822640882509, 19507331641699769732, 3300023115980931844)]
/-- for ten to the powers -42 to -70 -/
def dnC : List (Int × Int × Int × Int) := [
  (12810223295816947039, 886100939, -251945183233060199412, 321993763),
  (13875043966636632381, 21588416299, -50176072512448102814, 3866397519),
  (13875043966636632381, 172707330392, -20953762345302589973, 148862485389),
  (15644723561303121779, 369259505787, -71427292218544934106, 130811055757),
  (-14458660260650896132, 4085028225141, 21254985848621570921, 3823406113627),
  (-3614665065162724033, 8170056450282, 83862117675437081583, 7022642445143),
  (-3614665065162724033, 32680225801128, 105731313360587032987, 26943155775433),
  (2033839150298371024, 909309252405889, -18073325325813620165, 653604516022560),
  (254229893787296378, 909309252405889, -97485063655112399409, 683521573537508),
  (635574734468240945, 9093092524058890, -48297629513428431043, 7732207913916239),
  (12233301061974167997, 1360884610142651, -1623851167570223138876, 864197332205217),
  (9969444214565927179, 371889008623211506, -25598530547652456403, 158726812108752733),
  (-3907271583271632306, 530615820731964239, 104549023238632488179, 9158682216730774),
  (-9768178958179080765, 5306158207319642390, 45436786348590887554, 3732628109557211221),
  (-3293071850120899259, 71139154706950131122, 19480839620266353024, 585567914032348883),
  (6447347960012277253, 285727754655865222254, -17903701565320664027, 282799915085703477839),
  (6447347960012277253, 1142911018623460889016, -23991463946653899347, 1128271820772652166941),
  (6447347960012277253, 4571644074493843556064, -31601166923320443497, 4498448085239799945689),
  (6367901350419659407, 9216484138241730722503, -88753385857912142468, 7752564353160858515003),
  (9651160287620261418, 192082247117995472965063, -22188346464478035617, 7752564353160858515003),
  (969777127286308964, 975916364296299081855321, -22188346464478035617, 31010257412643434060012),
  (-10488062527685074706, 5003622851132069145516653, 11700283936792960911, 4755540791830921673036557),
  (11700283936792960911, 19022163167323686692146228, -18960220128002823838, 15507032671998502381510151),
  (-9480110064001411919, 31014065343997004763020302, 81391315193990167832, 19644272281253340724850619),
  (10867718734496130039, 287401067314482719553863654, -40001853261747724856, 189179705908216015929610559),
  (-8265952477318533564, 2866747656240509804219740909, 20868182049933061253, 960424563349714862285844057),
  (-10332440596648166955, 14333738281202549021098704545, 18801693930603427862, 6708445909639369253363117137),
  (-232898407836613256, 35375922472044467295560526227, 47702930050018409423, 28041150776653983180580764059),
  (-291123009795766570, 176879612360222336477802631135, 47702930050018409423, 112164603106615932722323056236)]
/-- the places of ten to the power p, less one -/
def lpZ (p : Int) : Int := p * 108853 / 32768
def upK (p : Nat) : Nat := (38 + lpZ p - p).toNat
def dnT (q : Nat) : Nat := (-38 - lpZ (-(q : Int)) - q).toNat
theorem ups : ∀ i, i < 14 → certOk (5 ^ (27 + i)) (2 ^ upK (27 + i)) (upC.getD i (0, 0, 0, 0)) := by decide +kernel
theorem dns : ∀ i, i < 29 → certOk (2 ^ dnT (42 + i)) (5 ^ (42 + i)) (dnC.getD i (0, 0, 0, 0)) := by decide +kernel
/-- nothing that isn't whole stands nearer to a whole number than eight last places of T -/
def gapF (N D T : Nat) : Prop := N % D = 0 ∨ (8 * 18446744073709551616 * D ≤ N % D * T ∧ 8 * 18446744073709551616 * D ≤ (D - N % D) * T)
theorem gap_ratio (N1 D1 N2 D2 T : Nat) (h1 : 0 < D1) (e : N1 * D2 = N2 * D1) (h : gapF N1 D1 T) : gapF N2 D2 T := by
  have f : N1 % D1 * D2 = N2 % D2 * D1 := by
    rw [← Nat.mul_mod_mul_right, ← Nat.mul_mod_mul_right, e, Nat.mul_comm D1 D2]
  rcases h with h | ⟨ha, hb⟩
  · left
    rw [h, Nat.zero_mul] at f
    rcases Nat.mul_eq_zero.1 f.symm with g | g
    · exact g
    · omega
  · right
    have f2 : (D1 - N1 % D1) * D2 = (D2 - N2 % D2) * D1 := by rw [Nat.sub_mul, Nat.sub_mul, f, Nat.mul_comm D1 D2]
    have tr (c1 c2 : Nat) (hc : c1 * D2 = c2 * D1) (hd : 8 * 18446744073709551616 * D1 ≤ c1 * T) : 8 * 18446744073709551616 * D2 ≤ c2 * T := by
      have g := Nat.mul_le_mul_right D2 hd
      have e1 : c1 * T * D2 = c2 * T * D1 := by rw [Nat.mul_right_comm, hc, Nat.mul_right_comm]
      have e2 : 8 * 18446744073709551616 * D1 * D2 = 8 * 18446744073709551616 * D2 * D1 := Nat.mul_right_comm _ _ _
      rw [e1, e2] at g
      exact Nat.le_of_mul_le_mul_right g h1
    exact ⟨tr _ _ f ha, tr _ _ f2 hb⟩
theorem gap_half (N D T k : Nat) (hD : 0 < D) (hT : 8 * 18446744073709551616 ≤ T) (h : gapF N D T) : gapF N (D * 2 ^ k) (T * 2 ^ k) := by
  have hp : 0 < 2 ^ k := Nat.two_pow_pos k
  have e := Nat.mod_mul (a := D) (b := 2 ^ k) (x := N)
  have hf := Nat.mod_lt (N / D) hp
  have hg := Nat.mod_lt N hD
  unfold gapF
  rw [e]
  generalize N / D % 2 ^ k = f at *
  have hle : D * f + D ≤ D * 2 ^ k := by
    have : D * (f + 1) ≤ D * 2 ^ k := Nat.mul_le_mul_left _ hf
    rw [Nat.mul_add, Nat.mul_one] at this
    exact this
  have step (c : Nat) (hc : 8 * 18446744073709551616 * D ≤ c * T) (c2 : Nat) (h2 : c ≤ c2) : 8 * 18446744073709551616 * (D * 2 ^ k) ≤ c2 * (T * 2 ^ k) := by
    have g := Nat.mul_le_mul_right (2 ^ k) hc
    have g2 := Nat.mul_le_mul_right (T * 2 ^ k) h2
    rw [Nat.mul_assoc, Nat.mul_assoc c] at g
    exact Nat.le_trans g g2
  have whole : 8 * 18446744073709551616 * D ≤ D * T := by rw [Nat.mul_comm]; exact Nat.mul_le_mul_left _ hT
  rcases h with h | ⟨ha, hb⟩
  · rw [h, Nat.zero_add]
    rcases Nat.eq_zero_or_pos f with h0 | h0
    · left
      rw [h0, Nat.mul_zero]
    · right
      have h1 : D ≤ D * f := Nat.le_mul_of_pos_right _ h0
      exact ⟨step D whole _ h1, step D whole _ (by omega)⟩
  · right
    exact ⟨step _ ha _ (by omega), step _ hb _ (by omega)⟩
theorem gap_near (Y M : Nat) (hM : 0 < M) (h : 8 * M ≤ 2 ^ 101) : gapF Y M (2 ^ 165) := by
  unfold gapF
  have hlt := Nat.mod_lt Y hM
  have e : (2 : Nat) ^ 165 = 18446744073709551616 * 2 ^ 101 := by decide
  rcases Nat.eq_zero_or_pos (Y % M) with h0 | h0
  · exact .inl h0
  · right
    have f (c : Nat) (hc : 1 ≤ c) : 8 * 18446744073709551616 * M ≤ c * 2 ^ 165 := by
      have g : 1 * 2 ^ 165 ≤ c * 2 ^ 165 := Nat.mul_le_mul_right _ hc
      have g2 := Nat.mul_le_mul_left 18446744073709551616 h
      rw [e] at g ⊢
      omega
    exact ⟨f _ h0, f _ (by omega)⟩
theorem gap_far (a M : Nat) (v : Int × Int × Int × Int) (hM : 0 < M) (hc : certOk a M v) (x : Nat) (hx : x < 2 ^ 64) : gapF (a * x) M (2 ^ 165) := by
  unfold gapF
  rcases Nat.eq_zero_or_pos x with h0 | h0
  · left
    rw [h0, Nat.mul_zero, Nat.zero_mod]
  · right
    obtain ⟨f1, f2⟩ := far_of a M v hM hc x h0 hx
    have e : (2 : Nat) ^ 165 = 2 ^ 101 * 18446744073709551616 := by decide
    have f (c : Nat) (hc : reachR M ≤ c) : 8 * 18446744073709551616 * M ≤ c * 2 ^ 165 := by
      have g := Nat.mul_le_mul_right 18446744073709551616 (reach_ok M c hc)
      rw [e, ← Nat.mul_assoc]
      omega
    exact ⟨f _ f1, f _ (by omega)⟩
theorem up_near : ∀ p : Nat, p < 27 → 8 * 2 ^ upK p ≤ 2 ^ 101 := by decide +kernel
theorem dn_near : ∀ q : Nat, q < 42 → 1 ≤ q → 8 * (2 ^ (38 + lpZ (-(q : Int)) + q).toNat * 5 ^ q) ≤ 2 ^ 101 := by decide +kernel
theorem base_up (p x : Nat) (hp : p ≤ 40) (hx : x < 2 ^ 64) : gapF (x * 5 ^ p) (2 ^ upK p) (2 ^ 165) := by
  rcases Nat.lt_or_ge p 27 with h | h
  · exact gap_near _ _ (Nat.two_pow_pos _) (up_near p h)
  · obtain ⟨i, rfl⟩ : ∃ i, p = 27 + i := ⟨p - 27, by omega⟩
    rw [Nat.mul_comm]
    exact gap_far _ _ _ (Nat.two_pow_pos _) (ups i (by omega)) x hx
theorem base_dn (q x : Nat) (h1 : 1 ≤ q) (hq : q ≤ 70) (hx : x < 2 ^ 64) : gapF (x * 2 ^ dnT q) (2 ^ (38 + lpZ (-(q : Int)) + q).toNat * 5 ^ q) (2 ^ 165) := by
  have h5 : 0 < 5 ^ q := Nat.pow_pos (by decide)
  rcases Nat.lt_or_ge q 42 with h | h
  · exact gap_near _ _ (Nat.mul_pos (Nat.two_pow_pos _) h5) (dn_near q h h1)
  · obtain ⟨i, rfl⟩ : ∃ i, q = 42 + i := ⟨q - 42, by omega⟩
    have hz : (38 + lpZ (-((42 + i : Nat) : Int)) + ((42 + i : Nat) : Int)).toNat = 0 := by unfold lpZ; omega
    rw [hz, Nat.pow_zero, Nat.one_mul, Nat.mul_comm]
    exact gap_far _ _ _ h5 (dns i (by omega)) x hx
theorem pow_eq (a b c d : Nat) (h : a + b = c + d) : (2 : Nat) ^ a * 2 ^ b = 2 ^ c * 2 ^ d := by rw [← Nat.pow_add, ← Nat.pow_add, h]
theorem ten_five (n : Nat) : 10 ^ n = 2 ^ n * 5 ^ n := by rw [← Nat.mul_pow]
/-- a number of 64 bits by a power of ten, in places of the unrounded: nothing comes too near -/
theorem gap_all (p : Int) (x s : Nat) (h1 : -70 ≤ p) (h2 : p ≤ 40) (hx : x < 2 ^ 64) (hs : 37 ≤ s) :
    gapF (x * 2 ^ (-1 - lpZ p - s).toNat * 10 ^ p.toNat) (2 ^ (1 + lpZ p + s).toNat * 10 ^ (-p).toNat) (2 ^ (128 + s)) := by
  have eT : (2 : Nat) ^ (128 + s) = 2 ^ 165 * 2 ^ (s - 37) := by rw [← Nat.pow_add]; congr 1; omega
  have hT : 8 * 18446744073709551616 ≤ 2 ^ 165 := by decide
  rw [eT]
  by_cases hp : 0 ≤ p
  · obtain ⟨n, rfl⟩ := Int.eq_ofNat_of_zero_le hp
    have hb := base_up n x (by omega) hx
    refine gap_ratio _ _ _ _ _ (Nat.mul_pos (Nat.two_pow_pos _) (Nat.two_pow_pos (s - 37))) ?_ (gap_half _ _ _ (s - 37) (Nat.two_pow_pos _) hT hb)
    have z1 : (-((n : Nat) : Int)).toNat = 0 := by omega
    have z2 : ((n : Nat) : Int).toNat = n := by omega
    rw [z1, z2, Nat.pow_zero, Nat.mul_one, ten_five]
    have e := pow_eq (1 + lpZ n + s).toNat 0 (-1 - lpZ n - s).toNat (n + (upK n + (s - 37))) (by unfold upK lpZ; omega)
    rw [Nat.pow_zero, Nat.mul_one, Nat.pow_add 2 n, Nat.pow_add 2 (upK n)] at e
    rw [e]
    ac_rfl
  · obtain ⟨q, rfl⟩ : ∃ q : Nat, p = -(q : Int) := ⟨(-p).toNat, by omega⟩
    have hb := base_dn q x (by omega) (by omega) hx
    have h5 : 0 < 5 ^ q := Nat.pow_pos (by decide)
    refine gap_ratio _ _ _ _ _ (Nat.mul_pos (Nat.mul_pos (Nat.two_pow_pos _) h5) (Nat.two_pow_pos (s - 37))) ?_ (gap_half _ _ _ (s - 37) (Nat.mul_pos (Nat.two_pow_pos _) h5) hT hb)
    have z1 : (-(-((q : Nat) : Int))).toNat = q := by omega
    have z2 : (-((q : Nat) : Int)).toNat = 0 := by omega
    rw [z1, z2, Nat.pow_zero, Nat.mul_one, ten_five]
    have e := pow_eq (dnT q) ((1 + lpZ (-(q : Int)) + s).toNat + q) (-1 - lpZ (-(q : Int)) - s).toNat ((38 + lpZ (-(q : Int)) + q).toNat + (s - 37)) (by unfold dnT lpZ; omega)
    rw [Nat.pow_add 2 _ q, Nat.pow_add 2 (38 + lpZ (-(q : Int)) + q).toNat] at e
    generalize 2 ^ dnT q = a1 at *
    generalize 2 ^ (1 + lpZ (-(q : Int)) + s).toNat = a2 at *
    generalize 2 ^ (-1 - lpZ (-(q : Int)) - s).toNat = a3 at *
    generalize 2 ^ (38 + lpZ (-(q : Int)) + q).toNat = a4 at *
    generalize 2 ^ (s - 37) = a5 at *
    generalize 2 ^ q = a6 at *
    calc x * a1 * (a2 * (a6 * 5 ^ q)) = x * 5 ^ q * (a1 * (a2 * a6)) := by ac_rfl
      _ = x * 5 ^ q * (a3 * (a4 * a5)) := by rw [e]
      _ = x * a3 * (a4 * 5 ^ q * a5) := by ac_rfl
end Go.Proofs.YtnljpbpphdhnpaaGreatDoor

/- The library's scaling of every number of 64 bits by a power of ten from -70 to 40 is exact. -/
namespace Go.Proofs.YtnljpbpphdhnpaaGreatDoor
open Go.RowKit Go.PlainAid

/-- the table's row of ten to the power p, from -70 on -/
def hiZ (p : Int) : Nat := (Go.Pinned.pow10Rows.getD (348 + p).toNat (0, 0)).1
def loZ (p : Int) : Nat := (Go.Pinned.pow10Rows.getD (348 + p).toNat (0, 0)).2
def rowZ (p : Int) : Prop := hiZ p < 18446744073709551616 ∧ loZ p < 18446744073709551616 ∧ loZ p ≤ hiZ p * 18446744073709551616 ∧
  (hiZ p * 18446744073709551616 - loZ p) * (4194304 * 10 ^ (-p).toNat) ≤ 10 ^ p.toNat * 2 ^ (149 - lpZ p).toNat + 4194304 * 10 ^ (-p).toNat ∧ 10 ^ p.toNat * 2 ^ (149 - lpZ p).toNat ≤ (hiZ p * 18446744073709551616 - loZ p) * (4194304 * 10 ^ (-p).toNat) + 4194304 * 10 ^ (-p).toNat
instance (p : Int) : Decidable (rowZ p) := by unfold rowZ; infer_instance
theorem rows_z : ∀ j : Nat, j < 111 → rowZ ((j : Int) - 70) := by decide +kernel
theorem usc_z (p : Int) (x s : Nat) (h1 : -70 ≤ p) (h2 : p ≤ 40) (hx : x < 18446744073709551616) (hs : 37 ≤ s) :
    uscN x (hiZ p) (loZ p) s = uN (x * 2 ^ (-1 - lpZ p - s).toNat * 10 ^ p.toNat) (2 ^ (1 + lpZ p + s).toNat * 10 ^ (-p).toNat) := by
  obtain ⟨a1, a2, a3, a6, a7⟩ : rowZ p := by
    have := rows_z (p + 70).toNat (by omega)
    rwa [show (((p + 70).toNat : Nat) : Int) - 70 = p by omega] at this
  have hden : 0 < 2 ^ (1 + lpZ p + s).toNat * 10 ^ (-p).toNat := Nat.mul_pos (Nat.two_pow_pos _) (Nat.pow_pos (by decide))
  have hle : x * loZ p ≤ x * hiZ p * 18446744073709551616 := by
    rw [Nat.mul_assoc x]
    exact Nat.mul_le_mul_left _ a3
  have hN : x * hiZ p * 18446744073709551616 - x * loZ p = x * (hiZ p * 18446744073709551616 - loZ p) := by
    rw [Nat.mul_assoc x, Nat.mul_sub]
  have hg := gap_all p x s h1 h2 hx hs
  have e2 : (2 : Nat) ^ (-1 - lpZ p - s).toNat * (2 ^ (128 + s) * 4194304) = 2 ^ (1 + lpZ p + s).toNat * 2 ^ (149 - lpZ p).toNat := by
    rw [show (4194304 : Nat) = 2 ^ 22 by decide, ← Nat.pow_add, ← Nat.pow_add, ← Nat.pow_add]
    congr 1
    unfold lpZ
    omega
  have m6 := Nat.mul_le_mul_left (x * 2 ^ (1 + lpZ p + s).toNat) a6
  have m7 := Nat.mul_le_mul_left (x * 2 ^ (1 + lpZ p + s).toNat) a7
  obtain ⟨pm, hpm⟩ : ∃ pm, hiZ p * 18446744073709551616 - loZ p = pm := ⟨_, rfl⟩
  rw [hpm] at hN m6 m7
  obtain ⟨A, hA⟩ : ∃ A : Nat, 2 ^ (-1 - lpZ p - s).toNat = A := ⟨_, rfl⟩
  obtain ⟨B, hB⟩ : ∃ B : Nat, 2 ^ (1 + lpZ p + s).toNat = B := ⟨_, rfl⟩
  obtain ⟨C, hC⟩ : ∃ C : Nat, 2 ^ (149 - lpZ p).toNat = C := ⟨_, rfl⟩
  obtain ⟨T, hT⟩ : ∃ T : Nat, 2 ^ (128 + s) = T := ⟨_, rfl⟩
  obtain ⟨U, hU⟩ : ∃ U : Nat, 10 ^ p.toNat = U := ⟨_, rfl⟩
  obtain ⟨V, hV⟩ : ∃ V : Nat, 10 ^ (-p).toNat = V := ⟨_, rfl⟩
  rw [hA, hU, hB, hV, hT] at hg
  rw [hB, hV] at hden
  rw [hA, hT, hB, hC] at e2
  rw [hB, hU, hC, hV] at m6 m7
  rw [hA, hU, hB, hV]
  have e1 : x * A * U * T * 4194304 = x * B * (U * C) := by
    calc x * A * U * T * 4194304 = x * U * (A * (T * 4194304)) := by ac_rfl
      _ = x * U * (B * C) := by rw [e2]
      _ = x * B * (U * C) := by ac_rfl
  have e3 : x * pm * (B * V) * 4194304 = x * B * (pm * (4194304 * V)) := by ac_rfl
  have e4 : x * B * (4194304 * V) = x * (B * V) * 4194304 := by ac_rfl
  have e5 : x * (B * V) * 4194304 < B * V * 18446744073709551616 * 4194304 := by
    refine Nat.mul_lt_mul_of_pos_right ?_ (by decide)
    rw [Nat.mul_comm]
    exact Nat.mul_lt_mul_of_pos_left hx hden
  rw [Nat.mul_add, e4, ← e1, ← e3] at m6 m7
  refine usc_core64 _ _ _ _ _ _ hx a2 hle hden ?_ ?_ (by rw [hT]; exact hg)
  · rw [hN, hT]
    generalize x * pm * (B * V) = z1 at *
    generalize x * A * U * T = z2 at *
    generalize x * (B * V) = z3 at *
    generalize B * V = z4 at *
    omega
  · rw [hN, hT]
    generalize x * pm * (B * V) = z1 at *
    generalize x * A * U * T = z2 at *
    generalize x * (B * V) = z3 at *
    generalize B * V = z4 at *
    omega
end Go.Proofs.YtnljpbpphdhnpaaGreatDoor

/- A number over another, cut with two places more and rounded by them, is the document's Nearest. -/
namespace Go.Proofs.YtnljpbpphdhnpaaGreatDoor
open Go.RowKit Go.PlainAid

theorem uN_ratio (a b c d : Nat) (hb : 0 < b) (hd : 0 < d) (e : a * d = c * b) : uN a b = uN c d := by
  have f : a % b * d = c % d * b := by
    rw [← Nat.mul_mod_mul_right, ← Nat.mul_mod_mul_right, e, Nat.mul_comm b d]
  have g : a / b = c / d := by
    rw [← Nat.mul_div_mul_right a b hd, e, Nat.mul_comm b d, Nat.mul_div_mul_right c d hb]
  unfold uN
  rw [g]
  by_cases h : a % b = 0
  · rw [h, Nat.zero_mul] at f
    have h2 : c % d = 0 := by
      rcases Nat.mul_eq_zero.1 f.symm with k | k
      · exact k
      · omega
    rw [if_pos h, if_pos h2]
  · have h2 : c % d ≠ 0 := by
      intro k
      rw [k, Nat.zero_mul] at f
      rcases Nat.mul_eq_zero.1 f with k | k
      · exact h k
      · omega
    rw [if_neg h, if_neg h2]
theorem uN_between (P Q : Nat) : P / Q ≤ uN P Q ∧ uN P Q ≤ 2 * (P / Q / 2) + 1 := by
  unfold uN; split <;> omega
theorem less_uN (P Q : Nat) (hQ : 0 < Q) : lessU (uN P Q) = uN P (2 * Q) := by
  obtain ⟨h1, h2⟩ := cut_parts P Q 2 hQ
  unfold lessU uN
  rw [h1, h2]
  have hR : P % Q < Q := Nat.mod_lt _ hQ
  generalize P / Q = Z
  generalize P % Q = R at *
  clear h1 h2
  by_cases hR0 : R = 0
  · subst hR0
    rw [if_pos rfl]
    by_cases hz : Z % 2 = 0
    · rw [if_pos hz, hz, if_pos (by simp)]
    · have hz1 : Z % 2 = 1 := by omega
      rw [if_neg hz, hz1, if_neg (by simp; omega)]
  · rw [if_neg hR0, if_neg (by omega), if_neg (by omega)]
    omega
theorem rnd_uN (P Q : Nat) (hQ : 0 < Q) : rndU (uN P Q) = P / Q / 4 + (if upB (2 * P) ((2 * (P / Q / 4) + 1) * (4 * Q)) (P / Q / 4) = true then 1 else 0) := by
  have hdm := Nat.div_add_mod P Q
  have hR : P % Q < Q := Nat.mod_lt _ hQ
  unfold rndU uN upB
  generalize P / Q = Z at *
  generalize P % Q = R at *
  subst hdm
  obtain ⟨n, j, rfl, hj⟩ : ∃ n j, Z = 4 * n + j ∧ j < 4 := ⟨Z / 4, Z % 4, by omega, by omega⟩
  have e1 : (4 * n + j) / 4 = n := by omega
  rw [e1]
  have e2 : 2 * (Q * (4 * n + j) + R) = 8 * (Q * n) + 2 * (Q * j) + 2 * R := by
    rw [Nat.mul_add Q, Nat.mul_left_comm Q 4 n]; omega
  have e3 : (2 * n + 1) * (4 * Q) = 8 * (Q * n) + 4 * Q := by
    rw [Nat.add_mul, Nat.mul_comm Q n, Nat.mul_assoc 2 n, Nat.mul_left_comm n 4 Q]; omega
  rw [e2, e3]
  generalize Q * n = q
  have hj4 : j = 0 ∨ j = 1 ∨ j = 2 ∨ j = 3 := by omega
  rcases hj4 with rfl | rfl | rfl | rfl
  · have t : ¬ (8 * q + 4 * Q < 8 * q + 2 * (Q * 0) + 2 * R) := by omega
    have t2 : ¬ (8 * q + 2 * (Q * 0) + 2 * R = 8 * q + 4 * Q) := by omega
    simp only [decide_eq_false t, decide_eq_false t2, Bool.false_and, Bool.or_self, Bool.false_eq_true, if_false]
    split <;> omega
  · have t : ¬ (8 * q + 4 * Q < 8 * q + 2 * (Q * 1) + 2 * R) := by omega
    have t2 : ¬ (8 * q + 2 * (Q * 1) + 2 * R = 8 * q + 4 * Q) := by omega
    simp only [decide_eq_false t, decide_eq_false t2, Bool.false_and, Bool.or_self, Bool.false_eq_true, if_false]
    split <;> omega
  · by_cases hR0 : R = 0
    · subst hR0
      have t : ¬ (8 * q + 4 * Q < 8 * q + 2 * (Q * 2) + 2 * 0) := by omega
      have t2 : (8 * q + 2 * (Q * 2) + 2 * 0 = 8 * q + 4 * Q) := by omega
      simp only [decide_eq_false t, decide_eq_true t2, Bool.true_and, Bool.false_or, decide_eq_true_eq, if_true]
      split <;> omega
    · have t : (8 * q + 4 * Q < 8 * q + 2 * (Q * 2) + 2 * R) := by omega
      simp only [decide_eq_true t, Bool.true_or, if_true, if_neg hR0]
      omega
  · have t : (8 * q + 4 * Q < 8 * q + 2 * (Q * 3) + 2 * R) := by omega
    simp only [decide_eq_true t, Bool.true_or, if_true]
    split <;> omega

theorem valN_at0 (d m : Nat) (h1 : 8388608 ≤ m) (h2 : m ≤ 16777216) : valN (d * 8388608 + m) = m * 2 ^ d := by
  unfold valN
  rw [if_neg (by omega)]
  by_cases h : m = 16777216
  · rw [h, show (d * 8388608 + 16777216) % 8388608 = 0 by omega, show (d * 8388608 + 16777216) / 8388608 - 1 = d + 1 by omega, Nat.pow_succ, Nat.mul_comm (2 ^ d) 2, ← Nat.mul_assoc]
  · rw [show (d * 8388608 + m) % 8388608 = m - 8388608 by omega, show (d * 8388608 + m) / 8388608 - 1 = d by omega, show 8388608 + (m - 8388608) = m by omega]
theorem valN_rung (d m : Nat) (h1 : 8388608 ≤ m ∨ d = 0) (h2 : m ≤ 16777216) : valN (d * 8388608 + m) = m * 2 ^ d := by
  by_cases h : 8388608 ≤ m
  · exact valN_at0 d m h h2
  · obtain rfl : d = 0 := by omega
    unfold valN
    rw [Nat.zero_mul, Nat.zero_add, if_pos (by omega), Nat.pow_zero, Nat.mul_one]
theorem low_is (A B m L : Nat) (hl : LowB A B m) (h1 : valN L * B ≤ A * 2 ^ 149) (h2 : A * 2 ^ 149 < valN (L + 1) * B) (hL : L < 2139095040) : m = L := by
  obtain ⟨a1, a2, a3⟩ := hl
  have b1 : m < L + 1 := valN_iff.1 (Nat.lt_of_mul_lt_mul_right (Nat.lt_of_le_of_lt a2 h2))
  rcases a3 with a3 | a3
  · omega
  · have b2 : L < m + 1 := valN_iff.1 (Nat.lt_of_mul_lt_mul_right (Nat.lt_of_le_of_lt h1 a3))
    omega
theorem upB_four (a b n : Nat) : upB (4 * a) (4 * b) n = upB a b n := by
  unfold upB
  rw [show decide (4 * b < 4 * a) = decide (b < a) from decide_eq_decide.2 (by omega), show decide (4 * a = 4 * b) = decide (a = b) from decide_eq_decide.2 (by omega)]
theorem upB_par (a b n m : Nat) (h : n % 2 = m % 2) : upB a b n = upB a b m := by unfold upB; rw [h]

theorem cutZ_q {X Q n R : Nat} (h : Q * n + R = X) (hR : R < Q) : Q * n ≤ X ∧ X < Q * n + Q := by omega
theorem lessZ_q {D z : Nat} (h : (D + 1) * 8388608 + z < 2139095040) : D * 8388608 + 16777215 < 2139095040 := by
  have h2 : (D + 1) * 8388608 < 255 * 8388608 := Nat.lt_of_le_of_lt (Nat.le_add_right _ z) h
  have h3 : D + 1 < 255 := Nat.lt_of_mul_lt_mul_right h2
  have h4 : D * 8388608 ≤ 253 * 8388608 := Nat.mul_le_mul_right _ (by omega)
  exact Nat.lt_of_le_of_lt (Nat.add_le_add_right h4 _) (by decide)
theorem near_cut (A B D m : Nat) (hB : 0 < B) (hl : LowB A B m) (h1 : 8388608 ≤ A * 2 ^ 149 / (B * 2 ^ D) ∨ D = 0) (h2 : A * 2 ^ 149 / (B * 2 ^ D) < 16777216) (h3 : D * 8388608 + A * 2 ^ 149 / (B * 2 ^ D) < 2139095040) :
    nearB A B m = D * 8388608 + rndU (uN (4 * (A * 2 ^ 149)) (B * 2 ^ D)) := by
  have hQ : 0 < B * 2 ^ D := Nat.mul_pos hB (Nat.two_pow_pos D)
  have hdm := Nat.div_add_mod (A * 2 ^ 149) (B * 2 ^ D)
  have hR := Nat.mod_lt (A * 2 ^ 149) hQ
  have e4 : 4 * (A * 2 ^ 149) / (B * 2 ^ D) / 4 = A * 2 ^ 149 / (B * 2 ^ D) := by
    rw [Nat.div_div_eq_div_mul, Nat.mul_comm _ 4, Nat.mul_div_mul_left _ _ (by decide)]
  rw [rnd_uN _ _ hQ, e4]
  unfold nearB
  generalize A * 2 ^ 149 / (B * 2 ^ D) = n at *
  have v0 := valN_rung D n h1 (by omega)
  have v1 := valN_rung D (n + 1) (by omega) (by omega)
  rw [← Nat.add_assoc] at v1
  have hm : m = D * 8388608 + n := by
    refine low_is A B m _ hl ?_ ?_ h3
    · rw [v0, show n * 2 ^ D * B = (B * 2 ^ D) * n by ac_rfl]
      exact (cutZ_q hdm hR).1
    · rw [v1, show (n + 1) * 2 ^ D * B = (B * 2 ^ D) * (n + 1) by ac_rfl, Nat.mul_add, Nat.mul_one]
      exact (cutZ_q hdm hR).2
  subst hm
  rw [if_neg (by omega), v0, v1]
  have e5 : 2 * (4 * (A * 2 ^ 149)) = 4 * (2 * (A * 2 ^ 149)) := Nat.mul_left_comm _ _ _
  have e6 : (2 * n + 1) * (4 * (B * 2 ^ D)) = 4 * ((n * 2 ^ D + (n + 1) * 2 ^ D) * B) := by
    rw [← Nat.add_mul, show n + (n + 1) = 2 * n + 1 by omega]
    ac_rfl
  rw [e5, e6, upB_four, upB_par _ _ n (D * 8388608 + n) (by omega)]
  split
  · rw [Nat.add_assoc]
  · rw [Nat.add_zero]
/-- beyond the greatest -/
theorem near_inf (A B D m : Nat) (hB : 0 < B) (hl : LowB A B m) (h1 : 8388608 ≤ A * 2 ^ 149 / (B * 2 ^ D)) (h3 : 254 ≤ D) : nearB A B m = 2139095040 := by
  have hQ : 0 < B * 2 ^ D := Nat.mul_pos hB (Nat.two_pow_pos D)
  obtain ⟨a1, a2, a3⟩ := hl
  have hm : m = 2139095040 := by
    rcases a3 with a3 | a3
    · exact a3
    · have hv : valN 2139095040 = 8388608 * 2 ^ 254 := valN_rung 254 8388608 (by omega) (by omega)
      have h4 : 8388608 * (B * 2 ^ D) ≤ A * 2 ^ 149 := (Nat.le_div_iff_mul_le hQ).1 h1
      have h5 : 2 ^ 254 ≤ 2 ^ D := Nat.pow_le_pow_right (by decide) h3
      have h6 : valN 2139095040 * B ≤ A * 2 ^ 149 := by
        rw [hv, Nat.mul_assoc, Nat.mul_comm _ B]
        exact Nat.le_trans (Nat.mul_le_mul_left _ (Nat.mul_le_mul_left _ h5)) h4
      have b2 : 2139095040 < m + 1 := valN_iff.1 (Nat.lt_of_mul_lt_mul_right (Nat.lt_of_le_of_lt h6 a3))
      omega
  unfold nearB
  rw [if_pos hm, hm]
/-- one place less, where rounding comes to the next power of two -/
theorem near_less (A B D m : Nat) (hB : 0 < B) (hl : LowB A B m) (h1 : 67108862 ≤ uN (4 * (A * 2 ^ 149)) (B * 2 ^ D)) (h2 : A * 2 ^ 149 / (B * 2 ^ (D + 1)) < 16777216) (h3 : (D + 1) * 8388608 + A * 2 ^ 149 / (B * 2 ^ (D + 1)) < 2139095040) :
    nearB A B m = (D + 1) * 8388608 + rndU (lessU (uN (4 * (A * 2 ^ 149)) (B * 2 ^ D))) ∧ 8388608 ≤ rndU (lessU (uN (4 * (A * 2 ^ 149)) (B * 2 ^ D))) := by
  have hQ : 0 < B * 2 ^ D := Nat.mul_pos hB (Nat.two_pow_pos D)
  have eQ : 2 * (B * 2 ^ D) = B * 2 ^ (D + 1) := by rw [Nat.pow_succ]; ac_rfl
  have hu := uN_between (4 * (A * 2 ^ 149)) (B * 2 ^ D)
  have e4 : 4 * (A * 2 ^ 149) / (B * 2 ^ D) / 4 = A * 2 ^ 149 / (B * 2 ^ D) := by
    rw [Nat.div_div_eq_div_mul, Nat.mul_comm _ 4, Nat.mul_div_mul_left _ _ (by decide)]
  have e5 : A * 2 ^ 149 / (B * 2 ^ (D + 1)) = A * 2 ^ 149 / (B * 2 ^ D) / 2 := by
    rw [Nat.div_div_eq_div_mul, ← eQ, Nat.mul_comm 2]
  by_cases h : 8388608 ≤ A * 2 ^ 149 / (B * 2 ^ (D + 1))
  · have := near_cut A B (D + 1) m hB hl (Or.inl h) h2 h3
    rw [this, less_uN _ _ hQ, eQ]
    refine ⟨rfl, ?_⟩
    rw [rnd_uN _ _ (by rw [← eQ]; omega)]
    have e7 : 4 * (A * 2 ^ 149) / (B * 2 ^ (D + 1)) / 4 = A * 2 ^ 149 / (B * 2 ^ (D + 1)) := by
      rw [Nat.div_div_eq_div_mul, Nat.mul_comm _ 4, Nat.mul_div_mul_left _ _ (by decide)]
    rw [e7]
    omega
  · have hn : A * 2 ^ 149 / (B * 2 ^ D) = 16777215 := by
      generalize 4 * (A * 2 ^ 149) / (B * 2 ^ D) = z1 at *
      generalize A * 2 ^ 149 / (B * 2 ^ D) = z2 at *
      generalize A * 2 ^ 149 / (B * 2 ^ (D + 1)) = z3 at *
      generalize uN (4 * (A * 2 ^ 149)) (B * 2 ^ D) = z4 at *
      omega
    have := near_cut A B D m hB hl (by left; rw [hn]; decide) (by rw [hn]; decide) (by rw [hn]; exact lessZ_q h3)
    rw [this]
    have hu2 : uN (4 * (A * 2 ^ 149)) (B * 2 ^ D) = 67108862 ∨ uN (4 * (A * 2 ^ 149)) (B * 2 ^ D) = 67108863 := by omega
    rcases hu2 with e | e
    · rw [e]; refine ⟨?_, by decide⟩
      rw [show rndU 67108862 = 16777216 by decide, show rndU (lessU 67108862) = 8388608 by decide]; omega
    · rw [e]; refine ⟨?_, by decide⟩
      rw [show rndU 67108863 = 16777216 by decide, show rndU (lessU 67108863) = 8388608 by decide]; omega
end Go.Proofs.YtnljpbpphdhnpaaGreatDoor

/- The library's parseFloat32 for numbers times a power of ten that is told exactly. -/
namespace Go.Proofs.YtnljpbpphdhnpaaGreatDoor
open Go.RowKit Go.PlainAid

theorem round_nat (u : Nat) (h : u < 1073741824) (w : World) : Calls Tryz.prog 177 #[.int .u64 (u : Int)] w fun e w' => e = .returned (.int .u64 ((rndU u : Nat) : Int)) ∧ w' = w := by
  have e1 : bits .and .u64 ((u : Int) / 4) 1 = ((u / 4 % 2 : Nat) : Int) := by
    rw [show (u : Int) / 4 = ((u / 4 : Nat) : Int) by omega]; exact and_one _ (by omega)
  exact round_any u _ _ (by omega) e1 (by omega) (by unfold rndU; omega) w

theorem and23Q (m : Nat) (h : 8388608 ≤ m) (h2 : m < 16777216) : m &&& 8388608 = 8388608 := by
  have h3 : m &&& 2 ^ 23 = 2 ^ 23 := by
    apply Nat.eq_of_testBit_eq
    intro i
    rw [Nat.testBit_and, Nat.testBit_two_pow]
    by_cases hi : 23 = i
    · subst hi
      rw [Nat.testBit_eq_decide_div_mod_eq]
      simp
      omega
    · simp [hi]
  simpa using h3
theorem and23_bits (m : Nat) (h : 8388608 ≤ m) (h2 : m < 16777216) : bits .and .u32 (m : Int) 8388608 = 8388608 := by
  have := u32_and_nat m 8388608 (by omega) (by decide)
  rw [and23Q m h h2] at this
  exact this
theorem andNot23_bits (m : Nat) (h : 8388608 ≤ m) (h2 : m < 16777216) : bits .andNot .u32 (m : Int) 8388608 = ((m - 8388608 : Nat) : Int) := by
  have h1 := u32_andNot_nat m 8388608 (by omega) (by decide)
  have e : ((8388608 : Nat) : Int) = 8388608 := rfl
  rw [e] at h1
  rw [h1, show 4294967295 - 8388608 = 4286578687 from rfl]
  have h4 : m &&& 4286578687 = m - 8388608 := by
    have h5 : m = 8388608 ||| (m - 8388608) := by
      have := Nat.two_pow_add_eq_or_of_lt (i := 23) (b := m - 8388608) (by omega) 1
      simp at this
      omega
    have h6 : (8388608 : Nat) &&& 4286578687 = 0 := by decide
    have h7 : (m - 8388608) &&& 4286578687 = m - 8388608 := by
      have e1 : (m - 8388608) &&& 8388607 = m - 8388608 := by
        rw [show (8388607 : Nat) = 2 ^ 23 - 1 by decide, Nat.and_two_pow_sub_one_eq_mod]; omega
      have e2 : (8388607 : Nat) &&& 4286578687 = 8388607 := by decide
      conv => lhs; rw [← e1, Nat.and_assoc, e2]
      exact e1
    conv => lhs; rw [h5, Nat.and_or_distrib_right, h6, h7]
    simp
  rw [h4]
theorem or23_bits (f k : Nat) (h : f < 8388608) (hk : k < 512) : bits .or .u32 (f : Int) ((k * 8388608 : Nat) : Int) = ((f + k * 8388608 : Nat) : Int) := by
  have h1 := u32_or_nat f (k * 8388608) (by omega) (by omega)
  rw [h1]
  have h2 := Nat.two_pow_add_eq_or_of_lt (i := 23) (b := f) (by omega) k
  rw [Nat.or_comm, show k * 8388608 = 2 ^ 23 * k by omega, ← h2]
  congr 1
  omega

set_option maxRecDepth 1000000 in
set_option maxHeartbeats 400000 in
theorem pack_raw (m E f K : Int) (zn : Nat) (e1 : bits .and .u32 m 8388608 = 8388608) (e2 : bits .andNot .u32 m 8388608 = f) (e3 : bits .or .u32 f K = (zn : Int)) (hE : -150 ≤ E ∧ E < 105) (hK : IntKind.u32.wrap ((150 + E) * 8388608) = K) (w : World) :
    Calls Tryz.prog 190 #[.int .u32 m, .int .i64 E] w fun e w' => e = .returned (.tuple #[.float .f32 zn, .nilIface]) ∧ w' = w := by
  have hF := run_sfrom zn
  obtain ⟨hE0, hE1⟩ := hE
  go_enter Tryz.func190, Tryz.ntmps190
  go_wp2
  go_ret2
  exact ⟨rfl, rfl⟩
theorem pack_any (m : Nat) (E : Int) (k : Nat) (h1 : 8388608 ≤ m) (h2 : m < 16777216) (hk : 150 + E = (k : Int)) (hk2 : k < 255) (w : World) :
    Calls Tryz.prog 190 #[.int .u32 (m : Int), .int .i64 E] w fun e w' => e = .returned (.tuple #[.float .f32 (m - 8388608 + k * 8388608), .nilIface]) ∧ w' = w :=
  pack_raw (m : Int) E _ _ (m - 8388608 + k * 8388608) (and23_bits m h1 h2) (andNot23_bits m h1 h2) (or23_bits (m - 8388608) k (by omega) (by omega)) (by omega) (by rw [hk, IntKind.wrap_u32]; omega) w
end Go.Proofs.YtnljpbpphdhnpaaGreatDoor


/- A whole number as the nearest real: its neighbours, its order, what it is as a whole number again. -/
namespace Go.Proofs.YtnljpbpphdhnpaaGreatDoor
open Go.RowKit Go.PlainAid

theorem valN_at (d m : Nat) (h1 : 8388608 ≤ m) (h2 : m ≤ 16777216) : valN (d * 8388608 + m) = m * 2 ^ d := by
  unfold valN
  rw [if_neg (by omega)]
  by_cases h : m = 16777216
  · rw [h, show (d * 8388608 + 16777216) % 8388608 = 0 by omega, show (d * 8388608 + 16777216) / 8388608 - 1 = d + 1 by omega, Nat.pow_succ, Nat.mul_comm (2 ^ d) 2, ← Nat.mul_assoc]
  · rw [show (d * 8388608 + m) % 8388608 = m - 8388608 by omega, show (d * 8388608 + m) / 8388608 - 1 = d by omega, show 8388608 + (m - 8388608) = m by omega]

/-- between the rung ahead and the one behind the nearest -/
theorem near_all (X : Nat) (h : 23 ≤ X.log2) (hinf : rndR X < 2139095040) :
    (valN (rndR X) < X → X < valN (rndR X + 1)) ∧ (X < valN (rndR X) → valN (rndR X - 1) < X) ∧ (X % 2 ^ (X.log2 - 23) = 0 → valN (rndR X) = X) := by
  have hX : X ≠ 0 := by intro e; rw [e] at h; exact absurd h (by decide)
  have low := @rnd_low X h
  have top := @rnd_top X
  have e : rndR X = (X.log2 - 23) * 8388608 + rne X (X.log2 - 23) := by
    unfold rndR at hinf ⊢; omega
  have hL : X < 2 ^ (X.log2 + 1) := Nat.lt_log2_self
  have hq : X / 2 ^ (X.log2 - 23) < 16777216 := by
    rw [Nat.div_lt_iff_lt_mul (Nat.two_pow_pos _), show (16777216 : Nat) = 2 ^ 24 by decide, ← Nat.pow_add, show 24 + (X.log2 - 23) = X.log2 + 1 by omega]
    exact hL
  have hz : 8388608 ≤ X / 2 ^ (X.log2 - 23) := by
    rw [Nat.le_div_iff_mul_le (Nat.two_pow_pos _), show (8388608 : Nat) = 2 ^ 23 by decide, ← Nat.pow_add, show 23 + (X.log2 - 23) = X.log2 by omega]
    exact Nat.log2_self_le hX
  have hm : rne X (X.log2 - 23) = X / 2 ^ (X.log2 - 23) + (rneB X (X.log2 - 23)).toNat := rfl
  have hdm := Nat.div_add_mod X (2 ^ (X.log2 - 23))
  have hR : X % 2 ^ (X.log2 - 23) < 2 ^ (X.log2 - 23) := Nat.mod_lt _ (Nat.two_pow_pos _)
  have hb : (rneB X (X.log2 - 23)) = true → 0 < X % 2 ^ (X.log2 - 23) := by
    unfold rneB
    simp only [Bool.or_eq_true, decide_eq_true_eq, Bool.and_eq_true, beq_iff_eq]
    have := Nat.two_pow_pos (X.log2 - 23)
    rintro (h | ⟨h, _⟩) <;> omega
  rw [e]
  clear hL h hinf e
  generalize X.log2 - 23 = d at *
  rw [valN_at d _ low top]
  generalize rne X d = m at *
  generalize rneB X d = b at *
  generalize hZ : X / 2 ^ d = Z at *
  generalize hRR : X % 2 ^ d = R at *
  generalize ht : 2 ^ d = t at *
  refine ⟨fun h => ?_, fun h => ?_, fun h => ?_⟩
  · rw [show d * 8388608 + m + 1 = d * 8388608 + (m + 1) by omega]
    have hbf : b = false := by
      cases b
      · rfl
      · simp at hm
        rw [hm, Nat.add_mul, Nat.one_mul, Nat.mul_comm] at h
        omega
    rw [hbf] at hm
    simp at hm
    rw [hm, valN_at d (Z + 1) (by omega) (by omega), ht, Nat.add_mul, Nat.one_mul, Nat.mul_comm Z t]
    omega
  · have hbt : b = true := by
      cases b
      · simp at hm
        rw [hm, Nat.mul_comm] at h
        omega
      · rfl
    have hR0 := hb hbt
    rw [hbt] at hm
    simp at hm
    rw [hm, show d * 8388608 + (Z + 1) - 1 = d * 8388608 + Z by omega, valN_at d Z (by omega) (by omega), ht, Nat.mul_comm Z t]
    omega
  · have hbf : b = false := by
      cases b
      · rfl
      · have := hb rfl; omega
    rw [hbf] at hm
    simp at hm
    rw [hm, Nat.mul_comm]
    omega

/-- the worth of 1 -/
def P149 : Nat := 2 ^ 149
theorem rnd_big : rndR (9223372036854775808 * P149) = 1593835520 := by decide
theorem p149_pos : 0 < P149 := by decide

/-- a whole number that isn't 0 and its rung -/
theorem near_whole (N : Nat) (h0 : 0 < N) (h1 : N ≤ 9223372036854775808) :
    0 < rndR (N * P149) ∧ rndR (N * P149) ≤ 1593835520 ∧ (valN (rndR (N * P149)) < N * P149 → N * P149 < valN (rndR (N * P149) + 1)) ∧ (N * P149 < valN (rndR (N * P149)) → valN (rndR (N * P149) - 1) < N * P149) ∧ (N ≤ 16777216 → valN (rndR (N * P149)) = N * P149) := by
  have hpos : 0 < N * P149 := Nat.mul_pos h0 p149_pos
  have hl : (N * P149).log2 = N.log2 + 149 := log2_scale N 149 h0
  have hb : rndR (N * P149) ≤ 1593835520 := by
    rw [← rnd_big]; exact rndR_mono (Nat.mul_le_mul_right _ h1)
  obtain ⟨a1, a2, a3⟩ := near_all (N * P149) (by omega) (by omega)
  refine ⟨rndR_pos hpos, hb, a1, a2, fun h => a3 ?_⟩
  rw [hl]
  have h3 : N < 2 ^ (N.log2 + 1) := Nat.lt_log2_self
  have h4 : 2 ^ N.log2 ≤ N := Nat.log2_self_le (by omega)
  by_cases hN : N = 16777216
  · rw [hN]; decide
  · have h5 : N.log2 < 24 := by rw [Nat.log2_lt (by omega)]; omega
    have e : P149 = 2 ^ (149 - (N.log2 + 149 - 23)) * 2 ^ (N.log2 + 149 - 23) := by
      unfold P149
      rw [← Nat.pow_add]; congr 1; omega
    rw [e, ← Nat.mul_assoc]
    exact Nat.mul_mod_left _ _
theorem fromI_p (n : Int) : fromI n = if n < 0 then rndR (n.natAbs * P149) + 2147483648 else rndR (n.natAbs * P149) := by
  unfold fromI P149
  by_cases h : n < 0
  · rw [if_pos h, if_pos (decide_eq_true h)]
  · rw [if_neg h, if_neg (by simpa using h)]
theorem sval_pos (r : Nat) (h : r < 2147483648) : svalZ r = (valN r : Int) := by
  unfold svalZ rungN
  rw [if_neg (by omega), Nat.mod_eq_of_lt h]
theorem sval_neg (r : Nat) (h : r < 2147483648) : svalZ (r + 2147483648) = -(valN r : Int) := by
  unfold svalZ rungN
  rw [if_pos (by omega), show (r + 2147483648) % 2147483648 = r by omega]
theorem nan_pos (r : Nat) (h : r ≤ 2139095040) : nanB r = false := by unfold nanB; simp; omega
theorem nan_neg (r : Nat) (h : r ≤ 2139095040) : nanB (r + 2147483648) = false := by unfold nanB; simp; omega
theorem key_pos (r : Nat) (h : r ≤ 2139095040) : keyN r = r + 2147483648 := by
  unfold keyN; rw [nan_pos r h, if_neg (by simp), if_neg (by omega)]
theorem key_neg (r : Nat) (h : r ≤ 2139095040) : keyN (r + 2147483648) = 2147483647 - r := by
  unfold keyN; rw [nan_neg r h, if_neg (by simp), if_pos (by omega)]; omega
theorem from_pos (r : Nat) (h : r ≤ 2139095040) : fromN (r + 2147483648) = r := by
  have e : bitsK (r + 2147483648) = r := by unfold bitsK; rw [if_pos (by omega)]; omega
  unfold fromN; rw [e, nan_pos r h, if_neg (by simp)]
theorem from_neg (r : Nat) (h : r ≤ 2139095040) : fromN (2147483647 - r) = r + 2147483648 := by
  have e : bitsK (2147483647 - r) = r + 2147483648 := by unfold bitsK; rw [if_neg (by omega)]; omega
  unfold fromN; rw [e, nan_neg r h, if_neg (by simp)]
theorem up_pos (r : Nat) (h : r < 2139095040) : nextN r true = r + 1 := by
  unfold nextN
  rw [if_pos rfl, key_pos r (by omega), show r + 2147483648 + 1 = (r + 1) + 2147483648 by omega, from_pos _ (by omega)]
theorem down_pos (r : Nat) (h0 : 0 < r) (h : r < 2139095040) : nextN r false = r - 1 := by
  unfold nextN
  rw [if_neg (by simp), key_pos r (by omega), if_neg (by omega), if_neg (by omega), show r + 2147483648 - 1 = (r - 1) + 2147483648 by omega, from_pos _ (by omega)]
theorem up_neg (r : Nat) (h0 : 0 < r) (h : r < 2139095040) : nextN (r + 2147483648) true = r - 1 + 2147483648 := by
  unfold nextN
  rw [if_pos rfl, key_neg r (by omega), show 2147483647 - r + 1 = 2147483647 - (r - 1) by omega, from_neg _ (by omega)]
theorem down_neg (r : Nat) (h : r < 2139095040) : nextN (r + 2147483648) false = r + 1 + 2147483648 := by
  unfold nextN
  rw [if_neg (by simp), key_neg r (by omega), if_neg (by omega), if_neg (by omega), show 2147483647 - r - 1 = 2147483647 - (r + 1) by omega, from_neg _ (by omega)]
theorem up_zero : nextN 0 true = 1 := by decide
theorem down_zero : nextN 0 false = 2147483648 := by decide

/-- what the statement on whole numbers asks of one -/
structure WhA (n : Int) (x : Nat) : Prop where
  lt : x < 4294967296
  na : nanB x = false
  nu : nanB (nextN x true) = false
  nd : nanB (nextN x false) = false
  lu : nextN x true < 4294967296
  ld : nextN x false < 4294967296
  up : svalZ x < n * (P149 : Nat) → n * (P149 : Nat) < svalZ (nextN x true)
  down : n * (P149 : Nat) < svalZ x → svalZ (nextN x false) < n * (P149 : Nat)
  small : n.natAbs ≤ 16777216 → svalZ x = n * (P149 : Nat)
  rung : rungN x < 2139095040
theorem whole_math (n : Int) (h1 : -9223372036854775808 ≤ n) (h2 : n ≤ 9223372036854775807) : WhA n (fromI n) := by
  rw [fromI_p]
  by_cases h0 : n = 0
  · subst h0
    rw [if_neg (by omega), show (0 : Int).natAbs * P149 = 0 by simp, rndR_zero]
    exact ⟨by decide, by decide, by decide, by decide, by decide, by decide, fun h => absurd h (by decide), fun h => absurd h (by decide), fun _ => by decide, by decide⟩
  · obtain ⟨a1, a2, a3, a4, a5⟩ := near_whole n.natAbs (by omega) (by omega)
    generalize hr : rndR (n.natAbs * P149) = r at *
    by_cases hn : n < 0
    · have en : n * (P149 : Nat) = -((n.natAbs * P149 : Nat) : Int) := by
        rw [Int.natCast_mul, show ((n.natAbs : Nat) : Int) = -n by omega, Int.neg_mul, Int.neg_neg]
      rw [if_pos hn]
      refine ⟨by omega, nan_neg r (by omega), by rw [up_neg r a1 (by omega)]; exact nan_neg _ (by omega), by rw [down_neg r (by omega)]; exact nan_neg _ (by omega), by rw [up_neg r a1 (by omega)]; omega, by rw [down_neg r (by omega)]; omega, fun h => ?_, fun h => ?_, fun h => ?_, by unfold rungN; omega⟩
      · rw [en, up_neg r a1 (by omega), sval_neg _ (by omega)]
        rw [en, sval_neg r (by omega)] at h
        have := a4 (by omega)
        omega
      · rw [en, down_neg r (by omega), sval_neg _ (by omega)]
        rw [en, sval_neg r (by omega)] at h
        have := a3 (by omega)
        omega
      · rw [en, sval_neg r (by omega), a5 h]
    · have en : n * (P149 : Nat) = ((n.natAbs * P149 : Nat) : Int) := by
        rw [Int.natCast_mul, show ((n.natAbs : Nat) : Int) = n by omega]
      rw [if_neg hn]
      refine ⟨by omega, nan_pos r (by omega), by rw [up_pos r (by omega)]; exact nan_pos _ (by omega), by rw [down_pos r a1 (by omega)]; exact nan_pos _ (by omega), by rw [up_pos r (by omega)]; omega, by rw [down_pos r a1 (by omega)]; omega, fun h => ?_, fun h => ?_, fun h => ?_, by unfold rungN; omega⟩
      · rw [en, up_pos r (by omega), sval_pos _ (by omega)]
        rw [en, sval_pos r (by omega)] at h
        have := a3 (by omega)
        omega
      · rw [en, down_pos r a1 (by omega), sval_pos _ (by omega)]
        rw [en, sval_pos r (by omega)] at h
        have := a4 (by omega)
        omega
      · rw [en, sval_pos r (by omega), a5 h]

theorem key_fromI (n : Int) (h1 : -9223372036854775808 ≤ n) (h2 : n ≤ 9223372036854775807) : ((keyN (fromI n) : Nat) : Int) = if n < 0 then 2147483647 - (rndR (n.natAbs * P149) : Int) else 2147483648 + (rndR (n.natAbs * P149) : Int) := by
  have hr : rndR (n.natAbs * P149) ≤ 1593835520 := by
    rw [← rnd_big]; exact rndR_mono (Nat.mul_le_mul_right _ (by omega))
  rw [fromI_p]
  generalize rndR (n.natAbs * P149) = r at *
  unfold keyN
  by_cases hn : n < 0
  · rw [if_pos hn, if_pos hn, nan_neg r (by omega), if_neg (by simp), if_pos (by omega)]; omega
  · rw [if_neg hn, if_neg hn, nan_pos r (by omega), if_neg (by simp), if_neg (by omega)]; omega
theorem key_mono (n m : Int) (h1 : -9223372036854775808 ≤ n) (h2 : n ≤ 9223372036854775807) (h3 : -9223372036854775808 ≤ m) (h4 : m ≤ 9223372036854775807) (h : n ≤ m) : (keyN (fromI n) : Int) ≤ keyN (fromI m) := by
  rw [key_fromI n h1 h2, key_fromI m h3 h4]
  by_cases hn : n < 0
  · by_cases hm : m < 0
    · have := rndR_mono (Nat.mul_le_mul_right P149 (show m.natAbs ≤ n.natAbs by omega))
      rw [if_pos hn, if_pos hm]; omega
    · rw [if_pos hn, if_neg hm]; omega
  · have := rndR_mono (Nat.mul_le_mul_right P149 (show n.natAbs ≤ m.natAbs by omega))
    rw [if_neg hn, if_neg (show ¬ m < 0 by omega)]; omega
/-- what it is as a whole number -/
theorem toI_small (n : Int) (x : Nat) (h : WhA n x) (h1 : -16777216 ≤ n) (h2 : n ≤ 16777216) : toI x = (n, true) := by
  have e := h.small (by omega)
  have hp := p149_pos
  have hw : wholeZ x = n := by
    have e2 : wholeZ x = if x / 2147483648 % 2 = 1 then -((valN (rungN x) / P149 : Nat) : Int) else ((valN (rungN x) / P149 : Nat) : Int) := rfl
    rw [e2]
    unfold svalZ at e
    generalize valN (rungN x) = v at *
    generalize P149 = p at *
    have hv : v = n.natAbs * p := by
      have e3 : ((v : Nat) : Int).natAbs = (n * (p : Int)).natAbs := by
        rw [← e]; split <;> simp
      rw [Int.natAbs_mul] at e3
      simpa using e3
    rw [hv, Nat.mul_div_cancel _ hp]
    rw [hv] at e
    split
    · rename_i hs
      rw [if_pos hs] at e
      have : (-(n.natAbs : Int)) * (p : Int) = n * (p : Int) := by rw [← e, Int.natCast_mul, Int.neg_mul]
      exact Int.eq_of_mul_eq_mul_right (by omega) this
    · rename_i hs
      rw [if_neg hs] at e
      have : ((n.natAbs : Nat) : Int) * (p : Int) = n * (p : Int) := by rw [← e, Int.natCast_mul]
      exact Int.eq_of_mul_eq_mul_right (by omega) this
  unfold toI
  rw [if_pos]
  · rw [hw]
  · rw [hw]
    exact ⟨h.rung, e, by omega, by omega⟩
theorem cmpI_mul (k n : Int) (p : Nat) (hp : 0 < p) : cmpI (k * p) (n * p) = cmpI k n := by
  have h1 : k * (p : Int) < n * p ↔ k < n := Int.mul_lt_mul_right (by omega)
  have h2 : n * (p : Int) < k * p ↔ n < k := Int.mul_lt_mul_right (by omega)
  unfold cmpI
  simp only [h1, h2]
/-- c, whole and k go together -/
theorem toI_cmp (n : Int) (x : Nat) (h : (toI x).2 = true) : cmpI (svalZ x) (n * (P149 : Nat)) = cmpI (toI x).1 n := by
  unfold toI at h ⊢
  split at h
  · rename_i hh
    rw [if_pos hh]
    have : svalZ x = wholeZ x * ((P149 : Nat) : Int) := hh.2.1
    rw [this]
    exact cmpI_mul _ _ _ p149_pos
  · cases h
end Go.Proofs.YtnljpbpphdhnpaaGreatDoor

