/- The sum and the letters of any bytes, the bytes of any letters: OctetsSums answers true for every input of at most so many bytes. -/
import Derived.Test.YtcmembmaaebdeaaRefU
import Derived.Test.YtcmembmaaebdeaaKeptW
import Derived.Test.YtcmembmaaebdeaaAwakeW
namespace Go.Proofs.Ytcmembmaaebdeaa
open Go.RowKit Go.PlainAid Go.Lib

theorem Lent.bs {w : World} {v : Value} {l : List UInt8} (h : Lent w v l) : Bs w v l := by
  obtain ⟨g, cap, rfl, hr⟩ := h.ex
  have hb := hr.bs
  have e : (l ++ marks 1 24).length = l.length + 24 := by simp [marks_len]
  have h2 : Bs w (.slice (some ⟨g, 0, none⟩) (l ++ marks 1 24).length cap) (l ++ marks 1 24) := by rw [e]; exact hb
  have h3 := h2.take l.length (by omega)
  rw [List.take_left] at h3
  exact h3
theorem Lent.keep {F : List Nat} {w w' : World} {v : Value} {l : List UInt8} (h : Lent w v l) (k : Keep F w w') (hn : Off v F) : Lent w' v l := by
  obtain ⟨g, cap, rfl, hr⟩ := h.ex
  exact ⟨g, cap, rfl, hr.keep k (fun x hx => hn x hx)⟩

set_option maxRecDepth 1000000 in
set_option maxHeartbeats 12800000 in
theorem sums_law (a0 : Option Addr) (ca : Nat) (l : List UInt8) (s : ByteArray) (w : World) (hv : Bs w (.slice a0 l.length ca) l) (hl : l.length ≤ 1048576) (hs : s.size ≤ 1048576) :
    Calls Try.prog 6 #[.slice a0 l.length ca, .string s] w fun e w' => e = .returned (.bool true) ∧ Below w.heap.size w w' := by
  have HV : Hid (Bs w (.slice a0 l.length ca) l) := hv
  clear hv
  go_enter Try.func6, Try.ntmps6
  go_wp2_with fail
  refine (lent_any _ l w HV.out (by omega)).mono ?_
  rintro e1 w1 ⟨v1, rfl, L1, _, K1⟩
  go_wp2_with fail
  refine (sum_any v1 l w1 L1.bs).mono ?_
  rintro e2 w2 ⟨rfl, hw2⟩
  obtain rfl := hw2.symm
  go_wp2_with fail
  refine (armor_any v1 l w1 L1.bs (by omega)).mono ?_
  rintro e3 w3 ⟨rfl, K3⟩
  have L3 := L1.keep K3 (Off.nil _)
  have K3' := K1.trans' K3
  clear L1 K1 K3
  go_wp2_with fail
  refine (unarmor_any s w3 (by omega)).mono ?_
  rintro e4 w4 ⟨v4, er4, rfl, P4, K4⟩
  have L4 := L3.keep K4 (Off.nil _)
  have K4' := K3'.trans' K4
  clear L3 K3' K4
  go_wp2_with fail
  refine (refUnarmor_any s w4 (by omega)).mono ?_
  rintro e5 w5 ⟨v5, er5, rfl, P5, K5⟩
  have L5 := L4.keep K5 (Off.nil _)
  have K5' := K4'.trans' K5
  clear L4 K4'
  obtain ⟨d4, d5, hdd, B4, B5, her⟩ : ∃ d4 d5 : List UInt8, (d4 == d5) = true ∧ Bs w5 v4 d4 ∧ Bs w5 v5 d5 ∧ (er4 == er5) = true := by
    cases hu : unL s.data.toList with
    | none =>
      rw [hu] at P4 P5
      obtain ⟨rfl, rfl⟩ := P4
      obtain ⟨rfl, rfl⟩ := P5
      exact ⟨[], [], rfl, Bs.nil _, Bs.nil _, rfl⟩
    | some d =>
      rw [hu] at P4 P5
      obtain ⟨rfl, R4, _⟩ := P4
      obtain ⟨rfl, R5, _⟩ := P5
      exact ⟨d, d, by simp, R4.bs.keep K5 (Off.nil _), R5.bs, rfl⟩
  clear P4 P5 K5
  go_wp2_with fail
  refine (refSum_any _ l w5 (HV.out.keep K5' (Off.nil _))).mono ?_
  rintro e6 w6 ⟨rfl, hw6⟩
  obtain rfl := hw6.symm
  have hA := refArmor_any _ l w5 (HV.out.keep K5' (Off.nil _)) (by omega)
  obtain ⟨X, hX⟩ : ∃ X : ByteArray, X = ⟨(armL l).toArray⟩ := ⟨_, rfl⟩
  rw [← hX] at hA ⊢
  clear hX
  generalize sumL l = sm
  have hsm : ((sm : Int) == (sm : Int)) = true := by simp
  have hxx : (X.toList == X.toList) = true := by simp
  go_wp2_with fail
  refine hA.mono ?_
  rintro e7 w7 ⟨rfl, K7⟩
  have L7 := L5.keep K7 (Off.nil _)
  have K7' := K5'.trans' K7
  have B4' := B4.keep K7 (Off.nil _)
  have B5' := B5.keep K7 (Off.nil _)
  have V7 := HV.out.keep K7' (Off.nil _)
  clear L5 K5' K7 B4 B5 hA
  have hS := same_any v4 v5 d4 d5 w7 B4' B5'
  rw [hdd] at hS
  go_wp2_with fail
  refine hS.mono ?_
  rintro e8 w8 ⟨rfl, n8, rfl⟩
  have D8 : Keep [] w7 (w7.drewN n8) := (Keep.refl _ _).drewN n8
  have hK := kept_any v1 _ l _ (L7.keep D8 (Off.nil _)) (V7.keep D8 (Off.nil _)) (by omega)
  have K8' := K7'.trans' D8
  clear L7 V7 K7' D8 B4' B5' hS
  generalize w7.drewN n8 = w8 at hK K8' ⊢
  go_wp2_with fail
  refine hK.mono ?_
  rintro e9 w9 ⟨rfl, n9, rfl⟩
  have K9' := K8'.drewN n9
  clear hK K8'
  generalize w8.drewN n9 = w9 at K9' ⊢
  go_wp2_with fail
  refine (awake_any w9).mono ?_
  rintro e10 w10 ⟨rfl, K10⟩
  have HK : Hid (Below w.heap.size w w10) := (K9'.trans' K10).below
  clear K9' K10
  go_wp2
  go_ret
  exact ⟨rfl, HK.out⟩

end Go.Proofs.Ytcmembmaaebdeaa
