/- The program's cut of any text. -/
import Derived.Test.YtnljpbpphdhnpaaGreatDoorParA
namespace Go.Proofs.YtnljpbpphdhnpaaGreatDoor
open Go.RowKit Go.PlainAid

set_option maxRecDepth 1000000 in
set_option maxHeartbeats 1000000 in
theorem cut_okR (s B X0 W P X A F T : ByteArray) (powered down : Bool) (kf k : Int) (w : World)
    (h1 : ∀ w, Calls Tryz.prog 50 #[.string s, .string ⟨#[101]⟩] w fun e w' => e = .returned (.tuple #[.string B, .string X0, .bool powered]) ∧ ∃ n, w' = w.drewN n)
    (h2 : ∀ w, Calls Tryz.prog 50 #[.string B, .string ⟨#[46]⟩] w fun e w' => e = .returned (.tuple #[.string W, .string P, .bool true]) ∧ ∃ n, w' = w.drewN n)
    (h3 : ∀ w, Calls Tryz.prog 25 #[.string X0, .string ⟨#[45]⟩] w fun e w' => e = .returned (.tuple #[.string X, .bool down]) ∧ w' = w)
    (h4 : ∀ w, Calls Tryz.prog 51 #[.string W] w fun e w' => e = .returned (.bool true) ∧ w' = w) (h5 : ∀ w, Calls Tryz.prog 51 #[.string P] w fun e w' => e = .returned (.bool true) ∧ w' = w)
    (h6 : powered = true → ∀ w, Calls Tryz.prog 51 #[.string X] w fun e w' => e = .returned (.bool true) ∧ w' = w)
    (h7 : ∀ w, Calls Tryz.prog 52 #[.string X] w fun e w' => e = .returned (.int .i64 kf) ∧ w' = w)
    (hA : W ++ P = A) (h8 : ∀ w, Calls Tryz.prog 53 #[.string A, .string ⟨#[48]⟩] w fun e w' => e = .returned (.string F) ∧ w' = w)
    (h9 : ∀ w, Calls Tryz.prog 54 #[.string F, .string ⟨#[48]⟩] w fun e w' => e = .returned (.string T) ∧ w' = w)
    (hkf : 0 ≤ kf ∧ kf ≤ 10995116277760) (hW : W.size ≤ 1000000000) (hP : P.size ≤ 1000000000) (hAs : A.size ≤ 2000000000) (hF : F.size ≤ A.size) (hk : (if down = true then -kf else kf) + ((W.size : Int) - 1 - ((A.size : Int) - F.size)) = k) :
    Calls Tryz.prog 28 #[.string s] w fun e w' => e = .returned (.tuple #[.agg #[.string T, .int .i64 k], .bool true]) ∧ Below w.heap.size w w' := by
  have hsz : W.size + P.size ≤ 9223372036854775807 := by omega
  obtain ⟨k1, k2⟩ := hkf
  by_cases hc : powered = false ∧ down = false
  · obtain ⟨rfl, rfl⟩ := hc
    have hk' : kf + ((W.size : Int) - 1 - ((A.size : Int) - F.size)) = k := by simpa using hk
    clear hk
    
    clear h6
    go_enter Tryz.func28, Tryz.ntmps28
    go_wp2_with fail
    refine (h1 _).mono ?_
    rintro e9 w9 ⟨rfl, n9, rfl⟩
    go_wp2_with fail
    refine (h2 _).mono ?_
    rintro e9 w9 ⟨rfl, n9, rfl⟩
    go_wp2_with fail
    refine (h3 _).mono ?_
    rintro e9 w9 ⟨rfl, hw9⟩
    obtain rfl := hw9.symm
    clear hw9
    go_wp2_with fail
    refine (h4 _).mono ?_
    rintro e9 w9 ⟨rfl, hw9⟩
    obtain rfl := hw9.symm
    clear hw9
    go_wp2_with fail
    refine (h5 _).mono ?_
    rintro e9 w9 ⟨rfl, hw9⟩
    obtain rfl := hw9.symm
    clear hw9
    go_wp2_with fail
    refine (h7 _).mono ?_
    rintro e9 w9 ⟨rfl, hw9⟩
    obtain rfl := hw9.symm
    clear hw9
    go_wp2_with fail
    refine (h8 _).mono ?_
    rintro e9 w9 ⟨rfl, hw9⟩
    obtain rfl := hw9.symm
    clear hw9
    go_wp2_with fail
    refine (h9 _).mono ?_
    rintro e9 w9 ⟨rfl, hw9⟩
    obtain rfl := hw9.symm
    clear hw9
    go_wp2
    refine bodyPost_ret (v := .tuple #[.agg #[.string T, .int .i64 k], .bool true]) (by simp [results, Tryz.results28, go_sem]) rfl ⟨rfl, by go_grown; exact below_drewN (by go_grown) _⟩
  by_cases hc : powered = false ∧ down = true
  · obtain ⟨rfl, rfl⟩ := hc
    have hk' : -kf + ((W.size : Int) - 1 - ((A.size : Int) - F.size)) = k := by simpa using hk
    clear hk
    
    clear h6
    go_enter Tryz.func28, Tryz.ntmps28
    go_wp2_with fail
    refine (h1 _).mono ?_
    rintro e9 w9 ⟨rfl, n9, rfl⟩
    go_wp2_with fail
    refine (h2 _).mono ?_
    rintro e9 w9 ⟨rfl, n9, rfl⟩
    go_wp2_with fail
    refine (h3 _).mono ?_
    rintro e9 w9 ⟨rfl, hw9⟩
    obtain rfl := hw9.symm
    clear hw9
    go_wp2_with fail
    refine (h4 _).mono ?_
    rintro e9 w9 ⟨rfl, hw9⟩
    obtain rfl := hw9.symm
    clear hw9
    go_wp2_with fail
    refine (h5 _).mono ?_
    rintro e9 w9 ⟨rfl, hw9⟩
    obtain rfl := hw9.symm
    clear hw9
    go_wp2_with fail
    refine (h7 _).mono ?_
    rintro e9 w9 ⟨rfl, hw9⟩
    obtain rfl := hw9.symm
    clear hw9
    go_wp2_with fail
    refine (h8 _).mono ?_
    rintro e9 w9 ⟨rfl, hw9⟩
    obtain rfl := hw9.symm
    clear hw9
    go_wp2_with fail
    refine (h9 _).mono ?_
    rintro e9 w9 ⟨rfl, hw9⟩
    obtain rfl := hw9.symm
    clear hw9
    go_wp2
    refine bodyPost_ret (v := .tuple #[.agg #[.string T, .int .i64 k], .bool true]) (by simp [results, Tryz.results28, go_sem]) rfl ⟨rfl, by go_grown; exact below_drewN (by go_grown) _⟩
  by_cases hc : powered = true ∧ down = false
  · obtain ⟨rfl, rfl⟩ := hc
    have hk' : kf + ((W.size : Int) - 1 - ((A.size : Int) - F.size)) = k := by simpa using hk
    clear hk
    have h6a := h6 rfl
    clear h6
    go_enter Tryz.func28, Tryz.ntmps28
    go_wp2_with fail
    refine (h1 _).mono ?_
    rintro e9 w9 ⟨rfl, n9, rfl⟩
    go_wp2_with fail
    refine (h2 _).mono ?_
    rintro e9 w9 ⟨rfl, n9, rfl⟩
    go_wp2_with fail
    refine (h3 _).mono ?_
    rintro e9 w9 ⟨rfl, hw9⟩
    obtain rfl := hw9.symm
    clear hw9
    go_wp2_with fail
    refine (h4 _).mono ?_
    rintro e9 w9 ⟨rfl, hw9⟩
    obtain rfl := hw9.symm
    clear hw9
    go_wp2_with fail
    refine (h5 _).mono ?_
    rintro e9 w9 ⟨rfl, hw9⟩
    obtain rfl := hw9.symm
    clear hw9
    go_wp2_with fail
    refine (h6a _).mono ?_
    rintro e9 w9 ⟨rfl, hw9⟩
    obtain rfl := hw9.symm
    clear hw9
    go_wp2_with fail
    refine (h7 _).mono ?_
    rintro e9 w9 ⟨rfl, hw9⟩
    obtain rfl := hw9.symm
    clear hw9
    go_wp2_with fail
    refine (h8 _).mono ?_
    rintro e9 w9 ⟨rfl, hw9⟩
    obtain rfl := hw9.symm
    clear hw9
    go_wp2_with fail
    refine (h9 _).mono ?_
    rintro e9 w9 ⟨rfl, hw9⟩
    obtain rfl := hw9.symm
    clear hw9
    go_wp2
    refine bodyPost_ret (v := .tuple #[.agg #[.string T, .int .i64 k], .bool true]) (by simp [results, Tryz.results28, go_sem]) rfl ⟨rfl, by go_grown; exact below_drewN (by go_grown) _⟩
  by_cases hc : powered = true ∧ down = true
  · obtain ⟨rfl, rfl⟩ := hc
    have hk' : -kf + ((W.size : Int) - 1 - ((A.size : Int) - F.size)) = k := by simpa using hk
    clear hk
    have h6a := h6 rfl
    clear h6
    go_enter Tryz.func28, Tryz.ntmps28
    go_wp2_with fail
    refine (h1 _).mono ?_
    rintro e9 w9 ⟨rfl, n9, rfl⟩
    go_wp2_with fail
    refine (h2 _).mono ?_
    rintro e9 w9 ⟨rfl, n9, rfl⟩
    go_wp2_with fail
    refine (h3 _).mono ?_
    rintro e9 w9 ⟨rfl, hw9⟩
    obtain rfl := hw9.symm
    clear hw9
    go_wp2_with fail
    refine (h4 _).mono ?_
    rintro e9 w9 ⟨rfl, hw9⟩
    obtain rfl := hw9.symm
    clear hw9
    go_wp2_with fail
    refine (h5 _).mono ?_
    rintro e9 w9 ⟨rfl, hw9⟩
    obtain rfl := hw9.symm
    clear hw9
    go_wp2_with fail
    refine (h6a _).mono ?_
    rintro e9 w9 ⟨rfl, hw9⟩
    obtain rfl := hw9.symm
    clear hw9
    go_wp2_with fail
    refine (h7 _).mono ?_
    rintro e9 w9 ⟨rfl, hw9⟩
    obtain rfl := hw9.symm
    clear hw9
    go_wp2_with fail
    refine (h8 _).mono ?_
    rintro e9 w9 ⟨rfl, hw9⟩
    obtain rfl := hw9.symm
    clear hw9
    go_wp2_with fail
    refine (h9 _).mono ?_
    rintro e9 w9 ⟨rfl, hw9⟩
    obtain rfl := hw9.symm
    clear hw9
    go_wp2
    refine bodyPost_ret (v := .tuple #[.agg #[.string T, .int .i64 k], .bool true]) (by simp [results, Tryz.results28, go_sem]) rfl ⟨rfl, by go_grown; exact below_drewN (by go_grown) _⟩
  · cases powered <;> cases down <;> simp_all
set_option maxRecDepth 1000000 in
set_option maxHeartbeats 1000000 in
theorem cut_no1 (s B X0 W P X : ByteArray) (powered pointed down : Bool) (w : World)
    (h1 : ∀ w, Calls Tryz.prog 50 #[.string s, .string ⟨#[101]⟩] w fun e w' => e = .returned (.tuple #[.string B, .string X0, .bool powered]) ∧ ∃ n, w' = w.drewN n)
    (h2 : ∀ w, Calls Tryz.prog 50 #[.string B, .string ⟨#[46]⟩] w fun e w' => e = .returned (.tuple #[.string W, .string P, .bool pointed]) ∧ ∃ n, w' = w.drewN n)
    (h3 : ∀ w, Calls Tryz.prog 25 #[.string X0, .string ⟨#[45]⟩] w fun e w' => e = .returned (.tuple #[.string X, .bool down]) ∧ w' = w)
    (hp : pointed = false) :
    Calls Tryz.prog 28 #[.string s] w fun e w' => e = .returned (.tuple #[.agg #[.string ⟨#[]⟩, .int .i64 0], .bool false]) ∧ Below w.heap.size w w' := by
  subst hp
  go_enter Tryz.func28, Tryz.ntmps28
  go_wp2_with fail
  refine (h1 _).mono ?_
  rintro e9 w9 ⟨rfl, n9, rfl⟩
  go_wp2_with fail
  refine (h2 _).mono ?_
  rintro e9 w9 ⟨rfl, n9, rfl⟩
  go_wp2_with fail
  refine (h3 _).mono ?_
  rintro e9 w9 ⟨rfl, hw9⟩
  obtain rfl := hw9.symm
  clear hw9
  go_wp2
  refine bodyPost_ret (v := .tuple #[.agg #[.string ⟨#[]⟩, .int .i64 0], .bool false]) (by simp [results, Tryz.results28, go_sem]) rfl ⟨rfl, by go_grown; exact below_drewN (by go_grown) _⟩
set_option maxRecDepth 1000000 in
set_option maxHeartbeats 1000000 in
theorem cut_no2 (s B X0 W P X : ByteArray) (powered pointed down : Bool) (w : World)
    (h1 : ∀ w, Calls Tryz.prog 50 #[.string s, .string ⟨#[101]⟩] w fun e w' => e = .returned (.tuple #[.string B, .string X0, .bool powered]) ∧ ∃ n, w' = w.drewN n)
    (h2 : ∀ w, Calls Tryz.prog 50 #[.string B, .string ⟨#[46]⟩] w fun e w' => e = .returned (.tuple #[.string W, .string P, .bool pointed]) ∧ ∃ n, w' = w.drewN n)
    (h3 : ∀ w, Calls Tryz.prog 25 #[.string X0, .string ⟨#[45]⟩] w fun e w' => e = .returned (.tuple #[.string X, .bool down]) ∧ w' = w)
    (hp : pointed = true) (h4 : ∀ w, Calls Tryz.prog 51 #[.string W] w fun e w' => e = .returned (.bool false) ∧ w' = w) :
    Calls Tryz.prog 28 #[.string s] w fun e w' => e = .returned (.tuple #[.agg #[.string ⟨#[]⟩, .int .i64 0], .bool false]) ∧ Below w.heap.size w w' := by
  subst hp
  go_enter Tryz.func28, Tryz.ntmps28
  go_wp2_with fail
  refine (h1 _).mono ?_
  rintro e9 w9 ⟨rfl, n9, rfl⟩
  go_wp2_with fail
  refine (h2 _).mono ?_
  rintro e9 w9 ⟨rfl, n9, rfl⟩
  go_wp2_with fail
  refine (h3 _).mono ?_
  rintro e9 w9 ⟨rfl, hw9⟩
  obtain rfl := hw9.symm
  clear hw9
  go_wp2_with fail
  refine (h4 _).mono ?_
  rintro e9 w9 ⟨rfl, hw9⟩
  obtain rfl := hw9.symm
  clear hw9
  go_wp2
  refine bodyPost_ret (v := .tuple #[.agg #[.string ⟨#[]⟩, .int .i64 0], .bool false]) (by simp [results, Tryz.results28, go_sem]) rfl ⟨rfl, by go_grown; exact below_drewN (by go_grown) _⟩
set_option maxRecDepth 1000000 in
set_option maxHeartbeats 1000000 in
theorem cut_no3 (s B X0 W P X : ByteArray) (powered pointed down : Bool) (w : World)
    (h1 : ∀ w, Calls Tryz.prog 50 #[.string s, .string ⟨#[101]⟩] w fun e w' => e = .returned (.tuple #[.string B, .string X0, .bool powered]) ∧ ∃ n, w' = w.drewN n)
    (h2 : ∀ w, Calls Tryz.prog 50 #[.string B, .string ⟨#[46]⟩] w fun e w' => e = .returned (.tuple #[.string W, .string P, .bool pointed]) ∧ ∃ n, w' = w.drewN n)
    (h3 : ∀ w, Calls Tryz.prog 25 #[.string X0, .string ⟨#[45]⟩] w fun e w' => e = .returned (.tuple #[.string X, .bool down]) ∧ w' = w)
    (hp : pointed = true) (h4 : ∀ w, Calls Tryz.prog 51 #[.string W] w fun e w' => e = .returned (.bool true) ∧ w' = w) (h5 : ∀ w, Calls Tryz.prog 51 #[.string P] w fun e w' => e = .returned (.bool false) ∧ w' = w) :
    Calls Tryz.prog 28 #[.string s] w fun e w' => e = .returned (.tuple #[.agg #[.string ⟨#[]⟩, .int .i64 0], .bool false]) ∧ Below w.heap.size w w' := by
  subst hp
  go_enter Tryz.func28, Tryz.ntmps28
  go_wp2_with fail
  refine (h1 _).mono ?_
  rintro e9 w9 ⟨rfl, n9, rfl⟩
  go_wp2_with fail
  refine (h2 _).mono ?_
  rintro e9 w9 ⟨rfl, n9, rfl⟩
  go_wp2_with fail
  refine (h3 _).mono ?_
  rintro e9 w9 ⟨rfl, hw9⟩
  obtain rfl := hw9.symm
  clear hw9
  go_wp2_with fail
  refine (h4 _).mono ?_
  rintro e9 w9 ⟨rfl, hw9⟩
  obtain rfl := hw9.symm
  clear hw9
  go_wp2_with fail
  refine (h5 _).mono ?_
  rintro e9 w9 ⟨rfl, hw9⟩
  obtain rfl := hw9.symm
  clear hw9
  go_wp2
  refine bodyPost_ret (v := .tuple #[.agg #[.string ⟨#[]⟩, .int .i64 0], .bool false]) (by simp [results, Tryz.results28, go_sem]) rfl ⟨rfl, by go_grown; exact below_drewN (by go_grown) _⟩
set_option maxRecDepth 1000000 in
set_option maxHeartbeats 1000000 in
theorem cut_no4 (s B X0 W P X : ByteArray) (powered pointed down : Bool) (w : World)
    (h1 : ∀ w, Calls Tryz.prog 50 #[.string s, .string ⟨#[101]⟩] w fun e w' => e = .returned (.tuple #[.string B, .string X0, .bool powered]) ∧ ∃ n, w' = w.drewN n)
    (h2 : ∀ w, Calls Tryz.prog 50 #[.string B, .string ⟨#[46]⟩] w fun e w' => e = .returned (.tuple #[.string W, .string P, .bool pointed]) ∧ ∃ n, w' = w.drewN n)
    (h3 : ∀ w, Calls Tryz.prog 25 #[.string X0, .string ⟨#[45]⟩] w fun e w' => e = .returned (.tuple #[.string X, .bool down]) ∧ w' = w)
    (hp : pointed = true) (hpw : powered = true) (h4 : ∀ w, Calls Tryz.prog 51 #[.string W] w fun e w' => e = .returned (.bool true) ∧ w' = w) (h5 : ∀ w, Calls Tryz.prog 51 #[.string P] w fun e w' => e = .returned (.bool true) ∧ w' = w) (h6 : ∀ w, Calls Tryz.prog 51 #[.string X] w fun e w' => e = .returned (.bool false) ∧ w' = w) :
    Calls Tryz.prog 28 #[.string s] w fun e w' => e = .returned (.tuple #[.agg #[.string ⟨#[]⟩, .int .i64 0], .bool false]) ∧ Below w.heap.size w w' := by
  subst hp
  subst hpw
  go_enter Tryz.func28, Tryz.ntmps28
  go_wp2_with fail
  refine (h1 _).mono ?_
  rintro e9 w9 ⟨rfl, n9, rfl⟩
  go_wp2_with fail
  refine (h2 _).mono ?_
  rintro e9 w9 ⟨rfl, n9, rfl⟩
  go_wp2_with fail
  refine (h3 _).mono ?_
  rintro e9 w9 ⟨rfl, hw9⟩
  obtain rfl := hw9.symm
  clear hw9
  go_wp2_with fail
  refine (h4 _).mono ?_
  rintro e9 w9 ⟨rfl, hw9⟩
  obtain rfl := hw9.symm
  clear hw9
  go_wp2_with fail
  refine (h5 _).mono ?_
  rintro e9 w9 ⟨rfl, hw9⟩
  obtain rfl := hw9.symm
  clear hw9
  go_wp2_with fail
  refine (h6 _).mono ?_
  rintro e9 w9 ⟨rfl, hw9⟩
  obtain rfl := hw9.symm
  clear hw9
  go_wp2
  refine bodyPost_ret (v := .tuple #[.agg #[.string ⟨#[]⟩, .int .i64 0], .bool false]) (by simp [results, Tryz.results28, go_sem]) rfl ⟨rfl, by go_grown; exact below_drewN (by go_grown) _⟩
end Go.Proofs.YtnljpbpphdhnpaaGreatDoor
