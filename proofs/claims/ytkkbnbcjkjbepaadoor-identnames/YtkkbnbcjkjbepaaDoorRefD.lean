/- What Object and Subject of the document's answer answer, for every text, where its table of words lies in memory. -/
import Derived.Test.YtkkbnbcjkjbepaaDoorRefC
namespace Go.Proofs.YtkkbnbcjkjbepaaDoor
open Go.RowKit Go.PlainAid

theorem rcut_yes {m : Int} {l : List UInt8} (h : cutF m l = true) : rcutA m l = cutA m l ∧ rcutB m l = cutB m l := by simp [rcutA, rcutB, h]
theorem rcut_no {m : Int} {l : List UInt8} (h : cutF m l = false) : rcutA m l = [] ∧ rcutB m l = [] := by simp [rcutA, rcutB, h]
theorem cutF_false {m : Int} {l : List UInt8} (h : cutF m l = false) : l.all (notM m) = true := by
  unfold cutF at h; simpa using h
theorem cut_no {m : Int} {l : List UInt8} (h : cutF m l = false) : cutA m l = l ∧ cutB m l = [] := by
  obtain ⟨a, b⟩ := tw_all _ _ (cutF_false h)
  exact ⟨a, by unfold cutB; rw [b]; rfl⟩

set_option maxHeartbeats 400000 in
theorem robject_any (s : ByteArray) (w : World) (hs : s.size ≤ maxLen) (hW : Words w) :
    Calls Tryd.prog 15 #[.string s] w fun e w' => e = .returned (.tuple #[.agg #[.string (ba (objT s.toList)), .string (ba (objI s.toList))], .int .i64 (objE s.toList)]) ∧ Below w.heap.size w w' := by
  have hba := ba_toList
  have hs2 := hs
  cases h1 : cutF 58 s.toList
  · go_enter Tryd.func15, Tryd.ntmps15
    go_wp2_with (first | (go_at_call 31; refine (rcut_any _ _ _ (by first | exact hs | exact hs2)).mono ?_; rintro e w9 ⟨rfl, n, rfl⟩) | (go_at_call 9; refine (rname_any _ _ (by first | exact hW | exact hW.alloc | exact hW.alloc.drewN)).mono ?_; rintro e w9 ⟨rfl, hw⟩; obtain rfl := hw.symm) | (go_at_call 11; refine (rid_any _ _).mono ?_; rintro e w9 ⟨rfl, hw⟩; obtain rfl := hw.symm))
    refine bodyPost_ret (v := .tuple #[.agg #[.string ⟨#[]⟩, .string ⟨#[]⟩], .int .i64 12]) (by simp [results, Tryd.results15, go_sem]) rfl ⟨ret_obj ?_ ?_ ?_, below_obj⟩
    all_goals first | (simp [objT, objI, objE, h1]; done) | (simp [objT, objI, objE, h1]; rfl)
  obtain ⟨y1, y2⟩ := rcut_yes h1
  cases h2 : nameL (cutA 58 s.toList)
  · go_enter Tryd.func15, Tryd.ntmps15
    go_wp2_with (first | (go_at_call 31; refine (rcut_any _ _ _ (by first | exact hs | exact hs2)).mono ?_; rintro e w9 ⟨rfl, n, rfl⟩) | (go_at_call 9; refine (rname_any _ _ (by first | exact hW | exact hW.alloc | exact hW.alloc.drewN)).mono ?_; rintro e w9 ⟨rfl, hw⟩; obtain rfl := hw.symm) | (go_at_call 11; refine (rid_any _ _).mono ?_; rintro e w9 ⟨rfl, hw⟩; obtain rfl := hw.symm))
    refine bodyPost_ret (v := .tuple #[.agg #[.string ⟨#[]⟩, .string ⟨#[]⟩], .int .i64 10]) (by simp [results, Tryd.results15, go_sem]) rfl ⟨ret_obj ?_ ?_ ?_, below_obj⟩
    all_goals first | (simp [objT, objI, objE, h1, h2]; done) | (simp [objT, objI, objE, h1, h2]; rfl)
  cases h3 : idL (cutB 58 s.toList)
  · go_enter Tryd.func15, Tryd.ntmps15
    go_wp2_with (first | (go_at_call 31; refine (rcut_any _ _ _ (by first | exact hs | exact hs2)).mono ?_; rintro e w9 ⟨rfl, n, rfl⟩) | (go_at_call 9; refine (rname_any _ _ (by first | exact hW | exact hW.alloc | exact hW.alloc.drewN)).mono ?_; rintro e w9 ⟨rfl, hw⟩; obtain rfl := hw.symm) | (go_at_call 11; refine (rid_any _ _).mono ?_; rintro e w9 ⟨rfl, hw⟩; obtain rfl := hw.symm))
    refine bodyPost_ret (v := .tuple #[.agg #[.string ⟨#[]⟩, .string ⟨#[]⟩], .int .i64 11]) (by simp [results, Tryd.results15, go_sem]) rfl ⟨ret_obj ?_ ?_ ?_, below_obj⟩
    all_goals first | (simp [objT, objI, objE, h1, h2, h3]; done) | (simp [objT, objI, objE, h1, h2, h3]; rfl)
  go_enter Tryd.func15, Tryd.ntmps15
  go_wp2_with (first | (go_at_call 31; refine (rcut_any _ _ _ (by first | exact hs | exact hs2)).mono ?_; rintro e w9 ⟨rfl, n, rfl⟩) | (go_at_call 9; refine (rname_any _ _ (by first | exact hW | exact hW.alloc | exact hW.alloc.drewN)).mono ?_; rintro e w9 ⟨rfl, hw⟩; obtain rfl := hw.symm) | (go_at_call 11; refine (rid_any _ _).mono ?_; rintro e w9 ⟨rfl, hw⟩; obtain rfl := hw.symm))
  refine bodyPost_ret (v := .tuple #[.agg #[.string (ba (cutA 58 s.toList)), .string (ba (cutB 58 s.toList))], .int .i64 0]) (by simp [results, Tryd.results15, go_sem]) rfl ⟨ret_obj ?_ ?_ ?_, below_obj⟩
  all_goals first | (simp [objT, objI, objE, h1, h2, h3]; done) | (simp [objT, objI, objE, h1, h2, h3]; rfl)

set_option maxHeartbeats 1000000 in
theorem rsubject_any (s : ByteArray) (w : World) (hs : s.size ≤ maxLen) (hW : Words w) :
    Calls Tryd.prog 17 #[.string s] w fun e w' => e = .returned (.tuple #[.agg #[.string (ba (subT s.toList)), .string (ba (subI s.toList)), .string (ba (subR s.toList))], .int .i64 (subE s.toList)]) ∧ Below w.heap.size w w' := by
  have hba := ba_toList
  have hs2 : (ba (cutB 58 s.toList)).size ≤ maxLen := by
    rw [ba_size]; have := cutB_le 58 s.toList; rw [toList_len] at this; omega
  cases h1 : cutF 58 s.toList
  · go_enter Tryd.func17, Tryd.ntmps17
    go_wp2_with (first | (go_at_call 31; refine (rcut_any _ _ _ (by first | exact hs | exact hs2)).mono ?_; rintro e w9 ⟨rfl, n, rfl⟩) | (go_at_call 9; refine (rname_any _ _ (by first | exact hW | exact hW.alloc | exact hW.alloc.drewN)).mono ?_; rintro e w9 ⟨rfl, hw⟩; obtain rfl := hw.symm) | (go_at_call 11; refine (rid_any _ _).mono ?_; rintro e w9 ⟨rfl, hw⟩; obtain rfl := hw.symm))
    refine bodyPost_ret (v := .tuple #[.agg #[.string ⟨#[]⟩, .string ⟨#[]⟩, .string ⟨#[]⟩], .int .i64 13]) (by simp [results, Tryd.results17, go_sem]) rfl ⟨ret_sub ?_ ?_ ?_ ?_, below_sub1⟩
    all_goals first | (simp [subT, subI, subR, subE, h1]; done) | (simp [subT, subI, subR, subE, h1]; rfl)
  obtain ⟨y1, y2⟩ := rcut_yes h1
  cases h2 : nameL (cutA 58 s.toList)
  · go_enter Tryd.func17, Tryd.ntmps17
    go_wp2_with (first | (go_at_call 31; refine (rcut_any _ _ _ (by first | exact hs | exact hs2)).mono ?_; rintro e w9 ⟨rfl, n, rfl⟩) | (go_at_call 9; refine (rname_any _ _ (by first | exact hW | exact hW.alloc | exact hW.alloc.drewN)).mono ?_; rintro e w9 ⟨rfl, hw⟩; obtain rfl := hw.symm) | (go_at_call 11; refine (rid_any _ _).mono ?_; rintro e w9 ⟨rfl, hw⟩; obtain rfl := hw.symm))
    refine bodyPost_ret (v := .tuple #[.agg #[.string ⟨#[]⟩, .string ⟨#[]⟩, .string ⟨#[]⟩], .int .i64 10]) (by simp [results, Tryd.results17, go_sem]) rfl ⟨ret_sub ?_ ?_ ?_ ?_, below_sub1⟩
    all_goals first | (simp [subT, subI, subR, subE, h1, h2]; done) | (simp [subT, subI, subR, subE, h1, h2]; rfl)
  cases h3 : (cutB 58 s.toList == [42])
  case true =>
    go_enter Tryd.func17, Tryd.ntmps17
    go_wp2_with (first | (go_at_call 31; refine (rcut_any _ _ _ (by first | exact hs | exact hs2)).mono ?_; rintro e w9 ⟨rfl, n, rfl⟩) | (go_at_call 9; refine (rname_any _ _ (by first | exact hW | exact hW.alloc | exact hW.alloc.drewN)).mono ?_; rintro e w9 ⟨rfl, hw⟩; obtain rfl := hw.symm) | (go_at_call 11; refine (rid_any _ _).mono ?_; rintro e w9 ⟨rfl, hw⟩; obtain rfl := hw.symm))
    refine bodyPost_ret (v := .tuple #[.agg #[.string (ba (cutA 58 s.toList)), .string ⟨#[42]⟩, .string ⟨#[]⟩], .int .i64 0]) (by simp [results, Tryd.results17, go_sem]) rfl ⟨ret_sub ?_ ?_ ?_ ?_, below_sub1⟩
    all_goals first | (simp [subT, subI, subR, subE, h1, h2, h3]; done) | (simp [subI, subR, subE, h1, h2, h3]; rfl)
  cases h5 : cutF 35 (cutB 58 s.toList)
  · obtain ⟨x1, x2⟩ := cut_no h5
    obtain ⟨y3, y4⟩ := rcut_no h5
    cases h4 : idL (cutB 58 s.toList)
    · go_enter Tryd.func17, Tryd.ntmps17
      go_wp2_with (first | (go_at_call 31; refine (rcut_any _ _ _ (by first | exact hs | exact hs2)).mono ?_; rintro e w9 ⟨rfl, n, rfl⟩) | (go_at_call 9; refine (rname_any _ _ (by first | exact hW | exact hW.alloc | exact hW.alloc.drewN)).mono ?_; rintro e w9 ⟨rfl, hw⟩; obtain rfl := hw.symm) | (go_at_call 11; refine (rid_any _ _).mono ?_; rintro e w9 ⟨rfl, hw⟩; obtain rfl := hw.symm))
      refine bodyPost_ret (v := .tuple #[.agg #[.string ⟨#[]⟩, .string ⟨#[]⟩, .string ⟨#[]⟩], .int .i64 11]) (by simp [results, Tryd.results17, go_sem]) rfl ⟨ret_sub ?_ ?_ ?_ ?_, below_sub1⟩
      all_goals first | (simp [subT, subI, subR, subE, h1, h2, h3, h4, x1]; done) | (simp [subT, subI, subR, subE, h1, h2, h3, h4, x1]; rfl)
    · go_enter Tryd.func17, Tryd.ntmps17
      go_wp2_with (first | (go_at_call 31; refine (rcut_any _ _ _ (by first | exact hs | exact hs2)).mono ?_; rintro e w9 ⟨rfl, n, rfl⟩) | (go_at_call 9; refine (rname_any _ _ (by first | exact hW | exact hW.alloc | exact hW.alloc.drewN)).mono ?_; rintro e w9 ⟨rfl, hw⟩; obtain rfl := hw.symm) | (go_at_call 11; refine (rid_any _ _).mono ?_; rintro e w9 ⟨rfl, hw⟩; obtain rfl := hw.symm))
      refine bodyPost_ret (v := .tuple #[.agg #[.string (ba (cutA 58 s.toList)), .string (ba (cutB 58 s.toList)), .string (ba [])], .int .i64 0]) (by simp [results, Tryd.results17, go_sem]) rfl ⟨ret_sub ?_ ?_ ?_ ?_, below_sub1⟩
      all_goals first | (simp [subT, subI, subR, subE, h1, h2, h3, h4, h5, x1, x2]; done) | (simp [subT, subI, subR, subE, h1, h2, h3, h4, h5, x1, x2]; rfl)
  · obtain ⟨y3, y4⟩ := rcut_yes h5
    cases h4 : idL (cutA 35 (cutB 58 s.toList))
    · go_enter Tryd.func17, Tryd.ntmps17
      go_wp2_with (first | (go_at_call 31; refine (rcut_any _ _ _ (by first | exact hs | exact hs2)).mono ?_; rintro e w9 ⟨rfl, n, rfl⟩) | (go_at_call 9; refine (rname_any _ _ (by first | exact hW | exact hW.alloc | exact hW.alloc.drewN)).mono ?_; rintro e w9 ⟨rfl, hw⟩; obtain rfl := hw.symm) | (go_at_call 11; refine (rid_any _ _).mono ?_; rintro e w9 ⟨rfl, hw⟩; obtain rfl := hw.symm))
      refine bodyPost_ret (v := .tuple #[.agg #[.string ⟨#[]⟩, .string ⟨#[]⟩, .string ⟨#[]⟩], .int .i64 11]) (by simp [results, Tryd.results17, go_sem]) rfl ⟨ret_sub ?_ ?_ ?_ ?_, below_sub1⟩
      all_goals first | (simp [subT, subI, subR, subE, h1, h2, h3, h4]; done) | (simp [subT, subI, subR, subE, h1, h2, h3, h4]; rfl)
    cases h6 : nameL (cutB 35 (cutB 58 s.toList))
    · go_enter Tryd.func17, Tryd.ntmps17
      go_wp2_with (first | (go_at_call 31; refine (rcut_any _ _ _ (by first | exact hs | exact hs2)).mono ?_; rintro e w9 ⟨rfl, n, rfl⟩) | (go_at_call 9; refine (rname_any _ _ (by first | exact hW | exact hW.alloc | exact hW.alloc.drewN)).mono ?_; rintro e w9 ⟨rfl, hw⟩; obtain rfl := hw.symm) | (go_at_call 11; refine (rid_any _ _).mono ?_; rintro e w9 ⟨rfl, hw⟩; obtain rfl := hw.symm))
      refine bodyPost_ret (v := .tuple #[.agg #[.string ⟨#[]⟩, .string ⟨#[]⟩, .string ⟨#[]⟩], .int .i64 10]) (by simp [results, Tryd.results17, go_sem]) rfl ⟨ret_sub ?_ ?_ ?_ ?_, below_sub1⟩
      all_goals first | (simp [subT, subI, subR, subE, h1, h2, h3, h4, h5, h6]; done) | (simp [subT, subI, subR, subE, h1, h2, h3, h4, h5, h6]; rfl)
    · go_enter Tryd.func17, Tryd.ntmps17
      go_wp2_with (first | (go_at_call 31; refine (rcut_any _ _ _ (by first | exact hs | exact hs2)).mono ?_; rintro e w9 ⟨rfl, n, rfl⟩) | (go_at_call 9; refine (rname_any _ _ (by first | exact hW | exact hW.alloc | exact hW.alloc.drewN)).mono ?_; rintro e w9 ⟨rfl, hw⟩; obtain rfl := hw.symm) | (go_at_call 11; refine (rid_any _ _).mono ?_; rintro e w9 ⟨rfl, hw⟩; obtain rfl := hw.symm))
      refine bodyPost_ret (v := .tuple #[.agg #[.string (ba (cutA 58 s.toList)), .string (ba (cutA 35 (cutB 58 s.toList))), .string (ba (cutB 35 (cutB 58 s.toList)))], .int .i64 0]) (by simp [results, Tryd.results17, go_sem]) rfl ⟨ret_sub ?_ ?_ ?_ ?_, below_sub1⟩
      all_goals first | (simp [subT, subI, subR, subE, h1, h2, h3, h4, h5, h6]; done) | (simp [subT, subI, subR, subE, h1, h2, h3, h4, h5, h6]; rfl)
end Go.Proofs.YtkkbnbcjkjbepaaDoor
