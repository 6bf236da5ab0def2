/- Conditions: CondsReckons, its walk: CgG. -/
import Derived.Test.YtplbclokoffgkaaGreatDoorCgD
import Derived.Test.YtplbclokoffgkaaGreatDoorCgF
import Derived.Deep.Cut
namespace Go.Proofs.YtplbclokoffgkaaGreatDoor
open Go.RowKit Go.PlainAid Go.Shelf

set_option maxRecDepth 1000000 in
set_option maxHeartbeats 6400000 in
theorem reckons_walk (x y : Int) (hx : In64 x) (hy : In64 y) (w : World) (hT : Tb w) : Calls Tryz.prog 4 #[.int .i64 x, .int .i64 y] w fun e w' => e = .returned (.bool true) ∧ Keep [] w w' := by
  have HT : Hid (In64 x ∧ In64 y) := ⟨hx, hy⟩
  have hsf := store_f32
  simp only [Go.stored] at hsf
  have K2 : Keep [] w ((w.alloc (.cells #[.int .i64 2, .string ⟨#[120]⟩, .int .i64 0, .bool false, .int .i64 0, .float .f32 0, .string ⟨#[]⟩, .slice none 0 0] 36)).alloc (.cells #[.int .i64 2, .string ⟨#[121]⟩, .int .i64 0, .bool false, .int .i64 0, .float .f32 0, .string ⟨#[]⟩, .slice none 0 0] 36)) := (Keep.alloc1 _ _).alloc _
  have HR : Hid (Rk w w.heap.size (w.heap.size + 1) ((w.alloc (.cells #[.int .i64 2, .string ⟨#[120]⟩, .int .i64 0, .bool false, .int .i64 0, .float .f32 0, .string ⟨#[]⟩, .slice none 0 0] 36)).alloc (.cells #[.int .i64 2, .string ⟨#[121]⟩, .int .i64 0, .bool false, .int .i64 0, .float .f32 0, .string ⟨#[]⟩, .slice none 0 0] 36)) ∧ Tb ((w.alloc (.cells #[.int .i64 2, .string ⟨#[120]⟩, .int .i64 0, .bool false, .int .i64 0, .float .f32 0, .string ⟨#[]⟩, .slice none 0 0] 36)).alloc (.cells #[.int .i64 2, .string ⟨#[121]⟩, .int .i64 0, .bool false, .int .i64 0, .float .f32 0, .string ⟨#[]⟩, .slice none 0 0] 36))) := ⟨⟨K2, (Below.heap_alloc _ _ _ (by simp)).trans (heap_alloc_new' _ _), by
    have := heap_alloc_new' (w.alloc (.cells #[.int .i64 2, .string ⟨#[120]⟩, .int .i64 0, .bool false, .int .i64 0, .float .f32 0, .string ⟨#[]⟩, .slice none 0 0] 36)) (.cells #[.int .i64 2, .string ⟨#[121]⟩, .int .i64 0, .bool false, .int .i64 0, .float .f32 0, .string ⟨#[]⟩, .slice none 0 0] 36)
    rwa [World.size_alloc] at this⟩, hT.keep K2 (fun _ _ => by simp)⟩
  clear hT hx hy K2
  go_enter Tryz.func4, Tryz.ntmps4
  go_wp2_with fail
  refine (ask_plus x y HT.out.1 HT.out.2 _ _ HR.out.2 (by first | rfl | simp)).mono ?_
  rintro e9 w9 ⟨vl, ⟨a9, n9, c9, rfl⟩, rfl, hk9⟩
  have KN : Keep [] ((w.alloc (.cells #[.int .i64 2, .string ⟨#[120]⟩, .int .i64 0, .bool false, .int .i64 0, .float .f32 0, .string ⟨#[]⟩, .slice none 0 0] 36)).alloc (.cells #[.int .i64 2, .string ⟨#[121]⟩, .int .i64 0, .bool false, .int .i64 0, .float .f32 0, .string ⟨#[]⟩, .slice none 0 0] 36)) (w9.alloc (.cells #[.bool (decide (In64 (x + y))), .bool (decide (In64 (x + y))), .slice a9 n9 c9] 40)) := hk9.trans' (Keep.alloc1 _ _)
  have BN : Hid (Bo (w9.alloc (.cells #[.bool (decide (In64 (x + y))), .bool (decide (In64 (x + y))), .slice a9 n9 c9] 40)) w9.heap.size (decide (In64 (x + y))) (decide (In64 (x + y)))) := Bo.new _ _ _ _ _ _
  replace HR : Hid (Rk w w.heap.size (w.heap.size + 1) (w9.alloc (.cells #[.bool (decide (In64 (x + y))), .bool (decide (In64 (x + y))), .slice a9 n9 c9] 40)) ∧ Tb (w9.alloc (.cells #[.bool (decide (In64 (x + y))), .bool (decide (In64 (x + y))), .slice a9 n9 c9] 40))) := ⟨HR.out.1.keep KN, HR.out.2.keep KN (fun _ _ => by simp)⟩
  clear hk9 KN
  go_upto_region 4 with (fail)
  generalize w9.alloc (.cells #[.bool (decide (In64 (x + y))), .bool (decide (In64 (x + y))), .slice a9 n9 c9] 40) = Wplus at HR BN ⊢
  generalize w9.heap.size = pplus at BN ⊢
  refine room_plus_reg x y HT.out.1 HT.out.2 _ _ _ _ _ _ _ _ _ _ _ _ _ _ _ _ _ _ _ _ _ _ _ _ _ _ _ _ _ _ _ _ _ _ _ _ _ _ _ _ _ _ _ _ _ _ _ _ _ _ _ _ _ _ _ _ _ _ _ _ _ _ _ _ _ _ _ _ _ _ _ _ _ _ _ _ _ _ _ _ _ _ _ _ _ _ _ _ _ _ _ _ _ _ _ _ _ _ _ _ _ _ _ _ _ _ _ _ _ _ _ _ _ _ _ _ _ _ _ _ _ _ _ _ _ _ _ _ _ _ _ _ _ _ _ _ _ _ _ _ _ _ _ _ _ _ _ _ _ _ _ _ _ _ _ _ _ _ _ _ _ _ _ _ _ _ _ _ _ _ _ _ _ _ _ _ _ _ _ _ _ _ _ _ _ _ _ _ _ _ _ _ _ _ _ _ _ _ _ _ _ _ _ _ _ _ _ _ _ _ _ _ _ _ _ _ _ _ _ _ _ _ _ _ _ _ _ _ _ _ _ _ _ _ _ _ _ _ _ _ _ _ _ _ _ _ _ _ _ _ _ _ _ _ _ _ _ _ _ _ _ _ _ _ _ _ _ _ _ _ _ _ _ _ _ _ _ _ _ _ _ _ _ ?_
  intro v19 v20 v21 v22 v23 v24 v25 v26 v27 v28 v29 v30 v31 v32 v33 v34 v35 v36 v37 v38 v39 v40 v41 v42 v43 v44 v45 v46 v47 v48 v49 v50 v51 v52 v53 v54 v55 v56 v57 v58 v59 v60 v61 v62 v63 v64 v65 v66 v67 v68 v69 v70 v71 v72 v73 v74 v75 v76 v77 v78 v79 v80 v81 v82 v83 v84 v85 v86 v87 v88 v89 v90 v91 v92 v93 v94 v95 v96 v97 v98 v99 v100 v101 v102 v103 v104 v105 v106 v107 v108 v109 v110 v111 v112 v113 v114 v115 v116 v117 v118 v119 v120 v121 v122 v123 v124 v125 v126 v127 v128 v129 v130 v131 v132 v133 v134 v135 v136 v137 v138 v139 v140 v141 v142 v143 v144 v145 v146 v147 v148 v149 v150 v151 v152 v153 v154 v155 v156 v157 v158 v159 v160 v161 v162 v163 v164 v165 v166 v167 v168 v169 v170 v171 v172 v173 v174 v175 v176 v177 v178 v179 v180 v181 v182 v183 v184 v185 v186 v187 v188 v189 v190 v191 v192 v193 v194 v195 v196 v197 v198 v199 v200 v201 v202 v203 v204 v205 v206 v207 v208 v209 v210 v211 v212 v213 v214 v215 v216 v217 v218 v219 v220 v221 v222 v223 v224 v225 v226 v227 v228 v229 v230 v231 v232 v233 v234 v235 v236 v237 v238 v239 v240 v241 v242 v243 v244 v245 v246 v247 v248 v249 v250 v251 v252 v253 v254 v255 v256 v257 v258 v259 v260 v261 v262 v263 v264 v265 v266 v267 v268 v269 v270 v271 v272 v273 v274 v275 v276 v277 v278 v279 v280 v281
  obtain ⟨k0, k1⟩ := BN.out.cell
  generalize hd9 : decide (In64 (x + y)) = rplus at *
  clear hd9 BN
  obtain ⟨q0, q1, q2, q3, q4, q5, q6, q7⟩ := eight_cell HR.out.1.b1
  obtain ⟨z0, z1, z2, z3, z4, z5, z6, z7⟩ := eight_cell HR.out.1.b2
  go_wp2_with fail
  clear k0 k1
  clear q0 q1 q2 q3 q4 q5 q6 q7 z0 z1 z2 z3 z4 z5 z6 z7
  refine (ask_less x y HT.out.1 HT.out.2 _ _ HR.out.2 (by first | rfl | simp)).mono ?_
  rintro e9 w9 ⟨vl, ⟨a9, n9, c9, rfl⟩, rfl, hk9⟩
  have KN : Keep [] Wplus (w9.alloc (.cells #[.bool (decide (In64 (x - y))), .bool (decide (In64 (x - y))), .slice a9 n9 c9] 40)) := hk9.trans' (Keep.alloc1 _ _)
  have BN : Hid (Bo (w9.alloc (.cells #[.bool (decide (In64 (x - y))), .bool (decide (In64 (x - y))), .slice a9 n9 c9] 40)) w9.heap.size (decide (In64 (x - y))) (decide (In64 (x - y)))) := Bo.new _ _ _ _ _ _
  replace HR : Hid (Rk w w.heap.size (w.heap.size + 1) (w9.alloc (.cells #[.bool (decide (In64 (x - y))), .bool (decide (In64 (x - y))), .slice a9 n9 c9] 40)) ∧ Tb (w9.alloc (.cells #[.bool (decide (In64 (x - y))), .bool (decide (In64 (x - y))), .slice a9 n9 c9] 40))) := ⟨HR.out.1.keep KN, HR.out.2.keep KN (fun _ _ => by simp)⟩
  clear hk9 KN
  go_upto_region 8 with (fail)
  generalize w9.alloc (.cells #[.bool (decide (In64 (x - y))), .bool (decide (In64 (x - y))), .slice a9 n9 c9] 40) = Wless at HR BN ⊢
  generalize w9.heap.size = pless at BN ⊢
  refine room_less_reg x y HT.out.1 HT.out.2 _ _ _ _ _ _ _ _ _ _ _ _ _ _ _ _ _ _ _ _ _ _ _ _ _ _ _ _ _ _ _ _ _ _ _ _ _ _ _ _ _ _ _ _ _ _ _ _ _ _ _ _ _ _ _ _ _ _ _ _ _ _ _ _ _ _ _ _ _ _ _ _ _ _ _ _ _ _ _ _ _ _ _ _ _ _ _ _ _ _ _ _ _ _ _ _ _ _ _ _ _ _ _ _ _ _ _ _ _ _ _ _ _ _ _ _ _ _ _ _ _ _ _ _ _ _ _ _ _ _ _ _ _ _ _ _ _ _ _ _ _ _ _ _ _ _ _ _ _ _ _ _ _ _ _ _ _ _ _ _ _ _ _ _ _ _ _ _ _ _ _ _ _ _ _ _ _ _ _ _ _ _ _ _ _ _ _ _ _ _ _ _ _ _ _ _ _ _ _ _ _ _ _ _ _ _ _ _ _ _ _ _ _ _ _ _ _ _ _ _ _ _ _ _ _ _ _ _ _ _ _ _ _ _ _ _ _ _ _ _ _ _ _ _ _ _ _ _ _ _ _ _ _ _ _ _ _ _ _ _ _ _ _ _ _ _ _ _ _ _ _ _ _ _ _ _ _ _ _ _ _ _ _ ?_
  intro v19 v20 v21 v22 v23 v24 v25 v26 v27 v28 v29 v30 v31 v32 v33 v34 v35 v36 v37 v38 v39 v40 v41 v42 v43 v44 v45 v46 v47 v48 v49 v50 v51 v52 v53 v54 v55 v56 v57 v58 v59 v60 v61 v62 v63 v64 v65 v66 v67 v68 v69 v70 v71 v72 v73 v74 v75 v76 v77 v78 v79 v80 v81 v82 v83 v84 v85 v86 v87 v88 v89 v90 v91 v92 v93 v94 v95 v96 v97 v98 v99 v100 v101 v102 v103 v104 v105 v106 v107 v108 v109 v110 v111 v112 v113 v114 v115 v116 v117 v118 v119 v120 v121 v122 v123 v124 v125 v126 v127 v128 v129 v130 v131 v132 v133 v134 v135 v136 v137 v138 v139 v140 v141 v142 v143 v144 v145 v146 v147 v148 v149 v150 v151 v152 v153 v154 v155 v156 v157 v158 v159 v160 v161 v162 v163 v164 v165 v166 v167 v168 v169 v170 v171 v172 v173 v174 v175 v176 v177 v178 v179 v180 v181 v182 v183 v184 v185 v186 v187 v188 v189 v190 v191 v192 v193 v194 v195 v196 v197 v198 v199 v200 v201 v202 v203 v204 v205 v206 v207 v208 v209 v210 v211 v212 v213 v214 v215 v216 v217 v218 v219 v220 v221 v222 v223 v224 v225 v226 v227 v228 v229 v230 v231 v232 v233 v234 v235 v236 v237 v238 v239 v240 v241 v242 v243 v244 v245 v246 v247 v248 v249 v250 v251 v252 v253 v254 v255 v256 v257 v258 v259 v260 v261 v262 v263 v264 v265 v266 v267 v268 v269 v270 v271 v272 v273 v274 v275 v276 v277 v278 v279 v280 v281
  obtain ⟨k0, k1⟩ := BN.out.cell
  skip
  clear k0 k1
  rename_i K9 hK9
  refine hK9 _ _ ?_
  by_cases h0 : y = 0
  · refine less_none x y HT.out.1 HT.out.2 h0 w _ _ _ _ HR BN.out _ _ _ _ _ _ _ _ _ _ _ _ _ _ _ _ _ _ _ _ _ _ _ _ _ _ _ _ _ _ _ _ _ _ _ _ _ _ _ _ _ _ _ _ _ _ _ _ _ _ _ _ _ _ _ _ _ _ _ _ _ _ _ _ _ _ _ _ _ _ _ _ _ _ _ _ _ _ _ _ _ _ _ _ _ _ _ _ _ _ _ _ _ _ _ _ _ _ _ _ _ _ _ _ _ _ _ _ _ _ _ _ _ _ _ _ _ _ _ _ _ _ _ _ _ _ _ _ _ _ _ _ _ _ _ _ _ _ _ _ _ _ _ _ _ _ _ _ _ _ _ _ _ _ _ _ _ _ _ _ _ _ _ _ _ _ _ _ _ _ _ _ _ _ _ _ _ _ _ _ _ _ _ _ _ _ _ _ _ _ _ _ _ _ _ _ _ _ _ _ _ _ _ _ _ _ _ _ _ _ _ _ _ _ _ _ _ _ _ _ _ _ _ _ _ _ _ _ _ _ _ _ _ _ _ _ _ _ _ _ _ _ _ _ _ _ _ _ _ _ _ _ _ _ _ _ _ _ _ _ _ _ _ _ _ _ _ _ _ _ _ _ _ _ _ _ ?_
    intro a W1 h4 hd hk
    exact bodyPost_ret (results_tmp rfl _ _ _) hd ⟨by first | exact congrArg Ending.returned h4 | (rw [← h4]; rfl), hk⟩
  · refine less_some x y HT.out.1 HT.out.2 h0 w _ _ _ _ HR BN.out _ _ _ _ _ _ _ _ _ _ _ _ _ _ _ _ _ _ _ _ _ _ _ _ _ _ _ _ _ _ _ _ _ _ _ _ _ _ _ _ _ _ _ _ _ _ _ _ _ _ _ _ _ _ _ _ _ _ _ _ _ _ _ _ _ _ _ _ _ _ _ _ _ _ _ _ _ _ _ _ _ _ _ _ _ _ _ _ _ _ _ _ _ _ _ _ _ _ _ _ _ _ _ _ _ _ _ _ _ _ _ _ _ _ _ _ _ _ _ _ _ _ _ _ _ _ _ _ _ _ _ _ _ _ _ _ _ _ _ _ _ _ _ _ _ _ _ _ _ _ _ _ _ _ _ _ _ _ _ _ _ _ _ _ _ _ _ _ _ _ _ _ _ _ _ _ _ _ _ _ _ _ _ _ _ _ _ _ _ _ _ _ _ _ _ _ _ _ _ _ _ _ _ _ _ _ _ _ _ _ _ _ _ _ _ _ _ _ _ _ _ _ _ _ _ _ _ _ _ _ _ _ _ _ _ _ _ _ _ _ _ _ _ _ _ _ _ _ _ _ _ _ _ _ _ _ _ _ _ _ _ _ _ _ _ _ _ _ _ _ _ _ _ _ _ _ ?_
    intro a W1 h4 hd hk
    exact bodyPost_ret (results_tmp rfl _ _ _) hd ⟨by first | exact congrArg Ending.returned h4 | (rw [← h4]; rfl), hk⟩
end Go.Proofs.YtplbclokoffgkaaGreatDoor
