/- Conditions: CondsReckons, its walk: CfZ. -/
import Derived.Test.YtplbclokoffgkaaGreatDoorCfY
import Derived.Deep.Cut
namespace Go.Proofs.YtplbclokoffgkaaGreatDoor
open Go.RowKit Go.PlainAid Go.Shelf

def rights : Nat → Code → Code
  | 0, c => c
  | k + 1, .seq _ c => rights k c
  | _, c => c
def seqL : Code → Code
  | .seq a _ => a
  | c => c
noncomputable def body4 : Code := match Tryz.f4.body with | some c => c | none => .skip
set_option maxRecDepth 1000000 in
set_option maxHeartbeats 6400000 in
theorem tail7 (x y : Int) (hx : In64 x) (hy : In64 y) (w : World) (P1 P2 : Nat) (W : World) (HR : Hid (Rk w P1 P2 W ∧ Tb W)) (u2 u3 u7 u8 u9 u10 u11 u12 u13 u14 u15 u16 u17 u18 u19 u20 u21 u22 u23 u24 u25 u26 u27 u28 u29 u30 u31 u32 u33 u34 u35 u36 u37 u38 u39 u40 u41 u42 u43 u44 u45 u46 u47 u48 u49 u50 u51 u52 u53 u54 u55 u56 u57 u58 u59 u60 u61 u62 u63 u64 u65 u66 u67 u68 u69 u70 u71 u72 u73 u74 u75 u76 u77 u78 u79 u80 u81 u82 u83 u84 u85 u86 u87 u88 u89 u90 u91 u92 u93 u94 u95 u96 u97 u98 u99 u100 u101 u102 u103 u104 u105 u106 u107 u108 u109 u110 u111 u112 u113 u114 u115 u116 u117 u118 u119 u120 u121 u122 u123 u124 u125 u126 u127 u128 u129 u130 u131 u132 u133 u134 u135 u136 u137 u138 u139 u140 u141 u142 u143 u144 u145 u146 u147 u148 u149 u150 u151 u152 u153 u154 u155 u156 u157 u158 u159 u160 u161 u162 u163 u164 u165 u166 u167 u168 u169 u170 u171 u172 u173 u174 u175 u176 u177 u178 u179 u180 u181 u182 u183 u184 u185 u186 u187 u188 u189 u190 u191 u192 u193 u194 u195 u196 u197 u198 u199 u200 u201 u202 u203 u204 u205 u206 u207 u208 u209 u210 u211 u212 u213 u214 u215 u216 u217 u218 u219 u220 u221 u222 u223 u224 u225 u226 u227 u228 u229 u230 u231 u232 u233 u234 u235 u236 u237 u238 u239 u240 u241 u242 u243 u244 u245 u246 u247 u248 u249 u250 u251 u252 u253 u254 u255 u256 u257 u258 u259 u260 u261 u262 u263 u264 u265 u266 u267 u268 u269 u270 u271 u272 u273 u274 u275 u276 u277 u278 u279 u280 u281 : Value) (Q : Exit → Act → World → Prop)
    (hQ : ∀ (a : Act) (W1 : World), a.tmps.getD 4 undef = .bool true → a.defers = [] → Keep [] w W1 → Q .ret a W1) (K : Act → World → Prop) (hK : ∀ a w, (rights 11 body4).wp Tryz.prog Q a w → K a w) : (seqL (rights 10 body4)).wp Tryz.prog (Exit.then K Q) { tmps := #[.int .i64 x, .int .i64 y, u2, u3, .bool false, .pointer (some ⟨P1, 0, none⟩), .pointer (some ⟨P2, 0, none⟩), u7, u8, u9, u10, u11, u12, u13, u14, u15, u16, u17, u18, u19, u20, u21, u22, u23, u24, u25, u26, u27, u28, u29, u30, u31, u32, u33, u34, u35, u36, u37, u38, u39, u40, u41, u42, u43, u44, u45, u46, u47, u48, u49, u50, u51, u52, u53, u54, u55, u56, u57, u58, u59, u60, u61, u62, u63, u64, u65, u66, u67, u68, u69, u70, u71, u72, u73, u74, u75, u76, u77, u78, u79, u80, u81, u82, u83, u84, u85, u86, u87, u88, u89, u90, u91, u92, u93, u94, u95, u96, u97, u98, u99, u100, u101, u102, u103, u104, u105, u106, u107, u108, u109, u110, u111, u112, u113, u114, u115, u116, u117, u118, u119, u120, u121, u122, u123, u124, u125, u126, u127, u128, u129, u130, u131, u132, u133, u134, u135, u136, u137, u138, u139, u140, u141, u142, u143, u144, u145, u146, u147, u148, u149, u150, u151, u152, u153, u154, u155, u156, u157, u158, u159, u160, u161, u162, u163, u164, u165, u166, u167, u168, u169, u170, u171, u172, u173, u174, u175, u176, u177, u178, u179, u180, u181, u182, u183, u184, u185, u186, u187, u188, u189, u190, u191, u192, u193, u194, u195, u196, u197, u198, u199, u200, u201, u202, u203, u204, u205, u206, u207, u208, u209, u210, u211, u212, u213, u214, u215, u216, u217, u218, u219, u220, u221, u222, u223, u224, u225, u226, u227, u228, u229, u230, u231, u232, u233, u234, u235, u236, u237, u238, u239, u240, u241, u242, u243, u244, u245, u246, u247, u248, u249, u250, u251, u252, u253, u254, u255, u256, u257, u258, u259, u260, u261, u262, u263, u264, u265, u266, u267, u268, u269, u270, u271, u272, u273, u274, u275, u276, u277, u278, u279, u280, u281], defers := [] } W := by
  have HT : Hid (In64 x ∧ In64 y) := ⟨hx, hy⟩
  have hsf := store_f32
  simp only [Go.stored] at hsf
  clear hx hy
  obtain ⟨q0, q1, q2, q3, q4, q5, q6, q7⟩ := eight_cell HR.out.1.b1
  obtain ⟨z0, z1, z2, z3, z4, z5, z6, z7⟩ := eight_cell HR.out.1.b2
  simp only [rights, seqL, body4, Tryz.f4] at hK ⊢
  go_wp2_with fail
  clear q0 q1 q2 q3 q4 q5 q6 q7 z0 z1 z2 z3 z4 z5 z6 z7
  refine (ask_neg x y HT.out.1 HT.out.2 _ _ HR.out.2 (by first | rfl | simp)).mono ?_
  rintro e9 w9 ⟨vl, ⟨a9, n9, c9, rfl⟩, rfl, hk9⟩
  have KN : Keep [] W (w9.alloc (.cells #[.bool (x != -9223372036854775808), .bool (x != -9223372036854775808), .slice a9 n9 c9] 40)) := hk9.trans' (Keep.alloc1 _ _)
  have BN : Hid (Bo (w9.alloc (.cells #[.bool (x != -9223372036854775808), .bool (x != -9223372036854775808), .slice a9 n9 c9] 40)) w9.heap.size (x != -9223372036854775808) (x != -9223372036854775808)) := Bo.new _ _ _ _ _ _
  replace HR : Hid (Rk w P1 P2 (w9.alloc (.cells #[.bool (x != -9223372036854775808), .bool (x != -9223372036854775808), .slice a9 n9 c9] 40)) ∧ Tb (w9.alloc (.cells #[.bool (x != -9223372036854775808), .bool (x != -9223372036854775808), .slice a9 n9 c9] 40))) := ⟨HR.out.1.keep KN, HR.out.2.keep KN (fun _ _ => by simp)⟩
  clear hk9 KN
  go_upto_region 21 with (fail)
  generalize w9.alloc (.cells #[.bool (x != -9223372036854775808), .bool (x != -9223372036854775808), .slice a9 n9 c9] 40) = W0 at HR BN ⊢
  generalize w9.heap.size = p0 at BN ⊢
  have HB := BN
  clear BN
  obtain ⟨q0, q1, q2, q3, q4, q5, q6, q7⟩ := eight_cell HR.out.1.b1
  obtain ⟨z0, z1, z2, z3, z4, z5, z6, z7⟩ := eight_cell HR.out.1.b2
  go_wp2_with fail
  clear q0 q1 q2 q3 q4 q5 q6 q7 z0 z1 z2 z3 z4 z5 z6 z7
  refine (ask_eq x y HT.out.1 HT.out.2 _ _ HR.out.2 (by first | rfl | simp)).mono ?_
  rintro e9 w9 ⟨vl, ⟨a9, n9, c9, rfl⟩, rfl, hk9⟩
  have KN : Keep [] W0 (w9.alloc (.cells #[.bool (true), .bool (x == y), .slice a9 n9 c9] 40)) := hk9.trans' (Keep.alloc1 _ _)
  have BN : Hid (Bo (w9.alloc (.cells #[.bool (true), .bool (x == y), .slice a9 n9 c9] 40)) w9.heap.size (true) (x == y)) := Bo.new _ _ _ _ _ _
  replace HR : Hid (Rk w P1 P2 (w9.alloc (.cells #[.bool (true), .bool (x == y), .slice a9 n9 c9] 40)) ∧ Tb (w9.alloc (.cells #[.bool (true), .bool (x == y), .slice a9 n9 c9] 40))) := ⟨HR.out.1.keep KN, HR.out.2.keep KN (fun _ _ => by simp)⟩
  replace HB : Hid (Bo (w9.alloc (.cells #[.bool (true), .bool (x == y), .slice a9 n9 c9] 40)) p0 (x != -9223372036854775808) (x != -9223372036854775808)) := HB.out.keep KN
  clear hk9 KN
  go_upto_region 22 with (fail)
  generalize w9.alloc (.cells #[.bool (true), .bool (x == y), .slice a9 n9 c9] 40) = W1 at HR BN HB ⊢
  generalize w9.heap.size = p1 at BN ⊢
  replace HB : Hid (Bo W1 p0 (x != -9223372036854775808) (x != -9223372036854775808) ∧ Bo W1 p1 (true) (x == y)) := ⟨HB.out, BN.out⟩
  clear BN
  obtain ⟨q0, q1, q2, q3, q4, q5, q6, q7⟩ := eight_cell HR.out.1.b1
  obtain ⟨z0, z1, z2, z3, z4, z5, z6, z7⟩ := eight_cell HR.out.1.b2
  go_wp2_with fail
  clear q0 q1 q2 q3 q4 q5 q6 q7 z0 z1 z2 z3 z4 z5 z6 z7
  refine (ask_ne x y HT.out.1 HT.out.2 _ _ HR.out.2 (by first | rfl | simp)).mono ?_
  rintro e9 w9 ⟨vl, ⟨a9, n9, c9, rfl⟩, rfl, hk9⟩
  have KN : Keep [] W1 (w9.alloc (.cells #[.bool (true), .bool (x != y), .slice a9 n9 c9] 40)) := hk9.trans' (Keep.alloc1 _ _)
  have BN : Hid (Bo (w9.alloc (.cells #[.bool (true), .bool (x != y), .slice a9 n9 c9] 40)) w9.heap.size (true) (x != y)) := Bo.new _ _ _ _ _ _
  replace HR : Hid (Rk w P1 P2 (w9.alloc (.cells #[.bool (true), .bool (x != y), .slice a9 n9 c9] 40)) ∧ Tb (w9.alloc (.cells #[.bool (true), .bool (x != y), .slice a9 n9 c9] 40))) := ⟨HR.out.1.keep KN, HR.out.2.keep KN (fun _ _ => by simp)⟩
  replace HB : Hid (Bo (w9.alloc (.cells #[.bool (true), .bool (x != y), .slice a9 n9 c9] 40)) p0 (x != -9223372036854775808) (x != -9223372036854775808) ∧ Bo (w9.alloc (.cells #[.bool (true), .bool (x != y), .slice a9 n9 c9] 40)) p1 (true) (x == y)) := ⟨HB.out.1.keep KN, HB.out.2.keep KN⟩
  clear hk9 KN
  go_upto_region 23 with (fail)
  generalize w9.alloc (.cells #[.bool (true), .bool (x != y), .slice a9 n9 c9] 40) = W2 at HR BN HB ⊢
  generalize w9.heap.size = p2 at BN ⊢
  replace HB : Hid (Bo W2 p0 (x != -9223372036854775808) (x != -9223372036854775808) ∧ Bo W2 p1 (true) (x == y) ∧ Bo W2 p2 (true) (x != y)) := ⟨HB.out.1, HB.out.2, BN.out⟩
  clear BN
  obtain ⟨q0, q1, q2, q3, q4, q5, q6, q7⟩ := eight_cell HR.out.1.b1
  obtain ⟨z0, z1, z2, z3, z4, z5, z6, z7⟩ := eight_cell HR.out.1.b2
  go_wp2_with fail
  clear q0 q1 q2 q3 q4 q5 q6 q7 z0 z1 z2 z3 z4 z5 z6 z7
  refine (ask_c11 x y HT.out.1 HT.out.2 _ _ HR.out.2 (by first | rfl | simp)).mono ?_
  rintro e9 w9 ⟨vl, ⟨a9, n9, c9, rfl⟩, rfl, hk9⟩
  have KN : Keep [] W2 (w9.alloc (.cells #[.bool (true), .bool (decide (x < y)), .slice a9 n9 c9] 40)) := hk9.trans' (Keep.alloc1 _ _)
  have BN : Hid (Bo (w9.alloc (.cells #[.bool (true), .bool (decide (x < y)), .slice a9 n9 c9] 40)) w9.heap.size (true) (decide (x < y))) := Bo.new _ _ _ _ _ _
  replace HR : Hid (Rk w P1 P2 (w9.alloc (.cells #[.bool (true), .bool (decide (x < y)), .slice a9 n9 c9] 40)) ∧ Tb (w9.alloc (.cells #[.bool (true), .bool (decide (x < y)), .slice a9 n9 c9] 40))) := ⟨HR.out.1.keep KN, HR.out.2.keep KN (fun _ _ => by simp)⟩
  replace HB : Hid (Bo (w9.alloc (.cells #[.bool (true), .bool (decide (x < y)), .slice a9 n9 c9] 40)) p0 (x != -9223372036854775808) (x != -9223372036854775808) ∧ Bo (w9.alloc (.cells #[.bool (true), .bool (decide (x < y)), .slice a9 n9 c9] 40)) p1 (true) (x == y) ∧ Bo (w9.alloc (.cells #[.bool (true), .bool (decide (x < y)), .slice a9 n9 c9] 40)) p2 (true) (x != y)) := ⟨HB.out.1.keep KN, HB.out.2.1.keep KN, HB.out.2.2.keep KN⟩
  clear hk9 KN
  go_upto_region 24 with (fail)
  generalize w9.alloc (.cells #[.bool (true), .bool (decide (x < y)), .slice a9 n9 c9] 40) = W3 at HR BN HB ⊢
  generalize w9.heap.size = p3 at BN ⊢
  replace HB : Hid (Bo W3 p0 (x != -9223372036854775808) (x != -9223372036854775808) ∧ Bo W3 p1 (true) (x == y) ∧ Bo W3 p2 (true) (x != y) ∧ Bo W3 p3 (true) (decide (x < y))) := ⟨HB.out.1, HB.out.2.1, HB.out.2.2, BN.out⟩
  clear BN
  obtain ⟨q0, q1, q2, q3, q4, q5, q6, q7⟩ := eight_cell HR.out.1.b1
  obtain ⟨z0, z1, z2, z3, z4, z5, z6, z7⟩ := eight_cell HR.out.1.b2
  go_wp2_with fail
  clear q0 q1 q2 q3 q4 q5 q6 q7 z0 z1 z2 z3 z4 z5 z6 z7
  refine (ask_c12 x y HT.out.1 HT.out.2 _ _ HR.out.2 (by first | rfl | simp)).mono ?_
  rintro e9 w9 ⟨vl, ⟨a9, n9, c9, rfl⟩, rfl, hk9⟩
  have KN : Keep [] W3 (w9.alloc (.cells #[.bool (true), .bool (decide (x ≤ y)), .slice a9 n9 c9] 40)) := hk9.trans' (Keep.alloc1 _ _)
  have BN : Hid (Bo (w9.alloc (.cells #[.bool (true), .bool (decide (x ≤ y)), .slice a9 n9 c9] 40)) w9.heap.size (true) (decide (x ≤ y))) := Bo.new _ _ _ _ _ _
  replace HR : Hid (Rk w P1 P2 (w9.alloc (.cells #[.bool (true), .bool (decide (x ≤ y)), .slice a9 n9 c9] 40)) ∧ Tb (w9.alloc (.cells #[.bool (true), .bool (decide (x ≤ y)), .slice a9 n9 c9] 40))) := ⟨HR.out.1.keep KN, HR.out.2.keep KN (fun _ _ => by simp)⟩
  replace HB : Hid (Bo (w9.alloc (.cells #[.bool (true), .bool (decide (x ≤ y)), .slice a9 n9 c9] 40)) p0 (x != -9223372036854775808) (x != -9223372036854775808) ∧ Bo (w9.alloc (.cells #[.bool (true), .bool (decide (x ≤ y)), .slice a9 n9 c9] 40)) p1 (true) (x == y) ∧ Bo (w9.alloc (.cells #[.bool (true), .bool (decide (x ≤ y)), .slice a9 n9 c9] 40)) p2 (true) (x != y) ∧ Bo (w9.alloc (.cells #[.bool (true), .bool (decide (x ≤ y)), .slice a9 n9 c9] 40)) p3 (true) (decide (x < y))) := ⟨HB.out.1.keep KN, HB.out.2.1.keep KN, HB.out.2.2.1.keep KN, HB.out.2.2.2.keep KN⟩
  clear hk9 KN
  go_upto_region 25 with (fail)
  generalize w9.alloc (.cells #[.bool (true), .bool (decide (x ≤ y)), .slice a9 n9 c9] 40) = W4 at HR BN HB ⊢
  generalize w9.heap.size = p4 at BN ⊢
  replace HB : Hid (Bo W4 p0 (x != -9223372036854775808) (x != -9223372036854775808) ∧ Bo W4 p1 (true) (x == y) ∧ Bo W4 p2 (true) (x != y) ∧ Bo W4 p3 (true) (decide (x < y)) ∧ Bo W4 p4 (true) (decide (x ≤ y))) := ⟨HB.out.1, HB.out.2.1, HB.out.2.2.1, HB.out.2.2.2, BN.out⟩
  clear BN
  obtain ⟨q0, q1, q2, q3, q4, q5, q6, q7⟩ := eight_cell HR.out.1.b1
  obtain ⟨z0, z1, z2, z3, z4, z5, z6, z7⟩ := eight_cell HR.out.1.b2
  go_wp2_with fail
  clear q0 q1 q2 q3 q4 q5 q6 q7 z0 z1 z2 z3 z4 z5 z6 z7
  refine (ask_c13 x y HT.out.1 HT.out.2 _ _ HR.out.2 (by first | rfl | simp)).mono ?_
  rintro e9 w9 ⟨vl, ⟨a9, n9, c9, rfl⟩, rfl, hk9⟩
  have KN : Keep [] W4 (w9.alloc (.cells #[.bool (true), .bool (decide (y < x)), .slice a9 n9 c9] 40)) := hk9.trans' (Keep.alloc1 _ _)
  have BN : Hid (Bo (w9.alloc (.cells #[.bool (true), .bool (decide (y < x)), .slice a9 n9 c9] 40)) w9.heap.size (true) (decide (y < x))) := Bo.new _ _ _ _ _ _
  replace HR : Hid (Rk w P1 P2 (w9.alloc (.cells #[.bool (true), .bool (decide (y < x)), .slice a9 n9 c9] 40)) ∧ Tb (w9.alloc (.cells #[.bool (true), .bool (decide (y < x)), .slice a9 n9 c9] 40))) := ⟨HR.out.1.keep KN, HR.out.2.keep KN (fun _ _ => by simp)⟩
  replace HB : Hid (Bo (w9.alloc (.cells #[.bool (true), .bool (decide (y < x)), .slice a9 n9 c9] 40)) p0 (x != -9223372036854775808) (x != -9223372036854775808) ∧ Bo (w9.alloc (.cells #[.bool (true), .bool (decide (y < x)), .slice a9 n9 c9] 40)) p1 (true) (x == y) ∧ Bo (w9.alloc (.cells #[.bool (true), .bool (decide (y < x)), .slice a9 n9 c9] 40)) p2 (true) (x != y) ∧ Bo (w9.alloc (.cells #[.bool (true), .bool (decide (y < x)), .slice a9 n9 c9] 40)) p3 (true) (decide (x < y)) ∧ Bo (w9.alloc (.cells #[.bool (true), .bool (decide (y < x)), .slice a9 n9 c9] 40)) p4 (true) (decide (x ≤ y))) := ⟨HB.out.1.keep KN, HB.out.2.1.keep KN, HB.out.2.2.1.keep KN, HB.out.2.2.2.1.keep KN, HB.out.2.2.2.2.keep KN⟩
  clear hk9 KN
  go_upto_region 26 with (fail)
  generalize w9.alloc (.cells #[.bool (true), .bool (decide (y < x)), .slice a9 n9 c9] 40) = W5 at HR BN HB ⊢
  generalize w9.heap.size = p5 at BN ⊢
  replace HB : Hid (Bo W5 p0 (x != -9223372036854775808) (x != -9223372036854775808) ∧ Bo W5 p1 (true) (x == y) ∧ Bo W5 p2 (true) (x != y) ∧ Bo W5 p3 (true) (decide (x < y)) ∧ Bo W5 p4 (true) (decide (x ≤ y)) ∧ Bo W5 p5 (true) (decide (y < x))) := ⟨HB.out.1, HB.out.2.1, HB.out.2.2.1, HB.out.2.2.2.1, HB.out.2.2.2.2, BN.out⟩
  clear BN
  obtain ⟨q0, q1, q2, q3, q4, q5, q6, q7⟩ := eight_cell HR.out.1.b1
  obtain ⟨z0, z1, z2, z3, z4, z5, z6, z7⟩ := eight_cell HR.out.1.b2
  go_wp2_with fail
  clear q0 q1 q2 q3 q4 q5 q6 q7 z0 z1 z2 z3 z4 z5 z6 z7
  refine (ask_c14 x y HT.out.1 HT.out.2 _ _ HR.out.2 (by first | rfl | simp)).mono ?_
  rintro e9 w9 ⟨vl, ⟨a9, n9, c9, rfl⟩, rfl, hk9⟩
  have KN : Keep [] W5 (w9.alloc (.cells #[.bool (true), .bool (decide (y ≤ x)), .slice a9 n9 c9] 40)) := hk9.trans' (Keep.alloc1 _ _)
  have BN : Hid (Bo (w9.alloc (.cells #[.bool (true), .bool (decide (y ≤ x)), .slice a9 n9 c9] 40)) w9.heap.size (true) (decide (y ≤ x))) := Bo.new _ _ _ _ _ _
  replace HR : Hid (Rk w P1 P2 (w9.alloc (.cells #[.bool (true), .bool (decide (y ≤ x)), .slice a9 n9 c9] 40)) ∧ Tb (w9.alloc (.cells #[.bool (true), .bool (decide (y ≤ x)), .slice a9 n9 c9] 40))) := ⟨HR.out.1.keep KN, HR.out.2.keep KN (fun _ _ => by simp)⟩
  replace HB : Hid (Bo (w9.alloc (.cells #[.bool (true), .bool (decide (y ≤ x)), .slice a9 n9 c9] 40)) p0 (x != -9223372036854775808) (x != -9223372036854775808) ∧ Bo (w9.alloc (.cells #[.bool (true), .bool (decide (y ≤ x)), .slice a9 n9 c9] 40)) p1 (true) (x == y) ∧ Bo (w9.alloc (.cells #[.bool (true), .bool (decide (y ≤ x)), .slice a9 n9 c9] 40)) p2 (true) (x != y) ∧ Bo (w9.alloc (.cells #[.bool (true), .bool (decide (y ≤ x)), .slice a9 n9 c9] 40)) p3 (true) (decide (x < y)) ∧ Bo (w9.alloc (.cells #[.bool (true), .bool (decide (y ≤ x)), .slice a9 n9 c9] 40)) p4 (true) (decide (x ≤ y)) ∧ Bo (w9.alloc (.cells #[.bool (true), .bool (decide (y ≤ x)), .slice a9 n9 c9] 40)) p5 (true) (decide (y < x))) := ⟨HB.out.1.keep KN, HB.out.2.1.keep KN, HB.out.2.2.1.keep KN, HB.out.2.2.2.1.keep KN, HB.out.2.2.2.2.1.keep KN, HB.out.2.2.2.2.2.keep KN⟩
  clear hk9 KN
  go_upto_region 27 with (fail)
  generalize w9.alloc (.cells #[.bool (true), .bool (decide (y ≤ x)), .slice a9 n9 c9] 40) = W6 at HR BN HB ⊢
  generalize w9.heap.size = p6 at BN ⊢
  replace HB : Hid (Bo W6 p0 (x != -9223372036854775808) (x != -9223372036854775808) ∧ Bo W6 p1 (true) (x == y) ∧ Bo W6 p2 (true) (x != y) ∧ Bo W6 p3 (true) (decide (x < y)) ∧ Bo W6 p4 (true) (decide (x ≤ y)) ∧ Bo W6 p5 (true) (decide (y < x)) ∧ Bo W6 p6 (true) (decide (y ≤ x))) := ⟨HB.out.1, HB.out.2.1, HB.out.2.2.1, HB.out.2.2.2.1, HB.out.2.2.2.2.1, HB.out.2.2.2.2.2, BN.out⟩
  clear BN
  obtain ⟨k0, m0⟩ := Bo.cell HB.out.1
  obtain ⟨k1, m1⟩ := Bo.cell HB.out.2.1
  obtain ⟨k2, m2⟩ := Bo.cell HB.out.2.2.1
  obtain ⟨k3, m3⟩ := Bo.cell HB.out.2.2.2.1
  obtain ⟨k4, m4⟩ := Bo.cell HB.out.2.2.2.2.1
  obtain ⟨k5, m5⟩ := Bo.cell HB.out.2.2.2.2.2.1
  obtain ⟨k6, m6⟩ := Bo.cell HB.out.2.2.2.2.2.2
  clear HB
  go_wp2_with fail
  all_goals first | exact hQ _ _ rfl rfl HR.out.1.kp | (exfalso; simp_all; done)
end Go.Proofs.YtplbclokoffgkaaGreatDoor
