/- RealsTexts: the law's walk. -/
import Derived.Test.YtnljpbpphdhnpaaGreatDoorNgX
import Derived.Test.YtnljpbpphdhnpaaGreatDoorLaidT
namespace Go.Proofs.YtnljpbpphdhnpaaGreatDoor
open Go.RowKit Go.PlainAid

set_option maxRecDepth 1000000 in
theorem texts_law (x : Nat) (hx : x < 4294967296) (w : World) (hV : TabV w) (hX : Tabx w) : Calls Tryz.prog 3 #[.float .f32 x] w fun e w' => e = .returned (.bool true) ∧ Below w.heap.size w w' := by
  have hA := text_any x hx w hV
  have hB := fun w => rText_any x hx w
  have HX : Hid (Tabx w) := hX
  clear hV hX
  go_enter Tryz.func3, Tryz.ntmps3
  go_wp2_with (first
    | (go_at_call 6; refine hA.mono ?_; rintro e9 w1 ⟨⟨T, rfl, hT⟩, hb1⟩; have HT : Hid (T.data.toList = textR x) := hT; clear hT; have HB1 : Hid (Below w.heap.size w w1) := hb1; clear hb1)
    | (go_at_call 7; refine (hB _).mono ?_; rintro e9 w2 ⟨⟨U, rfl, hU⟩, hb2⟩; obtain rfl : T = U := ByteArray.ext (Array.ext' (HT.out.trans hU.symm)); have HB2 : Hid (Below w.heap.size w w2) := HB1.out.trans (hb2.mono HB1.out.size); clear hb2 hU)
    | (go_at_call 8; refine (awake_any _ (HX.out.below HB2.out)).mono ?_; rintro e9 w3 ⟨rfl, hb3⟩; have HB3 : Hid (Below w.heap.size w w3) := HB2.out.trans (hb3.mono HB2.out.size); clear hb3))
  go_ret
  exact ⟨rfl, HB3.out⟩
end Go.Proofs.YtnljpbpphdhnpaaGreatDoor
