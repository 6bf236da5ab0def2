/- Print, of no tokens. -/
import Derived.Test.YtmglbcldjhdhkabTkPs
namespace Go.Proofs.Ytmglbcldjhdhkab
open Go.RowKit Go.PlainAid

set_option maxRecDepth 1000000 in
set_option maxHeartbeats 4000000 in
theorem print_nil (ao : Option Addr) (cap : Nat) (w : World) :
    Calls Try.prog 11 #[.slice ao 0 cap] w fun e w' => e = .returned (.tuple #[.string (ba (printL []).1), .int .i64 (printL []).2]) ∧ Keep [] w w' := by
  go_enter Try.func11, Try.ntmps11
  go_wp2
  go_loopw [40] (fun z wr => z = .int .i64 0 ∧ Hid (Keep [] w wr)) (fun _ _ => 0)
  case atStart => exact ⟨rfl, Keep.refl _ _⟩
  case round =>
    obtain ⟨rfl, hI⟩ := hrel
    have hS : Hid (Pw w (wr.alloc (.cells #[.pointer none, .slice none 0 0] 57 (0, 0))) wr.heap.size [] 0) := Pw.start [] hI.out
    clear hI
    go_wp2
    generalize wr.alloc (.cells #[.pointer none, .slice none 0 0] 57 (0, 0)) = wS at hS ⊢
    generalize wr.heap.size = b at hS ⊢
    go_loopw [50] (fun z wr => z = .int .i64 0 ∧ Hid (Pw w wr b [] 0)) (fun _ _ => 0)
    case atStart => exact ⟨rfl, hS⟩
    case round =>
      clear hS
      obtain ⟨rfl, hI⟩ := hrel
      obtain ⟨p, v, hbd⟩ := hI.out.ex
      have hbd' : Hid (Bd (b + 1) wr b [] p v) := hbd
      have hwb := hI.out.hb
      have hkp : Hid (Keep [] w wr) := hI.out.keep
      clear hbd hI
      go_wp2_with (first | (go_at_call 23; refine (len_any (b + 1) b [] p v wr hbd'.out).mono ?_; rintro e w7 ⟨rfl, rfl⟩) | (go_at_call 26; refine (hbd'.out.string (Nat.lt_succ_self b)).mono ?_; rintro e w8 ⟨rfl, k8⟩))
      have hk8 : Hid (Keep [] w w8) := ⟨k8.os.trans hkp.out.os, k8.tape.trans hkp.out.tape, k8.output.trans hkp.out.output, Nat.le_trans hkp.out.size k8.size, fun x hx hn => (k8.block x (by omega)).trans (hkp.out.block x hx hn)⟩
      clear k8
      refine bodyPost_ret (v := .tuple #[.string (ba []), .int .i64 0]) (by simp [results, Try.results11, go_sem]) rfl ⟨rfl, hk8.out⟩
end Go.Proofs.Ytmglbcldjhdhkab

