/-
  spec.ValidGlob.
-/
import Derived.Test.YtmeodgcnnjkilaaSpecPath
namespace Go.Proofs.Ytmeodgcnnjkilaa
open Go.RowKit

set_option maxHeartbeats 400000 in
theorem specGlob_any (s : ByteArray) (w : World) :
    Calls Try.prog 55 #[.string s] w fun e w' => e = .returned (.bool (pathOk globB s)) ∧ Below w.heap.size w w' := by
  go_enter Try.func55, Try.ntmps55
  go_wp2_with (go_at_call 48; refine (l4Ok_any true s _).mono ?_; rintro e w1 ⟨rfl, hb⟩)
  go_ret
  exact ⟨rfl, hb⟩
end Go.Proofs.Ytmeodgcnnjkilaa
