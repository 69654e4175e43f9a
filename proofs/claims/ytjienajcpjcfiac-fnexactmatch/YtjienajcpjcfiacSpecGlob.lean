/-
  spec.ValidGlob.
-/
import Derived.Test.YtjienajcpjcfiacSpecPath
namespace Go.Proofs.Ytjienajcpjcfiac
open Go.RowKit

set_option maxHeartbeats 400000 in
theorem specGlob_any (s : ByteArray) (w : World) :
    Calls Try.prog 40 #[.string s] w fun e w' => e = .returned (.bool (pathOk globB s)) ∧ Below w.heap.size w w' := by
  go_enter Try.func40, Try.ntmps40
  go_wp2_with (go_at_call 88; refine (l4Ok_any true s _).mono ?_; rintro e w1 ⟨rfl, hb⟩)
  go_ret
  exact ⟨rfl, hb⟩
end Go.Proofs.Ytjienajcpjcfiac
