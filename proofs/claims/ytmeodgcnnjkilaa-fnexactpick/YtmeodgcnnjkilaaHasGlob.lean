/-
  impl.ValidGlob.
-/
import Derived.Test.YtmeodgcnnjkilaaHasParts
namespace Go.Proofs.Ytmeodgcnnjkilaa
open Go.RowKit Go.Shelf

set_option maxHeartbeats 400000 in
theorem implGlob_any (s : ByteArray) (hs : s.size ≤ 1099511627776) (w : World) :
    Calls Try.prog 75 #[.string s] w fun e w' => HasPost globB s w e w' := by
  go_enter Try.func75, Try.ntmps75
  go_wp2_with (go_at_call 53; refine (hasParts_any _ _ globFn s hs _).mono ?_; rintro e w1 ⟨rfl, hb⟩)
  go_ret
  exact ⟨rfl, hb⟩
end Go.Proofs.Ytmeodgcnnjkilaa
