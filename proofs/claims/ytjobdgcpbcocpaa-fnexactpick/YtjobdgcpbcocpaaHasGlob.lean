/-
  impl.ValidGlob.
-/
import Derived.Test.YtjobdgcpbcocpaaHasParts
namespace Go.Proofs.Ytjobdgcpbcocpaa
open Go.RowKit Go.Shelf

set_option maxHeartbeats 400000 in
theorem implGlob_any (s : ByteArray) (hs : s.size ≤ 1099511627776) (w : World) :
    Calls Try.prog 92 #[.string s] w fun e w' => HasPost globB s w e w' := by
  go_enter Try.func92, Try.ntmps92
  go_wp2_with (go_at_call 77; refine (hasParts_any _ _ globFn s hs _).mono ?_; rintro e w1 ⟨rfl, hb⟩)
  go_ret
  exact ⟨rfl, hb⟩
end Go.Proofs.Ytjobdgcpbcocpaa
