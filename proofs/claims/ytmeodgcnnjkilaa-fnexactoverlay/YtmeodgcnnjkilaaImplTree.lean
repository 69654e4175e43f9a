/-
  impl.ValidTree.
-/
import Derived.Test.YtmeodgcnnjkilaaGrow
namespace Go.Proofs.Ytmeodgcnnjkilaa
open Go.RowKit

set_option maxHeartbeats 1000000 in
theorem implTree_any (a : Option Addr) (cap : Nat) (ts : List En) (w : World) (hts : ES w a ts) (hn : ts.length ≤ 1048576) (hz : ∀ e ∈ ts, e.path.size ≤ 1048576) :
    Calls Try.prog 43 #[.agg #[.slice a ts.length cap]] w fun e w' => ∃ bl : Bool, e = .returned (.bool bl) ∧ (bl = true ↔ ValidTs ts) ∧ Below w.heap.size w w' := by
  have hal : Below w.heap.size w (w.alloc (.cells #[.slice a ts.length cap] 31)) := (Below.refl _ _).alloc (Nat.le_refl _) _
  go_enter Try.func43, Try.ntmps43
  go_wp2_with fail
  refine (grow_any a cap ts _ (hts.below hal) hn hz).mono ?_
  rintro e w1 ⟨hb, ⟨hv, root, rfl, _⟩ | ⟨hv, rfl⟩⟩
  · go_wp2
    go_ret
    exact ⟨true, rfl, ⟨fun _ => hv, fun _ => rfl⟩, hal.trans (hb.mono hal.size)⟩
  · go_wp2
    go_ret
    exact ⟨false, rfl, ⟨fun h => (by cases h), fun h => absurd h hv⟩, hal.trans (hb.mono hal.size)⟩
end Go.Proofs.Ytmeodgcnnjkilaa
