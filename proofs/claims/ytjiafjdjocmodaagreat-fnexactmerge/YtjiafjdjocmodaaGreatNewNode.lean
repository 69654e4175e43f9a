/-
  impl.newNode.
-/
import Derived.Test.YtjiafjdjocmodaaGreatTreeMem
namespace Go.Proofs.YtjiafjdjocmodaaGreat
open Go.RowKit

set_option maxRecDepth 20000 in
set_option maxHeartbeats 1000000 in
theorem newNode_any (w : World) : Calls Tryz.prog 75 #[] w fun e w' => e = .returned (.pointer (some ⟨w.heap.size + 1, 0, none⟩)) ∧ w' = (w.alloc (.map #[] 0)).alloc (.cells #[.bool false, .string ⟨#[]⟩, .bool false, .map (some w.heap.size)] 128) := by
  have hmm := @run_makeMap Tryz.prog
  go_enter Tryz.func75, Tryz.ntmps75
  go_wp2
  go_ret
  exact ⟨rfl, rfl⟩
end Go.Proofs.YtjiafjdjocmodaaGreat
