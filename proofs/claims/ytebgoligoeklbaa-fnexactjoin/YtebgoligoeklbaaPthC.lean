/-
  impl's path of a change, called through the interface.
-/
import Derived.Test.YtebgoligoeklbaaChangesL
import Derived.Test.YtebgoligoeklbaaSplitP
import Derived.Test.YtebgoligoeklbaaLaterQ
namespace Go.Proofs.Ytebgoligoeklbaa
open Go.RowKit

set_option maxRecDepth 100000 in
theorem mp_c (x : Value) (w : World) : (method 245 54 x "loop.example/kilntree/impl.path").run Try.prog w = .ok (107, x) w := by kernel_rfl
set_option maxRecDepth 100000 in
theorem cp_c (x : Value) (w : World) : (callFunc 107 #[x]).run Try.prog w = .ok (.enter 107 #[x]) w := by kernel_rfl

theorem pathC_any (c : Ch) (w : World) : Calls Try.prog 107 #[.agg #[.string c.path, .bool c.old.there, .string c.old.text, .bool c.old.runs, .bool c.new.there, .string c.new.text, .bool c.new.runs]] w fun r w' => r = .returned (.string c.path) ∧ Below w.heap.size w w' := by
  go_enter Try.func107, Try.ntmps107
  go_wp2
  go_ret
  exact ⟨rfl, (Below.refl _ _).alloc (Nat.le_refl _) _⟩
end Go.Proofs.Ytebgoligoeklbaa
