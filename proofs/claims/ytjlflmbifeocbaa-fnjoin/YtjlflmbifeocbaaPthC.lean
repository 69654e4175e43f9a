/-
  impl's path of a change, called through the interface.
-/
import Derived.Test.YtjlflmbifeocbaaChangesB
import Derived.Test.YtjlflmbifeocbaaSplitP
import Derived.Test.YtjlflmbifeocbaaLaterQ
namespace Go.Proofs.Ytjlflmbifeocbaa
open Go.RowKit

set_option maxRecDepth 100000 in
theorem mp_c (x : Value) (w : World) : (method 245 68 x "loop.example/kilntree/impl.path").run Try.prog w = .ok (111, x) w := by kernel_rfl
set_option maxRecDepth 100000 in
theorem cp_c (x : Value) (w : World) : (callFunc 111 #[x]).run Try.prog w = .ok (.enter 111 #[x]) w := by kernel_rfl

theorem pathC_any (c : Ch) (w : World) : Calls Try.prog 111 #[.agg #[.string c.path, .bool c.old.there, .string c.old.text, .bool c.old.runs, .bool c.new.there, .string c.new.text, .bool c.new.runs]] w fun r w' => r = .returned (.string c.path) ∧ Below w.heap.size w w' := by
  go_enter Try.func111, Try.ntmps111
  go_wp2
  go_ret
  exact ⟨rfl, (Below.refl _ _).alloc (Nat.le_refl _) _⟩
end Go.Proofs.Ytjlflmbifeocbaa
