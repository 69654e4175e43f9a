/-
  spec's desk: values.
-/
import Derived.Test.YtamaioeikcjhoaaDoorSd3
namespace Go.Proofs.YtamaioeikcjhoaaDoor
open Go.RowKit

theorem dvalue_any (b : Nat) : ∀ (f d : Nat), f + d = 13 → ValS b f (d : Int)
  | 0, d, h => dvalue_step b 0 d (by omega) h (fun h => by omega)
  | f + 1, d, h => dvalue_step b (f + 1) d (by omega) h (fun _ => by
    have ih := dvalue_any b f (d + 1) (by omega)
    rw [show ((d + 1 : Nat) : Int) = (d : Int) + 1 by omega] at ih
    exact ih)
end Go.Proofs.YtamaioeikcjhoaaDoor
