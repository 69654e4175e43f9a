/-
  slices.SortFunc at no element.
-/
import Derived.Test.YtocnnebbllkkeaaSortF
import Derived.Shelf.SlSortCmp.NoneTotal
namespace Go.Proofs.Ytocnnebbllkkeaa
open Go.RowKit Go.Shelf

theorem sort_none (p : Option Addr) (cap : Nat) (fv : Value) (w : World) : Calls Try.prog 55 #[.slice p 0 cap, fv] w fun e w' => e = .returned (.tuple #[]) ∧ w' = w :=
  AnyF.slices_SortFunc_none (P := Try.prog) (ρ := renF) { laysSort with } p cap fv w
end Go.Proofs.Ytocnnebbllkkeaa
