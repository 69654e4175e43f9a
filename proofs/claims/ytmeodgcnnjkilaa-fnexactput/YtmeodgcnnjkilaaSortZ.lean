/-
  slices.SortFunc at no element.
-/
import Derived.Test.YtmeodgcnnjkilaaSortF
import Derived.Shelf.SlSortCmp.NoneTotal
namespace Go.Proofs.Ytmeodgcnnjkilaa
open Go.RowKit Go.Shelf

theorem sort_none (p : Option Addr) (cap : Nat) (fv : Value) (w : World) : Calls Try.prog 69 #[.slice p 0 cap, fv] w fun e w' => e = .returned (.tuple #[]) ∧ w' = w :=
  AnyF.slices_SortFunc_none (P := Try.prog) (ρ := renF) { laysSort with } p cap fv w
end Go.Proofs.Ytmeodgcnnjkilaa
