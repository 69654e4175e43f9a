/-
  Nodes of impl's trees in memory: what a map of kids reads as.
-/
import Derived.Test.YtockgapdfcapnaaRows
import Derived.WalkKit
import Derived.Maps.OwnSet
import Derived.Maps.OwnIn
import Derived.Maps.Views
namespace Go.Proofs.Ytockgapdfcapnaa
open Go.RowKit

/-- How a pointer to a node reads: by its block. -/
def ptrR (v : Value) : Option (DataW Unit × List MemPlace) :=
  match v with
  | .pointer none => some (.lit (.int .i64 (-1)), [])
  | .pointer (some ⟨b, 0, none⟩) => some (.lit (.int .i64 b), [])
  | _ => none

/-- The pointer to a node that may not be there. -/
def ptrV : Option Nat → Value
  | none => .pointer none
  | some b => .pointer (some ⟨b, 0, none⟩)
def ptrL : Option Nat → DataW Unit
  | none => .lit (.int .i64 (-1))
  | some b => .lit (.int .i64 b)

theorem ptrR_mk (o : Option Nat) : ptrR (ptrV o) = some (ptrL o, []) := by cases o <;> rfl
theorem ptrR_inv {v : Value} {o : Option Nat} {ps : List MemPlace} (h : ptrR v = some (ptrL o, ps)) : v = ptrV o := by
  unfold ptrR at h
  split at h
  · cases o with
    | none => rfl
    | some b => simp [ptrL] at h
  · rename_i b
    cases o with
    | none => simp [ptrL] at h
    | some b' =>
      simp [ptrL] at h
      obtain ⟨h1, _⟩ := h
      have : b = b' := by omega
      subst this; rfl
  · cases h
end Go.Proofs.Ytockgapdfcapnaa
