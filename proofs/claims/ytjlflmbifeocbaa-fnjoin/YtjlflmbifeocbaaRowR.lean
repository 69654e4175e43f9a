/-
  A slice that owns its row has room for what it holds.
-/
import Derived.Test.YtjlflmbifeocbaaOutL
namespace Go.Proofs.Ytjlflmbifeocbaa
open Go.RowKit

theorem row_roomO {W : World} {B z : Nat} {e : TypeId} {ad : Option Addr} {n cp : Nat} {xs : List Value} (h : W.ownsRow B e z (.slice ad n cp) n xs) : n ≤ cp := by
  rcases h.2 with ⟨h0, _⟩ | ⟨_, _, _, h0, _, _, h1, _⟩
  · cases h0; exact Nat.le_refl _
  · cases h0; exact h1
end Go.Proofs.Ytjlflmbifeocbaa
