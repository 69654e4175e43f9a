/-
  Remove: what it gives, plain.
-/
import Derived.Test.YtocnnebbllkkeaaTreeT
import Derived.Test.YtocnnebbllkkeaaStrikeN
namespace Go.Proofs.Ytocnnebbllkkeaa
open Go.RowKit

/-- What Remove gives. -/
def Rem (ts : List En) (p : ByteArray) (us : List En) (c : Int) : Prop :=
  (¬ ValidTs ts ∧ us = [] ∧ c = 1) ∨ (ValidTs ts ∧ (∀ e ∈ ts, e.path ≠ p) ∧ us = [] ∧ c = 4) ∨ (ValidTs ts ∧ (∃ e ∈ ts, e.path = p) ∧ us = without ts p ∧ c = 0)

theorem rem_one {ts : List En} {p : ByteArray} {us us' : List En} {c c' : Int} (h : Rem ts p us c) (h' : Rem ts p us' c') : us = us' ∧ c = c' := by
  rcases h with ⟨h1, rfl, rfl⟩ | ⟨h1, h2, rfl, rfl⟩ | ⟨h1, ⟨e, he, hp⟩, rfl, rfl⟩ <;> rcases h' with ⟨g1, rfl, rfl⟩ | ⟨g1, g2, rfl, rfl⟩ | ⟨g1, ⟨e', he', hp'⟩, rfl, rfl⟩
  · exact ⟨rfl, rfl⟩
  · exact absurd g1 h1
  · exact absurd g1 h1
  · exact absurd h1 g1
  · exact ⟨rfl, rfl⟩
  · exact absurd hp' (h2 e' he')
  · exact absurd h1 g1
  · exact absurd hp (g2 e he)
  · exact ⟨rfl, rfl⟩

def RemPost (ts : List En) (p : ByteArray) (w : World) (e : Ending) (w' : World) : Prop := ∃ us c, Rem ts p us c ∧ TreeR us c w.heap.size e w' ∧ Below w.heap.size w w'

end Go.Proofs.Ytocnnebbllkkeaa
