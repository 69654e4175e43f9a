/-
  Under: what it gives, plain.
-/
import Derived.Test.YtocnnebbllkkeaaTreeT
namespace Go.Proofs.Ytocnnebbllkkeaa
open Go.RowKit

/-- What Under gives. -/
def Und (ts : List En) (dir : ByteArray) (us : List En) : Prop :=
  (¬ (ValidTs ts ∧ pathOk pathB dir = true) ∧ us = []) ∨ ((ValidTs ts ∧ pathOk pathB dir = true) ∧ us = under ts dir)
theorem und_one {ts : List En} {p : ByteArray} {us us' : List En} (h : Und ts p us) (h' : Und ts p us') : us = us' := by
  rcases h with ⟨h1, rfl⟩ | ⟨h1, rfl⟩ <;> rcases h' with ⟨g1, rfl⟩ | ⟨g1, rfl⟩
  · rfl
  · exact absurd g1 h1
  · exact absurd h1 g1
  · rfl
theorem und_few {ts : List En} {p : ByteArray} {us : List En} (h : Und ts p us) : us.length ≤ ts.length := by
  rcases h with ⟨_, rfl⟩ | ⟨_, rfl⟩
  · simp
  · unfold under
    rw [List.length_map]
    exact List.length_filter_le _ _

def UndPost (ts : List En) (p : ByteArray) (w : World) (e : Ending) (w' : World) : Prop := ∃ us, Und ts p us ∧ TreeQ us w.heap.size e w' ∧ Below w.heap.size w w'

theorem told_nothing {K : Nat} {β : Way → Option Nat} {φ : Way → Option (ByteArray × Bool)} (hG : GoodT K β φ) {p0 : Way} (h : β p0 = none) : Told φ p0 [] [] [] := by
  refine ⟨List.Pairwise.nil, fun e => ?_⟩
  simp only [List.not_mem_nil, false_or, false_iff]
  rintro ⟨h1, _⟩
  unfold Tells at h1
  exact hG.pre _ _ (hG.node _ (by rw [h1]; simp)) h
end Go.Proofs.Ytocnnebbllkkeaa
