/-
  What Undo gives, plain.
-/
import Derived.Test.YtcapcjojlpljiaaChOut
import Derived.Test.YtcapcjojlpljiaaPatP
namespace Go.Proofs.Ytcapcjojlpljiaa
open Go.RowKit

def UndoRel (cs us : List Ch) : Prop := (ValidP cs ∧ us = cs.map flipC) ∨ (¬ ValidP cs ∧ us = [])
theorem undo_one {cs us us' : List Ch} (h : UndoRel cs us) (h' : UndoRel cs us') : us' = us := by
  rcases h with ⟨h, rfl⟩ | ⟨h, rfl⟩ <;> rcases h' with ⟨h', rfl⟩ | ⟨h', rfl⟩ <;> first | rfl | exact absurd h h' | exact absurd h' h
theorem undo_few {cs us : List Ch} (h : UndoRel cs us) : us.length ≤ cs.length := by
  rcases h with ⟨_, rfl⟩ | ⟨_, rfl⟩ <;> simp
def UndoPost (cs : List Ch) (w : World) (e : Ending) (w' : World) : Prop :=
  ∃ us, UndoRel cs us ∧ (∃ ad cap, e = .returned (.agg #[.slice ad us.length cap]) ∧ CL w.heap.size w' ad us) ∧ Below w.heap.size w w'
theorem flips_take {cs : List Ch} {k : Nat} (hk : k < cs.length) : (cs.take (k + 1)).map flipC = (cs.take k).map flipC ++ [flipC cs[k]] := by
  rw [List.take_succ_eq_append_getElem hk, List.map_append]; rfl

end Go.Proofs.Ytcapcjojlpljiaa
