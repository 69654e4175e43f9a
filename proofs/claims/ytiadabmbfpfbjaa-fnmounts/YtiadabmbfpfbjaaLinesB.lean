/-
  What Lines gives.
-/
import Derived.Test.YtiadabmbfpfbjaaLinesP
import Derived.Test.YtiadabmbfpfbjaaBase
import Derived.Test.YtiadabmbfpfbjaaStrsB
namespace Go.Proofs.Ytiadabmbfpfbjaa
open Go.RowKit

def LinesPost (ss : List ByteArray) (w : World) (e : Ending) (w' : World) : Prop :=
  ∃ ad cp, e = .returned (.slice ad ss.length cp) ∧ w'.ownsRow w.heap.size 9 1 (.slice ad ss.length cp) ss.length (ss.map .string) ∧ Below w.heap.size w w'

theorem owns_low {w : World} {b b' : Nat} {e : TypeId} {size : Nat} {v : Value} {n : Nat} {xs : List Value} (h : w.ownsRow b e size v n xs) (hb : b' ≤ b) : w.ownsRow b' e size v n xs := by
  refine ⟨h.1, ?_⟩
  rcases h.2 with h' | ⟨g, cap, cur, hv, k1, k2, k3⟩
  · exact .inl h'
  · exact .inr ⟨g, cap, cur, hv, Nat.le_trans hb k1, k2, k3⟩
def linesT (s : ByteArray) : List ByteArray := if s.size ≤ 1500 then linesB s else []
theorem linesT_le (s : ByteArray) : (linesT s).length ≤ 1500 := by
  unfold linesT
  split
  · have := linesB_le s; omega
  · simp
end Go.Proofs.Ytiadabmbfpfbjaa
