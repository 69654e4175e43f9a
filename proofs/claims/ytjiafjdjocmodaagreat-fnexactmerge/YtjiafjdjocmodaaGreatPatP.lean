/-
  Valid patches: plain; impl's isFile, isChange.
-/
import Derived.Test.YtjiafjdjocmodaaGreatChangesB
import Derived.Test.YtjiafjdjocmodaaGreatHasParts
import Derived.Test.YtjiafjdjocmodaaGreatTreeP
namespace Go.Proofs.YtjiafjdjocmodaaGreat
open Go.RowKit

/-- A file of a change. -/
def flOk (f : Fl) : Bool := decide (f.text.size ≤ 1500) && (f.there || (f.text.toList.isEmpty && !f.runs))
def sameF (f g : Fl) : Bool := (f.there == g.there) && (f.text.toList == g.text.toList) && (f.runs == g.runs)
def chOk (c : Ch) : Bool := pathOk pathB c.path && flOk c.old && flOk c.new && !sameF c.old c.new

def POk (cs : List Ch) (i : Nat) : Prop := ∃ h : i < cs.length, chOk cs[i] = true ∧ ∀ j, j + 1 = i → ∀ hj : j < cs.length, Op.bytesLess cs[j].path.toList cs[i].path.toList = true
/-- A valid patch. -/
def ValidP (cs : List Ch) : Prop := cs.length ≤ 200 ∧ ∀ i, i < cs.length → POk cs i

end Go.Proofs.YtjiafjdjocmodaaGreat
