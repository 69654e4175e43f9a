/-
  Valid patches: plain; impl's isFile, isChange.
-/
import Derived.Test.YtockgapdfcapnaaChangesB
import Derived.Test.YtockgapdfcapnaaHasParts
import Derived.Test.YtockgapdfcapnaaTreeP
namespace Go.Proofs.Ytockgapdfcapnaa
open Go.RowKit

/-- A file of a change. -/
def flOk (f : Fl) : Bool := decide (f.text.size ≤ 1500) && (f.there || (f.text.toList.isEmpty && !f.runs))
def sameF (f g : Fl) : Bool := (f.there == g.there) && (f.text.toList == g.text.toList) && (f.runs == g.runs)
def chOk (c : Ch) : Bool := pathOk pathB c.path && flOk c.old && flOk c.new && !sameF c.old c.new

def POk (cs : List Ch) (i : Nat) : Prop := ∃ h : i < cs.length, chOk cs[i] = true ∧ ∀ j, j + 1 = i → ∀ hj : j < cs.length, Op.bytesLess cs[j].path.toList cs[i].path.toList = true
/-- A valid patch. -/
def ValidP (cs : List Ch) : Prop := cs.length ≤ 200 ∧ ∀ i, i < cs.length → POk cs i

set_option maxRecDepth 20000 in
set_option maxHeartbeats 1000000 in
theorem isFile_any (f : Fl) (w : World) :
    Calls Try.prog 77 #[.agg #[.bool f.there, .string f.text, .bool f.runs]] w fun e w' => e = .returned (.bool (flOk f)) ∧ Below w.heap.size w w' := by
  have hal : Below w.heap.size w (w.alloc (.cells #[.bool f.there, .string f.text, .bool f.runs] 69)) := (Below.refl _ _).alloc (Nat.le_refl _) _
  cases ht : f.there with
  | true =>
    go_enter Try.func77, Try.ntmps77
    rw [ht] at hal
    go_wp2
    go_ret
    refine ⟨?_, hal⟩
    have : ((f.text.size : Int) ≤ 1500) ↔ f.text.size ≤ 1500 := by omega
    simp [flOk, ht, this]
  | false =>
    rw [ht] at hal
    cases hr : f.runs with
    | true =>
      rw [hr] at hal
      go_enter Try.func77, Try.ntmps77
      go_wp2
      go_ret
      exact ⟨by simp [flOk, ht, hr], hal⟩
    | false =>
      rw [hr] at hal
      by_cases he : f.text.toList = []
      · have hz : f.text.size = 0 := by
          have h1 : f.text.data.toList.length = f.text.size := (Lib.size_eq f.text).symm
          rw [Lib.toList_data] at he
          rw [he] at h1
          simpa using h1.symm
        go_enter Try.func77, Try.ntmps77
        go_wp2
        go_ret
        exact ⟨by simp [flOk, ht, hr, he, hz], hal⟩
      · go_enter Try.func77, Try.ntmps77
        go_wp2
        go_ret
        exact ⟨by simp [flOk, ht, hr, he], hal⟩
end Go.Proofs.Ytockgapdfcapnaa
