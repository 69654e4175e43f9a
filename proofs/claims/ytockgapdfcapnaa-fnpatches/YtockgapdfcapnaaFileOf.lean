/-
  impl's file: what an entry that is one has under its path.
-/
import Derived.Test.YtockgapdfcapnaaEntB
import Derived.Test.YtockgapdfcapnaaSplitP
namespace Go.Proofs.Ytockgapdfcapnaa
open Go.RowKit

set_option maxRecDepth 100000 in
set_option maxHeartbeats 2000000 in
theorem file_any (en : En) (w : World) (hpos : 0 < en.path.size) :
    Calls Try.prog 43 #[.agg #[.string en.path, .string en.text, .bool en.runs]] w fun e w' => e = .returned (.agg #[.bool true, .string en.text, .bool en.runs]) ∧ Below w.heap.size w w' := by
  have hne : ¬ en.path.toList = [] := by
    rw [Lib.toList_data]
    have : en.path.data.toList.length = en.path.size := (Lib.size_eq en.path).symm
    intro hl
    rw [hl] at this
    simp at this
    omega
  go_enter Try.func43, Try.ntmps43
  go_wp2_with fail
  go_region
  go_wp2
  refine bodyPost_ret (v := .agg #[.bool true, .string en.text, .bool en.runs]) ?_ rfl ⟨rfl, (((Below.refl _ _).alloc (Nat.le_refl _) _).alloc (by simp) _).drew⟩
  simp [results, Try.results43, go_sem]
end Go.Proofs.Ytockgapdfcapnaa
