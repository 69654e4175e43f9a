/-
  impl's change where there is none: nothing happens.
-/
import Derived.Test.YtebgoligoeklbaaCopyF
import Derived.Test.YtebgoligoeklbaaPatP
namespace Go.Proofs.Ytebgoligoeklbaa
open Go.RowKit

set_option maxRecDepth 20000 in
set_option maxHeartbeats 1000000 in
theorem change_none (h : Nat) (p : ByteArray) (f g : Fl) (w : World) (hs : sameF f g = true) :
    Calls Try.prog 26 #[.pointer (some ⟨h, 0, none⟩), .string p, flV f, flV g] w fun e w' => e = .returned (.tuple #[]) ∧ Below w.heap.size w w' := by
  unfold flV
  have hal : Below w.heap.size w ((w.alloc (.cells #[.bool f.there, .string f.text, .bool f.runs] 52)).alloc (.cells #[.bool g.there, .string g.text, .bool g.runs] 52)) := ((Below.refl _ _).alloc (Nat.le_refl _) _).alloc (by simp) _
  obtain ⟨h1, h2, h3⟩ : f.there = g.there ∧ f.text.toList = g.text.toList ∧ f.runs = g.runs := by simpa [sameF, and_assoc] using hs
  rw [h1, h3] at hal
  go_enter Try.func26, Try.ntmps26
  go_wp2
  refine bodyPost_end (v := .tuple #[]) ?_ rfl ⟨rfl, hal⟩
  go_light
  simp [results, Try.results26, go_sem]
end Go.Proofs.Ytebgoligoeklbaa
