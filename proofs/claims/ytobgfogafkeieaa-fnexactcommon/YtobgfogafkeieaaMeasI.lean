/-
  impl.lengths, its rows, impl.measure.
-/
import Derived.Test.YtobgfogafkeieaaStrsB
import Derived.Test.YtobgfogafkeieaaBase
import Derived.Test.YtobgfogafkeieaaTabP
import Derived.Test.YtobgfogafkeieaaNumI
namespace Go.Proofs.Ytobgfogafkeieaa
open Go.RowKit

def lenV (c g N : Nat) : Value := .agg #[.int .i64 (c : Int), .slice (some ⟨g, 0, none⟩) N N]

set_option maxRecDepth 20000 in
set_option maxHeartbeats 1000000 in
theorem row_any (c g N i : Nat) (w : World) (hc : 0 < c) (h : (i + 1) * c ≤ N) (hN : N ≤ 4000000) :
    Calls Try.prog 36 #[lenV c g N, .int .i64 (i : Int)] w fun e w' => e = .returned (.slice (some ⟨g, i * c, none⟩) c (N - i * c)) ∧ Below w.heap.size w w' := by
  have hq : (i + 1) * c = i * c + c := by rw [Nat.add_mul, Nat.one_mul]
  obtain ⟨P, hP⟩ : ∃ P, P = i * c := ⟨_, rfl⟩
  have e1 : (i : Int) * (c : Int) = (P : Int) := by rw [hP]; push_cast; rfl
  have e2 : ((i : Int) + 1) * (c : Int) = (P : Int) + (c : Int) := by rw [Int.add_mul, e1, Int.one_mul]
  rw [hq, ← hP] at h
  rw [← hP]
  have HP : NKeep (P = i * c) := ⟨hP⟩
  clear hP hq
  have hi : i ≤ 4000000 := by
    have : i * 1 ≤ i * c := Nat.mul_le_mul_left i hc
    have := HP.out
    omega
  unfold lenV
  go_enter Try.func36, Try.ntmps36
  go_wp2
  go_ret
  refine ⟨?_, (Below.refl _ _).alloc (Nat.le_refl _) _⟩
  simp
end Go.Proofs.Ytobgfogafkeieaa
