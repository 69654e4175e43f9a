/-
  spec.l10Dec at one digit.
-/
import Derived.Test.YtiadabmbfpfbjaaDrawTx
namespace Go.Proofs.Ytiadabmbfpfbjaa
open Go.RowKit

theorem conv_oneM (x : Int) (w : World) : (convert 22 9 (.slice (some ⟨w.heap.size, 0, none⟩) 1 1)).run Try.prog (w.alloc (.cells #[.int .u8 x] 5)) = .ok (.string (strOfNums [x])) (w.alloc (.cells #[.int .u8 x] 5)) := by
  refine run_convert_bytes_arg _ 22 5 Try.underlying22 Try.underlying5 _ 0 1 1 [x] rfl ?_ 9 Try.underlying9
  intro i hi
  obtain rfl : i = 0 := by omega
  simp

set_option maxHeartbeats 1000000 in
theorem dec_any (n : Nat) (w : World) (hn : n < 10) :
    Calls Try.prog 45 #[.int .i64 (n : Int)] w fun e w' => ∃ s : ByteArray, e = .returned (.string s) ∧ s.size = 1 ∧ Below w.heap.size w w' := by
  have hcv := conv_oneM (48 + (n : Int)) w
  have hn' : (n : Int) < 10 := by omega
  go_enter Try.func45, Try.ntmps45
  go_wp2
  go_ret
  exact ⟨_, rfl, by rw [strOfNums_size]; rfl, (Below.refl _ _).alloc (Nat.le_refl _) _⟩
end Go.Proofs.Ytiadabmbfpfbjaa
