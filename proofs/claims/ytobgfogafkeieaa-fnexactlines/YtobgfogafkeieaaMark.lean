/-
  The laws' marks: laws.heldStringS.
-/
import Derived.Test.YtobgfogafkeieaaMarkS
namespace Go.Proofs.Ytobgfogafkeieaa
open Go.RowKit

set_option maxRecDepth 20000 in
set_option maxHeartbeats 1000000 in
theorem heldS_any (a : Option Addr) (cap n k : Nat) (w : World) (hss : SS w a (marks k n)) (h0 : 0 < k) (hk : k + n ≤ 1099511627776) :
    Calls Try.prog 12 #[.slice a n cap, .int .i64 k] w fun e w' => e = .returned (.int .i64 ((k + n : Nat) : Int)) ∧ Below w.heap.size w w' := by
  have HL : Hid ((marks k n).length = n) := marks_len k n
  go_enter Try.func12, Try.ntmps12
  go_wp2
  go_loopw [1, 5] (fun q i wr => ∃ j : Nat, j ≤ n ∧ i = .int .i64 j ∧ q = .int .i64 ((k + j : Nat) : Int) ∧ Below w.heap.size w wr) (fun _ i _ => n - (intOf i).toNat)
  case atStart => exact ⟨0, Nat.zero_le _, rfl, rfl, Below.refl _ _⟩
  case round =>
    obtain ⟨j, hj, rfl, rfl, hb⟩ := hrel
    by_cases hlt : j < n
    · have hjl : j < (marks k n).length := by rw [HL.out]; exact hlt
      obtain ⟨b, off, rfl, hc⟩ := (hss.below hb).at hjl
      have hck : wr.cell? ⟨b, off + j, none⟩ = some (.string (mkS (k + j))) := by rw [hc j hjl]; simp [marks]
      have hmk := markText_any (k + j) wr.drew (by omega) (by omega)
      clear hc hjl
      have hsame := bs_same (x := mkS (k + j)) rfl
      generalize mkS (k + j) = mk at *
      go_wp2_with fail
      go_region_held3 (fun w' => w'.cell? ⟨b, off + j, none⟩ = some (.string mk)) (first | go_keep | (exact e1))
        ((first | (go_at_call 25; refine hmk.mono ?_; rintro e w1 ⟨rfl, hb1⟩; have e1 := cell_later (w := wr.drew) hb1 hck)))
      have hbx : Below w.heap.size w w1 := hb.drew.trans (hb1.mono hb.size)
      go_wp2
      go_roundw
      case rel => exact ⟨j + 1, by omega, by go_num, by go_num, hbx⟩
      case measure => simp [intOf]; omega
    · obtain rfl : j = n := by omega
      go_wp2
      go_ret
      exact ⟨rfl, hb⟩
end Go.Proofs.Ytobgfogafkeieaa
