/-
  The laws' marks over entries, held: laws.heldEntryS, heldTree.
-/
import Derived.Test.YtmeodgcnnjkilaaMarkE
namespace Go.Proofs.Ytmeodgcnnjkilaa
open Go.RowKit

set_option maxRecDepth 20000 in
set_option maxHeartbeats 2000000 in
theorem heldEs_any (a : Option Addr) (cap n k : Nat) (w : World) (hss : ES w a (marksE k n)) (h0 : 0 < k) (hk : k + 3 * n ≤ 1099511627776) :
    Calls Try.prog 39 #[.slice a n cap, .int .i64 k] w fun e w' => e = .returned (.int .i64 ((k + 3 * n : Nat) : Int)) ∧ Below w.heap.size w w' := by
  have HL : Keep ((marksE k n).length = n) := ⟨marksE_len k n⟩
  go_enter Try.func39, Try.ntmps39
  go_wp2
  go_loopw [1, 5] (fun q i wr => ∃ j : Nat, j ≤ n ∧ i = .int .i64 j ∧ q = .int .i64 ((k + 3 * j : Nat) : Int) ∧ Below w.heap.size w wr) (fun _ i _ => n - (intOf i).toNat)
  case atStart => exact ⟨0, Nat.zero_le _, rfl, by simp, Below.refl _ _⟩
  case round =>
    obtain ⟨j, hj, rfl, rfl, hb⟩ := hrel
    by_cases hlt : j < n
    · have hlt' : (j : Int) < n := by omega
      have hjl : j < (marksE k n).length := by rw [HL.out]; exact hlt
      obtain ⟨b, off, rfl, hc⟩ := (hss.below hb).at hjl
      obtain ⟨c0, c1, c2⟩ := hc j hjl
      rw [marksE_at] at c0 c1 c2
      unfold markEn at c0 c1 c2
      simp only at c0 c1 c2
      clear hc hjl
      have hmk := markText_any (k + 3 * j) wr.drew (by omega) (by omega)
      have hs0 := bs_same (x := mkS (k + 3 * j)) rfl
      have hs1 := bs_same (x := mkS (k + 3 * j + 1)) rfl
      have HM1 : Keep (∀ W, Calls Try.prog 47 #[.int .i64 ((k : Int) + 3 * (j : Int) + 1)] W fun e w' => e = .returned (.string (mkS (k + 3 * j + 1))) ∧ Below W.heap.size W w') := ⟨fun W => by
        have := markText_any (k + 3 * j + 1) W (by omega) (by omega)
        rw [show ((k + 3 * j + 1 : Nat) : Int) = (k : Int) + 3 * (j : Int) + 1 by omega] at this
        exact this⟩
      have hrm := mark_rem k j
      generalize decide ((k + 3 * j + 2) % 3 = 0) = bb at *
      generalize mkS (k + 3 * j) = m0 at *
      generalize mkS (k + 3 * j + 1) = m1 at *
      go_wp2_with fail
      go_region_held3 (fun w' => w'.cell? ⟨b, off + j * 3, none⟩ = some (.string m0)) (first | go_keep | (exact e1))
        ((first | (go_at_call 47; refine hmk.mono ?_; rintro e w1 ⟨rfl, hb1⟩; have e1 := cell_later (w := wr.drew) hb1 c0)))
      have d1 : w1.cell? ⟨b, off + j * 3 + 1, none⟩ = some (.string m1) := cell_later (w := wr.drew) hb1 c1
      have d2 : w1.cell? ⟨b, off + j * 3 + 2, none⟩ = some (.bool bb) := cell_later (w := wr.drew) hb1 c2
      have hbx : Below w.heap.size w w1 := hb.drew.trans (hb1.mono hb.size)
      have hmk2 := HM1.out w1.drew
      clear hb1 hmk c0 c1 c2 e1
      go_wp2_with fail
      go_region_held3 (fun w' => w'.cell? ⟨b, off + j * 3 + 1, none⟩ = some (.string m1)) (first | go_keep | (exact e1))
        ((first | (go_at_call 47; refine hmk2.mono ?_; rintro e w2 ⟨rfl, hb2⟩; have e1 := cell_later (w := w1.drew) hb2 d1)))
      have d3 : w2.cell? ⟨b, off + j * 3 + 2, none⟩ = some (.bool bb) := cell_later (w := w1.drew) hb2 d2
      have hby : Below w.heap.size w w2 := hbx.drew.trans (hb2.mono hbx.size)
      clear hb2 hmk2 d1 d2 e1 hbx hb
      cases bb
      all_goals
        go_wp2
        go_roundw
        case rel => exact ⟨j + 1, by omega, by go_num, by go_num, hby⟩
        case measure => simp [intOf]; omega
    · obtain rfl : j = n := by omega
      go_wp2
      go_ret
      exact ⟨rfl, hb⟩

set_option maxRecDepth 20000 in
set_option maxHeartbeats 1000000 in
theorem heldTree_any (a : Option Addr) (cap n : Nat) (w : World) (hss : ES w a (marksE 1 n)) (hn : n ≤ 1048576) :
    Calls Try.prog 15 #[.agg #[.slice a n cap], .int .i64 1] w fun e w' => e = .returned (.int .i64 ((1 + 3 * n : Nat) : Int)) ∧ Below w.heap.size w w' := by
  have hb0 : Below w.heap.size w (w.alloc (.cells #[.slice a n cap] 31)) := (Below.refl _ _).alloc (Nat.le_refl _) _
  go_enter Try.func15, Try.ntmps15
  go_wp2_with fail
  refine (heldEs_any a cap n 1 _ (hss.below hb0) (by omega) (by omega)).mono ?_
  rintro e w1 ⟨rfl, hb1⟩
  have hd : ¬ ((1 + 3 * n : Nat) : Int) < 0 := by omega
  go_wp2
  go_ret
  exact ⟨rfl, hb0.trans (hb1.mono hb0.size)⟩
end Go.Proofs.Ytmeodgcnnjkilaa
