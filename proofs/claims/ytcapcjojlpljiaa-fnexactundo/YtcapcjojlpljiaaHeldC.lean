/-
  laws.heldChangeS, heldPatch; changes between two bounds ('CIn').
-/
import Derived.Test.YtcapcjojlpljiaaMarkC
import Derived.Test.YtcapcjojlpljiaaSplitP
namespace Go.Proofs.Ytcapcjojlpljiaa
open Go.RowKit

set_option maxRecDepth 20000 in
set_option maxHeartbeats 4000000 in
theorem heldCs_any (a : Option Addr) (cap n k : Nat) (w : World) (hss : CS w a (marksC k n)) (h0 : 0 < k) (hk : k + 7 * n ≤ 1099511627776) :
    Calls Try.prog 42 #[.slice a n cap, .int .i64 k] w fun e w' => e = .returned (.int .i64 ((k + 7 * n : Nat) : Int)) ∧ Below w.heap.size w w' := by
  have HL : Keep ((marksC k n).length = n) := ⟨marksC_len k n⟩
  go_enter Try.func42, Try.ntmps42
  go_wp2
  go_loopw [1, 5] (fun q i wr => ∃ j : Nat, j ≤ n ∧ i = .int .i64 j ∧ q = .int .i64 ((k + 7 * j : Nat) : Int) ∧ Below w.heap.size w wr) (fun _ i _ => n - (intOf i).toNat)
  case atStart => exact ⟨0, Nat.zero_le _, rfl, by simp, Below.refl _ _⟩
  case round =>
    obtain ⟨j, hj, rfl, rfl, hb⟩ := hrel
    by_cases hlt : j < n
    · have hlt' : (j : Int) < n := by omega
      have hjl : j < (marksC k n).length := by rw [HL.out]; exact hlt
      obtain ⟨b, off, rfl, hc⟩ := (hss.below hb).at hjl
      obtain ⟨c0, c1, c2, c3, c4, c5, c6⟩ := hc j hjl
      rw [marksC_at] at c0 c1 c2 c3 c4 c5 c6
      unfold markCh at c0 c1 c2 c3 c4 c5 c6
      simp only at c0 c1 c2 c3 c4 c5 c6
      clear hc hjl
      have hmk := markText_any (k + 7 * j) wr.drew (by omega) (by omega)
      have hs0 := bs_same (x := mkS (k + 7 * j)) rfl
      have hs2 := bs_same (x := mkS (k + 7 * j + 2)) rfl
      have hs5 := bs_same (x := mkS (k + 7 * j + 5)) rfl
      have HM2 : Keep (∀ W, Calls Try.prog 57 #[.int .i64 ((k : Int) + 7 * (j : Int) + 1 + 1)] W fun e w' => e = .returned (.string (mkS (k + 7 * j + 2))) ∧ Below W.heap.size W w') := ⟨fun W => by
        have := markText_any (k + 7 * j + 2) W (by omega) (by omega)
        rw [show ((k + 7 * j + 2 : Nat) : Int) = (k : Int) + 7 * (j : Int) + 1 + 1 by omega] at this
        exact this⟩
      have HM5 : Keep (∀ W, Calls Try.prog 57 #[.int .i64 ((k : Int) + 7 * (j : Int) + 1 + 1 + 1 + 1 + 1)] W fun e w' => e = .returned (.string (mkS (k + 7 * j + 5))) ∧ Below W.heap.size W w') := ⟨fun W => by
        have := markText_any (k + 7 * j + 5) W (by omega) (by omega)
        rw [show ((k + 7 * j + 5 : Nat) : Int) = (k : Int) + 7 * (j : Int) + 1 + 1 + 1 + 1 + 1 by omega] at this
        exact this⟩
      have hr1 := rem3_eq (show (k : Int) + 7 * (j : Int) + 1 = ((k + 7 * j + 1 : Nat) : Int) by omega)
      have hr3 := rem3_eq (show (k : Int) + 7 * (j : Int) + 1 + 1 + 1 = ((k + 7 * j + 3 : Nat) : Int) by omega)
      have hr4 := rem3_eq (show (k : Int) + 7 * (j : Int) + 1 + 1 + 1 + 1 = ((k + 7 * j + 4 : Nat) : Int) by omega)
      have hr6 := rem3_eq (show (k : Int) + 7 * (j : Int) + 1 + 1 + 1 + 1 + 1 + 1 = ((k + 7 * j + 6 : Nat) : Int) by omega)
      generalize rem3 (k + 7 * j + 1) = b1 at *
      generalize rem3 (k + 7 * j + 3) = b3 at *
      generalize rem3 (k + 7 * j + 4) = b4 at *
      generalize rem3 (k + 7 * j + 6) = b6 at *
      generalize mkS (k + 7 * j) = m0 at *
      generalize mkS (k + 7 * j + 2) = m2 at *
      generalize mkS (k + 7 * j + 5) = m5 at *
      have e1 : (b1 != b1) = false := by simp
      have e3 : (b3 != b3) = false := by simp
      have e4 : (b4 != b4) = false := by simp
      have e6 : (b6 != b6) = false := by simp
      go_wp2_with fail
      go_region_held3 (fun w' => w'.cell? ⟨b, off + j * 7, none⟩ = some (.string m0)) (first | go_keep | (exact f1))
        ((first | (go_at_call 57; refine hmk.mono ?_; rintro e w1 ⟨rfl, hb1⟩; have f1 := cell_later (w := wr.drew) hb1 c0)))
      have d1 : w1.cell? ⟨b, off + j * 7 + 1, none⟩ = some (.bool b1) := cell_later (w := wr.drew) hb1 c1
      have d2 : w1.cell? ⟨b, off + j * 7 + 2, none⟩ = some (.string m2) := cell_later (w := wr.drew) hb1 c2
      have d3 : w1.cell? ⟨b, off + j * 7 + 3, none⟩ = some (.bool b3) := cell_later (w := wr.drew) hb1 c3
      have d4 : w1.cell? ⟨b, off + j * 7 + 4, none⟩ = some (.bool b4) := cell_later (w := wr.drew) hb1 c4
      have d5 : w1.cell? ⟨b, off + j * 7 + 5, none⟩ = some (.string m5) := cell_later (w := wr.drew) hb1 c5
      have d6 : w1.cell? ⟨b, off + j * 7 + 6, none⟩ = some (.bool b6) := cell_later (w := wr.drew) hb1 c6
      have hbx : Below w.heap.size w w1 := hb.drew.trans (hb1.mono hb.size)
      have hmk2 := HM2.out w1.drew
      clear hb1 hmk c0 c1 c2 c3 c4 c5 c6 f1
      go_wp2_with fail
      go_region_held3 (fun w' => w'.cell? ⟨b, off + j * 7 + 2, none⟩ = some (.string m2)) (first | go_keep | (exact f1))
        ((first | (go_at_call 57; refine hmk2.mono ?_; rintro e w2 ⟨rfl, hb2⟩; have f1 := cell_later (w := w1.drew) hb2 d2)))
      replace d3 : w2.cell? ⟨b, off + j * 7 + 3, none⟩ = some (.bool b3) := cell_later (w := w1.drew) hb2 d3
      replace d4 : w2.cell? ⟨b, off + j * 7 + 4, none⟩ = some (.bool b4) := cell_later (w := w1.drew) hb2 d4
      replace d5 : w2.cell? ⟨b, off + j * 7 + 5, none⟩ = some (.string m5) := cell_later (w := w1.drew) hb2 d5
      replace d6 : w2.cell? ⟨b, off + j * 7 + 6, none⟩ = some (.bool b6) := cell_later (w := w1.drew) hb2 d6
      replace hbx : Below w.heap.size w w2 := hbx.drew.trans (hb2.mono hbx.size)
      have hmk5 := HM5.out w2.drew
      clear hb2 hmk2 d1 d2 f1
      go_wp2_with fail
      go_region_held3 (fun w' => w'.cell? ⟨b, off + j * 7 + 5, none⟩ = some (.string m5)) (first | go_keep | (exact f1))
        ((first | (go_at_call 57; refine hmk5.mono ?_; rintro e w3 ⟨rfl, hb3⟩; have f1 := cell_later (w := w2.drew) hb3 d5)))
      replace d6 : w3.cell? ⟨b, off + j * 7 + 6, none⟩ = some (.bool b6) := cell_later (w := w2.drew) hb3 d6
      replace hbx : Below w.heap.size w w3 := hbx.drew.trans (hb3.mono hbx.size)
      clear hb3 hmk5 d3 d4 d5 f1 hb
      go_wp2
      go_roundw
      case rel => exact ⟨j + 1, by omega, by go_num, by go_num, hbx⟩
      case measure => simp [intOf]; omega
    · obtain rfl : j = n := by omega
      go_wp2
      go_ret
      exact ⟨rfl, hb⟩

set_option maxRecDepth 20000 in
set_option maxHeartbeats 1000000 in
theorem heldPatch_any (a : Option Addr) (cap n : Nat) (w : World) (hss : CS w a (marksC 1 n)) (hn : n ≤ 1048576) :
    Calls Try.prog 24 #[.agg #[.slice a n cap], .int .i64 1] w fun e w' => e = .returned (.int .i64 ((1 + 7 * n : Nat) : Int)) ∧ Below w.heap.size w w' := by
  have hb0 : Below w.heap.size w (w.alloc (.cells #[.slice a n cap] 40)) := (Below.refl _ _).alloc (Nat.le_refl _) _
  go_enter Try.func24, Try.ntmps24
  go_wp2_with fail
  refine (heldCs_any a cap n 1 _ (hss.below hb0) (by omega) (by omega)).mono ?_
  rintro e w1 ⟨rfl, hb1⟩
  have hd : ¬ ((1 + 7 * n : Nat) : Int) < 0 := by omega
  go_wp2
  go_ret
  exact ⟨rfl, hb0.trans (hb1.mono hb0.size)⟩
end Go.Proofs.Ytcapcjojlpljiaa
