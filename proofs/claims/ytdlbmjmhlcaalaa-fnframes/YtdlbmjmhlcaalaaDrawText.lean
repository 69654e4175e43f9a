/-
  Drawn widths: spec.l1Width.
-/
import Derived.Test.YtdlbmjmhlcaalaaDrawTx
namespace Go.Proofs.Ytdlbmjmhlcaalaa
open Go.RowKit

set_option maxRecDepth 20000 in
set_option maxHeartbeats 1000000 in
theorem width_any (g : Nat) (a : Option Addr) (cap : Nat) (zs : List Int) (p : Nat) (w : World) (h : Rd w g a cap zs p) (hp : p ≤ 100000000) :
    Calls Try.prog 45 #[.pointer (some ⟨g, 0, none⟩)] w fun e w' => ∃ n : Nat, e = .returned (.int .i64 n) ∧ 1 ≤ n ∧ n ≤ 8 ∧ Dr g a cap zs w w' p 1 := by
  go_enter Try.func45, Try.ntmps45
  go_wp2_with fail
  have hb0 : Below w.heap.size w (w.alloc (.cells #[.int .i64 8, .int .i64 8, .int .i64 4, .int .i64 2, .int .i64 1, .int .i64 1] 3)) := (Below.refl _ _).alloc (Nat.le_refl _) _
  refine (pick_any g a cap zs p 6 _ (h.below hb0) (by omega) (by omega) (by omega)).mono ?_
  rintro e w1 ⟨x, rfl, hx, hg1, hR1⟩
  have hne : some w.heap.size ≠ some g := by have := h.lt; simp; omega
  have hD : Dr g a cap zs w w1 p 1 := ⟨⟨p + 1, Nat.le_refl _, hR1⟩, gr_trans (gr_below hb0) hg1⟩
  have hcell : ∀ j v, (w.alloc (.cells #[.int .i64 8, .int .i64 8, .int .i64 4, .int .i64 2, .int .i64 1, .int .i64 1] 3)).cell? ⟨w.heap.size, j, none⟩ = some v → w1.cell? ⟨w.heap.size, j, none⟩ = some v := fun j v hv => hg1.cell (a := ⟨w.heap.size, j, none⟩) hv hne
  obtain ⟨n, hn, h1, h8⟩ : ∃ n : Nat, w1.cell? ⟨w.heap.size, x, none⟩ = some (.int .i64 n) ∧ 1 ≤ n ∧ n ≤ 8 := by
    match x, hx with
    | 0, _ => exact ⟨8, hcell 0 _ (by simp), by omega, by omega⟩
    | 1, _ => exact ⟨8, hcell 1 _ (by simp), by omega, by omega⟩
    | 2, _ => exact ⟨4, hcell 2 _ (by simp), by omega, by omega⟩
    | 3, _ => exact ⟨2, hcell 3 _ (by simp), by omega, by omega⟩
    | 4, _ => exact ⟨1, hcell 4 _ (by simp), by omega, by omega⟩
    | 5, _ => exact ⟨1, hcell 5 _ (by simp), by omega, by omega⟩
  clear hcell
  go_wp2
  go_ret
  exact ⟨n, rfl, h1, h8, hD⟩
end Go.Proofs.Ytdlbmjmhlcaalaa
