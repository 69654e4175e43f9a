/-
  laws.wPatch.
-/
import Derived.Test.YtjlflmbifeocbaaChangesB
import Derived.Test.YtjlflmbifeocbaaLaterQ
import Derived.Test.YtjlflmbifeocbaaDrawPth
import Derived.Deep.DeepCutAuto
namespace Go.Proofs.Ytjlflmbifeocbaa
open Go.RowKit

set_option maxRecDepth 20000 in
set_option maxHeartbeats 2000000 in
theorem wPatch_any (a b : Option Addr) (ca cb : Nat) (ts : List Ch) (w : World) (ha : CS w a ts) (hb : CS w b ts) (hn : ts.length ≤ 1048576) :
    Calls Try.prog 7 #[.agg #[.slice a ts.length ca], .agg #[.slice b ts.length cb]] w fun e w' => e = .returned (.bool true) ∧ Below w.heap.size w w' := by
  have hal : Below w.heap.size w ((w.alloc (.cells #[.slice a ts.length ca] 30)).alloc (.cells #[.slice b ts.length cb] 30)) := ((Below.refl _ _).alloc (Nat.le_refl _) _).alloc (by simp) _
  have m0 : ((w.alloc (.cells #[.slice a ts.length ca] 30)).alloc (.cells #[.slice b ts.length cb] 30)).cell? ⟨w.heap.size, 0, none⟩ = some (.slice a ts.length ca) := by simp [go_sem]
  have n0 : ((w.alloc (.cells #[.slice a ts.length ca] 30)).alloc (.cells #[.slice b ts.length cb] 30)).cell? ⟨w.heap.size + 1, 0, none⟩ = some (.slice b ts.length cb) := by simp [go_sem]
  go_enter Try.func7, Try.ntmps7
  go_wp2
  generalize (w.alloc (.cells #[.slice a ts.length ca] 30)).alloc (.cells #[.slice b ts.length cb] 30) = W0 at *
  go_loopw [5] (fun i wr => ∃ k : Nat, i = .int .i64 k ∧ k ≤ ts.length ∧ Below W0.heap.size W0 wr) (fun i _ => ts.length - (intOf i).toNat)
  case atStart => exact ⟨0, rfl, Nat.zero_le _, Below.refl _ _⟩
  case round =>
    obtain ⟨k, rfl, hk, hB⟩ := hrel
    have M := cell_later hB m0
    have N := cell_later hB n0
    have hBw := hal.trans (hB.mono hal.size)
    by_cases hlt : k < ts.length
    · have hlt' : (k : Int) < ts.length := by omega
      obtain ⟨b1, o1, rfl, h1⟩ := (ha.below hBw).at hlt
      obtain ⟨b2, o2, rfl, h2⟩ := (hb.below hBw).at hlt
      obtain ⟨x0, x1, x2, x3, x4, x5, x6⟩ := h1 k hlt
      obtain ⟨y0, y1, y2, y3, y4, y5, y6⟩ := h2 k hlt
      clear h1 h2
      go_wp2
      go_quiet (fail)
      go_wp2
      go_roundw
      case rel => exact ⟨k + 1, by congr 1, hlt, below_drewN hB _⟩
      case measure => simp only [intOf]; omega
    · obtain rfl : k = ts.length := by omega
      go_wp2
      go_ret
      exact ⟨rfl, hBw⟩
end Go.Proofs.Ytjlflmbifeocbaa
