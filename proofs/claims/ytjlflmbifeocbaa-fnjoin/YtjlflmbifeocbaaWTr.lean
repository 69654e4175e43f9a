/-
  laws.wTree.
-/
import Derived.Test.YtjlflmbifeocbaaDrawPth
import Derived.Test.YtjlflmbifeocbaaEntB
import Derived.Test.YtjlflmbifeocbaaLaterQ
import Derived.Deep.DeepCutAuto
namespace Go.Proofs.Ytjlflmbifeocbaa
open Go.RowKit

/-- A tree in a box. -/
structure TBx (b : Nat) (ad : Option Addr) (cp : Nat) (ts : List En) (W : World) : Prop where
  c : W.cell? ⟨b, 0, none⟩ = some (.slice ad ts.length cp)
  es : ES W ad ts
theorem TBx.later {b : Nat} {ad : Option Addr} {cp : Nat} {ts : List En} {W W' : World} (h : TBx b ad cp ts W) (hb : Below W.heap.size W W') : TBx b ad cp ts W' := ⟨cell_later hb h.c, h.es.below hb⟩
theorem TBx.new {ad : Option Addr} {cp : Nat} {ts : List En} {W : World} (h : ES W ad ts) : TBx W.heap.size ad cp ts (W.alloc (.cells #[.slice ad ts.length cp] 25)) := ⟨by simp, h.below (below_oneD _ _)⟩

set_option maxRecDepth 20000 in
set_option maxHeartbeats 2000000 in
theorem wTree_any (a b : Option Addr) (ca cb : Nat) (ts : List En) (w : World) (ha : ES w a ts) (hb : ES w b ts) (hn : ts.length ≤ 1048576) :
    Calls Try.prog 12 #[.agg #[.slice a ts.length ca], .agg #[.slice b ts.length cb]] w fun e w' => e = .returned (.bool true) ∧ Below w.heap.size w w' := by
  have hal : Below w.heap.size w ((w.alloc (.cells #[.slice a ts.length ca] 25)).alloc (.cells #[.slice b ts.length cb] 25)) := ((Below.refl _ _).alloc (Nat.le_refl _) _).alloc (by simp) _
  have m0 : ((w.alloc (.cells #[.slice a ts.length ca] 25)).alloc (.cells #[.slice b ts.length cb] 25)).cell? ⟨w.heap.size, 0, none⟩ = some (.slice a ts.length ca) := by simp [go_sem]
  have n0 : ((w.alloc (.cells #[.slice a ts.length ca] 25)).alloc (.cells #[.slice b ts.length cb] 25)).cell? ⟨w.heap.size + 1, 0, none⟩ = some (.slice b ts.length cb) := by simp [go_sem]
  go_enter Try.func12, Try.ntmps12
  go_wp2
  generalize (w.alloc (.cells #[.slice a ts.length ca] 25)).alloc (.cells #[.slice b ts.length cb] 25) = W0 at *
  go_loopw [5] (fun i wr => ∃ k : Nat, i = .int .i64 k ∧ k ≤ ts.length ∧ Below W0.heap.size W0 wr) (fun i _ => ts.length - (intOf i).toNat)
  case atStart => exact ⟨0, rfl, Nat.zero_le _, Below.refl _ _⟩
  case round =>
    obtain ⟨k, rfl, hk, hB⟩ := hrel
    have M := cell_later hB m0
    have N := cell_later hB n0
    have hBw := hal.trans (hB.mono hal.size)
    by_cases hlt : k < ts.length
    · have hlt' : (k : Int) < ts.length := by omega
      obtain ⟨b1, o1, rfl, h1⟩ := (ha.below hBw).at hlt
      obtain ⟨b2, o2, rfl, h2⟩ := (hb.below hBw).at hlt
      obtain ⟨x0, x1, x2⟩ := h1 k hlt
      obtain ⟨y0, y1, y2⟩ := h2 k hlt
      clear h1 h2
      go_wp2
      go_quiet (fail)
      go_wp2
      go_roundw
      case rel => exact ⟨k + 1, by congr 1, hlt, below_drewN hB _⟩
      case measure => simp only [intOf]; omega
    · obtain rfl : k = ts.length := by omega
      go_wp2
      go_ret
      exact ⟨rfl, hBw⟩
end Go.Proofs.Ytjlflmbifeocbaa
