/-
  The laws' helpers over pairs: eqPair, eqPairS, markPairS, heldPairS.
-/
import Derived.Test.YtobgfogafkeieaaPairB
import Derived.Deep.RegionHeld3
namespace Go.Proofs.Ytobgfogafkeieaa
open Go.RowKit

set_option maxHeartbeats 1000000 in
theorem eqPair_any (x y : Int) (w : World) :
    Calls Try.prog 31 #[.agg #[.int .i64 x, .int .i64 y], .agg #[.int .i64 x, .int .i64 y]] w fun e w' => e = .returned (.bool true) ∧ Below w.heap.size w w' := by
  go_enter Try.func31, Try.ntmps31
  go_wp2
  go_ret
  exact ⟨rfl, ((Below.refl _ _).alloc (Nat.le_refl _) _).alloc (by simp) _⟩

set_option maxRecDepth 20000 in
set_option maxHeartbeats 2000000 in
theorem eqPairS_any (a a' : Option Addr) (cap cap' : Nat) (ps : List (Nat × Nat)) (w : World) (hss : PS w a ps) (hss' : PS w a' ps) (hn : ps.length ≤ 1048576) :
    Calls Try.prog 17 #[.slice a ps.length cap, .slice a' ps.length cap'] w fun e w' => e = .returned (.bool true) ∧ Below w.heap.size w w' := by
  go_enter Try.func17, Try.ntmps17
  go_wp2
  go_loopw [5] (fun i wr => ∃ k : Nat, k ≤ ps.length ∧ i = .int .i64 k ∧ Below w.heap.size w wr) (fun i _ => ps.length - (intOf i).toNat)
  case atStart => exact ⟨0, Nat.zero_le _, rfl, Below.refl _ _⟩
  case round =>
    obtain ⟨k, hk, rfl, hb⟩ := hrel
    by_cases hlt : k < ps.length
    · obtain ⟨b, off, rfl, hc⟩ := (hss.below hb).at hlt
      obtain ⟨b', off', rfl, hc'⟩ := (hss'.below hb).at hlt
      obtain ⟨x0, x1⟩ := hc k hlt
      obtain ⟨y0, y1⟩ := hc' k hlt
      have hx0 : ∀ x : Later wr, x.world.cell? ⟨b, off + k * 2, none⟩ = some (.int .i64 (ps[k].1 : Int)) := fun x => cell_later x.kept x0
      have hx1 : ∀ x : Later wr, x.world.cell? ⟨b, off + k * 2 + 1, none⟩ = some (.int .i64 (ps[k].2 : Int)) := fun x => cell_later x.kept x1
      have hy0 : ∀ x : Later wr, x.world.cell? ⟨b', off' + k * 2, none⟩ = some (.int .i64 (ps[k].1 : Int)) := fun x => cell_later x.kept y0
      have hy1 : ∀ x : Later wr, x.world.cell? ⟨b', off' + k * 2 + 1, none⟩ = some (.int .i64 (ps[k].2 : Int)) := fun x => cell_later x.kept y1
      have HC : NKeep (∀ x : Later wr, Calls Try.prog 31 #[.agg #[.int .i64 (ps[k].1 : Int), .int .i64 (ps[k].2 : Int)], .agg #[.int .i64 (ps[k].1 : Int), .int .i64 (ps[k].2 : Int)]] x.world fun e w'' => e = .returned (.bool true) ∧ ∃ y : Later wr, w'' = y.world) := ⟨fun x => x.call (eqPair_any _ _ x.world)⟩
      clear hc hc' x0 x1 y0 y1
      go_wp2
      (haveI := later_any; refine wp_region_later (by kernel_rfl) (by kernel_rfl) ?_; (repeat (go_big_quiet_step (exact HC.out _))); refine wpQuiet_nil ?_; intro _ hwq; obtain ⟨xq, hwq2⟩ := hwq; subst hwq2)
      go_wp2
      go_roundw
      case rel => exact ⟨k + 1, by omega, by go_num, hb.trans (xq.kept.mono hb.size)⟩
      case measure => simp [intOf]; omega
    · obtain rfl : k = ps.length := by omega
      go_wp2
      go_ret
      exact ⟨rfl, hb⟩

def pmark (k i : Nat) : Nat × Nat := (k + 2 * i, k + 2 * i + 1)
def pmarks (k n : Nat) : List (Nat × Nat) := (List.range n).map (pmark k)
theorem pmarks_len (k n : Nat) : (pmarks k n).length = n := by simp [pmarks]

theorem PAt.other {w : World} {g o : Nat} {p : Nat × Nat} (h : PAt w g o p) {i : Nat} {u : Value} (h1 : i ≠ o) (h2 : i ≠ o + 1) : PAt (w.setCell ⟨g, i, none⟩ u) g o p :=
  ⟨(World.cell?_setCell_other _ _ _ _ (by intro e; injection e with _ e; omega)).trans h.1, (World.cell?_setCell_other _ _ _ _ (by intro e; injection e with _ e; omega)).trans h.2⟩

theorem grown_setP (w : World) (g i : Nat) (u : Value) : w.grownBy (w.setCell ⟨g, i, none⟩ u) (some g) :=
  ⟨rfl, rfl, rfl, by simp, fun k _ hne => Below.heap_setCell w _ u k fun e => hne (by rw [e])⟩

def MarkPPost (w : World) (a : Option Addr) (n k : Nat) (e : Ending) (w' : World) : Prop :=
  e = .returned (.int .i64 ((k + 2 * n : Nat) : Int)) ∧ PS w' a (pmarks k n) ∧ w.grownBy w' (Value.slice a n n).ownBlock

set_option maxRecDepth 20000 in
set_option maxHeartbeats 4000000 in
theorem markP_any (a : Option Addr) (cap : Nat) (ps : List (Nat × Nat)) (k B : Nat) (w : World) (hown : w.ownsRow B 50 2 (.slice a ps.length cap) ps.length (pairC ps)) (hk : k + 2 * ps.length ≤ 1099511627776) :
    Calls Try.prog 18 #[.slice a ps.length cap, .int .i64 (k : Int)] w fun e w' => MarkPPost w a ps.length k e w' := by
  have hg0 : w.grownBy w (Value.slice a ps.length ps.length).ownBlock := ⟨rfl, rfl, rfl, Nat.le_refl _, fun _ _ _ => rfl⟩
  by_cases hn : ps = []
  · subst hn
    go_enter Try.func18, Try.ntmps18
    go_wp2
    go_loopw [1, 5] (fun q i wr => q = .int .i64 (k : Int) ∧ i = .int .i64 0 ∧ wr = w) (fun _ _ _ => 0)
    case atStart => exact ⟨rfl, rfl, rfl⟩
    case round =>
      obtain ⟨rfl, rfl, rfl⟩ := hrel
      go_wp2
      go_ret
      exact ⟨rfl, .inl rfl, hg0⟩
  have hpos : 0 < ps.length := List.length_pos_iff.2 hn
  have hps := ps_of_row hown
  obtain ⟨g, rfl, hcs⟩ : ∃ g, a = some ⟨g, 0, none⟩ ∧ ∀ i (h : i < ps.length), PAt w g (i * 2) ps[i] := by
    rcases hown.2 with ⟨_, h0⟩ | ⟨g, c, cur, hv, _⟩
    · omega
    · cases hv
      obtain ⟨b, off, e, hc⟩ := hps.at hpos
      cases e
      exact ⟨g, rfl, fun i hi => by have := hc i hi; rwa [Nat.zero_add] at this⟩
  have hfz : ∀ j, w.frozen? ⟨g, j, none⟩ = false := fun j => hown.frozenAt j
  clear hps hn hown
  go_enter Try.func18, Try.ntmps18
  go_wp2
  go_loopw [1, 5] (fun q i wr => ∃ j : Nat, j ≤ ps.length ∧ i = .int .i64 j ∧ q = .int .i64 ((k + 2 * j : Nat) : Int) ∧ NKeep (∀ i (h : i < ps.length), PAt wr g (i * 2) (if i < j then pmark k i else ps[i])) ∧ (∀ j, wr.frozen? ⟨g, j, none⟩ = false) ∧ w.grownBy wr (some g)) (fun _ i _ => ps.length - (intOf i).toNat)
  case atStart => exact ⟨0, Nat.zero_le _, rfl, by simp, ⟨fun i h => by simpa using hcs i h⟩, hfz, ⟨rfl, rfl, rfl, Nat.le_refl _, fun _ _ _ => rfl⟩⟩
  case round =>
    obtain ⟨j, hj, rfl, rfl, hmix, hf, hg⟩ := hrel
    clear hcs hfz
    by_cases hlt : j < ps.length
    · have hlt' : (j : Int) < ps.length := by omega
      obtain ⟨x0, x1⟩ := hmix.out j hlt
      have f0 := hf (j * 2)
      have f1 := hf (j * 2 + 1)
      have x1' : (wr.setCell ⟨g, j * 2, none⟩ (.int .i64 ((k : Int) + 2 * (j : Int)))).cell? ⟨g, j * 2 + 1, none⟩ = some (.int .i64 ((if j < j then pmark k j else ps[j]).2 : Int)) := (World.cell?_setCell_other _ _ _ _ (by intro e; injection e with _ e; omega)).trans x1
      have f1' : (wr.setCell ⟨g, j * 2, none⟩ (.int .i64 ((k : Int) + 2 * (j : Int)))).frozen? ⟨g, j * 2 + 1, none⟩ = false := (World.frozen?_setCell _ _ _ _).trans f1
      have HF : NKeep (∀ j, wr.frozen? ⟨g, j, none⟩ = false) := ⟨hf⟩
      clear hf
      go_wp2
      go_roundw
      case rel =>
        refine ⟨j + 1, by omega, by go_num, by go_num, ⟨fun i h => ?_⟩, fun i => ?_, ?_⟩
        · by_cases e : i = j
          · subst e
            rw [if_pos (by omega)]
            refine ⟨?_, ?_⟩
            · rw [World.cell?_setCell_other _ _ _ _ (by intro e; injection e with _ e; omega)]
              exact World.cell?_setCell_same _ _ _ x0
            · rw [World.cell?_setCell_same _ _ _ x1']
              unfold pmark
              congr 2
          · have h1 := hmix.out i h
            have h2 : (if i < j + 1 then pmark k i else ps[i]) = if i < j then pmark k i else ps[i] := by
              by_cases h3 : i < j
              · rw [if_pos h3, if_pos (by omega)]
              · rw [if_neg h3, if_neg (by omega)]
            rw [h2]
            exact (h1.other (by omega) (by omega)).other (by omega) (by omega)
        · rw [World.frozen?_setCell, World.frozen?_setCell]; exact HF.out i
        · exact grown_then (grown_then hg (grown_setP wr g _ _) (fun _ e => .inl e)) (grown_setP _ g _ _) (fun _ e => .inl e)
      case measure => simp [intOf]; omega
    · obtain rfl : j = ps.length := by omega
      go_wp2
      go_ret
      refine ⟨rfl, .inr ⟨g, 0, rfl, fun i hi => ?_⟩, hg⟩
      rw [pmarks_len] at hi
      have := hmix.out i hi
      rw [if_pos hi] at this
      simpa [pmarks] using this

set_option maxRecDepth 20000 in
set_option maxHeartbeats 2000000 in
theorem heldP_any (a : Option Addr) (cap n k : Nat) (w : World) (hss : PS w a (pmarks k n)) (hk : k + 2 * n ≤ 1099511627776) :
    Calls Try.prog 19 #[.slice a n cap, .int .i64 (k : Int)] w fun e w' => e = .returned (.int .i64 ((k + 2 * n : Nat) : Int)) ∧ Below w.heap.size w w' := by
  go_enter Try.func19, Try.ntmps19
  go_wp2
  go_loopw [1, 5] (fun q i wr => ∃ j : Nat, j ≤ n ∧ i = .int .i64 j ∧ q = .int .i64 ((k + 2 * j : Nat) : Int) ∧ Below w.heap.size w wr) (fun _ i _ => n - (intOf i).toNat)
  case atStart => exact ⟨0, Nat.zero_le _, rfl, by simp, Below.refl _ _⟩
  case round =>
    obtain ⟨j, hj, rfl, rfl, hb⟩ := hrel
    by_cases hlt : j < n
    · obtain ⟨b, off, rfl, hc⟩ := (hss.below hb).at (k := j) (by rw [pmarks_len]; exact hlt)
      obtain ⟨x0, x1⟩ := hc j (by rw [pmarks_len]; exact hlt)
      have e0 : ((pmarks k n)[j]'(by rw [pmarks_len]; exact hlt)) = pmark k j := by simp [pmarks]
      rw [e0] at x0 x1
      unfold pmark at x0 x1
      simp only at x0 x1
      rw [show ((k + 2 * j + 1 : Nat) : Int) = ((k + 2 * j : Nat) : Int) + 1 by omega] at x1
      generalize hq : (k + 2 * j : Nat) = q at *
      have HQ : NKeep (k + 2 * j = q) := ⟨hq⟩
      have hq2 : q ≤ 1099511627776 := by omega
      clear hc e0 hq
      go_wp2
      go_roundw
      case rel => exact ⟨j + 1, by omega, by go_num, by have := HQ.out; congr 1; omega, hb⟩
      case measure => simp [intOf]; omega
    · obtain rfl : j = n := by omega
      go_wp2
      go_ret
      exact ⟨rfl, hb⟩
end Go.Proofs.Ytobgfogafkeieaa
