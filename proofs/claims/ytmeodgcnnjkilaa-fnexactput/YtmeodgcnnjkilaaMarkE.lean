/-
  The laws' marks over entries: laws.markEntryS, markTree.
-/
import Derived.Test.YtmeodgcnnjkilaaMarkB
import Derived.Test.YtmeodgcnnjkilaaEntL
import Derived.Test.YtmeodgcnnjkilaaSplitP
namespace Go.Proofs.Ytmeodgcnnjkilaa
open Go.RowKit

def markEn (k : Nat) : En := ⟨mkS k, mkS (k + 1), decide ((k + 2) % 3 = 0)⟩
def marksE (k n : Nat) : List En := (List.range n).map fun i => markEn (k + 3 * i)
theorem marksE_len (k n : Nat) : (marksE k n).length = n := by simp [marksE]
theorem marksE_at (k n i : Nat) (h : i < (marksE k n).length) : (marksE k n)[i] = markEn (k + 3 * i) := by simp [marksE]

theorem mark_rem (k j : Nat) : (((k : Int) + 3 * (j : Int) + 1 + 1) % 3 == 0) = decide ((k + 3 * j + 2) % 3 = 0) := by
  by_cases h : (k + 3 * j + 2) % 3 = 0
  · rw [decide_eq_true h, beq_iff_eq]; omega
  · rw [decide_eq_false h, Bool.eq_false_iff, ne_eq, beq_iff_eq]; omega

/-- Cells of an entry at a place. -/
def EAt (w : World) (g i : Nat) (e : En) : Prop := w.cell? ⟨g, i * 3, none⟩ = some (.string e.path) ∧ w.cell? ⟨g, i * 3 + 1, none⟩ = some (.string e.text) ∧ w.cell? ⟨g, i * 3 + 2, none⟩ = some (.bool e.runs)
theorem EAt.later {w w' : World} {g i : Nat} {e : En} (h : EAt w g i e) (hb : Below w.heap.size w w') : EAt w' g i e := ⟨cell_later hb h.1, cell_later hb h.2.1, cell_later hb h.2.2⟩
theorem EAt.other {w : World} {g i o : Nat} {e : En} {u : Value} (h : EAt w g i e) (ho : o < i * 3 ∨ i * 3 + 3 ≤ o) : EAt (w.setCell ⟨g, o, none⟩ u) g i e := by
  obtain ⟨h1, h2, h3⟩ := h
  refine ⟨?_, ?_, ?_⟩
  · rw [World.cell?_setCell_other _ _ _ _ (by intro e; injection e with _ e; omega)]; exact h1
  · rw [World.cell?_setCell_other _ _ _ _ (by intro e; injection e with _ e; omega)]; exact h2
  · rw [World.cell?_setCell_other _ _ _ _ (by intro e; injection e with _ e; omega)]; exact h3
/-- The entries as they are while marks are laid. -/
def MixE (k : Nat) (ts : List En) (j : Nat) (w : World) (g : Nat) : Prop := ∀ i (h : i < ts.length), EAt w g i (if i < j then markEn (k + 3 * i) else ts[i])

def MarkEPost (w : World) (B : Nat) (a : Option Addr) (n k : Nat) (e : Ending) (w' : World) : Prop :=
  e = .returned (.int .i64 ((k + 3 * n : Nat) : Int)) ∧ EL B w' a (marksE k n) ∧ ∃ row, w.grownBy w' row ∧ ∀ r, row = some r → 0 < n ∧ a = some ⟨r, 0, none⟩

set_option maxRecDepth 20000 in
set_option maxHeartbeats 2000000 in
theorem markEs_any (a : Option Addr) (cap : Nat) (ts : List En) (k B : Nat) (w : World) (hel : EL B w a ts) (h0 : 0 < k) (hk : k + 3 * ts.length ≤ 1099511627776) :
    Calls Try.prog 38 #[.slice a ts.length cap, .int .i64 k] w fun e w' => MarkEPost w B a ts.length k e w' := by
  by_cases hn : ts = []
  · subst hn
    go_enter Try.func38, Try.ntmps38
    go_wp2
    go_loopw [1, 5] (fun q i wr => q = .int .i64 k ∧ i = .int .i64 0 ∧ wr = w) (fun _ _ _ => 0)
    case atStart => exact ⟨rfl, rfl, rfl⟩
    case round =>
      obtain ⟨rfl, rfl, rfl⟩ := hrel
      go_wp2
      go_ret
      exact ⟨rfl, EL.nil _ _ _, none, ⟨rfl, rfl, rfl, Nat.le_refl _, fun _ _ _ => rfl⟩, fun r h => by cases h⟩
  obtain ⟨g, rfl, hBg, hgw, hfz, hcs⟩ : ∃ g, a = some ⟨g, 0, none⟩ ∧ B ≤ g ∧ g < w.heap.size ∧ (∀ j, w.frozen? ⟨g, j, none⟩ = false) ∧ ∀ i (h : i < ts.length), EAt w g i ts[i] := by
    rcases hel with h | h
    · exact absurd h hn
    · exact h
  have hpos : 0 < ts.length := List.length_pos_iff.2 hn
  clear hel hn
  go_enter Try.func38, Try.ntmps38
  go_wp2
  go_loopw [1, 5] (fun q i wr => ∃ j : Nat, j ≤ ts.length ∧ i = .int .i64 j ∧ q = .int .i64 ((k + 3 * j : Nat) : Int) ∧ Keep (MixE k ts j wr g) ∧ (∀ j, wr.frozen? ⟨g, j, none⟩ = false) ∧ w.grownBy wr (some g)) (fun _ i _ => ts.length - (intOf i).toNat)
  case atStart => exact ⟨0, Nat.zero_le _, rfl, by simp, ⟨fun i h => by simpa using hcs i h⟩, hfz, ⟨rfl, rfl, rfl, Nat.le_refl _, fun _ _ _ => rfl⟩⟩
  case round =>
    obtain ⟨j, hj, rfl, rfl, hmix, hf, hg⟩ := hrel
    clear hcs hfz
    by_cases hlt : j < ts.length
    · have hlt' : (j : Int) < ts.length := by omega
      have hgr : g < wr.heap.size := Nat.lt_of_lt_of_le hgw hg.size
      go_wp2_with fail
      refine (markText_any (k + 3 * j) wr (by omega) (by omega)).mono ?_
      rintro e w1 ⟨rfl, hb1⟩
      have hmix1 : Keep (MixE k ts j w1 g) := ⟨fun i h => (hmix.out i h).later hb1⟩
      have hf1 : ∀ j, w1.frozen? ⟨g, j, none⟩ = false := fun j => (hb1.frozen (p := ⟨g, j, none⟩) hgr).trans (hf j)
      have hg1 := grown_trans hg (grown_below (row := some g) hb1)
      obtain ⟨x0, x1, x2⟩ := hmix1.out j hlt
      have hgr1 : g < w1.heap.size := Nat.lt_of_lt_of_le hgr hb1.size
      clear hmix hf hg hb1 hgr
      have hw1 : w1.heap.size ≤ (w1.setCell ⟨g, j * 3, none⟩ (.string (mkS (k + 3 * j)))).heap.size := by simp
      have hm2 := markText_any (k + 3 * j + 1) (w1.setCell ⟨g, j * 3, none⟩ (.string (mkS (k + 3 * j)))) (by omega) (by omega)
      rw [show ((k + 3 * j + 1 : Nat) : Int) = (k : Int) + 3 * (j : Int) + 1 by omega] at hm2
      go_wp2_with fail
      refine hm2.mono ?_
      rintro e w2 ⟨rfl, hb2⟩
      have hgr2 : g < w2.heap.size := Nat.lt_of_lt_of_le hgr1 (Nat.le_trans hw1 hb2.size)
      have hf2 : ∀ j, w2.frozen? ⟨g, j, none⟩ = false := fun i => (hb2.frozen (p := ⟨g, i, none⟩) (Nat.lt_of_lt_of_le hgr1 hw1)).trans ((World.frozen?_setCell _ _ _ _).trans (hf1 i))
      have hg2 := grown_trans (grown_trans hg1 (grown_setM w1 g (j * 3) (.string (mkS (k + 3 * j))))) (grown_below (row := some g) hb2)
      have y0 : w2.cell? ⟨g, j * 3, none⟩ = some (.string (mkS (k + 3 * j))) := cell_later hb2 (World.cell?_setCell_same _ _ _ x0)
      have y1 : w2.cell? ⟨g, j * 3 + 1, none⟩ = some (.string (if j < j then markEn (k + 3 * j) else ts[j]).text) := cell_later hb2 ((World.cell?_setCell_other _ _ _ _ (by intro e; injection e with _ e; omega)).trans x1)
      have y2 : w2.cell? ⟨g, j * 3 + 2, none⟩ = some (.bool (if j < j then markEn (k + 3 * j) else ts[j]).runs) := cell_later hb2 ((World.cell?_setCell_other _ _ _ _ (by intro e; injection e with _ e; omega)).trans x2)
      have hmix2 : Keep (∀ i (h : i < ts.length), i ≠ j → EAt w2 g i (if i < j then markEn (k + 3 * i) else ts[i])) := ⟨fun i h hne => ((hmix1.out i h).other (by omega)).later hb2⟩
      clear hmix1 hf1 hg1 hb2 hm2 x0 x1 x2 hgr1 hw1
      go_wp2
      go_roundw
      case rel =>
        refine ⟨j + 1, by omega, by go_num, by go_num, ⟨fun i h => ?_⟩, fun i => ?_, ?_⟩
        · by_cases e : i = j
          · subst e
            rw [if_pos (by omega)]
            refine ⟨?_, ?_, ?_⟩
            · rw [World.cell?_setCell_other _ _ _ _ (by intro e; injection e with _ e; omega), World.cell?_setCell_other _ _ _ _ (by intro e; injection e with _ e; omega)]
              exact y0
            · rw [World.cell?_setCell_other _ _ _ _ (by intro e; injection e with _ e; omega)]
              exact World.cell?_setCell_same _ _ _ y1
            · rw [World.cell?_setCell_same _ _ _ ((World.cell?_setCell_other _ _ _ _ (by intro e; injection e with _ e; omega)).trans y2), mark_rem k i]
              rfl
          · have h1 := hmix2.out i h e
            have h2 : (if i < j + 1 then markEn (k + 3 * i) else ts[i]) = if i < j then markEn (k + 3 * i) else ts[i] := by
              by_cases h3 : i < j
              · rw [if_pos h3, if_pos (by omega)]
              · rw [if_neg h3, if_neg (by omega)]
            rw [h2]
            exact (h1.other (by omega)).other (by omega)
        · rw [World.frozen?_setCell, World.frozen?_setCell]; exact hf2 i
        · exact grown_trans (grown_trans hg2 (grown_setM _ g _ _)) (grown_setM _ g _ _)
      case measure => simp [intOf]; omega
    · obtain rfl : j = ts.length := by omega
      go_wp2
      go_ret
      refine ⟨rfl, ?_, some g, hg, fun r h => by cases h; exact ⟨hpos, rfl⟩⟩
      refine .inr ⟨g, rfl, hBg, Nat.lt_of_lt_of_le hgw hg.size, hf, fun i hi => ?_⟩
      have hi' : i < ts.length := by rw [marksE_len] at hi; exact hi
      have := hmix.out i hi'
      rw [if_pos hi'] at this
      rw [marksE_at]
      exact this

set_option maxRecDepth 20000 in
set_option maxHeartbeats 1000000 in
theorem markTree_any (a : Option Addr) (cap : Nat) (ts : List En) (B : Nat) (w : World) (hel : EL B w a ts) (hn : ts.length ≤ 1048576) :
    Calls Try.prog 14 #[.agg #[.slice a ts.length cap], .int .i64 1] w fun e w' => MarkEPost w B a ts.length 1 e w' := by
  have hb0 : Below w.heap.size w (w.alloc (.cells #[.slice a ts.length cap] 31)) := (Below.refl _ _).alloc (Nat.le_refl _) _
  go_enter Try.func14, Try.ntmps14
  go_wp2_with fail
  refine (markEs_any a cap ts 1 B _ (hel.below hb0) (by omega) (by omega)).mono ?_
  rintro e w1 ⟨rfl, hel1, row, hg1, hr1⟩
  go_wp2
  go_ret
  exact ⟨rfl, hel1, row, grown_trans (grown_below hb0) hg1, hr1⟩
end Go.Proofs.Ytmeodgcnnjkilaa
