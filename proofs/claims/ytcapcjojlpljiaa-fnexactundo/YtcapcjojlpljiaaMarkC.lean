/-
  The laws' marks over changes: laws.markChangeS, markPatch.
-/
import Derived.Test.YtcapcjojlpljiaaMarkB
import Derived.Test.YtcapcjojlpljiaaChOut
namespace Go.Proofs.Ytcapcjojlpljiaa
open Go.RowKit

def rem3 (n : Nat) : Bool := decide (n % 3 = 0)
def markCh (k : Nat) : Ch := ⟨mkS k, ⟨rem3 (k + 1), mkS (k + 2), rem3 (k + 3)⟩, ⟨rem3 (k + 4), mkS (k + 5), rem3 (k + 6)⟩⟩
def marksC (k n : Nat) : List Ch := (List.range n).map fun i => markCh (k + 7 * i)
theorem marksC_len (k n : Nat) : (marksC k n).length = n := by simp [marksC]
theorem marksC_at (k n i : Nat) (h : i < (marksC k n).length) : (marksC k n)[i] = markCh (k + 7 * i) := by simp [marksC]

theorem rem3_eq {z : Int} {n : Nat} (h : z = (n : Int)) : (z % 3 == 0) = rem3 n := by
  subst h
  unfold rem3
  by_cases h : n % 3 = 0
  · rw [decide_eq_true h, beq_iff_eq]; omega
  · rw [decide_eq_false h, Bool.eq_false_iff, ne_eq, beq_iff_eq]; omega

theorem grown_setL {g : Nat} : ∀ (vs : List Value) (w : World) (o : Nat), w.grownBy (setL w g o vs) (some g)
  | [], _, _ => ⟨rfl, rfl, rfl, Nat.le_refl _, fun _ _ _ => rfl⟩
  | v :: r, w, o => grown_trans (grown_setM w g o v) (grown_setL r _ _)
theorem ChAt.setL {w : World} {g p o : Nat} {c : Ch} {vs : List Value} (h : ChAt w g p c) (hp : p + 7 ≤ o ∨ o + vs.length ≤ p) : ChAt (setL w g o vs) g p c := by
  obtain ⟨h0, h1, h2, h3, h4, h5, h6⟩ := h
  exact ⟨(setL_other _ w o (by omega)).trans h0, (setL_other _ w o (by omega)).trans h1, (setL_other _ w o (by omega)).trans h2, (setL_other _ w o (by omega)).trans h3, (setL_other _ w o (by omega)).trans h4, (setL_other _ w o (by omega)).trans h5, (setL_other _ w o (by omega)).trans h6⟩

/-- The changes as they are while marks are laid. -/
def MixC (k : Nat) (cs : List Ch) (j : Nat) (w : World) (g : Nat) : Prop := ∀ i (h : i < cs.length), ChAt w g (i * 7) (if i < j then markCh (k + 7 * i) else cs[i])

def MarkCPost (w : World) (B : Nat) (a : Option Addr) (n k : Nat) (e : Ending) (w' : World) : Prop :=
  e = .returned (.int .i64 ((k + 7 * n : Nat) : Int)) ∧ CL B w' a (marksC k n) ∧ ∃ row, w.grownBy w' row ∧ ∀ r, row = some r → 0 < n ∧ a = some ⟨r, 0, none⟩

set_option maxRecDepth 20000 in
set_option maxHeartbeats 4000000 in
theorem markCs_any (a : Option Addr) (cap : Nat) (cs : List Ch) (k B : Nat) (w : World) (hel : CL B w a cs) (h0 : 0 < k) (hk : k + 7 * cs.length ≤ 1099511627776) :
    Calls Try.prog 41 #[.slice a cs.length cap, .int .i64 k] w fun e w' => MarkCPost w B a cs.length k e w' := by
  by_cases hn : cs = []
  · subst hn
    go_enter Try.func41, Try.ntmps41
    go_wp2
    go_loopw [1, 5] (fun q i wr => q = .int .i64 k ∧ i = .int .i64 0 ∧ wr = w) (fun _ _ _ => 0)
    case atStart => exact ⟨rfl, rfl, rfl⟩
    case round =>
      obtain ⟨rfl, rfl, rfl⟩ := hrel
      go_wp2
      go_ret
      exact ⟨rfl, CL.nil _ _ _, none, ⟨rfl, rfl, rfl, Nat.le_refl _, fun _ _ _ => rfl⟩, fun r h => by cases h⟩
  obtain ⟨g, rfl, hBg, hgw, hfz, hcs⟩ : ∃ g, a = some ⟨g, 0, none⟩ ∧ B ≤ g ∧ g < w.heap.size ∧ (∀ j, w.frozen? ⟨g, j, none⟩ = false) ∧ ∀ i (h : i < cs.length), ChAt w g (i * 7) cs[i] := by
    rcases hel with h | h
    · exact absurd h hn
    · exact h
  have hpos : 0 < cs.length := List.length_pos_iff.2 hn
  clear hel hn
  go_enter Try.func41, Try.ntmps41
  go_wp2
  go_loopw [1, 5] (fun q i wr => ∃ j : Nat, j ≤ cs.length ∧ i = .int .i64 j ∧ q = .int .i64 ((k + 7 * j : Nat) : Int) ∧ Keep (MixC k cs j wr g) ∧ (∀ j, wr.frozen? ⟨g, j, none⟩ = false) ∧ w.grownBy wr (some g)) (fun _ i _ => cs.length - (intOf i).toNat)
  case atStart => exact ⟨0, Nat.zero_le _, rfl, by simp, ⟨fun i h => by simpa using hcs i h⟩, hfz, ⟨rfl, rfl, rfl, Nat.le_refl _, fun _ _ _ => rfl⟩⟩
  case round =>
    obtain ⟨j, hj, rfl, rfl, hmix, hf, hg⟩ := hrel
    clear hcs hfz
    by_cases hlt : j < cs.length
    · have hlt' : (j : Int) < cs.length := by omega
      have hgr : g < wr.heap.size := Nat.lt_of_lt_of_le hgw hg.size
      have HM2 : Keep (∀ W, Calls Try.prog 57 #[.int .i64 ((k : Int) + 7 * (j : Int) + 1 + 1)] W fun e w' => e = .returned (.string (mkS (k + 7 * j + 2))) ∧ Below W.heap.size W w') := ⟨fun W => by
        have := markText_any (k + 7 * j + 2) W (by omega) (by omega)
        rw [show ((k + 7 * j + 2 : Nat) : Int) = (k : Int) + 7 * (j : Int) + 1 + 1 by omega] at this
        exact this⟩
      have HM5 : Keep (∀ W, Calls Try.prog 57 #[.int .i64 ((k : Int) + 7 * (j : Int) + 1 + 1 + 1 + 1 + 1)] W fun e w' => e = .returned (.string (mkS (k + 7 * j + 5))) ∧ Below W.heap.size W w') := ⟨fun W => by
        have := markText_any (k + 7 * j + 5) W (by omega) (by omega)
        rw [show ((k + 7 * j + 5 : Nat) : Int) = (k : Int) + 7 * (j : Int) + 1 + 1 + 1 + 1 + 1 by omega] at this
        exact this⟩
      go_wp2_with fail
      refine (markText_any (k + 7 * j) wr (by omega) (by omega)).mono ?_
      rintro e w1 ⟨rfl, hb1⟩
      have hmix1 : Keep (MixC k cs j w1 g) := ⟨fun i h => (hmix.out i h).later hb1⟩
      have hf1 : ∀ j, w1.frozen? ⟨g, j, none⟩ = false := fun j => (hb1.frozen (p := ⟨g, j, none⟩) hgr).trans (hf j)
      have hg1 := grown_trans hg (grown_below (row := some g) hb1)
      obtain ⟨x0, x1, x2, x3, x4, x5, x6⟩ := hmix1.out j hlt
      have hgr1 : g < w1.heap.size := Nat.lt_of_lt_of_le hgr hb1.size
      clear hmix hf hg hb1 hgr
      go_wp2_with fail
      refine (HM2.out _).mono ?_
      rintro e w2 ⟨rfl, hb2⟩
      replace hb2 : Below (setL w1 g (j * 7) [.string (mkS (k + 7 * j)), .bool (((k : Int) + 7 * (j : Int) + 1) % 3 == 0)]).heap.size (setL w1 g (j * 7) [.string (mkS (k + 7 * j)), .bool (((k : Int) + 7 * (j : Int) + 1) % 3 == 0)]) w2 := hb2
      rw [rem3_eq (show (k : Int) + 7 * (j : Int) + 1 = ((k + 7 * j + 1 : Nat) : Int) by omega)] at hb2
      have hsz2 : g < (setL w1 g (j * 7) [.string (mkS (k + 7 * j)), .bool (rem3 (k + 7 * j + 1))]).heap.size := by rw [setL_size]; exact hgr1
      have hf2 : ∀ j, w2.frozen? ⟨g, j, none⟩ = false := fun i => (hb2.frozen (p := ⟨g, i, none⟩) hsz2).trans ((setL_frozen _ _ _ _ _).trans (hf1 i))
      have hg2 := grown_trans (grown_trans hg1 (grown_setL [.string (mkS (k + 7 * j)), .bool (rem3 (k + 7 * j + 1))] w1 (j * 7))) (grown_below (row := some g) hb2)
      have hgr2 : g < w2.heap.size := Nat.lt_of_lt_of_le hsz2 hb2.size
      have hsome : ∀ i, i < 2 → ∃ u, w1.cell? ⟨g, j * 7 + i, none⟩ = some u := fun i hi => by
        rcases (show i = 0 ∨ i = 1 by omega) with rfl | rfl
        · exact ⟨_, x0⟩
        · exact ⟨_, x1⟩
      have y0 : w2.cell? ⟨g, j * 7, none⟩ = some (.string (mkS (k + 7 * j))) := cell_later hb2 (setL_at [.string (mkS (k + 7 * j)), .bool (rem3 (k + 7 * j + 1))] w1 (j * 7) hsome 0 _ rfl)
      have y1 : w2.cell? ⟨g, j * 7 + 1, none⟩ = some (.bool (rem3 (k + 7 * j + 1))) := cell_later hb2 (setL_at [.string (mkS (k + 7 * j)), .bool (rem3 (k + 7 * j + 1))] w1 (j * 7) hsome 1 _ rfl)
      replace x2 := cell_later hb2 ((setL_other [.string (mkS (k + 7 * j)), .bool (rem3 (k + 7 * j + 1))] w1 (j * 7) (by simp)).trans x2)
      replace x3 := cell_later hb2 ((setL_other [.string (mkS (k + 7 * j)), .bool (rem3 (k + 7 * j + 1))] w1 (j * 7) (by simp)).trans x3)
      replace x4 := cell_later hb2 ((setL_other [.string (mkS (k + 7 * j)), .bool (rem3 (k + 7 * j + 1))] w1 (j * 7) (by simp)).trans x4)
      replace x5 := cell_later hb2 ((setL_other [.string (mkS (k + 7 * j)), .bool (rem3 (k + 7 * j + 1))] w1 (j * 7) (by simp)).trans x5)
      replace x6 := cell_later hb2 ((setL_other [.string (mkS (k + 7 * j)), .bool (rem3 (k + 7 * j + 1))] w1 (j * 7) (by simp)).trans x6)
      have hmix2 : Keep (∀ i (h : i < cs.length), i ≠ j → ChAt w2 g (i * 7) (if i < j then markCh (k + 7 * i) else cs[i])) := ⟨fun i h hne => ((hmix1.out i h).setL (by simp; omega)).later hb2⟩
      clear hmix1 hf1 hg1 hb2 x0 x1 hgr1 hsz2 hsome
      go_wp2_with fail
      refine (HM5.out _).mono ?_
      rintro e w3 ⟨rfl, hb3⟩
      replace hb3 : Below (setL w2 g (j * 7 + 2) [.string (mkS (k + 7 * j + 2)), .bool (((k : Int) + 7 * (j : Int) + 1 + 1 + 1) % 3 == 0), .bool (((k : Int) + 7 * (j : Int) + 1 + 1 + 1 + 1) % 3 == 0)]).heap.size (setL w2 g (j * 7 + 2) [.string (mkS (k + 7 * j + 2)), .bool (((k : Int) + 7 * (j : Int) + 1 + 1 + 1) % 3 == 0), .bool (((k : Int) + 7 * (j : Int) + 1 + 1 + 1 + 1) % 3 == 0)]) w3 := hb3
      rw [rem3_eq (show (k : Int) + 7 * (j : Int) + 1 + 1 + 1 = ((k + 7 * j + 3 : Nat) : Int) by omega), rem3_eq (show (k : Int) + 7 * (j : Int) + 1 + 1 + 1 + 1 = ((k + 7 * j + 4 : Nat) : Int) by omega)] at hb3
      obtain ⟨vs, hvs⟩ : ∃ vs : List Value, vs = [.string (mkS (k + 7 * j + 2)), .bool (rem3 (k + 7 * j + 3)), .bool (rem3 (k + 7 * j + 4))] := ⟨_, rfl⟩
      rw [← hvs] at hb3
      have hvl : vs.length = 3 := by rw [hvs]; rfl
      have hsz3 : g < (setL w2 g (j * 7 + 2) vs).heap.size := by rw [setL_size]; exact hgr2
      have hf3 : ∀ j, w3.frozen? ⟨g, j, none⟩ = false := fun i => (hb3.frozen (p := ⟨g, i, none⟩) hsz3).trans ((setL_frozen _ _ _ _ _).trans (hf2 i))
      have hg3 := grown_trans (grown_trans hg2 (grown_setL vs w2 (j * 7 + 2))) (grown_below (row := some g) hb3)
      have hsome : ∀ i, i < vs.length → ∃ u, w2.cell? ⟨g, j * 7 + 2 + i, none⟩ = some u := fun i hi => by
        rcases (show i = 0 ∨ i = 1 ∨ i = 2 by omega) with rfl | rfl | rfl
        · exact ⟨_, x2⟩
        · exact ⟨_, x3⟩
        · exact ⟨_, x4⟩
      have z2 : w3.cell? ⟨g, j * 7 + 2, none⟩ = some (.string (mkS (k + 7 * j + 2))) := cell_later hb3 (setL_at _ w2 (j * 7 + 2) hsome 0 _ (by rw [hvs]; rfl))
      have z3 : w3.cell? ⟨g, j * 7 + 3, none⟩ = some (.bool (rem3 (k + 7 * j + 3))) := cell_later hb3 (setL_at _ w2 (j * 7 + 2) hsome 1 _ (by rw [hvs]; rfl))
      have z4 : w3.cell? ⟨g, j * 7 + 4, none⟩ = some (.bool (rem3 (k + 7 * j + 4))) := cell_later hb3 (setL_at _ w2 (j * 7 + 2) hsome 2 _ (by rw [hvs]; rfl))
      have z0 := cell_later hb3 ((setL_other vs w2 (j * 7 + 2) (by omega)).trans y0)
      have z1 := cell_later hb3 ((setL_other vs w2 (j * 7 + 2) (by omega)).trans y1)
      replace x5 := cell_later hb3 ((setL_other vs w2 (j * 7 + 2) (by omega)).trans x5)
      replace x6 := cell_later hb3 ((setL_other vs w2 (j * 7 + 2) (by omega)).trans x6)
      have hmix3 : Keep (∀ i (h : i < cs.length), i ≠ j → ChAt w3 g (i * 7) (if i < j then markCh (k + 7 * i) else cs[i])) := ⟨fun i h hne => ((hmix2.out i h hne).setL (by omega)).later hb3⟩
      have HZ : Keep ((w3.cell? ⟨g, j * 7, none⟩ = some (.string (mkS (k + 7 * j))) ∧ w3.cell? ⟨g, j * 7 + 1, none⟩ = some (.bool (rem3 (k + 7 * j + 1)))) ∧ w3.cell? ⟨g, j * 7 + 2, none⟩ = some (.string (mkS (k + 7 * j + 2))) ∧ w3.cell? ⟨g, j * 7 + 3, none⟩ = some (.bool (rem3 (k + 7 * j + 3))) ∧ w3.cell? ⟨g, j * 7 + 4, none⟩ = some (.bool (rem3 (k + 7 * j + 4)))) := ⟨⟨z0, z1⟩, z2, z3, z4⟩
      clear hmix2 hf2 hg2 hb3 hgr2 hsz3 hsome x2 x3 x4 y0 y1 z0 z1 z2 z3 z4 hvs hvl
      go_wp2
      go_roundw
      case rel =>
        have key : MixC k cs (j + 1) (setL w3 g (j * 7 + 5) [.string (mkS (k + 7 * j + 5)), .bool (((k : Int) + 7 * (j : Int) + 1 + 1 + 1 + 1 + 1 + 1) % 3 == 0)]) g := by
          rw [rem3_eq (show (k : Int) + 7 * (j : Int) + 1 + 1 + 1 + 1 + 1 + 1 = ((k + 7 * j + 6 : Nat) : Int) by omega)]
          intro i h
          by_cases e : i = j
          · subst e
            rw [if_pos (by omega)]
            obtain ⟨⟨z0, z1⟩, z2, z3, z4⟩ := HZ.out
            have hsome : ∀ q, q < 2 → ∃ u, w3.cell? ⟨g, i * 7 + 5 + q, none⟩ = some u := fun q hq => by
              rcases (show q = 0 ∨ q = 1 by omega) with rfl | rfl
              · exact ⟨_, x5⟩
              · exact ⟨_, x6⟩
            exact ⟨(setL_other _ w3 _ (by omega)).trans z0, (setL_other _ w3 _ (by omega)).trans z1, (setL_other _ w3 _ (by omega)).trans z2, (setL_other _ w3 _ (by omega)).trans z3, (setL_other _ w3 _ (by omega)).trans z4, setL_at [.string (mkS (k + 7 * i + 5)), .bool (rem3 (k + 7 * i + 6))] w3 (i * 7 + 5) hsome 0 _ rfl, setL_at [.string (mkS (k + 7 * i + 5)), .bool (rem3 (k + 7 * i + 6))] w3 (i * 7 + 5) hsome 1 _ rfl⟩
          · have h1 := hmix3.out i h e
            have h2 : (if i < j + 1 then markCh (k + 7 * i) else cs[i]) = if i < j then markCh (k + 7 * i) else cs[i] := by
              by_cases h3 : i < j
              · rw [if_pos h3, if_pos (by omega)]
              · rw [if_neg h3, if_neg (by omega)]
            rw [h2]
            exact h1.setL (by simp; omega)
        refine ⟨j + 1, by omega, by go_num, by go_num, ⟨key⟩, fun i => ?_, ?_⟩
        · exact (World.frozen?_setCell _ _ _ _).trans ((World.frozen?_setCell _ _ _ _).trans (hf3 i))
        · exact grown_trans (grown_trans hg3 (grown_setM _ g _ _)) (grown_setM _ g _ _)
      case measure => simp [intOf]; omega
    · obtain rfl : j = cs.length := by omega
      go_wp2
      go_ret
      refine ⟨rfl, ?_, some g, hg, fun r h => by cases h; exact ⟨hpos, rfl⟩⟩
      refine .inr ⟨g, rfl, hBg, Nat.lt_of_lt_of_le hgw hg.size, hf, fun i hi => ?_⟩
      have hi' : i < cs.length := by rw [marksC_len] at hi; exact hi
      have := hmix.out i hi'
      rw [if_pos hi'] at this
      rw [marksC_at]
      exact this

set_option maxRecDepth 20000 in
set_option maxHeartbeats 1000000 in
theorem markPatch_any (a : Option Addr) (cap : Nat) (cs : List Ch) (B : Nat) (w : World) (hel : CL B w a cs) (hn : cs.length ≤ 1048576) :
    Calls Try.prog 23 #[.agg #[.slice a cs.length cap], .int .i64 1] w fun e w' => MarkCPost w B a cs.length 1 e w' := by
  have hb0 : Below w.heap.size w (w.alloc (.cells #[.slice a cs.length cap] 40)) := (Below.refl _ _).alloc (Nat.le_refl _) _
  go_enter Try.func23, Try.ntmps23
  go_wp2_with fail
  refine (markCs_any a cap cs 1 B _ (hel.below hb0) (by omega) (by omega)).mono ?_
  rintro e w1 ⟨rfl, hel1, row, hg1, hr1⟩
  go_wp2
  go_ret
  exact ⟨rfl, hel1, row, grown_trans (grown_below hb0) hg1, hr1⟩
end Go.Proofs.Ytcapcjojlpljiaa
