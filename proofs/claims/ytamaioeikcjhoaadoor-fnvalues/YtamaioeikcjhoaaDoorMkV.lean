/-
  The laws' marks over atoms: laws.markAtomS, markValue, heldAtomS, heldValue.
-/
import Derived.Test.YtamaioeikcjhoaaDoorMarkB
import Derived.Test.YtamaioeikcjhoaaDoorRdI1
namespace Go.Proofs.YtamaioeikcjhoaaDoor
open Go.RowKit

def markAt (k : Nat) : At := ⟨k, (k + 1 : Nat), mkS (k + 2), (k + 3 : Nat)⟩
def marksA (k n : Nat) : List At := (List.range n).map fun i => markAt (k + 4 * i)
theorem marksA_len (k n : Nat) : (marksA k n).length = n := by simp [marksA]
theorem marksA_at (k n i : Nat) (h : i < (marksA k n).length) : (marksA k n)[i] = markAt (k + 4 * i) := by simp [marksA]

/-- Cells of an atom at a place. -/
def AAt (w : World) (g i : Nat) (e : At) : Prop := w.cell? ⟨g, i * 4, none⟩ = some (.int .i64 e.kind) ∧ w.cell? ⟨g, i * 4 + 1, none⟩ = some (.int .i64 e.n) ∧ w.cell? ⟨g, i * 4 + 2, none⟩ = some (.string e.text) ∧ w.cell? ⟨g, i * 4 + 3, none⟩ = some (.int .i64 e.kids)
theorem AAt.later {w w' : World} {g i : Nat} {e : At} (h : AAt w g i e) (hb : Below w.heap.size w w') : AAt w' g i e := ⟨cell_later hb h.1, cell_later hb h.2.1, cell_later hb h.2.2.1, cell_later hb h.2.2.2⟩
theorem AAt.other {w : World} {g i o : Nat} {e : At} {u : Value} (h : AAt w g i e) (ho : o < i * 4 ∨ i * 4 + 4 ≤ o) : AAt (w.setCell ⟨g, o, none⟩ u) g i e := by
  obtain ⟨h1, h2, h3, h4⟩ := h
  refine ⟨?_, ?_, ?_, ?_⟩
  · rw [World.cell?_setCell_other _ _ _ _ (by intro e; injection e with _ e; omega)]; exact h1
  · rw [World.cell?_setCell_other _ _ _ _ (by intro e; injection e with _ e; omega)]; exact h2
  · rw [World.cell?_setCell_other _ _ _ _ (by intro e; injection e with _ e; omega)]; exact h3
  · rw [World.cell?_setCell_other _ _ _ _ (by intro e; injection e with _ e; omega)]; exact h4
/-- Atoms of a call's own. -/
def AL (B : Nat) (w : World) (a : Option Addr) (ts : List At) : Prop :=
  ts = [] ∨ ∃ g, a = some ⟨g, 0, none⟩ ∧ B ≤ g ∧ g < w.heap.size ∧ (∀ j, w.frozen? ⟨g, j, none⟩ = false) ∧ ∀ i (h : i < ts.length), AAt w g i ts[i]
theorem AL.as {B : Nat} {w : World} {a : Option Addr} {ts : List At} (h : AL B w a ts) : AS w a ts := by
  rcases h with h | ⟨g, ha, _, _, _, hc⟩
  · exact .inl h
  · refine .inr ⟨g, 0, ha, fun i hi => ?_⟩
    rw [Nat.zero_add]
    exact hc i hi
theorem AL.nil (B : Nat) (w : World) (a : Option Addr) : AL B w a [] := .inl rfl
theorem AL.mono {B B' : Nat} {w : World} {a : Option Addr} {ts : List At} (h : AL B w a ts) (hB : B' ≤ B) : AL B' w a ts := by
  rcases h with h | ⟨g, ha, h1, h2⟩
  · exact .inl h
  · exact .inr ⟨g, ha, Nat.le_trans hB h1, h2⟩
theorem AL.grown {B : Nat} {w w' : World} {a : Option Addr} {ts : List At} {row : Option Nat} (h : AL B w a ts) (hg : w.grownBy w' row) (hne : ∀ g, a = some ⟨g, 0, none⟩ → B ≤ g → g < w.heap.size → some g ≠ row) : AL B w' a ts := by
  rcases h with h | ⟨g, rfl, h1, h2, h3, h4⟩
  · exact .inl h
  · have hk := hg.block g h2 (hne g rfl h1 h2)
    have hc : ∀ j, w'.cell? ⟨g, j, none⟩ = w.cell? ⟨g, j, none⟩ := fun j => World.cell?_of_block hk
    refine .inr ⟨g, rfl, h1, Nat.lt_of_lt_of_le h2 hg.size, fun j => frozen_ofR hk (h3 j), fun i hi => ?_⟩
    obtain ⟨x0, x1, x2, x3⟩ := h4 i hi
    exact ⟨(hc _).trans x0, (hc _).trans x1, (hc _).trans x2, (hc _).trans x3⟩
theorem AL.below {B : Nat} {w w' : World} {a : Option Addr} {ts : List At} (h : AL B w a ts) (hb : Below w.heap.size w w') : AL B w' a ts :=
  h.grown (row := none) ⟨hb.os, hb.tape, hb.output, hb.size, fun k hk _ => hb.block k hk⟩ (fun _ _ _ _ => by simp)
theorem acells_at : ∀ (us : List At) (i : Nat) (h : i < us.length), (acells us)[i * 4]? = some (.int .i64 us[i].kind) ∧ (acells us)[i * 4 + 1]? = some (.int .i64 us[i].n) ∧ (acells us)[i * 4 + 2]? = some (.string us[i].text) ∧ (acells us)[i * 4 + 3]? = some (.int .i64 us[i].kids)
  | [], i, h => by simp at h
  | e :: us, 0, _ => by simp [acells, At.cells]
  | e :: us, i + 1, h => by
    have ih := acells_at us i (by simpa using h)
    have hs : acells (e :: us) = .int .i64 e.kind :: .int .i64 e.n :: .string e.text :: .int .i64 e.kids :: acells us := by simp [acells, At.cells]
    rw [hs, show (i + 1) * 4 = i * 4 + 4 by omega]
    simpa using ih
theorem al_of_row {B : Nat} {w : World} {e : TypeId} {ad : Option Addr} {cap : Nat} {us : List At} (h : w.ownsRow B e 4 (.slice ad us.length cap) us.length (acells us)) : AL B w ad us := by
  rcases h.2 with ⟨_, h0⟩ | ⟨g, cap', cur, hv, hB, hg, _⟩
  · exact .inl (List.eq_nil_of_length_eq_zero h0)
  · simp only [Value.slice.injEq, true_and] at hv
    obtain ⟨rfl, rfl⟩ := hv
    have hl := acells_len us
    refine .inr ⟨g, rfl, hB, (Array.getElem?_eq_some_iff.1 hg).1, fun j => h.frozenAt j, fun i hi => ?_⟩
    unfold AAt
    rw [h.cellAt (i * 4) (by omega), h.cellAt (i * 4 + 1) (by omega), h.cellAt (i * 4 + 2) (by omega), h.cellAt (i * 4 + 3) (by omega)]
    exact acells_at us i hi
/-- The atoms as they are while marks are laid. -/
def MixA (k : Nat) (ts : List At) (j : Nat) (w : World) (g : Nat) : Prop := ∀ i (h : i < ts.length), AAt w g i (if i < j then markAt (k + 4 * i) else ts[i])

def MarkAPost (w : World) (B : Nat) (a : Option Addr) (n k : Nat) (e : Ending) (w' : World) : Prop :=
  e = .returned (.int .i64 ((k + 4 * n : Nat) : Int)) ∧ AL B w' a (marksA k n) ∧ ∃ row, w.grownBy w' row ∧ ∀ r, row = some r → 0 < n ∧ a = some ⟨r, 0, none⟩

set_option maxRecDepth 20000 in
set_option maxHeartbeats 2000000 in
theorem markAs_any (a : Option Addr) (cap : Nat) (ts : List At) (k B : Nat) (w : World) (hel : AL B w a ts) (h0 : 0 < k) (hk : k + 4 * ts.length ≤ 1099511627776) :
    Calls Tryd.prog 19 #[.slice a ts.length cap, .int .i64 k] w fun e w' => MarkAPost w B a ts.length k e w' := by
  by_cases hn : ts = []
  · subst hn
    go_enter Tryd.func19, Tryd.ntmps19
    go_wp2
    go_loopw [1, 5] (fun q i wr => q = .int .i64 k ∧ i = .int .i64 0 ∧ wr = w) (fun _ _ _ => 0)
    case atStart => exact ⟨rfl, rfl, rfl⟩
    case round =>
      obtain ⟨rfl, rfl, rfl⟩ := hrel
      go_wp2
      go_ret
      exact ⟨rfl, AL.nil _ _ _, none, ⟨rfl, rfl, rfl, Nat.le_refl _, fun _ _ _ => rfl⟩, fun r h => by cases h⟩
  obtain ⟨g, rfl, hBg, hgw, hfz, hcs⟩ : ∃ g, a = some ⟨g, 0, none⟩ ∧ B ≤ g ∧ g < w.heap.size ∧ (∀ j, w.frozen? ⟨g, j, none⟩ = false) ∧ ∀ i (h : i < ts.length), AAt w g i ts[i] := by
    rcases hel with h | h
    · exact absurd h hn
    · exact h
  have hpos : 0 < ts.length := List.length_pos_iff.2 hn
  clear hel hn
  go_enter Tryd.func19, Tryd.ntmps19
  go_wp2
  go_loopw [1, 5] (fun q i wr => ∃ j : Nat, j ≤ ts.length ∧ i = .int .i64 j ∧ q = .int .i64 ((k + 4 * j : Nat) : Int) ∧ RKeep (MixA k ts j wr g) ∧ (∀ j, wr.frozen? ⟨g, j, none⟩ = false) ∧ w.grownBy wr (some g)) (fun _ i _ => ts.length - (intOf i).toNat)
  case atStart => exact ⟨0, Nat.zero_le _, rfl, by simp, ⟨fun i h => by simpa using hcs i h⟩, hfz, ⟨rfl, rfl, rfl, Nat.le_refl _, fun _ _ _ => rfl⟩⟩
  case round =>
    obtain ⟨j, hj, rfl, rfl, hmix, hf, hg⟩ := hrel
    clear hcs hfz
    by_cases hlt : j < ts.length
    · have hlt' : (j : Int) < ts.length := by omega
      have hgr : g < wr.heap.size := Nat.lt_of_lt_of_le hgw hg.size
      obtain ⟨x0, x1, x2, x3⟩ := hmix.out j hlt
      have hw1 : wr.heap.size ≤ ((wr.setCell ⟨g, j * 4, none⟩ (.int .i64 ((k : Int) + 4 * (j : Int)))).setCell ⟨g, j * 4 + 1, none⟩ (.int .i64 ((k : Int) + 4 * (j : Int) + 1))).heap.size := by simp
      have hm2 := markText_any (k + 4 * j + 2) ((wr.setCell ⟨g, j * 4, none⟩ (.int .i64 ((k : Int) + 4 * (j : Int)))).setCell ⟨g, j * 4 + 1, none⟩ (.int .i64 ((k : Int) + 4 * (j : Int) + 1))) (by omega) (by omega)
      rw [show ((k + 4 * j + 2 : Nat) : Int) = (k : Int) + 4 * (j : Int) + 1 + 1 by omega] at hm2
      go_wp2_with fail
      refine hm2.mono ?_
      rintro e w2 ⟨rfl, hb2⟩
      have hgr2 : g < w2.heap.size := Nat.lt_of_lt_of_le hgr (Nat.le_trans hw1 hb2.size)
      have hf2 : ∀ j, w2.frozen? ⟨g, j, none⟩ = false := fun i => (hb2.frozen (p := ⟨g, i, none⟩) (Nat.lt_of_lt_of_le hgr hw1)).trans ((World.frozen?_setCell _ _ _ _).trans ((World.frozen?_setCell _ _ _ _).trans (hf i)))
      have hg2 := grown_trans (grown_trans (grown_trans hg (grown_setM wr g (j * 4) (.int .i64 ((k : Int) + 4 * (j : Int))))) (grown_setM _ g (j * 4 + 1) (.int .i64 ((k : Int) + 4 * (j : Int) + 1)))) (grown_below (row := some g) hb2)
      have y0 : w2.cell? ⟨g, j * 4, none⟩ = some (.int .i64 ((k : Int) + 4 * (j : Int))) := cell_later hb2 ((World.cell?_setCell_other _ _ _ _ (by intro e; injection e with _ e; omega)).trans (World.cell?_setCell_same _ _ _ x0))
      have y1 : w2.cell? ⟨g, j * 4 + 1, none⟩ = some (.int .i64 ((k : Int) + 4 * (j : Int) + 1)) := cell_later hb2 (World.cell?_setCell_same _ _ _ ((World.cell?_setCell_other _ _ _ _ (by intro e; injection e with _ e; omega)).trans x1))
      have y2 : w2.cell? ⟨g, j * 4 + 2, none⟩ = some (.string (if j < j then markAt (k + 4 * j) else ts[j]).text) := cell_later hb2 ((World.cell?_setCell_other _ _ _ _ (by intro e; injection e with _ e; omega)).trans ((World.cell?_setCell_other _ _ _ _ (by intro e; injection e with _ e; omega)).trans x2))
      have y3 : w2.cell? ⟨g, j * 4 + 3, none⟩ = some (.int .i64 (if j < j then markAt (k + 4 * j) else ts[j]).kids) := cell_later hb2 ((World.cell?_setCell_other _ _ _ _ (by intro e; injection e with _ e; omega)).trans ((World.cell?_setCell_other _ _ _ _ (by intro e; injection e with _ e; omega)).trans x3))
      have hmix2 : RKeep (∀ i (h : i < ts.length), i ≠ j → AAt w2 g i (if i < j then markAt (k + 4 * i) else ts[i])) := ⟨fun i h hne => (((hmix.out i h).other (by omega)).other (by omega)).later hb2⟩
      clear hmix hf hg hb2 hm2 x0 x1 x2 x3 hgr hw1
      go_wp2
      go_roundw
      case rel =>
        refine ⟨j + 1, by omega, by go_num, by go_num, ⟨fun i h => ?_⟩, fun i => ?_, ?_⟩
        · by_cases e : i = j
          · subst e
            rw [if_pos (by omega)]
            refine ⟨?_, ?_, ?_, ?_⟩
            · rw [World.cell?_setCell_other _ _ _ _ (by intro e; injection e with _ e; omega), World.cell?_setCell_other _ _ _ _ (by intro e; injection e with _ e; omega), y0]
              simp [markAt]
            · rw [World.cell?_setCell_other _ _ _ _ (by intro e; injection e with _ e; omega), World.cell?_setCell_other _ _ _ _ (by intro e; injection e with _ e; omega), y1]
              simp [markAt]
            · rw [World.cell?_setCell_other _ _ _ _ (by intro e; injection e with _ e; omega)]
              exact World.cell?_setCell_same _ _ _ y2
            · rw [World.cell?_setCell_same _ _ _ ((World.cell?_setCell_other _ _ _ _ (by intro e; injection e with _ e; omega)).trans y3)]
              simp [markAt]
              try omega
          · have h1 := hmix2.out i h e
            have h2 : (if i < j + 1 then markAt (k + 4 * i) else ts[i]) = if i < j then markAt (k + 4 * i) else ts[i] := by
              by_cases h3 : i < j
              · rw [if_pos h3, if_pos (by omega)]
              · rw [if_neg h3, if_neg (by omega)]
            rw [h2]
            exact (h1.other (by omega)).other (by omega)
        · rw [World.frozen?_setCell, World.frozen?_setCell]; exact hf2 i
        · exact grown_trans (grown_trans hg2 (grown_setM _ g _ _)) (grown_setM _ g _ _)
      case measure => simp [intOf]; omega
    · obtain rfl : j = ts.length := by omega
      go_wp2
      go_ret
      refine ⟨rfl, ?_, some g, hg, fun r h => by cases h; exact ⟨hpos, rfl⟩⟩
      refine .inr ⟨g, rfl, hBg, Nat.lt_of_lt_of_le hgw hg.size, hf, fun i hi => ?_⟩
      have hi' : i < ts.length := by rw [marksA_len] at hi; exact hi
      have := hmix.out i hi'
      rw [if_pos hi'] at this
      rw [marksA_at]
      exact this

set_option maxRecDepth 20000 in
set_option maxHeartbeats 1000000 in
theorem markValue_any (a : Option Addr) (cap : Nat) (ts : List At) (B : Nat) (w : World) (hel : AL B w a ts) (hn : ts.length ≤ 1048576) :
    Calls Tryd.prog 8 #[.agg #[.slice a ts.length cap], .int .i64 1] w fun e w' => MarkAPost w B a ts.length 1 e w' := by
  have hb0 : Below w.heap.size w (w.alloc (.cells #[.slice a ts.length cap] 24)) := (Below.refl _ _).alloc (Nat.le_refl _) _
  go_enter Tryd.func8, Tryd.ntmps8
  go_wp2_with fail
  refine (markAs_any a cap ts 1 B _ (hel.below hb0) (by omega) (by omega)).mono ?_
  rintro e w1 ⟨rfl, hel1, row, hg1, hr1⟩
  go_wp2
  go_ret
  exact ⟨rfl, hel1, row, grown_trans (grown_below hb0) hg1, hr1⟩

set_option maxRecDepth 20000 in
set_option maxHeartbeats 2000000 in
theorem heldAs_any (a : Option Addr) (cap n k : Nat) (w : World) (hss : AS w a (marksA k n)) (h0 : 0 < k) (hk : k + 4 * n ≤ 1099511627776) :
    Calls Tryd.prog 20 #[.slice a n cap, .int .i64 k] w fun e w' => e = .returned (.int .i64 ((k + 4 * n : Nat) : Int)) ∧ Below w.heap.size w w' := by
  have HL : RKeep ((marksA k n).length = n) := ⟨marksA_len k n⟩
  go_enter Tryd.func20, Tryd.ntmps20
  go_wp2
  go_loopw [1, 5] (fun q i wr => ∃ j : Nat, j ≤ n ∧ i = .int .i64 j ∧ q = .int .i64 ((k + 4 * j : Nat) : Int) ∧ Below w.heap.size w wr) (fun _ i _ => n - (intOf i).toNat)
  case atStart => exact ⟨0, Nat.zero_le _, rfl, by simp, Below.refl _ _⟩
  case round =>
    obtain ⟨j, hj, rfl, rfl, hb⟩ := hrel
    by_cases hlt : j < n
    · have hlt' : (j : Int) < n := by omega
      have hjl : j < (marksA k n).length := by rw [HL.out]; exact hlt
      obtain ⟨b, off, rfl, hc⟩ := (hss.below hb).at hjl
      obtain ⟨c0, c1, c2, c3⟩ := hc j hjl
      rw [marksA_at] at c0 c1 c2 c3
      unfold markAt at c0 c1 c2 c3
      simp only at c0 c1 c2 c3
      rw [show ((k + 4 * j : Nat) : Int) = (k : Int) + 4 * (j : Int) by omega] at c0
      rw [show ((k + 4 * j + 1 : Nat) : Int) = (k : Int) + 4 * (j : Int) + 1 by omega] at c1
      rw [show ((k + 4 * j + 3 : Nat) : Int) = (k : Int) + 4 * (j : Int) + 1 + 1 + 1 by omega] at c3
      clear hc hjl
      have HM1 : RKeep (∀ W, Calls Tryd.prog 39 #[.int .i64 ((k : Int) + 4 * (j : Int) + 1 + 1)] W fun e w' => e = .returned (.string (mkS (k + 4 * j + 2))) ∧ Below W.heap.size W w') := ⟨fun W => by
        have := markText_any (k + 4 * j + 2) W (by omega) (by omega)
        rw [show ((k + 4 * j + 2 : Nat) : Int) = (k : Int) + 4 * (j : Int) + 1 + 1 by omega] at this
        exact this⟩
      have hs0 := bs_same (x := mkS (k + 4 * j + 2)) rfl
      generalize mkS (k + 4 * j + 2) = m0 at *
      have hmk := HM1.out wr.drew
      go_wp2_with fail
      go_region_held3 (fun w' => w'.cell? ⟨b, off + j * 4 + 2, none⟩ = some (.string m0)) (first | go_keep | (exact e1))
        ((first | (go_at_call 39; refine hmk.mono ?_; rintro e w1 ⟨rfl, hb1⟩; have e1 := cell_later (w := wr.drew) hb1 c2)))
      have d3 : w1.cell? ⟨b, off + j * 4 + 3, none⟩ = some (.int .i64 ((k : Int) + 4 * (j : Int) + 1 + 1 + 1)) := cell_later (w := wr.drew) hb1 c3
      have hbx : Below w.heap.size w w1 := hb.drew.trans (hb1.mono hb.size)
      clear hb1 hmk c0 c1 c2 c3 e1
      go_wp2
      go_roundw
      case rel => exact ⟨j + 1, by omega, by go_num, by go_num, hbx⟩
      case measure => simp [intOf]; omega
    · obtain rfl : j = n := by omega
      go_wp2
      go_ret
      exact ⟨rfl, hb⟩

set_option maxRecDepth 20000 in
set_option maxHeartbeats 1000000 in
theorem heldValue_any (a : Option Addr) (cap n : Nat) (w : World) (hss : AS w a (marksA 1 n)) (hn : n ≤ 1048576) :
    Calls Tryd.prog 9 #[.agg #[.slice a n cap], .int .i64 1] w fun e w' => e = .returned (.int .i64 ((1 + 4 * n : Nat) : Int)) ∧ Below w.heap.size w w' := by
  have hb0 : Below w.heap.size w (w.alloc (.cells #[.slice a n cap] 24)) := (Below.refl _ _).alloc (Nat.le_refl _) _
  go_enter Tryd.func9, Tryd.ntmps9
  go_wp2_with fail
  refine (heldAs_any a cap n 1 _ (hss.below hb0) (by omega) (by omega)).mono ?_
  rintro e w1 ⟨rfl, hb1⟩
  have hd : ¬ ((1 + 4 * n : Nat) : Int) < 0 := by omega
  go_wp2
  go_ret
  exact ⟨rfl, hb0.trans (hb1.mono hb0.size)⟩
end Go.Proofs.YtamaioeikcjhoaaDoor
