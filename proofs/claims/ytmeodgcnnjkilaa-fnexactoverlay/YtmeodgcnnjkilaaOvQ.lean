/-
  MarkB, MarkE, HeldE, TreeLaw, OpenTree, SizeL, MarkK: laid as one text.
-/
import Derived.Test.YtmeodgcnnjkilaaBase
import Derived.Deep.RegionHeld3
import Derived.Lib.AppendStr
import Derived.WalkKit
import Derived.WalkSpells
import Derived.WalkLawsBesides
import Derived.Deep.Light
import Derived.Test.YtmeodgcnnjkilaaEntL
import Derived.Test.YtmeodgcnnjkilaaSplitP
import Derived.Test.YtmeodgcnnjkilaaEntries
import Derived.Test.YtmeodgcnnjkilaaRows
import Derived.ProofKit
import Derived.OpenShut
import Derived.ChangeOld
import Derived.Below
import Derived.Deep.Slices
import Derived.Lib.SmallJoins
import Derived.Deep.Strs
namespace Go.Proofs.Ytmeodgcnnjkilaa
open Go.RowKit

theorem conv_oneM (x : Int) (w : World) : (convert 87 9 (.slice (some ⟨w.heap.size, 0, none⟩) 1 1)).run Try.prog (w.alloc (.cells #[.int .u8 x] 5)) = .ok (.string (strOfNums [x])) (w.alloc (.cells #[.int .u8 x] 5)) := by
  refine run_convert_bytes_arg _ 87 5 Try.underlying87 Try.underlying5 _ 0 1 1 [x] rfl ?_ 9 Try.underlying9
  intro i hi
  obtain rfl : i = 0 := by omega
  simp

def dgF : Nat → Nat → ByteArray → ByteArray
  | 0, _, out => out
  | f + 1, k, out => if k = 0 then out else dgF f (k / 10) (strOfNums [((48 + k % 10 : Nat) : Int)] ++ out)
theorem dgF_on : ∀ (f g k : Nat) (out : ByteArray), k ≤ f → k ≤ g → dgF f k out = dgF g k out
  | 0, 0, _, _, _, _ => rfl
  | 0, g + 1, k, out, h, _ => by rw [dgF, dgF, if_pos (by omega)]
  | f + 1, 0, k, out, _, h => by rw [dgF, dgF, if_pos (by omega)]
  | f + 1, g + 1, k, out, h1, h2 => by
    rw [dgF, dgF]
    split
    · rfl
    · exact dgF_on f g (k / 10) _ (by omega) (by omega)
def dg (k : Nat) (out : ByteArray) : ByteArray := dgF k k out
theorem dg_zero (out : ByteArray) : dg 0 out = out := rfl
theorem dg_pos {k : Nat} (h : 0 < k) (out : ByteArray) : dg k out = dg (k / 10) (strOfNums [((48 + k % 10 : Nat) : Int)] ++ out) := by
  obtain ⟨m, rfl⟩ : ∃ m, k = m + 1 := ⟨k - 1, by omega⟩
  rw [dg, dgF, if_neg (by omega)]
  exact dgF_on m _ _ _ (by omega) (Nat.le_refl _)
def mkS (k : Nat) : ByteArray := ⟨#[109]⟩ ++ dg k ⟨#[]⟩

set_option maxHeartbeats 1000000 in
theorem markText_any (k : Nat) (w : World) (h0 : 0 < k) (hk : k ≤ 1099511627776) :
    Calls Try.prog 47 #[.int .i64 k] w fun e w' => e = .returned (.string (mkS k)) ∧ Below w.heap.size w w' := by
  have hd : ¬ (k : Int) ≤ 0 := by omega
  go_enter Try.func47, Try.ntmps47
  go_wp2
  go_loopw [0, 3] (fun q o wr => ∃ (q' : Nat) (out : ByteArray), q = .int .i64 q' ∧ o = .string out ∧ out.size + q' ≤ k ∧ dg q' out = dg k ⟨#[]⟩ ∧ Below w.heap.size w wr) (fun q _ _ => (intOf q).toNat)
  case atStart => exact ⟨k, ⟨#[]⟩, rfl, rfl, Nat.le_of_eq (Nat.zero_add k), rfl, Below.refl _ _⟩
  case round =>
    obtain ⟨q, out, rfl, rfl, hle, he, hb⟩ := hrel
    have HE : Hid (dg q out = dg k ⟨#[]⟩) := he
    clear he
    by_cases hq : 0 < q
    · have hq' : (0 : Int) < q := by omega
      have hcv := conv_oneM (48 + (q : Int) % 10)
      have hsz : ¬ 9223372036854775807 < (strOfNums [48 + (q : Int) % 10]).size + out.size := by
        rw [strOfNums_size]; simp; omega
      have HS : Hid ((strOfNums [48 + (q : Int) % 10]).size = 1) := by
        have : (strOfNums [48 + (q : Int) % 10]).size = 1 := by rw [strOfNums_size]; rfl
        exact this
      go_wp2
      go_roundw
      case rel =>
        refine ⟨q / 10, _, by go_num, rfl, ?_, ?_, hb.alloc hb.size _⟩
        · rw [ByteArray.size_append, HS.out]; omega
        · rw [← HE.out, dg_pos hq]
          congr 1
      case measure => simp [intOf]; omega
    · obtain rfl : q = 0 := by omega
      have hsz : ¬ 9223372036854775807 < (⟨#[109]⟩ : ByteArray).size + out.size := by
        have : (⟨#[109]⟩ : ByteArray).size = 1 := rfl
        omega
      have HF : Hid (out = dg k ⟨#[]⟩) := by
        have : out = dg k ⟨#[]⟩ := by rw [← HE.out, dg_zero]
        exact this
      go_wp2
      go_ret
      refine ⟨?_, hb⟩
      unfold mkS
      rw [← HF.out]
      rfl

theorem grown_below {w w' : World} {row : Option Nat} (h : Below w.heap.size w w') : w.grownBy w' row := ⟨h.os, h.tape, h.output, h.size, fun k hk _ => h.block k hk⟩
theorem grown_trans {w w1 w2 : World} {row : Option Nat} (h : w.grownBy w1 row) (k : w1.grownBy w2 row) : w.grownBy w2 row :=
  ⟨k.os.trans h.os, k.tape.trans h.tape, k.output.trans h.output, Nat.le_trans h.size k.size, fun i hi hne => (k.block i (Nat.lt_of_lt_of_le hi h.size) hne).trans (h.block i hi hne)⟩
theorem grown_setM (w : World) (g i : Nat) (u : Value) : w.grownBy (w.setCell ⟨g, i, none⟩ u) (some g) :=
  ⟨rfl, rfl, rfl, by simp, fun k _ hne => Below.heap_setCell w _ u k fun e => hne (by rw [e])⟩

end Go.Proofs.Ytmeodgcnnjkilaa

namespace Go.Proofs.Ytmeodgcnnjkilaa
open Go.RowKit

def markEn (k : Nat) : En := ⟨mkS k, mkS (k + 1), decide ((k + 2) % 3 = 0)⟩
def marksE (k n : Nat) : List En := (List.range n).map fun i => markEn (k + 3 * i)
theorem marksE_len (k n : Nat) : (marksE k n).length = n := by simp [marksE]
theorem marksE_at (k n i : Nat) (h : i < (marksE k n).length) : (marksE k n)[i] = markEn (k + 3 * i) := by simp [marksE]

theorem mark_rem (k j : Nat) : (((k : Int) + 3 * (j : Int) + 1 + 1) % 3 == 0) = decide ((k + 3 * j + 2) % 3 = 0) := by
  by_cases h : (k + 3 * j + 2) % 3 = 0
  · rw [decide_eq_true h, beq_iff_eq]; omega
  · rw [decide_eq_false h, Bool.eq_false_iff, ne_eq, beq_iff_eq]; omega

/-- Cells of an entry at a place. -/
def EAt (w : World) (g i : Nat) (e : En) : Prop := w.cell? ⟨g, i * 3, none⟩ = some (.string e.path) ∧ w.cell? ⟨g, i * 3 + 1, none⟩ = some (.string e.text) ∧ w.cell? ⟨g, i * 3 + 2, none⟩ = some (.bool e.runs)
theorem EAt.later {w w' : World} {g i : Nat} {e : En} (h : EAt w g i e) (hb : Below w.heap.size w w') : EAt w' g i e := ⟨cell_later hb h.1, cell_later hb h.2.1, cell_later hb h.2.2⟩
theorem EAt.other {w : World} {g i o : Nat} {e : En} {u : Value} (h : EAt w g i e) (ho : o < i * 3 ∨ i * 3 + 3 ≤ o) : EAt (w.setCell ⟨g, o, none⟩ u) g i e := by
  obtain ⟨h1, h2, h3⟩ := h
  refine ⟨?_, ?_, ?_⟩
  · rw [World.cell?_setCell_other _ _ _ _ (by intro e; injection e with _ e; omega)]; exact h1
  · rw [World.cell?_setCell_other _ _ _ _ (by intro e; injection e with _ e; omega)]; exact h2
  · rw [World.cell?_setCell_other _ _ _ _ (by intro e; injection e with _ e; omega)]; exact h3
/-- The entries as they are while marks are laid. -/
def MixE (k : Nat) (ts : List En) (j : Nat) (w : World) (g : Nat) : Prop := ∀ i (h : i < ts.length), EAt w g i (if i < j then markEn (k + 3 * i) else ts[i])

def MarkEPost (w : World) (B : Nat) (a : Option Addr) (n k : Nat) (e : Ending) (w' : World) : Prop :=
  e = .returned (.int .i64 ((k + 3 * n : Nat) : Int)) ∧ EL B w' a (marksE k n) ∧ ∃ row, w.grownBy w' row ∧ ∀ r, row = some r → 0 < n ∧ a = some ⟨r, 0, none⟩

set_option maxRecDepth 20000 in
set_option maxHeartbeats 2000000 in
theorem markEs_any (a : Option Addr) (cap : Nat) (ts : List En) (k B : Nat) (w : World) (hel : EL B w a ts) (h0 : 0 < k) (hk : k + 3 * ts.length ≤ 1099511627776) :
    Calls Try.prog 38 #[.slice a ts.length cap, .int .i64 k] w fun e w' => MarkEPost w B a ts.length k e w' := by
  by_cases hn : ts = []
  · subst hn
    go_enter Try.func38, Try.ntmps38
    go_wp2
    go_loopw [1, 5] (fun q i wr => q = .int .i64 k ∧ i = .int .i64 0 ∧ wr = w) (fun _ _ _ => 0)
    case atStart => exact ⟨rfl, rfl, rfl⟩
    case round =>
      obtain ⟨rfl, rfl, rfl⟩ := hrel
      go_wp2
      go_ret
      exact ⟨rfl, EL.nil _ _ _, none, ⟨rfl, rfl, rfl, Nat.le_refl _, fun _ _ _ => rfl⟩, fun r h => by cases h⟩
  obtain ⟨g, rfl, hBg, hgw, hfz, hcs⟩ : ∃ g, a = some ⟨g, 0, none⟩ ∧ B ≤ g ∧ g < w.heap.size ∧ (∀ j, w.frozen? ⟨g, j, none⟩ = false) ∧ ∀ i (h : i < ts.length), EAt w g i ts[i] := by
    rcases hel with h | h
    · exact absurd h hn
    · exact h
  have hpos : 0 < ts.length := List.length_pos_iff.2 hn
  clear hel hn
  go_enter Try.func38, Try.ntmps38
  go_wp2
  go_loopw [1, 5] (fun q i wr => ∃ j : Nat, j ≤ ts.length ∧ i = .int .i64 j ∧ q = .int .i64 ((k + 3 * j : Nat) : Int) ∧ Keep (MixE k ts j wr g) ∧ (∀ j, wr.frozen? ⟨g, j, none⟩ = false) ∧ w.grownBy wr (some g)) (fun _ i _ => ts.length - (intOf i).toNat)
  case atStart => exact ⟨0, Nat.zero_le _, rfl, by simp, ⟨fun i h => by simpa using hcs i h⟩, hfz, ⟨rfl, rfl, rfl, Nat.le_refl _, fun _ _ _ => rfl⟩⟩
  case round =>
    obtain ⟨j, hj, rfl, rfl, hmix, hf, hg⟩ := hrel
    clear hcs hfz
    by_cases hlt : j < ts.length
    · have hlt' : (j : Int) < ts.length := by omega
      have hgr : g < wr.heap.size := Nat.lt_of_lt_of_le hgw hg.size
      go_wp2_with fail
      refine (markText_any (k + 3 * j) wr (by omega) (by omega)).mono ?_
      rintro e w1 ⟨rfl, hb1⟩
      have hmix1 : Keep (MixE k ts j w1 g) := ⟨fun i h => (hmix.out i h).later hb1⟩
      have hf1 : ∀ j, w1.frozen? ⟨g, j, none⟩ = false := fun j => (hb1.frozen (p := ⟨g, j, none⟩) hgr).trans (hf j)
      have hg1 := grown_trans hg (grown_below (row := some g) hb1)
      obtain ⟨x0, x1, x2⟩ := hmix1.out j hlt
      have hgr1 : g < w1.heap.size := Nat.lt_of_lt_of_le hgr hb1.size
      clear hmix hf hg hb1 hgr
      have hw1 : w1.heap.size ≤ (w1.setCell ⟨g, j * 3, none⟩ (.string (mkS (k + 3 * j)))).heap.size := by simp
      have hm2 := markText_any (k + 3 * j + 1) (w1.setCell ⟨g, j * 3, none⟩ (.string (mkS (k + 3 * j)))) (by omega) (by omega)
      rw [show ((k + 3 * j + 1 : Nat) : Int) = (k : Int) + 3 * (j : Int) + 1 by omega] at hm2
      go_wp2_with fail
      refine hm2.mono ?_
      rintro e w2 ⟨rfl, hb2⟩
      have hgr2 : g < w2.heap.size := Nat.lt_of_lt_of_le hgr1 (Nat.le_trans hw1 hb2.size)
      have hf2 : ∀ j, w2.frozen? ⟨g, j, none⟩ = false := fun i => (hb2.frozen (p := ⟨g, i, none⟩) (Nat.lt_of_lt_of_le hgr1 hw1)).trans ((World.frozen?_setCell _ _ _ _).trans (hf1 i))
      have hg2 := grown_trans (grown_trans hg1 (grown_setM w1 g (j * 3) (.string (mkS (k + 3 * j))))) (grown_below (row := some g) hb2)
      have y0 : w2.cell? ⟨g, j * 3, none⟩ = some (.string (mkS (k + 3 * j))) := cell_later hb2 (World.cell?_setCell_same _ _ _ x0)
      have y1 : w2.cell? ⟨g, j * 3 + 1, none⟩ = some (.string (if j < j then markEn (k + 3 * j) else ts[j]).text) := cell_later hb2 ((World.cell?_setCell_other _ _ _ _ (by intro e; injection e with _ e; omega)).trans x1)
      have y2 : w2.cell? ⟨g, j * 3 + 2, none⟩ = some (.bool (if j < j then markEn (k + 3 * j) else ts[j]).runs) := cell_later hb2 ((World.cell?_setCell_other _ _ _ _ (by intro e; injection e with _ e; omega)).trans x2)
      have hmix2 : Keep (∀ i (h : i < ts.length), i ≠ j → EAt w2 g i (if i < j then markEn (k + 3 * i) else ts[i])) := ⟨fun i h hne => ((hmix1.out i h).other (by omega)).later hb2⟩
      clear hmix1 hf1 hg1 hb2 hm2 x0 x1 x2 hgr1 hw1
      go_wp2
      go_roundw
      case rel =>
        refine ⟨j + 1, by omega, by go_num, by go_num, ⟨fun i h => ?_⟩, fun i => ?_, ?_⟩
        · by_cases e : i = j
          · subst e
            rw [if_pos (by omega)]
            refine ⟨?_, ?_, ?_⟩
            · rw [World.cell?_setCell_other _ _ _ _ (by intro e; injection e with _ e; omega), World.cell?_setCell_other _ _ _ _ (by intro e; injection e with _ e; omega)]
              exact y0
            · rw [World.cell?_setCell_other _ _ _ _ (by intro e; injection e with _ e; omega)]
              exact World.cell?_setCell_same _ _ _ y1
            · rw [World.cell?_setCell_same _ _ _ ((World.cell?_setCell_other _ _ _ _ (by intro e; injection e with _ e; omega)).trans y2), mark_rem k i]
              rfl
          · have h1 := hmix2.out i h e
            have h2 : (if i < j + 1 then markEn (k + 3 * i) else ts[i]) = if i < j then markEn (k + 3 * i) else ts[i] := by
              by_cases h3 : i < j
              · rw [if_pos h3, if_pos (by omega)]
              · rw [if_neg h3, if_neg (by omega)]
            rw [h2]
            exact (h1.other (by omega)).other (by omega)
        · rw [World.frozen?_setCell, World.frozen?_setCell]; exact hf2 i
        · exact grown_trans (grown_trans hg2 (grown_setM _ g _ _)) (grown_setM _ g _ _)
      case measure => simp [intOf]; omega
    · obtain rfl : j = ts.length := by omega
      go_wp2
      go_ret
      refine ⟨rfl, ?_, some g, hg, fun r h => by cases h; exact ⟨hpos, rfl⟩⟩
      refine .inr ⟨g, rfl, hBg, Nat.lt_of_lt_of_le hgw hg.size, hf, fun i hi => ?_⟩
      have hi' : i < ts.length := by rw [marksE_len] at hi; exact hi
      have := hmix.out i hi'
      rw [if_pos hi'] at this
      rw [marksE_at]
      exact this

set_option maxRecDepth 20000 in
set_option maxHeartbeats 1000000 in
theorem markTree_any (a : Option Addr) (cap : Nat) (ts : List En) (B : Nat) (w : World) (hel : EL B w a ts) (hn : ts.length ≤ 1048576) :
    Calls Try.prog 14 #[.agg #[.slice a ts.length cap], .int .i64 1] w fun e w' => MarkEPost w B a ts.length 1 e w' := by
  have hb0 : Below w.heap.size w (w.alloc (.cells #[.slice a ts.length cap] 31)) := (Below.refl _ _).alloc (Nat.le_refl _) _
  go_enter Try.func14, Try.ntmps14
  go_wp2_with fail
  refine (markEs_any a cap ts 1 B _ (hel.below hb0) (by omega) (by omega)).mono ?_
  rintro e w1 ⟨rfl, hel1, row, hg1, hr1⟩
  go_wp2
  go_ret
  exact ⟨rfl, hel1, row, grown_trans (grown_below hb0) hg1, hr1⟩
end Go.Proofs.Ytmeodgcnnjkilaa

namespace Go.Proofs.Ytmeodgcnnjkilaa
open Go.RowKit

set_option maxRecDepth 20000 in
set_option maxHeartbeats 2000000 in
theorem heldEs_any (a : Option Addr) (cap n k : Nat) (w : World) (hss : ES w a (marksE k n)) (h0 : 0 < k) (hk : k + 3 * n ≤ 1099511627776) :
    Calls Try.prog 39 #[.slice a n cap, .int .i64 k] w fun e w' => e = .returned (.int .i64 ((k + 3 * n : Nat) : Int)) ∧ Below w.heap.size w w' := by
  have HL : Keep ((marksE k n).length = n) := ⟨marksE_len k n⟩
  go_enter Try.func39, Try.ntmps39
  go_wp2
  go_loopw [1, 5] (fun q i wr => ∃ j : Nat, j ≤ n ∧ i = .int .i64 j ∧ q = .int .i64 ((k + 3 * j : Nat) : Int) ∧ Below w.heap.size w wr) (fun _ i _ => n - (intOf i).toNat)
  case atStart => exact ⟨0, Nat.zero_le _, rfl, by simp, Below.refl _ _⟩
  case round =>
    obtain ⟨j, hj, rfl, rfl, hb⟩ := hrel
    by_cases hlt : j < n
    · have hlt' : (j : Int) < n := by omega
      have hjl : j < (marksE k n).length := by rw [HL.out]; exact hlt
      obtain ⟨b, off, rfl, hc⟩ := (hss.below hb).at hjl
      obtain ⟨c0, c1, c2⟩ := hc j hjl
      rw [marksE_at] at c0 c1 c2
      unfold markEn at c0 c1 c2
      simp only at c0 c1 c2
      clear hc hjl
      have hmk := markText_any (k + 3 * j) wr.drew (by omega) (by omega)
      have hs0 := bs_same (x := mkS (k + 3 * j)) rfl
      have hs1 := bs_same (x := mkS (k + 3 * j + 1)) rfl
      have HM1 : Keep (∀ W, Calls Try.prog 47 #[.int .i64 ((k : Int) + 3 * (j : Int) + 1)] W fun e w' => e = .returned (.string (mkS (k + 3 * j + 1))) ∧ Below W.heap.size W w') := ⟨fun W => by
        have := markText_any (k + 3 * j + 1) W (by omega) (by omega)
        rw [show ((k + 3 * j + 1 : Nat) : Int) = (k : Int) + 3 * (j : Int) + 1 by omega] at this
        exact this⟩
      have hrm := mark_rem k j
      generalize decide ((k + 3 * j + 2) % 3 = 0) = bb at *
      generalize mkS (k + 3 * j) = m0 at *
      generalize mkS (k + 3 * j + 1) = m1 at *
      go_wp2_with fail
      go_region_held3 (fun w' => w'.cell? ⟨b, off + j * 3, none⟩ = some (.string m0)) (first | go_keep | (exact e1))
        ((first | (go_at_call 47; refine hmk.mono ?_; rintro e w1 ⟨rfl, hb1⟩; have e1 := cell_later (w := wr.drew) hb1 c0)))
      have d1 : w1.cell? ⟨b, off + j * 3 + 1, none⟩ = some (.string m1) := cell_later (w := wr.drew) hb1 c1
      have d2 : w1.cell? ⟨b, off + j * 3 + 2, none⟩ = some (.bool bb) := cell_later (w := wr.drew) hb1 c2
      have hbx : Below w.heap.size w w1 := hb.drew.trans (hb1.mono hb.size)
      have hmk2 := HM1.out w1.drew
      clear hb1 hmk c0 c1 c2 e1
      go_wp2_with fail
      go_region_held3 (fun w' => w'.cell? ⟨b, off + j * 3 + 1, none⟩ = some (.string m1)) (first | go_keep | (exact e1))
        ((first | (go_at_call 47; refine hmk2.mono ?_; rintro e w2 ⟨rfl, hb2⟩; have e1 := cell_later (w := w1.drew) hb2 d1)))
      have d3 : w2.cell? ⟨b, off + j * 3 + 2, none⟩ = some (.bool bb) := cell_later (w := w1.drew) hb2 d2
      have hby : Below w.heap.size w w2 := hbx.drew.trans (hb2.mono hbx.size)
      clear hb2 hmk2 d1 d2 e1 hbx hb
      cases bb
      all_goals
        go_wp2
        go_roundw
        case rel => exact ⟨j + 1, by omega, by go_num, by go_num, hby⟩
        case measure => simp [intOf]; omega
    · obtain rfl : j = n := by omega
      go_wp2
      go_ret
      exact ⟨rfl, hb⟩

set_option maxRecDepth 20000 in
set_option maxHeartbeats 1000000 in
theorem heldTree_any (a : Option Addr) (cap n : Nat) (w : World) (hss : ES w a (marksE 1 n)) (hn : n ≤ 1048576) :
    Calls Try.prog 15 #[.agg #[.slice a n cap], .int .i64 1] w fun e w' => e = .returned (.int .i64 ((1 + 3 * n : Nat) : Int)) ∧ Below w.heap.size w w' := by
  have hb0 : Below w.heap.size w (w.alloc (.cells #[.slice a n cap] 31)) := (Below.refl _ _).alloc (Nat.le_refl _) _
  go_enter Try.func15, Try.ntmps15
  go_wp2_with fail
  refine (heldEs_any a cap n 1 _ (hss.below hb0) (by omega) (by omega)).mono ?_
  rintro e w1 ⟨rfl, hb1⟩
  have hd : ¬ ((1 + 3 * n : Nat) : Int) < 0 := by omega
  go_wp2
  go_ret
  exact ⟨rfl, hb0.trans (hb1.mono hb0.size)⟩
end Go.Proofs.Ytmeodgcnnjkilaa

namespace Go.Proofs.Ytmeodgcnnjkilaa
open Go.RowKit

/-- Entries of a call's own, in a block from B up and under C. -/
def EIn (B C : Nat) (w : World) (a : Option Addr) (ts : List En) : Prop :=
  ts = [] ∨ ∃ g, a = some ⟨g, 0, none⟩ ∧ B ≤ g ∧ g < C ∧ (∀ j, w.frozen? ⟨g, j, none⟩ = false) ∧ ∀ i (h : i < ts.length), EAt w g i ts[i]

theorem EL.ein {B C : Nat} {w : World} {a : Option Addr} {ts : List En} (h : EL B w a ts) (hC : w.heap.size ≤ C) : EIn B C w a ts := by
  rcases h with h | ⟨g, h1, h2, h3, h4⟩
  · exact .inl h
  · exact .inr ⟨g, h1, h2, Nat.lt_of_lt_of_le h3 hC, h4⟩
theorem EIn.el {B C : Nat} {w : World} {a : Option Addr} {ts : List En} (h : EIn B C w a ts) (hC : C ≤ w.heap.size) : EL B w a ts := by
  rcases h with h | ⟨g, h1, h2, h3, h4⟩
  · exact .inl h
  · exact .inr ⟨g, h1, h2, Nat.lt_of_lt_of_le h3 hC, h4⟩
theorem EIn.es {B C : Nat} {w : World} {a : Option Addr} {ts : List En} (h : EIn B C w a ts) : ES w a ts := by
  rcases h with h | ⟨g, h1, _, _, _, hc⟩
  · exact .inl h
  · exact .inr ⟨g, 0, h1, fun i hi => by rw [Nat.zero_add]; exact hc i hi⟩
theorem EIn.grown {B C : Nat} {w w' : World} {a : Option Addr} {ts : List En} {row : Option Nat} (h : EIn B C w a ts) (hC : C ≤ w.heap.size) (hg : w.grownBy w' row) (hne : ∀ r, row = some r → r < B ∨ C ≤ r) : EIn B C w' a ts := by
  rcases h with h | ⟨g, rfl, h1, h2, h3, h4⟩
  · exact .inl h
  · have hk := hg.block g (by omega) (fun e => by rcases hne g e.symm with h | h <;> omega)
    have hc : ∀ j, w'.cell? ⟨g, j, none⟩ = w.cell? ⟨g, j, none⟩ := fun j => World.cell?_of_block hk
    refine .inr ⟨g, rfl, h1, h2, fun j => ?_, fun i hi => ?_⟩
    · have := h3 j
      unfold World.frozen? at this ⊢
      simp only at this ⊢
      rw [hk]; exact this
    · unfold EAt
      rw [hc, hc, hc]; exact h4 i hi
theorem EIn.below {B C : Nat} {w w' : World} {a : Option Addr} {ts : List En} (h : EIn B C w a ts) (hC : C ≤ w.heap.size) (hb : Below w.heap.size w w') : EIn B C w' a ts :=
  h.grown hC (grown_below (row := none) hb) (fun _ e => by cases e)

theorem cell_grown {w w' : World} {row : Option Nat} {b : Nat} {v : Value} (h : w.cell? ⟨b, 0, none⟩ = some v) (hb : b < w.heap.size) (hg : w.grownBy w' row) (hne : ∀ r, row = some r → r ≠ b) : w'.cell? ⟨b, 0, none⟩ = some v :=
  (World.cell?_of_block (hg.block b hb (fun e => hne b e.symm rfl))).trans h

def MarkT (B C : Nat) (a : Option Addr) (n : Nat) (w : World) (e : Ending) (w' : World) : Prop :=
  e = .returned (.int .i64 ((1 + 3 * n : Nat) : Int)) ∧ EIn B C w' a (marksE 1 n) ∧ ∃ row, w.grownBy w' row ∧ ∀ r, row = some r → B ≤ r ∧ r < C

theorem markT_any (a : Option Addr) (cap : Nat) (ts : List En) (B C : Nat) (w : World) (h : EIn B C w a ts) (hC : C ≤ w.heap.size) (hn : ts.length ≤ 1048576) :
    Calls Try.prog 14 #[.agg #[.slice a ts.length cap], .int .i64 1] w fun e w' => MarkT B C a ts.length w e w' := by
  refine (markTree_any a cap ts B w (h.el hC) hn).mono ?_
  rintro e w' ⟨he, hel, row, hg, hr⟩
  refine ⟨he, ?_, row, hg, fun r e => ?_⟩
  · rcases h with h | ⟨g, rfl, h1, h2, _⟩
    · subst h; exact .inl rfl
    · rcases hel with h | ⟨g', e', h1', h2', h3'⟩
      · exact .inl h
      · cases e'
        exact .inr ⟨g, rfl, h1, h2, h3'⟩
  · obtain ⟨hp, ha⟩ := hr r e
    rcases h with h | ⟨g, rfl, h1, h2, _⟩
    · subst h; simp at hp
    · cases ha; exact ⟨h1, h2⟩

theorem ein_of_toTree {w' : World} {B g : Nat} {ts : List En} (hs : ES w' (some ⟨g, 0, none⟩) ts) (hB : B ≤ g) (hf : ∀ j, w'.frozen? ⟨g, j, none⟩ = false) (hl : g < w'.heap.size) : EIn B w'.heap.size w' (some ⟨g, 0, none⟩) ts := by
  rcases hs with h | ⟨b, off, ha, hc⟩
  · exact .inl h
  · cases ha
    refine .inr ⟨g, rfl, hB, hl, hf, fun i hi => ?_⟩
    have := hc i hi
    rw [Nat.zero_add] at this
    exact this
theorem below_marks {w0 w w' : World} {B C b : Nat} {row : Option Nat} (h : Below b w0 w) (hb : b ≤ w.heap.size) (hg : w.grownBy w' row) (hr : ∀ r, row = some r → B ≤ r ∧ r < C) (hB : b ≤ B) : Below b w0 w' :=
  h.grown hg hb (fun r e => by have := (hr r e).1; omega)

/-- Behind a call that gives a tree and a code: where they lie. -/
def CutR (R : List En → Int → Prop) (W1 : World) (p cc : Value) (W : World) : Prop :=
  ∃ us c ad cap n2 n3 nc, p = .pointer (some ⟨nc, 0, none⟩) ∧ cc = .int .i64 c ∧ R us c ∧ EIn n2 n3 W ad us ∧ W.cell? ⟨nc, 0, none⟩ = some (.slice ad us.length cap) ∧ W1.heap.size ≤ n2 ∧ n2 ≤ n3 ∧ n3 ≤ W.heap.size ∧ W1.heap.size ≤ nc ∧ nc < W.heap.size ∧ (nc < n2 ∨ n3 ≤ nc) ∧ Below W1.heap.size W1 W
/-- The tree's cell made behind the call. -/
theorem cutR_mk {R : List En → Int → Prop} {W1 Wb W : World} {us : List En} {c : Int} {ad : Option Addr} {cap : Nat} (hR : R us c) (hel : EL Wb.heap.size W ad us) (hs : W1.heap.size ≤ Wb.heap.size) (hbs : Wb.heap.size ≤ W.heap.size) (hb : Below W1.heap.size W1 W) :
    CutR R W1 (.pointer (some ⟨W.heap.size, 0, none⟩)) (.int .i64 c) (W.alloc (.cells #[.slice ad us.length cap] 31)) := by
  have hal : Below W.heap.size W (W.alloc (.cells #[.slice ad us.length cap] 31)) := (Below.refl _ _).alloc (Nat.le_refl _) _
  exact ⟨us, c, ad, cap, Wb.heap.size, W.heap.size, W.heap.size, rfl, rfl, hR, (hel.ein (Nat.le_refl _)).below (Nat.le_refl _) hal, by simp, hs, hbs, by simp, hb.size, by simp, .inr (Nat.le_refl _), hb.trans (hal.mono hb.size)⟩
/-- The tree's cell made ahead of the call. -/
theorem cutR_mk' {R : List En → Int → Prop} {W1 Wb W : World} {us : List En} {c : Int} {ad : Option Addr} {cap nc : Nat} {u : Value} (hR : R us c) (hel : EL Wb.heap.size W ad us) (hs : W1.heap.size ≤ nc) (hnc : nc < Wb.heap.size) (hbs : Wb.heap.size ≤ W.heap.size) (hb : Below W1.heap.size W1 W) (hc : W.cell? ⟨nc, 0, none⟩ = some u) :
    CutR R W1 (.pointer (some ⟨nc, 0, none⟩)) (.int .i64 c) (W.setCell ⟨nc, 0, none⟩ (.slice ad us.length cap)) := by
  have hg : W.grownBy (W.setCell ⟨nc, 0, none⟩ (.slice ad us.length cap)) (some nc) := grown_setM W nc 0 _
  exact ⟨us, c, ad, cap, Wb.heap.size, W.heap.size, nc, rfl, rfl, hR, (hel.ein (Nat.le_refl _)).grown (Nat.le_refl _) hg (fun r e => by cases e; exact .inl hnc), World.cell?_setCell_same _ _ _ hc, by omega, hbs, by simp, hs, by simp; omega, .inl hnc, hb.setCell (p := ⟨nc, 0, none⟩) hs _⟩

theorem cell_lt {W : World} {n : Nat} {u : Value} (hc : W.cell? ⟨n, 0, none⟩ = some u) : n < W.heap.size := by
  by_cases h : n < W.heap.size
  · exact h
  · unfold World.cell? at hc
    simp only at hc
    rw [Array.getElem?_eq_none (by omega)] at hc
    cases hc
theorem new_cell {W1 Y X : World} {t : TypeId} (hW : Below W1.heap.size W1 Y) (h : Below (Y.alloc (.cells #[.slice none 0 0] t)).heap.size (Y.alloc (.cells #[.slice none 0 0] t)) X) :
    X.cell? ⟨Y.heap.size, 0, none⟩ = some (.slice none 0 0) ∧ X.frozen? ⟨Y.heap.size, 0, none⟩ = false ∧ W1.heap.size ≤ Y.heap.size ∧ Y.heap.size < (Y.alloc (.cells #[.slice none 0 0] t)).heap.size :=
  ⟨cell_later h (by simp), (h.frozen (p := ⟨Y.heap.size, 0, none⟩) (by simp)).trans (by simp), hW.size, by simp⟩
theorem new_cellD {W1 Y X : World} {t : TypeId} (hW : Below W1.heap.size W1 Y) (h : Below (Y.alloc (.cells #[.slice none 0 0] t)).drew.heap.size (Y.alloc (.cells #[.slice none 0 0] t)).drew X) :
    X.cell? ⟨Y.heap.size, 0, none⟩ = some (.slice none 0 0) ∧ X.frozen? ⟨Y.heap.size, 0, none⟩ = false ∧ W1.heap.size ≤ Y.heap.size ∧ Y.heap.size < (Y.alloc (.cells #[.slice none 0 0] t)).drew.heap.size :=
  ⟨cell_later h (by simp), (h.frozen (p := ⟨Y.heap.size, 0, none⟩) (by simp)).trans (by simp), hW.size, by simp⟩
theorem keep_cell {W1 W X : World} {n : Nat} {u : Value} (hc : W.cell? ⟨n, 0, none⟩ = some u) (hf : W.frozen? ⟨n, 0, none⟩ = false) (hn : W1.heap.size ≤ n) (h : Below W.heap.size W X) :
    X.cell? ⟨n, 0, none⟩ = some u ∧ X.frozen? ⟨n, 0, none⟩ = false ∧ W1.heap.size ≤ n ∧ n < W.heap.size :=
  ⟨cell_later h hc, (h.frozen (p := ⟨n, 0, none⟩) (cell_lt hc)).trans hf, hn, cell_lt hc⟩
theorem cellAl {W : World} {b j : Nat} {u : Value} (h : W.cell? ⟨b, j, none⟩ = some u) (o : Obj) : (W.alloc o).cell? ⟨b, j, none⟩ = some u := cell_later ((Below.refl _ _).alloc (Nat.le_refl _) _) h
theorem belowAl {W1 W : World} (h : Below W1.heap.size W1 W) (o : Obj) : Below W1.heap.size W1 (W.alloc o) := h.alloc h.size o
end Go.Proofs.Ytmeodgcnnjkilaa

namespace Go.Proofs.Ytmeodgcnnjkilaa
open Go.ChangeShapes Go.WideShapes Go.ChangeAt Go.RowKit

theorem cellsEntry : Try.prog.cellsOf 26 = 3 := by kernel_rfl
theorem cellsRow : Try.prog.cellsOf 22 = 1 := by kernel_rfl
theorem cellsStr : Try.prog.cellsOf 9 = 1 := by kernel_rfl
theorem cellsBool : Try.prog.cellsOf 4 = 1 := by kernel_rfl
theorem cellsVal : Try.prog.cellsOf 24 = 1 := by kernel_rfl

set_option maxRecDepth 100000 in
theorem open_entry {H : Type} {enc : TypeId × Value → H} {W : World} {n : Nat} {cs : List Value} {x : DataW H × List MemPlace} {a : Addr} (h1 : W.cells? 0 a 3 = some cs) (h2 : DataW.trod enc Try.prog W 0 (fun _ => true) true n 26 cs = some x) :
    ∃ t : En, W.cell? (a.add 0) = some (.string t.path) ∧ W.cell? (a.add 1) = some (.string t.text) ∧ W.cell? (a.add 2) = some (.bool t.runs) ∧ t.path.size ≤ maxLen ∧ t.text.size ≤ maxLen := by
  obtain ⟨_, hlen, hc⟩ := World.cells?_some h1
  match cs, hlen with
  | [c0, c1, c2], _ =>
    obtain ⟨y0, y1, y2, m, _, _, g0, g1, g2⟩ := Go.Deep.trod_struct3 Try.underlying26 h2
    simp only [cellsStr, cellsBool, List.drop, List.take] at g0 g1 g2
    obtain ⟨s0, e0, _, hs0⟩ := DataW.trod_string Try.underlying9 g0
    obtain ⟨s1, e1, _, hs1⟩ := DataW.trod_string Try.underlying9 g1
    obtain ⟨b2, e2, _⟩ := DataW.trod_bool Try.underlying4 g2
    simp at e0 e1 e2
    subst e0 e1 e2
    exact ⟨⟨s0, s1, b2⟩, hc 0 (by omega), hc 1 (by omega), hc 2 (by omega), hs0, hs1⟩

set_option maxRecDepth 100000 in
theorem open_tree {H : Type} {enc : TypeId × Value → H} {W : World} {base : Nat} {v : Value} {d : DataW H} {p : List MemPlace} (hv : Value.okWide Try.prog W .any base 24 v) (h : DataW.Trod enc Try.prog W 0 (fun _ => true) true 24 v d p) :
    ∃ a cap ts, v = .agg #[.slice a ts.length cap] ∧ ES W a ts ∧ ts.length ≤ maxLen ∧ ∀ s ∈ ts, s.path.size ≤ maxLen ∧ s.text.size ≤ maxLen := by
  haveI : Inhabited En := ⟨⟨⟨#[]⟩, ⟨#[]⟩, false⟩⟩
  obtain ⟨cs, rfl, hsz⟩ := okWide_struct Try.underlying24 hv
  rw [cellsVal] at hsz
  obtain ⟨c0, rfl⟩ : ∃ c0, cs = #[c0] := by
    obtain ⟨l⟩ := cs
    match l, hsz with
    | [c], _ => exact ⟨c, rfl⟩
  obtain ⟨fuel, hf⟩ := h
  obtain ⟨y0, n, _, _, h0⟩ := trod_struct1 Try.underlying24 hf
  simp only [cellsRow, Value.cells, List.drop, List.take] at h0
  rcases Go.Deep.open_slice Try.underlying22 h0 with ⟨hcs, _⟩ | ⟨a, len, cap, m, n, D, Pl, hcs, _, hl, hm, hmm, _, hx⟩
  · simp at hcs
    subst hcs
    exact ⟨none, 0, [], rfl, .inl rfl, Nat.zero_le _, fun s hs => by simp at hs⟩
  · simp at hcs
    subst hcs
    simp at hmm
    subst hmm
    rw [cellsEntry] at hx
    obtain ⟨V, hV⟩ := Go.Deep.choose_lt (α := En) (p := fun i t => W.cell? ((a.add (i * 3)).add 0) = some (.string t.path) ∧ W.cell? ((a.add (i * 3)).add 1) = some (.string t.text) ∧ W.cell? ((a.add (i * 3)).add 2) = some (.bool t.runs) ∧ t.path.size ≤ maxLen ∧ t.text.size ≤ maxLen) (n := m) (fun i hi => by
      obtain ⟨cs', h1, h2⟩ := hx i hi
      exact open_entry h1 h2)
    refine ⟨some a, m, (List.range len).map V, by simp, ?_, by simp; omega, ?_⟩
    · by_cases h0 : len = 0
      · left; simp [h0]
      · right
        obtain ⟨b, off, spot⟩ := a
        have hspot : spot = none := by simpa [Addr.add] using World.cell?_spot (hV 0 (by omega)).1
        subst hspot
        refine ⟨b, off, rfl, fun i hi => ?_⟩
        simp at hi
        obtain ⟨q0, q1, q2, _⟩ := hV i (by omega)
        simp only [Go.WideShapes.add_plain, Nat.add_zero] at q0 q1 q2
        simp only [List.getElem_map, List.getElem_range]
        exact ⟨q0, q1, q2⟩
    · intro s hs
      simp only [List.mem_map, List.mem_range] at hs
      obtain ⟨i, hi, rfl⟩ := hs
      exact (hV i (by omega)).2.2.2
end Go.Proofs.Ytmeodgcnnjkilaa

namespace Go.Proofs.Ytmeodgcnnjkilaa
open Go.RowKit

set_option maxRecDepth 20000 in
set_option maxHeartbeats 1000000 in
theorem szEntrySL_any (L : Nat) (hL : L ≤ 1048576) (a : Option Addr) (cap : Nat) (ts : List En) (w : World) (hss : ES w a ts) (hn : ts.length ≤ maxLen) (hm : ∀ s ∈ ts, s.path.size ≤ maxLen ∧ s.text.size ≤ maxLen) :
    Calls Try.prog 26 #[.slice a ts.length cap, .int .i64 L] w fun e w' => ∃ r : Int, e = .returned (.int .i64 r) ∧ Below w.heap.size w w' ∧ ((r = -1) ∨ (0 ≤ r ∧ r ≤ L ∧ ts.length + totalE ts ≤ L)) := by
  unfold maxLen at hn
  by_cases h0 : (L : Int) - ts.length < 0
  · go_enter Try.func26, Try.ntmps26
    go_wp2
    go_ret
    exact ⟨-1, rfl, Below.refl _ _, .inl rfl⟩
  · go_enter Try.func26, Try.ntmps26
    go_wp2
    go_loopw [1, 5] (fun l i wr => ∃ k : Nat, k ≤ ts.length ∧ i = .int .i64 k ∧ l = .int .i64 ((L : Int) - ts.length - totalE (ts.take k)) ∧ ts.length + totalE (ts.take k) ≤ L ∧ Below w.heap.size w wr) (fun _ i _ => ts.length - (intOf i).toNat)
    case atStart => exact ⟨0, Nat.zero_le _, rfl, by simp [totalE], by simp [totalE]; omega, Below.refl _ _⟩
    case round =>
      obtain ⟨k, hk, rfl, rfl, hle, hb⟩ := hrel
      by_cases hlt : k < ts.length
      · obtain ⟨b, off, rfl, hc⟩ := (hss.below hb).at hlt
        obtain ⟨c0, c1, c2⟩ := hc k hlt
        have HT : Hid (totalE (ts.take (k + 1)) = totalE (ts.take k) + (ts[k].path.size + ts[k].text.size)) := totalE_take ts k hlt
        have hsz := hm ts[k] (List.getElem_mem hlt)
        generalize totalE (ts.take k) = t at *
        clear hc
        go_wp2_with fail
        refine (szEntry_any ts[k] _ _ (by omega) hsz).mono ?_
        rintro e w1 ⟨rfl, hb1⟩
        by_cases hneg : (L : Int) - ts.length - t - (ts[k].path.size + ts[k].text.size) < 0
        · rw [if_pos hneg]
          go_wp2
          go_ret
          exact ⟨-1, rfl, hb.trans (hb1.mono hb.size), .inl rfl⟩
        · rw [if_neg hneg]
          go_wp2
          go_roundw
          case rel => exact ⟨k + 1, by omega, by go_num, by rw [HT.out]; go_num, by rw [HT.out]; omega, hb.trans (hb1.mono hb.size)⟩
          case measure => simp [intOf]; omega
      · obtain rfl : k = ts.length := by omega
        go_wp2
        go_ret
        rw [List.take_length] at *
        exact ⟨_, rfl, hb, .inr ⟨by omega, by omega, hle⟩⟩

set_option maxRecDepth 20000 in
set_option maxHeartbeats 1000000 in
theorem szTreeL_any (L : Nat) (hL : L ≤ 1048576) (a : Option Addr) (cap : Nat) (ts : List En) (w : World) (hss : ES w a ts) (hn : ts.length ≤ maxLen) (hm : ∀ s ∈ ts, s.path.size ≤ maxLen ∧ s.text.size ≤ maxLen) :
    Calls Try.prog 7 #[.agg #[.slice a ts.length cap], .int .i64 L] w fun e w' => ∃ r : Int, e = .returned (.int .i64 r) ∧ Below w.heap.size w w' ∧ ((r = -1) ∨ (0 ≤ r ∧ r ≤ L ∧ ts.length + totalE ts ≤ L)) := by
  go_enter Try.func7, Try.ntmps7
  go_wp2_with fail
  refine (szEntrySL_any L hL a cap ts _ (hss.below ((Below.refl _ _).alloc (Nat.le_refl _) _)) hn hm).mono ?_
  rintro e w1 ⟨r, rfl, hb, hr⟩
  have hb0 : Below w.heap.size w w1 := ((Below.refl _ _).alloc (Nat.le_refl _) _).trans (hb.mono (by simp))
  rcases hr with rfl | ⟨h0, h2, h1⟩
  · go_wp2
    go_ret
    exact ⟨-1, rfl, hb0, .inl rfl⟩
  · go_wp2
    go_ret
    exact ⟨r, rfl, hb0, .inr ⟨h0, h2, h1⟩⟩

end Go.Proofs.Ytmeodgcnnjkilaa

namespace Go.Proofs.Ytmeodgcnnjkilaa
open Go.RowKit

def MarkTK (B C : Nat) (a : Option Addr) (n k : Nat) (w : World) (e : Ending) (w' : World) : Prop :=
  e = .returned (.int .i64 ((k + 3 * n : Nat) : Int)) ∧ EIn B C w' a (marksE k n) ∧ ∃ row, w.grownBy w' row ∧ ∀ r, row = some r → B ≤ r ∧ r < C

/-- A tree in a box. -/
structure Itm (W : World) (b B D : Nat) (ad : Option Addr) (cap : Nat) (us : List En) : Prop where
  cell : W.cell? ⟨b, 0, none⟩ = some (.slice ad us.length cap)
  lst : EIn B D W ad us
  hi : D ≤ W.heap.size
theorem Itm.later {W W' : World} {b B D : Nat} {ad : Option Addr} {cap : Nat} {us : List En} (h : Itm W b B D ad cap us) (hb : Below W.heap.size W W') : Itm W' b B D ad cap us :=
  ⟨cell_later hb h.cell, h.lst.below h.hi hb, Nat.le_trans h.hi hb.size⟩
theorem Itm.grown {W W' : World} {b B D : Nat} {ad : Option Addr} {cap : Nat} {us : List En} {row : Option Nat} (h : Itm W b B D ad cap us) (hg : W.grownBy W' row) (hne : ∀ r, row = some r → r ≠ b ∧ (r < B ∨ D ≤ r)) : Itm W' b B D ad cap us :=
  ⟨cell_grown h.cell (cell_lt h.cell) hg (fun r e => (hne r e).1), h.lst.grown h.hi hg (fun r e => (hne r e).2), Nat.le_trans h.hi hg.size⟩
theorem Itm.es {W : World} {b B D : Nat} {ad : Option Addr} {cap : Nat} {us : List En} (h : Itm W b B D ad cap us) : ES W ad us := h.lst.es
/-- The tree's box is new. -/
theorem Itm.new {W : World} {B : Nat} {ad : Option Addr} {cap : Nat} {us : List En} (h : EIn B W.heap.size W ad us) : Itm (W.alloc (.cells #[.slice ad us.length cap] 31)) W.heap.size B W.heap.size ad cap us := by
  have hal : Below W.heap.size W (W.alloc (.cells #[.slice ad us.length cap] 31)) := (Below.refl _ _).alloc (Nat.le_refl _) _
  exact ⟨by simp, h.below (Nat.le_refl _) hal, by simp⟩

set_option maxRecDepth 20000 in
set_option maxHeartbeats 1000000 in
theorem markTK_any (k : Nat) (h0 : 0 < k) (hk : k ≤ 10485760) (a : Option Addr) (cap : Nat) (ts : List En) (B C : Nat) (w : World) (h : EIn B C w a ts) (hC : C ≤ w.heap.size) (hn : ts.length ≤ 1048576) :
    Calls Try.prog 14 #[.agg #[.slice a ts.length cap], .int .i64 k] w fun e w' => MarkTK B C a ts.length k w e w' := by
  have hb0 : Below w.heap.size w (w.alloc (.cells #[.slice a ts.length cap] 31)) := (Below.refl _ _).alloc (Nat.le_refl _) _
  go_enter Try.func14, Try.ntmps14
  go_wp2_with fail
  refine (markEs_any a cap ts k B _ ((h.el hC).below hb0) h0 (by omega)).mono ?_
  rintro e w1 ⟨rfl, hel1, row, hg1, hr1⟩
  go_wp2
  go_ret
  refine ⟨rfl, ?_, row, grown_trans (grown_below hb0) hg1, fun r e => ?_⟩
  · rcases h with h | ⟨g, rfl, h1, h2, _⟩
    · subst h; exact .inl rfl
    · rcases hel1 with h | ⟨g', e', h1', h2', h3'⟩
      · exact .inl h
      · cases e'
        exact .inr ⟨g, rfl, h1, h2, h3'⟩
  · obtain ⟨hp, ha⟩ := hr1 r e
    rcases h with h | ⟨g, rfl, h1, h2, _⟩
    · subst h; simp at hp
    · cases ha; exact ⟨h1, h2⟩
end Go.Proofs.Ytmeodgcnnjkilaa
