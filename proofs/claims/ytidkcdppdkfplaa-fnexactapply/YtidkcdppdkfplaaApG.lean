/-
  ChOut, MarkC, PatLaw, PatK, JnK: laid as one text.
-/
import Derived.Test.YtidkcdppdkfplaaChangesT
import Derived.Test.YtidkcdppdkfplaaOutL
import Derived.Test.YtidkcdppdkfplaaApF
import Derived.Test.YtidkcdppdkfplaaSplitP
namespace Go.Proofs.Ytidkcdppdkfplaa
open Go.RowKit

def ccells (us : List Ch) : List Value := us.flatMap chL
theorem ccells_snoc (us : List Ch) (c : Ch) : ccells (us ++ [c]) = ccells us ++ chL c := by simp [ccells]

theorem news_7 (w : World) (c : Ch) (t : TypeId) (n : Nat) (hn : w.heap.size = n) : ∀ j u, (chL c)[j]? = some u → (w.alloc (.cells #[.string c.path, .bool c.old.there, .string c.old.text, .bool c.old.runs, .bool c.new.there, .string c.new.text, .bool c.new.runs] t)).cell? (Addr.add ⟨n, 0, none⟩ j) = some u := by
  intro j u hj
  subst hn
  rw [Go.WideShapes.add_plain, Nat.zero_add, World.cell?_alloc_new]
  match j, hj with
  | 0, hj => simpa [chL] using hj
  | 1, hj => simpa [chL] using hj
  | 2, hj => simpa [chL] using hj
  | 3, hj => simpa [chL] using hj
  | 4, hj => simpa [chL] using hj
  | 5, hj => simpa [chL] using hj
  | 6, hj => simpa [chL] using hj
theorem one_7 (c : Ch) : ∀ u ∈ chL c, u.oneCell' = true := by
  intro u hu
  simp [chL] at hu
  rcases hu with rfl | rfl | rfl | rfl | rfl | rfl | rfl <;> rfl

/-- Changes that are a call's own. -/
def CL (B : Nat) (w : World) (a : Option Addr) (cs : List Ch) : Prop :=
  cs = [] ∨ ∃ g, a = some ⟨g, 0, none⟩ ∧ B ≤ g ∧ g < w.heap.size ∧ (∀ j, w.frozen? ⟨g, j, none⟩ = false) ∧ ∀ i (h : i < cs.length), ChAt w g (i * 7) cs[i]

theorem CL.cs {B : Nat} {w : World} {a : Option Addr} {cs : List Ch} (h : CL B w a cs) : CS w a cs := by
  rcases h with h | ⟨g, ha, _, _, _, hc⟩
  · exact .inl h
  · refine .inr ⟨g, 0, ha, fun i hi => ?_⟩
    rw [Nat.zero_add]
    exact hc i hi
theorem CL.nil (B : Nat) (w : World) (a : Option Addr) : CL B w a [] := .inl rfl
theorem CL.mono {B B' : Nat} {w : World} {a : Option Addr} {cs : List Ch} (h : CL B w a cs) (hB : B' ≤ B) : CL B' w a cs := by
  rcases h with h | ⟨g, ha, h1, h2⟩
  · exact .inl h
  · exact .inr ⟨g, ha, Nat.le_trans hB h1, h2⟩
theorem CL.grown {B : Nat} {w w' : World} {a : Option Addr} {cs : List Ch} {row : Option Nat} (h : CL B w a cs) (hg : w.grownBy w' row) (hne : ∀ g, blk a = some g → B ≤ g → g < w.heap.size → some g ≠ row) : CL B w' a cs := by
  rcases h with h | ⟨g, rfl, h1, h2, h3, h4⟩
  · exact .inl h
  · have hk := hg.block g h2 (hne g rfl h1 h2)
    exact .inr ⟨g, rfl, h1, Nat.lt_of_lt_of_le h2 hg.size, fun j => frozen_of hk (h3 j), fun i hi => (h4 i hi).block hk⟩
theorem CL.below {B : Nat} {w w' : World} {a : Option Addr} {cs : List Ch} (h : CL B w a cs) (hb : Below w.heap.size w w') : CL B w' a cs :=
  h.grown (row := none) ⟨hb.os, hb.tape, hb.output, hb.size, fun k hk _ => hb.block k hk⟩ (fun _ _ _ _ => by simp)
theorem CL.set {B : Nat} {w : World} {a : Option Addr} {cs : List Ch} (h : CL B w a cs) {g i : Nat} {u : Value} (hne : blk a ≠ some g) : CL B (w.setCell ⟨g, i, none⟩ u) a cs :=
  h.grown (row := some g) ⟨rfl, rfl, rfl, by simp, fun k _ hk => Below.heap_setCell _ _ _ _ (fun e => hk (by rw [e]))⟩ (fun k hk _ _ e => hne (by rw [hk, e]))

theorem ccells_at : ∀ (us : List Ch) (i : Nat) (h : i < us.length) (j : Nat) (v : Value), (chL us[i])[j]? = some v → (ccells us)[i * 7 + j]? = some v
  | [], i, h, _, _, _ => by simp at h
  | c :: us, 0, _, j, v, hv => by
    have hl : j < (chL c).length := (List.getElem?_eq_some_iff.1 hv).1
    simp only [ccells, List.flatMap_cons, Nat.zero_mul, Nat.zero_add]
    rw [List.getElem?_append_left hl]
    exact hv
  | c :: us, i + 1, h, j, v, hv => by
    have ih := ccells_at us i (by simpa using h) j v (by simpa using hv)
    simp only [ccells, List.flatMap_cons] at ih ⊢
    rw [List.getElem?_append_right (by have : (chL c).length = 7 := rfl; omega)]
    rw [show (i + 1) * 7 + j - (chL c).length = i * 7 + j by have : (chL c).length = 7 := rfl; omega]
    exact ih
theorem cl_of_row {B : Nat} {w : World} {e : TypeId} {ad : Option Addr} {cap : Nat} {us : List Ch} (h : w.ownsRow B e 7 (.slice ad us.length cap) us.length (ccells us)) : CL B w ad us := by
  rcases h.2 with ⟨_, h0⟩ | ⟨g, cap', cur, hv, hB, hg, _⟩
  · exact .inl (List.eq_nil_of_length_eq_zero h0)
  · simp only [Value.slice.injEq, true_and] at hv
    obtain ⟨rfl, rfl⟩ := hv
    have key : ∀ i (hi : i < us.length) j v, (chL us[i])[j]? = some v → w.cell? ⟨g, i * 7 + j, none⟩ = some v := fun i hi j v hv => by
      have hl : j < 7 := (List.getElem?_eq_some_iff.1 hv).1
      rw [h.cellAt (i * 7 + j) (by omega)]
      exact ccells_at us i hi j v hv
    exact .inr ⟨g, rfl, hB, (Array.getElem?_eq_some_iff.1 hg).1, fun j => h.frozenAt j, fun i hi => ⟨key i hi 0 _ rfl, key i hi 1 _ rfl, key i hi 2 _ rfl, key i hi 3 _ rfl, key i hi 4 _ rfl, key i hi 5 _ rfl, key i hi 6 _ rfl⟩⟩

structure OutCh (h : Nat) (W0 : World) (v : Value) (us : List Ch) (W : World) : Prop where
  cell : W.cell? ⟨h, 0, none⟩ = some v
  fz : W.frozen? ⟨h, 0, none⟩ = false
  row : W.ownsRow W0.heap.size 53 7 v us.length (ccells us)
  grown : W0.grownBy W (some h)
  lt : h < W0.heap.size

theorem OutCh.start {h : Nat} {W0 : World} (hc : W0.cell? ⟨h, 0, none⟩ = some (.slice none 0 0)) (hf : W0.frozen? ⟨h, 0, none⟩ = false) (hl : h < W0.heap.size) : OutCh h W0 (.slice none 0 0) [] W0 :=
  ⟨hc, hf, World.ownsRow_nil _ _ _ _, ⟨rfl, rfl, rfl, Nat.le_refl _, fun _ _ _ => rfl⟩, hl⟩
theorem OutCh.size {h : Nat} {W0 W : World} {v : Value} {us : List Ch} (s : OutCh h W0 v us W) : h < W.heap.size := Nat.lt_of_lt_of_le s.lt s.grown.size
theorem OutCh.ne {h : Nat} {W0 W : World} {v : Value} {us : List Ch} (s : OutCh h W0 v us W) : v.ownBlock ≠ some h := fun e => by have := owns_row_ge s.row e; have := s.lt; omega
theorem OutCh.later {h : Nat} {W0 W W' : World} {v : Value} {us : List Ch} (s : OutCh h W0 v us W) (hb : Below W.heap.size W W') : OutCh h W0 v us W' :=
  ⟨cell_later hb s.cell, (hb.frozen (p := ⟨h, 0, none⟩) s.size).trans s.fz, owns_below s.row hb, ⟨hb.os.trans s.grown.os, hb.tape.trans s.grown.tape, hb.output.trans s.grown.output, Nat.le_trans s.grown.size hb.size, fun k hk hne => (hb.block k (Nat.lt_of_lt_of_le hk s.grown.size)).trans (s.grown.block k hk hne)⟩, s.lt⟩
theorem OutCh.mid {h : Nat} {W0 W W1 w2 : World} {v : Value} {us : List Ch} (s : OutCh h W0 v us W) (hb : Below W.heap.size W W1) (hg : W1.grownBy w2 v.ownBlock) : w2.cell? ⟨h, 0, none⟩ = some v ∧ w2.frozen? ⟨h, 0, none⟩ = false := by
  have s1 := s.later hb
  have hh := hg.block h s1.size (fun e => s1.ne e.symm)
  exact ⟨(World.cell?_of_block hh).trans s1.cell, frozen_of hh s1.fz⟩
theorem OutCh.append {h g2 cap2 : Nat} {W0 W W1 w2 : World} {v : Value} {us : List Ch} {e : Ch} (s : OutCh h W0 v us W) (hb : Below W.heap.size W W1) (hg : W1.grownBy w2 v.ownBlock) (hown : w2.ownsRow W0.heap.size 53 7 (.slice (some ⟨g2, 0, none⟩) (us.length + 1) cap2) (us.length + 1) (ccells us ++ chL e)) :
    OutCh h W0 (.slice (some ⟨g2, 0, none⟩) (us.length + 1) cap2) (us ++ [e]) (w2.setCell ⟨h, 0, none⟩ (.slice (some ⟨g2, 0, none⟩) (us.length + 1) cap2)) := by
  obtain ⟨hc, hf⟩ := s.mid hb hg
  have s1 := s.later hb
  have hne : (Value.slice (some ⟨g2, 0, none⟩) (us.length + 1) cap2).ownBlock ≠ some h := fun e => by have := owns_row_ge hown e; have := s.lt; omega
  refine ⟨World.cell?_setCell_same _ _ _ hc, (World.frozen?_setCell _ _ _ _).trans hf, ?_, ?_, s.lt⟩
  · rw [ccells_snoc, List.length_append]
    exact hown.kept (grown_set0 w2 h 0 _) (Or.inr hne)
  · refine ⟨hg.os.trans s1.grown.os, hg.tape.trans s1.grown.tape, hg.output.trans s1.grown.output, ?_, fun k hk hne => ?_⟩
    · have := s1.grown.size; have := hg.size; simp; omega
    · refine (Below.heap_setCell _ _ _ _ (fun e => hne (by rw [e]))).trans ?_
      refine (hg.block k (Nat.lt_of_lt_of_le hk s1.grown.size) (fun e => by have := owns_row_ge s1.row e.symm; omega)).trans (s1.grown.block k hk hne)
theorem OutCh.keep {h b : Nat} {W0 W : World} {v u : Value} {us : List Ch} (s : OutCh h W0 v us W) {j : Nat} (hc : W0.cell? ⟨b, j, none⟩ = some u) (hb : b < W0.heap.size) (hne : b ≠ h) : W.cell? ⟨b, j, none⟩ = some u :=
  (World.cell?_of_block (s.grown.block b hb (fun e => hne (by cases e; rfl)))).trans hc
theorem OutCh.below {h : Nat} {w W0 W : World} {v : Value} {us : List Ch} (s : OutCh h W0 v us W) (hb : Below w.heap.size w W0) (hh : w.heap.size ≤ h) : Below w.heap.size w W :=
  hb.grown s.grown hb.size (fun j e => by cases e; exact hh)

def flipC (c : Ch) : Ch := ⟨c.path, c.new, c.old⟩
end Go.Proofs.Ytidkcdppdkfplaa

namespace Go.Proofs.Ytidkcdppdkfplaa
open Go.RowKit

def rem3 (n : Nat) : Bool := decide (n % 3 = 0)
def markCh (k : Nat) : Ch := ⟨mkS k, ⟨rem3 (k + 1), mkS (k + 2), rem3 (k + 3)⟩, ⟨rem3 (k + 4), mkS (k + 5), rem3 (k + 6)⟩⟩
def marksC (k n : Nat) : List Ch := (List.range n).map fun i => markCh (k + 7 * i)
theorem marksC_len (k n : Nat) : (marksC k n).length = n := by simp [marksC]
theorem marksC_at (k n i : Nat) (h : i < (marksC k n).length) : (marksC k n)[i] = markCh (k + 7 * i) := by simp [marksC]

theorem rem3_eq {z : Int} {n : Nat} (h : z = (n : Int)) : (z % 3 == 0) = rem3 n := by
  subst h
  unfold rem3
  by_cases h : n % 3 = 0
  · rw [decide_eq_true h, beq_iff_eq]; omega
  · rw [decide_eq_false h, Bool.eq_false_iff, ne_eq, beq_iff_eq]; omega

theorem grown_setL {g : Nat} : ∀ (vs : List Value) (w : World) (o : Nat), w.grownBy (setL w g o vs) (some g)
  | [], _, _ => ⟨rfl, rfl, rfl, Nat.le_refl _, fun _ _ _ => rfl⟩
  | v :: r, w, o => grown_trans (grown_setM w g o v) (grown_setL r _ _)
theorem ChAt.setL {w : World} {g p o : Nat} {c : Ch} {vs : List Value} (h : ChAt w g p c) (hp : p + 7 ≤ o ∨ o + vs.length ≤ p) : ChAt (setL w g o vs) g p c := by
  obtain ⟨h0, h1, h2, h3, h4, h5, h6⟩ := h
  exact ⟨(setL_other _ w o (by omega)).trans h0, (setL_other _ w o (by omega)).trans h1, (setL_other _ w o (by omega)).trans h2, (setL_other _ w o (by omega)).trans h3, (setL_other _ w o (by omega)).trans h4, (setL_other _ w o (by omega)).trans h5, (setL_other _ w o (by omega)).trans h6⟩

/-- The changes as they are while marks are laid. -/
def MixC (k : Nat) (cs : List Ch) (j : Nat) (w : World) (g : Nat) : Prop := ∀ i (h : i < cs.length), ChAt w g (i * 7) (if i < j then markCh (k + 7 * i) else cs[i])

def MarkCPost (w : World) (B : Nat) (a : Option Addr) (n k : Nat) (e : Ending) (w' : World) : Prop :=
  e = .returned (.int .i64 ((k + 7 * n : Nat) : Int)) ∧ CL B w' a (marksC k n) ∧ ∃ row, w.grownBy w' row ∧ ∀ r, row = some r → 0 < n ∧ a = some ⟨r, 0, none⟩

set_option maxRecDepth 20000 in
set_option maxHeartbeats 4000000 in
theorem markCs_any (a : Option Addr) (cap : Nat) (cs : List Ch) (k B : Nat) (w : World) (hel : CL B w a cs) (h0 : 0 < k) (hk : k + 7 * cs.length ≤ 1099511627776) :
    Calls Try.prog 33 #[.slice a cs.length cap, .int .i64 k] w fun e w' => MarkCPost w B a cs.length k e w' := by
  by_cases hn : cs = []
  · subst hn
    go_enter Try.func33, Try.ntmps33
    go_wp2
    go_loopw [1, 5] (fun q i wr => q = .int .i64 k ∧ i = .int .i64 0 ∧ wr = w) (fun _ _ _ => 0)
    case atStart => exact ⟨rfl, rfl, rfl⟩
    case round =>
      obtain ⟨rfl, rfl, rfl⟩ := hrel
      go_wp2
      go_ret
      exact ⟨rfl, CL.nil _ _ _, none, ⟨rfl, rfl, rfl, Nat.le_refl _, fun _ _ _ => rfl⟩, fun r h => by cases h⟩
  obtain ⟨g, rfl, hBg, hgw, hfz, hcs⟩ : ∃ g, a = some ⟨g, 0, none⟩ ∧ B ≤ g ∧ g < w.heap.size ∧ (∀ j, w.frozen? ⟨g, j, none⟩ = false) ∧ ∀ i (h : i < cs.length), ChAt w g (i * 7) cs[i] := by
    rcases hel with h | h
    · exact absurd h hn
    · exact h
  have hpos : 0 < cs.length := List.length_pos_iff.2 hn
  clear hel hn
  go_enter Try.func33, Try.ntmps33
  go_wp2
  go_loopw [1, 5] (fun q i wr => ∃ j : Nat, j ≤ cs.length ∧ i = .int .i64 j ∧ q = .int .i64 ((k + 7 * j : Nat) : Int) ∧ Keep (MixC k cs j wr g) ∧ (∀ j, wr.frozen? ⟨g, j, none⟩ = false) ∧ w.grownBy wr (some g)) (fun _ i _ => cs.length - (intOf i).toNat)
  case atStart => exact ⟨0, Nat.zero_le _, rfl, by simp, ⟨fun i h => by simpa using hcs i h⟩, hfz, ⟨rfl, rfl, rfl, Nat.le_refl _, fun _ _ _ => rfl⟩⟩
  case round =>
    obtain ⟨j, hj, rfl, rfl, hmix, hf, hg⟩ := hrel
    clear hcs hfz
    by_cases hlt : j < cs.length
    · have hlt' : (j : Int) < cs.length := by omega
      have hgr : g < wr.heap.size := Nat.lt_of_lt_of_le hgw hg.size
      have HM2 : Keep (∀ W, Calls Try.prog 50 #[.int .i64 ((k : Int) + 7 * (j : Int) + 1 + 1)] W fun e w' => e = .returned (.string (mkS (k + 7 * j + 2))) ∧ Below W.heap.size W w') := ⟨fun W => by
        have := markText_any (k + 7 * j + 2) W (by omega) (by omega)
        rw [show ((k + 7 * j + 2 : Nat) : Int) = (k : Int) + 7 * (j : Int) + 1 + 1 by omega] at this
        exact this⟩
      have HM5 : Keep (∀ W, Calls Try.prog 50 #[.int .i64 ((k : Int) + 7 * (j : Int) + 1 + 1 + 1 + 1 + 1)] W fun e w' => e = .returned (.string (mkS (k + 7 * j + 5))) ∧ Below W.heap.size W w') := ⟨fun W => by
        have := markText_any (k + 7 * j + 5) W (by omega) (by omega)
        rw [show ((k + 7 * j + 5 : Nat) : Int) = (k : Int) + 7 * (j : Int) + 1 + 1 + 1 + 1 + 1 by omega] at this
        exact this⟩
      go_wp2_with fail
      refine (markText_any (k + 7 * j) wr (by omega) (by omega)).mono ?_
      rintro e w1 ⟨rfl, hb1⟩
      have hmix1 : Keep (MixC k cs j w1 g) := ⟨fun i h => (hmix.out i h).later hb1⟩
      have hf1 : ∀ j, w1.frozen? ⟨g, j, none⟩ = false := fun j => (hb1.frozen (p := ⟨g, j, none⟩) hgr).trans (hf j)
      have hg1 := grown_trans hg (grown_below (row := some g) hb1)
      obtain ⟨x0, x1, x2, x3, x4, x5, x6⟩ := hmix1.out j hlt
      have hgr1 : g < w1.heap.size := Nat.lt_of_lt_of_le hgr hb1.size
      clear hmix hf hg hb1 hgr
      go_wp2_with fail
      refine (HM2.out _).mono ?_
      rintro e w2 ⟨rfl, hb2⟩
      replace hb2 : Below (setL w1 g (j * 7) [.string (mkS (k + 7 * j)), .bool (((k : Int) + 7 * (j : Int) + 1) % 3 == 0)]).heap.size (setL w1 g (j * 7) [.string (mkS (k + 7 * j)), .bool (((k : Int) + 7 * (j : Int) + 1) % 3 == 0)]) w2 := hb2
      rw [rem3_eq (show (k : Int) + 7 * (j : Int) + 1 = ((k + 7 * j + 1 : Nat) : Int) by omega)] at hb2
      have hsz2 : g < (setL w1 g (j * 7) [.string (mkS (k + 7 * j)), .bool (rem3 (k + 7 * j + 1))]).heap.size := by rw [setL_size]; exact hgr1
      have hf2 : ∀ j, w2.frozen? ⟨g, j, none⟩ = false := fun i => (hb2.frozen (p := ⟨g, i, none⟩) hsz2).trans ((setL_frozen _ _ _ _ _).trans (hf1 i))
      have hg2 := grown_trans (grown_trans hg1 (grown_setL [.string (mkS (k + 7 * j)), .bool (rem3 (k + 7 * j + 1))] w1 (j * 7))) (grown_below (row := some g) hb2)
      have hgr2 : g < w2.heap.size := Nat.lt_of_lt_of_le hsz2 hb2.size
      have hsome : ∀ i, i < 2 → ∃ u, w1.cell? ⟨g, j * 7 + i, none⟩ = some u := fun i hi => by
        rcases (show i = 0 ∨ i = 1 by omega) with rfl | rfl
        · exact ⟨_, x0⟩
        · exact ⟨_, x1⟩
      have y0 : w2.cell? ⟨g, j * 7, none⟩ = some (.string (mkS (k + 7 * j))) := cell_later hb2 (setL_at [.string (mkS (k + 7 * j)), .bool (rem3 (k + 7 * j + 1))] w1 (j * 7) hsome 0 _ rfl)
      have y1 : w2.cell? ⟨g, j * 7 + 1, none⟩ = some (.bool (rem3 (k + 7 * j + 1))) := cell_later hb2 (setL_at [.string (mkS (k + 7 * j)), .bool (rem3 (k + 7 * j + 1))] w1 (j * 7) hsome 1 _ rfl)
      replace x2 := cell_later hb2 ((setL_other [.string (mkS (k + 7 * j)), .bool (rem3 (k + 7 * j + 1))] w1 (j * 7) (by simp)).trans x2)
      replace x3 := cell_later hb2 ((setL_other [.string (mkS (k + 7 * j)), .bool (rem3 (k + 7 * j + 1))] w1 (j * 7) (by simp)).trans x3)
      replace x4 := cell_later hb2 ((setL_other [.string (mkS (k + 7 * j)), .bool (rem3 (k + 7 * j + 1))] w1 (j * 7) (by simp)).trans x4)
      replace x5 := cell_later hb2 ((setL_other [.string (mkS (k + 7 * j)), .bool (rem3 (k + 7 * j + 1))] w1 (j * 7) (by simp)).trans x5)
      replace x6 := cell_later hb2 ((setL_other [.string (mkS (k + 7 * j)), .bool (rem3 (k + 7 * j + 1))] w1 (j * 7) (by simp)).trans x6)
      have hmix2 : Keep (∀ i (h : i < cs.length), i ≠ j → ChAt w2 g (i * 7) (if i < j then markCh (k + 7 * i) else cs[i])) := ⟨fun i h hne => ((hmix1.out i h).setL (by simp; omega)).later hb2⟩
      clear hmix1 hf1 hg1 hb2 x0 x1 hgr1 hsz2 hsome
      go_wp2_with fail
      refine (HM5.out _).mono ?_
      rintro e w3 ⟨rfl, hb3⟩
      replace hb3 : Below (setL w2 g (j * 7 + 2) [.string (mkS (k + 7 * j + 2)), .bool (((k : Int) + 7 * (j : Int) + 1 + 1 + 1) % 3 == 0), .bool (((k : Int) + 7 * (j : Int) + 1 + 1 + 1 + 1) % 3 == 0)]).heap.size (setL w2 g (j * 7 + 2) [.string (mkS (k + 7 * j + 2)), .bool (((k : Int) + 7 * (j : Int) + 1 + 1 + 1) % 3 == 0), .bool (((k : Int) + 7 * (j : Int) + 1 + 1 + 1 + 1) % 3 == 0)]) w3 := hb3
      rw [rem3_eq (show (k : Int) + 7 * (j : Int) + 1 + 1 + 1 = ((k + 7 * j + 3 : Nat) : Int) by omega), rem3_eq (show (k : Int) + 7 * (j : Int) + 1 + 1 + 1 + 1 = ((k + 7 * j + 4 : Nat) : Int) by omega)] at hb3
      obtain ⟨vs, hvs⟩ : ∃ vs : List Value, vs = [.string (mkS (k + 7 * j + 2)), .bool (rem3 (k + 7 * j + 3)), .bool (rem3 (k + 7 * j + 4))] := ⟨_, rfl⟩
      rw [← hvs] at hb3
      have hvl : vs.length = 3 := by rw [hvs]; rfl
      have hsz3 : g < (setL w2 g (j * 7 + 2) vs).heap.size := by rw [setL_size]; exact hgr2
      have hf3 : ∀ j, w3.frozen? ⟨g, j, none⟩ = false := fun i => (hb3.frozen (p := ⟨g, i, none⟩) hsz3).trans ((setL_frozen _ _ _ _ _).trans (hf2 i))
      have hg3 := grown_trans (grown_trans hg2 (grown_setL vs w2 (j * 7 + 2))) (grown_below (row := some g) hb3)
      have hsome : ∀ i, i < vs.length → ∃ u, w2.cell? ⟨g, j * 7 + 2 + i, none⟩ = some u := fun i hi => by
        rcases (show i = 0 ∨ i = 1 ∨ i = 2 by omega) with rfl | rfl | rfl
        · exact ⟨_, x2⟩
        · exact ⟨_, x3⟩
        · exact ⟨_, x4⟩
      have z2 : w3.cell? ⟨g, j * 7 + 2, none⟩ = some (.string (mkS (k + 7 * j + 2))) := cell_later hb3 (setL_at _ w2 (j * 7 + 2) hsome 0 _ (by rw [hvs]; rfl))
      have z3 : w3.cell? ⟨g, j * 7 + 3, none⟩ = some (.bool (rem3 (k + 7 * j + 3))) := cell_later hb3 (setL_at _ w2 (j * 7 + 2) hsome 1 _ (by rw [hvs]; rfl))
      have z4 : w3.cell? ⟨g, j * 7 + 4, none⟩ = some (.bool (rem3 (k + 7 * j + 4))) := cell_later hb3 (setL_at _ w2 (j * 7 + 2) hsome 2 _ (by rw [hvs]; rfl))
      have z0 := cell_later hb3 ((setL_other vs w2 (j * 7 + 2) (by omega)).trans y0)
      have z1 := cell_later hb3 ((setL_other vs w2 (j * 7 + 2) (by omega)).trans y1)
      replace x5 := cell_later hb3 ((setL_other vs w2 (j * 7 + 2) (by omega)).trans x5)
      replace x6 := cell_later hb3 ((setL_other vs w2 (j * 7 + 2) (by omega)).trans x6)
      have hmix3 : Keep (∀ i (h : i < cs.length), i ≠ j → ChAt w3 g (i * 7) (if i < j then markCh (k + 7 * i) else cs[i])) := ⟨fun i h hne => ((hmix2.out i h hne).setL (by omega)).later hb3⟩
      have HZ : Keep ((w3.cell? ⟨g, j * 7, none⟩ = some (.string (mkS (k + 7 * j))) ∧ w3.cell? ⟨g, j * 7 + 1, none⟩ = some (.bool (rem3 (k + 7 * j + 1)))) ∧ w3.cell? ⟨g, j * 7 + 2, none⟩ = some (.string (mkS (k + 7 * j + 2))) ∧ w3.cell? ⟨g, j * 7 + 3, none⟩ = some (.bool (rem3 (k + 7 * j + 3))) ∧ w3.cell? ⟨g, j * 7 + 4, none⟩ = some (.bool (rem3 (k + 7 * j + 4)))) := ⟨⟨z0, z1⟩, z2, z3, z4⟩
      clear hmix2 hf2 hg2 hb3 hgr2 hsz3 hsome x2 x3 x4 y0 y1 z0 z1 z2 z3 z4 hvs hvl
      go_wp2
      go_roundw
      case rel =>
        have key : MixC k cs (j + 1) (setL w3 g (j * 7 + 5) [.string (mkS (k + 7 * j + 5)), .bool (((k : Int) + 7 * (j : Int) + 1 + 1 + 1 + 1 + 1 + 1) % 3 == 0)]) g := by
          rw [rem3_eq (show (k : Int) + 7 * (j : Int) + 1 + 1 + 1 + 1 + 1 + 1 = ((k + 7 * j + 6 : Nat) : Int) by omega)]
          intro i h
          by_cases e : i = j
          · subst e
            rw [if_pos (by omega)]
            obtain ⟨⟨z0, z1⟩, z2, z3, z4⟩ := HZ.out
            have hsome : ∀ q, q < 2 → ∃ u, w3.cell? ⟨g, i * 7 + 5 + q, none⟩ = some u := fun q hq => by
              rcases (show q = 0 ∨ q = 1 by omega) with rfl | rfl
              · exact ⟨_, x5⟩
              · exact ⟨_, x6⟩
            exact ⟨(setL_other _ w3 _ (by omega)).trans z0, (setL_other _ w3 _ (by omega)).trans z1, (setL_other _ w3 _ (by omega)).trans z2, (setL_other _ w3 _ (by omega)).trans z3, (setL_other _ w3 _ (by omega)).trans z4, setL_at [.string (mkS (k + 7 * i + 5)), .bool (rem3 (k + 7 * i + 6))] w3 (i * 7 + 5) hsome 0 _ rfl, setL_at [.string (mkS (k + 7 * i + 5)), .bool (rem3 (k + 7 * i + 6))] w3 (i * 7 + 5) hsome 1 _ rfl⟩
          · have h1 := hmix3.out i h e
            have h2 : (if i < j + 1 then markCh (k + 7 * i) else cs[i]) = if i < j then markCh (k + 7 * i) else cs[i] := by
              by_cases h3 : i < j
              · rw [if_pos h3, if_pos (by omega)]
              · rw [if_neg h3, if_neg (by omega)]
            rw [h2]
            exact h1.setL (by simp; omega)
        refine ⟨j + 1, by omega, by go_num, by go_num, ⟨key⟩, fun i => ?_, ?_⟩
        · exact (World.frozen?_setCell _ _ _ _).trans ((World.frozen?_setCell _ _ _ _).trans (hf3 i))
        · exact grown_trans (grown_trans hg3 (grown_setM _ g _ _)) (grown_setM _ g _ _)
      case measure => simp [intOf]; omega
    · obtain rfl : j = cs.length := by omega
      go_wp2
      go_ret
      refine ⟨rfl, ?_, some g, hg, fun r h => by cases h; exact ⟨hpos, rfl⟩⟩
      refine .inr ⟨g, rfl, hBg, Nat.lt_of_lt_of_le hgw hg.size, hf, fun i hi => ?_⟩
      have hi' : i < cs.length := by rw [marksC_len] at hi; exact hi
      have := hmix.out i hi'
      rw [if_pos hi'] at this
      rw [marksC_at]
      exact this

set_option maxRecDepth 20000 in
set_option maxHeartbeats 1000000 in
theorem markPatch_any (a : Option Addr) (cap : Nat) (cs : List Ch) (B : Nat) (w : World) (hel : CL B w a cs) (hn : cs.length ≤ 1048576) :
    Calls Try.prog 13 #[.agg #[.slice a cs.length cap], .int .i64 1] w fun e w' => MarkCPost w B a cs.length 1 e w' := by
  have hb0 : Below w.heap.size w (w.alloc (.cells #[.slice a cs.length cap] 38)) := (Below.refl _ _).alloc (Nat.le_refl _) _
  go_enter Try.func13, Try.ntmps13
  go_wp2_with fail
  refine (markCs_any a cap cs 1 B _ (hel.below hb0) (by omega) (by omega)).mono ?_
  rintro e w1 ⟨rfl, hel1, row, hg1, hr1⟩
  go_wp2
  go_ret
  exact ⟨rfl, hel1, row, grown_trans (grown_below hb0) hg1, hr1⟩
end Go.Proofs.Ytidkcdppdkfplaa

namespace Go.Proofs.Ytidkcdppdkfplaa
open Go.RowKit

/-- Changes of a call's own, in a block from B up and under C. -/
def CIn (B C : Nat) (w : World) (a : Option Addr) (ts : List Ch) : Prop :=
  ts = [] ∨ ∃ g, a = some ⟨g, 0, none⟩ ∧ B ≤ g ∧ g < C ∧ (∀ j, w.frozen? ⟨g, j, none⟩ = false) ∧ ∀ i (h : i < ts.length), ChAt w g (i * 7) ts[i]

theorem CL.cin {B C : Nat} {w : World} {a : Option Addr} {ts : List Ch} (h : CL B w a ts) (hC : w.heap.size ≤ C) : CIn B C w a ts := by
  rcases h with h | ⟨g, h1, h2, h3, h4⟩
  · exact .inl h
  · exact .inr ⟨g, h1, h2, Nat.lt_of_lt_of_le h3 hC, h4⟩
theorem CIn.cl {B C : Nat} {w : World} {a : Option Addr} {ts : List Ch} (h : CIn B C w a ts) (hC : C ≤ w.heap.size) : CL B w a ts := by
  rcases h with h | ⟨g, h1, h2, h3, h4⟩
  · exact .inl h
  · exact .inr ⟨g, h1, h2, Nat.lt_of_lt_of_le h3 hC, h4⟩
theorem CIn.cs {B C : Nat} {w : World} {a : Option Addr} {ts : List Ch} (h : CIn B C w a ts) : CS w a ts := by
  rcases h with h | ⟨g, h1, _, _, _, hc⟩
  · exact .inl h
  · exact .inr ⟨g, 0, h1, fun i hi => by rw [Nat.zero_add]; exact hc i hi⟩
theorem CIn.grown {B C : Nat} {w w' : World} {a : Option Addr} {ts : List Ch} {row : Option Nat} (h : CIn B C w a ts) (hC : C ≤ w.heap.size) (hg : w.grownBy w' row) (hne : ∀ r, row = some r → r < B ∨ C ≤ r) : CIn B C w' a ts := by
  rcases h with h | ⟨g, rfl, h1, h2, h3, h4⟩
  · exact .inl h
  · have hk := hg.block g (by omega) (fun e => by rcases hne g e.symm with h | h <;> omega)
    refine .inr ⟨g, rfl, h1, h2, fun j => ?_, fun i hi => ?_⟩
    · have := h3 j
      unfold World.frozen? at this ⊢
      simp only at this ⊢
      rw [hk]; exact this
    · exact (h4 i hi).block hk
theorem CIn.below {B C : Nat} {w w' : World} {a : Option Addr} {ts : List Ch} (h : CIn B C w a ts) (hC : C ≤ w.heap.size) (hb : Below w.heap.size w w') : CIn B C w' a ts :=
  h.grown hC (grown_below (row := none) hb) (fun _ e => by cases e)

def MarkP (B C : Nat) (a : Option Addr) (n : Nat) (w : World) (e : Ending) (w' : World) : Prop :=
  e = .returned (.int .i64 ((1 + 7 * n : Nat) : Int)) ∧ CIn B C w' a (marksC 1 n) ∧ ∃ row, w.grownBy w' row ∧ ∀ r, row = some r → B ≤ r ∧ r < C

theorem markP_any (a : Option Addr) (cap : Nat) (ts : List Ch) (B C : Nat) (w : World) (h : CIn B C w a ts) (hC : C ≤ w.heap.size) (hn : ts.length ≤ 1048576) :
    Calls Try.prog 13 #[.agg #[.slice a ts.length cap], .int .i64 1] w fun e w' => MarkP B C a ts.length w e w' := by
  refine (markPatch_any a cap ts B w (h.cl hC) hn).mono ?_
  rintro e w' ⟨he, hel, row, hg, hr⟩
  refine ⟨he, ?_, row, hg, fun r e => ?_⟩
  · rcases h with h | ⟨g, rfl, h1, h2, _⟩
    · subst h; exact .inl rfl
    · rcases hel with h | ⟨g', e', h1', h2', h3'⟩
      · exact .inl h
      · cases e'
        exact .inr ⟨g, rfl, h1, h2, h3'⟩
  · obtain ⟨hp, ha⟩ := hr r e
    rcases h with h | ⟨g, rfl, h1, h2, _⟩
    · subst h; simp at hp
    · cases ha; exact ⟨h1, h2⟩

theorem cin_of_toPatch {w' : World} {B g : Nat} {ts : List Ch} (hs : CS w' (some ⟨g, 0, none⟩) ts) (hB : B ≤ g) (hf : ∀ j, w'.frozen? ⟨g, j, none⟩ = false) (hl : g < w'.heap.size) : CIn B w'.heap.size w' (some ⟨g, 0, none⟩) ts := by
  rcases hs with h | ⟨b, off, ha, hc⟩
  · exact .inl h
  · cases ha
    refine .inr ⟨g, rfl, hB, hl, hf, fun i hi => ?_⟩
    have := hc i hi
    rw [Nat.zero_add] at this
    exact this
end Go.Proofs.Ytidkcdppdkfplaa

namespace Go.Proofs.Ytidkcdppdkfplaa
open Go.RowKit

/-- A patch in a box. -/
structure ItmP (W : World) (b B D : Nat) (ad : Option Addr) (cap : Nat) (us : List Ch) : Prop where
  cell : W.cell? ⟨b, 0, none⟩ = some (.slice ad us.length cap)
  lst : CIn B D W ad us
  hi : D ≤ W.heap.size
theorem ItmP.later {W W' : World} {b B D : Nat} {ad : Option Addr} {cap : Nat} {us : List Ch} (h : ItmP W b B D ad cap us) (hb : Below W.heap.size W W') : ItmP W' b B D ad cap us :=
  ⟨cell_later hb h.cell, h.lst.below h.hi hb, Nat.le_trans h.hi hb.size⟩
theorem ItmP.grown {W W' : World} {b B D : Nat} {ad : Option Addr} {cap : Nat} {us : List Ch} {row : Option Nat} (h : ItmP W b B D ad cap us) (hg : W.grownBy W' row) (hne : ∀ r, row = some r → r ≠ b ∧ (r < B ∨ D ≤ r)) : ItmP W' b B D ad cap us :=
  ⟨cell_grown h.cell (cell_lt h.cell) hg (fun r e => (hne r e).1), h.lst.grown h.hi hg (fun r e => (hne r e).2), Nat.le_trans h.hi hg.size⟩
theorem ItmP.cs {W : World} {b B D : Nat} {ad : Option Addr} {cap : Nat} {us : List Ch} (h : ItmP W b B D ad cap us) : CS W ad us := h.lst.cs
/-- The patch's box is new. -/
theorem ItmP.new {W : World} {B : Nat} {ad : Option Addr} {cap : Nat} {us : List Ch} (h : CIn B W.heap.size W ad us) : ItmP (W.alloc (.cells #[.slice ad us.length cap] 38)) W.heap.size B W.heap.size ad cap us := by
  have hal : Below W.heap.size W (W.alloc (.cells #[.slice ad us.length cap] 38)) := (Below.refl _ _).alloc (Nat.le_refl _) _
  exact ⟨by simp, h.below (Nat.le_refl _) hal, by simp⟩

/-- Behind a call that gives a patch: where it lies. -/
def CutQ (R : List Ch → Prop) (W1 : World) (p : Value) (W : World) : Prop :=
  ∃ us ad cap n2 n3 nc, p = .pointer (some ⟨nc, 0, none⟩) ∧ R us ∧ CIn n2 n3 W ad us ∧ W.cell? ⟨nc, 0, none⟩ = some (.slice ad us.length cap) ∧ W1.heap.size ≤ n2 ∧ n2 ≤ n3 ∧ n3 ≤ W.heap.size ∧ W1.heap.size ≤ nc ∧ nc < W.heap.size ∧ (nc < n2 ∨ n3 ≤ nc) ∧ Below W1.heap.size W1 W
/-- The patch's cell made behind the call. -/
theorem cutQ_mk {R : List Ch → Prop} {W1 Wb W : World} {us : List Ch} {ad : Option Addr} {cap : Nat} (hR : R us) (hel : CL Wb.heap.size W ad us) (hs : W1.heap.size ≤ Wb.heap.size) (hbs : Wb.heap.size ≤ W.heap.size) (hb : Below W1.heap.size W1 W) :
    CutQ R W1 (.pointer (some ⟨W.heap.size, 0, none⟩)) (W.alloc (.cells #[.slice ad us.length cap] 38)) := by
  have hal : Below W.heap.size W (W.alloc (.cells #[.slice ad us.length cap] 38)) := (Below.refl _ _).alloc (Nat.le_refl _) _
  exact ⟨us, ad, cap, Wb.heap.size, W.heap.size, W.heap.size, rfl, hR, (hel.cin (Nat.le_refl _)).below (Nat.le_refl _) hal, by simp, hs, hbs, by simp, hb.size, by simp, .inr (Nat.le_refl _), hb.trans (hal.mono hb.size)⟩
/-- The patch's cell made ahead of the call. -/
theorem cutQ_mk' {R : List Ch → Prop} {W1 Wb W : World} {us : List Ch} {ad : Option Addr} {cap nc : Nat} {u : Value} (hR : R us) (hel : CL Wb.heap.size W ad us) (hs : W1.heap.size ≤ nc) (hnc : nc < Wb.heap.size) (hbs : Wb.heap.size ≤ W.heap.size) (hb : Below W1.heap.size W1 W) (hc : W.cell? ⟨nc, 0, none⟩ = some u) :
    CutQ R W1 (.pointer (some ⟨nc, 0, none⟩)) (W.setCell ⟨nc, 0, none⟩ (.slice ad us.length cap)) := by
  have hg : W.grownBy (W.setCell ⟨nc, 0, none⟩ (.slice ad us.length cap)) (some nc) := grown_setM W nc 0 _
  exact ⟨us, ad, cap, Wb.heap.size, W.heap.size, nc, rfl, hR, (hel.cin (Nat.le_refl _)).grown (Nat.le_refl _) hg (fun r e => by cases e; exact .inl hnc), World.cell?_setCell_same _ _ _ hc, by omega, hbs, by simp, hs, by simp; omega, .inl hnc, hb.setCell (p := ⟨nc, 0, none⟩) hs _⟩
end Go.Proofs.Ytidkcdppdkfplaa

namespace Go.Proofs.Ytidkcdppdkfplaa
open Go.RowKit

set_option maxRecDepth 20000 in
set_option maxHeartbeats 1000000 in
theorem szChangeSL_any (L : Nat) (hL : L ≤ 1048576) (a : Option Addr) (cap : Nat) (cs : List Ch) (w : World) (hss : CS w a cs) (hn : cs.length ≤ maxLen) (hm : ∀ s ∈ cs, chMax s) :
    Calls Try.prog 16 #[.slice a cs.length cap, .int .i64 L] w fun e w' => ∃ r : Int, e = .returned (.int .i64 r) ∧ Below w.heap.size w w' ∧ ((r = -1) ∨ (0 ≤ r ∧ r ≤ L ∧ cs.length + totalC cs ≤ L)) := by
  unfold maxLen at hn
  by_cases h0 : (L : Int) - cs.length < 0
  · go_enter Try.func16, Try.ntmps16
    go_wp2
    go_ret
    exact ⟨-1, rfl, Below.refl _ _, .inl rfl⟩
  · go_enter Try.func16, Try.ntmps16
    go_wp2
    go_loopw [1, 5] (fun l i wr => ∃ k : Nat, k ≤ cs.length ∧ i = .int .i64 k ∧ l = .int .i64 ((L : Int) - cs.length - totalC (cs.take k)) ∧ cs.length + totalC (cs.take k) ≤ L ∧ Below w.heap.size w wr) (fun _ i _ => cs.length - (intOf i).toNat)
    case atStart => exact ⟨0, Nat.zero_le _, rfl, by simp [totalC], by simp [totalC]; omega, Below.refl _ _⟩
    case round =>
      obtain ⟨k, hk, rfl, rfl, hle, hb⟩ := hrel
      by_cases hlt : k < cs.length
      · obtain ⟨b, off, rfl, hc⟩ := (hss.below hb).at hlt
        obtain ⟨c0, c1, c2, c3, c4, c5, c6⟩ := hc k hlt
        have HT : Hid (totalC (cs.take (k + 1)) = totalC (cs.take k) + sizeC cs[k]) := totalC_take cs k hlt
        have hsz := hm cs[k] (List.getElem_mem hlt)
        generalize totalC (cs.take k) = t at *
        clear hc
        have hcall := szChange_any cs[k] ((L : Int) - cs.length - t) wr (by omega) hsz
        unfold chV at hcall
        go_wp2_with fail
        refine hcall.mono ?_
        rintro e w1 ⟨rfl, hb1⟩
        by_cases hneg : (L : Int) - cs.length - t - sizeC cs[k] < 0
        · rw [if_pos hneg]
          clear hcall
          go_wp2
          go_ret
          exact ⟨-1, rfl, hb.trans (hb1.mono hb.size), .inl rfl⟩
        · rw [if_neg hneg]
          clear hcall
          go_wp2
          go_roundw
          case rel => exact ⟨k + 1, by omega, by go_num, by rw [HT.out]; go_num, by rw [HT.out]; omega, hb.trans (hb1.mono hb.size)⟩
          case measure => simp [intOf]; omega
      · obtain rfl : k = cs.length := by omega
        go_wp2
        go_ret
        rw [List.take_length] at *
        exact ⟨_, rfl, hb, .inr ⟨by omega, by omega, hle⟩⟩

set_option maxRecDepth 20000 in
set_option maxHeartbeats 1000000 in
theorem szPatchL_any (L : Nat) (hL : L ≤ 1048576) (a : Option Addr) (cap : Nat) (cs : List Ch) (w : World) (hss : CS w a cs) (hn : cs.length ≤ maxLen) (hm : ∀ s ∈ cs, chMax s) :
    Calls Try.prog 5 #[.agg #[.slice a cs.length cap], .int .i64 L] w fun e w' => ∃ r : Int, e = .returned (.int .i64 r) ∧ Below w.heap.size w w' ∧ ((r = -1) ∨ (0 ≤ r ∧ r ≤ L ∧ cs.length + totalC cs ≤ L)) := by
  go_enter Try.func5, Try.ntmps5
  go_wp2_with fail
  refine (szChangeSL_any L hL a cap cs _ (hss.below ((Below.refl _ _).alloc (Nat.le_refl _) _)) hn hm).mono ?_
  rintro e w1 ⟨r, rfl, hb, hr⟩
  have hb0 : Below w.heap.size w w1 := ((Below.refl _ _).alloc (Nat.le_refl _) _).trans (hb.mono (by simp))
  rcases hr with rfl | ⟨h0, h2, h1⟩
  · go_wp2
    go_ret
    exact ⟨-1, rfl, hb0, .inl rfl⟩
  · go_wp2
    go_ret
    exact ⟨r, rfl, hb0, .inr ⟨h0, h2, h1⟩⟩

def MarkPK (B C : Nat) (a : Option Addr) (n k : Nat) (w : World) (e : Ending) (w' : World) : Prop :=
  e = .returned (.int .i64 ((k + 7 * n : Nat) : Int)) ∧ CIn B C w' a (marksC k n) ∧ ∃ row, w.grownBy w' row ∧ ∀ r, row = some r → B ≤ r ∧ r < C

set_option maxRecDepth 20000 in
set_option maxHeartbeats 1000000 in
theorem markPK_any (k : Nat) (h0 : 0 < k) (hk : k ≤ 10485760) (a : Option Addr) (cap : Nat) (ts : List Ch) (B C : Nat) (w : World) (h : CIn B C w a ts) (hC : C ≤ w.heap.size) (hn : ts.length ≤ 1048576) :
    Calls Try.prog 13 #[.agg #[.slice a ts.length cap], .int .i64 k] w fun e w' => MarkPK B C a ts.length k w e w' := by
  have hb0 : Below w.heap.size w (w.alloc (.cells #[.slice a ts.length cap] 38)) := (Below.refl _ _).alloc (Nat.le_refl _) _
  go_enter Try.func13, Try.ntmps13
  go_wp2_with fail
  refine (markCs_any a cap ts k B _ ((h.cl hC).below hb0) h0 (by omega)).mono ?_
  rintro e w1 ⟨rfl, hel1, row, hg1, hr1⟩
  go_wp2
  go_ret
  refine ⟨rfl, ?_, row, grown_trans (grown_below hb0) hg1, fun r e => ?_⟩
  · rcases h with h | ⟨g, rfl, h1, h2, _⟩
    · subst h; exact .inl rfl
    · rcases hel1 with h | ⟨g', e', h1', h2', h3'⟩
      · exact .inl h
      · cases e'
        exact .inr ⟨g, rfl, h1, h2, h3'⟩
  · obtain ⟨hp, ha⟩ := hr1 r e
    rcases h with h | ⟨g, rfl, h1, h2, _⟩
    · subst h; simp at hp
    · cases ha; exact ⟨h1, h2⟩

/-- Behind a call that gives a patch and whether there is one: where they lie. -/
def CutJ (R : List Ch → Bool → Prop) (W1 : World) (p cc : Value) (W : World) : Prop :=
  ∃ us ok ad cap n2 n3 nc, p = .pointer (some ⟨nc, 0, none⟩) ∧ cc = .bool ok ∧ R us ok ∧ CIn n2 n3 W ad us ∧ W.cell? ⟨nc, 0, none⟩ = some (.slice ad us.length cap) ∧ W1.heap.size ≤ n2 ∧ n2 ≤ n3 ∧ n3 ≤ W.heap.size ∧ W1.heap.size ≤ nc ∧ nc < W.heap.size ∧ (nc < n2 ∨ n3 ≤ nc) ∧ Below W1.heap.size W1 W
/-- The patch's cell made behind the call. -/
theorem cutJ_mk {R : List Ch → Bool → Prop} {W1 Wb W : World} {us : List Ch} {ok : Bool} {ad : Option Addr} {cap : Nat} (hR : R us ok) (hel : CL Wb.heap.size W ad us) (hs : W1.heap.size ≤ Wb.heap.size) (hbs : Wb.heap.size ≤ W.heap.size) (hb : Below W1.heap.size W1 W) :
    CutJ R W1 (.pointer (some ⟨W.heap.size, 0, none⟩)) (.bool ok) (W.alloc (.cells #[.slice ad us.length cap] 38)) := by
  have hal : Below W.heap.size W (W.alloc (.cells #[.slice ad us.length cap] 38)) := (Below.refl _ _).alloc (Nat.le_refl _) _
  exact ⟨us, ok, ad, cap, Wb.heap.size, W.heap.size, W.heap.size, rfl, rfl, hR, (hel.cin (Nat.le_refl _)).below (Nat.le_refl _) hal, by simp, hs, hbs, by simp, hb.size, by simp, .inr (Nat.le_refl _), hb.trans (hal.mono hb.size)⟩
/-- The patch's cell made ahead of the call. -/
theorem cutJ_mk' {R : List Ch → Bool → Prop} {W1 Wb W : World} {us : List Ch} {ok : Bool} {ad : Option Addr} {cap nc : Nat} {u : Value} (hR : R us ok) (hel : CL Wb.heap.size W ad us) (hs : W1.heap.size ≤ nc) (hnc : nc < Wb.heap.size) (hbs : Wb.heap.size ≤ W.heap.size) (hb : Below W1.heap.size W1 W) (hc : W.cell? ⟨nc, 0, none⟩ = some u) :
    CutJ R W1 (.pointer (some ⟨nc, 0, none⟩)) (.bool ok) (W.setCell ⟨nc, 0, none⟩ (.slice ad us.length cap)) := by
  have hg : W.grownBy (W.setCell ⟨nc, 0, none⟩ (.slice ad us.length cap)) (some nc) := grown_setM W nc 0 _
  exact ⟨us, ok, ad, cap, Wb.heap.size, W.heap.size, nc, rfl, rfl, hR, (hel.cin (Nat.le_refl _)).grown (Nat.le_refl _) hg (fun r e => by cases e; exact .inl hnc), World.cell?_setCell_same _ _ _ hc, by omega, hbs, by simp, hs, by simp; omega, .inl hnc, hb.setCell (p := ⟨nc, 0, none⟩) hs _⟩
end Go.Proofs.Ytidkcdppdkfplaa
