/-
  Values that are spoilt: what is held while spec.l2Spoil runs.
-/
import Derived.Test.YtamaioeikcjhoaaDoorDv5
import Derived.Test.YtamaioeikcjhoaaDoorMkV
namespace Go.Proofs.YtamaioeikcjhoaaDoor
open Go.RowKit

structure SB (g : Nat) (a : Option Addr) (cap : Nat) (zs : List Int) (W wr : World) (p rb vb xb : Nat) (v : Value) (ys : List At) (x : At) : Prop where
  rd : Rd wr g a cap zs p
  gr : W.grownBy wr (some g)
  lt : g < W.heap.size
  c : wr.cell? ⟨vb, 0, none⟩ = some v
  f : wr.frozen? ⟨vb, 0, none⟩ = false
  r : wr.cell? ⟨rb, 0, none⟩ = some (.slice none 0 0)
  rf : wr.frozen? ⟨rb, 0, none⟩ = false
  x0 : wr.cell? ⟨xb, 0, none⟩ = some (.int .i64 x.kind)
  x1 : wr.cell? ⟨xb, 1, none⟩ = some (.int .i64 x.n)
  x2 : wr.cell? ⟨xb, 2, none⟩ = some (.string x.text)
  x3 : wr.cell? ⟨xb, 3, none⟩ = some (.int .i64 x.kids)
  xf : ∀ j, wr.frozen? ⟨xb, j, none⟩ = false
  row : wr.ownsRow W.heap.size 66 4 v ys.length (acells ys)
  low : W.heap.size ≤ rb ∧ rb < vb ∧ vb < xb
  own : ∀ j, v.ownBlock = some j → j ≠ rb ∧ j ≠ vb ∧ j ≠ xb
section
variable {g : Nat} {a : Option Addr} {cap : Nat} {zs : List Int} {W wr w1 : World} {p p1 rb vb xb : Nat} {v : Value} {ys : List At} {x : At}
theorem SB.far {row : Option Nat} (h : SB g a cap zs W wr p rb vb xb v ys x) (hg : wr.grownBy w1 row) (hne : ∀ j, row = some j → j ≠ rb ∧ j ≠ vb ∧ j ≠ xb) (hr : Rd w1 g a cap zs p1) (hG : W.grownBy w1 (some g)) (hrow : w1.ownsRow W.heap.size 66 4 v ys.length (acells ys)) : SB g a cap zs W w1 p1 rb vb xb v ys x := by
  have b1 := hg.block vb (lt_of_cellR h.c) (fun e => (hne vb e.symm).2.1 rfl)
  have b2 := hg.block rb (lt_of_cellR h.r) (fun e => (hne rb e.symm).1 rfl)
  have b3 := hg.block xb (lt_of_cellR h.x0) (fun e => (hne xb e.symm).2.2 rfl)
  exact ⟨hr, hG, h.lt, (World.cell?_of_block b1).trans h.c, frozen_ofR b1 h.f, (World.cell?_of_block b2).trans h.r, frozen_ofR b2 h.rf, (World.cell?_of_block b3).trans h.x0, (World.cell?_of_block b3).trans h.x1, (World.cell?_of_block b3).trans h.x2, (World.cell?_of_block b3).trans h.x3, fun j => frozen_ofR b3 (h.xf j), hrow, h.low, h.own⟩
theorem SB.call (h : SB g a cap zs W wr p rb vb xb v ys x) (hg : wr.grownBy w1 (some g)) (hr : Rd w1 g a cap zs p1) : SB g a cap zs W w1 p1 rb vb xb v ys x :=
  h.far hg (fun j e => by cases e; have := h.low; have := h.lt; omega) hr (gr_trans h.gr hg) (owns_rd h.row hg h.lt)
theorem SB.below (h : SB g a cap zs W wr p rb vb xb v ys x) (hb : Below wr.heap.size wr w1) : SB g a cap zs W w1 p rb vb xb v ys x :=
  h.far (row := none) (gr_below hb) (fun j e => by cases e) (h.rd.below hb) (gr_trans h.gr (gr_below hb)) (owns_below h.row hb)
/-- The atom in its box is written. -/
theorem SB.box {x' : At} (h : SB g a cap zs W wr p rb vb xb v ys x) (hg : wr.grownBy w1 (some xb)) (e0 : w1.cell? ⟨xb, 0, none⟩ = some (.int .i64 x'.kind)) (e1 : w1.cell? ⟨xb, 1, none⟩ = some (.int .i64 x'.n)) (e2 : w1.cell? ⟨xb, 2, none⟩ = some (.string x'.text)) (e3 : w1.cell? ⟨xb, 3, none⟩ = some (.int .i64 x'.kids)) (ef : ∀ j, w1.frozen? ⟨xb, j, none⟩ = false) : SB g a cap zs W w1 p rb vb xb v ys x' := by
  have hl := h.low
  have b1 := hg.block vb (lt_of_cellR h.c) (by simp; omega)
  have b2 := hg.block rb (lt_of_cellR h.r) (by simp; omega)
  exact ⟨h.rd.kept hg (fun k hk => by cases hk; have := h.lt; omega), gr_own h.gr hg (fun j e => by cases e; omega), h.lt, (World.cell?_of_block b1).trans h.c, frozen_ofR b1 h.f, (World.cell?_of_block b2).trans h.r, frozen_ofR b2 h.rf, e0, e1, e2, e3, ef, h.row.kept hg (Or.inr (fun e => (h.own xb e).2.2 rfl)), h.low, h.own⟩
theorem SB.setK (h : SB g a cap zs W wr p rb vb xb v ys x) (z : Int) : SB g a cap zs W (wr.setCell ⟨xb, 0, none⟩ (.int .i64 z)) p rb vb xb v ys ⟨z, x.n, x.text, x.kids⟩ :=
  h.box (dk_set _ _ _ _) (World.cell?_setCell_same _ _ _ h.x0) ((World.cell?_setCell_other _ _ _ _ (by simp)).trans h.x1) ((World.cell?_setCell_other _ _ _ _ (by simp)).trans h.x2) ((World.cell?_setCell_other _ _ _ _ (by simp)).trans h.x3) (fun j => by simp [h.xf j])
theorem SB.setN (h : SB g a cap zs W wr p rb vb xb v ys x) (z : Int) : SB g a cap zs W (wr.setCell ⟨xb, 1, none⟩ (.int .i64 z)) p rb vb xb v ys ⟨x.kind, z, x.text, x.kids⟩ :=
  h.box (dk_set _ _ _ _) ((World.cell?_setCell_other _ _ _ _ (by simp)).trans h.x0) (World.cell?_setCell_same _ _ _ h.x1) ((World.cell?_setCell_other _ _ _ _ (by simp)).trans h.x2) ((World.cell?_setCell_other _ _ _ _ (by simp)).trans h.x3) (fun j => by simp [h.xf j])
theorem SB.setT (h : SB g a cap zs W wr p rb vb xb v ys x) (z : ByteArray) : SB g a cap zs W (wr.setCell ⟨xb, 2, none⟩ (.string z)) p rb vb xb v ys ⟨x.kind, x.n, z, x.kids⟩ :=
  h.box (dk_set _ _ _ _) ((World.cell?_setCell_other _ _ _ _ (by simp)).trans h.x0) ((World.cell?_setCell_other _ _ _ _ (by simp)).trans h.x1) (World.cell?_setCell_same _ _ _ h.x2) ((World.cell?_setCell_other _ _ _ _ (by simp)).trans h.x3) (fun j => by simp [h.xf j])
theorem SB.setC (h : SB g a cap zs W wr p rb vb xb v ys x) (z : Int) : SB g a cap zs W (wr.setCell ⟨xb, 3, none⟩ (.int .i64 z)) p rb vb xb v ys ⟨x.kind, x.n, x.text, z⟩ :=
  h.box (dk_set _ _ _ _) ((World.cell?_setCell_other _ _ _ _ (by simp)).trans h.x0) ((World.cell?_setCell_other _ _ _ _ (by simp)).trans h.x1) ((World.cell?_setCell_other _ _ _ _ (by simp)).trans h.x2) (World.cell?_setCell_same _ _ _ h.x3) (fun j => by simp [h.xf j])
/-- A row was appended to and is stored. -/
theorem SB.mid {w3 : World} (h : SB g a cap zs W wr p rb vb xb v ys x) (hg : wr.grownBy w3 v.ownBlock) : w3.cell? ⟨vb, 0, none⟩ = some v ∧ w3.frozen? ⟨vb, 0, none⟩ = false :=
  ⟨(hg.cell_far ⟨vb, 0, none⟩ (lt_of_cellR h.c) (fun e => (h.own vb e.symm).2.1 rfl)).trans h.c, (hg.frozen_far ⟨vb, 0, none⟩ (lt_of_cellR h.c) (fun e => (h.own vb e.symm).2.1 rfl)).trans h.f⟩
end

/-- A value that was drawn, its atoms the call's own. -/
def DrL (g : Nat) (a : Option Addr) (cap : Nat) (zs : List Int) (w : World) (p K N M : Nat) (e : Ending) (w' : World) : Prop :=
  ∃ (ad : Option Addr) (cs : Nat) (ts : List At), e = .returned (.agg #[.slice ad ts.length cs]) ∧ AL w.heap.size w' ad ts ∧ AOk N M ts ∧ Dr g a cap zs w w' p K

theorem AOk.set {N M k : Nat} {ts : List At} {x : At} (h : AOk N M ts) (hx : -9223372036854775808 ≤ x.n ∧ x.n < 9223372036854775808) : AOk N (M + x.text.size) (ts.set k x) := by
  refine ⟨by rw [List.length_set]; exact h.1, ?_, fun y hy => ?_⟩
  · have hlt : ∀ (ts : List At) (k : Nat), totalA (ts.set k x) ≤ totalA ts + x.text.size := by
      intro ts
      induction ts with
      | nil => intro k; simp [totalA]
      | cons t ts ih =>
        intro k
        cases k with
        | zero => simp [totalA]; omega
        | succ k => have := ih k; simp [totalA] at this ⊢; omega
    have := hlt ts k
    have := h.2.1
    omega
  · rcases List.mem_or_eq_of_mem_set hy with h' | h'
    · exact h.2.2 y h'
    · rw [h']; exact hx
/-- An element of a row is written whole. -/
theorem al_set4 {B g n c k : Nat} {w : World} {e : TypeId} {ts : List At} {x : At} (h : w.ownsRow B e 4 (.slice (some ⟨g, 0, none⟩) n c) n (acells ts)) (hn : n = ts.length) (hk : k < ts.length) : AL B (set4 w g (k * 4) (.int .i64 x.kind) (.int .i64 x.n) (.string x.text) (.int .i64 x.kids)) (some ⟨g, 0, none⟩) (ts.set k x) := by
  subst hn
  rcases al_of_row h with h0 | ⟨g', hg', hB, hlt, hfz, hc⟩
  · rw [h0] at hk; simp at hk
  · cases hg'
    refine .inr ⟨g, rfl, hB, by unfold set4; simpa using hlt, fun j => by rw [set4_frozen]; exact hfz j, fun i hi => ?_⟩
    rw [List.length_set] at hi
    by_cases hik : k = i
    · subst hik
      rw [List.getElem_set_self]
      obtain ⟨y0, y1, y2, y3⟩ := hc k hk
      exact set4_hit y0 y1 y2 y3
    · rw [List.getElem_set_ne hik]
      obtain ⟨y0, y1, y2, y3⟩ := hc i hi
      unfold AAt
      rw [set4_other (by omega), set4_other (by omega), set4_other (by omega), set4_other (by omega)]
      exact ⟨y0, y1, y2, y3⟩
/-- A text of a row is written. -/
theorem al_setT {B g n c k : Nat} {w : World} {e : TypeId} {ts : List At} {t : ByteArray} (h : w.ownsRow B e 4 (.slice (some ⟨g, 0, none⟩) n c) n (acells ts)) (hn : n = ts.length) (hk : k < ts.length) : AL B (w.setCell ⟨g, k * 4 + 2, none⟩ (.string t)) (some ⟨g, 0, none⟩) (ts.set k ⟨ts[k].kind, ts[k].n, t, ts[k].kids⟩) := by
  subst hn
  rcases al_of_row h with h0 | ⟨g', hg', hB, hlt, hfz, hc⟩
  · rw [h0] at hk; simp at hk
  · cases hg'
    refine .inr ⟨g, rfl, hB, by simpa using hlt, fun j => by rw [World.frozen?_setCell]; exact hfz j, fun i hi => ?_⟩
    rw [List.length_set] at hi
    by_cases hik : k = i
    · subst hik
      rw [List.getElem_set_self]
      obtain ⟨y0, y1, y2, y3⟩ := hc k hk
      exact ⟨(World.cell?_setCell_other _ _ _ _ (by intro e; injection e with _ e; omega)).trans y0, (World.cell?_setCell_other _ _ _ _ (by intro e; injection e with _ e; omega)).trans y1, World.cell?_setCell_same _ _ _ y2, (World.cell?_setCell_other _ _ _ _ (by intro e; injection e with _ e; omega)).trans y3⟩
    · rw [List.getElem_set_ne hik]
      exact (hc i hi).other (by omega)
end Go.Proofs.YtamaioeikcjhoaaDoor
