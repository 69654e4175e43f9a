/-
  What the laws of trees lean on: entries between two bounds ('EIn B C w a ts'), their marks.
-/
import Derived.Test.YtmeodgcnnjkilaaMarkE
namespace Go.Proofs.Ytmeodgcnnjkilaa
open Go.RowKit

/-- Entries of a call's own, in a block from B up and under C. -/
def EIn (B C : Nat) (w : World) (a : Option Addr) (ts : List En) : Prop :=
  ts = [] ∨ ∃ g, a = some ⟨g, 0, none⟩ ∧ B ≤ g ∧ g < C ∧ (∀ j, w.frozen? ⟨g, j, none⟩ = false) ∧ ∀ i (h : i < ts.length), EAt w g i ts[i]

theorem EL.ein {B C : Nat} {w : World} {a : Option Addr} {ts : List En} (h : EL B w a ts) (hC : w.heap.size ≤ C) : EIn B C w a ts := by
  rcases h with h | ⟨g, h1, h2, h3, h4⟩
  · exact .inl h
  · exact .inr ⟨g, h1, h2, Nat.lt_of_lt_of_le h3 hC, h4⟩
theorem EIn.el {B C : Nat} {w : World} {a : Option Addr} {ts : List En} (h : EIn B C w a ts) (hC : C ≤ w.heap.size) : EL B w a ts := by
  rcases h with h | ⟨g, h1, h2, h3, h4⟩
  · exact .inl h
  · exact .inr ⟨g, h1, h2, Nat.lt_of_lt_of_le h3 hC, h4⟩
theorem EIn.es {B C : Nat} {w : World} {a : Option Addr} {ts : List En} (h : EIn B C w a ts) : ES w a ts := by
  rcases h with h | ⟨g, h1, _, _, _, hc⟩
  · exact .inl h
  · exact .inr ⟨g, 0, h1, fun i hi => by rw [Nat.zero_add]; exact hc i hi⟩
theorem EIn.grown {B C : Nat} {w w' : World} {a : Option Addr} {ts : List En} {row : Option Nat} (h : EIn B C w a ts) (hC : C ≤ w.heap.size) (hg : w.grownBy w' row) (hne : ∀ r, row = some r → r < B ∨ C ≤ r) : EIn B C w' a ts := by
  rcases h with h | ⟨g, rfl, h1, h2, h3, h4⟩
  · exact .inl h
  · have hk := hg.block g (by omega) (fun e => by rcases hne g e.symm with h | h <;> omega)
    have hc : ∀ j, w'.cell? ⟨g, j, none⟩ = w.cell? ⟨g, j, none⟩ := fun j => World.cell?_of_block hk
    refine .inr ⟨g, rfl, h1, h2, fun j => ?_, fun i hi => ?_⟩
    · have := h3 j
      unfold World.frozen? at this ⊢
      simp only at this ⊢
      rw [hk]; exact this
    · unfold EAt
      rw [hc, hc, hc]; exact h4 i hi
theorem EIn.below {B C : Nat} {w w' : World} {a : Option Addr} {ts : List En} (h : EIn B C w a ts) (hC : C ≤ w.heap.size) (hb : Below w.heap.size w w') : EIn B C w' a ts :=
  h.grown hC (grown_below (row := none) hb) (fun _ e => by cases e)

theorem cell_grown {w w' : World} {row : Option Nat} {b : Nat} {v : Value} (h : w.cell? ⟨b, 0, none⟩ = some v) (hb : b < w.heap.size) (hg : w.grownBy w' row) (hne : ∀ r, row = some r → r ≠ b) : w'.cell? ⟨b, 0, none⟩ = some v :=
  (World.cell?_of_block (hg.block b hb (fun e => hne b e.symm rfl))).trans h

def MarkT (B C : Nat) (a : Option Addr) (n : Nat) (w : World) (e : Ending) (w' : World) : Prop :=
  e = .returned (.int .i64 ((1 + 3 * n : Nat) : Int)) ∧ EIn B C w' a (marksE 1 n) ∧ ∃ row, w.grownBy w' row ∧ ∀ r, row = some r → B ≤ r ∧ r < C

theorem markT_any (a : Option Addr) (cap : Nat) (ts : List En) (B C : Nat) (w : World) (h : EIn B C w a ts) (hC : C ≤ w.heap.size) (hn : ts.length ≤ 1048576) :
    Calls Try.prog 14 #[.agg #[.slice a ts.length cap], .int .i64 1] w fun e w' => MarkT B C a ts.length w e w' := by
  refine (markTree_any a cap ts B w (h.el hC) hn).mono ?_
  rintro e w' ⟨he, hel, row, hg, hr⟩
  refine ⟨he, ?_, row, hg, fun r e => ?_⟩
  · rcases h with h | ⟨g, rfl, h1, h2, _⟩
    · subst h; exact .inl rfl
    · rcases hel with h | ⟨g', e', h1', h2', h3'⟩
      · exact .inl h
      · cases e'
        exact .inr ⟨g, rfl, h1, h2, h3'⟩
  · obtain ⟨hp, ha⟩ := hr r e
    rcases h with h | ⟨g, rfl, h1, h2, _⟩
    · subst h; simp at hp
    · cases ha; exact ⟨h1, h2⟩

theorem ein_of_toTree {w' : World} {B g : Nat} {ts : List En} (hs : ES w' (some ⟨g, 0, none⟩) ts) (hB : B ≤ g) (hf : ∀ j, w'.frozen? ⟨g, j, none⟩ = false) (hl : g < w'.heap.size) : EIn B w'.heap.size w' (some ⟨g, 0, none⟩) ts := by
  rcases hs with h | ⟨b, off, ha, hc⟩
  · exact .inl h
  · cases ha
    refine .inr ⟨g, rfl, hB, hl, hf, fun i hi => ?_⟩
    have := hc i hi
    rw [Nat.zero_add] at this
    exact this
theorem below_marks {w0 w w' : World} {B C b : Nat} {row : Option Nat} (h : Below b w0 w) (hb : b ≤ w.heap.size) (hg : w.grownBy w' row) (hr : ∀ r, row = some r → B ≤ r ∧ r < C) (hB : b ≤ B) : Below b w0 w' :=
  h.grown hg hb (fun r e => by have := (hr r e).1; omega)

/-- Behind a call that gives a tree and a code: where they lie. -/
def CutR (R : List En → Int → Prop) (W1 : World) (p cc : Value) (W : World) : Prop :=
  ∃ us c ad cap n2 n3 nc, p = .pointer (some ⟨nc, 0, none⟩) ∧ cc = .int .i64 c ∧ R us c ∧ EIn n2 n3 W ad us ∧ W.cell? ⟨nc, 0, none⟩ = some (.slice ad us.length cap) ∧ W1.heap.size ≤ n2 ∧ n2 ≤ n3 ∧ n3 ≤ W.heap.size ∧ W1.heap.size ≤ nc ∧ nc < W.heap.size ∧ (nc < n2 ∨ n3 ≤ nc) ∧ Below W1.heap.size W1 W
/-- The tree's cell made behind the call. -/
theorem cutR_mk {R : List En → Int → Prop} {W1 Wb W : World} {us : List En} {c : Int} {ad : Option Addr} {cap : Nat} (hR : R us c) (hel : EL Wb.heap.size W ad us) (hs : W1.heap.size ≤ Wb.heap.size) (hbs : Wb.heap.size ≤ W.heap.size) (hb : Below W1.heap.size W1 W) :
    CutR R W1 (.pointer (some ⟨W.heap.size, 0, none⟩)) (.int .i64 c) (W.alloc (.cells #[.slice ad us.length cap] 31)) := by
  have hal : Below W.heap.size W (W.alloc (.cells #[.slice ad us.length cap] 31)) := (Below.refl _ _).alloc (Nat.le_refl _) _
  exact ⟨us, c, ad, cap, Wb.heap.size, W.heap.size, W.heap.size, rfl, rfl, hR, (hel.ein (Nat.le_refl _)).below (Nat.le_refl _) hal, by simp, hs, hbs, by simp, hb.size, by simp, .inr (Nat.le_refl _), hb.trans (hal.mono hb.size)⟩
/-- The tree's cell made ahead of the call. -/
theorem cutR_mk' {R : List En → Int → Prop} {W1 Wb W : World} {us : List En} {c : Int} {ad : Option Addr} {cap nc : Nat} {u : Value} (hR : R us c) (hel : EL Wb.heap.size W ad us) (hs : W1.heap.size ≤ nc) (hnc : nc < Wb.heap.size) (hbs : Wb.heap.size ≤ W.heap.size) (hb : Below W1.heap.size W1 W) (hc : W.cell? ⟨nc, 0, none⟩ = some u) :
    CutR R W1 (.pointer (some ⟨nc, 0, none⟩)) (.int .i64 c) (W.setCell ⟨nc, 0, none⟩ (.slice ad us.length cap)) := by
  have hg : W.grownBy (W.setCell ⟨nc, 0, none⟩ (.slice ad us.length cap)) (some nc) := grown_setM W nc 0 _
  exact ⟨us, c, ad, cap, Wb.heap.size, W.heap.size, nc, rfl, rfl, hR, (hel.ein (Nat.le_refl _)).grown (Nat.le_refl _) hg (fun r e => by cases e; exact .inl hnc), World.cell?_setCell_same _ _ _ hc, by omega, hbs, by simp, hs, by simp; omega, .inl hnc, hb.setCell (p := ⟨nc, 0, none⟩) hs _⟩

theorem cell_lt {W : World} {n : Nat} {u : Value} (hc : W.cell? ⟨n, 0, none⟩ = some u) : n < W.heap.size := by
  by_cases h : n < W.heap.size
  · exact h
  · unfold World.cell? at hc
    simp only at hc
    rw [Array.getElem?_eq_none (by omega)] at hc
    cases hc
theorem new_cell {W1 Y X : World} {t : TypeId} (hW : Below W1.heap.size W1 Y) (h : Below (Y.alloc (.cells #[.slice none 0 0] t)).heap.size (Y.alloc (.cells #[.slice none 0 0] t)) X) :
    X.cell? ⟨Y.heap.size, 0, none⟩ = some (.slice none 0 0) ∧ X.frozen? ⟨Y.heap.size, 0, none⟩ = false ∧ W1.heap.size ≤ Y.heap.size ∧ Y.heap.size < (Y.alloc (.cells #[.slice none 0 0] t)).heap.size :=
  ⟨cell_later h (by simp), (h.frozen (p := ⟨Y.heap.size, 0, none⟩) (by simp)).trans (by simp), hW.size, by simp⟩
theorem new_cellD {W1 Y X : World} {t : TypeId} (hW : Below W1.heap.size W1 Y) (h : Below (Y.alloc (.cells #[.slice none 0 0] t)).drew.heap.size (Y.alloc (.cells #[.slice none 0 0] t)).drew X) :
    X.cell? ⟨Y.heap.size, 0, none⟩ = some (.slice none 0 0) ∧ X.frozen? ⟨Y.heap.size, 0, none⟩ = false ∧ W1.heap.size ≤ Y.heap.size ∧ Y.heap.size < (Y.alloc (.cells #[.slice none 0 0] t)).drew.heap.size :=
  ⟨cell_later h (by simp), (h.frozen (p := ⟨Y.heap.size, 0, none⟩) (by simp)).trans (by simp), hW.size, by simp⟩
theorem keep_cell {W1 W X : World} {n : Nat} {u : Value} (hc : W.cell? ⟨n, 0, none⟩ = some u) (hf : W.frozen? ⟨n, 0, none⟩ = false) (hn : W1.heap.size ≤ n) (h : Below W.heap.size W X) :
    X.cell? ⟨n, 0, none⟩ = some u ∧ X.frozen? ⟨n, 0, none⟩ = false ∧ W1.heap.size ≤ n ∧ n < W.heap.size :=
  ⟨cell_later h hc, (h.frozen (p := ⟨n, 0, none⟩) (cell_lt hc)).trans hf, hn, cell_lt hc⟩
theorem cellAl {W : World} {b j : Nat} {u : Value} (h : W.cell? ⟨b, j, none⟩ = some u) (o : Obj) : (W.alloc o).cell? ⟨b, j, none⟩ = some u := cell_later ((Below.refl _ _).alloc (Nat.le_refl _) _) h
theorem belowAl {W1 W : World} (h : Below W1.heap.size W1 W) (o : Obj) : Below W1.heap.size W1 (W.alloc o) := h.alloc h.size o
end Go.Proofs.Ytmeodgcnnjkilaa
