/-
  Marks of a tree from any number on; a tree in a box of its own ('Itm').
-/
import Derived.Test.YtjienajcpjcfiaeTreeLaw
namespace Go.Proofs.Ytjienajcpjcfiae
open Go.RowKit

def MarkTK (B C : Nat) (a : Option Addr) (n k : Nat) (w : World) (e : Ending) (w' : World) : Prop :=
  e = .returned (.int .i64 ((k + 3 * n : Nat) : Int)) ∧ EIn B C w' a (marksE k n) ∧ ∃ row, w.grownBy w' row ∧ ∀ r, row = some r → B ≤ r ∧ r < C

/-- A tree in a box. -/
structure Itm (W : World) (b B D : Nat) (ad : Option Addr) (cap : Nat) (us : List En) : Prop where
  cell : W.cell? ⟨b, 0, none⟩ = some (.slice ad us.length cap)
  lst : EIn B D W ad us
  hi : D ≤ W.heap.size
theorem Itm.later {W W' : World} {b B D : Nat} {ad : Option Addr} {cap : Nat} {us : List En} (h : Itm W b B D ad cap us) (hb : Below W.heap.size W W') : Itm W' b B D ad cap us :=
  ⟨cell_later hb h.cell, h.lst.below h.hi hb, Nat.le_trans h.hi hb.size⟩
theorem Itm.grown {W W' : World} {b B D : Nat} {ad : Option Addr} {cap : Nat} {us : List En} {row : Option Nat} (h : Itm W b B D ad cap us) (hg : W.grownBy W' row) (hne : ∀ r, row = some r → r ≠ b ∧ (r < B ∨ D ≤ r)) : Itm W' b B D ad cap us :=
  ⟨cell_grown h.cell (cell_lt h.cell) hg (fun r e => (hne r e).1), h.lst.grown h.hi hg (fun r e => (hne r e).2), Nat.le_trans h.hi hg.size⟩
theorem Itm.es {W : World} {b B D : Nat} {ad : Option Addr} {cap : Nat} {us : List En} (h : Itm W b B D ad cap us) : ES W ad us := h.lst.es
/-- The tree's box is new. -/
theorem Itm.new {W : World} {B : Nat} {ad : Option Addr} {cap : Nat} {us : List En} (h : EIn B W.heap.size W ad us) : Itm (W.alloc (.cells #[.slice ad us.length cap] 31)) W.heap.size B W.heap.size ad cap us := by
  have hal : Below W.heap.size W (W.alloc (.cells #[.slice ad us.length cap] 31)) := (Below.refl _ _).alloc (Nat.le_refl _) _
  exact ⟨by simp, h.below (Nat.le_refl _) hal, by simp⟩

set_option maxRecDepth 20000 in
set_option maxHeartbeats 1000000 in
theorem markTK_any (k : Nat) (h0 : 0 < k) (hk : k ≤ 10485760) (a : Option Addr) (cap : Nat) (ts : List En) (B C : Nat) (w : World) (h : EIn B C w a ts) (hC : C ≤ w.heap.size) (hn : ts.length ≤ 1048576) :
    Calls Try.prog 15 #[.agg #[.slice a ts.length cap], .int .i64 k] w fun e w' => MarkTK B C a ts.length k w e w' := by
  have hb0 : Below w.heap.size w (w.alloc (.cells #[.slice a ts.length cap] 31)) := (Below.refl _ _).alloc (Nat.le_refl _) _
  go_enter Try.func15, Try.ntmps15
  go_wp2_with fail
  refine (markEs_any a cap ts k B _ ((h.el hC).below hb0) h0 (by omega)).mono ?_
  rintro e w1 ⟨rfl, hel1, row, hg1, hr1⟩
  go_wp2
  go_ret
  refine ⟨rfl, ?_, row, grown_trans (grown_below hb0) hg1, fun r e => ?_⟩
  · rcases h with h | ⟨g, rfl, h1, h2, _⟩
    · subst h; exact .inl rfl
    · rcases hel1 with h | ⟨g', e', h1', h2', h3'⟩
      · exact .inl h
      · cases e'
        exact .inr ⟨g, rfl, h1, h2, h3'⟩
  · obtain ⟨hp, ha⟩ := hr1 r e
    rcases h with h | ⟨g, rfl, h1, h2, _⟩
    · subst h; simp at hp
    · cases ha; exact ⟨h1, h2⟩
end Go.Proofs.Ytjienajcpjcfiae
