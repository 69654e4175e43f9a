/-
  A list of entries that a function of spec's makes: a cell that holds its slice, a row of its own.
-/
import Derived.Test.YtockgapdfcapnaaEntL
import Derived.Test.YtockgapdfcapnaaLay
import Derived.Test.YtockgapdfcapnaaTreeU
import Derived.Deep.RegionLaw
namespace Go.Proofs.Ytockgapdfcapnaa
open Go.RowKit

structure OutSt (h : Nat) (W0 : World) (v : Value) (us : List En) (W : World) : Prop where
  cell : W.cell? ⟨h, 0, none⟩ = some v
  fz : W.frozen? ⟨h, 0, none⟩ = false
  row : W.ownsRow W0.heap.size 72 3 v us.length (ecells us)
  grown : W0.grownBy W (some h)
  lt : h < W0.heap.size

theorem frozen_of {w w' : World} {g j : Nat} (h : w'.heap[g]? = w.heap[g]?) (hf : w.frozen? ⟨g, j, none⟩ = false) : w'.frozen? ⟨g, j, none⟩ = false := by
  unfold World.frozen? at hf ⊢
  simp only at hf ⊢
  rw [h]; exact hf

theorem OutSt.start {h : Nat} {W0 : World} (hc : W0.cell? ⟨h, 0, none⟩ = some (.slice none 0 0)) (hf : W0.frozen? ⟨h, 0, none⟩ = false) (hl : h < W0.heap.size) : OutSt h W0 (.slice none 0 0) [] W0 :=
  ⟨hc, hf, World.ownsRow_nil _ _ _ _, ⟨rfl, rfl, rfl, Nat.le_refl _, fun _ _ _ => rfl⟩, hl⟩
theorem OutSt.size {h : Nat} {W0 W : World} {v : Value} {us : List En} (s : OutSt h W0 v us W) : h < W.heap.size := Nat.lt_of_lt_of_le s.lt s.grown.size
theorem OutSt.ne {h : Nat} {W0 W : World} {v : Value} {us : List En} (s : OutSt h W0 v us W) : v.ownBlock ≠ some h := fun e => by have := owns_row_ge s.row e; have := s.lt; omega
theorem OutSt.later {h : Nat} {W0 W W' : World} {v : Value} {us : List En} (s : OutSt h W0 v us W) (hb : Below W.heap.size W W') : OutSt h W0 v us W' :=
  ⟨cell_later hb s.cell, (hb.frozen (p := ⟨h, 0, none⟩) s.size).trans s.fz, owns_below s.row hb, ⟨hb.os.trans s.grown.os, hb.tape.trans s.grown.tape, hb.output.trans s.grown.output, Nat.le_trans s.grown.size hb.size, fun k hk hne => (hb.block k (Nat.lt_of_lt_of_le hk s.grown.size)).trans (s.grown.block k hk hne)⟩, s.lt⟩
theorem OutSt.mid {h : Nat} {W0 W W1 w2 : World} {v : Value} {us : List En} (s : OutSt h W0 v us W) (hb : Below W.heap.size W W1) (hg : W1.grownBy w2 v.ownBlock) : w2.cell? ⟨h, 0, none⟩ = some v ∧ w2.frozen? ⟨h, 0, none⟩ = false := by
  have s1 := s.later hb
  have hh := hg.block h s1.size (fun e => s1.ne e.symm)
  exact ⟨(World.cell?_of_block hh).trans s1.cell, frozen_of hh s1.fz⟩
theorem OutSt.midBlock {h b : Nat} {W0 W W1 w2 : World} {v : Value} {us : List En} (s : OutSt h W0 v us W) (hb : Below W.heap.size W W1) (hg : W1.grownBy w2 v.ownBlock) (hl : b < W0.heap.size) (hne : b ≠ h) : w2.heap[b]? = W0.heap[b]? := by
  have s1 := s.later hb
  refine (hg.block b (Nat.lt_of_lt_of_le hl s1.grown.size) (fun e => by have := owns_row_ge s1.row e.symm; omega)).trans (s1.grown.block b hl (fun e => hne (by cases e; rfl)))
theorem OutSt.append {h g2 cap2 : Nat} {W0 W W1 w2 : World} {v : Value} {us : List En} {e : En} (s : OutSt h W0 v us W) (hb : Below W.heap.size W W1) (hg : W1.grownBy w2 v.ownBlock) (hown : w2.ownsRow W0.heap.size 72 3 (.slice (some ⟨g2, 0, none⟩) (us.length + 1) cap2) (us.length + 1) (ecells us ++ ecell e)) :
    OutSt h W0 (.slice (some ⟨g2, 0, none⟩) (us.length + 1) cap2) (us ++ [e]) (w2.setCell ⟨h, 0, none⟩ (.slice (some ⟨g2, 0, none⟩) (us.length + 1) cap2)) := by
  obtain ⟨hc, hf⟩ := s.mid hb hg
  have s1 := s.later hb
  have hne : (Value.slice (some ⟨g2, 0, none⟩) (us.length + 1) cap2).ownBlock ≠ some h := fun e => by have := owns_row_ge hown e; have := s.lt; omega
  refine ⟨World.cell?_setCell_same _ _ _ hc, (World.frozen?_setCell _ _ _ _).trans hf, ?_, ?_, s.lt⟩
  · rw [ecells_snoc, List.length_append]
    exact hown.kept (grown_set0 w2 h 0 _) (Or.inr hne)
  · refine ⟨hg.os.trans s1.grown.os, hg.tape.trans s1.grown.tape, hg.output.trans s1.grown.output, ?_, fun k hk hne => ?_⟩
    · have := s1.grown.size; have := hg.size; simp; omega
    · refine (Below.heap_setCell _ _ _ _ (fun e => hne (by rw [e]))).trans ?_
      refine (hg.block k (Nat.lt_of_lt_of_le hk s1.grown.size) (fun e => by have := owns_row_ge s1.row e.symm; omega)).trans (s1.grown.block k hk hne)
theorem OutSt.keep {h b : Nat} {W0 W : World} {v u : Value} {us : List En} (s : OutSt h W0 v us W) {j : Nat} (hc : W0.cell? ⟨b, j, none⟩ = some u) (hb : b < W0.heap.size) (hne : b ≠ h) : W.cell? ⟨b, j, none⟩ = some u :=
  (World.cell?_of_block (s.grown.block b hb (fun e => hne (by cases e; rfl)))).trans hc
theorem OutSt.below {h : Nat} {w W0 W : World} {v : Value} {us : List En} (s : OutSt h W0 v us W) (hb : Below w.heap.size w W0) (hh : w.heap.size ≤ h) : Below w.heap.size w W :=
  hb.grown s.grown hb.size (fun j e => by cases e; exact hh)
end Go.Proofs.Ytockgapdfcapnaa
