/-
  Changes that are a call's own ('CL B w a cs'), and a list of changes in the making: a cell that holds its slice, a row of its own.
-/
import Derived.Test.YtockgapdfcapnaaChangesB
import Derived.Test.YtockgapdfcapnaaOutL
namespace Go.Proofs.Ytockgapdfcapnaa
open Go.RowKit

def ccells (us : List Ch) : List Value := us.flatMap chL
theorem ccells_snoc (us : List Ch) (c : Ch) : ccells (us ++ [c]) = ccells us ++ chL c := by simp [ccells]

theorem news_7 (w : World) (c : Ch) (t : TypeId) (n : Nat) (hn : w.heap.size = n) : ∀ j u, (chL c)[j]? = some u → (w.alloc (.cells #[.string c.path, .bool c.old.there, .string c.old.text, .bool c.old.runs, .bool c.new.there, .string c.new.text, .bool c.new.runs] t)).cell? (Addr.add ⟨n, 0, none⟩ j) = some u := by
  intro j u hj
  subst hn
  rw [Go.WideShapes.add_plain, Nat.zero_add, World.cell?_alloc_new]
  match j, hj with
  | 0, hj => simpa [chL] using hj
  | 1, hj => simpa [chL] using hj
  | 2, hj => simpa [chL] using hj
  | 3, hj => simpa [chL] using hj
  | 4, hj => simpa [chL] using hj
  | 5, hj => simpa [chL] using hj
  | 6, hj => simpa [chL] using hj
theorem one_7 (c : Ch) : ∀ u ∈ chL c, u.oneCell' = true := by
  intro u hu
  simp [chL] at hu
  rcases hu with rfl | rfl | rfl | rfl | rfl | rfl | rfl <;> rfl

/-- Changes that are a call's own. -/
def CL (B : Nat) (w : World) (a : Option Addr) (cs : List Ch) : Prop :=
  cs = [] ∨ ∃ g, a = some ⟨g, 0, none⟩ ∧ B ≤ g ∧ g < w.heap.size ∧ (∀ j, w.frozen? ⟨g, j, none⟩ = false) ∧ ∀ i (h : i < cs.length), ChAt w g (i * 7) cs[i]

theorem CL.cs {B : Nat} {w : World} {a : Option Addr} {cs : List Ch} (h : CL B w a cs) : CS w a cs := by
  rcases h with h | ⟨g, ha, _, _, _, hc⟩
  · exact .inl h
  · refine .inr ⟨g, 0, ha, fun i hi => ?_⟩
    rw [Nat.zero_add]
    exact hc i hi
theorem CL.nil (B : Nat) (w : World) (a : Option Addr) : CL B w a [] := .inl rfl
theorem CL.mono {B B' : Nat} {w : World} {a : Option Addr} {cs : List Ch} (h : CL B w a cs) (hB : B' ≤ B) : CL B' w a cs := by
  rcases h with h | ⟨g, ha, h1, h2⟩
  · exact .inl h
  · exact .inr ⟨g, ha, Nat.le_trans hB h1, h2⟩
theorem CL.grown {B : Nat} {w w' : World} {a : Option Addr} {cs : List Ch} {row : Option Nat} (h : CL B w a cs) (hg : w.grownBy w' row) (hne : ∀ g, blk a = some g → B ≤ g → g < w.heap.size → some g ≠ row) : CL B w' a cs := by
  rcases h with h | ⟨g, rfl, h1, h2, h3, h4⟩
  · exact .inl h
  · have hk := hg.block g h2 (hne g rfl h1 h2)
    exact .inr ⟨g, rfl, h1, Nat.lt_of_lt_of_le h2 hg.size, fun j => frozen_of hk (h3 j), fun i hi => (h4 i hi).block hk⟩
theorem CL.below {B : Nat} {w w' : World} {a : Option Addr} {cs : List Ch} (h : CL B w a cs) (hb : Below w.heap.size w w') : CL B w' a cs :=
  h.grown (row := none) ⟨hb.os, hb.tape, hb.output, hb.size, fun k hk _ => hb.block k hk⟩ (fun _ _ _ _ => by simp)
theorem CL.set {B : Nat} {w : World} {a : Option Addr} {cs : List Ch} (h : CL B w a cs) {g i : Nat} {u : Value} (hne : blk a ≠ some g) : CL B (w.setCell ⟨g, i, none⟩ u) a cs :=
  h.grown (row := some g) ⟨rfl, rfl, rfl, by simp, fun k _ hk => Below.heap_setCell _ _ _ _ (fun e => hk (by rw [e]))⟩ (fun k hk _ _ e => hne (by rw [hk, e]))

theorem ccells_at : ∀ (us : List Ch) (i : Nat) (h : i < us.length) (j : Nat) (v : Value), (chL us[i])[j]? = some v → (ccells us)[i * 7 + j]? = some v
  | [], i, h, _, _, _ => by simp at h
  | c :: us, 0, _, j, v, hv => by
    have hl : j < (chL c).length := (List.getElem?_eq_some_iff.1 hv).1
    simp only [ccells, List.flatMap_cons, Nat.zero_mul, Nat.zero_add]
    rw [List.getElem?_append_left hl]
    exact hv
  | c :: us, i + 1, h, j, v, hv => by
    have ih := ccells_at us i (by simpa using h) j v (by simpa using hv)
    simp only [ccells, List.flatMap_cons] at ih ⊢
    rw [List.getElem?_append_right (by have : (chL c).length = 7 := rfl; omega)]
    rw [show (i + 1) * 7 + j - (chL c).length = i * 7 + j by have : (chL c).length = 7 := rfl; omega]
    exact ih
theorem cl_of_row {B : Nat} {w : World} {e : TypeId} {ad : Option Addr} {cap : Nat} {us : List Ch} (h : w.ownsRow B e 7 (.slice ad us.length cap) us.length (ccells us)) : CL B w ad us := by
  rcases h.2 with ⟨_, h0⟩ | ⟨g, cap', cur, hv, hB, hg, _⟩
  · exact .inl (List.eq_nil_of_length_eq_zero h0)
  · simp only [Value.slice.injEq, true_and] at hv
    obtain ⟨rfl, rfl⟩ := hv
    have key : ∀ i (hi : i < us.length) j v, (chL us[i])[j]? = some v → w.cell? ⟨g, i * 7 + j, none⟩ = some v := fun i hi j v hv => by
      have hl : j < 7 := (List.getElem?_eq_some_iff.1 hv).1
      rw [h.cellAt (i * 7 + j) (by omega)]
      exact ccells_at us i hi j v hv
    exact .inr ⟨g, rfl, hB, (Array.getElem?_eq_some_iff.1 hg).1, fun j => h.frozenAt j, fun i hi => ⟨key i hi 0 _ rfl, key i hi 1 _ rfl, key i hi 2 _ rfl, key i hi 3 _ rfl, key i hi 4 _ rfl, key i hi 5 _ rfl, key i hi 6 _ rfl⟩⟩

structure OutCh (h : Nat) (W0 : World) (v : Value) (us : List Ch) (W : World) : Prop where
  cell : W.cell? ⟨h, 0, none⟩ = some v
  fz : W.frozen? ⟨h, 0, none⟩ = false
  row : W.ownsRow W0.heap.size 82 7 v us.length (ccells us)
  grown : W0.grownBy W (some h)
  lt : h < W0.heap.size

theorem OutCh.start {h : Nat} {W0 : World} (hc : W0.cell? ⟨h, 0, none⟩ = some (.slice none 0 0)) (hf : W0.frozen? ⟨h, 0, none⟩ = false) (hl : h < W0.heap.size) : OutCh h W0 (.slice none 0 0) [] W0 :=
  ⟨hc, hf, World.ownsRow_nil _ _ _ _, ⟨rfl, rfl, rfl, Nat.le_refl _, fun _ _ _ => rfl⟩, hl⟩
theorem OutCh.size {h : Nat} {W0 W : World} {v : Value} {us : List Ch} (s : OutCh h W0 v us W) : h < W.heap.size := Nat.lt_of_lt_of_le s.lt s.grown.size
theorem OutCh.ne {h : Nat} {W0 W : World} {v : Value} {us : List Ch} (s : OutCh h W0 v us W) : v.ownBlock ≠ some h := fun e => by have := owns_row_ge s.row e; have := s.lt; omega
theorem OutCh.later {h : Nat} {W0 W W' : World} {v : Value} {us : List Ch} (s : OutCh h W0 v us W) (hb : Below W.heap.size W W') : OutCh h W0 v us W' :=
  ⟨cell_later hb s.cell, (hb.frozen (p := ⟨h, 0, none⟩) s.size).trans s.fz, owns_below s.row hb, ⟨hb.os.trans s.grown.os, hb.tape.trans s.grown.tape, hb.output.trans s.grown.output, Nat.le_trans s.grown.size hb.size, fun k hk hne => (hb.block k (Nat.lt_of_lt_of_le hk s.grown.size)).trans (s.grown.block k hk hne)⟩, s.lt⟩
theorem OutCh.mid {h : Nat} {W0 W W1 w2 : World} {v : Value} {us : List Ch} (s : OutCh h W0 v us W) (hb : Below W.heap.size W W1) (hg : W1.grownBy w2 v.ownBlock) : w2.cell? ⟨h, 0, none⟩ = some v ∧ w2.frozen? ⟨h, 0, none⟩ = false := by
  have s1 := s.later hb
  have hh := hg.block h s1.size (fun e => s1.ne e.symm)
  exact ⟨(World.cell?_of_block hh).trans s1.cell, frozen_of hh s1.fz⟩
theorem OutCh.append {h g2 cap2 : Nat} {W0 W W1 w2 : World} {v : Value} {us : List Ch} {e : Ch} (s : OutCh h W0 v us W) (hb : Below W.heap.size W W1) (hg : W1.grownBy w2 v.ownBlock) (hown : w2.ownsRow W0.heap.size 82 7 (.slice (some ⟨g2, 0, none⟩) (us.length + 1) cap2) (us.length + 1) (ccells us ++ chL e)) :
    OutCh h W0 (.slice (some ⟨g2, 0, none⟩) (us.length + 1) cap2) (us ++ [e]) (w2.setCell ⟨h, 0, none⟩ (.slice (some ⟨g2, 0, none⟩) (us.length + 1) cap2)) := by
  obtain ⟨hc, hf⟩ := s.mid hb hg
  have s1 := s.later hb
  have hne : (Value.slice (some ⟨g2, 0, none⟩) (us.length + 1) cap2).ownBlock ≠ some h := fun e => by have := owns_row_ge hown e; have := s.lt; omega
  refine ⟨World.cell?_setCell_same _ _ _ hc, (World.frozen?_setCell _ _ _ _).trans hf, ?_, ?_, s.lt⟩
  · rw [ccells_snoc, List.length_append]
    exact hown.kept (grown_set0 w2 h 0 _) (Or.inr hne)
  · refine ⟨hg.os.trans s1.grown.os, hg.tape.trans s1.grown.tape, hg.output.trans s1.grown.output, ?_, fun k hk hne => ?_⟩
    · have := s1.grown.size; have := hg.size; simp; omega
    · refine (Below.heap_setCell _ _ _ _ (fun e => hne (by rw [e]))).trans ?_
      refine (hg.block k (Nat.lt_of_lt_of_le hk s1.grown.size) (fun e => by have := owns_row_ge s1.row e.symm; omega)).trans (s1.grown.block k hk hne)
theorem OutCh.keep {h b : Nat} {W0 W : World} {v u : Value} {us : List Ch} (s : OutCh h W0 v us W) {j : Nat} (hc : W0.cell? ⟨b, j, none⟩ = some u) (hb : b < W0.heap.size) (hne : b ≠ h) : W.cell? ⟨b, j, none⟩ = some u :=
  (World.cell?_of_block (s.grown.block b hb (fun e => hne (by cases e; rfl)))).trans hc
theorem OutCh.below {h : Nat} {w W0 W : World} {v : Value} {us : List Ch} (s : OutCh h W0 v us W) (hb : Below w.heap.size w W0) (hh : w.heap.size ≤ h) : Below w.heap.size w W :=
  hb.grown s.grown hb.size (fun j e => by cases e; exact hh)

def flipC (c : Ch) : Ch := ⟨c.path, c.new, c.old⟩
end Go.Proofs.Ytockgapdfcapnaa
