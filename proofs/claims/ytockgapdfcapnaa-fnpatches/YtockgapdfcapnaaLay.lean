/-
  impl's lay.
-/
import Derived.Test.YtockgapdfcapnaaReach
import Derived.Test.YtockgapdfcapnaaFileOf
namespace Go.Proofs.Ytockgapdfcapnaa
open Go.RowKit

/-- What is in the way of a file. -/
def Blocked (β : Way → Option Nat) (φ : Way → Option (ByteArray × Bool)) (ps : Way) : Prop :=
  (∃ q, q <+: ps ∧ q ≠ ps ∧ φ q ≠ none) ∨ φ ps ≠ none ∨ ∃ x, β (ps ++ [x]) ≠ none

def set3 (W : World) (b : Nat) (t : ByteArray) (r : Bool) : World := ((W.setCell ⟨b, 0, none⟩ (.bool true)).setCell ⟨b, 1, none⟩ (.string t)).setCell ⟨b, 2, none⟩ (.bool r)

theorem set3_same {W : World} {b mb : Nat} {f : Option (ByteArray × Bool)} (h : W.heap[b]? = some (nodeObj f mb)) (t : ByteArray) (r : Bool) : (set3 W b t r).heap[b]? = some (nodeObj (some (t, r)) mb) := by
  have h' : ∃ x y z, W.heap[b]? = some (.cells #[x, y, z, .map (some mb)] 132) := by
    cases f with
    | none => exact ⟨_, _, _, h⟩
    | some g => obtain ⟨t', r'⟩ := g; exact ⟨_, _, _, h⟩
  obtain ⟨x, y, z, h'⟩ := h'
  unfold set3 World.setCell
  simp [Array.getElem?_modify, h', nodeObj]
theorem set3_other {W : World} {b k : Nat} (h : k ≠ b) (t : ByteArray) (r : Bool) : (set3 W b t r).heap[k]? = W.heap[k]? := by
  unfold set3
  rw [Below.heap_setCell _ _ _ _ (show k ≠ b from h), Below.heap_setCell _ _ _ _ (show k ≠ b from h), Below.heap_setCell _ _ _ _ (show k ≠ b from h)]

theorem TreeM.fill {lo N : Nat} {W : World} {β : Way → Option Nat} {μ : Way → Nat} {φ : Way → Option (ByteArray × Bool)} {p : Way} {b : Nat} (h : TreeM lo N W β μ φ) (hb : β p = some b) (t : ByteArray) (r : Bool) : TreeM lo N (set3 W b t r) β μ (upd φ p (some (t, r))) := by
  refine ⟨fun q bq hq => ?_, h.inj, h.minj, h.up, h.root⟩
  obtain ⟨h1, h2, h3, h4⟩ := h.node q bq hq
  have hm : μ q ≠ b := fun e => by
    obtain ⟨es, cl, h5⟩ := h4.obj
    obtain ⟨h6, _⟩ := h.node p b hb
    rw [e, h6] at h5
    unfold nodeObj at h5
    split at h5 <;> cases h5
  refine ⟨?_, h2, h3, h4.block (set3_other hm t r)⟩
  by_cases e : q = p
  · subst e
    rw [hb] at hq
    cases hq
    rw [upd_same]
    exact set3_same h1 t r
  · rw [upd_other _ _ e]
    exact (set3_other (fun e' => e (h.inj q p b (by rw [← e']; exact hq) hb)) t r).trans h1

theorem grown_set0 (w : World) (g i : Nat) (v : Value) : w.grownBy (w.setCell ⟨g, i, none⟩ v) (some g) :=
  ⟨rfl, rfl, rfl, by simp, fun k _ hk => Below.heap_setCell _ _ _ _ (by simpa using hk)⟩

/-- What lay answers. -/
def LayPost (lo N : Nat) (W0 : World) (β : Way → Option Nat) (μ : Way → Nat) (φ : Way → Option (ByteArray × Bool)) (ps : Way) (t : ByteArray) (r : Bool) (e : Ending) (W : World) : Prop :=
  (e = .returned (.bool true) ∧ ¬ Blocked β φ ps ∧ (∃ β' μ', TreeM lo (N + ps.length) W β' μ' (upd φ ps (some (t, r))) ∧ (∀ q, β' q ≠ none ↔ β q ≠ none ∨ q <+: ps) ∧ β' [] = β []) ∧ BT β μ W0 W) ∨
  (e = .returned (.bool false) ∧ Blocked β φ ps ∧ (∃ β' μ' q b, q <+: ps ∧ β q ≠ none ∧ TreeM lo (N + q.length) W β' μ' φ ∧ β' q = some b ∧ (∀ r, β' r ≠ none ↔ β r ≠ none ∨ r <+: q) ∧ β' [] = β []) ∧ BT β μ W0 W)

set_option maxRecDepth 100000 in
set_option maxHeartbeats 4000000 in
theorem lay_any (lo N root : Nat) (w : World) (β : Way → Option Nat) (μ : Way → Nat) (φ : Way → Option (ByteArray × Bool)) (hT : TreeM lo N w β μ φ) (hφ : ∀ q, φ q ≠ none → β q ≠ none) (hr : β [] = some root) (hN : N ≤ 90000) (en : En) (hs : en.path.size ≤ 90000) (hpos : 0 < en.path.size) :
    Calls Try.prog 81 #[.pointer (some ⟨root, 0, none⟩), .agg #[.string en.path, .string en.text, .bool en.runs]] w fun e w' => LayPost lo N w β μ φ (partsB en.path) en.text en.runs e w' := by
  have hal : Below w.heap.size w (w.alloc (.cells #[.string en.path, .string en.text, .bool en.runs] 72)) := (Below.refl _ _).alloc (Nat.le_refl _) _
  have hcall := reach_any lo N root _ β μ φ (hT.below hal) hφ hr (by omega) en.path (by omega)
  have hall : BT β μ w (w.alloc (.cells #[.string en.path, .string en.text, .bool en.runs] 72)) := BT.of_below hal
  have hnb : ¬ TreeB β μ w.heap.size := fun h => by have := (hT.lt h).2; omega
  go_enter Try.func81, Try.ntmps81
  go_wp2_with fail
  refine hcall.mono ?_
  rintro e w1 (⟨β', μ', b, hA, rfl, hB⟩ | ⟨β', μ', b, q, hA, hq, hne, hf, rfl, hB⟩)
  · have hB1 := hall.trans hB
    obtain ⟨hob, _, _, hkd⟩ := hA.tree.node _ b hA.here
    obtain ⟨c0, c3, cf, c1, c2⟩ := node_cells hob
    have hbx := hB.block w.heap.size (by simp) hnb
    have x0 : w1.cell? ⟨w.heap.size, 0, none⟩ = some (.string en.path) := (World.cell?_of_block hbx).trans (by simp)
    have x1 : w1.cell? ⟨w.heap.size, 1, none⟩ = some (.string en.text) := (World.cell?_of_block hbx).trans (by simp)
    have x2 : w1.cell? ⟨w.heap.size, 2, none⟩ = some (.bool en.runs) := (World.cell?_of_block hbx).trans (by simp)
    have hkids : (∀ x, β' (partsB en.path ++ [x]) = none) ↔ ∀ x, β (partsB en.path ++ [x]) = none := by
      constructor
      · intro h x
        cases hx : β (partsB en.path ++ [x]) with
        | none => rfl
        | some c => exact absurd (h x) ((hA.grown _).2 (.inl (by rw [hx]; simp)))
      · intro h x
        cases hx : β' (partsB en.path ++ [x]) with
        | none => rfl
        | some c =>
          rcases (hA.grown (partsB en.path ++ [x])).1 (by rw [hx]; simp) with h1 | h1
          · exact absurd (h x) h1
          · have := h1.length_le; simp at this; omega
    have hbt : b < w.heap.size → TreeB β μ b := fun h => by
      cases hbp : β (partsB en.path) with
      | none => have := (hA.new _ b hbp hA.here).1; simp at this; omega
      | some bb => have := (hA.old _ (by rw [hbp]; simp)).1; rw [hA.here, hbp] at this; cases this; exact .inl ⟨_, hbp⟩
    have hout : Keep (β (partsB en.path) ≠ none → ∃ β' μ' q b, q <+: partsB en.path ∧ β q ≠ none ∧ TreeM lo (N + q.length) w1 β' μ' φ ∧ β' q = some b ∧ (∀ r, β' r ≠ none ↔ β r ≠ none ∨ r <+: q) ∧ β' [] = β []) := ⟨fun h => ⟨β', μ', _, b, List.prefix_refl _, h, hA.tree, hA.here, hA.grown, hA.root⟩⟩
    cases hf : φ (partsB en.path) with
    | some f =>
      rw [hf] at c0
      go_wp2
      go_ret
      exact .inr ⟨rfl, .inr (.inl (by rw [hf]; simp)), hout.out (hφ _ (by rw [hf]; simp)), hB1⟩
    | none =>
      rw [hf] at c0
      obtain ⟨c, hlen, hc0, hcN⟩ := hkd.len 3
      by_cases hz : c = 0
      · have hno := hkids.1 (hc0.1 hz)
        subst hz
        have hfree : ¬ Blocked β φ (partsB en.path) := by
          rintro (⟨q, h1, h2, h3⟩ | h1 | ⟨x, h1⟩)
          · exact h3 (hA.free q h1 h2)
          · exact h1 hf
          · exact h1 (hno x)
        clear hkids hc0 hno hout hcN
        go_wp2_with fail
        refine (file_any en w1 hpos).mono ?_
        rintro e w2 ⟨rfl, hb2⟩
        have hA2 := hA.tree.below hb2
        obtain ⟨hob2, _, _, _⟩ := hA2.node _ b hA.here
        obtain ⟨d0, d3, df, d1, d2⟩ := node_cells hob2
        have hfill := hA2.fill hA.here en.text en.runs
        have hB2 : BT β μ w (set3 w2 b en.text en.runs) := (((hB1.trans (BT.of_below hb2)).row (grown_set0 w2 b 0 _) hbt).row (grown_set0 _ b 1 _) hbt).row (grown_set0 _ b 2 _) hbt
        clear c0 c1 c2 c3 cf hob2 hA2 hob
        go_wp2
        go_ret
        exact .inl ⟨rfl, hfree, ⟨β', μ', hfill, hA.grown, hA.root⟩, hB2⟩
      · have hx : ∃ x, β (partsB en.path ++ [x]) ≠ none := by
          by_cases h : ∃ x, β (partsB en.path ++ [x]) ≠ none
          · exact h
          · exact absurd (hc0.2 (hkids.2 (fun x => by
              cases hx : β (partsB en.path ++ [x]) with
              | none => rfl
              | some y => exact absurd ⟨x, by rw [hx]; simp⟩ h))) hz
        have hpos : (0 : Int) < c := by omega
        clear hkids hc0
        go_wp2
        go_ret
        exact .inr ⟨rfl, .inr (.inr hx), hout.out (hT.up _ _ hx.choose_spec), hB1⟩
  · go_wp2
    go_ret
    exact .inr ⟨rfl, .inl ⟨q, hq, hne, hf⟩, ⟨β', μ', q, b, hq, hφ q hf, hA.tree, hA.here, hA.grown, hA.root⟩, hall.trans hB⟩
end Go.Proofs.Ytockgapdfcapnaa
