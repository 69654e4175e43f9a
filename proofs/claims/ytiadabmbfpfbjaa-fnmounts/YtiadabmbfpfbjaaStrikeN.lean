/-
  A node's file struck.
-/
import Derived.Test.YtiadabmbfpfbjaaTreeMem
namespace Go.Proofs.Ytiadabmbfpfbjaa
open Go.RowKit

def setN (W : World) (b : Nat) : World := ((W.setCell ⟨b, 0, none⟩ (.bool false)).setCell ⟨b, 1, none⟩ (.string ⟨#[]⟩)).setCell ⟨b, 2, none⟩ (.bool false)
theorem setN_same {W : World} {b mb : Nat} {f : Option (ByteArray × Bool)} (h : W.heap[b]? = some (nodeObj f mb)) : (setN W b).heap[b]? = some (nodeObj none mb) := by
  have h' : ∃ x y z, W.heap[b]? = some (.cells #[x, y, z, .map (some mb)] 56) := by
    cases f with
    | none => exact ⟨_, _, _, h⟩
    | some g => obtain ⟨t', r'⟩ := g; exact ⟨_, _, _, h⟩
  obtain ⟨x, y, z, h'⟩ := h'
  unfold setN World.setCell
  simp [Array.getElem?_modify, h', nodeObj]
theorem setN_other {W : World} {b k : Nat} (h : k ≠ b) : (setN W b).heap[k]? = W.heap[k]? := by
  unfold setN
  rw [Below.heap_setCell _ _ _ _ (show k ≠ b from h), Below.heap_setCell _ _ _ _ (show k ≠ b from h), Below.heap_setCell _ _ _ _ (show k ≠ b from h)]
theorem setN_below {W w0 : World} {B b : Nat} (h : Below B w0 W) (hb : B ≤ b) : Below B w0 (setN W b) :=
  ((h.setCell (p := ⟨b, 0, none⟩) hb _).setCell (p := ⟨b, 1, none⟩) hb _).setCell (p := ⟨b, 2, none⟩) hb _

theorem TreeM.strike {lo N : Nat} {W : World} {β : Way → Option Nat} {μ : Way → Nat} {φ : Way → Option (ByteArray × Bool)} {p : Way} {b : Nat} (h : TreeM lo N W β μ φ) (hb : β p = some b) : TreeM lo N (setN W b) β μ (upd φ p none) := by
  refine ⟨fun q bq hq => ?_, h.inj, h.minj, h.up, h.root⟩
  obtain ⟨h1, h2, h3, h4⟩ := h.node q bq hq
  have hm : μ q ≠ b := fun e => by
    obtain ⟨es, cl, h5⟩ := h4.obj
    obtain ⟨h6, _⟩ := h.node p b hb
    rw [e, h6] at h5
    unfold nodeObj at h5
    split at h5 <;> cases h5
  refine ⟨?_, h2, h3, h4.block (setN_other hm)⟩
  by_cases e : q = p
  · subst e
    rw [hb] at hq
    cases hq
    rw [upd_same]
    exact setN_same h1
  · rw [upd_other _ _ e]
    exact (setN_other (fun e' => e (h.inj q p b (by rw [← e']; exact hq) hb))).trans h1
end Go.Proofs.Ytiadabmbfpfbjaa
