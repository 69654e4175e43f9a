/-
  Slices of pairs that are read.
-/
import Derived.Test.YtobgfogafkeieaaLeastI
namespace Go.Proofs.Ytobgfogafkeieaa
open Go.RowKit

/-- A slice of pairs that is read. -/
def PAt (w : World) (g o : Nat) (p : Nat × Nat) : Prop := w.cell? ⟨g, o, none⟩ = some (.int .i64 (p.1 : Int)) ∧ w.cell? ⟨g, o + 1, none⟩ = some (.int .i64 (p.2 : Int))
def PS (w : World) (a : Option Addr) (ps : List (Nat × Nat)) : Prop :=
  ps = [] ∨ ∃ b off, a = some ⟨b, off, none⟩ ∧ ∀ i (h : i < ps.length), PAt w b (off + i * 2) ps[i]
theorem PS.below {w w' : World} {a : Option Addr} {ps : List (Nat × Nat)} (h : PS w a ps) (hb : Below w.heap.size w w') : PS w' a ps := by
  rcases h with h | ⟨b, off, ha, hc⟩
  · exact .inl h
  · exact .inr ⟨b, off, ha, fun i hi => ⟨cell_later hb (hc i hi).1, cell_later hb (hc i hi).2⟩⟩
theorem PS.at {w : World} {a : Option Addr} {ps : List (Nat × Nat)} (h : PS w a ps) {k : Nat} (hk : k < ps.length) :
    ∃ b off, a = some ⟨b, off, none⟩ ∧ ∀ i (h : i < ps.length), PAt w b (off + i * 2) ps[i] := by
  rcases h with h | h
  · subst h; simp at hk
  · exact h
theorem pairC_get : ∀ (ps : List (Nat × Nat)) (i : Nat) (h : i < ps.length), (pairC ps)[i * 2]? = some (.int .i64 (ps[i].1 : Int)) ∧ (pairC ps)[i * 2 + 1]? = some (.int .i64 (ps[i].2 : Int))
  | [], i, h => by simp at h
  | p :: ps, 0, h => by simp [pairC]
  | p :: ps, i + 1, h => by
    have ih := pairC_get ps i (by simpa using h)
    have e : pairC (p :: ps) = .int .i64 (p.1 : Int) :: .int .i64 (p.2 : Int) :: pairC ps := by simp [pairC]
    rw [e, show (i + 1) * 2 = i * 2 + 1 + 1 by omega]
    simpa using ih
theorem ps_of_row {w : World} {base : Nat} {ad : Option Addr} {cp : Nat} {ps : List (Nat × Nat)} (h : w.ownsRow base 50 2 (.slice ad ps.length cp) ps.length (pairC ps)) : PS w ad ps := by
  rcases h.2 with ⟨_, h0⟩ | ⟨g, c, cur, hv, _⟩
  · exact .inl (List.eq_nil_of_length_eq_zero h0)
  · cases hv
    refine .inr ⟨g, 0, rfl, fun i hi => ⟨?_, ?_⟩⟩
    · rw [Nat.zero_add, h.cellAt (i * 2) (by omega)]; exact (pairC_get ps i hi).1
    · rw [Nat.zero_add, h.cellAt (i * 2 + 1) (by omega)]; exact (pairC_get ps i hi).2

end Go.Proofs.Ytobgfogafkeieaa
