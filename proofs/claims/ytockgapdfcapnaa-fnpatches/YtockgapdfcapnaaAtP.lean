/-
  What a tree has under a path, plain.
-/
import Derived.Test.YtockgapdfcapnaaAtS
import Derived.Test.YtockgapdfcapnaaPatP
import Derived.Test.YtockgapdfcapnaaMrgP
namespace Go.Proofs.Ytockgapdfcapnaa
open Go.RowKit

theorem sameF_iff {f g : Fl} : sameF f g = true ↔ f = g := by
  obtain ⟨f1, f2, f3⟩ := f
  obtain ⟨g1, g2, g3⟩ := g
  simp only [sameF, Bool.and_eq_true, beq_iff_eq, Fl.mk.injEq]
  constructor
  · rintro ⟨⟨rfl, h⟩, rfl⟩
    exact ⟨rfl, WideShapes.bytes_inj (by rw [← Lib.toList_data, ← Lib.toList_data]; exact h), rfl⟩
  · rintro ⟨rfl, rfl, rfl⟩; exact ⟨⟨rfl, rfl⟩, rfl⟩
theorem sameF_not {f g : Fl} : sameF f g = false ↔ f ≠ g := by
  rw [← Bool.not_eq_true, sameF_iff]
theorem at_mem {ts : List En} (h : Asc ts) {e : En} (he : e ∈ ts) : atL ts e.path = ⟨true, e.text, e.runs⟩ := by
  unfold atL
  cases hf : ts.find? (fun x => x.path.toList == e.path.toList) with
  | none =>
    rw [List.find?_eq_none] at hf
    exact absurd (eqb_iff.2 rfl) (hf e he)
  | some x =>
    have h1 : x ∈ ts := List.mem_of_find?_eq_some hf
    have h2 : x.path = e.path := eqb_iff.1 (by have h0 := List.find?_some hf; exact h0)
    have h3 : x = e := by
      obtain ⟨i, hi, rfl⟩ := List.getElem_of_mem h1
      obtain ⟨j, hj, rfl⟩ := List.getElem_of_mem he
      rcases Nat.lt_trichotomy i j with h' | h' | h'
      · exact absurd h2 (less_ne (List.pairwise_iff_getElem.1 h i j hi hj h'))
      · subst h'; rfl
      · exact absurd h2.symm (less_ne (List.pairwise_iff_getElem.1 h j i hj hi h'))
    rw [h3]
theorem at_cases (ts : List En) (p : ByteArray) : (atL ts p = noFl ∧ ∀ e ∈ ts, e.path ≠ p) ∨ ∃ e ∈ ts, e.path = p ∧ atL ts p = ⟨true, e.text, e.runs⟩ := by
  unfold atL
  cases hf : ts.find? (fun x => x.path.toList == p.toList) with
  | none =>
    rw [List.find?_eq_none] at hf
    exact .inl ⟨rfl, fun e he e' => hf e he (eqb_iff.2 e')⟩
  | some x => exact .inr ⟨x, List.mem_of_find?_eq_some hf, eqb_iff.1 (by have h0 := List.find?_some hf; exact h0), rfl⟩
theorem at_there {ts : List En} {p : ByteArray} (h : (atL ts p).there = true) : (⟨p, (atL ts p).text, (atL ts p).runs⟩ : En) ∈ ts := by
  rcases at_cases ts p with ⟨h1, _⟩ | ⟨e, h1, rfl, h2⟩
  · rw [h1] at h; cases h
  · rw [h2]; exact h1
end Go.Proofs.Ytockgapdfcapnaa
