/-
  What the laws of patches lean on: changes between two bounds ('CIn B C w a cs'), their marks.
-/
import Derived.Test.YtcapcjojlpljiaaMarkC
import Derived.Test.YtcapcjojlpljiaaSplitP
import Derived.Test.YtcapcjojlpljiaaTreeLaw
namespace Go.Proofs.Ytcapcjojlpljiaa
open Go.RowKit

/-- Changes of a call's own, in a block from B up and under C. -/
def CIn (B C : Nat) (w : World) (a : Option Addr) (ts : List Ch) : Prop :=
  ts = [] ∨ ∃ g, a = some ⟨g, 0, none⟩ ∧ B ≤ g ∧ g < C ∧ (∀ j, w.frozen? ⟨g, j, none⟩ = false) ∧ ∀ i (h : i < ts.length), ChAt w g (i * 7) ts[i]

theorem CL.cin {B C : Nat} {w : World} {a : Option Addr} {ts : List Ch} (h : CL B w a ts) (hC : w.heap.size ≤ C) : CIn B C w a ts := by
  rcases h with h | ⟨g, h1, h2, h3, h4⟩
  · exact .inl h
  · exact .inr ⟨g, h1, h2, Nat.lt_of_lt_of_le h3 hC, h4⟩
theorem CIn.cl {B C : Nat} {w : World} {a : Option Addr} {ts : List Ch} (h : CIn B C w a ts) (hC : C ≤ w.heap.size) : CL B w a ts := by
  rcases h with h | ⟨g, h1, h2, h3, h4⟩
  · exact .inl h
  · exact .inr ⟨g, h1, h2, Nat.lt_of_lt_of_le h3 hC, h4⟩
theorem CIn.cs {B C : Nat} {w : World} {a : Option Addr} {ts : List Ch} (h : CIn B C w a ts) : CS w a ts := by
  rcases h with h | ⟨g, h1, _, _, _, hc⟩
  · exact .inl h
  · exact .inr ⟨g, 0, h1, fun i hi => by rw [Nat.zero_add]; exact hc i hi⟩
theorem CIn.grown {B C : Nat} {w w' : World} {a : Option Addr} {ts : List Ch} {row : Option Nat} (h : CIn B C w a ts) (hC : C ≤ w.heap.size) (hg : w.grownBy w' row) (hne : ∀ r, row = some r → r < B ∨ C ≤ r) : CIn B C w' a ts := by
  rcases h with h | ⟨g, rfl, h1, h2, h3, h4⟩
  · exact .inl h
  · have hk := hg.block g (by omega) (fun e => by rcases hne g e.symm with h | h <;> omega)
    refine .inr ⟨g, rfl, h1, h2, fun j => ?_, fun i hi => ?_⟩
    · have := h3 j
      unfold World.frozen? at this ⊢
      simp only at this ⊢
      rw [hk]; exact this
    · exact (h4 i hi).block hk
theorem CIn.below {B C : Nat} {w w' : World} {a : Option Addr} {ts : List Ch} (h : CIn B C w a ts) (hC : C ≤ w.heap.size) (hb : Below w.heap.size w w') : CIn B C w' a ts :=
  h.grown hC (grown_below (row := none) hb) (fun _ e => by cases e)

def MarkP (B C : Nat) (a : Option Addr) (n : Nat) (w : World) (e : Ending) (w' : World) : Prop :=
  e = .returned (.int .i64 ((1 + 7 * n : Nat) : Int)) ∧ CIn B C w' a (marksC 1 n) ∧ ∃ row, w.grownBy w' row ∧ ∀ r, row = some r → B ≤ r ∧ r < C

theorem markP_any (a : Option Addr) (cap : Nat) (ts : List Ch) (B C : Nat) (w : World) (h : CIn B C w a ts) (hC : C ≤ w.heap.size) (hn : ts.length ≤ 1048576) :
    Calls Try.prog 23 #[.agg #[.slice a ts.length cap], .int .i64 1] w fun e w' => MarkP B C a ts.length w e w' := by
  refine (markPatch_any a cap ts B w (h.cl hC) hn).mono ?_
  rintro e w' ⟨he, hel, row, hg, hr⟩
  refine ⟨he, ?_, row, hg, fun r e => ?_⟩
  · rcases h with h | ⟨g, rfl, h1, h2, _⟩
    · subst h; exact .inl rfl
    · rcases hel with h | ⟨g', e', h1', h2', h3'⟩
      · exact .inl h
      · cases e'
        exact .inr ⟨g, rfl, h1, h2, h3'⟩
  · obtain ⟨hp, ha⟩ := hr r e
    rcases h with h | ⟨g, rfl, h1, h2, _⟩
    · subst h; simp at hp
    · cases ha; exact ⟨h1, h2⟩

theorem cin_of_toPatch {w' : World} {B g : Nat} {ts : List Ch} (hs : CS w' (some ⟨g, 0, none⟩) ts) (hB : B ≤ g) (hf : ∀ j, w'.frozen? ⟨g, j, none⟩ = false) (hl : g < w'.heap.size) : CIn B w'.heap.size w' (some ⟨g, 0, none⟩) ts := by
  rcases hs with h | ⟨b, off, ha, hc⟩
  · exact .inl h
  · cases ha
    refine .inr ⟨g, rfl, hB, hl, hf, fun i hi => ?_⟩
    have := hc i hi
    rw [Nat.zero_add] at this
    exact this
end Go.Proofs.Ytcapcjojlpljiaa
