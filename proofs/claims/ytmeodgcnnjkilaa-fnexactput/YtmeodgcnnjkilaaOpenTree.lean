/-
  An argument of type Tree, opened.
-/
import Derived.Test.YtmeodgcnnjkilaaEntries
import Derived.Test.YtmeodgcnnjkilaaRows
import Derived.ProofKit
import Derived.OpenShut
import Derived.ChangeOld
import Derived.Below
import Derived.Deep.Slices
import Derived.Lib.SmallJoins
import Derived.Deep.Strs
namespace Go.Proofs.Ytmeodgcnnjkilaa
open Go.ChangeShapes Go.WideShapes Go.ChangeAt Go.RowKit

theorem cellsEntry : Try.prog.cellsOf 26 = 3 := by kernel_rfl
theorem cellsRow : Try.prog.cellsOf 22 = 1 := by kernel_rfl
theorem cellsStr : Try.prog.cellsOf 9 = 1 := by kernel_rfl
theorem cellsBool : Try.prog.cellsOf 4 = 1 := by kernel_rfl
theorem cellsVal : Try.prog.cellsOf 24 = 1 := by kernel_rfl

set_option maxRecDepth 100000 in
theorem open_entry {H : Type} {enc : TypeId × Value → H} {W : World} {n : Nat} {cs : List Value} {x : DataW H × List MemPlace} {a : Addr} (h1 : W.cells? 0 a 3 = some cs) (h2 : DataW.trod enc Try.prog W 0 (fun _ => true) true n 26 cs = some x) :
    ∃ t : En, W.cell? (a.add 0) = some (.string t.path) ∧ W.cell? (a.add 1) = some (.string t.text) ∧ W.cell? (a.add 2) = some (.bool t.runs) ∧ t.path.size ≤ maxLen ∧ t.text.size ≤ maxLen := by
  obtain ⟨_, hlen, hc⟩ := World.cells?_some h1
  match cs, hlen with
  | [c0, c1, c2], _ =>
    obtain ⟨y0, y1, y2, m, _, _, g0, g1, g2⟩ := Go.Deep.trod_struct3 Try.underlying26 h2
    simp only [cellsStr, cellsBool, List.drop, List.take] at g0 g1 g2
    obtain ⟨s0, e0, _, hs0⟩ := DataW.trod_string Try.underlying9 g0
    obtain ⟨s1, e1, _, hs1⟩ := DataW.trod_string Try.underlying9 g1
    obtain ⟨b2, e2, _⟩ := DataW.trod_bool Try.underlying4 g2
    simp at e0 e1 e2
    subst e0 e1 e2
    exact ⟨⟨s0, s1, b2⟩, hc 0 (by omega), hc 1 (by omega), hc 2 (by omega), hs0, hs1⟩

set_option maxRecDepth 100000 in
theorem open_tree {H : Type} {enc : TypeId × Value → H} {W : World} {base : Nat} {v : Value} {d : DataW H} {p : List MemPlace} (hv : Value.okWide Try.prog W .any base 24 v) (h : DataW.Trod enc Try.prog W 0 (fun _ => true) true 24 v d p) :
    ∃ a cap ts, v = .agg #[.slice a ts.length cap] ∧ ES W a ts ∧ ts.length ≤ maxLen ∧ ∀ s ∈ ts, s.path.size ≤ maxLen ∧ s.text.size ≤ maxLen := by
  haveI : Inhabited En := ⟨⟨⟨#[]⟩, ⟨#[]⟩, false⟩⟩
  obtain ⟨cs, rfl, hsz⟩ := okWide_struct Try.underlying24 hv
  rw [cellsVal] at hsz
  obtain ⟨c0, rfl⟩ : ∃ c0, cs = #[c0] := by
    obtain ⟨l⟩ := cs
    match l, hsz with
    | [c], _ => exact ⟨c, rfl⟩
  obtain ⟨fuel, hf⟩ := h
  obtain ⟨y0, n, _, _, h0⟩ := trod_struct1 Try.underlying24 hf
  simp only [cellsRow, Value.cells, List.drop, List.take] at h0
  rcases Go.Deep.open_slice Try.underlying22 h0 with ⟨hcs, _⟩ | ⟨a, len, cap, m, n, D, Pl, hcs, _, hl, hm, hmm, _, hx⟩
  · simp at hcs
    subst hcs
    exact ⟨none, 0, [], rfl, .inl rfl, Nat.zero_le _, fun s hs => by simp at hs⟩
  · simp at hcs
    subst hcs
    simp at hmm
    subst hmm
    rw [cellsEntry] at hx
    obtain ⟨V, hV⟩ := Go.Deep.choose_lt (α := En) (p := fun i t => W.cell? ((a.add (i * 3)).add 0) = some (.string t.path) ∧ W.cell? ((a.add (i * 3)).add 1) = some (.string t.text) ∧ W.cell? ((a.add (i * 3)).add 2) = some (.bool t.runs) ∧ t.path.size ≤ maxLen ∧ t.text.size ≤ maxLen) (n := m) (fun i hi => by
      obtain ⟨cs', h1, h2⟩ := hx i hi
      exact open_entry h1 h2)
    refine ⟨some a, m, (List.range len).map V, by simp, ?_, by simp; omega, ?_⟩
    · by_cases h0 : len = 0
      · left; simp [h0]
      · right
        obtain ⟨b, off, spot⟩ := a
        have hspot : spot = none := by simpa [Addr.add] using World.cell?_spot (hV 0 (by omega)).1
        subst hspot
        refine ⟨b, off, rfl, fun i hi => ?_⟩
        simp at hi
        obtain ⟨q0, q1, q2, _⟩ := hV i (by omega)
        simp only [Go.WideShapes.add_plain, Nat.add_zero] at q0 q1 q2
        simp only [List.getElem_map, List.getElem_range]
        exact ⟨q0, q1, q2⟩
    · intro s hs
      simp only [List.mem_map, List.mem_range] at hs
      obtain ⟨i, hi, rfl⟩ := hs
      exact (hV i (by omega)).2.2.2
end Go.Proofs.Ytmeodgcnnjkilaa
