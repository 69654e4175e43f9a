/-
  An argument of type Patch, opened.
-/
import Derived.Test.YtcapcjojlpljiaaChangesT
import Derived.Test.YtcapcjojlpljiaaRows
import Derived.ProofKit
import Derived.OpenShut
import Derived.ChangeOld
import Derived.Below
import Derived.Deep.Slices
import Derived.Lib.SmallJoins
import Derived.Deep.Strs
namespace Go.Proofs.Ytcapcjojlpljiaa
open Go.ChangeShapes Go.WideShapes Go.ChangeAt Go.RowKit

theorem cellsCh : Try.prog.cellsOf 87 = 7 := by kernel_rfl
theorem cellsFl : Try.prog.cellsOf 85 = 3 := by kernel_rfl
theorem cellsRowC : Try.prog.cellsOf 33 = 1 := by kernel_rfl
theorem cellsS : Try.prog.cellsOf 9 = 1 := by kernel_rfl
theorem cellsB : Try.prog.cellsOf 4 = 1 := by kernel_rfl
theorem cellsP : Try.prog.cellsOf 35 = 1 := by kernel_rfl

set_option maxRecDepth 100000 in
theorem open_file {H : Type} {enc : TypeId × Value → H} {W : World} {n : Nat} {c0 c1 c2 : Value} {x : DataW H × List MemPlace} (h2 : DataW.trod enc Try.prog W 0 (fun _ => true) true n 85 [c0, c1, c2] = some x) :
    ∃ f : Fl, c0 = .bool f.there ∧ c1 = .string f.text ∧ c2 = .bool f.runs ∧ f.text.size ≤ maxLen := by
  obtain ⟨y0, y1, y2, m, _, _, g0, g1, g2⟩ := Go.Deep.trod_struct3 Try.underlying85 h2
  simp only [cellsS, cellsB, List.drop, List.take] at g0 g1 g2
  obtain ⟨b0, e0, _⟩ := DataW.trod_bool Try.underlying4 g0
  obtain ⟨s1, e1, _, hs1⟩ := DataW.trod_string Try.underlying9 g1
  obtain ⟨b2, e2, _⟩ := DataW.trod_bool Try.underlying4 g2
  simp at e0 e1 e2
  exact ⟨⟨b0, s1, b2⟩, e0, e1, e2, hs1⟩

set_option maxRecDepth 100000 in
theorem open_change {H : Type} {enc : TypeId × Value → H} {W : World} {n : Nat} {cs : List Value} {x : DataW H × List MemPlace} {a : Addr} (h1 : W.cells? 0 a 7 = some cs) (h2 : DataW.trod enc Try.prog W 0 (fun _ => true) true n 87 cs = some x) :
    ∃ t : Ch, (W.cell? (a.add 0) = some (.string t.path) ∧ W.cell? (a.add 1) = some (.bool t.old.there) ∧ W.cell? (a.add 2) = some (.string t.old.text) ∧ W.cell? (a.add 3) = some (.bool t.old.runs) ∧ W.cell? (a.add 4) = some (.bool t.new.there) ∧ W.cell? (a.add 5) = some (.string t.new.text) ∧ W.cell? (a.add 6) = some (.bool t.new.runs)) ∧ chMax t := by
  obtain ⟨_, hlen, hc⟩ := World.cells?_some h1
  match cs, hlen with
  | [c0, c1, c2, c3, c4, c5, c6], _ =>
    obtain ⟨y0, y1, y2, m, _, _, g0, g1, g2⟩ := Go.Deep.trod_struct3 Try.underlying87 h2
    simp only [cellsS, cellsFl, List.drop, List.take] at g0 g1 g2
    obtain ⟨s0, e0, _, hs0⟩ := DataW.trod_string Try.underlying9 g0
    obtain ⟨f1, d1, d2, d3, hf1⟩ := open_file g1
    obtain ⟨f2, d4, d5, d6, hf2⟩ := open_file g2
    simp at e0
    subst e0 d1 d2 d3 d4 d5 d6
    exact ⟨⟨s0, f1, f2⟩, ⟨hc 0 (by omega), hc 1 (by omega), hc 2 (by omega), hc 3 (by omega), hc 4 (by omega), hc 5 (by omega), hc 6 (by omega)⟩, hs0, hf1, hf2⟩

set_option maxRecDepth 100000 in
theorem open_patch {H : Type} {enc : TypeId × Value → H} {W : World} {base : Nat} {v : Value} {d : DataW H} {p : List MemPlace} (hv : Value.okWide Try.prog W .any base 35 v) (h : DataW.Trod enc Try.prog W 0 (fun _ => true) true 35 v d p) :
    ∃ a cap ts, v = .agg #[.slice a ts.length cap] ∧ CS W a ts ∧ ts.length ≤ maxLen ∧ ∀ s ∈ ts, chMax s := by
  haveI : Inhabited Ch := ⟨zeroC⟩
  obtain ⟨cs, rfl, hsz⟩ := okWide_struct Try.underlying35 hv
  rw [cellsP] at hsz
  obtain ⟨c0, rfl⟩ : ∃ c0, cs = #[c0] := by
    obtain ⟨l⟩ := cs
    match l, hsz with
    | [c], _ => exact ⟨c, rfl⟩
  obtain ⟨fuel, hf⟩ := h
  obtain ⟨y0, n, _, _, h0⟩ := trod_struct1 Try.underlying35 hf
  simp only [cellsRowC, Value.cells, List.drop, List.take] at h0
  rcases Go.Deep.open_slice Try.underlying33 h0 with ⟨hcs, _⟩ | ⟨a, len, cap, m, n, D, Pl, hcs, _, hl, hm, hmm, _, hx⟩
  · simp at hcs
    subst hcs
    exact ⟨none, 0, [], rfl, .inl rfl, Nat.zero_le _, fun s hs => by simp at hs⟩
  · simp at hcs
    subst hcs
    simp at hmm
    subst hmm
    rw [cellsCh] at hx
    obtain ⟨V, hV⟩ := Go.Deep.choose_lt (α := Ch) (p := fun i t => (W.cell? ((a.add (i * 7)).add 0) = some (.string t.path) ∧ W.cell? ((a.add (i * 7)).add 1) = some (.bool t.old.there) ∧ W.cell? ((a.add (i * 7)).add 2) = some (.string t.old.text) ∧ W.cell? ((a.add (i * 7)).add 3) = some (.bool t.old.runs) ∧ W.cell? ((a.add (i * 7)).add 4) = some (.bool t.new.there) ∧ W.cell? ((a.add (i * 7)).add 5) = some (.string t.new.text) ∧ W.cell? ((a.add (i * 7)).add 6) = some (.bool t.new.runs)) ∧ chMax t) (n := m) (fun i hi => by
      obtain ⟨cs', h1, h2⟩ := hx i hi
      exact open_change h1 h2)
    refine ⟨some a, m, (List.range len).map V, by simp, ?_, by simp; omega, ?_⟩
    · by_cases h0 : len = 0
      · left; simp [h0]
      · right
        obtain ⟨b, off, spot⟩ := a
        have hspot : spot = none := by simpa [Addr.add] using World.cell?_spot (hV 0 (by omega)).1.1
        subst hspot
        refine ⟨b, off, rfl, fun i hi => ?_⟩
        simp at hi
        obtain ⟨⟨q0, q1, q2, q3, q4, q5, q6⟩, _⟩ := hV i (by omega)
        simp only [Go.WideShapes.add_plain, Nat.add_zero] at q0 q1 q2 q3 q4 q5 q6
        simp only [List.getElem_map, List.getElem_range]
        exact ⟨q0, q1, q2, q3, q4, q5, q6⟩
    · intro s hs
      simp only [List.mem_map, List.mem_range] at hs
      obtain ⟨i, hi, rfl⟩ := hs
      exact (hV i (by omega)).2
end Go.Proofs.Ytcapcjojlpljiaa
