/-
  A decoder that is handed in, opened.
-/
import Derived.Test.YtdlbmjmhlcaalaaDecLaw
import Derived.Test.YtdlbmjmhlcaalaaRows
import Derived.ProofKit
import Derived.OpenShut
import Derived.ShutString
import Derived.ChangeOld
import Derived.Below
import Derived.SliceStrings
import Derived.Deep.Slices
import Derived.Lib.SmallJoins
namespace Go.Proofs.Ytdlbmjmhlcaalaa
open Go.ChangeShapes Go.WideShapes Go.ChangeAt Go.RowKit
set_option linter.unusedVariables false

theorem ss_of_own {w : World} {base : Nat} {g n : Nat} {ss : List ByteArray} (h : w.ownsRow base 9 1 (.slice (some ⟨g, 0, none⟩) ss.length n) ss.length (ss.map .string)) : SS w (some ⟨g, 0, none⟩) ss := by
  refine .inr ⟨g, 0, rfl, fun i hi => ?_⟩
  rw [Nat.zero_add, h.cellAt i (by omega), List.getElem?_map, List.getElem?_eq_getElem hi]
  rfl

theorem dcInt : Try.prog.cellsOf 3 = 1 := by kernel_rfl
theorem dcStr : Try.prog.cellsOf 9 = 1 := by kernel_rfl
theorem dcRow : Try.prog.cellsOf 22 = 1 := by kernel_rfl
theorem dcBool : Try.prog.cellsOf 4 = 1 := by kernel_rfl
theorem dcDec : Try.prog.cellsOf 29 = 4 := by kernel_rfl

set_option maxRecDepth 100000 in
theorem open_dec {H : Type} {enc : TypeId × Value → H} {W : World} {base : Nat} {v : Value} {d : DataW H} {p : List MemPlace} (hv : Value.okWide Try.prog W .any base 29 v) (h : DataW.Trod enc Try.prog W 0 (fun _ => true) true 29 v d p) :
    ∃ m rest a cap ss bad, v = decV m rest (.slice a (List.length ss) cap) bad ∧ SS W a ss ∧ ss.length ≤ maxLen ∧ (∀ s ∈ ss, s.size ≤ maxLen) ∧ rest.size ≤ maxLen := by
  obtain ⟨cs, rfl, hsz⟩ := okWide_struct Try.underlying29 hv
  rw [dcDec] at hsz
  obtain ⟨c0, c1, c2, c3, rfl⟩ : ∃ c0 c1 c2 c3, cs = #[c0, c1, c2, c3] := by
    obtain ⟨l⟩ := cs
    match l, hsz with
    | [a, b, c, d], _ => exact ⟨a, b, c, d, rfl⟩
  obtain ⟨fuel, hf⟩ := h
  obtain ⟨y0, y1, y2, y3, m, _, _, g0, g1, g2, g3⟩ := Go.Joins.trod_struct4 Try.underlying29 hf
  simp only [dcInt, dcStr, dcRow, dcBool, Value.cells, List.drop, List.take] at g0 g1 g2 g3
  obtain ⟨n0, e0, _⟩ := DataW.trod_int Try.underlying3 g0
  obtain ⟨s1, e1, _, hs⟩ := DataW.trod_string Try.underlying9 g1
  obtain ⟨b3, e3, _⟩ := DataW.trod_bool Try.underlying4 g3
  simp at e0 e1 e3
  subst e0 e1 e3
  rcases open_strings Try.underlying22 Try.underlying9 (by kernel_rfl) g2 with ⟨hcs, _⟩ | ⟨x, l, c, ss, hcs, _, hl, hm, hz, _, hcell, hws⟩
  · simp at hcs
    subst hcs
    exact ⟨n0, s1, none, 0, [], b3, rfl, .inl rfl, Nat.zero_le _, fun s hs => by simp at hs, hs⟩
  · simp at hcs
    subst hcs
    have hz' : ss.length = c := by simpa using hz
    refine ⟨n0, s1, some x, c, ss.take l, b3, by simp [decV]; omega, ?_, by simp; omega, fun s hs => hws s (List.mem_of_mem_take hs), hs⟩
    by_cases h0 : l = 0
    · left; simp [h0]
    · right
      obtain ⟨b, off, spot⟩ := x
      have hspot : spot = none := by simpa [Addr.add] using World.cell?_spot (hcell 0 (by omega))
      subst hspot
      refine ⟨b, off, rfl, fun i hi => ?_⟩
      have hi' : i < ss.length := by simp at hi; omega
      rw [← Go.WideShapes.add_plain, hcell i hi']
      simp [List.getD, hi']
end Go.Proofs.Ytdlbmjmhlcaalaa
