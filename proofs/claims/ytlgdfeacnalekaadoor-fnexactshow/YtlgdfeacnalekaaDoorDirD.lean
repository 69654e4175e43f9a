/-
  A directory's lines in a map: how the map's values read; pieces and lines.
-/
import Derived.Test.YtlgdfeacnalekaaDoorRdLn
import Derived.Maps.OwnSet
import Derived.Maps.OwnIn
import Derived.Maps.Views
namespace Go.Proofs.YtlgdfeacnalekaaDoor
open Go.RowKit

def dlV (d : DL) : Value := .agg #[.string ⟨#[d.kind]⟩, .string d.name, .string d.dig]
def dlZ : Value := .agg #[.string ⟨#[]⟩, .string ⟨#[]⟩, .string ⟨#[]⟩]
/-- How a line reads. -/
def dlR (v : Value) : Option (DataW Unit × List MemPlace) :=
  match v with
  | .agg xs => (match xs.toList with
    | [.string m, .string n, .string d] => some (.agg [.lit (.string m.data.toList), .lit (.string n.data.toList), .lit (.string d.data.toList)], [])
    | _ => none)
  | _ => none
def dlT (m n d : ByteArray) : DataW Unit := .agg [.lit (.string m.data.toList), .lit (.string n.data.toList), .lit (.string d.data.toList)]
def dlD (d : DL) : DataW Unit := dlT ⟨#[d.kind]⟩ d.name d.dig
def dlZD : DataW Unit := dlT ⟨#[]⟩ ⟨#[]⟩ ⟨#[]⟩
theorem dlR_mk (m n d : ByteArray) : dlR (.agg #[.string m, .string n, .string d]) = some (dlT m n d, []) := rfl
theorem dlR_inv {v : Value} {m n d : ByteArray} {ps : List MemPlace} (h : dlR v = some (dlT m n d, ps)) : v = .agg #[.string m, .string n, .string d] := by
  unfold dlR at h
  split at h
  · rename_i xs
    split at h
    · rename_i m' n' d' e
      simp only [dlT, Option.some.injEq, Prod.mk.injEq, DataW.agg.injEq, List.cons.injEq, DataW.lit.injEq, Lit.string.injEq, and_true] at h
      obtain ⟨⟨h1, h2, h3⟩, _⟩ := h
      rw [ba_ext h1, ba_ext h2, ba_ext h3] at e
      have : xs = #[.string m, .string n, .string d] := by
        apply Array.toList_inj.1
        simpa using e
      rw [this]
    · cases h
  · cases h
theorem dkey (x : ByteArray) (h : x.size ≤ 1099511627776) : keyOf Tryd.prog 9 (.string x) = some (.string x.data.toList) := by
  have hm : x.size ≤ maxLen := by unfold maxLen; omega
  simp [keyOf, mapKey, Tryd.underlying9, hm]
theorem dKeyed : Maps.Keyed Tryd.prog 9 := Maps.string_keyed Tryd.underlying9
theorem dzero (w : World) : (zeroValue 61).run Tryd.prog w = .ok dlZ w := by kernel_rfl
def kd (l : ByteArray) : Lit := .string l.data.toList
theorem kd_inj {x y : ByteArray} (h : kd x = kd y) : x = y := by
  unfold kd at h
  exact ba_ext (by simpa using h)
theorem kd_is (l : ByteArray) : WideAt.IsKeyLit (kd l) := by unfold kd; trivial

/-- What the map says: the last line of a name, else nothing. -/
def DirD (ds : List DL) (D : DataW Unit) : Prop := ∀ n : ByteArray,
  (∃ d ∈ ds, d.name = n ∧ D.atKey (kd n) dlZD = dlD d) ∨ ((∀ d ∈ ds, d.name ≠ n) ∧ D.atKey (kd n) dlZD = dlZD)
theorem dirD_nil : DirD [] (.map []) := fun n => .inr ⟨fun d hd => absurd hd (by simp), by simp [DataW.atKey]⟩
theorem DirD.add {ds : List DL} {D : DataW Unit} (h : DirD ds D) (hm : Maps.IsMap D) (d : DL) : DirD (ds ++ [d]) (D.put (kd d.name) (dlD d)) := fun n => by
  by_cases e : kd n = kd d.name
  · have := kd_inj e
    subst this
    exact .inl ⟨d, by simp, rfl, Maps.atKey_put_same hm (kd_is _) _ _⟩
  · rw [Maps.atKey_put_other e]
    rcases h n with ⟨d', h1, h2, h3⟩ | ⟨h1, h2⟩
    · exact .inl ⟨d', by simp [h1], h2, h3⟩
    · refine .inr ⟨fun x hx => ?_, h2⟩
      rcases List.mem_append.1 hx with hx | hx
      · exact h1 x hx
      · simp only [List.mem_singleton] at hx
        subst hx
        exact fun e' => e (by rw [e'])

/-- A piece and its line. -/
theorem ends_iff {p : ByteArray} : ends p = true ↔ ∃ l, p.data.toList = l ++ [10] := by
  unfold ends Lib.hasSuffix
  rw [List.isSuffixOf_iff_suffix]
  constructor
  · rintro ⟨l, e⟩
    exact ⟨l, e.symm⟩
  · rintro ⟨l, e⟩
    exact ⟨l, e.symm⟩
theorem chop_of {p : ByteArray} {l : List UInt8} (e : p.data.toList = l ++ [10]) : chop p = mkB l := by
  have h : Lib.hasSuffix p.data.toList [10] = true := ends_iff.2 ⟨l, e⟩
  unfold chop Lib.trimSuffix
  rw [if_pos h, e]
  simp [mkB]
theorem piece_line {wd : Nat} {p : ByteArray} (hw : 1 ≤ wd) (h : (ends p && cutOk wd (chop p)) = true) : ∃ d, p.data.toList = lnT d ++ [10] ∧ LnOk wd d ∧ lnV (chop p) = dlV d := by
  rw [Bool.and_eq_true] at h
  obtain ⟨l, e⟩ := ends_iff.1 h.1
  obtain ⟨k, h1, h2, h3⟩ := cutOk_line hw h.2
  refine ⟨_, ?_, h3, ?_⟩
  · rw [← h2, chop_of e, mkB_list]
    exact e
  · unfold lnV dlV
    rw [h1]
theorem line_piece {wd : Nat} {p : ByteArray} {d : DL} (e : p.data.toList = lnT d ++ [10]) (h : LnOk wd d) : (ends p && cutOk wd (chop p)) = true ∧ lnV (chop p) = dlV d := by
  obtain ⟨h1, h2, h3, h4⟩ := line_cutOk h
  rw [chop_of e]
  refine ⟨by rw [ends_iff.2 ⟨_, e⟩, h1]; rfl, ?_⟩
  unfold lnV dlV
  rw [h2, h3, h4]
end Go.Proofs.YtlgdfeacnalekaaDoor
