/-
  What Show answers, plain.
-/
import Derived.Test.YtlgdfeacnalekaaDoorFolI
import Derived.Test.YtlgdfeacnalekaaDoorHasParts
namespace Go.Proofs.YtlgdfeacnalekaaDoor
open Go.RowKit

def DirsP (wd : Nat) (ts : List ByteArray) (X : List (List DL × ByteArray)) : Prop := X.length = ts.length ∧ ∀ (i : Nat) t, ts[i]? = some t → ∃ x, X[i]? = some x ∧ t.size ≤ 8000 ∧ RdR wd ⟨#[]⟩ (linesL t.data.toList) x.1 ∧ x.2 = sumStr t.data.toList wd
theorem DirsP.one {wd : Nat} {ts : List ByteArray} {X Y : List (List DL × ByteArray)} (h : DirsP wd ts X) (k : DirsP wd ts Y) : X = Y := by
  apply List.ext_getElem?
  intro i
  by_cases hi : i < ts.length
  · obtain ⟨x, h1, _, h3, h4⟩ := h.2 i _ (List.getElem?_eq_getElem hi)
    obtain ⟨y, k1, _, k3, k4⟩ := k.2 i _ (List.getElem?_eq_getElem hi)
    rw [h1, k1]
    obtain ⟨x1, x2⟩ := x
    obtain ⟨y1, y2⟩ := y
    dsimp only at h3 h4 k3 k4
    rw [h3.one k3, h4, k4]
  · rw [List.getElem?_eq_none (by rw [h.1]; omega), List.getElem?_eq_none (by rw [k.1]; omega)]
def flS (there : Bool) (text : ByteArray) : Bool := decide (text.size ≤ 1500) && (there || text.toList.isEmpty)
structure GoodS (path : ByteArray) (ts : List ByteArray) (there : Bool) (text : ByteArray) (width : Int) (wd : Nat) (X : List (List DL × ByteArray)) : Prop where
  path : pathOk pathB path = true
  width : width = (wd : Int)
  lo : 1 ≤ wd
  hi : wd ≤ 8
  file : flS there text = true
  some : ts ≠ []
  few : ts.length ≤ 7
  dirs : DirsP wd ts X
def shA (sum path : ByteArray) (there : Bool) (text : ByteArray) (wd : Nat) (X : List (List DL × ByteArray)) : SA :=
  match X with
  | x :: _ => if x.2.toList == sum.toList then ansOf there text wd (fw X (partsB path)) else ⟨2, false, false⟩
  | [] => ⟨2, false, false⟩
def ShowRel (sum path : ByteArray) (ts : List ByteArray) (there : Bool) (text : ByteArray) (width : Int) (o : SA) : Prop :=
  ((∀ wd X, ¬ GoodS path ts there text width wd X) ∧ o = ⟨1, false, false⟩) ∨ ∃ wd X, GoodS path ts there text width wd X ∧ o = shA sum path there text wd X
theorem ShowRel.one {sum path : ByteArray} {ts : List ByteArray} {there : Bool} {text : ByteArray} {width : Int} {o o' : SA} (h : ShowRel sum path ts there text width o) (k : ShowRel sum path ts there text width o') : o = o' := by
  rcases h with ⟨h1, h2⟩ | ⟨wd, X, h1, h2⟩
  · rcases k with ⟨_, k2⟩ | ⟨wd', X', k1, _⟩
    · rw [h2, k2]
    · exact absurd k1 (h1 _ _)
  · rcases k with ⟨k1, _⟩ | ⟨wd', X', k1, k2⟩
    · exact absurd h1 (k1 _ _)
    · have e : wd = wd' := by have := h1.width; have := k1.width; omega
      subst e
      rw [h2, k2, h1.dirs.one k1.dirs]
/-- What is shown, as a value. -/
def shV (path text : ByteArray) (o : SA) : Value := .agg #[.int .i64 o.code, .bool o.there, .string (if o.there then path else ⟨#[]⟩), .string (if o.there then text else ⟨#[]⟩), .bool o.runs]
def ShowPost (sum path : ByteArray) (ts : List ByteArray) (there : Bool) (text : ByteArray) (width : Int) (w : World) (e : Ending) (w' : World) : Prop :=
  ∃ o, ShowRel sum path ts there text width o ∧ e = .returned (shV path text o) ∧ Below w.heap.size w w'

theorem dirs_of {ts : List ByteArray} {wd : Nat} {xs : List SD} (hl : xs.length = ts.length) (h : ∀ (i : Nat) t, ts[i]? = some t → ∃ x, xs[i]? = some x ∧ DirOf wd t x) : DirsP wd ts (plainD xs) := by
  refine ⟨by unfold plainD; rw [List.length_map]; exact hl, fun i t ht => ?_⟩
  obtain ⟨x, h1, h2, h3, h4⟩ := h i t ht
  refine ⟨(x.ds, x.sum), ?_, h2, h3, h4⟩
  unfold plainD
  rw [List.getElem?_map, h1]
  rfl
theorem dirs_not {ts : List ByteArray} {wd : Nat} {t : ByteArray} (ht : t ∈ ts) (hn : ∀ x, ¬ DirOf wd t x) (X : List (List DL × ByteArray)) : ¬ DirsP wd ts X := fun h => by
  obtain ⟨i, hi, e⟩ := List.getElem_of_mem ht
  obtain ⟨x, _, h2, h3, h4⟩ := h.2 i t (by rw [List.getElem?_eq_getElem hi, e])
  exact hn ⟨x.1, x.2, 0⟩ ⟨h2, h3, h4⟩
end Go.Proofs.YtlgdfeacnalekaaDoor
