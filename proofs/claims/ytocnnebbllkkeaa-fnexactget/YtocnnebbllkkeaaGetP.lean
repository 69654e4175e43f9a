/-
  Get: what it gives, plain; uniqueness.
-/
import Derived.Test.YtocnnebbllkkeaaFind
import Derived.Test.YtocnnebbllkkeaaTreeP
import Derived.Test.YtocnnebbllkkeaaEntOf
namespace Go.Proofs.Ytocnnebbllkkeaa
open Go.RowKit

/-- What Get gives. -/
def Got (ts : List En) (p : ByteArray) (o : Option En) : Prop :=
  (ValidTs ts ∧ ∃ e ∈ ts, e.path = p ∧ o = some e) ∨ ((¬ ValidTs ts ∨ ∀ e ∈ ts, e.path ≠ p) ∧ o = none)

def entV : Option En → Value
  | some e => .agg #[.string e.path, .string e.text, .bool e.runs]
  | none => .agg #[.string ⟨#[]⟩, .string ⟨#[]⟩, .bool false]

theorem path_once {ts : List En} (h : ValidTs ts) {e e' : En} (he : e ∈ ts) (he' : e' ∈ ts) (hp : e.path = e'.path) : e = e' := by
  obtain ⟨i, hi, rfl⟩ := List.getElem_of_mem he
  obtain ⟨j, hj, rfl⟩ := List.getElem_of_mem he'
  have key : ∀ i j (hi : i < ts.length) (hj : j < ts.length), ts[i].path = ts[j].path → ¬ j < i := fun i j hi hj hp hlt => by
    have := asc h.2 i hi j hlt hi hj
    rw [hp, less_irrefl] at this
    cases this
  have h1 := key i j hi hj hp
  have h2 := key j i hj hi hp.symm
  obtain rfl : i = j := by omega
  rfl

theorem got_one {ts : List En} {p : ByteArray} {o o' : Option En} (h : Got ts p o) (h' : Got ts p o') : o = o' := by
  rcases h with ⟨hv, e, he, hp, rfl⟩ | ⟨hn, rfl⟩ <;> rcases h' with ⟨hv', e', he', hp', rfl⟩ | ⟨hn', rfl⟩
  · rw [path_once hv he he' (hp.trans hp'.symm)]
  · rcases hn' with hn' | hn'
    · exact absurd hv hn'
    · exact absurd hp (hn' e he)
  · rcases hn with hn | hn
    · exact absurd hv' hn
    · exact absurd hp' (hn e' he')
  · rfl

def GetPost (ts : List En) (p : ByteArray) (w : World) (e : Ending) (w' : World) : Prop :=
  ∃ o, Got ts p o ∧ e = .returned (.tuple #[entV o, .bool o.isSome]) ∧ Below w.heap.size w w'

/-- Three cells of an entry that is written whole. -/
def Ent3 (W : World) (g : Nat) (e : Option En) : Prop :=
  W.cell? ⟨g, 0, none⟩ = some (.string ((e.map (·.path)).getD ⟨#[]⟩)) ∧ W.cell? ⟨g, 1, none⟩ = some (.string ((e.map (·.text)).getD ⟨#[]⟩)) ∧ W.cell? ⟨g, 2, none⟩ = some (.bool ((e.map (·.runs)).getD false)) ∧ ∀ j, W.frozen? ⟨g, j, none⟩ = false

theorem beq_str {a b : ByteArray} : (a.toList == b.toList) = true ↔ a = b := by
  rw [beq_iff_eq, Lib.toList_data, Lib.toList_data]
  exact ⟨fun h => WideShapes.bytes_inj h, fun h => by rw [h]⟩

end Go.Proofs.Ytocnnebbllkkeaa
