/-
  Pick: what it gives, plain.
-/
import Derived.Test.YtjienajcpjcfiafEntL
import Derived.Test.YtjienajcpjcfiafTreeP
import Derived.Test.YtjienajcpjcfiafImplMatch
namespace Go.Proofs.Ytjienajcpjcfiaf
open Go.RowKit

/-- Whether a path matches one of the globs. -/
def someM (gs : List ByteArray) (p : ByteArray) : Bool := gs.any fun g => matchS g p
theorem someM_take {gs : List ByteArray} {p : ByteArray} {k : Nat} (h : k < gs.length) : someM (gs.take (k + 1)) p = (someM (gs.take k) p || matchS gs[k] p) := by
  unfold someM
  rw [List.take_succ_eq_append_getElem h, List.any_append]
  simp
def picked (ts : List En) (gs : List ByteArray) : List En := ts.filter fun e => someM gs e.path
theorem picked_take {ts : List En} {gs : List ByteArray} {k : Nat} (hk : k < ts.length) : picked (ts.take (k + 1)) gs = if someM gs ts[k].path then picked (ts.take k) gs ++ [ts[k]] else picked (ts.take k) gs := by
  rw [List.take_succ_eq_append_getElem hk]
  unfold picked
  rw [List.filter_append]
  cases h : someM gs ts[k].path <;> simp [h]
theorem picked_len (ts : List En) (gs : List ByteArray) : (picked ts gs).length ≤ ts.length := List.length_filter_le _ _

/-- What Pick gives. -/
def Pck (ts : List En) (gs : List ByteArray) (us : List En) : Prop :=
  (¬ (ValidTs ts ∧ gs.length ≤ 20) ∧ us = []) ∨ ((ValidTs ts ∧ gs.length ≤ 20) ∧ us = picked ts gs)
theorem pck_one {ts : List En} {gs : List ByteArray} {us us' : List En} (h : Pck ts gs us) (h' : Pck ts gs us') : us = us' := by
  rcases h with ⟨h1, rfl⟩ | ⟨h1, rfl⟩ <;> rcases h' with ⟨g1, rfl⟩ | ⟨g1, rfl⟩
  · rfl
  · exact absurd g1 h1
  · exact absurd h1 g1
  · rfl
theorem pck_few {ts : List En} {gs : List ByteArray} {us : List En} (h : Pck ts gs us) : us.length ≤ ts.length := by
  rcases h with ⟨_, rfl⟩ | ⟨_, rfl⟩
  · simp
  · exact picked_len _ _
def PckPost (ts : List En) (gs : List ByteArray) (w : World) (e : Ending) (w' : World) : Prop := ∃ us, Pck ts gs us ∧ TreeQ us w.heap.size e w' ∧ Below w.heap.size w w'
end Go.Proofs.Ytjienajcpjcfiaf
