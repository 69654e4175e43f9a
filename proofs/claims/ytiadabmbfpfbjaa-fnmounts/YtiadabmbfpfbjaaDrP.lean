/-
  A reader that is gone on with.
-/
import Derived.Test.YtiadabmbfpfbjaaPick
import Derived.Test.YtiadabmbfpfbjaaBase
namespace Go.Proofs.Ytiadabmbfpfbjaa
open Go.RowKit

/-- A reader that was gone on with, at most K picks. -/
structure Dr (g : Nat) (a : Option Addr) (cap : Nat) (zs : List Int) (w w' : World) (p K : Nat) : Prop where
  rd : ∃ p', p' ≤ p + K ∧ Rd w' g a cap zs p'
  grown : w.grownBy w' (some g)
theorem gr_trans {w w1 w2 : World} {row : Option Nat} (h : w.grownBy w1 row) (k : w1.grownBy w2 row) : w.grownBy w2 row :=
  ⟨k.os.trans h.os, k.tape.trans h.tape, k.output.trans h.output, Nat.le_trans h.size k.size, fun i hi hne => (k.block i (Nat.lt_of_lt_of_le hi h.size) hne).trans (h.block i hi hne)⟩
theorem gr_below {w w' : World} {row : Option Nat} (h : Below w.heap.size w w') : w.grownBy w' row := ⟨h.os, h.tape, h.output, h.size, fun k hk _ => h.block k hk⟩
theorem gr_refl (w : World) (row : Option Nat) : w.grownBy w row := ⟨rfl, rfl, rfl, Nat.le_refl _, fun _ _ _ => rfl⟩
theorem Rd.below {w w' : World} {g : Nat} {a : Option Addr} {cap : Nat} {zs : List Int} {p : Nat} (h : Rd w g a cap zs p) (hb : Below w.heap.size w w') : Rd w' g a cap zs p :=
  h.kept (row := none) (gr_below hb) (fun k hk => by cases hk)
theorem owns_rd {w w' : World} {g base : Nat} {e : TypeId} {size : Nat} {v : Value} {n : Nat} {xs : List Value} (h : w.ownsRow base e size v n xs) (hg : w.grownBy w' (some g)) (hb : g < base) : w'.ownsRow base e size v n xs := by
  refine ⟨h.1, ?_⟩
  rcases h.2 with h' | ⟨k, cap, cur, hv, h1, h2, h3⟩
  · exact .inl h'
  · refine .inr ⟨k, cap, cur, hv, h1, ?_, h3⟩
    rw [hg.block k (Array.getElem?_eq_some_iff.1 h2).1 (by simp; omega)]; exact h2
/-- A row that is the call's own is turned: for those ahead of the call nothing but the reader has. -/
theorem gr_own {w w1 w2 : World} {g : Nat} {row : Option Nat} (h : w.grownBy w1 (some g)) (k : w1.grownBy w2 row) (hr : ∀ j, row = some j → w.heap.size ≤ j) : w.grownBy w2 (some g) :=
  ⟨k.os.trans h.os, k.tape.trans h.tape, k.output.trans h.output, Nat.le_trans h.size k.size, fun i hi hne => (k.block i (Nat.lt_of_lt_of_le hi h.size) (fun e => by have := hr i e.symm; omega)).trans (h.block i hi hne)⟩
theorem gr_alloc {w w1 : World} {g : Nat} (o : Obj) (h : w.grownBy w1 (some g)) : w.grownBy (w1.alloc o) (some g) :=
  gr_trans h (gr_below ((Below.refl _ _).alloc (Nat.le_refl _) o))
theorem Rd.own {w w' : World} {g : Nat} {a : Option Addr} {cap : Nat} {zs : List Int} {p : Nat} {row : Option Nat} {B : Nat} (h : Rd w g a cap zs p) (hg : w.grownBy w' row) (hr : ∀ k, row = some k → B ≤ k) (hB : g < B) : Rd w' g a cap zs p :=
  h.kept hg (fun k hk => by have := hr k hk; omega)
end Go.Proofs.Ytiadabmbfpfbjaa
