/-
  Trees as lists: two lists of entries that ascend by their paths and hold the same entries are one; a valid tree is such a list.
-/
import Derived.Test.YtockgapdfcapnaaTreeP
namespace Go.Proofs.Ytockgapdfcapnaa
open Go.RowKit

def Asc (l : List En) : Prop := l.Pairwise fun a b => Op.bytesLess a.path.toList b.path.toList = true

theorem Asc.head {x : En} {l : List En} (h : Asc (x :: l)) : ∀ y ∈ l, Op.bytesLess x.path.toList y.path.toList = true := (List.pairwise_cons.1 h).1
theorem Asc.tail {x : En} {l : List En} (h : Asc (x :: l)) : Asc l := (List.pairwise_cons.1 h).2

theorem asc_unique : ∀ {l m : List En}, Asc l → Asc m → (∀ e, e ∈ l ↔ e ∈ m) → l = m
  | [], [], _, _, _ => rfl
  | [], y :: m, _, _, h => absurd ((h y).2 (by simp)) (by simp)
  | x :: l, [], _, _, h => absurd ((h x).1 (by simp)) (by simp)
  | x :: l, y :: m, hl, hm, h => by
    have hxy : x = y := by
      rcases List.mem_cons.1 ((h x).1 (by simp)) with e | e
      · exact e
      · rcases List.mem_cons.1 ((h y).2 (by simp)) with e' | e'
        · exact e'.symm
        · have := less_trans (hm.head x e) (hl.head y e')
          rw [less_irrefl] at this
          cases this
    subst hxy
    have hno : ∀ {k : List En}, Asc (x :: k) → x ∉ k := fun hk hx => by
      have := hk.head x hx
      rw [less_irrefl] at this
      cases this
    rw [asc_unique hl.tail hm.tail (fun e => ?_)]
    constructor
    · intro he
      rcases List.mem_cons.1 ((h e).1 (List.mem_cons_of_mem _ he)) with e1 | e1
      · subst e1; exact absurd he (hno hl)
      · exact e1
    · intro he
      rcases List.mem_cons.1 ((h e).2 (List.mem_cons_of_mem _ he)) with e1 | e1
      · subst e1; exact absurd he (hno hm)
      · exact e1

theorem Asc.filter {l : List En} (h : Asc l) (p : En → Bool) : Asc (l.filter p) := List.Pairwise.filter p h

theorem valid_asc {ts : List En} (h : ValidTs ts) : Asc ts := by
  unfold Asc
  rw [List.pairwise_iff_getElem]
  intro i j hi hj hij
  exact asc h.2 j hj i hij hj hi
end Go.Proofs.Ytockgapdfcapnaa
