/-
  Regions that draw, with what stands of the world left open (EVF): any operation may write.
-/
import Derived.Test.YtjiafjdjocmodaaGreatRegX
namespace Go.Proofs.YtjiafjdjocmodaaGreat
open Go.RowKit

structure EVF (T0 : Array Value) (ds : List Nat) (tab : Nat → Option Value) (ex : Nat → Value → World → Prop) (I : Array Bool → World → Prop) (L : Array Bool) (a : Act) (w : World) : Prop where
  sl : Sl2 T0 ds tab L a
  wd : I L w
  ex : ∀ i (h : i < ds.length), L.getD i false = true → ex i (a.eval (.tmp ds[i])) w
theorem EVF.step {T0 : Array Value} {ds : List Nat} {tab : Nat → Option Value} {ex : Nat → Value → World → Prop} {I : Array Bool → World → Prop} {L : Array Bool} {a : Act} {w w' : World} (h : EVF T0 ds tab ex I L a w) (nd : ds.Nodup) (hst : ∀ i v, ex i v w → ex i v w') {i : Nat} {v : Value} (hi : i < ds.length) (hd : ds[i] < T0.size) (ht : ∀ u, tab i = some u → u = v) (he : ex i v w') (hI : I (L.setIfInBounds i true) w') : EVF T0 ds tab ex I (L.setIfInBounds i true) (a.put (some ds[i]) v) w' := by
  refine ⟨h.sl.put nd hi hd ht, hI, fun j hj hL => ?_⟩
  by_cases e : j = i
  · subst e
    rw [eval_put_same (by rw [h.sl.sz]; exact hd)]
    exact he
  · rw [Act.eval_put (fun d hd' => by cases hd'; intro e'; injection e' with e'; exact nodup_ne nd hi hj e e')]
    exact hst j _ (h.ex j hj (getD_of_set hL e))
/-- An operation that gives nothing (a store). -/
theorem EVF.skip {T0 : Array Value} {ds : List Nat} {tab : Nat → Option Value} {ex : Nat → Value → World → Prop} {I : Array Bool → World → Prop} {L : Array Bool} {a : Act} {w w' : World} (h : EVF T0 ds tab ex I L a w) (hst : ∀ i v, ex i v w → ex i v w') {i : Nat} (ht : tab i = none) (he : ∀ v, ex i v w') (hI : I (L.setIfInBounds i true) w') : EVF T0 ds tab ex I (L.setIfInBounds i true) a w' := by
  refine ⟨h.sl.skip ht, hI, fun j hj hL => ?_⟩
  by_cases e : j = i
  · subst e; exact he _
  · exact hst j _ (h.ex j hj (getD_of_set hL e))
end Go.Proofs.YtjiafjdjocmodaaGreat
