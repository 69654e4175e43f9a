/-
  Regions that draw (RegW) whose slots hold what is only known by a property ('ex'): EV0 (nothing is written), EVS (the last operation alone writes).
-/
import Derived.Test.YtjiafjdjocmodaaGreatRegW
namespace Go.Proofs.YtjiafjdjocmodaaGreat
open Go.RowKit

theorem eval_put_same {a : Act} {d : Nat} {v : Value} (hd : d < a.tmps.size) : (a.put (some d) v).eval (.tmp d) = v := by
  show ((a.tmps.setIfInBounds d v).getD d undef) = v
  rw [Array.getD_eq_getD_getElem?, Array.getElem?_setIfInBounds_self_of_lt hd]
  rfl
theorem nodup_ne {ds : List Nat} (nd : ds.Nodup) {i j : Nat} (hi : i < ds.length) (hj : j < ds.length) (h : j ≠ i) : ds[j] ≠ ds[i] := fun e => by
  rcases Nat.lt_trichotomy j i with h1 | h1 | h1
  · exact List.pairwise_iff_getElem.1 nd j i hj hi h1 e
  · exact h h1
  · exact List.pairwise_iff_getElem.1 nd i j hi hj h1 e.symm
theorem getD_of_set {L : Array Bool} {i j : Nat} (h : (L.setIfInBounds i true).getD j false = true) (hne : j ≠ i) : L.getD j false = true := by
  rwa [getD_set_ne false (fun e => hne e.symm)] at h

structure EV0 (T0 : Array Value) (ds : List Nat) (tab : Nat → Option Value) (ex : Nat → Value → World → Prop) (W : World) (L : Array Bool) (a : Act) (w : World) : Prop where
  sl : Sl2 T0 ds tab L a
  wd : Below W.heap.size W w
  ex : ∀ i (h : i < ds.length), L.getD i false = true → ex i (a.eval (.tmp ds[i])) w
theorem EV0.step {T0 : Array Value} {ds : List Nat} {tab : Nat → Option Value} {ex : Nat → Value → World → Prop} {W : World} {L : Array Bool} {a : Act} {w w' : World} (h : EV0 T0 ds tab ex W L a w) (nd : ds.Nodup) (hst : ∀ i v w w', Below w.heap.size w w' → ex i v w → ex i v w') {i : Nat} {v : Value} (hi : i < ds.length) (hd : ds[i] < T0.size) (ht : ∀ u, tab i = some u → u = v) (he : ex i v w') (hb : Below w.heap.size w w') : EV0 T0 ds tab ex W (L.setIfInBounds i true) (a.put (some ds[i]) v) w' := by
  refine ⟨h.sl.put nd hi hd ht, h.wd.trans (hb.mono h.wd.size), fun j hj hL => ?_⟩
  by_cases e : j = i
  · subst e
    rw [eval_put_same (by rw [h.sl.sz]; exact hd)]
    exact he
  · rw [Act.eval_put (fun d hd' => by cases hd'; intro e'; injection e' with e'; exact nodup_ne nd hi hj e e')]
    exact hst j _ _ _ hb (h.ex j hj (getD_of_set hL e))

structure EVS (T0 : Array Value) (ds : List Nat) (tab : Nat → Option Value) (ex : Nat → Value → World → Prop) (W : World) (m : Nat) (E : World → Prop) (L : Array Bool) (a : Act) (w : World) : Prop where
  sl : Sl2 T0 ds tab L a
  wd : L.getD m false = false → Below W.heap.size W w
  ex : L.getD m false = false → ∀ i (h : i < ds.length), L.getD i false = true → ex i (a.eval (.tmp ds[i])) w
  fin : L.getD m false = true → E w
theorem EVS.step {T0 : Array Value} {ds : List Nat} {tab : Nat → Option Value} {ex : Nat → Value → World → Prop} {W : World} {m : Nat} {E : World → Prop} {L : Array Bool} {a : Act} {w w' : World} (h : EVS T0 ds tab ex W m E L a w) (nd : ds.Nodup) (hst : ∀ i v w w', Below w.heap.size w w' → ex i v w → ex i v w') {i : Nat} {v : Value} (hi : i < ds.length) (hd : ds[i] < T0.size) (hm : i ≠ m) (h0 : L.getD m false = false) (ht : ∀ u, tab i = some u → u = v) (he : ex i v w') (hb : Below w.heap.size w w') : EVS T0 ds tab ex W m E (L.setIfInBounds i true) (a.put (some ds[i]) v) w' := by
  have g : (L.setIfInBounds i true).getD m false = false := by rw [getD_set_ne false hm]; exact h0
  refine ⟨h.sl.put nd hi hd ht, fun _ => (h.wd h0).trans (hb.mono (h.wd h0).size), fun _ j hj hL => ?_, fun h1 => by rw [g] at h1; cases h1⟩
  by_cases e : j = i
  · subst e
    rw [eval_put_same (by rw [h.sl.sz]; exact hd)]
    exact he
  · rw [Act.eval_put (fun d hd' => by cases hd'; intro e'; injection e' with e'; exact nodup_ne nd hi hj e e')]
    exact hst j _ _ _ hb (h.ex h0 j hj (getD_of_set hL e))
theorem EVS.last {T0 : Array Value} {ds : List Nat} {tab : Nat → Option Value} {ex : Nat → Value → World → Prop} {W : World} {m : Nat} {E : World → Prop} {L : Array Bool} {a : Act} {w w' : World} (h : EVS T0 ds tab ex W m E L a w) (ht : tab m = none) (hL : L.getD m true = false) (hE : E w') : EVS T0 ds tab ex W m E (L.setIfInBounds m true) a w' := by
  have g : (L.setIfInBounds m true).getD m false = true := by
    have h1 := getD_false hL
    have h2 : m < L.size := by simpa using (List.getElem?_eq_some_iff.1 h1).1
    rw [Array.getD_eq_getD_getElem?, Array.getElem?_setIfInBounds_self_of_lt h2]
    rfl
  exact ⟨h.sl.skip ht, (fun h1 => by rw [g] at h1; cases h1), (fun h1 => by rw [g] at h1; cases h1), fun _ => hE⟩

/-- As EVS, with what stands of the world ('I') and how it goes on ('Rl') left open. -/
structure EVG (T0 : Array Value) (ds : List Nat) (tab : Nat → Option Value) (ex : Nat → Value → World → Prop) (I : Array Bool → World → Prop) (m : Nat) (E : World → Prop) (L : Array Bool) (a : Act) (w : World) : Prop where
  sl : Sl2 T0 ds tab L a
  wd : L.getD m false = false → I L w
  ex : L.getD m false = false → ∀ i (h : i < ds.length), L.getD i false = true → ex i (a.eval (.tmp ds[i])) w
  fin : L.getD m false = true → E w
theorem EVG.step {T0 : Array Value} {ds : List Nat} {tab : Nat → Option Value} {ex : Nat → Value → World → Prop} {I : Array Bool → World → Prop} {m : Nat} {E : World → Prop} {L : Array Bool} {a : Act} {w w' : World} (h : EVG T0 ds tab ex I m E L a w) (nd : ds.Nodup) (hst : ∀ i v, ex i v w → ex i v w') {i : Nat} {v : Value} (hi : i < ds.length) (hd : ds[i] < T0.size) (hm : i ≠ m) (h0 : L.getD m false = false) (ht : ∀ u, tab i = some u → u = v) (he : ex i v w') (hI : I (L.setIfInBounds i true) w') : EVG T0 ds tab ex I m E (L.setIfInBounds i true) (a.put (some ds[i]) v) w' := by
  have g : (L.setIfInBounds i true).getD m false = false := by rw [getD_set_ne false hm]; exact h0
  refine ⟨h.sl.put nd hi hd ht, fun _ => hI, fun _ j hj hL => ?_, fun h1 => by rw [g] at h1; cases h1⟩
  by_cases e : j = i
  · subst e
    rw [eval_put_same (by rw [h.sl.sz]; exact hd)]
    exact he
  · rw [Act.eval_put (fun d hd' => by cases hd'; intro e'; injection e' with e'; exact nodup_ne nd hi hj e e')]
    exact hst j _ (h.ex h0 j hj (getD_of_set hL e))
theorem EVG.last {T0 : Array Value} {ds : List Nat} {tab : Nat → Option Value} {ex : Nat → Value → World → Prop} {I : Array Bool → World → Prop} {m : Nat} {E : World → Prop} {L : Array Bool} {a : Act} {w w' : World} (h : EVG T0 ds tab ex I m E L a w) (ht : tab m = none) (hL : L.getD m true = false) (hE : E w') : EVG T0 ds tab ex I m E (L.setIfInBounds m true) a w' := by
  have g : (L.setIfInBounds m true).getD m false = true := by
    have h1 := getD_false hL
    have h2 : m < L.size := by simpa using (List.getElem?_eq_some_iff.1 h1).1
    rw [Array.getD_eq_getD_getElem?, Array.getElem?_setIfInBounds_self_of_lt h2]
    rfl
  exact ⟨h.sl.skip ht, (fun h1 => by rw [g] at h1; cases h1), (fun h1 => by rw [g] at h1; cases h1), fun _ => hE⟩
end Go.Proofs.YtjiafjdjocmodaaGreat
