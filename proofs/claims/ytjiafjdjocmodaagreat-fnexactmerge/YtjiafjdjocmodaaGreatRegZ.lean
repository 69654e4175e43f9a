/-
  Regions that draw (EVL): any operation may write, and what is known of a slot may look at which operations are done (a row that a later operation takes over).
-/
import Derived.Test.YtjiafjdjocmodaaGreatRegY
namespace Go.Proofs.YtjiafjdjocmodaaGreat
open Go.RowKit

theorem getD_set_true {L : Array Bool} {i : Nat} (hL : L.getD i true = false) : (L.setIfInBounds i true).getD i false = true := by
  have h1 := getD_false hL
  have h2 : i < L.size := by simpa using (List.getElem?_eq_some_iff.1 h1).1
  rw [Array.getD_eq_getD_getElem?, Array.getElem?_setIfInBounds_self_of_lt h2]
  rfl
structure EVL (T0 : Array Value) (ds : List Nat) (tab : Nat → Option Value) (ex : Nat → Value → Array Bool → World → Prop) (I : Array Bool → World → Prop) (L : Array Bool) (a : Act) (w : World) : Prop where
  sl : Sl2 T0 ds tab L a
  wd : I L w
  ex : ∀ i (h : i < ds.length), L.getD i false = true → ex i (a.eval (.tmp ds[i])) L w
theorem EVL.step {T0 : Array Value} {ds : List Nat} {tab : Nat → Option Value} {ex : Nat → Value → Array Bool → World → Prop} {I : Array Bool → World → Prop} {L : Array Bool} {a : Act} {w w' : World} (h : EVL T0 ds tab ex I L a w) (nd : ds.Nodup) {i : Nat} {v : Value} (hst : ∀ j v, j ≠ i → ex j v L w → ex j v (L.setIfInBounds i true) w') (hi : i < ds.length) (hd : ds[i] < T0.size) (ht : ∀ u, tab i = some u → u = v) (he : ex i v (L.setIfInBounds i true) w') (hI : I (L.setIfInBounds i true) w') : EVL T0 ds tab ex I (L.setIfInBounds i true) (a.put (some ds[i]) v) w' := by
  refine ⟨h.sl.put nd hi hd ht, hI, fun j hj hL => ?_⟩
  by_cases e : j = i
  · subst e
    rw [eval_put_same (by rw [h.sl.sz]; exact hd)]
    exact he
  · rw [Act.eval_put (fun d hd' => by cases hd'; intro e'; injection e' with e'; exact nodup_ne nd hi hj e e')]
    exact hst j _ e (h.ex j hj (getD_of_set hL e))
theorem EVL.skip {T0 : Array Value} {ds : List Nat} {tab : Nat → Option Value} {ex : Nat → Value → Array Bool → World → Prop} {I : Array Bool → World → Prop} {L : Array Bool} {a : Act} {w w' : World} (h : EVL T0 ds tab ex I L a w) {i : Nat} (hst : ∀ j v, j ≠ i → ex j v L w → ex j v (L.setIfInBounds i true) w') (ht : tab i = none) (he : ∀ v, ex i v (L.setIfInBounds i true) w') (hI : I (L.setIfInBounds i true) w') : EVL T0 ds tab ex I (L.setIfInBounds i true) a w' := by
  refine ⟨h.sl.skip ht, hI, fun j hj hL => ?_⟩
  by_cases e : j = i
  · subst e; exact he _
  · exact hst j _ e (h.ex j hj (getD_of_set hL e))
/-- An append, at a step of a region outside of rounds. -/
theorem wpIn_appendZ {n : Nat} {P : Program} {o : Oper} {a : Act} {w w' : World} {K : Act → World → Prop} {Q : Exit → Act → World → Prop} (s x : Operand) (t : TypeId) (ho : o.op = .call { callee := .builtin .append, args := #[s, x], argTypes := #[t, t] }) {v u v' : Value} (hs : a.eval s = v) (hx : a.eval x = u)
    (hr : (Builtin.append_ #[t, t] o.type #[v, u]).run P w = .ok v' w') (hK : K (a.put o.dst v') w') : o.wpIn Fence.wide n P a w K Q := by
  refine ⟨fun f _ => trivial, ?_⟩
  show Oper.uponIn Fence.wide n P o a K Q ((execOp a.eval o).run P w)
  unfold execOp
  simp only [ho, resolve, invoke, builtin, Sem.run_bind, Sem.run_pure, Result.andThen_ok, List.map_toArray, List.map_cons, List.map_nil, hs, hx, hr]
  exact hK
end Go.Proofs.YtjiafjdjocmodaaGreat
