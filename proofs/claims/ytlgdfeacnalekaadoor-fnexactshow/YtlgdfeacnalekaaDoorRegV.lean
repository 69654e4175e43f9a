/-
  A region that draws its order, by what stands at each point: which operations are done, and what lies in their slots.
-/
import Derived.OrdersIn
import Derived.Test.YtlgdfeacnalekaaDoorLaterQ
namespace Go.Proofs.YtlgdfeacnalekaaDoor
open Go.RowKit

theorem count_set : ∀ (l : List Bool) (i : Nat), l[i]? = some false → (l.set i true).count false + 1 = l.count false
  | [], i, h => by simp at h
  | b :: l, 0, h => by
    simp at h
    subst h
    simp
  | b :: l, i + 1, h => by
    have ih := count_set l i (by simpa using h)
    simp only [List.set_cons_succ, List.count_cons]
    omega

theorem getD_false {L : Array Bool} {i : Nat} (h : L.getD i true = false) : L.toList[i]? = some false := by
  rw [Array.getElem?_toList]
  cases hx : L[i]? with
  | none => rw [Array.getD_eq_getD_getElem?, hx] at h; simp at h
  | some b => rw [Array.getD_eq_getD_getElem?, hx] at h; simp at h; rw [h]

theorem wpAnyIn_inv {F : Fence} {n : Nat} {P : Program} {md : Region.Mode} {ops : Array Oper} {Q : Exit → Act → World → Prop} (Inv : Array Bool → Act → World → Prop)
    (hd : ∀ L a w, Inv L a w → Region.ready md ops L = [] → Q .normal a w)
    (hs : ∀ L a w i, Inv L a w → i ∈ Region.ready md ops L → wpOpIn F n P ops Q i (Inv (L.setIfInBounds i true)) a w) :
    ∀ (fuel : Nat) (L : Array Bool) (a : Act) (w : World), L.toList.count false ≤ fuel → Inv L a w → wpAnyIn F n P md ops Q fuel L a w
  | 0, L, a, w, hc, hi => by
    have hr : Region.ready md ops L = [] := by
      cases hr : Region.ready md ops L with
      | nil => rfl
      | cons i r =>
        exfalso
        have hm : i ∈ Region.ready md ops L := by rw [hr]; simp
        have h1 := getD_false (mem_ready.1 hm).1
        have h2 := count_set _ _ h1
        omega
    exact ⟨hr, hd L a w hi hr⟩
  | fuel + 1, L, a, w, hc, hi => ⟨hd L a w hi, fun i hi' => wpOpIn_mono (fun a' w' h => wpAnyIn_inv Inv hd hs fuel _ a' w' (by
      have h1 := count_set _ _ (getD_false (mem_ready.1 hi').1)
      rw [Array.toList_setIfInBounds]
      omega) h) (hs L a w i hi hi')⟩

theorem getD_repl (n j : Nat) : (Array.replicate n false).getD j false = false := by
  rw [Array.getD_eq_getD_getElem?, Array.getElem?_replicate]
  split <;> rfl
theorem getD_ft {L : Array Bool} {i : Nat} (h : L.getD i true = false) : L.getD i false = false := by
  rw [Array.getD_eq_getD_getElem?] at h ⊢
  cases hx : L[i]? with
  | none => rw [hx] at h; simp at h
  | some b => rw [hx] at h; simpa using h
theorem getD_tt {L : Array Bool} {i : Nat} (hi : i < L.size) (h : L.getD i true = true) : L.getD i false = true := by
  rw [Array.getD_eq_getD_getElem?, Array.getElem?_eq_getElem hi] at h ⊢
  simpa using h

/-- What a done operation waited for is done. -/
def ClosedB (ops : Array Oper) (L : Array Bool) : Prop := ∀ i o, ops[i]? = some o → L.getD i false = true → ∀ e ∈ o.after, Region.binds .any e = true → L.getD e.on false = true
def lexAll (ops : Array Oper) : Bool := (List.range ops.size).all fun i => match ops[i]? with
  | some o => o.after.all fun e => decide (e.on < i)
  | none => true

theorem wpIn_region_inv {F : Fence} {n : Nat} {P : Program} {id : Nat} {ops : Array Oper} {Q : Exit → Act → World → Prop} {a : Act} {w : World} (hm : P.follows .mixedOrders = true) (hlex : lexAll ops = true) (Inv : Array Bool → Act → World → Prop)
    (h0 : Inv (Array.replicate ops.size false) a w.drew)
    (hd : ∀ L a w, Inv L a w → (∀ i, i < ops.size → L.getD i false = true) → Q .normal a w)
    (hs : ∀ L a w i o, Inv L a w → ClosedB ops L → L.getD i true = false → ops[i]? = some o → (∀ e ∈ o.after, Region.binds .any e = true → L.getD e.on false = true) → wpOpIn F n P ops Q i (Inv (L.setIfInBounds i true)) a w) :
    (Code.region id ops true).wpIn F n P Q a w := by
  have hc0 : ClosedB ops (Array.replicate ops.size false) := fun i o _ h => by rw [getD_repl] at h; cases h
  refine wpIn_region_any hm (wpAnyIn_inv (fun L a w => Inv L a w ∧ ClosedB ops L ∧ L.size = ops.size) ?_ ?_ ops.size _ a _ (by simp) ⟨h0, hc0, by simp⟩)
  · rintro L a w ⟨hi, hc, hz⟩ hr
    refine hd L a w hi ?_
    have key : ∀ n i, i < n → i < ops.size → L.getD i false = true := by
      intro n
      induction n with
      | zero => intro i h; omega
      | succ n ih =>
        intro i h hlt
        refine getD_tt (by omega) ?_
        cases hb : L.getD i true with
        | true => rfl
        | false =>
          exfalso
          have : i ∈ Region.ready .any ops L := mem_ready.2 ⟨hb, ops[i], Array.getElem?_eq_getElem hlt, fun e he _ => by
            have hle : e.on < i := by
              have h1 := List.all_eq_true.1 hlex i (by simpa using hlt)
              rw [Array.getElem?_eq_getElem hlt] at h1
              simp only [Array.all_eq_true_iff_forall_mem, decide_eq_true_eq] at h1
              exact h1 e he
            exact ih e.on (by omega) (by omega)⟩
          rw [hr] at this
          cases this
    exact fun i hi => key (i + 1) i (by omega) hi
  · rintro L a w i ⟨hi, hc, hz⟩ hr
    obtain ⟨h1, o, h2, h3⟩ := mem_ready.1 hr
    refine wpOpIn_mono (fun a' w' h => ⟨h, fun j o' ho' hj e he hb => ?_, by simpa using hz⟩) (hs L a w i o hi hc h1 h2 h3)
    by_cases e' : j = i
    · subst e'
      rw [h2] at ho'
      cases ho'
      exact getD_set_true (h3 e he hb)
    · rw [getD_set_ne false (fun x => e' x.symm)] at hj
      exact getD_set_true (hc j o' ho' hj e he hb)

/-- What lies in the slots: those ahead of the region, and those of the operations that are done. -/
structure Sl (N d0 : Nat) (base tab : Nat → Option Value) (L : Array Bool) (a : Act) : Prop where
  sz : a.tmps.size = N
  bs : ∀ k v, base k = some v → k < d0 ∧ a.eval (.tmp k) = v
  sl : ∀ j v, tab j = some v → L.getD j false = true → a.eval (.tmp (d0 + j)) = v
theorem Sl.put {N d0 : Nat} {base tab : Nat → Option Value} {L : Array Bool} {a : Act} (h : Sl N d0 base tab L a) {i : Nat} {v : Value} (hi : d0 + i < N) (ht : ∀ u, tab i = some u → u = v) : Sl N d0 base tab (L.setIfInBounds i true) (a.put (some (d0 + i)) v) := by
  refine ⟨by simp [Act.put, h.sz], fun k u hk => ?_, fun j u hj hL => ?_⟩
  · obtain ⟨h1, h2⟩ := h.bs k u hk
    refine ⟨h1, ?_⟩
    rw [Act.eval_put (fun d hd => by cases hd; intro e; injection e with e; have e2 : k = d0 + i := e; omega)]
    exact h2
  · by_cases e : j = i
    · subst e
      rw [ht u hj]
      show ((a.tmps.setIfInBounds (d0 + j) v).getD (d0 + j) undef) = v
      rw [Array.getD_eq_getD_getElem?, Array.getElem?_setIfInBounds_self_of_lt (by rw [h.sz]; exact hi)]
      rfl
    · rw [getD_set_ne false (fun e' => e e'.symm)] at hL
      rw [Act.eval_put (fun d hd => by cases hd; intro e'; injection e' with e'; have e2 : d0 + j = d0 + i := e'; omega)]
      exact h.sl j u hj hL
end Go.Proofs.YtlgdfeacnalekaaDoor
