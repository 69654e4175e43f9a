/-
  RangeJ, RegV, RegW, FileE, FilP, AppP, EBx, CBx, StayC, PatI, Grow, PatV, ImplTree, Clone: laid as one text.
-/
import Derived.Test.YtockgapdfcapnaaZba
import Derived.OrdersIn
import Derived.Test.YtockgapdfcapnaaLaterQ
import Derived.Test.YtockgapdfcapnaaChangesB
import Derived.Test.YtockgapdfcapnaaSplitP
import Derived.Test.YtockgapdfcapnaaAtS
import Derived.Test.YtockgapdfcapnaaMrgP
import Derived.Test.YtockgapdfcapnaaTreeU
import Derived.Test.YtockgapdfcapnaaSetP
import Derived.Test.YtockgapdfcapnaaOutL
import Derived.Test.YtockgapdfcapnaaPatP
import Derived.Test.YtockgapdfcapnaaTreeP
import Derived.Deep.QuietTactic
import Derived.BigQuiet
import Derived.Deep.DeepCutAuto
import Derived.Test.YtockgapdfcapnaaRows
import Derived.Shelf.Pu.Clone
import Derived.WalkKit
namespace Go.Proofs.Ytockgapdfcapnaa
open Go.RowKit Go.Shelf

theorem range_iter2 {α : Type} {gf : Nat} {lb : Array Value} {enc : α → Array Value} {all : List α} {M : World → Prop} (hIt : Iter gf lb enc all M) (heg : ∀ args w, (callFunc gf args).run Try.prog w = .ok (.enter gf args) w)
    {g : Operand} {ps : Array Tmp} {assign body : Code} {Q : Exit → Act → World → Prop} {a : Act} {w : World} {n : Nat} (h1 : 1 ≤ n)
    (hg : a.eval g = .func (.func gf) #[] lb) (hps : ∀ x, (enc x).size = ps.size)
    (I Ix : List α → World → Prop) (hIM : ∀ pre W, I pre W → M W) (hIb : ∀ pre W W', I pre W → Below W.heap.size W W' → I pre W')
    (hIp : ∀ pre W l o, (l = w.heap.size ∨ l = w.heap.size + 1) → I pre W → I pre (W.putObj l o)) (hXp : ∀ pre W l o, (l = w.heap.size ∨ l = w.heap.size + 1) → Ix pre W → Ix pre (W.putObj l o))
    (h0 : ∀ o1 o2, I [] ((w.alloc o1).alloc o2)) (Bx : α → Nat → Act → World → Prop) (hBp : ∀ x B a' W l o, l < B → Bx x B a' W → Bx x B a' (W.putObj l o))
    (hassign : ∀ (l : Nat) (x : α) (W : World) (K : Act → World → Prop), (∀ a' W', Below W.heap.size W W' → Bx x W.heap.size a' W' → K a' W') →
      assign.wpIn (Fence.wide.inRound l) (n - 1 - 1) Try.prog (Exit.then K (fun _ _ _ => False)) { tmps := (ps.zip (enc x)).foldl (fun t (p, v) => t.setIfInBounds p v) a.tmps, defers := [] } W)
    (hbody : ∀ (l : Nat) (pre : List α) (x : α) (a' : Act) (Wb W : World), I pre Wb → (∃ r, all = pre ++ [x] ++ r) → w.heap.size + 1 < Wb.heap.size → Below Wb.heap.size Wb W → Bx x Wb.heap.size a' W → body.wpIn (Fence.wide.inRound l) (n - 1 - 1) Try.prog (iterPost w.heap.size I Ix (pre ++ [x]) W) a' W)
    (hdone : ∀ (W : World), I all W → W.heap[w.heap.size]? = some (.deferred (some [])) → Q .normal { a with defers := { target := .collected w.heap.size, args := #[] } :: a.defers } W)
    (hstop : ∀ (pre : List α) (W : World), pre <+: all → Ix pre W → W.heap[w.heap.size]? = some (.deferred (some [])) → Code.ret.wpIn Fence.wide n Try.prog Q { a with defers := { target := .collected w.heap.size, args := #[] } :: a.defers } W) :
    (Code.rangeFunc g ps assign body).wpIn Fence.wide n Try.prog Q a w := by
  refine wpIn_rangeFunc ?_
  intro fn hfn
  rw [show Fence.wide.round = none from rfl]
  obtain ⟨rc, hrc⟩ : ∃ rc : LoopState → Option Code → Loop, rc = fun st pe => { state := st, pending := pe, fn, tmps := a.tmps, params := ps, assign, body, defers := w.heap.size } := ⟨_, rfl⟩
  obtain ⟨W1, hW1⟩ : ∃ W1, (w.alloc (.deferred (some []))).alloc (.loop (rc .ready none)) = W1 := ⟨_, rfl⟩
  have hL1 : W1.heap[w.heap.size + 1]? = some (.loop (rc .ready none)) := by
    rw [← hW1]
    have := World.alloc_heap_new (w.alloc (.deferred (some []))) (.loop (rc .ready none))
    rwa [World.size_alloc] at this
  have hK1 : W1.heap[w.heap.size]? = some (.deferred (some [])) := by
    rw [← hW1]; exact (Below.heap_alloc _ _ _ (by simp)).trans (World.alloc_heap_new w _)
  have hI1 : I [] W1 := by rw [← hW1]; exact h0 _ _
  refine ⟨w.heap.size + 1, [{ target := .collected w.heap.size, args := #[] }], W1, { target := .fn (.func gf) lb, args := #[.func (.yield (w.heap.size + 1)) #[] #[]] }, W1, gf,
    #[.func (.yield (w.heap.size + 1)) #[] #[]] ++ lb, W1, ?_, ?_, ?_, ?_, fun _ => h1, ?_⟩
  · rw [← hW1, hrc]; exact run_enterLoop_outer _ _ _ _ _
  · simp only [resolve, hg]
    simp [go_sem]
  · intro f' hf'; trivial
  · simp [invoke, go_sem, heg]
  · refine (hIt (n - 1) (w.heap.size + 1)
      (fun pre W => I pre W ∧ W.heap[w.heap.size + 1]? = some (.loop (rc .ready none)) ∧ W.heap[w.heap.size]? = some (.deferred (some [])))
      (fun pre W => Ix pre W ∧ W.heap[w.heap.size + 1]? = some (.loop (rc .done (some .ret))) ∧ W.heap[w.heap.size]? = some (.deferred (some [])))
      W1 (fun pre W hJ => hIM pre W hJ.1)
      (fun pre W W' hJ hb => ⟨hIb _ _ _ hJ.1 hb, (hb.block _ (Array.getElem?_eq_some_iff.1 hJ.2.1).1).trans hJ.2.1, (hb.block _ (Array.getElem?_eq_some_iff.1 hJ.2.2).1).trans hJ.2.2⟩) ?_ ⟨hI1, hL1, hK1⟩).mono ?_
    · rintro pre x W ⟨hi, hl, hk⟩ hr
      have hlt1 : w.heap.size + 1 < W.heap.size := (Array.getElem?_eq_some_iff.1 hl).1
      have hy := run_yield (P := Try.prog) (args := enc x) hl (by rw [hrc]; exact hps x)
      rw [hrc] at hy
      refine ⟨fn, _, assign, body, hy, roundIn_of_wpIn hfn (hassign _ x W _ ?_)⟩
      intro a2 W2 hb2 hbx
      have hl' : W2.heap[w.heap.size + 1]? = some (.loop (rc .ready none)) := (hb2.block _ hlt1).trans hl
      have hk' : W2.heap[w.heap.size]? = some (.deferred (some [])) := (hb2.block _ (by omega)).trans hk
      have hlt2 : w.heap.size + 1 < W2.heap.size := Nat.lt_of_lt_of_le hlt1 hb2.size
      refine ⟨_, run_beginRound hl' (by rw [hrc]), ?_⟩
      have hl2 : (W2.putObj (w.heap.size + 1) (.loop { rc .ready none with state := .busy })).heap[w.heap.size + 1]? = some (.loop { rc .ready none with state := .busy }) := World.putObj_heap_same hlt2
      have hk2 : (W2.putObj (w.heap.size + 1) (.loop { rc .ready none with state := .busy })).heap[w.heap.size]? = some (.deferred (some [])) := (World.putObj_heap_other (by omega)).trans hk'
      have hbp : Below (W.putObj (w.heap.size + 1) (.loop { rc .ready none with state := .busy })).heap.size (W.putObj (w.heap.size + 1) (.loop { rc .ready none with state := .busy })) (W2.putObj (w.heap.size + 1) (.loop { rc .ready none with state := .busy })) := by
        refine ⟨hb2.os, hb2.tape, hb2.output, by simpa using hb2.size, fun k hk => ?_⟩
        have hk' : k < W.heap.size := by simpa using hk
        by_cases e : k = w.heap.size + 1
        · subst e
          rw [World.putObj_heap_same hlt2, World.putObj_heap_same hlt1]
        · rw [World.putObj_heap_other e, World.putObj_heap_other e]
          exact hb2.block k hk'
      have hbx2 : Bx x (W.putObj (w.heap.size + 1) (.loop { rc .ready none with state := .busy })).heap.size a2 (W2.putObj (w.heap.size + 1) (.loop { rc .ready none with state := .busy })) := by
        have := hBp _ _ _ _ (w.heap.size + 1) (.loop { rc .ready none with state := .busy }) hlt1 hbx
        simpa using this
      refine wpIn_mono (hbody _ pre x _ _ _ (hIp _ _ _ _ (.inr rfl) hi) hr (by simpa using hlt1) hbp hbx2) ?_
      have fin : ∀ (jump : Option Code) (W3 : World), TwoB w.heap.size (W2.putObj (w.heap.size + 1) (.loop { rc .ready none with state := .busy })) W3 →
          (Instr.endRound (w.heap.size + 1) jump).run Try.prog W3 = .ok (.bool jump.isNone) (W3.putObj (w.heap.size + 1) (.loop (rc (if jump.isNone then .ready else .done) jump))) ∧
          (W3.putObj (w.heap.size + 1) (.loop (rc (if jump.isNone then .ready else .done) jump))).heap[w.heap.size + 1]? = some (.loop (rc (if jump.isNone then .ready else .done) jump)) ∧
          (W3.putObj (w.heap.size + 1) (.loop (rc (if jump.isNone then .ready else .done) jump))).heap[w.heap.size]? = some (.deferred (some [])) := fun jump W3 h3 => by
        have hl3 := h3.2.trans hl2
        have := run_endRound (P := Try.prog) jump hl3
        rw [hrc] at this ⊢
        rw [hrc] at hl3
        exact ⟨this, World.putObj_heap_same (Array.getElem?_eq_some_iff.1 hl3).1, (World.putObj_heap_other (by omega)).trans (h3.1.trans hk2)⟩
      rintro e a3 W3 hp
      cases e with
      | normal =>
        obtain ⟨h3, hi3⟩ := hp
        obtain ⟨hr3, hl4, hk4⟩ := fin none W3 h3
        exact ⟨_, _, hr3, .inl ⟨rfl, hIp _ _ _ _ (.inr rfl) hi3, hl4, hk4⟩⟩
      | ret =>
        obtain ⟨h3, hi3⟩ := hp
        obtain ⟨hr3, hl4, hk4⟩ := fin (some .ret) W3 h3
        exact ⟨_, _, hr3, .inr ⟨rfl, hXp _ _ _ _ (.inr rfl) hi3, hl4, hk4⟩⟩
      | exit id => exact hp.elim
      | goto t => exact hp.elim
      | panic ch => exact hp.elim
      | outgrown => exact hp.elim
    · rintro e W2 ⟨⟨v, rfl⟩, (⟨hi, hl, hk⟩ | ⟨pre, hpre, hi, hl, hk⟩)⟩
      · exact ⟨none, _, by have := run_endLoop (P := Try.prog) hl (by rw [hrc]; simp); rw [hrc] at this; exact this, hdone _ (hIp _ _ _ _ (.inr rfl) hi) ((World.putObj_heap_other (by omega)).trans hk)⟩
      · exact ⟨some .ret, _, by have := run_endLoop (P := Try.prog) hl (by rw [hrc]; simp); rw [hrc] at this; exact this, hstop pre _ hpre (hXp _ _ _ _ (.inr rfl) hi) ((World.putObj_heap_other (by omega)).trans hk)⟩
end Go.Proofs.Ytockgapdfcapnaa

namespace Go.Proofs.Ytockgapdfcapnaa
open Go.RowKit

theorem count_set : ∀ (l : List Bool) (i : Nat), l[i]? = some false → (l.set i true).count false + 1 = l.count false
  | [], i, h => by simp at h
  | b :: l, 0, h => by
    simp at h
    subst h
    simp
  | b :: l, i + 1, h => by
    have ih := count_set l i (by simpa using h)
    simp only [List.set_cons_succ, List.count_cons]
    omega

theorem getD_false {L : Array Bool} {i : Nat} (h : L.getD i true = false) : L.toList[i]? = some false := by
  rw [Array.getElem?_toList]
  cases hx : L[i]? with
  | none => rw [Array.getD_eq_getD_getElem?, hx] at h; simp at h
  | some b => rw [Array.getD_eq_getD_getElem?, hx] at h; simp at h; rw [h]

theorem wpAnyIn_inv {F : Fence} {n : Nat} {P : Program} {md : Region.Mode} {ops : Array Oper} {Q : Exit → Act → World → Prop} (Inv : Array Bool → Act → World → Prop)
    (hd : ∀ L a w, Inv L a w → Region.ready md ops L = [] → Q .normal a w)
    (hs : ∀ L a w i, Inv L a w → i ∈ Region.ready md ops L → wpOpIn F n P ops Q i (Inv (L.setIfInBounds i true)) a w) :
    ∀ (fuel : Nat) (L : Array Bool) (a : Act) (w : World), L.toList.count false ≤ fuel → Inv L a w → wpAnyIn F n P md ops Q fuel L a w
  | 0, L, a, w, hc, hi => by
    have hr : Region.ready md ops L = [] := by
      cases hr : Region.ready md ops L with
      | nil => rfl
      | cons i r =>
        exfalso
        have hm : i ∈ Region.ready md ops L := by rw [hr]; simp
        have h1 := getD_false (mem_ready.1 hm).1
        have h2 := count_set _ _ h1
        omega
    exact ⟨hr, hd L a w hi hr⟩
  | fuel + 1, L, a, w, hc, hi => ⟨hd L a w hi, fun i hi' => wpOpIn_mono (fun a' w' h => wpAnyIn_inv Inv hd hs fuel _ a' w' (by
      have h1 := count_set _ _ (getD_false (mem_ready.1 hi').1)
      rw [Array.toList_setIfInBounds]
      omega) h) (hs L a w i hi hi')⟩

theorem getD_repl (n j : Nat) : (Array.replicate n false).getD j false = false := by
  rw [Array.getD_eq_getD_getElem?, Array.getElem?_replicate]
  split <;> rfl
theorem getD_ft {L : Array Bool} {i : Nat} (h : L.getD i true = false) : L.getD i false = false := by
  rw [Array.getD_eq_getD_getElem?] at h ⊢
  cases hx : L[i]? with
  | none => rw [hx] at h; simp at h
  | some b => rw [hx] at h; simpa using h
theorem getD_tt {L : Array Bool} {i : Nat} (hi : i < L.size) (h : L.getD i true = true) : L.getD i false = true := by
  rw [Array.getD_eq_getD_getElem?, Array.getElem?_eq_getElem hi] at h ⊢
  simpa using h

/-- What a done operation waited for is done. -/
def ClosedB (ops : Array Oper) (L : Array Bool) : Prop := ∀ i o, ops[i]? = some o → L.getD i false = true → ∀ e ∈ o.after, Region.binds .any e = true → L.getD e.on false = true
def lexAll (ops : Array Oper) : Bool := (List.range ops.size).all fun i => match ops[i]? with
  | some o => o.after.all fun e => decide (e.on < i)
  | none => true

theorem wpIn_region_inv {F : Fence} {n : Nat} {P : Program} {id : Nat} {ops : Array Oper} {Q : Exit → Act → World → Prop} {a : Act} {w : World} (hm : P.follows .mixedOrders = true) (hlex : lexAll ops = true) (Inv : Array Bool → Act → World → Prop)
    (h0 : Inv (Array.replicate ops.size false) a w.drew)
    (hd : ∀ L a w, Inv L a w → (∀ i, i < ops.size → L.getD i false = true) → Q .normal a w)
    (hs : ∀ L a w i o, Inv L a w → ClosedB ops L → L.getD i true = false → ops[i]? = some o → (∀ e ∈ o.after, Region.binds .any e = true → L.getD e.on false = true) → wpOpIn F n P ops Q i (Inv (L.setIfInBounds i true)) a w) :
    (Code.region id ops true).wpIn F n P Q a w := by
  have hc0 : ClosedB ops (Array.replicate ops.size false) := fun i o _ h => by rw [getD_repl] at h; cases h
  refine wpIn_region_any hm (wpAnyIn_inv (fun L a w => Inv L a w ∧ ClosedB ops L ∧ L.size = ops.size) ?_ ?_ ops.size _ a _ (by simp) ⟨h0, hc0, by simp⟩)
  · rintro L a w ⟨hi, hc, hz⟩ hr
    refine hd L a w hi ?_
    have key : ∀ n i, i < n → i < ops.size → L.getD i false = true := by
      intro n
      induction n with
      | zero => intro i h; omega
      | succ n ih =>
        intro i h hlt
        refine getD_tt (by omega) ?_
        cases hb : L.getD i true with
        | true => rfl
        | false =>
          exfalso
          have : i ∈ Region.ready .any ops L := mem_ready.2 ⟨hb, ops[i], Array.getElem?_eq_getElem hlt, fun e he _ => by
            have hle : e.on < i := by
              have h1 := List.all_eq_true.1 hlex i (by simpa using hlt)
              rw [Array.getElem?_eq_getElem hlt] at h1
              simp only [Array.all_eq_true_iff_forall_mem, decide_eq_true_eq] at h1
              exact h1 e he
            exact ih e.on (by omega) (by omega)⟩
          rw [hr] at this
          cases this
    exact fun i hi => key (i + 1) i (by omega) hi
  · rintro L a w i ⟨hi, hc, hz⟩ hr
    obtain ⟨h1, o, h2, h3⟩ := mem_ready.1 hr
    refine wpOpIn_mono (fun a' w' h => ⟨h, fun j o' ho' hj e he hb => ?_, by simpa using hz⟩) (hs L a w i o hi hc h1 h2 h3)
    by_cases e' : j = i
    · subst e'
      rw [h2] at ho'
      cases ho'
      exact getD_set_true (h3 e he hb)
    · rw [getD_set_ne false (fun x => e' x.symm)] at hj
      exact getD_set_true (hc j o' ho' hj e he hb)

/-- What lies in the slots: those ahead of the region, and those of the operations that are done. -/
structure Sl (N d0 : Nat) (base tab : Nat → Option Value) (L : Array Bool) (a : Act) : Prop where
  sz : a.tmps.size = N
  bs : ∀ k v, base k = some v → k < d0 ∧ a.eval (.tmp k) = v
  sl : ∀ j v, tab j = some v → L.getD j false = true → a.eval (.tmp (d0 + j)) = v
theorem Sl.put {N d0 : Nat} {base tab : Nat → Option Value} {L : Array Bool} {a : Act} (h : Sl N d0 base tab L a) {i : Nat} {v : Value} (hi : d0 + i < N) (ht : ∀ u, tab i = some u → u = v) : Sl N d0 base tab (L.setIfInBounds i true) (a.put (some (d0 + i)) v) := by
  refine ⟨by simp [Act.put, h.sz], fun k u hk => ?_, fun j u hj hL => ?_⟩
  · obtain ⟨h1, h2⟩ := h.bs k u hk
    refine ⟨h1, ?_⟩
    rw [Act.eval_put (fun d hd => by cases hd; intro e; injection e with e; have e2 : k = d0 + i := e; omega)]
    exact h2
  · by_cases e : j = i
    · subst e
      rw [ht u hj]
      show ((a.tmps.setIfInBounds (d0 + j) v).getD (d0 + j) undef) = v
      rw [Array.getD_eq_getD_getElem?, Array.getElem?_setIfInBounds_self_of_lt (by rw [h.sz]; exact hi)]
      rfl
    · rw [getD_set_ne false (fun e' => e e'.symm)] at hL
      rw [Act.eval_put (fun d hd => by cases hd; intro e'; injection e' with e'; have e2 : d0 + j = d0 + i := e'; omega)]
      exact h.sl j u hj hL
end Go.Proofs.Ytockgapdfcapnaa

namespace Go.Proofs.Ytockgapdfcapnaa
open Go.RowKit

/-- The slots ds.i hold what the done operations gave; all others are as they were. -/
structure Sl2 (T0 : Array Value) (ds : List Nat) (tab : Nat → Option Value) (L : Array Bool) (a : Act) : Prop where
  sz : a.tmps.size = T0.size
  df : a.defers = []
  fr : ∀ k, k ∉ ds → a.tmps[k]? = T0[k]?
  sl : ∀ i (h : i < ds.length) v, tab i = some v → L.getD i false = true → a.eval (.tmp ds[i]) = v
theorem Sl2.put {T0 : Array Value} {ds : List Nat} {tab : Nat → Option Value} {L : Array Bool} {a : Act} (h : Sl2 T0 ds tab L a) (nd : ds.Nodup) {i : Nat} {v : Value} (hi : i < ds.length) (hd : ds[i] < T0.size) (ht : ∀ u, tab i = some u → u = v) : Sl2 T0 ds tab (L.setIfInBounds i true) (a.put (some ds[i]) v) := by
  refine ⟨by simp [Act.put, h.sz], h.df, fun k hk => ?_, fun j hj u hu hL => ?_⟩
  · have hne : ds[i] ≠ k := fun e => hk (e ▸ List.getElem_mem hi)
    show (a.tmps.setIfInBounds ds[i] v)[k]? = _
    rw [Array.getElem?_setIfInBounds_ne hne]
    exact h.fr k hk
  · by_cases e : j = i
    · subst e
      rw [ht u hu]
      show ((a.tmps.setIfInBounds ds[j] v).getD ds[j] undef) = v
      rw [Array.getD_eq_getD_getElem?, Array.getElem?_setIfInBounds_self_of_lt (by rw [h.sz]; exact hd)]
      rfl
    · rw [getD_set_ne false (fun e' => e e'.symm)] at hL
      rw [Act.eval_put (fun d hd' => by
        cases hd'
        intro e'
        injection e' with e'
        have e2 : ds[j] = ds[i] := e'
        rcases Nat.lt_trichotomy j i with h1 | h1 | h1
        · exact List.pairwise_iff_getElem.1 nd j i hj hi h1 e2
        · exact e h1
        · exact List.pairwise_iff_getElem.1 nd i j hi hj h1 e2.symm)]
      exact h.sl j hj u hu hL
theorem Sl2.skip {T0 : Array Value} {ds : List Nat} {tab : Nat → Option Value} {L : Array Bool} {a : Act} (h : Sl2 T0 ds tab L a) {i : Nat} (ht : tab i = none) : Sl2 T0 ds tab (L.setIfInBounds i true) a :=
  ⟨h.sz, h.df, h.fr, fun j hj u hu hL => by
    by_cases e : j = i
    · subst e; rw [ht] at hu; cases hu
    · rw [getD_set_ne false (fun e' => e e'.symm)] at hL
      exact h.sl j hj u hu hL⟩
theorem Sl2.start {T0 : Array Value} {ds : List Nat} {tab : Nat → Option Value} (n : Nat) : Sl2 T0 ds tab (Array.replicate n false) { tmps := T0, defers := [] } :=
  ⟨rfl, rfl, fun _ _ => rfl, fun i _ v _ hL => by rw [getD_repl] at hL; cases hL⟩
theorem Sl2.old {T0 : Array Value} {ds : List Nat} {tab : Nat → Option Value} {L : Array Bool} {a : Act} (h : Sl2 T0 ds tab L a) {k : Nat} (hk : ds.contains k = false) : a.tmps[k]?.getD undef = T0[k]?.getD undef := by
  rw [h.fr k (fun hm => by rw [List.contains_iff_mem.2 hm] at hk; cases hk)]
theorem Sl2.new {T0 : Array Value} {ds : List Nat} {tab : Nat → Option Value} {L : Array Bool} {a : Act} (h : Sl2 T0 ds tab L a) {i : Nat} {v : Value} (hi : i < ds.length) (ht : tab i = some v) (hL : L.getD i false = true) : a.tmps[ds[i]]?.getD undef = v := by
  rw [← Array.getD_eq_getD_getElem?]
  exact h.sl i hi v ht hL

/-- The frame behind the region, written out. -/
def updL (ds : List Nat) (u : Nat → Value) : Nat → List Value → List Value
  | _, [] => []
  | k, e :: l => (bif ds.contains k then u k else e) :: updL ds u (k + 1) l
theorem updL_len (ds : List Nat) (u : Nat → Value) : ∀ (l : List Value) (k : Nat), (updL ds u k l).length = l.length
  | [], _ => rfl
  | _ :: l, k => by simp [updL, updL_len ds u l (k + 1)]
theorem updL_at (ds : List Nat) (u : Nat → Value) : ∀ (l : List Value) (k i : Nat), (updL ds u k l)[i]? = (l[i]?).map fun e => bif ds.contains (k + i) then u (k + i) else e
  | [], _, i => by simp [updL]
  | e :: l, k, 0 => by simp [updL]
  | e :: l, k, i + 1 => by
    simp only [updL, List.getElem?_cons_succ]
    rw [updL_at ds u l (k + 1) i]
    rw [show k + 1 + i = k + (i + 1) by omega]
theorem Sl2.act {l : List Value} {ds : List Nat} {tab : Nat → Option Value} {L : Array Bool} {a : Act} (h : Sl2 l.toArray ds tab L a) : a = { tmps := (updL ds (fun k => a.tmps.getD k undef) 0 l).toArray, defers := [] } := by
  obtain ⟨t, d⟩ := a
  have hd : d = [] := h.df
  subst hd
  congr 1
  refine Array.ext' ?_
  refine List.ext_getElem? fun i => ?_
  rw [updL_at, Nat.zero_add]
  have hsz : t.size = l.length := by simpa using h.sz
  by_cases hi : i < l.length
  · rw [List.getElem?_eq_getElem hi]
    have hit : i < t.size := by omega
    cases hc : ds.contains i with
    | true =>
      simp only [Option.map_some, cond_true]
      rw [Array.getElem?_toList, Array.getElem?_eq_getElem hit]
      congr 1
      rw [Array.getD_eq_getD_getElem?, Array.getElem?_eq_getElem hit]
      rfl
    | false =>
      simp only [Option.map_some, cond_false]
      have h1 := h.fr i (fun hm => by rw [List.contains_iff_mem.2 hm] at hc; cases hc)
      have h2 : t[i]? = l.toArray[i]? := h1
      rw [Array.getElem?_toList, h2]
      simp [hi]
  · have h1 : t.toList[i]? = none := by rw [Array.getElem?_toList]; exact Array.getElem?_eq_none (by omega)
    rw [h1, List.getElem?_eq_none (by omega)]
    rfl
theorem evalD2 {a : Act} {k : Nat} {v : Value} (h : a.eval (.tmp k) = v) : a.tmps[k]?.getD undef = v := by
  rw [← Array.getD_eq_getD_getElem?]; exact h
/-- As lexAll, of the edges that bind. -/
def lexB2 (ops : Array Oper) : Bool := (List.range ops.size).all fun i => match ops[i]? with
  | some o => o.after.all fun e => !Region.binds .any e || decide (e.on < i)
  | none => true
theorem wpIn_region_inv0 {F : Fence} {n : Nat} {P : Program} {id : Nat} {ops : Array Oper} {Q : Exit → Act → World → Prop} {T0 : Array Value} {w : World} (hm : P.follows .mixedOrders = true) (hlex : lexB2 ops = true) (Inv : Array Value → Array Bool → Act → World → Prop)
    (h0 : Inv T0 (Array.replicate ops.size false) { tmps := T0, defers := [] } w.drew)
    (hd : ∀ L a w, Inv T0 L a w → (∀ i, i < ops.size → L.getD i false = true) → Q .normal a w)
    (hs : ∀ L a w i o, Inv T0 L a w → ClosedB ops L → L.getD i true = false → ops[i]? = some o → (∀ e ∈ o.after, Region.binds .any e = true → L.getD e.on false = true) → wpOpIn F n P ops Q i (Inv T0 (L.setIfInBounds i true)) a w) :
    (Code.region id ops true).wpIn F n P Q { tmps := T0, defers := [] } w := by
  have hc0 : ClosedB ops (Array.replicate ops.size false) := fun i o _ h => by rw [getD_repl] at h; cases h
  refine wpIn_region_any hm (wpAnyIn_inv (fun L a w => Inv T0 L a w ∧ ClosedB ops L ∧ L.size = ops.size) ?_ ?_ ops.size _ _ _ (by simp) ⟨h0, hc0, by simp⟩)
  · rintro L a w ⟨hi, hc, hz⟩ hr
    refine hd L a w hi ?_
    have key : ∀ n i, i < n → i < ops.size → L.getD i false = true := by
      intro n
      induction n with
      | zero => intro i h; omega
      | succ n ih =>
        intro i h hlt
        refine getD_tt (by omega) ?_
        cases hb : L.getD i true with
        | true => rfl
        | false =>
          exfalso
          have : i ∈ Region.ready .any ops L := mem_ready.2 ⟨hb, ops[i], Array.getElem?_eq_getElem hlt, fun e he hbd => by
            have hle : e.on < i := by
              have h1 := List.all_eq_true.1 hlex i (by simpa using hlt)
              rw [Array.getElem?_eq_getElem hlt] at h1
              simp only [Array.all_eq_true_iff_forall_mem, Bool.or_eq_true, Bool.not_eq_true', decide_eq_true_eq] at h1
              rcases h1 e he with h2 | h2
              · rw [hbd] at h2; cases h2
              · exact h2
            exact ih e.on (by omega) (by omega)⟩
          rw [hr] at this
          cases this
    exact fun i hi => key (i + 1) i (by omega) hi
  · rintro L a w i ⟨hi, hc, hz⟩ hr
    obtain ⟨h1, o, h2, h3⟩ := mem_ready.1 hr
    refine wpOpIn_mono (fun a' w' h => ⟨h, fun j o' ho' hj e he hb => ?_, by simpa using hz⟩) (hs L a w i o hi hc h1 h2 h3)
    by_cases e' : j = i
    · subst e'
      rw [h2] at ho'
      cases ho'
      exact getD_set_true (h3 e he hb)
    · rw [getD_set_ne false (fun x => e' x.symm)] at hj
      exact getD_set_true (hc j o' ho' hj e he hb)
end Go.Proofs.Ytockgapdfcapnaa

namespace Go.Proofs.Ytockgapdfcapnaa
open Go.RowKit

def isZ (e : En) : Bool := (e.path.toList == ([] : List UInt8)) && (e.text.toList == ([] : List UInt8)) && !e.runs
def fileE (e : En) : Fl := ⟨!isZ e, e.text, e.runs⟩

set_option maxRecDepth 100000 in
set_option maxHeartbeats 4000000 in
theorem fileE_any (e : En) (w : World) : Calls Try.prog 43 #[.agg #[.string e.path, .string e.text, .bool e.runs]] w fun r w' => r = .returned (.agg #[.bool (fileE e).there, .string (fileE e).text, .bool (fileE e).runs]) ∧ Below w.heap.size w w' := by
  obtain ⟨p, t, r⟩ := e
  have hbw : Below w.heap.size w ((w.alloc (.cells #[.string p, .string t, .bool r] 72)).alloc (.cells #[.bool false, .string ⟨#[]⟩, .bool false] 69)) := ((Below.refl _ _).alloc (Nat.le_refl _) _).alloc (by simp) _
  have c0 : ((w.alloc (.cells #[.string p, .string t, .bool r] 72)).alloc (.cells #[.bool false, .string ⟨#[]⟩, .bool false] 69)).cell? ⟨w.heap.size, 0, none⟩ = some (.string p) := by simp [go_sem]
  have c1 : ((w.alloc (.cells #[.string p, .string t, .bool r] 72)).alloc (.cells #[.bool false, .string ⟨#[]⟩, .bool false] 69)).cell? ⟨w.heap.size, 1, none⟩ = some (.string t) := by simp [go_sem]
  have c2 : ((w.alloc (.cells #[.string p, .string t, .bool r] 72)).alloc (.cells #[.bool false, .string ⟨#[]⟩, .bool false] 69)).cell? ⟨w.heap.size, 2, none⟩ = some (.bool r) := by simp [go_sem]
  have r0 : ((w.alloc (.cells #[.string p, .string t, .bool r] 72)).alloc (.cells #[.bool false, .string ⟨#[]⟩, .bool false] 69)).cell? ⟨w.heap.size + 1, 0, none⟩ = some (.bool false) := by simp [go_sem]
  have r1 : ((w.alloc (.cells #[.string p, .string t, .bool r] 72)).alloc (.cells #[.bool false, .string ⟨#[]⟩, .bool false] 69)).cell? ⟨w.heap.size + 1, 1, none⟩ = some (.string ⟨#[]⟩) := by simp [go_sem]
  have r2 : ((w.alloc (.cells #[.string p, .string t, .bool r] 72)).alloc (.cells #[.bool false, .string ⟨#[]⟩, .bool false] 69)).cell? ⟨w.heap.size + 1, 2, none⟩ = some (.bool false) := by simp [go_sem]
  have rf : ∀ j, ((w.alloc (.cells #[.string p, .string t, .bool r] 72)).alloc (.cells #[.bool false, .string ⟨#[]⟩, .bool false] 69)).frozen? ⟨w.heap.size + 1, j, none⟩ = false := fun j => by simp [go_sem]
  go_enter Try.func43, Try.ntmps43
  go_upto_region 1 with fail
  generalize (w.alloc (.cells #[.string p, .string t, .bool r] 72)).alloc (.cells #[.bool false, .string ⟨#[]⟩, .bool false] 69) = W at *
  have HL : Keep (w.heap.size ≤ w.heap.size + 1) := ⟨by omega⟩
  obtain ⟨rb, hrb⟩ : ∃ rb, rb = w.heap.size + 1 := ⟨_, rfl⟩
  obtain ⟨tb, htb⟩ : ∃ tb, tb = w.heap.size := ⟨_, rfl⟩
  rw [← hrb] at r0 r1 r2 rf ⊢
  rw [← htb] at c0 c1 c2 ⊢
  have HO : Keep (w.heap.size ≤ rb) := ⟨by omega⟩
  have nt : ¬ tb = rb := by omega
  have nt2 : ¬ rb = tb := by omega
  clear hrb htb HL
  have hemp : ∀ z : ByteArray, z.toList = [] → z = ⟨#[]⟩ := fun z h => WideShapes.bytes_inj (by rw [← Lib.toList_data, h])
  cases hz : isZ ⟨p, t, r⟩ with
  | true =>
    obtain ⟨⟨h1, h2⟩, h3⟩ : (p.toList = [] ∧ t.toList = []) ∧ r = false := by simpa [isZ] using hz
    obtain rfl := hemp p h1
    obtain rfl := hemp t h2
    subst h3
    have HZ : Keep (fileE ⟨⟨#[]⟩, ⟨#[]⟩, false⟩ = ⟨false, ⟨#[]⟩, false⟩) := ⟨by unfold fileE; rw [hz]; rfl⟩
    clear h1 h2 hz hemp
    go_region
    all_goals (try go_wp2)
    all_goals
      refine bodyPost_ret (v := .agg #[.bool false, .string ⟨#[]⟩, .bool false]) ?_ rfl ⟨by rw [HZ.out], ?_⟩
      · go_light
        simp [results, Try.results43, go_sem, r0, r1, r2]
      · repeat (first | ((with_reducible refine Below.setCell ?_ ?hq2 _); (case hq2 => exact HO.out)) | (with_reducible refine Below.drew ?_))
        exact hbw

  | false =>
    have HZ : Keep (fileE ⟨p, t, r⟩ = ⟨true, t, r⟩) := ⟨by unfold fileE; rw [hz]; rfl⟩
    by_cases h1 : p.toList = []
    · obtain rfl := hemp p h1
      by_cases h2 : t.toList = []
      · obtain rfl := hemp t h2
        cases r with
        | false =>
          exfalso
          rw [Bool.eq_false_iff] at hz
          exact hz (by simp [isZ, h1])
        | true =>
          clear hz h1 h2 hemp
          go_region
          all_goals (try go_wp2)
          all_goals
            refine bodyPost_ret (v := .agg #[.bool true, .string ⟨#[]⟩, .bool true]) ?_ rfl ⟨by rw [HZ.out], ?_⟩
            · go_light
              simp [results, Try.results43, go_sem, r0, r1, r2]
            · repeat (first | ((with_reducible refine Below.setCell ?_ ?hq2 _); (case hq2 => exact HO.out)) | (with_reducible refine Below.drew ?_))
              exact hbw

      · have ht : (t.toList == ([] : List UInt8)) = false := by simpa using h2
        clear hz h1 h2 hemp
        go_region
        all_goals (try go_wp2)
        all_goals
          refine bodyPost_ret (v := .agg #[.bool true, .string t, .bool r]) ?_ rfl ⟨by rw [HZ.out], ?_⟩
          · go_light
            simp [results, Try.results43, go_sem, r0, r1, r2]
          · repeat (first | ((with_reducible refine Below.setCell ?_ ?hq2 _); (case hq2 => exact HO.out)) | (with_reducible refine Below.drew ?_))
            exact hbw

    · have hp : (p.toList == ([] : List UInt8)) = false := by simpa using h1
      clear hz h1 hemp
      go_region
      all_goals (try go_wp2)
      all_goals
        refine bodyPost_ret (v := .agg #[.bool true, .string t, .bool r]) ?_ rfl ⟨by rw [HZ.out], ?_⟩
        · go_light
          simp [results, Try.results43, go_sem, r0, r1, r2]
        · repeat (first | ((with_reducible refine Below.setCell ?_ ?hq2 _); (case hq2 => exact HO.out)) | (with_reducible refine Below.drew ?_))
          exact hbw
end Go.Proofs.Ytockgapdfcapnaa

namespace Go.Proofs.Ytockgapdfcapnaa
open Go.RowKit

theorem path_ne0 {s : ByteArray} (h : pathOk pathB s = true) : (s.toList == ([] : List UInt8)) = false := by
  rw [Bool.eq_false_iff]
  intro e
  have e1 : s = ⟨#[]⟩ := WideShapes.bytes_inj (by rw [← Lib.toList_data, (by simpa using e : s.toList = [])])
  subst e1
  revert h
  decide
theorem valid_enF {ts : List En} (h : ValidTs ts) {e : En} (he : e ∈ ts) : enOk e = true := by
  obtain ⟨i, hi, rfl⟩ := List.getElem_of_mem he
  obtain ⟨_, h1, _⟩ := h.2 i hi
  exact h1
theorem valid_path {ts : List En} (h : ValidTs ts) {e : En} (he : e ∈ ts) : (e.path.toList == ([] : List UInt8)) = false := by
  have h1 := valid_enF h he
  simp only [enOk, Bool.and_eq_true] at h1
  exact path_ne0 h1.1
theorem fileE_zero : fileE zeroE = noFl := by
  unfold fileE zeroE noFl
  have : isZ ⟨⟨#[]⟩, ⟨#[]⟩, false⟩ = true := by simp [isZ]
  rw [this]
  rfl
theorem fileE_some {e : En} (h : (e.path.toList == ([] : List UInt8)) = false) : fileE e = ⟨true, e.text, e.runs⟩ := by
  unfold fileE isZ
  rw [h]
  rfl
theorem fileE_at {ts : List En} (h : ValidTs ts) (p : ByteArray) : fileE ((fnd En.path ts p).getD zeroE) = atL ts p := by
  unfold atL
  show _ = match fnd En.path ts p with | some e => (⟨true, e.text, e.runs⟩ : Fl) | none => noFl
  cases hf : fnd En.path ts p with
  | none => exact fileE_zero
  | some e => exact fileE_some (valid_path h (fnd_some hf).1)
end Go.Proofs.Ytockgapdfcapnaa

namespace Go.Proofs.Ytockgapdfcapnaa
open Go.RowKit

/-- The entries that lie under other paths. -/
def offP (ts : List En) (p : ByteArray) : List En := ts.filter fun e => !(e.path.toList == p.toList)
theorem offP_mem {ts : List En} {p : ByteArray} (e : En) : e ∈ offP ts p ↔ e ∈ ts ∧ e.path ≠ p := by
  unfold offP
  rw [List.mem_filter, Bool.not_eq_true']
  refine and_congr Iff.rfl ?_
  exact neb_iff
theorem offP_asc {ts : List En} {p : ByteArray} (h : Asc ts) : Asc (offP ts p) := List.Pairwise.filter _ h
theorem offP_take {ts : List En} {p : ByteArray} {k : Nat} (hk : k < ts.length) : offP (ts.take (k + 1)) p = if ts[k].path.toList == p.toList then offP (ts.take k) p else offP (ts.take k) p ++ [ts[k]] := by
  rw [List.take_succ_eq_append_getElem hk]
  unfold offP
  rw [List.filter_append]
  cases h : ts[k].path.toList == p.toList <;> simp [h]
theorem offP_len {ts : List En} {p : ByteArray} : (offP ts p).length ≤ ts.length := List.length_filter_le _ _

/-- What l6Lay makes. -/
def LayRel (ts : List En) (p : ByteArray) (f : Fl) (us : List En) : Prop :=
  if f.there = true then SetRel (offP ts p) ⟨p, f.text, f.runs⟩ us else us = offP ts p
theorem LayRel.asc {ts : List En} {p : ByteArray} {f : Fl} {us : List En} (hA : Asc ts) (h : LayRel ts p f us) : Asc us := by
  unfold LayRel at h
  split at h
  · exact h.asc
  · rw [h]; exact offP_asc hA
theorem LayRel.mem {ts : List En} {p : ByteArray} {f : Fl} {us : List En} (h : LayRel ts p f us) (e : En) : e ∈ us ↔ (f.there = true ∧ e = ⟨p, f.text, f.runs⟩) ∨ (e ∈ ts ∧ e.path ≠ p) := by
  unfold LayRel at h
  split at h
  · rename_i ht
    rw [h.mem, offP_mem]
    constructor
    · rintro (rfl | ⟨⟨h1, h2⟩, _⟩)
      · exact .inl ⟨ht, rfl⟩
      · exact .inr ⟨h1, h2⟩
    · rintro (⟨_, rfl⟩ | ⟨h1, h2⟩)
      · exact .inl rfl
      · exact .inr ⟨⟨h1, h2⟩, h2⟩
  · rename_i ht
    rw [h, offP_mem]
    constructor
    · exact .inr
    · rintro (⟨h1, _⟩ | h1)
      · exact absurd h1 ht
      · exact h1

/-- A list with all changes laid. -/
structure AppRel (ts : List En) (cs : List Ch) (us : List En) : Prop where
  asc : Asc us
  mem : ∀ e, e ∈ us ↔ (∃ c ∈ cs, c.new.there = true ∧ e = ⟨c.path, c.new.text, c.new.runs⟩) ∨ (e ∈ ts ∧ ∀ c ∈ cs, c.path ≠ e.path)
theorem AppRel.one {ts : List En} {cs : List Ch} {us us' : List En} (h : AppRel ts cs us) (h' : AppRel ts cs us') : us = us' :=
  asc_unique h.asc h'.asc (fun e => by rw [h.mem, h'.mem])
theorem AppRel.start {ts : List En} (h : Asc ts) : AppRel ts [] ts := ⟨h, fun e => by simp⟩
theorem AppRel.step {ts : List En} {cs : List Ch} {us us' : List En} {k : Nat} (hk : k < cs.length) (hC : AscK Ch.path cs) (h : AppRel ts (cs.take k) us) (hl : LayRel us cs[k].path cs[k].new us') : AppRel ts (cs.take (k + 1)) us' := by
  refine ⟨hl.asc h.asc, fun e => ?_⟩
  have hlt : ∀ c ∈ cs.take k, c.path ≠ cs[k].path := fun c hc => by
    obtain ⟨i, hi, rfl⟩ := List.getElem_of_mem hc
    rw [List.getElem_take]
    have hi2 : i < k := by simp at hi; omega
    exact less_ne (List.pairwise_iff_getElem.1 hC i k (by omega) hk hi2)
  have htk : ∀ c, c ∈ cs.take (k + 1) ↔ c ∈ cs.take k ∨ c = cs[k] := fun c => by
    rw [List.take_succ_eq_append_getElem hk, List.mem_append, List.mem_singleton]
  rw [hl.mem, h.mem]
  constructor
  · rintro (⟨h1, rfl⟩ | ⟨⟨c, hc, h1, rfl⟩ | ⟨h1, h2⟩, h3⟩)
    · exact .inl ⟨cs[k], (htk _).2 (.inr rfl), h1, rfl⟩
    · exact .inl ⟨c, (htk _).2 (.inl hc), h1, rfl⟩
    · refine .inr ⟨h1, fun c hc => ?_⟩
      rcases (htk c).1 hc with h4 | h4
      · exact h2 c h4
      · rw [h4]; exact fun e' => h3 e'.symm
  · rintro (⟨c, hc, h1, rfl⟩ | ⟨h1, h2⟩)
    · rcases (htk c).1 hc with h4 | h4
      · exact .inr ⟨.inl ⟨c, h4, h1, rfl⟩, hlt c h4⟩
      · subst h4; exact .inl ⟨h1, rfl⟩
    · exact .inr ⟨.inr ⟨h1, fun c hc => h2 c ((htk c).2 (.inl hc))⟩, fun e' => h2 cs[k] ((htk _).2 (.inr rfl)) e'.symm⟩

/-- What one round of impl's loop puts behind. -/
def outA (z : En) : Option En → Option Ch → List En
  | e, none => [e.getD z]
  | _, some c => if c.new.there = true then [⟨c.path, c.new.text, c.new.runs⟩] else []
theorem outA_some (z : En) (e : Option En) (c : Ch) : outA z e (some c) = if c.new.there = true then [⟨c.path, c.new.text, c.new.runs⟩] else [] := by cases e <;> rfl
theorem outA_none (z : En) (e : Option En) : outA z e none = [e.getD z] := by cases e <;> rfl
theorem app_rows {ts : List En} {cs : List Ch} {ns : List ByteArray} (z : En) (hN : AscN ns) (hm : ∀ p, p ∈ ns ↔ (∃ x ∈ ts, En.path x = p) ∨ ∃ y ∈ cs, Ch.path y = p) (hA : Asc ts) (hC : AscK Ch.path cs) :
    AppRel ts cs (ns.flatMap fun p => outA z (fnd En.path ts p) (fnd Ch.path cs p)) := by
  have hpath : ∀ p ∈ ns, ∀ e ∈ outA z (fnd En.path ts p) (fnd Ch.path cs p), e.path = p := fun p hp e he => by
    cases hc : fnd Ch.path cs p with
    | some c =>
      rw [hc, outA_some] at he
      split at he
      · rw [List.mem_singleton.1 he]; exact (fnd_some hc).2
      · cases he
    | none =>
      rw [hc, outA_none] at he
      have he2 : e = (fnd En.path ts p).getD z := List.mem_singleton.1 he
      cases ht : fnd En.path ts p with
      | some x => rw [ht] at he2; rw [he2]; exact (fnd_some ht).2
      | none =>
        exfalso
        rcases (hm p).1 hp with ⟨x, hx, hxp⟩ | ⟨x, hx, hxp⟩
        · unfold fnd at ht
          rw [List.find?_eq_none] at ht
          exact ht x hx (eqb_iff.2 hxp)
        · unfold fnd at hc
          rw [List.find?_eq_none] at hc
          exact hc x hx (eqb_iff.2 hxp)
  have hone : ∀ p, (outA z (fnd En.path ts p) (fnd Ch.path cs p)).length ≤ 1 := fun p => by
    cases fnd Ch.path cs p with
    | none => rw [outA_none]; simp
    | some c => rw [outA_some]; split <;> simp
  have uniqT : ∀ {x y : En}, x ∈ ts → y ∈ ts → x.path = y.path → x = y := fun {x y} hx hy hxy => by
    obtain ⟨i, hi, rfl⟩ := List.getElem_of_mem hx
    obtain ⟨j, hj, rfl⟩ := List.getElem_of_mem hy
    rcases Nat.lt_trichotomy i j with h | h | h
    · exact absurd hxy (less_ne (List.pairwise_iff_getElem.1 hA i j hi hj h))
    · subst h; rfl
    · exact absurd hxy.symm (less_ne (List.pairwise_iff_getElem.1 hA j i hj hi h))
  have uniqC : ∀ {x y : Ch}, x ∈ cs → y ∈ cs → x.path = y.path → x = y := fun {x y} hx hy hxy => by
    obtain ⟨i, hi, rfl⟩ := List.getElem_of_mem hx
    obtain ⟨j, hj, rfl⟩ := List.getElem_of_mem hy
    rcases Nat.lt_trichotomy i j with h | h | h
    · exact absurd hxy (less_ne (List.pairwise_iff_getElem.1 hC i j hi hj h))
    · subst h; rfl
    · exact absurd hxy.symm (less_ne (List.pairwise_iff_getElem.1 hC j i hj hi h))
  refine ⟨?_, fun e => ?_⟩
  · have key : ∀ l : List ByteArray, AscN l → (∀ p ∈ l, p ∈ ns) → Asc (l.flatMap fun p => outA z (fnd En.path ts p) (fnd Ch.path cs p)) := by
      intro l
      induction l with
      | nil => intro _ _; exact List.Pairwise.nil
      | cons p l ih =>
        intro hl hs
        obtain ⟨h1, h2⟩ := List.pairwise_cons.1 hl
        rw [List.flatMap_cons]
        refine List.pairwise_append.2 ⟨?_, ih h2 (fun q hq => hs q (by simp [hq])), fun x hx y hy => ?_⟩
        · have h3 := hone p
          generalize outA z (fnd En.path ts p) (fnd Ch.path cs p) = m at h3
          match m, h3 with
          | [], _ => exact List.Pairwise.nil
          | [x], _ => exact List.pairwise_singleton _ _
        · obtain ⟨q, hq, hy2⟩ := List.mem_flatMap.1 hy
          rw [hpath p (hs p (by simp)) x hx, hpath q (hs q (by simp [hq])) y hy2]
          exact h1 q hq
    exact key ns hN (fun p hp => hp)
  · constructor
    · intro he
      obtain ⟨p, hp, he2⟩ := List.mem_flatMap.1 he
      cases hc : fnd Ch.path cs p with
      | some c =>
        rw [hc, outA_some] at he2
        split at he2
        · rename_i hth
          exact .inl ⟨c, (fnd_some hc).1, hth, List.mem_singleton.1 he2⟩
        · cases he2
      | none =>
        have hpe := hpath p hp e he2
        rw [hc, outA_none] at he2
        have he3 : e = (fnd En.path ts p).getD z := List.mem_singleton.1 he2
        cases ht : fnd En.path ts p with
        | some x =>
          rw [ht] at he3
          have he4 : e = x := he3
          subst he4
          refine .inr ⟨(fnd_some ht).1, fun c hcc e' => ?_⟩
          unfold fnd at hc
          rw [List.find?_eq_none] at hc
          exact hc c hcc (eqb_iff.2 (by rw [e', hpe]))
        | none =>
          exfalso
          rcases (hm p).1 hp with ⟨x, hx, hxp⟩ | ⟨x, hx, hxp⟩
          · unfold fnd at ht
            rw [List.find?_eq_none] at ht
            exact ht x hx (eqb_iff.2 hxp)
          · unfold fnd at hc
            rw [List.find?_eq_none] at hc
            exact hc x hx (eqb_iff.2 hxp)
    · rintro (⟨c, hc, hth, rfl⟩ | ⟨he, hno⟩)
      · refine List.mem_flatMap.2 ⟨c.path, (hm _).2 (.inr ⟨c, hc, rfl⟩), ?_⟩
        have hf : fnd Ch.path cs c.path = some c := by
          cases h : fnd Ch.path cs c.path with
          | none =>
            unfold fnd at h
            rw [List.find?_eq_none] at h
            exact absurd (eqb_iff.2 rfl) (h c hc)
          | some d => rw [uniqC (fnd_some h).1 hc (fnd_some h).2]
        rw [hf, outA_some, if_pos hth]
        simp
      · refine List.mem_flatMap.2 ⟨e.path, (hm _).2 (.inl ⟨e, he, rfl⟩), ?_⟩
        have hf : fnd En.path ts e.path = some e := by
          cases h : fnd En.path ts e.path with
          | none =>
            unfold fnd at h
            rw [List.find?_eq_none] at h
            exact absurd (eqb_iff.2 rfl) (h e he)
          | some d => rw [uniqT (fnd_some h).1 he (fnd_some h).2]
        have hg : fnd Ch.path cs e.path = none := fnd_none (fun c hc => hno c hc)
        rw [hf, hg, outA_none]
        simp
end Go.Proofs.Ytockgapdfcapnaa

namespace Go.Proofs.Ytockgapdfcapnaa
open Go.RowKit

structure EBox (b : Nat) (e : En) (W : World) : Prop where
  c0 : W.cell? ⟨b, 0, none⟩ = some (.string e.path)
  c1 : W.cell? ⟨b, 1, none⟩ = some (.string e.text)
  c2 : W.cell? ⟨b, 2, none⟩ = some (.bool e.runs)

theorem EBox.put {b l : Nat} {e : En} {W : World} (h : EBox b e W) (o : Obj) (hl : l ≠ b) : EBox b e (W.putObj l o) := by
  have hb : (W.putObj l o).heap[b]? = W.heap[b]? := World.putObj_heap_other (fun e => hl e.symm)
  exact ⟨(World.cell?_of_block hb).trans h.c0, (World.cell?_of_block hb).trans h.c1, (World.cell?_of_block hb).trans h.c2⟩
theorem EBox.later {b : Nat} {e : En} {W W' : World} (h : EBox b e W) (hb : Below W.heap.size W W') : EBox b e W' := ⟨cell_later hb h.c0, cell_later hb h.c1, cell_later hb h.c2⟩
end Go.Proofs.Ytockgapdfcapnaa

namespace Go.Proofs.Ytockgapdfcapnaa
open Go.RowKit

theorem box7_grown {X : World} {g : Nat} (v0 v1 v2 v3 v4 v5 v6 : Value) : X.grownBy (((((((X.setCell ⟨g, 0, none⟩ v0).setCell ⟨g, 1, none⟩ v1).setCell ⟨g, 2, none⟩ v2).setCell ⟨g, 3, none⟩ v3).setCell ⟨g, 4, none⟩ v4).setCell ⟨g, 5, none⟩ v5).setCell ⟨g, 6, none⟩ v6) (some g) :=
  have h : ∀ (Y : World) (j : Nat) (v : Value), Y.grownBy (Y.setCell ⟨g, j, none⟩ v) (some g) := fun Y j v => ⟨rfl, rfl, rfl, by simp, fun k _ hk => Below.heap_setCell _ _ _ _ (fun e => hk (by rw [e]))⟩
  have t : ∀ {A B C : World}, A.grownBy B (some g) → B.grownBy C (some g) → A.grownBy C (some g) := fun a b => ⟨b.os.trans a.os, b.tape.trans a.tape, b.output.trans a.output, Nat.le_trans a.size b.size, fun k hk hne => (b.block k (Nat.lt_of_lt_of_le hk a.size) hne).trans (a.block k hk hne)⟩
  t (t (t (t (t (t (h _ _ _) (h _ _ _)) (h _ _ _)) (h _ _ _)) (h _ _ _)) (h _ _ _)) (h _ _ _)

/-- A change in a box. -/
structure CBox (b : Nat) (c : Ch) (W : World) : Prop where
  c0 : W.cell? ⟨b, 0, none⟩ = some (.string c.path)
  c1 : W.cell? ⟨b, 1, none⟩ = some (.bool c.old.there)
  c2 : W.cell? ⟨b, 2, none⟩ = some (.string c.old.text)
  c3 : W.cell? ⟨b, 3, none⟩ = some (.bool c.old.runs)
  c4 : W.cell? ⟨b, 4, none⟩ = some (.bool c.new.there)
  c5 : W.cell? ⟨b, 5, none⟩ = some (.string c.new.text)
  c6 : W.cell? ⟨b, 6, none⟩ = some (.bool c.new.runs)
  fz : ∀ j, W.frozen? ⟨b, j, none⟩ = false
  lt : b < W.heap.size
theorem CBox.block {b : Nat} {c : Ch} {W W' : World} (h : CBox b c W) (hb : W'.heap[b]? = W.heap[b]?) : CBox b c W' :=
  ⟨(World.cell?_of_block hb).trans h.c0, (World.cell?_of_block hb).trans h.c1, (World.cell?_of_block hb).trans h.c2, (World.cell?_of_block hb).trans h.c3, (World.cell?_of_block hb).trans h.c4, (World.cell?_of_block hb).trans h.c5, (World.cell?_of_block hb).trans h.c6, fun j => frozen_of hb (h.fz j), by
    have := Array.getElem?_eq_getElem h.lt
    rw [this] at hb
    exact (Array.getElem?_eq_some_iff.1 hb).1⟩
theorem CBox.later {b : Nat} {c : Ch} {W W' : World} (h : CBox b c W) (hb : Below W.heap.size W W') : CBox b c W' := h.block (hb.block b h.lt)
theorem CBox.put {b l : Nat} {c : Ch} {W : World} (h : CBox b c W) (o : Obj) (hl : l ≠ b) : CBox b c (W.putObj l o) := h.block (World.putObj_heap_other (fun e => hl e.symm))
theorem CBox.grown {b : Nat} {c : Ch} {W W' : World} {row : Option Nat} (h : CBox b c W) (hg : W.grownBy W' row) (hr : row ≠ some b) : CBox b c W' := h.block (hg.block b h.lt (fun e => hr e.symm))
theorem CBox.set {g : Nat} {c : Ch} {X : World} (h : CBox g c X) (d : Ch) : CBox g d (((((((X.setCell ⟨g, 0, none⟩ (.string d.path)).setCell ⟨g, 1, none⟩ (.bool d.old.there)).setCell ⟨g, 2, none⟩ (.string d.old.text)).setCell ⟨g, 3, none⟩ (.bool d.old.runs)).setCell ⟨g, 4, none⟩ (.bool d.new.there)).setCell ⟨g, 5, none⟩ (.string d.new.text)).setCell ⟨g, 6, none⟩ (.bool d.new.runs)) := by
  obtain ⟨z0, z1, z2, z3, z4, z5, z6⟩ := box7_set (.string d.path) (.bool d.old.there) (.string d.old.text) (.bool d.old.runs) (.bool d.new.there) (.string d.new.text) (.bool d.new.runs) h.c0 h.c1 h.c2 h.c3 h.c4 h.c5 h.c6
  exact ⟨z0, z1, z2, z3, z4, z5, z6, fun j => (box7_fz (.string d.path) (.bool d.old.there) (.string d.old.text) (.bool d.old.runs) (.bool d.new.there) (.string d.new.text) (.bool d.new.runs)).trans (h.fz j), by simpa using h.lt⟩
end Go.Proofs.Ytockgapdfcapnaa

namespace Go.Proofs.Ytockgapdfcapnaa
open Go.RowKit

set_option maxRecDepth 20000 in
set_option maxHeartbeats 1000000 in
theorem stay_any (p : ByteArray) (f : Fl) (w : World) : Calls Try.prog 49 #[.string p, .agg #[.bool f.there, .string f.text, .bool f.runs]] w fun e w' => e = .returned (.agg #[.string p, .bool f.there, .string f.text, .bool f.runs, .bool f.there, .string f.text, .bool f.runs]) ∧ Below w.heap.size w w' := by
  have hal : Below w.heap.size w (w.alloc (.cells #[.bool f.there, .string f.text, .bool f.runs] 69)) := (Below.refl _ _).alloc (Nat.le_refl _) _
  have hal2 : Below w.heap.size w ((w.alloc (.cells #[.bool f.there, .string f.text, .bool f.runs] 69)).alloc (.cells #[.string ⟨#[]⟩, .bool false, .string ⟨#[]⟩, .bool false, .bool false, .string ⟨#[]⟩, .bool false] 82)) := hal.alloc (by simp) _
  go_enter Try.func49, Try.ntmps49
  go_wp2
  refine bodyPost_ret (v := .agg #[.string p, .bool f.there, .string f.text, .bool f.runs, .bool f.there, .string f.text, .bool f.runs]) ?_ rfl ⟨rfl, ?_⟩
  · go_light
    simp [results, Try.results49, go_sem]
  · first | exact hal.alloc (by simp) _ | exact box7_below _ _ _ _ _ _ _ hal2 (by omega)
end Go.Proofs.Ytockgapdfcapnaa

namespace Go.Proofs.Ytockgapdfcapnaa
open Go.RowKit

set_option maxRecDepth 20000 in
set_option maxHeartbeats 1000000 in
theorem l6FileOk_any (f : Fl) (w : World) :
    Calls Try.prog 78 #[.agg #[.bool f.there, .string f.text, .bool f.runs]] w fun e w' => e = .returned (.bool (flOk f)) ∧ Below w.heap.size w w' := by
  have hal : Below w.heap.size w (w.alloc (.cells #[.bool f.there, .string f.text, .bool f.runs] 69)) := (Below.refl _ _).alloc (Nat.le_refl _) _
  by_cases hs : (f.text.size : Int) ≤ 1500
  · have hs' : f.text.size ≤ 1500 := by omega
    cases ht : f.there with
    | true =>
      rw [ht] at hal
      go_enter Try.func78, Try.ntmps78
      go_wp2
      go_ret
      exact ⟨by simp [flOk, ht, hs'], hal⟩
    | false =>
      rw [ht] at hal
      cases he : f.text.toList.isEmpty with
      | true =>
        have he' : f.text.toList = [] := by simpa using he
        go_enter Try.func78, Try.ntmps78
        go_wp2
        go_ret
        exact ⟨by simp [flOk, ht, hs', he'], hal⟩
      | false =>
        have he' : ¬ f.text.toList = [] := by simpa using he
        go_enter Try.func78, Try.ntmps78
        go_wp2
        go_ret
        exact ⟨by simp [flOk, ht, hs', he'], hal⟩
  · have hs' : ¬ f.text.size ≤ 1500 := by omega
    go_enter Try.func78, Try.ntmps78
    go_wp2
    go_ret
    exact ⟨by simp [flOk, hs'], hal⟩

set_option maxRecDepth 20000 in
set_option maxHeartbeats 4000000 in
theorem isChange_any (c : Ch) (w : World) (hs : c.path.size ≤ 1099511627776) :
    Calls Try.prog 52 #[chV c] w fun e w' => e = .returned (.bool (chOk c)) ∧ Below w.heap.size w w' := by
  unfold chV
  have hal : Below w.heap.size w (w.alloc (.cells #[.string c.path, .bool c.old.there, .string c.old.text, .bool c.old.runs, .bool c.new.there, .string c.new.text, .bool c.new.runs] 82)) := (Below.refl _ _).alloc (Nat.le_refl _) _
  have hc : ChAt (w.alloc (.cells #[.string c.path, .bool c.old.there, .string c.old.text, .bool c.old.runs, .bool c.new.there, .string c.new.text, .bool c.new.runs] 82)) w.heap.size 0 c := by simp [ChAt]
  go_enter Try.func52, Try.ntmps52
  go_wp2_with fail
  refine (implPath_any c.path hs _).mono ?_
  rintro e w1 ⟨rfl, hb1⟩
  have hbw := hal.trans (hb1.mono hal.size)
  replace hc := hc.later hb1
  obtain ⟨d0, d1, d2, d3, d4, d5, d6⟩ := hc
  have HC : Keep (ChAt w1 w.heap.size 0 c) := ⟨⟨d0, d1, d2, d3, d4, d5, d6⟩⟩
  simp only [Nat.zero_add] at d0 d1 d2 d3 d4 d5 d6
  cases hp : pathOk pathB c.path with
  | false =>
    go_wp2
    go_ret
    exact ⟨by simp [chOk, hp], hbw⟩
  | true =>
    go_wp2_with fail
    refine (isFile_any c.old _).mono ?_
    rintro e w2 ⟨rfl, hb2⟩
    have hbw2 := hbw.trans (hb2.mono hbw.size)
    clear d0 d1 d2 d3 d4 d5 d6
    obtain ⟨d0, d1, d2, d3, d4, d5, d6⟩ := HC.out.later hb2
    have HC2 : Keep (ChAt w2 w.heap.size 0 c) := ⟨⟨d0, d1, d2, d3, d4, d5, d6⟩⟩
    simp only [Nat.zero_add] at d0 d1 d2 d3 d4 d5 d6
    cases ho : flOk c.old with
    | false =>
      go_wp2
      go_ret
      exact ⟨by simp [chOk, hp, ho], hbw2⟩
    | true =>
      go_wp2_with fail
      refine (isFile_any c.new _).mono ?_
      rintro e w3 ⟨rfl, hb3⟩
      have hbw3 := hbw2.trans (hb3.mono hbw2.size)
      clear d0 d1 d2 d3 d4 d5 d6
      obtain ⟨d0, d1, d2, d3, d4, d5, d6⟩ := HC2.out.later hb3
      simp only [Nat.zero_add] at d0 d1 d2 d3 d4 d5 d6
      cases hnw : flOk c.new with
      | false =>
        go_wp2
        go_ret
        exact ⟨by simp [chOk, hp, ho, hnw], hbw3⟩
      | true =>
        by_cases h1 : c.old.there = c.new.there
        · by_cases h2 : c.old.text.toList = c.new.text.toList
          · by_cases h3 : c.old.runs = c.new.runs
            · go_wp2
              go_ret
              exact ⟨by simp [chOk, hp, ho, hnw, sameF, h1, h2, h3], hbw3⟩
            · go_wp2
              go_ret
              exact ⟨by simp [chOk, hp, ho, hnw, sameF, h1, h2, h3], hbw3⟩
          · go_wp2
            go_ret
            exact ⟨by simp [chOk, hp, ho, hnw, sameF, h1, h2], hbw3⟩
        · go_wp2
          go_ret
          exact ⟨by simp [chOk, hp, ho, hnw, sameF, h1], hbw3⟩
end Go.Proofs.Ytockgapdfcapnaa

namespace Go.Proofs.Ytockgapdfcapnaa
open Go.RowKit

set_option maxHeartbeats 1000000 in
theorem isEntry_any (e : En) (hs : e.path.size ≤ 1099511627776) (w : World) :
    Calls Try.prog 80 #[.agg #[.string e.path, .string e.text, .bool e.runs]] w fun x w' => x = .returned (.bool (enOk e)) ∧ Below w.heap.size w w' := by
  have hal : Below w.heap.size w (w.alloc (.cells #[.string e.path, .string e.text, .bool e.runs] 72)) := (Below.refl _ _).alloc (Nat.le_refl _) _
  cases hp : pathOk pathB e.path with
  | false =>
    go_enter Try.func80, Try.ntmps80
    go_wp2_with fail
    refine (implPath_any e.path hs _).mono ?_
    rintro x w1 ⟨rfl, hb⟩
    rw [hp]
    go_wp2
    go_ret
    exact ⟨retB (by simp [enOk, hp]), hal.trans (hb.mono hal.size)⟩
  | true =>
    go_enter Try.func80, Try.ntmps80
    go_wp2_with fail
    refine (implPath_any e.path hs _).mono ?_
    rintro x w1 ⟨rfl, hb⟩
    rw [hp]
    have x1 := hb.cell (p := ⟨w.heap.size, 1, none⟩) (by simp)
    simp at x1
    go_wp2
    go_ret
    refine ⟨retB ?_, hal.trans (hb.mono hal.size)⟩
    have : ((e.text.size : Int) ≤ 1500) ↔ e.text.size ≤ 1500 := by omega
    simp [enOk, hp, this]

theorem tree_new (w : World) : TreeM w.heap.size 0 ((w.alloc (.map #[] 0)).alloc (.cells #[.bool false, .string ⟨#[]⟩, .bool false, .map (some w.heap.size)] 132)) (fun q => if q = [] then some (w.heap.size + 1) else none) (fun _ => w.heap.size) (fun _ => none) := by
  refine ⟨fun p b hb => ?_, fun p q b hp hq => ?_, fun p q hp hq _ => ?_, fun p x h => ?_, by simp⟩
  · by_cases e : p = []
    · subst e
      simp at hb
      subst hb
      refine ⟨?_, by omega, Nat.le_refl _, ?_⟩
      · have := World.alloc_heap_new (w.alloc (.map #[] 0)) (nodeObj none w.heap.size)
        rw [World.size_alloc] at this
        exact this
      · have hm : (w.alloc (.map #[] 0)).ownsMap Try.prog 9 ptrR w.heap.size 0 (.map []) := World.ownsMap_made _ _ _ _
        obtain ⟨es, cl, m1, m2⟩ := hm
        refine ⟨0, .map [], ⟨es, cl, (Below.heap_alloc _ _ _ (by simp)).trans m1, m2⟩, Nat.le_refl _, fun x _ => ?_, ⟨fun _ x => by simp, fun _ => rfl⟩, fun y hy => by rw [Maps.has_eq] at hy; simp at hy⟩
        simp
        rfl
    · simp [e] at hb
  · by_cases e1 : p = [] <;> by_cases e2 : q = [] <;> simp [e1, e2] at hp hq ⊢
  · by_cases e1 : p = [] <;> by_cases e2 : q = [] <;> simp [e1, e2] at hp hq ⊢
  · simp at h

theorem path_pos {p : Int → Bool} {s : ByteArray} (h : pathOk p s = true) : 0 < s.size := by
  simp only [pathOk, Bool.and_eq_true] at h
  have h2 := h.2
  rw [partsB_cut] at h2
  simp only [List.all_cons, Bool.and_eq_true] at h2
  have h3 := h2.1
  simp only [partOk, Bool.and_eq_true, decide_eq_true_eq] at h3
  have := cutHead_size s
  omega

/-- What grow answers. -/
def GrowPost (ts : List En) (w : World) (e : Ending) (w' : World) : Prop :=
  Below w.heap.size w w' ∧
  ((ValidTs ts ∧ ∃ root, e = .returned (.tuple #[.pointer (some ⟨root, 0, none⟩), .bool true]) ∧ ∃ lo N β μ φ, w.heap.size ≤ lo ∧ N ≤ 1000 ∧ TreeM lo N w' β μ φ ∧ β [] = some root ∧ Shape ts β φ) ∨
   (¬ ValidTs ts ∧ e = .returned (.tuple #[.pointer none, .bool false])))

theorem parts6 {e : En} (h : enOk e = true) : (partsB e.path).length ≤ 6 ∧ e.path.size ≤ 126 := by
  simp only [enOk, Bool.and_eq_true] at h
  refine ⟨?_, pathOk_size h.1⟩
  have := h.1
  simp only [pathOk, Bool.and_eq_true, decide_eq_true_eq] at this
  exact this.1

set_option maxRecDepth 100000 in
set_option maxHeartbeats 4000000 in
theorem grow_any (a : Option Addr) (cap : Nat) (ts : List En) (w : World) (hts : ES w a ts) (hn : ts.length ≤ 1048576) (hz : ∀ e ∈ ts, e.path.size ≤ 1048576) :
    Calls Try.prog 67 #[.agg #[.slice a ts.length cap]] w fun e w' => GrowPost ts w e w' := by
  by_cases h100 : (100 : Int) < ts.length
  · go_enter Try.func67, Try.ntmps67
    go_wp2
    go_ret2
    exact ⟨(Below.refl _ _).alloc (Nat.le_refl _) _, .inr ⟨fun h => by have := h.1; omega, rfl⟩⟩
  have hbT : Below w.heap.size w (w.alloc (.cells #[.slice a ts.length cap] 32)) := (Below.refl _ _).alloc (Nat.le_refl _) _
  have htT := hts.below hbT
  have hcT : (w.alloc (.cells #[.slice a ts.length cap] 32)).cell? ⟨w.heap.size, 0, none⟩ = some (.slice a ts.length cap) := by simp
  have hsT : (w.alloc (.cells #[.slice a ts.length cap] 32)).heap.size = w.heap.size + 1 := by simp
  go_enter Try.func67, Try.ntmps67
  go_wp2_with fail
  have hnew := tree_new (w.alloc (.cells #[.slice a ts.length cap] 32))
  have hbN : Below (w.heap.size + 1) (w.alloc (.cells #[.slice a ts.length cap] 32)) (((w.alloc (.cells #[.slice a ts.length cap] 32)).alloc (.map #[] 0)).alloc (.cells #[.bool false, .string ⟨#[]⟩, .bool false, .map (some (w.heap.size + 1))] 132)) := ((Below.refl _ _).alloc (by simp) _).alloc (by simp) _
  rw [hsT] at hnew
  refine (newNode_any _).mono ?_
  rintro e w1 ⟨rfl, rfl⟩
  go_wp2
  have hwf : w.heap.size < w.heap.size + 1 := by omega
  obtain ⟨L, hL⟩ : ∃ L, L = w.heap.size + 1 := ⟨_, rfl⟩
  rw [← hL] at hnew hbN hsT hwf ⊢
  have HL : Keep (L = w.heap.size + 1) := ⟨hL⟩
  clear hL
  generalize hwN : ((w.alloc (.cells #[.slice a ts.length cap] 32)).alloc (.map #[] 0)).alloc (.cells #[.bool false, .string ⟨#[]⟩, .bool false, .map (some L)] 132) = Wn at *
  generalize hwT : w.alloc (.cells #[.slice a ts.length cap] 32) = wT at *
  have HS : Keep (wT.heap.size = L) := ⟨hsT⟩
  have hLe : wT.heap.size ≤ L := by omega
  have hLg : L ≤ wT.heap.size := by omega
  clear hsT hwN hwT
  have hsh : Shape (ts.take 0) (fun q => if q = [] then some (L + 1) else none) (fun _ => none) := Shape.start (fun q => by by_cases e : q = [] <;> simp [e]) (fun _ => rfl)
  go_loopw [15] (fun i wr => ∃ (k N : Nat) (β : Way → Option Nat) (μ : Way → Nat) (φ : Way → Option (ByteArray × Bool)), i = .int .i64 k ∧ k ≤ ts.length ∧ TreeM L N wr β μ φ ∧ N ≤ 6 * k ∧ β [] = some (L + 1) ∧ Shape (ts.take k) β φ ∧ Keep (∀ i, i < k → OkAt ts i) ∧ Below L wT wr) (fun i _ => ts.length - (intOf i).toNat)
  case atStart => exact ⟨0, 0, _, _, _, rfl, Nat.zero_le _, hnew, Nat.le_refl _, by simp, hsh, ⟨fun i hi => by omega⟩, hbN⟩
  case round =>
    clear hnew hbN hsh
    obtain ⟨k, N, β, μ, φ, rfl, hk, hT, hN, hroot, hS, hok, hB⟩ := hrel
    have hBT : Below wT.heap.size wT wr := HS.out ▸ hB
    have hE := htT.below hBT
    have hcT' := (hB.cell (p := ⟨w.heap.size, 0, none⟩) hwf).trans hcT
    have hBw := hbT.trans (hBT.mono hbT.size)
    by_cases hlt : k < ts.length
    · have hlt' : (k : Int) < ts.length := by omega
      obtain ⟨b, off, rfl, hc⟩ := hE.at hlt
      obtain ⟨x0, x1, x2⟩ := hc k hlt
      have hals : Below wr.heap.size wr (wr.alloc (.cells #[.string ts[k].path, .string ts[k].text, .bool ts[k].runs] 72)) := (Below.refl _ _).alloc (Nat.le_refl _) _
      have hcT2 := cell_later hals hcT'
      have hT2 := hT.below hals
      have hBw2 := hBw.trans (hals.mono hBw.size)
      have hBL2 := hB.alloc (Nat.le_trans hLg hBT.size) (.cells #[.string ts[k].path, .string ts[k].text, .bool ts[k].runs] 72)
      have hzk := hz ts[k] (List.getElem_mem hlt)
      have hprev : ∀ j (hj : j < ts.length), j + 1 = k → (wr.alloc (.cells #[.string ts[k].path, .string ts[k].text, .bool ts[k].runs] 72)).cell? ⟨b, off + j * 3, none⟩ = some (.string ts[j].path) := fun j hj _ => cell_later hals (hc j hj).1
      have hbad : ¬ OkAt ts k → ¬ ValidTs ts := fun h1 h2 => h1 (h2.2 k hlt)
      clear hc hE htT hts
      have hbnd : N ≤ 600 := by omega
      go_upto_region 7 with fail
      go_cut [33] (fun v wx => ∃ bl : Bool, v = .bool bl ∧ (bl = false ↔ ∀ j, j + 1 = k → ∀ hj : j < ts.length, Op.bytesLess ts[j].path.toList ts[k].path.toList = true) ∧ ∃ n, wx = (wr.alloc (.cells #[.string ts[k].path, .string ts[k].text, .bool ts[k].runs] 72)).drewN n)
      case first =>
        by_cases hk0 : k = 0
        · have hkd : decide (0 < k) = false := by simp [hk0]
          go_quiet (fail)
          go_wp2_with fail
          go_meet
          case rel => exact ⟨false, rfl, ⟨fun _ j hj => by omega, fun _ => rfl⟩, _, rfl⟩
        · obtain ⟨j, rfl⟩ : ∃ j, k = j + 1 := ⟨k - 1, by omega⟩
          have hp := hprev j (by omega) rfl
          have hk0' : (0 : Int) < ((j + 1 : Nat) : Int) := by omega
          have hkd : decide (0 < j + 1) = true := by simp
          have htot := less_total ts[j].path.toList ts[j + 1].path.toList
          have HT : Keep ((!(Op.bytesLess ts[j].path.toList ts[j + 1].path.toList)) = (Op.bytesLess ts[j + 1].path.toList ts[j].path.toList || ts[j + 1].path.toList == ts[j].path.toList)) := ⟨htot⟩
          clear htot
          go_quiet (fail)
          go_wp2_with fail
          go_meet
          case rel =>
            refine ⟨_, rfl, ?_, _, rfl⟩
            rw [← HT.out]
            constructor
            · intro h j' hj' hl
              obtain rfl : j' = j := by omega
              simpa using h
            · intro h
              have := h j rfl (by omega)
              rw [this]; rfl
      case rest =>
        obtain ⟨bl, rfl, hbl, nq, rfl⟩ := hcut
        have HB : Keep (bl = false ↔ ∀ j, j + 1 = k → ∀ hj : j < ts.length, Op.bytesLess ts[j].path.toList ts[k].path.toList = true) := ⟨hbl⟩
        clear hbl hprev
        have y0 : ((wr.alloc (.cells #[.string ts[k].path, .string ts[k].text, .bool ts[k].runs] 72)).drewN nq).cell? ⟨wr.heap.size, 0, none⟩ = some (.string ts[k].path) := by simp
        have y1 : ((wr.alloc (.cells #[.string ts[k].path, .string ts[k].text, .bool ts[k].runs] 72)).drewN nq).cell? ⟨wr.heap.size, 1, none⟩ = some (.string ts[k].text) := by simp
        have y2 : ((wr.alloc (.cells #[.string ts[k].path, .string ts[k].text, .bool ts[k].runs] 72)).drewN nq).cell? ⟨wr.heap.size, 2, none⟩ = some (.bool ts[k].runs) := by simp
        have hT5 : TreeM L N ((wr.alloc (.cells #[.string ts[k].path, .string ts[k].text, .bool ts[k].runs] 72)).drewN nq) β μ φ := hT2.turn (fun _ _ => rfl)
        have hB5 : Below L wT ((wr.alloc (.cells #[.string ts[k].path, .string ts[k].text, .bool ts[k].runs] 72)).drewN nq) := hBL2.trans ⟨rfl, rfl, rfl, Nat.le_refl _, fun _ _ => rfl⟩
        have hBw5 : Below w.heap.size w ((wr.alloc (.cells #[.string ts[k].path, .string ts[k].text, .bool ts[k].runs] 72)).drewN nq) := hBw2.trans ⟨rfl, rfl, rfl, Nat.le_refl _, fun _ _ => rfl⟩
        generalize (wr.alloc (.cells #[.string ts[k].path, .string ts[k].text, .bool ts[k].runs] 72)).drewN nq = W5 at *
        clear hBw2 hBL2 hT2 hcT2 hals x0 x1 x2 hBw hcT' hBT hB hT
        generalize wr.heap.size = be at *
        cases bl with
        | true =>
          go_wp2
          go_ret2
          refine ⟨hBw5, .inr ⟨hbad (fun ⟨_, _, h2, _⟩ => ?_), rfl⟩⟩
          have := HB.out.2 h2
          cases this
        | false =>
          have hpl := HB.out.1 rfl
          have HP : Keep (∀ j, j + 1 = k → ∀ hj : j < ts.length, Op.bytesLess ts[j].path.toList ts[k].path.toList = true) := ⟨hpl⟩
          clear hpl HB
          go_wp2_with fail
          refine (isEntry_any ts[k] (by omega) _).mono ?_
          rintro x w6 ⟨rfl, hb6⟩
          cases hen : enOk ts[k] with
          | false =>
            go_wp2
            go_ret2
            refine ⟨hBw5.trans (hb6.mono hBw5.size), .inr ⟨hbad (fun ⟨_, h1, _, _⟩ => ?_), rfl⟩⟩
            rw [hen] at h1
            cases h1
          | true =>
            obtain ⟨h6, h126⟩ := parts6 hen
            have y0 := cell_later hb6 y0
            have y1 := cell_later hb6 y1
            have y2 := cell_later hb6 y2
            have hT6 := hT5.below hb6
            have hBw6 := hBw5.trans (hb6.mono hBw5.size)
            have hLw : L ≤ W5.heap.size := Nat.le_trans hLg hB5.size
            have hB6 := hB5.trans (hb6.mono hLw)
            have hLw6 : L ≤ w6.heap.size := Nat.le_trans hLw hb6.size
            have hless := asc_all hok.out hlt HP.out
            have hbi := blocked_iff hS ts[k] hless
            have HBI : Keep (Blocked β φ (partsB ts[k].path) ↔ ∃ e' ∈ ts.take k, Begins e'.path ts[k].path) := ⟨hbi⟩
            have hlay := lay_any L N (L + 1) w6 β μ φ hT6 hS.files_nodes hroot (by omega) ts[k] (by omega) (path_pos (by simp only [enOk, Bool.and_eq_true] at hen; exact hen.1))
            clear hless hbi hT5 hB5 hBw5 hb6
            go_wp2_with fail
            refine hlay.mono ?_
            rintro x w7 (⟨rfl, hnb, ⟨β', μ', hT7, hgr, hr7⟩, hBT7⟩ | ⟨rfl, hbl, _, hBT7⟩)
            · have hB7 := hBT7.below hT6 hLw6
              have hS7 := hS.laid ts[k] (by
                cases hx : φ (partsB ts[k].path) with
                | none => rfl
                | some f => exact absurd (.inr (.inl (by rw [hx]; simp))) hnb) hgr
              rw [← List.take_succ_eq_append_getElem hlt] at hS7
              have hok7 : Keep (∀ i, i < k + 1 → OkAt ts i) := ⟨fun i hi => by
                by_cases e : i = k
                · subst e
                  exact ⟨hlt, hen, HP.out, fun e' he hb => hnb (HBI.out.2 ⟨e', he, hb⟩)⟩
                · exact hok.out i (by omega)⟩
              clear hlay HBI hnb hgr hS
              go_wp2
              go_roundw
              case rel => exact ⟨k + 1, N + (partsB ts[k].path).length, β', μ', _, by congr 1, hlt, hT7, by omega, by rw [hr7]; exact hroot, hS7, hok7, hB6.trans hB7⟩
              case measure => simp only [intOf]; omega
            · have hB7 := hBT7.below hT6 hLw6
              have hBw7 : Below w.heap.size w w7 := hBw6.trans (hB7.mono (by omega))
              clear hlay
              go_wp2
              go_ret2
              refine ⟨hBw7, .inr ⟨hbad (fun ⟨_, _, _, h3⟩ => ?_), rfl⟩⟩
              obtain ⟨e', he, hb⟩ := HBI.out.1 hbl
              exact h3 e' he hb
    · obtain rfl : k = ts.length := by omega
      go_wp2
      go_ret2
      rw [List.take_length] at hS
      exact ⟨hBw, .inl ⟨⟨by omega, hok.out⟩, L + 1, rfl, L, N, β, μ, φ, by omega, by omega, hT, hroot, hS⟩⟩
end Go.Proofs.Ytockgapdfcapnaa

namespace Go.Proofs.Ytockgapdfcapnaa
open Go.RowKit

def lastB (cs : List Ch) : Nat → ByteArray
  | 0 => ⟨#[]⟩
  | k + 1 => (cs[k]?.map (·.path)).getD ⟨#[]⟩
theorem lastB_succ {cs : List Ch} {k : Nat} (h : k < cs.length) : lastB cs (k + 1) = cs[k].path := by simp [lastB, List.getElem?_eq_getElem h]

def VpPost (cs : List Ch) (w : World) (e : Ending) (w' : World) : Prop := ∃ vb : Bool, e = .returned (.bool vb) ∧ (vb = true ↔ ValidP cs) ∧ Below w.heap.size w w'
theorem VpPost.no {cs : List Ch} {w w' : World} (h : ¬ ValidP cs) (hb : Below w.heap.size w w') : VpPost cs w (.returned (.bool false)) w' := ⟨false, rfl, ⟨fun e => (by cases e), fun e => absurd e h⟩, hb⟩

/-- What is not behind the last one is not valid there. -/
theorem le_bad {cs : List Ch} {k : Nat} (hk : k < cs.length) (h : Op.bytesLess (lastB cs k).toList cs[k].path.toList = false) : ¬ ValidP cs := by
  intro hv
  obtain ⟨_, h1, h2⟩ := hv.2 k hk
  cases k with
  | zero =>
    simp only [chOk, Bool.and_eq_true] at h1
    have hp := path_pos h1.1.1.1
    have hl : cs[0].path.toList ≠ [] := by
      rw [Lib.toList_data]
      have : cs[0].path.data.toList.length = cs[0].path.size := (Lib.size_eq cs[0].path).symm
      intro e
      rw [e] at this
      simp at this
      omega
    have : Op.bytesLess (lastB cs 0).toList cs[0].path.toList = true := by
      have e0 : (lastB cs 0).toList = [] := by simp [lastB, Lib.toList_data]
      rw [e0]
      cases hx : cs[0].path.toList with
      | nil => exact absurd hx hl
      | cons a l => rfl
    rw [h] at this
    cases this
  | succ j =>
    have := h2 j rfl (by omega)
    rw [lastB_succ (by omega)] at h
    rw [h] at this
    cases this
theorem le_good {cs : List Ch} {k : Nat} (hk : k < cs.length) (h : Op.bytesLess (lastB cs k).toList cs[k].path.toList = true) (hc : chOk cs[k] = true) : POk cs k := by
  refine ⟨hk, hc, fun j hj hjl => ?_⟩
  subst hj
  rw [lastB_succ hjl] at h
  exact h

set_option maxRecDepth 100000 in
set_option maxHeartbeats 4000000 in
theorem implPatch_any (a : Option Addr) (cap : Nat) (cs : List Ch) (w : World) (hcs : CS w a cs) (hn : cs.length ≤ 1048576) (hz : ∀ c ∈ cs, c.path.size ≤ 1048576) :
    Calls Try.prog 19 #[.agg #[.slice a cs.length cap]] w fun e w' => VpPost cs w e w' := by
  have hal : Below w.heap.size w (w.alloc (.cells #[.slice a cs.length cap] 37)) := (Below.refl _ _).alloc (Nat.le_refl _) _
  by_cases h200 : (200 : Int) < cs.length
  · go_enter Try.func19, Try.ntmps19
    go_wp2
    go_ret
    exact VpPost.no (fun h => by have := h.1; omega) hal
  go_enter Try.func19, Try.ntmps19
  go_wp2
  go_loopw [3, 13] (fun l i wr => ∃ k : Nat, l = .string (lastB cs k) ∧ i = .int .i64 k ∧ k ≤ cs.length ∧ Keep (∀ j, j < k → POk cs j) ∧ Below w.heap.size w wr) (fun _ i _ => cs.length - (intOf i).toNat)
  case atStart => exact ⟨0, rfl, rfl, Nat.zero_le _, ⟨fun j hj => by omega⟩, hal⟩
  case round =>
    obtain ⟨k, rfl, rfl, hk, hok, hb⟩ := hrel
    by_cases hlt : k < cs.length
    · have hlt' : (k : Int) < cs.length := by omega
      obtain ⟨b, off, rfl, hc⟩ := (hcs.below hb).at hlt
      obtain ⟨c0, c1, c2, c3, c4, c5, c6⟩ := hc k hlt
      clear hc
      have htot := less_total (lastB cs k).toList cs[k].path.toList
      have HBAD : Keep (Op.bytesLess (lastB cs k).toList cs[k].path.toList = false → ¬ ValidP cs) := ⟨le_bad hlt⟩
      have HGOOD : Keep (Op.bytesLess (lastB cs k).toList cs[k].path.toList = true → chOk cs[k] = true → POk cs k) := ⟨le_good hlt⟩
      have HL : Keep (lastB cs (k + 1) = cs[k].path) := ⟨lastB_succ hlt⟩
      have hals : Below wr.heap.size wr (wr.alloc (.cells #[.string cs[k].path, .bool cs[k].old.there, .string cs[k].old.text, .bool cs[k].old.runs, .bool cs[k].new.there, .string cs[k].new.text, .bool cs[k].new.runs] 82)) := (Below.refl _ _).alloc (Nat.le_refl _) _
      have x0 : (wr.alloc (.cells #[.string cs[k].path, .bool cs[k].old.there, .string cs[k].old.text, .bool cs[k].old.runs, .bool cs[k].new.there, .string cs[k].new.text, .bool cs[k].new.runs] 82)).cell? ⟨wr.heap.size, 0, none⟩ = some (.string cs[k].path) := by simp
      have hbx := hb.trans (hals.mono hb.size)
      have hzk := hz cs[k] (List.getElem_mem hlt)
      cases hl : Op.bytesLess (lastB cs k).toList cs[k].path.toList with
      | false =>
        rw [hl] at htot
        have hle := htot.symm
        simp only [Bool.not_false] at hle
        have hbad := HBAD.out hl
        clear htot
        go_wp2
        go_ret
        exact VpPost.no hbad hbx
      | true =>
        rw [hl] at htot
        have hle := htot.symm
        simp only [Bool.not_true] at hle
        clear htot
        have hcall := isChange_any cs[k] (wr.alloc (.cells #[.string cs[k].path, .bool cs[k].old.there, .string cs[k].old.text, .bool cs[k].old.runs, .bool cs[k].new.there, .string cs[k].new.text, .bool cs[k].new.runs] 82)) (by omega)
        unfold chV at hcall
        go_wp2_with fail
        refine hcall.mono ?_
        rintro e w2 ⟨rfl, hb2⟩
        have hbw2 := hbx.trans (hb2.mono hbx.size)
        have x2 := cell_later hb2 x0
        clear hcall
        cases hck : chOk cs[k] with
        | false =>
          have hbad : ¬ ValidP cs := fun hv => by
            obtain ⟨_, h1, _⟩ := hv.2 k hlt
            rw [hck] at h1
            cases h1
          go_wp2
          go_ret
          exact VpPost.no hbad hbw2
        | true =>
          have HP : Keep (∀ j, j < k + 1 → POk cs j) := ⟨fun j hj => by
            by_cases e : j = k
            · subst e; exact HGOOD.out hl hck
            · exact hok.out j (by omega)⟩
          go_wp2
          go_roundw
          case rel => exact ⟨k + 1, by rw [HL.out], by congr 1, hlt, HP, hbw2⟩
          case measure => simp only [intOf]; omega
    · obtain rfl : k = cs.length := by omega
      go_wp2
      go_ret
      exact ⟨true, rfl, ⟨fun _ => ⟨by omega, hok.out⟩, fun _ => rfl⟩, hb⟩
end Go.Proofs.Ytockgapdfcapnaa

namespace Go.Proofs.Ytockgapdfcapnaa
open Go.RowKit

set_option maxHeartbeats 1000000 in
theorem implTree_any (a : Option Addr) (cap : Nat) (ts : List En) (w : World) (hts : ES w a ts) (hn : ts.length ≤ 1048576) (hz : ∀ e ∈ ts, e.path.size ≤ 1048576) :
    Calls Try.prog 39 #[.agg #[.slice a ts.length cap]] w fun e w' => ∃ bl : Bool, e = .returned (.bool bl) ∧ (bl = true ↔ ValidTs ts) ∧ Below w.heap.size w w' := by
  have hal : Below w.heap.size w (w.alloc (.cells #[.slice a ts.length cap] 32)) := (Below.refl _ _).alloc (Nat.le_refl _) _
  go_enter Try.func39, Try.ntmps39
  go_wp2_with fail
  refine (grow_any a cap ts _ (hts.below hal) hn hz).mono ?_
  rintro e w1 ⟨hb, ⟨hv, root, rfl, _⟩ | ⟨hv, rfl⟩⟩
  · go_wp2
    go_ret
    exact ⟨true, rfl, ⟨fun _ => hv, fun _ => rfl⟩, hal.trans (hb.mono hal.size)⟩
  · go_wp2
    go_ret
    exact ⟨false, rfl, ⟨fun h => (by cases h), fun h => absurd h hv⟩, hal.trans (hb.mono hal.size)⟩
end Go.Proofs.Ytockgapdfcapnaa

namespace Go.Proofs.Ytockgapdfcapnaa
open Go.RowKit Go.Shelf

def renPu : Ren := ⟨fun n => if n = 25 then 60 else n, fun n => if n = 0 then 0 else if n = 3 then 3 else if n = 4 then 4 else if n = 5 then 5 else if n = 9 then 9 else if n = 37 then 22 else if n = 47 then 123 else n, fun n => n⟩

theorem laysClone : LaysPu.n25 Try.prog renPu where
  mixed := by kernel_rfl
  f25 := by kernel_rfl
  t0 := by kernel_rfl
  a0 := fun _ => by kernel_rfl
  z0 := fun _ => by kernel_rfl
  v0 := fun _ => by kernel_rfl
  i0 := by kernel_rfl
  t3 := by kernel_rfl
  a3 := fun _ => by kernel_rfl
  z3 := fun _ => by kernel_rfl
  v3 := fun _ => by kernel_rfl
  i3 := by kernel_rfl
  t4 := by kernel_rfl
  a4 := fun _ => by kernel_rfl
  z4 := fun _ => by kernel_rfl
  v4 := fun _ => by kernel_rfl
  i4 := by kernel_rfl
  t5 := by kernel_rfl
  a5 := fun _ => by kernel_rfl
  z5 := fun _ => by kernel_rfl
  v5 := fun _ => by kernel_rfl
  i5 := by kernel_rfl
  t9 := by kernel_rfl
  a9 := fun _ => by kernel_rfl
  z9 := fun _ => by kernel_rfl
  v9 := fun _ => by kernel_rfl
  i9 := by kernel_rfl
  t37 := by kernel_rfl
  a37 := fun _ => by kernel_rfl
  z37 := fun _ => by kernel_rfl
  v37 := fun _ => by kernel_rfl
  i37 := by kernel_rfl
  t47 := by kernel_rfl
  a47 := fun _ => by kernel_rfl
  z47 := fun _ => by kernel_rfl
  v47 := fun _ => by kernel_rfl
  i47 := by kernel_rfl

theorem cloneLite_any (s : ByteArray) (w : World) (hlim : s.size ≤ 281474976710656) :
    Calls Try.prog 60 #[.string s] w fun e w' => e = .returned (.string s) ∧ Below w.heap.size w w' :=
  AnyPu.stringslite_Clone laysClone s w hlim

set_option maxHeartbeats 400000 in
theorem clone_any (s : ByteArray) (w : World) (hlim : s.size ≤ 281474976710656) :
    Calls Try.prog 28 #[.string s] w fun e w' => e = .returned (.string s) ∧ Below w.heap.size w w' := by
  go_enter Try.func28, Try.ntmps28
  go_wp2_with (go_at_call 60; refine (cloneLite_any _ _ hlim).mono ?_; rintro e w1 ⟨rfl, hb⟩)
  go_ret
  exact ⟨rfl, hb⟩
end Go.Proofs.Ytockgapdfcapnaa
