/-
  RangeI, RangeJ, RegV, RegW: laid as one text.
-/
import Derived.RangeFuncFrom
import Derived.RangeFuncNested
import Derived.RangeFuncBound
import Derived.RangeFuncCalls
import Derived.RangeFuncLeaves
import Derived.Shelf.Abstract
import Derived.WalkKit
import Derived.Below
import Derived.Test.YtidkcdppdkfplaaRows
import Derived.OrdersIn
import Derived.Test.YtidkcdppdkfplaaApJ
namespace Go.Proofs.Ytidkcdppdkfplaa
open Go.RowKit Go.Shelf

/-- The function gf with the captured values lb goes through the list all. -/
def Iter {α : Type} (gf : Nat) (lb : Array Value) (enc : α → Array Value) (all : List α) (M : World → Prop) : Prop :=
  ∀ (n l : Nat) (J Jx : List α → World → Prop) (W : World), (∀ pre W1, J pre W1 → M W1) → (∀ pre W1 W2, J pre W1 → Below W1.heap.size W1 W2 → J pre W2) →
    (∀ pre x W1, J pre W1 → (∃ r, all = (pre ++ [x]) ++ r) → YieldAt Fence.wide (n - 1) Try.prog l (enc x) W1 fun e W' =>
      (e = .returned (.bool true) ∧ J (pre ++ [x]) W') ∨ (e = .returned (.bool false) ∧ Jx (pre ++ [x]) W')) → J [] W →
    CallsIn Fence.wide n Try.prog gf (#[.func (.yield l) #[] #[]] ++ lb) W fun e W' => (∃ v, e = .returned v) ∧ (J all W' ∨ (∃ pre, pre <+: all ∧ Jx pre W'))

/-- The loop's own two blocks. -/
def TwoB (B : Nat) (W W' : World) : Prop := W'.heap[B]? = W.heap[B]? ∧ W'.heap[B + 1]? = W.heap[B + 1]?

/-- How the body of a round may be left. -/
def iterPost {α : Type} (B : Nat) (I : List α → World → Prop) (Ix : List α → World → Prop) (xs : List α) (W : World) : Exit → Act → World → Prop
  | .normal, _, W' => TwoB B W W' ∧ I xs W'
  | .ret, _, W' => TwoB B W W' ∧ Ix xs W'
  | .exit _, _, _ => False
  | .goto _, _, _ => False
  | .panic _, _, _ => False
  | .outgrown, _, _ => False

theorem range_iter {α : Type} {gf : Nat} {lb : Array Value} {enc : α → Array Value} {all : List α} {M : World → Prop} (hIt : Iter gf lb enc all M) (heg : ∀ args w, (callFunc gf args).run Try.prog w = .ok (.enter gf args) w)
    {g : Operand} {ps : Array Tmp} {assign body : Code} {Q : Exit → Act → World → Prop} {a : Act} {w : World} {n : Nat} (h1 : 1 ≤ n)
    (hg : a.eval g = .func (.func gf) #[] lb) (hps : ∀ x, (enc x).size = ps.size)
    (I Ix : List α → World → Prop) (hIM : ∀ pre W, I pre W → M W) (hIb : ∀ pre W W', I pre W → Below W.heap.size W W' → I pre W')
    (hIp : ∀ pre W l o, (l = w.heap.size ∨ l = w.heap.size + 1) → I pre W → I pre (W.putObj l o)) (hXp : ∀ pre W l o, (l = w.heap.size ∨ l = w.heap.size + 1) → Ix pre W → Ix pre (W.putObj l o))
    (h0 : ∀ o1 o2, I [] ((w.alloc o1).alloc o2)) (Bx : α → Nat → Act → World → Prop) (hBp : ∀ x B a' W l o, l < B → Bx x B a' W → Bx x B a' (W.putObj l o))
    (hassign : ∀ (l : Nat) (x : α) (W : World) (K : Act → World → Prop), (∀ a' W', Below W.heap.size W W' → Bx x W.heap.size a' W' → K a' W') →
      assign.wpIn (Fence.wide.inRound l) (n - 1 - 1) Try.prog (Exit.then K (fun _ _ _ => False)) { tmps := (ps.zip (enc x)).foldl (fun t (p, v) => t.setIfInBounds p v) a.tmps, defers := [] } W)
    (hbody : ∀ (l : Nat) (pre : List α) (x : α) (a' : Act) (B : Nat) (W : World), I pre W → (∃ r, all = pre ++ [x] ++ r) → w.heap.size + 1 < B → B ≤ W.heap.size → Bx x B a' W → body.wpIn (Fence.wide.inRound l) (n - 1 - 1) Try.prog (iterPost w.heap.size I Ix (pre ++ [x]) W) a' W)
    (hdone : ∀ (W : World), I all W → W.heap[w.heap.size]? = some (.deferred (some [])) → Q .normal { a with defers := { target := .collected w.heap.size, args := #[] } :: a.defers } W)
    (hstop : ∀ (pre : List α) (W : World), pre <+: all → Ix pre W → W.heap[w.heap.size]? = some (.deferred (some [])) → Code.ret.wpIn Fence.wide n Try.prog Q { a with defers := { target := .collected w.heap.size, args := #[] } :: a.defers } W) :
    (Code.rangeFunc g ps assign body).wpIn Fence.wide n Try.prog Q a w := by
  refine wpIn_rangeFunc ?_
  intro fn hfn
  rw [show Fence.wide.round = none from rfl]
  obtain ⟨rc, hrc⟩ : ∃ rc : LoopState → Option Code → Loop, rc = fun st pe => { state := st, pending := pe, fn, tmps := a.tmps, params := ps, assign, body, defers := w.heap.size } := ⟨_, rfl⟩
  obtain ⟨W1, hW1⟩ : ∃ W1, (w.alloc (.deferred (some []))).alloc (.loop (rc .ready none)) = W1 := ⟨_, rfl⟩
  have hL1 : W1.heap[w.heap.size + 1]? = some (.loop (rc .ready none)) := by
    rw [← hW1]
    have := World.alloc_heap_new (w.alloc (.deferred (some []))) (.loop (rc .ready none))
    rwa [World.size_alloc] at this
  have hK1 : W1.heap[w.heap.size]? = some (.deferred (some [])) := by
    rw [← hW1]; exact (Below.heap_alloc _ _ _ (by simp)).trans (World.alloc_heap_new w _)
  have hI1 : I [] W1 := by rw [← hW1]; exact h0 _ _
  refine ⟨w.heap.size + 1, [{ target := .collected w.heap.size, args := #[] }], W1, { target := .fn (.func gf) lb, args := #[.func (.yield (w.heap.size + 1)) #[] #[]] }, W1, gf,
    #[.func (.yield (w.heap.size + 1)) #[] #[]] ++ lb, W1, ?_, ?_, ?_, ?_, fun _ => h1, ?_⟩
  · rw [← hW1, hrc]; exact run_enterLoop_outer _ _ _ _ _
  · simp only [resolve, hg]
    simp [go_sem]
  · intro f' hf'; trivial
  · simp [invoke, go_sem, heg]
  · refine (hIt (n - 1) (w.heap.size + 1)
      (fun pre W => I pre W ∧ W.heap[w.heap.size + 1]? = some (.loop (rc .ready none)) ∧ W.heap[w.heap.size]? = some (.deferred (some [])))
      (fun pre W => Ix pre W ∧ W.heap[w.heap.size + 1]? = some (.loop (rc .done (some .ret))) ∧ W.heap[w.heap.size]? = some (.deferred (some [])))
      W1 (fun pre W hJ => hIM pre W hJ.1)
      (fun pre W W' hJ hb => ⟨hIb _ _ _ hJ.1 hb, (hb.block _ (Array.getElem?_eq_some_iff.1 hJ.2.1).1).trans hJ.2.1, (hb.block _ (Array.getElem?_eq_some_iff.1 hJ.2.2).1).trans hJ.2.2⟩) ?_ ⟨hI1, hL1, hK1⟩).mono ?_
    · rintro pre x W ⟨hi, hl, hk⟩ hr
      have hlt1 : w.heap.size + 1 < W.heap.size := (Array.getElem?_eq_some_iff.1 hl).1
      have hy := run_yield (P := Try.prog) (args := enc x) hl (by rw [hrc]; exact hps x)
      rw [hrc] at hy
      refine ⟨fn, _, assign, body, hy, roundIn_of_wpIn hfn (hassign _ x W _ ?_)⟩
      intro a2 W2 hb2 hbx
      have hl' : W2.heap[w.heap.size + 1]? = some (.loop (rc .ready none)) := (hb2.block _ hlt1).trans hl
      have hk' : W2.heap[w.heap.size]? = some (.deferred (some [])) := (hb2.block _ (by omega)).trans hk
      have hlt2 : w.heap.size + 1 < W2.heap.size := Nat.lt_of_lt_of_le hlt1 hb2.size
      refine ⟨_, run_beginRound hl' (by rw [hrc]), ?_⟩
      have hl2 : (W2.putObj (w.heap.size + 1) (.loop { rc .ready none with state := .busy })).heap[w.heap.size + 1]? = some (.loop { rc .ready none with state := .busy }) := World.putObj_heap_same hlt2
      have hk2 : (W2.putObj (w.heap.size + 1) (.loop { rc .ready none with state := .busy })).heap[w.heap.size]? = some (.deferred (some [])) := (World.putObj_heap_other (by omega)).trans hk'
      refine wpIn_mono (hbody _ pre x _ W.heap.size _ (hIp _ _ _ _ (.inr rfl) (hIb _ _ _ hi hb2)) hr hlt1 (by simpa using hb2.size) (hBp _ _ _ _ _ _ hlt1 hbx)) ?_
      have fin : ∀ (jump : Option Code) (W3 : World), TwoB w.heap.size (W2.putObj (w.heap.size + 1) (.loop { rc .ready none with state := .busy })) W3 →
          (Instr.endRound (w.heap.size + 1) jump).run Try.prog W3 = .ok (.bool jump.isNone) (W3.putObj (w.heap.size + 1) (.loop (rc (if jump.isNone then .ready else .done) jump))) ∧
          (W3.putObj (w.heap.size + 1) (.loop (rc (if jump.isNone then .ready else .done) jump))).heap[w.heap.size + 1]? = some (.loop (rc (if jump.isNone then .ready else .done) jump)) ∧
          (W3.putObj (w.heap.size + 1) (.loop (rc (if jump.isNone then .ready else .done) jump))).heap[w.heap.size]? = some (.deferred (some [])) := fun jump W3 h3 => by
        have hl3 := h3.2.trans hl2
        have := run_endRound (P := Try.prog) jump hl3
        rw [hrc] at this ⊢
        rw [hrc] at hl3
        exact ⟨this, World.putObj_heap_same (Array.getElem?_eq_some_iff.1 hl3).1, (World.putObj_heap_other (by omega)).trans (h3.1.trans hk2)⟩
      rintro e a3 W3 hp
      cases e with
      | normal =>
        obtain ⟨h3, hi3⟩ := hp
        obtain ⟨hr3, hl4, hk4⟩ := fin none W3 h3
        exact ⟨_, _, hr3, .inl ⟨rfl, hIp _ _ _ _ (.inr rfl) hi3, hl4, hk4⟩⟩
      | ret =>
        obtain ⟨h3, hi3⟩ := hp
        obtain ⟨hr3, hl4, hk4⟩ := fin (some .ret) W3 h3
        exact ⟨_, _, hr3, .inr ⟨rfl, hXp _ _ _ _ (.inr rfl) hi3, hl4, hk4⟩⟩
      | exit id => exact hp.elim
      | goto t => exact hp.elim
      | panic ch => exact hp.elim
      | outgrown => exact hp.elim
    · rintro e W2 ⟨⟨v, rfl⟩, (⟨hi, hl, hk⟩ | ⟨pre, hpre, hi, hl, hk⟩)⟩
      · exact ⟨none, _, by have := run_endLoop (P := Try.prog) hl (by rw [hrc]; simp); rw [hrc] at this; exact this, hdone _ (hIp _ _ _ _ (.inr rfl) hi) ((World.putObj_heap_other (by omega)).trans hk)⟩
      · exact ⟨some .ret, _, by have := run_endLoop (P := Try.prog) hl (by rw [hrc]; simp); rw [hrc] at this; exact this, hstop pre _ hpre (hXp _ _ _ _ (.inr rfl) hi) ((World.putObj_heap_other (by omega)).trans hk)⟩
end Go.Proofs.Ytidkcdppdkfplaa

namespace Go.Proofs.Ytidkcdppdkfplaa
open Go.RowKit Go.Shelf

theorem range_iter2 {α : Type} {gf : Nat} {lb : Array Value} {enc : α → Array Value} {all : List α} {M : World → Prop} (hIt : Iter gf lb enc all M) (heg : ∀ args w, (callFunc gf args).run Try.prog w = .ok (.enter gf args) w)
    {g : Operand} {ps : Array Tmp} {assign body : Code} {Q : Exit → Act → World → Prop} {a : Act} {w : World} {n : Nat} (h1 : 1 ≤ n)
    (hg : a.eval g = .func (.func gf) #[] lb) (hps : ∀ x, (enc x).size = ps.size)
    (I Ix : List α → World → Prop) (hIM : ∀ pre W, I pre W → M W) (hIb : ∀ pre W W', I pre W → Below W.heap.size W W' → I pre W')
    (hIp : ∀ pre W l o, (l = w.heap.size ∨ l = w.heap.size + 1) → I pre W → I pre (W.putObj l o)) (hXp : ∀ pre W l o, (l = w.heap.size ∨ l = w.heap.size + 1) → Ix pre W → Ix pre (W.putObj l o))
    (h0 : ∀ o1 o2, I [] ((w.alloc o1).alloc o2)) (Bx : α → Nat → Act → World → Prop) (hBp : ∀ x B a' W l o, l < B → Bx x B a' W → Bx x B a' (W.putObj l o))
    (hassign : ∀ (l : Nat) (x : α) (W : World) (K : Act → World → Prop), (∀ a' W', Below W.heap.size W W' → Bx x W.heap.size a' W' → K a' W') →
      assign.wpIn (Fence.wide.inRound l) (n - 1 - 1) Try.prog (Exit.then K (fun _ _ _ => False)) { tmps := (ps.zip (enc x)).foldl (fun t (p, v) => t.setIfInBounds p v) a.tmps, defers := [] } W)
    (hbody : ∀ (l : Nat) (pre : List α) (x : α) (a' : Act) (Wb W : World), I pre Wb → (∃ r, all = pre ++ [x] ++ r) → w.heap.size + 1 < Wb.heap.size → Below Wb.heap.size Wb W → Bx x Wb.heap.size a' W → body.wpIn (Fence.wide.inRound l) (n - 1 - 1) Try.prog (iterPost w.heap.size I Ix (pre ++ [x]) W) a' W)
    (hdone : ∀ (W : World), I all W → W.heap[w.heap.size]? = some (.deferred (some [])) → Q .normal { a with defers := { target := .collected w.heap.size, args := #[] } :: a.defers } W)
    (hstop : ∀ (pre : List α) (W : World), pre <+: all → Ix pre W → W.heap[w.heap.size]? = some (.deferred (some [])) → Code.ret.wpIn Fence.wide n Try.prog Q { a with defers := { target := .collected w.heap.size, args := #[] } :: a.defers } W) :
    (Code.rangeFunc g ps assign body).wpIn Fence.wide n Try.prog Q a w := by
  refine wpIn_rangeFunc ?_
  intro fn hfn
  rw [show Fence.wide.round = none from rfl]
  obtain ⟨rc, hrc⟩ : ∃ rc : LoopState → Option Code → Loop, rc = fun st pe => { state := st, pending := pe, fn, tmps := a.tmps, params := ps, assign, body, defers := w.heap.size } := ⟨_, rfl⟩
  obtain ⟨W1, hW1⟩ : ∃ W1, (w.alloc (.deferred (some []))).alloc (.loop (rc .ready none)) = W1 := ⟨_, rfl⟩
  have hL1 : W1.heap[w.heap.size + 1]? = some (.loop (rc .ready none)) := by
    rw [← hW1]
    have := World.alloc_heap_new (w.alloc (.deferred (some []))) (.loop (rc .ready none))
    rwa [World.size_alloc] at this
  have hK1 : W1.heap[w.heap.size]? = some (.deferred (some [])) := by
    rw [← hW1]; exact (Below.heap_alloc _ _ _ (by simp)).trans (World.alloc_heap_new w _)
  have hI1 : I [] W1 := by rw [← hW1]; exact h0 _ _
  refine ⟨w.heap.size + 1, [{ target := .collected w.heap.size, args := #[] }], W1, { target := .fn (.func gf) lb, args := #[.func (.yield (w.heap.size + 1)) #[] #[]] }, W1, gf,
    #[.func (.yield (w.heap.size + 1)) #[] #[]] ++ lb, W1, ?_, ?_, ?_, ?_, fun _ => h1, ?_⟩
  · rw [← hW1, hrc]; exact run_enterLoop_outer _ _ _ _ _
  · simp only [resolve, hg]
    simp [go_sem]
  · intro f' hf'; trivial
  · simp [invoke, go_sem, heg]
  · refine (hIt (n - 1) (w.heap.size + 1)
      (fun pre W => I pre W ∧ W.heap[w.heap.size + 1]? = some (.loop (rc .ready none)) ∧ W.heap[w.heap.size]? = some (.deferred (some [])))
      (fun pre W => Ix pre W ∧ W.heap[w.heap.size + 1]? = some (.loop (rc .done (some .ret))) ∧ W.heap[w.heap.size]? = some (.deferred (some [])))
      W1 (fun pre W hJ => hIM pre W hJ.1)
      (fun pre W W' hJ hb => ⟨hIb _ _ _ hJ.1 hb, (hb.block _ (Array.getElem?_eq_some_iff.1 hJ.2.1).1).trans hJ.2.1, (hb.block _ (Array.getElem?_eq_some_iff.1 hJ.2.2).1).trans hJ.2.2⟩) ?_ ⟨hI1, hL1, hK1⟩).mono ?_
    · rintro pre x W ⟨hi, hl, hk⟩ hr
      have hlt1 : w.heap.size + 1 < W.heap.size := (Array.getElem?_eq_some_iff.1 hl).1
      have hy := run_yield (P := Try.prog) (args := enc x) hl (by rw [hrc]; exact hps x)
      rw [hrc] at hy
      refine ⟨fn, _, assign, body, hy, roundIn_of_wpIn hfn (hassign _ x W _ ?_)⟩
      intro a2 W2 hb2 hbx
      have hl' : W2.heap[w.heap.size + 1]? = some (.loop (rc .ready none)) := (hb2.block _ hlt1).trans hl
      have hk' : W2.heap[w.heap.size]? = some (.deferred (some [])) := (hb2.block _ (by omega)).trans hk
      have hlt2 : w.heap.size + 1 < W2.heap.size := Nat.lt_of_lt_of_le hlt1 hb2.size
      refine ⟨_, run_beginRound hl' (by rw [hrc]), ?_⟩
      have hl2 : (W2.putObj (w.heap.size + 1) (.loop { rc .ready none with state := .busy })).heap[w.heap.size + 1]? = some (.loop { rc .ready none with state := .busy }) := World.putObj_heap_same hlt2
      have hk2 : (W2.putObj (w.heap.size + 1) (.loop { rc .ready none with state := .busy })).heap[w.heap.size]? = some (.deferred (some [])) := (World.putObj_heap_other (by omega)).trans hk'
      have hbp : Below (W.putObj (w.heap.size + 1) (.loop { rc .ready none with state := .busy })).heap.size (W.putObj (w.heap.size + 1) (.loop { rc .ready none with state := .busy })) (W2.putObj (w.heap.size + 1) (.loop { rc .ready none with state := .busy })) := by
        refine ⟨hb2.os, hb2.tape, hb2.output, by simpa using hb2.size, fun k hk => ?_⟩
        have hk' : k < W.heap.size := by simpa using hk
        by_cases e : k = w.heap.size + 1
        · subst e
          rw [World.putObj_heap_same hlt2, World.putObj_heap_same hlt1]
        · rw [World.putObj_heap_other e, World.putObj_heap_other e]
          exact hb2.block k hk'
      have hbx2 : Bx x (W.putObj (w.heap.size + 1) (.loop { rc .ready none with state := .busy })).heap.size a2 (W2.putObj (w.heap.size + 1) (.loop { rc .ready none with state := .busy })) := by
        have := hBp _ _ _ _ (w.heap.size + 1) (.loop { rc .ready none with state := .busy }) hlt1 hbx
        simpa using this
      refine wpIn_mono (hbody _ pre x _ _ _ (hIp _ _ _ _ (.inr rfl) hi) hr (by simpa using hlt1) hbp hbx2) ?_
      have fin : ∀ (jump : Option Code) (W3 : World), TwoB w.heap.size (W2.putObj (w.heap.size + 1) (.loop { rc .ready none with state := .busy })) W3 →
          (Instr.endRound (w.heap.size + 1) jump).run Try.prog W3 = .ok (.bool jump.isNone) (W3.putObj (w.heap.size + 1) (.loop (rc (if jump.isNone then .ready else .done) jump))) ∧
          (W3.putObj (w.heap.size + 1) (.loop (rc (if jump.isNone then .ready else .done) jump))).heap[w.heap.size + 1]? = some (.loop (rc (if jump.isNone then .ready else .done) jump)) ∧
          (W3.putObj (w.heap.size + 1) (.loop (rc (if jump.isNone then .ready else .done) jump))).heap[w.heap.size]? = some (.deferred (some [])) := fun jump W3 h3 => by
        have hl3 := h3.2.trans hl2
        have := run_endRound (P := Try.prog) jump hl3
        rw [hrc] at this ⊢
        rw [hrc] at hl3
        exact ⟨this, World.putObj_heap_same (Array.getElem?_eq_some_iff.1 hl3).1, (World.putObj_heap_other (by omega)).trans (h3.1.trans hk2)⟩
      rintro e a3 W3 hp
      cases e with
      | normal =>
        obtain ⟨h3, hi3⟩ := hp
        obtain ⟨hr3, hl4, hk4⟩ := fin none W3 h3
        exact ⟨_, _, hr3, .inl ⟨rfl, hIp _ _ _ _ (.inr rfl) hi3, hl4, hk4⟩⟩
      | ret =>
        obtain ⟨h3, hi3⟩ := hp
        obtain ⟨hr3, hl4, hk4⟩ := fin (some .ret) W3 h3
        exact ⟨_, _, hr3, .inr ⟨rfl, hXp _ _ _ _ (.inr rfl) hi3, hl4, hk4⟩⟩
      | exit id => exact hp.elim
      | goto t => exact hp.elim
      | panic ch => exact hp.elim
      | outgrown => exact hp.elim
    · rintro e W2 ⟨⟨v, rfl⟩, (⟨hi, hl, hk⟩ | ⟨pre, hpre, hi, hl, hk⟩)⟩
      · exact ⟨none, _, by have := run_endLoop (P := Try.prog) hl (by rw [hrc]; simp); rw [hrc] at this; exact this, hdone _ (hIp _ _ _ _ (.inr rfl) hi) ((World.putObj_heap_other (by omega)).trans hk)⟩
      · exact ⟨some .ret, _, by have := run_endLoop (P := Try.prog) hl (by rw [hrc]; simp); rw [hrc] at this; exact this, hstop pre _ hpre (hXp _ _ _ _ (.inr rfl) hi) ((World.putObj_heap_other (by omega)).trans hk)⟩
end Go.Proofs.Ytidkcdppdkfplaa

namespace Go.Proofs.Ytidkcdppdkfplaa
open Go.RowKit

theorem count_set : ∀ (l : List Bool) (i : Nat), l[i]? = some false → (l.set i true).count false + 1 = l.count false
  | [], i, h => by simp at h
  | b :: l, 0, h => by
    simp at h
    subst h
    simp
  | b :: l, i + 1, h => by
    have ih := count_set l i (by simpa using h)
    simp only [List.set_cons_succ, List.count_cons]
    omega

theorem getD_false {L : Array Bool} {i : Nat} (h : L.getD i true = false) : L.toList[i]? = some false := by
  rw [Array.getElem?_toList]
  cases hx : L[i]? with
  | none => rw [Array.getD_eq_getD_getElem?, hx] at h; simp at h
  | some b => rw [Array.getD_eq_getD_getElem?, hx] at h; simp at h; rw [h]

theorem wpAnyIn_inv {F : Fence} {n : Nat} {P : Program} {md : Region.Mode} {ops : Array Oper} {Q : Exit → Act → World → Prop} (Inv : Array Bool → Act → World → Prop)
    (hd : ∀ L a w, Inv L a w → Region.ready md ops L = [] → Q .normal a w)
    (hs : ∀ L a w i, Inv L a w → i ∈ Region.ready md ops L → wpOpIn F n P ops Q i (Inv (L.setIfInBounds i true)) a w) :
    ∀ (fuel : Nat) (L : Array Bool) (a : Act) (w : World), L.toList.count false ≤ fuel → Inv L a w → wpAnyIn F n P md ops Q fuel L a w
  | 0, L, a, w, hc, hi => by
    have hr : Region.ready md ops L = [] := by
      cases hr : Region.ready md ops L with
      | nil => rfl
      | cons i r =>
        exfalso
        have hm : i ∈ Region.ready md ops L := by rw [hr]; simp
        have h1 := getD_false (mem_ready.1 hm).1
        have h2 := count_set _ _ h1
        omega
    exact ⟨hr, hd L a w hi hr⟩
  | fuel + 1, L, a, w, hc, hi => ⟨hd L a w hi, fun i hi' => wpOpIn_mono (fun a' w' h => wpAnyIn_inv Inv hd hs fuel _ a' w' (by
      have h1 := count_set _ _ (getD_false (mem_ready.1 hi').1)
      rw [Array.toList_setIfInBounds]
      omega) h) (hs L a w i hi hi')⟩

theorem getD_repl (n j : Nat) : (Array.replicate n false).getD j false = false := by
  rw [Array.getD_eq_getD_getElem?, Array.getElem?_replicate]
  split <;> rfl
theorem getD_ft {L : Array Bool} {i : Nat} (h : L.getD i true = false) : L.getD i false = false := by
  rw [Array.getD_eq_getD_getElem?] at h ⊢
  cases hx : L[i]? with
  | none => rw [hx] at h; simp at h
  | some b => rw [hx] at h; simpa using h
theorem getD_tt {L : Array Bool} {i : Nat} (hi : i < L.size) (h : L.getD i true = true) : L.getD i false = true := by
  rw [Array.getD_eq_getD_getElem?, Array.getElem?_eq_getElem hi] at h ⊢
  simpa using h

/-- What a done operation waited for is done. -/
def ClosedB (ops : Array Oper) (L : Array Bool) : Prop := ∀ i o, ops[i]? = some o → L.getD i false = true → ∀ e ∈ o.after, Region.binds .any e = true → L.getD e.on false = true
def lexAll (ops : Array Oper) : Bool := (List.range ops.size).all fun i => match ops[i]? with
  | some o => o.after.all fun e => decide (e.on < i)
  | none => true

theorem wpIn_region_inv {F : Fence} {n : Nat} {P : Program} {id : Nat} {ops : Array Oper} {Q : Exit → Act → World → Prop} {a : Act} {w : World} (hm : P.follows .mixedOrders = true) (hlex : lexAll ops = true) (Inv : Array Bool → Act → World → Prop)
    (h0 : Inv (Array.replicate ops.size false) a w.drew)
    (hd : ∀ L a w, Inv L a w → (∀ i, i < ops.size → L.getD i false = true) → Q .normal a w)
    (hs : ∀ L a w i o, Inv L a w → ClosedB ops L → L.getD i true = false → ops[i]? = some o → (∀ e ∈ o.after, Region.binds .any e = true → L.getD e.on false = true) → wpOpIn F n P ops Q i (Inv (L.setIfInBounds i true)) a w) :
    (Code.region id ops true).wpIn F n P Q a w := by
  have hc0 : ClosedB ops (Array.replicate ops.size false) := fun i o _ h => by rw [getD_repl] at h; cases h
  refine wpIn_region_any hm (wpAnyIn_inv (fun L a w => Inv L a w ∧ ClosedB ops L ∧ L.size = ops.size) ?_ ?_ ops.size _ a _ (by simp) ⟨h0, hc0, by simp⟩)
  · rintro L a w ⟨hi, hc, hz⟩ hr
    refine hd L a w hi ?_
    have key : ∀ n i, i < n → i < ops.size → L.getD i false = true := by
      intro n
      induction n with
      | zero => intro i h; omega
      | succ n ih =>
        intro i h hlt
        refine getD_tt (by omega) ?_
        cases hb : L.getD i true with
        | true => rfl
        | false =>
          exfalso
          have : i ∈ Region.ready .any ops L := mem_ready.2 ⟨hb, ops[i], Array.getElem?_eq_getElem hlt, fun e he _ => by
            have hle : e.on < i := by
              have h1 := List.all_eq_true.1 hlex i (by simpa using hlt)
              rw [Array.getElem?_eq_getElem hlt] at h1
              simp only [Array.all_eq_true_iff_forall_mem, decide_eq_true_eq] at h1
              exact h1 e he
            exact ih e.on (by omega) (by omega)⟩
          rw [hr] at this
          cases this
    exact fun i hi => key (i + 1) i (by omega) hi
  · rintro L a w i ⟨hi, hc, hz⟩ hr
    obtain ⟨h1, o, h2, h3⟩ := mem_ready.1 hr
    refine wpOpIn_mono (fun a' w' h => ⟨h, fun j o' ho' hj e he hb => ?_, by simpa using hz⟩) (hs L a w i o hi hc h1 h2 h3)
    by_cases e' : j = i
    · subst e'
      rw [h2] at ho'
      cases ho'
      exact getD_set_true (h3 e he hb)
    · rw [getD_set_ne false (fun x => e' x.symm)] at hj
      exact getD_set_true (hc j o' ho' hj e he hb)

/-- What lies in the slots: those ahead of the region, and those of the operations that are done. -/
structure Sl (N d0 : Nat) (base tab : Nat → Option Value) (L : Array Bool) (a : Act) : Prop where
  sz : a.tmps.size = N
  bs : ∀ k v, base k = some v → k < d0 ∧ a.eval (.tmp k) = v
  sl : ∀ j v, tab j = some v → L.getD j false = true → a.eval (.tmp (d0 + j)) = v
theorem Sl.put {N d0 : Nat} {base tab : Nat → Option Value} {L : Array Bool} {a : Act} (h : Sl N d0 base tab L a) {i : Nat} {v : Value} (hi : d0 + i < N) (ht : ∀ u, tab i = some u → u = v) : Sl N d0 base tab (L.setIfInBounds i true) (a.put (some (d0 + i)) v) := by
  refine ⟨by simp [Act.put, h.sz], fun k u hk => ?_, fun j u hj hL => ?_⟩
  · obtain ⟨h1, h2⟩ := h.bs k u hk
    refine ⟨h1, ?_⟩
    rw [Act.eval_put (fun d hd => by cases hd; intro e; injection e with e; have e2 : k = d0 + i := e; omega)]
    exact h2
  · by_cases e : j = i
    · subst e
      rw [ht u hj]
      show ((a.tmps.setIfInBounds (d0 + j) v).getD (d0 + j) undef) = v
      rw [Array.getD_eq_getD_getElem?, Array.getElem?_setIfInBounds_self_of_lt (by rw [h.sz]; exact hi)]
      rfl
    · rw [getD_set_ne false (fun e' => e e'.symm)] at hL
      rw [Act.eval_put (fun d hd => by cases hd; intro e'; injection e' with e'; have e2 : d0 + j = d0 + i := e'; omega)]
      exact h.sl j u hj hL
end Go.Proofs.Ytidkcdppdkfplaa

namespace Go.Proofs.Ytidkcdppdkfplaa
open Go.RowKit

/-- The slots ds.i hold what the done operations gave; all others are as they were. -/
structure Sl2 (T0 : Array Value) (ds : List Nat) (tab : Nat → Option Value) (L : Array Bool) (a : Act) : Prop where
  sz : a.tmps.size = T0.size
  df : a.defers = []
  fr : ∀ k, k ∉ ds → a.tmps[k]? = T0[k]?
  sl : ∀ i (h : i < ds.length) v, tab i = some v → L.getD i false = true → a.eval (.tmp ds[i]) = v
theorem Sl2.put {T0 : Array Value} {ds : List Nat} {tab : Nat → Option Value} {L : Array Bool} {a : Act} (h : Sl2 T0 ds tab L a) (nd : ds.Nodup) {i : Nat} {v : Value} (hi : i < ds.length) (hd : ds[i] < T0.size) (ht : ∀ u, tab i = some u → u = v) : Sl2 T0 ds tab (L.setIfInBounds i true) (a.put (some ds[i]) v) := by
  refine ⟨by simp [Act.put, h.sz], h.df, fun k hk => ?_, fun j hj u hu hL => ?_⟩
  · have hne : ds[i] ≠ k := fun e => hk (e ▸ List.getElem_mem hi)
    show (a.tmps.setIfInBounds ds[i] v)[k]? = _
    rw [Array.getElem?_setIfInBounds_ne hne]
    exact h.fr k hk
  · by_cases e : j = i
    · subst e
      rw [ht u hu]
      show ((a.tmps.setIfInBounds ds[j] v).getD ds[j] undef) = v
      rw [Array.getD_eq_getD_getElem?, Array.getElem?_setIfInBounds_self_of_lt (by rw [h.sz]; exact hd)]
      rfl
    · rw [getD_set_ne false (fun e' => e e'.symm)] at hL
      rw [Act.eval_put (fun d hd' => by
        cases hd'
        intro e'
        injection e' with e'
        have e2 : ds[j] = ds[i] := e'
        rcases Nat.lt_trichotomy j i with h1 | h1 | h1
        · exact List.pairwise_iff_getElem.1 nd j i hj hi h1 e2
        · exact e h1
        · exact List.pairwise_iff_getElem.1 nd i j hi hj h1 e2.symm)]
      exact h.sl j hj u hu hL
theorem Sl2.skip {T0 : Array Value} {ds : List Nat} {tab : Nat → Option Value} {L : Array Bool} {a : Act} (h : Sl2 T0 ds tab L a) {i : Nat} (ht : tab i = none) : Sl2 T0 ds tab (L.setIfInBounds i true) a :=
  ⟨h.sz, h.df, h.fr, fun j hj u hu hL => by
    by_cases e : j = i
    · subst e; rw [ht] at hu; cases hu
    · rw [getD_set_ne false (fun e' => e e'.symm)] at hL
      exact h.sl j hj u hu hL⟩
theorem Sl2.start {T0 : Array Value} {ds : List Nat} {tab : Nat → Option Value} (n : Nat) : Sl2 T0 ds tab (Array.replicate n false) { tmps := T0, defers := [] } :=
  ⟨rfl, rfl, fun _ _ => rfl, fun i _ v _ hL => by rw [getD_repl] at hL; cases hL⟩
theorem Sl2.old {T0 : Array Value} {ds : List Nat} {tab : Nat → Option Value} {L : Array Bool} {a : Act} (h : Sl2 T0 ds tab L a) {k : Nat} (hk : ds.contains k = false) : a.tmps[k]?.getD undef = T0[k]?.getD undef := by
  rw [h.fr k (fun hm => by rw [List.contains_iff_mem.2 hm] at hk; cases hk)]
theorem Sl2.new {T0 : Array Value} {ds : List Nat} {tab : Nat → Option Value} {L : Array Bool} {a : Act} (h : Sl2 T0 ds tab L a) {i : Nat} {v : Value} (hi : i < ds.length) (ht : tab i = some v) (hL : L.getD i false = true) : a.tmps[ds[i]]?.getD undef = v := by
  rw [← Array.getD_eq_getD_getElem?]
  exact h.sl i hi v ht hL

/-- The frame behind the region, written out. -/
def updL (ds : List Nat) (u : Nat → Value) : Nat → List Value → List Value
  | _, [] => []
  | k, e :: l => (bif ds.contains k then u k else e) :: updL ds u (k + 1) l
theorem updL_len (ds : List Nat) (u : Nat → Value) : ∀ (l : List Value) (k : Nat), (updL ds u k l).length = l.length
  | [], _ => rfl
  | _ :: l, k => by simp [updL, updL_len ds u l (k + 1)]
theorem updL_at (ds : List Nat) (u : Nat → Value) : ∀ (l : List Value) (k i : Nat), (updL ds u k l)[i]? = (l[i]?).map fun e => bif ds.contains (k + i) then u (k + i) else e
  | [], _, i => by simp [updL]
  | e :: l, k, 0 => by simp [updL]
  | e :: l, k, i + 1 => by
    simp only [updL, List.getElem?_cons_succ]
    rw [updL_at ds u l (k + 1) i]
    rw [show k + 1 + i = k + (i + 1) by omega]
theorem Sl2.act {l : List Value} {ds : List Nat} {tab : Nat → Option Value} {L : Array Bool} {a : Act} (h : Sl2 l.toArray ds tab L a) : a = { tmps := (updL ds (fun k => a.tmps.getD k undef) 0 l).toArray, defers := [] } := by
  obtain ⟨t, d⟩ := a
  have hd : d = [] := h.df
  subst hd
  congr 1
  refine Array.ext' ?_
  refine List.ext_getElem? fun i => ?_
  rw [updL_at, Nat.zero_add]
  have hsz : t.size = l.length := by simpa using h.sz
  by_cases hi : i < l.length
  · rw [List.getElem?_eq_getElem hi]
    have hit : i < t.size := by omega
    cases hc : ds.contains i with
    | true =>
      simp only [Option.map_some, cond_true]
      rw [Array.getElem?_toList, Array.getElem?_eq_getElem hit]
      congr 1
      rw [Array.getD_eq_getD_getElem?, Array.getElem?_eq_getElem hit]
      rfl
    | false =>
      simp only [Option.map_some, cond_false]
      have h1 := h.fr i (fun hm => by rw [List.contains_iff_mem.2 hm] at hc; cases hc)
      have h2 : t[i]? = l.toArray[i]? := h1
      rw [Array.getElem?_toList, h2]
      simp [hi]
  · have h1 : t.toList[i]? = none := by rw [Array.getElem?_toList]; exact Array.getElem?_eq_none (by omega)
    rw [h1, List.getElem?_eq_none (by omega)]
    rfl
theorem evalD2 {a : Act} {k : Nat} {v : Value} (h : a.eval (.tmp k) = v) : a.tmps[k]?.getD undef = v := by
  rw [← Array.getD_eq_getD_getElem?]; exact h
/-- As lexAll, of the edges that bind. -/
def lexB2 (ops : Array Oper) : Bool := (List.range ops.size).all fun i => match ops[i]? with
  | some o => o.after.all fun e => !Region.binds .any e || decide (e.on < i)
  | none => true
theorem wpIn_region_inv0 {F : Fence} {n : Nat} {P : Program} {id : Nat} {ops : Array Oper} {Q : Exit → Act → World → Prop} {T0 : Array Value} {w : World} (hm : P.follows .mixedOrders = true) (hlex : lexB2 ops = true) (Inv : Array Value → Array Bool → Act → World → Prop)
    (h0 : Inv T0 (Array.replicate ops.size false) { tmps := T0, defers := [] } w.drew)
    (hd : ∀ L a w, Inv T0 L a w → (∀ i, i < ops.size → L.getD i false = true) → Q .normal a w)
    (hs : ∀ L a w i o, Inv T0 L a w → ClosedB ops L → L.getD i true = false → ops[i]? = some o → (∀ e ∈ o.after, Region.binds .any e = true → L.getD e.on false = true) → wpOpIn F n P ops Q i (Inv T0 (L.setIfInBounds i true)) a w) :
    (Code.region id ops true).wpIn F n P Q { tmps := T0, defers := [] } w := by
  have hc0 : ClosedB ops (Array.replicate ops.size false) := fun i o _ h => by rw [getD_repl] at h; cases h
  refine wpIn_region_any hm (wpAnyIn_inv (fun L a w => Inv T0 L a w ∧ ClosedB ops L ∧ L.size = ops.size) ?_ ?_ ops.size _ _ _ (by simp) ⟨h0, hc0, by simp⟩)
  · rintro L a w ⟨hi, hc, hz⟩ hr
    refine hd L a w hi ?_
    have key : ∀ n i, i < n → i < ops.size → L.getD i false = true := by
      intro n
      induction n with
      | zero => intro i h; omega
      | succ n ih =>
        intro i h hlt
        refine getD_tt (by omega) ?_
        cases hb : L.getD i true with
        | true => rfl
        | false =>
          exfalso
          have : i ∈ Region.ready .any ops L := mem_ready.2 ⟨hb, ops[i], Array.getElem?_eq_getElem hlt, fun e he hbd => by
            have hle : e.on < i := by
              have h1 := List.all_eq_true.1 hlex i (by simpa using hlt)
              rw [Array.getElem?_eq_getElem hlt] at h1
              simp only [Array.all_eq_true_iff_forall_mem, Bool.or_eq_true, Bool.not_eq_true', decide_eq_true_eq] at h1
              rcases h1 e he with h2 | h2
              · rw [hbd] at h2; cases h2
              · exact h2
            exact ih e.on (by omega) (by omega)⟩
          rw [hr] at this
          cases this
    exact fun i hi => key (i + 1) i (by omega) hi
  · rintro L a w i ⟨hi, hc, hz⟩ hr
    obtain ⟨h1, o, h2, h3⟩ := mem_ready.1 hr
    refine wpOpIn_mono (fun a' w' h => ⟨h, fun j o' ho' hj e he hb => ?_, by simpa using hz⟩) (hs L a w i o hi hc h1 h2 h3)
    by_cases e' : j = i
    · subst e'
      rw [h2] at ho'
      cases ho'
      exact getD_set_true (h3 e he hb)
    · rw [getD_set_ne false (fun x => e' x.symm)] at hj
      exact getD_set_true (hc j o' ho' hj e he hb)
end Go.Proofs.Ytidkcdppdkfplaa
