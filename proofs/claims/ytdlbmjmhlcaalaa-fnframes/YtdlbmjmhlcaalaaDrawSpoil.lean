/-
  spec.l3Spoil.
-/
import Derived.Test.YtdlbmjmhlcaalaaDrawDec
import Derived.Deep.RegionLaw
namespace Go.Proofs.Ytdlbmjmhlcaalaa
open Go.RowKit

/-- All blocks but the reader's and one row's stay. -/
structure G2 (w w' : World) (g : Nat) (row : Option Nat) : Prop where
  os : w'.os = w.os
  tape : w'.tape = w.tape
  output : w'.output = w.output
  size : w.heap.size ≤ w'.heap.size
  block : ∀ k, k < w.heap.size → k ≠ g → some k ≠ row → w'.heap[k]? = w.heap[k]?
theorem G2.step {w w1 w2 : World} {g : Nat} {row r2 : Option Nat} (h : G2 w w1 g row) (k : w1.grownBy w2 r2) (hr : ∀ j, r2 = some j → j = g ∨ some j = row ∨ w.heap.size ≤ j) : G2 w w2 g row :=
  ⟨k.os.trans h.os, k.tape.trans h.tape, k.output.trans h.output, Nat.le_trans h.size k.size, fun i hi hg hne => (k.block i (Nat.lt_of_lt_of_le hi h.size) (fun e => by rcases hr i e.symm with h1 | h1 | h1; exact hg h1; exact hne h1; omega)).trans (h.block i hi hg hne)⟩

structure SP (w W : World) (g : Nat) (a : Option Addr) (cap : Nat) (zs : List Int) (p B : Nat) (row : Option Nat) (m : Int) (rest : ByteArray) (sl : Value) (bad : Bool) (ss : List ByteArray) : Prop where
  rd : Rd W g a cap zs p
  keep : G2 w W g row
  f2 : Fed W (w.heap.size + 1) 0 ⟨#[]⟩ (.slice none 0 0) false
  f3 : Fed W w.heap.size m rest sl bad
  own : W.ownsRow B 9 1 sl ss.length (ss.map .string)
  rows : ∀ k, sl.ownBlock = some k → (some k = row ∧ k < w.heap.size) ∨ w.heap.size + 2 ≤ k
  glt : g < B
  hB : B ≤ w.heap.size
  size : w.heap.size + 2 ≤ W.heap.size

section
variable {w W W' : World} {g : Nat} {a : Option Addr} {cap : Nat} {zs : List Int} {p p' B : Nat} {row : Option Nat} {m m' : Int} {rest rest' : ByteArray} {sl sl' : Value} {bad bad' : Bool} {ss ss' : List ByteArray}
theorem SP.below (h : SP w W g a cap zs p B row m rest sl bad ss) (hb : Below W.heap.size W W') : SP w W' g a cap zs p B row m rest sl bad ss :=
  ⟨h.rd.below hb, h.keep.step (r2 := none) (gr_below hb) (fun j hj => by cases hj), h.f2.later hb, h.f3.later hb, owns_below h.own hb, h.rows, h.glt, h.hB, Nat.le_trans h.size hb.size⟩
theorem SP.pick (h : SP w W g a cap zs p B row m rest sl bad ss) (hg : W.grownBy W' (some g)) (hR : Rd W' g a cap zs p') : SP w W' g a cap zs p' B row m rest sl bad ss := by
  have h1 := h.glt; have h2 := h.hB
  exact ⟨hR, h.keep.step hg (fun j hj => by cases hj; exact .inl rfl), h.f2.grown' hg (by omega), h.f3.grown' hg (by omega), owns_rd h.own hg h1, h.rows, h1, h2, Nat.le_trans h.size hg.size⟩
theorem SP.set (h : SP w W g a cap zs p B row m rest sl bad ss) (i : Nat) (v : Value) (hf : Fed (W.setCell ⟨w.heap.size, i, none⟩ v) w.heap.size m' rest' sl bad') : SP w (W.setCell ⟨w.heap.size, i, none⟩ v) g a cap zs p B row m' rest' sl bad' ss := by
  have h1 := h.glt; have h2 := h.hB
  refine ⟨h.rd.kept (grown_set W _ i v) (fun k hk => by cases hk; omega), h.keep.step (grown_set W _ i v) (fun j hj => by cases hj; exact .inr (.inr (Nat.le_refl _))), h.f2.other (by omega), hf, owns_set h.own (fun e => by rcases h.rows _ e.symm with h | h <;> omega), h.rows, h1, h2, by simpa using h.size⟩
theorem SP.app {g' cp' : Nat} (h : SP w W g a cap zs p B row m rest sl bad ss) (hg : W.grownBy W' sl.ownBlock) (ho : W'.ownsRow B 9 1 (.slice (some ⟨g', 0, none⟩) ss'.length cp') ss'.length (ss'.map .string)) (hat : sl.ownBlock = some g' ∨ w.heap.size + 2 ≤ g') : SP w (W'.setCell ⟨w.heap.size, 2, none⟩ (.slice (some ⟨g', 0, none⟩) ss'.length cp')) g a cap zs p B row m rest (.slice (some ⟨g', 0, none⟩) ss'.length cp') bad ss' := by
  have h1 := h.glt; have h2 := h.hB
  have hrow : (some g' = row ∧ g' < w.heap.size) ∨ w.heap.size + 2 ≤ g' := by
    rcases hat with h' | h'
    · exact h.rows g' h'
    · exact .inr h'
  have hf3 := h.f3.grown hg (fun e => by rcases h.rows _ e.symm with h | h <;> omega)
  have hf2 := h.f2.grown hg (fun e => by rcases h.rows _ e.symm with h | h <;> omega)
  have hR := h.rd.kept hg (fun k hk => by have := owns_row_ge h.own hk; omega)
  have hK := h.keep.step hg (fun j hj => by rcases h.rows j hj with h | h; exact .inr (.inl h.1); exact .inr (.inr (by omega)))
  refine ⟨hR.kept (grown_set W' _ 2 _) (fun k hk => by cases hk; omega), hK.step (grown_set W' _ 2 _) (fun j hj => by cases hj; exact .inr (.inr (Nat.le_refl _))), hf2.other (by omega), hf3.set2, owns_set ho (fun e => by have e' : w.heap.size = g' := (by simpa [Value.ownBlock] using e); rcases hrow with h | h <;> omega), ?_, h1, h2, ?_⟩
  · intro k hk
    have e' : g' = k := by simpa [Value.ownBlock] using hk
    subst e'
    exact hrow
  · have := hg.size; have := h.size; simp; omega
theorem SP.ends (h : SP w W g a cap zs p B row m rest sl bad ss) :
    Fed ((((W.setCell ⟨w.heap.size + 1, 0, none⟩ (.int .i64 m)).setCell ⟨w.heap.size + 1, 1, none⟩ (.string rest)).setCell ⟨w.heap.size + 1, 2, none⟩ sl).setCell ⟨w.heap.size + 1, 3, none⟩ (.bool bad)) (w.heap.size + 1) m rest sl bad ∧
    ((((W.setCell ⟨w.heap.size + 1, 0, none⟩ (.int .i64 m)).setCell ⟨w.heap.size + 1, 1, none⟩ (.string rest)).setCell ⟨w.heap.size + 1, 2, none⟩ sl).setCell ⟨w.heap.size + 1, 3, none⟩ (.bool bad)).ownsRow B 9 1 sl ss.length (ss.map .string) ∧
    Rd ((((W.setCell ⟨w.heap.size + 1, 0, none⟩ (.int .i64 m)).setCell ⟨w.heap.size + 1, 1, none⟩ (.string rest)).setCell ⟨w.heap.size + 1, 2, none⟩ sl).setCell ⟨w.heap.size + 1, 3, none⟩ (.bool bad)) g a cap zs p ∧
    G2 w ((((W.setCell ⟨w.heap.size + 1, 0, none⟩ (.int .i64 m)).setCell ⟨w.heap.size + 1, 1, none⟩ (.string rest)).setCell ⟨w.heap.size + 1, 2, none⟩ sl).setCell ⟨w.heap.size + 1, 3, none⟩ (.bool bad)) g row := by
  have h1 := h.glt; have h2 := h.hB
  have hap : some (w.heap.size + 1) ≠ sl.ownBlock := fun e => by rcases h.rows _ e.symm with h | h <;> omega
  have hk : ∀ k, some (w.heap.size + 1) = some k → g < k := fun k hk => by cases hk; omega
  have hj : ∀ j, some (w.heap.size + 1) = some j → j = g ∨ some j = row ∨ w.heap.size ≤ j := fun j hj => by cases hj; exact .inr (.inr (Nat.le_succ _))
  exact ⟨h.f2.set0.set1.set2.set3, owns_set (owns_set (owns_set (owns_set h.own hap) hap) hap) hap, (((h.rd.kept (grown_set _ _ _ _) hk).kept (grown_set _ _ _ _) hk).kept (grown_set _ _ _ _) hk).kept (grown_set _ _ _ _) hk, (((h.keep.step (grown_set _ _ _ _) hj).step (grown_set _ _ _ _) hj).step (grown_set _ _ _ _) hj).step (grown_set _ _ _ _) hj⟩
end

/-- A call of a Go function of two arguments, at a step of a region that draws its order. -/
theorem step_fn2 {ops : Array Oper} {o : Oper} {a : Act} {K : Act → World → Prop} {Q : Exit → Act → World → Prop} {E : Prop} {w : World} (hgd : o.guard = none) (f : FuncId) (x y : Operand) (t1 t2 : TypeId) (ho : o.op = .call { callee := .value (.func f), args := #[x, y], argTypes := #[t1, t2] })
    (v u : Value) (hx : a.eval x = v) (hy : a.eval y = u) (hf : ∀ w, (callFunc f #[v, u]).run Try.prog w = .ok (.enter f #[v, u]) w) {P2 : Ending → World → Prop} (hc : Calls Try.prog f #[v, u] w P2)
    (hK : ∀ e w', P2 e w' → ∃ r, e = .returned r ∧ K (a.put o.dst r) w') :
    if Region.wanted o (yielded ops a.tmps) = true then Oper.wp Try.prog o a w K Q else E := by
  rw [if_pos (by simp [Region.wanted, hgd])]
  have he : a.eval (.func f) = .func (.func f) #[] #[] := rfl
  have hr : (execOp a.eval o).run Try.prog w = .ok (.enter f #[v, u]) w := by
    unfold execOp
    simp only [ho, resolve, Deferred.ofValue, invoke, Sem.run_bind, Sem.run_pure, Result.andThen_ok, List.map_toArray, List.map_cons, List.map_nil, hx, hy, he]
    exact hf w
  unfold Oper.wp
  rw [hr, Oper.upon_enter]
  refine hc.mono ?_
  intro e w' h2
  obtain ⟨r, rfl, hk⟩ := hK e w' h2
  exact hk

def SpoilPost (g : Nat) (a : Option Addr) (cap : Nat) (zs : List Int) (p B : Nat) (row : Option Nat) (w : World) (e : Ending) (w' : World) : Prop :=
  ∃ m rest ad cp ss bad, e = .returned (decV m rest (.slice ad (List.length ss) cp) bad) ∧ w'.ownsRow B 9 1 (.slice ad ss.length cp) ss.length (ss.map .string) ∧ Small rest ss ∧ (∃ p', p' ≤ p + 1000 ∧ Rd w' g a cap zs p') ∧ G2 w w' g row
end Go.Proofs.Ytdlbmjmhlcaalaa
