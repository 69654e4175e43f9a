/-
  Steps of regions that draw their order; slices of atoms that are cut.
-/
import Derived.Test.YtamaioeikcjhoaaDoorDvP
import Derived.Deep.RegionLaw
namespace Go.Proofs.YtamaioeikcjhoaaDoor
open Go.RowKit

theorem step_fn2V {ops : Array Oper} {o : Oper} {a : Act} {K : Act → World → Prop} {Q : Exit → Act → World → Prop} {E : Prop} {w : World} (hgd : o.guard = none) (f : FuncId) (x y : Operand) (t1 t2 : TypeId) (ho : o.op = .call { callee := .value (.func f), args := #[x, y], argTypes := #[t1, t2] })
    (v u : Value) (hx : a.eval x = v) (hy : a.eval y = u) (hf : ∀ w, (callFunc f #[v, u]).run Tryd.prog w = .ok (.enter f #[v, u]) w) {P2 : Ending → World → Prop} (hc : Calls Tryd.prog f #[v, u] w P2)
    (hK : ∀ e w', P2 e w' → ∃ r, e = .returned r ∧ K (a.put o.dst r) w') :
    if Region.wanted o (yielded ops a.tmps) = true then Oper.wp Tryd.prog o a w K Q else E := by
  rw [if_pos (by simp [Region.wanted, hgd])]
  have he : a.eval (.func f) = .func (.func f) #[] #[] := rfl
  have hr : (execOp a.eval o).run Tryd.prog w = .ok (.enter f #[v, u]) w := by
    unfold execOp
    simp only [ho, resolve, Deferred.ofValue, invoke, Sem.run_bind, Sem.run_pure, Result.andThen_ok, List.map_toArray, List.map_cons, List.map_nil, hx, hy, he]
    exact hf w
  unfold Oper.wp
  rw [hr, Oper.upon_enter]
  refine hc.mono ?_
  intro e w' h2
  obtain ⟨r, rfl, hk⟩ := hK e w' h2
  exact hk
theorem step_append_runV {ops : Array Oper} {o : Oper} {a : Act} {K : Act → World → Prop} {Q : Exit → Act → World → Prop} {E : Prop} {w : World} (hgd : o.guard = none) (s x : Operand) (t : TypeId) (ho : o.op = .call { callee := .builtin .append, args := #[s, x], argTypes := #[t, t] })
    (v u : Value) (hs : a.eval s = v) (hx : a.eval x = u) (R : Value → World → Prop) (hr : ∀ ty, ∃ v' w', (Builtin.append_ #[t, t] ty #[v, u]).run Tryd.prog w = .ok v' w' ∧ R v' w') (h : ∀ v' w', R v' w' → K (a.put o.dst v') w') :
    if Region.wanted o (yielded ops a.tmps) = true then Oper.wp Tryd.prog o a w K Q else E := by
  rw [if_pos (by simp [Region.wanted, hgd])]
  obtain ⟨v', w', hr, h2⟩ := hr o.type
  unfold Oper.wp execOp
  simp only [ho, resolve, invoke, builtin, Sem.run_bind, Sem.run_pure, Result.andThen_ok, List.map_toArray, List.map_cons, List.map_nil, hs, hx, hr]
  exact h v' w' h2

theorem acells_drop : ∀ (ts : List At) (k : Nat), (acells ts).drop (k * 4) = acells (ts.drop k)
  | [], k => by simp [acells]
  | a :: ts, 0 => by simp
  | a :: ts, k + 1 => by
    have ih := acells_drop ts k
    have e : acells (a :: ts) = a.cells ++ acells ts := by simp [acells]
    rw [e, show (k + 1) * 4 = a.cells.length + k * 4 by simp [At.cells]; omega, List.drop_append, List.drop_succ_cons, List.drop_of_length_le (by omega), List.nil_append, show a.cells.length + k * 4 - a.cells.length = k * 4 by omega]
    exact ih
theorem acells_take : ∀ (ts : List At) (k : Nat), (acells ts).take (k * 4) = acells (ts.take k)
  | [], k => by simp [acells]
  | a :: ts, 0 => by simp [acells]
  | a :: ts, k + 1 => by
    have ih := acells_take ts k
    have e : acells (a :: ts) = a.cells ++ acells ts := by simp [acells]
    have e2 : acells ((a :: ts).take (k + 1)) = a.cells ++ acells (ts.take k) := by simp [acells]
    rw [e, e2, show (k + 1) * 4 = a.cells.length + k * 4 by simp [At.cells]; omega, List.take_append, List.take_of_length_le (by omega), show a.cells.length + k * 4 - a.cells.length = k * 4 by omega, ih]
theorem row_cutA {w : World} {B g n k cap : Nat} {e : TypeId} {ts : List At} (h : w.ownsRow B e 4 (.slice (some ⟨g, 0, none⟩) n cap) n (acells ts)) (hk : k ≤ n) : w.ownsRow B e 4 (.slice (some ⟨g, 0, none⟩) k cap) k (acells (ts.take k)) := by
  have hl := h.1
  rcases h.2 with ⟨h0, _⟩ | ⟨g', cap', cur, hv, hB, hg, h1, h2, h3, h4⟩
  · cases h0
  · cases hv
    refine ⟨?_, .inr ⟨g, cap, cur, rfl, hB, hg, by omega, h2, h3, ?_⟩⟩
    · rw [← acells_take, List.length_take]; omega
    · rw [← acells_take, ← h4, List.take_take, Nat.min_eq_left (by omega)]
set_option maxRecDepth 100000 in
theorem cut_loA (gb cp n k : Nat) (hk : k ≤ cp) (hc : 0 < cp) (w1 : World) : (Instr.sliceAt 22 (.slice (some ⟨gb, 0, none⟩) n cp) none (some (.int .i64 (k : Int))) none).run Tryd.prog w1 = .ok (.slice (some ⟨gb, 0, none⟩) k cp) w1 := by
  rw [run_sliceAt_slice w1 _ _ _ _ _ Tryd.underlying22, run_slice_h w1 _ _ _ _ Tryd.underlying22 .i64 (k : Int) (by omega) (by omega)]
  have hz : (sizeOf (Tryd.prog.elem 22)).run Tryd.prog w1 = .ok 4 w1 := by kernel_rfl
  rw [hz, show (k : Int).toNat = k by omega]
  show Result.ok (sliced (some ⟨gb, 0, none⟩) 0 k cp 4) w1 = _
  unfold sliced
  rw [if_neg (by omega)]
  rfl
set_option maxRecDepth 100000 in
theorem cut_hiA (gb cp : Nat) (ts : List At) (k : Nat) (hk : k < ts.length) (hc : ts.length ≤ cp) : ∃ adB nB cB, RKeep (nB = (ts.drop (k + 1)).length) ∧ (∀ w1, (Instr.sliceAt 22 (.slice (some ⟨gb, 0, none⟩) ts.length cp) (some (.int .i64 ((k : Int) + 1))) none none).run Tryd.prog w1 = .ok (.slice (some adB) nB cB) w1) ∧ ∀ (B : Nat) (e : TypeId) (W : World), W.ownsRow B e 4 (.slice (some ⟨gb, 0, none⟩) ts.length cp) ts.length (acells ts) → ∀ j u, (acells (ts.drop (k + 1)))[j]? = some u → W.cell? (adB.add j) = some u := by
  have hrun : ∀ w1, (Instr.sliceAt 22 (.slice (some ⟨gb, 0, none⟩) ts.length cp) (some (.int .i64 ((k : Int) + 1))) none none).run Tryd.prog w1 = .ok (sliced (some ⟨gb, 0, none⟩) (k + 1) ts.length cp 4) w1 := fun w1 => by
    rw [run_sliceAt_slice w1 _ _ _ _ _ Tryd.underlying22, run_slice_l w1 _ _ _ _ Tryd.underlying22 .i64 ((k : Int) + 1) (by omega) (by omega)]
    have hz : (sizeOf (Tryd.prog.elem 22)).run Tryd.prog w1 = .ok 4 w1 := by kernel_rfl
    rw [hz, show ((k : Int) + 1).toNat = k + 1 by omega]
    rfl
  by_cases hcp : cp = k + 1
  · refine ⟨⟨gb, 0, none⟩, ts.length - (k + 1), cp - (k + 1), ⟨by rw [List.length_drop]⟩, fun w1 => ?_, fun B e W _ j u hu => ?_⟩
    · rw [hrun w1]
      unfold sliced
      rw [if_pos hcp]
    · have hn : ts.drop (k + 1) = [] := List.drop_of_length_le (by omega)
      rw [hn] at hu
      simp [acells] at hu
  · refine ⟨⟨gb, (k + 1) * 4, none⟩, ts.length - (k + 1), cp - (k + 1), ⟨by rw [List.length_drop]⟩, fun w1 => ?_, fun B e W hE j u hu => ?_⟩
    · rw [hrun w1]
      unfold sliced
      rw [if_neg hcp]
      simp [Addr.add]
    · rw [← acells_drop, List.getElem?_drop] at hu
      rw [Go.WideShapes.add_plain]
      have hl : (k + 1) * 4 + j < (acells ts).length := by
        rcases Nat.lt_or_ge ((k + 1) * 4 + j) (acells ts).length with h' | h'
        · exact h'
        · rw [List.getElem?_eq_none h'] at hu; cases hu
      rw [hE.cellAt _ (by rw [← hE.1]; exact hl)]
      exact hu
end Go.Proofs.YtamaioeikcjhoaaDoor
