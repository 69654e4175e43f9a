/-
  impl.Lines: a loop over the lines of a text.
-/
import Derived.RangeFuncBox
import Derived.Maps.AppendAt
import Derived.Test.YtobgfogafkeieaaLinesIt
import Derived.Test.YtobgfogafkeieaaLinesB
import Derived.Test.YtobgfogafkeieaaBase
import Derived.Test.YtobgfogafkeieaaStrsB
import Derived.Test.YtobgfogafkeieaaClone
namespace Go.Proofs.Ytobgfogafkeieaa
open Go.RowKit Go.Shelf

attribute [local go_sem] Oper.semAt_some

/-- How the body of a round is left: it goes on; the loop's two blocks and the iterator's box are kept. -/
def lnPost (B Bs : Nat) (I : List ByteArray → World → Prop) (xs : List ByteArray) (W : World) : Exit → Act → World → Prop
  | .normal, _, W' => (W'.heap[B]? = W.heap[B]? ∧ W'.heap[B + 1]? = W.heap[B + 1]? ∧ W'.heap[Bs]? = W.heap[Bs]?) ∧ I xs W'
  | .ret, _, _ => False
  | .exit _, _, _ => False
  | .goto _, _, _ => False
  | .panic _, _, _ => False
  | .outgrown, _, _ => False

theorem range_lines {g : Operand} {ps : Array Tmp} {assign body : Code} {Q : Exit → Act → World → Prop} {a : Act} {w : World} {n : Nat} (h1 : 1 ≤ n)
    (Bs : Nat) (s : ByteArray) (hs : s.size ≤ 1099511627776) (hlt : Bs < w.heap.size) (hBs : w.cell? ⟨Bs, 0, none⟩ = some (.string s)) (hBf : w.frozen? ⟨Bs, 0, none⟩ = false)
    (hg : a.eval g = .func (.func 33) #[] #[.pointer (some ⟨Bs, 0, none⟩)]) (hps : ps.size = 1)
    (I : List ByteArray → World → Prop) (hIa : ∀ pre W o, I pre W → I pre (W.alloc o)) (hId : ∀ pre W, I pre W → I pre (W.drew)) (hIs : ∀ pre W v, I pre W → I pre (W.setCell ⟨Bs, 0, none⟩ v))
    (hIp : ∀ pre W l o, (l = w.heap.size ∨ l = w.heap.size + 1) → I pre W → I pre (W.putObj l o))
    (h0 : I [] w) (a₁ : ByteArray → Act)
    (hassign : ∀ (l : Nat) (x : ByteArray) (W : World) (K : Act → World → Prop), K (a₁ x) W →
      assign.wpIn (Fence.wide.inRound l) (n - 1 - 1) Try.prog (Exit.then K (fun _ _ _ => False)) { tmps := (ps.zip #[.string x]).foldl (fun t (p, v) => t.setIfInBounds p v) a.tmps, defers := [] } W)
    (hbody : ∀ (l : Nat) (pre : List ByteArray) (x : ByteArray) (W : World), I pre W → (∃ r, linesB s = pre ++ [x] ++ r) → w.heap.size + 1 < W.heap.size → body.wpIn (Fence.wide.inRound l) (n - 1 - 1) Try.prog (lnPost w.heap.size Bs I (pre ++ [x]) W) (a₁ x) W)
    (hdone : ∀ (W : World), I (linesB s) W → W.heap[w.heap.size]? = some (.deferred (some [])) → Q .normal { a with defers := { target := .collected w.heap.size, args := #[] } :: a.defers } W) :
    (Code.rangeFunc g ps assign body).wpIn Fence.wide n Try.prog Q a w := by
  refine wpIn_rangeFunc ?_
  intro fn hfn
  rw [show Fence.wide.round = none from rfl]
  have heg : ∀ args w, (callFunc 33 args).run Try.prog w = .ok (.enter 33 args) w := enters_of Try.func33 (by kernel_rfl) rfl
  obtain ⟨rc, hrc⟩ : ∃ rc : LoopState → Option Code → Loop, rc = fun st pe => { state := st, pending := pe, fn, tmps := a.tmps, params := ps, assign, body, defers := w.heap.size } := ⟨_, rfl⟩
  obtain ⟨W1, hW1⟩ : ∃ W1, (w.alloc (.deferred (some []))).alloc (.loop (rc .ready none)) = W1 := ⟨_, rfl⟩
  have hL1 : W1.heap[w.heap.size + 1]? = some (.loop (rc .ready none)) := by
    rw [← hW1]
    have := World.alloc_heap_new (w.alloc (.deferred (some []))) (.loop (rc .ready none))
    rwa [World.size_alloc] at this
  have hK1 : W1.heap[w.heap.size]? = some (.deferred (some [])) := by
    rw [← hW1]; exact (Below.heap_alloc _ _ _ (by simp)).trans (World.alloc_heap_new w _)
  have hI1 : I [] W1 := by rw [← hW1]; exact hIa _ _ _ (hIa _ _ _ h0)
  have hb1 : Below w.heap.size w W1 := by rw [← hW1]; exact ((Below.refl _ w).alloc (Nat.le_refl _) _).alloc (by simp) _
  have hB1 : W1.heap[Bs]? = w.heap[Bs]? := hb1.block Bs hlt
  refine ⟨w.heap.size + 1, [{ target := .collected w.heap.size, args := #[] }], W1, { target := .fn (.func 33) #[.pointer (some ⟨Bs, 0, none⟩)], args := #[.func (.yield (w.heap.size + 1)) #[] #[]] }, W1, 33,
    #[.func (.yield (w.heap.size + 1)) #[] #[]] ++ #[.pointer (some ⟨Bs, 0, none⟩)], W1, ?_, ?_, ?_, ?_, fun _ => h1, ?_⟩
  · rw [← hW1, hrc]; exact run_enterLoop_outer _ _ _ _ _
  · simp only [resolve, hg]
    simp [go_sem]
  · intro f' hf'; trivial
  · simp [invoke, go_sem, heg]
  · refine (lines1_in (n - 1) (w.heap.size + 1) Bs s hs
      (fun pre W => I pre W ∧ W.heap[w.heap.size + 1]? = some (.loop (rc .ready none)) ∧ W.heap[w.heap.size]? = some (.deferred (some [])))
      W1 (fun pre W hJ => ⟨hId _ _ hJ.1, hJ.2.1, hJ.2.2⟩)
      (fun pre W v hJ => ⟨hIs _ _ _ hJ.1, (Below.heap_setCell W ⟨Bs, 0, none⟩ v _ (by simp; omega)).trans hJ.2.1, (Below.heap_setCell W ⟨Bs, 0, none⟩ v _ (by simp; omega)).trans hJ.2.2⟩)
      ?_ ((hb1.cell (p := ⟨Bs, 0, none⟩) hlt).trans hBs) ((frozen_block hB1).trans hBf) ⟨hI1, hL1, hK1⟩).mono ?_
    · rintro pre x W ⟨hi, hl, hk⟩ hr
      have hlt1 : w.heap.size + 1 < W.heap.size := (Array.getElem?_eq_some_iff.1 hl).1
      have hy := run_yield (P := Try.prog) (args := #[.string x]) hl (by rw [hrc]; exact hps.symm)
      rw [hrc] at hy
      refine ⟨fn, _, assign, body, hy, roundIn_of_wpIn hfn (hassign _ x W _ ⟨_, run_beginRound hl (by rw [hrc]), ?_⟩)⟩
      have hl2 : (W.putObj (w.heap.size + 1) (.loop { rc .ready none with state := .busy })).heap[w.heap.size + 1]? = some (.loop { rc .ready none with state := .busy }) := World.putObj_heap_same hlt1
      have hk2 : (W.putObj (w.heap.size + 1) (.loop { rc .ready none with state := .busy })).heap[w.heap.size]? = some (.deferred (some [])) := (World.putObj_heap_other (by omega)).trans hk
      have hb2 : (W.putObj (w.heap.size + 1) (.loop { rc .ready none with state := .busy })).heap[Bs]? = W.heap[Bs]? := World.putObj_heap_other (by omega)
      refine wpIn_mono (hbody _ pre x _ (hIp _ _ _ _ (.inr rfl) hi) hr (by simpa using hlt1)) ?_
      rintro e a3 W3 hp
      cases e with
      | normal =>
        obtain ⟨⟨h31, h32, h33⟩, hi3⟩ := hp
        have hl3 := h32.trans hl2
        have hr3 := run_endRound (P := Try.prog) none hl3
        rw [hrc] at hr3 hl3
        refine ⟨_, _, hr3, rfl, ⟨hIp _ _ _ _ (.inr rfl) hi3, ?_, (World.putObj_heap_other (by omega)).trans (h31.trans hk2)⟩, (World.putObj_heap_other (by omega)).trans (h33.trans hb2)⟩
        rw [hrc]
        exact World.putObj_heap_same (Array.getElem?_eq_some_iff.1 hl3).1
      | ret => exact hp.elim
      | exit id => exact hp.elim
      | goto t => exact hp.elim
      | panic ch => exact hp.elim
      | outgrown => exact hp.elim
    · rintro e W2 ⟨⟨v, rfl⟩, hi, hl, hk⟩
      exact ⟨none, _, by have := run_endLoop (P := Try.prog) hl (by rw [hrc]; simp); rw [hrc] at this; exact this, hdone _ (hIp _ _ _ _ (.inr rfl) hi) ((World.putObj_heap_other (by omega)).trans hk)⟩

theorem grown_drewL (w : World) : w.grownBy w.drew none := ⟨rfl, rfl, rfl, Nat.le_refl _, fun _ _ _ => rfl⟩
/-- A slice of strings of a call's own in a box. -/
def BoxRow (w : World) (ss : List ByteArray) (W : World) : Prop :=
  ∃ v, Boxed W w.heap.size 24 v ∧ W.ownsRow (w.heap.size + 4) 9 1 v ss.length (ss.map .string) ∧ Below w.heap.size w W ∧ w.heap.size + 2 ≤ W.heap.size

theorem BoxRow.grown {w : World} {ss : List ByteArray} {W W' : World} (h : BoxRow w ss W) {row : Option Nat} (hg : W.grownBy W' row) (hr : ∀ r, row = some r → w.heap.size < r ∧ r < w.heap.size + 4) : BoxRow w ss W' := by
  obtain ⟨v, h1, h2, h4, h5⟩ := h
  refine ⟨v, h1.kept hg (fun e => ?_), ?_, h4.grown hg (by omega) (fun k e => by have := (hr k e).1; omega), Nat.le_trans h5 hg.size⟩
  · have := hr w.heap.size e.symm; omega
  · refine ⟨h2.1, ?_⟩
    rcases h2.2 with h' | ⟨g, cap, cur, hv, k1, k2, k3⟩
    · exact .inl h'
    · refine .inr ⟨g, cap, cur, hv, k1, ?_, k3⟩
      rw [hg.block g (Array.getElem?_eq_some_iff.1 k2).1 (fun e => by have := (hr g e.symm).2; omega)]
      exact k2

/-- An append inside a region inside a fence, its run being known. -/
theorem stepIn_append {F : Fence} {n : Nat} {P : Program} {ops : Array Oper} {o : Oper} {a : Act} {K : Act → World → Prop} {Q : Exit → Act → World → Prop} {E : Prop} (w : World) (hgd : o.guard = none) (s x : Operand) (t : TypeId)
    (hop : o.op = Op.call { callee := Callee.builtin Builtin.append, args := #[s, x], argTypes := #[t, t] }) {v xv v' : Value} {w' : World} (hs : a.eval s = v) (hx : a.eval x = xv)
    (hrun : (Builtin.append_ #[t, t] o.type #[v, xv]).run P w = .ok v' w') (h : K (a.put o.dst v') w') : if Region.wanted o (yielded ops a.tmps) = true then Oper.wpIn F n P o a w K Q else E := by
  have hw : Region.wanted o (yielded ops a.tmps) = true := by simp [Region.wanted, hgd]
  rw [if_pos hw]
  unfold Oper.wpIn
  refine ⟨?_, ?_⟩
  · simp [Oper.about, hop, resolve, Target.leads, Sem.run_pure]
  · rw [Oper.semAt_plain F _ _ (by rw [hop]; intro c hc'; cases hc')]
    simp [execOp, hop, resolve, invoke, builtin, hs, hx, hrun, Result.andThen]
    exact h

set_option maxRecDepth 100000 in
set_option maxHeartbeats 4000000 in
theorem implLines_small (s : ByteArray) (hs : s.size ≤ 1500) (w : World) :
    Calls Try.prog 9 #[.string s] w fun e w' => LinesPost (linesB s) w e w' := by
  obtain ⟨i0, hi, hz0, hz1, hz2⟩ := info_parts Try.infoStr
  have hN := linesB_le s
  have hsm : ¬ (1500 : Int) < s.size := by omega
  refine (callsIn_wide (n := 5)).1 ?_
  refine callsIn_of_wp_marks Try.func9 rfl trivial ?_ rfl
  simp only [Try.ntmps9, List.size_toArray, List.length_cons, List.length_nil, Nat.reduceAdd, Nat.reduceSub, Array.replicate_succ, Array.replicate_zero, List.push_toArray, List.append_toArray, List.nil_append, List.cons_append]
  gi_wp2_with (refine ⟨trivial, ?_⟩; gi_at_call 23; refine (callsIn_wide.2 (linesSeq_any s _)).mono ?_; rintro e w' ⟨rfl, rfl⟩)
  have bO : Boxed ((w.alloc (.cells #[.slice none 0 0] 24)).alloc (.cells #[.string s] 9)) w.heap.size 24 (.slice none 0 0) := (Boxed.new w 24 (.slice none 0 0)).alloc _
  have hB0 : Below w.heap.size w ((w.alloc (.cells #[.slice none 0 0] 24)).alloc (.cells #[.string s] 9)) := ((Below.refl _ w).alloc (Nat.le_refl _) _).alloc (by simp) _
  have hS0 : ((w.alloc (.cells #[.slice none 0 0] 24)).alloc (.cells #[.string s] 9)).heap.size = w.heap.size + 2 := by simp
  have hc0 : ((w.alloc (.cells #[.slice none 0 0] 24)).alloc (.cells #[.string s] 9)).cell? ⟨w.heap.size + 1, 0, none⟩ = some (.string s) := by simp
  have hf0 : ((w.alloc (.cells #[.slice none 0 0] 24)).alloc (.cells #[.string s] 9)).frozen? ⟨w.heap.size + 1, 0, none⟩ = false := by simp
  generalize ((w.alloc (.cells #[.slice none 0 0] 24)).alloc (.cells #[.string s] 9)) = W0 at *
  refine range_lines (n := 5) (by omega) (w.heap.size + 1) s (by omega) (by omega) hc0 hf0 rfl rfl (fun pre W => BoxRow w pre W)
    (fun pre W o h => h.grown (World.grownBy_alloc W o none) (fun r e => by cases e)) (fun pre W h => h.grown (grown_drewL W) (fun r e => by cases e)) (fun pre W v h => h.grown (grownBy_setCell' W (w.heap.size + 1) v) (fun r e => by cases e; omega))
    (fun pre W l o hl h => h.grown (grownBy_putObj' W l o) (fun r e => by cases e; omega)) ⟨_, bO, World.ownsRow_nil _ _ _ _, hB0, by omega⟩
    (fun x => { tmps := #[.string s, undef, .slice none 0 0, .pointer (some ⟨w.heap.size, 0, none⟩), .string x, .string s, .int .i64 s.size, .bool false, .string s, .func (.func 33) #[] #[.pointer (some ⟨w.heap.size + 1, 0, none⟩)], .string x, undef, undef, undef, undef, undef, undef], defers := [] }) ?assign ?body ?done
  case assign =>
    intro l x W K hK
    gi_wp2
    exact hK
  case body =>
    rintro l pre x W ⟨v, hv, hrow, hB, hge⟩ ⟨r, hr⟩ hl2
    rw [hS0] at hl2 ⊢
    have hcv := hv.cell
    have hlen : pre.length + 1 ≤ 1500 := by
      have := congrArg List.length hr
      simp at this; omega
    have hx : x.size ≤ 281474976710656 := by
      have := line_size (s := s) (x := x) (by rw [hr]; simp)
      omega
    have hcl : CallsIn (Fence.wide.inRound l) 2 Try.prog 24 #[.string x] W.drew fun e w' => e = .returned (.string x) ∧ Below W.drew.heap.size W.drew w' :=
      CallsIn.inRound l (callsIn_wide.2 (clone_any x _ hx))
    have hrowd : W.drew.ownsRow (w.heap.size + 4) 9 1 v pre.length (pre.map .string) := hrow
    have hcd : W.drew.cell? ⟨w.heap.size, 0, none⟩ = some v := hcv
    have hvb : ∀ k, v.ownBlock = some k → w.heap.size + 4 ≤ k := owns_base hrow
    have hafter : ∀ w1, Below W.drew.heap.size W.drew w1 → ∃ g cap w2, (Builtin.append_ #[24, 24] 24 #[v, .slice (some ⟨w1.heap.size, 0, none⟩) 1 1]).run Try.prog (w1.alloc (.cells #[.string x] 9)) = .ok (.slice (some ⟨g, 0, none⟩) (pre.length + 1) cap) w2 ∧
        (((w2.setCell ⟨w.heap.size, 0, none⟩ (.slice (some ⟨g, 0, none⟩) (pre.length + 1) cap)).heap[w.heap.size + 2]? = W.heap[w.heap.size + 2]? ∧ (w2.setCell ⟨w.heap.size, 0, none⟩ (.slice (some ⟨g, 0, none⟩) (pre.length + 1) cap)).heap[w.heap.size + 2 + 1]? = W.heap[w.heap.size + 2 + 1]? ∧ (w2.setCell ⟨w.heap.size, 0, none⟩ (.slice (some ⟨g, 0, none⟩) (pre.length + 1) cap)).heap[w.heap.size + 1]? = W.heap[w.heap.size + 1]?) ∧ BoxRow w (pre ++ [x]) (w2.setCell ⟨w.heap.size, 0, none⟩ (.slice (some ⟨g, 0, none⟩) (pre.length + 1) cap))) ∧
        w2.cell? ⟨w.heap.size, 0, none⟩ = some v ∧ w2.frozen? ⟨w.heap.size, 0, none⟩ = false := by
      intro w1 hb1
      have ho1 := owns_below hrowd hb1
      have hs1 := hb1.size
      have hbd : Boxed w1 w.heap.size 24 v := (hb1.block w.heap.size (by simp; omega)).trans hv
      obtain ⟨v', w2, hrun, hown', hgrow, _⟩ := run_append_own (P := Try.prog) (w := w1.alloc (.cells #[.string x] 9)) (w.heap.size + 4) 24 24 9 i0 _ 1 16 Try.underlying24 hi hz0 hz1 hz2 rfl (by decide) _ _ _ (ho1.alloc _) ⟨w1.heap.size, 0, none⟩ 1 1 [.string x] rfl (cell_one_new _ _ _) (by simp [Value.oneCell']) (by unfold maxLen; omega) (by omega) (by simp at hs1 ⊢; omega)
      have hbd2 : Boxed w2 w.heap.size 24 v := (hbd.alloc _).kept hgrow (fun e => by have := hvb _ e.symm; omega)
      have hkeep : ∀ k, w.heap.size < k → k < w.heap.size + 4 → (w2.setCell ⟨w.heap.size, 0, none⟩ v').heap[k]? = W.heap[k]? := fun k hk1 hk2 => by
        rw [Below.heap_setCell w2 ⟨w.heap.size, 0, none⟩ v' k (by simp; omega), hgrow.block k (by simp at hs1 ⊢; omega) (fun e => by have := hvb _ e.symm; omega)]
        rw [Below.heap_alloc _ _ _ (by simp at hs1; omega)]
        exact hb1.block k (by simp; omega)
      obtain ⟨g', cap', rfl⟩ := ownsRow_succ hown'
      refine ⟨g', cap', w2, hrun, ⟨⟨hkeep _ (by omega) (by omega), hkeep _ (by omega) (by omega), hkeep _ (by omega) (by omega)⟩, _, hbd2.set _, ?_, ?_, ?_⟩, hbd2.cell, hbd2.frozen⟩
      · have := hown'.kept (grownBy_setCell' w2 w.heap.size (.slice (some ⟨g', 0, none⟩) (pre.length + 1) cap')) (.inr (fun e => by have := owns_base hown' _ e; omega))
        simpa using this
      · exact ((hB.drew.trans (hb1.mono hB.size)).alloc (by have := hB.size; simp at hs1; omega) _).grown hgrow (by simp at hs1 ⊢; omega) (fun k e => by have := hvb _ e; omega) |>.setCell (p := ⟨w.heap.size, 0, none⟩) (Nat.le_refl _) _
      · have := hgrow.size
        simp at hs1 this ⊢
        omega
    gi_wp2
    refine wpIn_region_any (by kernel_rfl) ?_
    change wpAnyIn _ _ _ _ _ _ _ _ _ (World.drew _)
    refine wpAnyIn_ready (rs := [0, 1]) (by kernel_rfl) (by simp) ?_
    refine AllReadyIn.cons rfl (fun K hK => ?_) ?_
    · go_simp
      refine hK _ _ ?_
      clear hK K
      refine wpAnyIn_ready (rs := [1]) (by kernel_rfl) (by simp) ?_
      refine AllReadyIn.cons rfl (fun K hK => ?_) AllReadyIn.nil
      go_simp
      refine hK _ _ ?_
      clear hK K
      refine wpAnyIn_ready (rs := [2]) (by kernel_rfl) (by simp) ?_
      refine AllReadyIn.cons rfl (fun K hK => ?_) AllReadyIn.nil
      go_simp
      refine ⟨trivial, hcl.mono ?_⟩
      rintro e w1 ⟨rfl, hb1⟩
      refine hK _ _ ?_
      clear hK K
      obtain ⟨g', cap', w2, hrun, hfin, hc2, hf2⟩ := hafter w1 hb1
      have hcv1 := cell_later hb1 hcd
      have hc1a : (w1.alloc (.cells #[.string x] 9)).cell? ⟨w.heap.size, 0, none⟩ = some v := cell_kept hcv1 (World.grownBy_alloc w1 _ none) (fun r e => by cases e)
      refine wpAnyIn_ready (rs := [3]) (by kernel_rfl) (by simp) ?_
      refine AllReadyIn.cons rfl (fun K hK => ?_) AllReadyIn.nil
      go_simp
      refine hK _ _ ?_
      clear hK K
      refine wpAnyIn_ready (rs := [4]) (by kernel_rfl) (by simp) ?_
      refine AllReadyIn.cons rfl (fun K hK => ?_) AllReadyIn.nil
      refine stepIn_append _ (by rfl) _ _ 24 (by rfl) (by rfl) (by rfl) hrun ?_
      refine hK _ _ ?_
      clear hK K hrun
      refine wpAnyIn_ready (rs := [5]) (by kernel_rfl) (by simp) ?_
      refine AllReadyIn.cons rfl (fun K hK => ?_) AllReadyIn.nil
      go_simp
      refine hK _ _ ?_
      clear hK K
      refine wpAnyIn_done (by kernel_rfl) ?_ _
      gi_wp2
      exact hfin
    · refine AllReadyIn.cons rfl (fun K hK => ?_) AllReadyIn.nil
      go_simp
      refine hK _ _ ?_
      clear hK K
      refine wpAnyIn_ready (rs := [0, 2]) (by kernel_rfl) (by simp) ?_
      refine AllReadyIn.cons rfl (fun K hK => ?_) ?_
      · go_simp
        refine hK _ _ ?_
        clear hK K
        refine wpAnyIn_ready (rs := [2]) (by kernel_rfl) (by simp) ?_
        refine AllReadyIn.cons rfl (fun K hK => ?_) AllReadyIn.nil
        go_simp
        refine ⟨trivial, hcl.mono ?_⟩
        rintro e w1 ⟨rfl, hb1⟩
        refine hK _ _ ?_
        clear hK K
        obtain ⟨g', cap', w2, hrun, hfin, hc2, hf2⟩ := hafter w1 hb1
        have hcv1 := cell_later hb1 hcd
        have hc1a : (w1.alloc (.cells #[.string x] 9)).cell? ⟨w.heap.size, 0, none⟩ = some v := cell_kept hcv1 (World.grownBy_alloc w1 _ none) (fun r e => by cases e)
        refine wpAnyIn_ready (rs := [3]) (by kernel_rfl) (by simp) ?_
        refine AllReadyIn.cons rfl (fun K hK => ?_) AllReadyIn.nil
        go_simp
        refine hK _ _ ?_
        clear hK K
        refine wpAnyIn_ready (rs := [4]) (by kernel_rfl) (by simp) ?_
        refine AllReadyIn.cons rfl (fun K hK => ?_) AllReadyIn.nil
        refine stepIn_append _ (by rfl) _ _ 24 (by rfl) (by rfl) (by rfl) hrun ?_
        refine hK _ _ ?_
        clear hK K hrun
        refine wpAnyIn_ready (rs := [5]) (by kernel_rfl) (by simp) ?_
        refine AllReadyIn.cons rfl (fun K hK => ?_) AllReadyIn.nil
        go_simp
        refine hK _ _ ?_
        clear hK K
        refine wpAnyIn_done (by kernel_rfl) ?_ _
        gi_wp2
        exact hfin
      · refine AllReadyIn.cons rfl (fun K hK => ?_) AllReadyIn.nil
        go_simp
        refine ⟨trivial, hcl.mono ?_⟩
        rintro e w1 ⟨rfl, hb1⟩
        refine hK _ _ ?_
        clear hK K
        obtain ⟨g', cap', w2, hrun, hfin, hc2, hf2⟩ := hafter w1 hb1
        have hcv1 := cell_later hb1 hcd
        have hc1a : (w1.alloc (.cells #[.string x] 9)).cell? ⟨w.heap.size, 0, none⟩ = some v := cell_kept hcv1 (World.grownBy_alloc w1 _ none) (fun r e => by cases e)
        refine wpAnyIn_ready (rs := [0, 3]) (by kernel_rfl) (by simp) ?_
        refine AllReadyIn.cons rfl (fun K hK => ?_) ?_
        · go_simp
          refine hK _ _ ?_
          clear hK K
          refine wpAnyIn_ready (rs := [3]) (by kernel_rfl) (by simp) ?_
          refine AllReadyIn.cons rfl (fun K hK => ?_) AllReadyIn.nil
          go_simp
          refine hK _ _ ?_
          clear hK K
          refine wpAnyIn_ready (rs := [4]) (by kernel_rfl) (by simp) ?_
          refine AllReadyIn.cons rfl (fun K hK => ?_) AllReadyIn.nil
          refine stepIn_append _ (by rfl) _ _ 24 (by rfl) (by rfl) (by rfl) hrun ?_
          refine hK _ _ ?_
          clear hK K hrun
          refine wpAnyIn_ready (rs := [5]) (by kernel_rfl) (by simp) ?_
          refine AllReadyIn.cons rfl (fun K hK => ?_) AllReadyIn.nil
          go_simp
          refine hK _ _ ?_
          clear hK K
          refine wpAnyIn_done (by kernel_rfl) ?_ _
          gi_wp2
          exact hfin
        · refine AllReadyIn.cons rfl (fun K hK => ?_) AllReadyIn.nil
          go_simp
          refine hK _ _ ?_
          clear hK K
          refine wpAnyIn_ready (rs := [0]) (by kernel_rfl) (by simp) ?_
          refine AllReadyIn.cons rfl (fun K hK => ?_) AllReadyIn.nil
          go_simp
          refine hK _ _ ?_
          clear hK K
          refine wpAnyIn_ready (rs := [4]) (by kernel_rfl) (by simp) ?_
          refine AllReadyIn.cons rfl (fun K hK => ?_) AllReadyIn.nil
          refine stepIn_append _ (by rfl) _ _ 24 (by rfl) (by rfl) (by rfl) hrun ?_
          refine hK _ _ ?_
          clear hK K hrun
          refine wpAnyIn_ready (rs := [5]) (by kernel_rfl) (by simp) ?_
          refine AllReadyIn.cons rfl (fun K hK => ?_) AllReadyIn.nil
          go_simp
          refine hK _ _ ?_
          clear hK K
          refine wpAnyIn_done (by kernel_rfl) ?_ _
          gi_wp2
          exact hfin
  case done =>
    rintro W ⟨v, hv, hrow, hB, hge⟩ hK
    have hcv := hv.cell
    rw [hS0] at hK ⊢
    obtain ⟨ad, cp, rfl⟩ := owns_slice hrow
    gi_wp2
    refine ⟨by simp, .inl ⟨_, _, rfl, run_takeDeferred hK, ?_⟩⟩
    exact ⟨_, results_tmp rfl _ _ _, ad, cp, rfl, owns_low (ownsRow_putObj hrow _ hK rfl) (by omega), hB.trans (belowK_b (w := w) (Nat.le_refl _) W _ _ _ (by omega) hK rfl rfl)⟩
set_option maxHeartbeats 1000000 in
theorem implLines_big (s : ByteArray) (hs : 1500 < s.size) (w : World) :
    Calls Try.prog 9 #[.string s] w fun e w' => LinesPost [] w e w' := by
  have hsm : (1500 : Int) < s.size := by omega
  refine (callsIn_wide (n := 5)).1 ?_
  refine callsIn_of_wp_marks Try.func9 rfl trivial ?_ rfl
  simp only [Try.ntmps9, List.size_toArray, List.length_cons, List.length_nil, Nat.reduceAdd, Nat.reduceSub, Array.replicate_succ, Array.replicate_zero, List.push_toArray, List.append_toArray, List.nil_append, List.cons_append]
  gi_wp2
  exact ⟨_, results_tmp rfl _ _ _, none, 0, rfl, World.ownsRow_nil _ _ _ _, Below.refl _ _⟩

/-- The lines of a text; none if it has more than 1500 bytes. -/
theorem implLines_any (s : ByteArray) (w : World) :
    Calls Try.prog 9 #[.string s] w fun e w' => LinesPost (linesT s) w e w' := by
  by_cases h : s.size ≤ 1500
  · rw [linesT, if_pos h]; exact implLines_small s h w
  · rw [linesT, if_neg h]; exact implLines_big s (by omega) w
end Go.Proofs.Ytobgfogafkeieaa
