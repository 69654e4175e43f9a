/-
  LinesI, MergeI, MText, MSym, OpenTree, SizeL, ExactMg: laid as one text.
-/
import Derived.RangeFuncBox
import Derived.Maps.AppendAt
import Derived.Test.YtjiafjdjocmodaaGreatZbf
import Derived.Test.YtjiafjdjocmodaaGreatZbb
import Derived.Test.YtjiafjdjocmodaaGreatBase
import Derived.Test.YtjiafjdjocmodaaGreatStrsB
import Derived.Test.YtjiafjdjocmodaaGreatZbe
import Derived.Test.YtjiafjdjocmodaaGreatZbd
import Derived.Test.YtjiafjdjocmodaaGreatRows
import Derived.ProofKit
import Derived.OpenShut
import Derived.ChangeOld
import Derived.Below
import Derived.Deep.Slices
import Derived.Lib.SmallJoins
import Derived.Deep.Strs
import Derived.Test.YtjiafjdjocmodaaGreatMgT
namespace Go.Proofs.YtjiafjdjocmodaaGreat
open Go.RowKit Go.Shelf

attribute [local go_sem] Oper.semAt_some

/-- How the body of a round is left: it goes on; the loop's two blocks and the iterator's box are kept. -/
def lnPost (B Bs : Nat) (I : List ByteArray → World → Prop) (xs : List ByteArray) (W : World) : Exit → Act → World → Prop
  | .normal, _, W' => (W'.heap[B]? = W.heap[B]? ∧ W'.heap[B + 1]? = W.heap[B + 1]? ∧ W'.heap[Bs]? = W.heap[Bs]?) ∧ I xs W'
  | .ret, _, _ => False
  | .exit _, _, _ => False
  | .goto _, _, _ => False
  | .panic _, _, _ => False
  | .outgrown, _, _ => False

theorem range_lines {g : Operand} {ps : Array Tmp} {assign body : Code} {Q : Exit → Act → World → Prop} {a : Act} {w : World} {n : Nat} (h1 : 1 ≤ n)
    (Bs : Nat) (s : ByteArray) (hs : s.size ≤ 1099511627776) (hlt : Bs < w.heap.size) (hBs : w.cell? ⟨Bs, 0, none⟩ = some (.string s)) (hBf : w.frozen? ⟨Bs, 0, none⟩ = false)
    (hg : a.eval g = .func (.func 125) #[] #[.pointer (some ⟨Bs, 0, none⟩)]) (hps : ps.size = 1)
    (I : List ByteArray → World → Prop) (hIa : ∀ pre W o, I pre W → I pre (W.alloc o)) (hId : ∀ pre W, I pre W → I pre (W.drew)) (hIs : ∀ pre W v, I pre W → I pre (W.setCell ⟨Bs, 0, none⟩ v))
    (hIp : ∀ pre W l o, (l = w.heap.size ∨ l = w.heap.size + 1) → I pre W → I pre (W.putObj l o))
    (h0 : I [] w) (a₁ : ByteArray → Act)
    (hassign : ∀ (l : Nat) (x : ByteArray) (W : World) (K : Act → World → Prop), K (a₁ x) W →
      assign.wpIn (Fence.wide.inRound l) (n - 1 - 1) Tryz.prog (Exit.then K (fun _ _ _ => False)) { tmps := (ps.zip #[.string x]).foldl (fun t (p, v) => t.setIfInBounds p v) a.tmps, defers := [] } W)
    (hbody : ∀ (l : Nat) (pre : List ByteArray) (x : ByteArray) (W : World), I pre W → (∃ r, linesB s = pre ++ [x] ++ r) → w.heap.size + 1 < W.heap.size → body.wpIn (Fence.wide.inRound l) (n - 1 - 1) Tryz.prog (lnPost w.heap.size Bs I (pre ++ [x]) W) (a₁ x) W)
    (hdone : ∀ (W : World), I (linesB s) W → W.heap[w.heap.size]? = some (.deferred (some [])) → Q .normal { a with defers := { target := .collected w.heap.size, args := #[] } :: a.defers } W) :
    (Code.rangeFunc g ps assign body).wpIn Fence.wide n Tryz.prog Q a w := by
  refine wpIn_rangeFunc ?_
  intro fn hfn
  rw [show Fence.wide.round = none from rfl]
  have heg : ∀ args w, (callFunc 125 args).run Tryz.prog w = .ok (.enter 125 args) w := enters_of Tryz.func125 (by kernel_rfl) rfl
  obtain ⟨rc, hrc⟩ : ∃ rc : LoopState → Option Code → Loop, rc = fun st pe => { state := st, pending := pe, fn, tmps := a.tmps, params := ps, assign, body, defers := w.heap.size } := ⟨_, rfl⟩
  obtain ⟨W1, hW1⟩ : ∃ W1, (w.alloc (.deferred (some []))).alloc (.loop (rc .ready none)) = W1 := ⟨_, rfl⟩
  have hL1 : W1.heap[w.heap.size + 1]? = some (.loop (rc .ready none)) := by
    rw [← hW1]
    have := World.alloc_heap_new (w.alloc (.deferred (some []))) (.loop (rc .ready none))
    rwa [World.size_alloc] at this
  have hK1 : W1.heap[w.heap.size]? = some (.deferred (some [])) := by
    rw [← hW1]; exact (Below.heap_alloc _ _ _ (by simp)).trans (World.alloc_heap_new w _)
  have hI1 : I [] W1 := by rw [← hW1]; exact hIa _ _ _ (hIa _ _ _ h0)
  have hb1 : Below w.heap.size w W1 := by rw [← hW1]; exact ((Below.refl _ w).alloc (Nat.le_refl _) _).alloc (by simp) _
  have hB1 : W1.heap[Bs]? = w.heap[Bs]? := hb1.block Bs hlt
  refine ⟨w.heap.size + 1, [{ target := .collected w.heap.size, args := #[] }], W1, { target := .fn (.func 125) #[.pointer (some ⟨Bs, 0, none⟩)], args := #[.func (.yield (w.heap.size + 1)) #[] #[]] }, W1, 125,
    #[.func (.yield (w.heap.size + 1)) #[] #[]] ++ #[.pointer (some ⟨Bs, 0, none⟩)], W1, ?_, ?_, ?_, ?_, fun _ => h1, ?_⟩
  · rw [← hW1, hrc]; exact run_enterLoop_outer _ _ _ _ _
  · simp only [resolve, hg]
    simp [go_sem]
  · intro f' hf'; trivial
  · simp [invoke, go_sem, heg]
  · refine (lines1_in (n - 1) (w.heap.size + 1) Bs s hs
      (fun pre W => I pre W ∧ W.heap[w.heap.size + 1]? = some (.loop (rc .ready none)) ∧ W.heap[w.heap.size]? = some (.deferred (some [])))
      W1 (fun pre W hJ => ⟨hId _ _ hJ.1, hJ.2.1, hJ.2.2⟩)
      (fun pre W v hJ => ⟨hIs _ _ _ hJ.1, (Below.heap_setCell W ⟨Bs, 0, none⟩ v _ (by simp; omega)).trans hJ.2.1, (Below.heap_setCell W ⟨Bs, 0, none⟩ v _ (by simp; omega)).trans hJ.2.2⟩)
      ?_ ((hb1.cell (p := ⟨Bs, 0, none⟩) hlt).trans hBs) ((frozen_block hB1).trans hBf) ⟨hI1, hL1, hK1⟩).mono ?_
    · rintro pre x W ⟨hi, hl, hk⟩ hr
      have hlt1 : w.heap.size + 1 < W.heap.size := (Array.getElem?_eq_some_iff.1 hl).1
      have hy := run_yield (P := Tryz.prog) (args := #[.string x]) hl (by rw [hrc]; exact hps.symm)
      rw [hrc] at hy
      refine ⟨fn, _, assign, body, hy, roundIn_of_wpIn hfn (hassign _ x W _ ⟨_, run_beginRound hl (by rw [hrc]), ?_⟩)⟩
      have hl2 : (W.putObj (w.heap.size + 1) (.loop { rc .ready none with state := .busy })).heap[w.heap.size + 1]? = some (.loop { rc .ready none with state := .busy }) := World.putObj_heap_same hlt1
      have hk2 : (W.putObj (w.heap.size + 1) (.loop { rc .ready none with state := .busy })).heap[w.heap.size]? = some (.deferred (some [])) := (World.putObj_heap_other (by omega)).trans hk
      have hb2 : (W.putObj (w.heap.size + 1) (.loop { rc .ready none with state := .busy })).heap[Bs]? = W.heap[Bs]? := World.putObj_heap_other (by omega)
      refine wpIn_mono (hbody _ pre x _ (hIp _ _ _ _ (.inr rfl) hi) hr (by simpa using hlt1)) ?_
      rintro e a3 W3 hp
      cases e with
      | normal =>
        obtain ⟨⟨h31, h32, h33⟩, hi3⟩ := hp
        have hl3 := h32.trans hl2
        have hr3 := run_endRound (P := Tryz.prog) none hl3
        rw [hrc] at hr3 hl3
        refine ⟨_, _, hr3, rfl, ⟨hIp _ _ _ _ (.inr rfl) hi3, ?_, (World.putObj_heap_other (by omega)).trans (h31.trans hk2)⟩, (World.putObj_heap_other (by omega)).trans (h33.trans hb2)⟩
        rw [hrc]
        exact World.putObj_heap_same (Array.getElem?_eq_some_iff.1 hl3).1
      | ret => exact hp.elim
      | exit id => exact hp.elim
      | goto t => exact hp.elim
      | panic ch => exact hp.elim
      | outgrown => exact hp.elim
    · rintro e W2 ⟨⟨v, rfl⟩, hi, hl, hk⟩
      exact ⟨none, _, by have := run_endLoop (P := Tryz.prog) hl (by rw [hrc]; simp); rw [hrc] at this; exact this, hdone _ (hIp _ _ _ _ (.inr rfl) hi) ((World.putObj_heap_other (by omega)).trans hk)⟩

theorem grown_drewL (w : World) : w.grownBy w.drew none := ⟨rfl, rfl, rfl, Nat.le_refl _, fun _ _ _ => rfl⟩
/-- A slice of strings of a call's own in a box. -/
def BoxRow (w : World) (ss : List ByteArray) (W : World) : Prop :=
  ∃ v, Boxed W w.heap.size 28 v ∧ W.ownsRow (w.heap.size + 4) 9 1 v ss.length (ss.map .string) ∧ Below w.heap.size w W ∧ w.heap.size + 2 ≤ W.heap.size

theorem BoxRow.grown {w : World} {ss : List ByteArray} {W W' : World} (h : BoxRow w ss W) {row : Option Nat} (hg : W.grownBy W' row) (hr : ∀ r, row = some r → w.heap.size < r ∧ r < w.heap.size + 4) : BoxRow w ss W' := by
  obtain ⟨v, h1, h2, h4, h5⟩ := h
  refine ⟨v, h1.kept hg (fun e => ?_), ?_, h4.grown hg (by omega) (fun k e => by have := (hr k e).1; omega), Nat.le_trans h5 hg.size⟩
  · have := hr w.heap.size e.symm; omega
  · refine ⟨h2.1, ?_⟩
    rcases h2.2 with h' | ⟨g, cap, cur, hv, k1, k2, k3⟩
    · exact .inl h'
    · refine .inr ⟨g, cap, cur, hv, k1, ?_, k3⟩
      rw [hg.block g (Array.getElem?_eq_some_iff.1 k2).1 (fun e => by have := (hr g e.symm).2; omega)]
      exact k2

/-- An append inside a region inside a fence, its run being known. -/
theorem stepIn_append {F : Fence} {n : Nat} {P : Program} {ops : Array Oper} {o : Oper} {a : Act} {K : Act → World → Prop} {Q : Exit → Act → World → Prop} {E : Prop} (w : World) (hgd : o.guard = none) (s x : Operand) (t : TypeId)
    (hop : o.op = Op.call { callee := Callee.builtin Builtin.append, args := #[s, x], argTypes := #[t, t] }) {v xv v' : Value} {w' : World} (hs : a.eval s = v) (hx : a.eval x = xv)
    (hrun : (Builtin.append_ #[t, t] o.type #[v, xv]).run P w = .ok v' w') (h : K (a.put o.dst v') w') : if Region.wanted o (yielded ops a.tmps) = true then Oper.wpIn F n P o a w K Q else E := by
  have hw : Region.wanted o (yielded ops a.tmps) = true := by simp [Region.wanted, hgd]
  rw [if_pos hw]
  unfold Oper.wpIn
  refine ⟨?_, ?_⟩
  · simp [Oper.about, hop, resolve, Target.leads, Sem.run_pure]
  · rw [Oper.semAt_plain F _ _ (by rw [hop]; intro c hc'; cases hc')]
    simp [execOp, hop, resolve, invoke, builtin, hs, hx, hrun, Result.andThen]
    exact h

set_option maxRecDepth 100000 in
set_option maxHeartbeats 4000000 in
theorem implLines_small (s : ByteArray) (hs : s.size ≤ 1500) (w : World) :
    Calls Tryz.prog 80 #[.string s] w fun e w' => LinesPost (linesB s) w e w' := by
  obtain ⟨i0, hi, hz0, hz1, hz2⟩ := info_parts Tryz.infoStr
  have hN := linesB_le s
  have hsm : ¬ (1500 : Int) < s.size := by omega
  refine (callsIn_wide (n := 5)).1 ?_
  refine callsIn_of_wp_marks Tryz.func80 rfl trivial ?_ rfl
  simp only [Tryz.ntmps80, List.size_toArray, List.length_cons, List.length_nil, Nat.reduceAdd, Nat.reduceSub, Array.replicate_succ, Array.replicate_zero, List.push_toArray, List.append_toArray, List.nil_append, List.cons_append]
  gi_wp2_with (refine ⟨trivial, ?_⟩; gi_at_call 107; refine (callsIn_wide.2 (linesSeq_any s _)).mono ?_; rintro e w' ⟨rfl, rfl⟩)
  have bO : Boxed ((w.alloc (.cells #[.slice none 0 0] 28)).alloc (.cells #[.string s] 9)) w.heap.size 28 (.slice none 0 0) := (Boxed.new w 28 (.slice none 0 0)).alloc _
  have hB0 : Below w.heap.size w ((w.alloc (.cells #[.slice none 0 0] 28)).alloc (.cells #[.string s] 9)) := ((Below.refl _ w).alloc (Nat.le_refl _) _).alloc (by simp) _
  have hS0 : ((w.alloc (.cells #[.slice none 0 0] 28)).alloc (.cells #[.string s] 9)).heap.size = w.heap.size + 2 := by simp
  have hc0 : ((w.alloc (.cells #[.slice none 0 0] 28)).alloc (.cells #[.string s] 9)).cell? ⟨w.heap.size + 1, 0, none⟩ = some (.string s) := by simp
  have hf0 : ((w.alloc (.cells #[.slice none 0 0] 28)).alloc (.cells #[.string s] 9)).frozen? ⟨w.heap.size + 1, 0, none⟩ = false := by simp
  generalize ((w.alloc (.cells #[.slice none 0 0] 28)).alloc (.cells #[.string s] 9)) = W0 at *
  refine range_lines (n := 5) (by omega) (w.heap.size + 1) s (by omega) (by omega) hc0 hf0 rfl rfl (fun pre W => BoxRow w pre W)
    (fun pre W o h => h.grown (World.grownBy_alloc W o none) (fun r e => by cases e)) (fun pre W h => h.grown (grown_drewL W) (fun r e => by cases e)) (fun pre W v h => h.grown (grownBy_setCell' W (w.heap.size + 1) v) (fun r e => by cases e; omega))
    (fun pre W l o hl h => h.grown (grownBy_putObj' W l o) (fun r e => by cases e; omega)) ⟨_, bO, World.ownsRow_nil _ _ _ _, hB0, by omega⟩
    (fun x => { tmps := #[.string s, undef, .slice none 0 0, .pointer (some ⟨w.heap.size, 0, none⟩), .string x, .string s, .int .i64 s.size, .bool false, .string s, .func (.func 125) #[] #[.pointer (some ⟨w.heap.size + 1, 0, none⟩)], .string x, undef, undef, undef, undef, undef, undef], defers := [] }) ?assign ?body ?done
  case assign =>
    intro l x W K hK
    gi_wp2
    exact hK
  case body =>
    rintro l pre x W ⟨v, hv, hrow, hB, hge⟩ ⟨r, hr⟩ hl2
    rw [hS0] at hl2 ⊢
    have hcv := hv.cell
    have hlen : pre.length + 1 ≤ 1500 := by
      have := congrArg List.length hr
      simp at this; omega
    have hx : x.size ≤ 281474976710656 := by
      have := line_size (s := s) (x := x) (by rw [hr]; simp)
      omega
    have hcl : CallsIn (Fence.wide.inRound l) 2 Tryz.prog 31 #[.string x] W.drew fun e w' => e = .returned (.string x) ∧ Below W.drew.heap.size W.drew w' :=
      CallsIn.inRound l (callsIn_wide.2 (clone_any x _ hx))
    have hrowd : W.drew.ownsRow (w.heap.size + 4) 9 1 v pre.length (pre.map .string) := hrow
    have hcd : W.drew.cell? ⟨w.heap.size, 0, none⟩ = some v := hcv
    have hvb : ∀ k, v.ownBlock = some k → w.heap.size + 4 ≤ k := owns_base hrow
    have hafter : ∀ w1, Below W.drew.heap.size W.drew w1 → ∃ g cap w2, (Builtin.append_ #[28, 28] 28 #[v, .slice (some ⟨w1.heap.size, 0, none⟩) 1 1]).run Tryz.prog (w1.alloc (.cells #[.string x] 9)) = .ok (.slice (some ⟨g, 0, none⟩) (pre.length + 1) cap) w2 ∧
        (((w2.setCell ⟨w.heap.size, 0, none⟩ (.slice (some ⟨g, 0, none⟩) (pre.length + 1) cap)).heap[w.heap.size + 2]? = W.heap[w.heap.size + 2]? ∧ (w2.setCell ⟨w.heap.size, 0, none⟩ (.slice (some ⟨g, 0, none⟩) (pre.length + 1) cap)).heap[w.heap.size + 2 + 1]? = W.heap[w.heap.size + 2 + 1]? ∧ (w2.setCell ⟨w.heap.size, 0, none⟩ (.slice (some ⟨g, 0, none⟩) (pre.length + 1) cap)).heap[w.heap.size + 1]? = W.heap[w.heap.size + 1]?) ∧ BoxRow w (pre ++ [x]) (w2.setCell ⟨w.heap.size, 0, none⟩ (.slice (some ⟨g, 0, none⟩) (pre.length + 1) cap))) ∧
        w2.cell? ⟨w.heap.size, 0, none⟩ = some v ∧ w2.frozen? ⟨w.heap.size, 0, none⟩ = false := by
      intro w1 hb1
      have ho1 := owns_below hrowd hb1
      have hs1 := hb1.size
      have hbd : Boxed w1 w.heap.size 28 v := (hb1.block w.heap.size (by simp; omega)).trans hv
      obtain ⟨v', w2, hrun, hown', hgrow, _⟩ := run_append_own (P := Tryz.prog) (w := w1.alloc (.cells #[.string x] 9)) (w.heap.size + 4) 28 28 9 i0 _ 1 16 Tryz.underlying28 hi hz0 hz1 hz2 rfl (by decide) _ _ _ (ho1.alloc _) ⟨w1.heap.size, 0, none⟩ 1 1 [.string x] rfl (cell_one_new _ _ _) (by simp [Value.oneCell']) (by unfold maxLen; omega) (by omega) (by simp at hs1 ⊢; omega)
      have hbd2 : Boxed w2 w.heap.size 28 v := (hbd.alloc _).kept hgrow (fun e => by have := hvb _ e.symm; omega)
      have hkeep : ∀ k, w.heap.size < k → k < w.heap.size + 4 → (w2.setCell ⟨w.heap.size, 0, none⟩ v').heap[k]? = W.heap[k]? := fun k hk1 hk2 => by
        rw [Below.heap_setCell w2 ⟨w.heap.size, 0, none⟩ v' k (by simp; omega), hgrow.block k (by simp at hs1 ⊢; omega) (fun e => by have := hvb _ e.symm; omega)]
        rw [Below.heap_alloc _ _ _ (by simp at hs1; omega)]
        exact hb1.block k (by simp; omega)
      obtain ⟨g', cap', rfl⟩ := ownsRow_succ hown'
      refine ⟨g', cap', w2, hrun, ⟨⟨hkeep _ (by omega) (by omega), hkeep _ (by omega) (by omega), hkeep _ (by omega) (by omega)⟩, _, hbd2.set _, ?_, ?_, ?_⟩, hbd2.cell, hbd2.frozen⟩
      · have := hown'.kept (grownBy_setCell' w2 w.heap.size (.slice (some ⟨g', 0, none⟩) (pre.length + 1) cap')) (.inr (fun e => by have := owns_base hown' _ e; omega))
        simpa using this
      · exact ((hB.drew.trans (hb1.mono hB.size)).alloc (by have := hB.size; simp at hs1; omega) _).grown hgrow (by simp at hs1 ⊢; omega) (fun k e => by have := hvb _ e; omega) |>.setCell (p := ⟨w.heap.size, 0, none⟩) (Nat.le_refl _) _
      · have := hgrow.size
        simp at hs1 this ⊢
        omega
    gi_wp2
    refine wpIn_region_any (by kernel_rfl) ?_
    change wpAnyIn _ _ _ _ _ _ _ _ _ (World.drew _)
    refine wpAnyIn_ready (rs := [0, 1]) (by kernel_rfl) (by simp) ?_
    refine AllReadyIn.cons rfl (fun K hK => ?_) ?_
    · go_simp
      refine hK _ _ ?_
      clear hK K
      refine wpAnyIn_ready (rs := [1]) (by kernel_rfl) (by simp) ?_
      refine AllReadyIn.cons rfl (fun K hK => ?_) AllReadyIn.nil
      go_simp
      refine hK _ _ ?_
      clear hK K
      refine wpAnyIn_ready (rs := [2]) (by kernel_rfl) (by simp) ?_
      refine AllReadyIn.cons rfl (fun K hK => ?_) AllReadyIn.nil
      go_simp
      refine ⟨trivial, hcl.mono ?_⟩
      rintro e w1 ⟨rfl, hb1⟩
      refine hK _ _ ?_
      clear hK K
      obtain ⟨g', cap', w2, hrun, hfin, hc2, hf2⟩ := hafter w1 hb1
      have hcv1 := cell_later hb1 hcd
      have hc1a : (w1.alloc (.cells #[.string x] 9)).cell? ⟨w.heap.size, 0, none⟩ = some v := cell_kept hcv1 (World.grownBy_alloc w1 _ none) (fun r e => by cases e)
      refine wpAnyIn_ready (rs := [3]) (by kernel_rfl) (by simp) ?_
      refine AllReadyIn.cons rfl (fun K hK => ?_) AllReadyIn.nil
      go_simp
      refine hK _ _ ?_
      clear hK K
      refine wpAnyIn_ready (rs := [4]) (by kernel_rfl) (by simp) ?_
      refine AllReadyIn.cons rfl (fun K hK => ?_) AllReadyIn.nil
      refine stepIn_append _ (by rfl) _ _ 28 (by rfl) (by rfl) (by rfl) hrun ?_
      refine hK _ _ ?_
      clear hK K hrun
      refine wpAnyIn_ready (rs := [5]) (by kernel_rfl) (by simp) ?_
      refine AllReadyIn.cons rfl (fun K hK => ?_) AllReadyIn.nil
      go_simp
      refine hK _ _ ?_
      clear hK K
      refine wpAnyIn_done (by kernel_rfl) ?_ _
      gi_wp2
      exact hfin
    · refine AllReadyIn.cons rfl (fun K hK => ?_) AllReadyIn.nil
      go_simp
      refine hK _ _ ?_
      clear hK K
      refine wpAnyIn_ready (rs := [0, 2]) (by kernel_rfl) (by simp) ?_
      refine AllReadyIn.cons rfl (fun K hK => ?_) ?_
      · go_simp
        refine hK _ _ ?_
        clear hK K
        refine wpAnyIn_ready (rs := [2]) (by kernel_rfl) (by simp) ?_
        refine AllReadyIn.cons rfl (fun K hK => ?_) AllReadyIn.nil
        go_simp
        refine ⟨trivial, hcl.mono ?_⟩
        rintro e w1 ⟨rfl, hb1⟩
        refine hK _ _ ?_
        clear hK K
        obtain ⟨g', cap', w2, hrun, hfin, hc2, hf2⟩ := hafter w1 hb1
        have hcv1 := cell_later hb1 hcd
        have hc1a : (w1.alloc (.cells #[.string x] 9)).cell? ⟨w.heap.size, 0, none⟩ = some v := cell_kept hcv1 (World.grownBy_alloc w1 _ none) (fun r e => by cases e)
        refine wpAnyIn_ready (rs := [3]) (by kernel_rfl) (by simp) ?_
        refine AllReadyIn.cons rfl (fun K hK => ?_) AllReadyIn.nil
        go_simp
        refine hK _ _ ?_
        clear hK K
        refine wpAnyIn_ready (rs := [4]) (by kernel_rfl) (by simp) ?_
        refine AllReadyIn.cons rfl (fun K hK => ?_) AllReadyIn.nil
        refine stepIn_append _ (by rfl) _ _ 28 (by rfl) (by rfl) (by rfl) hrun ?_
        refine hK _ _ ?_
        clear hK K hrun
        refine wpAnyIn_ready (rs := [5]) (by kernel_rfl) (by simp) ?_
        refine AllReadyIn.cons rfl (fun K hK => ?_) AllReadyIn.nil
        go_simp
        refine hK _ _ ?_
        clear hK K
        refine wpAnyIn_done (by kernel_rfl) ?_ _
        gi_wp2
        exact hfin
      · refine AllReadyIn.cons rfl (fun K hK => ?_) AllReadyIn.nil
        go_simp
        refine ⟨trivial, hcl.mono ?_⟩
        rintro e w1 ⟨rfl, hb1⟩
        refine hK _ _ ?_
        clear hK K
        obtain ⟨g', cap', w2, hrun, hfin, hc2, hf2⟩ := hafter w1 hb1
        have hcv1 := cell_later hb1 hcd
        have hc1a : (w1.alloc (.cells #[.string x] 9)).cell? ⟨w.heap.size, 0, none⟩ = some v := cell_kept hcv1 (World.grownBy_alloc w1 _ none) (fun r e => by cases e)
        refine wpAnyIn_ready (rs := [0, 3]) (by kernel_rfl) (by simp) ?_
        refine AllReadyIn.cons rfl (fun K hK => ?_) ?_
        · go_simp
          refine hK _ _ ?_
          clear hK K
          refine wpAnyIn_ready (rs := [3]) (by kernel_rfl) (by simp) ?_
          refine AllReadyIn.cons rfl (fun K hK => ?_) AllReadyIn.nil
          go_simp
          refine hK _ _ ?_
          clear hK K
          refine wpAnyIn_ready (rs := [4]) (by kernel_rfl) (by simp) ?_
          refine AllReadyIn.cons rfl (fun K hK => ?_) AllReadyIn.nil
          refine stepIn_append _ (by rfl) _ _ 28 (by rfl) (by rfl) (by rfl) hrun ?_
          refine hK _ _ ?_
          clear hK K hrun
          refine wpAnyIn_ready (rs := [5]) (by kernel_rfl) (by simp) ?_
          refine AllReadyIn.cons rfl (fun K hK => ?_) AllReadyIn.nil
          go_simp
          refine hK _ _ ?_
          clear hK K
          refine wpAnyIn_done (by kernel_rfl) ?_ _
          gi_wp2
          exact hfin
        · refine AllReadyIn.cons rfl (fun K hK => ?_) AllReadyIn.nil
          go_simp
          refine hK _ _ ?_
          clear hK K
          refine wpAnyIn_ready (rs := [0]) (by kernel_rfl) (by simp) ?_
          refine AllReadyIn.cons rfl (fun K hK => ?_) AllReadyIn.nil
          go_simp
          refine hK _ _ ?_
          clear hK K
          refine wpAnyIn_ready (rs := [4]) (by kernel_rfl) (by simp) ?_
          refine AllReadyIn.cons rfl (fun K hK => ?_) AllReadyIn.nil
          refine stepIn_append _ (by rfl) _ _ 28 (by rfl) (by rfl) (by rfl) hrun ?_
          refine hK _ _ ?_
          clear hK K hrun
          refine wpAnyIn_ready (rs := [5]) (by kernel_rfl) (by simp) ?_
          refine AllReadyIn.cons rfl (fun K hK => ?_) AllReadyIn.nil
          go_simp
          refine hK _ _ ?_
          clear hK K
          refine wpAnyIn_done (by kernel_rfl) ?_ _
          gi_wp2
          exact hfin
  case done =>
    rintro W ⟨v, hv, hrow, hB, hge⟩ hK
    have hcv := hv.cell
    rw [hS0] at hK ⊢
    obtain ⟨ad, cp, rfl⟩ := owns_slice hrow
    gi_wp2
    refine ⟨by simp, .inl ⟨_, _, rfl, run_takeDeferred hK, ?_⟩⟩
    exact ⟨_, results_tmp rfl _ _ _, ad, cp, rfl, owns_low (ownsRow_putObj hrow _ hK rfl) (by omega), hB.trans (belowK_b (w := w) (Nat.le_refl _) W _ _ _ (by omega) hK rfl rfl)⟩
set_option maxHeartbeats 1000000 in
theorem implLines_big (s : ByteArray) (hs : 1500 < s.size) (w : World) :
    Calls Tryz.prog 80 #[.string s] w fun e w' => LinesPost [] w e w' := by
  have hsm : (1500 : Int) < s.size := by omega
  refine (callsIn_wide (n := 5)).1 ?_
  refine callsIn_of_wp_marks Tryz.func80 rfl trivial ?_ rfl
  simp only [Tryz.ntmps80, List.size_toArray, List.length_cons, List.length_nil, Nat.reduceAdd, Nat.reduceSub, Array.replicate_succ, Array.replicate_zero, List.push_toArray, List.append_toArray, List.nil_append, List.cons_append]
  gi_wp2
  exact ⟨_, results_tmp rfl _ _ _, none, 0, rfl, World.ownsRow_nil _ _ _ _, Below.refl _ _⟩

/-- The lines of a text; none if it has more than 1500 bytes. -/
theorem implLines_any (s : ByteArray) (w : World) :
    Calls Tryz.prog 80 #[.string s] w fun e w' => LinesPost (linesT s) w e w' := by
  by_cases h : s.size ≤ 1500
  · rw [linesT, if_pos h]; exact implLines_small s h w
  · rw [linesT, if_neg h]; exact implLines_big s (by omega) w
end Go.Proofs.YtjiafjdjocmodaaGreat

namespace Go.Proofs.YtjiafjdjocmodaaGreat
open Go.RowKit

/-- Places, each behind the one before, in bounds. -/
def Chain (lb la lc : List ByteArray) : Pl → List Pl → Prop
  | _, [] => True
  | f, t :: ts => f.1 ≤ t.1 ∧ f.2.1 ≤ t.2.1 ∧ f.2.2 ≤ t.2.2 ∧ t.1 ≤ lb.length ∧ t.2.1 ≤ la.length ∧ t.2.2 ≤ lc.length ∧ Chain lb la lc t ts
theorem chain_of {lb la lc : List ByteArray} : ∀ {ts : List Pl} {f : Pl}, Stands lb la lc f ts → f.1 ≤ lb.length → f.2.1 ≤ la.length → f.2.2 ≤ lc.length → Chain lb la lc f (ts ++ [(lb.length, la.length, lc.length)])
  | [], f, _, h1, h2, h3 => ⟨h1, h2, h3, Nat.le_refl _, Nat.le_refl _, Nat.le_refl _, trivial⟩
  | t :: ts, f, h, h1, h2, h3 => by
    obtain ⟨a1, a2, a3, a4, a5, a6, _, _, hr⟩ := h
    exact ⟨a1, a2, a3, by omega, by omega, by omega, chain_of (hr.mono (by simp) (by simp) (by simp)) (by omega) (by omega) (by omega)⟩

theorem plC_get : ∀ (ts : List Pl) (i : Nat) (h : i < ts.length), (plC ts)[i * 3]? = some (.int .i64 (ts[i].1 : Int)) ∧ (plC ts)[i * 3 + 1]? = some (.int .i64 (ts[i].2.1 : Int)) ∧ (plC ts)[i * 3 + 2]? = some (.int .i64 (ts[i].2.2 : Int))
  | [], i, h => by simp at h
  | p :: ps, 0, h => by simp [plC]
  | p :: ps, i + 1, h => by
    have ih := plC_get ps i (by simpa using h)
    have e : plC (p :: ps) = .int .i64 (p.1 : Int) :: .int .i64 (p.2.1 : Int) :: .int .i64 (p.2.2 : Int) :: plC ps := by simp [plC]
    rw [e, show (i + 1) * 3 = i * 3 + 1 + 1 + 1 by omega]
    simpa using ih

theorem rdp_of_row {w : World} {base : Nat} {ad : Option Addr} {cp : Nat} {ps : List (Nat × Nat)} (h : w.ownsRow base 146 2 (.slice ad ps.length cp) ps.length (pairC ps)) : RdP w (.slice ad ps.length cp) ps := by
  refine ⟨ad, cp, rfl, ?_, ps_of_row h⟩
  rcases h.2 with ⟨hv, h0⟩ | ⟨g, c, cur, hv, _, _, h4, _⟩
  · omega
  · cases hv; exact h4

theorem row_ne {v : Value} {row : Option Nat} (h : ∀ k, v.ownBlock = some k → row = some k → False) : v.ownBlock = none ∨ v.ownBlock ≠ row := by
  cases hv : v.ownBlock with
  | none => exact .inl rfl
  | some k => exact .inr (fun e => h k hv e.symm)

set_option maxRecDepth 20000 in
set_option maxHeartbeats 8000000 in
theorem implMerge_small (sb sa sc : ByteArray) (pa pb : List (Nat × Nat)) (w : World) (h1 : sb.size ≤ 1500) (h2 : sa.size ≤ 1500) (h3 : sc.size ≤ 1500) (hpa : CommT (linesB sb) (linesB sa) pa) (hpb : CommT (linesB sb) (linesB sc) pb) :
    Calls Tryz.prog 61 #[.string sb, .string sa, .string sc] w fun e w' => e = .returned (mrgV (mergeL (linesB sb) (linesB sa) (linesB sc) pa pb)) ∧ Below w.heap.size w w' := by
  obtain ⟨ti, hti, hz0, hz1, hz2⟩ := info_parts Tryz.infoPlace
  have e1 : decide ((1500 : Int) < sb.size) = false := by simp; omega
  have e2 : decide ((1500 : Int) < sa.size) = false := by simp; omega
  have e3 : decide ((1500 : Int) < sc.size) = false := by simp; omega
  have cLb := fun W => implLines_any sb W
  have cLa := fun W => implLines_any sa W
  have cLc := fun W => implLines_any sc W
  unfold linesT at cLb cLa cLc
  rw [if_pos h1] at cLb
  rw [if_pos h2] at cLa
  rw [if_pos h3] at cLc
  have nb := linesB_le sb
  have na := linesB_le sa
  have nc := linesB_le sc
  have gb := seg_lines sb
  have ga := seg_lines sa
  have gc := seg_lines sc
  have zb : ∀ x ∈ linesB sb, x.size ≤ 1099511627776 := fun x hx => by have := line_size hx; omega
  have za : ∀ x ∈ linesB sa, x.size ≤ 1099511627776 := fun x hx => by have := line_size hx; omega
  have zc : ∀ x ∈ linesB sc, x.size ≤ 1099511627776 := fun x hx => by have := line_size hx; omega
  generalize linesB sb = lb at *
  generalize linesB sa = la at *
  generalize linesB sc = lc at *
  have hla := hpa.len
  have hlc := hpb.len
  have hAa := hpa.asc
  have hAb := hpb.asc
  have hch := chain_of (stands_all hpa hpb) (Nat.zero_le _) (Nat.zero_le _) (Nat.zero_le _)
  have hpl := placesP_len pa pb
  obtain ⟨Z, hZ⟩ : ∃ Z, mergeL lb la lc pa pb = Z := ⟨_, rfl⟩
  rw [hZ]
  have HZ : NKeep (runI lb la lc (0, 0, 0) (placesP pa pb ++ [(lb.length, la.length, lc.length)]) = Z) := ⟨hZ⟩
  clear hZ
  have cSt := fun a1 c1 v2 W k1 k2 => standing_any lb la lc pa pb a1 c1 v2 W k1 k2 hAa hAb hla hlc
  generalize placesP pa pb = ts at *
  go_enter Tryz.func61, Tryz.ntmps61
  go_wp2_with fail
  refine (cLb _).mono ?_
  rintro e w1 ⟨a1, c1, rfl, o1, b1⟩
  have hl1 : ∀ k, (Value.slice a1 lb.length c1).ownBlock = some k → k < w1.heap.size := fun k hk => own_lt o1 hk
  go_wp2_with fail
  refine (cLa _).mono ?_
  rintro e w2 ⟨a2, c2, rfl, o2, b2⟩
  have hl2 : ∀ k, (Value.slice a2 la.length c2).ownBlock = some k → k < w2.heap.size := fun k hk => own_lt o2 hk
  have bx2 := b1.trans (b2.mono b1.size)
  replace o1 := owns_below o1 b2
  go_wp2_with fail
  refine (cLc _).mono ?_
  rintro e w3 ⟨a3, c3, rfl, o3, b3⟩
  have hl3 : ∀ k, (Value.slice a3 lc.length c3).ownBlock = some k → k < w3.heap.size := fun k hk => own_lt o3 hk
  have bx3 := bx2.trans (b3.mono bx2.size)
  replace o1 := owns_below o1 b3
  replace o2 := owns_below o2 b3
  clear cLb cLa cLc
  go_wp2_with fail
  refine (implCommon_any a1 a2 c1 c2 lb la pa w3 (rdl_of_row o1).2 (rdl_of_row o2).2 hpa zb za).mono ?_
  rintro e w4 ⟨a4, c4, rfl, o4, b4⟩
  have bx4 := bx3.trans (b4.mono bx3.size)
  replace o1 := owns_below o1 b4
  replace o2 := owns_below o2 b4
  replace o3 := owns_below o3 b4
  go_wp2_with fail
  refine (implCommon_any a1 a3 c1 c3 lb lc pb w4 (rdl_of_row o1).2 (rdl_of_row o3).2 hpb zb zc).mono ?_
  rintro e w5 ⟨a5, c5, rfl, o5, b5⟩
  have bx5 := bx4.trans (b5.mono bx4.size)
  replace o1 := owns_below o1 b5
  replace o2 := owns_below o2 b5
  replace o3 := owns_below o3 b5
  replace o4 := owns_below o4 b5
  go_wp2_with fail
  refine (cSt a4 c4 _ w5 (ps_of_row o4) (rdp_of_row o5)).mono ?_
  rintro e w6 ⟨a6, c6, rfl, o6, b6⟩
  have bx6 := bx5.trans (b6.mono bx5.size)
  replace o1 := owns_below o1 b6
  replace o2 := owns_below o2 b6
  replace o3 := owns_below o3 b6
  have hs56 := b6.size
  have hr1 : ∀ k, (Value.slice a1 lb.length c1).ownBlock = some k → k < w5.heap.size := fun k hk => Nat.lt_of_lt_of_le (hl1 k hk) (Nat.le_trans (Nat.le_trans (Nat.le_trans b2.size b3.size) b4.size) b5.size)
  have hr2 : ∀ k, (Value.slice a2 la.length c2).ownBlock = some k → k < w5.heap.size := fun k hk => Nat.lt_of_lt_of_le (hl2 k hk) (Nat.le_trans (Nat.le_trans b3.size b4.size) b5.size)
  have hr3 : ∀ k, (Value.slice a3 lc.length c3).ownBlock = some k → k < w5.heap.size := fun k hk => Nat.lt_of_lt_of_le (hl3 k hk) (Nat.le_trans b4.size b5.size)
  have h65 := owns_base o6
  clear o4 o5 cSt b1 b2 b3 b4 b5 b6 bx2 bx3 bx4 hpa hpb hAa hAb zb za zc hl1 hl2 hl3
  have hs6 := bx6.size
  go_wp2_with (at_builtin; refine wpList_append_own _ rfl _ _ 107 rfl w5.heap.size 112 ti _ 3 24 Tryz.underlying107 hti hz0 hz1 hz2 rfl (by decide) _ _ _ rfl (o6.alloc _) ⟨w6.heap.size, 0, none⟩ 1 1 [.int .i64 (lb.length : Int), .int .i64 (la.length : Int), .int .i64 (lc.length : Int)] rfl rfl (fun j' u h => World.news_of_block (w := w6.alloc _) (heap_alloc_new _ _) j' u h) (by simp [Value.oneCell']) (by unfold maxLen; omega) (by omega) (by simp; omega) ?_; intro v7 w7 o7 g7 _; obtain ⟨a7, c7, rfl⟩ := owns_slice o7)
  have bx7 : Below w.heap.size w w7 := (bx6.alloc hs6 _).grown g7 (by simp; omega) (fun k hk => by have := h65 k hk; have := bx5.size; omega)
  obtain ⟨q1, s1⟩ := rdl_of_row ((o1.alloc _).kept g7 (row_ne (fun k hk e => by have := hr1 k hk; have := h65 k e; omega)))
  obtain ⟨q2, s2⟩ := rdl_of_row ((o2.alloc _).kept g7 (row_ne (fun k hk e => by have := hr2 k hk; have := h65 k e; omega)))
  obtain ⟨q3, s3⟩ := rdl_of_row ((o3.alloc _).kept g7 (row_ne (fun k hk e => by have := hr3 k hk; have := h65 k e; omega)))
  rw [← plC_snoc] at o7
  have hs7 := bx7.size
  clear o1 o2 o3 o6 hr1 hr2 hr3 h65 g7 hs56 hs6 bx6 bx5
  obtain ⟨al, hal⟩ : ∃ al, al = ts ++ [(lb.length, la.length, lc.length)] := ⟨_, rfl⟩
  obtain ⟨N1, hN1⟩ : ∃ N1, N1 = ts.length + 1 := ⟨_, rfl⟩
  have hall : al.length = N1 := by rw [hal, hN1]; simp
  rw [← hal] at hch o7
  have HZ1 : NKeep (runI lb la lc (0, 0, 0) al = Z) := ⟨by rw [hal]; exact HZ.out⟩
  rw [← hN1] at o7
  rw [← hN1, show ((ts.length : Int) + 1) = (N1 : Int) by omega]
  have hN2 : N1 ≤ 1501 := by omega
  obtain ⟨g7, hg7, o7c⟩ : ∃ g7, a7 = some ⟨g7, 0, none⟩ ∧ ∀ k (hk : k < al.length), w7.cell? ⟨g7, k * 3, none⟩ = some (.int .i64 (al[k].1 : Int)) ∧ w7.cell? ⟨g7, k * 3 + 1, none⟩ = some (.int .i64 (al[k].2.1 : Int)) ∧ w7.cell? ⟨g7, k * 3 + 2, none⟩ = some (.int .i64 (al[k].2.2 : Int)) := by
    rcases o7.2 with ⟨_, h0⟩ | ⟨g, c, cur, hv, _⟩
    · omega
    · cases hv
      refine ⟨g, rfl, fun k hk => ?_⟩
      obtain ⟨x0, x1, x2⟩ := plC_get al k hk
      exact ⟨(World.ownsRow.cellAt o7 _ (by omega)).trans x0, (World.ownsRow.cellAt o7 _ (by omega)).trans x1, (World.ownsRow.cellAt o7 _ (by omega)).trans x2⟩
  rw [hg7]
  obtain ⟨W0, hW0⟩ : ∃ W0, (w7.alloc (.cells #[.pointer none, .slice none 0 0] 115)).alloc (.cells #[.int .i64 0, .int .i64 0, .int .i64 0] 112) = W0 := ⟨_, rfl⟩
  have hb0 : Below w7.heap.size w7 W0 := by rw [← hW0]; exact ((Below.refl _ _).alloc (Nat.le_refl _) _).alloc (by simp) _
  have hf0 : W0.heap[w7.heap.size + 1]? = some (.cells #[.int .i64 0, .int .i64 0, .int .i64 0] 112) := by rw [← hW0]; exact heap_alloc2 w7 _ _
  have hm0 : BldM w7.heap.size w7.heap.size [] W0 := by
    refine .inl ⟨Nat.le_refl _, .slice none 0 0, ?_, ⟨rfl, .inl ⟨rfl, rfl⟩⟩, by simp [Value.ownBlock]⟩
    rw [← hW0]
    exact (Below.heap_alloc _ _ _ (by simp)).trans (heap_alloc_new w7 _)
  rw [hW0]
  clear hW0 hal hN1 hg7 o7 HZ
  go_loopg [56] N1 (fun gk ix wr => ∃ (k : Nat) (f : Pl) (out : List UInt8), k + gk = N1 ∧ ix = .int .i64 (k : Int) ∧ NKeep (Chain lb la lc f (al.drop k) ∧ Z = (runI lb la lc f (al.drop k)).map (out ++ ·)) ∧ out.length ≤ 1500 * k ∧ NKeep (BldM w7.heap.size w7.heap.size out wr) ∧
    wr.heap[w7.heap.size + 1]? = some (.cells #[.int .i64 (f.1 : Int), .int .i64 (f.2.1 : Int), .int .i64 (f.2.2 : Int)] 112) ∧ Below w7.heap.size w7 wr)
  case atStart => exact ⟨0, (0, 0, 0), [], by omega, rfl, ⟨hch, by rw [← HZ1.out]; simp⟩, Nat.zero_le _, ⟨hm0⟩, hf0, hb0⟩
  case round =>
    obtain ⟨k, f, out, hkg, rfl, HK, hol, HM, hF, hB⟩ := hrel
    have hbw : Below w.heap.size w wr := bx7.trans (hB.mono hs7)
    have hsB := hB.size
    cases gk with
    | zero =>
      obtain rfl : k = N1 := by omega
      have HZ2 : NKeep (Z = some out) := ⟨by rw [HK.out.2, List.drop_of_length_le (by omega)]; simp [runI]⟩
      have hstr := stringB_any w7.heap.size w7.heap.size out wr HM.out hsB
      go_wp2_with (go_at_call 86; refine hstr.mono ?_; rintro e w8 ⟨rfl, hb8⟩)
      go_ret2
      rw [HZ2.out]
      exact ⟨rfl, hbw.trans (hb8.mono hs7)⟩
    | succ gq =>
      have hk : k < al.length := by omega
      have hk' : (k : Int) < N1 := by omega
      have hdr : al.drop k = al[k] :: al.drop (k + 1) := List.drop_eq_getElem_cons hk
      obtain ⟨x0', x1', x2'⟩ := o7c k hk
      have x0 := cell_later hB x0'
      have x1 := cell_later hB x1'
      have x2 := cell_later hB x2'
      clear x0' x1' x2'
      have HK2 := HK.out
      rw [hdr] at HK2
      obtain ⟨t, ht⟩ : ∃ t, al[k] = t := ⟨_, rfl⟩
      rw [ht] at HK2 x0 x1 x2
      obtain ⟨⟨y1, y2, y3, y4, y5, y6, hcn⟩, hzz⟩ := HK2
      rw [runI] at hzz
      have HCN : NKeep (Chain lb la lc t (al.drop (k + 1))) := ⟨hcn⟩
      clear hdr ht hcn HK
      obtain ⟨f1, f2, f3⟩ := f
      obtain ⟨t1, t2, t3⟩ := t
      simp only at y1 y2 y3 y4 y5 y6 hzz x0 x1 x2 hF
      go_wp2
      obtain ⟨q, hq⟩ : ∃ q, wr.heap.size = q := ⟨_, rfl⟩
      obtain ⟨W2, hW2⟩ : ∃ W2, wr.alloc (.cells #[.int .i64 (t1 : Int), .int .i64 (t2 : Int), .int .i64 (t3 : Int)] 112) = W2 := ⟨_, rfl⟩
      have hb2 : Below wr.heap.size wr W2 := by rw [← hW2]; exact (Below.refl _ _).alloc (Nat.le_refl _) _
      have hbF : w7.heap.size + 1 < wr.heap.size := (Array.getElem?_eq_some_iff.1 hF).1
      have hq2 : W2.heap[q]? = some (.cells #[.int .i64 (t1 : Int), .int .i64 (t2 : Int), .int .i64 (t3 : Int)] 112) := by rw [← hW2, ← hq]; exact heap_alloc_new wr _
      have hF2 := (hb2.block _ hbF).trans hF
      have HM2 : NKeep (BldM w7.heap.size w7.heap.size out W2) := ⟨HM.out.below hb2⟩
      have hB2 : Below w7.heap.size w7 W2 := hB.trans (hb2.mono hsB)
      have hsz2 : wr.heap.size < W2.heap.size := by rw [hq]; exact (Array.getElem?_eq_some_iff.1 hq2).1
      rw [hq, hW2]
      have hbw2 : Below w.heap.size w W2 := bx7.trans (hB2.mono hs7)
      clear hW2 HM hF hb2 hB hbw x0 x1 x2
      obtain ⟨v1, hsl1, hr1⟩ := mid_at q1 (s1.below hB2) y1 y4
      obtain ⟨v2, hsl2, hr2⟩ := mid_at q2 (s2.below hB2) y2 y5
      obtain ⟨v3, hsl3, hr3⟩ := mid_at q3 (s3.below hB2) y3 y6
      have l1 := gb f1 t1
      have l2 := ga f2 t2
      have l3 := gc f3 t3
      have J1 : NKeep (∀ x : Later W2, Calls Tryz.prog 84 #[v1, .string ⟨#[]⟩] x.world fun e w'' => e = .returned (.string (lnB (seg lb f1 t1))) ∧ ∃ y : Later W2, w'' = y.world) := ⟨fun x => x.call (join_any v1 _ x.world (hr1.below x.kept) (by simp; omega) (Nat.le_trans l1 (by omega)))⟩
      have J2 : NKeep (∀ x : Later W2, Calls Tryz.prog 84 #[v2, .string ⟨#[]⟩] x.world fun e w'' => e = .returned (.string (lnB (seg la f2 t2))) ∧ ∃ y : Later W2, w'' = y.world) := ⟨fun x => x.call (join_any v2 _ x.world (hr2.below x.kept) (by simp; omega) (Nat.le_trans l2 (by omega)))⟩
      have J3 : NKeep (∀ x : Later W2, Calls Tryz.prog 84 #[v3, .string ⟨#[]⟩] x.world fun e w'' => e = .returned (.string (lnB (seg lc f3 t3))) ∧ ∃ y : Later W2, w'' = y.world) := ⟨fun x => x.call (join_any v3 _ x.world (hr3.below x.kept) (by simp; omega) (Nat.le_trans l3 (by omega)))⟩
      have HCh := fun (x : Later W2) => x.call ((choose_any (lnB (seg lb f1 t1)) (lnB (seg la f2 t2)) (lnB (seg lc f3 t3)) x.world).mono (fun e w' h => ⟨h.1, by rw [h.2]; exact Below.refl _ _⟩))
      simp only [lnB_list] at HCh
      have hc0 : ∀ x : Later W2, x.world.cell? ⟨w7.heap.size + 1, 0, none⟩ = some (.int .i64 (f1 : Int)) := fun x => cell_later x.kept (by simp [World.cell?, hF2])
      have hc1 : ∀ x : Later W2, x.world.cell? ⟨w7.heap.size + 1, 1, none⟩ = some (.int .i64 (f2 : Int)) := fun x => cell_later x.kept (by simp [World.cell?, hF2])
      have hc2 : ∀ x : Later W2, x.world.cell? ⟨w7.heap.size + 1, 2, none⟩ = some (.int .i64 (f3 : Int)) := fun x => cell_later x.kept (by simp [World.cell?, hF2])
      have hd0 : ∀ x : Later W2, x.world.cell? ⟨q, 0, none⟩ = some (.int .i64 (t1 : Int)) := fun x => cell_later x.kept (by simp [World.cell?, hq2])
      have hd1 : ∀ x : Later W2, x.world.cell? ⟨q, 1, none⟩ = some (.int .i64 (t2 : Int)) := fun x => cell_later x.kept (by simp [World.cell?, hq2])
      have hd2 : ∀ x : Later W2, x.world.cell? ⟨q, 2, none⟩ = some (.int .i64 (t3 : Int)) := fun x => cell_later x.kept (by simp [World.cell?, hq2])
      generalize seg lb f1 t1 = X at *
      generalize seg la f2 t2 = Y at *
      generalize seg lc f3 t3 = U at *
      clear hr1 hr2 hr3
      cases h3v : three X Y U with
      | none =>
        rw [h3v] at HCh hzz
        have HC : NKeep (∀ x : Later W2, Calls Tryz.prog 83 #[.string (lnB X), .string (lnB Y), .string (lnB U)] x.world fun e w'' => e = .returned (.tuple #[.string ⟨#[]⟩, .bool false]) ∧ ∃ y : Later W2, w'' = y.world) := ⟨HCh⟩
        have HF : NKeep (Z = none) := ⟨by rw [hzz]; rfl⟩
        clear HCh hzz h3v
        generalize lnB X = X' at *
        generalize lnB Y = Y' at *
        generalize lnB U = U' at *
        (haveI := later_any; refine wp_region_later (by kernel_rfl) (by kernel_rfl) ?_; (repeat (go_big_quiet_step (first | (go_at_call_of 84 v1; exact J1.out _) | (go_at_call_of 84 v2; exact J2.out _) | (go_at_call_of 84 v3; exact J3.out _) | (go_at_call 83; exact HC.out _)))); refine wpQuiet_nil ?_; intro _ hwq; obtain ⟨xq, hwq2⟩ := hwq; subst hwq2)
        go_wp2
        go_ret2
        rw [HF.out]
        exact ⟨rfl, hbw2.trans (xq.kept.mono hbw2.size)⟩
      | some s =>
        rw [h3v] at HCh hzz
        have HC : NKeep (∀ x : Later W2, Calls Tryz.prog 83 #[.string (lnB X), .string (lnB Y), .string (lnB U)] x.world fun e w'' => e = .returned (.tuple #[.string (lnB s), .bool true]) ∧ ∃ y : Later W2, w'' = y.world) := ⟨HCh⟩
        have hsl := three_le h3v (Nat.le_trans l2 h2) (Nat.le_trans l3 h3)
        have HZ3 : NKeep (Z = (runI lb la lc (t1, t2, t3) (al.drop (k + 1))).map ((out ++ s) ++ ·)) := ⟨by
          rw [hzz]
          cases runI lb la lc (t1, t2, t3) (al.drop (k + 1)) <;> simp⟩
        have hsS : (lnB s).size = s.length := lnB_size s
        clear HCh hzz h3v
        generalize lnB X = X' at *
        generalize lnB Y = Y' at *
        generalize lnB U = U' at *
        (haveI := later_any; refine wp_region_later (by kernel_rfl) (by kernel_rfl) ?_; (repeat (go_big_quiet_step (first | (go_at_call_of 84 v1; exact J1.out _) | (go_at_call_of 84 v2; exact J2.out _) | (go_at_call_of 84 v3; exact J3.out _) | (go_at_call 83; exact HC.out _)))); refine wpQuiet_nil ?_; intro _ hwq; obtain ⟨xq, hwq2⟩ := hwq; subst hwq2)
        have hwr := writeS_any w7.heap.size w7.heap.size out (lnB s) xq.world (HM2.out.below xq.kept) (by rw [hsS]; omega) (Nat.le_trans hB2.size xq.kept.size)
        have hFx := (xq.kept.block _ (Nat.lt_trans hbF hsz2)).trans hF2
        have hqx := (xq.kept.block q (by omega)).trans hq2
        clear hsS
        go_wp2_with (go_at_call 85; refine hwr.mono ?_; rintro e w8 ⟨rfl, hm8, hb8, ho8⟩
                     have hF8 := ho8 _ _ hFx (by simp) (by simp)
                     have hq8 := ho8 _ _ hqx (by simp; omega) (by simp)
                     have z0 : w8.cell? ⟨q, 0, none⟩ = some (.int .i64 (t1 : Int)) := by simp [World.cell?, hq8]
                     have z1 : w8.cell? ⟨q, 1, none⟩ = some (.int .i64 (t2 : Int)) := by simp [World.cell?, hq8]
                     have z2 : w8.cell? ⟨q, 2, none⟩ = some (.int .i64 (t3 : Int)) := by simp [World.cell?, hq8]
                     have c80 : w8.cell? ⟨w7.heap.size + 1, 0, none⟩ = some (.int .i64 (f1 : Int)) := by simp [World.cell?, hF8]
                     have c81 : w8.cell? ⟨w7.heap.size + 1, 1, none⟩ = some (.int .i64 (f2 : Int)) := by simp [World.cell?, hF8]
                     have c82 : w8.cell? ⟨w7.heap.size + 1, 2, none⟩ = some (.int .i64 (f3 : Int)) := by simp [World.cell?, hF8]
                     have d80 : w8.frozen? ⟨w7.heap.size + 1, 0, none⟩ = false := by simp [World.frozen?, hF8]
                     have d81 : w8.frozen? ⟨w7.heap.size + 1, 1, none⟩ = false := by simp [World.frozen?, hF8]
                     have d82 : w8.frozen? ⟨w7.heap.size + 1, 2, none⟩ = false := by simp [World.frozen?, hF8])
        have hF9 := heap_setCell_same w8 (w7.heap.size + 1) 0 _ _ (.int .i64 (t1 : Int)) hF8
        have hF10 := heap_setCell_same _ (w7.heap.size + 1) 1 _ _ (.int .i64 (t2 : Int)) hF9
        have hF11 := heap_setCell_same _ (w7.heap.size + 1) 2 _ _ (.int .i64 (t3 : Int)) hF10
        go_roundg gq
        case measure => omega
        case rel =>
          refine ⟨k + 1, (t1, t2, t3), out ++ s, by omega, by go_num, ⟨HCN.out, HZ3.out⟩, by simp; omega, ⟨?_⟩, ?_, ?_⟩
          · have := ((hm8.set hF8 (by decide) (by omega) 0 (.int .i64 (t1 : Int))).set hF9 (by decide) (by omega) 1 (.int .i64 (t2 : Int))).set hF10 (by decide) (by omega) 2 (.int .i64 (t3 : Int))
            rw [lnB_list] at this
            exact this
          · exact hF11
          · exact ((((hB2.trans (xq.kept.mono hB2.size)).trans hb8).setCell (p := ⟨w7.heap.size + 1, 0, none⟩) (by simp) _).setCell (p := ⟨w7.heap.size + 1, 1, none⟩) (by simp) _).setCell (p := ⟨w7.heap.size + 1, 2, none⟩) (by simp) _
end Go.Proofs.YtjiafjdjocmodaaGreat

namespace Go.Proofs.YtjiafjdjocmodaaGreat
open Go.RowKit

/-- What merging three texts gives, and both sides give it. -/
def MText (sb sa sc : ByteArray) (o : Option (List UInt8)) : Prop :=
  (sb.size ≤ 1500 ∧ sa.size ≤ 1500 ∧ sc.size ≤ 1500 ∧ ∃ pa pb, CommT (linesB sb) (linesB sa) pa ∧ CommT (linesB sb) (linesB sc) pb ∧ o = mergeL (linesB sb) (linesB sa) (linesB sc) pa pb) ∨ ((1500 < sb.size ∨ 1500 < sa.size ∨ 1500 < sc.size) ∧ o = none)
theorem exists_mtext (sb sa sc : ByteArray) : ∃ o, MText sb sa sc o := by
  by_cases h : sb.size ≤ 1500 ∧ sa.size ≤ 1500 ∧ sc.size ≤ 1500
  · obtain ⟨pa, ha⟩ := exists_commT (linesB sb) (linesB sa)
    obtain ⟨pb, hb⟩ := exists_commT (linesB sb) (linesB sc)
    exact ⟨_, .inl ⟨h.1, h.2.1, h.2.2, pa, pb, ha, hb, rfl⟩⟩
  · exact ⟨none, .inr ⟨by omega, rfl⟩⟩

set_option maxHeartbeats 2000000 in
theorem implMText_any (sb sa sc : ByteArray) (o : Option (List UInt8)) (w : World) (h : MText sb sa sc o) :
    Calls Tryz.prog 61 #[.string sb, .string sa, .string sc] w fun e w' => e = .returned (mrgV o) ∧ Below w.heap.size w w' := by
  rcases h with ⟨h1, h2, h3, pa, pb, ha, hb, rfl⟩ | ⟨hbig, rfl⟩
  · exact implMerge_small sb sa sc pa pb w h1 h2 h3 ha hb
  · by_cases h1 : 1500 < sb.size
    · have e1 : decide ((1500 : Int) < sb.size) = true := by simp; omega
      go_enter Tryz.func61, Tryz.ntmps61
      go_wp2
      go_ret2
      exact ⟨rfl, Below.refl _ _⟩
    · have e1 : decide ((1500 : Int) < sb.size) = false := by simp; omega
      by_cases h2 : 1500 < sa.size
      · have e2 : decide ((1500 : Int) < sa.size) = true := by simp; omega
        go_enter Tryz.func61, Tryz.ntmps61
        go_wp2
        go_ret2
        exact ⟨rfl, Below.refl _ _⟩
      · have e2 : decide ((1500 : Int) < sa.size) = false := by simp; omega
        have e3 : decide ((1500 : Int) < sc.size) = true := by simp; omega
        go_enter Tryz.func61, Tryz.ntmps61
        go_wp2
        go_ret2
        exact ⟨rfl, Below.refl _ _⟩

set_option maxHeartbeats 2000000 in
theorem specMText_any (sb sa sc : ByteArray) (o : Option (List UInt8)) (w : World) (h : MText sb sa sc o) :
    Calls Tryz.prog 68 #[.string sb, .string sa, .string sc] w fun e w' => e = .returned (mrgV o) ∧ Below w.heap.size w w' := by
  rcases h with ⟨h1, h2, h3, pa, pb, ha, hb, rfl⟩ | ⟨hbig, rfl⟩
  · exact specMerge_small sb sa sc pa pb w h1 h2 h3 ha hb
  · by_cases h1 : 1500 < sb.size
    · have e1 : decide ((1500 : Int) < sb.size) = true := by simp; omega
      go_enter Tryz.func68, Tryz.ntmps68
      go_wp2
      go_ret2
      exact ⟨rfl, Below.refl _ _⟩
    · have e1 : decide ((1500 : Int) < sb.size) = false := by simp; omega
      by_cases h2 : 1500 < sa.size
      · have e2 : decide ((1500 : Int) < sa.size) = true := by simp; omega
        go_enter Tryz.func68, Tryz.ntmps68
        go_wp2
        go_ret2
        exact ⟨rfl, Below.refl _ _⟩
      · have e2 : decide ((1500 : Int) < sa.size) = false := by simp; omega
        have e3 : decide ((1500 : Int) < sc.size) = true := by simp; omega
        go_enter Tryz.func68, Tryz.ntmps68
        go_wp2
        go_ret2
        exact ⟨rfl, Below.refl _ _⟩

theorem mrgV_tuple (o : Option (List UInt8)) : ∃ s b, mrgV o = .tuple #[.string s, .bool b] := by
  cases o with
  | none => exact ⟨_, _, rfl⟩
  | some s => exact ⟨_, _, rfl⟩
end Go.Proofs.YtjiafjdjocmodaaGreat

namespace Go.Proofs.YtjiafjdjocmodaaGreat
open Go.RowKit

theorem three_comm (x y z : List UInt8) : three x y z = three x z y := by
  unfold three
  by_cases h1 : y = x
  · by_cases h2 : z = x
    · rw [if_pos h1, if_pos h2, h1, h2]
    · rw [if_pos h1, if_neg h2, if_pos (.inl h1)]
  · by_cases h2 : z = x
    · rw [if_neg h1, if_pos (.inl h2), if_pos h2]
    · by_cases h3 : z = y
      · rw [if_neg h1, if_neg h2, if_pos (.inr h3), if_pos (.inr h3.symm), h3]
      · rw [if_neg h1, if_neg h2, if_neg (by rintro (h | h) <;> contradiction), if_neg (by rintro (h | h); exact h1 h; exact h3 h.symm)]
theorem three_base (x z : List UInt8) : three x x z = some z := by unfold three; rw [if_pos rfl]
theorem three_self (x y : List UInt8) : three x y y = some y := by
  unfold three
  split
  · rfl
  · rw [if_pos (.inr rfl)]

/-- Line by line of base. -/
def spN (lb la lc : List ByteArray) (pa pb : List (Nat × Nat)) : Nat → Nat → Nat → Nat → Nat → Option (List UInt8)
  | 0, n, i, j, k => three (seg lb i n) (seg la j la.length) (seg lc k lc.length)
  | f + 1, n, i, j, k => match withP pa n, withP pb n with
    | some x, some y => match three (seg lb i n) (seg la j x) (seg lc k y) with
      | none => none
      | some s => (spN lb la lc pa pb f (n + 1) (n + 1) (x + 1) (y + 1)).map ((s ++ ((lb[n]?).getD ⟨#[]⟩).data.toList) ++ ·)
    | _, _ => spN lb la lc pa pb f (n + 1) i j k

theorem spN_comm (lb la lc : List ByteArray) (pa pb : List (Nat × Nat)) : ∀ (f n i j k : Nat), spN lb la lc pa pb f n i j k = spN lb lc la pb pa f n i k j
  | 0, n, i, j, k => three_comm _ _ _
  | f + 1, n, i, j, k => by
    rw [spN, spN]
    cases hx : withP pa n with
    | none =>
      cases hy : withP pb n with
      | none => exact spN_comm lb la lc pa pb f (n + 1) i j k
      | some y => exact spN_comm lb la lc pa pb f (n + 1) i j k
    | some x =>
      cases hy : withP pb n with
      | none => exact spN_comm lb la lc pa pb f (n + 1) i j k
      | some y =>
        simp only
        rw [three_comm, spN_comm lb la lc pa pb f]

theorem At.sp {lb la lc : List ByteArray} {pa pb : List (Nat × Nat)} (hb : Asc2 lb lc 0 0 pb) : ∀ (f n i j k j1 : Nat) (out : List UInt8) (R : List (Nat × Nat)), At lb la lc pa pb n i j k out R j1 → n + f = lb.length →
    runS lb la lc (0, 0, 0) (placesP pa pb) (lb.length, la.length, lc.length) = (spN lb la lc pa pb f n i j k).map (out ++ ·)
  | 0, n, i, j, k, j1, out, R, h, hn => by
    have : n = lb.length := by omega
    subst this
    rw [h.ends]
    rfl
  | f + 1, n, i, j, k, j1, out, R, h, hn => by
    rw [spN]
    cases hx : withP pa n with
    | none => exact At.sp hb f (n + 1) i j k j1 out R (h.skipA hx) (by omega)
    | some x =>
      cases hy : withP pb n with
      | none =>
        obtain ⟨R', h'⟩ := h.skipB hx hy
        exact At.sp hb f (n + 1) i j k _ out R' h' (by omega)
      | some y =>
        obtain ⟨_, _, _, _, hno, hyes⟩ := h.takes hb hx hy
        simp only
        cases h3 : three (seg lb i n) (seg la j x) (seg lc k y) with
        | none => rw [hno h3]; rfl
        | some s =>
          obtain ⟨R', h'⟩ := hyes s h3
          rw [At.sp hb f (n + 1) (n + 1) (x + 1) (y + 1) _ _ R' h' (by omega)]
          simp only
          cases spN lb la lc pa pb f (n + 1) (n + 1) (x + 1) (y + 1) <;> simp

theorem mergeL_sp {lb la lc : List ByteArray} {pa pb : List (Nat × Nat)} (ha : CommT lb la pa) (hb : CommT lb lc pb) : mergeL lb la lc pa pb = spN lb la lc pa pb lb.length 0 0 0 0 := by
  rw [mergeL_spec ha hb, At.sp hb.asc lb.length 0 0 0 0 0 [] pa (At.start ha.asc) (by omega)]
  cases spN lb la lc pa pb lb.length 0 0 0 0 <;> simp
theorem mergeL_comm {lb la lc : List ByteArray} {pa pb : List (Nat × Nat)} (ha : CommT lb la pa) (hb : CommT lb lc pb) : mergeL lb la lc pa pb = mergeL lb lc la pb pa := by
  rw [mergeL_sp ha hb, mergeL_sp hb ha, spN_comm]

theorem seg_nil (ls : List ByteArray) (i : Nat) : seg ls i i = [] := by
  unfold seg
  rw [List.drop_of_length_le (by simp; omega)]
  rfl
theorem seg_split {ls : List ByteArray} {k y : Nat} (h1 : k ≤ y) (h2 : y < ls.length) : seg ls k ls.length = seg ls k y ++ (ls[y].data.toList ++ seg ls (y + 1) ls.length) := by
  obtain ⟨d, rfl⟩ : ∃ d, y = k + d := ⟨y - k, by omega⟩
  induction d generalizing k with
  | zero =>
    simp only [Nat.add_zero]
    rw [seg_nil, seg_cons (i := k) (j := ls.length) (by omega) (Nat.le_refl _)]
    rfl
  | succ d ih =>
    have := ih (k := k + 1) (by omega) (by omega)
    rw [seg_cons (by omega) (Nat.le_refl _), this, seg_cons (i := k) (j := k + (d + 1)) (by omega) (by omega)]
    simp only [show k + 1 + d = k + (d + 1) by omega, List.append_assoc]

/-- One side unchanged: the other comes out. -/
theorem spN_base {lb lc : List ByteArray} {pa pb : List (Nat × Nat)} (hb : Asc2 lb lc 0 0 pb) (hid : ∀ n, n < lb.length → withP pa n = some n) : ∀ (f n i k : Nat), n + f = lb.length → k ≤ lc.length → (∀ m y, n ≤ m → withP pb m = some y → k ≤ y) → spN lb lb lc pa pb f n i i k = some (seg lc k lc.length)
  | 0, n, i, k, hn, hk, _ => by
    have : n = lb.length := by omega
    subst this
    rw [spN, three_base]
  | f + 1, n, i, k, hn, hk, H => by
    rw [spN, hid n (by omega)]
    cases hy : withP pb n with
    | none => exact spN_base hb hid f (n + 1) i k (by omega) hk (fun m y hm => H m y (by omega))
    | some y =>
      obtain ⟨_, y2, y3, y4⟩ := withP_some hb hy
      have hky := H n y (Nat.le_refl _) hy
      simp only
      rw [three_base, spN_base hb hid f (n + 1) (n + 1) (y + 1) (by omega) (by omega) (fun m y' hm hy' => withP_mono hb hy hy' (by omega)), seg_split hky y2, y4, List.getElem?_eq_getElem y2]
      simp
/-- Both sides the same: that comes out. -/
theorem spN_same {lb la : List ByteArray} {pa : List (Nat × Nat)} (ha : Asc2 lb la 0 0 pa) : ∀ (f n i j : Nat), n + f = lb.length → j ≤ la.length → (∀ m y, n ≤ m → withP pa m = some y → j ≤ y) → spN lb la la pa pa f n i j j = some (seg la j la.length)
  | 0, n, i, j, hn, hk, _ => by rw [spN, three_self]
  | f + 1, n, i, j, hn, hk, H => by
    rw [spN]
    cases hy : withP pa n with
    | none => exact spN_same ha f (n + 1) i j (by omega) hk (fun m y hm => H m y (by omega))
    | some y =>
      obtain ⟨_, y2, y3, y4⟩ := withP_some ha hy
      have hky := H n y (Nat.le_refl _) hy
      simp only
      rw [three_self, spN_same ha f (n + 1) (n + 1) (y + 1) (by omega) (by omega) (fun m y' hm hy' => withP_mono ha hy hy' (by omega)), seg_split hky y2, y4, List.getElem?_eq_getElem y2]
      simp

/-- A list with itself. -/
theorem lcs_id {m : Nat} {E : Nat → Nat → Bool} (h : ∀ i, i < m → E i i = true) : ∀ (d i : Nat), i + d = m → lcs m m E i i = d
  | 0, i, hi => by
    have : i = m := by omega
    subst this
    exact lcs_m _ _ _ _
  | d + 1, i, hi => by rw [(lcs_max E (by omega) (by omega) (h i (by omega))).1, lcs_id h d (i + 1) (by omega)]
theorem comm_id {m : Nat} {E : Nat → Nat → Bool} (h : ∀ i, i < m → E i i = true) : ∀ (d i : Nat) (ps : List (Nat × Nat)), i + d = m → Comm m m E i i ps → ∀ n, i ≤ n → n < m → withP ps n = some n
  | 0, i, ps, hi, _, n, h1, h2 => by omega
  | d + 1, i, ps, hi, hc, n, h1, h2 => by
    have hl := lcs_id h (d + 1) i hi
    obtain ⟨x, y, r, rfl, hf, hr⟩ := hc.pos (by omega)
    have hfit : Fits m m E (lcs m m E i i) i i := ⟨h i (by omega), (lcs_max E (by omega) (by omega) (h i (by omega))).1.symm⟩
    have ex : i = x := by
      rcases Nat.lt_or_ge i x with h3 | h3
      · exact absurd hfit (hf.row i i (Nat.le_refl _) h3 (Nat.le_refl _) (by omega))
      · have := hf.ix; omega
    subst ex
    have ey : i = y := by
      rcases Nat.lt_or_ge i y with h3 | h3
      · exact absurd hfit (hf.col i (Nat.le_refl _) h3)
      · have := hf.jy; omega
    subst ey
    rw [withP]
    by_cases hn : i = n
    · rw [if_pos (by simpa using hn), hn]
    · rw [if_neg (by simpa using hn)]
      exact comm_id h d (i + 1) r (by omega) hr n (by omega) h2

theorem seg_all (s : ByteArray) : seg (linesB s) 0 (linesB s).length = s.data.toList := by
  rw [← catL_lines]
  unfold seg catL
  rw [List.take_length]
  rfl
theorem MText.sym {sb sa sc : ByteArray} {o : Option (List UInt8)} (h : MText sb sa sc o) : MText sb sc sa o := by
  rcases h with ⟨h1, h2, h3, pa, pb, ha, hb, rfl⟩ | ⟨h, rfl⟩
  · exact .inl ⟨h1, h3, h2, pb, pa, hb, ha, mergeL_comm ha hb⟩
  · exact .inr ⟨by omega, rfl⟩
theorem mtext_base {sb sc : ByteArray} (h1 : sb.size ≤ 1500) (h3 : sc.size ≤ 1500) : MText sb sb sc (some sc.data.toList) := by
  obtain ⟨pa, ha⟩ := exists_commT (linesB sb) (linesB sb)
  obtain ⟨pb, hb⟩ := exists_commT (linesB sb) (linesB sc)
  refine .inl ⟨h1, h1, h3, pa, pb, ha, hb, ?_⟩
  have hl := linesB_le sb
  have hid : ∀ n, n < (linesB sb).length → withP pa n = some n := fun n hn => by
    rcases ha with ⟨_, _, hc⟩ | ⟨hbig, _⟩
    · exact comm_id (fun i hi => (eqL_iff hi hi).2 rfl) (linesB sb).length 0 pa (by omega) hc n (Nat.zero_le _) hn
    · omega
  rw [mergeL_sp ha hb, spN_base hb.asc hid _ 0 0 0 (by omega) (Nat.zero_le _) (fun _ _ _ _ => Nat.zero_le _), seg_all]
theorem mtext_same {sb sa : ByteArray} (h1 : sb.size ≤ 1500) (h2 : sa.size ≤ 1500) : MText sb sa sa (some sa.data.toList) := by
  obtain ⟨pa, ha⟩ := exists_commT (linesB sb) (linesB sa)
  refine .inl ⟨h1, h2, h2, pa, pa, ha, ha, ?_⟩
  rw [mergeL_sp ha ha, spN_same ha.asc _ 0 0 0 (by omega) (Nat.zero_le _) (fun _ _ _ _ => Nat.zero_le _), seg_all]
theorem MText.big {sb sa sc : ByteArray} {o : Option (List UInt8)} (h : MText sb sa sc o) (hb : 1500 < sb.size ∨ 1500 < sa.size ∨ 1500 < sc.size) : o = none := by
  rcases h with ⟨h1, h2, h3, _⟩ | ⟨_, rfl⟩
  · omega
  · rfl
end Go.Proofs.YtjiafjdjocmodaaGreat

namespace Go.Proofs.YtjiafjdjocmodaaGreat
open Go.ChangeShapes Go.WideShapes Go.ChangeAt Go.RowKit

theorem cellsEntry : Tryz.prog.cellsOf 100 = 3 := by kernel_rfl
theorem cellsRow : Tryz.prog.cellsOf 35 = 1 := by kernel_rfl
theorem cellsStr : Tryz.prog.cellsOf 9 = 1 := by kernel_rfl
theorem cellsBool : Tryz.prog.cellsOf 4 = 1 := by kernel_rfl
theorem cellsVal : Tryz.prog.cellsOf 37 = 1 := by kernel_rfl

set_option maxRecDepth 100000 in
theorem open_entry {H : Type} {enc : TypeId × Value → H} {W : World} {n : Nat} {cs : List Value} {x : DataW H × List MemPlace} {a : Addr} (h1 : W.cells? 0 a 3 = some cs) (h2 : DataW.trod enc Tryz.prog W 0 (fun _ => true) true n 100 cs = some x) :
    ∃ t : En, W.cell? (a.add 0) = some (.string t.path) ∧ W.cell? (a.add 1) = some (.string t.text) ∧ W.cell? (a.add 2) = some (.bool t.runs) ∧ t.path.size ≤ maxLen ∧ t.text.size ≤ maxLen := by
  obtain ⟨_, hlen, hc⟩ := World.cells?_some h1
  match cs, hlen with
  | [c0, c1, c2], _ =>
    obtain ⟨y0, y1, y2, m, _, _, g0, g1, g2⟩ := Go.Deep.trod_struct3 Tryz.underlying100 h2
    simp only [cellsStr, cellsBool, List.drop, List.take] at g0 g1 g2
    obtain ⟨s0, e0, _, hs0⟩ := DataW.trod_string Tryz.underlying9 g0
    obtain ⟨s1, e1, _, hs1⟩ := DataW.trod_string Tryz.underlying9 g1
    obtain ⟨b2, e2, _⟩ := DataW.trod_bool Tryz.underlying4 g2
    simp at e0 e1 e2
    subst e0 e1 e2
    exact ⟨⟨s0, s1, b2⟩, hc 0 (by omega), hc 1 (by omega), hc 2 (by omega), hs0, hs1⟩

set_option maxRecDepth 100000 in
theorem open_tree {H : Type} {enc : TypeId × Value → H} {W : World} {base : Nat} {v : Value} {d : DataW H} {p : List MemPlace} (hv : Value.okWide Tryz.prog W .any base 37 v) (h : DataW.Trod enc Tryz.prog W 0 (fun _ => true) true 37 v d p) :
    ∃ a cap ts, v = .agg #[.slice a ts.length cap] ∧ ES W a ts ∧ ts.length ≤ maxLen ∧ ∀ s ∈ ts, s.path.size ≤ maxLen ∧ s.text.size ≤ maxLen := by
  haveI : Inhabited En := ⟨⟨⟨#[]⟩, ⟨#[]⟩, false⟩⟩
  obtain ⟨cs, rfl, hsz⟩ := okWide_struct Tryz.underlying37 hv
  rw [cellsVal] at hsz
  obtain ⟨c0, rfl⟩ : ∃ c0, cs = #[c0] := by
    obtain ⟨l⟩ := cs
    match l, hsz with
    | [c], _ => exact ⟨c, rfl⟩
  obtain ⟨fuel, hf⟩ := h
  obtain ⟨y0, n, _, _, h0⟩ := trod_struct1 Tryz.underlying37 hf
  simp only [cellsRow, Value.cells, List.drop, List.take] at h0
  rcases Go.Deep.open_slice Tryz.underlying35 h0 with ⟨hcs, _⟩ | ⟨a, len, cap, m, n, D, Pl, hcs, _, hl, hm, hmm, _, hx⟩
  · simp at hcs
    subst hcs
    exact ⟨none, 0, [], rfl, .inl rfl, Nat.zero_le _, fun s hs => by simp at hs⟩
  · simp at hcs
    subst hcs
    simp at hmm
    subst hmm
    rw [cellsEntry] at hx
    obtain ⟨V, hV⟩ := Go.Deep.choose_lt (α := En) (p := fun i t => W.cell? ((a.add (i * 3)).add 0) = some (.string t.path) ∧ W.cell? ((a.add (i * 3)).add 1) = some (.string t.text) ∧ W.cell? ((a.add (i * 3)).add 2) = some (.bool t.runs) ∧ t.path.size ≤ maxLen ∧ t.text.size ≤ maxLen) (n := m) (fun i hi => by
      obtain ⟨cs', h1, h2⟩ := hx i hi
      exact open_entry h1 h2)
    refine ⟨some a, m, (List.range len).map V, by simp, ?_, by simp; omega, ?_⟩
    · by_cases h0 : len = 0
      · left; simp [h0]
      · right
        obtain ⟨b, off, spot⟩ := a
        have hspot : spot = none := by simpa [Addr.add] using World.cell?_spot (hV 0 (by omega)).1
        subst hspot
        refine ⟨b, off, rfl, fun i hi => ?_⟩
        simp at hi
        obtain ⟨q0, q1, q2, _⟩ := hV i (by omega)
        simp only [Go.WideShapes.add_plain, Nat.add_zero] at q0 q1 q2
        simp only [List.getElem_map, List.getElem_range]
        exact ⟨q0, q1, q2⟩
    · intro s hs
      simp only [List.mem_map, List.mem_range] at hs
      obtain ⟨i, hi, rfl⟩ := hs
      exact (hV i (by omega)).2.2.2
end Go.Proofs.YtjiafjdjocmodaaGreat

namespace Go.Proofs.YtjiafjdjocmodaaGreat
open Go.RowKit

set_option maxRecDepth 20000 in
set_option maxHeartbeats 1000000 in
theorem szEntrySL_any (L : Nat) (hL : L ≤ 1048576) (a : Option Addr) (cap : Nat) (ts : List En) (w : World) (hss : ES w a ts) (hn : ts.length ≤ maxLen) (hm : ∀ s ∈ ts, s.path.size ≤ maxLen ∧ s.text.size ≤ maxLen) :
    Calls Tryz.prog 41 #[.slice a ts.length cap, .int .i64 L] w fun e w' => ∃ r : Int, e = .returned (.int .i64 r) ∧ Below w.heap.size w w' ∧ ((r = -1) ∨ (0 ≤ r ∧ r ≤ L ∧ ts.length + totalE ts ≤ L)) := by
  unfold maxLen at hn
  by_cases h0 : (L : Int) - ts.length < 0
  · go_enter Tryz.func41, Tryz.ntmps41
    go_wp2
    go_ret
    exact ⟨-1, rfl, Below.refl _ _, .inl rfl⟩
  · go_enter Tryz.func41, Tryz.ntmps41
    go_wp2
    go_loopw [1, 5] (fun l i wr => ∃ k : Nat, k ≤ ts.length ∧ i = .int .i64 k ∧ l = .int .i64 ((L : Int) - ts.length - totalE (ts.take k)) ∧ ts.length + totalE (ts.take k) ≤ L ∧ Below w.heap.size w wr) (fun _ i _ => ts.length - (intOf i).toNat)
    case atStart => exact ⟨0, Nat.zero_le _, rfl, by simp [totalE], by simp [totalE]; omega, Below.refl _ _⟩
    case round =>
      obtain ⟨k, hk, rfl, rfl, hle, hb⟩ := hrel
      by_cases hlt : k < ts.length
      · obtain ⟨b, off, rfl, hc⟩ := (hss.below hb).at hlt
        obtain ⟨c0, c1, c2⟩ := hc k hlt
        have HT : Hid (totalE (ts.take (k + 1)) = totalE (ts.take k) + (ts[k].path.size + ts[k].text.size)) := totalE_take ts k hlt
        have hsz := hm ts[k] (List.getElem_mem hlt)
        generalize totalE (ts.take k) = t at *
        clear hc
        go_wp2_with fail
        refine (szEntry_any ts[k] _ _ (by omega) hsz).mono ?_
        rintro e w1 ⟨rfl, hb1⟩
        by_cases hneg : (L : Int) - ts.length - t - (ts[k].path.size + ts[k].text.size) < 0
        · rw [if_pos hneg]
          go_wp2
          go_ret
          exact ⟨-1, rfl, hb.trans (hb1.mono hb.size), .inl rfl⟩
        · rw [if_neg hneg]
          go_wp2
          go_roundw
          case rel => exact ⟨k + 1, by omega, by go_num, by rw [HT.out]; go_num, by rw [HT.out]; omega, hb.trans (hb1.mono hb.size)⟩
          case measure => simp [intOf]; omega
      · obtain rfl : k = ts.length := by omega
        go_wp2
        go_ret
        rw [List.take_length] at *
        exact ⟨_, rfl, hb, .inr ⟨by omega, by omega, hle⟩⟩

set_option maxRecDepth 20000 in
set_option maxHeartbeats 1000000 in
theorem szTreeL_any (L : Nat) (hL : L ≤ 1048576) (a : Option Addr) (cap : Nat) (ts : List En) (w : World) (hss : ES w a ts) (hn : ts.length ≤ maxLen) (hm : ∀ s ∈ ts, s.path.size ≤ maxLen ∧ s.text.size ≤ maxLen) :
    Calls Tryz.prog 10 #[.agg #[.slice a ts.length cap], .int .i64 L] w fun e w' => ∃ r : Int, e = .returned (.int .i64 r) ∧ Below w.heap.size w w' ∧ ((r = -1) ∨ (0 ≤ r ∧ r ≤ L ∧ ts.length + totalE ts ≤ L)) := by
  go_enter Tryz.func10, Tryz.ntmps10
  go_wp2_with fail
  refine (szEntrySL_any L hL a cap ts _ (hss.below ((Below.refl _ _).alloc (Nat.le_refl _) _)) hn hm).mono ?_
  rintro e w1 ⟨r, rfl, hb, hr⟩
  have hb0 : Below w.heap.size w w1 := ((Below.refl _ _).alloc (Nat.le_refl _) _).trans (hb.mono (by simp))
  rcases hr with rfl | ⟨h0, h2, h1⟩
  · go_wp2
    go_ret
    exact ⟨-1, rfl, hb0, .inl rfl⟩
  · go_wp2
    go_ret
    exact ⟨r, rfl, hb0, .inr ⟨h0, h2, h1⟩⟩

end Go.Proofs.YtjiafjdjocmodaaGreat

namespace Go.Proofs.YtjiafjdjocmodaaGreat.fnExactMerge
open Go.ChangeShapes Go.WideShapes Go.ChangeAt Go.RowKit
set_option linter.unusedVariables false

theorem own : ownKnob Tryz.prog.godebug = none := by kernel_rfl
theorem laidOut : laidOutB Tryz.prog = true := by kernel_rfl

/-- The arguments' boxes. -/
structure A3 (ta tb tc : Nat) (a b c : Option Addr) (la ca lb cb lc cc : Nat) (W : World) : Prop where
  x : W.cell? ⟨ta, 0, none⟩ = some (.slice a la ca)
  y : W.cell? ⟨tb, 0, none⟩ = some (.slice b lb cb)
  z : W.cell? ⟨tc, 0, none⟩ = some (.slice c lc cc)
theorem A3.later {ta tb tc : Nat} {a b c : Option Addr} {la ca lb cb lc cc : Nat} {W W' : World} (h : A3 ta tb tc a b c la ca lb cb lc cc W) (hb : Below W.heap.size W W') : A3 ta tb tc a b c la ca lb cb lc cc W' := ⟨cell_later hb h.x, cell_later hb h.y, cell_later hb h.z⟩
theorem A3.grown {ta tb tc : Nat} {a b c : Option Addr} {la ca lb cb lc cc : Nat} {W W' : World} {row : Option Nat} (h : A3 ta tb tc a b c la ca lb cb lc cc W) (hg : W.grownBy W' row) (hr : ∀ r, row = some r → r ≠ ta ∧ r ≠ tb ∧ r ≠ tc) : A3 ta tb tc a b c la ca lb cb lc cc W' :=
  ⟨cell_grown h.x (cell_lt h.x) hg (fun r e => (hr r e).1), cell_grown h.y (cell_lt h.y) hg (fun r e => (hr r e).2.1), cell_grown h.z (cell_lt h.z) hg (fun r e => (hr r e).2.2)⟩
def xTab (A B C : Value) : Nat → Option Value
  | 0 => some A
  | 2 => some B
  | 4 => some C
  | _ => none
def eTab (A B : Value) : Nat → Option Value
  | 0 => some A
  | 1 => some B
  | 3 => some (.bool true)
  | 4 => some (.bool false)
  | _ => none
def eEx (ts : List En) (i : Nat) (v : Value) (w : World) : Prop := match i with
  | 2 => toE ts v w
  | _ => True
theorem eEx_on (ts : List En) : ∀ i v w w', Below w.heap.size w w' → eEx ts i v w → eEx ts i v w' := by
  intro i v w w' hb h
  unfold eEx at h ⊢
  split
  · exact toE.later h hb
  · trivial
theorem cutM_eval {F : MrgF} {t1 t2 t3 : List En} {W W' : World} {a : Act} {k : Nat} (h : CutM F t1 t2 t3 W (a.eval (.tmp k)) W') : CutM F t1 t2 t3 W (a.tmps.getD k undef) W' := h

set_option maxRecDepth 100000 in
set_option maxHeartbeats 16000000 in
theorem walk (a b c : Option Addr) (ca cb cc : Nat) (ts bs ys : List En) (w : World) (hss : ES w a ts) (hbs : ES w b bs) (hys : ES w c ys) (hn : ts.length ≤ maxLen) (hnb : bs.length ≤ maxLen) (hny : ys.length ≤ maxLen) (hm : ∀ s ∈ ts, s.path.size ≤ maxLen ∧ s.text.size ≤ maxLen) (hmb : ∀ s ∈ bs, s.path.size ≤ maxLen ∧ s.text.size ≤ maxLen) (hmy : ∀ s ∈ ys, s.path.size ≤ maxLen ∧ s.text.size ≤ maxLen) :
    Calls Tryz.prog 4 #[.agg #[.slice a ts.length ca], .agg #[.slice b bs.length cb], .agg #[.slice c ys.length cc]] w fun e w' => e = .returned (.bool true) ∧ Below w.heap.size w w' := by
  obtain ⟨F, hF⟩ : ∃ F : MrgF, ∀ x y z, MText x y z (F x y z) := ⟨fun x y z => Classical.choose (exists_mtext x y z), fun x y z => Classical.choose_spec (exists_mtext x y z)⟩
  have hbx : Below w.heap.size w (((w.alloc (.cells #[.slice a ts.length ca] 37)).alloc (.cells #[.slice b bs.length cb] 37)).alloc (.cells #[.slice c ys.length cc] 37)) := (((Below.refl _ _).alloc (Nat.le_refl _) _).alloc (by simp) _).alloc (by simp; omega) _
  have A : A3 w.heap.size (w.heap.size + 1) (w.heap.size + 1 + 1) a b c ts.length ca bs.length cb ys.length cc (((w.alloc (.cells #[.slice a ts.length ca] 37)).alloc (.cells #[.slice b bs.length cb] 37)).alloc (.cells #[.slice c ys.length cc] 37)) := ⟨by simp [go_sem], by simp [go_sem], by simp [go_sem]⟩
  go_enter Tryz.func4, Tryz.ntmps4
  go_upto_region 2 with fail
  generalize ((w.alloc (.cells #[.slice a ts.length ca] 37)).alloc (.cells #[.slice b bs.length cb] 37)).alloc (.cells #[.slice c ys.length cc] 37) = w0 at *
  obtain ⟨tc, htc⟩ : ∃ x, x = w.heap.size + 1 + 1 := ⟨_, rfl⟩
  obtain ⟨tb, htb⟩ : ∃ x, x = w.heap.size + 1 := ⟨_, rfl⟩
  obtain ⟨ta, hta⟩ : ∃ x, x = w.heap.size := ⟨_, rfl⟩
  have HT : Keep (ta = w.heap.size ∧ tb = ta + 1 ∧ tc = ta + 2) := ⟨by omega⟩
  rw [← htc, ← htb, ← hta] at A
  rw [← htc, ← htb, ← hta]
  clear hta htb htc
  have x0 := A.x
  go_wp2_with fail
  refine (szTreeL_any 1048576 (Nat.le_refl _) a ca ts _ (hss.below hbx) hn hm).mono ?_
  rintro e w1 ⟨r, rfl, hb1, hr⟩
  replace hbx := kept_below hbx hb1
  replace A := A.later hb1
  clear hb1 x0
  rcases hr with hr | ⟨hr, hr', hle⟩
  · have hr0 : r < 0 := by omega
    clear hr
    go_wp2
    go_ret
    exact ⟨rfl, hbx⟩
  have hr0 : ¬ r < 0 := by omega
  have hn' : ts.length ≤ 1048576 := by omega
  have hz : ∀ e ∈ ts, e.path.size ≤ 1048576 := fun e he => by have := size_le_totalE ts e he; omega
  obtain ⟨L1, rfl⟩ : ∃ L : Nat, r = L := ⟨r.toNat, by omega⟩
  have hL1 : L1 ≤ 1048576 := by omega
  clear hr hr' hle
  have y0 := A.y
  go_wp2_with fail
  refine (szTreeL_any L1 hL1 b cb bs w1 (hbs.below hbx) hnb hmb).mono ?_
  rintro e w2 ⟨r2, rfl, hb2, hr2⟩
  replace hbx := kept_below hbx hb2
  replace A := A.later hb2
  clear hb2 y0 hr0
  rcases hr2 with hr2 | ⟨hr2, hr2', hle2⟩
  · have hr20 : r2 < 0 := by omega
    clear hr2
    go_wp2
    go_ret
    exact ⟨rfl, hbx⟩
  have hr20 : ¬ r2 < 0 := by omega
  have hnb' : bs.length ≤ 1048576 := by omega
  have hzb : ∀ e ∈ bs, e.path.size ≤ 1048576 := fun e he => by have := size_le_totalE bs e he; omega
  obtain ⟨L2, rfl⟩ : ∃ L : Nat, r2 = L := ⟨r2.toNat, by omega⟩
  have hL2 : L2 ≤ 1048576 := by omega
  clear hr2 hr2' hle2
  have z0 := A.z
  go_wp2_with fail
  refine (szTreeL_any L2 hL2 c cc ys w2 (hys.below hbx) hny hmy).mono ?_
  rintro e w3 ⟨r3, rfl, hb3, hr3⟩
  replace hbx := kept_below hbx hb3
  replace A := A.later hb3
  clear hb3 z0 hr20
  rcases hr3 with hr3 | ⟨hr3, hr3', hle3⟩
  · have hr30 : r3 < 0 := by omega
    clear hr3
    go_wp2
    go_ret
    exact ⟨rfl, hbx⟩
  have hr30 : ¬ r3 < 0 := by omega
  have hny' : ys.length ≤ 1048576 := by omega
  have hzy : ∀ e ∈ ys, e.path.size ≤ 1048576 := fun e he => by have := size_le_totalE ys e he; omega
  have HZ : Keep ((∀ e ∈ ts, e.path.size ≤ 1048576) ∧ (∀ e ∈ bs, e.path.size ≤ 1048576) ∧ (∀ e ∈ ys, e.path.size ≤ 1048576)) := ⟨⟨hz, hzb, hzy⟩⟩
  clear hr3 hr3' hle3 hz hzb hzy hn hnb hny hm hmb hmy hL1 hL2
  have hT3 := cell_lt A.z
  have HT3 : Keep (tc < w3.heap.size) := ⟨hT3⟩
  clear hT3
  go_upto_region 11 with fail
  clear hr30
  obtain ⟨WC, hWC⟩ : ∃ x, x = w3 := ⟨_, rfl⟩
  subst hWC
  go_cut [8] (fun p wx => CutM F ts bs ys WC p wx)
  case first =>
    refine (wpIn_wide (n := 0)).1 ?_
    refine wpIn_region_inv0 (by kernel_rfl) (by kernel_rfl) (fun T0 => ZM T0 [32, 33, 34, 35, 36, 37, 38, 8, 1000] (xTab (.agg #[.slice a ts.length ca]) (.agg #[.slice b bs.length cb]) (.agg #[.slice c ys.length cc])) 38 8 F ts bs ys WC) ?_ ?_ ?_
    · exact ZM.start _
    · intro L a2 w9 hinv hall
      have hfin := hinv.fin (hall 8 (by decide))
      have HX : Keep _ := ⟨hinv.sl.act⟩
      clear hinv hall
      rw [HX.out]
      go_wp2_with fail
      go_meet
      case rel => exact cutM_eval hfin
    · intro L a2 w9 i o hinv hcl hL ho hdep
      have hi9 : i < 9 := (Array.getElem?_eq_some_iff.1 ho).1
      have nd := (by decide : ([32, 33, 34, 35, 36, 37, 38, 8, 1000] : List Nat).Nodup)
      unfold wpOpIn
      rw [ho]
      match i, hi9, hL, ho, hdep with
        | 0, _, hL, ho, hdep =>
          injection ho with ho; subst ho
          dsimp only
          rw [if_pos (by rfl)]
          refine ⟨fun f _ => trivial, ?_⟩
          have e3 : a2.tmps[3]?.getD undef = .pointer (some ⟨ta, 0, none⟩) := hinv.sl.old (by decide)
          have c0 := (A.later hinv.wd).x
          go_simp
          exact ZM.step hinv nd (i := 0) (by decide) (show 32 < 115 by omega) (by decide) (by decide) (by decide) (by decide) (by decide) (undone hcl (i := 8) rfl (j := 0) (k := .phase) (by simp) rfl (getD_ft hL)) (fun u hu => by cases hu; rfl) trivial (Below.refl _ _)
        | 1, _, hL, ho, hdep =>
          injection ho with ho; subst ho
          dsimp only
          rw [if_pos (by rfl)]
          refine ⟨fun f _ => trivial, ?_⟩
          have e32 : a2.tmps[32]?.getD undef = .agg #[.slice a ts.length ca] := hinv.sl.new (i := 0) (by decide) rfl (hdep ⟨0, .data⟩ (by simp) rfl)
          go_simp
          refine ⟨rfl, CallsIn.mono (callsIn_wide.2 (toTree_any a ca ts w9 (hss.below (kept_below hbx hinv.wd)) hn')) ?_⟩
          rintro e' w' ⟨gT, rfl, hES, hbT, _⟩
          exact ZM.step hinv nd (i := 1) (by decide) (show 33 < 115 by omega) (by decide) (by decide) (by decide) (by decide) (by decide) (undone hcl (i := 8) rfl (j := 1) (k := .phase) (by simp) rfl (getD_ft hL)) (fun u hu => by cases hu) ⟨gT, rfl, hES⟩ hbT
        | 2, _, hL, ho, hdep =>
          injection ho with ho; subst ho
          dsimp only
          rw [if_pos (by rfl)]
          refine ⟨fun f _ => trivial, ?_⟩
          have e4 : a2.tmps[4]?.getD undef = .pointer (some ⟨tb, 0, none⟩) := hinv.sl.old (by decide)
          have c0 := (A.later hinv.wd).y
          go_simp
          exact ZM.step hinv nd (i := 2) (by decide) (show 34 < 115 by omega) (by decide) (by decide) (by decide) (by decide) (by decide) (undone hcl (i := 8) rfl (j := 2) (k := .phase) (by simp) rfl (getD_ft hL)) (fun u hu => by cases hu; rfl) trivial (Below.refl _ _)
        | 3, _, hL, ho, hdep =>
          injection ho with ho; subst ho
          dsimp only
          rw [if_pos (by rfl)]
          refine ⟨fun f _ => trivial, ?_⟩
          have e34 : a2.tmps[34]?.getD undef = .agg #[.slice b bs.length cb] := hinv.sl.new (i := 2) (by decide) rfl (hdep ⟨2, .data⟩ (by simp) rfl)
          go_simp
          refine ⟨rfl, CallsIn.mono (callsIn_wide.2 (toTree_any b cb bs w9 (hbs.below (kept_below hbx hinv.wd)) hnb')) ?_⟩
          rintro e' w' ⟨gT, rfl, hES, hbT, _⟩
          exact ZM.step hinv nd (i := 3) (by decide) (show 35 < 115 by omega) (by decide) (by decide) (by decide) (by decide) (by decide) (undone hcl (i := 8) rfl (j := 3) (k := .phase) (by simp) rfl (getD_ft hL)) (fun u hu => by cases hu) ⟨gT, rfl, hES⟩ hbT
        | 4, _, hL, ho, hdep =>
          injection ho with ho; subst ho
          dsimp only
          rw [if_pos (by rfl)]
          refine ⟨fun f _ => trivial, ?_⟩
          have e5 : a2.tmps[5]?.getD undef = .pointer (some ⟨tc, 0, none⟩) := hinv.sl.old (by decide)
          have c0 := (A.later hinv.wd).z
          go_simp
          exact ZM.step hinv nd (i := 4) (by decide) (show 36 < 115 by omega) (by decide) (by decide) (by decide) (by decide) (by decide) (undone hcl (i := 8) rfl (j := 4) (k := .phase) (by simp) rfl (getD_ft hL)) (fun u hu => by cases hu; rfl) trivial (Below.refl _ _)
        | 5, _, hL, ho, hdep =>
          injection ho with ho; subst ho
          dsimp only
          rw [if_pos (by rfl)]
          refine ⟨fun f _ => trivial, ?_⟩
          have e36 : a2.tmps[36]?.getD undef = .agg #[.slice c ys.length cc] := hinv.sl.new (i := 4) (by decide) rfl (hdep ⟨4, .data⟩ (by simp) rfl)
          go_simp
          refine ⟨rfl, CallsIn.mono (callsIn_wide.2 (toTree_any c cc ys w9 (hys.below (kept_below hbx hinv.wd)) hny')) ?_⟩
          rintro e' w' ⟨gT, rfl, hES, hbT, _⟩
          exact ZM.step hinv nd (i := 5) (by decide) (show 37 < 115 by omega) (by decide) (by decide) (by decide) (by decide) (by decide) (undone hcl (i := 8) rfl (j := 5) (k := .phase) (by simp) rfl (getD_ft hL)) (fun u hu => by cases hu) ⟨gT, rfl, hES⟩ hbT
        | 6, _, hL, ho, hdep =>
          injection ho with ho; subst ho
          dsimp only
          rw [if_pos (by rfl)]
          refine ⟨fun f _ => trivial, ?_⟩
          obtain ⟨g0, h0, k0⟩ := hinv.ex 1 (by decide) (undone hcl (i := 8) rfl (j := 6) (k := .data) (by simp) rfl (getD_ft hL)) (hdep ⟨1, .data⟩ (by simp) rfl)
          have e33 : a2.tmps[33]?.getD undef = .agg #[.slice (some ⟨g0, 0, none⟩) ts.length ts.length] := evalD2 h0
          obtain ⟨g1, h1, k1⟩ := hinv.ex 3 (by decide) (undone hcl (i := 8) rfl (j := 6) (k := .data) (by simp) rfl (getD_ft hL)) (hdep ⟨3, .data⟩ (by simp) rfl)
          have e35 : a2.tmps[35]?.getD undef = .agg #[.slice (some ⟨g1, 0, none⟩) bs.length bs.length] := evalD2 h1
          obtain ⟨g2, h2, k2⟩ := hinv.ex 5 (by decide) (undone hcl (i := 8) rfl (j := 6) (k := .data) (by simp) rfl (getD_ft hL)) (hdep ⟨5, .data⟩ (by simp) rfl)
          have e37 : a2.tmps[37]?.getD undef = .agg #[.slice (some ⟨g2, 0, none⟩) ys.length ys.length] := evalD2 h2
          go_simp
          refine ⟨rfl, CallsIn.mono (callsIn_wide.2 (specMerge_any F (fun f x y W => specMText_any f x y _ W (hF f x y)) _ _ _ _ _ _ ts bs ys w9 k0 k1 k2 hn' hnb' hny')) ?_⟩
          rintro e' w' ⟨c', us', ks', ad', cp', ak', ck', hR', rfl, hel', _, hrow', hb'⟩
          exact ZM.call hinv nd (by decide) (show 38 < 115 by omega) rfl (by decide) (undone hcl (i := 8) rfl (j := 6) (k := .data) (by simp) rfl (getD_ft hL)) rfl rfl hR' hel' hrow' hb'
        | 7, _, hL, ho, hdep =>
          injection ho with ho; subst ho
          dsimp only
          rw [if_pos (by rfl)]
          refine ⟨fun f _ => trivial, ?_⟩
          go_simp
          exact ZM.box hinv nd (by decide) (show 8 < 115 by omega) rfl (by decide) (undone hcl (i := 8) rfl (j := 7) (k := .data) (by simp) rfl (getD_ft hL)) rfl
        | 8, _, hL, ho, hdep =>
          injection ho with ho; subst ho
          dsimp only
          rw [if_pos (by rfl)]
          refine ⟨fun f _ => trivial, ?_⟩
          have h6 := hdep ⟨6, .data⟩ (by simp) rfl
          have h7 := hdep ⟨7, .data⟩ (by simp) rfl
          obtain ⟨c', us', ks', ad', cp', ak', ck', n2', n3', hm', hx'⟩ := hinv.rs h6 (getD_ft hL)
          obtain ⟨fb, f1, f2, f3⟩ := hinv.bx h7 (getD_ft hL)
          have e38 : a2.tmps[38]?.getD undef = .agg #[.int .i64 c', .slice ad' us'.length cp', .slice ak' ks'.length ck'] := evalD2 hm'.val
          have e8 : a2.tmps[8]?.getD undef = .pointer (some ⟨fb, 0, none⟩) := evalD2 f1
          have n0 := f3.c0
          have n1 := f3.c1
          have n2 := f3.c2
          have nf := f3.fz
          go_simp
          exact ZM.store hinv hL rfl hm' (hx' h7 fb f1) f1 f2 f3

  case rest =>
    obtain ⟨cd, us, ks, ad3, cp3, ak3, ck3, n2, n3, b8, rfl, hR, hS, hn2, hn23, hb8, hsep, hb4⟩ := hcut
    obtain ⟨w4, hw4⟩ : ∃ x, x = wc := ⟨_, rfl⟩
    subst hw4
    replace hbx := kept_below hbx hb4
    replace A := A.later hb4
    have hlr := mg_few' hR
    have hlu := hlr.1
    have hlk := hlr.2
    have HR : Keep (MgRel F ts bs ys cd us ks) := ⟨hR⟩
    have HS4 : Keep (WC.heap.size ≤ n2 ∧ n2 ≤ n3 ∧ n3 ≤ w4.heap.size ∧ WC.heap.size ≤ b8 ∧ b8 < w4.heap.size ∧ (b8 < n2 ∨ n3 ≤ b8) ∧ WC.heap.size ≤ w4.heap.size) := ⟨⟨hn2, hn23, hS.hi, hb8, hS.lt, hsep, hb4.size⟩⟩
    clear hn2 hn23 hb8 hsep hb4 hlr hR
    -- the copies
    have x0 := A.x
    go_wp2_with fail
    refine (toTree_any a ca ts w4 (hss.below hbx) hn').mono ?_
    rintro e w5 ⟨g5, rfl, hs5, hb5, hg5, hf5, hl5⟩
    have hX0 := Itm.new (cap := ts.length) (ein_of_toTree hs5 hg5 hf5 hl5)
    have ha5 := below_oneD w5 (.cells #[.slice (some ⟨g5, 0, none⟩) ts.length ts.length] 25)
    replace hbx := kept_below (kept_below hbx hb5) ha5
    replace A := (A.later hb5).later ha5
    replace hS := (hS.later hb5).later ha5
    have HS5 : Keep (w4.heap.size ≤ w5.heap.size ∧ (w5.alloc (.cells #[.slice (some ⟨g5, 0, none⟩) ts.length ts.length] 25)).heap.size = w5.heap.size + 1) := ⟨⟨hb5.size, by simp⟩⟩
    clear hb5 ha5 hs5 hg5 hf5 hl5 x0
    go_upto_region 13 with fail
    generalize w5.alloc (.cells #[.slice (some ⟨g5, 0, none⟩) ts.length ts.length] 25) = w5p at *
    have y0 := A.y
    go_wp2_with fail
    refine (toTree_any b cb bs w5p (hbs.below hbx) hnb').mono ?_
    rintro e w6 ⟨g6, rfl, hs6, hb6, hg6, hf6, hl6⟩
    have hX1 := Itm.new (cap := bs.length) (ein_of_toTree hs6 hg6 hf6 hl6)
    have ha6 := below_oneD w6 (.cells #[.slice (some ⟨g6, 0, none⟩) bs.length bs.length] 25)
    replace hbx := kept_below (kept_below hbx hb6) ha6
    replace A := (A.later hb6).later ha6
    replace hS := (hS.later hb6).later ha6
    replace hX0 := (hX0.later hb6).later ha6
    have HS6 : Keep (w5p.heap.size ≤ w6.heap.size ∧ (w6.alloc (.cells #[.slice (some ⟨g6, 0, none⟩) bs.length bs.length] 25)).heap.size = w6.heap.size + 1) := ⟨⟨hb6.size, by simp⟩⟩
    clear hb6 ha6 hs6 hg6 hf6 hl6 y0
    go_upto_region 14 with fail
    generalize w6.alloc (.cells #[.slice (some ⟨g6, 0, none⟩) bs.length bs.length] 25) = w6p at *
    have z0 := A.z
    go_wp2_with fail
    refine (toTree_any c cc ys w6p (hys.below hbx) hny').mono ?_
    rintro e w7 ⟨g7, rfl, hs7, hb7, hg7, hf7, hl7⟩
    have hX2 := Itm.new (cap := ys.length) (ein_of_toTree hs7 hg7 hf7 hl7)
    have ha7 := below_oneD w7 (.cells #[.slice (some ⟨g7, 0, none⟩) ys.length ys.length] 25)
    replace hbx := kept_below (kept_below hbx hb7) ha7
    replace A := (A.later hb7).later ha7
    replace hS := (hS.later hb7).later ha7
    replace hX0 := (hX0.later hb7).later ha7
    replace hX1 := (hX1.later hb7).later ha7
    have HS7 : Keep (w6p.heap.size ≤ w7.heap.size ∧ (w7.alloc (.cells #[.slice (some ⟨g7, 0, none⟩) ys.length ys.length] 25)).heap.size = w7.heap.size + 1) := ⟨⟨hb7.size, by simp⟩⟩
    clear hb7 ha7 hs7 hg7 hf7 hl7 z0
    go_upto_region 15 with fail
    generalize w7.alloc (.cells #[.slice (some ⟨g7, 0, none⟩) ys.length ys.length] 25) = w7p at *
    have x0 := hX0.cell
    have x1 := hX1.cell
    have x2 := hX2.cell
    have himp := implMerge_any F (fun f x y W => implMText_any f x y _ W (hF f x y)) _ _ _ ts.length bs.length ys.length ts bs ys w7p hX0.es hX1.es hX2.es hn' hnb' hny' HZ.out.1 HZ.out.2.1 HZ.out.2.2
    go_wp2_with fail
    refine himp.mono ?_
    rintro e w8 ⟨c', us', ks', ad8, cp8, ak8, ck8, hR', rfl, hel8, _, hrow8, hb8⟩
    obtain ⟨rfl, rfl, rfl⟩ := mg_one HR.out hR'
    have hV := MItm.new (c := cd) (cp := cp8) (t := 30) hel8 hrow8
    have ha8 := below_oneD w8 (.cells #[.int .i64 cd, .slice ad8 us.length cp8, .slice ak8 ks.length ck8] 30)
    replace hbx := kept_below (kept_below hbx hb8) ha8
    replace A := (A.later hb8).later ha8
    replace hS := (hS.later hb8).later ha8
    replace hX0 := (hX0.later hb8).later ha8
    replace hX1 := (hX1.later hb8).later ha8
    replace hX2 := (hX2.later hb8).later ha8
    have HS8 : Keep (w7p.heap.size ≤ w8.heap.size ∧ (w8.alloc (.cells #[.int .i64 cd, .slice ad8 us.length cp8, .slice ak8 ks.length ck8] 30)).heap.size = w8.heap.size + 1) := ⟨⟨hb8.size, by simp⟩⟩
    clear himp hR' hel8 hrow8 hb8 ha8 x0 x1 x2
    go_upto_region 16 with fail
    generalize w8.alloc (.cells #[.int .i64 cd, .slice ad8 us.length cp8, .slice ak8 ks.length ck8] 30) = w8p at *
    have HS : Keep (w.heap.size = ta ∧ tb = ta + 1 ∧ tc = ta + 2 ∧ tc < WC.heap.size ∧ WC.heap.size ≤ n2 ∧ n2 ≤ n3 ∧ n3 ≤ w4.heap.size ∧ WC.heap.size ≤ b8 ∧ b8 < w4.heap.size ∧ (b8 < n2 ∨ n3 ≤ b8) ∧ w4.heap.size ≤ w5.heap.size ∧ w5p.heap.size = w5.heap.size + 1 ∧ w5p.heap.size ≤ w6.heap.size ∧ w6p.heap.size = w6.heap.size + 1 ∧ w6p.heap.size ≤ w7.heap.size ∧ w7p.heap.size = w7.heap.size + 1 ∧ w7p.heap.size ≤ w8.heap.size ∧ w8p.heap.size = w8.heap.size + 1) := ⟨by have := HT.out; have := HT3.out; have := HS4.out; have := HS5.out; have := HS6.out; have := HS7.out; have := HS8.out; omega⟩
    clear HT HT3 HS4 HS5 HS6 HS7 HS8
    generalize w4.heap.size = c4 at *
    generalize w5.heap.size = bx0 at *
    generalize w5p.heap.size = c5 at *
    generalize w6.heap.size = bx1 at *
    generalize w6p.heap.size = c6 at *
    generalize w7.heap.size = bx2 at *
    generalize w7p.heap.size = c7 at *
    generalize w8.heap.size = bv at *
    obtain ⟨ad0, had0⟩ : ∃ x, x = (some ⟨g5, 0, none⟩ : Option Addr) := ⟨_, rfl⟩
    obtain ⟨ad1, had1⟩ : ∃ x, x = (some ⟨g6, 0, none⟩ : Option Addr) := ⟨_, rfl⟩
    obtain ⟨ad2, had2⟩ : ∃ x, x = (some ⟨g7, 0, none⟩ : Option Addr) := ⟨_, rfl⟩
    rw [← had0] at hX0 ⊢
    rw [← had1] at hX1 ⊢
    rw [← had2] at hX2 ⊢
    clear had0 had1 had2
    have v0 := hV.c0
    have v1 := hV.c1
    have v2 := hV.c2
    have s0 := hS.c0
    have s1 := hS.c1
    have s2 := hS.c2
    go_wp2_with fail
    refine (eqMerged_any cd us ks _ _ _ _ cp8 cp3 ck8 ck3 w8p hV.lst.es hS.lst.es hV.ss hS.ss (by omega) (by omega)).mono ?_
    rintro e w9 ⟨rfl, hb9⟩
    replace hbx := kept_below hbx hb9
    replace A := A.later hb9
    replace hS := hS.later hb9
    replace hV := hV.later hb9
    replace hX0 := hX0.later hb9
    replace hX1 := hX1.later hb9
    replace hX2 := hX2.later hb9
    clear hb9 v0 v1 v2 s0 s1 s2
    go_upto_region 18 with fail
    obtain ⟨WC, hWC⟩ : ∃ x, x = w9 := ⟨_, rfl⟩
    subst hWC
    go_cut [57] (fun v wx => v = .bool false ∧ Below WC.heap.size WC wx)
    case first =>
      refine (wpIn_wide (n := 0)).1 ?_
      refine wpIn_region_inv0 (by kernel_rfl) (by kernel_rfl) (fun T0 => EV0 T0 [53, 54, 55, 56, 57] (eTab (.agg #[.slice ad0 ts.length ts.length]) (.agg #[.slice a ts.length ca])) (eEx ts) WC) ?_ ?_ ?_
      · exact ⟨Sl2.start _, (Below.refl _ _).drew, fun i _ hL => by rw [getD_repl] at hL; cases hL⟩
      · intro L a2 w9 hinv hall
        have f4 : a2.eval (.tmp 57) = .bool false := hinv.sl.sl 4 (by decide) _ rfl (hall 4 (by decide))
        have f5 : Below WC.heap.size WC w9 := hinv.wd
        have HX : Keep _ := ⟨hinv.sl.act⟩
        clear hinv hall
        rw [HX.out]
        go_wp2_with fail
        go_meet
        case rel => first | exact ⟨evalD2 f4, f5⟩ | exact ⟨f4, f5⟩
      · intro L a2 w9 i o hinv hcl hL ho hdep
        have hi5 : i < 5 := (Array.getElem?_eq_some_iff.1 ho).1
        have nd := (by decide : ([53, 54, 55, 56, 57] : List Nat).Nodup)
        unfold wpOpIn
        rw [ho]
        clear hcl
        match i, hi5, hL, ho, hdep with
          | 0, _, hL, ho, hdep =>
            injection ho with ho; subst ho
            dsimp only
            rw [if_pos (by rfl)]
            refine ⟨fun f _ => trivial, ?_⟩
            have e9 : a2.tmps[9]?.getD undef = .pointer (some ⟨bx0, 0, none⟩) := hinv.sl.old (by decide)
            have c0 := (hX0.later hinv.wd).cell
            go_simp
            exact EV0.step hinv nd (eEx_on ts) (i := 0) (by decide) (by show 53 < 115; decide) (fun u hu => by cases hu; rfl) trivial (Below.refl _ _)
          | 1, _, hL, ho, hdep =>
            injection ho with ho; subst ho
            dsimp only
            rw [if_pos (by rfl)]
            refine ⟨fun f _ => trivial, ?_⟩
            have e3 : a2.tmps[3]?.getD undef = .pointer (some ⟨ta, 0, none⟩) := hinv.sl.old (by decide)
            have c0 := (A.later hinv.wd).x
            go_simp
            exact EV0.step hinv nd (eEx_on ts) (i := 1) (by decide) (by show 54 < 115; decide) (fun u hu => by cases hu; rfl) trivial (Below.refl _ _)
          | 2, _, hL, ho, hdep =>
            injection ho with ho; subst ho
            dsimp only
            rw [if_pos (by rfl)]
            refine ⟨fun f _ => trivial, ?_⟩
            have e54 : a2.tmps[54]?.getD undef = .agg #[.slice a ts.length ca] := hinv.sl.new (i := 1) (by decide) rfl (hdep ⟨1, .data⟩ (by simp) rfl)
            go_simp
            refine ⟨rfl, CallsIn.mono (callsIn_wide.2 (toTree_any a ca ts w9 (hss.below (kept_below hbx hinv.wd)) hn')) ?_⟩
            rintro e' w' ⟨gT, rfl, hES, hbT, _⟩
            exact EV0.step hinv nd (eEx_on ts) (i := 2) (by decide) (by show 55 < 115; decide) (fun u hu => by cases hu) ⟨gT, rfl, hES⟩ hbT
          | 3, _, hL, ho, hdep =>
            injection ho with ho; subst ho
            dsimp only
            rw [if_pos (by rfl)]
            refine ⟨fun f _ => trivial, ?_⟩
            have e53 : a2.tmps[53]?.getD undef = .agg #[.slice ad0 ts.length ts.length] := hinv.sl.new (i := 0) (by decide) rfl (hdep ⟨0, .data⟩ (by simp) rfl)
            obtain ⟨g0, h0, k0⟩ := hinv.ex 2 (by decide) (hdep ⟨2, .data⟩ (by simp) rfl)
            have e55 : a2.tmps[55]?.getD undef = .agg #[.slice (some ⟨g0, 0, none⟩) ts.length ts.length] := evalD2 h0
            go_simp
            refine ⟨rfl, CallsIn.mono (callsIn_wide.2 (eqTree_any _ _ _ _ ts w9 (hX0.later hinv.wd).es k0 hn')) ?_⟩
            rintro e' w' ⟨rfl, hb'⟩
            exact EV0.step hinv nd (eEx_on ts) (i := 3) (by decide) (by show 56 < 115; decide) (fun u hu => by cases hu; rfl) trivial hb'
          | 4, _, hL, ho, hdep =>
            injection ho with ho; subst ho
            dsimp only
            rw [if_pos (by rfl)]
            refine ⟨fun f _ => trivial, ?_⟩
            have e56 : a2.tmps[56]?.getD undef = .bool true := hinv.sl.new (i := 3) (by decide) rfl (hdep ⟨3, .data⟩ (by simp) rfl)
            go_simp
            exact EV0.step hinv nd (eEx_on ts) (i := 4) (by decide) (by show 57 < 115; decide) (fun u hu => by cases hu; rfl) trivial (Below.refl _ _)

    case rest =>
      obtain ⟨rfl, hbc⟩ := hcut
      obtain ⟨w10, hw10⟩ : ∃ x, x = wc := ⟨_, rfl⟩
      subst hw10
      replace hbx := kept_below hbx hbc
      replace A := A.later hbc
      replace hS := hS.later hbc
      replace hV := hV.later hbc
      replace hX0 := hX0.later hbc
      replace hX1 := hX1.later hbc
      replace hX2 := hX2.later hbc
      clear hbc
      go_upto_region 20 with fail
      obtain ⟨WC, hWC⟩ : ∃ x, x = w10 := ⟨_, rfl⟩
      subst hWC
      go_cut [62] (fun v wx => v = .bool false ∧ Below WC.heap.size WC wx)
      case first =>
        refine (wpIn_wide (n := 0)).1 ?_
        refine wpIn_region_inv0 (by kernel_rfl) (by kernel_rfl) (fun T0 => EV0 T0 [58, 59, 60, 61, 62] (eTab (.agg #[.slice ad1 bs.length bs.length]) (.agg #[.slice b bs.length cb])) (eEx bs) WC) ?_ ?_ ?_
        · exact ⟨Sl2.start _, (Below.refl _ _).drew, fun i _ hL => by rw [getD_repl] at hL; cases hL⟩
        · intro L a2 w9 hinv hall
          have f4 : a2.eval (.tmp 62) = .bool false := hinv.sl.sl 4 (by decide) _ rfl (hall 4 (by decide))
          have f5 : Below WC.heap.size WC w9 := hinv.wd
          have HX : Keep _ := ⟨hinv.sl.act⟩
          clear hinv hall
          rw [HX.out]
          go_wp2_with fail
          go_meet
          case rel => first | exact ⟨evalD2 f4, f5⟩ | exact ⟨f4, f5⟩
        · intro L a2 w9 i o hinv hcl hL ho hdep
          have hi5 : i < 5 := (Array.getElem?_eq_some_iff.1 ho).1
          have nd := (by decide : ([58, 59, 60, 61, 62] : List Nat).Nodup)
          unfold wpOpIn
          rw [ho]
          clear hcl
          match i, hi5, hL, ho, hdep with
            | 0, _, hL, ho, hdep =>
              injection ho with ho; subst ho
              dsimp only
              rw [if_pos (by rfl)]
              refine ⟨fun f _ => trivial, ?_⟩
              have e10 : a2.tmps[10]?.getD undef = .pointer (some ⟨bx1, 0, none⟩) := hinv.sl.old (by decide)
              have c0 := (hX1.later hinv.wd).cell
              go_simp
              exact EV0.step hinv nd (eEx_on bs) (i := 0) (by decide) (by show 58 < 115; decide) (fun u hu => by cases hu; rfl) trivial (Below.refl _ _)
            | 1, _, hL, ho, hdep =>
              injection ho with ho; subst ho
              dsimp only
              rw [if_pos (by rfl)]
              refine ⟨fun f _ => trivial, ?_⟩
              have e4 : a2.tmps[4]?.getD undef = .pointer (some ⟨tb, 0, none⟩) := hinv.sl.old (by decide)
              have c0 := (A.later hinv.wd).y
              go_simp
              exact EV0.step hinv nd (eEx_on bs) (i := 1) (by decide) (by show 59 < 115; decide) (fun u hu => by cases hu; rfl) trivial (Below.refl _ _)
            | 2, _, hL, ho, hdep =>
              injection ho with ho; subst ho
              dsimp only
              rw [if_pos (by rfl)]
              refine ⟨fun f _ => trivial, ?_⟩
              have e59 : a2.tmps[59]?.getD undef = .agg #[.slice b bs.length cb] := hinv.sl.new (i := 1) (by decide) rfl (hdep ⟨1, .data⟩ (by simp) rfl)
              go_simp
              refine ⟨rfl, CallsIn.mono (callsIn_wide.2 (toTree_any b cb bs w9 (hbs.below (kept_below hbx hinv.wd)) hnb')) ?_⟩
              rintro e' w' ⟨gT, rfl, hES, hbT, _⟩
              exact EV0.step hinv nd (eEx_on bs) (i := 2) (by decide) (by show 60 < 115; decide) (fun u hu => by cases hu) ⟨gT, rfl, hES⟩ hbT
            | 3, _, hL, ho, hdep =>
              injection ho with ho; subst ho
              dsimp only
              rw [if_pos (by rfl)]
              refine ⟨fun f _ => trivial, ?_⟩
              have e58 : a2.tmps[58]?.getD undef = .agg #[.slice ad1 bs.length bs.length] := hinv.sl.new (i := 0) (by decide) rfl (hdep ⟨0, .data⟩ (by simp) rfl)
              obtain ⟨g0, h0, k0⟩ := hinv.ex 2 (by decide) (hdep ⟨2, .data⟩ (by simp) rfl)
              have e60 : a2.tmps[60]?.getD undef = .agg #[.slice (some ⟨g0, 0, none⟩) bs.length bs.length] := evalD2 h0
              go_simp
              refine ⟨rfl, CallsIn.mono (callsIn_wide.2 (eqTree_any _ _ _ _ bs w9 (hX1.later hinv.wd).es k0 hnb')) ?_⟩
              rintro e' w' ⟨rfl, hb'⟩
              exact EV0.step hinv nd (eEx_on bs) (i := 3) (by decide) (by show 61 < 115; decide) (fun u hu => by cases hu; rfl) trivial hb'
            | 4, _, hL, ho, hdep =>
              injection ho with ho; subst ho
              dsimp only
              rw [if_pos (by rfl)]
              refine ⟨fun f _ => trivial, ?_⟩
              have e61 : a2.tmps[61]?.getD undef = .bool true := hinv.sl.new (i := 3) (by decide) rfl (hdep ⟨3, .data⟩ (by simp) rfl)
              go_simp
              exact EV0.step hinv nd (eEx_on bs) (i := 4) (by decide) (by show 62 < 115; decide) (fun u hu => by cases hu; rfl) trivial (Below.refl _ _)

      case rest =>
        obtain ⟨rfl, hbc⟩ := hcut
        obtain ⟨w11, hw11⟩ : ∃ x, x = wc := ⟨_, rfl⟩
        subst hw11
        replace hbx := kept_below hbx hbc
        replace A := A.later hbc
        replace hS := hS.later hbc
        replace hV := hV.later hbc
        replace hX0 := hX0.later hbc
        replace hX1 := hX1.later hbc
        replace hX2 := hX2.later hbc
        clear hbc
        go_upto_region 22 with fail
        obtain ⟨WC, hWC⟩ : ∃ x, x = w11 := ⟨_, rfl⟩
        subst hWC
        go_cut [67] (fun v wx => v = .bool false ∧ Below WC.heap.size WC wx)
        case first =>
          refine (wpIn_wide (n := 0)).1 ?_
          refine wpIn_region_inv0 (by kernel_rfl) (by kernel_rfl) (fun T0 => EV0 T0 [63, 64, 65, 66, 67] (eTab (.agg #[.slice ad2 ys.length ys.length]) (.agg #[.slice c ys.length cc])) (eEx ys) WC) ?_ ?_ ?_
          · exact ⟨Sl2.start _, (Below.refl _ _).drew, fun i _ hL => by rw [getD_repl] at hL; cases hL⟩
          · intro L a2 w9 hinv hall
            have f4 : a2.eval (.tmp 67) = .bool false := hinv.sl.sl 4 (by decide) _ rfl (hall 4 (by decide))
            have f5 : Below WC.heap.size WC w9 := hinv.wd
            have HX : Keep _ := ⟨hinv.sl.act⟩
            clear hinv hall
            rw [HX.out]
            go_wp2_with fail
            go_meet
            case rel => first | exact ⟨evalD2 f4, f5⟩ | exact ⟨f4, f5⟩
          · intro L a2 w9 i o hinv hcl hL ho hdep
            have hi5 : i < 5 := (Array.getElem?_eq_some_iff.1 ho).1
            have nd := (by decide : ([63, 64, 65, 66, 67] : List Nat).Nodup)
            unfold wpOpIn
            rw [ho]
            clear hcl
            match i, hi5, hL, ho, hdep with
              | 0, _, hL, ho, hdep =>
                injection ho with ho; subst ho
                dsimp only
                rw [if_pos (by rfl)]
                refine ⟨fun f _ => trivial, ?_⟩
                have e11 : a2.tmps[11]?.getD undef = .pointer (some ⟨bx2, 0, none⟩) := hinv.sl.old (by decide)
                have c0 := (hX2.later hinv.wd).cell
                go_simp
                exact EV0.step hinv nd (eEx_on ys) (i := 0) (by decide) (by show 63 < 115; decide) (fun u hu => by cases hu; rfl) trivial (Below.refl _ _)
              | 1, _, hL, ho, hdep =>
                injection ho with ho; subst ho
                dsimp only
                rw [if_pos (by rfl)]
                refine ⟨fun f _ => trivial, ?_⟩
                have e5 : a2.tmps[5]?.getD undef = .pointer (some ⟨tc, 0, none⟩) := hinv.sl.old (by decide)
                have c0 := (A.later hinv.wd).z
                go_simp
                exact EV0.step hinv nd (eEx_on ys) (i := 1) (by decide) (by show 64 < 115; decide) (fun u hu => by cases hu; rfl) trivial (Below.refl _ _)
              | 2, _, hL, ho, hdep =>
                injection ho with ho; subst ho
                dsimp only
                rw [if_pos (by rfl)]
                refine ⟨fun f _ => trivial, ?_⟩
                have e64 : a2.tmps[64]?.getD undef = .agg #[.slice c ys.length cc] := hinv.sl.new (i := 1) (by decide) rfl (hdep ⟨1, .data⟩ (by simp) rfl)
                go_simp
                refine ⟨rfl, CallsIn.mono (callsIn_wide.2 (toTree_any c cc ys w9 (hys.below (kept_below hbx hinv.wd)) hny')) ?_⟩
                rintro e' w' ⟨gT, rfl, hES, hbT, _⟩
                exact EV0.step hinv nd (eEx_on ys) (i := 2) (by decide) (by show 65 < 115; decide) (fun u hu => by cases hu) ⟨gT, rfl, hES⟩ hbT
              | 3, _, hL, ho, hdep =>
                injection ho with ho; subst ho
                dsimp only
                rw [if_pos (by rfl)]
                refine ⟨fun f _ => trivial, ?_⟩
                have e63 : a2.tmps[63]?.getD undef = .agg #[.slice ad2 ys.length ys.length] := hinv.sl.new (i := 0) (by decide) rfl (hdep ⟨0, .data⟩ (by simp) rfl)
                obtain ⟨g0, h0, k0⟩ := hinv.ex 2 (by decide) (hdep ⟨2, .data⟩ (by simp) rfl)
                have e65 : a2.tmps[65]?.getD undef = .agg #[.slice (some ⟨g0, 0, none⟩) ys.length ys.length] := evalD2 h0
                go_simp
                refine ⟨rfl, CallsIn.mono (callsIn_wide.2 (eqTree_any _ _ _ _ ys w9 (hX2.later hinv.wd).es k0 hny')) ?_⟩
                rintro e' w' ⟨rfl, hb'⟩
                exact EV0.step hinv nd (eEx_on ys) (i := 3) (by decide) (by show 66 < 115; decide) (fun u hu => by cases hu; rfl) trivial hb'
              | 4, _, hL, ho, hdep =>
                injection ho with ho; subst ho
                dsimp only
                rw [if_pos (by rfl)]
                refine ⟨fun f _ => trivial, ?_⟩
                have e66 : a2.tmps[66]?.getD undef = .bool true := hinv.sl.new (i := 3) (by decide) rfl (hdep ⟨3, .data⟩ (by simp) rfl)
                go_simp
                exact EV0.step hinv nd (eEx_on ys) (i := 4) (by decide) (by show 67 < 115; decide) (fun u hu => by cases hu; rfl) trivial (Below.refl _ _)

        case rest =>
          obtain ⟨rfl, hbc⟩ := hcut
          obtain ⟨w12, hw12⟩ : ∃ x, x = wc := ⟨_, rfl⟩
          subst hw12
          replace hbx := kept_below hbx hbc
          replace A := A.later hbc
          replace hS := hS.later hbc
          replace hV := hV.later hbc
          replace hX0 := hX0.later hbc
          replace hX1 := hX1.later hbc
          replace hX2 := hX2.later hbc
          clear hbc
          -- the arguments are marked
          have x0 := hX0.cell
          have hmk := markTK_any 1 (by omega) (by omega) _ ts.length ts _ _ w12 hX0.lst hX0.hi hn'
          go_wp2_with fail
          refine hmk.mono ?_
          rintro e w13 ⟨rfl, _, row, hg, hr⟩
          replace hbx := below_marks hbx hbx.size hg hr (by have := HS.out; omega)
          replace A := A.grown hg (fun r e => by have := hr r e; have := HS.out; omega)
          replace hS := hS.grown hg (fun r e => by have := hr r e; have := HS.out; omega)
          replace hV := hV.grown hg (fun r e => by have := hr r e; have := HS.out; omega)
          replace hX1 := hX1.grown hg (fun r e => by have := hr r e; have := HS.out; omega)
          replace hX2 := hX2.grown hg (fun r e => by have := hr r e; have := HS.out; omega)
          clear hmk hg hr x0 hX0
          have x1 := hX1.cell
          have hk1 : 1 + 3 * ts.length ≤ 10485760 := by omega
          have hmk := markTK_any (1 + 3 * ts.length) (by omega) hk1 _ bs.length bs _ _ w13 hX1.lst hX1.hi hnb'
          go_wp2_with fail
          refine hmk.mono ?_
          rintro e w14 ⟨rfl, _, row, hg, hr⟩
          replace hbx := below_marks hbx hbx.size hg hr (by have := HS.out; omega)
          replace A := A.grown hg (fun r e => by have := hr r e; have := HS.out; omega)
          replace hS := hS.grown hg (fun r e => by have := hr r e; have := HS.out; omega)
          replace hV := hV.grown hg (fun r e => by have := hr r e; have := HS.out; omega)
          replace hX2 := hX2.grown hg (fun r e => by have := hr r e; have := HS.out; omega)
          clear hmk hg hr x1 hX1 hk1
          have x2 := hX2.cell
          have hk2 : 1 + 3 * ts.length + 3 * bs.length ≤ 10485760 := by omega
          have hmk := markTK_any (1 + 3 * ts.length + 3 * bs.length) (by omega) hk2 _ ys.length ys _ _ w14 hX2.lst hX2.hi hny'
          go_wp2_with fail
          refine hmk.mono ?_
          rintro e w15 ⟨rfl, _, row, hg, hr⟩
          replace hbx := below_marks hbx hbx.size hg hr (by have := HS.out; omega)
          replace A := A.grown hg (fun r e => by have := hr r e; have := HS.out; omega)
          replace hS := hS.grown hg (fun r e => by have := hr r e; have := HS.out; omega)
          replace hV := hV.grown hg (fun r e => by have := hr r e; have := HS.out; omega)
          clear hmk hg hr x2 hX2 hk2
          have hneg : ¬ ((1 + 3 * ts.length + 3 * bs.length + 3 * ys.length : Nat) : Int) < 0 := by omega
          have v0 := hV.c0
          have v1 := hV.c1
          have v2 := hV.c2
          have s0 := hS.c0
          have s1 := hS.c1
          have s2 := hS.c2
          go_wp2_with fail
          refine (eqMerged_any cd us ks _ _ _ _ cp8 cp3 ck8 ck3 w15 hV.lst.es hS.lst.es hV.ss hS.ss (by omega) (by omega)).mono ?_
          rintro e w16 ⟨rfl, hb16⟩
          replace hbx := kept_below hbx hb16
          replace A := A.later hb16
          replace hS := hS.later hb16
          replace hV := hV.later hb16
          clear hb16 v0 v1 v2 s0 s1 s2 hneg
          have v0 := hV.c0
          have v1 := hV.c1
          have v2 := hV.c2
          go_wp2_with fail
          refine (markM_any cd us ad8 cp8 ks ak8 ck8 _ _ w16 hV.lst hV.row hV.rlt hV.hi (mg_side HR.out) (by omega) (by omega)).mono ?_
          rintro e w17 ⟨rfl, hE17, hO17, row, hg, hr⟩
          replace hbx := below_marks hbx hbx.size hg hr (by have := HS.out; omega)
          replace A := A.grown hg (fun r e => by have := hr r e; have := HS.out; omega)
          replace hS := hS.grown hg (fun r e => by have := hr r e; have := HS.out; omega)
          have hbvk := hg.block bv hV.lt (fun e => by have := hr bv e.symm; omega)
          replace v0 := (World.cell?_of_block hbvk).trans v0
          replace v1 := (World.cell?_of_block hbvk).trans v1
          replace v2 := (World.cell?_of_block hbvk).trans v2
          have hES := hE17.es
          clear hg hr hV hbvk hE17
          go_wp2_with fail
          refine (heldM_any cd us.length ks.length ad8 cp8 ak8 ck8 w17 hES hO17 (by omega) (by omega)).mono ?_
          rintro e w18 ⟨rfl, hb18⟩
          replace hbx := kept_below hbx hb18
          replace A := A.later hb18
          replace hS := hS.later hb18
          replace v0 := cell_later hb18 v0
          replace v1 := cell_later hb18 v1
          replace v2 := cell_later hb18 v2
          replace hES := hES.below hb18
          replace hO17 := hO17.below hb18
          clear hb18
          have hneg2 : ¬ ((1 + 3 * us.length + ks.length : Nat) : Int) < 0 := by omega
          go_upto_region 38 with fail
          obtain ⟨WC, hWC⟩ : ∃ x, x = w18 := ⟨_, rfl⟩
          subst hWC
          go_cut [16] (fun p wx => CutM F ts bs ys WC p wx)
          case first =>
            refine (wpIn_wide (n := 0)).1 ?_
            refine wpIn_region_inv0 (by kernel_rfl) (by kernel_rfl) (fun T0 => ZM T0 [96, 97, 98, 99, 100, 101, 102, 16, 1000] (xTab (.agg #[.slice a ts.length ca]) (.agg #[.slice b bs.length cb]) (.agg #[.slice c ys.length cc])) 102 16 F ts bs ys WC) ?_ ?_ ?_
            · exact ZM.start _
            · intro L a2 w9 hinv hall
              have hfin := hinv.fin (hall 8 (by decide))
              have HX : Keep _ := ⟨hinv.sl.act⟩
              clear hinv hall
              rw [HX.out]
              go_wp2_with fail
              go_meet
              case rel => exact cutM_eval hfin
            · intro L a2 w9 i o hinv hcl hL ho hdep
              have hi9 : i < 9 := (Array.getElem?_eq_some_iff.1 ho).1
              have nd := (by decide : ([96, 97, 98, 99, 100, 101, 102, 16, 1000] : List Nat).Nodup)
              unfold wpOpIn
              rw [ho]
              match i, hi9, hL, ho, hdep with
                | 0, _, hL, ho, hdep =>
                  injection ho with ho; subst ho
                  dsimp only
                  rw [if_pos (by rfl)]
                  refine ⟨fun f _ => trivial, ?_⟩
                  have e3 : a2.tmps[3]?.getD undef = .pointer (some ⟨ta, 0, none⟩) := hinv.sl.old (by decide)
                  have c0 := (A.later hinv.wd).x
                  go_simp
                  exact ZM.step hinv nd (i := 0) (by decide) (show 96 < 115 by omega) (by decide) (by decide) (by decide) (by decide) (by decide) (undone hcl (i := 8) rfl (j := 0) (k := .phase) (by simp) rfl (getD_ft hL)) (fun u hu => by cases hu; rfl) trivial (Below.refl _ _)
                | 1, _, hL, ho, hdep =>
                  injection ho with ho; subst ho
                  dsimp only
                  rw [if_pos (by rfl)]
                  refine ⟨fun f _ => trivial, ?_⟩
                  have e96 : a2.tmps[96]?.getD undef = .agg #[.slice a ts.length ca] := hinv.sl.new (i := 0) (by decide) rfl (hdep ⟨0, .data⟩ (by simp) rfl)
                  go_simp
                  refine ⟨rfl, CallsIn.mono (callsIn_wide.2 (toTree_any a ca ts w9 (hss.below (kept_below hbx hinv.wd)) hn')) ?_⟩
                  rintro e' w' ⟨gT, rfl, hES, hbT, _⟩
                  exact ZM.step hinv nd (i := 1) (by decide) (show 97 < 115 by omega) (by decide) (by decide) (by decide) (by decide) (by decide) (undone hcl (i := 8) rfl (j := 1) (k := .phase) (by simp) rfl (getD_ft hL)) (fun u hu => by cases hu) ⟨gT, rfl, hES⟩ hbT
                | 2, _, hL, ho, hdep =>
                  injection ho with ho; subst ho
                  dsimp only
                  rw [if_pos (by rfl)]
                  refine ⟨fun f _ => trivial, ?_⟩
                  have e4 : a2.tmps[4]?.getD undef = .pointer (some ⟨tb, 0, none⟩) := hinv.sl.old (by decide)
                  have c0 := (A.later hinv.wd).y
                  go_simp
                  exact ZM.step hinv nd (i := 2) (by decide) (show 98 < 115 by omega) (by decide) (by decide) (by decide) (by decide) (by decide) (undone hcl (i := 8) rfl (j := 2) (k := .phase) (by simp) rfl (getD_ft hL)) (fun u hu => by cases hu; rfl) trivial (Below.refl _ _)
                | 3, _, hL, ho, hdep =>
                  injection ho with ho; subst ho
                  dsimp only
                  rw [if_pos (by rfl)]
                  refine ⟨fun f _ => trivial, ?_⟩
                  have e98 : a2.tmps[98]?.getD undef = .agg #[.slice b bs.length cb] := hinv.sl.new (i := 2) (by decide) rfl (hdep ⟨2, .data⟩ (by simp) rfl)
                  go_simp
                  refine ⟨rfl, CallsIn.mono (callsIn_wide.2 (toTree_any b cb bs w9 (hbs.below (kept_below hbx hinv.wd)) hnb')) ?_⟩
                  rintro e' w' ⟨gT, rfl, hES, hbT, _⟩
                  exact ZM.step hinv nd (i := 3) (by decide) (show 99 < 115 by omega) (by decide) (by decide) (by decide) (by decide) (by decide) (undone hcl (i := 8) rfl (j := 3) (k := .phase) (by simp) rfl (getD_ft hL)) (fun u hu => by cases hu) ⟨gT, rfl, hES⟩ hbT
                | 4, _, hL, ho, hdep =>
                  injection ho with ho; subst ho
                  dsimp only
                  rw [if_pos (by rfl)]
                  refine ⟨fun f _ => trivial, ?_⟩
                  have e5 : a2.tmps[5]?.getD undef = .pointer (some ⟨tc, 0, none⟩) := hinv.sl.old (by decide)
                  have c0 := (A.later hinv.wd).z
                  go_simp
                  exact ZM.step hinv nd (i := 4) (by decide) (show 100 < 115 by omega) (by decide) (by decide) (by decide) (by decide) (by decide) (undone hcl (i := 8) rfl (j := 4) (k := .phase) (by simp) rfl (getD_ft hL)) (fun u hu => by cases hu; rfl) trivial (Below.refl _ _)
                | 5, _, hL, ho, hdep =>
                  injection ho with ho; subst ho
                  dsimp only
                  rw [if_pos (by rfl)]
                  refine ⟨fun f _ => trivial, ?_⟩
                  have e100 : a2.tmps[100]?.getD undef = .agg #[.slice c ys.length cc] := hinv.sl.new (i := 4) (by decide) rfl (hdep ⟨4, .data⟩ (by simp) rfl)
                  go_simp
                  refine ⟨rfl, CallsIn.mono (callsIn_wide.2 (toTree_any c cc ys w9 (hys.below (kept_below hbx hinv.wd)) hny')) ?_⟩
                  rintro e' w' ⟨gT, rfl, hES, hbT, _⟩
                  exact ZM.step hinv nd (i := 5) (by decide) (show 101 < 115 by omega) (by decide) (by decide) (by decide) (by decide) (by decide) (undone hcl (i := 8) rfl (j := 5) (k := .phase) (by simp) rfl (getD_ft hL)) (fun u hu => by cases hu) ⟨gT, rfl, hES⟩ hbT
                | 6, _, hL, ho, hdep =>
                  injection ho with ho; subst ho
                  dsimp only
                  rw [if_pos (by rfl)]
                  refine ⟨fun f _ => trivial, ?_⟩
                  obtain ⟨g0, h0, k0⟩ := hinv.ex 1 (by decide) (undone hcl (i := 8) rfl (j := 6) (k := .data) (by simp) rfl (getD_ft hL)) (hdep ⟨1, .data⟩ (by simp) rfl)
                  have e97 : a2.tmps[97]?.getD undef = .agg #[.slice (some ⟨g0, 0, none⟩) ts.length ts.length] := evalD2 h0
                  obtain ⟨g1, h1, k1⟩ := hinv.ex 3 (by decide) (undone hcl (i := 8) rfl (j := 6) (k := .data) (by simp) rfl (getD_ft hL)) (hdep ⟨3, .data⟩ (by simp) rfl)
                  have e99 : a2.tmps[99]?.getD undef = .agg #[.slice (some ⟨g1, 0, none⟩) bs.length bs.length] := evalD2 h1
                  obtain ⟨g2, h2, k2⟩ := hinv.ex 5 (by decide) (undone hcl (i := 8) rfl (j := 6) (k := .data) (by simp) rfl (getD_ft hL)) (hdep ⟨5, .data⟩ (by simp) rfl)
                  have e101 : a2.tmps[101]?.getD undef = .agg #[.slice (some ⟨g2, 0, none⟩) ys.length ys.length] := evalD2 h2
                  go_simp
                  refine ⟨rfl, CallsIn.mono (callsIn_wide.2 (implMerge_any F (fun f x y W => implMText_any f x y _ W (hF f x y)) _ _ _ _ _ _ ts bs ys w9 k0 k1 k2 hn' hnb' hny' HZ.out.1 HZ.out.2.1 HZ.out.2.2)) ?_⟩
                  rintro e' w' ⟨c', us', ks', ad', cp', ak', ck', hR', rfl, hel', _, hrow', hb'⟩
                  exact ZM.call hinv nd (by decide) (show 102 < 115 by omega) rfl (by decide) (undone hcl (i := 8) rfl (j := 6) (k := .data) (by simp) rfl (getD_ft hL)) rfl rfl hR' hel' hrow' hb'
                | 7, _, hL, ho, hdep =>
                  injection ho with ho; subst ho
                  dsimp only
                  rw [if_pos (by rfl)]
                  refine ⟨fun f _ => trivial, ?_⟩
                  go_simp
                  exact ZM.box hinv nd (by decide) (show 16 < 115 by omega) rfl (by decide) (undone hcl (i := 8) rfl (j := 7) (k := .data) (by simp) rfl (getD_ft hL)) rfl
                | 8, _, hL, ho, hdep =>
                  injection ho with ho; subst ho
                  dsimp only
                  rw [if_pos (by rfl)]
                  refine ⟨fun f _ => trivial, ?_⟩
                  have h6 := hdep ⟨6, .data⟩ (by simp) rfl
                  have h7 := hdep ⟨7, .data⟩ (by simp) rfl
                  obtain ⟨c', us', ks', ad', cp', ak', ck', n2', n3', hm', hx'⟩ := hinv.rs h6 (getD_ft hL)
                  obtain ⟨fb, f1, f2, f3⟩ := hinv.bx h7 (getD_ft hL)
                  have e102 : a2.tmps[102]?.getD undef = .agg #[.int .i64 c', .slice ad' us'.length cp', .slice ak' ks'.length ck'] := evalD2 hm'.val
                  have e16 : a2.tmps[16]?.getD undef = .pointer (some ⟨fb, 0, none⟩) := evalD2 f1
                  have n0 := f3.c0
                  have n1 := f3.c1
                  have n2 := f3.c2
                  have nf := f3.fz
                  go_simp
                  exact ZM.store hinv hL rfl hm' (hx' h7 fb f1) f1 f2 f3

          case rest =>
            obtain ⟨cd', us', ks', ad9, cp9, ak9, ck9, k2', k3', b16, rfl, hR9, hW, _, _, _, _, hb19⟩ := hcut
            obtain ⟨rfl, rfl, rfl⟩ := mg_one HR.out hR9
            obtain ⟨w19, hw19⟩ : ∃ x, x = wc := ⟨_, rfl⟩
            subst hw19
            replace hbx := kept_below hbx hb19
            replace hS := hS.later hb19
            replace v0 := cell_later hb19 v0
            replace v1 := cell_later hb19 v1
            replace v2 := cell_later hb19 v2
            replace hES := hES.below hb19
            replace hO17 := hO17.below hb19
            clear hb19 hR9 A
            have s0 := hS.c0
            have s1 := hS.c1
            have s2 := hS.c2
            have u0 := hW.c0
            have u1 := hW.c1
            have u2 := hW.c2
            go_wp2_with fail
            refine (eqMerged_any cd us ks _ _ _ _ cp9 cp3 ck9 ck3 w19 hW.lst.es hS.lst.es hW.ss hS.ss (by omega) (by omega)).mono ?_
            rintro e w20 ⟨rfl, hb20⟩
            replace hbx := kept_below hbx hb20
            replace v0 := cell_later hb20 v0
            replace v1 := cell_later hb20 v1
            replace v2 := cell_later hb20 v2
            replace hES := hES.below hb20
            replace hO17 := hO17.below hb20
            clear hb20 s0 s1 s2 u0 u1 u2 hS hW
            go_wp2_with fail
            refine (heldM_any cd us.length ks.length ad8 cp8 ak8 ck8 w20 hES hO17 (by omega) (by omega)).mono ?_
            rintro e w21 ⟨rfl, hb21⟩
            replace hbx := kept_below hbx hb21
            clear hb21 v0 v1 v2 hES hO17
            go_wp2
            go_ret
            exact ⟨rfl, hbx⟩

set_option maxRecDepth 100000 in
theorem lifted (os : Os) (started : os.Started) (H : Type) (enc : TypeId × Value → H) :
    ReturnsInHanded {} Tryz.checked os 4 .any (Rows.fnExactMergeSpec.pre6 enc Tryz.prog Tryz.f4 Rows.fnExactMergeRow.domain false) (Rows.fnExactMergeSpec.post enc Tryz.prog Tryz.f4 false true false false) := by
  refine returnsInHanded_of_change (C := Tryz.checked) own started (by kernel_rfl) Tryz.func4
    (ChangeSpec.witness6 (enc := enc) (C := Tryz.checked) false ⟨#[], #[.agg #[.slice none 0 0], .agg #[.slice none 0 0], .agg #[.slice none 0 0]], []⟩ 8 (by kernel_rfl) (by kernel_rfl) (by kernel_rfl) (by kernel_rfl)) ?_
  intro W base args ds gs before hval0 hW hcnd _
  have hval : ∀ (j : Nat) t v, Tryz.f4.params[j]? = some t → args[j]? = some v → Value.okWide Tryz.prog W .any base t v := hval0
  have hW' := hW
  obtain ⟨p, q, hA0, hV, rfl, hfz, hnd⟩ := hW
  have hA : DataW.TrodAll enc Tryz.prog W 0 (fun _ => true) true Tryz.f4.params.toList args.toList ds p := hA0
  rw [Tryz.params4] at hA hval
  obtain ⟨v0, vs0, d0, ds0, p0, q0, hargs, rfl, rfl, h0, r0⟩ := trodAll_cons hA
  obtain ⟨v1, vs1, d1, ds1, p1, q1, rfl, rfl, rfl, h1, r1⟩ := trodAll_cons r0
  obtain ⟨v2, vs2, d2, ds2, p2, q2, rfl, rfl, rfl, h2, r2⟩ := trodAll_cons r1
  obtain ⟨rfl, rfl, rfl⟩ := trodAll_nil r2
  obtain rfl : args = #[v0, v1, v2] := by cases args; simp_all
  obtain ⟨rfl, rfl⟩ := trodVars_none hV
  have k0 := h0
  have lt0 : ∀ x ∈ p0, x.block < W.heap.size := by obtain ⟨m, hm⟩ := k0; exact DataW.trod_lt m _ _ _ hm
  have k1 := h1
  have lt1 : ∀ x ∈ p1, x.block < W.heap.size := by obtain ⟨m, hm⟩ := k1; exact DataW.trod_lt m _ _ _ hm
  have k2 := h2
  have lt2 : ∀ x ∈ p2, x.block < W.heap.size := by obtain ⟨m, hm⟩ := k2; exact DataW.trod_lt m _ _ _ hm
  obtain ⟨a2, cap2, ys, rfl, hss2, hn2, hm2⟩ := open_tree (hval 2 37 v2 rfl rfl) h2
  obtain ⟨a1, cap1, bs, rfl, hss1, hn1, hm1⟩ := open_tree (hval 1 37 v1 rfl rfl) h1
  obtain ⟨a0, cap0, ts, rfl, hss, hn, hm⟩ := open_tree (hval 0 37 v0 rfl rfl) h0
  clear hA0 hval0
  refine (walk a0 a1 a2 cap0 cap1 cap2 ts bs ys W hss hss1 hss2 hn hn1 hn2 hm hm1 hm2).mono fun e W' ⟨he, bel⟩ => ?_
  subst he
  exact ⟨_, rfl, _, _, _, [], _, [], hW', trodAll_mk1 (shut_bool Tryz.underlying4 _), (trodAll_cons_mk (Below.trod laidOut (by kernel_rfl) (of_decide_eq_true (by kernel_rfl)) k0 bel lt0) (trodAll_cons_mk (Below.trod laidOut (by kernel_rfl) (of_decide_eq_true (by kernel_rfl)) k1 bel lt1) (trodAll_cons_mk (Below.trod laidOut (by kernel_rfl) (of_decide_eq_true (by kernel_rfl)) k2 bel lt2) trodAll_mk0))), rfl, bel.frame _, fun h => by cases h⟩

theorem over : Rows.fnExactMergeRow.holds Tryz.pinned (OpenSpec.ofChange Rows.fnExactMergeSpec) :=
  OpenClaim.holds_of_wide 4 Tryz.f4 rfl rfl rfl rfl rfl rfl rfl ⟨rfl, rfl, rfl, rfl, rfl⟩ rfl rfl rfl rfl rfl (by kernel_rfl) Tryz.func4 (by kernel_rfl)
    (of_decide_eq_true (by kernel_rfl)) (by unfold Func.isWrapper; first | (rw [if_pos (by decide +kernel)]; kernel_rfl) | (rw [if_neg (by decide +kernel)]; exact ⟨rfl, rfl⟩))
    (fun os started H enc _ => lifted os started H enc)

theorem proved : Rows.FnExactMergeSaid := over
end Go.Proofs.YtjiafjdjocmodaaGreat.fnExactMerge
