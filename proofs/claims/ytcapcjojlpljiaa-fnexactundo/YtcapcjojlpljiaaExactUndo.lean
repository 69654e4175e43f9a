/-
  'FnExactUndo': the walk out of the contracts; the frame.
-/
import Derived.Test.YtcapcjojlpljiaaHeldC
import Derived.Test.YtcapcjojlpljiaaUndoI
import Derived.Test.YtcapcjojlpljiaaUndoS
import Derived.Test.YtcapcjojlpljiaaPatLaw
import Derived.Test.YtcapcjojlpljiaaOpenPat
namespace Go.Proofs.Ytcapcjojlpljiaa.fnExactUndo
open Go.ChangeShapes Go.WideShapes Go.ChangeAt Go.RowKit
set_option linter.unusedVariables false

theorem own : ownKnob Try.prog.godebug = none := by kernel_rfl
theorem laidOut : laidOutB Try.prog = true := by kernel_rfl

theorem eqi (c : Int) : (c == c) = true := by simp
theorem nei (c : Int) : (c != c) = false := by simp

set_option maxRecDepth 100000 in
set_option maxHeartbeats 8000000 in
theorem walk (a : Option Addr) (cap : Nat) (ts : List Ch) (w : World) (hss : CS w a ts) (hn : ts.length ≤ maxLen) (hm : ∀ s ∈ ts, chMax s) :
    Calls Try.prog 6 #[.agg #[.slice a ts.length cap]] w fun e w' => e = .returned (.bool true) ∧ Below w.heap.size w w' := by
  have hb0 : ∀ o, Below w.heap.size w (w.alloc o) := fun o => (Below.refl _ _).alloc (Nat.le_refl _) _
  go_enter Try.func6, Try.ntmps6
  go_wp2_with fail
  refine (szPatch_any a cap ts _ (hss.below (hb0 _)) hn hm).mono ?_
  rintro e w1 ⟨r, rfl, hb1, hr⟩
  have hbx1 := (hb0 _).trans (hb1.mono (hb0 _).size)
  have hx1 : w1.cell? ⟨w.heap.size, 0, none⟩ = some (.slice a ts.length cap) := (hb1.cell (p := ⟨w.heap.size, 0, none⟩) (by simp)).trans (World.cell?_alloc_new _ _ _ _)
  have hz1 : w.heap.size < w1.heap.size := Nat.lt_of_lt_of_le (by simp) hb1.size
  rcases hr with hr | ⟨hr, hle⟩
  · have hr0 : r < 0 := by omega
    clear hr
    go_wp2
    go_ret
    exact ⟨rfl, hbx1⟩
  have hr0 : ¬ r < 0 := by omega
  have hn' : ts.length ≤ 1048576 := by omega
  have hz : ∀ e ∈ ts, e.path.size ≤ 1048576 := fun e he => by have := size_le_totalC ts e he; unfold sizeC at this; omega
  clear hr hb1
  obtain ⟨T, hTe⟩ : ∃ T, T = w.heap.size := ⟨_, rfl⟩
  have hTw : Keep (T = w.heap.size) := ⟨hTe⟩
  rw [← hTe] at hx1 ⊢
  clear hTe
  go_wp2_with fail
  refine (toPatch_any a cap ts w1 (hss.below hbx1) hn').mono ?_
  rintro e w2 ⟨g2, rfl, hs2, hb2, _, _, _⟩
  have hbx2 := hbx1.trans (hb2.mono hbx1.size)
  have hx2 := cell_later hb2 hx1
  have hz2 := hb2.size
  clear hx1 hb2
  go_wp2_with fail
  refine (specUndo_any _ _ ts w2 hs2 hn').mono ?_
  rintro e w3 ⟨us, hrem, ⟨ad3, cap3, rfl, hel3⟩, hb3⟩
  have hbx3 := hbx2.trans (hb3.mono hbx2.size)
  have hx3 := cell_later hb3 hx2
  have hz3 := hb3.size
  have he3 := hel3.cin (Nat.le_refl _)
  have hus := undo_few hrem
  have HR : Keep (UndoRel ts us) := ⟨hrem⟩
  clear hx2 hb3 hel3 hs2 hrem
  have ha3 : Below w3.heap.size w3 (w3.alloc (.cells #[.slice ad3 us.length cap3] 40)) := (Below.refl _ _).alloc (Nat.le_refl _) _
  have y3 : (w3.alloc (.cells #[.slice ad3 us.length cap3] 40)).cell? ⟨w3.heap.size, 0, none⟩ = some (.slice ad3 us.length cap3) := by simp
  have hz3' : (w3.alloc (.cells #[.slice ad3 us.length cap3] 40)).heap.size = w3.heap.size + 1 := by simp
  have hx3' := cell_later ha3 hx3
  have hbx3' := hbx3.trans (ha3.mono hbx3.size)
  have he3' := he3.below (Nat.le_refl _) ha3
  go_wp2_with fail
  generalize w3.alloc (.cells #[.slice ad3 us.length cap3] 40) = w3' at *
  have HZ3 : Keep (w3'.heap.size = w3.heap.size + 1) := ⟨hz3'⟩
  have HZ2 : Keep (w.heap.size < w2.heap.size ∧ w2.heap.size ≤ w3.heap.size) := ⟨⟨Nat.lt_of_lt_of_le hz1 hz2, hz3⟩⟩
  clear hz3' hz1 hz2 hz3 ha3 hx3 hbx3 he3
  refine (toPatch_any a cap ts w3' (hss.below hbx3') hn').mono ?_
  rintro e w4 ⟨g4, rfl, hs4, hb4, hg4, hf4, hl4⟩
  have he4 := cin_of_toPatch hs4 hg4 hf4 hl4
  have hbx4 := hbx3'.trans (hb4.mono hbx3'.size)
  have hx4 := cell_later hb4 hx3'
  have y4 := cell_later hb4 y3
  have he34 := he3'.below (by have := HZ3.out; omega) hb4
  have HZ4 : Keep (w3'.heap.size ≤ w4.heap.size) := ⟨hb4.size⟩
  clear hx3' y3 hbx3' he3' hb4 hs4 hf4 hg4 hl4
  have ha4 : Below w4.heap.size w4 (w4.alloc (.cells #[.slice (some ⟨g4, 0, none⟩) ts.length ts.length] 40)) := (Below.refl _ _).alloc (Nat.le_refl _) _
  have x4 : (w4.alloc (.cells #[.slice (some ⟨g4, 0, none⟩) ts.length ts.length] 40)).cell? ⟨w4.heap.size, 0, none⟩ = some (.slice (some ⟨g4, 0, none⟩) ts.length ts.length) := by simp
  have hz4' : (w4.alloc (.cells #[.slice (some ⟨g4, 0, none⟩) ts.length ts.length] 40)).heap.size = w4.heap.size + 1 := by simp
  have hx4' := cell_later ha4 hx4
  have y4' := cell_later ha4 y4
  have hbx4' := hbx4.trans (ha4.mono hbx4.size)
  have he4' := he4.below (Nat.le_refl _) ha4
  have he34' := he34.below (by have := HZ3.out; have := HZ4.out; omega) ha4
  go_wp2_with fail
  generalize w4.alloc (.cells #[.slice (some ⟨g4, 0, none⟩) ts.length ts.length] 40) = w4' at *
  have HZ4' : Keep (w4'.heap.size = w4.heap.size + 1) := ⟨hz4'⟩
  clear hz4' ha4 hx4 y4 hbx4 he4 he34
  refine (implUndo_any _ _ ts w4' he4'.cs hn' hz).mono ?_
  rintro e w5 ⟨us', hrem', ⟨ad5, cap5, rfl, hel5⟩, hb5⟩
  obtain rfl := (undo_one HR.out hrem').symm
  have he5 := hel5.cin (Nat.le_refl _)
  have hbx5 := hbx4'.trans (hb5.mono hbx4'.size)
  have hx5 := cell_later hb5 hx4'
  have y5 := cell_later hb5 y4'
  have x5 := cell_later hb5 x4
  have he35 := he34'.below (by have := HZ3.out; have := HZ4.out; have := HZ4'.out; omega) hb5
  have he45 := he4'.below (by have := HZ4'.out; omega) hb5
  have HZ5 : Keep (w4'.heap.size ≤ w5.heap.size) := ⟨hb5.size⟩
  clear hx4' y4' x4 hbx4' he34' he4' hb5 hel5 hrem'
  have ha5 : Below w5.heap.size w5 (w5.alloc (.cells #[.slice ad5 us.length cap5] 40)) := (Below.refl _ _).alloc (Nat.le_refl _) _
  have v5 : (w5.alloc (.cells #[.slice ad5 us.length cap5] 40)).cell? ⟨w5.heap.size, 0, none⟩ = some (.slice ad5 us.length cap5) := by simp
  have hz5' : (w5.alloc (.cells #[.slice ad5 us.length cap5] 40)).heap.size = w5.heap.size + 1 := by simp
  have hx6 := cell_later ha5 hx5
  have y6 := cell_later ha5 y5
  have x6 := cell_later ha5 x5
  have hbx6 := hbx5.trans (ha5.mono hbx5.size)
  have he36 := he35.below (by have := HZ3.out; have := HZ4.out; have := HZ4'.out; have := HZ5.out; omega) ha5
  have he46 := he45.below (by have := HZ4'.out; have := HZ5.out; omega) ha5
  have he56 := he5.below (Nat.le_refl _) ha5
  go_wp2_with fail
  generalize w5.alloc (.cells #[.slice ad5 us.length cap5] 40) = w6 at *
  have HZ6 : Keep (w6.heap.size = w5.heap.size + 1) := ⟨hz5'⟩
  have HS : Keep (w.heap.size < w2.heap.size ∧ w2.heap.size ≤ w3.heap.size ∧ w3.heap.size < w3'.heap.size ∧ w3'.heap.size ≤ w4.heap.size ∧ w4.heap.size < w4'.heap.size ∧ w4'.heap.size ≤ w5.heap.size ∧ w5.heap.size < w6.heap.size) := ⟨by
    have := HZ2.out; have := HZ3.out; have := HZ4.out; have := HZ4'.out; have := HZ5.out; have := HZ6.out; omega⟩
  clear hz5' ha5 hx5 y5 x5 hbx5 he35 he45 he5 HZ2 HZ3 HZ4 HZ4' HZ5 HZ6
  have hul : us.length ≤ 1048576 := by omega
  refine (eqPatch_any _ _ _ _ us w6 he56.cs he36.cs hul).mono ?_
  rintro e w7 ⟨rfl, hb7⟩
  have hx7 := cell_later hb7 hx6
  have y7 := cell_later hb7 y6
  have x7 := cell_later hb7 x6
  have v7 := cell_later hb7 v5
  have hbx7 := hbx6.trans (hb7.mono hbx6.size)
  have he37 := he36.below (by have := HS.out; omega) hb7
  have he47 := he46.below (by have := HS.out; omega) hb7
  have he57 := he56.below (by have := HS.out; omega) hb7
  have HZ7 : Keep (w6.heap.size ≤ w7.heap.size) := ⟨hb7.size⟩
  clear hx6 y6 x6 v5 hbx6 he36 he46 he56 hb7
  have hc : ∀ x : Later w7, x.world.cell? ⟨w4.heap.size, 0, none⟩ = some (.slice (some ⟨g4, 0, none⟩) ts.length ts.length) := fun x => cell_later x.kept x7
  go_wp2_with fail
  go_region_with (first | (go_at_call 14; refine (toPatch_any a cap ts _ ?_ hn').mono ?_; exact hss.below hbx7.drew; rintro e w8 ⟨g8, rfl, hs8, hb8, _⟩; have x8 := cell_later (w := w7.drew) hb8 x7) | (go_at_call 16; refine (eqPatch_any _ _ _ _ ts _ ?_ hs8 hn').mono ?_; exact CS.below (w := w7.drew) he47.cs hb8; rintro e w9 ⟨rfl, hb9⟩))
  all_goals
    have hb79 : Below w7.heap.size w7 w9 := ((Below.refl w7.heap.size w7).drew.trans (hb8.mono (Nat.le_refl _))).trans (hb9.mono hb8.size)
    have hx9 := cell_later hb79 hx7
    have y9 := cell_later hb79 y7
    have x9 := cell_later hb79 x7
    have v9 := cell_later hb79 v7
    have hbx9 := hbx7.trans (hb79.mono hbx7.size)
    have he39 := he37.below (by have := HS.out; have := HZ7.out; omega) hb79
    have he49 := he47.below (by have := HS.out; have := HZ7.out; omega) hb79
    have he59 := he57.below (by have := HS.out; have := HZ7.out; omega) hb79
    have HZ9 : Keep (w6.heap.size ≤ w9.heap.size) := ⟨Nat.le_trans HZ7.out hb79.size⟩
    clear hx7 y7 x7 v7 hbx7 he37 he47 he57 hb79 hb8 hb9 hs8 x8 hc HZ7
    go_wp2_with fail
    refine (markP_any _ _ ts _ _ w9 he49 (by have := HS.out; have := HZ9.out; omega) hn').mono ?_
    rintro e w10 ⟨rfl, he410, row, hg10, hr10⟩
    have hx10 := cell_grown hx9 (by have := hTw.out; have := HS.out; have := HZ9.out; omega) hg10 (fun r e => by have := hr10 r e; have := hTw.out; have := HS.out; omega)
    have y10 := cell_grown y9 (by have := HS.out; have := HZ9.out; omega) hg10 (fun r e => by have := hr10 r e; have := HS.out; omega)
    have v10 := cell_grown v9 (by have := HS.out; have := HZ9.out; omega) hg10 (fun r e => by have := hr10 r e; have := HS.out; omega)
    have he310 := he39.grown (by have := HS.out; have := HZ9.out; omega) hg10 (fun r e => by have := hr10 r e; have := HS.out; omega)
    have he510 := he59.grown (by have := HS.out; have := HZ9.out; omega) hg10 (fun r e => by have := hr10 r e; have := HS.out; omega)
    have hbx10 := below_marks hbx9 hbx9.size hg10 hr10 (by have := HS.out; omega)
    have HZ10 : Keep (w6.heap.size ≤ w10.heap.size) := ⟨Nat.le_trans HZ9.out hg10.size⟩
    have hneg : ¬ ((1 + 7 * ts.length : Nat) : Int) < 0 := by omega
    clear hx9 y9 x9 v9 he39 he49 he59 hbx9 hg10 hr10 he410 HZ9
    go_wp2_with fail
    refine (eqPatch_any _ _ _ _ us w10 he510.cs he310.cs hul).mono ?_
    rintro e w11 ⟨rfl, hb11⟩
    have hx11 := cell_later hb11 hx10
    have y11 := cell_later hb11 y10
    have v11 := cell_later hb11 v10
    have hbx11 := hbx10.trans (hb11.mono hbx10.size)
    have he311 := he310.below (by have := HS.out; have := HZ10.out; omega) hb11
    have he511 := he510.below (by have := HS.out; have := HZ10.out; omega) hb11
    have HZ11 : Keep (w6.heap.size ≤ w11.heap.size) := ⟨Nat.le_trans HZ10.out hb11.size⟩
    clear hx10 y10 v10 hbx10 he310 he510 hb11 HZ10
    go_wp2_with fail
    refine (markP_any _ _ us _ _ w11 he511 (by have := HS.out; have := HZ11.out; omega) hul).mono ?_
    rintro e w12 ⟨rfl, he512, row2, hg12, hr12⟩
    have hx12 := cell_grown hx11 (by have := hTw.out; have := HS.out; have := HZ11.out; omega) hg12 (fun r e => by have := hr12 r e; have := hTw.out; have := HS.out; omega)
    have y12 := cell_grown y11 (by have := HS.out; have := HZ11.out; omega) hg12 (fun r e => by have := hr12 r e; have := HS.out; omega)
    have v12 := cell_grown v11 (by have := HS.out; have := HZ11.out; omega) hg12 (fun r e => by have := hr12 r e; have := HS.out; omega)
    have he312 := he311.grown (by have := HS.out; have := HZ11.out; omega) hg12 (fun r e => by have := hr12 r e; have := HS.out; omega)
    have hbx12 := below_marks hbx11 hbx11.size hg12 hr12 (by have := HS.out; omega)
    have HZ12 : Keep (w6.heap.size ≤ w12.heap.size) := ⟨Nat.le_trans HZ11.out hg12.size⟩
    clear hx11 y11 v11 hbx11 he311 he511 hg12 hr12 HZ11
    go_wp2_with fail
    refine (heldPatch_any _ _ us.length w12 he512.cs hul).mono ?_
    rintro e w13 ⟨rfl, hb13⟩
    have hx13 := cell_later hb13 hx12
    have y13 := cell_later hb13 y12
    have v13 := cell_later hb13 v12
    have hbx13 := hbx12.trans (hb13.mono hbx12.size)
    have he313 := he312.below (by have := HS.out; have := HZ12.out; omega) hb13
    have he513 := he512.below (by have := HS.out; have := HZ12.out; omega) hb13
    have HZ13 : Keep (w6.heap.size ≤ w13.heap.size) := ⟨Nat.le_trans HZ12.out hb13.size⟩
    have hneg2 : ¬ ((1 + 7 * us.length : Nat) : Int) < 0 := by omega
    clear hx12 y12 v12 hbx12 he312 he512 hb13 HZ12
    go_wp2_with fail
    refine (toPatch_any a cap ts w13 (hss.below hbx13) hn').mono ?_
    rintro e w14 ⟨g14, rfl, hs14, hb14, _⟩
    have y14 := cell_later hb14 y13
    have v14 := cell_later hb14 v13
    have hbx14 := hbx13.trans (hb14.mono hbx13.size)
    have he314 := he313.below (by have := HS.out; have := HZ13.out; omega) hb14
    have he514 := he513.below (by have := HS.out; have := HZ13.out; omega) hb14
    have HZ14 : Keep (w6.heap.size ≤ w14.heap.size) := ⟨Nat.le_trans HZ13.out hb14.size⟩
    clear hx13 y13 v13 hbx13 he313 he513 hb14 HZ13
    go_wp2_with fail
    refine (implUndo_any _ _ ts w14 hs14 hn' hz).mono ?_
    rintro e w15 ⟨us', hrem', ⟨ad15, cap15, rfl, hel15⟩, hb15⟩
    obtain rfl := (undo_one HR.out hrem').symm
    have y15 := cell_later hb15 y14
    have v15 := cell_later hb15 v14
    have hbx15 := hbx14.trans (hb15.mono hbx14.size)
    have he315 := he314.below (by have := HS.out; have := HZ14.out; omega) hb15
    have he515 := he514.below (by have := HS.out; have := HZ14.out; omega) hb15
    have HZ15 : Keep (w6.heap.size ≤ w15.heap.size) := ⟨Nat.le_trans HZ14.out hb15.size⟩
    have hes15 := hel15.cs
    clear y14 v14 hbx14 he314 he514 hb15 HZ14 hrem' hel15 hs14
    have ha15 : Below w15.heap.size w15 (w15.alloc (.cells #[.slice ad15 us.length cap15] 40)) := (Below.refl _ _).alloc (Nat.le_refl _) _
    have y16 := cell_later ha15 y15
    have v16 := cell_later ha15 v15
    have hbx16 := hbx15.trans (ha15.mono hbx15.size)
    have he316 := he315.below (by have := HS.out; have := HZ15.out; omega) ha15
    have he516 := he515.below (by have := HS.out; have := HZ15.out; omega) ha15
    have hes16 := hes15.below ha15
    clear y15 v15 hbx15 he315 he515 hes15
    go_wp2_with fail
    refine (eqPatch_any _ _ _ _ us _ hes16 he316.cs hul).mono ?_
    rintro e w17 ⟨rfl, hb17⟩
    have v17 := cell_later hb17 v16
    have hbx17 := hbx16.trans (hb17.mono hbx16.size)
    have hes17 := he516.cs.below hb17
    clear y16 v16 hbx16 he316 he516 hes16 hb17 ha15
    go_wp2_with fail
    refine (heldPatch_any _ _ us.length w17 hes17 hul).mono ?_
    rintro e w18 ⟨rfl, hb18⟩
    have hbx18 := hbx17.trans (hb18.mono hbx17.size)
    clear hb18 hbx17 v17 hes17
    go_wp2
    go_ret
    exact ⟨rfl, hbx18⟩

set_option maxRecDepth 100000 in
theorem lifted (os : Os) (started : os.Started) (H : Type) (enc : TypeId × Value → H) :
    ReturnsInHanded {} Try.checked os 6 .any (Rows.fnExactUndoSpec.pre6 enc Try.prog Try.f6 Rows.fnExactUndoRow.domain false) (Rows.fnExactUndoSpec.post enc Try.prog Try.f6 false true false false) := by
  refine returnsInHanded_of_change (C := Try.checked) own started (by kernel_rfl) Try.func6
    (ChangeSpec.witness6 (enc := enc) (C := Try.checked) false ⟨#[], #[.agg #[.slice none 0 0]], []⟩ 8 (by kernel_rfl) (by kernel_rfl) (by kernel_rfl) (by kernel_rfl)) ?_
  intro W base args ds gs before hval0 hW hcnd _
  have hval : ∀ (j : Nat) t v, Try.f6.params[j]? = some t → args[j]? = some v → Value.okWide Try.prog W .any base t v := hval0
  have hW' := hW
  obtain ⟨p, q, hA0, hV, rfl, hfz, hnd⟩ := hW
  have hA : DataW.TrodAll enc Try.prog W 0 (fun _ => true) true Try.f6.params.toList args.toList ds p := hA0
  rw [Try.params6] at hA hval
  obtain ⟨v0, vs0, d0, ds0, p0, q0, hargs, rfl, rfl, h0, r0⟩ := trodAll_cons hA
  obtain ⟨rfl, rfl, rfl⟩ := trodAll_nil r0
  obtain rfl : args = #[v0] := by cases args; simp_all
  obtain ⟨rfl, rfl⟩ := trodVars_none hV
  have k0 := h0
  have lt0 : ∀ x ∈ p0, x.block < W.heap.size := by obtain ⟨m, hm⟩ := k0; exact DataW.trod_lt m _ _ _ hm
  obtain ⟨a0, cap0, ts, rfl, hss, hn, hm⟩ := open_patch (hval 0 35 v0 rfl rfl) h0
  clear hA0 hval0
  refine (walk a0 cap0 ts W hss hn hm).mono fun e W' ⟨he, bel⟩ => ?_
  subst he
  exact ⟨_, rfl, _, _, _, [], _, [], hW', trodAll_mk1 (shut_bool Try.underlying4 _), (trodAll_cons_mk (Below.trod laidOut (by kernel_rfl) (of_decide_eq_true (by kernel_rfl)) k0 bel lt0) trodAll_mk0), rfl, bel.frame _, fun h => by cases h⟩

theorem over : Rows.fnExactUndoRow.holds Try.pinned (OpenSpec.ofChange Rows.fnExactUndoSpec) :=
  OpenClaim.holds_of_wide 6 Try.f6 rfl rfl rfl rfl rfl rfl rfl ⟨rfl, rfl, rfl, rfl, rfl⟩ rfl rfl rfl rfl rfl (by kernel_rfl) Try.func6 (by kernel_rfl)
    (of_decide_eq_true (by kernel_rfl)) (by unfold Func.isWrapper; first | (rw [if_pos (by decide +kernel)]; kernel_rfl) | (rw [if_neg (by decide +kernel)]; exact ⟨rfl, rfl⟩))
    (fun os started H enc _ => lifted os started H enc)

theorem proved : Rows.FnExactUndoSaid := over
end Go.Proofs.Ytcapcjojlpljiaa.fnExactUndo
