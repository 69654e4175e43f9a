/-
  'FnExactFormValue': the walk out of the contracts; the frame.
-/
import Derived.Test.YtdjpohkionapiaaSpecFormV
import Derived.Test.YtdjpohkionapiaaExactValid
namespace Go.Proofs.Ytdjpohkionapiaa.fnExactFormValue
open Go.ChangeShapes Go.WideShapes Go.ChangeAt Go.RowKit
set_option linter.unusedVariables false

set_option maxHeartbeats 2000000 in
theorem walk (a : Option Addr) (cap : Nat) (ts : List At) (w : World) (hss : AS w a ts) (hn : ts.length ≤ maxLen) (hm : ∀ s ∈ ts, s.text.size ≤ maxLen) :
    Calls Try.prog 4 #[.agg #[.slice a ts.length cap]] w fun e w' => e = .returned (.bool true) ∧ Below w.heap.size w w' := by
  go_enter Try.func4, Try.ntmps4
  go_wp2_with fail
  have hb0 : ∀ o, Below w.heap.size w (w.alloc o) := fun o => (Below.refl _ _).alloc (Nat.le_refl _) _
  refine (szValue_any a cap ts _ (hss.below (hb0 _)) hn hm).mono ?_
  rintro e w1 ⟨r, rfl, hb1, hr⟩
  have hbx1 := (hb0 _).trans (hb1.mono (hb0 _).size)
  have hx1 : w1.cell? ⟨w.heap.size, 0, none⟩ = some (.slice a ts.length cap) := (hb1.cell (p := ⟨w.heap.size, 0, none⟩) (by simp)).trans (World.cell?_alloc_new _ _ _ _)
  rcases hr with hr | ⟨hr, hle⟩
  · have hr0 : r < 0 := by omega
    clear hr
    go_wp2
    go_ret
    exact ⟨rfl, hbx1⟩
  · have hr0 : ¬ r < 0 := by omega
    have hn' : ts.length ≤ 1048576 := by omega
    clear hr
    go_wp2_with fail
    refine (toValue_any a cap ts w1 (hss.below hbx1) hn').mono ?_
    rintro e w2 ⟨g2, rfl, hs2, hb2, _⟩
    have hbx2 := hbx1.trans (hb2.mono hbx1.size)
    have hx2 := cell_later hb2 hx1
    go_wp2_with fail
    refine (specForm_any _ _ ts w2 hs2 hle hm).mono ?_
    rintro e w3 ⟨rfl, hb3⟩
    have hbx3 := hbx2.trans (hb3.mono hbx2.size)
    have hx3 := cell_later hb3 hx2
    go_wp2_with fail
    refine (toValue_any a cap ts w3 (hss.below hbx3) hn').mono ?_
    rintro e w4 ⟨g4, rfl, hs4, hb4, _⟩
    have hbx4 := hbx3.trans (hb4.mono hbx3.size)
    have hx4 := cell_later hb4 hx3
    go_wp2_with fail
    have hba : Below w4.heap.size w4 (w4.alloc (.cells #[.slice (some ⟨g4, 0, none⟩) ts.length ts.length] 29)) := (Below.refl _ _).alloc (Nat.le_refl _) _
    refine (implForm_any _ _ ts _ (hs4.below hba) hle hm).mono ?_
    rintro e w5 ⟨rfl, hb5⟩
    have hx0 : w5.cell? ⟨w4.heap.size, 0, none⟩ = some (.slice (some ⟨g4, 0, none⟩) ts.length ts.length) := (hb5.cell (p := ⟨w4.heap.size, 0, none⟩) (by simp)).trans (World.cell?_alloc_new _ _ _ _)
    have hba5 := hba.trans (hb5.mono hba.size)
    have hbx5 := hbx4.trans (hba5.mono hbx4.size)
    have hx5 := cell_later hba5 hx4
    have hs5 := hs4.below hba5
    generalize formV ts = vb at *
    clear hx1 hx2 hx3 hx4
    go_wp2_with fail
    go_region_with (first | (go_at_call 7; refine (toValue_any a cap ts _ ?_ hn').mono ?_; exact hss.below hbx5.drew; rintro e w6 ⟨g6, rfl, hs6, hb6, _⟩; have hx6 := cell_later (w := w5.drew) hb6 hx0) | (go_at_call 9; refine (eqValue_any _ _ _ _ ts _ ?_ hs6 hn').mono ?_; exact AS.below (w := w5.drew) hs5 hb6; rintro e w7 ⟨rfl, hb7⟩))
    all_goals
      have hbx6 : Below w.heap.size w w6 := hbx5.drew.trans (hb6.mono hbx5.size)
      have hbx7 := hbx6.trans (hb7.mono hbx6.size)
      go_wp2
      go_ret
      exact ⟨rfl, hbx7⟩

set_option maxRecDepth 100000 in
theorem lifted (os : Os) (started : os.Started) (H : Type) (enc : TypeId × Value → H) :
    ReturnsInHanded {} Try.checked os 4 .any (Rows.fnExactFormValueSpec.pre6 enc Try.prog Try.f4 Rows.fnExactFormValueRow.domain false) (Rows.fnExactFormValueSpec.post enc Try.prog Try.f4 false true false false) := by
  refine returnsInHanded_of_change (C := Try.checked) fnExactValidValue.own started (by kernel_rfl) Try.func4
    (ChangeSpec.witness6 (enc := enc) (C := Try.checked) false ⟨#[], #[.agg #[.slice none 0 0]], []⟩ 8 (by kernel_rfl) (by kernel_rfl) (by kernel_rfl) (by kernel_rfl)) ?_
  intro W base args ds gs before hval0 hW hcnd _
  have hval : ∀ (j : Nat) t v, Try.f4.params[j]? = some t → args[j]? = some v → Value.okWide Try.prog W .any base t v := hval0
  have hW' := hW
  obtain ⟨p, q, hA0, hV, rfl, hfz, hnd⟩ := hW
  have hA : DataW.TrodAll enc Try.prog W 0 (fun _ => true) true Try.f4.params.toList args.toList ds p := hA0
  rw [Try.params4] at hA hval
  obtain ⟨v0, vs0, d0, ds0, p0, q0, hargs, rfl, rfl, h0, r0⟩ := trodAll_cons hA
  obtain ⟨rfl, rfl, rfl⟩ := trodAll_nil r0
  obtain rfl : args = #[v0] := by cases args; simp_all
  obtain ⟨rfl, rfl⟩ := trodVars_none hV
  have k0 := h0
  have lt0 : ∀ x ∈ p0, x.block < W.heap.size := by obtain ⟨m, hm⟩ := k0; exact DataW.trod_lt m _ _ _ hm
  obtain ⟨a0, cap0, ts, rfl, hss, hn, hm⟩ := fnExactValidValue.open_val (hval 0 24 v0 rfl rfl) h0
  clear hA0 hval0
  refine (walk a0 cap0 ts W hss hn hm).mono fun e W' ⟨he, bel⟩ => ?_
  subst he
  exact ⟨_, rfl, _, _, _, [], _, [], hW', trodAll_mk1 (shut_bool Try.underlying4 _), (trodAll_cons_mk (Below.trod fnExactValidValue.laidOut (by kernel_rfl) (of_decide_eq_true (by kernel_rfl)) k0 bel lt0) trodAll_mk0), rfl, bel.frame _, fun h => by cases h⟩

theorem over : Rows.fnExactFormValueRow.holds Try.pinned (OpenSpec.ofChange Rows.fnExactFormValueSpec) :=
  OpenClaim.holds_of_wide 4 Try.f4 rfl rfl rfl rfl rfl rfl rfl ⟨rfl, rfl, rfl, rfl, rfl⟩ rfl rfl rfl rfl rfl (by kernel_rfl) Try.func4 (by kernel_rfl)
    (of_decide_eq_true (by kernel_rfl)) (by unfold Func.isWrapper; first | (rw [if_pos (by decide +kernel)]; kernel_rfl) | (rw [if_neg (by decide +kernel)]; exact ⟨rfl, rfl⟩))
    (fun os started H enc _ => lifted os started H enc)

theorem proved : Rows.FnExactFormValueSaid := over
end Go.Proofs.Ytdjpohkionapiaa.fnExactFormValue
