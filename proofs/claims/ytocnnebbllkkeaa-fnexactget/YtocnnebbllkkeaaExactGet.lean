/-
  'FnExactGet': the walk out of the contracts; the frame.
-/
import Derived.Test.YtocnnebbllkkeaaGetI
import Derived.Test.YtocnnebbllkkeaaEntries
import Derived.Test.YtocnnebbllkkeaaGetS
import Derived.Test.YtocnnebbllkkeaaOpenTree
namespace Go.Proofs.Ytocnnebbllkkeaa.fnExactGet
open Go.ChangeShapes Go.WideShapes Go.ChangeAt Go.RowKit
open Go.ChangeMaps (open_string shut_string)
set_option linter.unusedVariables false

theorem own : ownKnob Try.prog.godebug = none := by kernel_rfl
theorem laidOut : laidOutB Try.prog = true := by kernel_rfl

theorem entV_form (o : Option En) : ∃ e : En, entV o = .agg #[.string e.path, .string e.text, .bool e.runs] := by
  cases o with
  | none => exact ⟨⟨⟨#[]⟩, ⟨#[]⟩, false⟩, rfl⟩
  | some e => exact ⟨e, rfl⟩

set_option maxRecDepth 100000 in
set_option maxHeartbeats 4000000 in
theorem walk (a : Option Addr) (cap : Nat) (ts : List En) (p : ByteArray) (w : World) (hss : ES w a ts) (hn : ts.length ≤ maxLen) (hm : ∀ s ∈ ts, s.path.size ≤ maxLen ∧ s.text.size ≤ maxLen) (hpm : p.size ≤ maxLen) :
    Calls Try.prog 4 #[.agg #[.slice a ts.length cap], .string p] w fun e w' => e = .returned (.bool true) ∧ Below w.heap.size w w' := by
  have hb0 : ∀ o, Below w.heap.size w (w.alloc o) := fun o => (Below.refl _ _).alloc (Nat.le_refl _) _
  by_cases hp1 : (1048576 : Int) < p.size
  · go_enter Try.func4, Try.ntmps4
    go_wp2
    go_ret
    exact ⟨rfl, hb0 _⟩
  go_enter Try.func4, Try.ntmps4
  go_wp2_with fail
  refine (szTree_any a cap ts _ (hss.below (hb0 _)) hn hm).mono ?_
  rintro e w1 ⟨r, rfl, hb1, hr⟩
  have hbx1 := (hb0 _).trans (hb1.mono (hb0 _).size)
  have hx1 : w1.cell? ⟨w.heap.size, 0, none⟩ = some (.slice a ts.length cap) := (hb1.cell (p := ⟨w.heap.size, 0, none⟩) (by simp)).trans (World.cell?_alloc_new _ _ _ _)
  rcases hr with hr | ⟨hr, hle⟩
  · have hr0 : r < 0 := by omega
    clear hr
    go_wp2
    go_ret
    exact ⟨rfl, hbx1⟩
  · have hr0 : ¬ r < 0 := by omega
    have hn' : ts.length ≤ 1048576 := by omega
    have hz : ∀ e ∈ ts, e.path.size ≤ 1048576 ∧ e.text.size ≤ 1048576 := fun e he => by have := size_le_totalE ts e he; omega
    clear hr
    go_wp2_with fail
    refine (toTree_any a cap ts w1 (hss.below hbx1) hn').mono ?_
    rintro e w2 ⟨g2, rfl, hs2, hb2, _⟩
    have hbx2 := hbx1.trans (hb2.mono hbx1.size)
    have hx2 := cell_later hb2 hx1
    go_wp2_with fail
    refine (specGet_any _ _ ts p w2 hs2 hn').mono ?_
    rintro e w3 ⟨o, hgot, rfl, hb3⟩
    obtain ⟨v, hv⟩ := entV_form o
    rw [hv]
    have hbx3 := hbx2.trans (hb3.mono hbx2.size)
    have hx3 := cell_later hb3 hx2
    clear hx1 hx2
    have hae : Below w3.heap.size w3 (w3.alloc (.cells #[.string v.path, .string v.text, .bool v.runs] 34)) := (Below.refl _ _).alloc (Nat.le_refl _) _
    have v0 : (w3.alloc (.cells #[.string v.path, .string v.text, .bool v.runs] 34)).cell? ⟨w3.heap.size, 0, none⟩ = some (.string v.path) := by simp
    have v1 : (w3.alloc (.cells #[.string v.path, .string v.text, .bool v.runs] 34)).cell? ⟨w3.heap.size, 1, none⟩ = some (.string v.text) := by simp
    have v2 : (w3.alloc (.cells #[.string v.path, .string v.text, .bool v.runs] 34)).cell? ⟨w3.heap.size, 2, none⟩ = some (.bool v.runs) := by simp
    have hbx3' := hbx3.trans (hae.mono hbx3.size)
    have hx3' := cell_later hae hx3
    go_wp2_with fail
    generalize hq3 : w3.alloc (.cells #[.string v.path, .string v.text, .bool v.runs] 34) = w3' at *
    generalize w3.heap.size = gv at *
    clear hq3 hae hx3 hbx3
    refine (toTree_any a cap ts w3' (hss.below hbx3') hn').mono ?_
    rintro e w4 ⟨g4, rfl, hs4, hb4, _⟩
    have hbx4 := hbx3'.trans (hb4.mono hbx3'.size)
    have hx4 := cell_later hb4 hx3'
    replace v0 := cell_later hb4 v0
    replace v1 := cell_later hb4 v1
    replace v2 := cell_later hb4 v2
    clear hx3'
    go_wp2_with fail
    have hba : Below w4.heap.size w4 (w4.alloc (.cells #[.slice (some ⟨g4, 0, none⟩) ts.length ts.length] 29)) := (Below.refl _ _).alloc (Nat.le_refl _) _
    refine (implGet_any _ _ ts p _ (hs4.below hba) hn' hz (by omega)).mono ?_
    rintro e w5 ⟨o', hgot', rfl, hb5⟩
    obtain rfl := got_one hgot hgot'
    rw [hv]
    clear hgot hgot' hv
    have hx0 : w5.cell? ⟨w4.heap.size, 0, none⟩ = some (.slice (some ⟨g4, 0, none⟩) ts.length ts.length) := (hb5.cell (p := ⟨w4.heap.size, 0, none⟩) (by simp)).trans (World.cell?_alloc_new _ _ _ _)
    have hba5 := hba.trans (hb5.mono hba.size)
    have hbx5 := hbx4.trans (hba5.mono hbx4.size)
    have hx5 := cell_later hba5 hx4
    have hs5 := hs4.below hba5
    replace v0 := cell_later hba5 v0
    replace v1 := cell_later hba5 v1
    replace v2 := cell_later hba5 v2
    clear hx4 hba5 hb5 hba
    generalize o.isSome = ob at *
    have hae : Below w5.heap.size w5 (w5.alloc (.cells #[.string v.path, .string v.text, .bool v.runs] 34)) := (Below.refl _ _).alloc (Nat.le_refl _) _
    have hx6 := cell_later hae hx5
    have hx06 := cell_later hae hx0
    replace v0 := cell_later hae v0
    replace v1 := cell_later hae v1
    replace v2 := cell_later hae v2
    go_wp2_with fail
    have hs6 := hs5.below hae
    have hbx6 := hbx5.trans (hae.mono hbx5.size)
    refine (eqEntry_any v _).mono ?_
    rintro e w7 ⟨rfl, hb7⟩
    have hx7 := cell_later hb7 hx6
    have hx07 := cell_later hb7 hx06
    have hs7 := hs6.below hb7
    have hbx7 := hbx6.trans (hb7.mono hbx6.size)
    have hc : ∀ x : Later w7, x.world.cell? ⟨w4.heap.size, 0, none⟩ = some (.slice (some ⟨g4, 0, none⟩) ts.length ts.length) := fun x => cell_later x.kept hx07
    clear hx5 hx6 hx0 hx06 v0 v1 v2
    cases ob <;> go_wp2_with fail
    all_goals
      go_region_with (first | (go_at_call 9; refine (toTree_any a cap ts _ ?_ hn').mono ?_; exact hss.below hbx7.drew; rintro e w8 ⟨g8, rfl, hs8, hb8, _⟩; have hx8 := cell_later (w := w7.drew) hb8 hx07) | (go_at_call 11; refine (eqTree_any _ _ _ _ ts _ ?_ hs8 hn').mono ?_; exact ES.below (w := w7.drew) hs7 hb8; rintro e w9 ⟨rfl, hb9⟩))
      all_goals
        have hbx8 : Below w.heap.size w w8 := hbx7.drew.trans (hb8.mono hbx7.size)
        have hbx9 := hbx8.trans (hb9.mono hbx8.size)
        go_wp2
        go_ret
        exact ⟨rfl, hbx9⟩

set_option maxRecDepth 100000 in
theorem lifted (os : Os) (started : os.Started) (H : Type) (enc : TypeId × Value → H) :
    ReturnsInHanded {} Try.checked os 4 .any (Rows.fnExactGetSpec.pre6 enc Try.prog Try.f4 Rows.fnExactGetRow.domain false) (Rows.fnExactGetSpec.post enc Try.prog Try.f4 false true false false) := by
  refine returnsInHanded_of_change (C := Try.checked) own started (by kernel_rfl) Try.func4
    (ChangeSpec.witness6 (enc := enc) (C := Try.checked) false ⟨#[], #[.agg #[.slice none 0 0], .string ByteArray.empty], []⟩ 8 (by kernel_rfl) (by kernel_rfl) (by kernel_rfl) (by kernel_rfl)) ?_
  intro W base args ds gs before hval0 hW hcnd _
  have hval : ∀ (j : Nat) t v, Try.f4.params[j]? = some t → args[j]? = some v → Value.okWide Try.prog W .any base t v := hval0
  have hW' := hW
  obtain ⟨p, q, hA0, hV, rfl, hfz, hnd⟩ := hW
  have hA : DataW.TrodAll enc Try.prog W 0 (fun _ => true) true Try.f4.params.toList args.toList ds p := hA0
  rw [Try.params4] at hA hval
  obtain ⟨v0, vs0, d0, ds0, p0, q0, hargs, rfl, rfl, h0, r0⟩ := trodAll_cons hA
  obtain ⟨v1, vs1, d1, ds1, p1, q1, rfl, rfl, rfl, h1, r1⟩ := trodAll_cons r0
  obtain ⟨rfl, rfl, rfl⟩ := trodAll_nil r1
  obtain rfl : args = #[v0, v1] := by cases args; simp_all
  obtain ⟨rfl, rfl⟩ := trodVars_none hV
  have k0 := h0
  have lt0 : ∀ x ∈ p0, x.block < W.heap.size := by obtain ⟨m, hm⟩ := k0; exact DataW.trod_lt m _ _ _ hm
  obtain ⟨a1, rfl, rfl, rfl, w1⟩ := open_string Try.underlying9 (hval 1 9 v1 rfl rfl) h1
  obtain ⟨a0, cap0, ts, rfl, hss, hn, hm⟩ := open_tree (hval 0 24 v0 rfl rfl) h0
  clear hA0 hval0
  refine (walk a0 cap0 ts a1 W hss hn hm w1).mono fun e W' ⟨he, bel⟩ => ?_
  subst he
  exact ⟨_, rfl, _, _, _, [], _, [], hW', trodAll_mk1 (shut_bool Try.underlying4 _), (trodAll_cons_mk (Below.trod laidOut (by kernel_rfl) (of_decide_eq_true (by kernel_rfl)) k0 bel lt0) (trodAll_cons_mk (shut_string Try.underlying9 w1) trodAll_mk0)), rfl, bel.frame _, fun h => by cases h⟩

theorem over : Rows.fnExactGetRow.holds Try.pinned (OpenSpec.ofChange Rows.fnExactGetSpec) :=
  OpenClaim.holds_of_wide 4 Try.f4 rfl rfl rfl rfl rfl rfl rfl ⟨rfl, rfl, rfl, rfl, rfl⟩ rfl rfl rfl rfl rfl (by kernel_rfl) Try.func4 (by kernel_rfl)
    (of_decide_eq_true (by kernel_rfl)) (by unfold Func.isWrapper; first | (rw [if_pos (by decide +kernel)]; kernel_rfl) | (rw [if_neg (by decide +kernel)]; exact ⟨rfl, rfl⟩))
    (fun os started H enc _ => lifted os started H enc)

theorem proved : Rows.FnExactGetSaid := over
end Go.Proofs.Ytocnnebbllkkeaa.fnExactGet
