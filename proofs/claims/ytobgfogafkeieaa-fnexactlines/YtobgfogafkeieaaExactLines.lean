/-
  'FnExactLines': the walk out of the contracts; the frame.
-/
import Derived.Test.YtobgfogafkeieaaLinesS
import Derived.Test.YtobgfogafkeieaaLinesI
import Derived.Test.YtobgfogafkeieaaMark
import Derived.ProofKit
import Derived.OpenShut
import Derived.ShutString
import Derived.ChangeOld
import Derived.Below
namespace Go.Proofs.Ytobgfogafkeieaa.fnExactLines
open Go.ChangeShapes Go.WideShapes Go.ChangeAt Go.RowKit
open Go.ChangeMaps (open_string shut_string)
set_option linter.unusedVariables false

theorem own : ownKnob Try.prog.godebug = none := by kernel_rfl
theorem laidOut : laidOutB Try.prog = true := by kernel_rfl

theorem ss_of_rowL {w : World} {base : Nat} {ad : Option Addr} {n cp : Nat} {ss : List ByteArray} (hn : ss.length = n) (h : w.ownsRow base 9 1 (.slice ad n cp) n (ss.map .string)) : SS w ad ss := by
  subst hn
  rcases h.2 with ⟨_, h0⟩ | ⟨g, c, cur, hv, _⟩
  · exact .inl (List.eq_nil_of_length_eq_zero h0)
  · cases hv
    refine .inr ⟨g, 0, rfl, fun i hi => ?_⟩
    rw [Nat.zero_add, h.cellAt i (by omega), List.getElem?_map, List.getElem?_eq_getElem hi]
    rfl

theorem row_grown {w w' : World} {base : Nat} {e : TypeId} {size : Nat} {v : Value} {n : Nat} {xs : List Value} {row : Option Nat} (h : w.ownsRow base e size v n xs) (hg : w.grownBy w' row) (hne : ∀ g, v.ownBlock = some g → some g ≠ row) : w'.ownsRow base e size v n xs := by
  refine ⟨h.1, ?_⟩
  rcases h.2 with h' | ⟨g, cap, cur, hv, k1, k2, k3⟩
  · exact .inl h'
  · refine .inr ⟨g, cap, cur, hv, k1, ?_, k3⟩
    rw [hg.block g (Array.getElem?_eq_some_iff.1 k2).1 (hne g (by rw [hv]; rfl))]
    exact k2

set_option maxHeartbeats 4000000 in
theorem walk (a0 : ByteArray) (h0 : a0.size ≤ maxLen) (w : World) :
    Calls Try.prog 4 #[.string a0] w fun e w' => e = .returned (.bool true) ∧ Below w.heap.size w w' := by
  by_cases hbig : (1048576 : Int) < a0.size
  · go_enter Try.func4, Try.ntmps4
    go_wp2
    go_ret
    exact ⟨rfl, Below.refl _ _⟩
  · have hlen := linesT_le a0
    have hsp := fun w => specLines_any a0 w
    have him := fun w => implLines_any a0 w
    generalize linesT a0 = ss at *
    go_enter Try.func4, Try.ntmps4
    go_wp2_with fail
    refine (hsp _).mono ?_
    rintro e w1 ⟨a1, c1, rfl, o1, b1⟩
    have r1 : ∀ k, (Value.slice a1 ss.length c1).ownBlock = some k → k < w1.heap.size := fun k hk => own_lt o1 hk
    go_wp2_with fail
    refine (him _).mono ?_
    rintro e w2 ⟨a2, c2, rfl, o2, b2⟩
    have r2 : ∀ k, (Value.slice a2 ss.length c2).ownBlock = some k → w1.heap.size ≤ k ∧ k < w2.heap.size := fun k hk => ⟨owns_row_ge o2 hk, own_lt o2 hk⟩
    replace o1 := owns_below o1 b2
    have bx2 := b1.trans (b2.mono b1.size)
    go_wp2_with fail
    refine (eq_any a2 a1 c2 c1 ss w2 (ss_of_rowL rfl o2) (ss_of_rowL rfl o1) (by omega)).mono ?_
    rintro e w3 ⟨rfl, b3⟩
    replace o1 := owns_below o1 b3
    replace o2 := owns_below o2 b3
    have bx3 := bx2.trans (b3.mono bx2.size)
    go_wp2_with fail
    refine (markS_any (.slice a2 ss.length c2) ss 1 w1.heap.size w3 o2 (by omega) (by omega)).mono ?_
    rintro e w4 ⟨rfl, m4, g4⟩
    replace o1 := row_grown o1 g4 (fun g hg e => by have := r1 g hg; have := r2 g e.symm; omega)
    have bx4 := bx3.grown g4 bx3.size (fun k hk => by have := r2 k hk; have := b1.size; omega)
    have s4 : SS w4 a2 (marks 1 ss.length) := ss_of_rowL (marks_len _ _) m4
    clear o2 m4 g4
    go_wp2_with fail
    refine (heldS_any a2 c2 ss.length 1 w4 s4 (by omega) (by omega)).mono ?_
    rintro e w5 ⟨rfl, b5⟩
    replace s4 := s4.below b5
    replace o1 := owns_below o1 b5
    have bx5 := bx4.trans (b5.mono bx4.size)
    have hq : ¬ ((1 + ss.length : Nat) : Int) < 0 := by omega
    go_wp2_with fail
    refine (him _).mono ?_
    rintro e w6 ⟨a6, c6, rfl, o6, b6⟩
    replace s4 := s4.below b6
    replace o1 := owns_below o1 b6
    have bx6 := bx5.trans (b6.mono bx5.size)
    go_wp2_with fail
    refine (eq_any a6 a1 c6 c1 ss w6 (ss_of_rowL rfl o6) (ss_of_rowL rfl o1) (by omega)).mono ?_
    rintro e w7 ⟨rfl, b7⟩
    replace s4 := s4.below b7
    have bx7 := bx6.trans (b7.mono bx6.size)
    go_wp2_with fail
    refine (heldS_any a2 c2 ss.length 1 w7 s4 (by omega) (by omega)).mono ?_
    rintro e w8 ⟨rfl, b8⟩
    have bx8 := bx7.trans (b8.mono bx7.size)
    go_wp2
    go_ret
    exact ⟨rfl, bx8⟩

set_option maxRecDepth 100000 in
theorem lifted (os : Os) (started : os.Started) (H : Type) (enc : TypeId × Value → H) :
    ReturnsInHanded {} Try.checked os 4 .any (Rows.fnExactLinesSpec.pre6 enc Try.prog Try.f4 Rows.fnExactLinesRow.domain false) (Rows.fnExactLinesSpec.post enc Try.prog Try.f4 false true false false) := by
  refine returnsInHanded_of_change (C := Try.checked) own started (by kernel_rfl) Try.func4
    (ChangeSpec.witness6 (enc := enc) (C := Try.checked) false ⟨#[], #[.string ByteArray.empty], []⟩ 8 (by kernel_rfl) (by kernel_rfl) (by kernel_rfl) (by kernel_rfl)) ?_
  intro W base args ds gs before hval0 hW hcnd _
  have hval : ∀ (j : Nat) t v, Try.f4.params[j]? = some t → args[j]? = some v → Value.okWide Try.prog W .any base t v := hval0
  have hW' := hW
  obtain ⟨p, q, hA0, hV, rfl, hfz, hnd⟩ := hW
  have hA : DataW.TrodAll enc Try.prog W 0 (fun _ => true) true Try.f4.params.toList args.toList ds p := hA0
  rw [Try.params4] at hA hval
  obtain ⟨v0, vs0, d0, ds0, p0, q0, hargs, rfl, rfl, h0, r0⟩ := trodAll_cons hA
  obtain ⟨rfl, rfl, rfl⟩ := trodAll_nil r0
  obtain rfl : args = #[v0] := by cases args; simp_all
  obtain ⟨rfl, rfl⟩ := trodVars_none hV
  obtain ⟨a0, rfl, rfl, rfl, w0⟩ := open_string Try.underlying9 (hval 0 9 v0 rfl rfl) h0
  clear hA0 hval0
  refine (walk a0 w0 W).mono fun e W' ⟨he, bel⟩ => ?_
  subst he
  exact ⟨_, rfl, _, _, _, [], [], [], hW', trodAll_mk1 (shut_bool Try.underlying4 _), (trodAll_cons_mk (shut_string Try.underlying9 w0) trodAll_mk0), rfl, bel.frame _, fun h => by cases h⟩

theorem over : Rows.fnExactLinesRow.holds Try.pinned (OpenSpec.ofChange Rows.fnExactLinesSpec) :=
  OpenClaim.holds_of_wide 4 Try.f4 rfl rfl rfl rfl rfl rfl rfl ⟨rfl, rfl, rfl, rfl, rfl⟩ rfl rfl rfl rfl rfl (by kernel_rfl) Try.func4 (by kernel_rfl)
    (of_decide_eq_true (by kernel_rfl)) (by unfold Func.isWrapper; first | (rw [if_pos (by decide +kernel)]; kernel_rfl) | (rw [if_neg (by decide +kernel)]; exact ⟨rfl, rfl⟩))
    (fun os started H enc _ => lifted os started H enc)

theorem proved : Rows.FnExactLinesSaid := over
end Go.Proofs.Ytobgfogafkeieaa.fnExactLines
