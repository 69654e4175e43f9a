/-
  'FnExactCommon': the walk out of the contracts; the frame.
-/
import Derived.Test.YtobgfogafkeieaaCommS
import Derived.Test.YtobgfogafkeieaaPairLaw
import Derived.Test.YtobgfogafkeieaaMarkS
import Derived.ProofKit
import Derived.OpenShut
import Derived.ShutString
import Derived.ChangeOld
import Derived.Below
import Derived.SliceStrings
namespace Go.Proofs.Ytobgfogafkeieaa.fnExactCommon
open Go.ChangeShapes Go.WideShapes Go.ChangeAt Go.RowKit
open Go.ChangeMaps (open_string shut_string)
set_option linter.unusedVariables false

theorem own : ownKnob Try.prog.godebug = none := by kernel_rfl
theorem laidOut : laidOutB Try.prog = true := by kernel_rfl

theorem ss_own {w : World} {base : Nat} {g n : Nat} {ss : List ByteArray} (h : w.ownsRow base 9 1 (.slice (some ⟨g, 0, none⟩) ss.length n) ss.length (ss.map .string)) : SS w (some ⟨g, 0, none⟩) ss := by
  refine .inr ⟨g, 0, rfl, fun i hi => ?_⟩
  rw [Nat.zero_add, h.cellAt i (by omega), List.getElem?_map, List.getElem?_eq_getElem hi]
  rfl
theorem row_grown {w w' : World} {base : Nat} {e : TypeId} {size : Nat} {v : Value} {n : Nat} {xs : List Value} {row : Option Nat} (h : w.ownsRow base e size v n xs) (hg : w.grownBy w' row) (hne : ∀ g, v.ownBlock = some g → some g ≠ row) : w'.ownsRow base e size v n xs := by
  refine ⟨h.1, ?_⟩
  rcases h.2 with h' | ⟨g, cap, cur, hv, k1, k2, k3⟩
  · exact .inl h'
  · refine .inr ⟨g, cap, cur, hv, k1, ?_, k3⟩
    rw [hg.block g (Array.getElem?_eq_some_iff.1 k2).1 (hne g (by rw [hv]; rfl))]
    exact k2
theorem mem_total {ss : List ByteArray} (h : total ss ≤ 1048576) : ∀ s ∈ ss, s.size ≤ 1099511627776 := fun s hs => by
  have := size_le_total ss s hs
  omega

set_option maxRecDepth 20000 in
set_option maxHeartbeats 8000000 in
theorem walk (a1 a2 : Option Addr) (c1 c2 : Nat) (ss tt : List ByteArray) (w : World) (hA : SS w a1 ss) (hB : SS w a2 tt) (hn1 : ss.length ≤ maxLen) (hn2 : tt.length ≤ maxLen) (hm1 : ∀ s ∈ ss, s.size ≤ maxLen) (hm2 : ∀ s ∈ tt, s.size ≤ maxLen) :
    Calls Try.prog 5 #[.slice a1 ss.length c1, .slice a2 tt.length c2] w fun e w' => e = .returned (.bool true) ∧ Below w.heap.size w w' := by
  go_enter Try.func5, Try.ntmps5
  go_wp2_with fail
  refine (sz_any a1 c1 ss 1048576 w hA hn1 (by omega) hm1).mono ?_
  rintro e w' ⟨r, rfl, rfl, hr⟩
  rcases hr with hr | ⟨hr, hle⟩
  · go_wp2
    go_ret
    exact ⟨rfl, Below.refl _ _⟩
  have hr0 : ¬ r < 0 := by omega
  obtain ⟨L, hL⟩ : ∃ L : Nat, r = (L : Int) := ⟨r.toNat, by omega⟩
  rw [hL] at hr hr0 ⊢
  have hL1 : L ≤ 1048576 := by omega
  have HL : NKeep ((L : Int) = ((1048576 : Nat) : Int) - ss.length - total ss) := ⟨hr⟩
  clear hr hL
  go_wp2_with fail
  refine (sz_any a2 c2 tt L w hB hn2 hL1 hm2).mono ?_
  rintro e w' ⟨r2, rfl, rfl, hr2⟩
  rcases hr2 with hr2 | ⟨hr2, hle2⟩
  · go_wp2
    go_ret
    exact ⟨rfl, Below.refl _ _⟩
  have hr20 : ¬ r2 < 0 := by omega
  have hr := HL.out
  have hs1 : ss.length ≤ 1048576 := by omega
  have hs2 : tt.length ≤ 1048576 := by omega
  have hz1 := mem_total (ss := ss) (by omega)
  have hz2 := mem_total (ss := tt) (by omega)
  clear hr hr2 hle hle2 hn1 hn2 hm1 hm2 HL
  obtain ⟨ps, hps⟩ := exists_commT ss tt
  have hpl := hps.len
  have hsp := fun a a' c c' W h h' => specCommon_any a a' c c' ss tt ps W h h' hps
  have him := fun a a' c c' W h h' => implCommon_any a a' c c' ss tt ps W h h' hps hz1 hz2
  clear hps
  go_wp2_with fail
  refine (to_any a1 c1 ss w hA hs1).mono ?_
  rintro e w1 ⟨rfl, o1, b1⟩
  go_wp2_with fail
  refine (to_any a2 c2 tt w1 (hB.below b1) hs2).mono ?_
  rintro e w2 ⟨rfl, o2, b2⟩
  have bx2 := b1.trans (b2.mono b1.size)
  replace o1 := owns_below o1 b2
  go_wp2_with fail
  refine (hsp _ _ _ _ _ (ss_own o1) (ss_own o2)).mono ?_
  rintro e w3 ⟨a3, c3, rfl, o3, b3⟩
  have bx3 := bx2.trans (b3.mono bx2.size)
  have r3 : ∀ k, (Value.slice a3 ps.length c3).ownBlock = some k → k < w3.heap.size := fun k hk => own_lt o3 hk
  clear o1 o2
  go_wp2_with fail
  refine (to_any a1 c1 ss w3 (hA.below bx3) hs1).mono ?_
  rintro e w4 ⟨rfl, o4, b4⟩
  have bx4 := bx3.trans (b4.mono bx3.size)
  replace o3 := owns_below o3 b4
  have s4 : w3.heap.size < w4.heap.size := own_lt o4 rfl
  go_wp2_with fail
  refine (to_any a2 c2 tt w4 (hB.below bx4) hs2).mono ?_
  rintro e w5 ⟨rfl, o5, b5⟩
  have bx5 := bx4.trans (b5.mono bx4.size)
  replace o3 := owns_below o3 b5
  replace o4 := owns_below o4 b5
  have s5 : w4.heap.size < w5.heap.size := own_lt o5 rfl
  go_wp2_with fail
  refine (him _ _ _ _ _ (ss_own o4) (ss_own o5)).mono ?_
  rintro e w6 ⟨a6, c6, rfl, o6, b6⟩
  have bx6 := bx5.trans (b6.mono bx5.size)
  replace o3 := owns_below o3 b6
  replace o4 := owns_below o4 b6
  replace o5 := owns_below o5 b6
  have r6 : ∀ k, (Value.slice a6 ps.length c6).ownBlock = some k → w5.heap.size ≤ k ∧ k < w6.heap.size := fun k hk => ⟨owns_row_ge o6 hk, own_lt o6 hk⟩
  go_wp2_with fail
  refine (eqPairS_any a6 a3 c6 c3 ps w6 (ps_of_row o6) (ps_of_row o3) (by omega)).mono ?_
  rintro e w7 ⟨rfl, b7⟩
  have bx7 := bx6.trans (b7.mono bx6.size)
  replace o3 := owns_below o3 b7
  replace o4 := owns_below o4 b7
  replace o5 := owns_below o5 b7
  replace o6 := owns_below o6 b7
  go_wp2_with fail
  refine (to_any a1 c1 ss w7 (hA.below bx7) hs1).mono ?_
  rintro e w8 ⟨rfl, o8, b8⟩
  have bx8 := bx7.trans (b8.mono bx7.size)
  replace o3 := owns_below o3 b8
  replace o4 := owns_below o4 b8
  replace o5 := owns_below o5 b8
  replace o6 := owns_below o6 b8
  go_wp2_with fail
  refine (eq_any _ _ _ _ ss w8 (ss_own o4) (ss_own o8) hs1).mono ?_
  rintro e w9 ⟨rfl, b9⟩
  have bx9 := bx8.trans (b9.mono bx8.size)
  replace o3 := owns_below o3 b9
  replace o4 := owns_below o4 b9
  replace o5 := owns_below o5 b9
  replace o6 := owns_below o6 b9
  clear o8
  go_wp2_with fail
  refine (to_any a2 c2 tt w9 (hB.below bx9) hs2).mono ?_
  rintro e w10 ⟨rfl, o10, b10⟩
  have bx10 := bx9.trans (b10.mono bx9.size)
  replace o3 := owns_below o3 b10
  replace o4 := owns_below o4 b10
  replace o5 := owns_below o5 b10
  replace o6 := owns_below o6 b10
  go_wp2_with fail
  refine (eq_any _ _ _ _ tt w10 (ss_own o5) (ss_own o10) hs2).mono ?_
  rintro e w11 ⟨rfl, b11⟩
  have bx11 := bx10.trans (b11.mono bx10.size)
  replace o3 := owns_below o3 b11
  replace o4 := owns_below o4 b11
  replace o5 := owns_below o5 b11
  replace o6 := owns_below o6 b11
  clear o10
  have s6 := b6.size
  go_wp2_with fail
  refine (markS_any _ ss 1 w3.heap.size w11 o4 (by omega) (by omega)).mono ?_
  rintro e w12 ⟨rfl, m12, g12⟩
  have bx12 := bx11.grown g12 bx11.size (fun k hk => by have : w3.heap.size = k := by simpa [Value.ownBlock] using hk
                                                        have := bx3.size; omega)
  replace o3 := row_grown o3 g12 (fun g hg e => by have := r3 g hg; simp [Value.ownBlock] at e; omega)
  replace o5 := row_grown o5 g12 (fun g hg e => by simp [Value.ownBlock] at e hg; omega)
  replace o6 := row_grown o6 g12 (fun g hg e => by have := r6 g hg; simp [Value.ownBlock] at e; omega)
  clear o4 m12
  go_wp2_with fail
  refine (markS_any _ tt (1 + ss.length) w4.heap.size w12 o5 (by omega) (by omega)).mono ?_
  rintro e w13 ⟨rfl, m13, g13⟩
  have bx13 := bx12.grown g13 bx12.size (fun k hk => by have : w4.heap.size = k := by simpa [Value.ownBlock] using hk
                                                        have := bx4.size; omega)
  replace o3 := row_grown o3 g13 (fun g hg e => by have := r3 g hg; simp [Value.ownBlock] at e; omega)
  replace o6 := row_grown o6 g13 (fun g hg e => by have := r6 g hg; simp [Value.ownBlock] at e; omega)
  clear o5 m13
  have heq := fun W h h' => eqPairS_any a6 a3 c6 c3 ps W h h' (by omega)
  have hk0 : decide (((1 : Int) + ss.length + tt.length) < 0) = false := by simp; omega
  go_wp2_with (go_at_call 17; refine (heq _ (ps_of_row o6) (ps_of_row o3)).mono ?_; rintro e w14 ⟨rfl, b14⟩)
  have bx14 := bx13.trans (b14.mono bx13.size)
  replace o3 := owns_below o3 b14
  replace o6 := owns_below o6 b14
  clear heq hk0
  refine (markP_any a6 c6 ps 1 w5.heap.size w14 o6 (by omega)).mono ?_
  rintro e w15 ⟨rfl, m15, g15⟩
  have r6' : ∀ k, (Value.slice a6 ps.length ps.length).ownBlock = some k → w5.heap.size ≤ k := fun k hk => (r6 k (by cases a6 with
    | none => simp [Value.ownBlock] at hk
    | some x => simpa [Value.ownBlock] using hk)).1
  have bx15 := bx14.grown g15 bx14.size (fun k hk => by have := r6' k hk; have := bx5.size; omega)
  replace o3 := row_grown o3 g15 (fun g hg e => by have := r3 g hg; have := r6' g e.symm; omega)
  clear o6 g15
  go_wp2_with fail
  refine (heldP_any a6 c6 ps.length 1 w15 m15 (by omega)).mono ?_
  rintro e w16 ⟨rfl, b16⟩
  have bx16 := bx15.trans (b16.mono bx15.size)
  replace o3 := owns_below o3 b16
  replace m15 := m15.below b16
  have hq : ¬ ((1 + 2 * ps.length : Nat) : Int) < 0 := by omega
  go_wp2_with fail
  refine (to_any a1 c1 ss w16 (hA.below bx16) hs1).mono ?_
  rintro e w17 ⟨rfl, o17, b17⟩
  have bx17 := bx16.trans (b17.mono bx16.size)
  replace o3 := owns_below o3 b17
  replace m15 := m15.below b17
  go_wp2_with fail
  refine (to_any a2 c2 tt w17 (hB.below bx17) hs2).mono ?_
  rintro e w18 ⟨rfl, o18, b18⟩
  have bx18 := bx17.trans (b18.mono bx17.size)
  replace o3 := owns_below o3 b18
  replace m15 := m15.below b18
  replace o17 := owns_below o17 b18
  go_wp2_with fail
  refine (him _ _ _ _ _ (ss_own o17) (ss_own o18)).mono ?_
  rintro e w19 ⟨a19, c19, rfl, o19, b19⟩
  have bx19 := bx18.trans (b19.mono bx18.size)
  replace o3 := owns_below o3 b19
  replace m15 := m15.below b19
  clear o17 o18
  go_wp2_with fail
  refine (eqPairS_any a19 a3 c19 c3 ps w19 (ps_of_row o19) (ps_of_row o3) (by omega)).mono ?_
  rintro e w20 ⟨rfl, b20⟩
  have bx20 := bx19.trans (b20.mono bx19.size)
  replace m15 := m15.below b20
  go_wp2_with fail
  refine (heldP_any a6 c6 ps.length 1 w20 m15 (by omega)).mono ?_
  rintro e w21 ⟨rfl, b21⟩
  have bx21 := bx20.trans (b21.mono bx20.size)
  go_wp2
  go_ret
  exact ⟨rfl, bx21⟩

theorem open_ss {H : Type} {enc : TypeId × Value → H} {W : World} {a : Option Addr} {len cap : Nat} {d : DataW H} {p : List MemPlace} (h : DataW.Trod enc Try.prog W 0 (fun _ => true) true 24 (.slice a len cap) d p) :
    ∃ ss : List ByteArray, len = ss.length ∧ SS W a ss ∧ ss.length ≤ maxLen ∧ ∀ s ∈ ss, s.size ≤ maxLen := by
  obtain ⟨fuel, hf⟩ := h
  rcases open_strings Try.underlying24 Try.underlying9 (by kernel_rfl) hf with ⟨hcs, _⟩ | ⟨x, l, c, ss, hcs, _, hl, hm, hz, _, hcell, hws⟩
  · simp [Value.cells] at hcs
    obtain ⟨rfl, rfl, rfl⟩ := hcs
    exact ⟨[], rfl, .inl rfl, Nat.zero_le _, fun s hs => by simp at hs⟩
  · simp [Value.cells] at hcs
    obtain ⟨rfl, rfl, rfl⟩ := hcs
    have hz' : ss.length = cap := by simpa using hz
    refine ⟨ss.take len, by simp; omega, ?_, by simp; omega, fun s hs => hws s (List.mem_of_mem_take hs)⟩
    by_cases h0 : len = 0
    · left; simp [h0]
    · right
      obtain ⟨b, off, spot⟩ := x
      have hspot : spot = none := by simpa [Addr.add] using World.cell?_spot (hcell 0 (by omega))
      subst hspot
      refine ⟨b, off, rfl, fun i hi => ?_⟩
      have hi' : i < ss.length := by simp at hi; omega
      rw [← Go.WideShapes.add_plain, hcell i hi']
      simp [List.getD, hi']

set_option maxRecDepth 100000 in
theorem lifted (os : Os) (started : os.Started) (H : Type) (enc : TypeId × Value → H) :
    ReturnsInHanded {} Try.checked os 5 .any (Rows.fnExactCommonSpec.pre6 enc Try.prog Try.f5 Rows.fnExactCommonRow.domain false) (Rows.fnExactCommonSpec.post enc Try.prog Try.f5 false true false false) := by
  refine returnsInHanded_of_change (C := Try.checked) own started (by kernel_rfl) Try.func5
    (ChangeSpec.witness6 (enc := enc) (C := Try.checked) false ⟨#[], #[.slice none 0 0, .slice none 0 0], []⟩ 8 (by kernel_rfl) (by kernel_rfl) (by kernel_rfl) (by kernel_rfl)) ?_
  intro W base args ds gs before hval0 hW hcnd _
  have hval : ∀ (j : Nat) t v, Try.f5.params[j]? = some t → args[j]? = some v → Value.okWide Try.prog W .any base t v := hval0
  have hW' := hW
  obtain ⟨p, q, hA0, hV, rfl, hfz, hnd⟩ := hW
  have hA : DataW.TrodAll enc Try.prog W 0 (fun _ => true) true Try.f5.params.toList args.toList ds p := hA0
  rw [Try.params5] at hA hval
  obtain ⟨v0, vs0, d0, ds0, p0, q0, hargs, rfl, rfl, h0, r0⟩ := trodAll_cons hA
  obtain ⟨v1, vs1, d1, ds1, p1, q1, rfl, rfl, rfl, h1, r1⟩ := trodAll_cons r0
  obtain ⟨rfl, rfl, rfl⟩ := trodAll_nil r1
  obtain rfl : args = #[v0, v1] := by cases args; simp_all
  obtain ⟨rfl, rfl⟩ := trodVars_none hV
  obtain ⟨a0, len0, cap0, rfl⟩ := okWide_slice Try.underlying24 (hval 0 24 v0 rfl rfl)
  obtain ⟨a1, len1, cap1, rfl⟩ := okWide_slice Try.underlying24 (hval 1 24 v1 rfl rfl)
  have k0 := h0
  have lt0 : ∀ x ∈ p0, x.block < W.heap.size := by obtain ⟨m, hm⟩ := k0; exact DataW.trod_lt m _ _ _ hm
  have k1 := h1
  have lt1 : ∀ x ∈ p1, x.block < W.heap.size := by obtain ⟨m, hm⟩ := k1; exact DataW.trod_lt m _ _ _ hm
  obtain ⟨ss, rfl, hss, hn, hm⟩ := open_ss h0
  obtain ⟨tt, rfl, htt, hn2, hm2⟩ := open_ss h1
  clear hA0 hval0
  refine (walk a0 a1 cap0 cap1 ss tt W hss htt hn hn2 hm hm2).mono fun e W' ⟨he, bel⟩ => ?_
  subst he
  exact ⟨_, rfl, _, _, _, [], _, [], hW', trodAll_mk1 (shut_bool Try.underlying4 _), (trodAll_cons_mk (Below.trod laidOut (by kernel_rfl) (of_decide_eq_true (by kernel_rfl)) k0 bel lt0) (trodAll_cons_mk (Below.trod laidOut (by kernel_rfl) (of_decide_eq_true (by kernel_rfl)) k1 bel lt1) trodAll_mk0)), rfl, bel.frame _, fun h => by cases h⟩

theorem over : Rows.fnExactCommonRow.holds Try.pinned (OpenSpec.ofChange Rows.fnExactCommonSpec) :=
  OpenClaim.holds_of_wide 5 Try.f5 rfl rfl rfl rfl rfl rfl rfl ⟨rfl, rfl, rfl, rfl, rfl⟩ rfl rfl rfl rfl rfl (by kernel_rfl) Try.func5 (by kernel_rfl)
    (of_decide_eq_true (by kernel_rfl)) (by unfold Func.isWrapper; first | (rw [if_pos (by decide +kernel)]; kernel_rfl) | (rw [if_neg (by decide +kernel)]; exact ⟨rfl, rfl⟩))
    (fun os started H enc _ => lifted os started H enc)

theorem proved : Rows.FnExactCommonSaid := over
end Go.Proofs.Ytobgfogafkeieaa.fnExactCommon
