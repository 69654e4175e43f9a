/-
  'FnExactClash': the walk out of the contracts; the frame.
-/
import Derived.Test.YtkhhbbaahdgohaaImplClash
import Derived.ProofKit
import Derived.OpenShut
import Derived.ShutString
import Derived.ChangeOld
import Derived.Below
import Derived.SliceStrings
namespace Go.Proofs.Ytkhhbbaahdgohaa.fnExactClash
open Go.ChangeShapes Go.WideShapes Go.ChangeAt Go.RowKit
open Go.ChangeMaps (open_string shut_string)
set_option linter.unusedVariables false

theorem own : ownKnob Try.prog.godebug = none := by kernel_rfl
theorem laidOut : laidOutB Try.prog = true := by kernel_rfl

theorem ss_of_own {w : World} {base : Nat} {g n : Nat} {ss : List ByteArray} (h : w.ownsRow base 9 1 (.slice (some ⟨g, 0, none⟩) ss.length n) ss.length (ss.map .string)) : SS w (some ⟨g, 0, none⟩) ss := by
  refine .inr ⟨g, 0, rfl, fun i hi => ?_⟩
  rw [Nat.zero_add, h.cellAt i (by omega), List.getElem?_map, List.getElem?_eq_getElem hi]
  rfl

/-- Both Clashes give one answer. -/
theorem both (ss : List ByteArray) (m : Int) (hn : ss.length ≤ 1048576) (hm : ∀ s ∈ ss, s.size ≤ 1048576) :
    ∃ x y b, ((b = true → x ≠ y ∧ sumI x.data.toList m = sumI y.data.toList m) ∧ x.size ≤ maxLen ∧ y.size ≤ maxLen) ∧ (∀ a cap w, SS w a ss → Calls Try.prog 10 #[.slice a ss.length cap, .int .i64 m] w fun e w' => ∃ x' y' b', e = .returned (.tuple #[.string x', .string y', .bool b']) ∧ x' = x ∧ y' = y ∧ b' = b ∧ Below w.heap.size w w') ∧
      (∀ a' cap' w, SS w a' ss → Calls Try.prog 9 #[.slice a' ss.length cap', .int .i64 m] w fun e w' => ∃ x' y' b', e = .returned (.tuple #[.string x', .string y', .bool b']) ∧ x' = x ∧ y' = y ∧ b' = b ∧ Below w.heap.size w w') := by
  by_cases h : isW m = false ∨ 3000 < ss.length
  · refine ⟨⟨#[]⟩, ⟨#[]⟩, false, ⟨fun h => (by cases h), Nat.zero_le _, Nat.zero_le _⟩, fun a cap w _ => (specClash_no a cap ss.length m w h).mono ?_, fun a' cap' w _ => (implClash_no a' cap' ss.length m w h).mono ?_⟩
    · rintro e w' ⟨rfl, hb⟩; exact ⟨_, _, _, rfl, rfl, rfl, rfl, hb⟩
    · rintro e w' ⟨rfl, hb⟩; exact ⟨_, _, _, rfl, rfl, rfl, rfl, hb⟩
  · have hw : isW m = true := by
      cases hx : isW m
      · exact absurd (.inl hx) h
      · rfl
    obtain ⟨n, rfl, h1, h8⟩ := isW_nat hw
    have h3 : ss.length ≤ 3000 := Nat.le_of_not_lt fun hx => h (.inr hx)
    by_cases hex : ∃ x y b, ClashR (fun s => sumStr s.data.toList n) ss x y b
    · obtain ⟨x, y, b, hr⟩ := hex
      have hinfo : (b = true → x ≠ y ∧ sumI x.data.toList n = sumI y.data.toList n) ∧ x.size ≤ maxLen ∧ y.size ≤ maxLen := by
        rcases hr with ⟨rfl, rfl, rfl, _⟩ | ⟨rfl, i, j, hj, hij, rfl, rfl, hk, hne, _⟩
        · exact ⟨fun h => (by cases h), Nat.zero_le _, Nat.zero_le _⟩
        · refine ⟨fun _ => ⟨hne, ?_⟩, Nat.le_trans (hm _ (List.getElem_mem _)) (by unfold maxLen; omega), Nat.le_trans (hm _ (List.getElem_mem _)) (by unfold maxLen; omega)⟩
          simp only [sumI, hw, if_true, Int.toNat_natCast]
          exact hk
      refine ⟨x, y, b, hinfo, fun a cap w hs => (specClash_any a cap ss n w hs h3 h1 h8 (fun s hs => Nat.le_trans (hm s hs) (by unfold maxLen; omega))).mono ?_, fun a' cap' w hs => (implClash_any a' cap' ss n w hs h3 h1 h8 (fun s hs => Nat.le_trans (hm s hs) (by omega))).mono ?_⟩
      · rintro e w' ⟨x', y', b', rfl, hr', hb⟩
        obtain ⟨e1, e2, e3⟩ := ClashR.one _ _ hr' hr
        exact ⟨_, _, _, rfl, e1, e2, e3, hb⟩
      · rintro e w' ⟨x', y', b', rfl, hr', hb⟩
        obtain ⟨e1, e2, e3⟩ := ClashR.one _ _ hr' hr
        exact ⟨_, _, _, rfl, e1, e2, e3, hb⟩
    · refine ⟨⟨#[]⟩, ⟨#[]⟩, false, ⟨fun h => (by cases h), Nat.zero_le _, Nat.zero_le _⟩, fun a cap w hs => (specClash_any a cap ss n w hs h3 h1 h8 (fun s hs => Nat.le_trans (hm s hs) (by unfold maxLen; omega))).mono ?_, fun a' cap' w hs => (implClash_any a' cap' ss n w hs h3 h1 h8 (fun s hs => Nat.le_trans (hm s hs) (by omega))).mono ?_⟩
      · rintro e w' ⟨x', y', b', rfl, hr', hb⟩
        exact absurd ⟨_, _, _, hr'⟩ hex
      · rintro e w' ⟨x', y', b', rfl, hr', hb⟩
        exact absurd ⟨_, _, _, hr'⟩ hex

set_option maxHeartbeats 1000000 in
theorem walk (a : Option Addr) (cap : Nat) (ss : List ByteArray) (m : Int) (w : World) (hss : SS w a ss) (hn : ss.length ≤ maxLen) (hm : ∀ s ∈ ss, s.size ≤ maxLen) :
    Calls Try.prog 5 #[.slice a ss.length cap, .int .i64 m] w fun e w' => e = .returned (.bool true) ∧ Below w.heap.size w w' := by
  go_enter Try.func5, Try.ntmps5
  go_wp2_with fail
  refine (sz_any a cap ss 1048576 w hss hn (by omega) hm).mono ?_
  rintro e w1 ⟨r, rfl, rfl, hr⟩
  rcases hr with hr | ⟨hr, hle⟩
  · go_wp2
    go_ret
    exact ⟨rfl, Below.refl _ _⟩
  · have hr0 : ¬ r < 0 := by omega
    have hn' : ss.length ≤ 1048576 := by omega
    have hm' : ∀ s ∈ ss, s.size ≤ 1048576 := fun s hs => by have := size_le_total ss s hs; omega
    clear hr
    go_wp2_with fail
    refine (to_any a cap ss w hss hn').mono ?_
    rintro e w1 ⟨rfl, hown1, hb1⟩
    have hs1 := ss_of_own hown1
    have hw1 := hb1.size
    go_wp2_with fail
    obtain ⟨x, y, b, _, hspec, himpl⟩ := both ss m hn' hm'
    refine (hspec _ _ _ hs1).mono ?_
    rintro e w2 ⟨x', y', b', rfl, rfl, rfl, rfl, hb2⟩
    have hbx2 := hb1.trans (hb2.mono hw1)
    go_wp2_with fail
    refine (to_any a cap ss _ (hss.below hbx2) hn').mono ?_
    rintro e w3 ⟨rfl, hown3, hb3⟩
    have hbx3 := hbx2.trans (hb3.mono hbx2.size)
    have hs3 := ss_of_own hown3
    go_wp2_with fail
    refine (himpl _ _ _ hs3).mono ?_
    rintro e w4 ⟨x', y', b', rfl, rfl, rfl, rfl, hb4⟩
    have hbx4 := hbx3.trans (hb4.mono hbx3.size)
    go_wp2_with fail
    refine (to_any a cap ss _ (hss.below hbx4) hn').mono ?_
    rintro e w5 ⟨rfl, hown5, hb5⟩
    have hbx5 := hbx4.trans (hb5.mono hbx4.size)
    have hs5 := ss_of_own hown5
    go_wp2_with fail
    refine (eq_any _ _ _ _ ss _ ((hs3.below hb4).below hb5) hs5 hn').mono ?_
    rintro e w6 ⟨rfl, hb6⟩
    go_wp2
    go_ret
    exact ⟨rfl, hbx5.trans (hb6.mono hbx5.size)⟩

theorem open_ss {H : Type} {enc : TypeId × Value → H} {W : World} {a : Option Addr} {len cap : Nat} {d : DataW H} {p : List MemPlace} (h : DataW.Trod enc Try.prog W 0 (fun _ => true) true 25 (.slice a len cap) d p) :
    ∃ ss : List ByteArray, len = ss.length ∧ SS W a ss ∧ ss.length ≤ maxLen ∧ ∀ s ∈ ss, s.size ≤ maxLen := by
  obtain ⟨fuel, hf⟩ := h
  rcases open_strings Try.underlying25 Try.underlying9 (by kernel_rfl) hf with ⟨hcs, _⟩ | ⟨x, l, c, ss, hcs, _, hl, hm, hz, _, hcell, hws⟩
  · simp [Value.cells] at hcs
    obtain ⟨rfl, rfl, rfl⟩ := hcs
    exact ⟨[], rfl, .inl rfl, Nat.zero_le _, fun s hs => by simp at hs⟩
  · simp [Value.cells] at hcs
    obtain ⟨rfl, rfl, rfl⟩ := hcs
    have hz' : ss.length = cap := by simpa using hz
    refine ⟨ss.take len, by simp; omega, ?_, by simp; omega, fun s hs => hws s (List.mem_of_mem_take hs)⟩
    by_cases h0 : len = 0
    · left; simp [h0]
    · right
      obtain ⟨b, off, spot⟩ := x
      have hspot : spot = none := by simpa [Addr.add] using World.cell?_spot (hcell 0 (by omega))
      subst hspot
      refine ⟨b, off, rfl, fun i hi => ?_⟩
      have hi' : i < ss.length := by simp at hi; omega
      rw [← Go.WideShapes.add_plain, hcell i hi']
      simp [List.getD, hi']

set_option maxRecDepth 100000 in
theorem lifted (os : Os) (started : os.Started) (H : Type) (enc : TypeId × Value → H) :
    ReturnsInHanded {} Try.checked os 5 .any (Rows.fnExactClashSpec.pre6 enc Try.prog Try.f5 Rows.fnExactClashRow.domain false) (Rows.fnExactClashSpec.post enc Try.prog Try.f5 false true false false) := by
  refine returnsInHanded_of_change (C := Try.checked) own started (by kernel_rfl) Try.func5
    (ChangeSpec.witness6 (enc := enc) (C := Try.checked) false ⟨#[], #[.slice none 0 0, .int .i64 0], []⟩ 8 (by kernel_rfl) (by kernel_rfl) (by kernel_rfl) (by kernel_rfl)) ?_
  intro W base args ds gs before hval0 hW hcnd _
  have hval : ∀ (j : Nat) t v, Try.f5.params[j]? = some t → args[j]? = some v → Value.okWide Try.prog W .any base t v := hval0
  have hW' := hW
  obtain ⟨p, q, hA0, hV, rfl, hfz, hnd⟩ := hW
  have hA : DataW.TrodAll enc Try.prog W 0 (fun _ => true) true Try.f5.params.toList args.toList ds p := hA0
  rw [Try.params5] at hA hval
  obtain ⟨v0, vs0, d0, ds0, p0, q0, hargs, rfl, rfl, h0, r0⟩ := trodAll_cons hA
  obtain ⟨v1, vs1, d1, ds1, p1, q1, rfl, rfl, rfl, h1, r1⟩ := trodAll_cons r0
  obtain ⟨rfl, rfl, rfl⟩ := trodAll_nil r1
  obtain rfl : args = #[v0, v1] := by cases args; simp_all
  obtain ⟨rfl, rfl⟩ := trodVars_none hV
  obtain ⟨a0, len0, cap0, rfl⟩ := okWide_slice Try.underlying25 (hval 0 25 v0 rfl rfl)
  obtain ⟨a1, rfl, rfl, rfl, w1⟩ := open_int Try.underlying3 (hval 1 3 v1 rfl rfl) h1
  have k0 := h0
  have lt0 : ∀ x ∈ p0, x.block < W.heap.size := by obtain ⟨m, hm⟩ := k0; exact DataW.trod_lt m _ _ _ hm
  obtain ⟨ss, rfl, hss, hn, hm⟩ := open_ss h0
  clear hA0 hval0
  refine (walk a0 cap0 ss a1 W hss hn hm).mono fun e W' ⟨he, bel⟩ => ?_
  subst he
  exact ⟨_, rfl, _, _, _, [], _, [], hW', trodAll_mk1 (shut_bool Try.underlying4 _), (trodAll_cons_mk (Below.trod laidOut (by kernel_rfl) (of_decide_eq_true (by kernel_rfl)) k0 bel lt0) (trodAll_cons_mk (shut_int Try.underlying3 w1) trodAll_mk0)), rfl, bel.frame _, fun h => by cases h⟩

theorem over : Rows.fnExactClashRow.holds Try.pinned (OpenSpec.ofChange Rows.fnExactClashSpec) :=
  OpenClaim.holds_of_wide 5 Try.f5 rfl rfl rfl rfl rfl rfl rfl ⟨rfl, rfl, rfl, rfl, rfl⟩ rfl rfl rfl rfl rfl (by kernel_rfl) Try.func5 (by kernel_rfl)
    (of_decide_eq_true (by kernel_rfl)) (by unfold Func.isWrapper; first | (rw [if_pos (by decide +kernel)]; kernel_rfl) | (rw [if_neg (by decide +kernel)]; exact ⟨rfl, rfl⟩))
    (fun os started H enc _ => lifted os started H enc)

theorem proved : Rows.FnExactClashSaid := over
end Go.Proofs.Ytkhhbbaahdgohaa.fnExactClash
