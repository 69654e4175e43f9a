/-
  'FnExactEvidence': the walk out of the contracts; the frame.
-/
import Derived.Test.YtnobhmljhijhcaaEvidS
import Derived.Test.YtnobhmljhijhcaaProofLaw
namespace Go.Proofs.Ytnobhmljhijhcaa.fnExactEvidence
open Go.ChangeShapes Go.WideShapes Go.ChangeAt Go.RowKit
set_option linter.unusedVariables false

theorem own : ownKnob Try.prog.godebug = none := by kernel_rfl
theorem laidOut : laidOutB Try.prog = true := by kernel_rfl

theorem sl_of_own {w : World} {base g c : Nat} {ss : List ByteArray} (h : w.ownsRow base 9 1 (.slice (some ⟨g, 0, none⟩) ss.length c) ss.length (ss.map .string)) : ∀ i (h : i < ss.length), w.cell? ⟨g, 0 + i, none⟩ = some (.string ss[i]) := fun i hi => by
  rw [Nat.zero_add, h.cellAt i (by omega), List.getElem?_map, List.getElem?_eq_getElem hi]
  rfl

theorem both (sp sq : List ByteArray) (tp tq : Bool) (xp xq : ByteArray) (m : Int) (hp : ∀ s ∈ sp, s.size ≤ 1048576) (hq : ∀ s ∈ sq, s.size ≤ 1048576) (hxp : xp.size ≤ 1048576) (hxq : xq.size ≤ 1048576) :
    ∃ x y b, (∀ g h ca cb w, (∀ i (h : i < sp.length), w.cell? ⟨g, 0 + i, none⟩ = some (.string sp[i])) → (∀ i (hi : i < sq.length), w.cell? ⟨h, 0 + i, none⟩ = some (.string sq[i])) → Calls Try.prog 8 #[.agg #[.slice (some ⟨g, 0, none⟩) sp.length ca, .bool tp, .string xp], .agg #[.slice (some ⟨h, 0, none⟩) sq.length cb, .bool tq, .string xq], .int .i64 m] w fun e w' => EvPost x y b w e w') ∧
      (∀ g h ca cb w, (∀ i (h : i < sp.length), w.cell? ⟨g, 0 + i, none⟩ = some (.string sp[i])) → (∀ i (hi : i < sq.length), w.cell? ⟨h, 0 + i, none⟩ = some (.string sq[i])) → Calls Try.prog 10 #[.agg #[.slice (some ⟨g, 0, none⟩) sp.length ca, .bool tp, .string xp], .agg #[.slice (some ⟨h, 0, none⟩) sq.length cb, .bool tq, .string xq], .int .i64 m] w fun e w' => EvPost x y b w e w') := by
  by_cases hn : 7 < sp.length ∨ 7 < sq.length
  · exact ⟨_, _, _, fun g h ca cb w _ _ => specEv_no _ _ ca cb _ _ tp tq xp xq m w hn, fun g h ca cb w _ _ => implEv_no _ _ ca cb _ _ tp tq xp xq m w hn⟩
  · have hnp : sp.length ≤ 7 := by omega
    have hnq : sq.length ≤ 7 := by omega
    obtain ⟨x, y, b, _, hs, hi⟩ := clash_both (evT sp tp xp ++ evT sq tq xq) m (fun s hs => by
      rcases List.mem_append.1 hs with h | h
      · exact evT_size (fun s h => Nat.le_trans (hp s h) (by omega)) (by omega) s h
      · exact evT_size (fun s h => Nat.le_trans (hq s h) (by omega)) (by omega) s h)
    refine ⟨x, y, b, fun g h ca cb w h1 h2 => ?_, fun g h ca cb w h1 h2 => ?_⟩
    · exact specEv_yes _ _ _ ⟨rfl⟩ g h 0 0 ca cb sp sq tp tq xp xq m w h1 h2 hnp hnq hxp hxq x y b ⟨rfl⟩ ⟨rfl⟩ (fun a' cap' w h => hs a' cap' w h)
    · exact implEv_yes _ _ _ ⟨rfl⟩ _ _ ca cb sp sq tp tq xp xq m w (.inr ⟨g, 0, ca, rfl, h1⟩) (.inr ⟨h, 0, cb, rfl, h2⟩) hnp hnq hxp hxq x y b ⟨rfl⟩ ⟨rfl⟩ (fun a' cap' w h => hi a' cap' w h)

set_option maxRecDepth 20000 in
set_option maxHeartbeats 4000000 in
theorem walk (a b : Option Addr) (ca cb : Nat) (sp sq : List ByteArray) (tp tq : Bool) (xp xq : ByteArray) (m : Int) (w : World) (hsp : SS w a sp) (hsq : SS w b sq) (hnp : sp.length ≤ maxLen) (hnq : sq.length ≤ maxLen) (hmp : ∀ s ∈ sp, s.size ≤ maxLen) (hmq : ∀ s ∈ sq, s.size ≤ maxLen) (htp : xp.size ≤ maxLen) (htq : xq.size ≤ maxLen) :
    Calls Try.prog 4 #[.agg #[.slice a sp.length ca, .bool tp, .string xp], .agg #[.slice b sq.length cb, .bool tq, .string xq], .int .i64 m] w fun e w' => e = .returned (.bool true) ∧ Below w.heap.size w w' := by
  have hal : Below w.heap.size w ((w.alloc (.cells #[.slice a sp.length ca, .bool tp, .string xp] 26)).alloc (.cells #[.slice b sq.length cb, .bool tq, .string xq] 26)) := ((Below.refl _ _).alloc (Nat.le_refl _) _).alloc (by simp) _
  have hP : PrC ((w.alloc (.cells #[.slice a sp.length ca, .bool tp, .string xp] 26)).alloc (.cells #[.slice b sq.length cb, .bool tq, .string xq] 26)) w.heap.size (.slice a sp.length ca) tp xp := ⟨by simp [go_sem], by simp [go_sem], by simp [go_sem]⟩
  have hQ : PrC ((w.alloc (.cells #[.slice a sp.length ca, .bool tp, .string xp] 26)).alloc (.cells #[.slice b sq.length cb, .bool tq, .string xq] 26)) (w.heap.size + 1) (.slice b sq.length cb) tq xq := ⟨by simp [go_sem], by simp [go_sem], by simp [go_sem]⟩
  have hsz1 := szPrf_any a ca sp tp xp 1048576 _ (hsp.below hal) hnp (Nat.le_refl _) hmp htp
  go_enter Try.func4, Try.ntmps4
  go_wp2_with fail
  refine hsz1.mono ?_
  rintro e w1 ⟨r1, rfl, hb1, hr1⟩
  clear hsz1
  replace hP := hP.later hb1
  replace hQ := hQ.later hb1
  have hbw1 := hal.trans (hb1.mono hal.size)
  generalize w.heap.size + 1 = bq at *
  obtain ⟨bp, hbp⟩ : ∃ bp, bp = w.heap.size := ⟨_, rfl⟩
  rw [← hbp] at hP ⊢
  clear hbp hb1 hal
  have q0 := hQ.c0
  have q1 := hQ.c1
  have q2 := hQ.c2
  rcases hr1 with hr1 | ⟨n1, rfl, hn1⟩
  · go_wp2
    go_ret
    exact ⟨rfl, hbw1⟩
  have hsz2 := szPrf_any b cb sq tq xq n1 w1 (hsq.below hbw1) hnq (by omega) hmq htq
  have HN1 : CKeep (n1 + prfN sp xp = 1048576) := ⟨hn1⟩
  clear hn1
  have hn0 : ¬ (n1 : Int) < 0 := by omega
  go_wp2_with fail
  refine hsz2.mono ?_
  rintro e w2 ⟨r2, rfl, hb2, hr2⟩
  clear hsz2 q0 q1 q2 hn0
  replace hP := hP.later hb2
  replace hQ := hQ.later hb2
  have hbw2 := hbw1.trans (hb2.mono hbw1.size)
  clear hb2 hbw1
  rcases hr2 with hr2 | ⟨n2, rfl, hn2⟩
  · go_wp2
    go_ret
    exact ⟨rfl, hbw2⟩
  have HN2 : CKeep (n2 + prfN sq xq = n1) := ⟨hn2⟩
  clear hn2
  have hn0 : ¬ (n2 : Int) < 0 := by omega
  have lp : sp.length ≤ 1048576 := by have := HN1.out; unfold prfN at this; omega
  have lq : sq.length ≤ 1048576 := by have := HN1.out; have := HN2.out; unfold prfN at *; omega
  have hB : CKeep (∃ x y bb, (∀ g h ca cb w, (∀ i (h : i < sp.length), w.cell? ⟨g, 0 + i, none⟩ = some (.string sp[i])) → (∀ i (hi : i < sq.length), w.cell? ⟨h, 0 + i, none⟩ = some (.string sq[i])) → Calls Try.prog 8 #[.agg #[.slice (some ⟨g, 0, none⟩) sp.length ca, .bool tp, .string xp], .agg #[.slice (some ⟨h, 0, none⟩) sq.length cb, .bool tq, .string xq], .int .i64 m] w fun e w' => EvPost x y bb w e w') ∧
      (∀ g h ca cb w, (∀ i (h : i < sp.length), w.cell? ⟨g, 0 + i, none⟩ = some (.string sp[i])) → (∀ i (hi : i < sq.length), w.cell? ⟨h, 0 + i, none⟩ = some (.string sq[i])) → Calls Try.prog 10 #[.agg #[.slice (some ⟨g, 0, none⟩) sp.length ca, .bool tp, .string xp], .agg #[.slice (some ⟨h, 0, none⟩) sq.length cb, .bool tq, .string xq], .int .i64 m] w fun e w' => EvPost x y bb w e w')) := by
    have h1 := HN1.out
    have h2 := HN2.out
    unfold prfN at h1 h2
    exact ⟨both sp sq tp tq xp xq m (fun s hs => by have := size_le_total sp s hs; omega) (fun s hs => by have := size_le_total sq s hs; omega) (by omega) (by omega)⟩
  clear HN1 HN2 hmp hmq hnp hnq htp htq
  obtain ⟨x, y, bb, hSp, hIm⟩ := hB.out
  clear hB
  -- what spec says
  have hPd := hP.later (below_drew w2)
  have hQd := hQ.later (below_drew w2)
  have hbd := hbw2.drew
  have hk2 := And.intro hPd.all hQd.all
  have hto1 := toPrf_any a ca sp tp xp w2.drew (hsp.below hbd) lp
  go_wp2_with fail
  go_region_held3 (fun w' => (w'.cell? ⟨bp, 0, none⟩ = some (.slice a sp.length ca) ∧ w'.cell? ⟨bp, 1, none⟩ = some (.bool tp) ∧ w'.cell? ⟨bp, 2, none⟩ = some (.string xp)) ∧ (w'.cell? ⟨bq, 0, none⟩ = some (.slice b sq.length cb) ∧ w'.cell? ⟨bq, 1, none⟩ = some (.bool tq) ∧ w'.cell? ⟨bq, 2, none⟩ = some (.string xq))) (first | go_keep | (exact hk3) | (exact hk4) | (exact hk5))
    ((first
      | (go_at_call_of 9 ([Value.agg #[.slice a sp.length ca, .bool tp, .string xp]] : List Value); refine hto1.mono ?_; rintro e w3 ⟨g3, rfl, ho3, hb3⟩; have hP3 := hPd.later hb3; have hQ3 := hQd.later hb3; have hk3 := And.intro hP3.all hQ3.all; have hbw3 := hbd.trans (hb3.mono hbd.size); have hto2 := toPrf_any b cb sq tq xq w3 (hsq.below hbw3) lq)
      | (go_at_call_of 9 ([Value.agg #[.slice b sq.length cb, .bool tq, .string xq]] : List Value); refine hto2.mono ?_; rintro e w4 ⟨g4, rfl, ho4, hb4⟩; have hP4 := hP3.later hb4; have hQ4 := hQ3.later hb4; have hk4 := And.intro hP4.all hQ4.all; have hbw4 := hbw3.trans (hb4.mono hbw3.size); have hspec := hSp g3 g4 sp.length sq.length w4 (sl_of_own (owns_below ho3 hb4)) (sl_of_own ho4))
      | (go_at_call 8; refine hspec.mono ?_; rintro e w5 ⟨rfl, hb5⟩; have hP5 := hP4.later hb5; have hQ5 := hQ4.later hb5; have hk5 := And.intro hP5.all hQ5.all)))
  have hbw5 := hbw4.trans (hb5.mono hbw4.size)
  clear hk2 hk3 hk4 hk5 hP3 hQ3 hP4 hQ4 hPd hQd hP hQ hto1 hto2 hspec hSp ho3 ho4 hb3 hb4 hb5 hbw3 hbw4 hbd hbw2
  -- impl's arguments
  have p0 := hP5.c0
  have p1 := hP5.c1
  have p2 := hP5.c2
  have hto3 := toPrf_any a ca sp tp xp w5 (hsp.below hbw5) lp
  go_wp2_with fail
  refine hto3.mono ?_
  rintro e w6 ⟨g6, rfl, ho6, hb6⟩
  have hx6 : PrC (w6.alloc (.cells #[.slice (some ⟨g6, 0, none⟩) sp.length sp.length, .bool tp, .string xp] 30)) w6.heap.size (.slice (some ⟨g6, 0, none⟩) sp.length sp.length) tp xp := ⟨by simp, by simp, by simp⟩
  have hbA6 := below_one w6 (.cells #[.slice (some ⟨g6, 0, none⟩) sp.length sp.length, .bool tp, .string xp] 30)
  have hP6 := (hP5.later hb6).later hbA6
  have hQ6 := (hQ5.later hb6).later hbA6
  have hbw6 := (hbw5.trans (hb6.mono hbw5.size)).trans (hbA6.mono (hbw5.trans (hb6.mono hbw5.size)).size)
  have ho6a := owns_below ho6 hbA6
  clear hto3 p0 p1 p2 hb6 hP5 hQ5 hbw5 ho6
  have q0 := hQ6.c0
  have q1 := hQ6.c1
  have q2 := hQ6.c2
  have hto4 := toPrf_any b cb sq tq xq _ (hsq.below hbw6) lq
  go_wp2_with fail
  refine hto4.mono ?_
  rintro e w7 ⟨g7, rfl, ho7, hb7⟩
  generalize w6.heap.size = b6 at *
  generalize w6.alloc (.cells #[.slice (some ⟨g6, 0, none⟩) sp.length sp.length, .bool tp, .string xp] 30) = w6a at *
  have hy7 : PrC (w7.alloc (.cells #[.slice (some ⟨g7, 0, none⟩) sq.length sq.length, .bool tq, .string xq] 30)) w7.heap.size (.slice (some ⟨g7, 0, none⟩) sq.length sq.length) tq xq := ⟨by simp, by simp, by simp⟩
  have hbA7 := below_one w7 (.cells #[.slice (some ⟨g7, 0, none⟩) sq.length sq.length, .bool tq, .string xq] 30)
  have hP7 := (hP6.later hb7).later hbA7
  have hQ7 := (hQ6.later hb7).later hbA7
  have hx7 := (hx6.later hb7).later hbA7
  have hbw7 := (hbw6.trans (hb7.mono hbw6.size)).trans (hbA7.mono (hbw6.trans (hb7.mono hbw6.size)).size)
  have ho6b := owns_below (owns_below ho6a hb7) hbA7
  have ho7a := owns_below ho7 hbA7
  clear hto4 q0 q1 q2 hb7 hP6 hQ6 hbw6 ho7 ho6a hx6 hbA6
  have x0 := hx7.c0
  have x1 := hx7.c1
  have x2 := hx7.c2
  have y0 := hy7.c0
  have y1 := hy7.c1
  have y2 := hy7.c2
  have himpl := hIm g6 g7 sp.length sq.length _ (sl_of_own ho6b) (sl_of_own ho7a)
  go_wp2_with fail
  refine himpl.mono ?_
  rintro e w8 ⟨rfl, hb8⟩
  generalize w7.heap.size = b7 at *
  generalize w7.alloc (.cells #[.slice (some ⟨g7, 0, none⟩) sq.length sq.length, .bool tq, .string xq] 30) = w7a at *
  have hP8 := (hP7.later hb8).later (below_drew w8)
  have hQ8 := (hQ7.later hb8).later (below_drew w8)
  have hx8 := (hx7.later hb8).later (below_drew w8)
  have hy8 := (hy7.later hb8).later (below_drew w8)
  have hbw8 := (hbw7.trans (hb8.mono hbw7.size)).drew
  have ho68 := owns_below (owns_below ho6b hb8) (below_drew w8)
  have ho78 := owns_below (owns_below ho7a hb8) (below_drew w8)
  clear himpl hIm x0 x1 x2 y0 y1 y2 hb8 hP7 hQ7 hx7 hy7 hbw7 ho6b ho7a hbA7
  -- the arguments are as they were
  have hk8 := And.intro hP8.all hx8.all
  have hto5 := toPrf_any a ca sp tp xp w8.drew (hsp.below hbw8) lp
  go_wp2_with fail
  go_region_held3 (fun w' => (w'.cell? ⟨bp, 0, none⟩ = some (.slice a sp.length ca) ∧ w'.cell? ⟨bp, 1, none⟩ = some (.bool tp) ∧ w'.cell? ⟨bp, 2, none⟩ = some (.string xp)) ∧ (w'.cell? ⟨b6, 0, none⟩ = some (.slice (some ⟨g6, 0, none⟩) sp.length sp.length) ∧ w'.cell? ⟨b6, 1, none⟩ = some (.bool tp) ∧ w'.cell? ⟨b6, 2, none⟩ = some (.string xp))) (first | go_keep | (exact hk9) | (exact hk10))
    ((first
      | (go_at_call 9; refine hto5.mono ?_; rintro e w9 ⟨g9, rfl, ho9, hb9⟩; have hP9 := hP8.later hb9; have hx9 := hx8.later hb9; have hk9 := And.intro hP9.all hx9.all; have he9 := eqPrf_any (some ⟨g6, 0, none⟩) (some ⟨g9, 0, none⟩) sp.length sp.length sp tp xp w9 (.inr ⟨g6, 0, rfl, sl_of_own (owns_below ho68 hb9)⟩) (.inr ⟨g9, 0, rfl, sl_of_own ho9⟩) lp)
      | (go_at_call 11; refine he9.mono ?_; rintro e w10 ⟨rfl, hb10⟩; have hP10 := hP9.later hb10; have hx10 := hx9.later hb10; have hk10 := And.intro hP10.all hx10.all)))
  have hb810 := hb9.trans (hb10.mono hb9.size)
  have hQ10 := (hQ8.later hb810).later (below_drew w10)
  have hy10 := (hy8.later hb810).later (below_drew w10)
  have hbw10 := (hbw8.trans (hb810.mono hbw8.size)).drew
  have ho710 := owns_below (owns_below ho78 hb810) (below_drew w10)
  clear hk8 hk9 hk10 hP9 hx9 hP10 hx10 he9 ho9 hb9 hb10 hto5 hP8 hx8 hQ8 hy8 hbw8 hb810 ho78 ho68
  have hk10b := And.intro hQ10.all hy10.all
  have hto6 := toPrf_any b cb sq tq xq w10.drew (hsq.below hbw10) lq
  go_wp2_with fail
  go_region_held3 (fun w' => (w'.cell? ⟨bq, 0, none⟩ = some (.slice b sq.length cb) ∧ w'.cell? ⟨bq, 1, none⟩ = some (.bool tq) ∧ w'.cell? ⟨bq, 2, none⟩ = some (.string xq)) ∧ (w'.cell? ⟨b7, 0, none⟩ = some (.slice (some ⟨g7, 0, none⟩) sq.length sq.length) ∧ w'.cell? ⟨b7, 1, none⟩ = some (.bool tq) ∧ w'.cell? ⟨b7, 2, none⟩ = some (.string xq))) (first | go_keep | (exact hk11) | (exact hk12))
    ((first
      | (go_at_call 9; refine hto6.mono ?_; rintro e w11 ⟨g11, rfl, ho11, hb11⟩; have hQ11 := hQ10.later hb11; have hy11 := hy10.later hb11; have hk11 := And.intro hQ11.all hy11.all; have he11 := eqPrf_any (some ⟨g7, 0, none⟩) (some ⟨g11, 0, none⟩) sq.length sq.length sq tq xq w11 (.inr ⟨g7, 0, rfl, sl_of_own (owns_below ho710 hb11)⟩) (.inr ⟨g11, 0, rfl, sl_of_own ho11⟩) lq)
      | (go_at_call 11; refine he11.mono ?_; rintro e w12 ⟨rfl, hb12⟩; have hQ12 := hQ11.later hb12; have hy12 := hy11.later hb12; have hk12 := And.intro hQ12.all hy12.all)))
  have hb1012 := hb11.trans (hb12.mono hb11.size)
  have hbw12 := hbw10.trans (hb1012.mono hbw10.size)
  clear hk11 hk12 hQ11 hy11 hQ12 hy12 he11 ho11
  go_wp2
  go_ret
  exact ⟨rfl, hbw12⟩

set_option maxRecDepth 100000 in
theorem lifted (os : Os) (started : os.Started) (H : Type) (enc : TypeId × Value → H) :
    ReturnsInHanded {} Try.checked os 4 .any (Rows.fnExactEvidenceSpec.pre6 enc Try.prog Try.f4 Rows.fnExactEvidenceRow.domain false) (Rows.fnExactEvidenceSpec.post enc Try.prog Try.f4 false true false false) := by
  refine returnsInHanded_of_change (C := Try.checked) own started (by kernel_rfl) Try.func4
    (ChangeSpec.witness6 (enc := enc) (C := Try.checked) false ⟨#[], #[.agg #[.slice none 0 0, .bool false, .string ByteArray.empty], .agg #[.slice none 0 0, .bool false, .string ByteArray.empty], .int .i64 0], []⟩ 8 (by kernel_rfl) (by kernel_rfl) (by kernel_rfl) (by kernel_rfl)) ?_
  intro W base args ds gs before hval0 hW hcnd _
  have hval : ∀ (j : Nat) t v, Try.f4.params[j]? = some t → args[j]? = some v → Value.okWide Try.prog W .any base t v := hval0
  have hW' := hW
  obtain ⟨p, q, hA0, hV, rfl, hfz, hnd⟩ := hW
  have hA : DataW.TrodAll enc Try.prog W 0 (fun _ => true) true Try.f4.params.toList args.toList ds p := hA0
  rw [Try.params4] at hA hval
  obtain ⟨v0, vs0, d0, ds0, p0, q0, hargs, rfl, rfl, h0, r0⟩ := trodAll_cons hA
  obtain ⟨v1, vs1, d1, ds1, p1, q1, hargs1, rfl, rfl, h1, r1⟩ := trodAll_cons r0
  obtain ⟨v2, vs2, d2, ds2, p2, q2, hargs2, rfl, rfl, h2, r2⟩ := trodAll_cons r1
  obtain ⟨rfl, rfl, rfl⟩ := trodAll_nil r2
  obtain rfl : args = #[v0, v1, v2] := by cases args; simp_all
  obtain ⟨rfl, rfl⟩ := trodVars_none hV
  have k0 := h0
  have k1 := h1
  have lt0 : ∀ x ∈ p0, x.block < W.heap.size := by obtain ⟨m, hm⟩ := k0; exact DataW.trod_lt m _ _ _ hm
  have lt1 : ∀ x ∈ p1, x.block < W.heap.size := by obtain ⟨m, hm⟩ := k1; exact DataW.trod_lt m _ _ _ hm
  obtain ⟨a0, cap0, ss0, th0, tx0, rfl, hss, hn, hm, hr⟩ := open_prf (hval 0 26 v0 rfl rfl) h0
  obtain ⟨a1, cap1, ss1, th1, tx1, rfl, hss1, hn1, hm1, hr1⟩ := open_prf (hval 1 26 v1 rfl rfl) h1
  obtain ⟨n2, rfl, rfl, rfl, w2⟩ := open_int Try.underlying3 (hval 2 3 v2 rfl rfl) h2
  clear hA0 hval0
  refine (walk a0 a1 cap0 cap1 ss0 ss1 th0 th1 tx0 tx1 n2 W hss hss1 hn hn1 hm hm1 hr hr1).mono fun e W' ⟨he, bel⟩ => ?_
  subst he
  exact ⟨_, rfl, _, _, _, [], _, [], hW', trodAll_mk1 (shut_bool Try.underlying4 _), (trodAll_cons_mk (Below.trod laidOut (by kernel_rfl) (of_decide_eq_true (by kernel_rfl)) k0 bel lt0) (trodAll_cons_mk (Below.trod laidOut (by kernel_rfl) (of_decide_eq_true (by kernel_rfl)) k1 bel lt1) (trodAll_cons_mk (shut_int Try.underlying3 w2) trodAll_mk0))), rfl, bel.frame _, fun h => by cases h⟩

theorem over : Rows.fnExactEvidenceRow.holds Try.pinned (OpenSpec.ofChange Rows.fnExactEvidenceSpec) :=
  OpenClaim.holds_of_wide 4 Try.f4 rfl rfl rfl rfl rfl rfl rfl ⟨rfl, rfl, rfl, rfl, rfl⟩ rfl rfl rfl rfl rfl (by kernel_rfl) Try.func4 (by kernel_rfl)
    (of_decide_eq_true (by kernel_rfl)) (by unfold Func.isWrapper; first | (rw [if_pos (by decide +kernel)]; kernel_rfl) | (rw [if_neg (by decide +kernel)]; exact ⟨rfl, rfl⟩))
    (fun os started H enc _ => lifted os started H enc)

theorem proved : Rows.FnExactEvidenceSaid := over
end Go.Proofs.Ytnobhmljhijhcaa.fnExactEvidence
