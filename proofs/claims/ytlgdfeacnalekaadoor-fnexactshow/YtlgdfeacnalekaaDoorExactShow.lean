/-
  'FnExactShow': the walk out of the contracts; the frame; the card.
-/
import Derived.Test.YtlgdfeacnalekaaDoorPrfSh
import Derived.Test.YtlgdfeacnalekaaDoorShowS
import Derived.Test.YtlgdfeacnalekaaDoorTie
import Derived.Test.YtlgdfeacnalekaaDoorCards
import Derived.ChangeMaps
import Derived.LaidMore
import Derived.Lay
import Derived.SevenTiedAt
import Derived.Deep.RegionHeld3
namespace Go.Proofs.YtlgdfeacnalekaaDoor.fnExactShow
open Go.ChangeShapes Go.WideShapes Go.ChangeAt Go.RowKit
open Go.ChangeMaps (open_string shut_string)
set_option linter.unusedVariables false

theorem own : ownKnob Tryd.prog.godebug = none := by kernel_rfl
theorem laidOut : laidOutB Tryd.prog = true := by kernel_rfl

theorem sl_of_own {w : World} {base g c : Nat} {ss : List ByteArray} (h : w.ownsRow base 9 1 (.slice (some ⟨g, 0, none⟩) ss.length c) ss.length (ss.map .string)) : ∀ i (h : i < ss.length), w.cell? ⟨g, 0 + i, none⟩ = some (.string ss[i]) := fun i hi => by
  rw [Nat.zero_add, h.cellAt i (by omega), List.getElem?_map, List.getElem?_eq_getElem hi]
  rfl

set_option maxRecDepth 20000 in
set_option maxHeartbeats 4000000 in
theorem walk (sum path : ByteArray) (a : Option Addr) (ca : Nat) (sp : List ByteArray) (tp : Bool) (xp : ByteArray) (m : Int) (w : World) (hsp : SS w a sp) (hnp : sp.length ≤ maxLen) (hmp : ∀ s ∈ sp, s.size ≤ maxLen) (htp : xp.size ≤ maxLen) :
    Calls Tryd.prog 3 #[.string sum, .string path, .agg #[.slice a sp.length ca, .bool tp, .string xp], .int .i64 m] w fun e w' => e = .returned (.bool true) ∧ Below w.heap.size w w' := by
  have hal : Below w.heap.size w (w.alloc (.cells #[.slice a sp.length ca, .bool tp, .string xp] 24)) := (Below.refl _ _).alloc (Nat.le_refl _) _
  have hP : PrC (w.alloc (.cells #[.slice a sp.length ca, .bool tp, .string xp] 24)) w.heap.size (.slice a sp.length ca) tp xp := ⟨by simp [go_sem], by simp [go_sem], by simp [go_sem]⟩
  have hsz1 := szPrf_any a ca sp tp xp 1048576 _ (hsp.below hal) hnp (Nat.le_refl _) hmp htp
  go_enter Tryd.func3, Tryd.ntmps3
  by_cases hs : (1048576 : Int) < sum.size
  · go_wp2
    go_ret
    exact ⟨rfl, hal⟩
  by_cases hpz : (1048576 : Int) < path.size
  · go_wp2
    go_ret
    exact ⟨rfl, hal⟩
  have HPZ : Keep (path.size ≤ 1048576) := ⟨by omega⟩
  go_wp2_with fail
  refine hsz1.mono ?_
  rintro e w1 ⟨r1, rfl, hb1, hr1⟩
  clear hsz1 hs hpz
  replace hP := hP.later hb1
  have hbw1 := hal.trans (hb1.mono hal.size)
  obtain ⟨bp, hbp⟩ : ∃ bp, bp = w.heap.size := ⟨_, rfl⟩
  rw [← hbp] at hP ⊢
  clear hbp hb1 hal
  rcases hr1 with hr1 | ⟨n1, rfl, hn1⟩
  · go_wp2
    go_ret
    exact ⟨rfl, hbw1⟩
  have hn0 : ¬ (n1 : Int) < 0 := by omega
  have lp : sp.length ≤ 1048576 := by unfold prfN at hn1; omega
  have HZ : Keep ((∀ s ∈ sp, s.size ≤ 1048576) ∧ xp.size ≤ 1048576) := ⟨by unfold prfN at hn1; exact ⟨fun s hs => by have := size_le_total sp s hs; omega, by omega⟩⟩
  clear hn1 hmp hnp htp
  have p0 := hP.c0
  have p1 := hP.c1
  have p2 := hP.c2
  have hto1 := toPrf_any a ca sp tp xp w1 (hsp.below hbw1) lp
  go_wp2_with fail
  refine hto1.mono ?_
  rintro e w2 ⟨g2, rfl, ho2, hb2⟩
  clear hto1 p0 p1 p2
  replace hP := hP.later hb2
  have hbw2 := hbw1.trans (hb2.mono hbw1.size)
  clear hbw1 hb2
  have hsc := specShow_any sum path (some ⟨g2, 0, none⟩) sp.length sp tp xp m w2 (.inr ⟨g2, 0, rfl, sl_of_own ho2⟩) lp HZ.out.1 HZ.out.2
  go_wp2_with fail
  refine hsc.mono ?_
  rintro e w3 ⟨o, hrel, rfl, hb3⟩
  clear hsc ho2
  have HR : Keep (ShowRel sum path sp tp xp m o) := ⟨hrel⟩
  clear hrel
  obtain ⟨c, th, q, t, r, hv⟩ : ∃ (c : Int) (th : Bool) (q t : ByteArray) (r : Bool), shV path xp o = .agg #[.int .i64 c, .bool th, .string q, .string t, .bool r] := ⟨_, _, _, _, _, rfl⟩
  rw [hv]
  have HV : Keep (shV path xp o = .agg #[.int .i64 c, .bool th, .string q, .string t, .bool r]) := ⟨hv⟩
  clear hv
  replace hP := hP.later hb3
  have hbw3 := hbw2.trans (hb3.mono hbw2.size)
  clear hbw2 hb3
  have hal3 := below_one w3 (.cells #[.int .i64 c, .bool th, .string q, .string t, .bool r] 29)
  have hS : ShC (w3.alloc (.cells #[.int .i64 c, .bool th, .string q, .string t, .bool r] 29)) w3.heap.size c th q t r := ⟨by simp, by simp, by simp, by simp, by simp⟩
  replace hP := hP.later hal3
  have hbw4 := hbw3.trans (hal3.mono hbw3.size)
  clear hal3 hbw3
  have p0 := hP.c0
  have p1 := hP.c1
  have p2 := hP.c2
  have hto2 := toPrf_any a ca sp tp xp _ (hsp.below hbw4) lp
  go_wp2_with fail
  refine hto2.mono ?_
  rintro e w5 ⟨g5, rfl, ho5, hb5⟩
  clear hto2 p0 p1 p2
  generalize w3.heap.size = bs at *
  generalize w3.alloc (.cells #[.int .i64 c, .bool th, .string q, .string t, .bool r] 29) = w4 at *
  replace hP := hP.later hb5
  replace hS := hS.later hb5
  have hbw5 := hbw4.trans (hb5.mono hbw4.size)
  clear hb5 hbw4
  have hal5 := below_one w5 (.cells #[.slice (some ⟨g5, 0, none⟩) sp.length sp.length, .bool tp, .string xp] 31)
  have hX : PrC (w5.alloc (.cells #[.slice (some ⟨g5, 0, none⟩) sp.length sp.length, .bool tp, .string xp] 31)) w5.heap.size (.slice (some ⟨g5, 0, none⟩) sp.length sp.length) tp xp := ⟨by simp, by simp, by simp⟩
  replace hP := hP.later hal5
  replace hS := hS.later hal5
  have hbw6 := hbw5.trans (hal5.mono hbw5.size)
  replace ho5 := owns_below ho5 hal5
  clear hal5 hbw5
  have x0 := hX.c0
  have x1 := hX.c1
  have x2 := hX.c2
  have hic := implShow_any sum path (some ⟨g5, 0, none⟩) sp.length sp tp xp m _ (.inr ⟨g5, 0, rfl, sl_of_own ho5⟩) lp HZ.out.1 HPZ.out HZ.out.2
  go_wp2_with fail
  refine hic.mono ?_
  rintro e w7 ⟨o', hrel', rfl, hb7⟩
  clear hic x0 x1 x2
  have ho : o' = o := hrel'.one HR.out
  subst ho
  rw [HV.out]
  clear hrel' HR HV
  generalize w5.heap.size = bx at *
  generalize w5.alloc (.cells #[.slice (some ⟨g5, 0, none⟩) sp.length sp.length, .bool tp, .string xp] 31) = w6 at *
  replace hP := hP.later hb7
  replace hS := hS.later hb7
  replace hX := hX.later hb7
  replace ho5 := owns_below ho5 hb7
  have hbw7 := hbw6.trans (hb7.mono hbw6.size)
  clear hb7 hbw6
  have hal7 := below_one w7 (.cells #[.int .i64 c, .bool th, .string q, .string t, .bool r] 29)
  have hG : ShC (w7.alloc (.cells #[.int .i64 c, .bool th, .string q, .string t, .bool r] 29)) w7.heap.size c th q t r := ⟨by simp, by simp, by simp, by simp, by simp⟩
  replace hP := hP.later hal7
  replace hS := hS.later hal7
  replace hX := hX.later hal7
  replace ho5 := owns_below ho5 hal7
  have hbw8 := hbw7.trans (hal7.mono hbw7.size)
  clear hal7 hbw7
  have s0 := hS.c0; have s1 := hS.c1; have s2 := hS.c2; have s3 := hS.c3; have s4 := hS.c4
  have e0 := hG.c0; have e1 := hG.c1; have e2 := hG.c2; have e3 := hG.c3; have e4 := hG.c4
  have heq := eqShown_any c th q t r (w7.alloc (.cells #[.int .i64 c, .bool th, .string q, .string t, .bool r] 29))
  go_wp2_with fail
  refine heq.mono ?_
  rintro e w8 ⟨rfl, hb8⟩
  clear heq s0 s1 s2 s3 s4 e0 e1 e2 e3 e4 hG hS
  generalize w7.heap.size = bg at *
  generalize w7.alloc (.cells #[.int .i64 c, .bool th, .string q, .string t, .bool r] 29) = w7a at *
  have hP8 := (hP.later hb8).later (below_drew w8)
  have hx8 := (hX.later hb8).later (below_drew w8)
  have ho68 := owns_below (owns_below ho5 hb8) (below_drew w8)
  have hbd := (hbw8.trans (hb8.mono hbw8.size)).drew
  clear hP hX ho5 hb8 hbw8
  have hk8 := And.intro hP8.all hx8.all
  have hto5 := toPrf_any a ca sp tp xp w8.drew (hsp.below hbd) lp
  go_wp2_with fail
  go_region_held3 (fun w' => (w'.cell? ⟨bp, 0, none⟩ = some (.slice a sp.length ca) ∧ w'.cell? ⟨bp, 1, none⟩ = some (.bool tp) ∧ w'.cell? ⟨bp, 2, none⟩ = some (.string xp)) ∧ (w'.cell? ⟨bx, 0, none⟩ = some (.slice (some ⟨g5, 0, none⟩) sp.length sp.length) ∧ w'.cell? ⟨bx, 1, none⟩ = some (.bool tp) ∧ w'.cell? ⟨bx, 2, none⟩ = some (.string xp))) (first | go_keep | (exact hk9) | (exact hk10))
    ((first
      | (go_at_call 6; refine hto5.mono ?_; rintro e w9 ⟨g9, rfl, ho9, hb9⟩; have hP9 := hP8.later hb9; have hx9 := hx8.later hb9; have hk9 := And.intro hP9.all hx9.all; have he9 := eqPrf_any (some ⟨g5, 0, none⟩) (some ⟨g9, 0, none⟩) sp.length sp.length sp tp xp w9 (.inr ⟨g5, 0, rfl, sl_of_own (owns_below ho68 hb9)⟩) (.inr ⟨g9, 0, rfl, sl_of_own ho9⟩) lp)
      | (go_at_call 9; refine he9.mono ?_; rintro e w10 ⟨rfl, hb10⟩; have hP10 := hP9.later hb10; have hx10 := hx9.later hb10; have hk10 := And.intro hP10.all hx10.all)))
  have hb810 := hb9.trans (hb10.mono hb9.size)
  have hbw10 := hbd.trans (hb810.mono hbd.size)
  clear hk8 hk9 hk10 hP9 hx9 hP10 hx10 he9 ho9
  go_wp2
  go_ret
  exact ⟨rfl, hbw10⟩

set_option maxRecDepth 100000 in
theorem lifted (os : Os) (started : os.Started) (H : Type) (enc : TypeId × Value → H) :
    ReturnsInHanded {} Tryd.checked os 3 .any (fun w args => (Rows.fnExactShowSpec.pre enc Tryd.prog Tryd.f3 Rows.fnExactShowRow.domain false w args ∧ laidMetH Tryd.prog Rows.fnExactShowRow.laid w) ∧ sizedMet enc Tryd.prog Tryd.f3 (OpenSpec.ofChange Rows.fnExactShowSpec) false w args)
      (Rows.fnExactShowSpec.post enc Tryd.prog Tryd.f3 false true false false) := by
  refine returnsInHanded_of_change_and (C := Tryd.checked) (X := fun w _ => laidMetH Tryd.prog Rows.fnExactShowRow.laid w) (fun _ _ _ hh h => h.of_heap hh) own started (by kernel_rfl) Tryd.func3
    (ChangeSpec.witness_shaped (enc := enc) (C := Tryd.checked) (os := os) (X := fun w _ => laidMetH Tryd.prog Rows.fnExactShowRow.laid w) false (World.laidAll Tryd.prog os Rows.fnExactShowRow.laid) #[.string ByteArray.empty, .string ByteArray.empty, .agg #[.slice none 0 0, .bool false, .string ByteArray.empty], .int .i64 0] 8 (World.laidAll_os _ _ _)
      (World.shaped_of_ZipB (by kernel_rfl) (by kernel_rfl)) (by kernel_rfl) (by kernel_rfl) (by kernel_rfl)
      (by rw [MakeChecks.laidMetH_plain _ _ _ (by kernel_rfl)]; exact laidMet_laidAll _ (by kernel_rfl) (by kernel_rfl))) ?_
  intro W base args ds gs before hval0 hW hc _ hL _
  have hval : ∀ (j : Nat) t v, Tryd.f3.params[j]? = some t → args[j]? = some v → Value.okWide Tryd.prog W .any base t v := hval0
  have hW' := hW
  obtain ⟨p, q, hA0, hV, rfl, hfz, hnd⟩ := hW
  have hA : DataW.TrodAll enc Tryd.prog W 0 (fun _ => true) true Tryd.f3.params.toList args.toList ds p := hA0
  rw [Tryd.params3] at hA hval
  obtain ⟨v0, vs0, d0, ds0, p0, q0, hargs, rfl, rfl, h0, r0⟩ := trodAll_cons hA
  obtain ⟨v1, vs1, d1, ds1, p1, q1, hargs1, rfl, rfl, h1, r1⟩ := trodAll_cons r0
  obtain ⟨v2, vs2, d2, ds2, p2, q2, hargs2, rfl, rfl, h2, r2⟩ := trodAll_cons r1
  obtain ⟨v3, vs3, d3, ds3, p3, q3, hargs3, rfl, rfl, h3, r3⟩ := trodAll_cons r2
  obtain ⟨rfl, rfl, rfl⟩ := trodAll_nil r3
  obtain rfl : args = #[v0, v1, v2, v3] := by cases args; simp_all
  obtain ⟨rfl, rfl⟩ := trodVars_none hV
  have k2 := h2
  have lt2 : ∀ x ∈ p2, x.block < W.heap.size := by obtain ⟨m, hm⟩ := k2; exact DataW.trod_lt m _ _ _ hm
  obtain ⟨s0, rfl, rfl, rfl, w0⟩ := open_string Tryd.underlying9 (hval 0 9 v0 rfl rfl) h0
  obtain ⟨s1, rfl, rfl, rfl, w1⟩ := open_string Tryd.underlying9 (hval 1 9 v1 rfl rfl) h1
  obtain ⟨a2, cap2, ss2, th2, tx2, rfl, hss, hn, hm, hr⟩ := open_prf (hval 2 24 v2 rfl rfl) h2
  obtain ⟨n3, rfl, rfl, rfl, w3⟩ := open_int Tryd.underlying3 (hval 3 3 v3 rfl rfl) h3
  clear hA0 hval0
  refine (walk s0 s1 a2 cap2 ss2 th2 tx2 n3 W hss hn hm hr).mono fun e W' ⟨he, bel⟩ => ?_
  subst he
  exact ⟨_, rfl, _, _, _, [], _, [], hW', trodAll_mk1 (shut_bool Tryd.underlying4 _), (trodAll_cons_mk (shut_string Tryd.underlying9 w0) (trodAll_cons_mk (shut_string Tryd.underlying9 w1) (trodAll_cons_mk (Below.trod laidOut (by kernel_rfl) (of_decide_eq_true (by kernel_rfl)) k2 bel lt2) (trodAll_cons_mk (shut_int Tryd.underlying3 w3) trodAll_mk0)))), rfl, bel.frame _, fun h => by cases h⟩

theorem over : Rows.FnExactShowSaid :=
  OpenClaim.holds_of_wide 3 Tryd.f3 rfl rfl rfl rfl rfl rfl rfl ⟨rfl, rfl, rfl, rfl, rfl⟩ rfl rfl rfl rfl rfl (by kernel_rfl) Tryd.func3 (by kernel_rfl)
    (of_decide_eq_true (by kernel_rfl)) (by unfold Func.isWrapper; first | (rw [if_pos (by decide +kernel)]; kernel_rfl) | (rw [if_neg (by decide +kernel)]; exact ⟨rfl, rfl⟩))
    (fun os started H enc _ => lifted os started H enc)

theorem proved : Rows.FnExactShowCardSaid :=
  Claim7.holds_tied_plain_at .later [] [.data, .pinned] true Rows.fnExactShowCard.stood.harness false
    over (fun _ h => by cases h) (by kernel_rfl) (fun _ h => by cases h) fnExactShow_row_tie rfl ⟨rfl, rfl⟩ (by kernel_rfl) rfl
    (fun f fn hf hfn => by
      obtain rfl : f = 3 := Option.some.inj ((show Tryd.prog.funcNamed "loop.example/kilntree/laws.FnExactShow" = some 3 by kernel_rfl).symm.trans hf) |>.symm
      obtain rfl : fn = Tryd.f3 := (Option.some.inj (Tryd.func3.symm.trans hfn)).symm
      exact ⟨by kernel_rfl, fun j t ht => by
        rw [Tryd.params3] at ht
        have hm : t ∈ [9, 9, 24, 3] := by simpa using Array.mem_of_getElem? ht
        have hall : ([9, 9, 24, 3].all fun u => !Tryd.prog.wantsStandIn u) = true := by kernel_rfl
        exact (show Tryd.prog.wantsStandIn t = false by simpa using List.all_eq_true.1 hall t hm)⟩)
    (by kernel_rfl)
end Go.Proofs.YtlgdfeacnalekaaDoor.fnExactShow
