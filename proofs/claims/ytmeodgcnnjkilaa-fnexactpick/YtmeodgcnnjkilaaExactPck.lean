/-
  'FnExactPick': the walk out of the contracts; the frame.
-/
import Derived.Test.YtmeodgcnnjkilaaPckM
import Derived.Test.YtmeodgcnnjkilaaPckZ
import Derived.Test.YtmeodgcnnjkilaaEntries
import Derived.Test.YtmeodgcnnjkilaaPckZ
import Derived.Test.YtmeodgcnnjkilaaStrs
import Derived.Test.YtmeodgcnnjkilaaMarkL
import Derived.Test.YtmeodgcnnjkilaaSizeL
import Derived.SliceStrings
import Derived.Test.YtmeodgcnnjkilaaTreeLaw
import Derived.Test.YtmeodgcnnjkilaaOpenTree
namespace Go.Proofs.Ytmeodgcnnjkilaa.fnExactPick
open Go.ChangeShapes Go.WideShapes Go.ChangeAt Go.RowKit
open Go.ChangeMaps (open_string shut_string)
set_option linter.unusedVariables false

theorem own : ownKnob Try.prog.godebug = none := by kernel_rfl
theorem laidOut : laidOutB Try.prog = true := by kernel_rfl

theorem ss_row {w : World} {base : Nat} {ad : Option Addr} {cp : Nat} {ss : List ByteArray} (h : w.ownsRow base 9 1 (.slice ad ss.length cp) ss.length (ss.map .string)) : SS w ad ss := by
  rcases h.2 with ⟨_, h0⟩ | ⟨g, cap, cur, hv, _⟩
  · left; exact List.eq_nil_of_length_eq_zero h0
  · cases hv
    refine .inr ⟨g, 0, rfl, fun i hi => ?_⟩
    rw [Nat.zero_add, h.cellAt i (by omega), List.getElem?_map, List.getElem?_eq_getElem hi]
    rfl
theorem eqi (c : Int) : (c == c) = true := by simp
theorem nei (c : Int) : (c != c) = false := by simp

set_option maxRecDepth 100000 in
set_option maxHeartbeats 8000000 in
theorem walk (a : Option Addr) (cap : Nat) (ts : List En) (ag : Option Addr) (cg : Nat) (gs : List ByteArray) (w : World) (hss : ES w a ts) (hn : ts.length ≤ maxLen) (hm : ∀ s ∈ ts, s.path.size ≤ maxLen ∧ s.text.size ≤ maxLen) (hgs : SS w ag gs) (hgn : gs.length ≤ maxLen) (hgm : ∀ s ∈ gs, s.size ≤ maxLen) :
    Calls Try.prog 6 #[.agg #[.slice a ts.length cap], .slice ag gs.length cg] w fun e w' => e = .returned (.bool true) ∧ Below w.heap.size w w' := by
  have hb0 : ∀ o, Below w.heap.size w (w.alloc o) := fun o => (Below.refl _ _).alloc (Nat.le_refl _) _
  go_enter Try.func6, Try.ntmps6
  go_wp2_with fail
  refine (szTreeL_any 1048576 (Nat.le_refl _) a cap ts _ (hss.below (hb0 _)) hn hm).mono ?_
  rintro e w1 ⟨r, rfl, hb1, hr⟩
  have hbx1 := (hb0 _).trans (hb1.mono (hb0 _).size)
  have hx1 : w1.cell? ⟨w.heap.size, 0, none⟩ = some (.slice a ts.length cap) := (hb1.cell (p := ⟨w.heap.size, 0, none⟩) (by simp)).trans (World.cell?_alloc_new _ _ _ _)
  have hz1 : w.heap.size < w1.heap.size := Nat.lt_of_lt_of_le (by simp) hb1.size
  rcases hr with hr | ⟨hr, hrl, hle⟩
  · have hr0 : r < 0 := by omega
    clear hr
    go_wp2
    go_ret
    exact ⟨rfl, hbx1⟩
  have hr0 : ¬ r < 0 := by omega
  have hn' : ts.length ≤ 1048576 := by omega
  have hz : ∀ e ∈ ts, e.path.size ≤ 1048576 ∧ e.text.size ≤ 1048576 := fun e he => by have := size_le_totalE ts e he; omega
  clear hb1
  obtain ⟨L, rfl⟩ := Int.eq_ofNat_of_zero_le hr
  go_wp2_with fail
  refine (sz_any ag cg gs L w1 (hgs.below hbx1) hgn (by omega) hgm).mono ?_
  rintro e w1x ⟨r2, rfl, rfl, hr2⟩
  rcases hr2 with hr2 | ⟨hr2, hle2⟩
  · clear hr hrl
    go_wp2
    go_ret
    exact ⟨rfl, hbx1⟩
  have hr20 : ¬ r2 < 0 := by omega
  have hgn' : gs.length ≤ 1048576 := by omega
  have hgz : ∀ s ∈ gs, s.size ≤ 1048576 := fun s hs => by have := size_le_total gs s hs; omega
  clear hr hr2 hrl hle2
  obtain ⟨T, hTe⟩ : ∃ T, T = w.heap.size := ⟨_, rfl⟩
  have hTw : Keep (T = w.heap.size) := ⟨hTe⟩
  rw [← hTe] at hx1 ⊢
  clear hTe
  go_wp2_with fail
  refine (toTree_any a cap ts w1 (hss.below hbx1) hn').mono ?_
  rintro e w2 ⟨g2, rfl, hs2, hb2, _, _, _⟩
  have hbx2 := hbx1.trans (hb2.mono hbx1.size)
  have hx2 := cell_later hb2 hx1
  have hz2 := hb2.size
  clear hx1 hb2
  go_wp2_with fail
  refine (to_any ag cg gs w2 (hgs.below hbx2) hgn').mono ?_
  rintro e w2b ⟨rfl, ho2, hb2b⟩
  have hs2b := hs2.below hb2b
  have hbx2b := hbx2.trans (hb2b.mono hbx2.size)
  have hx2b := cell_later hb2b hx2
  have hz2b := hb2b.size
  have hsg2 := ss_row ho2
  clear ho2
  go_wp2_with fail
  refine (specPck_any _ _ ts _ _ gs w2b hs2b hsg2 hn').mono ?_
  rintro e w3 ⟨us, hrem, ⟨ad3, cap3, rfl, hel3⟩, hb3x⟩
  replace hel3 : EL w2.heap.size w3 ad3 us := hel3.mono hz2b
  have hb3 : Below w2.heap.size w2 w3 := hb2b.trans (hb3x.mono hz2b)
  clear hs2b hbx2b hx2b hsg2 hb2b hb3x
  have hbx3 := hbx2.trans (hb3.mono hbx2.size)
  have hx3 := cell_later hb3 hx2
  have hz3 := hb3.size
  have he3 := hel3.ein (Nat.le_refl _)
  have hus := pck_few hrem
  have HR : Keep (Pck ts gs us) := ⟨hrem⟩
  clear hx2 hb3 hel3 hs2 hrem
  have ha3 : Below w3.heap.size w3 (w3.alloc (.cells #[.slice ad3 us.length cap3] 31)) := (Below.refl _ _).alloc (Nat.le_refl _) _
  have y3 : (w3.alloc (.cells #[.slice ad3 us.length cap3] 31)).cell? ⟨w3.heap.size, 0, none⟩ = some (.slice ad3 us.length cap3) := by simp
  have hz3' : (w3.alloc (.cells #[.slice ad3 us.length cap3] 31)).heap.size = w3.heap.size + 1 := by simp
  have hx3' := cell_later ha3 hx3
  have hbx3' := hbx3.trans (ha3.mono hbx3.size)
  have he3' := he3.below (Nat.le_refl _) ha3
  go_wp2_with fail
  generalize w3.alloc (.cells #[.slice ad3 us.length cap3] 31) = w3' at *
  have HZ3 : Keep (w3'.heap.size = w3.heap.size + 1) := ⟨hz3'⟩
  have HZ2 : Keep (w.heap.size < w2.heap.size ∧ w2.heap.size ≤ w3.heap.size) := ⟨⟨Nat.lt_of_lt_of_le hz1 hz2, hz3⟩⟩
  clear hz3' hz1 hz2 hz3 ha3 hx3 hbx3 he3
  refine (toTree_any a cap ts w3' (hss.below hbx3') hn').mono ?_
  rintro e w4 ⟨g4, rfl, hs4, hb4, hg4, hf4, hl4⟩
  have he4 := ein_of_toTree hs4 hg4 hf4 hl4
  have hbx4 := hbx3'.trans (hb4.mono hbx3'.size)
  have hx4 := cell_later hb4 hx3'
  have y4 := cell_later hb4 y3
  have he34 := he3'.below (by have := HZ3.out; omega) hb4
  have HZ4 : Keep (w3'.heap.size ≤ w4.heap.size) := ⟨hb4.size⟩
  clear hx3' y3 hbx3' he3' hb4 hs4 hf4 hg4 hl4
  have ha4 : Below w4.heap.size w4 (w4.alloc (.cells #[.slice (some ⟨g4, 0, none⟩) ts.length ts.length] 31)) := (Below.refl _ _).alloc (Nat.le_refl _) _
  have x4 : (w4.alloc (.cells #[.slice (some ⟨g4, 0, none⟩) ts.length ts.length] 31)).cell? ⟨w4.heap.size, 0, none⟩ = some (.slice (some ⟨g4, 0, none⟩) ts.length ts.length) := by simp
  have hz4' : (w4.alloc (.cells #[.slice (some ⟨g4, 0, none⟩) ts.length ts.length] 31)).heap.size = w4.heap.size + 1 := by simp
  have hx4' := cell_later ha4 hx4
  have y4' := cell_later ha4 y4
  have hbx4' := hbx4.trans (ha4.mono hbx4.size)
  have he4' := he4.below (Nat.le_refl _) ha4
  have he34' := he34.below (by have := HZ3.out; have := HZ4.out; omega) ha4
  go_wp2_with fail
  generalize w4.alloc (.cells #[.slice (some ⟨g4, 0, none⟩) ts.length ts.length] 31) = w4' at *
  have HZ4' : Keep (w4'.heap.size = w4.heap.size + 1) := ⟨hz4'⟩
  clear hz4' ha4 hx4 y4 hbx4 he4 he34
  refine (to_any ag cg gs w4' (hgs.below hbx4') hgn').mono ?_
  rintro e w4b ⟨rfl, hol4, hb4b⟩
  have hz4b := hb4b.size
  have hbx4b := hbx4'.trans (hb4b.mono hbx4'.size)
  have x4b := cell_later hb4b x4
  have hsl4 := own_lt hol4 (g := w4'.heap.size) rfl
  go_wp2_with fail
  refine (implPck_any _ _ ts _ _ gs w4b (he4'.es.below hb4b) (ss_row hol4) hn' hz hgz).mono ?_
  rintro e w5 ⟨us', hrem', ⟨ad5, cap5, rfl, hel5x⟩, hb5x⟩
  have hol5 := owns_below hol4 hb5x
  have hel5 : EL w4b.heap.size w5 ad5 us' := hel5x
  have hb5 : Below w4'.heap.size w4' w5 := hb4b.trans (hb5x.mono hz4b)
  have HZb : Keep (w4'.heap.size < w4b.heap.size ∧ w4b.heap.size ≤ w5.heap.size) := ⟨⟨hsl4, hb5x.size⟩⟩
  obtain ⟨sl, hsl⟩ : ∃ sl, sl = w4'.heap.size := ⟨_, rfl⟩
  have HSL : Keep (sl = w4'.heap.size) := ⟨hsl⟩
  rw [← hsl] at hol5 ⊢
  clear hol4 hbx4b x4b hb4b hb5x hel5x hsl hsl4
  obtain rfl := pck_one HR.out hrem'
  have he5 := hel5.ein (Nat.le_refl _)
  have hbx5 := hbx4'.trans (hb5.mono hbx4'.size)
  have hx5 := cell_later hb5 hx4'
  have y5 := cell_later hb5 y4'
  have x5 := cell_later hb5 x4
  have he35 := he34'.below (by have := HZ3.out; have := HZ4.out; have := HZ4'.out; omega) hb5
  have he45 := he4'.below (by have := HZ4'.out; omega) hb5
  have HZ5 : Keep (w4'.heap.size ≤ w5.heap.size) := ⟨hb5.size⟩
  clear hx4' y4' x4 hbx4' he34' he4' hb5 hel5 hrem'
  have ha5 : Below w5.heap.size w5 (w5.alloc (.cells #[.slice ad5 us.length cap5] 31)) := (Below.refl _ _).alloc (Nat.le_refl _) _
  have v5 : (w5.alloc (.cells #[.slice ad5 us.length cap5] 31)).cell? ⟨w5.heap.size, 0, none⟩ = some (.slice ad5 us.length cap5) := by simp
  have hz5' : (w5.alloc (.cells #[.slice ad5 us.length cap5] 31)).heap.size = w5.heap.size + 1 := by simp
  have hx6 := cell_later ha5 hx5
  have y6 := cell_later ha5 y5
  have x6 := cell_later ha5 x5
  have hbx6 := hbx5.trans (ha5.mono hbx5.size)
  have he36 := he35.below (by have := HZ3.out; have := HZ4.out; have := HZ4'.out; have := HZ5.out; omega) ha5
  have he46 := he45.below (by have := HZ4'.out; have := HZ5.out; omega) ha5
  have he56 := he5.below (Nat.le_refl _) ha5
  have hol6 := owns_below hol5 ha5
  clear hol5
  go_wp2_with fail
  generalize w5.alloc (.cells #[.slice ad5 us.length cap5] 31) = w6 at *
  have HZ6 : Keep (w6.heap.size = w5.heap.size + 1) := ⟨hz5'⟩
  have HS : Keep (w.heap.size < w2.heap.size ∧ w2.heap.size ≤ w3.heap.size ∧ w3.heap.size < w3'.heap.size ∧ w3'.heap.size ≤ w4.heap.size ∧ w4.heap.size < w4'.heap.size ∧ w4'.heap.size ≤ w5.heap.size ∧ w5.heap.size < w6.heap.size ∧ sl = w4'.heap.size ∧ w4'.heap.size < w4b.heap.size ∧ w4b.heap.size ≤ w5.heap.size) := ⟨by
    have := HZb.out; have := HSL.out
    have := HZ2.out; have := HZ3.out; have := HZ4.out; have := HZ4'.out; have := HZ5.out; have := HZ6.out; omega⟩
  clear hz5' ha5 hx5 y5 x5 hbx5 he35 he45 he5 HZ2 HZ3 HZ4 HZ4' HZ5 HZ6
  have hul : us.length ≤ 1048576 := by omega
  refine (eqTree_any _ _ _ _ us w6 he56.es he36.es hul).mono ?_
  rintro e w7 ⟨rfl, hb7⟩
  have hx7 := cell_later hb7 hx6
  have y7 := cell_later hb7 y6
  have x7 := cell_later hb7 x6
  have v7 := cell_later hb7 v5
  have hbx7 := hbx6.trans (hb7.mono hbx6.size)
  have he37 := he36.below (by have := HS.out; omega) hb7
  have he47 := he46.below (by have := HS.out; omega) hb7
  have he57 := he56.below (by have := HS.out; omega) hb7
  have HZ7 : Keep (w6.heap.size ≤ w7.heap.size) := ⟨hb7.size⟩
  have hol7 := owns_below hol6 hb7
  clear hx6 y6 x6 v5 hbx6 he36 he46 he56 hb7 hol6
  have hc : ∀ x : Later w7, x.world.cell? ⟨w4.heap.size, 0, none⟩ = some (.slice (some ⟨g4, 0, none⟩) ts.length ts.length) := fun x => cell_later x.kept x7
  go_wp2_with fail
  go_region_with (first | (go_at_call 10; refine (toTree_any a cap ts _ ?_ hn').mono ?_; exact hss.below hbx7.drew; rintro e w8 ⟨g8, rfl, hs8, hb8, _⟩; have x8 := cell_later (w := w7.drew) hb8 x7) | (go_at_call 13; refine (eqTree_any _ _ _ _ ts _ ?_ hs8 hn').mono ?_; exact ES.below (w := w7.drew) he47.es hb8; rintro e w9 ⟨rfl, hb9⟩))
  all_goals
    have hb79 : Below w7.heap.size w7 w9 := ((Below.refl w7.heap.size w7).drew.trans (hb8.mono (Nat.le_refl _))).trans (hb9.mono hb8.size)
    have hx9 := cell_later hb79 hx7
    have y9 := cell_later hb79 y7
    have x9 := cell_later hb79 x7
    have v9 := cell_later hb79 v7
    have hbx9 := hbx7.trans (hb79.mono hbx7.size)
    have he39 := he37.below (by have := HS.out; have := HZ7.out; omega) hb79
    have he49 := he47.below (by have := HS.out; have := HZ7.out; omega) hb79
    have he59 := he57.below (by have := HS.out; have := HZ7.out; omega) hb79
    have HZ9 : Keep (w6.heap.size ≤ w9.heap.size) := ⟨Nat.le_trans HZ7.out hb79.size⟩
    have hol9 := owns_below hol7 hb79
    clear hx7 y7 x7 v7 hbx7 he37 he47 he57 hb79 hb8 hb9 hs8 x8 hc HZ7 hol7
    go_wp2_with fail
    refine (to_any ag cg gs w9 (hgs.below hbx9) hgn').mono ?_
    rintro e w9a ⟨rfl, hol9a, hb9a⟩
    go_wp2_with fail
    refine (eq_any _ _ _ _ gs w9a (ss_row (owns_below hol9 hb9a)) (ss_row hol9a) hgn').mono ?_
    rintro e w9c ⟨rfl, hb9c⟩
    have hb99 : Below w9.heap.size w9 w9c := hb9a.trans (hb9c.mono hb9a.size)
    replace hx9 := cell_later hb99 hx9
    replace y9 := cell_later hb99 y9
    replace x9 := cell_later hb99 x9
    replace v9 := cell_later hb99 v9
    replace hbx9 := hbx9.trans (hb99.mono hbx9.size)
    replace he39 := he39.below (by have := HS.out; have := HZ9.out; omega) hb99
    replace he49 := he49.below (by have := HS.out; have := HZ9.out; omega) hb99
    replace he59 := he59.below (by have := HS.out; have := HZ9.out; omega) hb99
    replace hol9 := owns_below hol9 hb99
    replace HZ9 : Keep (w6.heap.size ≤ w9c.heap.size) := ⟨Nat.le_trans HZ9.out hb99.size⟩
    clear hb99 hb9a hb9c hol9a
    go_wp2_with fail
    refine (markT_any _ _ ts _ _ w9c he49 (by have := HS.out; have := HZ9.out; omega) hn').mono ?_
    rintro e w10 ⟨rfl, he410, row, hg10, hr10⟩
    have hol10 := hol9.kept hg10 (.inr (fun e => by have := hr10 sl (e.symm.trans rfl); have := HS.out; omega))
    have hx10 := cell_grown hx9 (by have := hTw.out; have := HS.out; have := HZ9.out; omega) hg10 (fun r e => by have := hr10 r e; have := hTw.out; have := HS.out; omega)
    have y10 := cell_grown y9 (by have := HS.out; have := HZ9.out; omega) hg10 (fun r e => by have := hr10 r e; have := HS.out; omega)
    have v10 := cell_grown v9 (by have := HS.out; have := HZ9.out; omega) hg10 (fun r e => by have := hr10 r e; have := HS.out; omega)
    have he310 := he39.grown (by have := HS.out; have := HZ9.out; omega) hg10 (fun r e => by have := hr10 r e; have := HS.out; omega)
    have he510 := he59.grown (by have := HS.out; have := HZ9.out; omega) hg10 (fun r e => by have := hr10 r e; have := HS.out; omega)
    have hbx10 := below_marks hbx9 hbx9.size hg10 hr10 (by have := HS.out; omega)
    have HZ10 : Keep (w6.heap.size ≤ w10.heap.size) := ⟨Nat.le_trans HZ9.out hg10.size⟩
    clear hx9 y9 x9 v9 he39 he49 he59 hbx9 hg10 hr10 he410 HZ9 hol9
    go_wp2_with fail
    refine (markS_any _ gs (1 + 3 * ts.length) sl w10 hol10 (by omega) (by omega)).mono ?_
    rintro e w10b ⟨rfl, _, hg10b⟩
    replace hx10 := cell_grown hx10 (by have := hTw.out; have := HS.out; have := HZ10.out; omega) hg10b (fun r e => by have e' : sl = r := Option.some.inj e; have := hTw.out; have := HS.out; omega)
    replace y10 := cell_grown y10 (by have := HS.out; have := HZ10.out; omega) hg10b (fun r e => by have e' : sl = r := Option.some.inj e; have := HS.out; omega)
    replace v10 := cell_grown v10 (by have := HS.out; have := HZ10.out; omega) hg10b (fun r e => by have e' : sl = r := Option.some.inj e; have := HS.out; omega)
    replace he310 := he310.grown (by have := HS.out; have := HZ10.out; omega) hg10b (fun r e => by have e' : sl = r := Option.some.inj e; have := HS.out; omega)
    replace he510 := he510.grown (by have := HS.out; have := HZ10.out; omega) hg10b (fun r e => by have e' : sl = r := Option.some.inj e; have := HS.out; omega)
    replace hbx10 := hbx10.grown hg10b hbx10.size (fun r e => by have e' : sl = r := Option.some.inj e; have := HS.out; omega)
    replace HZ10 : Keep (w6.heap.size ≤ w10b.heap.size) := ⟨Nat.le_trans HZ10.out hg10b.size⟩
    have hneg : ¬ ((1 + 3 * ts.length + gs.length : Nat) : Int) < 0 := by omega
    clear hg10b hol10
    go_wp2_with fail
    refine (eqTree_any _ _ _ _ us w10b he510.es he310.es hul).mono ?_
    rintro e w11 ⟨rfl, hb11⟩
    have hx11 := cell_later hb11 hx10
    have y11 := cell_later hb11 y10
    have v11 := cell_later hb11 v10
    have hbx11 := hbx10.trans (hb11.mono hbx10.size)
    have he311 := he310.below (by have := HS.out; have := HZ10.out; omega) hb11
    have he511 := he510.below (by have := HS.out; have := HZ10.out; omega) hb11
    have HZ11 : Keep (w6.heap.size ≤ w11.heap.size) := ⟨Nat.le_trans HZ10.out hb11.size⟩
    clear hx10 y10 v10 hbx10 he310 he510 hb11 HZ10
    go_wp2_with fail
    refine (markT_any _ _ us _ _ w11 he511 (by have := HS.out; have := HZ11.out; omega) hul).mono ?_
    rintro e w12 ⟨rfl, he512, row2, hg12, hr12⟩
    have hx12 := cell_grown hx11 (by have := hTw.out; have := HS.out; have := HZ11.out; omega) hg12 (fun r e => by have := hr12 r e; have := hTw.out; have := HS.out; omega)
    have y12 := cell_grown y11 (by have := HS.out; have := HZ11.out; omega) hg12 (fun r e => by have := hr12 r e; have := HS.out; omega)
    have v12 := cell_grown v11 (by have := HS.out; have := HZ11.out; omega) hg12 (fun r e => by have := hr12 r e; have := HS.out; omega)
    have he312 := he311.grown (by have := HS.out; have := HZ11.out; omega) hg12 (fun r e => by have := hr12 r e; have := HS.out; omega)
    have hbx12 := below_marks hbx11 hbx11.size hg12 hr12 (by have := HS.out; omega)
    have HZ12 : Keep (w6.heap.size ≤ w12.heap.size) := ⟨Nat.le_trans HZ11.out hg12.size⟩
    clear hx11 y11 v11 hbx11 he311 he511 hg12 hr12 HZ11
    go_wp2_with fail
    refine (heldTree_any _ _ us.length w12 he512.es hul).mono ?_
    rintro e w13 ⟨rfl, hb13⟩
    have hx13 := cell_later hb13 hx12
    have y13 := cell_later hb13 y12
    have v13 := cell_later hb13 v12
    have hbx13 := hbx12.trans (hb13.mono hbx12.size)
    have he313 := he312.below (by have := HS.out; have := HZ12.out; omega) hb13
    have he513 := he512.below (by have := HS.out; have := HZ12.out; omega) hb13
    have HZ13 : Keep (w6.heap.size ≤ w13.heap.size) := ⟨Nat.le_trans HZ12.out hb13.size⟩
    have hneg2 : ¬ ((1 + 3 * us.length : Nat) : Int) < 0 := by omega
    clear hx12 y12 v12 hbx12 he312 he512 hb13 HZ12
    go_wp2_with fail
    refine (toTree_any a cap ts w13 (hss.below hbx13) hn').mono ?_
    rintro e w14 ⟨g14, rfl, hs14, hb14, _⟩
    have y14 := cell_later hb14 y13
    have v14 := cell_later hb14 v13
    have hbx14 := hbx13.trans (hb14.mono hbx13.size)
    have he314 := he313.below (by have := HS.out; have := HZ13.out; omega) hb14
    have he514 := he513.below (by have := HS.out; have := HZ13.out; omega) hb14
    have HZ14 : Keep (w6.heap.size ≤ w14.heap.size) := ⟨Nat.le_trans HZ13.out hb14.size⟩
    clear hx13 y13 v13 hbx13 he313 he513 hb14 HZ13
    go_wp2_with fail
    refine (to_any ag cg gs w14 (hgs.below hbx14) hgn').mono ?_
    rintro e w14b ⟨rfl, hol14, hb14b⟩
    go_wp2_with fail
    refine (implPck_any _ _ ts _ _ gs w14b (hs14.below hb14b) (ss_row hol14) hn' hz hgz).mono ?_
    rintro e w15 ⟨us', hrem', ⟨ad15, cap15, rfl, hel15⟩, hb15x⟩
    have hb15 : Below w14.heap.size w14 w15 := hb14b.trans (hb15x.mono hb14b.size)
    clear hb14b hb15x hol14
    obtain rfl := pck_one HR.out hrem'
    have y15 := cell_later hb15 y14
    have v15 := cell_later hb15 v14
    have hbx15 := hbx14.trans (hb15.mono hbx14.size)
    have he315 := he314.below (by have := HS.out; have := HZ14.out; omega) hb15
    have he515 := he514.below (by have := HS.out; have := HZ14.out; omega) hb15
    have HZ15 : Keep (w6.heap.size ≤ w15.heap.size) := ⟨Nat.le_trans HZ14.out hb15.size⟩
    have hes15 := hel15.es
    clear y14 v14 hbx14 he314 he514 hb15 HZ14 hrem' hel15 hs14
    have ha15 : Below w15.heap.size w15 (w15.alloc (.cells #[.slice ad15 us.length cap15] 31)) := (Below.refl _ _).alloc (Nat.le_refl _) _
    have y16 := cell_later ha15 y15
    have v16 := cell_later ha15 v15
    have hbx16 := hbx15.trans (ha15.mono hbx15.size)
    have he316 := he315.below (by have := HS.out; have := HZ15.out; omega) ha15
    have he516 := he515.below (by have := HS.out; have := HZ15.out; omega) ha15
    have hes16 := hes15.below ha15
    clear y15 v15 hbx15 he315 he515 hes15
    go_wp2_with fail
    refine (eqTree_any _ _ _ _ us _ hes16 he316.es hul).mono ?_
    rintro e w17 ⟨rfl, hb17⟩
    have v17 := cell_later hb17 v16
    have hbx17 := hbx16.trans (hb17.mono hbx16.size)
    have hes17 := he516.es.below hb17
    clear y16 v16 hbx16 he316 he516 hes16 hb17 ha15
    go_wp2_with fail
    refine (heldTree_any _ _ us.length w17 hes17 hul).mono ?_
    rintro e w18 ⟨rfl, hb18⟩
    have hbx18 := hbx17.trans (hb18.mono hbx17.size)
    clear hb18 hbx17 v17 hes17
    go_wp2
    go_ret
    exact ⟨rfl, hbx18⟩

theorem open_ss {H : Type} {enc : TypeId × Value → H} {W : World} {a : Option Addr} {len cap : Nat} {d : DataW H} {p : List MemPlace} (h : DataW.Trod enc Try.prog W 0 (fun _ => true) true 44 (.slice a len cap) d p) :
    ∃ ss : List ByteArray, len = ss.length ∧ SS W a ss ∧ ss.length ≤ maxLen ∧ ∀ s ∈ ss, s.size ≤ maxLen := by
  obtain ⟨fuel, hf⟩ := h
  rcases open_strings Try.underlying44 Try.underlying9 (by kernel_rfl) hf with ⟨hcs, _⟩ | ⟨x, l, c, ss, hcs, _, hl, hm, hz, _, hcell, hws⟩
  · simp [Value.cells] at hcs
    obtain ⟨rfl, rfl, rfl⟩ := hcs
    exact ⟨[], rfl, .inl rfl, Nat.zero_le _, fun s hs => by simp at hs⟩
  · simp [Value.cells] at hcs
    obtain ⟨rfl, rfl, rfl⟩ := hcs
    have hz' : ss.length = cap := by simpa using hz
    refine ⟨ss.take len, by simp; omega, ?_, by simp; omega, fun s hs => hws s (List.mem_of_mem_take hs)⟩
    by_cases h0 : len = 0
    · left; simp [h0]
    · right
      obtain ⟨b, off, spot⟩ := x
      have hspot : spot = none := by simpa [Addr.add] using World.cell?_spot (hcell 0 (by omega))
      subst hspot
      refine ⟨b, off, rfl, fun i hi => ?_⟩
      have hi' : i < ss.length := by simp at hi; omega
      rw [← Go.WideShapes.add_plain, hcell i hi']
      simp [List.getD, hi']

set_option maxRecDepth 100000 in
theorem lifted (os : Os) (started : os.Started) (H : Type) (enc : TypeId × Value → H) :
    ReturnsInHanded {} Try.checked os 6 .any (Rows.fnExactPickSpec.pre6 enc Try.prog Try.f6 Rows.fnExactPickRow.domain false) (Rows.fnExactPickSpec.post enc Try.prog Try.f6 false true false false) := by
  refine returnsInHanded_of_change (C := Try.checked) own started (by kernel_rfl) Try.func6
    (ChangeSpec.witness6 (enc := enc) (C := Try.checked) false ⟨#[], #[.agg #[.slice none 0 0], .slice none 0 0], []⟩ 8 (by kernel_rfl) (by kernel_rfl) (by kernel_rfl) (by kernel_rfl)) ?_
  intro W base args ds gs before hval0 hW hcnd _
  have hval : ∀ (j : Nat) t v, Try.f6.params[j]? = some t → args[j]? = some v → Value.okWide Try.prog W .any base t v := hval0
  have hW' := hW
  obtain ⟨p, q, hA0, hV, rfl, hfz, hnd⟩ := hW
  have hA : DataW.TrodAll enc Try.prog W 0 (fun _ => true) true Try.f6.params.toList args.toList ds p := hA0
  rw [Try.params6] at hA hval
  obtain ⟨v0, vs0, d0, ds0, p0, q0, hargs, rfl, rfl, h0, r0⟩ := trodAll_cons hA
  obtain ⟨v1, vs1, d1, ds1, p1, q1, rfl, rfl, rfl, h1, r1⟩ := trodAll_cons r0
  obtain ⟨rfl, rfl, rfl⟩ := trodAll_nil r1
  obtain rfl : args = #[v0, v1] := by cases args; simp_all
  obtain ⟨rfl, rfl⟩ := trodVars_none hV
  have k0 := h0
  have lt0 : ∀ x ∈ p0, x.block < W.heap.size := by obtain ⟨m, hm⟩ := k0; exact DataW.trod_lt m _ _ _ hm
  have k1 := h1
  have lt1 : ∀ x ∈ p1, x.block < W.heap.size := by obtain ⟨m, hm⟩ := k1; exact DataW.trod_lt m _ _ _ hm
  obtain ⟨ag, lg, cg, rfl⟩ := okWide_slice Try.underlying44 (hval 1 44 v1 rfl rfl)
  obtain ⟨gl, rfl, hgs, hgn, hgm⟩ := open_ss h1
  obtain ⟨a0, cap0, ts, rfl, hss, hn, hm⟩ := open_tree (hval 0 24 v0 rfl rfl) h0
  clear hA0 hval0
  refine (walk a0 cap0 ts ag cg gl W hss hn hm hgs hgn hgm).mono fun e W' ⟨he, bel⟩ => ?_
  subst he
  exact ⟨_, rfl, _, _, _, [], _, [], hW', trodAll_mk1 (shut_bool Try.underlying4 _), (trodAll_cons_mk (Below.trod laidOut (by kernel_rfl) (of_decide_eq_true (by kernel_rfl)) k0 bel lt0) (trodAll_cons_mk (Below.trod laidOut (by kernel_rfl) (of_decide_eq_true (by kernel_rfl)) k1 bel lt1) trodAll_mk0)), rfl, bel.frame _, fun h => by cases h⟩

theorem over : Rows.fnExactPickRow.holds Try.pinned (OpenSpec.ofChange Rows.fnExactPickSpec) :=
  OpenClaim.holds_of_wide 6 Try.f6 rfl rfl rfl rfl rfl rfl rfl ⟨rfl, rfl, rfl, rfl, rfl⟩ rfl rfl rfl rfl rfl (by kernel_rfl) Try.func6 (by kernel_rfl)
    (of_decide_eq_true (by kernel_rfl)) (by unfold Func.isWrapper; first | (rw [if_pos (by decide +kernel)]; kernel_rfl) | (rw [if_neg (by decide +kernel)]; exact ⟨rfl, rfl⟩))
    (fun os started H enc _ => lifted os started H enc)

theorem proved : Rows.FnExactPickSaid := over
end Go.Proofs.Ytmeodgcnnjkilaa.fnExactPick
