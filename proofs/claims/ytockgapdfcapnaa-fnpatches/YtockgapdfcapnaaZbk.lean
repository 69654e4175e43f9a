/-
  LawPj, ExactPj: laid as one text.
-/
import Derived.Test.YtockgapdfcapnaaZbh
import Derived.Test.YtockgapdfcapnaaDrawMg
import Derived.ProofKit
import Derived.OpenShut
import Derived.ShutString
import Derived.ChangeOld
import Derived.Below
import Derived.SliceStrings
import Derived.ChangeSlices
namespace Go.Proofs.Ytockgapdfcapnaa
open Go.RowKit

set_option maxRecDepth 100000 in
set_option maxHeartbeats 16000000 in
theorem patches_walk (a : Option Addr) (cap : Nat) (zs : List Int) (w : World) (hc : Code0 w a cap zs) :
    Calls Try.prog 4 #[.slice a zs.length cap] w fun e w' => e = .returned (.bool true) ∧ Below w.heap.size w w' := by
  by_cases hbig : (1048576 : Int) < zs.length
  · go_enter Try.func4, Try.ntmps4
    go_wp2
    go_ret
    exact ⟨rfl, Below.refl _ _⟩
  go_enter Try.func4, Try.ntmps4
  go_wp2_with fail
  refine (drawMerge_any a cap zs w hc).mono ?_
  rintro e w1 ⟨⟨ad3, cp3, ts3⟩, ⟨ad4, cp4, ts4⟩, ⟨ad5, cp5, ts5⟩, rfl, he3, he4, he5, q3, q4, q5, m3, m4, m5, hb1⟩
  dsimp only at he3 he4 he5 m3 m4 m5 ⊢
  have ba1 : Below w1.heap.size w1 (((w1.alloc (.cells #[.slice ad3 ts3.length cp3] 32)).alloc (.cells #[.slice ad4 ts4.length cp4] 32)).alloc (.cells #[.slice ad5 ts5.length cp5] 32)) := ((below_oneD _ _).trans ((below_oneD _ _).mono (by simp))).trans ((below_oneD _ _).mono (by simp; omega))
  have X3 : TBx w1.heap.size ad3 cp3 ts3 (((w1.alloc (.cells #[.slice ad3 ts3.length cp3] 32)).alloc (.cells #[.slice ad4 ts4.length cp4] 32)).alloc (.cells #[.slice ad5 ts5.length cp5] 32)) := ⟨by simp [go_sem], he3.below ba1⟩
  have X4 : TBx (w1.heap.size + 1) ad4 cp4 ts4 (((w1.alloc (.cells #[.slice ad3 ts3.length cp3] 32)).alloc (.cells #[.slice ad4 ts4.length cp4] 32)).alloc (.cells #[.slice ad5 ts5.length cp5] 32)) := ⟨by simp [go_sem], he4.below ba1⟩
  have X5 : TBx (w1.heap.size + 1 + 1) ad5 cp5 ts5 (((w1.alloc (.cells #[.slice ad3 ts3.length cp3] 32)).alloc (.cells #[.slice ad4 ts4.length cp4] 32)).alloc (.cells #[.slice ad5 ts5.length cp5] 32)) := ⟨by simp [go_sem], he5.below ba1⟩
  have hbw : Below w.heap.size w (((w1.alloc (.cells #[.slice ad3 ts3.length cp3] 32)).alloc (.cells #[.slice ad4 ts4.length cp4] 32)).alloc (.cells #[.slice ad5 ts5.length cp5] 32)) := kqP hb1 ba1
  have hl3 : ts3.length ≤ 300 := q3.1
  have hl4 : ts4.length ≤ 300 := q4.1
  have hl5 : ts5.length ≤ 300 := q5.1
  have HZ : Keep ((∀ e ∈ ts3, e.path.size ≤ 1048576) ∧ (∀ e ∈ ts4, e.path.size ≤ 1048576) ∧ (∀ e ∈ ts5, e.path.size ≤ 1048576)) := ⟨⟨fun e he => by have := (q3.2 e he).1; omega, fun e he => by have := (q4.2 e he).1; omega, fun e he => by have := (q5.2 e he).1; omega⟩⟩
  clear he3 he4 he5 hb1 ba1 q3 q4 q5
  go_upto_region 4 with fail
  generalize ((w1.alloc (.cells #[.slice ad3 ts3.length cp3] 32)).alloc (.cells #[.slice ad4 ts4.length cp4] 32)).alloc (.cells #[.slice ad5 ts5.length cp5] 32) = w2 at *
  generalize w1.heap.size + 1 + 1 = b5 at *
  generalize w1.heap.size + 1 = b4 at *
  generalize w1.heap.size = b3 at *
  have x3 := X3.c
  have x4 := X4.c
  have hm := implDiffC_any ad3 ad4 cp3 cp4 ts3 ts4 w2 X3.es X4.es (by omega) (by omega) m3 m4 HZ.out.1 HZ.out.2.1
  go_wp2_with fail
  refine hm.mono ?_
  rintro e w3 ⟨ps, hDp, ⟨adp, cpp, rfl, hclp, hrp⟩, hb3⟩
  have ba3 := below_oneD w3 (.cells #[.slice adp ps.length cpp] 37)
  have P6 : PBx w3.heap.size adp cpp ps (w3.alloc (.cells #[.slice adp ps.length cpp] 37)) := PBx.new hclp.cs
  replace X3 := (X3.later hb3).later ba3
  replace X4 := (X4.later hb3).later ba3
  replace X5 := (X5.later hb3).later ba3
  replace hbw := kqP (kqP hbw hb3) ba3
  clear hm x3 x4 hclp hb3 ba3
  go_upto_region 5 with fail
  generalize w3.alloc (.cells #[.slice adp ps.length cpp] 37) = w4 at *
  generalize w3.heap.size = b6 at *
  have x4 := X4.c
  have x5 := X5.c
  have hm := implDiffC_any ad4 ad5 cp4 cp5 ts4 ts5 w4 X4.es X5.es (by omega) (by omega) m4 m5 HZ.out.2.1 HZ.out.2.2
  go_wp2_with fail
  refine hm.mono ?_
  rintro e w5 ⟨qs, hDq, ⟨adq, cpq, rfl, hclq, hrq⟩, hb5⟩
  have ba5 := below_oneD w5 (.cells #[.slice adq qs.length cpq] 37)
  have P7 : PBx w5.heap.size adq cpq qs (w5.alloc (.cells #[.slice adq qs.length cpq] 37)) := PBx.new hclq.cs
  replace X3 := (X3.later hb5).later ba5
  replace X4 := (X4.later hb5).later ba5
  replace X5 := (X5.later hb5).later ba5
  replace P6 := (P6.later hb5).later ba5
  replace hbw := kqP (kqP hbw hb5) ba5
  have hfp := (diff_few hDp).1
  have hfq := (diff_few hDq).1
  have HPZ : Keep ((∀ c ∈ ps, c.path.size ≤ 1048576) ∧ (∀ c ∈ qs, c.path.size ≤ 1048576)) := ⟨⟨(diff_few hDp).2 HZ.out.1 HZ.out.2.1, (diff_few hDq).2 HZ.out.2.1 HZ.out.2.2⟩⟩
  have HD : Keep (DiffRel ts3 ts4 ps ∧ DiffRel ts4 ts5 qs) := ⟨⟨hDp, hDq⟩⟩
  clear hm x4 x5 hclq hb5 ba5 hDp hDq
  go_upto_region 6 with fail
  generalize w5.alloc (.cells #[.slice adq qs.length cpq] 37) = w6 at *
  generalize w5.heap.size = b7 at *
  have HX : Keep (TBx b3 ad3 cp3 ts3 w6 ∧ TBx b4 ad4 cp4 ts4 w6 ∧ TBx b5 ad5 cp5 ts5 w6 ∧ PBx b6 adp cpp ps w6 ∧ PBx b7 adq cpq qs w6) := ⟨⟨X3, X4, X5, P6, P7⟩⟩
  clear X3 X4 X5 P6 P7
  go_cut [46] (fun v wx => v = .bool false ∧ Below w6.heap.size w6 wx)
  case first =>
    refine (wpIn_wide (n := 0)).1 ?_
    refine wpIn_region_inv0 (by kernel_rfl) (by kernel_rfl) (fun T0 => EV0 T0 dDs (dTab (.agg #[.slice adp ps.length cpp]) (.agg #[.slice adq qs.length cpq]) (.agg #[.slice ad3 ts3.length cp3]) (.agg #[.slice ad4 ts4.length cp4]) (.agg #[.slice ad5 ts5.length cp5])) (dEx ps qs) w6) ?_ ?_ ?_
    · exact ⟨Sl2.start _, (Below.refl _ _).drew, fun i _ hL => by rw [getD_repl] at hL; cases hL⟩
    · intro L a2 w9 hinv hall
      have e46 : a2.tmps.getD 46 undef = .bool false := hinv.sl.sl 13 (by decide) _ rfl (hall 13 (by decide))
      have HXX : Keep _ := ⟨hinv.sl.act⟩
      have HB9 : Keep _ := ⟨hinv.wd⟩
      clear hinv hall
      rw [HXX.out]
      simp only [updL, dDs, List.contains_cons, List.contains_nil, Nat.reduceAdd, Nat.reduceBEq, Bool.or_false, cond_false, cond_true, Bool.or_true, e46]
      go_wp2_with fail
      go_meet
      case rel => exact ⟨rfl, HB9.out⟩
    · intro L a2 w9 i o hinv hcl hL ho hdep
      have hin : i < 14 := (Array.getElem?_eq_some_iff.1 ho).1
      unfold wpOpIn
      rw [ho]
      clear hcl
      match i, hin, hL, ho, hdep with
      | 0, _, hL, ho, hdep =>
        injection ho with ho; subst ho
        dsimp only
        rw [if_pos (by rfl)]
        refine ⟨fun f _ => trivial, ?_⟩
        have e6 : a2.tmps[6]?.getD undef = .pointer (some ⟨b6, 0, none⟩) := hinv.sl.old (by decide)
        have z0 := (HX.out.2.2.2.1.later hinv.wd).c
        go_simp
        exact hinv.step dNd (dSt ps qs) (i := 0) (by decide) (by show 33 < 163; decide) (fun u hu => by cases hu; rfl) trivial (Below.refl _ _)
      | 1, _, hL, ho, hdep =>
        injection ho with ho; subst ho
        dsimp only
        rw [if_pos (by rfl)]
        refine ⟨fun f _ => trivial, ?_⟩
        have e3 : a2.tmps[3]?.getD undef = .pointer (some ⟨b3, 0, none⟩) := hinv.sl.old (by decide)
        have z0 := (HX.out.1.later hinv.wd).c
        go_simp
        exact hinv.step dNd (dSt ps qs) (i := 1) (by decide) (by show 34 < 163; decide) (fun u hu => by cases hu; rfl) trivial (Below.refl _ _)
      | 2, _, hL, ho, hdep =>
        injection ho with ho; subst ho
        dsimp only
        rw [if_pos (by rfl)]
        refine ⟨fun f _ => trivial, ?_⟩
        have e4 : a2.tmps[4]?.getD undef = .pointer (some ⟨b4, 0, none⟩) := hinv.sl.old (by decide)
        have z0 := (HX.out.2.1.later hinv.wd).c
        go_simp
        exact hinv.step dNd (dSt ps qs) (i := 2) (by decide) (by show 35 < 163; decide) (fun u hu => by cases hu; rfl) trivial (Below.refl _ _)
      | 3, _, hL, ho, hdep =>
        injection ho with ho; subst ho
        dsimp only
        rw [if_pos (by rfl)]
        refine ⟨fun f _ => trivial, ?_⟩
        have e34 : a2.tmps[34]?.getD undef = .agg #[.slice ad3 ts3.length cp3] := hinv.sl.new (i := 1) (by decide) rfl (hdep ⟨1, .data⟩ (by simp) rfl)
        have e35 : a2.tmps[35]?.getD undef = .agg #[.slice ad4 ts4.length cp4] := hinv.sl.new (i := 2) (by decide) rfl (hdep ⟨2, .data⟩ (by simp) rfl)
        go_simp
        refine ⟨rfl, CallsIn.mono (callsIn_wide.2 (specDiff_any ad3 ad4 cp3 cp4 ts3 ts4 w9 (HX.out.1.later hinv.wd).es (HX.out.2.1.later hinv.wd).es (by omega) (by omega))) ?_⟩
        rintro e' w' ⟨cs', hD', ⟨ad', cap', rfl, hcl'⟩, hb'⟩
        obtain rfl := diff_one HD.out.1 hD'
        exact hinv.step dNd (dSt ps qs) (i := 3) (by decide) (by show 36 < 163; decide) (fun u hu => by cases hu) ⟨ad', cap', rfl, hcl'.cs⟩ hb'
      | 4, _, hL, ho, hdep =>
        injection ho with ho; subst ho
        dsimp only
        rw [if_pos (by rfl)]
        refine ⟨fun f _ => trivial, ?_⟩
        have e33 : a2.tmps[33]?.getD undef = .agg #[.slice adp ps.length cpp] := hinv.sl.new (i := 0) (by decide) rfl (hdep ⟨0, .data⟩ (by simp) rfl)
        obtain ⟨ad', cap', h31, h32⟩ := hinv.ex 3 (by decide) (hdep ⟨3, .data⟩ (by simp) rfl)
        have e36 : a2.tmps[36]?.getD undef = .agg #[.slice ad' ps.length cap'] := evalD2 h31
        go_simp
        refine ⟨rfl, CallsIn.mono (callsIn_wide.2 (wPatch_any adp ad' cpp cap' ps w9 (HX.out.2.2.2.1.later hinv.wd).cs h32 (by omega))) ?_⟩
        rintro e' w' ⟨rfl, hb'⟩
        exact hinv.step dNd (dSt ps qs) (i := 4) (by decide) (by show 37 < 163; decide) (fun u hu => by cases hu; rfl) trivial hb'
      | 5, _, hL, ho, hdep =>
        injection ho with ho; subst ho
        dsimp only
        rw [if_pos (by rfl)]
        refine ⟨fun f _ => trivial, ?_⟩
        have e37 : a2.tmps[37]?.getD undef = .bool true := hinv.sl.new (i := 4) (by decide) rfl (hdep ⟨4, .data⟩ (by simp) rfl)
        go_simp
        exact hinv.step dNd (dSt ps qs) (i := 5) (by decide) (by show 38 < 163; decide) (fun u hu => by cases hu; rfl) trivial (Below.refl _ _)
      | 6, _, hL, ho, hdep =>
        injection ho with ho; subst ho
        dsimp only
        rw [if_pos (by rfl)]
        refine ⟨fun f _ => trivial, ?_⟩
        have e38 : a2.tmps[38]?.getD undef = .bool false := hinv.sl.new (i := 5) (by decide) rfl (hdep ⟨5, .data⟩ (by simp) rfl)
        go_simp
        exact hinv.step dNd (dSt ps qs) (i := 6) (by decide) (by show 39 < 163; decide) (fun u hu => by cases hu; rfl) trivial (Below.refl _ _)
      | 7, _, hL, ho, hdep =>
        injection ho with ho; subst ho
        dsimp only
        have t39 := tmp_some (a := a2) (k := 39) (hinv.sl.new (i := 6) (by decide) rfl (hdep ⟨6, .guard⟩ (by simp) rfl))
        rw [if_pos (by simp [Region.wanted, yielded, t39])]
        refine ⟨fun f _ => trivial, ?_⟩
        have e7 : a2.tmps[7]?.getD undef = .pointer (some ⟨b7, 0, none⟩) := hinv.sl.old (by decide)
        have z0 := (HX.out.2.2.2.2.later hinv.wd).c
        go_simp
        exact hinv.step dNd (dSt ps qs) (i := 7) (by decide) (by show 40 < 163; decide) (fun u hu => by cases hu; rfl) trivial (Below.refl _ _)
      | 8, _, hL, ho, hdep =>
        injection ho with ho; subst ho
        dsimp only
        have t39 := tmp_some (a := a2) (k := 39) (hinv.sl.new (i := 6) (by decide) rfl (hdep ⟨6, .guard⟩ (by simp) rfl))
        rw [if_pos (by simp [Region.wanted, yielded, t39])]
        refine ⟨fun f _ => trivial, ?_⟩
        have e4 : a2.tmps[4]?.getD undef = .pointer (some ⟨b4, 0, none⟩) := hinv.sl.old (by decide)
        have z0 := (HX.out.2.1.later hinv.wd).c
        go_simp
        exact hinv.step dNd (dSt ps qs) (i := 8) (by decide) (by show 41 < 163; decide) (fun u hu => by cases hu; rfl) trivial (Below.refl _ _)
      | 9, _, hL, ho, hdep =>
        injection ho with ho; subst ho
        dsimp only
        have t39 := tmp_some (a := a2) (k := 39) (hinv.sl.new (i := 6) (by decide) rfl (hdep ⟨6, .guard⟩ (by simp) rfl))
        rw [if_pos (by simp [Region.wanted, yielded, t39])]
        refine ⟨fun f _ => trivial, ?_⟩
        have e5 : a2.tmps[5]?.getD undef = .pointer (some ⟨b5, 0, none⟩) := hinv.sl.old (by decide)
        have z0 := (HX.out.2.2.1.later hinv.wd).c
        go_simp
        exact hinv.step dNd (dSt ps qs) (i := 9) (by decide) (by show 42 < 163; decide) (fun u hu => by cases hu; rfl) trivial (Below.refl _ _)
      | 10, _, hL, ho, hdep =>
        injection ho with ho; subst ho
        dsimp only
        have t39 := tmp_some (a := a2) (k := 39) (hinv.sl.new (i := 6) (by decide) rfl (hdep ⟨6, .guard⟩ (by simp) rfl))
        rw [if_pos (by simp [Region.wanted, yielded, t39])]
        refine ⟨fun f _ => trivial, ?_⟩
        have e41 : a2.tmps[41]?.getD undef = .agg #[.slice ad4 ts4.length cp4] := hinv.sl.new (i := 8) (by decide) rfl (hdep ⟨8, .data⟩ (by simp) rfl)
        have e42 : a2.tmps[42]?.getD undef = .agg #[.slice ad5 ts5.length cp5] := hinv.sl.new (i := 9) (by decide) rfl (hdep ⟨9, .data⟩ (by simp) rfl)
        go_simp
        refine ⟨rfl, CallsIn.mono (callsIn_wide.2 (specDiff_any ad4 ad5 cp4 cp5 ts4 ts5 w9 (HX.out.2.1.later hinv.wd).es (HX.out.2.2.1.later hinv.wd).es (by omega) (by omega))) ?_⟩
        rintro e' w' ⟨cs', hD', ⟨ad', cap', rfl, hcl'⟩, hb'⟩
        obtain rfl := diff_one HD.out.2 hD'
        exact hinv.step dNd (dSt ps qs) (i := 10) (by decide) (by show 43 < 163; decide) (fun u hu => by cases hu) ⟨ad', cap', rfl, hcl'.cs⟩ hb'
      | 11, _, hL, ho, hdep =>
        injection ho with ho; subst ho
        dsimp only
        have t39 := tmp_some (a := a2) (k := 39) (hinv.sl.new (i := 6) (by decide) rfl (hdep ⟨6, .guard⟩ (by simp) rfl))
        rw [if_pos (by simp [Region.wanted, yielded, t39])]
        refine ⟨fun f _ => trivial, ?_⟩
        have e40 : a2.tmps[40]?.getD undef = .agg #[.slice adq qs.length cpq] := hinv.sl.new (i := 7) (by decide) rfl (hdep ⟨7, .data⟩ (by simp) rfl)
        obtain ⟨ad', cap', h31, h32⟩ := hinv.ex 10 (by decide) (hdep ⟨10, .data⟩ (by simp) rfl)
        have e43 : a2.tmps[43]?.getD undef = .agg #[.slice ad' qs.length cap'] := evalD2 h31
        go_simp
        refine ⟨rfl, CallsIn.mono (callsIn_wide.2 (wPatch_any adq ad' cpq cap' qs w9 (HX.out.2.2.2.2.later hinv.wd).cs h32 (by omega))) ?_⟩
        rintro e' w' ⟨rfl, hb'⟩
        exact hinv.step dNd (dSt ps qs) (i := 11) (by decide) (by show 44 < 163; decide) (fun u hu => by cases hu; rfl) trivial hb'
      | 12, _, hL, ho, hdep =>
        injection ho with ho; subst ho
        dsimp only
        have t39 := tmp_some (a := a2) (k := 39) (hinv.sl.new (i := 6) (by decide) rfl (hdep ⟨6, .guard⟩ (by simp) rfl))
        rw [if_pos (by simp [Region.wanted, yielded, t39])]
        refine ⟨fun f _ => trivial, ?_⟩
        have e44 : a2.tmps[44]?.getD undef = .bool true := hinv.sl.new (i := 11) (by decide) rfl (hdep ⟨11, .data⟩ (by simp) rfl)
        go_simp
        exact hinv.step dNd (dSt ps qs) (i := 12) (by decide) (by show 45 < 163; decide) (fun u hu => by cases hu; rfl) trivial (Below.refl _ _)
      | 13, _, hL, ho, hdep =>
        injection ho with ho; subst ho
        dsimp only
        rw [if_pos (by rfl)]
        refine ⟨fun f _ => trivial, ?_⟩
        have e39 : a2.tmps[39]?.getD undef = .bool false := hinv.sl.new (i := 6) (by decide) rfl (hdep ⟨6, .data⟩ (by simp) rfl)
        have e45 : a2.tmps[45]?.getD undef = .bool false := hinv.sl.new (i := 12) (by decide) rfl (hdep ⟨12, .data⟩ (by simp) rfl)
        go_simp
        exact hinv.step dNd (dSt ps qs) (i := 13) (by decide) (by show 46 < 163; decide) (fun u hu => by cases hu; rfl) trivial (Below.refl _ _)
  case rest =>
    obtain ⟨rfl, hb9⟩ := hcut
    obtain ⟨w7, hw7⟩ : ∃ x, x = wc := ⟨_, rfl⟩
    subst hw7
    have X3 := HX.out.1.later hb9
    have X4 := HX.out.2.1.later hb9
    have X5 := HX.out.2.2.1.later hb9
    have P6 := HX.out.2.2.2.1.later hb9
    have P7 := HX.out.2.2.2.2.later hb9
    replace hbw := kqP hbw hb9
    clear HX hb9
    have HX : Keep (TBx b3 ad3 cp3 ts3 w7 ∧ TBx b4 ad4 cp4 ts4 w7 ∧ TBx b5 ad5 cp5 ts5 w7 ∧ PBx b6 adp cpp ps w7 ∧ PBx b7 adq cpq qs w7) := ⟨⟨X3, X4, X5, P6, P7⟩⟩
    have HBW : Keep (Below w.heap.size w w7) := ⟨hbw⟩
    clear X3 X4 X5 P6 P7 hbw
    go_upto_region 8 with fail
    go_cut [59] (fun v wx => ∃ nb : Bool, v = .bool nb ∧ Keep (nb = false ↔ ValidTs ts3 ∧ ValidTs ts4 ∧ ValidTs ts5) ∧ Below w7.heap.size w7 wx)
    case first =>
      have x3 := HX.out.1.c
      have hv := specTree_any ad3 cp3 ts3 w7 HX.out.1.es (by omega)
      go_wp2_with fail
      refine hv.mono ?_
      rintro e w8 ⟨v3, rfl, hv3, hb8⟩
      have HV3 : Keep (v3 = true ↔ ValidTs ts3) := ⟨hv3⟩
      clear hv x3 hv3
      cases v3 with
      | false =>
        go_wp2_with fail
        go_meet
        case rel => exact ⟨true, rfl, ⟨⟨(fun h => by cases h), (fun h => by have := HV3.out.2 h.1; cases this)⟩⟩, hb8⟩
      | true =>
        have x4 := (HX.out.2.1.later hb8).c
        have hv := specTree_any ad4 cp4 ts4 w8 (HX.out.2.1.later hb8).es (by omega)
        go_wp2_with fail
        refine hv.mono ?_
        rintro e w9 ⟨v4, rfl, hv4, hb9⟩
        have hb79 := kqP hb8 hb9
        have HV4 : Keep (v4 = true ↔ ValidTs ts4) := ⟨hv4⟩
        clear hv x4 hv4
        cases v4 with
        | false =>
          go_wp2_with fail
          go_meet
          case rel => exact ⟨true, rfl, ⟨⟨(fun h => by cases h), (fun h => by have := HV4.out.2 h.2.1; cases this)⟩⟩, hb79⟩
        | true =>
          have x5 := (HX.out.2.2.1.later hb79).c
          have hv := specTree_any ad5 cp5 ts5 w9 (HX.out.2.2.1.later hb79).es (by omega)
          go_wp2_with fail
          refine hv.mono ?_
          rintro e w10 ⟨v5, rfl, hv5, hb10⟩
          have hb710 := kqP hb79 hb10
          have HV5 : Keep (v5 = true ↔ ValidTs ts5) := ⟨hv5⟩
          clear hv x5 hv5
          cases v5 with
          | false =>
            go_wp2_with fail
            go_meet
            case rel => exact ⟨true, rfl, ⟨⟨(fun h => by cases h), (fun h => by have := HV5.out.2 h.2.2; cases this)⟩⟩, hb710⟩
          | true =>
            go_wp2_with fail
            go_meet
            case rel => exact ⟨false, rfl, ⟨⟨fun _ => ⟨by first | exact HV3.out | exact HV3.out.1 trivial | exact HV3.out.1 rfl, by first | exact HV4.out | exact HV4.out.1 trivial | exact HV4.out.1 rfl, by first | exact HV5.out | exact HV5.out.1 trivial | exact HV5.out.1 rfl⟩, fun _ => rfl⟩⟩, hb710⟩
    case rest =>
      obtain ⟨nb, rfl, HV, hb9⟩ := hcut
      obtain ⟨w8, hw8⟩ : ∃ x, x = wc := ⟨_, rfl⟩
      subst hw8
      have X3 := HX.out.1.later hb9
      have X4 := HX.out.2.1.later hb9
      have X5 := HX.out.2.2.1.later hb9
      have P6 := HX.out.2.2.2.1.later hb9
      have P7 := HX.out.2.2.2.2.later hb9
      have hbw := kqP HBW.out hb9
      clear HX HBW hb9
      cases nb with
      | true =>
        have x3 := X3.c
        have x6 := P6.c
        by_cases hp : ps.length = 0
        · have hB : ((ps.length : Int) == 0) = true := by simp [hp]
          go_wp2
          go_ret
          exact ⟨rfl, hbw⟩
        · have hB : ((ps.length : Int) == 0) = false := by simp; exact fun e => hp (by rw [e]; rfl)
          obtain ⟨h3, h4⟩ : ValidTs ts3 ∧ ValidTs ts4 := by
            rcases HD.out.1 with ⟨h3, h4, _⟩ | ⟨_, rfl⟩
            · exact ⟨h3, h4⟩
            · exact absurd rfl hp
          have HV34 : Keep (ValidTs ts3 ∧ ValidTs ts4) := ⟨⟨h3, h4⟩⟩
          have hv := specTree_any ad3 cp3 ts3 w8 X3.es (by omega)
          have HX4 : Keep (TBx b4 ad4 cp4 ts4 w8) := ⟨X4⟩
          clear X3 X4 X5 P6 P7 h3 h4 hp
          go_wp2_with fail
          refine hv.mono ?_
          rintro e w9 ⟨v3, rfl, hv3, hb9⟩
          obtain rfl : v3 = true := hv3.2 HV34.out.1
          have X4 := HX4.out.later hb9
          have x4 := X4.c
          clear hv x3 x6 hv3 HX4
          have hv := specTree_any ad4 cp4 ts4 w9 X4.es (by omega)
          go_wp2_with fail
          refine hv.mono ?_
          rintro e w10 ⟨v4, rfl, hv4, hb10⟩
          obtain rfl : v4 = true := hv4.2 HV34.out.2
          have hbw2 := kqP (kqP hbw hb9) hb10
          clear hv x4 hv4
          go_wp2
          go_ret
          exact ⟨rfl, hbw2⟩
      | false =>
        obtain ⟨v3, v4, v5⟩ := HV.out.1 rfl
        have HVV : Keep (ValidTs ts3 ∧ ValidTs ts4 ∧ ValidTs ts5) := ⟨⟨v3, v4, v5⟩⟩
        have HPS : Keep (ps = diffL ts3 ts4 ∧ qs = diffL ts4 ts5) := ⟨by
          rcases HD.out.1 with ⟨_, _, h1⟩ | ⟨h1, _⟩
          · rcases HD.out.2 with ⟨_, _, h2⟩ | ⟨h2, _⟩
            · exact ⟨h1, h2⟩
            · exact absurd ⟨v4, v5⟩ h2
          · exact absurd ⟨v3, v4⟩ h1⟩
        clear HV HD v3 v4 v5
        have x3 := X3.c
        have x6 := P6.c
        have hm := implApplyC_any ad3 adp cp3 cpp ts3 ps w8 X3.es P6.cs (by omega) (by omega) m3 hrp HZ.out.1 HPZ.out.1
        go_wp2_with fail
        refine hm.mono ?_
        rintro e w9 ⟨us, c, hR, ⟨ad8, cp8, rfl, hel8, hr8⟩, hb9⟩
        obtain ⟨rfl, rfl⟩ := apply_one (us := ts4) (c := 0) (by rw [HPS.out.1]; exact diff_apply HVV.out.1 HVV.out.2.1) hR
        clear hm x3 x6 hR
        unfold TreeV
        have ba9 := below_oneD w9 (.cells #[.slice ad8 ts4.length cp8] 32)
        have X8 : TBx w9.heap.size ad8 cp8 ts4 (w9.alloc (.cells #[.slice ad8 ts4.length cp8] 32)) := TBx.new hel8.es
        replace X3 := (X3.later hb9).later ba9
        replace X4 := (X4.later hb9).later ba9
        replace X5 := (X5.later hb9).later ba9
        replace P6 := (P6.later hb9).later ba9
        replace P7 := (P7.later hb9).later ba9
        replace hbw := kqP (kqP hbw hb9) ba9
        clear hb9 ba9 hel8
        go_upto_region 11 with fail
        generalize w9.alloc (.cells #[.slice ad8 ts4.length cp8] 32) = w10 at *
        generalize w9.heap.size = b8 at *
        have HX : Keep (TBx b3 ad3 cp3 ts3 w10 ∧ TBx b4 ad4 cp4 ts4 w10 ∧ TBx b5 ad5 cp5 ts5 w10 ∧ PBx b6 adp cpp ps w10 ∧ PBx b7 adq cpq qs w10 ∧ TBx b8 ad8 cp8 ts4 w10) := ⟨⟨X3, X4, X5, P6, P7, X8⟩⟩
        clear X3 X4 X5 P6 P7 X8
        go_cut [10, 11] (fun pv cc wx => ∃ nb ad cap, pv = .pointer (some ⟨nb, 0, none⟩) ∧ cc = .int .i64 0 ∧ TBx nb ad cap ts3 wx ∧ Below w10.heap.size w10 wx)
        case first =>
          refine (wpIn_wide (n := 0)).1 ?_
          refine wpIn_region_inv0 (by kernel_rfl) (by kernel_rfl) (fun T0 => YP T0 (.agg #[.slice ad4 ts4.length cp4]) (.agg #[.slice adp ps.length cpp]) (diffL ts4 ts3) ts3 w10) ?_ ?_ ?_
          · exact ⟨Sl2.start _, (fun i _ hL => by rw [getD_repl] at hL; cases hL), (fun _ => (Below.refl _ _).drew), (fun _ i _ hL => by rw [getD_repl] at hL; cases hL), (fun h => by rw [getD_repl] at h; cases h)⟩
          · intro L a2 w9 hinv hall
            obtain ⟨nb, ad, cap, hn1, hn2, hn3⟩ := hinv.fin (hall 8 (by decide))
            have e10 : a2.tmps.getD 10 undef = .pointer (some ⟨nb, 0, none⟩) := hn1
            have e11 : a2.tmps.getD 11 undef = .int .i64 0 := hinv.sl.sl 9 (by decide) _ rfl (hall 9 (by decide))
            have HXX : Keep _ := ⟨hinv.sl.act⟩
            have HN : Keep (TBx nb ad cap ts3 w9 ∧ Below w10.heap.size w10 w9) := ⟨⟨hn2, hn3⟩⟩
            clear hinv hall hn1 hn2 hn3
            rw [HXX.out]
            simp only [updL, uDs, List.contains_cons, List.contains_nil, Nat.reduceAdd, Nat.reduceBEq, Bool.or_false, cond_false, cond_true, Bool.or_true, e10, e11]
            go_wp2_with fail
            go_meet
            case rel => exact ⟨nb, ad, cap, rfl, rfl, HN.out.1, HN.out.2⟩
          · intro L a2 w9 i o hinv hcl hL ho hdep
            have hin : i < 10 := (Array.getElem?_eq_some_iff.1 ho).1
            have q8 : ∀ j, j = 0 ∨ j = 1 ∨ j = 2 ∨ j = 3 ∨ j = 4 ∨ j = 5 ∨ j = 7 → L.getD j true = false → L.getD 8 false = false := fun j hj hL' => by
              cases hb : L.getD 8 false with
              | false => rfl
              | true =>
                exfalso
                have d7 := hcl 8 _ rfl hb ⟨7, .data⟩ (by simp) rfl
                have d5 := hcl 8 _ rfl hb ⟨5, .data⟩ (by simp) rfl
                have d4 := hcl 5 _ rfl d5 ⟨4, .data⟩ (by simp) rfl
                have d3 := hcl 4 _ rfl d4 ⟨3, .data⟩ (by simp) rfl
                have d2 := hcl 3 _ rfl d3 ⟨2, .data⟩ (by simp) rfl
                have d0 := hcl 3 _ rfl d3 ⟨0, .data⟩ (by simp) rfl
                have d1 := hcl 2 _ rfl d2 ⟨1, .data⟩ (by simp) rfl
                have hf := getD_ft hL'
                rcases hj with rfl | rfl | rfl | rfl | rfl | rfl | rfl
                · rw [d0] at hf; cases hf
                · rw [d1] at hf; cases hf
                · rw [d2] at hf; cases hf
                · rw [d3] at hf; cases hf
                · rw [d4] at hf; cases hf
                · rw [d5] at hf; cases hf
                · rw [d7] at hf; cases hf
            unfold wpOpIn
            rw [ho]
            clear hcl
            match i, hin, hL, ho, hdep with
            | 0, _, hL, ho, hdep =>
              injection ho with ho; subst ho
              dsimp only
              rw [if_pos (by rfl)]
              refine ⟨fun f _ => trivial, ?_⟩
              have h8 := q8 0 (by omega) hL
              have e4 : a2.tmps[4]?.getD undef = .pointer (some ⟨b4, 0, none⟩) := hinv.sl.old (by decide)
              have z0 := (HX.out.2.1.later (hinv.wd h8)).c
              go_simp
              exact hinv.step (i := 0) (by decide) (by show 79 < 163; decide) (by omega) (fun u hu => by cases hu; rfl) trivial ⟨(fun h => by rw [q8 0 (by omega) hL] at h; cases h), fun _ => ⟨trivial, (Below.refl _ _)⟩⟩
            | 1, _, hL, ho, hdep =>
              injection ho with ho; subst ho
              dsimp only
              rw [if_pos (by rfl)]
              refine ⟨fun f _ => trivial, ?_⟩
              have h8 := q8 1 (by omega) hL
              have e6 : a2.tmps[6]?.getD undef = .pointer (some ⟨b6, 0, none⟩) := hinv.sl.old (by decide)
              have z0 := (HX.out.2.2.2.1.later (hinv.wd h8)).c
              go_simp
              exact hinv.step (i := 1) (by decide) (by show 80 < 163; decide) (by omega) (fun u hu => by cases hu; rfl) trivial ⟨(fun h => by rw [q8 1 (by omega) hL] at h; cases h), fun _ => ⟨trivial, (Below.refl _ _)⟩⟩
            | 2, _, hL, ho, hdep =>
              injection ho with ho; subst ho
              dsimp only
              rw [if_pos (by rfl)]
              refine ⟨fun f _ => trivial, ?_⟩
              have h8 := q8 2 (by omega) hL
              have e80 : a2.tmps[80]?.getD undef = .agg #[.slice adp ps.length cpp] := hinv.sl.new (i := 1) (by decide) rfl (hdep ⟨1, .data⟩ (by simp) rfl)
              go_simp
              refine ⟨rfl, CallsIn.mono (callsIn_wide.2 (implUndoC_any adp cpp ps w9 (HX.out.2.2.2.1.later (hinv.wd h8)).cs (by omega) HPZ.out.1)) ?_⟩
              rintro e' w' ⟨cs', hU', ⟨ad', cap', rfl, hcl', hr'⟩, hb'⟩
              have hcs : cs' = diffL ts4 ts3 := undo_diff HVV.out.1 HVV.out.2.1 (by rw [← HPS.out.1]; exact hU')
              rw [hcs] at hcl' hr' ⊢
              exact hinv.step (i := 2) (by decide) (by show 81 < 163; decide) (by omega) (fun u hu => by cases hu) trivial ⟨(fun h => by rw [q8 2 (by omega) hL] at h; cases h), fun _ => ⟨⟨ad', cap', rfl, hcl'.cs, hr'⟩, hb'⟩⟩
            | 3, _, hL, ho, hdep =>
              injection ho with ho; subst ho
              dsimp only
              rw [if_pos (by rfl)]
              refine ⟨fun f _ => trivial, ?_⟩
              have h8 := q8 3 (by omega) hL
              have e79 : a2.tmps[79]?.getD undef = .agg #[.slice ad4 ts4.length cp4] := hinv.sl.new (i := 0) (by decide) rfl (hdep ⟨0, .data⟩ (by simp) rfl)
              obtain ⟨ad', cap', h21, h22, h23⟩ := hinv.ex h8 2 (by decide) (hdep ⟨2, .data⟩ (by simp) rfl)
              have e81 : a2.tmps[81]?.getD undef = .agg #[.slice ad' (diffL ts4 ts3).length cap'] := evalD2 h21
              have hdl := diff_len HVV.out.2.1.1 HVV.out.1.1
              go_simp
              refine ⟨rfl, CallsIn.mono (callsIn_wide.2 (implApplyC_any ad4 ad' cp4 cap' ts4 (diffL ts4 ts3) w9 (HX.out.2.1.later (hinv.wd h8)).es h22 (by omega) (by omega) m4 h23 HZ.out.2.1 ((diff_few (.inl ⟨HVV.out.2.1, HVV.out.1, rfl⟩)).2 HZ.out.2.1 HZ.out.1))) ?_⟩
              rintro e' w' ⟨us', c', hR', ⟨adx, cpx, rfl, helx, hrx⟩, hb'⟩
              obtain ⟨rfl, rfl⟩ := apply_one (us := ts3) (c := 0) (diff_apply HVV.out.2.1 HVV.out.1) hR'
              unfold TreeV
              exact hinv.step (i := 3) (by decide) (by show 82 < 163; decide) (by omega) (fun u hu => by cases hu) ⟨adx, cpx, rfl⟩ ⟨(fun h => by rw [q8 3 (by omega) hL] at h; cases h), fun _ => ⟨⟨adx, cpx, rfl, helx.mono (Nat.zero_le _)⟩, hb'⟩⟩
            | 4, _, hL, ho, hdep =>
              injection ho with ho; subst ho
              dsimp only
              rw [if_pos (by rfl)]
              refine ⟨fun f _ => trivial, ?_⟩
              have h8 := q8 4 (by omega) hL
              obtain ⟨adx, cpx, h31, h32⟩ := hinv.ex h8 3 (by decide) (hdep ⟨3, .data⟩ (by simp) rfl)
              have e82 : a2.tmps[82]?.getD undef = .tuple #[.agg #[.slice adx ts3.length cpx], .int .i64 0] := evalD2 h31
              go_simp
              exact hinv.step (i := 4) (by decide) (by show 78 < 163; decide) (by omega) (fun u hu => by cases hu) ⟨adx, cpx, rfl⟩ ⟨(fun h => by rw [q8 4 (by omega) hL] at h; cases h), fun _ => ⟨⟨adx, cpx, rfl, h32⟩, (Below.refl _ _)⟩⟩
            | 5, _, hL, ho, hdep =>
              injection ho with ho; subst ho
              dsimp only
              rw [if_pos (by rfl)]
              refine ⟨fun f _ => trivial, ?_⟩
              have h8 := q8 5 (by omega) hL
              obtain ⟨adx, cpx, h41, h42⟩ := hinv.ex h8 4 (by decide) (hdep ⟨4, .data⟩ (by simp) rfl)
              have e78 : a2.tmps[78]?.getD undef = .tuple #[.agg #[.slice adx ts3.length cpx], .int .i64 0] := evalD2 h41
              go_simp
              exact hinv.step (i := 5) (by decide) (by show 83 < 163; decide) (by omega) (fun u hu => by cases hu) ⟨adx, cpx, rfl⟩ ⟨(fun h => by rw [q8 5 (by omega) hL] at h; cases h), fun _ => ⟨⟨adx, cpx, rfl, h42⟩, (Below.refl _ _)⟩⟩
            | 6, _, hL, ho, hdep =>
              injection ho with ho; subst ho
              dsimp only
              rw [if_pos (by rfl)]
              refine ⟨fun f _ => trivial, ?_⟩
              obtain ⟨adx, cpx, h41⟩ := hinv.xv 4 (by decide) (hdep ⟨4, .data⟩ (by simp) rfl)
              have e78 : a2.tmps[78]?.getD undef = .tuple #[.agg #[.slice adx ts3.length cpx], .int .i64 0] := evalD2 h41
              go_simp
              exact hinv.step (i := 6) (by decide) (by show 84 < 163; decide) (by omega) (fun u hu => by cases hu; rfl) trivial ⟨fun _ => ⟨by decide, rfl⟩, fun _ => ⟨trivial, (Below.refl _ _)⟩⟩
            | 7, _, hL, ho, hdep =>
              injection ho with ho; subst ho
              dsimp only
              rw [if_pos (by rfl)]
              refine ⟨fun f _ => trivial, ?_⟩
              have h8 := q8 7 (by omega) hL
              go_simp
              exact hinv.step (i := 7) (by decide) (by show 10 < 163; decide) (by omega) (fun u hu => by cases hu) trivial ⟨(fun h => by rw [q8 7 (by omega) hL] at h; cases h), fun _ => ⟨⟨w9.heap.size, rfl, (hinv.wd h8).size, by simp, by simp, by simp⟩, ((Below.refl _ _).alloc (Nat.le_refl _) _)⟩⟩
            | 8, _, hL, ho, hdep =>
              injection ho with ho; subst ho
              dsimp only
              rw [if_pos (by rfl)]
              refine ⟨fun f _ => trivial, ?_⟩
              have h8 := getD_ft hL
              obtain ⟨adx, cpx, h51, h52⟩ := hinv.ex h8 5 (by decide) (hdep ⟨5, .data⟩ (by simp) rfl)
              obtain ⟨nb, h71, h72, h73, h74, h75⟩ := hinv.ex h8 7 (by decide) (hdep ⟨7, .data⟩ (by simp) rfl)
              have e83 : a2.tmps[83]?.getD undef = .agg #[.slice adx ts3.length cpx] := evalD2 h51
              have e10 : a2.tmps[10]?.getD undef = .pointer (some ⟨nb, 0, none⟩) := evalD2 h71
              go_simp
              exact hinv.store hL h71 h72 h74 h52
            | 9, _, hL, ho, hdep =>
              injection ho with ho; subst ho
              dsimp only
              rw [if_pos (by rfl)]
              refine ⟨fun f _ => trivial, ?_⟩
              have e84 : a2.tmps[84]?.getD undef = .int .i64 0 := hinv.sl.new (i := 6) (by decide) rfl (hdep ⟨6, .data⟩ (by simp) rfl)
              go_simp
              exact hinv.step (i := 9) (by decide) (by show 11 < 163; decide) (by omega) (fun u hu => by cases hu; rfl) trivial ⟨fun _ => ⟨by decide, rfl⟩, fun _ => ⟨trivial, (Below.refl _ _)⟩⟩
        case rest =>
          obtain ⟨b10, ad10, cp10, rfl, rfl, X10, hb9⟩ := hcut
          obtain ⟨w11, hw11⟩ : ∃ x, x = wc := ⟨_, rfl⟩
          subst hw11
          have X3 := HX.out.1.later hb9
          have X4 := HX.out.2.1.later hb9
          have X5 := HX.out.2.2.1.later hb9
          have P6 := HX.out.2.2.2.1.later hb9
          have P7 := HX.out.2.2.2.2.1.later hb9
          have X8 := HX.out.2.2.2.2.2.later hb9
          replace hbw := kqP hbw hb9
          clear HX hb9
          have x8 := X8.c
          have x7 := P7.c
          have hm := implApplyC_any ad8 adq cp8 cpq ts4 qs w11 X8.es P7.cs (by omega) (by omega) hr8 hrq HZ.out.2.1 HPZ.out.2
          go_wp2_with fail
          refine hm.mono ?_
          rintro e w12 ⟨us, c, hR, ⟨ad12, cp12, rfl, hel12, hr12⟩, hb12⟩
          obtain ⟨rfl, rfl⟩ := apply_one (us := ts5) (c := 0) (by rw [HPS.out.2]; exact diff_apply HVV.out.2.1 HVV.out.2.2) hR
          clear hm x7 x8 hR
          unfold TreeV
          have ba12 := below_oneD w12 (.cells #[.slice ad12 ts5.length cp12] 32)
          have X12 : TBx w12.heap.size ad12 cp12 ts5 (w12.alloc (.cells #[.slice ad12 ts5.length cp12] 32)) := TBx.new hel12.es
          replace X3 := (X3.later hb12).later ba12
          replace X4 := (X4.later hb12).later ba12
          replace X5 := (X5.later hb12).later ba12
          replace P6 := (P6.later hb12).later ba12
          replace P7 := (P7.later hb12).later ba12
          replace X8 := (X8.later hb12).later ba12
          replace X10 := (X10.later hb12).later ba12
          replace hbw := kqP (kqP hbw hb12) ba12
          clear hb12 ba12 hel12
          go_upto_region 13 with fail
          generalize w12.alloc (.cells #[.slice ad12 ts5.length cp12] 32) = w13 at *
          generalize w12.heap.size = b12 at *
          -- wTree(x, b)
          have x8 := X8.c
          have x4 := X4.c
          have hm := wTree_any ad8 ad4 cp8 cp4 ts4 w13 X8.es X4.es (by omega)
          go_wp2_with fail
          refine hm.mono ?_
          rintro e w14 ⟨rfl, hb14⟩
          replace X3 := X3.later hb14
          replace X4 := X4.later hb14
          replace X5 := X5.later hb14
          replace P6 := P6.later hb14
          replace P7 := P7.later hb14
          replace X10 := X10.later hb14
          replace X12 := X12.later hb14
          replace hbw := kqP hbw hb14
          clear hm x8 x4 hb14 X8
          have x10 := X10.c
          have x3 := X3.c
          have hm := wTree_any ad10 ad3 cp10 cp3 ts3 w14 X10.es X3.es (by omega)
          go_wp2_with fail
          refine hm.mono ?_
          rintro e w15 ⟨rfl, hb15⟩
          replace X3 := X3.later hb15
          replace X4 := X4.later hb15
          replace X5 := X5.later hb15
          replace P6 := P6.later hb15
          replace P7 := P7.later hb15
          replace X12 := X12.later hb15
          replace hbw := kqP hbw hb15
          clear hm x10 x3 hb15 X10
          have x12 := X12.c
          have x5 := X5.c
          have hm := wTree_any ad12 ad5 cp12 cp5 ts5 w15 X12.es X5.es (by omega)
          go_wp2_with fail
          refine hm.mono ?_
          rintro e w16 ⟨rfl, hb16⟩
          replace X3 := X3.later hb16
          replace X4 := X4.later hb16
          replace X5 := X5.later hb16
          replace P6 := P6.later hb16
          replace P7 := P7.later hb16
          replace hbw := kqP hbw hb16
          clear hm x12 x5 hb16 X12
          have x3 := X3.c
          have hm := implDiffC_any ad3 ad3 cp3 cp3 ts3 ts3 w16 X3.es X3.es (by omega) (by omega) m3 m3 HZ.out.1 HZ.out.1
          go_wp2_with fail
          refine hm.mono ?_
          rintro e w17 ⟨cs, hDc, ⟨adc, cpc, rfl, hclc, hrc⟩, hb17⟩
          obtain rfl : [] = cs := diff_one (.inl ⟨HVV.out.1, HVV.out.1, (diff_self ts3).symm⟩) hDc
          replace X3 := X3.later hb17
          replace X4 := X4.later hb17
          replace X5 := X5.later hb17
          replace P6 := P6.later hb17
          replace P7 := P7.later hb17
          replace hbw := kqP hbw hb17
          clear hm x3 hb17 hDc hclc hrc
          have hfld := field_patch adc 0 cpc w17
          -- Join
          have x6 := P6.c
          have x7 := P7.c
          have hm := implJoinC_any adp adq cpp cpq ps qs w17 P6.cs P7.cs (by omega) (by omega) hrp hrq HPZ.out.1 HPZ.out.2
          go_wp2_with fail
          refine hm.mono ?_
          rintro e w18 ⟨js, ok, hJ, ⟨adj, cpj, rfl, hclj, hrj⟩, hb18⟩
          obtain ⟨hjs, rfl⟩ := join_one (us := diffL ts3 ts5) (c := true) (by rw [HPS.out.1, HPS.out.2]; exact join_diffs HVV.out.1 HVV.out.2.1 HVV.out.2.2) hJ
          have HJS : Keep (js = diffL ts3 ts5) := ⟨hjs.symm⟩
          have hfj : js.length ≤ 1000 := by rw [← hjs]; have := diff_len HVV.out.1.1 HVV.out.2.2.1; omega
          have HJZ : Keep (∀ c ∈ js, c.path.size ≤ 1048576) := ⟨by rw [← hjs]; exact (diff_few (.inl ⟨HVV.out.1, HVV.out.2.2, rfl⟩)).2 HZ.out.1 HZ.out.2.2⟩
          have ba18 := below_oneD w18 (.cells #[.slice adj js.length cpj] 37)
          have P14 : PBx w18.heap.size adj cpj js (w18.alloc (.cells #[.slice adj js.length cpj] 37)) := PBx.new hclj.cs
          replace X3 := (X3.later hb18).later ba18
          replace X5 := (X5.later hb18).later ba18
          replace P6 := (P6.later hb18).later ba18
          replace hbw := kqP (kqP hbw hb18) ba18
          clear hm x6 x7 hb18 ba18 hclj hJ hjs X4 P7
          go_upto_region 16 with fail
          generalize w18.alloc (.cells #[.slice adj js.length cpj] 37) = w19 at *
          generalize w18.heap.size = b14 at *
          have x3 := X3.c
          have x14 := P14.c
          have hm := implApplyC_any ad3 adj cp3 cpj ts3 js w19 X3.es P14.cs (by omega) (by omega) m3 hrj HZ.out.1 HJZ.out
          go_wp2_with fail
          refine hm.mono ?_
          rintro e w20 ⟨us, c, hR, ⟨ad16, cp16, rfl, hel16, hr16⟩, hb20⟩
          obtain ⟨rfl, rfl⟩ := apply_one (us := ts5) (c := 0) (by rw [HJS.out]; exact diff_apply HVV.out.1 HVV.out.2.2) hR
          clear hm x3 x14 hR
          unfold TreeV
          have ba20 := below_oneD w20 (.cells #[.slice ad16 ts5.length cp16] 32)
          have X16 : TBx w20.heap.size ad16 cp16 ts5 (w20.alloc (.cells #[.slice ad16 ts5.length cp16] 32)) := TBx.new hel16.es
          replace X3 := (X3.later hb20).later ba20
          replace X5 := (X5.later hb20).later ba20
          replace P6 := (P6.later hb20).later ba20
          replace P14 := (P14.later hb20).later ba20
          replace hbw := kqP (kqP hbw hb20) ba20
          clear hb20 ba20 hel16
          go_upto_region 17 with fail
          generalize w20.alloc (.cells #[.slice ad16 ts5.length cp16] 32) = w21 at *
          generalize w20.heap.size = b16 at *
          have HX : Keep (TBx b3 ad3 cp3 ts3 w21 ∧ TBx b5 ad5 cp5 ts5 w21 ∧ PBx b6 adp cpp ps w21 ∧ PBx b14 adj cpj js w21 ∧ TBx b16 ad16 cp16 ts5 w21) := ⟨⟨X3, X5, P6, P14, X16⟩⟩
          have HBW : Keep (Below w.heap.size w w21) := ⟨hbw⟩
          clear X3 X5 P6 P14 X16 hbw
          refine (wpIn_wide (n := 0)).1 ?_
          refine wpIn_region_inv0 (by kernel_rfl) (by kernel_rfl) (fun T0 => EV0 T0 gDs (gTab (.agg #[.slice adp ps.length cpp]) (.agg #[.slice adj js.length cpj]) (.agg #[.slice ad3 ts3.length cp3]) (.agg #[.slice ad5 ts5.length cp5]) (.agg #[.slice ad16 ts5.length cp16])) (gEx (diffL ts3 ts5) (diffL ts4 ts3) ps) w21) ?_ ?_ ?_
          · exact ⟨Sl2.start _, (Below.refl _ _).drew, fun i _ hL => by rw [getD_repl] at hL; cases hL⟩
          · intro L a2 w9 hinv hall
            have e2 : a2.tmps.getD 2 undef = .bool true := hinv.sl.sl 28 (by decide) _ rfl (hall 28 (by decide))
            have HXX : Keep _ := ⟨hinv.sl.act⟩
            have HB9 : Keep (Below w.heap.size w w9) := ⟨kqP HBW.out hinv.wd⟩
            clear hinv hall
            rw [HXX.out]
            simp only [updL, gDs, List.contains_cons, List.contains_nil, Nat.reduceAdd, Nat.reduceBEq, Bool.or_false, cond_false, cond_true, Bool.or_true, e2]
            go_wp2
            go_ret
            exact ⟨rfl, HB9.out⟩
          · intro L a2 w9 i o hinv hcl hL ho hdep
            have hin : i < 29 := (Array.getElem?_eq_some_iff.1 ho).1
            unfold wpOpIn
            rw [ho]
            clear hcl
            match i, hin, hL, ho, hdep with
            | 0, _, hL, ho, hdep =>
                injection ho with ho; subst ho
                dsimp only
                rw [if_pos (by rfl)]
                refine ⟨fun f _ => trivial, ?_⟩
                have e15 : a2.tmps[15]?.getD undef = .bool true := hinv.sl.old (by decide)
                go_simp
                exact hinv.step gNd (gSt (diffL ts3 ts5) (diffL ts4 ts3) ps) (i := 0) (by decide) (by show 135 < 163; decide) (fun u hu => by cases hu; rfl) trivial (Below.refl _ _)
            | 1, _, hL, ho, hdep =>
                injection ho with ho; subst ho
                dsimp only
                rw [if_pos (by rfl)]
                refine ⟨fun f _ => trivial, ?_⟩
                have e135 : a2.tmps[135]?.getD undef = .bool true := hinv.sl.new (i := 0) (by decide) rfl (hdep ⟨0, .data⟩ (by simp) rfl)
                go_simp
                exact hinv.step gNd (gSt (diffL ts3 ts5) (diffL ts4 ts3) ps) (i := 1) (by decide) (by show 136 < 163; decide) (fun u hu => by cases hu; rfl) trivial (Below.refl _ _)
            | 2, _, hL, ho, hdep =>
                injection ho with ho; subst ho
                dsimp only
                have t136 := tmp_some (a := a2) (k := 136) (hinv.sl.new (i := 1) (by decide) rfl (hdep ⟨1, .guard⟩ (by simp) rfl))
                rw [if_pos (by simp [Region.wanted, yielded, t136])]
                refine ⟨fun f _ => trivial, ?_⟩
                have e14 : a2.tmps[14]?.getD undef = .pointer (some ⟨b14, 0, none⟩) := hinv.sl.old (by decide)
                have z0 := (HX.out.2.2.2.1.later hinv.wd).c
                go_simp
                exact hinv.step gNd (gSt (diffL ts3 ts5) (diffL ts4 ts3) ps) (i := 2) (by decide) (by show 137 < 163; decide) (fun u hu => by cases hu; rfl) trivial (Below.refl _ _)
            | 3, _, hL, ho, hdep =>
                injection ho with ho; subst ho
                dsimp only
                have t136 := tmp_some (a := a2) (k := 136) (hinv.sl.new (i := 1) (by decide) rfl (hdep ⟨1, .guard⟩ (by simp) rfl))
                rw [if_pos (by simp [Region.wanted, yielded, t136])]
                refine ⟨fun f _ => trivial, ?_⟩
                have e3 : a2.tmps[3]?.getD undef = .pointer (some ⟨b3, 0, none⟩) := hinv.sl.old (by decide)
                have z0 := (HX.out.1.later hinv.wd).c
                go_simp
                exact hinv.step gNd (gSt (diffL ts3 ts5) (diffL ts4 ts3) ps) (i := 3) (by decide) (by show 138 < 163; decide) (fun u hu => by cases hu; rfl) trivial (Below.refl _ _)
            | 4, _, hL, ho, hdep =>
                injection ho with ho; subst ho
                dsimp only
                have t136 := tmp_some (a := a2) (k := 136) (hinv.sl.new (i := 1) (by decide) rfl (hdep ⟨1, .guard⟩ (by simp) rfl))
                rw [if_pos (by simp [Region.wanted, yielded, t136])]
                refine ⟨fun f _ => trivial, ?_⟩
                have e5 : a2.tmps[5]?.getD undef = .pointer (some ⟨b5, 0, none⟩) := hinv.sl.old (by decide)
                have z0 := (HX.out.2.1.later hinv.wd).c
                go_simp
                exact hinv.step gNd (gSt (diffL ts3 ts5) (diffL ts4 ts3) ps) (i := 4) (by decide) (by show 139 < 163; decide) (fun u hu => by cases hu; rfl) trivial (Below.refl _ _)
            | 5, _, hL, ho, hdep =>
                injection ho with ho; subst ho
                dsimp only
                have t136 := tmp_some (a := a2) (k := 136) (hinv.sl.new (i := 1) (by decide) rfl (hdep ⟨1, .guard⟩ (by simp) rfl))
                rw [if_pos (by simp [Region.wanted, yielded, t136])]
                refine ⟨fun f _ => trivial, ?_⟩
                have e138 : a2.tmps[138]?.getD undef = .agg #[.slice ad3 ts3.length cp3] := hinv.sl.new (i := 3) (by decide) rfl (hdep ⟨3, .data⟩ (by simp) rfl)
                have e139 : a2.tmps[139]?.getD undef = .agg #[.slice ad5 ts5.length cp5] := hinv.sl.new (i := 4) (by decide) rfl (hdep ⟨4, .data⟩ (by simp) rfl)
                go_simp
                refine ⟨rfl, CallsIn.mono (callsIn_wide.2 (implDiffC_any ad3 ad5 cp3 cp5 ts3 ts5 w9 (HX.out.1.later hinv.wd).es (HX.out.2.1.later hinv.wd).es (by omega) (by omega) m3 m5 HZ.out.1 HZ.out.2.2)) ?_⟩
                rintro e' w' ⟨cs', hD', ⟨ad', cap', rfl, hcl', hr'⟩, hb'⟩
                obtain rfl := diff_one (.inl ⟨HVV.out.1, HVV.out.2.2, rfl⟩) hD'
                exact hinv.step gNd (gSt (diffL ts3 ts5) (diffL ts4 ts3) ps) (i := 5) (by decide) (by show 140 < 163; decide) (fun u hu => by cases hu) ⟨ad', cap', rfl, hcl'.cs⟩ hb'
            | 6, _, hL, ho, hdep =>
                injection ho with ho; subst ho
                dsimp only
                have t136 := tmp_some (a := a2) (k := 136) (hinv.sl.new (i := 1) (by decide) rfl (hdep ⟨1, .guard⟩ (by simp) rfl))
                rw [if_pos (by simp [Region.wanted, yielded, t136])]
                refine ⟨fun f _ => trivial, ?_⟩
                have e137 : a2.tmps[137]?.getD undef = .agg #[.slice adj js.length cpj] := hinv.sl.new (i := 2) (by decide) rfl (hdep ⟨2, .data⟩ (by simp) rfl)
                obtain ⟨ad', cap', h31, h32⟩ := hinv.ex 5 (by decide) (hdep ⟨5, .data⟩ (by simp) rfl)
                have e140 : a2.tmps[140]?.getD undef = .agg #[.slice ad' (diffL ts3 ts5).length cap'] := evalD2 h31
                rw [← HJS.out] at e140 h32
                go_simp
                refine ⟨rfl, CallsIn.mono (callsIn_wide.2 (wPatch_any adj ad' cpj cap' js w9 (HX.out.2.2.2.1.later hinv.wd).cs h32 (by omega))) ?_⟩
                rintro e' w' ⟨rfl, hb'⟩
                exact hinv.step gNd (gSt (diffL ts3 ts5) (diffL ts4 ts3) ps) (i := 6) (by decide) (by show 141 < 163; decide) (fun u hu => by cases hu; rfl) trivial hb'
            | 7, _, hL, ho, hdep =>
                injection ho with ho; subst ho
                dsimp only
                rw [if_pos (by rfl)]
                refine ⟨fun f _ => trivial, ?_⟩
                have e136 : a2.tmps[136]?.getD undef = .bool true := hinv.sl.new (i := 1) (by decide) rfl (hdep ⟨1, .data⟩ (by simp) rfl)
                have e141 : a2.tmps[141]?.getD undef = .bool true := hinv.sl.new (i := 6) (by decide) rfl (hdep ⟨6, .data⟩ (by simp) rfl)
                go_simp
                exact hinv.step gNd (gSt (diffL ts3 ts5) (diffL ts4 ts3) ps) (i := 7) (by decide) (by show 142 < 163; decide) (fun u hu => by cases hu; rfl) trivial (Below.refl _ _)
            | 8, _, hL, ho, hdep =>
                injection ho with ho; subst ho
                dsimp only
                rw [if_pos (by rfl)]
                refine ⟨fun f _ => trivial, ?_⟩
                have e142 : a2.tmps[142]?.getD undef = .bool true := hinv.sl.new (i := 7) (by decide) rfl (hdep ⟨7, .data⟩ (by simp) rfl)
                go_simp
                exact hinv.step gNd (gSt (diffL ts3 ts5) (diffL ts4 ts3) ps) (i := 8) (by decide) (by show 143 < 163; decide) (fun u hu => by cases hu; rfl) trivial (Below.refl _ _)
            | 9, _, hL, ho, hdep =>
                injection ho with ho; subst ho
                dsimp only
                have t143 := tmp_some (a := a2) (k := 143) (hinv.sl.new (i := 8) (by decide) rfl (hdep ⟨8, .guard⟩ (by simp) rfl))
                rw [if_pos (by simp [Region.wanted, yielded, t143])]
                refine ⟨fun f _ => trivial, ?_⟩
                have e17 : a2.tmps[17]?.getD undef = .int .i64 0 := hinv.sl.old (by decide)
                go_simp
                exact hinv.step gNd (gSt (diffL ts3 ts5) (diffL ts4 ts3) ps) (i := 9) (by decide) (by show 144 < 163; decide) (fun u hu => by cases hu; rfl) trivial (Below.refl _ _)
            | 10, _, hL, ho, hdep =>
                injection ho with ho; subst ho
                dsimp only
                have t143 := tmp_some (a := a2) (k := 143) (hinv.sl.new (i := 8) (by decide) rfl (hdep ⟨8, .guard⟩ (by simp) rfl))
                rw [if_pos (by simp [Region.wanted, yielded, t143])]
                refine ⟨fun f _ => trivial, ?_⟩
                have e144 : a2.tmps[144]?.getD undef = .int .i64 0 := hinv.sl.new (i := 9) (by decide) rfl (hdep ⟨9, .data⟩ (by simp) rfl)
                go_simp
                exact hinv.step gNd (gSt (diffL ts3 ts5) (diffL ts4 ts3) ps) (i := 10) (by decide) (by show 145 < 163; decide) (fun u hu => by cases hu; rfl) trivial (Below.refl _ _)
            | 11, _, hL, ho, hdep =>
                injection ho with ho; subst ho
                dsimp only
                rw [if_pos (by rfl)]
                refine ⟨fun f _ => trivial, ?_⟩
                have e143 : a2.tmps[143]?.getD undef = .bool true := hinv.sl.new (i := 8) (by decide) rfl (hdep ⟨8, .data⟩ (by simp) rfl)
                have e145 : a2.tmps[145]?.getD undef = .bool true := hinv.sl.new (i := 10) (by decide) rfl (hdep ⟨10, .data⟩ (by simp) rfl)
                go_simp
                exact hinv.step gNd (gSt (diffL ts3 ts5) (diffL ts4 ts3) ps) (i := 11) (by decide) (by show 146 < 163; decide) (fun u hu => by cases hu; rfl) trivial (Below.refl _ _)
            | 12, _, hL, ho, hdep =>
                injection ho with ho; subst ho
                dsimp only
                rw [if_pos (by rfl)]
                refine ⟨fun f _ => trivial, ?_⟩
                have e146 : a2.tmps[146]?.getD undef = .bool true := hinv.sl.new (i := 11) (by decide) rfl (hdep ⟨11, .data⟩ (by simp) rfl)
                go_simp
                exact hinv.step gNd (gSt (diffL ts3 ts5) (diffL ts4 ts3) ps) (i := 12) (by decide) (by show 147 < 163; decide) (fun u hu => by cases hu; rfl) trivial (Below.refl _ _)
            | 13, _, hL, ho, hdep =>
                injection ho with ho; subst ho
                dsimp only
                have t147 := tmp_some (a := a2) (k := 147) (hinv.sl.new (i := 12) (by decide) rfl (hdep ⟨12, .guard⟩ (by simp) rfl))
                rw [if_pos (by simp [Region.wanted, yielded, t147])]
                refine ⟨fun f _ => trivial, ?_⟩
                have e16 : a2.tmps[16]?.getD undef = .pointer (some ⟨b16, 0, none⟩) := hinv.sl.old (by decide)
                have z0 := (HX.out.2.2.2.2.later hinv.wd).c
                go_simp
                exact hinv.step gNd (gSt (diffL ts3 ts5) (diffL ts4 ts3) ps) (i := 13) (by decide) (by show 148 < 163; decide) (fun u hu => by cases hu; rfl) trivial (Below.refl _ _)
            | 14, _, hL, ho, hdep =>
                injection ho with ho; subst ho
                dsimp only
                have t147 := tmp_some (a := a2) (k := 147) (hinv.sl.new (i := 12) (by decide) rfl (hdep ⟨12, .guard⟩ (by simp) rfl))
                rw [if_pos (by simp [Region.wanted, yielded, t147])]
                refine ⟨fun f _ => trivial, ?_⟩
                have e5 : a2.tmps[5]?.getD undef = .pointer (some ⟨b5, 0, none⟩) := hinv.sl.old (by decide)
                have z0 := (HX.out.2.1.later hinv.wd).c
                go_simp
                exact hinv.step gNd (gSt (diffL ts3 ts5) (diffL ts4 ts3) ps) (i := 14) (by decide) (by show 149 < 163; decide) (fun u hu => by cases hu; rfl) trivial (Below.refl _ _)
            | 15, _, hL, ho, hdep =>
                injection ho with ho; subst ho
                dsimp only
                have t147 := tmp_some (a := a2) (k := 147) (hinv.sl.new (i := 12) (by decide) rfl (hdep ⟨12, .guard⟩ (by simp) rfl))
                rw [if_pos (by simp [Region.wanted, yielded, t147])]
                refine ⟨fun f _ => trivial, ?_⟩
                have e148 : a2.tmps[148]?.getD undef = .agg #[.slice ad16 ts5.length cp16] := hinv.sl.new (i := 13) (by decide) rfl (hdep ⟨13, .data⟩ (by simp) rfl)
                have e149 : a2.tmps[149]?.getD undef = .agg #[.slice ad5 ts5.length cp5] := hinv.sl.new (i := 14) (by decide) rfl (hdep ⟨14, .data⟩ (by simp) rfl)
                go_simp
                refine ⟨rfl, CallsIn.mono (callsIn_wide.2 (wTree_any ad16 ad5 cp16 cp5 ts5 w9 (HX.out.2.2.2.2.later hinv.wd).es (HX.out.2.1.later hinv.wd).es (by omega))) ?_⟩
                rintro e' w' ⟨rfl, hb'⟩
                exact hinv.step gNd (gSt (diffL ts3 ts5) (diffL ts4 ts3) ps) (i := 15) (by decide) (by show 150 < 163; decide) (fun u hu => by cases hu; rfl) trivial hb'
            | 16, _, hL, ho, hdep =>
                injection ho with ho; subst ho
                dsimp only
                rw [if_pos (by rfl)]
                refine ⟨fun f _ => trivial, ?_⟩
                have e147 : a2.tmps[147]?.getD undef = .bool true := hinv.sl.new (i := 12) (by decide) rfl (hdep ⟨12, .data⟩ (by simp) rfl)
                have e150 : a2.tmps[150]?.getD undef = .bool true := hinv.sl.new (i := 15) (by decide) rfl (hdep ⟨15, .data⟩ (by simp) rfl)
                go_simp
                exact hinv.step gNd (gSt (diffL ts3 ts5) (diffL ts4 ts3) ps) (i := 16) (by decide) (by show 151 < 163; decide) (fun u hu => by cases hu; rfl) trivial (Below.refl _ _)
            | 17, _, hL, ho, hdep =>
                injection ho with ho; subst ho
                dsimp only
                rw [if_pos (by rfl)]
                refine ⟨fun f _ => trivial, ?_⟩
                have e151 : a2.tmps[151]?.getD undef = .bool true := hinv.sl.new (i := 16) (by decide) rfl (hdep ⟨16, .data⟩ (by simp) rfl)
                go_simp
                exact hinv.step gNd (gSt (diffL ts3 ts5) (diffL ts4 ts3) ps) (i := 17) (by decide) (by show 152 < 163; decide) (fun u hu => by cases hu; rfl) trivial (Below.refl _ _)
            | 18, _, hL, ho, hdep =>
                injection ho with ho; subst ho
                dsimp only
                have t152 := tmp_some (a := a2) (k := 152) (hinv.sl.new (i := 17) (by decide) rfl (hdep ⟨17, .guard⟩ (by simp) rfl))
                rw [if_pos (by simp [Region.wanted, yielded, t152])]
                refine ⟨fun f _ => trivial, ?_⟩
                have e6 : a2.tmps[6]?.getD undef = .pointer (some ⟨b6, 0, none⟩) := hinv.sl.old (by decide)
                have z0 := (HX.out.2.2.1.later hinv.wd).c
                go_simp
                exact hinv.step gNd (gSt (diffL ts3 ts5) (diffL ts4 ts3) ps) (i := 18) (by decide) (by show 153 < 163; decide) (fun u hu => by cases hu; rfl) trivial (Below.refl _ _)
            | 19, _, hL, ho, hdep =>
                injection ho with ho; subst ho
                dsimp only
                have t152 := tmp_some (a := a2) (k := 152) (hinv.sl.new (i := 17) (by decide) rfl (hdep ⟨17, .guard⟩ (by simp) rfl))
                rw [if_pos (by simp [Region.wanted, yielded, t152])]
                refine ⟨fun f _ => trivial, ?_⟩
                have e153 : a2.tmps[153]?.getD undef = .agg #[.slice adp ps.length cpp] := hinv.sl.new (i := 18) (by decide) rfl (hdep ⟨18, .data⟩ (by simp) rfl)
                go_simp
                refine ⟨rfl, CallsIn.mono (callsIn_wide.2 (implUndoC_any adp cpp ps w9 (HX.out.2.2.1.later hinv.wd).cs (by omega) HPZ.out.1)) ?_⟩
                rintro e' w' ⟨cs', hU', ⟨ad', cap', rfl, hcl', hr'⟩, hb'⟩
                have hcs : cs' = diffL ts4 ts3 := undo_diff HVV.out.1 HVV.out.2.1 (by rw [← HPS.out.1]; exact hU')
                rw [hcs] at hcl' hr' ⊢
                exact hinv.step gNd (gSt (diffL ts3 ts5) (diffL ts4 ts3) ps) (i := 19) (by decide) (by show 154 < 163; decide) (fun u hu => by cases hu) ⟨ad', cap', rfl, hcl'.cs⟩ hb'
            | 20, _, hL, ho, hdep =>
                injection ho with ho; subst ho
                dsimp only
                have t152 := tmp_some (a := a2) (k := 152) (hinv.sl.new (i := 17) (by decide) rfl (hdep ⟨17, .guard⟩ (by simp) rfl))
                rw [if_pos (by simp [Region.wanted, yielded, t152])]
                refine ⟨fun f _ => trivial, ?_⟩
                obtain ⟨ad', cap', h31, h32⟩ := hinv.ex 19 (by decide) (hdep ⟨19, .data⟩ (by simp) rfl)
                have e154 : a2.tmps[154]?.getD undef = .agg #[.slice ad' (diffL ts4 ts3).length cap'] := evalD2 h31
                have hdl := diff_len HVV.out.2.1.1 HVV.out.1.1
                go_simp
                refine ⟨rfl, CallsIn.mono (callsIn_wide.2 (implUndoC_any ad' cap' (diffL ts4 ts3) w9 h32 (by omega) ((diff_few (.inl ⟨HVV.out.2.1, HVV.out.1, rfl⟩)).2 HZ.out.2.1 HZ.out.1))) ?_⟩
                rintro e' w' ⟨cs', hU', ⟨ad2', cap2', rfl, hcl', hr'⟩, hb'⟩
                have hcs : cs' = ps := (undo_diff HVV.out.2.1 HVV.out.1 hU').trans HPS.out.1.symm
                rw [hcs] at hcl' hr' ⊢
                exact hinv.step gNd (gSt (diffL ts3 ts5) (diffL ts4 ts3) ps) (i := 20) (by decide) (by show 155 < 163; decide) (fun u hu => by cases hu) ⟨ad2', cap2', rfl, hcl'.cs⟩ hb'
            | 21, _, hL, ho, hdep =>
                injection ho with ho; subst ho
                dsimp only
                have t152 := tmp_some (a := a2) (k := 152) (hinv.sl.new (i := 17) (by decide) rfl (hdep ⟨17, .guard⟩ (by simp) rfl))
                rw [if_pos (by simp [Region.wanted, yielded, t152])]
                refine ⟨fun f _ => trivial, ?_⟩
                have e6 : a2.tmps[6]?.getD undef = .pointer (some ⟨b6, 0, none⟩) := hinv.sl.old (by decide)
                have z0 := (HX.out.2.2.1.later hinv.wd).c
                go_simp
                exact hinv.step gNd (gSt (diffL ts3 ts5) (diffL ts4 ts3) ps) (i := 21) (by decide) (by show 156 < 163; decide) (fun u hu => by cases hu; rfl) trivial (Below.refl _ _)
            | 22, _, hL, ho, hdep =>
                injection ho with ho; subst ho
                dsimp only
                have t152 := tmp_some (a := a2) (k := 152) (hinv.sl.new (i := 17) (by decide) rfl (hdep ⟨17, .guard⟩ (by simp) rfl))
                rw [if_pos (by simp [Region.wanted, yielded, t152])]
                refine ⟨fun f _ => trivial, ?_⟩
                obtain ⟨ad', cap', h31, h32⟩ := hinv.ex 20 (by decide) (hdep ⟨20, .data⟩ (by simp) rfl)
                have e155 : a2.tmps[155]?.getD undef = .agg #[.slice ad' ps.length cap'] := evalD2 h31
                have e156 : a2.tmps[156]?.getD undef = .agg #[.slice adp ps.length cpp] := hinv.sl.new (i := 21) (by decide) rfl (hdep ⟨21, .data⟩ (by simp) rfl)
                go_simp
                refine ⟨rfl, CallsIn.mono (callsIn_wide.2 (wPatch_any ad' adp cap' cpp ps w9 h32 (HX.out.2.2.1.later hinv.wd).cs (by omega))) ?_⟩
                rintro e' w' ⟨rfl, hb'⟩
                exact hinv.step gNd (gSt (diffL ts3 ts5) (diffL ts4 ts3) ps) (i := 22) (by decide) (by show 157 < 163; decide) (fun u hu => by cases hu; rfl) trivial hb'
            | 23, _, hL, ho, hdep =>
                injection ho with ho; subst ho
                dsimp only
                rw [if_pos (by rfl)]
                refine ⟨fun f _ => trivial, ?_⟩
                have e152 : a2.tmps[152]?.getD undef = .bool true := hinv.sl.new (i := 17) (by decide) rfl (hdep ⟨17, .data⟩ (by simp) rfl)
                have e157 : a2.tmps[157]?.getD undef = .bool true := hinv.sl.new (i := 22) (by decide) rfl (hdep ⟨22, .data⟩ (by simp) rfl)
                go_simp
                exact hinv.step gNd (gSt (diffL ts3 ts5) (diffL ts4 ts3) ps) (i := 23) (by decide) (by show 158 < 163; decide) (fun u hu => by cases hu; rfl) trivial (Below.refl _ _)
            | 24, _, hL, ho, hdep =>
                injection ho with ho; subst ho
                dsimp only
                rw [if_pos (by rfl)]
                refine ⟨fun f _ => trivial, ?_⟩
                have e158 : a2.tmps[158]?.getD undef = .bool true := hinv.sl.new (i := 23) (by decide) rfl (hdep ⟨23, .data⟩ (by simp) rfl)
                go_simp
                exact hinv.step gNd (gSt (diffL ts3 ts5) (diffL ts4 ts3) ps) (i := 24) (by decide) (by show 159 < 163; decide) (fun u hu => by cases hu; rfl) trivial (Below.refl _ _)
            | 25, _, hL, ho, hdep =>
                injection ho with ho; subst ho
                dsimp only
                have t159 := tmp_some (a := a2) (k := 159) (hinv.sl.new (i := 24) (by decide) rfl (hdep ⟨24, .guard⟩ (by simp) rfl))
                rw [if_pos (by simp [Region.wanted, yielded, t159])]
                refine ⟨fun f _ => trivial, ?_⟩
                have e6 : a2.tmps[6]?.getD undef = .pointer (some ⟨b6, 0, none⟩) := hinv.sl.old (by decide)
                have z0 := (HX.out.2.2.1.later hinv.wd).c
                go_simp
                exact hinv.step gNd (gSt (diffL ts3 ts5) (diffL ts4 ts3) ps) (i := 25) (by decide) (by show 160 < 163; decide) (fun u hu => by cases hu; rfl) trivial (Below.refl _ _)
            | 26, _, hL, ho, hdep =>
                injection ho with ho; subst ho
                dsimp only
                have t159 := tmp_some (a := a2) (k := 159) (hinv.sl.new (i := 24) (by decide) rfl (hdep ⟨24, .guard⟩ (by simp) rfl))
                rw [if_pos (by simp [Region.wanted, yielded, t159])]
                refine ⟨fun f _ => trivial, ?_⟩
                have e160 : a2.tmps[160]?.getD undef = .agg #[.slice adp ps.length cpp] := hinv.sl.new (i := 25) (by decide) rfl (hdep ⟨25, .data⟩ (by simp) rfl)
                go_simp
                refine ⟨rfl, CallsIn.mono (callsIn_wide.2 (implPatch_any adp cpp ps w9 (HX.out.2.2.1.later hinv.wd).cs (by omega) HPZ.out.1)) ?_⟩
                rintro e' w' ⟨vb, rfl, hvb, hb'⟩
                obtain rfl : vb = true := hvb.2 (by rw [HPS.out.1]; exact diff_valid HVV.out.1 HVV.out.2.1)
                exact hinv.step gNd (gSt (diffL ts3 ts5) (diffL ts4 ts3) ps) (i := 26) (by decide) (by show 161 < 163; decide) (fun u hu => by cases hu; rfl) trivial hb'
            | 27, _, hL, ho, hdep =>
                injection ho with ho; subst ho
                dsimp only
                rw [if_pos (by rfl)]
                refine ⟨fun f _ => trivial, ?_⟩
                have e159 : a2.tmps[159]?.getD undef = .bool true := hinv.sl.new (i := 24) (by decide) rfl (hdep ⟨24, .data⟩ (by simp) rfl)
                have e161 : a2.tmps[161]?.getD undef = .bool true := hinv.sl.new (i := 26) (by decide) rfl (hdep ⟨26, .data⟩ (by simp) rfl)
                go_simp
                exact hinv.step gNd (gSt (diffL ts3 ts5) (diffL ts4 ts3) ps) (i := 27) (by decide) (by show 162 < 163; decide) (fun u hu => by cases hu; rfl) trivial (Below.refl _ _)
            | 28, _, hL, ho, hdep =>
                injection ho with ho; subst ho
                dsimp only
                rw [if_pos (by rfl)]
                refine ⟨fun f _ => trivial, ?_⟩
                have e162 : a2.tmps[162]?.getD undef = .bool true := hinv.sl.new (i := 27) (by decide) rfl (hdep ⟨27, .data⟩ (by simp) rfl)
                go_simp
                exact hinv.step gNd (gSt (diffL ts3 ts5) (diffL ts4 ts3) ps) (i := 28) (by decide) (by show 2 < 163; decide) (fun u hu => by cases hu; rfl) trivial (Below.refl _ _)
end Go.Proofs.Ytockgapdfcapnaa

namespace Go.Proofs.Ytockgapdfcapnaa.fnPatches
open Go.ChangeShapes Go.WideShapes Go.ChangeAt Go.RowKit
set_option linter.unusedVariables false

theorem own : ownKnob Try.prog.godebug = none := by kernel_rfl
theorem laidOut : laidOutB Try.prog = true := by kernel_rfl

theorem open_code {H : Type} {enc : TypeId × Value → H} {W : World} {a : Option Addr} {len cap : Nat} {d : DataW H} {p : List MemPlace} (h : DataW.Trod enc Try.prog W 0 (fun _ => true) true 22 (.slice a len cap) d p) :
    ∃ zs : List Int, len = zs.length ∧ Code0 W a cap zs := by
  obtain ⟨fuel, hf⟩ := h
  rcases open_ints Try.underlying22 Try.underlying5 (by kernel_rfl) hf with ⟨hcs, _⟩ | ⟨x, l, c, zs, hcs, _, hl, hm, hz, _, hcell, hwz⟩
  · simp [Value.cells] at hcs
    obtain ⟨rfl, rfl, rfl⟩ := hcs
    exact ⟨[], rfl, .inl rfl, Nat.zero_le _, Nat.zero_le _, fun z hz => by simp at hz⟩
  · simp [Value.cells] at hcs
    obtain ⟨rfl, rfl, rfl⟩ := hcs
    have hz' : zs.length = cap := by simpa using hz
    refine ⟨zs.take len, by simp; omega, ?_, by simp; omega, hm, fun z hz => ?_⟩
    · by_cases h0 : len = 0
      · left; simp [h0]
      · right
        obtain ⟨b, off, rfl, hc⟩ := ints_at hcell (by omega)
        refine ⟨b, off, rfl, ?_, fun i hi => ?_⟩
        · have h1 := hc 0 (by omega)
          unfold World.cell? at h1
          cases hh : W.heap[b]? with
          | none => simp [hh] at h1
          | some o => exact (Array.getElem?_eq_some_iff.1 hh).1
        · have hi' : i < zs.length := by simp at hi; omega
          rw [hc i hi']
          simp [List.getD, hi']
    · have := bounds_u8 (hwz z (List.mem_of_mem_take hz))
      omega

set_option maxRecDepth 100000 in
theorem lifted (os : Os) (started : os.Started) (H : Type) (enc : TypeId × Value → H) :
    ReturnsInHanded {} Try.checked os 4 .any (Rows.fnPatchesSpec.pre6 enc Try.prog Try.f4 Rows.fnPatchesRow.domain false) (Rows.fnPatchesSpec.post enc Try.prog Try.f4 false true false false) := by
  refine returnsInHanded_of_change (C := Try.checked) own started (by kernel_rfl) Try.func4
    (ChangeSpec.witness6 (enc := enc) (C := Try.checked) false ⟨#[], #[.slice none 0 0], []⟩ 8 (by kernel_rfl) (by kernel_rfl) (by kernel_rfl) (by kernel_rfl)) ?_
  intro W base args ds gs before hval0 hW hcnd _
  have hval : ∀ (j : Nat) t v, Try.f4.params[j]? = some t → args[j]? = some v → Value.okWide Try.prog W .any base t v := hval0
  have hW' := hW
  obtain ⟨p, q, hA0, hV, rfl, hfz, hnd⟩ := hW
  have hA : DataW.TrodAll enc Try.prog W 0 (fun _ => true) true Try.f4.params.toList args.toList ds p := hA0
  rw [Try.params4] at hA hval
  obtain ⟨v0, vs0, d0, ds0, p0, q0, hargs, rfl, rfl, h0, r0⟩ := trodAll_cons hA
  obtain ⟨rfl, rfl, rfl⟩ := trodAll_nil r0
  obtain rfl : args = #[v0] := by cases args; simp_all
  obtain ⟨rfl, rfl⟩ := trodVars_none hV
  obtain ⟨a0, len0, cap0, rfl⟩ := okWide_slice Try.underlying22 (hval 0 22 v0 rfl rfl)
  have k0 := h0
  have lt0 : ∀ x ∈ p0, x.block < W.heap.size := by obtain ⟨m, hm⟩ := k0; exact DataW.trod_lt m _ _ _ hm
  obtain ⟨zs, rfl, hc⟩ := open_code h0
  clear hA0 hval0
  refine (patches_walk a0 cap0 zs W hc).mono fun e W' ⟨he, bel⟩ => ?_
  subst he
  exact ⟨_, rfl, _, _, _, [], _, [], hW', trodAll_mk1 (shut_bool Try.underlying4 _), (trodAll_cons_mk (Below.trod laidOut (by kernel_rfl) (of_decide_eq_true (by kernel_rfl)) k0 bel lt0) trodAll_mk0), rfl, bel.frame _, fun h => by cases h⟩

theorem over : Rows.fnPatchesRow.holds Try.pinned (OpenSpec.ofChange Rows.fnPatchesSpec) :=
  OpenClaim.holds_of_wide 4 Try.f4 rfl rfl rfl rfl rfl rfl rfl ⟨rfl, rfl, rfl, rfl, rfl⟩ rfl rfl rfl rfl rfl (by kernel_rfl) Try.func4 (by kernel_rfl)
    (of_decide_eq_true (by kernel_rfl)) (by unfold Func.isWrapper; first | (rw [if_pos (by decide +kernel)]; kernel_rfl) | (rw [if_neg (by decide +kernel)]; exact ⟨rfl, rfl⟩))
    (fun os started H enc _ => lifted os started H enc)

theorem proved : Rows.FnPatchesSaid := over
end Go.Proofs.Ytockgapdfcapnaa.fnPatches
