/-
  FnMerge: the walk (regions' arms by program: wip/drawn.py).
-/
import Derived.Test.YtjiafjdjocmodaaGreatMgT
import Derived.Test.YtjiafjdjocmodaaGreatZbf
import Derived.Test.YtjiafjdjocmodaaGreatZbf
import Derived.Test.YtjiafjdjocmodaaGreatDrawMg
namespace Go.Proofs.YtjiafjdjocmodaaGreat
open Go.RowKit

theorem tmp_someD {a : Act} {k : Nat} {b : Bool} (h : a.tmps[k]?.getD undef = .bool b) : a.tmps[k]? = some (.bool b) := by
  cases hx : a.tmps[k]? with
  | none => rw [hx] at h; cases h
  | some v => rw [hx] at h; simpa using h
/-- What Merge gives, in a slot. -/
def mvE (c : Int) (us : List En) (ks : List ByteArray) (v : Value) (w : World) : Prop := ∃ ad cp ak ck, v = .agg #[.int .i64 c, .slice ad us.length cp, .slice ak ks.length ck] ∧ ES w ad us ∧ SS w ak ks
theorem mvE.on {c : Int} {us : List En} {ks : List ByteArray} {v : Value} {w w' : World} (h : mvE c us ks v w) (hb : Below w.heap.size w w') : mvE c us ks v w' := by
  obtain ⟨ad, cp, ak, ck, h1, h2, h3⟩ := h
  exact ⟨ad, cp, ak, ck, h1, h2.below hb, h3.below hb⟩
def m5Tab (c : Int) (adm akm ad3 ad4 ad5 : Option Addr) (um cpm km ckm l3 cp3 l4 cp4 l5 cp5 : Nat) : Nat → Option Value
  | 0 => some (.agg #[.int .i64 c, .slice adm um cpm, .slice akm km ckm])
  | 1 => some (.agg #[.slice ad3 l3 cp3])
  | 2 => some (.agg #[.slice ad5 l5 cp5])
  | 3 => some (.agg #[.slice ad4 l4 cp4])
  | 5 => some (.bool true)
  | 6 => some (.bool false)
  | 7 => some (.bool false)
  | 8 => some (.agg #[.int .i64 c, .slice adm um cpm, .slice akm km ckm])
  | 9 => some (.agg #[.slice ad3 l3 cp3])
  | 10 => some (.agg #[.slice ad4 l4 cp4])
  | 11 => some (.agg #[.slice ad5 l5 cp5])
  | 13 => some (.bool true)
  | 14 => some (.bool false)
  | 15 => some (.bool false)
  | _ => none

def m5Ex (c : Int) (us : List En) (ks : List ByteArray) (i : Nat) (v : Value) (w : World) : Prop := match i with
  | 4 => mvE c us ks v w
  | 12 => mvE c us ks v w
  | _ => True
theorem m5St (c : Int) (us : List En) (ks : List ByteArray) : ∀ i v w w', Below w.heap.size w w' → m5Ex c us ks i v w → m5Ex c us ks i v w' := by
  intro i v w w' hb h
  unfold m5Ex at h ⊢
  split
  · exact mvE.on h hb
  · exact mvE.on h hb
  · trivial
def m5Ds : List Nat := [20, 21, 22, 23, 24, 25, 26, 27, 28, 29, 30, 31, 32, 33, 34, 35]
theorem m5Nd : m5Ds.Nodup := by decide
def m9Tab (ad3 ad4 ad5 : Option Addr) (l3 cp3 l4 cp4 l5 cp5 : Nat) : Nat → Option Value
  | 0 => some (.agg #[.slice ad3 l3 cp3])
  | 1 => some (.agg #[.slice ad3 l3 cp3])
  | 2 => some (.agg #[.slice ad5 l5 cp5])
  | 4 => some (.agg #[.slice ad5 l5 cp5])
  | 5 => some (.agg #[.int .i64 0, .slice ad5 l5 cp5, .slice none 0 0])
  | 6 => some (.bool true)
  | 7 => some (.bool true)
  | 8 => some (.agg #[.slice ad3 l3 cp3])
  | 9 => some (.agg #[.slice ad4 l4 cp4])
  | 10 => some (.agg #[.slice ad3 l3 cp3])
  | 12 => some (.agg #[.slice ad4 l4 cp4])
  | 13 => some (.agg #[.int .i64 0, .slice ad4 l4 cp4, .slice none 0 0])
  | 14 => some (.bool true)
  | 15 => some (.bool true)
  | 16 => some (.bool true)
  | 17 => some (.agg #[.slice ad3 l3 cp3])
  | 18 => some (.agg #[.slice ad4 l4 cp4])
  | 19 => some (.agg #[.slice ad4 l4 cp4])
  | 21 => some (.agg #[.slice ad4 l4 cp4])
  | 22 => some (.agg #[.int .i64 0, .slice ad4 l4 cp4, .slice none 0 0])
  | 23 => some (.bool true)
  | 24 => some (.bool true)
  | 25 => some (.bool true)
  | _ => none

def m9Ex (ts4 ts5 : List En) (i : Nat) (v : Value) (w : World) : Prop := match i with
  | 3 => mvE 0 ts5 [] v w
  | 11 => mvE 0 ts4 [] v w
  | 20 => mvE 0 ts4 [] v w
  | _ => True
theorem m9St (ts4 ts5 : List En) : ∀ i v w w', Below w.heap.size w w' → m9Ex ts4 ts5 i v w → m9Ex ts4 ts5 i v w' := by
  intro i v w w' hb h
  unfold m9Ex at h ⊢
  split
  · exact mvE.on h hb
  · exact mvE.on h hb
  · exact mvE.on h hb
  · trivial
def m9Ds : List Nat := [52, 53, 54, 55, 56, 57, 58, 59, 60, 61, 62, 63, 64, 65, 66, 67, 68, 69, 70, 71, 72, 73, 74, 75, 76, 2]
theorem m9Nd : m9Ds.Nodup := by decide

set_option maxRecDepth 100000 in
set_option maxHeartbeats 16000000 in
theorem merge_walk (a : Option Addr) (cap : Nat) (zs : List Int) (w : World) (hc : Code0 w a cap zs) :
    Calls Tryz.prog 3 #[.slice a zs.length cap] w fun e w' => e = .returned (.bool true) ∧ Below w.heap.size w w' := by
  by_cases hbig : (1048576 : Int) < zs.length
  · go_enter Tryz.func3, Tryz.ntmps3
    go_wp2
    go_ret
    exact ⟨rfl, Below.refl _ _⟩
  obtain ⟨F, hF⟩ : ∃ F : MrgF, ∀ x y z, MText x y z (F x y z) := ⟨fun x y z => Classical.choose (exists_mtext x y z), fun x y z => Classical.choose_spec (exists_mtext x y z)⟩
  go_enter Tryz.func3, Tryz.ntmps3
  go_wp2_with fail
  refine (drawMerge_any a cap zs w hc).mono ?_
  rintro e w1 ⟨⟨ad3, cp3, ts3⟩, ⟨ad4, cp4, ts4⟩, ⟨ad5, cp5, ts5⟩, rfl, he3, he4, he5, q3, q4, q5, _, _, _, hb1⟩
  dsimp only at he3 he4 he5 ⊢
  have ba1 : Below w1.heap.size w1 (((w1.alloc (.cells #[.slice ad3 ts3.length cp3] 25)).alloc (.cells #[.slice ad4 ts4.length cp4] 25)).alloc (.cells #[.slice ad5 ts5.length cp5] 25)) := ((below_oneD _ _).trans ((below_oneD _ _).mono (by simp))).trans ((below_oneD _ _).mono (by simp; omega))
  have X3 : TBx w1.heap.size ad3 cp3 ts3 (((w1.alloc (.cells #[.slice ad3 ts3.length cp3] 25)).alloc (.cells #[.slice ad4 ts4.length cp4] 25)).alloc (.cells #[.slice ad5 ts5.length cp5] 25)) := ⟨by simp [go_sem], he3.below ba1⟩
  have X4 : TBx (w1.heap.size + 1) ad4 cp4 ts4 (((w1.alloc (.cells #[.slice ad3 ts3.length cp3] 25)).alloc (.cells #[.slice ad4 ts4.length cp4] 25)).alloc (.cells #[.slice ad5 ts5.length cp5] 25)) := ⟨by simp [go_sem], he4.below ba1⟩
  have X5 : TBx (w1.heap.size + 1 + 1) ad5 cp5 ts5 (((w1.alloc (.cells #[.slice ad3 ts3.length cp3] 25)).alloc (.cells #[.slice ad4 ts4.length cp4] 25)).alloc (.cells #[.slice ad5 ts5.length cp5] 25)) := ⟨by simp [go_sem], he5.below ba1⟩
  have hbw : Below w.heap.size w (((w1.alloc (.cells #[.slice ad3 ts3.length cp3] 25)).alloc (.cells #[.slice ad4 ts4.length cp4] 25)).alloc (.cells #[.slice ad5 ts5.length cp5] 25)) := kept_below hb1 ba1
  have hl3 : ts3.length ≤ 300 := q3.1
  have hl4 : ts4.length ≤ 300 := q4.1
  have hl5 : ts5.length ≤ 300 := q5.1
  have HZ : Keep ((∀ e ∈ ts3, e.path.size ≤ 1048576) ∧ (∀ e ∈ ts4, e.path.size ≤ 1048576) ∧ (∀ e ∈ ts5, e.path.size ≤ 1048576)) := ⟨⟨fun e he => by have := (q3.2 e he).1; omega, fun e he => by have := (q4.2 e he).1; omega, fun e he => by have := (q5.2 e he).1; omega⟩⟩
  clear he3 he4 he5 hb1 ba1 q3 q4 q5
  go_upto_region 4 with fail
  generalize ((w1.alloc (.cells #[.slice ad3 ts3.length cp3] 25)).alloc (.cells #[.slice ad4 ts4.length cp4] 25)).alloc (.cells #[.slice ad5 ts5.length cp5] 25) = w2 at *
  generalize w1.heap.size + 1 + 1 = b5 at *
  generalize w1.heap.size + 1 = b4 at *
  generalize w1.heap.size = b3 at *
  have x3 := X3.c
  have x4 := X4.c
  have x5 := X5.c
  have hm := implMerge_any F (fun f x y W => implMText_any f x y _ W (hF f x y)) ad3 ad4 ad5 cp3 cp4 cp5 ts3 ts4 ts5 w2 X3.es X4.es X5.es (by omega) (by omega) (by omega) HZ.out.1 HZ.out.2.1 HZ.out.2.2
  go_wp2_with fail
  refine hm.mono ?_
  rintro e w3 ⟨c, us, ks, adm, cpm, akm, ckm, hR, rfl, hel, _, hrow, hb3⟩
  have ba3 := below_oneD w3 (.cells #[.int .i64 c, .slice adm us.length cpm, .slice akm ks.length ckm] 30)
  have X6 : MBx w3.heap.size c us ks adm cpm akm ckm (w3.alloc (.cells #[.int .i64 c, .slice adm us.length cpm, .slice akm ks.length ckm] 30)) := MBx.new hel.es (ss_of_rowM hrow)
  replace X3 := (X3.later hb3).later ba3
  replace X4 := (X4.later hb3).later ba3
  replace X5 := (X5.later hb3).later ba3
  replace hbw := kept_below (kept_below hbw hb3) ba3
  have hlr := mg_few hR hl3 hl4 hl5
  have hlu := hlr.1
  have hlk := hlr.2
  have HR : Keep (MgRel F ts3 ts4 ts5 c us ks) := ⟨hR⟩
  clear hm x3 x4 x5 hel hrow hb3 ba3 hR hlr
  go_upto_region 5 with fail
  generalize w3.alloc (.cells #[.int .i64 c, .slice adm us.length cpm, .slice akm ks.length ckm] 30) = w4 at *
  generalize w3.heap.size = b6 at *
  have HX : Keep (TBx b3 ad3 cp3 ts3 w4 ∧ TBx b4 ad4 cp4 ts4 w4 ∧ TBx b5 ad5 cp5 ts5 w4 ∧ MBx b6 c us ks adm cpm akm ckm w4) := ⟨⟨X3, X4, X5, X6⟩⟩
  have HBW : Keep (Below w.heap.size w w4) := ⟨hbw⟩
  clear X3 X4 X5 X6 hbw
  refine (wpIn_wide (n := 0)).1 ?_
  refine wpIn_region_inv0 (by kernel_rfl) (by kernel_rfl) (fun T0 => EV0 T0 m5Ds (m5Tab c adm akm ad3 ad4 ad5 us.length cpm ks.length ckm ts3.length cp3 ts4.length cp4 ts5.length cp5) (m5Ex c us ks) w4) ?_ ?_ ?_
  · exact ⟨Sl2.start _, (Below.refl _ _).drew, fun i _ hL => by rw [getD_repl] at hL; cases hL⟩
  · intro L a2 w9 hinv hall
    have e35 : a2.tmps.getD 35 undef = .bool false := hinv.sl.sl 15 (by decide) _ rfl (hall 15 (by decide))
    have HXX : Keep _ := ⟨hinv.sl.act⟩
    have HB9 : Keep (Below w.heap.size w w9) := ⟨kept_below HBW.out hinv.wd⟩
    have HX9 : Keep (TBx b3 ad3 cp3 ts3 w9 ∧ TBx b4 ad4 cp4 ts4 w9 ∧ TBx b5 ad5 cp5 ts5 w9 ∧ MBx b6 c us ks adm cpm akm ckm w9) := ⟨⟨HX.out.1.later hinv.wd, HX.out.2.1.later hinv.wd, HX.out.2.2.1.later hinv.wd, HX.out.2.2.2.later hinv.wd⟩⟩
    clear hinv hall HX HBW
    rw [HXX.out]
    simp only [updL, m5Ds, List.contains_cons, List.contains_nil, Nat.reduceAdd, Nat.reduceBEq, Bool.or_false, cond_false, cond_true, Bool.or_true, e35]
    clear HXX e35
    generalize a2.tmps.getD 20 undef = y20
    generalize a2.tmps.getD 21 undef = y21
    generalize a2.tmps.getD 22 undef = y22
    generalize a2.tmps.getD 23 undef = y23
    generalize a2.tmps.getD 24 undef = y24
    generalize a2.tmps.getD 25 undef = y25
    generalize a2.tmps.getD 26 undef = y26
    generalize a2.tmps.getD 27 undef = y27
    generalize a2.tmps.getD 28 undef = y28
    generalize a2.tmps.getD 29 undef = y29
    generalize a2.tmps.getD 30 undef = y30
    generalize a2.tmps.getD 31 undef = y31
    generalize a2.tmps.getD 32 undef = y32
    generalize a2.tmps.getD 33 undef = y33
    generalize a2.tmps.getD 34 undef = y34
    have c6 := HX9.out.2.2.2.c0
    by_cases hc1 : c = 1
    · subst hc1
      have hnv := mg_bad HR.out
      have x3 := HX9.out.1.c
      go_wp2_with fail
      refine (specTree_any ad3 cp3 ts3 w9 HX9.out.1.es (by omega)).mono ?_
      rintro e w5 ⟨va, rfl, hva, hb5⟩
      have hbw5 := kept_below HB9.out hb5
      have x4 := (HX9.out.2.1.later hb5).c
      cases va with
      | false =>
        clear hva
        go_wp2
        go_ret
        exact ⟨rfl, hbw5⟩
      | true =>
        have HV1 : Keep (ValidTs ts3) := ⟨hva.1 rfl⟩
        clear hva
        go_wp2_with fail
        refine (specTree_any ad4 cp4 ts4 w5 (HX9.out.2.1.later hb5).es (by omega)).mono ?_
        rintro e w6 ⟨vb, rfl, hvb, hb6⟩
        have hbw6 := kept_below hbw5 hb6
        have x5 := ((HX9.out.2.2.1.later hb5).later hb6).c
        cases vb with
        | false =>
          clear hvb
          go_wp2
          go_ret
          exact ⟨rfl, hbw6⟩
        | true =>
          have HV2 : Keep (ValidTs ts4) := ⟨hvb.1 rfl⟩
          clear hvb
          go_wp2_with fail
          refine (specTree_any ad5 cp5 ts5 w6 ((HX9.out.2.2.1.later hb5).later hb6).es (by omega)).mono ?_
          rintro e w7 ⟨vc, rfl, hvc, hb7⟩
          have hbw7 := kept_below hbw6 hb7
          have hvf : vc = false := by
            cases vc with
            | false => rfl
            | true => exact absurd ⟨HV1.out, HV2.out, hvc.1 rfl⟩ hnv
          subst hvf
          clear hvc
          go_wp2
          go_ret
          exact ⟨rfl, hbw7⟩
    · have hc1' : (c == 1) = false := by simpa using hc1
      have HV : Keep (ValidTs ts3 ∧ ValidTs ts4 ∧ ValidTs ts5) := ⟨mg_good HR.out hc1⟩
      go_upto_region 9 with fail
      clear c6
      obtain ⟨w4', hw4⟩ : ∃ x, x = w9 := ⟨_, rfl⟩
      subst hw4
      have HX := HX9
      clear HX9
      refine (wpIn_wide (n := 0)).1 ?_
      refine wpIn_region_inv0 (by kernel_rfl) (by kernel_rfl) (fun T0 => EV0 T0 m9Ds (m9Tab ad3 ad4 ad5 ts3.length cp3 ts4.length cp4 ts5.length cp5) (m9Ex ts4 ts5) w4') ?_ ?_ ?_
      · exact ⟨Sl2.start _, (Below.refl _ _).drew, fun i _ hL => by rw [getD_repl] at hL; cases hL⟩
      · intro L a2 w9 hinv hall
        have e2 : a2.tmps.getD 2 undef = .bool true := hinv.sl.sl 25 (by decide) _ rfl (hall 25 (by decide))
        have HXX : Keep _ := ⟨hinv.sl.act⟩
        have HB10 : Keep (Below w.heap.size w w9) := ⟨kept_below HB9.out hinv.wd⟩
        clear hinv hall
        rw [HXX.out]
        simp only [updL, m9Ds, List.contains_cons, List.contains_nil, Nat.reduceAdd, Nat.reduceBEq, Bool.or_false, cond_false, cond_true, Bool.or_true, e2]
        go_wp2
        go_ret
        exact ⟨rfl, HB10.out⟩
      · intro L a2 w9 i o hinv hcl hL ho hdep
        have hin : i < 26 := (Array.getElem?_eq_some_iff.1 ho).1
        unfold wpOpIn
        rw [ho]
        clear hcl
        match i, hin, hL, ho, hdep with
        | 0, _, hL, ho, hdep =>
          injection ho with ho; subst ho
          dsimp only
          rw [if_pos (by rfl)]
          refine ⟨fun f _ => trivial, ?_⟩
          have e3 : a2.tmps[3]?.getD undef = .pointer (some ⟨b3, 0, none⟩) := hinv.sl.old (by decide)
          have z0 := (HX.out.1.later hinv.wd).c
          go_simp
          exact hinv.step m9Nd (m9St ts4 ts5) (i := 0) (by decide) (by show 52 < 77; decide) (fun u hu => by cases hu; rfl) trivial (Below.refl _ _)
        | 1, _, hL, ho, hdep =>
          injection ho with ho; subst ho
          dsimp only
          rw [if_pos (by rfl)]
          refine ⟨fun f _ => trivial, ?_⟩
          have e3 : a2.tmps[3]?.getD undef = .pointer (some ⟨b3, 0, none⟩) := hinv.sl.old (by decide)
          have z0 := (HX.out.1.later hinv.wd).c
          go_simp
          exact hinv.step m9Nd (m9St ts4 ts5) (i := 1) (by decide) (by show 53 < 77; decide) (fun u hu => by cases hu; rfl) trivial (Below.refl _ _)
        | 2, _, hL, ho, hdep =>
          injection ho with ho; subst ho
          dsimp only
          rw [if_pos (by rfl)]
          refine ⟨fun f _ => trivial, ?_⟩
          have e5 : a2.tmps[5]?.getD undef = .pointer (some ⟨b5, 0, none⟩) := hinv.sl.old (by decide)
          have z0 := (HX.out.2.2.1.later hinv.wd).c
          go_simp
          exact hinv.step m9Nd (m9St ts4 ts5) (i := 2) (by decide) (by show 54 < 77; decide) (fun u hu => by cases hu; rfl) trivial (Below.refl _ _)
        | 3, _, hL, ho, hdep =>
          injection ho with ho; subst ho
          dsimp only
          rw [if_pos (by rfl)]
          refine ⟨fun f _ => trivial, ?_⟩
          have e52 : a2.tmps[52]?.getD undef = .agg #[.slice ad3 ts3.length cp3] := hinv.sl.new (i := 0) (by decide) rfl (hdep ⟨0, .data⟩ (by simp) rfl)
          have e53 : a2.tmps[53]?.getD undef = .agg #[.slice ad3 ts3.length cp3] := hinv.sl.new (i := 1) (by decide) rfl (hdep ⟨1, .data⟩ (by simp) rfl)
          have e54 : a2.tmps[54]?.getD undef = .agg #[.slice ad5 ts5.length cp5] := hinv.sl.new (i := 2) (by decide) rfl (hdep ⟨2, .data⟩ (by simp) rfl)
          go_simp
          refine ⟨rfl, CallsIn.mono (callsIn_wide.2 (implMerge_any F (fun f x y W => implMText_any f x y _ W (hF f x y)) ad3 ad3 ad5 cp3 cp3 cp5 ts3 ts3 ts5 w9 (HX.out.1.later hinv.wd).es (HX.out.1.later hinv.wd).es (HX.out.2.2.1.later hinv.wd).es (by omega) (by omega) (by omega) HZ.out.1 HZ.out.1 HZ.out.2.2)) ?_⟩
          rintro e' w' ⟨c', us', ks', ad', cp', ak', ck', hR', rfl, hel', _, hrow', hb'⟩
          obtain ⟨rfl, rfl, rfl⟩ := mg_one (mg_left HV.out.1 HV.out.2.2) hR'
          exact hinv.step m9Nd (m9St ts4 ts5) (i := 3) (by decide) (by show 55 < 77; decide) (fun u hu => by cases hu) ⟨ad', cp', ak', ck', rfl, hel'.es, ss_of_rowM hrow'⟩ hb'
        | 4, _, hL, ho, hdep =>
          injection ho with ho; subst ho
          dsimp only
          rw [if_pos (by rfl)]
          refine ⟨fun f _ => trivial, ?_⟩
          have e5 : a2.tmps[5]?.getD undef = .pointer (some ⟨b5, 0, none⟩) := hinv.sl.old (by decide)
          have z0 := (HX.out.2.2.1.later hinv.wd).c
          go_simp
          exact hinv.step m9Nd (m9St ts4 ts5) (i := 4) (by decide) (by show 56 < 77; decide) (fun u hu => by cases hu; rfl) trivial (Below.refl _ _)
        | 5, _, hL, ho, hdep =>
          injection ho with ho; subst ho
          dsimp only
          rw [if_pos (by rfl)]
          refine ⟨fun f _ => trivial, ?_⟩
          have e56 : a2.tmps[56]?.getD undef = .agg #[.slice ad5 ts5.length cp5] := hinv.sl.new (i := 4) (by decide) rfl (hdep ⟨4, .data⟩ (by simp) rfl)
          go_simp
          exact hinv.step m9Nd (m9St ts4 ts5) (i := 5) (by decide) (by show 57 < 77; decide) (fun u hu => by cases hu; rfl) trivial (Below.refl _ _)
        | 6, _, hL, ho, hdep =>
          injection ho with ho; subst ho
          dsimp only
          rw [if_pos (by rfl)]
          refine ⟨fun f _ => trivial, ?_⟩
          have e57 : a2.tmps[57]?.getD undef = .agg #[.int .i64 0, .slice ad5 ts5.length cp5, .slice none 0 0] := hinv.sl.new (i := 5) (by decide) rfl (hdep ⟨5, .data⟩ (by simp) rfl)
          obtain ⟨ad', cp', ak', ck', h31, h32, h33⟩ := hinv.ex 3 (by decide) (hdep ⟨3, .data⟩ (by simp) rfl)
          have e55 : a2.tmps[55]?.getD undef = .agg #[.int .i64 0, .slice ad' ts5.length cp', .slice ak' ([] : List ByteArray).length ck'] := evalD2 h31
          go_simp
          refine ⟨rfl, CallsIn.mono (callsIn_wide.2 (wMerged_any 0 ts5 [] ad' ad5 ak' none cp' cp5 ck' 0 w9 h32 (HX.out.2.2.1.later hinv.wd).es h33 (.inl rfl) (by omega) (by simp))) ?_⟩
          rintro e' w' ⟨rfl, hb'⟩
          exact hinv.step m9Nd (m9St ts4 ts5) (i := 6) (by decide) (by show 58 < 77; decide) (fun u hu => by cases hu; rfl) trivial hb'
        | 7, _, hL, ho, hdep =>
          injection ho with ho; subst ho
          dsimp only
          rw [if_pos (by rfl)]
          refine ⟨fun f _ => trivial, ?_⟩
          have e58 : a2.tmps[58]?.getD undef = .bool true := hinv.sl.new (i := 6) (by decide) rfl (hdep ⟨6, .data⟩ (by simp) rfl)
          go_simp
          exact hinv.step m9Nd (m9St ts4 ts5) (i := 7) (by decide) (by show 59 < 77; decide) (fun u hu => by cases hu; rfl) trivial (Below.refl _ _)
        | 8, _, hL, ho, hdep =>
          injection ho with ho; subst ho
          dsimp only
          have t59 := tmp_someD (a := a2) (k := 59) (hinv.sl.new (i := 7) (by decide) rfl (hdep ⟨7, .guard⟩ (by simp) rfl))
          rw [if_pos (by simp [Region.wanted, yielded, t59])]
          refine ⟨fun f _ => trivial, ?_⟩
          have e3 : a2.tmps[3]?.getD undef = .pointer (some ⟨b3, 0, none⟩) := hinv.sl.old (by decide)
          have z0 := (HX.out.1.later hinv.wd).c
          go_simp
          exact hinv.step m9Nd (m9St ts4 ts5) (i := 8) (by decide) (by show 60 < 77; decide) (fun u hu => by cases hu; rfl) trivial (Below.refl _ _)
        | 9, _, hL, ho, hdep =>
          injection ho with ho; subst ho
          dsimp only
          have t59 := tmp_someD (a := a2) (k := 59) (hinv.sl.new (i := 7) (by decide) rfl (hdep ⟨7, .guard⟩ (by simp) rfl))
          rw [if_pos (by simp [Region.wanted, yielded, t59])]
          refine ⟨fun f _ => trivial, ?_⟩
          have e4 : a2.tmps[4]?.getD undef = .pointer (some ⟨b4, 0, none⟩) := hinv.sl.old (by decide)
          have z0 := (HX.out.2.1.later hinv.wd).c
          go_simp
          exact hinv.step m9Nd (m9St ts4 ts5) (i := 9) (by decide) (by show 61 < 77; decide) (fun u hu => by cases hu; rfl) trivial (Below.refl _ _)
        | 10, _, hL, ho, hdep =>
          injection ho with ho; subst ho
          dsimp only
          have t59 := tmp_someD (a := a2) (k := 59) (hinv.sl.new (i := 7) (by decide) rfl (hdep ⟨7, .guard⟩ (by simp) rfl))
          rw [if_pos (by simp [Region.wanted, yielded, t59])]
          refine ⟨fun f _ => trivial, ?_⟩
          have e3 : a2.tmps[3]?.getD undef = .pointer (some ⟨b3, 0, none⟩) := hinv.sl.old (by decide)
          have z0 := (HX.out.1.later hinv.wd).c
          go_simp
          exact hinv.step m9Nd (m9St ts4 ts5) (i := 10) (by decide) (by show 62 < 77; decide) (fun u hu => by cases hu; rfl) trivial (Below.refl _ _)
        | 11, _, hL, ho, hdep =>
          injection ho with ho; subst ho
          dsimp only
          have t59 := tmp_someD (a := a2) (k := 59) (hinv.sl.new (i := 7) (by decide) rfl (hdep ⟨7, .guard⟩ (by simp) rfl))
          rw [if_pos (by simp [Region.wanted, yielded, t59])]
          refine ⟨fun f _ => trivial, ?_⟩
          have e60 : a2.tmps[60]?.getD undef = .agg #[.slice ad3 ts3.length cp3] := hinv.sl.new (i := 8) (by decide) rfl (hdep ⟨8, .data⟩ (by simp) rfl)
          have e61 : a2.tmps[61]?.getD undef = .agg #[.slice ad4 ts4.length cp4] := hinv.sl.new (i := 9) (by decide) rfl (hdep ⟨9, .data⟩ (by simp) rfl)
          have e62 : a2.tmps[62]?.getD undef = .agg #[.slice ad3 ts3.length cp3] := hinv.sl.new (i := 10) (by decide) rfl (hdep ⟨10, .data⟩ (by simp) rfl)
          go_simp
          refine ⟨rfl, CallsIn.mono (callsIn_wide.2 (implMerge_any F (fun f x y W => implMText_any f x y _ W (hF f x y)) ad3 ad4 ad3 cp3 cp4 cp3 ts3 ts4 ts3 w9 (HX.out.1.later hinv.wd).es (HX.out.2.1.later hinv.wd).es (HX.out.1.later hinv.wd).es (by omega) (by omega) (by omega) HZ.out.1 HZ.out.2.1 HZ.out.1)) ?_⟩
          rintro e' w' ⟨c', us', ks', ad', cp', ak', ck', hR', rfl, hel', _, hrow', hb'⟩
          obtain ⟨rfl, rfl, rfl⟩ := mg_one (mg_right HV.out.1 HV.out.2.1) hR'
          exact hinv.step m9Nd (m9St ts4 ts5) (i := 11) (by decide) (by show 63 < 77; decide) (fun u hu => by cases hu) ⟨ad', cp', ak', ck', rfl, hel'.es, ss_of_rowM hrow'⟩ hb'
        | 12, _, hL, ho, hdep =>
          injection ho with ho; subst ho
          dsimp only
          have t59 := tmp_someD (a := a2) (k := 59) (hinv.sl.new (i := 7) (by decide) rfl (hdep ⟨7, .guard⟩ (by simp) rfl))
          rw [if_pos (by simp [Region.wanted, yielded, t59])]
          refine ⟨fun f _ => trivial, ?_⟩
          have e4 : a2.tmps[4]?.getD undef = .pointer (some ⟨b4, 0, none⟩) := hinv.sl.old (by decide)
          have z0 := (HX.out.2.1.later hinv.wd).c
          go_simp
          exact hinv.step m9Nd (m9St ts4 ts5) (i := 12) (by decide) (by show 64 < 77; decide) (fun u hu => by cases hu; rfl) trivial (Below.refl _ _)
        | 13, _, hL, ho, hdep =>
          injection ho with ho; subst ho
          dsimp only
          have t59 := tmp_someD (a := a2) (k := 59) (hinv.sl.new (i := 7) (by decide) rfl (hdep ⟨7, .guard⟩ (by simp) rfl))
          rw [if_pos (by simp [Region.wanted, yielded, t59])]
          refine ⟨fun f _ => trivial, ?_⟩
          have e64 : a2.tmps[64]?.getD undef = .agg #[.slice ad4 ts4.length cp4] := hinv.sl.new (i := 12) (by decide) rfl (hdep ⟨12, .data⟩ (by simp) rfl)
          go_simp
          exact hinv.step m9Nd (m9St ts4 ts5) (i := 13) (by decide) (by show 65 < 77; decide) (fun u hu => by cases hu; rfl) trivial (Below.refl _ _)
        | 14, _, hL, ho, hdep =>
          injection ho with ho; subst ho
          dsimp only
          have t59 := tmp_someD (a := a2) (k := 59) (hinv.sl.new (i := 7) (by decide) rfl (hdep ⟨7, .guard⟩ (by simp) rfl))
          rw [if_pos (by simp [Region.wanted, yielded, t59])]
          refine ⟨fun f _ => trivial, ?_⟩
          have e65 : a2.tmps[65]?.getD undef = .agg #[.int .i64 0, .slice ad4 ts4.length cp4, .slice none 0 0] := hinv.sl.new (i := 13) (by decide) rfl (hdep ⟨13, .data⟩ (by simp) rfl)
          obtain ⟨ad', cp', ak', ck', h31, h32, h33⟩ := hinv.ex 11 (by decide) (hdep ⟨11, .data⟩ (by simp) rfl)
          have e63 : a2.tmps[63]?.getD undef = .agg #[.int .i64 0, .slice ad' ts4.length cp', .slice ak' ([] : List ByteArray).length ck'] := evalD2 h31
          go_simp
          refine ⟨rfl, CallsIn.mono (callsIn_wide.2 (wMerged_any 0 ts4 [] ad' ad4 ak' none cp' cp4 ck' 0 w9 h32 (HX.out.2.1.later hinv.wd).es h33 (.inl rfl) (by omega) (by simp))) ?_⟩
          rintro e' w' ⟨rfl, hb'⟩
          exact hinv.step m9Nd (m9St ts4 ts5) (i := 14) (by decide) (by show 66 < 77; decide) (fun u hu => by cases hu; rfl) trivial hb'
        | 15, _, hL, ho, hdep =>
          injection ho with ho; subst ho
          dsimp only
          rw [if_pos (by rfl)]
          refine ⟨fun f _ => trivial, ?_⟩
          have e59 : a2.tmps[59]?.getD undef = .bool true := hinv.sl.new (i := 7) (by decide) rfl (hdep ⟨7, .data⟩ (by simp) rfl)
          have e66 : a2.tmps[66]?.getD undef = .bool true := hinv.sl.new (i := 14) (by decide) rfl (hdep ⟨14, .data⟩ (by simp) rfl)
          go_simp
          exact hinv.step m9Nd (m9St ts4 ts5) (i := 15) (by decide) (by show 67 < 77; decide) (fun u hu => by cases hu; rfl) trivial (Below.refl _ _)
        | 16, _, hL, ho, hdep =>
          injection ho with ho; subst ho
          dsimp only
          rw [if_pos (by rfl)]
          refine ⟨fun f _ => trivial, ?_⟩
          have e67 : a2.tmps[67]?.getD undef = .bool true := hinv.sl.new (i := 15) (by decide) rfl (hdep ⟨15, .data⟩ (by simp) rfl)
          go_simp
          exact hinv.step m9Nd (m9St ts4 ts5) (i := 16) (by decide) (by show 68 < 77; decide) (fun u hu => by cases hu; rfl) trivial (Below.refl _ _)
        | 17, _, hL, ho, hdep =>
          injection ho with ho; subst ho
          dsimp only
          have t68 := tmp_someD (a := a2) (k := 68) (hinv.sl.new (i := 16) (by decide) rfl (hdep ⟨16, .guard⟩ (by simp) rfl))
          rw [if_pos (by simp [Region.wanted, yielded, t68])]
          refine ⟨fun f _ => trivial, ?_⟩
          have e3 : a2.tmps[3]?.getD undef = .pointer (some ⟨b3, 0, none⟩) := hinv.sl.old (by decide)
          have z0 := (HX.out.1.later hinv.wd).c
          go_simp
          exact hinv.step m9Nd (m9St ts4 ts5) (i := 17) (by decide) (by show 69 < 77; decide) (fun u hu => by cases hu; rfl) trivial (Below.refl _ _)
        | 18, _, hL, ho, hdep =>
          injection ho with ho; subst ho
          dsimp only
          have t68 := tmp_someD (a := a2) (k := 68) (hinv.sl.new (i := 16) (by decide) rfl (hdep ⟨16, .guard⟩ (by simp) rfl))
          rw [if_pos (by simp [Region.wanted, yielded, t68])]
          refine ⟨fun f _ => trivial, ?_⟩
          have e4 : a2.tmps[4]?.getD undef = .pointer (some ⟨b4, 0, none⟩) := hinv.sl.old (by decide)
          have z0 := (HX.out.2.1.later hinv.wd).c
          go_simp
          exact hinv.step m9Nd (m9St ts4 ts5) (i := 18) (by decide) (by show 70 < 77; decide) (fun u hu => by cases hu; rfl) trivial (Below.refl _ _)
        | 19, _, hL, ho, hdep =>
          injection ho with ho; subst ho
          dsimp only
          have t68 := tmp_someD (a := a2) (k := 68) (hinv.sl.new (i := 16) (by decide) rfl (hdep ⟨16, .guard⟩ (by simp) rfl))
          rw [if_pos (by simp [Region.wanted, yielded, t68])]
          refine ⟨fun f _ => trivial, ?_⟩
          have e4 : a2.tmps[4]?.getD undef = .pointer (some ⟨b4, 0, none⟩) := hinv.sl.old (by decide)
          have z0 := (HX.out.2.1.later hinv.wd).c
          go_simp
          exact hinv.step m9Nd (m9St ts4 ts5) (i := 19) (by decide) (by show 71 < 77; decide) (fun u hu => by cases hu; rfl) trivial (Below.refl _ _)
        | 20, _, hL, ho, hdep =>
          injection ho with ho; subst ho
          dsimp only
          have t68 := tmp_someD (a := a2) (k := 68) (hinv.sl.new (i := 16) (by decide) rfl (hdep ⟨16, .guard⟩ (by simp) rfl))
          rw [if_pos (by simp [Region.wanted, yielded, t68])]
          refine ⟨fun f _ => trivial, ?_⟩
          have e69 : a2.tmps[69]?.getD undef = .agg #[.slice ad3 ts3.length cp3] := hinv.sl.new (i := 17) (by decide) rfl (hdep ⟨17, .data⟩ (by simp) rfl)
          have e70 : a2.tmps[70]?.getD undef = .agg #[.slice ad4 ts4.length cp4] := hinv.sl.new (i := 18) (by decide) rfl (hdep ⟨18, .data⟩ (by simp) rfl)
          have e71 : a2.tmps[71]?.getD undef = .agg #[.slice ad4 ts4.length cp4] := hinv.sl.new (i := 19) (by decide) rfl (hdep ⟨19, .data⟩ (by simp) rfl)
          go_simp
          refine ⟨rfl, CallsIn.mono (callsIn_wide.2 (implMerge_any F (fun f x y W => implMText_any f x y _ W (hF f x y)) ad3 ad4 ad4 cp3 cp4 cp4 ts3 ts4 ts4 w9 (HX.out.1.later hinv.wd).es (HX.out.2.1.later hinv.wd).es (HX.out.2.1.later hinv.wd).es (by omega) (by omega) (by omega) HZ.out.1 HZ.out.2.1 HZ.out.2.1)) ?_⟩
          rintro e' w' ⟨c', us', ks', ad', cp', ak', ck', hR', rfl, hel', _, hrow', hb'⟩
          obtain ⟨rfl, rfl, rfl⟩ := mg_one (mg_same HV.out.1 HV.out.2.1) hR'
          exact hinv.step m9Nd (m9St ts4 ts5) (i := 20) (by decide) (by show 72 < 77; decide) (fun u hu => by cases hu) ⟨ad', cp', ak', ck', rfl, hel'.es, ss_of_rowM hrow'⟩ hb'
        | 21, _, hL, ho, hdep =>
          injection ho with ho; subst ho
          dsimp only
          have t68 := tmp_someD (a := a2) (k := 68) (hinv.sl.new (i := 16) (by decide) rfl (hdep ⟨16, .guard⟩ (by simp) rfl))
          rw [if_pos (by simp [Region.wanted, yielded, t68])]
          refine ⟨fun f _ => trivial, ?_⟩
          have e4 : a2.tmps[4]?.getD undef = .pointer (some ⟨b4, 0, none⟩) := hinv.sl.old (by decide)
          have z0 := (HX.out.2.1.later hinv.wd).c
          go_simp
          exact hinv.step m9Nd (m9St ts4 ts5) (i := 21) (by decide) (by show 73 < 77; decide) (fun u hu => by cases hu; rfl) trivial (Below.refl _ _)
        | 22, _, hL, ho, hdep =>
          injection ho with ho; subst ho
          dsimp only
          have t68 := tmp_someD (a := a2) (k := 68) (hinv.sl.new (i := 16) (by decide) rfl (hdep ⟨16, .guard⟩ (by simp) rfl))
          rw [if_pos (by simp [Region.wanted, yielded, t68])]
          refine ⟨fun f _ => trivial, ?_⟩
          have e73 : a2.tmps[73]?.getD undef = .agg #[.slice ad4 ts4.length cp4] := hinv.sl.new (i := 21) (by decide) rfl (hdep ⟨21, .data⟩ (by simp) rfl)
          go_simp
          exact hinv.step m9Nd (m9St ts4 ts5) (i := 22) (by decide) (by show 74 < 77; decide) (fun u hu => by cases hu; rfl) trivial (Below.refl _ _)
        | 23, _, hL, ho, hdep =>
          injection ho with ho; subst ho
          dsimp only
          have t68 := tmp_someD (a := a2) (k := 68) (hinv.sl.new (i := 16) (by decide) rfl (hdep ⟨16, .guard⟩ (by simp) rfl))
          rw [if_pos (by simp [Region.wanted, yielded, t68])]
          refine ⟨fun f _ => trivial, ?_⟩
          have e74 : a2.tmps[74]?.getD undef = .agg #[.int .i64 0, .slice ad4 ts4.length cp4, .slice none 0 0] := hinv.sl.new (i := 22) (by decide) rfl (hdep ⟨22, .data⟩ (by simp) rfl)
          obtain ⟨ad', cp', ak', ck', h31, h32, h33⟩ := hinv.ex 20 (by decide) (hdep ⟨20, .data⟩ (by simp) rfl)
          have e72 : a2.tmps[72]?.getD undef = .agg #[.int .i64 0, .slice ad' ts4.length cp', .slice ak' ([] : List ByteArray).length ck'] := evalD2 h31
          go_simp
          refine ⟨rfl, CallsIn.mono (callsIn_wide.2 (wMerged_any 0 ts4 [] ad' ad4 ak' none cp' cp4 ck' 0 w9 h32 (HX.out.2.1.later hinv.wd).es h33 (.inl rfl) (by omega) (by simp))) ?_⟩
          rintro e' w' ⟨rfl, hb'⟩
          exact hinv.step m9Nd (m9St ts4 ts5) (i := 23) (by decide) (by show 75 < 77; decide) (fun u hu => by cases hu; rfl) trivial hb'
        | 24, _, hL, ho, hdep =>
          injection ho with ho; subst ho
          dsimp only
          rw [if_pos (by rfl)]
          refine ⟨fun f _ => trivial, ?_⟩
          have e68 : a2.tmps[68]?.getD undef = .bool true := hinv.sl.new (i := 16) (by decide) rfl (hdep ⟨16, .data⟩ (by simp) rfl)
          have e75 : a2.tmps[75]?.getD undef = .bool true := hinv.sl.new (i := 23) (by decide) rfl (hdep ⟨23, .data⟩ (by simp) rfl)
          go_simp
          exact hinv.step m9Nd (m9St ts4 ts5) (i := 24) (by decide) (by show 76 < 77; decide) (fun u hu => by cases hu; rfl) trivial (Below.refl _ _)
        | 25, _, hL, ho, hdep =>
          injection ho with ho; subst ho
          dsimp only
          rw [if_pos (by rfl)]
          refine ⟨fun f _ => trivial, ?_⟩
          have e76 : a2.tmps[76]?.getD undef = .bool true := hinv.sl.new (i := 24) (by decide) rfl (hdep ⟨24, .data⟩ (by simp) rfl)
          go_simp
          exact hinv.step m9Nd (m9St ts4 ts5) (i := 25) (by decide) (by show 2 < 77; decide) (fun u hu => by cases hu; rfl) trivial (Below.refl _ _)

  · intro L a2 w9 i o hinv hcl hL ho hdep
    have hin : i < 16 := (Array.getElem?_eq_some_iff.1 ho).1
    unfold wpOpIn
    rw [ho]
    clear hcl
    match i, hin, hL, ho, hdep with
    | 0, _, hL, ho, hdep =>
      injection ho with ho; subst ho
      dsimp only
      rw [if_pos (by rfl)]
      refine ⟨fun f _ => trivial, ?_⟩
      have e6 : a2.tmps[6]?.getD undef = .pointer (some ⟨b6, 0, none⟩) := hinv.sl.old (by decide)
      have hb6 := (HX.out.2.2.2).later hinv.wd
      have z0 := hb6.c0
      have z1 := hb6.c1
      have z2 := hb6.c2
      go_simp
      exact hinv.step m5Nd (m5St c us ks) (i := 0) (by decide) (by show 20 < 77; decide) (fun u hu => by cases hu; rfl) trivial (Below.refl _ _)
    | 1, _, hL, ho, hdep =>
      injection ho with ho; subst ho
      dsimp only
      rw [if_pos (by rfl)]
      refine ⟨fun f _ => trivial, ?_⟩
      have e3 : a2.tmps[3]?.getD undef = .pointer (some ⟨b3, 0, none⟩) := hinv.sl.old (by decide)
      have z0 := (HX.out.1.later hinv.wd).c
      go_simp
      exact hinv.step m5Nd (m5St c us ks) (i := 1) (by decide) (by show 21 < 77; decide) (fun u hu => by cases hu; rfl) trivial (Below.refl _ _)
    | 2, _, hL, ho, hdep =>
      injection ho with ho; subst ho
      dsimp only
      rw [if_pos (by rfl)]
      refine ⟨fun f _ => trivial, ?_⟩
      have e5 : a2.tmps[5]?.getD undef = .pointer (some ⟨b5, 0, none⟩) := hinv.sl.old (by decide)
      have z0 := (HX.out.2.2.1.later hinv.wd).c
      go_simp
      exact hinv.step m5Nd (m5St c us ks) (i := 2) (by decide) (by show 22 < 77; decide) (fun u hu => by cases hu; rfl) trivial (Below.refl _ _)
    | 3, _, hL, ho, hdep =>
      injection ho with ho; subst ho
      dsimp only
      rw [if_pos (by rfl)]
      refine ⟨fun f _ => trivial, ?_⟩
      have e4 : a2.tmps[4]?.getD undef = .pointer (some ⟨b4, 0, none⟩) := hinv.sl.old (by decide)
      have z0 := (HX.out.2.1.later hinv.wd).c
      go_simp
      exact hinv.step m5Nd (m5St c us ks) (i := 3) (by decide) (by show 23 < 77; decide) (fun u hu => by cases hu; rfl) trivial (Below.refl _ _)
    | 4, _, hL, ho, hdep =>
      injection ho with ho; subst ho
      dsimp only
      rw [if_pos (by rfl)]
      refine ⟨fun f _ => trivial, ?_⟩
      have e21 : a2.tmps[21]?.getD undef = .agg #[.slice ad3 ts3.length cp3] := hinv.sl.new (i := 1) (by decide) rfl (hdep ⟨1, .data⟩ (by simp) rfl)
      have e22 : a2.tmps[22]?.getD undef = .agg #[.slice ad5 ts5.length cp5] := hinv.sl.new (i := 2) (by decide) rfl (hdep ⟨2, .data⟩ (by simp) rfl)
      have e23 : a2.tmps[23]?.getD undef = .agg #[.slice ad4 ts4.length cp4] := hinv.sl.new (i := 3) (by decide) rfl (hdep ⟨3, .data⟩ (by simp) rfl)
      go_simp
      refine ⟨rfl, CallsIn.mono (callsIn_wide.2 (implMerge_any (fun x y z => F x z y) (fun f x y W => implMText_any f x y _ W (hF f y x).sym) ad3 ad5 ad4 cp3 cp5 cp4 ts3 ts5 ts4 w9 (HX.out.1.later hinv.wd).es (HX.out.2.2.1.later hinv.wd).es (HX.out.2.1.later hinv.wd).es (by omega) (by omega) (by omega) HZ.out.1 HZ.out.2.2 HZ.out.2.1)) ?_⟩
      rintro e' w' ⟨c', us', ks', ad', cp', ak', ck', hR', rfl, hel', _, hrow', hb'⟩
      obtain ⟨rfl, rfl, rfl⟩ := mg_one (mg_sym HR.out) hR'
      exact hinv.step m5Nd (m5St c us ks) (i := 4) (by decide) (by show 24 < 77; decide) (fun u hu => by cases hu) ⟨ad', cp', ak', ck', rfl, hel'.es, ss_of_rowM hrow'⟩ hb'
    | 5, _, hL, ho, hdep =>
      injection ho with ho; subst ho
      dsimp only
      rw [if_pos (by rfl)]
      refine ⟨fun f _ => trivial, ?_⟩
      have e20 : a2.tmps[20]?.getD undef = .agg #[.int .i64 c, .slice adm us.length cpm, .slice akm ks.length ckm] := hinv.sl.new (i := 0) (by decide) rfl (hdep ⟨0, .data⟩ (by simp) rfl)
      obtain ⟨ad', cp', ak', ck', h31, h32, h33⟩ := hinv.ex 4 (by decide) (hdep ⟨4, .data⟩ (by simp) rfl)
      have e24 : a2.tmps[24]?.getD undef = .agg #[.int .i64 c, .slice ad' us.length cp', .slice ak' ks.length ck'] := evalD2 h31
      go_simp
      refine ⟨rfl, CallsIn.mono (callsIn_wide.2 (wMerged_any c us ks adm ad' akm ak' cpm cp' ckm ck' w9 ((HX.out.2.2.2).later hinv.wd).es h32 ((HX.out.2.2.2).later hinv.wd).ss h33 (by omega) (by omega))) ?_⟩
      rintro e' w' ⟨rfl, hb'⟩
      exact hinv.step m5Nd (m5St c us ks) (i := 5) (by decide) (by show 25 < 77; decide) (fun u hu => by cases hu; rfl) trivial hb'
    | 6, _, hL, ho, hdep =>
      injection ho with ho; subst ho
      dsimp only
      rw [if_pos (by rfl)]
      refine ⟨fun f _ => trivial, ?_⟩
      have e25 : a2.tmps[25]?.getD undef = .bool true := hinv.sl.new (i := 5) (by decide) rfl (hdep ⟨5, .data⟩ (by simp) rfl)
      go_simp
      exact hinv.step m5Nd (m5St c us ks) (i := 6) (by decide) (by show 26 < 77; decide) (fun u hu => by cases hu; rfl) trivial (Below.refl _ _)
    | 7, _, hL, ho, hdep =>
      injection ho with ho; subst ho
      dsimp only
      rw [if_pos (by rfl)]
      refine ⟨fun f _ => trivial, ?_⟩
      have e26 : a2.tmps[26]?.getD undef = .bool false := hinv.sl.new (i := 6) (by decide) rfl (hdep ⟨6, .data⟩ (by simp) rfl)
      go_simp
      exact hinv.step m5Nd (m5St c us ks) (i := 7) (by decide) (by show 27 < 77; decide) (fun u hu => by cases hu; rfl) trivial (Below.refl _ _)
    | 8, _, hL, ho, hdep =>
      injection ho with ho; subst ho
      dsimp only
      have t27 := tmp_someD (a := a2) (k := 27) (hinv.sl.new (i := 7) (by decide) rfl (hdep ⟨7, .guard⟩ (by simp) rfl))
      rw [if_pos (by simp [Region.wanted, yielded, t27])]
      refine ⟨fun f _ => trivial, ?_⟩
      have e6 : a2.tmps[6]?.getD undef = .pointer (some ⟨b6, 0, none⟩) := hinv.sl.old (by decide)
      have hb6 := (HX.out.2.2.2).later hinv.wd
      have z0 := hb6.c0
      have z1 := hb6.c1
      have z2 := hb6.c2
      go_simp
      exact hinv.step m5Nd (m5St c us ks) (i := 8) (by decide) (by show 28 < 77; decide) (fun u hu => by cases hu; rfl) trivial (Below.refl _ _)
    | 9, _, hL, ho, hdep =>
      injection ho with ho; subst ho
      dsimp only
      have t27 := tmp_someD (a := a2) (k := 27) (hinv.sl.new (i := 7) (by decide) rfl (hdep ⟨7, .guard⟩ (by simp) rfl))
      rw [if_pos (by simp [Region.wanted, yielded, t27])]
      refine ⟨fun f _ => trivial, ?_⟩
      have e3 : a2.tmps[3]?.getD undef = .pointer (some ⟨b3, 0, none⟩) := hinv.sl.old (by decide)
      have z0 := (HX.out.1.later hinv.wd).c
      go_simp
      exact hinv.step m5Nd (m5St c us ks) (i := 9) (by decide) (by show 29 < 77; decide) (fun u hu => by cases hu; rfl) trivial (Below.refl _ _)
    | 10, _, hL, ho, hdep =>
      injection ho with ho; subst ho
      dsimp only
      have t27 := tmp_someD (a := a2) (k := 27) (hinv.sl.new (i := 7) (by decide) rfl (hdep ⟨7, .guard⟩ (by simp) rfl))
      rw [if_pos (by simp [Region.wanted, yielded, t27])]
      refine ⟨fun f _ => trivial, ?_⟩
      have e4 : a2.tmps[4]?.getD undef = .pointer (some ⟨b4, 0, none⟩) := hinv.sl.old (by decide)
      have z0 := (HX.out.2.1.later hinv.wd).c
      go_simp
      exact hinv.step m5Nd (m5St c us ks) (i := 10) (by decide) (by show 30 < 77; decide) (fun u hu => by cases hu; rfl) trivial (Below.refl _ _)
    | 11, _, hL, ho, hdep =>
      injection ho with ho; subst ho
      dsimp only
      have t27 := tmp_someD (a := a2) (k := 27) (hinv.sl.new (i := 7) (by decide) rfl (hdep ⟨7, .guard⟩ (by simp) rfl))
      rw [if_pos (by simp [Region.wanted, yielded, t27])]
      refine ⟨fun f _ => trivial, ?_⟩
      have e5 : a2.tmps[5]?.getD undef = .pointer (some ⟨b5, 0, none⟩) := hinv.sl.old (by decide)
      have z0 := (HX.out.2.2.1.later hinv.wd).c
      go_simp
      exact hinv.step m5Nd (m5St c us ks) (i := 11) (by decide) (by show 31 < 77; decide) (fun u hu => by cases hu; rfl) trivial (Below.refl _ _)
    | 12, _, hL, ho, hdep =>
      injection ho with ho; subst ho
      dsimp only
      have t27 := tmp_someD (a := a2) (k := 27) (hinv.sl.new (i := 7) (by decide) rfl (hdep ⟨7, .guard⟩ (by simp) rfl))
      rw [if_pos (by simp [Region.wanted, yielded, t27])]
      refine ⟨fun f _ => trivial, ?_⟩
      have e29 : a2.tmps[29]?.getD undef = .agg #[.slice ad3 ts3.length cp3] := hinv.sl.new (i := 9) (by decide) rfl (hdep ⟨9, .data⟩ (by simp) rfl)
      have e30 : a2.tmps[30]?.getD undef = .agg #[.slice ad4 ts4.length cp4] := hinv.sl.new (i := 10) (by decide) rfl (hdep ⟨10, .data⟩ (by simp) rfl)
      have e31 : a2.tmps[31]?.getD undef = .agg #[.slice ad5 ts5.length cp5] := hinv.sl.new (i := 11) (by decide) rfl (hdep ⟨11, .data⟩ (by simp) rfl)
      go_simp
      refine ⟨rfl, CallsIn.mono (callsIn_wide.2 (specMerge_any F (fun f x y W => specMText_any f x y _ W (hF f x y)) ad3 ad4 ad5 cp3 cp4 cp5 ts3 ts4 ts5 w9 (HX.out.1.later hinv.wd).es (HX.out.2.1.later hinv.wd).es (HX.out.2.2.1.later hinv.wd).es (by omega) (by omega) (by omega))) ?_⟩
      rintro e' w' ⟨c', us', ks', ad', cp', ak', ck', hR', rfl, hel', _, hrow', hb'⟩
      obtain ⟨rfl, rfl, rfl⟩ := mg_one (HR.out) hR'
      exact hinv.step m5Nd (m5St c us ks) (i := 12) (by decide) (by show 32 < 77; decide) (fun u hu => by cases hu) ⟨ad', cp', ak', ck', rfl, hel'.es, ss_of_rowM hrow'⟩ hb'
    | 13, _, hL, ho, hdep =>
      injection ho with ho; subst ho
      dsimp only
      have t27 := tmp_someD (a := a2) (k := 27) (hinv.sl.new (i := 7) (by decide) rfl (hdep ⟨7, .guard⟩ (by simp) rfl))
      rw [if_pos (by simp [Region.wanted, yielded, t27])]
      refine ⟨fun f _ => trivial, ?_⟩
      have e28 : a2.tmps[28]?.getD undef = .agg #[.int .i64 c, .slice adm us.length cpm, .slice akm ks.length ckm] := hinv.sl.new (i := 8) (by decide) rfl (hdep ⟨8, .data⟩ (by simp) rfl)
      obtain ⟨ad', cp', ak', ck', h31, h32, h33⟩ := hinv.ex 12 (by decide) (hdep ⟨12, .data⟩ (by simp) rfl)
      have e32 : a2.tmps[32]?.getD undef = .agg #[.int .i64 c, .slice ad' us.length cp', .slice ak' ks.length ck'] := evalD2 h31
      go_simp
      refine ⟨rfl, CallsIn.mono (callsIn_wide.2 (wMerged_any c us ks adm ad' akm ak' cpm cp' ckm ck' w9 ((HX.out.2.2.2).later hinv.wd).es h32 ((HX.out.2.2.2).later hinv.wd).ss h33 (by omega) (by omega))) ?_⟩
      rintro e' w' ⟨rfl, hb'⟩
      exact hinv.step m5Nd (m5St c us ks) (i := 13) (by decide) (by show 33 < 77; decide) (fun u hu => by cases hu; rfl) trivial hb'
    | 14, _, hL, ho, hdep =>
      injection ho with ho; subst ho
      dsimp only
      have t27 := tmp_someD (a := a2) (k := 27) (hinv.sl.new (i := 7) (by decide) rfl (hdep ⟨7, .guard⟩ (by simp) rfl))
      rw [if_pos (by simp [Region.wanted, yielded, t27])]
      refine ⟨fun f _ => trivial, ?_⟩
      have e33 : a2.tmps[33]?.getD undef = .bool true := hinv.sl.new (i := 13) (by decide) rfl (hdep ⟨13, .data⟩ (by simp) rfl)
      go_simp
      exact hinv.step m5Nd (m5St c us ks) (i := 14) (by decide) (by show 34 < 77; decide) (fun u hu => by cases hu; rfl) trivial (Below.refl _ _)
    | 15, _, hL, ho, hdep =>
      injection ho with ho; subst ho
      dsimp only
      rw [if_pos (by rfl)]
      refine ⟨fun f _ => trivial, ?_⟩
      have e27 : a2.tmps[27]?.getD undef = .bool false := hinv.sl.new (i := 7) (by decide) rfl (hdep ⟨7, .data⟩ (by simp) rfl)
      have e34 : a2.tmps[34]?.getD undef = .bool false := hinv.sl.new (i := 14) (by decide) rfl (hdep ⟨14, .data⟩ (by simp) rfl)
      go_simp
      exact hinv.step m5Nd (m5St c us ks) (i := 15) (by decide) (by show 35 < 77; decide) (fun u hu => by cases hu; rfl) trivial (Below.refl _ _)

end Go.Proofs.YtjiafjdjocmodaaGreat
