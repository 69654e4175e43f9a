/-
  DrawQd, DrawPs, CopyC, DrawPv, DrawPw: laid as one text.
-/
import Derived.Test.YtjlflmbifeocbaaZbg
import Derived.Test.YtjlflmbifeocbaaNear
import Derived.Test.YtjlflmbifeocbaaZbf
import Derived.Test.YtjlflmbifeocbaaZba
import Derived.Test.YtjlflmbifeocbaaZbb
import Derived.Maps.AppendAt
import Derived.Deep.Slices
namespace Go.Proofs.Ytjlflmbifeocbaa
open Go.RowKit

def nTabQ (t : Tr) (g k : Nat) : Nat → Option Value
  | 0 => some (.agg #[.slice t.ad t.ts.length t.cp])
  | 1 => some (.agg #[.slice t.ad t.ts.length t.cp])
  | 2 => some (.pointer (some ⟨g, 0, none⟩))
  | 3 => bif k == 4 then some (.agg #[.slice t.ad t.ts.length t.cp]) else none
  | _ => none
def nExQ (ts : List En) (lo k : Nat) (i : Nat) (v : Value) (w : World) : Prop := (i + 1 = k → treF lo v w) ∧ (i = k → patF ts lo v w)
theorem nStQ {ts : List En} {lo k j : Nat} {w w' : World} (hg : w.grownBy w' (some j)) (hj : j < lo) : ∀ i v, nExQ ts lo k i v w → nExQ ts lo k i v w' := fun _ _ h => ⟨fun e => (h.1 e).on hg hj, fun e => (h.2 e).on hg hj⟩
def dsA : List Nat := [10, 11, 12, 13, 14, 1000, 1001]
theorem ndA : dsA.Nodup := by decide
def dsB : List Nat := [15, 16, 17, 18, 19, 20, 1000, 1001]
theorem ndB : dsB.Nodup := by decide

set_option maxRecDepth 100000 in
set_option maxHeartbeats 8000000 in
theorem l6Draw_any (g : Nat) (a : Option Addr) (cap : Nat) (zs : List Int) (p : Nat) (w : World) (h : Rd w g a cap zs p) (hp : p ≤ 1000000) :
    Calls Try.prog 43 #[.pointer (some ⟨g, 0, none⟩)] w (Drawn6 g a cap zs 500 p w) := by
  have hglt := h.lt
  have hal : Below w.heap.size w ((w.alloc (.cells #[.slice none 0 0] 25)).alloc (.cells #[.slice none 0 0] 30)) := ((Below.refl _ _).alloc (Nat.le_refl _) _).alloc (by simp) _
  have a0 : ((w.alloc (.cells #[.slice none 0 0] 25)).alloc (.cells #[.slice none 0 0] 30)).cell? ⟨w.heap.size, 0, none⟩ = some (.slice none 0 0) := by simp [go_sem]
  have af0 : ((w.alloc (.cells #[.slice none 0 0] 25)).alloc (.cells #[.slice none 0 0] 30)).frozen? ⟨w.heap.size, 0, none⟩ = false := by simp [go_sem]
  have b0 : ((w.alloc (.cells #[.slice none 0 0] 25)).alloc (.cells #[.slice none 0 0] 30)).cell? ⟨w.heap.size + 1, 0, none⟩ = some (.slice none 0 0) := by simp [go_sem]
  have bf0 : ((w.alloc (.cells #[.slice none 0 0] 25)).alloc (.cells #[.slice none 0 0] 30)).frozen? ⟨w.heap.size + 1, 0, none⟩ = false := by simp [go_sem]
  have hsz : ((w.alloc (.cells #[.slice none 0 0] 25)).alloc (.cells #[.slice none 0 0] 30)).heap.size = w.heap.size + 1 + 1 := by simp
  have hdr := l5DrawC_any g a cap zs p _ (h.below hal) (by omega)
  go_enter Try.func43, Try.ntmps43
  go_wp2_with fail
  refine hdr.mono ?_
  rintro e w1 ⟨ad, cp, ts, rfl, hel, hn, hA, hT, hNil, ⟨⟨p1, hp1, hR1⟩, hg1⟩, hrm⟩
  have T4 := TX.new (g := g) (t := ⟨ad, cp, ts⟩) hel (by rw [hsz]; omega) hrm
  have hbt := hel.btw
  have hba := below_oneD w1 (.cells #[.slice ad ts.length cp] 25)
  have hs1 := hg1.size
  have hQ : Q6 w g w.heap.size (w.heap.size + 1) w1.heap.size a cap zs p1 ⟨ad, cp, ts⟩ (.slice none 0 0) (.slice none 0 0) (w1.alloc (.cells #[.slice ad ts.length cp] 25)) := by
    have k2 := hg1.block w.heap.size (by omega) (by simp; omega)
    have k3 := hg1.block (w.heap.size + 1) (by omega) (by simp; omega)
    refine ⟨hR1.below hba, gr_trans (gr_trans (gr_below hal) hg1) (gr_below hba), T4.wide hbt ?_, (hel.mono (by omega)).below hba, cell_later hba ((World.cell?_of_block k2).trans a0), (hba.frozen (p := ⟨w.heap.size, 0, none⟩) (by show w.heap.size < _; omega)).trans (frozen_of k2 af0), cell_later hba ((World.cell?_of_block k3).trans b0), (hba.frozen (p := ⟨w.heap.size + 1, 0, none⟩) (by show w.heap.size + 1 < _; omega)).trans (frozen_of k3 bf0), by omega⟩
    intro k hk
    simp only [List.mem_cons, List.not_mem_nil, or_false] at hk
    omega
  have HT : Keep (Asc ts ∧ Tiny 40 20 ts ∧ NilOk ad cp) := ⟨⟨hA, hT, hNil⟩⟩
  clear hdr hel hg1 hR1 hA hT hNil T4 hbt hba a0 af0 b0 bf0 hal hsz
  go_upto_region 2 with fail
  generalize w1.alloc (.cells #[.slice ad ts.length cp] 25) = w2 at *
  generalize w1.heap.size = b4 at *
  obtain ⟨r3, hr3⟩ : ∃ r3, r3 = w.heap.size + 1 := ⟨_, rfl⟩
  obtain ⟨r2, hr2⟩ : ∃ r2, r2 = w.heap.size := ⟨_, rfl⟩
  have hQ' : Q6 w g r2 r3 b4 a cap zs p1 ⟨ad, cp, ts⟩ (.slice none 0 0) (.slice none 0 0) w2 := by rw [hr2, hr3]; exact hQ
  rw [← hr3]
  rw [← hr2]
  clear hQ hr2 hr3 hs1
  go_wp2_with fail
  refine (pick_any g a cap zs p1 3 w2 hQ'.rd (by omega) (by omega) (by omega)).mono ?_
  rintro e w3 ⟨y, rfl, hy, hg3, hR3⟩
  have hQ3 := hQ'.step hg3 hR3
  clear hQ' hg3 hR3
  have HG : Keep (g < b4 + 1 ∧ r2 < b4 + 1 ∧ r3 < b4 + 1) := ⟨by have := hQ3.ord; omega⟩
  have HQ : Keep (Q6 w g r2 r3 b4 a cap zs (p1 + 1) ⟨ad, cp, ts⟩ (.slice none 0 0) (.slice none 0 0) w3.drew) := ⟨hQ3.later (Below.refl _ _).drew⟩
  clear hQ3
  by_cases y0 : y = 0
  · have hB : ((y : Int) == 0) = true := by simp; omega
    clear y0
    go_upto_region 3 with fail
    refine (wpIn_wide (n := 0)).1 ?_
    refine wpIn_region_inv0 (by kernel_rfl) (by kernel_rfl) (fun T0 => EVF T0 dsA (nTabQ ⟨ad, cp, ts⟩ g 3) (nExQ ts (b4 + 1) 4) (IQ 3 5 6 (p1 + 1) w g r2 r3 b4 a cap zs ⟨ad, cp, ts⟩)) ?_ ?_ ?_
    · exact ⟨Sl2.start _, ⟨p1 + 1, _, .inl (Nat.le_refl _), by rw [getD_repl]; exact HQ.out, .inl ⟨getD_repl _ _, rfl⟩⟩, fun i _ hL => by rw [getD_repl] at hL; cases hL⟩
    · intro L a2 w9 hinv hall
      obtain ⟨adp, cpp, cs, z2, z3, hF⟩ := hinv.wd.fin (p0 := p) (hall 5 (by decide)) (hall 6 (by decide)) (by omega) hn HT.out.1 HT.out.2.1 HT.out.2.2
      have HXX : Keep _ := ⟨hinv.sl.act⟩
      have HF : Keep _ := ⟨hF⟩
      clear hinv hall hF
      rw [HXX.out]
      simp only [updL, dsA, List.contains_cons, List.contains_nil, Nat.reduceAdd, Nat.reduceBEq, Bool.or_false, cond_false, cond_true, Bool.or_true]
      go_wp2
      refine bodyPost_ret (v := .tuple #[.agg #[.slice ad ts.length cp], .agg #[.slice adp cs.length cpp]]) ?_ rfl HF.out
      go_light
      simp [results, Try.results43, go_sem, z2, z3]
    · intro L a2 w9 i o hinv hcl hL ho hdep
      have hin : i < 7 := (Array.getElem?_eq_some_iff.1 ho).1
      unfold wpOpIn
      rw [ho]
      clear hcl
      match i, hin, hL, ho, hdep with
      | 0, _, hL, ho, hdep =>
        injection ho with ho; subst ho
        dsimp only
        rw [if_pos (by rfl)]
        refine ⟨fun f _ => trivial, ?_⟩
        have e4 : a2.tmps[4]?.getD undef = .pointer (some ⟨b4, 0, none⟩) := hinv.sl.old (by decide)
        have z0 := hinv.wd.ox.1.c
        dsimp only at z0
        go_simp
        exact hinv.step ndA (nStQ (j := g) (gr_below (Below.refl _ _)) HG.out.1) (i := 0) (by decide) (by show 10 < 21; decide) (fun u hu => by cases hu; rfl) ⟨fun e => by omega, fun e => by omega⟩ (hinv.wd.keep (by omega) (by omega) (by omega) (Below.refl _ _))
      | 1, _, hL, ho, hdep =>
        injection ho with ho; subst ho
        dsimp only
        rw [if_pos (by rfl)]
        refine ⟨fun f _ => trivial, ?_⟩
        have e4 : a2.tmps[4]?.getD undef = .pointer (some ⟨b4, 0, none⟩) := hinv.sl.old (by decide)
        have z0 := hinv.wd.ox.1.c
        dsimp only at z0
        go_simp
        exact hinv.step ndA (nStQ (j := g) (gr_below (Below.refl _ _)) HG.out.1) (i := 1) (by decide) (by show 11 < 21; decide) (fun u hu => by cases hu; rfl) ⟨fun e => by omega, fun e => by omega⟩ (hinv.wd.keep (by omega) (by omega) (by omega) (Below.refl _ _))
      | 2, _, hL, ho, hdep =>
        injection ho with ho; subst ho
        dsimp only
        rw [if_pos (by rfl)]
        refine ⟨fun f _ => trivial, ?_⟩
        have e0 : a2.tmps[0]?.getD undef = .pointer (some ⟨g, 0, none⟩) := hinv.sl.old (by decide)
        go_simp
        exact hinv.step ndA (nStQ (j := g) (gr_below (Below.refl _ _)) HG.out.1) (i := 2) (by decide) (by show 12 < 21; decide) (fun u hu => by cases hu; rfl) ⟨fun e => by omega, fun e => by omega⟩ (hinv.wd.keep (by omega) (by omega) (by omega) (Below.refl _ _))
      | 3, _, hL, ho, hdep =>
        injection ho with ho; subst ho
        dsimp only
        rw [if_pos (by rfl)]
        refine ⟨fun f _ => trivial, ?_⟩
        have e12 : a2.tmps[12]?.getD undef = .pointer (some ⟨g, 0, none⟩) := hinv.sl.new (i := 2) (by decide) rfl (hdep ⟨2, .data⟩ (by simp) rfl)
        obtain ⟨p9, hp9, hR9, hnx⟩ := hinv.wd.draw (by omega) (by omega) hL
        have hb9 := hinv.wd.ox.2.2.2.2
        go_simp
        refine ⟨rfl, CallsIn.mono (callsIn_wide.2 (l5DrawC_any g a cap zs p9 w9 hR9 (by omega))) ?_⟩
        rintro e' w' ⟨ad', cp', us, rfl, hel', hn', hA', hT', hNil', ⟨⟨p', hp', hR'⟩, hg'⟩, hrm'⟩
        exact hinv.step ndA (nStQ (j := g) hg' HG.out.1) (i := 3) (by decide) (by show 13 < 21; decide) (fun u hu => by cases hu) ⟨fun _ => ⟨ad', cp', us, rfl, hel'.mono hb9, by omega, hT'.wide (by omega) (by omega)⟩, fun e => by omega⟩ (hnx w' p' (by omega) hg' hR')
      | 4, _, hL, ho, hdep =>
        injection ho with ho; subst ho
        dsimp only
        rw [if_pos (by rfl)]
        refine ⟨fun f _ => trivial, ?_⟩
        have e11 : a2.tmps[11]?.getD undef = .agg #[.slice ad ts.length cp] := hinv.sl.new (i := 1) (by decide) rfl (hdep ⟨1, .data⟩ (by simp) rfl)
        obtain ⟨ad', cp', us, h31, h32, h33, h34⟩ := (hinv.ex 3 (by decide) (hdep ⟨3, .data⟩ (by simp) rfl)).1 rfl
        have e13 : a2.tmps[13]?.getD undef = .agg #[.slice ad' us.length cp'] := evalD2 h31
        have hx := hinv.wd.ox.1.el.es
        have hb9 := hinv.wd.ox.2.2.2.2
        go_simp
        refine ⟨rfl, CallsIn.mono (callsIn_wide.2 (specDiffC_any ad ad' cp cp' ts us w9 hx h32.es (by omega) (by omega))) ?_⟩
        rintro e' w' ⟨cs, hD, ⟨adc, cpc, rfl, hcl', hr'⟩, hb'⟩
        exact hinv.step ndA (nStQ (j := g) (gr_below hb') HG.out.1) (i := 4) (by decide) (by show 14 < 21; decide) (fun u hu => by cases hu) ⟨fun e => by omega, fun _ => ⟨adc, cpc, cs, rfl, hcl'.mono hb9, hr', us, hD, h33, h34⟩⟩ (hinv.wd.keep (by omega) (by omega) (by omega) hb')
      | 5, _, hL, ho, hdep =>
        injection ho with ho; subst ho
        dsimp only
        rw [if_pos (by rfl)]
        refine ⟨fun f _ => trivial, ?_⟩
        have e2 : a2.tmps[2]?.getD undef = .pointer (some ⟨r2, 0, none⟩) := hinv.sl.old (by decide)
        have e10 : a2.tmps[10]?.getD undef = .agg #[.slice ad ts.length cp] := hinv.sl.new (i := 0) (by decide) rfl (hdep ⟨0, .data⟩ (by simp) rfl)
        have z0 := hinv.wd.ox.2.1.1
        have z1 := hinv.wd.ox.2.1.2
        go_simp
        exact hinv.skip (nStQ (j := r2) (grown_set0 w9 r2 0 _) HG.out.2.1) (i := 5) rfl (fun v => ⟨fun e => by omega, fun e => by omega⟩) (hinv.wd.st2 (by omega) (by omega) hL)
      | 6, _, hL, ho, hdep =>
        injection ho with ho; subst ho
        dsimp only
        rw [if_pos (by rfl)]
        refine ⟨fun f _ => trivial, ?_⟩
        have e3 : a2.tmps[3]?.getD undef = .pointer (some ⟨r3, 0, none⟩) := hinv.sl.old (by decide)
        obtain ⟨adc, cpc, cs, h41, h42⟩ := (hinv.ex 4 (by decide) (hdep ⟨4, .data⟩ (by simp) rfl)).2 rfl
        have e14 : a2.tmps[14]?.getD undef = .agg #[.slice adc cs.length cpc] := evalD2 h41
        have z0 := hinv.wd.ox.2.2.1 (getD_ft hL)
        have z1 := hinv.wd.ox.2.2.2.1
        go_simp
        exact hinv.skip (nStQ (j := r3) (grown_set0 w9 r3 0 _) HG.out.2.2) (i := 6) rfl (fun v => ⟨fun e => by omega, fun e => by omega⟩) (hinv.wd.st3 (by omega) (by omega) hL h42)
  · have hB : ((y : Int) == 0) = false := by simp; omega
    clear y0
    go_upto_region 4 with fail
    refine (wpIn_wide (n := 0)).1 ?_
    refine wpIn_region_inv0 (by kernel_rfl) (by kernel_rfl) (fun T0 => EVF T0 dsB (nTabQ ⟨ad, cp, ts⟩ g 4) (nExQ ts (b4 + 1) 5) (IQ 4 6 7 (p1 + 1) w g r2 r3 b4 a cap zs ⟨ad, cp, ts⟩)) ?_ ?_ ?_
    · exact ⟨Sl2.start _, ⟨p1 + 1, _, .inl (Nat.le_refl _), by rw [getD_repl]; exact HQ.out, .inl ⟨getD_repl _ _, rfl⟩⟩, fun i _ hL => by rw [getD_repl] at hL; cases hL⟩
    · intro L a2 w9 hinv hall
      obtain ⟨adp, cpp, cs, z2, z3, hF⟩ := hinv.wd.fin (p0 := p) (hall 6 (by decide)) (hall 7 (by decide)) (by omega) hn HT.out.1 HT.out.2.1 HT.out.2.2
      have HXX : Keep _ := ⟨hinv.sl.act⟩
      have HF : Keep _ := ⟨hF⟩
      clear hinv hall hF
      rw [HXX.out]
      simp only [updL, dsB, List.contains_cons, List.contains_nil, Nat.reduceAdd, Nat.reduceBEq, Bool.or_false, cond_false, cond_true, Bool.or_true]
      go_wp2
      refine bodyPost_ret (v := .tuple #[.agg #[.slice ad ts.length cp], .agg #[.slice adp cs.length cpp]]) ?_ rfl HF.out
      go_light
      simp [results, Try.results43, go_sem, z2, z3]
    · intro L a2 w9 i o hinv hcl hL ho hdep
      have hin : i < 8 := (Array.getElem?_eq_some_iff.1 ho).1
      unfold wpOpIn
      rw [ho]
      clear hcl
      match i, hin, hL, ho, hdep with
      | 0, _, hL, ho, hdep =>
        injection ho with ho; subst ho
        dsimp only
        rw [if_pos (by rfl)]
        refine ⟨fun f _ => trivial, ?_⟩
        have e4 : a2.tmps[4]?.getD undef = .pointer (some ⟨b4, 0, none⟩) := hinv.sl.old (by decide)
        have z0 := hinv.wd.ox.1.c
        dsimp only at z0
        go_simp
        exact hinv.step ndB (nStQ (j := g) (gr_below (Below.refl _ _)) HG.out.1) (i := 0) (by decide) (by show 15 < 21; decide) (fun u hu => by cases hu; rfl) ⟨fun e => by omega, fun e => by omega⟩ (hinv.wd.keep (by omega) (by omega) (by omega) (Below.refl _ _))
      | 1, _, hL, ho, hdep =>
        injection ho with ho; subst ho
        dsimp only
        rw [if_pos (by rfl)]
        refine ⟨fun f _ => trivial, ?_⟩
        have e4 : a2.tmps[4]?.getD undef = .pointer (some ⟨b4, 0, none⟩) := hinv.sl.old (by decide)
        have z0 := hinv.wd.ox.1.c
        dsimp only at z0
        go_simp
        exact hinv.step ndB (nStQ (j := g) (gr_below (Below.refl _ _)) HG.out.1) (i := 1) (by decide) (by show 16 < 21; decide) (fun u hu => by cases hu; rfl) ⟨fun e => by omega, fun e => by omega⟩ (hinv.wd.keep (by omega) (by omega) (by omega) (Below.refl _ _))
      | 2, _, hL, ho, hdep =>
        injection ho with ho; subst ho
        dsimp only
        rw [if_pos (by rfl)]
        refine ⟨fun f _ => trivial, ?_⟩
        have e0 : a2.tmps[0]?.getD undef = .pointer (some ⟨g, 0, none⟩) := hinv.sl.old (by decide)
        go_simp
        exact hinv.step ndB (nStQ (j := g) (gr_below (Below.refl _ _)) HG.out.1) (i := 2) (by decide) (by show 17 < 21; decide) (fun u hu => by cases hu; rfl) ⟨fun e => by omega, fun e => by omega⟩ (hinv.wd.keep (by omega) (by omega) (by omega) (Below.refl _ _))
      | 3, _, hL, ho, hdep =>
        injection ho with ho; subst ho
        dsimp only
        rw [if_pos (by rfl)]
        refine ⟨fun f _ => trivial, ?_⟩
        have e4 : a2.tmps[4]?.getD undef = .pointer (some ⟨b4, 0, none⟩) := hinv.sl.old (by decide)
        have z0 := hinv.wd.ox.1.c
        dsimp only at z0
        go_simp
        exact hinv.step ndB (nStQ (j := g) (gr_below (Below.refl _ _)) HG.out.1) (i := 3) (by decide) (by show 18 < 21; decide) (fun u hu => by cases hu; rfl) ⟨fun e => by omega, fun e => by omega⟩ (hinv.wd.keep (by omega) (by omega) (by omega) (Below.refl _ _))
      | 4, _, hL, ho, hdep =>
        injection ho with ho; subst ho
        dsimp only
        rw [if_pos (by rfl)]
        refine ⟨fun f _ => trivial, ?_⟩
        have e17 : a2.tmps[17]?.getD undef = .pointer (some ⟨g, 0, none⟩) := hinv.sl.new (i := 2) (by decide) rfl (hdep ⟨2, .data⟩ (by simp) rfl)
        have e18 : a2.tmps[18]?.getD undef = .agg #[.slice ad ts.length cp] := hinv.sl.new (i := 3) (by decide) rfl (hdep ⟨3, .data⟩ (by simp) rfl)
        obtain ⟨p9, hp9, hR9, hnx⟩ := hinv.wd.draw (by omega) (by omega) hL
        have hb9 := hinv.wd.ox.2.2.2.2
        have hx := hinv.wd.ox.1.el.es
        go_simp
        refine ⟨rfl, CallsIn.mono (callsIn_wide.2 (l5NearA_any g a cap zs p9 ad cp ts w9 hR9 (by omega) hx HT.out.2.2 (HT.out.2.1.wide (by omega) (by omega)) (by omega))) ?_⟩
        rintro e' w' ⟨ad', cp', us, rfl, hel', hn', hT', hNil', ⟨⟨p', hp', hR'⟩, hg'⟩, hA', hrm'⟩
        exact hinv.step ndB (nStQ (j := g) hg' HG.out.1) (i := 4) (by decide) (by show 19 < 21; decide) (fun u hu => by cases hu) ⟨fun _ => ⟨ad', cp', us, rfl, hel'.mono hb9, hn', hT'⟩, fun e => by omega⟩ (hnx w' p' (by omega) hg' hR')
      | 5, _, hL, ho, hdep =>
        injection ho with ho; subst ho
        dsimp only
        rw [if_pos (by rfl)]
        refine ⟨fun f _ => trivial, ?_⟩
        have e16 : a2.tmps[16]?.getD undef = .agg #[.slice ad ts.length cp] := hinv.sl.new (i := 1) (by decide) rfl (hdep ⟨1, .data⟩ (by simp) rfl)
        obtain ⟨ad', cp', us, h31, h32, h33, h34⟩ := (hinv.ex 4 (by decide) (hdep ⟨4, .data⟩ (by simp) rfl)).1 rfl
        have e19 : a2.tmps[19]?.getD undef = .agg #[.slice ad' us.length cp'] := evalD2 h31
        have hx := hinv.wd.ox.1.el.es
        have hb9 := hinv.wd.ox.2.2.2.2
        go_simp
        refine ⟨rfl, CallsIn.mono (callsIn_wide.2 (specDiffC_any ad ad' cp cp' ts us w9 hx h32.es (by omega) (by omega))) ?_⟩
        rintro e' w' ⟨cs, hD, ⟨adc, cpc, rfl, hcl', hr'⟩, hb'⟩
        exact hinv.step ndB (nStQ (j := g) (gr_below hb') HG.out.1) (i := 5) (by decide) (by show 20 < 21; decide) (fun u hu => by cases hu) ⟨fun e => by omega, fun _ => ⟨adc, cpc, cs, rfl, hcl'.mono hb9, hr', us, hD, h33, h34⟩⟩ (hinv.wd.keep (by omega) (by omega) (by omega) hb')
      | 6, _, hL, ho, hdep =>
        injection ho with ho; subst ho
        dsimp only
        rw [if_pos (by rfl)]
        refine ⟨fun f _ => trivial, ?_⟩
        have e2 : a2.tmps[2]?.getD undef = .pointer (some ⟨r2, 0, none⟩) := hinv.sl.old (by decide)
        have e15 : a2.tmps[15]?.getD undef = .agg #[.slice ad ts.length cp] := hinv.sl.new (i := 0) (by decide) rfl (hdep ⟨0, .data⟩ (by simp) rfl)
        have z0 := hinv.wd.ox.2.1.1
        have z1 := hinv.wd.ox.2.1.2
        go_simp
        exact hinv.skip (nStQ (j := r2) (grown_set0 w9 r2 0 _) HG.out.2.1) (i := 6) rfl (fun v => ⟨fun e => by omega, fun e => by omega⟩) (hinv.wd.st2 (by omega) (by omega) hL)
      | 7, _, hL, ho, hdep =>
        injection ho with ho; subst ho
        dsimp only
        rw [if_pos (by rfl)]
        refine ⟨fun f _ => trivial, ?_⟩
        have e3 : a2.tmps[3]?.getD undef = .pointer (some ⟨r3, 0, none⟩) := hinv.sl.old (by decide)
        obtain ⟨adc, cpc, cs, h41, h42⟩ := (hinv.ex 5 (by decide) (hdep ⟨5, .data⟩ (by simp) rfl)).2 rfl
        have e20 : a2.tmps[20]?.getD undef = .agg #[.slice adc cs.length cpc] := evalD2 h41
        have z0 := hinv.wd.ox.2.2.1 (getD_ft hL)
        have z1 := hinv.wd.ox.2.2.2.1
        go_simp
        exact hinv.skip (nStQ (j := r3) (grown_set0 w9 r3 0 _) HG.out.2.2) (i := 7) rfl (fun v => ⟨fun e => by omega, fun e => by omega⟩) (hinv.wd.st3 (by omega) (by omega) hL h42)
end Go.Proofs.Ytjlflmbifeocbaa

namespace Go.Proofs.Ytjlflmbifeocbaa
open Go.RowKit

structure LS6 (g : Nat) (a : Option Addr) (cap : Nat) (zs : List Int) (w : World) (rs tb : Nat) (ad : Option Addr) (cp : Nat) (cs : List Ch) (p : Nat) (W : World) : Prop where
  rd : Rd W g a cap zs p
  gr : w.grownBy W (some g)
  rc : W.cell? ⟨rs, 0, none⟩ = some (.slice none 0 0)
  rf : W.frozen? ⟨rs, 0, none⟩ = false
  tc : W.cell? ⟨tb, 0, none⟩ = some (.slice ad cs.length cp)
  tf : W.frozen? ⟨tb, 0, none⟩ = false
  row : W.ownsRow (rs + 1) 68 7 (.slice ad cs.length cp) cs.length (ccells cs)
  ap : blk ad ≠ some tb
  ord : g < w.heap.size ∧ w.heap.size ≤ rs ∧ rs < tb
section
variable {g : Nat} {a : Option Addr} {cap : Nat} {zs : List Int} {w : World} {rs tb : Nat} {ad ad' : Option Addr} {cp cp' : Nat} {cs ds : List Ch} {p p' : Nat} {W W' : World}
theorem LS6.lt (h : LS6 g a cap zs w rs tb ad cp cs p W) : tb < W.heap.size := World.block_lt_of_cell? W ⟨tb, 0, none⟩ h.tc
theorem LS6.ltr (h : LS6 g a cap zs w rs tb ad cp cs p W) : rs < W.heap.size := World.block_lt_of_cell? W ⟨rs, 0, none⟩ h.rc
theorem LS6.step (h : LS6 g a cap zs w rs tb ad cp cs p W) (hg : W.grownBy W' (some g)) (hR : Rd W' g a cap zs p') : LS6 g a cap zs w rs tb ad cp cs p' W' := by
  have o := h.ord
  have k2 := hg.block rs h.ltr (by simp; omega)
  have k3 := hg.block tb h.lt (by simp; omega)
  exact ⟨hR, gr_trans h.gr hg, (World.cell?_of_block k2).trans h.rc, fz_blk k2 h.rf, (World.cell?_of_block k3).trans h.tc, fz_blk k3 h.tf, h.row.kept hg (Or.inr (fun e => by have := owns_row_ge h.row e; omega)), h.ap, o⟩
theorem LS6.later (h : LS6 g a cap zs w rs tb ad cp cs p W) (hb : Below W.heap.size W W') : LS6 g a cap zs w rs tb ad cp cs p W' := h.step (gr_below hb) (h.rd.below hb)
/-- Another list is put into the box. -/
theorem LS6.put (h : LS6 g a cap zs w rs tb ad cp cs p W) (hr : W.ownsRow (rs + 1) 68 7 (.slice ad' ds.length cp') ds.length (ccells ds)) (hap : blk ad' ≠ some tb) : LS6 g a cap zs w rs tb ad' cp' ds p (W.setCell ⟨tb, 0, none⟩ (.slice ad' ds.length cp')) := by
  have o := h.ord
  have hg : W.grownBy (W.setCell ⟨tb, 0, none⟩ (.slice ad' ds.length cp')) (some tb) := grown_set0 W tb 0 _
  have k2 := hg.block rs h.ltr (by simp; omega)
  refine ⟨h.rd.kept hg (fun k e => by cases e; omega), gr_own h.gr hg (fun j e => by cases e; omega), (World.cell?_of_block k2).trans h.rc, fz_blk k2 h.rf, World.cell?_setCell_same _ _ _ h.tc, (World.frozen?_setCell _ _ _ _).trans h.tf, hr.kept hg (Or.inr (fun e => hap ?_)), hap, o⟩
  cases ad' with
  | none => simp [Value.ownBlock] at e
  | some x => simpa [Value.ownBlock, blk] using e
theorem LS6.cl (h : LS6 g a cap zs w rs tb ad cp cs p W) : CL (rs + 1) W ad cs := cl_of_row h.row
end
end Go.Proofs.Ytjlflmbifeocbaa

namespace Go.Proofs.Ytjlflmbifeocbaa
open Go.RowKit

theorem ccells_size (us : List Ch) : (ccells us).length = us.length * 7 := by
  induction us with
  | nil => rfl
  | cons x us ih =>
    have h : ccells (x :: us) = chL x ++ ccells us := by simp [ccells]
    rw [h, List.length_append, ih]
    show 7 + us.length * 7 = (us.length + 1) * 7
    omega
theorem ccells_all1 (us : List Ch) : ∀ u ∈ ccells us, u.oneCell' = true := fun u hu => by
  unfold ccells at hu
  obtain ⟨c, _, h⟩ := List.mem_flatMap.1 hu
  exact one_7 c u h
theorem ccells_nth (us : List Ch) : ∀ i (h : i < us.length) j, j < 7 → (ccells us)[i * 7 + j]? = (chL us[i])[j]? := by
  induction us with
  | nil => intro i h; simp at h
  | cons x us ih =>
    intro i h j hj
    have hc : ccells (x :: us) = chL x ++ ccells us := by simp [ccells]
    rw [hc]
    cases i with
    | zero =>
      rw [List.getElem?_append_left (by show 0 * 7 + j < 7; omega)]
      simp
    | succ i =>
      rw [List.getElem?_append_right (by show 7 ≤ (i + 1) * 7 + j; omega)]
      rw [show (i + 1) * 7 + j - (chL x).length = i * 7 + j by show (i + 1) * 7 + j - 7 = _; omega]
      rw [ih i (by simpa using h) j hj]
      simp
theorem cs_news {w : World} {b off : Nat} {cs : List Ch} (h : ∀ i (h : i < cs.length), ChAt w b (off + i * 7) cs[i]) :
    ∀ j u, (ccells cs)[j]? = some u → w.cell? ((⟨b, off, none⟩ : Addr).add j) = some u := fun j u hu => by
  have hl := (List.getElem?_eq_some_iff.1 hu).1
  rw [ccells_size] at hl
  have hi : j / 7 < cs.length := by omega
  obtain ⟨h0, h1, h2, h3, h4, h5, h6⟩ := h _ hi
  have e := ccells_nth cs (j / 7) hi (j % 7) (by omega)
  rw [show j / 7 * 7 + j % 7 = j by omega, hu] at e
  rw [Go.WideShapes.add_plain]
  have hj : off + j = off + j / 7 * 7 + j % 7 := by omega
  rw [hj]
  have hr : j % 7 = 0 ∨ j % 7 = 1 ∨ j % 7 = 2 ∨ j % 7 = 3 ∨ j % 7 = 4 ∨ j % 7 = 5 ∨ j % 7 = 6 := by omega
  rcases hr with hr | hr | hr | hr | hr | hr | hr <;> rw [hr] at e ⊢
  · rw [Nat.add_zero, h0]; exact e.symm
  · rw [h1]; exact e.symm
  · rw [h2]; exact e.symm
  · rw [h3]; exact e.symm
  · rw [h4]; exact e.symm
  · rw [h5]; exact e.symm
  · rw [h6]; exact e.symm
end Go.Proofs.Ytjlflmbifeocbaa

namespace Go.Proofs.Ytjlflmbifeocbaa
open Go.RowKit

def seven (X : World) (gb o : Nat) (d : Ch) : World :=
  (((((((X.setCell ⟨gb, o, none⟩ (.string d.path)).setCell ⟨gb, o + 1, none⟩ (.bool d.old.there)).setCell ⟨gb, o + 2, none⟩ (.string d.old.text)).setCell ⟨gb, o + 3, none⟩ (.bool d.old.runs)).setCell ⟨gb, o + 4, none⟩ (.bool d.new.there)).setCell ⟨gb, o + 5, none⟩ (.string d.new.text)).setCell ⟨gb, o + 6, none⟩ (.bool d.new.runs))
theorem seven_grown (X : World) (gb o : Nat) (d : Ch) : X.grownBy (seven X gb o d) (some gb) :=
  have h : ∀ (Y : World) (j : Nat) (v : Value), Y.grownBy (Y.setCell ⟨gb, j, none⟩ v) (some gb) := fun Y j v => ⟨rfl, rfl, rfl, by simp, fun k _ hk => Below.heap_setCell _ _ _ _ (fun e => hk (by rw [e]))⟩
  have t : ∀ {A B C : World}, A.grownBy B (some gb) → B.grownBy C (some gb) → A.grownBy C (some gb) := fun a b => ⟨b.os.trans a.os, b.tape.trans a.tape, b.output.trans a.output, Nat.le_trans a.size b.size, fun k hk hne => (b.block k (Nat.lt_of_lt_of_le hk a.size) hne).trans (a.block k hk hne)⟩
  t (t (t (t (t (t (h _ _ _) (h _ _ _)) (h _ _ _)) (h _ _ _)) (h _ _ _)) (h _ _ _)) (h _ _ _)
theorem gr_set3 (X : World) (b : Nat) (u v x : Value) : X.grownBy (((X.setCell ⟨b, 1, none⟩ u).setCell ⟨b, 2, none⟩ v).setCell ⟨b, 3, none⟩ x) (some b) :=
  have h : ∀ (Y : World) (j : Nat) (v : Value), Y.grownBy (Y.setCell ⟨b, j, none⟩ v) (some b) := fun Y j v => ⟨rfl, rfl, rfl, by simp, fun k _ hk => Below.heap_setCell _ _ _ _ (fun e => hk (by rw [e]))⟩
  have t : ∀ {A B C : World}, A.grownBy B (some b) → B.grownBy C (some b) → A.grownBy C (some b) := fun a b => ⟨b.os.trans a.os, b.tape.trans a.tape, b.output.trans a.output, Nat.le_trans a.size b.size, fun k hk hne => (b.block k (Nat.lt_of_lt_of_le hk a.size) hne).trans (a.block k hk hne)⟩
  t (t (h _ _ _) (h _ _ _)) (h _ _ _)
theorem seven_size (X : World) (gb o : Nat) (d : Ch) : (seven X gb o d).heap.size = X.heap.size := by simp [seven]
theorem seven_fz (X : World) (gb o : Nat) (d : Ch) (p : Addr) : (seven X gb o d).frozen? p = X.frozen? p := by
  unfold seven
  rw [World.frozen?_setCell, World.frozen?_setCell, World.frozen?_setCell, World.frozen?_setCell, World.frozen?_setCell, World.frozen?_setCell, World.frozen?_setCell]
theorem seven_other (X : World) (gb o j : Nat) (d : Ch) (h : j < o ∨ o + 6 < j) : (seven X gb o d).cell? ⟨gb, j, none⟩ = X.cell? ⟨gb, j, none⟩ := by
  have hne : ∀ k, k ≤ 6 → (⟨gb, o + k, none⟩ : Addr) ≠ ⟨gb, j, none⟩ := fun k hk e => by injection e with _ e; omega
  have h0 : (⟨gb, o, none⟩ : Addr) ≠ ⟨gb, j, none⟩ := hne 0 (by omega)
  unfold seven
  rw [World.cell?_setCell_other _ _ _ _ (hne 6 (by omega)), World.cell?_setCell_other _ _ _ _ (hne 5 (by omega)), World.cell?_setCell_other _ _ _ _ (hne 4 (by omega)), World.cell?_setCell_other _ _ _ _ (hne 3 (by omega)), World.cell?_setCell_other _ _ _ _ (hne 2 (by omega)), World.cell?_setCell_other _ _ _ _ (hne 1 (by omega)), World.cell?_setCell_other _ _ _ _ h0]
theorem seven_at {X : World} {gb o : Nat} {c : Ch} (d : Ch) (h : ChAt X gb o c) : ChAt (seven X gb o d) gb o d := by
  obtain ⟨h0, h1, h2, h3, h4, h5, h6⟩ := h
  have q : ∀ {Y : World} {i j : Nat} {v u : Value}, i ≠ j → Y.cell? ⟨gb, j, none⟩ = some u → (Y.setCell ⟨gb, i, none⟩ v).cell? ⟨gb, j, none⟩ = some u := fun hn hc => (World.cell?_setCell_other _ _ _ _ (fun e => hn (by injection e))).trans hc
  exact ⟨(q (by omega) (q (by omega) (q (by omega) (q (by omega) (q (by omega) (q (by omega) (World.cell?_setCell_same _ _ _ h0))))))), (q (by omega) (q (by omega) (q (by omega) (q (by omega) (q (by omega) (World.cell?_setCell_same _ _ _ (q (by omega) h1))))))), (q (by omega) (q (by omega) (q (by omega) (q (by omega) (World.cell?_setCell_same _ _ _ (q (by omega) (q (by omega) h2))))))), (q (by omega) (q (by omega) (q (by omega) (World.cell?_setCell_same _ _ _ (q (by omega) (q (by omega) (q (by omega) h3))))))), (q (by omega) (q (by omega) (World.cell?_setCell_same _ _ _ (q (by omega) (q (by omega) (q (by omega) (q (by omega) h4))))))), (q (by omega) (World.cell?_setCell_same _ _ _ (q (by omega) (q (by omega) (q (by omega) (q (by omega) (q (by omega) h5))))))), (World.cell?_setCell_same _ _ _ (q (by omega) (q (by omega) (q (by omega) (q (by omega) (q (by omega) (q (by omega) h6)))))))⟩
theorem cl_seven {B gb k : Nat} {W : World} {ds : List Ch} (d : Ch) (h : CL B W (some ⟨gb, 0, none⟩) ds) (hk : k < ds.length) : CL B (seven W gb (k * 7) d) (some ⟨gb, 0, none⟩) (ds.set k d) := by
  rcases h with h | ⟨g', e, h1, h2, h3, h4⟩
  · subst h; simp at hk
  · cases e
    refine .inr ⟨gb, rfl, h1, by rw [seven_size]; exact h2, fun j => (seven_fz _ _ _ _ _).trans (h3 j), fun i hi => ?_⟩
    have hi' : i < ds.length := by simpa using hi
    by_cases e : i = k
    · subst e
      rw [List.getElem_set_self]
      exact seven_at d (h4 i hi')
    · rw [List.getElem_set_ne (fun h => e h.symm)]
      obtain ⟨c0, c1, c2, c3, c4, c5, c6⟩ := h4 i hi'
      exact ⟨(seven_other _ _ _ _ _ (by omega)).trans c0, (seven_other _ _ _ _ _ (by omega)).trans c1, (seven_other _ _ _ _ _ (by omega)).trans c2, (seven_other _ _ _ _ _ (by omega)).trans c3, (seven_other _ _ _ _ _ (by omega)).trans c4, (seven_other _ _ _ _ _ (by omega)).trans c5, (seven_other _ _ _ _ _ (by omega)).trans c6⟩
section
variable {g : Nat} {a : Option Addr} {cap : Nat} {zs : List Int} {w : World} {rs tb xb gb k K p0 : Nat} {ad ad' : Option Addr} {cp cp' : Nat} {cs ds : List Ch} {p p' : Nat} {W W' : World}
theorem LS6.gbk (h : LS6 g a cap zs w rs tb (some ⟨gb, 0, none⟩) cp cs p W) (hne : cs ≠ []) : rs < gb ∧ gb < W.heap.size ∧ gb ≠ tb := by
  rcases h.cl with h0 | ⟨g', e, h1, h2, h3⟩
  · exact absurd h0 hne
  · cases e; exact ⟨h1, h2, fun e => h.ap (by simp [blk, e])⟩
/-- Another box is written. -/
theorem LS6.other (h : LS6 g a cap zs w rs tb ad cp cs p W) (hg : W.grownBy W' (some xb)) (h1 : tb < xb) (h2 : blk ad ≠ some xb) : LS6 g a cap zs w rs tb ad cp cs p W' := by
  have o := h.ord
  have k2 := hg.block rs h.ltr (by simp; omega)
  have k3 := hg.block tb h.lt (by simp; omega)
  refine ⟨h.rd.kept hg (fun k e => by cases e; omega), gr_own h.gr hg (fun j e => by cases e; omega), (World.cell?_of_block k2).trans h.rc, fz_blk k2 h.rf, (World.cell?_of_block k3).trans h.tc, fz_blk k3 h.tf, h.row.kept hg (Or.inr (fun e => h2 ?_)), h.ap, o⟩
  cases ad with
  | none => simp [Value.ownBlock] at e
  | some x => simpa [Value.ownBlock, blk] using e
theorem LS6.room (h : LS6 g a cap zs w rs tb ad cp cs p W) : cs.length ≤ cp := row_room h.row
/-- The end: the list is laid into the box of what is handed back. -/
theorem LS6.back (h : LS6 g a cap zs w rs tb ad cp cs p W) (hp : p ≤ p0 + K) : CL w.heap.size (W.setCell ⟨rs, 0, none⟩ (.slice ad cs.length cp)) ad cs ∧ Dr g a cap zs w (W.setCell ⟨rs, 0, none⟩ (.slice ad cs.length cp)) p0 K := by
  have hg : W.grownBy (W.setCell ⟨rs, 0, none⟩ (.slice ad cs.length cp)) (some rs) := grown_set0 W rs 0 _
  have o := h.ord
  exact ⟨(h.cl.grown hg (fun k _ hk _ e => by cases e; omega)).mono (by omega), ⟨p, hp, h.rd.kept hg (fun k e => by cases e; omega)⟩, gr_own h.gr hg (fun j e => by cases e; omega)⟩
/-- The list is turned at one place. -/
theorem LS6.turn (h : LS6 g a cap zs w rs tb (some ⟨gb, 0, none⟩) cp ds p W) (hk : k < ds.length) (d : Ch) (hp : p ≤ p0 + K) :
    (seven W gb (k * 7) d).cell? ⟨tb, 0, none⟩ = some (.slice (some ⟨gb, 0, none⟩) ds.length cp) ∧ (seven W gb (k * 7) d).cell? ⟨rs, 0, none⟩ = some (.slice none 0 0) ∧ (seven W gb (k * 7) d).frozen? ⟨rs, 0, none⟩ = false ∧
    CL w.heap.size ((seven W gb (k * 7) d).setCell ⟨rs, 0, none⟩ (.slice (some ⟨gb, 0, none⟩) ds.length cp)) (some ⟨gb, 0, none⟩) (ds.set k d) ∧ Dr g a cap zs w ((seven W gb (k * 7) d).setCell ⟨rs, 0, none⟩ (.slice (some ⟨gb, 0, none⟩) ds.length cp)) p0 K := by
  have hne : ds ≠ [] := fun e => by subst e; simp at hk
  obtain ⟨q1, q2, q3⟩ := h.gbk hne
  have o := h.ord
  have hG := seven_grown W gb (k * 7) d
  have hCL := cl_seven d h.cl hk
  generalize seven W gb (k * 7) d = S at *
  have hg : S.grownBy (S.setCell ⟨rs, 0, none⟩ (.slice (some ⟨gb, 0, none⟩) ds.length cp)) (some rs) := grown_set0 _ rs 0 _
  have k2 := hG.block rs h.ltr (by simp; omega)
  have k3 := hG.block tb h.lt (by simp; omega)
  exact ⟨(World.cell?_of_block k3).trans h.tc, (World.cell?_of_block k2).trans h.rc, fz_blk k2 h.rf, (hCL.grown hg (fun k _ hk _ e => by cases e; omega)).mono (by omega), ⟨p, hp, (h.rd.kept hG (fun k e => by cases e; omega)).kept hg (fun k e => by cases e; omega)⟩, gr_own (gr_own h.gr hG (fun j e => by cases e; omega)) hg (fun j e => by cases e; omega)⟩
end
section
variable {b : Nat} {c : Ch} {W : World}
theorem CBox.sPath (h : CBox b c W) (s : ByteArray) : CBox b ⟨s, c.old, c.new⟩ (W.setCell ⟨b, 0, none⟩ (.string s)) :=
  ⟨World.cell?_setCell_same _ _ _ (h.c0), (World.cell?_setCell_other _ _ _ _ (by simp)).trans (h.c1), (World.cell?_setCell_other _ _ _ _ (by simp)).trans (h.c2), (World.cell?_setCell_other _ _ _ _ (by simp)).trans (h.c3), (World.cell?_setCell_other _ _ _ _ (by simp)).trans (h.c4), (World.cell?_setCell_other _ _ _ _ (by simp)).trans (h.c5), (World.cell?_setCell_other _ _ _ _ (by simp)).trans (h.c6), fun j => (World.frozen?_setCell _ _ _ _).trans (h.fz j), by simpa using h.lt⟩
theorem CBox.sOld (h : CBox b c W) : CBox b ⟨c.path, c.new, c.new⟩ (((W.setCell ⟨b, 1, none⟩ (.bool c.new.there)).setCell ⟨b, 2, none⟩ (.string c.new.text)).setCell ⟨b, 3, none⟩ (.bool c.new.runs)) :=
  ⟨(World.cell?_setCell_other _ _ _ _ (by simp)).trans ((World.cell?_setCell_other _ _ _ _ (by simp)).trans ((World.cell?_setCell_other _ _ _ _ (by simp)).trans (h.c0))), (World.cell?_setCell_other _ _ _ _ (by simp)).trans ((World.cell?_setCell_other _ _ _ _ (by simp)).trans (World.cell?_setCell_same _ _ _ (h.c1))), (World.cell?_setCell_other _ _ _ _ (by simp)).trans (World.cell?_setCell_same _ _ _ ((World.cell?_setCell_other _ _ _ _ (by simp)).trans (h.c2))), World.cell?_setCell_same _ _ _ ((World.cell?_setCell_other _ _ _ _ (by simp)).trans ((World.cell?_setCell_other _ _ _ _ (by simp)).trans (h.c3))), (World.cell?_setCell_other _ _ _ _ (by simp)).trans ((World.cell?_setCell_other _ _ _ _ (by simp)).trans ((World.cell?_setCell_other _ _ _ _ (by simp)).trans (h.c4))), (World.cell?_setCell_other _ _ _ _ (by simp)).trans ((World.cell?_setCell_other _ _ _ _ (by simp)).trans ((World.cell?_setCell_other _ _ _ _ (by simp)).trans (h.c5))), (World.cell?_setCell_other _ _ _ _ (by simp)).trans ((World.cell?_setCell_other _ _ _ _ (by simp)).trans ((World.cell?_setCell_other _ _ _ _ (by simp)).trans (h.c6))), fun j => (World.frozen?_setCell _ _ _ _).trans ((World.frozen?_setCell _ _ _ _).trans ((World.frozen?_setCell _ _ _ _).trans (h.fz j))), by simpa using h.lt⟩
theorem CBox.sThere (h : CBox b c W) (q : Bool) : CBox b ⟨c.path, ⟨q, c.old.text, c.old.runs⟩, c.new⟩ (W.setCell ⟨b, 1, none⟩ (.bool q)) :=
  ⟨(World.cell?_setCell_other _ _ _ _ (by simp)).trans (h.c0), World.cell?_setCell_same _ _ _ (h.c1), (World.cell?_setCell_other _ _ _ _ (by simp)).trans (h.c2), (World.cell?_setCell_other _ _ _ _ (by simp)).trans (h.c3), (World.cell?_setCell_other _ _ _ _ (by simp)).trans (h.c4), (World.cell?_setCell_other _ _ _ _ (by simp)).trans (h.c5), (World.cell?_setCell_other _ _ _ _ (by simp)).trans (h.c6), fun j => (World.frozen?_setCell _ _ _ _).trans (h.fz j), by simpa using h.lt⟩
theorem CBox.sNew (h : CBox b c W) (s : ByteArray) : CBox b ⟨c.path, c.old, ⟨c.new.there, s, c.new.runs⟩⟩ (W.setCell ⟨b, 5, none⟩ (.string s)) :=
  ⟨(World.cell?_setCell_other _ _ _ _ (by simp)).trans (h.c0), (World.cell?_setCell_other _ _ _ _ (by simp)).trans (h.c1), (World.cell?_setCell_other _ _ _ _ (by simp)).trans (h.c2), (World.cell?_setCell_other _ _ _ _ (by simp)).trans (h.c3), (World.cell?_setCell_other _ _ _ _ (by simp)).trans (h.c4), World.cell?_setCell_same _ _ _ (h.c5), (World.cell?_setCell_other _ _ _ _ (by simp)).trans (h.c6), fun j => (World.frozen?_setCell _ _ _ _).trans (h.fz j), by simpa using h.lt⟩
theorem CBox.sText (h : CBox b c W) (s : ByteArray) : CBox b ⟨c.path, ⟨c.old.there, s, c.old.runs⟩, c.new⟩ (W.setCell ⟨b, 2, none⟩ (.string s)) :=
  ⟨(World.cell?_setCell_other _ _ _ _ (by simp)).trans (h.c0), (World.cell?_setCell_other _ _ _ _ (by simp)).trans (h.c1), World.cell?_setCell_same _ _ _ (h.c2), (World.cell?_setCell_other _ _ _ _ (by simp)).trans (h.c3), (World.cell?_setCell_other _ _ _ _ (by simp)).trans (h.c4), (World.cell?_setCell_other _ _ _ _ (by simp)).trans (h.c5), (World.cell?_setCell_other _ _ _ _ (by simp)).trans (h.c6), fun j => (World.frozen?_setCell _ _ _ _).trans (h.fz j), by simpa using h.lt⟩
end
end Go.Proofs.Ytjlflmbifeocbaa

namespace Go.Proofs.Ytjlflmbifeocbaa
open Go.RowKit

theorem own_noneC (w : World) (B : Nat) (hB : B ≤ w.heap.size) : (w.alloc (.cells #[] 68)).ownsRow B 68 7 (.slice (some ⟨w.heap.size, 0, none⟩) 0 0) 0 (ccells []) :=
  ⟨by simp [ccells], .inr ⟨w.heap.size, 0, #[], rfl, hB, heap_alloc_new w _, Nat.le_refl _, by unfold maxLen; omega, rfl, by simp [ccells]⟩⟩
theorem run_append_nothing {P : Program} {w : World} (base : Nat) (t ty e : TypeId) (i : TypeInfo) (size : Nat) (ht : P.underlying t = some (.slice e)) (hi : P.info? e = some i)
    (v : Value) (n c : Nat) (xs : List Value) (hown : w.ownsRow base e size v n xs) :
    (Builtin.append_ #[t, t] ty #[v, .slice none 0 c]).run P w = .ok v w := by
  rcases hown.2 with ⟨rfl, rfl⟩ | ⟨g, cap, cur, rfl, _, _, hnc, _⟩
  · simp [Builtin.append_, run_underlying ht, sizeOf, typeInfo, hi, Builtin.lenOf, Builtin.firstCells]
  · simp [Builtin.append_, run_underlying ht, sizeOf, typeInfo, hi, Builtin.lenOf, Builtin.firstCells, hnc, storeCells]
theorem wpList_append_nothing {P : Program} {w : World} {ops : Array Oper} {rest : List Oper} {o : Oper} {a : Act} {Q : Exit → Act → World → Prop} (hgd : o.guard = none) (s x : Operand) (t : TypeId)
    (ho : o.op = .call { callee := .builtin .append, args := #[s, x], argTypes := #[t, t] })
    (base : Nat) (e : TypeId) (i : TypeInfo) (size : Nat) (ht : P.underlying t = some (.slice e)) (hi : P.info? e = some i)
    (v : Value) (n c : Nat) (xs : List Value) (hs : a.eval s = v) (hown : w.ownsRow base e size v n xs) (hx : a.eval x = .slice none 0 c)
    (h : wpList P ops Q rest (a.put o.dst v) w) : wpList P ops Q (o :: rest) a w := by
  refine wpList_plain hgd fun K hK => ?_
  have hrun := run_append_nothing (P := P) (w := w) base t o.type e i size ht hi v n c xs hown
  unfold Oper.wp
  simp [execOp, ho, resolve, invoke, builtin, hs, hx, hrun, Result.andThen]
  exact hK _ _ h
section
variable {g : Nat} {a : Option Addr} {cap : Nat} {zs : List Int} {w : World} {rs tb : Nat} {ad ad' : Option Addr} {cp cp' : Nat} {ds : List Ch} {p p' : Nat} {W W' : World} {H0 gb : Nat} {v : Value} {xs : List Ch}
theorem LS6.row2 {row : Option Nat} (h : LS6 g a cap zs w rs tb ad cp ds p W) (hg : W.grownBy W' row) (hr : ∀ j, row = some j → tb < j ∧ blk ad ≠ some j) : LS6 g a cap zs w rs tb ad cp ds p W' := by
  cases row with
  | some j => exact h.other hg (hr j rfl).1 (hr j rfl).2
  | none => exact h.step (p' := p) ⟨hg.os, hg.tape, hg.output, hg.size, fun k hk _ => hg.block k hk (by simp)⟩ (h.rd.kept hg (fun k e => by cases e))
structure MkC (H0 g : Nat) (a : Option Addr) (cap : Nat) (zs : List Int) (w : World) (rs tb gb cp : Nat) (ds : List Ch) (p : Nat) (v : Value) (xs : List Ch) (W : World) : Prop where
  ld : LS6 g a cap zs w rs tb (some ⟨gb, 0, none⟩) cp ds p W
  own : W.ownsRow (rs + 1) 68 7 v xs.length (ccells xs)
  new : ∀ j, v.ownBlock = some j → H0 ≤ j
  old : gb < H0 ∧ tb < H0
  sz : H0 ≤ W.heap.size
theorem MkC.start (h : LS6 g a cap zs w rs tb (some ⟨gb, 0, none⟩) cp ds p W) (ho : gb < H0 ∧ tb < H0) (hs : H0 ≤ W.heap.size) : MkC H0 g a cap zs w rs tb gb cp ds p (.slice (some ⟨W.heap.size, 0, none⟩) 0 0) [] (W.alloc (.cells #[] 68)) :=
  ⟨h.later (below_oneD W _), own_noneC W (rs + 1) h.ltr, fun j e => by simp [Value.ownBlock] at e; omega, ho, Nat.le_trans hs (by simp)⟩
theorem MkC.app (i0 : TypeInfo) (z : Value) (hi : Try.prog.info? 68 = some i0) (hz : i0.zero = some z) (hsz : i0.size = 7) (hby : i0.bytes = 80) (hzs : z.cells.size = 7) (h : MkC H0 g a cap zs w rs tb gb cp ds p v xs W) (ad2 : Addr) (c : Nat) (us : List Ch) (hnews : ∀ j u, (ccells us)[j]? = some u → W.cell? (ad2.add j) = some u) (hl : xs.length + us.length ≤ 1000) (ty : TypeId) :
    ∃ v' W', (Builtin.append_ #[28, 28] ty #[v, .slice (some ad2) us.length c]).run Try.prog W = .ok v' W' ∧ (∃ ad3 cp3, v' = .slice ad3 (xs ++ us).length cp3 ∧ MkC H0 g a cap zs w rs tb gb cp ds p (.slice ad3 (xs ++ us).length cp3) (xs ++ us) W') := by
  obtain ⟨v', W', hr, ho, hg, _, hat⟩ := run_append_own_at (P := Try.prog) W (rs + 1) 28 ty 68 i0 z 7 80 Try.underlying28 hi hz hsz hby hzs (by decide) v xs.length (ccells xs) h.own ad2 us.length c (ccells us) (ccells_size us) hnews (ccells_all1 us) (by unfold maxLen; omega) (by omega) (by have := h.ld.ltr; omega)
  have ho2 : W'.ownsRow (rs + 1) 68 7 v' (xs ++ us).length (ccells (xs ++ us)) := by
    rw [List.length_append, show ccells (xs ++ us) = ccells xs ++ ccells us by simp [ccells]]
    exact ho
  obtain ⟨ad3, cp3, rfl⟩ := owns_slice ho2
  have o := h.old
  refine ⟨_, W', hr, ad3, cp3, rfl, h.ld.row2 hg (fun j e => by have := h.new j e; exact ⟨by omega, fun e2 => by simp [blk] at e2; omega⟩), ho2, fun j e => ?_, o, Nat.le_trans h.sz hg.size⟩
  rcases hat with h2 | h2
  · exact h.new j (by rw [← h2]; exact e)
  · rw [h2] at e; cases e; exact h.sz
theorem MkC.store {ad3 : Option Addr} {cp3 : Nat} (h : MkC H0 g a cap zs w rs tb gb cp ds p (.slice ad3 xs.length cp3) xs W) : LS6 g a cap zs w rs tb ad3 cp3 xs p (W.setCell ⟨tb, 0, none⟩ (.slice ad3 xs.length cp3)) := by
  refine h.ld.put h.own ?_
  cases ad3 with
  | none => intro e; simp [blk] at e
  | some x =>
    intro e
    have := h.new tb (by simpa [Value.ownBlock, blk] using e)
    have := h.old
    omega
theorem cl_news {B gb : Nat} (h : CL B W (some ⟨gb, 0, none⟩) ds) (k m : Nat) : ∀ j u, (ccells ((ds.drop k).take m))[j]? = some u → W.cell? ((⟨gb, k * 7, none⟩ : Addr).add j) = some u := by
  refine cs_news (fun i hi => ?_)
  have hi2 : k + i < ds.length := by simp at hi; omega
  rcases h with h | ⟨g', e, _, _, _, h4⟩
  · subst h; simp at hi2
  · cases e
    have h5 := h4 (k + i) hi2
    rw [List.getElem_take, List.getElem_drop, show k * 7 + i * 7 = (k + i) * 7 by omega]
    exact h5
end
set_option maxRecDepth 100000 in
theorem cutC_lo (gb cp n k : Nat) (hk : k ≤ cp) (hc : 0 < cp) (w1 : World) : (Instr.sliceAt 28 (.slice (some ⟨gb, 0, none⟩) n cp) none (some (.int .i64 (k : Int))) none).run Try.prog w1 = .ok (.slice (some ⟨gb, 0, none⟩) k cp) w1 := by
  rw [run_sliceAt_slice w1 _ _ _ _ _ Try.underlying28, run_slice_h w1 _ _ _ _ Try.underlying28 .i64 (k : Int) (by omega) (by omega)]
  have hz : (sizeOf (Try.prog.elem 28)).run Try.prog w1 = .ok 7 w1 := by kernel_rfl
  rw [hz, show (k : Int).toNat = k by omega]
  show Result.ok (sliced (some ⟨gb, 0, none⟩) 0 k cp 7) w1 = _
  unfold sliced
  rw [if_neg (by omega)]
  rfl
set_option maxRecDepth 100000 in
theorem cutC_hi (gb cp : Nat) (ds : List Ch) (k : Nat) (hk : k < ds.length) (hc : ds.length ≤ cp) : ∃ adB nB cB, Keep (nB = (ds.drop (k + 1)).length) ∧ (∀ w1, (Instr.sliceAt 28 (.slice (some ⟨gb, 0, none⟩) ds.length cp) (some (.int .i64 ((k : Int) + 1))) none none).run Try.prog w1 = .ok (.slice (some adB) nB cB) w1) ∧ ∀ (B : Nat) (W : World), CL B W (some ⟨gb, 0, none⟩) ds → ∀ j u, (ccells (ds.drop (k + 1)))[j]? = some u → W.cell? (adB.add j) = some u := by
  have hrun : ∀ w1, (Instr.sliceAt 28 (.slice (some ⟨gb, 0, none⟩) ds.length cp) (some (.int .i64 ((k : Int) + 1))) none none).run Try.prog w1 = .ok (sliced (some ⟨gb, 0, none⟩) (k + 1) ds.length cp 7) w1 := fun w1 => by
    rw [run_sliceAt_slice w1 _ _ _ _ _ Try.underlying28, run_slice_l w1 _ _ _ _ Try.underlying28 .i64 ((k : Int) + 1) (by omega) (by omega)]
    have hz : (sizeOf (Try.prog.elem 28)).run Try.prog w1 = .ok 7 w1 := by kernel_rfl
    rw [hz, show ((k : Int) + 1).toNat = k + 1 by omega]
    rfl
  by_cases hcp : cp = k + 1
  · refine ⟨⟨gb, 0, none⟩, ds.length - (k + 1), cp - (k + 1), ⟨by rw [List.length_drop]⟩, fun w1 => ?_, fun B W _ j u hu => ?_⟩
    · rw [hrun w1]
      unfold sliced
      rw [if_pos hcp]
    · have hn : ds.drop (k + 1) = [] := List.drop_of_length_le (by omega)
      rw [hn] at hu
      simp [ccells] at hu
  · refine ⟨⟨gb, (k + 1) * 7, none⟩, ds.length - (k + 1), cp - (k + 1), ⟨by rw [List.length_drop]⟩, fun w1 => ?_, fun B W hE j u hu => ?_⟩
    · rw [hrun w1]
      unfold sliced
      rw [if_neg hcp]
      simp [Addr.add]
    · refine cl_news hE (k + 1) ds.length j u ?_
      rw [List.take_of_length_le (by rw [List.length_drop]; omega)]
      exact hu
/-- What is known of the slots of the region that takes the change out. -/
def exT (M : Value → List Ch → World → Prop) (k : Nat) (ds : List Ch) (i : Nat) (v : Value) (L : Array Bool) (W : World) : Prop :=
  (i = 0 → L.getD 5 false = false → M v [] W) ∧
  (i = 5 → L.getD 0 false = true ∧ (L.getD 11 false = false → ∃ ad3 cp3, v = .slice ad3 (ds.take k).length cp3 ∧ M v (ds.take k) W)) ∧
  (i = 11 → L.getD 0 false = true ∧ L.getD 5 false = true ∧ (L.getD 13 false = false → ∃ ad3 cp3, v = .slice ad3 (ds.take k ++ ds.drop (k + 1)).length cp3 ∧ M v (ds.take k ++ ds.drop (k + 1)) W))
def IT (A B : World → Prop) (L : Array Bool) (W : World) : Prop := (L.getD 13 false = false → A W) ∧ (L.getD 13 false = true → B W)
section
variable {M : Value → List Ch → World → Prop} {k : Nat} {ds : List Ch} {L : Array Bool} {W W' : World} {A B : World → Prop}
theorem exT_pure {i : Nat} (h0 : i ≠ 0) (h5 : i ≠ 5) (h11 : i ≠ 11) (h13 : i ≠ 13) : ∀ j v, j ≠ i → exT M k ds j v L W → exT M k ds j v (L.setIfInBounds i true) W := fun j v _ h => by
  unfold exT at h ⊢
  rw [getD_set_ne false h0, getD_set_ne false h5, getD_set_ne false h11, getD_set_ne false h13]
  exact h
theorem exT_no {i : Nat} {v : Value} (h0 : i ≠ 0) (h5 : i ≠ 5) (h11 : i ≠ 11) : exT M k ds i v L W := ⟨fun e => absurd e h0, fun e => absurd e h5, fun e => absurd e h11⟩
theorem tf_no {b : Bool} {P : Prop} (h1 : b = false) (h2 : b = true) : P := absurd (h1.symm.trans h2) (by decide)
theorem exT_0 (hL : L.getD 0 true = false) : ∀ j v, j ≠ 0 → exT M k ds j v L W → exT M k ds j v (L.setIfInBounds 0 true) W' := fun _ _ hj h =>
  ⟨fun e => absurd e hj, fun e => tf_no (getD_ft hL) (h.2.1 e).1, fun e => tf_no (getD_ft hL) (h.2.2 e).1⟩
theorem exT_5 (hL : L.getD 5 true = false) : ∀ j v, j ≠ 5 → exT M k ds j v L W → exT M k ds j v (L.setIfInBounds 5 true) W' := fun _ _ hj h =>
  ⟨fun _ e2 => tf_no e2 (getD_set_true hL), fun e => absurd e hj, fun e => tf_no (getD_ft hL) (h.2.2 e).2.1⟩
theorem exT_11 (hL : L.getD 11 true = false) (h5 : L.getD 5 false = true) : ∀ j v, j ≠ 11 → exT M k ds j v L W → exT M k ds j v (L.setIfInBounds 11 true) W' := fun _ _ hj h =>
  ⟨fun _ e2 => tf_no ((getD_set_ne false (by omega)).symm.trans e2) h5, fun e => ⟨(getD_set_ne false (by omega)).trans (h.2.1 e).1, fun e2 => tf_no e2 (getD_set_true hL)⟩, fun e => absurd e hj⟩
theorem exT_13 (hL : L.getD 13 true = false) (h5 : L.getD 5 false = true) (h11 : L.getD 11 false = true) : ∀ j v, j ≠ 13 → exT M k ds j v L W → exT M k ds j v (L.setIfInBounds 13 true) W' := fun _ _ _ h =>
  ⟨fun _ e2 => tf_no ((getD_set_ne false (by omega)).symm.trans e2) h5, fun e => ⟨(getD_set_ne false (by omega)).trans (h.2.1 e).1, fun e2 => tf_no ((getD_set_ne false (by omega)).symm.trans e2) h11⟩, fun e => ⟨(getD_set_ne false (by omega)).trans (h.2.2 e).1, (getD_set_ne false (by omega)).trans (h.2.2 e).2.1, fun e2 => tf_no e2 (getD_set_true hL)⟩⟩
theorem IT.on {i : Nat} (h : IT A B L W) (hi : i ≠ 13) (h0 : L.getD 13 false = false) (hA : A W → A W') : IT A B (L.setIfInBounds i true) W' := by
  refine ⟨fun _ => hA (h.1 h0), fun e => ?_⟩
  rw [getD_set_ne false hi, h0] at e
  cases e
theorem IT.pure {i : Nat} (h : IT A B L W) (hi : i ≠ 13) : IT A B (L.setIfInBounds i true) W := by
  unfold IT at h ⊢
  rw [getD_set_ne false hi]
  exact h
theorem IT.last (hL : L.getD 13 true = false) (hB : B W) : IT A B (L.setIfInBounds 13 true) W := ⟨fun e => tf_no e (getD_set_true hL), fun _ => hB⟩
end
section
variable {g : Nat} {a : Option Addr} {cap : Nat} {zs : List Int} {w : World} {rs tb : Nat} {cp cap3 : Nat} {ds : List Ch} {p : Nat} {X W : World} {gb g3 : Nat} {d : Ch}
/-- One change is put behind. -/
theorem LS6.app (h : LS6 g a cap zs w rs tb (some ⟨gb, 0, none⟩) cp ds p X) (hg : X.grownBy W (Value.ownBlock (.slice (some ⟨gb, 0, none⟩) ds.length cp))) (hown : W.ownsRow (rs + 1) 68 7 (.slice (some ⟨g3, 0, none⟩) (ds.length + 1) cap3) (ds.length + 1) (ccells ds ++ chL d)) (h3 : g3 = gb ∨ tb < g3) :
    W.cell? ⟨tb, 0, none⟩ = some (.slice (some ⟨gb, 0, none⟩) ds.length cp) ∧ W.frozen? ⟨tb, 0, none⟩ = false ∧ LS6 g a cap zs w rs tb (some ⟨g3, 0, none⟩) cap3 (ds ++ [d]) p (W.setCell ⟨tb, 0, none⟩ (.slice (some ⟨g3, 0, none⟩) (ds.length + 1) cap3)) := by
  have o := h.ord
  have hgt : gb ≠ tb := fun e => h.ap (by simp [blk, e])
  have hge : rs + 1 ≤ gb := owns_row_ge h.row (j := gb) (by simp [Value.ownBlock])
  replace hg : X.grownBy W (some gb) := by simpa [Value.ownBlock] using hg
  have b1 := hg.block rs h.ltr (by simp; omega)
  have b2 := hg.block tb h.lt (by simp; omega)
  have hs : W.grownBy (W.setCell ⟨tb, 0, none⟩ (.slice (some ⟨g3, 0, none⟩) (ds.length + 1) cap3)) (some tb) := grown_set0 W tb 0 _
  have h3' : g3 ≠ tb := by omega
  have hrow : W.ownsRow (rs + 1) 68 7 (.slice (some ⟨g3, 0, none⟩) (ds ++ [d]).length cap3) (ds ++ [d]).length (ccells (ds ++ [d])) := by
    rw [ccells_snoc, List.length_append]
    exact hown
  have b1' : (W.setCell ⟨tb, 0, none⟩ (.slice (some ⟨g3, 0, none⟩) (ds.length + 1) cap3)).heap[rs]? = X.heap[rs]? := (hs.block rs (Nat.lt_of_lt_of_le h.ltr hg.size) (by simp; omega)).trans b1
  refine ⟨(World.cell?_of_block b2).trans h.tc, fz_blk b2 h.tf, (h.rd.kept hg (fun k e => by cases e; omega)).kept hs (fun k e => by cases e; omega), gr_own (gr_own h.gr hg (fun j e => by cases e; omega)) hs (fun j e => by cases e; omega), (World.cell?_of_block b1').trans h.rc, fz_blk b1' h.rf, ?_, (World.frozen?_setCell _ _ _ _).trans (fz_blk b2 h.tf), hrow.kept hs (Or.inr (fun e => h3' (by simpa [Value.ownBlock] using e))), fun e => h3' (by simpa [blk] using e), o⟩
  rw [List.length_append]
  exact World.cell?_setCell_same _ _ _ ((World.cell?_of_block b2).trans h.tc)
end
end Go.Proofs.Ytjlflmbifeocbaa
