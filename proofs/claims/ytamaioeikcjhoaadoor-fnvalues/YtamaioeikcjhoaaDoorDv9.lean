/-
  Values that are drawn: spec.DrawFormValue.
-/
import Derived.Test.YtamaioeikcjhoaaDoorDv8
namespace Go.Proofs.YtamaioeikcjhoaaDoor
open Go.RowKit

set_option maxRecDepth 20000 in
set_option maxHeartbeats 2000000 in
theorem drawForm_any (a : Option Addr) (cap : Nat) (zs : List Int) (W : World) (h : Code0 W a cap zs) :
    Calls Tryd.prog 10 #[.slice a zs.length cap] W fun e w' => DV0 W e w' := by
  have hb0 : Below W.heap.size W (W.alloc (.cells #[.slice none 0 0] 24)) := (Below.refl _ _).alloc (Nat.le_refl _) _
  have ho := open_any a cap zs _ (h.later hb0)
  have r0 : (W.alloc (.cells #[.slice none 0 0] 24)).cell? ⟨W.heap.size, 0, none⟩ = some (.slice none 0 0) := by simp
  have rf0 : (W.alloc (.cells #[.slice none 0 0] 24)).frozen? ⟨W.heap.size, 0, none⟩ = false := by simp
  have hs0 : (W.alloc (.cells #[.slice none 0 0] 24)).heap.size = W.heap.size + 1 := by simp
  go_enter Tryd.func10, Tryd.ntmps10
  go_wp2_with fail
  refine ho.mono ?_
  rintro e w1 ⟨rfl, hb1, hs1, zs', hR1⟩
  clear ho
  rw [hs0] at hR1 hs1
  have r1 := cell_later hb1 r0
  have rf1 := (hb1.frozen (p := ⟨W.heap.size, 0, none⟩) (by simp)).trans rf0
  have hbW1 : Below W.heap.size W w1 := hb0.trans (hb1.mono (by simp))
  clear r0 rf0 hb0 hb1 h
  have hgW : W.heap.size < W.heap.size + 1 := by omega
  have hg1 : W.heap.size + 1 < w1.heap.size := by omega
  clear hs1 hs0
  go_upto_region 2 with fail
  generalize W.heap.size + 1 = g at *
  have hcall := any_any g a cap zs' 0 w1 hR1 (by omega)
  go_wp2_with fail
  refine hcall.mono ?_
  rintro e w2 ⟨gs, cs, ts, rfl, hown, hpos, hok, ⟨p2, hp2, hR2⟩, hg2⟩
  clear hcall
  have hne : some W.heap.size ≠ some g := by simp; omega
  have hW1 : W.heap.size < w1.heap.size := lt_of_cellR r1
  have r2 := (hg2.cell_far ⟨W.heap.size, 0, none⟩ hW1 hne).trans r1
  have rf2 := (hg2.frozen_far ⟨W.heap.size, 0, none⟩ hW1 hne).trans rf1
  have hbW2 : Below W.heap.size W w2 := hbW1.grown hg2 hbW1.size (fun k hk => by cases hk; omega)
  clear r1 rf1 hg2 hbW1 hR1
  have hal : Below w2.heap.size w2 (w2.alloc (.cells #[.slice (some ⟨gs, 0, none⟩) ts.length cs] 24)) := (Below.refl _ _).alloc (Nat.le_refl _) _
  have hpk := pick_any g a cap zs' p2 6 _ (hR2.below hal) (by omega) (by omega) (by omega)
  have c3 : (w2.alloc (.cells #[.slice (some ⟨gs, 0, none⟩) ts.length cs] 24)).cell? ⟨w2.heap.size, 0, none⟩ = some (.slice (some ⟨gs, 0, none⟩) ts.length cs) := by simp
  have r3 := cell_later hal r2
  have rf3 := (hal.frozen (p := ⟨W.heap.size, 0, none⟩) (lt_of_cellR r2)).trans rf2
  have hbW3 : Below W.heap.size W (w2.alloc (.cells #[.slice (some ⟨gs, 0, none⟩) ts.length cs] 24)) := hbW2.trans (hal.mono hbW2.size)
  have hown3 := owns_below hown hal
  have hvg : g < w2.heap.size := hR2.lt
  clear r2 rf2 hown hR2 hbW2 hal
  go_wp2_with fail
  refine hpk.mono ?_
  rintro e w4 ⟨x, rfl, hx, hg4, hR4⟩
  clear hpk
  have c4 := (hg4.cell_far ⟨w2.heap.size, 0, none⟩ (lt_of_cellR c3) (by simp; omega)).trans c3
  have r4 := (hg4.cell_far ⟨W.heap.size, 0, none⟩ (lt_of_cellR r3) hne).trans r3
  have rf4 := (hg4.frozen_far ⟨W.heap.size, 0, none⟩ (lt_of_cellR r3) hne).trans rf3
  have hown4 := owns_rd hown3 hg4 hg1
  have hbW4 : Below W.heap.size W w4 := hbW3.grown hg4 hbW3.size (fun k hk => by cases hk; omega)
  clear c3 r3 rf3 hown3 hg4 hbW3
  generalize w2.heap.size = vb at *
  by_cases x0 : x = 0
  · subst x0
    have hsp := spoilV_any g a cap zs' (p2 + 1) gs cs ts w4 hR4 (by omega) (al_of_row hown4).as hpos hok
    go_wp2_with fail
    refine hsp.mono ?_
    rintro e w5 ⟨ad5, cs5, ts5, rfl, hal5, hok5, ⟨p5, hp5, hR5⟩, hg5⟩
    clear hsp
    have hW4 : W.heap.size < w4.heap.size := lt_of_cellR r4
    have r5 := (hg5.cell_far ⟨W.heap.size, 0, none⟩ hW4 hne).trans r4
    have rf5 := (hg5.frozen_far ⟨W.heap.size, 0, none⟩ hW4 hne).trans rf4
    have hbW5 : Below W.heap.size W w5 := hbW4.grown hg5 hbW4.size (fun k hk => by cases hk; omega)
    have HP : RKeep (DV0 W (.returned (.agg #[.slice ad5 ts5.length cs5])) (w5.setCell ⟨W.heap.size, 0, none⟩ (.slice ad5 ts5.length cs5))) := ⟨ad5, cs5, ts5, rfl, (hal5.grown (dk_set w5 W.heap.size 0 _) (fun g' _ h2 _ e => by cases e; omega)).mono (by omega), hok5, hbW5.setCell (p := ⟨W.heap.size, 0, none⟩) (Nat.le_refl _) _⟩
    have kz : (w5.setCell ⟨W.heap.size, 0, none⟩ (.slice ad5 ts5.length cs5)).cell? ⟨W.heap.size, 0, none⟩ = some (.slice ad5 ts5.length cs5) := World.cell?_setCell_same _ _ _ r5
    clear hal5 hok5 hR5 hg5 hbW5 hbW4 hown4 hok r4 rf4 c4
    go_wp2
    refine bodyPost_ret (v := .agg #[.slice ad5 ts5.length cs5]) ?_ rfl HP.out
    go_light
    simp [results, Tryd.results10, go_sem, kz]
  · have hB : ((x : Int) == 0) = false := by simpa using (show ¬ (x : Int) = 0 by omega)
    have HP : RKeep (DV0 W (.returned (.agg #[.slice (some ⟨gs, 0, none⟩) ts.length cs])) (w4.setCell ⟨W.heap.size, 0, none⟩ (.slice (some ⟨gs, 0, none⟩) ts.length cs))) := ⟨some ⟨gs, 0, none⟩, cs, ts, rfl, ((al_of_row hown4).grown (dk_set w4 W.heap.size 0 _) (fun g' _ h2 _ e => by cases e; omega)).mono (by omega), hok.mono (by omega) (by omega), hbW4.setCell (p := ⟨W.heap.size, 0, none⟩) (Nat.le_refl _) _⟩
    have kz : (w4.setCell ⟨W.heap.size, 0, none⟩ (.slice (some ⟨gs, 0, none⟩) ts.length cs)).cell? ⟨W.heap.size, 0, none⟩ = some (.slice (some ⟨gs, 0, none⟩) ts.length cs) := World.cell?_setCell_same _ _ _ r4
    clear hbW4 hown4 hok hR4
    go_wp2
    refine bodyPost_ret (v := .agg #[.slice (some ⟨gs, 0, none⟩) ts.length cs]) ?_ rfl HP.out
    go_light
    simp [results, Tryd.results10, go_sem, kz]

end Go.Proofs.YtamaioeikcjhoaaDoor
