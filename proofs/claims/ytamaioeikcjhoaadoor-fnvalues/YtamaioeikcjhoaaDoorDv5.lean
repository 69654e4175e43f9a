/-
  Values that are drawn: spec.l2Any.
-/
import Derived.Test.YtamaioeikcjhoaaDoorDv4
import Derived.Test.YtamaioeikcjhoaaDoorDv1
namespace Go.Proofs.YtamaioeikcjhoaaDoor
open Go.RowKit

theorem any_done {g : Nat} {a : Option Addr} {cap : Nat} {zs : List Int} {W w1 w3 : World} {p p3 K N M gs cs rb : Nat} {ts : List At} (hg1 : W.grownBy w1 (some g)) (hg3 : w1.grownBy w3 (some g)) (hr3 : Rd w3 g a cap zs p3) (hgW : g < W.heap.size) (hp : p3 ≤ p + K) (hown : w3.ownsRow w1.heap.size 66 4 (.slice (some ⟨gs, 0, none⟩) ts.length cs) ts.length (acells ts)) (hpos : 0 < ts.length) (hok : AOk N M ts) (hrb : W.heap.size ≤ rb) (hrb2 : rb < w1.heap.size) :
    DrV g a cap zs W p K N M (.returned (.agg #[.slice (some ⟨gs, 0, none⟩) ts.length cs])) (w3.setCell ⟨rb, 0, none⟩ (.slice (some ⟨gs, 0, none⟩) ts.length cs)) := by
  have hne : (Value.slice (some ⟨gs, 0, none⟩) ts.length cs).ownBlock ≠ some rb := fun e => by have := owns_base hown _ e; omega
  refine ⟨gs, cs, ts, rfl, dk_low (hown.kept (dk_set _ _ _ _) (Or.inr hne)) hg1.size, hpos, hok, ⟨p3, hp, hr3.kept (dk_set _ _ _ _) (fun k hk => by cases hk; omega)⟩, gr_own (gr_trans hg1 hg3) (dk_set _ rb 0 _) (fun j e => by cases e; exact hrb)⟩

set_option maxRecDepth 20000 in
set_option maxHeartbeats 2000000 in
theorem any_any (g : Nat) (a : Option Addr) (cap : Nat) (zs : List Int) (p : Nat) (W : World) (h : Rd W g a cap zs p) (hp : p ≤ 100000) :
    Calls Tryd.prog 22 #[.pointer (some ⟨g, 0, none⟩)] W fun e w' => DrV g a cap zs W p 1105 301 102000 e w' := by
  have hgW : g < W.heap.size := h.lt
  have hb0 : Below W.heap.size W (W.alloc (.cells #[.slice none 0 0] 24)) := (Below.refl _ _).alloc (Nat.le_refl _) _
  have hpk := pick_any g a cap zs p 20 _ (h.below hb0) (by omega) (by omega) (by omega)
  have r0 : (W.alloc (.cells #[.slice none 0 0] 24)).cell? ⟨W.heap.size, 0, none⟩ = some (.slice none 0 0) := by simp
  have rf0 : (W.alloc (.cells #[.slice none 0 0] 24)).frozen? ⟨W.heap.size, 0, none⟩ = false := by simp
  go_enter Tryd.func22, Tryd.ntmps22
  go_wp2_with fail
  refine hpk.mono ?_
  rintro e w1 ⟨x, rfl, hx, hg1, hR1⟩
  have hne : some W.heap.size ≠ some g := by simp; omega
  have r1 := (hg1.cell_far ⟨W.heap.size, 0, none⟩ (by simp) hne).trans r0
  have rf1 := (hg1.frozen_far ⟨W.heap.size, 0, none⟩ (by simp) hne).trans rf0
  have hG1 : W.grownBy w1 (some g) := gr_trans (gr_below hb0) hg1
  clear hpk r0 rf0 hg1 hb0 h
  have hW1 : W.heap.size < w1.heap.size := lt_of_cellR r1
  by_cases x0 : x = 0
  · subst x0
    go_wp2_with fail
    refine (pick_any g a cap zs (p + 1) 2 w1 hR1 (by omega) (by omega) (by omega)).mono ?_
    rintro e w2 ⟨z, rfl, hz, hg2, hR2⟩
    have r2 := (hg2.cell_far ⟨W.heap.size, 0, none⟩ hW1 hne).trans r1
    have rf2 := (hg2.frozen_far ⟨W.heap.size, 0, none⟩ hW1 hne).trans rf1
    have hG2 := gr_trans hG1 hg2
    have hcall := deep_any (12 + z) (by omega) w2
    rw [show ((12 + z : Nat) : Int) = 12 + (z : Int) by omega] at hcall
    clear r1 rf1 hg2 hG1 hR1
    go_wp2_with fail
    refine hcall.mono ?_
    rintro e w3 ⟨gs, cs, ts, rfl, hown, hpos, hok, hb3⟩
    have r3 := cell_later hb3 r2
    have rf3 := (hb3.frozen (p := ⟨W.heap.size, 0, none⟩) (lt_of_cellR r2)).trans rf2
    have HP := RKeep.mk (any_done (p := p) (K := 1105) (N := 301) (M := 102000) hG2 (gr_below hb3) (hR2.below hb3) hgW (by omega) hown hpos (hok.mono (by omega) (by omega)) (Nat.le_refl _) (lt_of_cellR r2))
    have k0 : (w3.setCell ⟨W.heap.size, 0, none⟩ (.slice (some ⟨gs, 0, none⟩) ts.length cs)).cell? ⟨W.heap.size, 0, none⟩ = some (.slice (some ⟨gs, 0, none⟩) ts.length cs) := World.cell?_setCell_same _ _ _ r3
    clear hcall r2 rf2 hG2 hR2 hown hok hb3
    go_wp2
    refine bodyPost_ret (v := .agg #[.slice (some ⟨gs, 0, none⟩) ts.length cs]) ?_ rfl HP.out
    go_light
    simp [results, Tryd.results22, go_sem, k0]
  have hB0 : ((x : Int) == 0) = false := by simpa using (show ¬ (x : Int) = 0 by omega)
  by_cases x1 : x = 1
  · subst x1
    clear hB0
    go_wp2_with fail
    refine (pick_any g a cap zs (p + 1) 2 w1 hR1 (by omega) (by omega) (by omega)).mono ?_
    rintro e w2 ⟨z, rfl, hz, hg2, hR2⟩
    have r2 := (hg2.cell_far ⟨W.heap.size, 0, none⟩ hW1 hne).trans r1
    have rf2 := (hg2.frozen_far ⟨W.heap.size, 0, none⟩ hW1 hne).trans rf1
    have hG2 := gr_trans hG1 hg2
    have hcall := wide_any (299 + z) ⟨#[119]⟩ (by omega) w2
    rw [show ((299 + z : Nat) : Int) = 299 + (z : Int) by omega] at hcall
    clear r1 rf1 hg2 hG1 hR1
    go_wp2_with fail
    refine hcall.mono ?_
    rintro e w3 ⟨gs, cs, ts, rfl, hown, hpos, hok, hb3⟩
    have r3 := cell_later hb3 r2
    have rf3 := (hb3.frozen (p := ⟨W.heap.size, 0, none⟩) (lt_of_cellR r2)).trans rf2
    have HP := RKeep.mk (any_done (p := p) (K := 1105) (N := 301) (M := 102000) hG2 (gr_below hb3) (hR2.below hb3) hgW (by omega) hown (by omega) (hok.mono (by omega) (by show (299 + z) * 1 ≤ 102000; omega)) (Nat.le_refl _) (lt_of_cellR r2))
    have k0 : (w3.setCell ⟨W.heap.size, 0, none⟩ (.slice (some ⟨gs, 0, none⟩) ts.length cs)).cell? ⟨W.heap.size, 0, none⟩ = some (.slice (some ⟨gs, 0, none⟩) ts.length cs) := World.cell?_setCell_same _ _ _ r3
    clear hcall r2 rf2 hG2 hR2 hown hok hb3
    go_wp2
    refine bodyPost_ret (v := .agg #[.slice (some ⟨gs, 0, none⟩) ts.length cs]) ?_ rfl HP.out
    go_light
    simp [results, Tryd.results22, go_sem, k0]
  have hB1 : ((x : Int) == 1) = false := by simpa using (show ¬ (x : Int) = 1 by omega)
  by_cases x2 : x = 2
  · subst x2
    clear hB0 hB1
    go_wp2_with fail
    refine (pick_any g a cap zs (p + 1) 2 w1 hR1 (by omega) (by omega) (by omega)).mono ?_
    rintro e w2 ⟨z, rfl, hz, hg2, hR2⟩
    have r2 := (hg2.cell_far ⟨W.heap.size, 0, none⟩ hW1 hne).trans r1
    have rf2 := (hg2.frozen_far ⟨W.heap.size, 0, none⟩ hW1 hne).trans rf1
    have hG2 := gr_trans hG1 hg2
    have hcall := big_any z (by omega) w2
    clear r1 rf1 hg2 hG1 hR1
    go_wp2_with fail
    refine hcall.mono ?_
    rintro e w3 ⟨gs, cs, ts, rfl, hown, hpos, hok, hb3⟩
    have r3 := cell_later hb3 r2
    have rf3 := (hb3.frozen (p := ⟨W.heap.size, 0, none⟩) (lt_of_cellR r2)).trans rf2
    have HP := RKeep.mk (any_done (p := p) (K := 1105) (N := 301) (M := 102000) hG2 (gr_below hb3) (hR2.below hb3) hgW (by omega) hown hpos (hok.mono (by omega) (by omega)) (Nat.le_refl _) (lt_of_cellR r2))
    have k0 : (w3.setCell ⟨W.heap.size, 0, none⟩ (.slice (some ⟨gs, 0, none⟩) ts.length cs)).cell? ⟨W.heap.size, 0, none⟩ = some (.slice (some ⟨gs, 0, none⟩) ts.length cs) := World.cell?_setCell_same _ _ _ r3
    clear hcall r2 rf2 hG2 hR2 hown hok hb3
    go_wp2
    refine bodyPost_ret (v := .agg #[.slice (some ⟨gs, 0, none⟩) ts.length cs]) ?_ rfl HP.out
    go_light
    simp [results, Tryd.results22, go_sem, k0]
  have hB2 : ((x : Int) == 2) = false := by simpa using (show ¬ (x : Int) = 2 by omega)
  have hcall := drawA_any g a cap zs 3 (by omega) (by show 169 ≤ 200; omega) w1 (p + 1) hR1 (by show p + 1 + 1104 ≤ 1000000; omega)
  rw [show (((3 : Nat) : Int)) = 3 from rfl] at hcall
  go_wp2_with fail
  refine hcall.mono ?_
  rintro e w3 ⟨gs, cs, ts, rfl, hown, hpos, hok, ⟨p3, hp3, hR3⟩, hg3⟩
  have r3 := (hg3.cell_far ⟨W.heap.size, 0, none⟩ hW1 hne).trans r1
  have rf3 := (hg3.frozen_far ⟨W.heap.size, 0, none⟩ hW1 hne).trans rf1
  have hp4 : p3 ≤ p + 1105 := by have : dK 3 = 1104 := rfl; omega
  have HP := RKeep.mk (any_done (p := p) (K := 1105) (N := 301) (M := 102000) hG1 hg3 hR3 hgW hp4 hown hpos (hok.mono (by show 169 ≤ 301; omega) (by show 2036 ≤ 102000; omega)) (Nat.le_refl _) hW1)
  have k0 : (w3.setCell ⟨W.heap.size, 0, none⟩ (.slice (some ⟨gs, 0, none⟩) ts.length cs)).cell? ⟨W.heap.size, 0, none⟩ = some (.slice (some ⟨gs, 0, none⟩) ts.length cs) := World.cell?_setCell_same _ _ _ r3
  clear hcall r1 rf1 hG1 hR1 hown hok hg3 hR3 hp3 hp4
  go_wp2
  refine bodyPost_ret (v := .agg #[.slice (some ⟨gs, 0, none⟩) ts.length cs]) ?_ rfl HP.out
  go_light
  simp [results, Tryd.results22, go_sem, k0]
end Go.Proofs.YtamaioeikcjhoaaDoor
