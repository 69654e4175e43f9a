/-
  Values that are drawn: spec.l2Draw.
-/
import Derived.Test.YtamaioeikcjhoaaDoorDvP
namespace Go.Proofs.YtamaioeikcjhoaaDoor
open Go.RowKit

def DrwS (g : Nat) (a : Option Addr) (cap : Nat) (zs : List Int) (j : Nat) (z : Int) : Prop := ∀ (W : World) (p : Nat), Rd W g a cap zs p → p + dK j ≤ 1000000 → Calls Tryd.prog 43 #[.pointer (some ⟨g, 0, none⟩), .int .i64 z] W fun e w' => DrA g a cap zs W p (dK j) (dN j) (dM j) e w'
theorem lit10I (q : Nat) (hq : q < 10) : ∃ c : Int, -9223372036854775808 ≤ c ∧ c < 9223372036854775808 ∧ (#[.int .i64 0, .int .i64 1, .int .i64 (-1), .int .i64 63, .int .i64 64, .int .i64 (-64), .int .i64 (-65), .int .i64 9223372036854775807, .int .i64 (-9223372036854775808), .int .i64 300] : Array Value)[q]? = some (.int .i64 c) := by
  match q, hq with
  | 0, _ => exact ⟨_, by omega, by omega, rfl⟩
  | 1, _ => exact ⟨_, by omega, by omega, rfl⟩
  | 2, _ => exact ⟨_, by omega, by omega, rfl⟩
  | 3, _ => exact ⟨_, by omega, by omega, rfl⟩
  | 4, _ => exact ⟨_, by omega, by omega, rfl⟩
  | 5, _ => exact ⟨_, by omega, by omega, rfl⟩
  | 6, _ => exact ⟨_, by omega, by omega, rfl⟩
  | 7, _ => exact ⟨_, by omega, by omega, rfl⟩
  | 8, _ => exact ⟨_, by omega, by omega, rfl⟩
  | 9, _ => exact ⟨_, by omega, by omega, rfl⟩
/-- One atom was drawn. -/
theorem DrA.one {g : Nat} {a : Option Addr} {cap : Nat} {zs : List Int} {W w1 : World} {p p1 j : Nat} (e : At) (hg : W.grownBy w1 (some g)) (hr : Rd w1 g a cap zs p1) (hp : p1 ≤ p + 12) (hn : -9223372036854775808 ≤ e.n ∧ e.n < 9223372036854775808) (ht : e.text.size ≤ 20) : DrA g a cap zs W p (dK j) (dN j) (dM j) (.returned (.slice (some ⟨w1.heap.size, 0, none⟩) 1 1)) (w1.alloc (.cells #[.int .i64 e.kind, .int .i64 e.n, .string e.text, .int .i64 e.kids] 66)) :=
  ⟨w1.heap.size, 1, [e], rfl, own_oneA w1 W.heap.size hg.size e, by simp, (AOk.one hn).mono (dN_pos j) (by have := dM_pos j; omega), ⟨p1, by have := dK_pos j; omega, hr.below ((Below.refl _ _).alloc (Nat.le_refl _) _)⟩, gr_alloc _ hg⟩

set_option maxRecDepth 20000 in
set_option maxHeartbeats 4000000 in
theorem drawA_step (g : Nat) (a : Option Addr) (cap : Nat) (zs : List Int) (j : Nat) (hj3 : j ≤ 3) (hN : dN j ≤ 200) (ih : ∀ J, j = J + 1 → DrwS g a cap zs J (J : Int)) : DrwS g a cap zs j (j : Int) := by
  intro W p h hp
  obtain ⟨i0, hi, hz0, hz1, hzb⟩ := info_parts Tryd.infoAtom
  have hgW : g < W.heap.size := h.lt
  have hpK := dK_pos j
  go_enter Tryd.func43, Tryd.ntmps43
  go_wp2_with fail
  refine (pick_any g a cap zs p 7 W h (by omega) (by omega) (by omega)).mono ?_
  rintro e w1 ⟨k, rfl, hk, hg1, hR1⟩
  cases j with
  | zero =>
    rcases (show k = 0 ∨ k = 1 ∨ k = 2 ∨ k = 3 ∨ k = 4 ∨ k = 5 ∨ k = 6 by omega) with rfl | rfl | rfl | rfl | rfl | rfl | rfl
    · go_wp2_with fail
      refine (pick_any g a cap zs (p + 1) 2 w1 hR1 (by omega) (by omega) (by omega)).mono ?_
      rintro e w2 ⟨z, rfl, hz, hg2, hR2⟩
      have HP : RKeep (DrA g a cap zs W p (dK 0) (dN 0) (dM 0) (.returned (.slice (some ⟨w2.heap.size, 0, none⟩) 1 1)) (w2.alloc (.cells #[.int .i64 1, .int .i64 z, .string ⟨#[]⟩, .int .i64 0] 66))) := ⟨DrA.one ⟨1, z, ⟨#[]⟩, 0⟩ (gr_trans hg1 hg2) hR2 (by omega) (by show (-9223372036854775808 : Int) ≤ z ∧ (z : Int) < 9223372036854775808; omega) (by show 0 ≤ 20; omega)⟩
      clear hg1 hg2 hR1 hR2 h
      go_wp2
      go_ret
      exact HP.out
    · have hbT : Below w1.heap.size w1 (w1.alloc (.cells #[.int .i64 0, .int .i64 1, .int .i64 (-1), .int .i64 63, .int .i64 64, .int .i64 (-64), .int .i64 (-65), .int .i64 9223372036854775807, .int .i64 (-9223372036854775808), .int .i64 300] 2)) := (Below.refl _ _).alloc (Nat.le_refl _) _
      have hpk := pick_any g a cap zs (p + 1) 10 (w1.alloc (.cells #[.int .i64 0, .int .i64 1, .int .i64 (-1), .int .i64 63, .int .i64 64, .int .i64 (-64), .int .i64 (-65), .int .i64 9223372036854775807, .int .i64 (-9223372036854775808), .int .i64 300] 2)) (hR1.below hbT) (by omega) (by omega) (by omega)
      go_wp2_with fail
      refine hpk.mono ?_
      rintro e w2 ⟨z, rfl, hz, hg2, hR2⟩
      obtain ⟨c, hc1, hc2, hc3⟩ := lit10I z hz
      have hgw : g < w1.heap.size := hR1.lt
      have hcell : w2.cell? ⟨w1.heap.size, z, none⟩ = some (.int .i64 c) := hg2.cell (a := ⟨w1.heap.size, z, none⟩) ((World.cell?_alloc_new w1 _ _ z).trans hc3) (by simp; omega)
      have HP : RKeep (DrA g a cap zs W p (dK 0) (dN 0) (dM 0) (.returned (.slice (some ⟨w2.heap.size, 0, none⟩) 1 1)) (w2.alloc (.cells #[.int .i64 2, .int .i64 c, .string ⟨#[]⟩, .int .i64 0] 66))) := ⟨DrA.one ⟨2, c, ⟨#[]⟩, 0⟩ (gr_trans (gr_trans hg1 (gr_below hbT)) hg2) hR2 (by omega) ⟨hc1, hc2⟩ (by show 0 ≤ 20; omega)⟩
      clear hg1 hg2 hR1 hR2 h hpk hbT hc3
      generalize w1.heap.size = k1 at *
      go_wp2
      go_ret
      exact HP.out
    · have hbT : Below w1.heap.size w1 (w1.alloc (.cells #[.int .i64 0, .int .i64 1, .int .i64 (-1), .int .i64 63, .int .i64 64, .int .i64 (-64), .int .i64 (-65), .int .i64 9223372036854775807, .int .i64 (-9223372036854775808), .int .i64 300] 2)) := (Below.refl _ _).alloc (Nat.le_refl _) _
      have hpk := pick_any g a cap zs (p + 1) 10 (w1.alloc (.cells #[.int .i64 0, .int .i64 1, .int .i64 (-1), .int .i64 63, .int .i64 64, .int .i64 (-64), .int .i64 (-65), .int .i64 9223372036854775807, .int .i64 (-9223372036854775808), .int .i64 300] 2)) (hR1.below hbT) (by omega) (by omega) (by omega)
      go_wp2_with fail
      refine hpk.mono ?_
      rintro e w2 ⟨z, rfl, hz, hg2, hR2⟩
      obtain ⟨c, hc1, hc2, hc3⟩ := lit10I z hz
      have hgw : g < w1.heap.size := hR1.lt
      have hcell : w2.cell? ⟨w1.heap.size, z, none⟩ = some (.int .i64 c) := hg2.cell (a := ⟨w1.heap.size, z, none⟩) ((World.cell?_alloc_new w1 _ _ z).trans hc3) (by simp; omega)
      have HP : RKeep (DrA g a cap zs W p (dK 0) (dN 0) (dM 0) (.returned (.slice (some ⟨w2.heap.size, 0, none⟩) 1 1)) (w2.alloc (.cells #[.int .i64 2, .int .i64 c, .string ⟨#[]⟩, .int .i64 0] 66))) := ⟨DrA.one ⟨2, c, ⟨#[]⟩, 0⟩ (gr_trans (gr_trans hg1 (gr_below hbT)) hg2) hR2 (by omega) ⟨hc1, hc2⟩ (by show 0 ≤ 20; omega)⟩
      clear hg1 hg2 hR1 hR2 h hpk hbT hc3
      generalize w1.heap.size = k1 at *
      go_wp2
      go_ret
      exact HP.out
    · go_wp2_with fail
      refine (text_any g a cap zs (p + 1) w1 hR1 (by omega)).mono ?_
      rintro e w2 ⟨tx, rfl, htx, ⟨p2, hp2, hR2⟩, hg2⟩
      have HP : RKeep (DrA g a cap zs W p (dK 0) (dN 0) (dM 0) (.returned (.slice (some ⟨w2.heap.size, 0, none⟩) 1 1)) (w2.alloc (.cells #[.int .i64 3, .int .i64 0, .string tx, .int .i64 0] 66))) := ⟨DrA.one ⟨3, 0, tx, 0⟩ (gr_trans hg1 hg2) hR2 (by omega) okN htx⟩
      clear hg1 hg2 hR1 hR2 h
      go_wp2
      go_ret
      exact HP.out
    · go_wp2_with fail
      refine (pick_any g a cap zs (p + 1) 2 w1 hR1 (by omega) (by omega) (by omega)).mono ?_
      rintro e w2 ⟨z, rfl, hz, hg2, hR2⟩
      have HP : RKeep (DrA g a cap zs W p (dK 0) (dN 0) (dM 0) (.returned (.slice (some ⟨w2.heap.size, 0, none⟩) 1 1)) (w2.alloc (.cells #[.int .i64 1, .int .i64 z, .string ⟨#[]⟩, .int .i64 0] 66))) := ⟨DrA.one ⟨1, z, ⟨#[]⟩, 0⟩ (gr_trans hg1 hg2) hR2 (by omega) (by show (-9223372036854775808 : Int) ≤ z ∧ (z : Int) < 9223372036854775808; omega) (by show 0 ≤ 20; omega)⟩
      clear hg1 hg2 hR1 hR2 h
      go_wp2
      go_ret
      exact HP.out
    · have hbT : Below w1.heap.size w1 (w1.alloc (.cells #[.int .i64 0, .int .i64 1, .int .i64 (-1), .int .i64 63, .int .i64 64, .int .i64 (-64), .int .i64 (-65), .int .i64 9223372036854775807, .int .i64 (-9223372036854775808), .int .i64 300] 2)) := (Below.refl _ _).alloc (Nat.le_refl _) _
      have hpk := pick_any g a cap zs (p + 1) 10 (w1.alloc (.cells #[.int .i64 0, .int .i64 1, .int .i64 (-1), .int .i64 63, .int .i64 64, .int .i64 (-64), .int .i64 (-65), .int .i64 9223372036854775807, .int .i64 (-9223372036854775808), .int .i64 300] 2)) (hR1.below hbT) (by omega) (by omega) (by omega)
      go_wp2_with fail
      refine hpk.mono ?_
      rintro e w2 ⟨z, rfl, hz, hg2, hR2⟩
      obtain ⟨c, hc1, hc2, hc3⟩ := lit10I z hz
      have hgw : g < w1.heap.size := hR1.lt
      have hcell : w2.cell? ⟨w1.heap.size, z, none⟩ = some (.int .i64 c) := hg2.cell (a := ⟨w1.heap.size, z, none⟩) ((World.cell?_alloc_new w1 _ _ z).trans hc3) (by simp; omega)
      have HP : RKeep (DrA g a cap zs W p (dK 0) (dN 0) (dM 0) (.returned (.slice (some ⟨w2.heap.size, 0, none⟩) 1 1)) (w2.alloc (.cells #[.int .i64 2, .int .i64 c, .string ⟨#[]⟩, .int .i64 0] 66))) := ⟨DrA.one ⟨2, c, ⟨#[]⟩, 0⟩ (gr_trans (gr_trans hg1 (gr_below hbT)) hg2) hR2 (by omega) ⟨hc1, hc2⟩ (by show 0 ≤ 20; omega)⟩
      clear hg1 hg2 hR1 hR2 h hpk hbT hc3
      generalize w1.heap.size = k1 at *
      go_wp2
      go_ret
      exact HP.out
    · have hbT : Below w1.heap.size w1 (w1.alloc (.cells #[.int .i64 0, .int .i64 1, .int .i64 (-1), .int .i64 63, .int .i64 64, .int .i64 (-64), .int .i64 (-65), .int .i64 9223372036854775807, .int .i64 (-9223372036854775808), .int .i64 300] 2)) := (Below.refl _ _).alloc (Nat.le_refl _) _
      have hpk := pick_any g a cap zs (p + 1) 10 (w1.alloc (.cells #[.int .i64 0, .int .i64 1, .int .i64 (-1), .int .i64 63, .int .i64 64, .int .i64 (-64), .int .i64 (-65), .int .i64 9223372036854775807, .int .i64 (-9223372036854775808), .int .i64 300] 2)) (hR1.below hbT) (by omega) (by omega) (by omega)
      go_wp2_with fail
      refine hpk.mono ?_
      rintro e w2 ⟨z, rfl, hz, hg2, hR2⟩
      obtain ⟨c, hc1, hc2, hc3⟩ := lit10I z hz
      have hgw : g < w1.heap.size := hR1.lt
      have hcell : w2.cell? ⟨w1.heap.size, z, none⟩ = some (.int .i64 c) := hg2.cell (a := ⟨w1.heap.size, z, none⟩) ((World.cell?_alloc_new w1 _ _ z).trans hc3) (by simp; omega)
      have HP : RKeep (DrA g a cap zs W p (dK 0) (dN 0) (dM 0) (.returned (.slice (some ⟨w2.heap.size, 0, none⟩) 1 1)) (w2.alloc (.cells #[.int .i64 2, .int .i64 c, .string ⟨#[]⟩, .int .i64 0] 66))) := ⟨DrA.one ⟨2, c, ⟨#[]⟩, 0⟩ (gr_trans (gr_trans hg1 (gr_below hbT)) hg2) hR2 (by omega) ⟨hc1, hc2⟩ (by show 0 ≤ 20; omega)⟩
      clear hg1 hg2 hR1 hR2 h hpk hbT hc3
      generalize w1.heap.size = k1 at *
      go_wp2
      go_ret
      exact HP.out
  | succ J =>
    have hd : ¬ ((J + 1 : Nat) : Int) ≤ 0 := by omega
    rw [show ((J + 1 : Nat) : Int) = (J : Int) + 1 by omega] at hd ⊢
    simp only [dN] at hN
    rcases (show k = 0 ∨ k = 1 ∨ k = 2 ∨ k = 3 ∨ k = 4 ∨ k = 5 ∨ k = 6 by omega) with rfl | rfl | rfl | rfl | rfl | rfl | rfl
    · go_wp2_with fail
      refine (pick_any g a cap zs (p + 1) 2 w1 hR1 (by omega) (by omega) (by omega)).mono ?_
      rintro e w2 ⟨z, rfl, hz, hg2, hR2⟩
      have HP : RKeep (DrA g a cap zs W p (dK (J + 1)) (dN (J + 1)) (dM (J + 1)) (.returned (.slice (some ⟨w2.heap.size, 0, none⟩) 1 1)) (w2.alloc (.cells #[.int .i64 1, .int .i64 z, .string ⟨#[]⟩, .int .i64 0] 66))) := ⟨DrA.one ⟨1, z, ⟨#[]⟩, 0⟩ (gr_trans hg1 hg2) hR2 (by omega) (by show (-9223372036854775808 : Int) ≤ z ∧ (z : Int) < 9223372036854775808; omega) (by show 0 ≤ 20; omega)⟩
      clear hg1 hg2 hR1 hR2 h
      go_wp2
      go_ret
      exact HP.out
    · have hbT : Below w1.heap.size w1 (w1.alloc (.cells #[.int .i64 0, .int .i64 1, .int .i64 (-1), .int .i64 63, .int .i64 64, .int .i64 (-64), .int .i64 (-65), .int .i64 9223372036854775807, .int .i64 (-9223372036854775808), .int .i64 300] 2)) := (Below.refl _ _).alloc (Nat.le_refl _) _
      have hpk := pick_any g a cap zs (p + 1) 10 (w1.alloc (.cells #[.int .i64 0, .int .i64 1, .int .i64 (-1), .int .i64 63, .int .i64 64, .int .i64 (-64), .int .i64 (-65), .int .i64 9223372036854775807, .int .i64 (-9223372036854775808), .int .i64 300] 2)) (hR1.below hbT) (by omega) (by omega) (by omega)
      go_wp2_with fail
      refine hpk.mono ?_
      rintro e w2 ⟨z, rfl, hz, hg2, hR2⟩
      obtain ⟨c, hc1, hc2, hc3⟩ := lit10I z hz
      have hgw : g < w1.heap.size := hR1.lt
      have hcell : w2.cell? ⟨w1.heap.size, z, none⟩ = some (.int .i64 c) := hg2.cell (a := ⟨w1.heap.size, z, none⟩) ((World.cell?_alloc_new w1 _ _ z).trans hc3) (by simp; omega)
      have HP : RKeep (DrA g a cap zs W p (dK (J + 1)) (dN (J + 1)) (dM (J + 1)) (.returned (.slice (some ⟨w2.heap.size, 0, none⟩) 1 1)) (w2.alloc (.cells #[.int .i64 2, .int .i64 c, .string ⟨#[]⟩, .int .i64 0] 66))) := ⟨DrA.one ⟨2, c, ⟨#[]⟩, 0⟩ (gr_trans (gr_trans hg1 (gr_below hbT)) hg2) hR2 (by omega) ⟨hc1, hc2⟩ (by show 0 ≤ 20; omega)⟩
      clear hg1 hg2 hR1 hR2 h hpk hbT hc3
      generalize w1.heap.size = k1 at *
      go_wp2
      go_ret
      exact HP.out
    · have hbT : Below w1.heap.size w1 (w1.alloc (.cells #[.int .i64 0, .int .i64 1, .int .i64 (-1), .int .i64 63, .int .i64 64, .int .i64 (-64), .int .i64 (-65), .int .i64 9223372036854775807, .int .i64 (-9223372036854775808), .int .i64 300] 2)) := (Below.refl _ _).alloc (Nat.le_refl _) _
      have hpk := pick_any g a cap zs (p + 1) 10 (w1.alloc (.cells #[.int .i64 0, .int .i64 1, .int .i64 (-1), .int .i64 63, .int .i64 64, .int .i64 (-64), .int .i64 (-65), .int .i64 9223372036854775807, .int .i64 (-9223372036854775808), .int .i64 300] 2)) (hR1.below hbT) (by omega) (by omega) (by omega)
      go_wp2_with fail
      refine hpk.mono ?_
      rintro e w2 ⟨z, rfl, hz, hg2, hR2⟩
      obtain ⟨c, hc1, hc2, hc3⟩ := lit10I z hz
      have hgw : g < w1.heap.size := hR1.lt
      have hcell : w2.cell? ⟨w1.heap.size, z, none⟩ = some (.int .i64 c) := hg2.cell (a := ⟨w1.heap.size, z, none⟩) ((World.cell?_alloc_new w1 _ _ z).trans hc3) (by simp; omega)
      have HP : RKeep (DrA g a cap zs W p (dK (J + 1)) (dN (J + 1)) (dM (J + 1)) (.returned (.slice (some ⟨w2.heap.size, 0, none⟩) 1 1)) (w2.alloc (.cells #[.int .i64 2, .int .i64 c, .string ⟨#[]⟩, .int .i64 0] 66))) := ⟨DrA.one ⟨2, c, ⟨#[]⟩, 0⟩ (gr_trans (gr_trans hg1 (gr_below hbT)) hg2) hR2 (by omega) ⟨hc1, hc2⟩ (by show 0 ≤ 20; omega)⟩
      clear hg1 hg2 hR1 hR2 h hpk hbT hc3
      generalize w1.heap.size = k1 at *
      go_wp2
      go_ret
      exact HP.out
    · go_wp2_with fail
      refine (text_any g a cap zs (p + 1) w1 hR1 (by omega)).mono ?_
      rintro e w2 ⟨tx, rfl, htx, ⟨p2, hp2, hR2⟩, hg2⟩
      have HP : RKeep (DrA g a cap zs W p (dK (J + 1)) (dN (J + 1)) (dM (J + 1)) (.returned (.slice (some ⟨w2.heap.size, 0, none⟩) 1 1)) (w2.alloc (.cells #[.int .i64 3, .int .i64 0, .string tx, .int .i64 0] 66))) := ⟨DrA.one ⟨3, 0, tx, 0⟩ (gr_trans hg1 hg2) hR2 (by omega) okN htx⟩
      clear hg1 hg2 hR1 hR2 h
      go_wp2
      go_ret
      exact HP.out
    · have hbE : Below w1.heap.size w1 (w1.alloc (.cells #[] 66)) := (Below.refl _ _).alloc (Nat.le_refl _) _
      have hV0 : VMk g a cap zs W (w1.alloc (.cells #[] 66)) (p + 1) (.slice (some ⟨w1.heap.size, 0, none⟩) 0 0) [] := ⟨hR1.below hbE, gr_trans hg1 (gr_below hbE), own_noneA w1 W.heap.size hg1.size, hgW⟩
      have hpk := pick_any g a cap zs (p + 1) 5 (w1.alloc (.cells #[] 66)) hV0.rd (by omega) (by omega) (by omega)
      go_wp2_with fail
      refine hpk.mono ?_
      rintro e w2 ⟨n, rfl, hn, hg2, hR2⟩
      have hV1 := hV0.call hg2 hR2
      clear hpk hV0 hbE hR1 hR2 hg1 hg2 h
      generalize w1.heap.size = k1 at *
      have hjw : IntKind.i64.wrap ((J : Int) + 1 - 1) = (J : Int) := by rw [IntKind.wrap_i64]; omega
      have HIH : RKeep (DrwS g a cap zs J (J : Int)) := ⟨ih J rfl⟩
      unfold DrwS at HIH
      have HD : RKeep (dN (J + 1) = 1 + 4 * (1 + dN J) ∧ dM (J + 1) = 20 + 4 * (4 + dM J) ∧ dK (J + 1) = 12 + 4 * (1 + dK J)) := ⟨⟨rfl, rfl, rfl⟩⟩
      simp only [dK] at hp
      clear ih hpK
      generalize hXX : dN J = A at *
      generalize hYY : dM J = B at *
      generalize hZZ : dK J = C at *
      clear hXX hYY hZZ
      have HB : RKeep (n * (1 + A) ≤ 4 * (1 + A) ∧ n * (4 + B) ≤ 4 * (4 + B) ∧ n * (1 + C) ≤ 4 * (1 + C)) := ⟨⟨Nat.mul_le_mul_right _ (by omega), Nat.mul_le_mul_right _ (by omega), Nat.mul_le_mul_right _ (by omega)⟩⟩
      go_wp2
      go_loopw [7, 9] (fun o i wr => ∃ (m q : Nat) (ys : List At), m ≤ n ∧ i = .int .i64 m ∧ VMk g a cap zs W wr q o ys ∧ RKeep (AOk (m * (1 + A)) (m * (4 + B)) ys) ∧ RKeep (q ≤ p + 2 + m * (1 + C))) (fun _ i _ => n - (intOf i).toNat)
      case atStart => exact ⟨0, p + 1 + 1, [], Nat.zero_le _, rfl, hV1, ⟨AOk.nil _ _⟩, ⟨by omega⟩⟩
      case round =>
        clear hV1
        obtain ⟨m, q, ys, hm, rfl, hV, HA, HQ⟩ := hrel
        obtain ⟨ad, cp, rfl⟩ := owns_slice hV.row
        have HM : RKeep ((m + 1) * (1 + A) = m * (1 + A) + (1 + A) ∧ (m + 1) * (4 + B) = m * (4 + B) + (4 + B) ∧ (m + 1) * (1 + C) = m * (1 + C) + (1 + C) ∧ m * (1 + A) ≤ n * (1 + A) ∧ m * (4 + B) ≤ n * (4 + B) ∧ m * (1 + C) ≤ n * (1 + C)) := ⟨⟨Nat.succ_mul _ _, Nat.succ_mul _ _, Nat.succ_mul _ _, Nat.mul_le_mul_right _ hm, Nat.mul_le_mul_right _ hm, Nat.mul_le_mul_right _ hm⟩⟩
        have hyl : ys.length ≤ 200 := by have h1 := HA.out.1; obtain ⟨_, _, _, h2, _⟩ := HM.out; have h3 := HB.out.1; omega
        have hWs : W.heap.size ≤ wr.heap.size := hV.gr.size
        by_cases hlt : m < n
        · have hlt1 : (m : Int) < n := by omega
          have HL : RKeep ((m + 1) * (1 + C) ≤ n * (1 + C)) := ⟨Nat.mul_le_mul_right _ (by omega)⟩
          have hqK : q + 1 + C ≤ 1000000 := by have h1 := HQ.out; have h2 := HL.out; obtain ⟨_, _, h3, _⟩ := HM.out; obtain ⟨_, _, h4⟩ := HB.out; omega
          have hcall := HIH.out wr q hV.rd (by omega)
          go_wp2_with fail
          refine hcall.mono ?_
          rintro e w3 ⟨gs, cs, ts, rfl, hown, hpos, hok, ⟨q3, hq3, hR3⟩, hg3⟩
          clear hcall
          have hV3 := hV.call hg3 hR3
          have hrow := hV3.row
          have hlen := acells_len ts
          have hnw := dk_news hown
          have hone := acells_one ts
          have htl : ts.length ≤ 200 := by have h1 := hok.1; omega
          have HQ2 : RKeep (q3 ≤ p + 2 + (m + 1) * (1 + C)) := ⟨by have h1 := HQ.out; obtain ⟨_, _, h3, _⟩ := HM.out; omega⟩
          have hW3 : W.heap.size ≤ w3.heap.size := hV3.gr.size
          have HN : RKeep (AOk ((m + 1) * (1 + A)) ((m + 1) * (4 + B)) (ys ++ ts)) := ⟨(HA.out.append hok).mono (by obtain ⟨h1, _⟩ := HM.out; omega) (by obtain ⟨_, h1, _⟩ := HM.out; omega)⟩
          have HW : RKeep (∀ v4 w4, w3.grownBy w4 (Value.slice ad ys.length cp).ownBlock → w4.ownsRow W.heap.size 66 4 v4 (ys.length + ts.length) (acells ys ++ acells ts) → VMk g a cap zs W w4 q3 v4 (ys ++ ts)) := ⟨fun v4 w4 hg4 ho4 => hV3.app hg4 ho4⟩
          clear hV hV3 HA hown hg3 hR3
          go_wp2_with (first | (at_builtin; refine wpList_append_own _ rfl _ _ 22 rfl W.heap.size 66 i0 _ 4 40 Tryd.underlying22 hi hz0 hz1 hzb rfl (by decide) (.slice ad ys.length cp) ys.length (acells ys) rfl hrow ⟨gs, 0, none⟩ ts.length cs (acells ts) rfl hlen hnw hone (by unfold maxLen; omega) (by omega) (by omega) ?_; intro v4 w4 hown4 hgrow4 hnn4))
          have HF := RKeep.mk (HW.out v4 w4 hgrow4 hown4)
          clear HW hrow hown4 hgrow4 hnn4 hnw hone
          go_roundw
          case rel => exact ⟨m + 1, q3, ys ++ ts, by omega, by go_num, HF.out, HN, HQ2⟩
          case measure => simp [intOf]; omega
        · obtain rfl : n = m := by omega
          have hbA : Below wr.heap.size wr (wr.alloc (.cells #[.int .i64 4, .int .i64 0, .string ⟨#[]⟩, .int .i64 ((n : Int))] 66)) := (Below.refl _ _).alloc (Nat.le_refl _) _
          have hV2 := hV.below hbA
          have hrow := hV2.row
          have hnw := news_4 wr ⟨4, 0, ⟨#[]⟩, (n : Int)⟩ 66 wr.heap.size rfl
          have hone := one_4 ⟨4, 0, ⟨#[]⟩, (n : Int)⟩
          have HW : RKeep (∀ g3 cap3 w3, (wr.alloc (.cells #[.int .i64 4, .int .i64 0, .string ⟨#[]⟩, .int .i64 ((n : Int))] 66)).grownBy w3 (Value.slice ad ys.length cp).ownBlock → w3.ownsRow W.heap.size 66 4 (.slice (some ⟨g3, 0, none⟩) (ys.length + 1) cap3) (ys.length + 1) (acells ys ++ At.cells ⟨4, 0, ⟨#[]⟩, (n : Int)⟩) → DrA g a cap zs W p (dK (J + 1)) (dN (J + 1)) (dM (J + 1)) (.returned (.slice (some ⟨g3, 0, none⟩) (ys.length + 1) cap3)) w3) := ⟨fun g3 cap3 w3 hg3 ho3 => by
            have hF := hV2.app1 hg3 ho3
            have hk := (HA.out.append (AOk.one (a := ⟨4, 0, ⟨#[]⟩, (n : Int)⟩) okN)).mono (N' := dN (J + 1)) (M' := dM (J + 1)) (by obtain ⟨h1, _⟩ := HD.out; obtain ⟨_, _, _, h2, _⟩ := HM.out; have h3 := HB.out.1; omega) (by show n * (4 + B) + 0 ≤ dM (J + 1); obtain ⟨_, h1, _⟩ := HD.out; obtain ⟨_, _, _, _, h2, _⟩ := HM.out; obtain ⟨_, h3, _⟩ := HB.out; omega)
            have hrw := hF.row
            have hl : (ys ++ [(⟨4, 0, ⟨#[]⟩, (n : Int)⟩ : At)]).length = ys.length + 1 := by simp
            exact ⟨g3, cap3, ys ++ [⟨4, 0, ⟨#[]⟩, (n : Int)⟩], by rw [hl], by rw [hl] at hrw ⊢; exact hrw, by rw [hl]; omega, hk, hF.dr (by obtain ⟨_, _, h1⟩ := HD.out; obtain ⟨_, _, _, _, _, h2⟩ := HM.out; obtain ⟨_, _, h3⟩ := HB.out; have h4 := HQ.out; omega)⟩⟩
          clear hV hV2 HA HIH HD HM HQ HB
          go_wp2_with (first | (at_builtin; refine wpList_append_lies _ rfl _ _ 22 rfl W.heap.size 66 i0 _ 4 40 Tryd.underlying22 hi hz0 hz1 hzb rfl (by decide) (.slice ad ys.length cp) ys.length (acells ys) rfl hrow ⟨wr.heap.size, 0, none⟩ 1 1 (At.cells ⟨4, 0, ⟨#[]⟩, (n : Int)⟩) rfl rfl (by exact hnw) hone (by omega) (by unfold maxLen; omega) (by omega) (by simp; omega) _ rfl ?_; intro g3 cap3 w3 hown3 hgrow3 hat3 hlt3))
          have HP := RKeep.mk (HW.out g3 cap3 w3 hgrow3 hown3)
          clear HW hrow hown3 hgrow3 hat3 hlt3 hnw hone hbA
          go_ret
          exact HP.out
    · have hbE : Below w1.heap.size w1 (w1.alloc (.cells #[] 66)) := (Below.refl _ _).alloc (Nat.le_refl _) _
      have hV0 : VMk g a cap zs W (w1.alloc (.cells #[] 66)) (p + 1) (.slice (some ⟨w1.heap.size, 0, none⟩) 0 0) [] := ⟨hR1.below hbE, gr_trans hg1 (gr_below hbE), own_noneA w1 W.heap.size hg1.size, hgW⟩
      have hpk := pick_any g a cap zs (p + 1) 5 (w1.alloc (.cells #[] 66)) hV0.rd (by omega) (by omega) (by omega)
      go_wp2_with fail
      refine hpk.mono ?_
      rintro e w2 ⟨n, rfl, hn, hg2, hR2⟩
      have hV1 := hV0.call hg2 hR2
      clear hpk hV0 hbE hR1 hR2 hg1 hg2 h
      generalize w1.heap.size = k1 at *
      have hjw : IntKind.i64.wrap ((J : Int) + 1 - 1) = (J : Int) := by rw [IntKind.wrap_i64]; omega
      have HIH : RKeep (DrwS g a cap zs J (J : Int)) := ⟨ih J rfl⟩
      unfold DrwS at HIH
      have HD : RKeep (dN (J + 1) = 1 + 4 * (1 + dN J) ∧ dM (J + 1) = 20 + 4 * (4 + dM J) ∧ dK (J + 1) = 12 + 4 * (1 + dK J)) := ⟨⟨rfl, rfl, rfl⟩⟩
      simp only [dK] at hp
      clear ih hpK
      generalize hXX : dN J = A at *
      generalize hYY : dM J = B at *
      generalize hZZ : dK J = C at *
      clear hXX hYY hZZ
      have HB : RKeep (n * (1 + A) ≤ 4 * (1 + A) ∧ n * (4 + B) ≤ 4 * (4 + B) ∧ n * (1 + C) ≤ 4 * (1 + C)) := ⟨⟨Nat.mul_le_mul_right _ (by omega), Nat.mul_le_mul_right _ (by omega), Nat.mul_le_mul_right _ (by omega)⟩⟩
      go_wp2
      go_loopw [7, 9] (fun o i wr => ∃ (m q : Nat) (ys : List At), m ≤ n ∧ i = .int .i64 m ∧ VMk g a cap zs W wr q o ys ∧ RKeep (AOk (m * (1 + A)) (m * (4 + B)) ys) ∧ RKeep (q ≤ p + 2 + m * (1 + C))) (fun _ i _ => n - (intOf i).toNat)
      case atStart => exact ⟨0, p + 1 + 1, [], Nat.zero_le _, rfl, hV1, ⟨AOk.nil _ _⟩, ⟨by omega⟩⟩
      case round =>
        clear hV1
        obtain ⟨m, q, ys, hm, rfl, hV, HA, HQ⟩ := hrel
        obtain ⟨ad, cp, rfl⟩ := owns_slice hV.row
        have HM : RKeep ((m + 1) * (1 + A) = m * (1 + A) + (1 + A) ∧ (m + 1) * (4 + B) = m * (4 + B) + (4 + B) ∧ (m + 1) * (1 + C) = m * (1 + C) + (1 + C) ∧ m * (1 + A) ≤ n * (1 + A) ∧ m * (4 + B) ≤ n * (4 + B) ∧ m * (1 + C) ≤ n * (1 + C)) := ⟨⟨Nat.succ_mul _ _, Nat.succ_mul _ _, Nat.succ_mul _ _, Nat.mul_le_mul_right _ hm, Nat.mul_le_mul_right _ hm, Nat.mul_le_mul_right _ hm⟩⟩
        have hyl : ys.length ≤ 200 := by have h1 := HA.out.1; obtain ⟨_, _, _, h2, _⟩ := HM.out; have h3 := HB.out.1; omega
        have hWs : W.heap.size ≤ wr.heap.size := hV.gr.size
        by_cases hlt : m < n
        · have hlt1 : (m : Int) < n := by omega
          have HL : RKeep ((m + 1) * (1 + C) ≤ n * (1 + C)) := ⟨Nat.mul_le_mul_right _ (by omega)⟩
          have hqK : q + 1 + C ≤ 1000000 := by have h1 := HQ.out; have h2 := HL.out; obtain ⟨_, _, h3, _⟩ := HM.out; obtain ⟨_, _, h4⟩ := HB.out; omega
          have hcall := HIH.out wr q hV.rd (by omega)
          go_wp2_with fail
          refine hcall.mono ?_
          rintro e w3 ⟨gs, cs, ts, rfl, hown, hpos, hok, ⟨q3, hq3, hR3⟩, hg3⟩
          clear hcall
          have hV3 := hV.call hg3 hR3
          have hrow := hV3.row
          have hlen := acells_len ts
          have hnw := dk_news hown
          have hone := acells_one ts
          have htl : ts.length ≤ 200 := by have h1 := hok.1; omega
          have HQ2 : RKeep (q3 ≤ p + 2 + (m + 1) * (1 + C)) := ⟨by have h1 := HQ.out; obtain ⟨_, _, h3, _⟩ := HM.out; omega⟩
          have hW3 : W.heap.size ≤ w3.heap.size := hV3.gr.size
          have HN : RKeep (AOk ((m + 1) * (1 + A)) ((m + 1) * (4 + B)) (ys ++ ts)) := ⟨(HA.out.append hok).mono (by obtain ⟨h1, _⟩ := HM.out; omega) (by obtain ⟨_, h1, _⟩ := HM.out; omega)⟩
          have HW : RKeep (∀ v4 w4, w3.grownBy w4 (Value.slice ad ys.length cp).ownBlock → w4.ownsRow W.heap.size 66 4 v4 (ys.length + ts.length) (acells ys ++ acells ts) → VMk g a cap zs W w4 q3 v4 (ys ++ ts)) := ⟨fun v4 w4 hg4 ho4 => hV3.app hg4 ho4⟩
          clear hV hV3 HA hown hg3 hR3
          go_wp2_with (first | (at_builtin; refine wpList_append_own _ rfl _ _ 22 rfl W.heap.size 66 i0 _ 4 40 Tryd.underlying22 hi hz0 hz1 hzb rfl (by decide) (.slice ad ys.length cp) ys.length (acells ys) rfl hrow ⟨gs, 0, none⟩ ts.length cs (acells ts) rfl hlen hnw hone (by unfold maxLen; omega) (by omega) (by omega) ?_; intro v4 w4 hown4 hgrow4 hnn4))
          have HF := RKeep.mk (HW.out v4 w4 hgrow4 hown4)
          clear HW hrow hown4 hgrow4 hnn4 hnw hone
          go_roundw
          case rel => exact ⟨m + 1, q3, ys ++ ts, by omega, by go_num, HF.out, HN, HQ2⟩
          case measure => simp [intOf]; omega
        · obtain rfl : n = m := by omega
          have hbA : Below wr.heap.size wr (wr.alloc (.cells #[.int .i64 4, .int .i64 0, .string ⟨#[]⟩, .int .i64 ((n : Int))] 66)) := (Below.refl _ _).alloc (Nat.le_refl _) _
          have hV2 := hV.below hbA
          have hrow := hV2.row
          have hnw := news_4 wr ⟨4, 0, ⟨#[]⟩, (n : Int)⟩ 66 wr.heap.size rfl
          have hone := one_4 ⟨4, 0, ⟨#[]⟩, (n : Int)⟩
          have HW : RKeep (∀ g3 cap3 w3, (wr.alloc (.cells #[.int .i64 4, .int .i64 0, .string ⟨#[]⟩, .int .i64 ((n : Int))] 66)).grownBy w3 (Value.slice ad ys.length cp).ownBlock → w3.ownsRow W.heap.size 66 4 (.slice (some ⟨g3, 0, none⟩) (ys.length + 1) cap3) (ys.length + 1) (acells ys ++ At.cells ⟨4, 0, ⟨#[]⟩, (n : Int)⟩) → DrA g a cap zs W p (dK (J + 1)) (dN (J + 1)) (dM (J + 1)) (.returned (.slice (some ⟨g3, 0, none⟩) (ys.length + 1) cap3)) w3) := ⟨fun g3 cap3 w3 hg3 ho3 => by
            have hF := hV2.app1 hg3 ho3
            have hk := (HA.out.append (AOk.one (a := ⟨4, 0, ⟨#[]⟩, (n : Int)⟩) okN)).mono (N' := dN (J + 1)) (M' := dM (J + 1)) (by obtain ⟨h1, _⟩ := HD.out; obtain ⟨_, _, _, h2, _⟩ := HM.out; have h3 := HB.out.1; omega) (by show n * (4 + B) + 0 ≤ dM (J + 1); obtain ⟨_, h1, _⟩ := HD.out; obtain ⟨_, _, _, _, h2, _⟩ := HM.out; obtain ⟨_, h3, _⟩ := HB.out; omega)
            have hrw := hF.row
            have hl : (ys ++ [(⟨4, 0, ⟨#[]⟩, (n : Int)⟩ : At)]).length = ys.length + 1 := by simp
            exact ⟨g3, cap3, ys ++ [⟨4, 0, ⟨#[]⟩, (n : Int)⟩], by rw [hl], by rw [hl] at hrw ⊢; exact hrw, by rw [hl]; omega, hk, hF.dr (by obtain ⟨_, _, h1⟩ := HD.out; obtain ⟨_, _, _, _, _, h2⟩ := HM.out; obtain ⟨_, _, h3⟩ := HB.out; have h4 := HQ.out; omega)⟩⟩
          clear hV hV2 HA HIH HD HM HQ HB
          go_wp2_with (first | (at_builtin; refine wpList_append_lies _ rfl _ _ 22 rfl W.heap.size 66 i0 _ 4 40 Tryd.underlying22 hi hz0 hz1 hzb rfl (by decide) (.slice ad ys.length cp) ys.length (acells ys) rfl hrow ⟨wr.heap.size, 0, none⟩ 1 1 (At.cells ⟨4, 0, ⟨#[]⟩, (n : Int)⟩) rfl rfl (by exact hnw) hone (by omega) (by unfold maxLen; omega) (by omega) (by simp; omega) _ rfl ?_; intro g3 cap3 w3 hown3 hgrow3 hat3 hlt3))
          have HP := RKeep.mk (HW.out g3 cap3 w3 hgrow3 hown3)
          clear HW hrow hown3 hgrow3 hat3 hlt3 hnw hone hbA
          go_ret
          exact HP.out
    · have hbE : Below w1.heap.size w1 (w1.alloc (.cells #[] 66)) := (Below.refl _ _).alloc (Nat.le_refl _) _
      have hV0 : VMk g a cap zs W (w1.alloc (.cells #[] 66)) (p + 1) (.slice (some ⟨w1.heap.size, 0, none⟩) 0 0) [] := ⟨hR1.below hbE, gr_trans hg1 (gr_below hbE), own_noneA w1 W.heap.size hg1.size, hgW⟩
      have hpk := pick_any g a cap zs (p + 1) 5 (w1.alloc (.cells #[] 66)) hV0.rd (by omega) (by omega) (by omega)
      go_wp2_with fail
      refine hpk.mono ?_
      rintro e w2 ⟨n, rfl, hn, hg2, hR2⟩
      have hV1 := hV0.call hg2 hR2
      clear hpk hV0 hbE hR1 hR2 hg1 hg2 h
      generalize w1.heap.size = k1 at *
      have hjw : IntKind.i64.wrap ((J : Int) + 1 - 1) = (J : Int) := by rw [IntKind.wrap_i64]; omega
      have HIH : RKeep (DrwS g a cap zs J (J : Int)) := ⟨ih J rfl⟩
      unfold DrwS at HIH
      have HD : RKeep (dN (J + 1) = 1 + 4 * (1 + dN J) ∧ dM (J + 1) = 20 + 4 * (4 + dM J) ∧ dK (J + 1) = 12 + 4 * (1 + dK J)) := ⟨⟨rfl, rfl, rfl⟩⟩
      simp only [dK] at hp
      clear ih hpK
      generalize hXX : dN J = A at *
      generalize hYY : dM J = B at *
      generalize hZZ : dK J = C at *
      clear hXX hYY hZZ
      have HB : RKeep (n * (1 + A) ≤ 4 * (1 + A) ∧ n * (4 + B) ≤ 4 * (4 + B) ∧ n * (1 + C) ≤ 4 * (1 + C)) := ⟨⟨Nat.mul_le_mul_right _ (by omega), Nat.mul_le_mul_right _ (by omega), Nat.mul_le_mul_right _ (by omega)⟩⟩
      go_wp2
      go_loopw [7, 10] (fun o i wr => ∃ (m q : Nat) (ys : List At), m ≤ n ∧ i = .int .i64 m ∧ VMk g a cap zs W wr q o ys ∧ RKeep (AOk (m * (1 + A)) (m * (4 + B)) ys) ∧ RKeep (q ≤ p + 2 + m * (1 + C))) (fun _ i _ => n - (intOf i).toNat)
      case atStart => exact ⟨0, p + 1 + 1, [], Nat.zero_le _, rfl, hV1, ⟨AOk.nil _ _⟩, ⟨by omega⟩⟩
      case round =>
        clear hV1
        obtain ⟨m, q, ys, hm, rfl, hV, HA, HQ⟩ := hrel
        obtain ⟨ad, cp, rfl⟩ := owns_slice hV.row
        have HM : RKeep ((m + 1) * (1 + A) = m * (1 + A) + (1 + A) ∧ (m + 1) * (4 + B) = m * (4 + B) + (4 + B) ∧ (m + 1) * (1 + C) = m * (1 + C) + (1 + C) ∧ m * (1 + A) ≤ n * (1 + A) ∧ m * (4 + B) ≤ n * (4 + B) ∧ m * (1 + C) ≤ n * (1 + C)) := ⟨⟨Nat.succ_mul _ _, Nat.succ_mul _ _, Nat.succ_mul _ _, Nat.mul_le_mul_right _ hm, Nat.mul_le_mul_right _ hm, Nat.mul_le_mul_right _ hm⟩⟩
        have hyl : ys.length ≤ 200 := by have h1 := HA.out.1; obtain ⟨_, _, _, h2, _⟩ := HM.out; have h3 := HB.out.1; omega
        have hWs : W.heap.size ≤ wr.heap.size := hV.gr.size
        by_cases hlt : m < n
        · have hlt1 : (m : Int) < n := by omega
          have HL : RKeep ((m + 1) * (1 + C) ≤ n * (1 + C)) := ⟨Nat.mul_le_mul_right _ (by omega)⟩
          have hqK : q + 1 + C ≤ 1000000 := by have h1 := HQ.out; have h2 := HL.out; obtain ⟨_, _, h3, _⟩ := HM.out; obtain ⟨_, _, h4⟩ := HB.out; omega
          have hmany := many_any ⟨#[110]⟩ m wr (by show 1 * m ≤ 1073741824; omega) (by omega) (by show 1 ≤ 1; omega) (by show 1 ≤ 1073741824; omega)
          go_wp2_with fail
          refine hmany.mono ?_
          rintro e wx ⟨o, rfl, hosz, rfl⟩
          clear hmany
          have ho : o.size = m := by rw [hosz]; show 1 * m = m; omega
          have HO : RKeep (o.size = m) := ⟨ho⟩
          have hcc : ¬ 9223372036854775807 < o.size := by omega
          clear ho hosz
          have hpk := pick_any g a cap zs q 2 wr hV.rd (by omega) (by omega) (by omega)
          go_wp2_with fail
          refine hpk.mono ?_
          rintro e w3 ⟨z, rfl, hz, hg3, hR3⟩
          clear hpk
          have hV3 := hV.call hg3 hR3
          have hdv : (m : Int) / 4 = 0 := by omega
          have hbA : Below w3.heap.size w3 (w3.alloc (.cells #[.int .i64 3, .int .i64 0, .string o, .int .i64 0] 66)) := (Below.refl _ _).alloc (Nat.le_refl _) _
          have hV4 := hV3.below hbA
          have hrow := hV4.row
          have hnw := news_4 w3 (textA o) 66 w3.heap.size rfl
          have hone := one_4 (textA o)
          have hW3 : W.heap.size ≤ w3.heap.size := hV3.gr.size
          have HW : RKeep (∀ g4 cap4 w4, (w3.alloc (.cells #[.int .i64 3, .int .i64 0, .string o, .int .i64 0] 66)).grownBy w4 (Value.slice ad ys.length cp).ownBlock → w4.ownsRow W.heap.size 66 4 (.slice (some ⟨g4, 0, none⟩) (ys.length + 1) cap4) (ys.length + 1) (acells ys ++ (textA o).cells) → VMk g a cap zs W w4 (q + 1) (.slice (some ⟨g4, 0, none⟩) (ys.length + 1) cap4) (ys ++ [textA o])) := ⟨fun g4 cap4 w4 hg4 ho4 => hV4.app1 hg4 ho4⟩
          clear hg3 hR3 hV hV3 hV4 hbA
          go_wp2_with (first | (at_builtin; refine wpList_append_lies _ rfl _ _ 22 rfl W.heap.size 66 i0 _ 4 40 Tryd.underlying22 hi hz0 hz1 hzb rfl (by decide) (.slice ad ys.length cp) ys.length (acells ys) rfl hrow ⟨w3.heap.size, 0, none⟩ 1 1 (textA o).cells rfl rfl (by exact hnw) hone (by omega) (by unfold maxLen; omega) (by omega) (by simp; omega) _ rfl ?_; intro g4 cap4 w4 hown4 hgrow4 hat4 hlt4))
          have hV5 : VMk g a cap zs W w4 (q + 1) (.slice (some ⟨g4, 0, none⟩) (ys.length + 1) cap4) (ys ++ [textA o]) := HW.out g4 cap4 w4 hgrow4 hown4
          clear HW hrow hown4 hgrow4 hat4 hlt4 hnw hone hdv hcc
          have hcall := HIH.out w4 (q + 1) hV5.rd (by omega)
          go_wp2_with fail
          refine hcall.mono ?_
          rintro e w5 ⟨gs, cs, ts, rfl, hown, hpos, hok, ⟨q5, hq5, hR5⟩, hg5⟩
          clear hcall
          have hV6 := hV5.call hg5 hR5
          have hrow := hV6.row
          rw [show (ys ++ [textA o]).length = ys.length + 1 by simp] at hrow
          have hlen := acells_len ts
          have hnw := dk_news hown
          have hone := acells_one ts
          have htl : ts.length ≤ 200 := by have h1 := hok.1; omega
          have HQ2 : RKeep (q5 ≤ p + 2 + (m + 1) * (1 + C)) := ⟨by have h1 := HQ.out; obtain ⟨_, _, h3, _⟩ := HM.out; omega⟩
          have hW5 : W.heap.size ≤ w5.heap.size := hV6.gr.size
          have HN : RKeep (AOk ((m + 1) * (1 + A)) ((m + 1) * (4 + B)) (ys ++ [textA o] ++ ts)) := ⟨((HA.out.append (AOk.one (a := textA o) okN)).append hok).mono (by obtain ⟨h1, _⟩ := HM.out; omega) (by show m * (4 + B) + o.size + B ≤ _; obtain ⟨_, h1, _⟩ := HM.out; have h2 := HO.out; omega)⟩
          have HW : RKeep (∀ v7 w7, w5.grownBy w7 (Value.slice (some ⟨g4, 0, none⟩) (ys.length + 1) cap4).ownBlock → w7.ownsRow W.heap.size 66 4 v7 (ys.length + 1 + ts.length) (acells (ys ++ [textA o]) ++ acells ts) → VMk g a cap zs W w7 q5 v7 (ys ++ [textA o] ++ ts)) := ⟨fun v7 w7 hg7 ho7 => hV6.app hg7 (by rw [show (ys ++ [textA o]).length = ys.length + 1 by simp]; exact ho7)⟩
          clear hV5 hV6 HA hown hg5 hR5
          go_wp2_with (first | (at_builtin; refine wpList_append_own _ rfl _ _ 22 rfl W.heap.size 66 i0 _ 4 40 Tryd.underlying22 hi hz0 hz1 hzb rfl (by decide) (.slice (some ⟨g4, 0, none⟩) (ys.length + 1) cap4) (ys.length + 1) (acells (ys ++ [textA o])) rfl hrow ⟨gs, 0, none⟩ ts.length cs (acells ts) rfl hlen hnw hone (by unfold maxLen; omega) (by omega) (by omega) ?_; intro v7 w7 hown7 hgrow7 hnn7))
          have HF := RKeep.mk (HW.out v7 w7 hgrow7 hown7)
          clear HW hrow hown7 hgrow7 hnn7 hnw hone
          go_roundw
          case rel => exact ⟨m + 1, q5, ys ++ [textA o] ++ ts, by omega, by go_num, HF.out, HN, HQ2⟩
          case measure => simp [intOf]; omega
        · obtain rfl : n = m := by omega
          have hbA : Below wr.heap.size wr (wr.alloc (.cells #[.int .i64 5, .int .i64 0, .string ⟨#[]⟩, .int .i64 (2 * (n : Int))] 66)) := (Below.refl _ _).alloc (Nat.le_refl _) _
          have hV2 := hV.below hbA
          have hrow := hV2.row
          have hnw := news_4 wr ⟨5, 0, ⟨#[]⟩, 2 * (n : Int)⟩ 66 wr.heap.size rfl
          have hone := one_4 ⟨5, 0, ⟨#[]⟩, 2 * (n : Int)⟩
          have HW : RKeep (∀ g3 cap3 w3, (wr.alloc (.cells #[.int .i64 5, .int .i64 0, .string ⟨#[]⟩, .int .i64 (2 * (n : Int))] 66)).grownBy w3 (Value.slice ad ys.length cp).ownBlock → w3.ownsRow W.heap.size 66 4 (.slice (some ⟨g3, 0, none⟩) (ys.length + 1) cap3) (ys.length + 1) (acells ys ++ At.cells ⟨5, 0, ⟨#[]⟩, 2 * (n : Int)⟩) → DrA g a cap zs W p (dK (J + 1)) (dN (J + 1)) (dM (J + 1)) (.returned (.slice (some ⟨g3, 0, none⟩) (ys.length + 1) cap3)) w3) := ⟨fun g3 cap3 w3 hg3 ho3 => by
            have hF := hV2.app1 hg3 ho3
            have hk := (HA.out.append (AOk.one (a := ⟨5, 0, ⟨#[]⟩, 2 * (n : Int)⟩) okN)).mono (N' := dN (J + 1)) (M' := dM (J + 1)) (by obtain ⟨h1, _⟩ := HD.out; obtain ⟨_, _, _, h2, _⟩ := HM.out; have h3 := HB.out.1; omega) (by show n * (4 + B) + 0 ≤ dM (J + 1); obtain ⟨_, h1, _⟩ := HD.out; obtain ⟨_, _, _, _, h2, _⟩ := HM.out; obtain ⟨_, h3, _⟩ := HB.out; omega)
            have hrw := hF.row
            have hl : (ys ++ [(⟨5, 0, ⟨#[]⟩, 2 * (n : Int)⟩ : At)]).length = ys.length + 1 := by simp
            exact ⟨g3, cap3, ys ++ [⟨5, 0, ⟨#[]⟩, 2 * (n : Int)⟩], by rw [hl], by rw [hl] at hrw ⊢; exact hrw, by rw [hl]; omega, hk, hF.dr (by obtain ⟨_, _, h1⟩ := HD.out; obtain ⟨_, _, _, _, _, h2⟩ := HM.out; obtain ⟨_, _, h3⟩ := HB.out; have h4 := HQ.out; omega)⟩⟩
          clear hV hV2 HA HIH HD HM HQ HB
          go_wp2_with (first | (at_builtin; refine wpList_append_lies _ rfl _ _ 22 rfl W.heap.size 66 i0 _ 4 40 Tryd.underlying22 hi hz0 hz1 hzb rfl (by decide) (.slice ad ys.length cp) ys.length (acells ys) rfl hrow ⟨wr.heap.size, 0, none⟩ 1 1 (At.cells ⟨5, 0, ⟨#[]⟩, 2 * (n : Int)⟩) rfl rfl (by exact hnw) hone (by omega) (by unfold maxLen; omega) (by omega) (by simp; omega) _ rfl ?_; intro g3 cap3 w3 hown3 hgrow3 hat3 hlt3))
          have HP := RKeep.mk (HW.out g3 cap3 w3 hgrow3 hown3)
          clear HW hrow hown3 hgrow3 hat3 hlt3 hnw hone hbA
          go_ret
          exact HP.out

theorem drawA_any (g : Nat) (a : Option Addr) (cap : Nat) (zs : List Int) : ∀ j, j ≤ 3 → dN j ≤ 200 → DrwS g a cap zs j (j : Int)
  | 0, _, h => drawA_step g a cap zs 0 (by omega) h (fun J hJ => by omega)
  | j + 1, h3, h => drawA_step g a cap zs (j + 1) h3 h (fun J hJ => by
    obtain rfl : j = J := by omega
    exact drawA_any g a cap zs j (by omega) (by simp only [dN] at h; omega))
end Go.Proofs.YtamaioeikcjhoaaDoor
