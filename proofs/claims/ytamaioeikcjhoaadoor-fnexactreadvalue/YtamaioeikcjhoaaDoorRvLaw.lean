/-
  The law FnExactReadValue, walked.
-/
import Derived.Test.YtamaioeikcjhoaaDoorSd5
namespace Go.Proofs.YtamaioeikcjhoaaDoor
open Go.RowKit

/-- What a reader answers, in one form. -/
def rxs (l : List UInt8) : List At := (readV l).getD []
def RvOne (w : World) (xs : List At) (q : Bool) (e : Ending) (w' : World) : Prop :=
  Below w.heap.size w w' ∧ ∃ a c, e = .returned (.tuple #[.agg #[.slice a xs.length c], .bool q]) ∧ AL w.heap.size w' a xs
theorem RvPost.one {l : List UInt8} {w w' : World} {e : Ending} (h : RvPost l w e w') : RvOne w (rxs l) (readV l).isSome e w' := by
  obtain ⟨hb, ⟨hn, rfl⟩ | ⟨xs, v, hs, rfl, ho⟩⟩ := h
  · unfold rxs
    rw [hn]
    exact ⟨hb, none, 0, rfl, AL.nil _ _ _⟩
  · unfold rxs
    rw [hs]
    obtain ⟨ad, cp, rfl⟩ := owns_slice ho
    exact ⟨hb, ad, cp, rfl, al_of_row ho⟩
theorem rxs_len (l : List UInt8) : (rxs l).length ≤ 300 := by
  unfold rxs
  cases h : readV l with
  | none => simp
  | some xs => exact (read_form h).2.2.1
theorem al_rng {B r : Nat} {w : World} {a : Option Addr} {ts : List At} (h : AL B w a ts) (hn : 0 < ts.length) (ha : a = some ⟨r, 0, none⟩) : B ≤ r ∧ r < w.heap.size := by
  rcases h with h | ⟨g, h1, h2, h3, _⟩
  · rw [h] at hn; simp at hn
  · rw [h1] at ha
    cases ha
    exact ⟨h2, h3⟩

set_option maxRecDepth 20000 in
set_option maxHeartbeats 2000000 in
theorem readLaw_any (s : ByteArray) (w : World) (hg : w.cell? ⟨0, 0, none⟩ = some (.iface 108 (.agg #[.pointer (some ⟨1, 42, none⟩)]))) :
    Calls Tryd.prog 3 #[.string s] w fun e w' => e = .returned (.bool true) ∧ Below w.heap.size w w' := by
  by_cases hbig : 1048576 < s.size
  · have hb1 : (1048576 : Int) < s.size := by omega
    go_enter Tryd.func3, Tryd.ntmps3
    go_wp2
    go_ret
    exact ⟨rfl, Below.refl _ _⟩
  have hb1 : ¬ (1048576 : Int) < s.size := by omega
  have HS : ∀ W, Calls Tryd.prog 5 #[.string s] W fun e w' => RvOne W (rxs s.data.toList) (readV s.data.toList).isSome e w' := fun W => (specRead_any s (by omega) W).mono fun e w' h => h.one
  have HI : ∀ W, W.cell? ⟨0, 0, none⟩ = some (.iface 108 (.agg #[.pointer (some ⟨1, 42, none⟩)])) → Calls Tryd.prog 6 #[.string s] W fun e w' => RvOne W (rxs s.data.toList) (readV s.data.toList).isSome e w' := fun W hgW => (implRead_any s (by omega) W hgW).mono fun e w' h => h.one
  have hlen := rxs_len s.data.toList
  generalize rxs s.data.toList = xs at *
  generalize (readV s.data.toList).isSome = q at *
  have KS := RKeep.mk HS
  have KI := RKeep.mk HI
  clear HS HI
  have hsc := KS.out w
  go_enter Tryd.func3, Tryd.ntmps3
  go_wp2_with fail
  refine hsc.mono ?_
  rintro e w1 ⟨hb01, a0, c0, rfl, hA0⟩
  clear hsc
  have hrg0 := fun r hn ha => al_rng (r := r) hA0 hn ha
  have hbx1 : Below w1.heap.size w1 (w1.alloc (.cells #[.slice a0 xs.length c0] 24)) := (Below.refl _ _).alloc (Nat.le_refl _) _
  have hA0 := hA0.below hbx1
  have hb02 : Below w.heap.size w (w1.alloc (.cells #[.slice a0 xs.length c0] 24)) := hb01.trans (hbx1.mono hb01.size)
  have x0 : (w1.alloc (.cells #[.slice a0 xs.length c0] 24)).cell? ⟨w1.heap.size, 0, none⟩ = some (.slice a0 xs.length c0) := by simp
  have hic := KI.out (w1.alloc (.cells #[.slice a0 xs.length c0] 24)) (cell_later hb02 hg)
  go_wp2_with fail
  refine hic.mono ?_
  rintro e w3 ⟨hb23, a1, c1, rfl, hA1⟩
  clear hic hb01 hbx1
  generalize w1.alloc (.cells #[.slice a0 xs.length c0] 24) = w2 at *
  generalize w1.heap.size = k0 at *
  have y0 := cell_later hb23 x0
  have hA0 := hA0.below hb23
  have hb03 := hb02.trans (hb23.mono hb02.size)
  have hk0 : k0 < w2.heap.size := lt_of_cellR x0
  have hrg := fun r hn ha => al_rng (r := r) hA1 hn ha
  have hbx3 : Below w3.heap.size w3 (w3.alloc (.cells #[.slice a1 xs.length c1] 24)) := (Below.refl _ _).alloc (Nat.le_refl _) _
  have hA0 := hA0.below hbx3
  have hA1 := hA1.below hbx3
  have hb04 : Below w.heap.size w (w3.alloc (.cells #[.slice a1 xs.length c1] 24)) := hb03.trans (hbx3.mono hb03.size)
  have x0 := cell_later hbx3 y0
  have x1 : (w3.alloc (.cells #[.slice a1 xs.length c1] 24)).cell? ⟨w3.heap.size, 0, none⟩ = some (.slice a1 xs.length c1) := by simp
  have hec := eqValue_any a1 a0 c1 c0 xs (w3.alloc (.cells #[.slice a1 xs.length c1] 24)) hA1.as hA0.as (by omega)
  have hw23 : w2.heap.size ≤ w3.heap.size := hb23.size
  have hw02 : w.heap.size ≤ w2.heap.size := hb02.size
  go_wp2_with fail
  refine hec.mono ?_
  rintro e w5 ⟨rfl, hb45⟩
  clear hec hbx3 y0 hb03 hb02 hb23
  generalize w3.alloc (.cells #[.slice a1 xs.length c1] 24) = w4 at *
  generalize w3.heap.size = k1 at *
  have y0 := cell_later hb45 x0
  have y1 := cell_later hb45 x1
  have hA0 := hA0.below hb45
  have hA1 := hA1.below hb45
  have hb05 := hb04.trans (hb45.mono hb04.size)
  clear x0 x1 hb04 hb45
  have hmc := markValue_any a1 c1 xs w2.heap.size w5 hA1 (by omega)
  have hlow : ((1 + 4 * xs.length : Nat) : Int) = 1 + 4 * (xs.length : Int) := by omega
  cases q
  all_goals
    go_wp2_with fail
    refine hmc.mono ?_
    rintro e w6 ⟨rfl, hM, row, hgr, hrow⟩
    clear hmc
    have hne : ∀ r, row = some r → w2.heap.size ≤ r ∧ r < k1 := fun r hr => hrg r (hrow r hr).1 (hrow r hr).2
    have x0 : w6.cell? ⟨k0, 0, none⟩ = some (.slice a0 xs.length c0) := (hgr.cell_far ⟨k0, 0, none⟩ (lt_of_cellR y0) (fun e => by have := hne k0 e.symm; omega)).trans y0
    have x1 : w6.cell? ⟨k1, 0, none⟩ = some (.slice a1 xs.length c1) := (hgr.cell_far ⟨k1, 0, none⟩ (lt_of_cellR y1) (fun e => by have := hne k1 e.symm; omega)).trans y1
    have hA0 := hA0.grown hgr (fun g hg0 _ _ => fun e => by have h1 := hne g e.symm; have h2 := hrg0 g (hrow g e.symm).1 hg0; omega)
    have hb06 : Below w.heap.size w w6 := hb05.grown hgr hb05.size (fun k hk => by have := hne k hk; omega)
    have hhc := heldValue_any a1 c1 xs.length w6 hM.as (by omega)
    have hd : ¬ ((1 + 4 * xs.length : Nat) : Int) < 0 := by omega
    clear y0 y1 hb05 hgr hrow hne
    go_wp2_with fail
    refine hhc.mono ?_
    rintro e w7 ⟨rfl, hb67⟩
    clear hhc
    have y0 := cell_later hb67 x0
    have y1 := cell_later hb67 x1
    have hA0 := hA0.below hb67
    have hM := hM.below hb67
    have hb07 := hb06.trans (hb67.mono hb06.size)
    clear x0 x1 hb06 hb67
    have hic := KI.out w7 (cell_later hb07 hg)
    go_wp2_with fail
    refine hic.mono ?_
    rintro e w8 ⟨hb78, a2, c2, rfl, hA2⟩
    clear hic
    have x0 := cell_later hb78 y0
    have x1 := cell_later hb78 y1
    have hA0 := hA0.below hb78
    have hM := hM.below hb78
    have hb08 := hb07.trans (hb78.mono hb07.size)
    clear y0 y1 hb07 hb78
    have hbx8 : Below w8.heap.size w8 (w8.alloc (.cells #[.slice a2 xs.length c2] 24)) := (Below.refl _ _).alloc (Nat.le_refl _) _
    have hA0 := hA0.below hbx8
    have hA2 := hA2.below hbx8
    have hM := hM.below hbx8
    have hb09 : Below w.heap.size w (w8.alloc (.cells #[.slice a2 xs.length c2] 24)) := hb08.trans (hbx8.mono hb08.size)
    have y0 := cell_later hbx8 x0
    have y1 := cell_later hbx8 x1
    have y2 : (w8.alloc (.cells #[.slice a2 xs.length c2] 24)).cell? ⟨w8.heap.size, 0, none⟩ = some (.slice a2 xs.length c2) := by simp
    have hec := eqValue_any a2 a0 c2 c0 xs (w8.alloc (.cells #[.slice a2 xs.length c2] 24)) hA2.as hA0.as (by omega)
    clear x0 x1 hb08 hbx8
    go_wp2_with fail
    refine hec.mono ?_
    rintro e w10 ⟨rfl, hb910⟩
    clear hec
    generalize w8.alloc (.cells #[.slice a2 xs.length c2] 24) = w9 at *
    generalize w8.heap.size = k2 at *
    have x1 := cell_later hb910 y1
    have hM := hM.below hb910
    have hb010 := hb09.trans (hb910.mono hb09.size)
    clear y0 y1 y2 hb09 hb910
    have hhc := heldValue_any a1 c1 xs.length w10 hM.as (by omega)
    go_wp2_with fail
    refine hhc.mono ?_
    rintro e w11 ⟨rfl, hb1011⟩
    clear hhc
    have hb011 := hb010.trans (hb1011.mono hb010.size)
    clear x1 hb010 hb1011
    go_wp2
    go_ret
    exact ⟨rfl, hb011⟩
end Go.Proofs.YtamaioeikcjhoaaDoor
