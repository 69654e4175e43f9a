/-
  spec.DrawMerge.
-/
import Derived.Test.YtockgapdfcapnaaZbf
import Derived.Test.YtockgapdfcapnaaZbh
import Derived.Test.YtockgapdfcapnaaNear
import Derived.Test.YtockgapdfcapnaaDrawS5
import Derived.Deep.CutRange
namespace Go.Proofs.Ytockgapdfcapnaa
open Go.RowKit

theorem getD_put2 {L : Array Bool} {m : Nat} (hL : L.getD m true = false) : (L.setIfInBounds m true).getD m false = true := by
  have h1 := getD_false hL
  have h2 : m < L.size := by simpa using (List.getElem?_eq_some_iff.1 h1).1
  rw [Array.getD_eq_getD_getElem?, Array.getElem?_setIfInBounds_self_of_lt h2]
  rfl
theorem code_laterM {w w' : World} {a : Option Addr} {cap : Nat} {zs : List Int} (h : Code0 w a cap zs) (hb : Below w.heap.size w w') : Code0 w' a cap zs :=
  ⟨by
    rcases h.bytes with h0 | ⟨b, off, h1, h2, h3⟩
    · exact .inl h0
    · exact .inr ⟨b, off, h1, Nat.lt_of_lt_of_le h2 hb.size, fun i hi => cell_later hb (h3 i hi)⟩, h.len, h.cap, h.wf⟩

set_option maxRecDepth 100000 in
set_option maxHeartbeats 20000000 in
theorem drawMerge_any (a : Option Addr) (cap : Nat) (zs : List Int) (w : World) (h : Code0 w a cap zs) :
    Calls Try.prog 10 #[.slice a zs.length cap] w (DrawnM w) := by
  have hal : Below w.heap.size w (((w.alloc (.cells #[.slice none 0 0] 32)).alloc (.cells #[.slice none 0 0] 32)).alloc (.cells #[.slice none 0 0] 32)) := (((Below.refl _ _).alloc (Nat.le_refl _) _).alloc (by simp) _).alloc (by simp; omega) _
  have a0 : (((w.alloc (.cells #[.slice none 0 0] 32)).alloc (.cells #[.slice none 0 0] 32)).alloc (.cells #[.slice none 0 0] 32)).cell? ⟨w.heap.size, 0, none⟩ = some (.slice none 0 0) ∧ (((w.alloc (.cells #[.slice none 0 0] 32)).alloc (.cells #[.slice none 0 0] 32)).alloc (.cells #[.slice none 0 0] 32)).frozen? ⟨w.heap.size, 0, none⟩ = false := ⟨by simp [go_sem], by simp [go_sem]⟩
  have b0 : (((w.alloc (.cells #[.slice none 0 0] 32)).alloc (.cells #[.slice none 0 0] 32)).alloc (.cells #[.slice none 0 0] 32)).cell? ⟨w.heap.size + 1, 0, none⟩ = some (.slice none 0 0) ∧ (((w.alloc (.cells #[.slice none 0 0] 32)).alloc (.cells #[.slice none 0 0] 32)).alloc (.cells #[.slice none 0 0] 32)).frozen? ⟨w.heap.size + 1, 0, none⟩ = false := ⟨by simp [go_sem], by simp [go_sem]⟩
  have d0 : (((w.alloc (.cells #[.slice none 0 0] 32)).alloc (.cells #[.slice none 0 0] 32)).alloc (.cells #[.slice none 0 0] 32)).cell? ⟨w.heap.size + 1 + 1, 0, none⟩ = some (.slice none 0 0) ∧ (((w.alloc (.cells #[.slice none 0 0] 32)).alloc (.cells #[.slice none 0 0] 32)).alloc (.cells #[.slice none 0 0] 32)).frozen? ⟨w.heap.size + 1 + 1, 0, none⟩ = false := ⟨by simp [go_sem], by simp [go_sem]⟩
  have hsz : (((w.alloc (.cells #[.slice none 0 0] 32)).alloc (.cells #[.slice none 0 0] 32)).alloc (.cells #[.slice none 0 0] 32)).heap.size = w.heap.size + 1 + 1 + 1 := by simp
  have hop := open_any a cap zs _ (code_laterM h hal)
  go_enter Try.func10, Try.ntmps10
  go_wp2_with fail
  refine hop.mono ?_
  rintro e w1 ⟨rfl, hb1, hs1, zs', hR1⟩
  have hkeep : ∀ {k : Nat} {W : World} {u : Value}, W = (((w.alloc (.cells #[.slice none 0 0] 32)).alloc (.cells #[.slice none 0 0] 32)).alloc (.cells #[.slice none 0 0] 32)) → W.cell? ⟨k, 0, none⟩ = some u ∧ W.frozen? ⟨k, 0, none⟩ = false → w1.cell? ⟨k, 0, none⟩ = some u ∧ w1.frozen? ⟨k, 0, none⟩ = false := fun {k W u} e hh => by
    subst e
    exact ⟨cell_later hb1 hh.1, (hb1.frozen (p := ⟨k, 0, none⟩) (World.block_lt_of_cell? _ ⟨k, 0, none⟩ hh.1)).trans hh.2⟩
  have a1 := hkeep rfl a0
  have b1 := hkeep rfl b0
  have d1 := hkeep rfl d0
  have hbw1 : Below w.heap.size w w1 := hal.trans (hb1.mono hal.size)
  rw [hsz] at hR1 hs1
  rw [hsz]
  obtain ⟨g, hg⟩ : ∃ g, g = w.heap.size + 1 + 1 + 1 := ⟨_, rfl⟩
  obtain ⟨r4, hr4⟩ : ∃ r4, r4 = w.heap.size + 1 + 1 := ⟨_, rfl⟩
  obtain ⟨r3, hr3⟩ : ∃ r3, r3 = w.heap.size + 1 := ⟨_, rfl⟩
  obtain ⟨r2, hr2⟩ : ∃ r2, r2 = w.heap.size := ⟨_, rfl⟩
  rw [← hg] at hR1 ⊢
  rw [← hr4] at d1 ⊢
  rw [← hr3] at b1 ⊢
  rw [← hr2] at a1 ⊢
  have HO : Keep (r2 = w.heap.size ∧ r3 = w.heap.size + 1 ∧ r4 = w.heap.size + 2 ∧ g = w.heap.size + 3 ∧ w1.heap.size = w.heap.size + 4) := ⟨by omega⟩
  clear hop hal a0 b0 d0 hsz hb1 hs1 hg hr2 hr3 hr4 hkeep
  have hany := l5DrawC_any g a cap zs' 0 w1 hR1 (by omega)
  go_wp2_with fail
  refine hany.mono ?_
  rintro e w2 ⟨ad6, cp6, ts6, rfl, hel6, hn6, hA6, hT6, hNil6, ⟨⟨p2, hp2, hR2⟩, hg2⟩, hrm6⟩
  have T6 := TX.new (g := g) (t := ⟨ad6, cp6, ts6⟩) hel6 (by have := HO.out; omega) hrm6
  have hbt6 := hel6.btw
  have hba2 := below_oneD w2 (.cells #[.slice ad6 ts6.length cp6] 32)
  have hR3 := hR2.below hba2
  have hs2 := hg2.size
  have h3s : (w2.alloc (.cells #[.slice ad6 ts6.length cp6] 32)).heap.size = w2.heap.size + 1 := by simp
  have hgr3 : w1.grownBy (w2.alloc (.cells #[.slice ad6 ts6.length cp6] 32)) (some g) := gr_trans hg2 (gr_below hba2)
  have HA6 : Keep (Asc ts6 ∧ Tiny 40 20 ts6 ∧ NilOk ad6 cp6) := ⟨⟨hA6, hT6, hNil6⟩⟩
  clear hany hel6 hg2 hba2 hR2 hR1 hA6 hT6 hNil6
  go_upto_region 3 with fail
  generalize w2.alloc (.cells #[.slice ad6 ts6.length cp6] 32) = w3 at *
  generalize hb6 : w2.heap.size = b6 at *
  have c6 := T6.c
  have hnear := l5NearA_any g a cap zs' p2 ad6 cp6 ts6 w3 hR3 (by omega) T6.el.es HA6.out.2.2 (HA6.out.2.1.wide (by omega) (by omega)) (by omega)
  go_wp2_with fail
  refine hnear.mono ?_
  rintro e w4 ⟨ad7, cp7, ts7, rfl, hel7, hn7, hT7, hNil7, ⟨⟨p4, hp4, hR4⟩, hg4⟩, hA7, hrm7⟩
  have T6' := T6.grown hg4 (by simp) (by have := HO.out; omega)
  have T7 := TX.new (g := g) (t := ⟨ad7, cp7, ts7⟩) hel7 (by have := HO.out; omega) hrm7
  have hbt7 := hel7.btw
  have hba4 := below_oneD w4 (.cells #[.slice ad7 ts7.length cp7] 32)
  have hR5 := hR4.below hba4
  have hs4 := hg4.size
  have h5s : (w4.alloc (.cells #[.slice ad7 ts7.length cp7] 32)).heap.size = w4.heap.size + 1 := by simp
  have hgr5 : w1.grownBy (w4.alloc (.cells #[.slice ad7 ts7.length cp7] 32)) (some g) := gr_trans (gr_trans hgr3 hg4) (gr_below hba4)
  have T6b := T6'.later hba4
  have HA7 : Keep (Asc ts7 ∧ Tiny 100 1620 ts7 ∧ NilOk ad7 cp7) := ⟨⟨hA7 HA6.out.1, hT7, hNil7⟩⟩
  clear hnear hel7 hg4 hba4 hR4 hR3 hA7 hT7 hNil7 T6 T6' c6 hgr3
  go_upto_region 4 with fail
  generalize w4.alloc (.cells #[.slice ad7 ts7.length cp7] 32) = w5 at *
  generalize hb7 : w4.heap.size = b7 at *
  have c6 := T6b.c
  have hnear := l5NearA_any g a cap zs' p4 ad6 cp6 ts6 w5 hR5 (by omega) T6b.el.es HA6.out.2.2 (HA6.out.2.1.wide (by omega) (by omega)) (by omega)
  go_wp2_with fail
  refine hnear.mono ?_
  rintro e w6 ⟨ad8, cp8, ts8, rfl, hel8, hn8, hT8, hNil8, ⟨⟨p6, hp6, hR6⟩, hg6⟩, hA8, hrm8⟩
  have T6c := T6b.grown hg6 (by simp) (by have := HO.out; omega)
  have T7c := T7.grown hg6 (by simp) (by have := HO.out; omega)
  have T8 := TX.new (g := g) (t := ⟨ad8, cp8, ts8⟩) hel8 (by have := HO.out; omega) hrm8
  have hbt8 := hel8.btw
  have hba6 := below_oneD w6 (.cells #[.slice ad8 ts8.length cp8] 32)
  have hR7 := hR6.below hba6
  have hs6 := hg6.size
  have hgr7 : w1.grownBy (w6.alloc (.cells #[.slice ad8 ts8.length cp8] 32)) (some g) := gr_trans (gr_trans hgr5 hg6) (gr_below hba6)
  have HA8 : Keep (Asc ts8 ∧ Tiny 100 1620 ts8 ∧ NilOk ad8 cp8) := ⟨⟨hA8 HA6.out.1, hT8, hNil8⟩⟩
  have hM : M3 w g r2 r3 r4 b6 b7 w6.heap.size a cap zs' p6 ⟨ad6, cp6, ts6⟩ ⟨ad7, cp7, ts7⟩ ⟨ad8, cp8, ts8⟩ (w6.alloc (.cells #[.slice ad8 ts8.length cp8] 32)) := by
    have o := HO.out
    have k2 := hgr7.block r2 (by omega) (by simp; omega)
    have k3 := hgr7.block r3 (by omega) (by simp; omega)
    have k4 := hgr7.block r4 (by omega) (by simp; omega)
    refine ⟨hR7, hbw1.grown hgr7 hbw1.size (fun j e => by cases e; omega), (T6c.later hba6).wide hbt6 ?_, (T7c.later hba6).wide hbt7 ?_, T8.wide hbt8 ?_, (World.cell?_of_block k2).trans a1.1, frozen_of k2 a1.2, (World.cell?_of_block k3).trans b1.1, frozen_of k3 b1.2, (World.cell?_of_block k4).trans d1.1, frozen_of k4 d1.2, by omega⟩
    all_goals
      intro k hk
      simp only [mF, List.mem_cons, List.not_mem_nil, or_false] at hk
      omega
  have HL : Keep (ts6.length ≤ 100 ∧ ts7.length ≤ 103 ∧ ts8.length ≤ 103 ∧ p6 ≤ 1000) := ⟨by omega⟩
  clear hnear hel8 hg6 hba6 hR7 hR6 hR5 hA8 hT8 hNil8 T6b T6c T7 T7c T8 c6 hgr5 hgr7 hbt6 hbt7 hbt8 a1 b1 d1 hbw1 hrm6 hrm7 hrm8
  go_upto_region 5 with fail
  generalize w6.alloc (.cells #[.slice ad8 ts8.length cp8] 32) = w7 at *
  generalize w6.heap.size = b8 at *
  clear hs2 hs4 hs6 h3s h5s hb6 hb7
  go_cut [23] (fun v wx => ∃ y : Nat, v = .int .i64 y ∧ y < 12 ∧ ∃ px, px ≤ 1001 ∧ M3 w g r2 r3 r4 b6 b7 b8 a cap zs' px ⟨ad6, cp6, ts6⟩ ⟨ad7, cp7, ts7⟩ ⟨ad8, cp8, ts8⟩ wx)
  case first =>
    go_wp2_with fail
    refine (pick_any g a cap zs' p6 12 w7 hM.rd (by omega) (by omega) (by have := HL.out; omega)).mono ?_
    rintro e w8 ⟨y, rfl, hy, hg8, hR8⟩
    go_wp2_with fail
    go_meet
    case rel => exact ⟨y, rfl, hy, p6 + 1, by have := HL.out; omega, hM.step hg8 hR8⟩
  case rest =>
    clear hM
    obtain ⟨y, rfl, hy, px, hpx, hM⟩ := hcut
    rename_i K1 hk1 K2 hk2
    refine hk2 _ _ ?_
    go_cut [24] (fun _ wx => ∃ px t6 t7 t8, M3 w g r2 r3 r4 b6 b7 b8 a cap zs' px t6 t7 t8 wx ∧ TQ t6 ∧ TQ t7 ∧ TQ t8)
    case first =>
      have hlt8 : b8 + 1 ≤ wc.heap.size := hM.x8.lt
      have HQ6 : Keep (TQ ⟨ad6, cp6, ts6⟩) := ⟨⟨by have := HL.out; show ts6.length ≤ 300; omega, HA6.out.2.1.wide (by omega) (by omega)⟩⟩
      have HQ7 : Keep (TQ ⟨ad7, cp7, ts7⟩) := ⟨⟨by have := HL.out; show ts7.length ≤ 300; omega, HA7.out.2.1.wide (by omega) (by omega)⟩⟩
      have HQ8 : Keep (TQ ⟨ad8, cp8, ts8⟩) := ⟨⟨by have := HL.out; show ts8.length ≤ 300; omega, HA8.out.2.1.wide (by omega) (by omega)⟩⟩
      by_cases y0 : y = 0
      · have hB : ((y : Int) == 0) = true := by simp; omega
        clear y0
        have hdr := l5DrawC_any g a cap zs' px wc hM.rd (by omega)
        go_wp2_with fail
        refine hdr.mono ?_
        rintro e w8 ⟨ad, cp, ts, rfl, hel, hn, hA, hT, hNil, ⟨⟨p8, hp8, hR8⟩, hg8⟩, hrm⟩
        have hM8 := hM.step hg8 hR8
        have c7 := hM8.x7.c
        have f7 := hM8.x7.f
        have HM9 : Keep _ := ⟨hM8.put7 (u := ⟨ad, cp, ts⟩) (hel.mono hlt8) hrm⟩
        have HT : Keep (TQ ⟨ad, cp, ts⟩) := ⟨⟨by show ts.length ≤ 300; omega, hT.wide (by omega) (by omega)⟩⟩
        clear hdr hM8 hel hg8 hR8 hA hT hNil
        go_wp2_with fail
        go_meet
        case rel => exact ⟨p8, _, _, _, HM9.out, HQ6.out, HT.out, HQ8.out⟩
      have hB0 : ((y : Int) == 0) = false := by simp; omega
      by_cases y1 : y = 1
      · have hB : ((y : Int) == 1) = true := by simp; omega
        clear y0 y1
        have c8 := hM.x8.c
        have hdr := l5SpoilB_any 100 1620 103 (by omega) (by omega) (by omega) (by omega) (by omega) g a cap zs' px ad8 cp8 ts8 wc hM.rd (by omega) hM.x8.el.es HA8.out.2.2 HA8.out.1 HA8.out.2.1 (by have := HL.out; omega)
        go_wp2_with fail
        refine hdr.mono ?_
        rintro e w8 ⟨ad, cp, ts, rfl, hel, hn, hT, hNil, ⟨⟨p8, hp8, hR8⟩, hg8⟩, hrm⟩
        have hM8 := hM.step hg8 hR8
        replace c8 := hM8.x8.c
        have f8 := hM8.x8.f
        have HM9 : Keep _ := ⟨hM8.put8 (u := ⟨ad, cp, ts⟩) (hel.mono hlt8) hrm⟩
        have HT : Keep (TQ ⟨ad, cp, ts⟩) := ⟨⟨by show ts.length ≤ 300; omega, hT.wide (by omega) (by omega)⟩⟩
        clear hdr hM8 hel hg8 hR8 hT hNil
        go_wp2_with fail
        go_meet
        case rel => exact ⟨p8, _, _, _, HM9.out, HQ6.out, HQ7.out, HT.out⟩
      have hB1 : ((y : Int) == 1) = false := by simp; omega
      by_cases y2 : y = 2
      · have hB : ((y : Int) == 2) = true := by simp; omega
        clear y0 y1 y2
        have c7 := hM.x7.c
        have hly := l6LayC_any ad7 cp7 ts7 ⟨#[99]⟩ ⟨true, ⟨#[]⟩, false⟩ wc hM.x7.el.es (by have := HL.out; omega) HA7.out.1
        go_wp2_with fail
        refine hly.mono ?_
        rintro e w8 ⟨ad, cp, us, rfl, hrel, hel, hb8, hn, hrm⟩
        have hM8 := hM.later hb8
        replace c7 := hM8.x7.c
        have f7 := hM8.x7.f
        have hM9 := hM8.put7 (u := ⟨ad, cp, us⟩) (hel.mono hlt8) hrm
        have HU : Keep (Asc us ∧ Tiny 100 1620 us) := ⟨⟨hrel.asc HA7.out.1, HA7.out.2.1.layRel ⟨by show 1 ≤ 100; omega, Nat.zero_le _⟩ hrel⟩⟩
        have hl9 : b8 + 1 ≤ (w8.setCell ⟨b7, 0, none⟩ (.slice ad us.length cp)).heap.size := hM9.x8.lt
        clear hly hM8 hel hb8 hrel hM
        go_upto_region 12 with fail
        generalize w8.setCell ⟨b7, 0, none⟩ (.slice ad us.length cp) = w9 at *
        clear c7 f7
        have c7 := hM9.x7.c
        have hly := l6LayC_any ad cp us ⟨#[99, 47, 120]⟩ ⟨false, ⟨#[]⟩, false⟩ w9 hM9.x7.el.es (by have := HL.out; omega) HU.out.1
        go_wp2_with fail
        refine hly.mono ?_
        rintro e w10 ⟨ad2, cp2, us2, rfl, hrel2, hel2, hb10, hn2, hrm2⟩
        have hM10 := hM9.later hb10
        replace c7 := hM10.x7.c
        have f7 := hM10.x7.f
        have hM11 := hM10.put7 (u := ⟨ad2, cp2, us2⟩) (hel2.mono hl9) hrm2
        have HU2 : Keep (TQ ⟨ad2, cp2, us2⟩) := ⟨⟨by have := HL.out; show us2.length ≤ 300; omega, (HU.out.2.layRel ⟨by show 3 ≤ 100; omega, Nat.zero_le _⟩ hrel2).wide (by omega) (by omega)⟩⟩
        have hl11 : b8 + 1 ≤ (w10.setCell ⟨b7, 0, none⟩ (.slice ad2 us2.length cp2)).heap.size := hM11.x8.lt
        clear hly hM10 hel2 hb10 hrel2 hM9
        go_upto_region 13 with fail
        generalize w10.setCell ⟨b7, 0, none⟩ (.slice ad2 us2.length cp2) = w11 at *
        clear c7 f7
        have c8 := hM11.x8.c
        have hpt := specPutC_any ad8 cp8 ts8 ⟨⟨#[99, 47, 120]⟩, ⟨#[]⟩, false⟩ w11 hM11.x8.el.es (by have := HL.out; omega)
        go_wp2_with fail
        refine hpt.mono ?_
        rintro e w12 ⟨us3, c, hR3, ⟨ad3, cp3, rfl, hel3, hrm3⟩, hb12⟩
        have hba := below_oneD w12 (.cells #[.slice ad3 us3.length cp3] 32)
        have hM13 := (hM11.later hb12).later hba
        have hn0 : (w12.alloc (.cells #[.slice ad3 us3.length cp3] 32)).cell? ⟨w12.heap.size, 0, none⟩ = some (.slice ad3 us3.length cp3) := by simp
        have hel4 := (hel3.below hba).mono hl11
        clear hpt hM11 hel3 hb12 c8
        unfold TreeV
        go_upto_region 14 with fail
        generalize w12.alloc (.cells #[.slice ad3 us3.length cp3] 32) = w13 at *
        generalize w12.heap.size = nb at *
        by_cases hc : c = 0
        · have hBc : (c == 0) = true := by simp [hc]
          rw [hc] at hR3
          obtain ⟨ha1, ha2, ha3, ha4⟩ := put_asc hR3
          have HU3 : Keep (TQ ⟨ad3, cp3, us3⟩) := ⟨⟨by show us3.length ≤ 300; omega, fun x hx => by
            rcases ha4 x hx with rfl | h4
            · exact ⟨by show 3 ≤ 1000; omega, Nat.zero_le _⟩
            · exact HQ8.out.2 x h4⟩⟩
          have c8 := hM13.x8.c
          have f8 := hM13.x8.f
          have HM14 : Keep _ := ⟨hM13.put8 (u := ⟨ad3, cp3, us3⟩) hel4 hrm3⟩
          clear hM13 hel4 hR3 ha1 ha2 ha3 ha4 hc
          go_wp2_with fail
          go_meet
          case rel => exact ⟨px, _, _, _, HM14.out, HQ6.out, HU2.out, HU3.out⟩
        · have hBc : (c == 0) = false := by simp [hc]
          have HM14 : Keep _ := ⟨hM13⟩
          clear hM13 hel4 hR3 hc
          go_wp2_with fail
          go_meet
          case rel => exact ⟨px, _, _, _, HM14.out, HQ6.out, HU2.out, HQ8.out⟩
      have hB2 : ((y : Int) == 2) = false := by simp; omega
      by_cases y3 : y = 3
      · have hB : ((y : Int) == 3) = true := by simp; omega
        clear y0 y1 y2 y3
        have HGB : Keep (g < b8 + 1) := ⟨by have := hM.ord; omega⟩
        have hU0 : Keep ((Asc ts7 ∧ Tiny 100 1620 ts7 ∧ ts7.length ≤ 103 + 0) ∧ (Asc ts8 ∧ Tiny 100 1620 ts8 ∧ ts8.length ≤ 103 + 0)) := ⟨⟨⟨HA7.out.1, HA7.out.2.1, by have := HL.out; omega⟩, ⟨HA8.out.1, HA8.out.2.1, by have := HL.out; omega⟩⟩⟩
        go_wp2_with fail
        go_loopw [11] (fun i wr => ∃ (k : Nat) (u7 u8 : Tr), i = .int .i64 k ∧ k ≤ 60 ∧ M3 w g r2 r3 r4 b6 b7 b8 a cap zs' px ⟨ad6, cp6, ts6⟩ u7 u8 wr ∧ Keep ((Asc u7.ts ∧ Tiny 100 1620 u7.ts ∧ u7.ts.length ≤ 103 + k) ∧ (Asc u8.ts ∧ Tiny 100 1620 u8.ts ∧ u8.ts.length ≤ 103 + k))) (fun i _ => 60 - (intOf i).toNat)
        case atStart => exact ⟨0, _, _, rfl, by omega, hM, hU0⟩
        case round =>
          clear hM hU0
          obtain ⟨k, u7, u8, rfl, hk, hML, HU⟩ := hrel
          have HML : Keep _ := ⟨hML⟩
          by_cases hlt : k < 60
          · have hlt' : (k : Int) < 60 := by omega
            have HA7L : Keep _ := ⟨HU.out.1⟩
            have HA8L : Keep _ := ⟨HU.out.2⟩
            have hl7 : u7.ts.length ≤ 200 := by have := HA7L.out.2.2; omega
            have hl8 : u8.ts.length ≤ 200 := by have := HA8L.out.2.2; omega
            clear hML
            go_upto_region 20 with fail
            refine (wpIn_wide (n := 0)).1 ?_
            refine wpIn_region_inv0 (by kernel_rfl) (by kernel_rfl) (fun T0 => EVG T0 (lDs 56) (lTab u7 k) (lEx u7.ts (b8 + 1)) (fun _ W => M3 w g r2 r3 r4 b6 b7 b8 a cap zs' px ⟨ad6, cp6, ts6⟩ u7 u8 W) 6 (fun W => ∃ v7 : Tr, M3 w g r2 r3 r4 b6 b7 b8 a cap zs' px ⟨ad6, cp6, ts6⟩ v7 u8 W ∧ Asc v7.ts ∧ Tiny 100 1620 v7.ts ∧ v7.ts.length ≤ 103 + (k + 1))) ?_ ?_ ?_
            · exact ⟨Sl2.start _, (fun _ => HML.out.later (Below.refl _ _).drew), (fun _ i _ hL => by rw [getD_repl] at hL; cases hL), (fun h => by rw [getD_repl] at h; cases h)⟩
            · intro L a2 w9 hinv hall
              obtain ⟨v7, hE, hA, hT, hN⟩ := hinv.fin (hall 6 (by decide))
              have HXX : Keep _ := ⟨hinv.sl.act⟩
              have HE7 : Keep _ := ⟨hE⟩
              have HF7 : Keep (Asc v7.ts ∧ Tiny 100 1620 v7.ts ∧ v7.ts.length ≤ 103 + (k + 1)) := ⟨⟨hA, hT, hN⟩⟩
              clear hinv hall hE hA hT hN
              rw [HXX.out]
              simp only [updL, lDs, List.contains_cons, List.contains_nil, Nat.reduceAdd, Nat.reduceBEq, Bool.or_false, cond_false, cond_true, Bool.or_true]
              generalize a2.tmps.getD 56 undef = s56
              generalize a2.tmps.getD 57 undef = s57
              generalize a2.tmps.getD 58 undef = s58
              generalize a2.tmps.getD 59 undef = s59
              generalize a2.tmps.getD 60 undef = s60
              generalize a2.tmps.getD 61 undef = s61
              clear HXX
              go_upto_region 21 with fail
              refine (wpIn_wide (n := 0)).1 ?_
              refine wpIn_region_inv0 (by kernel_rfl) (by kernel_rfl) (fun T0 => EVG T0 (lDs 62) (lTab u8 k) (lEx u8.ts (b8 + 1)) (fun _ W => M3 w g r2 r3 r4 b6 b7 b8 a cap zs' px ⟨ad6, cp6, ts6⟩ v7 u8 W) 6 (fun W => ∃ v8 : Tr, M3 w g r2 r3 r4 b6 b7 b8 a cap zs' px ⟨ad6, cp6, ts6⟩ v7 v8 W ∧ Asc v8.ts ∧ Tiny 100 1620 v8.ts ∧ v8.ts.length ≤ 103 + (k + 1))) ?_ ?_ ?_
              · exact ⟨Sl2.start _, (fun _ => HE7.out.later (Below.refl _ _).drew), (fun _ i _ hL => by rw [getD_repl] at hL; cases hL), (fun h => by rw [getD_repl] at h; cases h)⟩
              · intro L a2 w9 hinv hall
                obtain ⟨v8, hE, hA, hT, hN⟩ := hinv.fin (hall 6 (by decide))
                have HXX : Keep _ := ⟨hinv.sl.act⟩
                have HE8 : Keep _ := ⟨hE⟩
                have HF8 : Keep (Asc v8.ts ∧ Tiny 100 1620 v8.ts ∧ v8.ts.length ≤ 103 + (k + 1)) := ⟨⟨hA, hT, hN⟩⟩
                clear hinv hall hE hA hT hN
                rw [HXX.out]
                simp only [updL, lDs, List.contains_cons, List.contains_nil, Nat.reduceAdd, Nat.reduceBEq, Bool.or_false, cond_false, cond_true, Bool.or_true]
                generalize a2.tmps.getD 62 undef = s62
                generalize a2.tmps.getD 63 undef = s63
                generalize a2.tmps.getD 64 undef = s64
                generalize a2.tmps.getD 65 undef = s65
                generalize a2.tmps.getD 66 undef = s66
                generalize a2.tmps.getD 67 undef = s67
                clear HXX
                go_wp2
                go_roundw
                case rel => exact ⟨k + 1, v7, v8, by congr 1, by omega, HE8.out, ⟨⟨HF7.out, HF8.out⟩⟩⟩
                case measure => simp only [intOf]; omega
              · intro L a2 w9 i o hinv hcl hL ho hdep
                have hin : i < 7 := (Array.getElem?_eq_some_iff.1 ho).1
                have hm : i ≠ 6 → L.getD 6 false = false := fun hne => by
                  cases hb : L.getD 6 false with
                  | false => rfl
                  | true =>
                    exfalso
                    have d5 := hcl 6 _ rfl hb ⟨5, .data⟩ (by simp) rfl
                    have d0 := hcl 5 _ rfl d5 ⟨0, .data⟩ (by simp) rfl
                    have d4 := hcl 5 _ rfl d5 ⟨4, .data⟩ (by simp) rfl
                    have d3 := hcl 4 _ rfl d4 ⟨3, .data⟩ (by simp) rfl
                    have d2 := hcl 3 _ rfl d3 ⟨2, .data⟩ (by simp) rfl
                    have d1 := hcl 2 _ rfl d2 ⟨1, .data⟩ (by simp) rfl
                    have hf := getD_ft hL
                    match i, hin, hne, hf with
                    | 0, _, _, hf => rw [d0] at hf; cases hf
                    | 1, _, _, hf => rw [d1] at hf; cases hf
                    | 2, _, _, hf => rw [d2] at hf; cases hf
                    | 3, _, _, hf => rw [d3] at hf; cases hf
                    | 4, _, _, hf => rw [d4] at hf; cases hf
                    | 5, _, _, hf => rw [d5] at hf; cases hf
                    | 6, _, hne, _ => exact hne rfl
                unfold wpOpIn
                rw [ho]
                clear hcl
                match i, hin, hL, ho, hdep, hm with
                | 0, _, hL, ho, hdep, hm =>
                  injection ho with ho; subst ho
                  dsimp only
                  rw [if_pos (by rfl)]
                  refine ⟨fun f _ => trivial, ?_⟩
                  have e8 : a2.tmps[8]?.getD undef = .pointer (some ⟨b8, 0, none⟩) := hinv.sl.old (by decide)
                  have z0 := (hinv.wd (hm (by omega))).x8.c
                  go_simp
                  exact hinv.step lNd62 (lSt (g := g) (gr_below (Below.refl _ _)) HGB.out) (i := 0) (by decide) (by show 62 < 90; decide) (by omega) (hm (by omega)) (fun u hu => by cases hu; rfl) trivial (hinv.wd (hm (by omega)))
                | 1, _, hL, ho, hdep, hm =>
                  injection ho with ho; subst ho
                  dsimp only
                  rw [if_pos (by rfl)]
                  refine ⟨fun f _ => trivial, ?_⟩
                  have e11 : a2.tmps[11]?.getD undef = .int .i64 (k : Int) := hinv.sl.old (by decide)
                  go_simp
                  exact hinv.step lNd62 (lSt (g := g) (gr_below (Below.refl _ _)) HGB.out) (i := 1) (by decide) (by show 63 < 90; decide) (by omega) (hm (by omega)) (fun u hu => by cases hu; rfl) trivial (hinv.wd (hm (by omega)))
                | 2, _, hL, ho, hdep, hm =>
                  injection ho with ho; subst ho
                  dsimp only
                  rw [if_pos (by rfl)]
                  refine ⟨fun f _ => trivial, ?_⟩
                  have e63 : a2.tmps[63]?.getD undef = .int .i64 (k : Int) := hinv.sl.new (i := 1) (by decide) rfl (hdep ⟨1, .data⟩ (by simp) rfl)
                  go_simp
                  refine ⟨rfl, CallsIn.mono (callsIn_wide.2 (dec2_any k _ (by omega))) ?_⟩
                  rintro e' w' ⟨s, rfl, hs, hb'⟩
                  exact hinv.step lNd62 (lSt (g := g) (gr_below hb') HGB.out) (i := 2) (by decide) (by show 64 < 90; decide) (by omega) (hm (by omega)) (fun u hu => by cases hu) ⟨s, rfl, hs⟩ ((hinv.wd (hm (by omega))).later hb')
                | 3, _, hL, ho, hdep, hm =>
                  injection ho with ho; subst ho
                  dsimp only
                  rw [if_pos (by rfl)]
                  refine ⟨fun f _ => trivial, ?_⟩
                  obtain ⟨s, h21, h22⟩ := hinv.ex (hm (by omega)) 2 (by decide) (hdep ⟨2, .data⟩ (by simp) rfl)
                  have e64 : a2.tmps[64]?.getD undef = .string s := evalD2 h21
                  have hc3 : ¬ 9223372036854775807 < 1 + s.size := by omega
                  go_simp
                  exact hinv.step lNd62 (lSt (g := g) (gr_below (Below.refl _ _)) HGB.out) (i := 3) (by decide) (by show 65 < 90; decide) (by omega) (hm (by omega)) (fun u hu => by cases hu) ⟨_, rfl, by rw [ByteArray.size_append]; show 1 + s.size ≤ 3; omega⟩ (hinv.wd (hm (by omega)))
                | 4, _, hL, ho, hdep, hm =>
                  injection ho with ho; subst ho
                  dsimp only
                  rw [if_pos (by rfl)]
                  refine ⟨fun f _ => trivial, ?_⟩
                  obtain ⟨s, h31, h32⟩ := hinv.ex (hm (by omega)) 3 (by decide) (hdep ⟨3, .data⟩ (by simp) rfl)
                  have e65 : a2.tmps[65]?.getD undef = .string s := evalD2 h31
                  go_simp
                  exact hinv.step lNd62 (lSt (g := g) (gr_below (Below.refl _ _)) HGB.out) (i := 4) (by decide) (by show 66 < 90; decide) (by omega) (hm (by omega)) (fun u hu => by cases hu) ⟨s, rfl, h32⟩ (hinv.wd (hm (by omega)))
                | 5, _, hL, ho, hdep, hm =>
                  injection ho with ho; subst ho
                  dsimp only
                  rw [if_pos (by rfl)]
                  refine ⟨fun f _ => trivial, ?_⟩
                  obtain ⟨s, h41, h42⟩ := hinv.ex (hm (by omega)) 4 (by decide) (hdep ⟨4, .data⟩ (by simp) rfl)
                  have e66 : a2.tmps[66]?.getD undef = .agg #[.string s, .string ⟨#[]⟩, .bool false] := evalD2 h41
                  have e62 : a2.tmps[62]?.getD undef = .agg #[.slice u8.ad u8.ts.length u8.cp] := hinv.sl.new (i := 0) (by decide) rfl (hdep ⟨0, .data⟩ (by simp) rfl)
                  have hwd := hinv.wd (hm (by omega))
                  go_simp
                  refine ⟨rfl, CallsIn.mono (callsIn_wide.2 (l5SetC_any u8.ad u8.cp u8.ts ⟨s, ⟨#[]⟩, false⟩ w9 hwd.x8.el.es (by omega) HA8L.out.1)) ?_⟩
                  rintro e' w' ⟨ad', cap', us, rfl, hrel, hel, hb', hln, hrm⟩
                  exact hinv.step lNd62 (lSt (g := g) (gr_below hb') HGB.out) (i := 5) (by decide) (by show 67 < 90; decide) (by omega) (hm (by omega)) (fun u hu => by cases hu) ⟨ad', cap', us, _, rfl, hrel, h42, Nat.le_refl _, hel.mono hwd.x8.lt, hln, hrm⟩ (hwd.later hb')
                | 6, _, hL, ho, hdep, hm =>
                  injection ho with ho; subst ho
                  dsimp only
                  rw [if_pos (by rfl)]
                  refine ⟨fun f _ => trivial, ?_⟩
                  have h60 := getD_ft hL
                  obtain ⟨ad', cap', us, en, h51, h52, h53, h54, h55, h56, h57⟩ := hinv.ex h60 5 (by decide) (hdep ⟨5, .data⟩ (by simp) rfl)
                  have e67 : a2.tmps[67]?.getD undef = .agg #[.slice ad' us.length cap'] := evalD2 h51
                  have e8 : a2.tmps[8]?.getD undef = .pointer (some ⟨b8, 0, none⟩) := hinv.sl.old (by decide)
                  have hwd := hinv.wd h60
                  have z0 := hwd.x8.c
                  have z1 := hwd.x8.f
                  have HP : Keep _ := ⟨hwd.put8 (u := ⟨ad', cap', us⟩) h55 h57⟩
                  have HS : Keep _ := ⟨h52⟩
                  clear h55 hwd h52
                  go_simp
                  exact hinv.last rfl hL ⟨⟨ad', cap', us⟩, HP.out, HS.out.asc, HA8L.out.2.1.setRel ⟨by omega, by omega⟩ HS.out, by have := HA8L.out.2.2; show us.length ≤ 103 + (k + 1); omega⟩
            · intro L a2 w9 i o hinv hcl hL ho hdep
              have hin : i < 7 := (Array.getElem?_eq_some_iff.1 ho).1
              have hm : i ≠ 6 → L.getD 6 false = false := fun hne => by
                cases hb : L.getD 6 false with
                | false => rfl
                | true =>
                  exfalso
                  have d5 := hcl 6 _ rfl hb ⟨5, .data⟩ (by simp) rfl
                  have d0 := hcl 5 _ rfl d5 ⟨0, .data⟩ (by simp) rfl
                  have d4 := hcl 5 _ rfl d5 ⟨4, .data⟩ (by simp) rfl
                  have d3 := hcl 4 _ rfl d4 ⟨3, .data⟩ (by simp) rfl
                  have d2 := hcl 3 _ rfl d3 ⟨2, .data⟩ (by simp) rfl
                  have d1 := hcl 2 _ rfl d2 ⟨1, .data⟩ (by simp) rfl
                  have hf := getD_ft hL
                  match i, hin, hne, hf with
                  | 0, _, _, hf => rw [d0] at hf; cases hf
                  | 1, _, _, hf => rw [d1] at hf; cases hf
                  | 2, _, _, hf => rw [d2] at hf; cases hf
                  | 3, _, _, hf => rw [d3] at hf; cases hf
                  | 4, _, _, hf => rw [d4] at hf; cases hf
                  | 5, _, _, hf => rw [d5] at hf; cases hf
                  | 6, _, hne, _ => exact hne rfl
              unfold wpOpIn
              rw [ho]
              clear hcl
              match i, hin, hL, ho, hdep, hm with
              | 0, _, hL, ho, hdep, hm =>
                injection ho with ho; subst ho
                dsimp only
                rw [if_pos (by rfl)]
                refine ⟨fun f _ => trivial, ?_⟩
                have e7 : a2.tmps[7]?.getD undef = .pointer (some ⟨b7, 0, none⟩) := hinv.sl.old (by decide)
                have z0 := (hinv.wd (hm (by omega))).x7.c
                go_simp
                exact hinv.step lNd56 (lSt (g := g) (gr_below (Below.refl _ _)) HGB.out) (i := 0) (by decide) (by show 56 < 90; decide) (by omega) (hm (by omega)) (fun u hu => by cases hu; rfl) trivial (hinv.wd (hm (by omega)))
              | 1, _, hL, ho, hdep, hm =>
                injection ho with ho; subst ho
                dsimp only
                rw [if_pos (by rfl)]
                refine ⟨fun f _ => trivial, ?_⟩
                have e11 : a2.tmps[11]?.getD undef = .int .i64 (k : Int) := hinv.sl.old (by decide)
                go_simp
                exact hinv.step lNd56 (lSt (g := g) (gr_below (Below.refl _ _)) HGB.out) (i := 1) (by decide) (by show 57 < 90; decide) (by omega) (hm (by omega)) (fun u hu => by cases hu; rfl) trivial (hinv.wd (hm (by omega)))
              | 2, _, hL, ho, hdep, hm =>
                injection ho with ho; subst ho
                dsimp only
                rw [if_pos (by rfl)]
                refine ⟨fun f _ => trivial, ?_⟩
                have e57 : a2.tmps[57]?.getD undef = .int .i64 (k : Int) := hinv.sl.new (i := 1) (by decide) rfl (hdep ⟨1, .data⟩ (by simp) rfl)
                go_simp
                refine ⟨rfl, CallsIn.mono (callsIn_wide.2 (dec2_any k _ (by omega))) ?_⟩
                rintro e' w' ⟨s, rfl, hs, hb'⟩
                exact hinv.step lNd56 (lSt (g := g) (gr_below hb') HGB.out) (i := 2) (by decide) (by show 58 < 90; decide) (by omega) (hm (by omega)) (fun u hu => by cases hu) ⟨s, rfl, hs⟩ ((hinv.wd (hm (by omega))).later hb')
              | 3, _, hL, ho, hdep, hm =>
                injection ho with ho; subst ho
                dsimp only
                rw [if_pos (by rfl)]
                refine ⟨fun f _ => trivial, ?_⟩
                obtain ⟨s, h21, h22⟩ := hinv.ex (hm (by omega)) 2 (by decide) (hdep ⟨2, .data⟩ (by simp) rfl)
                have e58 : a2.tmps[58]?.getD undef = .string s := evalD2 h21
                have hc3 : ¬ 9223372036854775807 < 1 + s.size := by omega
                go_simp
                exact hinv.step lNd56 (lSt (g := g) (gr_below (Below.refl _ _)) HGB.out) (i := 3) (by decide) (by show 59 < 90; decide) (by omega) (hm (by omega)) (fun u hu => by cases hu) ⟨_, rfl, by rw [ByteArray.size_append]; show 1 + s.size ≤ 3; omega⟩ (hinv.wd (hm (by omega)))
              | 4, _, hL, ho, hdep, hm =>
                injection ho with ho; subst ho
                dsimp only
                rw [if_pos (by rfl)]
                refine ⟨fun f _ => trivial, ?_⟩
                obtain ⟨s, h31, h32⟩ := hinv.ex (hm (by omega)) 3 (by decide) (hdep ⟨3, .data⟩ (by simp) rfl)
                have e59 : a2.tmps[59]?.getD undef = .string s := evalD2 h31
                go_simp
                exact hinv.step lNd56 (lSt (g := g) (gr_below (Below.refl _ _)) HGB.out) (i := 4) (by decide) (by show 60 < 90; decide) (by omega) (hm (by omega)) (fun u hu => by cases hu) ⟨s, rfl, h32⟩ (hinv.wd (hm (by omega)))
              | 5, _, hL, ho, hdep, hm =>
                injection ho with ho; subst ho
                dsimp only
                rw [if_pos (by rfl)]
                refine ⟨fun f _ => trivial, ?_⟩
                obtain ⟨s, h41, h42⟩ := hinv.ex (hm (by omega)) 4 (by decide) (hdep ⟨4, .data⟩ (by simp) rfl)
                have e60 : a2.tmps[60]?.getD undef = .agg #[.string s, .string ⟨#[]⟩, .bool false] := evalD2 h41
                have e56 : a2.tmps[56]?.getD undef = .agg #[.slice u7.ad u7.ts.length u7.cp] := hinv.sl.new (i := 0) (by decide) rfl (hdep ⟨0, .data⟩ (by simp) rfl)
                have hwd := hinv.wd (hm (by omega))
                go_simp
                refine ⟨rfl, CallsIn.mono (callsIn_wide.2 (l5SetC_any u7.ad u7.cp u7.ts ⟨s, ⟨#[]⟩, false⟩ w9 hwd.x7.el.es (by omega) HA7L.out.1)) ?_⟩
                rintro e' w' ⟨ad', cap', us, rfl, hrel, hel, hb', hln, hrm⟩
                exact hinv.step lNd56 (lSt (g := g) (gr_below hb') HGB.out) (i := 5) (by decide) (by show 61 < 90; decide) (by omega) (hm (by omega)) (fun u hu => by cases hu) ⟨ad', cap', us, _, rfl, hrel, h42, Nat.le_refl _, hel.mono hwd.x8.lt, hln, hrm⟩ (hwd.later hb')
              | 6, _, hL, ho, hdep, hm =>
                injection ho with ho; subst ho
                dsimp only
                rw [if_pos (by rfl)]
                refine ⟨fun f _ => trivial, ?_⟩
                have h60 := getD_ft hL
                obtain ⟨ad', cap', us, en, h51, h52, h53, h54, h55, h56, h57⟩ := hinv.ex h60 5 (by decide) (hdep ⟨5, .data⟩ (by simp) rfl)
                have e61 : a2.tmps[61]?.getD undef = .agg #[.slice ad' us.length cap'] := evalD2 h51
                have e7 : a2.tmps[7]?.getD undef = .pointer (some ⟨b7, 0, none⟩) := hinv.sl.old (by decide)
                have hwd := hinv.wd h60
                have z0 := hwd.x7.c
                have z1 := hwd.x7.f
                have HP : Keep _ := ⟨hwd.put7 (u := ⟨ad', cap', us⟩) h55 h57⟩
                have HS : Keep _ := ⟨h52⟩
                clear h55 hwd h52
                go_simp
                exact hinv.last rfl hL ⟨⟨ad', cap', us⟩, HP.out, HS.out.asc, HA7L.out.2.1.setRel ⟨by omega, by omega⟩ HS.out, by have := HA7L.out.2.2; show us.length ≤ 103 + (k + 1); omega⟩
          · obtain rfl : k = 60 := by omega
            have HQA : Keep (TQ u7 ∧ TQ u8) := ⟨⟨⟨by have := HU.out.1.2.2; omega, HU.out.1.2.1.wide (by omega) (by omega)⟩, ⟨by have := HU.out.2.2.2; omega, HU.out.2.2.1.wide (by omega) (by omega)⟩⟩⟩
            clear hML
            go_wp2_with fail
            go_meet
            case rel => exact ⟨px, _, _, _, HML.out, HQ6.out, HQA.out.1, HQA.out.2⟩
      have hB3 : ((y : Int) == 3) = false := by simp; omega
      by_cases y4 : y = 4
      · have hB : ((y : Int) == 4) = true := by simp; omega
        clear y0 y1 y2 y3 y4
        have HGB : Keep (g < b8 + 1) := ⟨by have := hM.ord; omega⟩
        have c6 := hM.x6.c
        have hly := l6LayC_any ad6 cp6 ts6 ⟨#[97]⟩ ⟨true, ⟨#[109, 10]⟩, false⟩ wc hM.x6.el.es (by have := HL.out; omega) HA6.out.1
        go_wp2_with fail
        refine hly.mono ?_
        rintro e w8 ⟨ad, cp, us, rfl, hrel, hel, hb8, hn, hrm⟩
        have hM8 := hM.later hb8
        replace c6 := hM8.x6.c
        have f6 := hM8.x6.f
        have HM9 : Keep _ := ⟨hM8.put6 (u := ⟨ad, cp, us⟩) (hel.mono hlt8) hrm⟩
        have HU : Keep (Asc us ∧ Tiny 40 20 us) := ⟨⟨hrel.asc HA6.out.1, HA6.out.2.1.layRel ⟨by show 1 ≤ 40; omega, by show 2 ≤ 20; omega⟩ hrel⟩⟩
        have HU6 : Keep (TQ ⟨ad, cp, us⟩) := ⟨⟨by have := HL.out; show us.length ≤ 300; omega, HU.out.2.wide (by omega) (by omega)⟩⟩
        clear hly hM8 hel hb8 hrel hM
        go_upto_region 24 with fail
        refine (wpIn_wide (n := 0)).1 ?_
        refine wpIn_region_inv0 (by kernel_rfl) (by kernel_rfl) (fun T0 => EVG T0 aDsM (aTabM ⟨ad, cp, us⟩ g) (aEx us (b8 + 1)) (IM w g r2 r3 r4 b6 b7 b8 a cap zs' ⟨ad, cp, us⟩ ⟨ad7, cp7, ts7⟩ ⟨ad8, cp8, ts8⟩) 8 (fun W => ∃ p v7, (p ≤ 1200 ∧ TQ v7) ∧ M3 w g r2 r3 r4 b6 b7 b8 a cap zs' p ⟨ad, cp, us⟩ v7 ⟨ad8, cp8, ts8⟩ W)) ?_ ?_ ?_
        · exact ⟨Sl2.start _, (fun _ => ⟨px, .inl (by omega), HM9.out.later (Below.refl _ _).drew⟩), (fun _ i _ hL => by rw [getD_repl] at hL; cases hL), (fun h => by rw [getD_repl] at h; cases h)⟩
        · intro L a2 w9 hinv hall
          obtain ⟨p24, v7, ⟨hp24, hV7⟩, hE⟩ := hinv.fin (hall 8 (by decide))
          have HXX : Keep _ := ⟨hinv.sl.act⟩
          have HE24 : Keep _ := ⟨hE⟩
          clear hinv hall hE
          rw [HXX.out]
          simp only [updL, aDsM, List.contains_cons, List.contains_nil, Nat.reduceAdd, Nat.reduceBEq, Bool.or_false, cond_false, cond_true, Bool.or_true]
          generalize a2.tmps.getD 73 undef = s73
          generalize a2.tmps.getD 74 undef = s74
          generalize a2.tmps.getD 75 undef = s75
          generalize a2.tmps.getD 76 undef = s76
          generalize a2.tmps.getD 77 undef = s77
          generalize a2.tmps.getD 78 undef = s78
          generalize a2.tmps.getD 79 undef = s79
          generalize a2.tmps.getD 80 undef = s80
          clear HXX
          have HV7 : Keep _ := ⟨hV7⟩
          clear hV7
          go_upto_region 25 with fail
          refine (wpIn_wide (n := 0)).1 ?_
          refine wpIn_region_inv0 (by kernel_rfl) (by kernel_rfl) (fun T0 => EVG T0 bDs (bTab ⟨ad, cp, us⟩) (bEx us (b8 + 1)) (fun _ W => M3 w g r2 r3 r4 b6 b7 b8 a cap zs' p24 ⟨ad, cp, us⟩ v7 ⟨ad8, cp8, ts8⟩ W) 6 (fun W => ∃ v8, TQ v8 ∧ M3 w g r2 r3 r4 b6 b7 b8 a cap zs' p24 ⟨ad, cp, us⟩ v7 v8 W)) ?_ ?_ ?_
          · exact ⟨Sl2.start _, (fun _ => HE24.out.later (Below.refl _ _).drew), (fun _ i _ hL => by rw [getD_repl] at hL; cases hL), (fun h => by rw [getD_repl] at h; cases h)⟩
          · intro L a2 w9 hinv hall
            obtain ⟨v8, hV8, hE⟩ := hinv.fin (hall 6 (by decide))
            have HXX : Keep _ := ⟨hinv.sl.act⟩
            have HE25 : Keep _ := ⟨hE⟩
            clear hinv hall hE
            rw [HXX.out]
            simp only [updL, bDs, List.contains_cons, List.contains_nil, Nat.reduceAdd, Nat.reduceBEq, Bool.or_false, cond_false, cond_true, Bool.or_true]
            generalize a2.tmps.getD 81 undef = s81
            generalize a2.tmps.getD 82 undef = s82
            generalize a2.tmps.getD 83 undef = s83
            generalize a2.tmps.getD 84 undef = s84
            generalize a2.tmps.getD 85 undef = s85
            generalize a2.tmps.getD 86 undef = s86
            clear HXX
            have HV8 : Keep _ := ⟨hV8⟩
            clear hV8
            go_wp2_with fail
            go_meet
            case rel => exact ⟨p24, _, _, _, HE25.out, HU6.out, HV7.out, HV8.out⟩
          · intro L a2 w9 i o hinv hcl hL ho hdep
            have hin : i < 7 := (Array.getElem?_eq_some_iff.1 ho).1
            have hm : i ≠ 6 → L.getD 6 false = false := fun hne => by
              cases hb : L.getD 6 false with
              | false => rfl
              | true =>
                exfalso
                have d5 := hcl 6 _ rfl hb ⟨5, .data⟩ (by simp) rfl
                have d0 := hcl 5 _ rfl d5 ⟨0, .data⟩ (by simp) rfl
                have d4 := hcl 5 _ rfl d5 ⟨4, .data⟩ (by simp) rfl
                have d3 := hcl 4 _ rfl d4 ⟨3, .data⟩ (by simp) rfl
                have d2 := hcl 3 _ rfl d3 ⟨2, .data⟩ (by simp) rfl
                have d1 := hcl 2 _ rfl d2 ⟨1, .data⟩ (by simp) rfl
                have hf := getD_ft hL
                match i, hin, hne, hf with
                | 0, _, _, hf => rw [d0] at hf; cases hf
                | 1, _, _, hf => rw [d1] at hf; cases hf
                | 2, _, _, hf => rw [d2] at hf; cases hf
                | 3, _, _, hf => rw [d3] at hf; cases hf
                | 4, _, _, hf => rw [d4] at hf; cases hf
                | 5, _, _, hf => rw [d5] at hf; cases hf
                | 6, _, hne, _ => exact hne rfl
            unfold wpOpIn
            rw [ho]
            clear hcl
            match i, hin, hL, ho, hdep, hm with
            | 0, _, hL, ho, hdep, hm =>
              injection ho with ho; subst ho
              dsimp only
              rw [if_pos (by rfl)]
              refine ⟨fun f _ => trivial, ?_⟩
              have e6 : a2.tmps[6]?.getD undef = .pointer (some ⟨b6, 0, none⟩) := hinv.sl.old (by decide)
              have z0 := (hinv.wd (hm (by omega))).x6.c
              go_simp
              exact hinv.step bNd (bSt (g := g) (gr_below (Below.refl _ _)) HGB.out) (i := 0) (by decide) (by show 81 < 90; decide) (by omega) (hm (by omega)) (fun u hu => by cases hu; rfl) trivial (hinv.wd (hm (by omega)))
            | 1, _, hL, ho, hdep, hm =>
              injection ho with ho; subst ho
              dsimp only
              rw [if_pos (by rfl)]
              refine ⟨fun f _ => trivial, ?_⟩
              have hmn := manyI 121 796 0 (by omega) w9
              go_simp
              refine ⟨rfl, CallsIn.mono (callsIn_wide.2 hmn) ?_⟩
              rintro e' w' ⟨s, rfl, hs, rfl⟩
              exact hinv.step bNd (bSt (g := g) (gr_below (Below.refl _ _)) HGB.out) (i := 1) (by decide) (by show 82 < 90; decide) (by omega) (hm (by omega)) (fun u hu => by cases hu) ⟨s, rfl, by omega⟩ (hinv.wd (hm (by omega)))
            | 2, _, hL, ho, hdep, hm =>
              injection ho with ho; subst ho
              dsimp only
              rw [if_pos (by rfl)]
              refine ⟨fun f _ => trivial, ?_⟩
              obtain ⟨s, h11, h12⟩ := hinv.ex (hm (by omega)) 1 (by decide) (hdep ⟨1, .data⟩ (by simp) rfl)
              have e82 : a2.tmps[82]?.getD undef = .string s := evalD2 h11
              have hc3 : ¬ 9223372036854775807 < 2 + s.size := by omega
              go_simp
              exact hinv.step bNd (bSt (g := g) (gr_below (Below.refl _ _)) HGB.out) (i := 2) (by decide) (by show 83 < 90; decide) (by omega) (hm (by omega)) (fun u hu => by cases hu) ⟨_, rfl, by rw [ByteArray.size_append]; show 2 + s.size ≤ 798; omega⟩ (hinv.wd (hm (by omega)))
            | 3, _, hL, ho, hdep, hm =>
              injection ho with ho; subst ho
              dsimp only
              rw [if_pos (by rfl)]
              refine ⟨fun f _ => trivial, ?_⟩
              obtain ⟨s, h21, h22⟩ := hinv.ex (hm (by omega)) 2 (by decide) (hdep ⟨2, .data⟩ (by simp) rfl)
              have e83 : a2.tmps[83]?.getD undef = .string s := evalD2 h21
              have hc3 : ¬ 9223372036854775807 < s.size + 1 := by omega
              go_simp
              exact hinv.step bNd (bSt (g := g) (gr_below (Below.refl _ _)) HGB.out) (i := 3) (by decide) (by show 84 < 90; decide) (by omega) (hm (by omega)) (fun u hu => by cases hu) ⟨_, rfl, by rw [ByteArray.size_append]; show s.size + 1 ≤ 799; omega⟩ (hinv.wd (hm (by omega)))
            | 4, _, hL, ho, hdep, hm =>
              injection ho with ho; subst ho
              dsimp only
              rw [if_pos (by rfl)]
              refine ⟨fun f _ => trivial, ?_⟩
              obtain ⟨s, h31, h32⟩ := hinv.ex (hm (by omega)) 3 (by decide) (hdep ⟨3, .data⟩ (by simp) rfl)
              have e84 : a2.tmps[84]?.getD undef = .string s := evalD2 h31
              go_simp
              exact hinv.step bNd (bSt (g := g) (gr_below (Below.refl _ _)) HGB.out) (i := 4) (by decide) (by show 85 < 90; decide) (by omega) (hm (by omega)) (fun u hu => by cases hu) ⟨s, rfl, h32⟩ (hinv.wd (hm (by omega)))
            | 5, _, hL, ho, hdep, hm =>
              injection ho with ho; subst ho
              dsimp only
              rw [if_pos (by rfl)]
              refine ⟨fun f _ => trivial, ?_⟩
              obtain ⟨s, h41, h42⟩ := hinv.ex (hm (by omega)) 4 (by decide) (hdep ⟨4, .data⟩ (by simp) rfl)
              have e85 : a2.tmps[85]?.getD undef = .agg #[.bool true, .string s, .bool false] := evalD2 h41
              have e81 : a2.tmps[81]?.getD undef = .agg #[.slice ad us.length cp] := hinv.sl.new (i := 0) (by decide) rfl (hdep ⟨0, .data⟩ (by simp) rfl)
              have hwd := hinv.wd (hm (by omega))
              have hly := l6LayC_any ad cp us ⟨#[97]⟩ ⟨true, s, false⟩ w9 hwd.x6.el.es (by have := HL.out; omega) HU.out.1
              go_simp
              refine ⟨rfl, CallsIn.mono (callsIn_wide.2 hly) ?_⟩
              rintro e' w' ⟨ad', cap', us', rfl, hrel, hel, hb', hln, hrm⟩
              exact hinv.step bNd (bSt (g := g) (gr_below hb') HGB.out) (i := 5) (by decide) (by show 86 < 90; decide) (by omega) (hm (by omega)) (fun u hu => by cases hu) ⟨ad', cap', us', _, rfl, h42, hrel, hel.mono hwd.x8.lt, hln, hrm⟩ (hwd.later hb')
            | 6, _, hL, ho, hdep, hm =>
              injection ho with ho; subst ho
              dsimp only
              rw [if_pos (by rfl)]
              refine ⟨fun f _ => trivial, ?_⟩
              have h60 := getD_ft hL
              obtain ⟨ad', cap', us', f, h71, h72, h73, h74, h75, h76⟩ := hinv.ex h60 5 (by decide) (hdep ⟨5, .data⟩ (by simp) rfl)
              have e86 : a2.tmps[86]?.getD undef = .agg #[.slice ad' us'.length cap'] := evalD2 h71
              have e8 : a2.tmps[8]?.getD undef = .pointer (some ⟨b8, 0, none⟩) := hinv.sl.old (by decide)
              have hwd := hinv.wd h60
              have z0 := hwd.x8.c
              have z1 := hwd.x8.f
              have HP : Keep _ := ⟨hwd.put8 (u := ⟨ad', cap', us'⟩) h74 h76⟩
              have HT : Keep (TQ ⟨ad', cap', us'⟩) := ⟨⟨by have := HL.out; show us'.length ≤ 300; omega, ((HU.out.2.wide (P' := 1000) (T' := 20000) (by omega) (by omega)).layRel ⟨by show 1 ≤ 1000; omega, by omega⟩ h73)⟩⟩
              clear h74 hwd h73
              go_simp
              exact hinv.last rfl hL ⟨_, HT.out, HP.out⟩
        · intro L a2 w9 i o hinv hcl hL ho hdep
          have hin : i < 9 := (Array.getElem?_eq_some_iff.1 ho).1
          have hm : i ≠ 8 → L.getD 8 false = false := fun hne => by
            cases hb : L.getD 8 false with
            | false => rfl
            | true =>
              exfalso
              have d7 := hcl 8 _ rfl hb ⟨7, .data⟩ (by simp) rfl
              have d0 := hcl 7 _ rfl d7 ⟨0, .data⟩ (by simp) rfl
              have d6 := hcl 7 _ rfl d7 ⟨6, .data⟩ (by simp) rfl
              have d5 := hcl 6 _ rfl d6 ⟨5, .data⟩ (by simp) rfl
              have d4 := hcl 5 _ rfl d5 ⟨4, .data⟩ (by simp) rfl
              have d3 := hcl 4 _ rfl d4 ⟨3, .data⟩ (by simp) rfl
              have d2 := hcl 3 _ rfl d3 ⟨2, .data⟩ (by simp) rfl
              have d1 := hcl 2 _ rfl d2 ⟨1, .data⟩ (by simp) rfl
              have hf := getD_ft hL
              match i, hin, hne, hf with
              | 0, _, _, hf => rw [d0] at hf; cases hf
              | 1, _, _, hf => rw [d1] at hf; cases hf
              | 2, _, _, hf => rw [d2] at hf; cases hf
              | 3, _, _, hf => rw [d3] at hf; cases hf
              | 4, _, _, hf => rw [d4] at hf; cases hf
              | 5, _, _, hf => rw [d5] at hf; cases hf
              | 6, _, _, hf => rw [d6] at hf; cases hf
              | 7, _, _, hf => rw [d7] at hf; cases hf
              | 8, _, hne, _ => exact hne rfl
          unfold wpOpIn
          rw [ho]
          clear hcl
          match i, hin, hL, ho, hdep, hm with
          | 0, _, hL, ho, hdep, hm =>
            injection ho with ho; subst ho
            dsimp only
            rw [if_pos (by rfl)]
            refine ⟨fun f _ => trivial, ?_⟩
            have e6 : a2.tmps[6]?.getD undef = .pointer (some ⟨b6, 0, none⟩) := hinv.sl.old (by decide)
            obtain ⟨p0, hp0, hwd⟩ := hinv.wd (hm (by omega))
            have z0 := hwd.x6.c
            go_simp
            exact hinv.step aNdM (aSt (g := g) (gr_below (Below.refl _ _)) HGB.out) (i := 0) (by decide) (by show 73 < 90; decide) (by omega) (hm (by omega)) (fun u hu => by cases hu; rfl) trivial ((hinv.wd (hm (by omega))).keep (by omega))
          | 1, _, hL, ho, hdep, hm =>
            injection ho with ho; subst ho
            dsimp only
            rw [if_pos (by rfl)]
            refine ⟨fun f _ => trivial, ?_⟩
            have e5 : a2.tmps[5]?.getD undef = .pointer (some ⟨g, 0, none⟩) := hinv.sl.old (by decide)
            go_simp
            exact hinv.step aNdM (aSt (g := g) (gr_below (Below.refl _ _)) HGB.out) (i := 1) (by decide) (by show 74 < 90; decide) (by omega) (hm (by omega)) (fun u hu => by cases hu; rfl) trivial ((hinv.wd (hm (by omega))).keep (by omega))
          | 2, _, hL, ho, hdep, hm =>
            injection ho with ho; subst ho
            dsimp only
            rw [if_pos (by rfl)]
            refine ⟨fun f _ => trivial, ?_⟩
            have e74 : a2.tmps[74]?.getD undef = .pointer (some ⟨g, 0, none⟩) := hinv.sl.new (i := 1) (by decide) rfl (hdep ⟨1, .data⟩ (by simp) rfl)
            obtain ⟨p0, hp0, hwd⟩ := hinv.wd (hm (by omega))
            replace hp0 : p0 ≤ 1100 := by
              rcases hp0 with h0 | ⟨h0, _⟩
              · exact h0
              · rw [getD_ft hL] at h0; cases h0
            go_simp
            refine ⟨rfl, CallsIn.mono (callsIn_wide.2 (pick_any g a cap zs' p0 2 w9 hwd.rd (by omega) (by omega) (by omega))) ?_⟩
            rintro e' w' ⟨z, rfl, hz, hg', hR'⟩
            exact hinv.step aNdM (aSt (g := g) hg' HGB.out) (i := 2) (by decide) (by show 75 < 90; decide) (by omega) (hm (by omega)) (fun u hu => by cases hu) ⟨z, rfl, by omega, by omega⟩ ⟨p0 + 1, .inr ⟨getD_put2 hL, by omega⟩, hwd.step hg' hR'⟩
          | 3, _, hL, ho, hdep, hm =>
            injection ho with ho; subst ho
            dsimp only
            rw [if_pos (by rfl)]
            refine ⟨fun f _ => trivial, ?_⟩
            obtain ⟨z, h21, h22, h23⟩ := hinv.ex (hm (by omega)) 2 (by decide) (hdep ⟨2, .data⟩ (by simp) rfl)
            have e75 : a2.tmps[75]?.getD undef = .int .i64 (z : Int) := evalD2 h21
            have hw7 : IntKind.i64.wrap (700 + (z : Int)) = ((700 + z : Nat) : Int) := by rw [IntKind.wrap_i64] <;> omega
            go_simp
            exact hinv.step aNdM (aSt (g := g) (gr_below (Below.refl _ _)) HGB.out) (i := 3) (by decide) (by show 76 < 90; decide) (by omega) (hm (by omega)) (fun u hu => by cases hu) ⟨700 + z, by first | rfl | (congr 1; omega) | simp, by omega, by omega⟩ ((hinv.wd (hm (by omega))).keep (by omega))
          | 4, _, hL, ho, hdep, hm =>
            injection ho with ho; subst ho
            dsimp only
            rw [if_pos (by rfl)]
            refine ⟨fun f _ => trivial, ?_⟩
            obtain ⟨z, h31, h32, h33⟩ := hinv.ex (hm (by omega)) 3 (by decide) (hdep ⟨3, .data⟩ (by simp) rfl)
            have e76 : a2.tmps[76]?.getD undef = .int .i64 (z : Int) := evalD2 h31
            have hmn := manyI 120 z 0 (by omega) w9
            go_simp
            refine ⟨rfl, CallsIn.mono (callsIn_wide.2 hmn) ?_⟩
            rintro e' w' ⟨s, rfl, hs, rfl⟩
            exact hinv.step aNdM (aSt (g := g) (gr_below (Below.refl _ _)) HGB.out) (i := 4) (by decide) (by show 77 < 90; decide) (by omega) (hm (by omega)) (fun u hu => by cases hu) ⟨s, rfl, by omega⟩ ((hinv.wd (hm (by omega))).keep (by omega))
          | 5, _, hL, ho, hdep, hm =>
            injection ho with ho; subst ho
            dsimp only
            rw [if_pos (by rfl)]
            refine ⟨fun f _ => trivial, ?_⟩
            obtain ⟨s, h41, h42⟩ := hinv.ex (hm (by omega)) 4 (by decide) (hdep ⟨4, .data⟩ (by simp) rfl)
            have e77 : a2.tmps[77]?.getD undef = .string s := evalD2 h41
            have hc3 : ¬ 9223372036854775807 < s.size + 3 := by omega
            go_simp
            exact hinv.step aNdM (aSt (g := g) (gr_below (Below.refl _ _)) HGB.out) (i := 5) (by decide) (by show 78 < 90; decide) (by omega) (hm (by omega)) (fun u hu => by cases hu) ⟨_, rfl, by rw [ByteArray.size_append]; show s.size + 3 ≤ 704; omega⟩ ((hinv.wd (hm (by omega))).keep (by omega))
          | 6, _, hL, ho, hdep, hm =>
            injection ho with ho; subst ho
            dsimp only
            rw [if_pos (by rfl)]
            refine ⟨fun f _ => trivial, ?_⟩
            obtain ⟨s, h51, h52⟩ := hinv.ex (hm (by omega)) 5 (by decide) (hdep ⟨5, .data⟩ (by simp) rfl)
            have e78 : a2.tmps[78]?.getD undef = .string s := evalD2 h51
            go_simp
            exact hinv.step aNdM (aSt (g := g) (gr_below (Below.refl _ _)) HGB.out) (i := 6) (by decide) (by show 79 < 90; decide) (by omega) (hm (by omega)) (fun u hu => by cases hu) ⟨s, rfl, h52⟩ ((hinv.wd (hm (by omega))).keep (by omega))
          | 7, _, hL, ho, hdep, hm =>
            injection ho with ho; subst ho
            dsimp only
            rw [if_pos (by rfl)]
            refine ⟨fun f _ => trivial, ?_⟩
            obtain ⟨s, h61, h62⟩ := hinv.ex (hm (by omega)) 6 (by decide) (hdep ⟨6, .data⟩ (by simp) rfl)
            have e79 : a2.tmps[79]?.getD undef = .agg #[.bool true, .string s, .bool false] := evalD2 h61
            have e73 : a2.tmps[73]?.getD undef = .agg #[.slice ad us.length cp] := hinv.sl.new (i := 0) (by decide) rfl (hdep ⟨0, .data⟩ (by simp) rfl)
            obtain ⟨p0, hp0, hwd⟩ := hinv.wd (hm (by omega))
            have hly := l6LayC_any ad cp us ⟨#[97]⟩ ⟨true, s, false⟩ w9 hwd.x6.el.es (by have := HL.out; omega) HU.out.1
            go_simp
            refine ⟨rfl, CallsIn.mono (callsIn_wide.2 hly) ?_⟩
            rintro e' w' ⟨ad', cap', us', rfl, hrel, hel, hb', hln, hrm⟩
            exact hinv.step aNdM (aSt (g := g) (gr_below hb') HGB.out) (i := 7) (by decide) (by show 80 < 90; decide) (by omega) (hm (by omega)) (fun u hu => by cases hu) ⟨ad', cap', us', _, rfl, h62, hrel, hel.mono hwd.x8.lt, hln, hrm⟩ (((hinv.wd (hm (by omega))).later hb').keep (by omega))
          | 8, _, hL, ho, hdep, hm =>
            injection ho with ho; subst ho
            dsimp only
            rw [if_pos (by rfl)]
            refine ⟨fun f _ => trivial, ?_⟩
            have h80 := getD_ft hL
            obtain ⟨ad', cap', us', f, h71, h72, h73, h74, h75, h76⟩ := hinv.ex h80 7 (by decide) (hdep ⟨7, .data⟩ (by simp) rfl)
            have e80 : a2.tmps[80]?.getD undef = .agg #[.slice ad' us'.length cap'] := evalD2 h71
            have e7 : a2.tmps[7]?.getD undef = .pointer (some ⟨b7, 0, none⟩) := hinv.sl.old (by decide)
            obtain ⟨p0, hp0, hwd⟩ := hinv.wd h80
            have z0 := hwd.x7.c
            have z1 := hwd.x7.f
            have HP : Keep _ := ⟨hwd.put7 (u := ⟨ad', cap', us'⟩) h74 h76⟩
            have HT : Keep (TQ ⟨ad', cap', us'⟩) := ⟨⟨by have := HL.out; show us'.length ≤ 300; omega, ((HU.out.2.wide (P' := 1000) (T' := 20000) (by omega) (by omega)).layRel ⟨by show 1 ≤ 1000; omega, by omega⟩ h73)⟩⟩
            clear h74 hwd h73
            go_simp
            exact hinv.last rfl hL ⟨p0, _, ⟨by rcases hp0 with h0 | ⟨_, h0⟩ <;> omega, HT.out⟩, HP.out⟩
      have hB4 : ((y : Int) == 4) = false := by simp; omega
      have HM9 : Keep _ := ⟨hM⟩
      clear y0 y1 y2 y3 y4 hM
      go_wp2_with fail
      go_meet
      case rel => exact ⟨px, _, _, _, HM9.out, HQ6.out, HQ7.out, HQ8.out⟩
    case rest =>
      clear hM
      obtain ⟨px, t6, t7, t8, hM, q6, q7, q8⟩ := hcut
      have HQ : Keep (TQ t6 ∧ TQ t7 ∧ TQ t8) := ⟨⟨q6, q7, q8⟩⟩
      have HORD : Keep (r2 < r3 ∧ r3 < r4 ∧ r4 < g ∧ g < b6 ∧ b6 < b7 ∧ b7 < b8 ∧ w.heap.size ≤ r2) := ⟨by have := hM.ord; omega⟩
      have hM0 := hM.later (W' := wc.drew) (Below.refl _ _).drew
      have HM : Keep _ := ⟨hM0⟩
      clear q6 q7 q8 hM hM0
      go_upto_region 26 with fail
      refine (wpIn_wide (n := 0)).1 ?_
      refine wpIn_region_inv0 (by kernel_rfl) (by kernel_rfl) (fun T0 => RV3 w g r2 r3 r4 b6 b7 b8 t6 t7 t8 T0) ?_ ?_ ?_
      · exact ⟨Sl2.start _, HM.out.bw, HM.out.x6, HM.out.x7, HM.out.x8, by rw [getD_repl]; exact HM.out.c2, HM.out.f2, by rw [getD_repl]; exact HM.out.c3, HM.out.f3, by rw [getD_repl]; exact HM.out.c4, HM.out.f4⟩
      · intro L a2 w9 hinv hall
        have z2 : w9.cell? ⟨r2, 0, none⟩ = some (.slice t6.ad t6.ts.length t6.cp) := by have := hinv.c2; rw [hall 3 (by decide)] at this; exact this
        have z3 : w9.cell? ⟨r3, 0, none⟩ = some (.slice t7.ad t7.ts.length t7.cp) := by have := hinv.c3; rw [hall 4 (by decide)] at this; exact this
        have z4 : w9.cell? ⟨r4, 0, none⟩ = some (.slice t8.ad t8.ts.length t8.cp) := by have := hinv.c4; rw [hall 5 (by decide)] at this; exact this
        have hfin : DrawnM w (.returned (.tuple #[.agg #[.slice t6.ad t6.ts.length t6.cp], .agg #[.slice t7.ad t7.ts.length t7.cp], .agg #[.slice t8.ad t8.ts.length t8.cp]])) w9 := ⟨t6, t7, t8, rfl, hinv.x6.el.es, hinv.x7.el.es, hinv.x8.el.es, HQ.out.1, HQ.out.2.1, HQ.out.2.2, hinv.x6.rm, hinv.x7.rm, hinv.x8.rm, hinv.bw⟩
        have HXX : Keep _ := ⟨hinv.sl.act⟩
        have HF : Keep _ := ⟨hfin⟩
        clear hinv hall hfin
        rw [HXX.out]
        simp only [updL, zDs, List.contains_cons, List.contains_nil, Nat.reduceAdd, Nat.reduceBEq, Bool.or_false, cond_false, cond_true, Bool.or_true]
        go_wp2
        refine bodyPost_ret (v := .tuple #[.agg #[.slice t6.ad t6.ts.length t6.cp], .agg #[.slice t7.ad t7.ts.length t7.cp], .agg #[.slice t8.ad t8.ts.length t8.cp]]) ?_ rfl HF.out
        go_light
        simp [results, Try.results10, go_sem, z2, z3, z4]
      · intro L a2 w9 i o hinv hcl hL ho hdep
        have hi6 : i < 6 := (Array.getElem?_eq_some_iff.1 ho).1
        unfold wpOpIn
        rw [ho]
        clear hcl
        match i, hi6, hL, ho, hdep with
        | 0, _, hL, ho, hdep =>
          injection ho with ho; subst ho
          dsimp only
          rw [if_pos (by rfl)]
          refine ⟨fun f _ => trivial, ?_⟩
          have e6 : a2.tmps[6]?.getD undef = .pointer (some ⟨b6, 0, none⟩) := hinv.sl.old (by decide)
          have z0 := hinv.x6.c
          go_simp
          exact hinv.step (i := 0) (by omega) (by show 87 < 90; decide) rfl
        | 1, _, hL, ho, hdep =>
          injection ho with ho; subst ho
          dsimp only
          rw [if_pos (by rfl)]
          refine ⟨fun f _ => trivial, ?_⟩
          have e7 : a2.tmps[7]?.getD undef = .pointer (some ⟨b7, 0, none⟩) := hinv.sl.old (by decide)
          have z0 := hinv.x7.c
          go_simp
          exact hinv.step (i := 1) (by omega) (by show 88 < 90; decide) rfl
        | 2, _, hL, ho, hdep =>
          injection ho with ho; subst ho
          dsimp only
          rw [if_pos (by rfl)]
          refine ⟨fun f _ => trivial, ?_⟩
          have e8 : a2.tmps[8]?.getD undef = .pointer (some ⟨b8, 0, none⟩) := hinv.sl.old (by decide)
          have z0 := hinv.x8.c
          go_simp
          exact hinv.step (i := 2) (by omega) (by show 89 < 90; decide) rfl
        | 3, _, hL, ho, hdep =>
          injection ho with ho; subst ho
          dsimp only
          rw [if_pos (by rfl)]
          refine ⟨fun f _ => trivial, ?_⟩
          have e2 : a2.tmps[2]?.getD undef = .pointer (some ⟨r2, 0, none⟩) := hinv.sl.old (by decide)
          have e87 : a2.tmps[87]?.getD undef = .agg #[.slice t6.ad t6.ts.length t6.cp] := hinv.sl.new (i := 0) (by decide) rfl (hdep ⟨0, .data⟩ (by simp) rfl)
          have z0 := hinv.c2
          have z1 := hinv.f2
          go_simp
          exact hinv.st2 HORD.out hL
        | 4, _, hL, ho, hdep =>
          injection ho with ho; subst ho
          dsimp only
          rw [if_pos (by rfl)]
          refine ⟨fun f _ => trivial, ?_⟩
          have e3 : a2.tmps[3]?.getD undef = .pointer (some ⟨r3, 0, none⟩) := hinv.sl.old (by decide)
          have e88 : a2.tmps[88]?.getD undef = .agg #[.slice t7.ad t7.ts.length t7.cp] := hinv.sl.new (i := 1) (by decide) rfl (hdep ⟨1, .data⟩ (by simp) rfl)
          have z0 := hinv.c3
          have z1 := hinv.f3
          go_simp
          exact hinv.st3 HORD.out hL
        | 5, _, hL, ho, hdep =>
          injection ho with ho; subst ho
          dsimp only
          rw [if_pos (by rfl)]
          refine ⟨fun f _ => trivial, ?_⟩
          have e4 : a2.tmps[4]?.getD undef = .pointer (some ⟨r4, 0, none⟩) := hinv.sl.old (by decide)
          have e89 : a2.tmps[89]?.getD undef = .agg #[.slice t8.ad t8.ts.length t8.cp] := hinv.sl.new (i := 2) (by decide) rfl (hdep ⟨2, .data⟩ (by simp) rfl)
          have z0 := hinv.c4
          have z1 := hinv.f4
          go_simp
          exact hinv.st4 HORD.out hL
end Go.Proofs.Ytockgapdfcapnaa
