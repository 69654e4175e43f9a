/-
  spec.DrawOverlay.
-/
import Derived.Test.YtiadabmbfpfbjaaMtsD
import Derived.Test.YtiadabmbfpfbjaaNear
namespace Go.Proofs.Ytiadabmbfpfbjaa
open Go.RowKit

/-- A tree in a box, beside a reader and two boxes for what is handed back. -/
structure DOv (w : World) (g r2 r3 tb : Nat) (a : Option Addr) (cap : Nat) (zs : List Int) (p : Nat) (ad : Option Addr) (cp : Nat) (ts : List En) (W : World) : Prop where
  rd : Rd W g a cap zs p
  bw : Below w.heap.size w W
  a2 : W.cell? ⟨r2, 0, none⟩ = some (.slice none 0 0)
  f2 : W.frozen? ⟨r2, 0, none⟩ = false
  a3 : W.cell? ⟨r3, 0, none⟩ = some (.slice none 0 0)
  f3 : W.frozen? ⟨r3, 0, none⟩ = false
  tc : W.cell? ⟨tb, 0, none⟩ = some (.slice ad ts.length cp)
  el : EL (g + 1) W ad ts
  ord : w.heap.size ≤ r2 ∧ r2 < r3 ∧ r3 < g ∧ g < tb
section
variable {w : World} {g r2 r3 tb : Nat} {a : Option Addr} {cap : Nat} {zs : List Int} {p p' : Nat} {ad : Option Addr} {cp : Nat} {ts : List En} {W W' : World}
theorem DOv.lt (h : DOv w g r2 r3 tb a cap zs p ad cp ts W) : tb < W.heap.size := World.block_lt_of_cell? W ⟨tb, 0, none⟩ h.tc
theorem DOv.step (h : DOv w g r2 r3 tb a cap zs p ad cp ts W) (hg : W.grownBy W' (some g)) (hR : Rd W' g a cap zs p') : DOv w g r2 r3 tb a cap zs p' ad cp ts W' := by
  have o := h.ord
  have k2 := hg.block r2 (World.block_lt_of_cell? W ⟨r2, 0, none⟩ h.a2) (by simp; omega)
  have k3 := hg.block r3 (World.block_lt_of_cell? W ⟨r3, 0, none⟩ h.a3) (by simp; omega)
  have kb := hg.block tb h.lt (by simp; omega)
  exact ⟨hR, h.bw.grown hg h.bw.size (fun j e => by cases e; omega), (World.cell?_of_block k2).trans h.a2, fz_blk k2 h.f2, (World.cell?_of_block k3).trans h.a3, fz_blk k3 h.f3, (World.cell?_of_block kb).trans h.tc, h.el.grown hg (fun k _ hk _ e => by cases e; omega), o⟩
theorem DOv.later (h : DOv w g r2 r3 tb a cap zs p ad cp ts W) (hb : Below W.heap.size W W') : DOv w g r2 r3 tb a cap zs p ad cp ts W' := h.step (gr_below hb) (h.rd.below hb)
end

def DrawnO (w : World) (e : Ending) (w' : World) : Prop :=
  ∃ ad cp ts ad2 cp2 us, e = .returned (.tuple #[.agg #[.slice ad (List.length ts) cp], .agg #[.slice ad2 (List.length us) cp2]]) ∧ ES w' ad ts ∧ ES w' ad2 us ∧ ts.length ≤ 103 ∧ us.length ≤ 103 ∧ Tiny 100 1620 ts ∧ Tiny 100 1620 us ∧ NilOk ad cp ∧ NilOk ad2 cp2 ∧ Below w.heap.size w w'

set_option maxRecDepth 100000 in
set_option maxHeartbeats 8000000 in
theorem drawOverlay_any (a : Option Addr) (cap : Nat) (zs : List Int) (w : World) (h : Code0 w a cap zs) :
    Calls Try.prog 10 #[.slice a zs.length cap] w (DrawnO w) := by
  have hal : Below w.heap.size w ((w.alloc (.cells #[.slice none 0 0] 25)).alloc (.cells #[.slice none 0 0] 25)) := ((Below.refl _ _).alloc (Nat.le_refl _) _).alloc (by simp) _
  have a0 : ((w.alloc (.cells #[.slice none 0 0] 25)).alloc (.cells #[.slice none 0 0] 25)).cell? ⟨w.heap.size, 0, none⟩ = some (.slice none 0 0) := by simp [go_sem]
  have af0 : ((w.alloc (.cells #[.slice none 0 0] 25)).alloc (.cells #[.slice none 0 0] 25)).frozen? ⟨w.heap.size, 0, none⟩ = false := by simp [go_sem]
  have b0 : ((w.alloc (.cells #[.slice none 0 0] 25)).alloc (.cells #[.slice none 0 0] 25)).cell? ⟨w.heap.size + 1, 0, none⟩ = some (.slice none 0 0) := by simp [go_sem]
  have bf0 : ((w.alloc (.cells #[.slice none 0 0] 25)).alloc (.cells #[.slice none 0 0] 25)).frozen? ⟨w.heap.size + 1, 0, none⟩ = false := by simp [go_sem]
  have hsz : ((w.alloc (.cells #[.slice none 0 0] 25)).alloc (.cells #[.slice none 0 0] 25)).heap.size = w.heap.size + 1 + 1 := by simp
  have hop := open_any a cap zs _ (code_later h hal)
  go_enter Try.func10, Try.ntmps10
  go_wp2_with fail
  refine hop.mono ?_
  rintro e w1 ⟨rfl, hb1, hs1, zs', hR1⟩
  have a1 := cell_later hb1 a0
  have b1 := cell_later hb1 b0
  have af1 : w1.frozen? ⟨w.heap.size, 0, none⟩ = false := (hb1.frozen (p := ⟨w.heap.size, 0, none⟩) (by rw [hsz]; show w.heap.size < _; omega)).trans af0
  have bf1 : w1.frozen? ⟨w.heap.size + 1, 0, none⟩ = false := (hb1.frozen (p := ⟨w.heap.size + 1, 0, none⟩) (by rw [hsz]; show w.heap.size + 1 < _; omega)).trans bf0
  have hbw1 : Below w.heap.size w w1 := hal.trans (hb1.mono hal.size)
  rw [hsz] at hR1 hs1
  rw [hsz]
  obtain ⟨g, hg⟩ : ∃ g, g = w.heap.size + 1 + 1 := ⟨_, rfl⟩
  obtain ⟨r3, hr3⟩ : ∃ r3, r3 = w.heap.size + 1 := ⟨_, rfl⟩
  obtain ⟨r2, hr2⟩ : ∃ r2, r2 = w.heap.size := ⟨_, rfl⟩
  rw [← hg] at hR1 ⊢
  rw [← hr3] at b1 bf1 ⊢
  rw [← hr2] at a1 af1 ⊢
  have HO : Keep (r2 = w.heap.size ∧ r3 = w.heap.size + 1 ∧ g = w.heap.size + 2 ∧ w1.heap.size = w.heap.size + 3) := ⟨by omega⟩
  clear hop hal a0 af0 b0 bf0 hsz hb1 hs1 hg hr2 hr3
  have hany := l5Any_any g a cap zs' 0 w1 hR1 (by omega)
  go_wp2_with fail
  refine hany.mono ?_
  rintro e w2 ⟨ad, cp, ts, rfl, hel, hn, hT, hNil, ⟨p2, hp2, hR2⟩, hg2⟩
  clear hany
  have hD : DOv w g r2 r3 w2.heap.size a cap zs' p2 ad cp ts (w2.alloc (.cells #[.slice ad ts.length cp] 25)) := by
    have ho := HO.out
    have hba := below_oneD w2 (.cells #[.slice ad ts.length cp] 25)
    have hs2 := hg2.size
    have k2 := hg2.block r2 (by omega) (by simp; omega)
    have k3 := hg2.block r3 (by omega) (by simp; omega)
    have hbw2 : Below w.heap.size w w2 := hbw1.grown hg2 hbw1.size (fun j e => by cases e; omega)
    have hbw3 := hbw2.trans (hba.mono hbw2.size)
    exact ⟨hR2.below hba, hbw3, cell_later hba ((World.cell?_of_block k2).trans a1), (hba.frozen (p := ⟨r2, 0, none⟩) (by show r2 < _; omega)).trans (fz_blk k2 af1), cell_later hba ((World.cell?_of_block k3).trans b1), (hba.frozen (p := ⟨r3, 0, none⟩) (by show r3 < _; omega)).trans (fz_blk k3 bf1), by simp, (hel.mono (by omega)).below hba, by omega⟩
  have HT : Keep (Tiny 100 1600 ts ∧ NilOk ad cp) := ⟨⟨hT, hNil⟩⟩
  clear hel hR2 hg2 hbw1 a1 af1 b1 bf1 hR1 hNil hT
  go_upto_region 3 with fail
  generalize w2.alloc (.cells #[.slice ad ts.length cp] 25) = W3 at *
  generalize w2.heap.size = tb at *
  go_cut [16] (fun v wx => ∃ (b : Bool) (px : Nat), v = .bool b ∧ px ≤ 230 ∧ DOv w g r2 r3 tb a cap zs' px ad cp ts wx)
  case first =>
    go_wp2_with fail
    refine (pick_any g a cap zs' p2 2 W3 hD.rd (by omega) (by omega) (by omega)).mono ?_
    rintro e w4 ⟨x, rfl, hx, hg4, hR4⟩
    have hD4 := hD.step hg4 hR4
    clear hD hg4 hR4
    by_cases x0 : x = 0
    · have hB : ((x : Int) == 0) = true := by simp; omega
      have t4 := hD4.tc
      clear x0
      go_wp2_with fail
      refine (specTree_any ad cp ts w4 hD4.el.es (by omega)).mono ?_
      rintro e w5 ⟨vb, rfl, _, hb5⟩
      have hD5 := hD4.later hb5
      cases vb with
      | true =>
        go_wp2_with fail
        go_meet
        case rel => exact ⟨true, p2 + 1, rfl, by omega, hD5⟩
      | false =>
        go_wp2_with fail
        go_meet
        case rel => exact ⟨false, p2 + 1, rfl, by omega, hD5⟩
    · have hB : ((x : Int) == 0) = false := by simp; omega
      clear x0
      go_wp2_with fail
      go_meet
      case rel => exact ⟨false, p2 + 1, rfl, by omega, hD4⟩
  case rest =>
    clear hD
    obtain ⟨b, px, rfl, hpx, hD⟩ := hcut
    have hD0 : DOv w g r2 r3 tb a cap zs' px ad cp ts wc.drew := hD.later (W' := wc.drew) (Below.refl _ _).drew
    have t6 := hD0.tc
    have o := hD.ord
    have n1 : ¬ r2 = r3 := by omega
    have n2 : ¬ r3 = r2 := by omega
    have n3 : ¬ r2 = tb := by omega
    have n4 : ¬ tb = r2 := by omega
    have n5 : ¬ r3 = tb := by omega
    have n6 : ¬ tb = r3 := by omega
    have hk2 : ∀ (W : World) (u : Value), W.cell? ⟨tb, 0, none⟩ = some (.slice ad ts.length cp) → (W.setCell ⟨r2, 0, none⟩ u).cell? ⟨tb, 0, none⟩ = some (.slice ad ts.length cp) := fun W u hW => (World.cell?_setCell_other _ _ _ _ (by simp <;> omega)).trans hW
    have hk3 : ∀ (W : World) (u : Value), W.cell? ⟨tb, 0, none⟩ = some (.slice ad ts.length cp) → (W.setCell ⟨r3, 0, none⟩ u).cell? ⟨tb, 0, none⟩ = some (.slice ad ts.length cp) := fun W u hW => (World.cell?_setCell_other _ _ _ _ (by simp <;> omega)).trans hW
    have HOR : Keep (w.heap.size ≤ r2 ∧ w.heap.size ≤ r3 ∧ r2 < g + 1 ∧ r3 < g + 1) := ⟨by omega⟩
    have hlt0 : g + 1 ≤ wc.drew.heap.size := by have := hD0.lt; omega
    cases b with
    | true =>
      have hcall := l5Near_any g a cap zs' px ad cp ts wc.drew hD0.rd (by omega) hD0.el.es HT.out.2 HT.out.1 hn
      clear hD o
      go_upto_region 4 with fail
      go_region_held3 (fun w' => w'.cell? ⟨tb, 0, none⟩ = some (.slice ad ts.length cp)) (first | go_keep | (exact t7) | (exact hk2 _ _ (by assumption)) | (exact hk3 _ _ (by assumption)))
        (first | (go_at_call 28; refine hcall.mono ?_; rintro e w7 ⟨ad2, cp2, us, rfl, hel2, hn2, hT2, hNil2, ⟨p7, hp7, hR7⟩, hg7⟩; have hD7 := hD0.step hg7 hR7; have t7 := hD7.tc; have c2 := hD7.a2; have c3 := hD7.a3; have d2 := hD7.f2; have d3 := hD7.f3))
      have el1 := hD7.el
      have el2 := hel2.mono hlt0
      have bw := hD7.bw
      have HK : Keep (Tiny 100 1620 us ∧ NilOk ad2 cp2) := ⟨⟨hT2, hNil2⟩⟩
      clear hel2 hcall hD7 hD0 hT2 hNil2
      go_wp2
      refine bodyPost_ret (v := .tuple #[.agg #[.slice ad ts.length cp], .agg #[.slice ad2 us.length cp2]]) ?_ rfl ⟨ad, cp, ts, ad2, cp2, us, rfl, ?_, ?_, hn, hn2, HT.out.1.wide (Nat.le_refl _) (by omega), HK.out.1, HT.out.2, HK.out.2, ?_⟩
      · go_light
        simp [results, Try.results10, go_sem, c2, c3]
      · refine EL.es (B := g + 1) ?_
        repeat (first | ((with_reducible refine el_setJ ?_ ?hq); (case hq => have := HOR.out; omega)) | (with_reducible refine el_drew ?_))
        exact el1
      · refine EL.es (B := g + 1) ?_
        repeat (first | ((with_reducible refine el_setJ ?_ ?hq); (case hq => have := HOR.out; omega)) | (with_reducible refine el_drew ?_))
        exact el2
      · repeat (first | ((with_reducible refine Below.setCell ?_ ?hq _); (case hq => have := HOR.out; first | exact this.1 | exact this.2.1)) | (with_reducible refine Below.drew ?_))
        exact bw
    | false =>
      have hcall := l5Any_any g a cap zs' px wc.drew hD0.rd (by omega)
      clear hD o
      go_upto_region 5 with fail
      go_region_held3 (fun w' => w'.cell? ⟨tb, 0, none⟩ = some (.slice ad ts.length cp)) (first | go_keep | (exact t7) | (exact hk2 _ _ (by assumption)) | (exact hk3 _ _ (by assumption)))
        (first | (go_at_call 16; refine hcall.mono ?_; rintro e w7 ⟨ad2, cp2, us, rfl, hel2, hn2, hT2, hNil2, ⟨p7, hp7, hR7⟩, hg7⟩; have hD7 := hD0.step hg7 hR7; have t7 := hD7.tc; have c2 := hD7.a2; have c3 := hD7.a3; have d2 := hD7.f2; have d3 := hD7.f3))
      have el1 := hD7.el
      have el2 := hel2.mono hlt0
      have bw := hD7.bw
      have HK : Keep (Tiny 100 1620 us ∧ NilOk ad2 cp2) := ⟨⟨hT2.wide (Nat.le_refl _) (by omega), hNil2⟩⟩
      clear hel2 hcall hD7 hD0 hT2 hNil2
      go_wp2
      refine bodyPost_ret (v := .tuple #[.agg #[.slice ad ts.length cp], .agg #[.slice ad2 us.length cp2]]) ?_ rfl ⟨ad, cp, ts, ad2, cp2, us, rfl, ?_, ?_, hn, hn2, HT.out.1.wide (Nat.le_refl _) (by omega), HK.out.1, HT.out.2, HK.out.2, ?_⟩
      · go_light
        simp [results, Try.results10, go_sem, c2, c3]
      · refine EL.es (B := g + 1) ?_
        repeat (first | ((with_reducible refine el_setJ ?_ ?hq); (case hq => have := HOR.out; omega)) | (with_reducible refine el_drew ?_))
        exact el1
      · refine EL.es (B := g + 1) ?_
        repeat (first | ((with_reducible refine el_setJ ?_ ?hq); (case hq => have := HOR.out; omega)) | (with_reducible refine el_drew ?_))
        exact el2
      · repeat (first | ((with_reducible refine Below.setCell ?_ ?hq _); (case hq => have := HOR.out; first | exact this.1 | exact this.2.1)) | (with_reducible refine Below.drew ?_))
        exact bw
end Go.Proofs.Ytiadabmbfpfbjaa
