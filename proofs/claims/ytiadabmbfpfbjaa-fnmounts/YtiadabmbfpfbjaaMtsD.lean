/-
  DrawPu, DrawPb, DrawP5, DrawUn, DrawMn, WTr: laid as one text.
-/
import Derived.Test.YtiadabmbfpfbjaaDrawS5
import Derived.Test.YtiadabmbfpfbjaaDrawSp
import Derived.Test.YtiadabmbfpfbjaaSpecParts
import Derived.Deep.RegionHeld3
import Derived.Deep.CutRange
import Derived.Test.YtiadabmbfpfbjaaDrawPth
import Derived.Test.YtiadabmbfpfbjaaEntB
import Derived.Test.YtiadabmbfpfbjaaLaterQ
import Derived.Deep.DeepCutAuto
namespace Go.Proofs.Ytiadabmbfpfbjaa
open Go.RowKit

set_option maxRecDepth 100000 in
set_option maxHeartbeats 4000000 in
theorem l5Any_any (g : Nat) (a : Option Addr) (cap : Nat) (zs : List Int) (p : Nat) (w : World) (h : Rd w g a cap zs p) (hp : p ≤ 1000000) :
    Calls Try.prog 16 #[.pointer (some ⟨g, 0, none⟩)] w (TreeS 100 1600 103 g a cap zs 220 p w) := by
  have hglt := h.lt
  have hal := below_oneD w (.cells #[.slice none 0 0] 25)
  have r0 : (w.alloc (.cells #[.slice none 0 0] 25)).cell? ⟨w.heap.size, 0, none⟩ = some (.slice none 0 0) := by simp
  have rf0 : (w.alloc (.cells #[.slice none 0 0] 25)).frozen? ⟨w.heap.size, 0, none⟩ = false := by simp
  have hdr := l5Draw_any g a cap zs p _ (h.below hal) (by omega)
  have hne : some w.heap.size ≠ some g := by simp; omega
  have hsz : (w.alloc (.cells #[.slice none 0 0] 25)).heap.size = w.heap.size + 1 := by simp
  go_enter Try.func16, Try.ntmps16
  go_wp2_with fail
  refine hdr.mono ?_
  rintro e w2 ⟨ad, cp, ts, rfl, hel, hn, hA, hT, hNil, ⟨p2, hp2, hR2⟩, hg2⟩
  rw [hsz] at hel
  have r2 := hg2.cell (a := ⟨w.heap.size, 0, none⟩) r0 hne
  have rf2 : w2.frozen? ⟨w.heap.size, 0, none⟩ = false := fz_blk (hg2.block w.heap.size (by rw [hsz]; omega) hne) rf0
  have hgw := gr_trans (gr_below (row := some g) hal) hg2
  obtain ⟨rs, hrs⟩ : ∃ rs, rs = w.heap.size := ⟨_, rfl⟩
  rw [← hrs] at r2 rf2 hel hne ⊢
  have hrl : rs < w2.heap.size := World.block_lt_of_cell? w2 ⟨rs, 0, none⟩ r2
  have hgr : g < rs := by omega
  have HO : Keep (rs = w.heap.size) := ⟨hrs⟩
  clear hdr hal r0 rf0 hg2 hsz hrs h
  have hba := below_oneD w2 (.cells #[.slice ad ts.length cp] 25)
  have t3 : (w2.alloc (.cells #[.slice ad ts.length cp] 25)).cell? ⟨w2.heap.size, 0, none⟩ = some (.slice ad ts.length cp) := by simp
  have hpk := pick_any g a cap zs p2 10 _ (hR2.below hba) (by omega) (by omega) (by omega)
  go_wp2_with fail
  refine hpk.mono ?_
  rintro e w4 ⟨x, rfl, hx, hg4, hR4⟩
  have t4 := hg4.cell (a := ⟨w2.heap.size, 0, none⟩) t3 (by simp; omega)
  have r4 := hg4.cell (a := ⟨rs, 0, none⟩) (cell_later hba r2) (by simp; omega)
  have rf4 : w4.frozen? ⟨rs, 0, none⟩ = false := fz_blk (hg4.block rs (by simp; omega) (by simp; omega)) ((hba.frozen (p := ⟨rs, 0, none⟩) hrl).trans rf2)
  have hel4 : EL (rs + 1) w4 ad ts := (hel.below hba).grown hg4 (fun k _ hk _ e => by cases e; omega)
  have hgw4 := gr_trans (gr_trans hgw (gr_below (row := some g) hba)) hg4
  generalize w2.heap.size = tb at *
  clear hpk t3 hba r2 rf2 hel hgw hg4 hR2
  have hback : ∀ (W : World) (ad : Option Addr) (cp : Nat) (us : List En) (p5 : Nat), W.cell? ⟨rs, 0, none⟩ = some (.slice none 0 0) → EL (rs + 1) W ad us → Rd W g a cap zs p5 → w.grownBy W (some g) → p5 ≤ p + 220 → EL w.heap.size (W.setCell ⟨rs, 0, none⟩ (.slice ad us.length cp)) ad us ∧ Dr g a cap zs w (W.setCell ⟨rs, 0, none⟩ (.slice ad us.length cp)) p 220 := fun W ad cp us p5 _ he hR hg hp5 => by
    have hs : W.grownBy (W.setCell ⟨rs, 0, none⟩ (.slice ad us.length cp)) (some rs) := grown_set W rs 0 _
    have ho := HO.out
    exact ⟨(he.grown hs (fun k _ hk _ e => by cases e; omega)).mono (by omega), ⟨p5, hp5, hR.kept hs (fun k e => by cases e; omega)⟩, gr_own hg hs (fun j e => by cases e; omega)⟩
  by_cases x0 : x = 0
  · have hB : ((x : Int) == 0) = true := by simp; omega
    clear x0
    have hsp := l5Spoil_any g a cap zs (p2 + 1) ad cp ts w4 hR4 (by omega) hel4.es hNil hA hT hn
    go_wp2_with fail
    refine hsp.mono ?_
    rintro e w5 ⟨ad5, cp5, us, rfl, hel5, hn5, hT5, hN5, ⟨p5, hp5, hR5⟩, hg5⟩
    have r4l : rs < w4.heap.size := World.block_lt_of_cell? w4 ⟨rs, 0, none⟩ r4
    have r5 := hg5.cell (a := ⟨rs, 0, none⟩) r4 (by simp; omega)
    have rf5 : w5.frozen? ⟨rs, 0, none⟩ = false := fz_blk (hg5.block rs r4l (by simp; omega)) rf4
    obtain ⟨b1, b2⟩ := hback w5 ad5 cp5 us p5 r5 (hel5.mono (by omega)) hR5 (gr_trans hgw4 hg5) (by omega)
    clear hsp hback
    go_wp2
    refine bodyPost_ret (v := .agg #[.slice ad5 us.length cp5]) ?_ rfl ⟨ad5, cp5, us, rfl, b1, hn5, hT5, hN5, b2⟩
    go_light
    simp [results, Try.results16, go_sem, r5]
  · have hB : ((x : Int) == 0) = false := by simp; omega
    clear x0
    obtain ⟨b1, b2⟩ := hback w4 ad cp ts (p2 + 1) r4 hel4 hR4 hgw4 (by omega)
    clear hback
    go_wp2
    refine bodyPost_ret (v := .agg #[.slice ad ts.length cp]) ?_ rfl ⟨ad, cp, ts, rfl, b1, by omega, hT.wide (by omega) (by omega), hNil, b2⟩
    go_light
    simp [results, Try.results16, go_sem, r4]
end Go.Proofs.Ytiadabmbfpfbjaa

namespace Go.Proofs.Ytiadabmbfpfbjaa
open Go.RowKit

/-- An entry in a box. -/
structure EBx (b : Nat) (en : En) (W : World) : Prop where
  c0 : W.cell? ⟨b, 0, none⟩ = some (.string en.path)
  c1 : W.cell? ⟨b, 1, none⟩ = some (.string en.text)
  c2 : W.cell? ⟨b, 2, none⟩ = some (.bool en.runs)
  fz : ∀ j, W.frozen? ⟨b, j, none⟩ = false
theorem EBx.lt {b : Nat} {en : En} {W : World} (h : EBx b en W) : b < W.heap.size := World.block_lt_of_cell? W ⟨b, 0, none⟩ h.c0
theorem EBx.grown {b : Nat} {en : En} {W W' : World} {row : Option Nat} (h : EBx b en W) (hg : W.grownBy W' row) (hne : some b ≠ row) : EBx b en W' := by
  have k := hg.block b h.lt hne
  exact ⟨(World.cell?_of_block k).trans h.c0, (World.cell?_of_block k).trans h.c1, (World.cell?_of_block k).trans h.c2, fun j => fz_blk k (h.fz j)⟩
theorem EBx.later {b : Nat} {en : En} {W W' : World} (h : EBx b en W) (hb : Below W.heap.size W W') : EBx b en W' := h.grown (row := none) (gr_below hb) (by simp)
theorem EBx.path {b : Nat} {en : En} {W : World} (h : EBx b en W) (s : ByteArray) : EBx b ⟨s, en.text, en.runs⟩ (W.setCell ⟨b, 0, none⟩ (.string s)) :=
  ⟨World.cell?_setCell_same _ _ _ h.c0, (World.cell?_setCell_other _ _ _ _ (by simp)).trans h.c1, (World.cell?_setCell_other _ _ _ _ (by simp)).trans h.c2, fun j => (World.frozen?_setCell _ _ _ _).trans (h.fz j)⟩
theorem EBx.txt {b : Nat} {en : En} {W : World} (h : EBx b en W) (s : ByteArray) : EBx b ⟨en.path, s, en.runs⟩ (W.setCell ⟨b, 1, none⟩ (.string s)) :=
  ⟨(World.cell?_setCell_other _ _ _ _ (by simp)).trans h.c0, World.cell?_setCell_same _ _ _ h.c1, (World.cell?_setCell_other _ _ _ _ (by simp)).trans h.c2, fun j => (World.frozen?_setCell _ _ _ _).trans (h.fz j)⟩
theorem el_setJ {B g j : Nat} {w : World} {a : Option Addr} {ts : List En} {u : Value} (h : EL B w a ts) (hg : g < B) : EL B (w.setCell ⟨g, j, none⟩ u) a ts :=
  h.grown (row := some g) ⟨rfl, rfl, rfl, by simp, fun k _ hk => Below.heap_setCell _ _ _ _ (fun e => hk (by rw [e]))⟩ (fun k _ hk _ e => by cases e; omega)
theorem code_later {w w' : World} {a : Option Addr} {cap : Nat} {zs : List Int} (h : Code0 w a cap zs) (hb : Below w.heap.size w w') : Code0 w' a cap zs :=
  ⟨by
    rcases h.bytes with h0 | ⟨b, off, h1, h2, h3⟩
    · exact .inl h0
    · exact .inr ⟨b, off, h1, Nat.lt_of_lt_of_le h2 hb.size, fun i hi => cell_later hb (h3 i hi)⟩, h.len, h.cap, h.wf⟩
theorem el_drew {B : Nat} {w : World} {a : Option Addr} {ts : List En} (h : EL B w a ts) : EL B w.drew a ts := h.below (Below.refl _ _).drew
end Go.Proofs.Ytiadabmbfpfbjaa

namespace Go.Proofs.Ytiadabmbfpfbjaa
open Go.RowKit

theorem split_leD : ∀ (l : List UInt8) (x : List UInt8), x ∈ splitS l → x.length ≤ l.length
  | [], x, h => by simp [splitS] at h; subst h; simp
  | c :: cs, x, h => by
    have ih := split_leD cs
    rw [splitS] at h
    split at h
    · rcases List.mem_cons.1 h with h | h
      · subst h; simp
      · have := ih x h; simp; omega
    · cases hs : splitS cs with
      | nil => exact absurd hs (splitS_ne cs)
      | cons q qs =>
        rw [hs] at h ih
        rcases List.mem_cons.1 h with h | h
        · subst h
          have := ih q (by simp)
          simp; omega
        · have := ih x (by simp [h]); simp; omega
theorem part_leD (s x : ByteArray) (h : x ∈ partsB s) : x.size ≤ s.size := by
  unfold partsB at h
  obtain ⟨l, hl, rfl⟩ := List.mem_map.1 h
  have := split_leD _ _ hl
  rw [Lib.size_eq, Lib.size_eq, mkB_list]
  exact this

set_option maxRecDepth 100000 in
set_option maxHeartbeats 4000000 in
theorem l5Path_any (g : Nat) (a : Option Addr) (cap : Nat) (zs : List Int) (p : Nat) (ad : Option Addr) (cp : Nat) (ts : List En) (B : Nat) (w : World) (h : Rd w g a cap zs p) (hp : p ≤ 10000000) (hel : EL B w ad ts) (hB : g < B) (hT : Tiny 100 1600 ts) (hn : ts.length ≤ 103) :
    Calls Try.prog 33 #[.pointer (some ⟨g, 0, none⟩), .agg #[.slice ad ts.length cp]] w fun e w' => ∃ s : ByteArray, e = .returned (.string s) ∧ s.size ≤ 110 ∧ Dr g a cap zs w w' p 12 := by
  have hglt := h.lt
  have hal := below_oneD w (.cells #[.slice ad ts.length cp] 25)
  have c0 : (w.alloc (.cells #[.slice ad ts.length cp] 25)).cell? ⟨w.heap.size, 0, none⟩ = some (.slice ad ts.length cp) := by simp
  have hRa := h.below hal
  have hela := hel.below hal
  have hga : w.grownBy (w.alloc (.cells #[.slice ad ts.length cp] 25)) (some g) := gr_below hal
  by_cases h0 : ts = []
  · subst h0
    have hB0 : ((([] : List En).length : Int) == 0) = true := rfl
    go_enter Try.func33, Try.ntmps33
    go_wp2_with fail
    refine (path_any g a cap zs p _ hRa (by omega)).mono ?_
    rintro e w2 ⟨s, rfl, hs, ⟨p2, hp2, hR2⟩, hg2⟩
    go_wp2
    go_ret
    exact ⟨s, rfl, by omega, ⟨p2, by omega, hR2⟩, gr_trans hga hg2⟩
  have hpos : 0 < ts.length := List.length_pos_iff.2 h0
  have hBl : ((ts.length : Int) == 0) = false := by simp; exact h0
  go_enter Try.func33, Try.ntmps33
  go_wp2_with fail
  refine (pick_any g a cap zs p 4 _ hRa (by omega) (by omega) (by omega)).mono ?_
  rintro e w1 ⟨y, rfl, hy, hg1, hR1⟩
  have hne : some w.heap.size ≠ some g := by simp; omega
  have c1 := hg1.cell (a := ⟨w.heap.size, 0, none⟩) c0 hne
  have hel1 := hela.grown hg1 (fun k _ hk _ e => by cases e; omega)
  have hgw1 := gr_trans hga hg1
  clear hela hel hga hg1 hRa c0 hal h
  obtain ⟨tB, htB⟩ : ∃ tB, tB = w.heap.size := ⟨_, rfl⟩
  rw [← htB] at c1 hne ⊢
  clear htB
  by_cases hy0 : y = 0
  · have hB0 : ((y : Int) == 0) = true := by simp; omega
    clear hy0
    go_wp2_with fail
    refine (path_any g a cap zs (p + 1) _ hR1 (by omega)).mono ?_
    rintro e w2 ⟨s, rfl, hs, ⟨p2, hp2, hR2⟩, hg2⟩
    go_wp2
    go_ret
    exact ⟨s, rfl, by omega, ⟨p2, by omega, hR2⟩, gr_trans hgw1 hg2⟩
  have hBy : ((y : Int) == 0) = false := by simp; omega
  clear hy0
  obtain ⟨gb, rfl, hgb⟩ : ∃ gb, ad = some ⟨gb, 0, none⟩ ∧ B ≤ gb := by
    rcases hel1 with h1 | ⟨gb, h1, h2, _⟩
    · exact absurd h1 h0
    · exact ⟨gb, h1, h2⟩
  have hpk := pick_any g a cap zs (p + 1) ts.length w1.drew (hR1.below (w' := w1.drew) (Below.refl _ _).drew) (by omega) (by omega) (by omega)
  have hcells : ∀ W' k (hk : k < ts.length), w1.drew.grownBy W' (some g) → W'.cell? ⟨gb, k * 3, none⟩ = some (.string ts[k].path) := fun W' k hk hg => by
    rcases hel1 with h1 | ⟨gb', h1, h2, h3, h4, h5⟩
    · exact absurd h1 h0
    · cases h1
      exact hg.cell (a := ⟨gb, k * 3, none⟩) (h5 k hk).1 (by simp; omega)
  have hbox : ∀ W', w1.drew.grownBy W' (some g) → W'.cell? ⟨tB, 0, none⟩ = some (.slice (some ⟨gb, 0, none⟩) ts.length cp) := fun W' hg => hg.cell (a := ⟨tB, 0, none⟩) c1 hne
  go_upto_region 3 with fail
  go_cut [5] (fun v wx => ∃ s : ByteArray, v = .string s ∧ s.size ≤ 100 ∧ Rd wx g a cap zs (p + 1 + 1) ∧ w.grownBy wx (some g))
  case first =>
    go_region_with (go_at_call 17; refine hpk.mono ?_; rintro e w3 ⟨k, rfl, hk, hg3, hR3⟩; have hk' : (k : Int) < ts.length := (by omega); have ck := hcells w3 k hk hg3; have cb := hbox w3 hg3)
    all_goals
      go_wp2_with fail
      go_meet
      case rel => exact ⟨_, rfl, (hT _ (List.getElem_mem hk)).1, hR3, gr_trans hgw1 (gr_trans (gr_below (w' := w1.drew) (Below.refl _ _).drew) hg3)⟩
  case rest =>
    obtain ⟨s, rfl, hs, hR2, hg2⟩ := hcut
    clear hpk hcells hbox hel1 hR1 hgw1 c1
    have hc3 : ¬ 9223372036854775807 < s.size + 3 := by omega
    have hc1 : ¬ 9223372036854775807 < s.size + 1 := by omega
    go_wp2_with fail
    refine (pick_any g a cap zs (p + 1 + 1) 6 wc hR2 (by omega) (by omega) (by omega)).mono ?_
    rintro e w3 ⟨x, rfl, hx, hg3, hR3⟩
    have hgw := gr_trans hg2 hg3
    clear hg2 hg3 hR2
    by_cases q0 : x = 0
    · have hB0 : ((x : Int) == 0) = true := by simp; omega
      clear q0
      go_wp2
      go_ret
      exact ⟨_, rfl, by rw [ByteArray.size_append]; show s.size + 3 ≤ _; omega, ⟨_, by omega, hR3⟩, hgw⟩
    have hB0 : ((x : Int) == 0) = false := by simp; omega
    by_cases q1 : x = 1
    · have hB1 : ((x : Int) == 1) = true := by simp; omega
      clear q0 q1
      have hps := l4Parts_any s (by omega) w3
      go_wp2_with fail
      refine hps.mono ?_
      rintro e w4 ⟨ad4, cp4, rfl, hrow4, hb4⟩
      have hpl : 0 < (partsB s).length := List.length_pos_iff.2 (by unfold partsB; intro e; exact splitS_ne _ (by simpa using e))
      obtain ⟨g4, c4, hv4, _⟩ := hrow4.form hpl
      cases hv4
      have hc4 : w4.cell? ⟨g4, 0, none⟩ = some (.string ((partsB s)[0]'hpl)) := by
        rw [hrow4.cellAt 0 (by omega), List.getElem?_map, List.getElem?_eq_getElem hpl]
        rfl
      have hz4 : ((partsB s)[0]'hpl).size ≤ s.size := part_leD s _ (List.getElem_mem hpl)
      have hpl' : (0 : Int) < (partsB s).length := by omega
      generalize (partsB s)[0]'hpl = s0 at *
      generalize (partsB s).length = n4 at *
      clear hps hrow4
      go_wp2
      go_ret
      exact ⟨s0, rfl, by omega, ⟨_, by omega, hR3.below hb4⟩, gr_trans hgw (gr_below hb4)⟩
    have hB1 : ((x : Int) == 1) = false := by simp; omega
    by_cases q2 : x = 2
    · have hB2 : ((x : Int) == 2) = true := by simp; omega
      have hB3 : ((x : Int) == 3) = false := by simp; omega
      clear q0 q1 q2
      go_wp2
      go_loopw [7] (fun i wr => ∃ i' : Int, i = .int .i64 i' ∧ i' < s.size ∧ -1 ≤ i' ∧ w3 = wr) (fun i _ => (intOf i + 1).toNat)
      case atStart => exact ⟨(s.size : Int) - 1, by congr 1, by omega, by omega, rfl⟩
      case round =>
        obtain ⟨i, rfl, hi1, hi2, rfl⟩ := hrel
        by_cases hpos2 : 0 < i
        · obtain ⟨n, rfl⟩ : ∃ n : Nat, i = n := ⟨i.toNat, by omega⟩
          have hn1 : (n : Int) < s.size := by omega
          have hn2 : n < s.size := by omega
          have hn3 : (0 : Int) ≤ n := by omega
          have hn4 : (n : Int) ≤ s.size := by omega
          obtain ⟨cb, hcb⟩ : ∃ cb : Nat, s[n].toNat = cb := ⟨_, rfl⟩
          by_cases h47 : cb = 47
          · have hB47 : ((cb : Int) == 47) = true := by simp; omega
            clear h47
            go_wp2
            go_ret
            exact ⟨_, rfl, by rw [ByteArray.size_extract]; omega, ⟨_, by omega, hR3⟩, hgw⟩
          · have hB47 : ((cb : Int) == 47) = false := by simp; omega
            clear h47
            go_wp2
            go_roundw
            case rel => exact ⟨(n : Int) - 1, by congr 1, by omega, by omega, trivial⟩
            case measure => simp only [intOf]; omega
        · go_wp2
          go_ret
          exact ⟨s, rfl, by omega, ⟨_, by omega, hR3⟩, hgw⟩
    have hB2 : ((x : Int) == 2) = false := by simp; omega
    by_cases q3 : x = 3
    · have hB3 : ((x : Int) == 3) = true := by simp; omega
      clear q0 q1 q2 q3
      go_wp2
      go_ret
      exact ⟨_, rfl, by rw [ByteArray.size_append]; show s.size + 1 ≤ _; omega, ⟨_, by omega, hR3⟩, hgw⟩
    have hB3 : ((x : Int) == 3) = false := by simp; omega
    clear q0 q1 q2 q3
    go_wp2
    go_ret
    exact ⟨s, rfl, by omega, ⟨_, by omega, hR3⟩, hgw⟩
end Go.Proofs.Ytiadabmbfpfbjaa

namespace Go.Proofs.Ytiadabmbfpfbjaa
open Go.RowKit

/-- All that is held while a directory is drawn. -/
structure DUn (w : World) (g r2 tb : Nat) (a : Option Addr) (cap : Nat) (zs : List Int) (p : Nat) (ad : Option Addr) (cp : Nat) (ts : List En) (W : World) : Prop where
  rd : Rd W g a cap zs p
  bw : Below w.heap.size w W
  a0 : W.cell? ⟨r2, 0, none⟩ = some (.slice none 0 0)
  af : W.frozen? ⟨r2, 0, none⟩ = false
  tc : W.cell? ⟨tb, 0, none⟩ = some (.slice ad ts.length cp)
  el : EL (g + 1) W ad ts
  ord : w.heap.size ≤ r2 ∧ r2 < g ∧ g < tb
section
variable {w : World} {g r2 tb : Nat} {a : Option Addr} {cap : Nat} {zs : List Int} {p p' : Nat} {ad : Option Addr} {cp : Nat} {ts : List En} {W W' : World}
theorem DUn.l2 (h : DUn w g r2 tb a cap zs p ad cp ts W) : r2 < W.heap.size ∧ tb < W.heap.size :=
  ⟨World.block_lt_of_cell? W ⟨r2, 0, none⟩ h.a0, World.block_lt_of_cell? W ⟨tb, 0, none⟩ h.tc⟩
theorem DUn.step (h : DUn w g r2 tb a cap zs p ad cp ts W) (hg : W.grownBy W' (some g)) (hR : Rd W' g a cap zs p') : DUn w g r2 tb a cap zs p' ad cp ts W' := by
  have o := h.ord
  have k2 := hg.block r2 h.l2.1 (by simp; omega)
  have kt := hg.block tb h.l2.2 (by simp; omega)
  exact ⟨hR, h.bw.grown hg h.bw.size (fun j e => by cases e; omega), (World.cell?_of_block k2).trans h.a0, fz_blk k2 h.af, (World.cell?_of_block kt).trans h.tc, h.el.grown hg (fun k _ hk _ e => by cases e; omega), o⟩
theorem DUn.later (h : DUn w g r2 tb a cap zs p ad cp ts W) (hb : Below W.heap.size W W') : DUn w g r2 tb a cap zs p ad cp ts W' := h.step (gr_below hb) (h.rd.below hb)

def DrawnU (w : World) (e : Ending) (w' : World) : Prop :=
  ∃ ad cp ts, ∃ s : ByteArray, e = .returned (.tuple #[.agg #[.slice ad (List.length ts) cp], .string s]) ∧ EL w.heap.size w' ad ts ∧ ts.length ≤ 103 ∧ Tiny 100 1600 ts ∧ NilOk ad cp ∧ s.size ≤ 100000 ∧ Below w.heap.size w w'
theorem DUn.back (h : DUn w g r2 tb a cap zs p ad cp ts W) (hn : ts.length ≤ 103) (hT : Tiny 100 1600 ts) (hN : NilOk ad cp) {s : ByteArray} (hs : s.size ≤ 100000) {e : Ending} (he : e = .returned (.tuple #[.agg #[.slice ad ts.length cp], .string s])) : DrawnU w e (W.setCell ⟨r2, 0, none⟩ (.slice ad ts.length cp)) := by
  have o := h.ord
  have hg : W.grownBy (W.setCell ⟨r2, 0, none⟩ (.slice ad ts.length cp)) (some r2) := grown_set W r2 0 _
  exact ⟨ad, cp, ts, s, he, (h.el.grown hg (fun k _ hk _ e => by cases e; omega)).mono (by omega), hn, hT, hN, hs, h.bw.setCell (p := ⟨r2, 0, none⟩) o.1 _⟩
/-- Parts that are read while a reader turns. -/
structure PRu (g g4 : Nat) (ps : List ByteArray) (W : World) : Prop where
  cell : ∀ k (hk : k < ps.length), W.cell? ⟨g4, k, none⟩ = some (.string ps[k])
  ne : g4 ≠ g
theorem PRu.step {g4 : Nat} {ps : List ByteArray} (h : PRu g g4 ps W) (hg : W.grownBy W' (some g)) : PRu g g4 ps W' :=
  ⟨fun k hk => hg.cell (a := ⟨g4, k, none⟩) (h.cell k hk) (by have := h.ne; simpa using this), h.ne⟩
end

set_option maxRecDepth 100000 in
set_option maxHeartbeats 8000000 in
theorem drawUnder_any (a : Option Addr) (cap : Nat) (zs : List Int) (w : World) (h : Code0 w a cap zs) :
    Calls Try.prog 15 #[.slice a zs.length cap] w (DrawnU w) := by
  have hal : Below w.heap.size w (w.alloc (.cells #[.slice none 0 0] 25)) := below_oneD _ _
  have a0 : (w.alloc (.cells #[.slice none 0 0] 25)).cell? ⟨w.heap.size, 0, none⟩ = some (.slice none 0 0) := by simp
  have af0 : (w.alloc (.cells #[.slice none 0 0] 25)).frozen? ⟨w.heap.size, 0, none⟩ = false := by simp
  have hsz : (w.alloc (.cells #[.slice none 0 0] 25)).heap.size = w.heap.size + 1 := by simp
  have hop := open_any a cap zs _ (code_later h hal)
  go_enter Try.func15, Try.ntmps15
  go_wp2_with fail
  refine hop.mono ?_
  rintro e w1 ⟨rfl, hb1, hs1, zs', hR1⟩
  have a1 := cell_later hb1 a0
  have af1 : w1.frozen? ⟨w.heap.size, 0, none⟩ = false := (hb1.frozen (p := ⟨w.heap.size, 0, none⟩) (by rw [hsz]; show w.heap.size < _; omega)).trans af0
  have hbw1 : Below w.heap.size w w1 := hal.trans (hb1.mono (by rw [hsz]; omega))
  rw [hsz] at hR1 hs1
  rw [hsz]
  obtain ⟨g, hg⟩ : ∃ g, g = w.heap.size + 1 := ⟨_, rfl⟩
  obtain ⟨r2, hr2⟩ : ∃ r2, r2 = w.heap.size := ⟨_, rfl⟩
  rw [← hg] at hR1 ⊢
  rw [← hr2] at a1 af1 ⊢
  have HO : Keep (r2 = w.heap.size ∧ g = w.heap.size + 1 ∧ w1.heap.size = w.heap.size + 2) := ⟨by omega⟩
  clear hop hal a0 af0 hsz hb1 hs1 hg hr2
  have hany := l5Any_any g a cap zs' 0 w1 hR1 (by omega)
  go_wp2_with fail
  refine hany.mono ?_
  rintro e w2 ⟨ad, cp, ts, rfl, hel, hn, hT, hNil, ⟨p2, hp2, hR2⟩, hg2⟩
  clear hany
  have hD : DUn w g r2 w2.heap.size a cap zs' p2 ad cp ts (w2.alloc (.cells #[.slice ad ts.length cp] 25)) := by
    have ho := HO.out
    have hba := below_oneD w2 (.cells #[.slice ad ts.length cp] 25)
    have hs2 := hg2.size
    have k2 := hg2.block r2 (by omega) (by simp; omega)
    have x2 : w2.cell? ⟨r2, 0, none⟩ = some (.slice none 0 0) := (World.cell?_of_block k2).trans a1
    have f2 := fz_blk k2 af1
    have hbw2 : Below w.heap.size w w2 := hbw1.grown hg2 hbw1.size (fun j e => by cases e; omega)
    have hbw3 := hbw2.trans (hba.mono hbw2.size)
    exact ⟨hR2.below hba, hbw3, cell_later hba x2, (hba.frozen (p := ⟨r2, 0, none⟩) (by show r2 < _; omega)).trans f2, by simp, (hel.mono (by omega)).below hba, by omega⟩
  have HT : Keep (Tiny 100 1600 ts ∧ NilOk ad cp) := ⟨⟨hT, hNil⟩⟩
  clear hel hR2 hg2 hbw1 a1 af1 hR1 hNil hT
  go_upto_region 3 with fail
  generalize w2.alloc (.cells #[.slice ad ts.length cp] 25) = W3 at *
  generalize w2.heap.size = tb at *
  go_cut [21] (fun v wx => ∃ (b : Bool) (px : Nat), v = .bool b ∧ Keep (b = true → ts ≠ []) ∧ px ≤ 230 ∧ DUn w g r2 tb a cap zs' px ad cp ts wx)
  case first =>
    have t0 := hD.tc
    by_cases h0 : ts = []
    · have hl0 : ¬ (0 : Int) < ts.length := by rw [h0]; simp
      clear h0
      go_wp2_with fail
      go_meet
      case rel => exact ⟨false, p2, rfl, ⟨fun h => by cases h⟩, by omega, hD⟩
    · have hl0 : (0 : Int) < ts.length := by have := List.length_pos_iff.2 h0; omega
      have HN0 : Keep (ts ≠ []) := ⟨h0⟩
      clear h0
      go_wp2_with fail
      refine (pick_any g a cap zs' p2 3 W3 hD.rd (by omega) (by omega) (by omega)).mono ?_
      rintro e w4 ⟨x, rfl, hx, hg4, hR4⟩
      have hD4 := hD.step hg4 hR4
      clear hD hg4 hR4 t0
      go_wp2_with fail
      go_meet
      case rel => exact ⟨_, p2 + 1, rfl, ⟨fun _ => HN0.out⟩, by omega, hD4⟩
  case rest =>
    clear hD
    obtain ⟨b, px, rfl, HB, hpx, hD⟩ := hcut
    cases b with
    | true =>
      have hne := HB.out rfl
      clear HB
      have hlen : 0 < ts.length := List.length_pos_iff.2 hne
      obtain ⟨gb, rfl, hgb⟩ : ∃ gb, ad = some ⟨gb, 0, none⟩ ∧ g + 1 ≤ gb := by
        rcases hD.el with h1 | ⟨gb, h1, h2, _⟩
        · exact absurd h1 hne
        · exact ⟨gb, h1, h2⟩
      have hD0 : DUn w g r2 tb a cap zs' px (some ⟨gb, 0, none⟩) cp ts wc.drew := hD.later (W' := wc.drew) (Below.refl _ _).drew
      have HD0 : Keep (DUn w g r2 tb a cap zs' px (some ⟨gb, 0, none⟩) cp ts wc.drew) := ⟨hD0⟩
      have hpk := pick_any g a cap zs' px ts.length wc.drew hD0.rd (by omega) (by omega) (by omega)
      have hcells : ∀ (W' : World) (k : Nat) (hk : k < ts.length), wc.drew.grownBy W' (some g) → W'.cell? ⟨gb, k * 3, none⟩ = some (.string ts[k].path) := fun W' k hk hg => by
        rcases HD0.out.el with h1 | ⟨gb', h1, h2, h3, h4, h5⟩
        · exact absurd h1 hne
        · cases h1
          exact hg.cell (a := ⟨gb, k * 3, none⟩) (h5 k hk).1 (by simp; omega)
      have t0 := hD.tc
      have hbox : ∀ W', wc.drew.grownBy W' (some g) → W'.cell? ⟨tb, 0, none⟩ = some (.slice (some ⟨gb, 0, none⟩) ts.length cp) := fun W' hg => hg.cell (a := ⟨tb, 0, none⟩) HD0.out.tc (by have := HD0.out.ord; simp; omega)
      have hpts : ∀ (k : Nat) (hk : k < ts.length) (W : World), Calls Try.prog 32 #[.string ts[k].path] W fun e w' => ∃ (g4 cp4 : Nat) (ps : List ByteArray), e = .returned (.slice (some ⟨g4, 0, none⟩) ps.length cp4) ∧ (0 < ps.length ∧ ps.length ≤ 101 ∧ ∀ y ∈ ps, y.size ≤ 100) ∧ W.heap.size ≤ g4 ∧ (∀ i (hi : i < ps.length), w'.cell? ⟨g4, i, none⟩ = some (.string ps[i])) ∧ Below W.heap.size W w' := fun k hk W => by
        have hkT := (HT.out.1 _ (List.getElem_mem hk)).1
        generalize ts[k].path = s at *
        refine (l4Parts_any s (by omega) W).mono ?_
        rintro e w' ⟨ad4, cp4, rfl, hrow4, hb4⟩
        have hpl : 0 < (partsB s).length := List.length_pos_iff.2 (by unfold partsB; intro e; exact splitS_ne _ (by simpa using e))
        obtain ⟨g4, c4, hv4, hlo4, _⟩ := hrow4.form hpl
        cases hv4
        refine ⟨g4, cp4, partsB s, rfl, ⟨hpl, ?_, fun y hy => Nat.le_trans (parts_size hy) hkT⟩, hlo4, fun i hi => ?_, hb4⟩
        · have := splitS_le s.data.toList
          unfold partsB
          rw [List.length_map]
          have hl : s.data.toList.length = s.size := (Lib.size_eq s).symm
          omega
        · rw [hrow4.cellAt i (by simpa using hi), List.getElem?_map, List.getElem?_eq_getElem hi]
          rfl
      clear hD hD0
      go_upto_region 4 with fail
      go_cut [6] (fun v wx => ∃ (g4 cp4 : Nat) (ps : List ByteArray), v = .slice (some ⟨g4, 0, none⟩) ps.length cp4 ∧ 0 < ps.length ∧ ps.length ≤ 101 ∧ Keep (∀ y ∈ ps, y.size ≤ 100) ∧ DUn w g r2 tb a cap zs' (px + 1) (some ⟨gb, 0, none⟩) cp ts wx ∧ PRu g g4 ps wx)
      case first =>
        go_region_with (first
          | (go_at_call 17; refine hpk.mono ?_; rintro e w3 ⟨k, rfl, hk, hg3, hR3⟩; have hk' : (k : Int) < ts.length := (by omega); have ck := hcells w3 k hk hg3; have cb := hbox w3 hg3; have hps := hpts k hk w3)
          | (go_at_call 32; refine hps.mono ?_; rintro e w5 ⟨g4, cp4, ps, rfl, ⟨hp1, hp2', hp3⟩, hg4, hc4, hb4⟩))
        all_goals
          have hD5 := (HD0.out.step hg3 hR3).later hb4
          have hne4 : g4 ≠ g := by have := (HD0.out.step hg3 hR3).l2.2; have := HD0.out.ord; omega
          go_wp2_with fail
          go_meet
          case rel => exact ⟨g4, cp4, ps, rfl, hp1, hp2', ⟨hp3⟩, hD5, hc4, hne4⟩
      case rest =>
        clear hpk hcells t0 hbox hpts HD0
        obtain ⟨g4, cp4, ps, rfl, hp1, hp2', HPS, hD, hP⟩ := hcut
        have c0 := hP.cell 0 hp1
        have hs0 := HPS.out _ (List.getElem_mem hp1)
        have hp1' : (0 : Int) < ps.length := by omega
        go_wp2
        go_loopw [7, 8] (fun dv iv wr => ∃ (o : ByteArray) (i q : Nat), dv = .string o ∧ iv = .int .i64 i ∧ 1 ≤ i ∧ i ≤ ps.length ∧ o.size ≤ 101 * i ∧ q ≤ px + 1 + i ∧ DUn w g r2 tb a cap zs' q (some ⟨gb, 0, none⟩) cp ts wr ∧ PRu g g4 ps wr) (fun _ i _ => ps.length - (intOf i).toNat)
        case atStart => exact ⟨_, 1, px + 1, rfl, rfl, Nat.le_refl _, hp1, by omega, by omega, hD, hP⟩
        case round =>
          clear c0 hs0 hD hP
          obtain ⟨o, i, q, rfl, rfl, hi1, hi2, ho, hq, hD, hP⟩ := hrel
          by_cases hlt : i + 1 < ps.length
          · have hlt' : (i : Int) < (ps.length : Int) - 1 := by omega
            go_wp2_with fail
            refine (pick_any g a cap zs' q 2 wr hD.rd (by omega) (by omega) (by omega)).mono ?_
            rintro e w4 ⟨z, rfl, hz, hg4, hR4⟩
            have hD4 := hD.step hg4 hR4
            have hP4 := hP.step hg4
            clear hD hP hg4 hR4
            by_cases z0 : z = 0
            · have hBz : ((z : Int) == 0) = true := by simp; omega
              clear z0
              have hi3 : i < ps.length := by omega
              have hi3' : (i : Int) < ps.length := by omega
              have ci := hP4.cell i hi3
              have hsi := HPS.out _ (List.getElem_mem hi3)
              generalize ps[i] = y at *
              have u1 : ¬ 9223372036854775807 < o.size + 1 := by omega
              have u2 : ¬ 9223372036854775807 < (o ++ ⟨#[47]⟩).size + y.size := by rw [ByteArray.size_append]; show ¬ _ < o.size + 1 + _; omega
              go_wp2
              go_roundw
              case rel => exact ⟨o ++ ⟨#[47]⟩ ++ y, i + 1, q + 1, rfl, by congr 1, by omega, by omega, by rw [ByteArray.size_append, ByteArray.size_append]; show o.size + 1 + _ ≤ _; omega, by omega, hD4, hP4⟩
              case measure => simp only [intOf]; omega
            · have hBz : ((z : Int) == 0) = false := by simp; omega
              clear z0
              have t4 := hD4.tc
              have r4 := hD4.a0
              have f4 := hD4.af
              have hfin := hD4.back hn HT.out.1 HT.out.2 (s := o) (by omega) rfl
              clear hD4 hP4
              go_wp2
              refine bodyPost_ret (v := .tuple #[.agg #[.slice (some ⟨gb, 0, none⟩) ts.length cp], .string o]) ?_ rfl hfin
              go_light
              simp [results, Try.results15, go_sem, r4]
          · have hlt' : ¬ (i : Int) < (ps.length : Int) - 1 := by omega
            have t4 := hD.tc
            have r4 := hD.a0
            have f4 := hD.af
            have hfin := hD.back hn HT.out.1 HT.out.2 (s := o) (by omega) rfl
            clear hD hP
            go_wp2
            refine bodyPost_ret (v := .tuple #[.agg #[.slice (some ⟨gb, 0, none⟩) ts.length cp], .string o]) ?_ rfl hfin
            go_light
            simp [results, Try.results15, go_sem, r4]
    | false =>
      clear HB
      go_wp2_with fail
      refine (pick_any g a cap zs' px 8 wc hD.rd (by omega) (by omega) (by omega)).mono ?_
      rintro e w4 ⟨y, rfl, hy, hg4, hR4⟩
      have hD4 := hD.step hg4 hR4
      clear hD hg4 hR4
      by_cases y0 : y = 0
      · have hB : ((y : Int) == 0) = true := by simp; omega
        clear y0
        have t4 := hD4.tc
        have r4 := hD4.a0
        have f4 := hD4.af
        have hfin := hD4.back hn HT.out.1 HT.out.2 (s := ⟨#[]⟩) (by show 0 ≤ _; omega) rfl
        clear hD4
        go_wp2
        refine bodyPost_ret (v := .tuple #[.agg #[.slice ad ts.length cp], .string ⟨#[]⟩]) ?_ rfl hfin
        go_light
        simp [results, Try.results15, go_sem, r4]
      · have hB : ((y : Int) == 0) = false := by simp; omega
        clear y0
        have hD0 : DUn w g r2 tb a cap zs' (px + 1) ad cp ts w4.drew := hD4.later (W' := w4.drew) (Below.refl _ _).drew
        have t6 := hD0.tc
        have hlp := l5Path_any g a cap zs' (px + 1) ad cp ts (g + 1) w4.drew hD0.rd (by omega) hD0.el (Nat.lt_succ_self _) HT.out.1 hn
        have hkt : ∀ W : World, W.cell? ⟨tb, 0, none⟩ = some (.slice ad ts.length cp) → (W.setCell ⟨r2, 0, none⟩ (.slice ad ts.length cp)).cell? ⟨tb, 0, none⟩ = some (.slice ad ts.length cp) := fun W hW => (World.cell?_setCell_other _ _ _ _ (by have := hD4.ord; simp <;> omega)).trans hW
        clear hD4
        go_upto_region 13 with fail
        go_region_held3 (fun w' => w'.cell? ⟨tb, 0, none⟩ = some (.slice ad ts.length cp)) (first | go_keep | (exact t7) | (exact t8))
          (first | (go_at_call 33; refine hlp.mono ?_; rintro e w7 ⟨s, rfl, hs, ⟨p7, hp7, hR7⟩, hg7⟩; have hD7 := hD0.step hg7 hR7; have t7 := hD7.tc; have r7 := hD7.a0; have rf7 := hD7.af; have t8 := hkt w7 t7))
        have hfin := hD7.back hn HT.out.1 HT.out.2 (s := s) (by omega) rfl
        go_wp2
        refine bodyPost_ret (v := .tuple #[.agg #[.slice ad ts.length cp], .string s]) ?_ rfl hfin
        go_light
        simp [results, Try.results15, go_sem, r7]
end Go.Proofs.Ytiadabmbfpfbjaa

namespace Go.Proofs.Ytiadabmbfpfbjaa
open Go.RowKit

/-- Two trees in boxes, beside a reader and two boxes for what is handed back. -/
structure DMn (w : World) (g r2 r4 tb tc : Nat) (a : Option Addr) (cap : Nat) (zs : List Int) (p : Nat) (ad : Option Addr) (cp : Nat) (ts : List En) (ad2 : Option Addr) (cp2 : Nat) (us : List En) (W : World) : Prop where
  rd : Rd W g a cap zs p
  bw : Below w.heap.size w W
  a2 : W.cell? ⟨r2, 0, none⟩ = some (.slice none 0 0)
  f2 : W.frozen? ⟨r2, 0, none⟩ = false
  a4 : W.cell? ⟨r4, 0, none⟩ = some (.slice none 0 0)
  f4 : W.frozen? ⟨r4, 0, none⟩ = false
  t1 : W.cell? ⟨tb, 0, none⟩ = some (.slice ad ts.length cp)
  t2 : W.cell? ⟨tc, 0, none⟩ = some (.slice ad2 us.length cp2)
  e1 : EL (g + 1) W ad ts
  e2 : EL (g + 1) W ad2 us
  ord : w.heap.size ≤ r2 ∧ r2 < r4 ∧ r4 < g ∧ g < tb ∧ tb < tc
theorem DMn.step {w : World} {g r2 r4 tb tc : Nat} {a : Option Addr} {cap : Nat} {zs : List Int} {p p' : Nat} {ad : Option Addr} {cp : Nat} {ts : List En} {ad2 : Option Addr} {cp2 : Nat} {us : List En} {W W' : World} (h : DMn w g r2 r4 tb tc a cap zs p ad cp ts ad2 cp2 us W) (hg : W.grownBy W' (some g)) (hR : Rd W' g a cap zs p') : DMn w g r2 r4 tb tc a cap zs p' ad cp ts ad2 cp2 us W' := by
  have o := h.ord
  have k2 := hg.block r2 (World.block_lt_of_cell? W ⟨r2, 0, none⟩ h.a2) (by simp; omega)
  have k4 := hg.block r4 (World.block_lt_of_cell? W ⟨r4, 0, none⟩ h.a4) (by simp; omega)
  have kb := hg.block tb (World.block_lt_of_cell? W ⟨tb, 0, none⟩ h.t1) (by simp; omega)
  have kc := hg.block tc (World.block_lt_of_cell? W ⟨tc, 0, none⟩ h.t2) (by simp; omega)
  exact ⟨hR, h.bw.grown hg h.bw.size (fun j e => by cases e; omega), (World.cell?_of_block k2).trans h.a2, fz_blk k2 h.f2, (World.cell?_of_block k4).trans h.a4, fz_blk k4 h.f4, (World.cell?_of_block kb).trans h.t1, (World.cell?_of_block kc).trans h.t2, h.e1.grown hg (fun k _ hk _ e => by cases e; omega), h.e2.grown hg (fun k _ hk _ e => by cases e; omega), o⟩

def DrawnN (w : World) (e : Ending) (w' : World) : Prop :=
  ∃ ad cp ts, ∃ s : ByteArray, ∃ ad2 cp2 us, e = .returned (.tuple #[.agg #[.slice ad (List.length ts) cp], .string s, .agg #[.slice ad2 (List.length us) cp2]]) ∧ ES w' ad ts ∧ ES w' ad2 us ∧ ts.length ≤ 103 ∧ us.length ≤ 103 ∧ Tiny 100 1600 ts ∧ Tiny 100 1600 us ∧ NilOk ad cp ∧ NilOk ad2 cp2 ∧ s.size ≤ 100014 ∧ Below w.heap.size w w'

set_option maxRecDepth 100000 in
set_option maxHeartbeats 8000000 in
theorem drawMount_any (a : Option Addr) (cap : Nat) (zs : List Int) (w : World) (h : Code0 w a cap zs) :
    Calls Try.prog 4 #[.slice a zs.length cap] w (DrawnN w) := by
  have hal : Below w.heap.size w ((w.alloc (.cells #[.slice none 0 0] 25)).alloc (.cells #[.slice none 0 0] 25)) := ((Below.refl _ _).alloc (Nat.le_refl _) _).alloc (by simp) _
  have a0 : ((w.alloc (.cells #[.slice none 0 0] 25)).alloc (.cells #[.slice none 0 0] 25)).cell? ⟨w.heap.size, 0, none⟩ = some (.slice none 0 0) := by simp [go_sem]
  have af0 : ((w.alloc (.cells #[.slice none 0 0] 25)).alloc (.cells #[.slice none 0 0] 25)).frozen? ⟨w.heap.size, 0, none⟩ = false := by simp [go_sem]
  have b0 : ((w.alloc (.cells #[.slice none 0 0] 25)).alloc (.cells #[.slice none 0 0] 25)).cell? ⟨w.heap.size + 1, 0, none⟩ = some (.slice none 0 0) := by simp [go_sem]
  have bf0 : ((w.alloc (.cells #[.slice none 0 0] 25)).alloc (.cells #[.slice none 0 0] 25)).frozen? ⟨w.heap.size + 1, 0, none⟩ = false := by simp [go_sem]
  have hsz : ((w.alloc (.cells #[.slice none 0 0] 25)).alloc (.cells #[.slice none 0 0] 25)).heap.size = w.heap.size + 1 + 1 := by simp
  have hop := open_any a cap zs _ (code_later h hal)
  go_enter Try.func4, Try.ntmps4
  go_wp2_with fail
  refine hop.mono ?_
  rintro e w1 ⟨rfl, hb1, hs1, zs', hR1⟩
  have a1 := cell_later hb1 a0
  have b1 := cell_later hb1 b0
  have af1 : w1.frozen? ⟨w.heap.size, 0, none⟩ = false := (hb1.frozen (p := ⟨w.heap.size, 0, none⟩) (by rw [hsz]; show w.heap.size < _; omega)).trans af0
  have bf1 : w1.frozen? ⟨w.heap.size + 1, 0, none⟩ = false := (hb1.frozen (p := ⟨w.heap.size + 1, 0, none⟩) (by rw [hsz]; show w.heap.size + 1 < _; omega)).trans bf0
  have hbw1 : Below w.heap.size w w1 := hal.trans (hb1.mono hal.size)
  have hdu := drawUnder_any a cap zs w1 (code_later h hbw1)
  rw [hsz] at hR1 hs1
  rw [hsz]
  obtain ⟨g, hg⟩ : ∃ g, g = w.heap.size + 1 + 1 := ⟨_, rfl⟩
  obtain ⟨r4, hr4⟩ : ∃ r4, r4 = w.heap.size + 1 := ⟨_, rfl⟩
  obtain ⟨r2, hr2⟩ : ∃ r2, r2 = w.heap.size := ⟨_, rfl⟩
  rw [← hg] at hR1 ⊢
  rw [← hr4] at b1 bf1 ⊢
  rw [← hr2] at a1 af1 ⊢
  have HO : Keep (r2 = w.heap.size ∧ r4 = w.heap.size + 1 ∧ g = w.heap.size + 2 ∧ w1.heap.size = w.heap.size + 3) := ⟨by omega⟩
  clear hop hal a0 af0 b0 bf0 hsz hb1 hs1 hg hr2 hr4
  go_wp2_with fail
  refine hdu.mono ?_
  rintro e w2 ⟨ad, cp, ts, s, rfl, hel, hn, hT, hNil, hs, hb2⟩
  clear hdu
  have hba := below_oneD w2 (.cells #[.slice ad ts.length cp] 25)
  have hb3 := hb2.trans (hba.mono hb2.size)
  have hany := l5Any_any g a cap zs' 0 _ (hR1.below hb3) (by omega)
  go_wp2_with fail
  refine hany.mono ?_
  rintro e w4 ⟨ad2, cp2, us, rfl, hel2, hn2, hT2, hNil2, ⟨p4, hp4, hR4⟩, hg4⟩
  have hD : DMn w g r2 r4 w2.heap.size w4.heap.size a cap zs' p4 ad cp ts ad2 cp2 us (w4.alloc (.cells #[.slice ad2 us.length cp2] 25)) := by
    have ho := HO.out
    have hbb := below_oneD w4 (.cells #[.slice ad2 us.length cp2] 25)
    have hs3 := hb2.size
    have hs4 := hg4.size
    have hz3 : (w2.alloc (.cells #[.slice ad ts.length cp] 25)).heap.size = w2.heap.size + 1 := by simp
    rw [hz3] at hs4
    have k2 := hg4.block r2 (by rw [hz3]; omega) (by simp; omega)
    have k4 := hg4.block r4 (by rw [hz3]; omega) (by simp; omega)
    have kb := hg4.block w2.heap.size (by rw [hz3]; omega) (by simp; omega)
    have x2 : w4.cell? ⟨r2, 0, none⟩ = some (.slice none 0 0) := (World.cell?_of_block k2).trans (cell_later hb3 a1)
    have x4 : w4.cell? ⟨r4, 0, none⟩ = some (.slice none 0 0) := (World.cell?_of_block k4).trans (cell_later hb3 b1)
    have xb : w4.cell? ⟨w2.heap.size, 0, none⟩ = some (.slice ad ts.length cp) := (World.cell?_of_block kb).trans (by simp)
    have y2 := fz_blk k2 ((hb3.frozen (p := ⟨r2, 0, none⟩) (by show r2 < _; omega)).trans af1)
    have y4 := fz_blk k4 ((hb3.frozen (p := ⟨r4, 0, none⟩) (by show r4 < _; omega)).trans bf1)
    have hbw3 : Below w.heap.size w (w2.alloc (.cells #[.slice ad ts.length cp] 25)) := hbw1.trans (hb3.mono hbw1.size)
    have hbw4 : Below w.heap.size w w4 := hbw3.grown hg4 hbw3.size (fun j e => by cases e; omega)
    have hbw5 := hbw4.trans (hbb.mono hbw4.size)
    refine ⟨hR4.below hbb, hbw5, cell_later hbb x2, (hbb.frozen (p := ⟨r2, 0, none⟩) (by show r2 < _; omega)).trans y2, cell_later hbb x4, (hbb.frozen (p := ⟨r4, 0, none⟩) (by show r4 < _; omega)).trans y4, cell_later hbb xb, by simp, ?_, (hel2.mono (by rw [hz3]; omega)).below hbb, by omega⟩
    exact ((((hel.mono (B' := g + 1) (by omega)).below hba).grown hg4 (fun k _ hk _ e => by cases e; omega))).below hbb
  have HK : Keep (Tiny 100 1600 ts ∧ Tiny 100 1600 us ∧ NilOk ad cp ∧ NilOk ad2 cp2) := ⟨⟨hT, hT2, hNil, hNil2⟩⟩
  clear hany hel hel2 hR4 hg4 hb3 hba hb2 a1 b1 af1 bf1 hbw1 hR1 hT hT2 hNil hNil2
  go_wp2_with fail
  generalize w4.alloc (.cells #[.slice ad2 us.length cp2] 25) = W5 at *
  generalize w4.heap.size = tc at *
  generalize w2.heap.size = tb at *
  refine (pick_any g a cap zs' p4 6 W5 hD.rd (by omega) (by omega) (by omega)).mono ?_
  rintro e w6 ⟨x, rfl, hx, hg6, hR6⟩
  have hD6 := hD.step hg6 hR6
  clear hD hg6 hR6
  go_upto_if 20 with fail
  go_cut [7] (fun v wx => ∃ d : ByteArray, v = .string d ∧ d.size ≤ 100014 ∧ wx = w6)
  case first =>
    by_cases x0 : x = 0
    · have hB : ((x : Int) == 0) = true := by simp; omega
      have u1 : ¬ 9223372036854775807 < s.size + 14 := by omega
      clear x0
      go_wp2_with fail
      go_meet
      case rel => exact ⟨_, rfl, by rw [ByteArray.size_append]; show s.size + 14 ≤ _; omega, rfl⟩
    · have hB : ((x : Int) == 0) = false := by simp; omega
      clear x0
      go_wp2_with fail
      go_meet
      case rel => exact ⟨s, rfl, by omega, rfl⟩
  case rest =>
    obtain ⟨d, rfl, hd, rfl⟩ := hcut
    have o := hD6.ord
    have c2 := hD6.a2
    have c4 := hD6.a4
    have d2 := hD6.f2
    have d4 := hD6.f4
    have c6 := hD6.t1
    have c8 := hD6.t2
    have el1 := hD6.e1
    have el2 := hD6.e2
    have bw := hD6.bw
    have n1 : ¬ r2 = r4 := by omega
    have n2 : ¬ r4 = r2 := by omega
    have n3 : ¬ r2 = tb := by omega
    have n4 : ¬ tb = r2 := by omega
    have n5 : ¬ r4 = tb := by omega
    have n6 : ¬ tb = r4 := by omega
    have n7 : ¬ r2 = tc := by omega
    have n8 : ¬ tc = r2 := by omega
    have n9 : ¬ r4 = tc := by omega
    have n10 : ¬ tc = r4 := by omega
    have HOR : Keep (w.heap.size ≤ r2 ∧ w.heap.size ≤ r4 ∧ r2 < g + 1 ∧ r4 < g + 1) := ⟨by omega⟩
    clear hD6 o
    go_upto_region 6 with fail
    go_region
    all_goals (try go_wp2)
    all_goals
      refine bodyPost_ret (v := .tuple #[.agg #[.slice ad ts.length cp], .string d, .agg #[.slice ad2 us.length cp2]]) ?_ rfl ⟨ad, cp, ts, d, ad2, cp2, us, rfl, ?_, ?_, hn, hn2, HK.out.1, HK.out.2.1, HK.out.2.2.1, HK.out.2.2.2, hd, ?_⟩
      · go_light
        simp [results, Try.results4, go_sem, c2, c4]
      · refine EL.es (B := g + 1) ?_
        repeat (first | ((with_reducible refine el_setJ ?_ ?hq); (case hq => have := HOR.out; omega)) | (with_reducible refine el_drew ?_))
        exact el1
      · refine EL.es (B := g + 1) ?_
        repeat (first | ((with_reducible refine el_setJ ?_ ?hq); (case hq => have := HOR.out; omega)) | (with_reducible refine el_drew ?_))
        exact el2
      · repeat (first | ((with_reducible refine Below.setCell ?_ ?hq _); (case hq => have := HOR.out; first | exact this.1 | exact this.2.1)) | (with_reducible refine Below.drew ?_))
        exact bw
end Go.Proofs.Ytiadabmbfpfbjaa

namespace Go.Proofs.Ytiadabmbfpfbjaa
open Go.RowKit

/-- A tree in a box. -/
structure TBx (b : Nat) (ad : Option Addr) (cp : Nat) (ts : List En) (W : World) : Prop where
  c : W.cell? ⟨b, 0, none⟩ = some (.slice ad ts.length cp)
  es : ES W ad ts
theorem TBx.later {b : Nat} {ad : Option Addr} {cp : Nat} {ts : List En} {W W' : World} (h : TBx b ad cp ts W) (hb : Below W.heap.size W W') : TBx b ad cp ts W' := ⟨cell_later hb h.c, h.es.below hb⟩
theorem TBx.new {ad : Option Addr} {cp : Nat} {ts : List En} {W : World} (h : ES W ad ts) : TBx W.heap.size ad cp ts (W.alloc (.cells #[.slice ad ts.length cp] 25)) := ⟨by simp, h.below (below_oneD _ _)⟩

set_option maxRecDepth 20000 in
set_option maxHeartbeats 2000000 in
theorem wTree_any (a b : Option Addr) (ca cb : Nat) (ts : List En) (w : World) (ha : ES w a ts) (hb : ES w b ts) (hn : ts.length ≤ 1048576) :
    Calls Try.prog 7 #[.agg #[.slice a ts.length ca], .agg #[.slice b ts.length cb]] w fun e w' => e = .returned (.bool true) ∧ Below w.heap.size w w' := by
  have hal : Below w.heap.size w ((w.alloc (.cells #[.slice a ts.length ca] 25)).alloc (.cells #[.slice b ts.length cb] 25)) := ((Below.refl _ _).alloc (Nat.le_refl _) _).alloc (by simp) _
  have m0 : ((w.alloc (.cells #[.slice a ts.length ca] 25)).alloc (.cells #[.slice b ts.length cb] 25)).cell? ⟨w.heap.size, 0, none⟩ = some (.slice a ts.length ca) := by simp [go_sem]
  have n0 : ((w.alloc (.cells #[.slice a ts.length ca] 25)).alloc (.cells #[.slice b ts.length cb] 25)).cell? ⟨w.heap.size + 1, 0, none⟩ = some (.slice b ts.length cb) := by simp [go_sem]
  go_enter Try.func7, Try.ntmps7
  go_wp2
  generalize (w.alloc (.cells #[.slice a ts.length ca] 25)).alloc (.cells #[.slice b ts.length cb] 25) = W0 at *
  go_loopw [5] (fun i wr => ∃ k : Nat, i = .int .i64 k ∧ k ≤ ts.length ∧ Below W0.heap.size W0 wr) (fun i _ => ts.length - (intOf i).toNat)
  case atStart => exact ⟨0, rfl, Nat.zero_le _, Below.refl _ _⟩
  case round =>
    obtain ⟨k, rfl, hk, hB⟩ := hrel
    have M := cell_later hB m0
    have N := cell_later hB n0
    have hBw := hal.trans (hB.mono hal.size)
    by_cases hlt : k < ts.length
    · have hlt' : (k : Int) < ts.length := by omega
      obtain ⟨b1, o1, rfl, h1⟩ := (ha.below hBw).at hlt
      obtain ⟨b2, o2, rfl, h2⟩ := (hb.below hBw).at hlt
      obtain ⟨x0, x1, x2⟩ := h1 k hlt
      obtain ⟨y0, y1, y2⟩ := h2 k hlt
      clear h1 h2
      go_wp2
      go_quiet (fail)
      go_wp2
      go_roundw
      case rel => exact ⟨k + 1, by congr 1, hlt, below_drewN hB _⟩
      case measure => simp only [intOf]; omega
    · obtain rfl : k = ts.length := by omega
      go_wp2
      go_ret
      exact ⟨rfl, hBw⟩
end Go.Proofs.Ytiadabmbfpfbjaa
