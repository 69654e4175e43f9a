/-
  PckP, PckS, IdxF, PckI: laid as one text.
-/
import Derived.Test.YtcajheaacdeokaaEntL
import Derived.Test.YtcajheaacdeokaaTreeP
import Derived.Test.YtcajheaacdeokaaGlbM
import Derived.Test.YtcajheaacdeokaaSpecTree
import Derived.Deep.RegionLaw
import Derived.Test.YtcajheaacdeokaaStrsB
import Derived.Test.YtcajheaacdeokaaBase
import Derived.Test.YtcajheaacdeokaaSplitP
import Derived.Shelf.Abstract
import Derived.Test.YtcajheaacdeokaaTreeA
import Derived.Test.YtcajheaacdeokaaGrow
import Derived.Deep.AppendLies
namespace Go.Proofs.Ytcajheaacdeokaa
open Go.RowKit

/-- Whether a path matches one of the globs. -/
def someM (gs : List ByteArray) (p : ByteArray) : Bool := gs.any fun g => matchS g p
theorem someM_take {gs : List ByteArray} {p : ByteArray} {k : Nat} (h : k < gs.length) : someM (gs.take (k + 1)) p = (someM (gs.take k) p || matchS gs[k] p) := by
  unfold someM
  rw [List.take_succ_eq_append_getElem h, List.any_append]
  simp
def picked (ts : List En) (gs : List ByteArray) : List En := ts.filter fun e => someM gs e.path
theorem picked_take {ts : List En} {gs : List ByteArray} {k : Nat} (hk : k < ts.length) : picked (ts.take (k + 1)) gs = if someM gs ts[k].path then picked (ts.take k) gs ++ [ts[k]] else picked (ts.take k) gs := by
  rw [List.take_succ_eq_append_getElem hk]
  unfold picked
  rw [List.filter_append]
  cases h : someM gs ts[k].path <;> simp [h]
theorem picked_len (ts : List En) (gs : List ByteArray) : (picked ts gs).length ≤ ts.length := List.length_filter_le _ _

/-- What Pick gives. -/
def Pck (ts : List En) (gs : List ByteArray) (us : List En) : Prop :=
  (¬ (ValidTs ts ∧ gs.length ≤ 20) ∧ us = []) ∨ ((ValidTs ts ∧ gs.length ≤ 20) ∧ us = picked ts gs)
theorem pck_one {ts : List En} {gs : List ByteArray} {us us' : List En} (h : Pck ts gs us) (h' : Pck ts gs us') : us = us' := by
  rcases h with ⟨h1, rfl⟩ | ⟨h1, rfl⟩ <;> rcases h' with ⟨g1, rfl⟩ | ⟨g1, rfl⟩
  · rfl
  · exact absurd g1 h1
  · exact absurd h1 g1
  · rfl
theorem pck_few {ts : List En} {gs : List ByteArray} {us : List En} (h : Pck ts gs us) : us.length ≤ ts.length := by
  rcases h with ⟨_, rfl⟩ | ⟨_, rfl⟩
  · simp
  · exact picked_len _ _
def PckPost (ts : List En) (gs : List ByteArray) (w : World) (e : Ending) (w' : World) : Prop := ∃ us, Pck ts gs us ∧ TreeQ us w.heap.size e w' ∧ Below w.heap.size w w'
end Go.Proofs.Ytcajheaacdeokaa

namespace Go.Proofs.Ytcajheaacdeokaa
open Go.RowKit

set_option maxRecDepth 100000 in
set_option maxHeartbeats 4000000 in
theorem specPck_any (a : Option Addr) (cap : Nat) (ts : List En) (ag : Option Addr) (cg : Nat) (gs : List ByteArray) (w : World) (hts : ES w a ts) (hgs : SS w ag gs) (hn : ts.length ≤ 1048576) :
    Calls Try.prog 12 #[.agg #[.slice a ts.length cap], .slice ag gs.length cg] w fun e w' => PckPost ts gs w e w' := by
  obtain ⟨i0, hi, hz0, hz1, hzb⟩ := info_parts Try.infoEntry
  have hal : Below w.heap.size w (((w.alloc (.cells #[.slice a ts.length cap] 29)).alloc (.cells #[.slice none 0 0] 29)).alloc (.cells #[.slice none 0 0] 29)) := (((Below.refl _ _).alloc (Nat.le_refl _) _).alloc (by simp) _).alloc (by simp; omega) _
  have m0 : (((w.alloc (.cells #[.slice a ts.length cap] 29)).alloc (.cells #[.slice none 0 0] 29)).alloc (.cells #[.slice none 0 0] 29)).cell? ⟨w.heap.size, 0, none⟩ = some (.slice a ts.length cap) := by simp [go_sem]
  have k0 : (((w.alloc (.cells #[.slice a ts.length cap] 29)).alloc (.cells #[.slice none 0 0] 29)).alloc (.cells #[.slice none 0 0] 29)).cell? ⟨w.heap.size + 1, 0, none⟩ = some (.slice none 0 0) := by simp [go_sem]
  have kf : (((w.alloc (.cells #[.slice a ts.length cap] 29)).alloc (.cells #[.slice none 0 0] 29)).alloc (.cells #[.slice none 0 0] 29)).frozen? ⟨w.heap.size + 1, 0, none⟩ = false := by simp [go_sem]
  have o0 : (((w.alloc (.cells #[.slice a ts.length cap] 29)).alloc (.cells #[.slice none 0 0] 29)).alloc (.cells #[.slice none 0 0] 29)).cell? ⟨w.heap.size + 1 + 1, 0, none⟩ = some (.slice none 0 0) := by simp [go_sem]
  have of0 : (((w.alloc (.cells #[.slice a ts.length cap] 29)).alloc (.cells #[.slice none 0 0] 29)).alloc (.cells #[.slice none 0 0] 29)).frozen? ⟨w.heap.size + 1 + 1, 0, none⟩ = false := by simp [go_sem]
  have ks : w.heap.size + 1 + 1 < (((w.alloc (.cells #[.slice a ts.length cap] 29)).alloc (.cells #[.slice none 0 0] 29)).alloc (.cells #[.slice none 0 0] 29)).heap.size := by simp [go_sem]
  go_enter Try.func12, Try.ntmps12
  go_wp2_with fail
  refine (specTree_any a cap ts _ (hts.below hal) hn).mono ?_
  rintro e w1 ⟨vb, rfl, hvb, hb1⟩
  generalize ((w.alloc (.cells #[.slice a ts.length cap] 29)).alloc (.cells #[.slice none 0 0] 29)).alloc (.cells #[.slice none 0 0] 29) = w0 at *
  obtain ⟨g, hg⟩ : ∃ g, g = w.heap.size + 1 := ⟨_, rfl⟩
  obtain ⟨ob, hh⟩ : ∃ ob, ob = w.heap.size + 1 + 1 := ⟨_, rfl⟩
  rw [← hh] at o0 of0 ks ⊢
  rw [← hg] at k0 kf ⊢
  have HG : Keep (g = w.heap.size + 1 ∧ ob = g + 1) := ⟨⟨hg, by omega⟩⟩
  have hgw : w.heap.size ≤ g := by omega
  have hhw : w.heap.size ≤ ob := by omega
  have hgh : g < ob := by omega
  replace k0 := cell_later hb1 k0
  replace kf : w1.frozen? ⟨g, 0, none⟩ = false := (hb1.frozen (p := ⟨g, 0, none⟩) (by show g < _; omega)).trans kf
  replace m0 := cell_later hb1 m0
  replace o0 := cell_later hb1 o0
  replace of0 : w1.frozen? ⟨ob, 0, none⟩ = false := (hb1.frozen (p := ⟨ob, 0, none⟩) ks).trans of0
  have ks1 : ob < w1.heap.size := Nat.lt_of_lt_of_le ks hb1.size
  have hbw := hal.trans (hb1.mono hal.size)
  have HV : Keep (vb = true ↔ ValidTs ts) := ⟨hvb⟩
  clear hvb hb1 hal ks hg hh
  cases vb with
  | false =>
    have hnv : ¬ ValidTs ts := fun h => by have := HV.out.2 h; cases this
    go_wp2
    refine bodyPost_ret (v := .agg #[.slice none ([] : List En).length 0]) ?_ rfl ⟨[], .inl ⟨fun h => hnv h.1, rfl⟩, ⟨none, 0, rfl, EL.nil _ _ _⟩, hbw.setCell (p := ⟨g, 0, none⟩) hgw _⟩
    go_light
    simp [results, Try.results12, go_sem, k0]
  | true =>
    have hv := HV.out.1 rfl
    by_cases h20 : 20 < gs.length
    · have e20 : decide ((20 : Int) < gs.length) = true := by simp; omega
      go_wp2
      refine bodyPost_ret (v := .agg #[.slice none ([] : List En).length 0]) ?_ rfl ⟨[], .inl ⟨fun h => (by have := h.2; omega), rfl⟩, ⟨none, 0, rfl, EL.nil _ _ _⟩, hbw.setCell (p := ⟨g, 0, none⟩) hgw _⟩
      go_light
      simp [results, Try.results12, go_sem, k0]
    have e20 : decide ((20 : Int) < gs.length) = false := by simp; omega
    have hg20 : gs.length ≤ 20 := by omega
    clear h20
    go_wp2
    go_loopw [6] (fun i wr => ∃ (k : Nat) (v : Value), i = .int .i64 k ∧ k ≤ ts.length ∧ wr.cell? ⟨ob, 0, none⟩ = some v ∧ wr.frozen? ⟨ob, 0, none⟩ = false ∧ wr.ownsRow w1.heap.size 36 3 v (picked (ts.take k) gs).length (ecells (picked (ts.take k) gs)) ∧ w1.grownBy wr (some ob)) (fun i _ => ts.length - (intOf i).toNat)
    case atStart => exact ⟨0, _, rfl, Nat.zero_le _, o0, of0, World.ownsRow_nil _ _ _ _, ⟨rfl, rfl, rfl, Nat.le_refl _, fun _ _ _ => rfl⟩⟩
    case round =>
      clear o0 of0
      obtain ⟨k, v, rfl, hk, o0, of0, hrow, hgr⟩ := hrel
      have mr : wr.cell? ⟨w.heap.size, 0, none⟩ = some (.slice a ts.length cap) := (World.cell?_of_block (hgr.block w.heap.size (by omega) (by have := HG.out; simp; omega))).trans m0
      have hbr : Below w.heap.size w wr := hbw.grown hgr hbw.size (fun j e => by cases e; exact hhw)
      have hzr : ob < wr.heap.size := Nat.lt_of_lt_of_le ks1 hgr.size
      have hz2 := hgr.size
      have hEr := hts.below hbr
      have hSr := hgs.below hbr
      by_cases hlt : k < ts.length
      · have hlt' : (k : Int) < ts.length := by omega
        obtain ⟨b, off, rfl, hc⟩ := hEr.at hlt
        obtain ⟨x0, x1, x2⟩ := hc k hlt
        have hpt := picked_take (gs := gs) hlt
        clear hc
        rename World => W
        go_wp2
        go_loopw [7, 8] (fun s7 s8 wi => ∃ j : Nat, j ≤ gs.length ∧ s7 = .bool (someM (gs.take j) ts[k].path) ∧ s8 = .int .i64 (j : Int) ∧ Below W.heap.size W wi) (fun _ s8 _ => gs.length - (intOf s8).toNat)
        case atStart => exact ⟨0, Nat.zero_le _, rfl, rfl, Below.refl _ _⟩
        case round =>
          obtain ⟨j, hj, rfl, rfl, hB⟩ := hrel
          by_cases hjl : j < gs.length
          · have hjl' : (j : Int) < gs.length := by omega
            obtain ⟨bg, og, rfl, dg⟩ := hSr.at hjl
            have y1 := cell_later hB (dg j hjl)
            have ym := cell_later hB mr
            have y0 := cell_later hB x0
            have hst := someM_take (p := ts[k].path) hjl
            cases hs : someM (gs.take j) ts[k].path with
            | true =>
              rw [hs, Bool.true_or] at hst
              have HST : Keep (someM (gs.take (j + 1)) ts[k].path = true) := ⟨hst⟩
              clear hst dg hs
              go_wp2
              go_quiet (fail)
              go_wp2
              go_roundw
              case rel => exact ⟨j + 1, hjl, by rw [HST.out], by go_num, ⟨hB.os, hB.tape, hB.output, hB.size, hB.block⟩⟩
              case measure => simp only [intOf]; omega
            | false =>
              rw [hs, Bool.false_or] at hst
              have HST : Keep (someM (gs.take (j + 1)) ts[k].path = matchS gs[j] ts[k].path) := ⟨hst⟩
              obtain ⟨gl, hgl⟩ : ∃ gl, gs[j] = gl := ⟨_, rfl⟩
              obtain ⟨pt, hpt2⟩ : ∃ pt, ts[k].path = pt := ⟨_, rfl⟩
              rw [hgl] at y1
              rw [hpt2] at y0
              have HGP : Keep (matchS gs[j] ts[k].path = matchS gl pt) := ⟨by rw [hgl, hpt2]⟩
              have HC : Keep (∀ x : Later wr, Calls Try.prog 6 #[.string gl, .string pt] x.world fun e w'' => e = .returned (.bool (matchS gl pt)) ∧ ∃ y : Later wr, w'' = y.world) := ⟨fun x => Later.call x (specMatch_any gl pt _)⟩
              have z1 : ∀ x : Later wr, x.world.cell? ⟨bg, og + j, none⟩ = some (.string gl) := fun x => cell_later x.kept y1
              have zm : ∀ x : Later wr, x.world.cell? ⟨w.heap.size, 0, none⟩ = some (.slice (some ⟨b, off, none⟩) ts.length cap) := fun x => cell_later x.kept ym
              have z0 : ∀ x : Later wr, x.world.cell? ⟨b, off + k * 3, none⟩ = some (.string pt) := fun x => cell_later x.kept y0
              clear hst dg hs y1 ym y0 hgl hpt2
              go_wp2
              (haveI := later_any; refine wp_region_later (by kernel_rfl) (by kernel_rfl) ?_; (repeat (go_big_quiet_step ((go_at_call 6; exact HC.out _)))); refine wpQuiet_nil ?_; intro _ hwq; obtain ⟨xq, hwq2⟩ := hwq; subst hwq2)
              go_wp2
              go_roundw
              case rel => exact ⟨j + 1, hjl, by rw [HST.out, HGP.out], by go_num, hB.trans (xq.kept.mono hB.size)⟩
              case measure => simp only [intOf]; omega
          · obtain rfl : j = gs.length := by omega
            rw [List.take_length]
            have o3 := cell_later hB o0
            have of3 : wr.frozen? ⟨ob, 0, none⟩ = false := (hB.frozen (p := ⟨ob, 0, none⟩) hzr).trans of0
            have hrow3 := owns_below hrow hB
            have hg3 : w1.grownBy wr (some ob) := ⟨hB.os.trans hgr.os, hB.tape.trans hgr.tape, hB.output.trans hgr.output, Nat.le_trans hgr.size hB.size, fun j hj hne => (hB.block j (Nat.lt_of_lt_of_le hj hgr.size)).trans (hgr.block j hj hne)⟩
            have mr3 := cell_later hB mr
            have e0 := cell_later hB x0
            have e1 := cell_later hB x1
            have e2 := cell_later hB x2
            have hz3 := hB.size
            clear o0 of0 hrow mr x0 x1 x2 hEr hSr
            cases hs : someM gs ts[k].path with
            | false =>
              rw [hs] at hpt
              simp only [Bool.false_eq_true, if_false] at hpt
              have HW : Keep (picked (ts.take (k + 1)) gs = picked (ts.take k) gs) := ⟨hpt⟩
              clear hpt hs
              go_wp2
              go_roundw
              case rel => exact ⟨k + 1, v, by congr 1, hlt, o3, of3, by rw [HW.out]; exact hrow3, hg3⟩
              case measure => simp only [intOf]; omega
            | true =>
              rw [hs] at hpt
              simp only [if_true] at hpt
              have HW : Keep (picked (ts.take (k + 1)) gs = picked (ts.take k) gs ++ [ts[k]]) := ⟨hpt⟩
              have hlen : (picked (ts.take k) gs).length ≤ 1048576 := Nat.le_trans (picked_len _ _) (by simp; omega)
              clear hpt hs
              have hne : v.ownBlock ≠ some ob := fun e => by have := owns_row_ge hrow3 e; omega
              have hobr : ob < wr.heap.size := by omega
              have hcell : ∀ w2, ((wr.alloc (.cells #[.string ts[k].path, .string ts[k].text, .bool ts[k].runs] 36)).drew).grownBy w2 v.ownBlock → w2.cell? ⟨ob, 0, none⟩ = some v ∧ w2.frozen? ⟨ob, 0, none⟩ = false := fun w2 h => by
                have hh : w2.heap[ob]? = wr.heap[ob]? := (h.block ob (by simp; omega) (fun e => hne e.symm)).trans (heap_alloc_old wr _ hobr)
                refine ⟨(World.cell?_of_block hh).trans o3, ?_⟩
                unfold World.frozen? at of3 ⊢
                simp only at of3 ⊢
                rw [hh]; exact of3
              have o0a : ∀ o, (wr.alloc o).cell? ⟨ob, 0, none⟩ = some v := fun o => cell_later ((Below.refl _ _).alloc (Nat.le_refl _) _) o3
              go_wp2_with fail
              go_region_law (refine step_append_lies _ rfl _ _ 27 rfl w1.heap.size 36 i0 _ 3 40 Try.underlying27 hi hz0 hz1 hzb rfl (by decide) v (picked (ts.take k) gs).length (ecells (picked (ts.take k) gs)) rfl (by exact owns_below hrow3 ((Below.refl _ _).alloc (Nat.le_refl _) _).drew) ⟨wr.heap.size, 0, none⟩ 1 1 (ecell ts[k]) rfl rfl (by exact news_3 _ _ _ _ (by simp)) (by exact one_3 _) (by omega) (by unfold maxLen; omega) (by omega) (by simp; omega) (wr.heap.size + 1) (by simp) ?_; intro g2 cap2 w2 hown2 hgrow2 hat2 hlt2; obtain ⟨hc2, hf2⟩ := hcell w2 hgrow2)
              all_goals
                have hne2 : (Value.slice (some ⟨g2, 0, none⟩) ((picked (ts.take k) gs).length + 1) cap2).ownBlock ≠ some ob := fun e => by have := owns_row_ge hown2 e; omega
                have hrow4 := hown2.kept (grown_set0 w2 ob 0 (.slice (some ⟨g2, 0, none⟩) ((picked (ts.take k) gs).length + 1) cap2)) (Or.inr hne2)
                have hg4 : w1.grownBy (w2.setCell ⟨ob, 0, none⟩ (.slice (some ⟨g2, 0, none⟩) ((picked (ts.take k) gs).length + 1) cap2)) (some ob) := by
                  refine ⟨hgrow2.os.trans hg3.os, hgrow2.tape.trans hg3.tape, hgrow2.output.trans hg3.output, by have := hgrow2.size; simp at this ⊢; omega, fun j hj hnj => ?_⟩
                  rw [Below.heap_setCell _ _ _ _ (fun e => hnj (by rw [e])), hgrow2.block j (by simp; omega) (fun e => by have := owns_row_ge hrow3 e.symm; omega)]
                  exact (heap_alloc_old wr _ (by omega)).trans (hg3.block j hj hnj)
                have o5 := World.cell?_setCell_same w2 ⟨ob, 0, none⟩ (.slice (some ⟨g2, 0, none⟩) ((picked (ts.take k) gs).length + 1) cap2) hc2
                have of5 : (w2.setCell ⟨ob, 0, none⟩ (.slice (some ⟨g2, 0, none⟩) ((picked (ts.take k) gs).length + 1) cap2)).frozen? ⟨ob, 0, none⟩ = false := (World.frozen?_setCell _ _ _ _).trans hf2
                have hrow5 : (w2.setCell ⟨ob, 0, none⟩ (.slice (some ⟨g2, 0, none⟩) ((picked (ts.take k) gs).length + 1) cap2)).ownsRow w1.heap.size 36 3 (.slice (some ⟨g2, 0, none⟩) ((picked (ts.take k) gs).length + 1) cap2) (picked (ts.take (k + 1)) gs).length (ecells (picked (ts.take (k + 1)) gs)) := by
                  rw [HW.out, ecells_snoc, List.length_append]; exact hrow4
                clear hrow4 hown2 hgrow2 hat2 hcell hc2 hf2 o0a o3 of3 hrow3 mr3 e0 e1 e2
                go_wp2
                go_roundw
                case rel => exact ⟨k + 1, _, by congr 1, hlt, o5, of5, hrow5, hg4⟩
                case measure => simp only [intOf]; omega
      · obtain rfl : k = ts.length := by omega
        rw [List.take_length] at hrow
        obtain ⟨ad, cap2, rfl⟩ := owns_slice hrow
        have hel := el_of_row hrow
        have k2 : wr.cell? ⟨g, 0, none⟩ = some (.slice none 0 0) := (World.cell?_of_block (hgr.block g (by omega) (by simp; omega))).trans k0
        have kf2 : wr.frozen? ⟨g, 0, none⟩ = false := by
          unfold World.frozen? at kf ⊢
          simp only at kf ⊢
          rw [hgr.block g (by omega) (by simp; omega)]; exact kf
        have hel2 := (hel.grown (row := some g) (grown_set0 wr g 0 (.slice ad (picked ts gs).length cap2)) (fun j _ hj _ e => by cases e; omega)).mono (show w.heap.size ≤ w1.heap.size from hbw.size)
        clear hrow hel
        go_wp2
        refine bodyPost_ret (v := .agg #[.slice ad (picked ts gs).length cap2]) ?_ rfl ⟨picked ts gs, .inr ⟨⟨hv, hg20⟩, rfl⟩, ⟨ad, cap2, rfl, hel2⟩, hbr.setCell (p := ⟨g, 0, none⟩) hgw _⟩
        go_light
        simp [results, Try.results12, go_sem, k2]
end Go.Proofs.Ytcajheaacdeokaa

namespace Go.Proofs.Ytcajheaacdeokaa
open Go.RowKit

theorem any_take {gs : List ByteArray} {p : ByteArray → Bool} {k : Nat} (h : k < gs.length) : (gs.take (k + 1)).any p = ((gs.take k).any p || p gs[k]) := by
  rw [List.take_succ_eq_append_getElem h, List.any_append]
  simp
theorem any_at {gs : List ByteArray} {p : ByteArray → Bool} {k : Nat} (h : k < gs.length) (hk : p gs[k] = true) : gs.any p = true := List.any_eq_true.2 ⟨_, List.getElem_mem h, hk⟩

set_option maxRecDepth 20000 in
set_option maxHeartbeats 2000000 in
theorem idxF_any (g : Nat) (lb : Array Value) (eg : ∀ args w, (callFunc g args).run Try.prog w = .ok (.enter g args) w) (p : ByteArray → Bool) (a : Option Addr) (c : Nat) (gs : List ByteArray) (w : World) (hgs : SS w a gs) (hn : gs.length ≤ 1000000)
    (hp : ∀ (W : World) x, x ∈ gs → Below w.heap.size w W → Calls Try.prog g (#[.string x] ++ lb) W fun e w' => e = .returned (.bool (p x)) ∧ Below w.heap.size w w') :
    Calls Try.prog 69 #[.slice a gs.length c, .func (.func g) #[] lb] w fun e w' => ∃ r : Int, e = .returned (.int .i64 r) ∧ decide (0 ≤ r) = gs.any p ∧ -1 ≤ r ∧ r ≤ gs.length ∧ Below w.heap.size w w' := by
  go_enter Try.func69, Try.ntmps69
  go_wp2
  go_loopw [8] (fun s8 wr => ∃ k : Nat, k ≤ gs.length ∧ s8 = .int .i64 (k : Int) ∧ Keep ((gs.take k).any p = false) ∧ Below w.heap.size w wr) (fun s8 _ => gs.length - (intOf s8).toNat)
  case atStart => exact ⟨0, Nat.zero_le _, rfl, ⟨rfl⟩, Below.refl _ _⟩
  case round =>
    obtain ⟨k, hk, rfl, HA, hB⟩ := hrel
    by_cases hlt : k < gs.length
    · have hlt' : (k : Int) < gs.length := by omega
      obtain ⟨b, off, rfl, hc⟩ := hgs.at hlt
      have y := cell_later hB (hc k hlt)
      have hcall := hp wr gs[k] (List.getElem_mem hlt) hB
      have HT := any_take (p := p) hlt
      have HA2 : p gs[k] = true → gs.any p = true := any_at hlt
      obtain ⟨x, hx⟩ : ∃ x, gs[k] = x := ⟨_, rfl⟩
      rw [hx] at y hcall HT HA2
      rw [HA.out, Bool.false_or] at HT
      clear hp hc hx
      cases hq : p x with
      | true =>
        rw [hq] at hcall
        have HA3 : Keep (gs.any p = true) := ⟨HA2 hq⟩
        clear HT HA2 hq
        go_wp2_with (go_at_fn g; refine hcall.mono ?_; rintro e w' ⟨rfl, hb'⟩)
        go_ret
        exact ⟨k, rfl, by rw [HA3.out]; simp, by omega, by omega, hb'⟩
      | false =>
        rw [hq] at hcall HT
        have HA3 : Keep ((gs.take (k + 1)).any p = false) := ⟨HT⟩
        clear HT HA2 hq
        go_wp2_with (go_at_fn g; refine hcall.mono ?_; rintro e w' ⟨rfl, hb'⟩)
        go_roundw
        case rel => exact ⟨k + 1, hlt, by go_num, HA3, hb'⟩
        case measure => simp only [intOf]; omega
    · obtain rfl : k = gs.length := by omega
      have HA3 : Keep (gs.any p = false) := ⟨by have := HA.out; rwa [List.take_length] at this⟩
      clear HA hp
      go_wp2
      go_ret
      exact ⟨-1, rfl, by rw [HA3.out]; rfl, by omega, by omega, hB⟩

set_option maxRecDepth 20000 in
set_option maxHeartbeats 2000000 in
theorem contF_any (g : Nat) (lb : Array Value) (eg : ∀ args w, (callFunc g args).run Try.prog w = .ok (.enter g args) w) (p : ByteArray → Bool) (a : Option Addr) (c : Nat) (gs : List ByteArray) (w : World) (hgs : SS w a gs) (hn : gs.length ≤ 1000000)
    (hp : ∀ (W : World) x, x ∈ gs → Below w.heap.size w W → Calls Try.prog g (#[.string x] ++ lb) W fun e w' => e = .returned (.bool (p x)) ∧ Below w.heap.size w w') :
    Calls Try.prog 52 #[.slice a gs.length c, .func (.func g) #[] lb] w fun e w' => e = .returned (.bool (gs.any p)) ∧ Below w.heap.size w w' := by
  have ci := idxF_any g lb eg p a c gs w hgs hn hp
  go_enter Try.func52, Try.ntmps52
  go_wp2_with fail
  refine ci.mono ?_
  rintro e w1 ⟨r, rfl, hr, h1, h2, hb⟩
  have HR : Keep (decide (0 ≤ r) = gs.any p) := ⟨hr⟩
  clear hr ci hp
  go_wp2
  go_ret
  exact ⟨by rw [← HR.out]; rfl, hb⟩
end Go.Proofs.Ytcajheaacdeokaa

namespace Go.Proofs.Ytcajheaacdeokaa
open Go.RowKit

theorem told_all {ts : List En} {β : Way → Option Nat} {φ : Way → Option (ByteArray × Bool)} (hv : ValidTs ts) (hS : Shape ts β φ) {us : List En} (h : Told φ [] [] [] us) : us = ts := by
  refine asc_unique h.asc (valid_asc hv) (fun e => ?_)
  rw [told_mem h, List.nil_append, tells_iff hS]

set_option maxRecDepth 20000 in
set_option maxHeartbeats 2000000 in
theorem clos_any (gl p : ByteArray) (bx : Nat) (w : World) (hc : w.cell? ⟨bx, 0, none⟩ = some (.string p)) (hg : gl.size ≤ 1099511627776) (hp : p.size ≤ 1099511627776) :
    Calls Try.prog 53 #[.string gl, .pointer (some ⟨bx, 0, none⟩)] w fun e w' => e = .returned (.bool (matchS gl p)) ∧ Below w.heap.size w w' := by
  have cm := implMatch_any gl p hg hp w
  go_enter Try.func53, Try.ntmps53
  go_wp2_with fail
  refine cm.mono ?_
  rintro e w1 ⟨rfl, hb⟩
  go_wp2
  go_ret
  exact ⟨rfl, hb⟩

set_option maxRecDepth 20000 in
set_option maxHeartbeats 2000000 in
theorem matchSome_any (ag : Option Addr) (cg : Nat) (gs : List ByteArray) (p : ByteArray) (w : World) (hgs : SS w ag gs) (hn : gs.length ≤ 20) (hz : ∀ s ∈ gs, s.size ≤ 1099511627776) (hp : p.size ≤ 1099511627776) :
    Calls Try.prog 32 #[.slice ag gs.length cg, .string p] w fun e w' => e = .returned (.bool (someM gs p)) ∧ Below w.heap.size w w' := by
  have hal : Below w.heap.size w (w.alloc (.cells #[.string p] 9)) := (Below.refl _ _).alloc (Nat.le_refl _) _
  have eg : ∀ args w, (callFunc 53 args).run Try.prog w = .ok (.enter 53 args) w := enters_of Try.func53 (by kernel_rfl) rfl
  have hc : (w.alloc (.cells #[.string p] 9)).cell? ⟨w.heap.size, 0, none⟩ = some (.string p) := by simp
  have cc := contF_any 53 #[.pointer (some ⟨w.heap.size, 0, none⟩)] eg (fun g => matchS g p) ag cg gs _ (hgs.below hal) (by omega) (fun W x hx hB => by
    refine (clos_any x p w.heap.size W (cell_later hB hc) (hz x hx) hp).mono ?_
    rintro e w' ⟨rfl, hb⟩
    exact ⟨rfl, hB.trans (hb.mono hB.size)⟩)
  clear eg
  go_enter Try.func32, Try.ntmps32
  go_wp2_with fail
  refine cc.mono ?_
  rintro e w1 ⟨rfl, hb⟩
  go_wp2
  go_ret
  exact ⟨rfl, hal.trans (hb.mono hal.size)⟩

theorem el_setP {B g : Nat} {w : World} {a : Option Addr} {ts : List En} {u : Value} (h : EL B w a ts) (hg : g < B) : EL B (w.setCell ⟨g, 0, none⟩ u) a ts :=
  h.grown (row := some g) ⟨rfl, rfl, rfl, by simp, fun k _ hk => Below.heap_setCell _ _ _ _ (fun e => hk (by rw [e]))⟩ (fun k _ hk _ e => by cases e; omega)

set_option maxRecDepth 100000 in
set_option maxHeartbeats 4000000 in
theorem implPck_any (a : Option Addr) (cap : Nat) (ts : List En) (ag : Option Addr) (cg : Nat) (gs : List ByteArray) (w : World) (hts : ES w a ts) (hgs : SS w ag gs) (hn : ts.length ≤ 1048576) (hz : ∀ e ∈ ts, e.path.size ≤ 1048576 ∧ e.text.size ≤ 1048576) (hgz : ∀ s ∈ gs, s.size ≤ 1048576) :
    Calls Try.prog 10 #[.agg #[.slice a ts.length cap], .slice ag gs.length cg] w fun e w' => PckPost ts gs w e w' := by
  obtain ⟨i0, hi, hz0, hz1, hzb⟩ := info_parts Try.infoEntry
  have hal : Below w.heap.size w ((w.alloc (.cells #[.slice a ts.length cap] 29)).alloc (.cells #[.slice none 0 0] 29)) := ((Below.refl _ _).alloc (Nat.le_refl _) _).alloc (by simp) _
  have k0 : ((w.alloc (.cells #[.slice a ts.length cap] 29)).alloc (.cells #[.slice none 0 0] 29)).cell? ⟨w.heap.size + 1, 0, none⟩ = some (.slice none 0 0) := by simp
  have kf : ((w.alloc (.cells #[.slice a ts.length cap] 29)).alloc (.cells #[.slice none 0 0] 29)).frozen? ⟨w.heap.size + 1, 0, none⟩ = false := by simp
  have ks : w.heap.size + 1 < ((w.alloc (.cells #[.slice a ts.length cap] 29)).alloc (.cells #[.slice none 0 0] 29)).heap.size := by simp
  by_cases h20 : 20 < gs.length
  · have e20 : (20 : Int) < gs.length := by omega
    go_enter Try.func10, Try.ntmps10
    go_wp2
    refine bodyPost_ret (v := .agg #[.slice none ([] : List En).length 0]) ?_ rfl ⟨[], .inl ⟨fun h => (by have := h.2; omega), rfl⟩, ⟨none, 0, rfl, EL.nil _ _ _⟩, hal⟩
    go_light
    simp [results, Try.results10, go_sem, k0]
  have e20 : ¬ (20 : Int) < gs.length := by omega
  have hg20 : gs.length ≤ 20 := by omega
  clear h20
  go_enter Try.func10, Try.ntmps10
  go_wp2_with fail
  refine (grow_any a cap ts _ (hts.below hal) hn (fun e he => (hz e he).1)).mono ?_
  rintro e w1 ⟨hb1, hpost⟩
  replace k0 := cell_later hb1 k0
  replace kf : w1.frozen? ⟨w.heap.size + 1, 0, none⟩ = false := (hb1.frozen (p := ⟨w.heap.size + 1, 0, none⟩) ks).trans kf
  have ks1 : w.heap.size + 1 < w1.heap.size := Nat.lt_of_lt_of_le ks hb1.size
  have hbw := hal.trans (hb1.mono hal.size)
  clear hb1 hal hts
  generalize hg : w.heap.size + 1 = g at *
  have hgw : w.heap.size ≤ g := by omega
  clear hg
  rcases hpost with ⟨hv, root, rfl, lo, N, β, μ, φ, hlo, hN, hT, hroot, hS⟩ | ⟨hv, rfl⟩
  · clear ks hlo
    have HG : Keep (GoodT 100 β φ) := ⟨good_of_shape hv hS⟩
    have HW : Keep (∀ us, Told φ [] [] [] us → us = ts) := ⟨fun us h => told_all hv hS h⟩
    have hcall := tellAll_any lo N 100 (by omega) (by omega) β μ φ HG.out [] root w1 hT hroot
    go_wp2_with fail
    refine hcall.mono ?_
    rintro e w2 ⟨ad, cap2, us, rfl, ht, hel, hb2⟩
    obtain rfl := HW.out us ht
    replace k0 := cell_later hb2 k0
    replace kf : w2.frozen? ⟨g, 0, none⟩ = false := (hb2.frozen (p := ⟨g, 0, none⟩) ks1).trans kf
    have ks2 : g < w2.heap.size := Nat.lt_of_lt_of_le ks1 hb2.size
    have hbw2 := hbw.trans (hb2.mono hbw.size)
    have hE2 := hel.es
    have hS2 := hgs.below hbw2
    clear hb2 hcall ht hel hT hS HW HG ks1 hbw hgs hroot
    go_wp2
    go_loopw [7, 25] (fun v i wr => ∃ k : Nat, k ≤ us.length ∧ i = .int .i64 (k : Int) ∧ wr.ownsRow w2.heap.size 36 3 v (picked (us.take k) gs).length (ecells (picked (us.take k) gs)) ∧ Below w2.heap.size w2 wr) (fun _ i _ => us.length - (intOf i).toNat)
    case atStart => exact ⟨0, Nat.zero_le _, rfl, World.ownsRow_nil _ _ _ _, Below.refl _ _⟩
    case round =>
      rename_i v _
      obtain ⟨k, hk, rfl, hrow, hB⟩ := hrel
      obtain ⟨av, cv, rfl⟩ := owns_slice hrow
      by_cases hlt : k < us.length
      · have hlt' : (k : Int) < us.length := by omega
        obtain ⟨b, off, rfl, hc⟩ := (hE2.below hB).at hlt
        obtain ⟨x0, x1, x2⟩ := hc k hlt
        have hpt := picked_take (gs := gs) hlt
        have hzz := hz us[k] (List.getElem_mem hlt)
        have hal3 : Below wr.heap.size wr (wr.alloc (.cells #[.string us[k].path, .string us[k].text, .bool us[k].runs] 36)) := (Below.refl _ _).alloc (Nat.le_refl _) _
        have hBa : Below w2.heap.size w2 (wr.alloc (.cells #[.string us[k].path, .string us[k].text, .bool us[k].runs] 36)) := hB.alloc hB.size _
        have e0 : (wr.alloc (.cells #[.string us[k].path, .string us[k].text, .bool us[k].runs] 36)).cell? ⟨wr.heap.size, 0, none⟩ = some (.string us[k].path) := by simp
        have cm := matchSome_any ag cg gs us[k].path _ (hS2.below hBa) hg20 (fun s hs => Nat.le_trans (hgz s hs) (by omega)) (by omega)
        clear hc
        go_wp2_with fail
        refine cm.mono ?_
        rintro e w3 ⟨rfl, hb3⟩
        clear cm
        have hb3' := hal3.trans (hb3.mono hal3.size)
        have hB3 := hB.trans (hb3'.mono hB.size)
        have hrow3 := owns_below hrow hb3'
        have E0 := cell_later hb3 e0
        have E1 : w3.cell? ⟨wr.heap.size, 1, none⟩ = some (.string us[k].text) := cell_later hb3 (by simp)
        have E2 : w3.cell? ⟨wr.heap.size, 2, none⟩ = some (.bool us[k].runs) := cell_later hb3 (by simp)
        have hz3 := hB3.size
        clear e0 hal3 hBa hrow
        cases hs : someM gs us[k].path with
        | false =>
          rw [hs] at hpt
          simp only [Bool.false_eq_true, if_false] at hpt
          have HW : Keep (picked (us.take (k + 1)) gs = picked (us.take k) gs) := ⟨hpt⟩
          clear hpt hs
          go_wp2
          go_roundw
          case rel => exact ⟨k + 1, hlt, by go_num, by rw [HW.out]; exact hrow3, hB3⟩
          case measure => simp only [intOf]; omega
        | true =>
          rw [hs] at hpt
          simp only [if_true] at hpt
          have HW : Keep (picked (us.take (k + 1)) gs = picked (us.take k) gs ++ [us[k]]) := ⟨hpt⟩
          have hlen : (picked (us.take k) gs).length ≤ 1048576 := Nat.le_trans (picked_len _ _) (by simp; omega)
          clear hpt hs
          go_wp2_with (at_builtin; refine wpList_append_lies _ rfl _ _ 27 rfl w2.heap.size 36 i0 _ 3 40 Try.underlying27 hi hz0 hz1 hzb rfl (by decide) _ _ _ rfl (hrow3.alloc _) ⟨w3.heap.size, 0, none⟩ 1 1 (ecell us[k]) rfl rfl (by exact news_3 _ _ _ _ (by simp)) (by exact one_3 _) (by omega) (by unfold maxLen; omega) (by omega) (by simp; omega) (w3.heap.size + 1) (by simp) ?_; intro g4 c4 w4 ho4 hg4 _ _)
          go_roundw
          case rel =>
            refine ⟨k + 1, hlt, by go_num, ?_, ?_⟩
            · rw [HW.out, ecells_snoc, List.length_append]; exact ho4
            · exact (hB3.alloc hB3.size _).grown hg4 (by simp; omega) (fun j hj => by have := owns_row_ge hrow3 hj; omega)
          case measure => simp only [intOf]; omega
      · obtain rfl : k = us.length := by omega
        rw [List.take_length] at hrow ⊢
        have hel := el_of_row hrow
        have k2 := cell_later hB k0
        have kf2 : wr.frozen? ⟨g, 0, none⟩ = false := (hB.frozen (p := ⟨g, 0, none⟩) ks2).trans kf
        have hbw3 := hbw2.trans (hB.mono hbw2.size)
        have hel2 := (el_setP (u := .slice av (picked us gs).length cv) hel ks2).mono hbw2.size
        clear hrow hel
        go_wp2
        refine bodyPost_ret (v := .agg #[.slice av (picked us gs).length cv]) ?_ rfl ⟨picked us gs, .inr ⟨⟨hv, hg20⟩, rfl⟩, ⟨av, cv, rfl, hel2⟩, hbw3.setCell (p := ⟨g, 0, none⟩) hgw _⟩
        go_light
        simp [results, Try.results10, go_sem, k2]
  · go_wp2
    refine bodyPost_ret (v := .agg #[.slice none ([] : List En).length 0]) ?_ rfl ⟨[], .inl ⟨fun h => hv h.1, rfl⟩, ⟨none, 0, rfl, EL.nil _ _ _⟩, hbw.setCell (p := ⟨g, 0, none⟩) hgw _⟩
    go_light
    simp [results, Try.results10, go_sem, k0]
end Go.Proofs.Ytcajheaacdeokaa
