/-
  spec.Pick.
-/
import Derived.Test.YtjienajcpjcfiafPckP
import Derived.Test.YtjienajcpjcfiafSpecTree
import Derived.Test.YtjienajcpjcfiafEntL
import Derived.Deep.RegionLaw
namespace Go.Proofs.Ytjienajcpjcfiaf
open Go.RowKit

set_option maxRecDepth 100000 in
set_option maxHeartbeats 4000000 in
theorem specPck_any (a : Option Addr) (cap : Nat) (ts : List En) (ag : Option Addr) (cg : Nat) (gs : List ByteArray) (w : World) (hts : ES w a ts) (hgs : SS w ag gs) (hn : ts.length ≤ 1048576) :
    Calls Try.prog 30 #[.agg #[.slice a ts.length cap], .slice ag gs.length cg] w fun e w' => PckPost ts gs w e w' := by
  obtain ⟨i0, hi, hz0, hz1, hzb⟩ := info_parts Try.infoEntry
  have hal : Below w.heap.size w (((w.alloc (.cells #[.slice a ts.length cap] 42)).alloc (.cells #[.slice none 0 0] 42)).alloc (.cells #[.slice none 0 0] 42)) := (((Below.refl _ _).alloc (Nat.le_refl _) _).alloc (by simp) _).alloc (by simp; omega) _
  have m0 : (((w.alloc (.cells #[.slice a ts.length cap] 42)).alloc (.cells #[.slice none 0 0] 42)).alloc (.cells #[.slice none 0 0] 42)).cell? ⟨w.heap.size, 0, none⟩ = some (.slice a ts.length cap) := by simp [go_sem]
  have k0 : (((w.alloc (.cells #[.slice a ts.length cap] 42)).alloc (.cells #[.slice none 0 0] 42)).alloc (.cells #[.slice none 0 0] 42)).cell? ⟨w.heap.size + 1, 0, none⟩ = some (.slice none 0 0) := by simp [go_sem]
  have kf : (((w.alloc (.cells #[.slice a ts.length cap] 42)).alloc (.cells #[.slice none 0 0] 42)).alloc (.cells #[.slice none 0 0] 42)).frozen? ⟨w.heap.size + 1, 0, none⟩ = false := by simp [go_sem]
  have o0 : (((w.alloc (.cells #[.slice a ts.length cap] 42)).alloc (.cells #[.slice none 0 0] 42)).alloc (.cells #[.slice none 0 0] 42)).cell? ⟨w.heap.size + 1 + 1, 0, none⟩ = some (.slice none 0 0) := by simp [go_sem]
  have of0 : (((w.alloc (.cells #[.slice a ts.length cap] 42)).alloc (.cells #[.slice none 0 0] 42)).alloc (.cells #[.slice none 0 0] 42)).frozen? ⟨w.heap.size + 1 + 1, 0, none⟩ = false := by simp [go_sem]
  have ks : w.heap.size + 1 + 1 < (((w.alloc (.cells #[.slice a ts.length cap] 42)).alloc (.cells #[.slice none 0 0] 42)).alloc (.cells #[.slice none 0 0] 42)).heap.size := by simp [go_sem]
  go_enter Try.func30, Try.ntmps30
  go_wp2_with fail
  refine (specTree_any a cap ts _ (hts.below hal) hn).mono ?_
  rintro e w1 ⟨vb, rfl, hvb, hb1⟩
  generalize ((w.alloc (.cells #[.slice a ts.length cap] 42)).alloc (.cells #[.slice none 0 0] 42)).alloc (.cells #[.slice none 0 0] 42) = w0 at *
  obtain ⟨g, hg⟩ : ∃ g, g = w.heap.size + 1 := ⟨_, rfl⟩
  obtain ⟨ob, hh⟩ : ∃ ob, ob = w.heap.size + 1 + 1 := ⟨_, rfl⟩
  rw [← hh] at o0 of0 ks ⊢
  rw [← hg] at k0 kf ⊢
  have HG : Keep (g = w.heap.size + 1 ∧ ob = g + 1) := ⟨⟨hg, by omega⟩⟩
  have hgw : w.heap.size ≤ g := by omega
  have hhw : w.heap.size ≤ ob := by omega
  have hgh : g < ob := by omega
  replace k0 := cell_later hb1 k0
  replace kf : w1.frozen? ⟨g, 0, none⟩ = false := (hb1.frozen (p := ⟨g, 0, none⟩) (by show g < _; omega)).trans kf
  replace m0 := cell_later hb1 m0
  replace o0 := cell_later hb1 o0
  replace of0 : w1.frozen? ⟨ob, 0, none⟩ = false := (hb1.frozen (p := ⟨ob, 0, none⟩) ks).trans of0
  have ks1 : ob < w1.heap.size := Nat.lt_of_lt_of_le ks hb1.size
  have hbw := hal.trans (hb1.mono hal.size)
  have HV : Keep (vb = true ↔ ValidTs ts) := ⟨hvb⟩
  clear hvb hb1 hal ks hg hh
  cases vb with
  | false =>
    have hnv : ¬ ValidTs ts := fun h => by have := HV.out.2 h; cases this
    go_wp2
    refine bodyPost_ret (v := .agg #[.slice none ([] : List En).length 0]) ?_ rfl ⟨[], .inl ⟨fun h => hnv h.1, rfl⟩, ⟨none, 0, rfl, EL.nil _ _ _⟩, hbw.setCell (p := ⟨g, 0, none⟩) hgw _⟩
    go_light
    simp [results, Try.results30, go_sem, k0]
  | true =>
    have hv := HV.out.1 rfl
    by_cases h20 : 20 < gs.length
    · have e20 : decide ((20 : Int) < gs.length) = true := by simp; omega
      go_wp2
      refine bodyPost_ret (v := .agg #[.slice none ([] : List En).length 0]) ?_ rfl ⟨[], .inl ⟨fun h => (by have := h.2; omega), rfl⟩, ⟨none, 0, rfl, EL.nil _ _ _⟩, hbw.setCell (p := ⟨g, 0, none⟩) hgw _⟩
      go_light
      simp [results, Try.results30, go_sem, k0]
    have e20 : decide ((20 : Int) < gs.length) = false := by simp; omega
    have hg20 : gs.length ≤ 20 := by omega
    clear h20
    go_wp2
    go_loopw [6] (fun i wr => ∃ (k : Nat) (v : Value), i = .int .i64 k ∧ k ≤ ts.length ∧ wr.cell? ⟨ob, 0, none⟩ = some v ∧ wr.frozen? ⟨ob, 0, none⟩ = false ∧ wr.ownsRow w1.heap.size 58 3 v (picked (ts.take k) gs).length (ecells (picked (ts.take k) gs)) ∧ w1.grownBy wr (some ob)) (fun i _ => ts.length - (intOf i).toNat)
    case atStart => exact ⟨0, _, rfl, Nat.zero_le _, o0, of0, World.ownsRow_nil _ _ _ _, ⟨rfl, rfl, rfl, Nat.le_refl _, fun _ _ _ => rfl⟩⟩
    case round =>
      clear o0 of0
      obtain ⟨k, v, rfl, hk, o0, of0, hrow, hgr⟩ := hrel
      have mr : wr.cell? ⟨w.heap.size, 0, none⟩ = some (.slice a ts.length cap) := (World.cell?_of_block (hgr.block w.heap.size (by omega) (by have := HG.out; simp; omega))).trans m0
      have hbr : Below w.heap.size w wr := hbw.grown hgr hbw.size (fun j e => by cases e; exact hhw)
      have hzr : ob < wr.heap.size := Nat.lt_of_lt_of_le ks1 hgr.size
      have hz2 := hgr.size
      have hEr := hts.below hbr
      have hSr := hgs.below hbr
      by_cases hlt : k < ts.length
      · have hlt' : (k : Int) < ts.length := by omega
        obtain ⟨b, off, rfl, hc⟩ := hEr.at hlt
        obtain ⟨x0, x1, x2⟩ := hc k hlt
        have hpt := picked_take (gs := gs) hlt
        clear hc
        rename World => W
        go_wp2
        go_loopw [7, 8] (fun s7 s8 wi => ∃ j : Nat, j ≤ gs.length ∧ s7 = .bool (someM (gs.take j) ts[k].path) ∧ s8 = .int .i64 (j : Int) ∧ Below W.heap.size W wi) (fun _ s8 _ => gs.length - (intOf s8).toNat)
        case atStart => exact ⟨0, Nat.zero_le _, rfl, rfl, Below.refl _ _⟩
        case round =>
          obtain ⟨j, hj, rfl, rfl, hB⟩ := hrel
          by_cases hjl : j < gs.length
          · have hjl' : (j : Int) < gs.length := by omega
            obtain ⟨bg, og, rfl, dg⟩ := hSr.at hjl
            have y1 := cell_later hB (dg j hjl)
            have ym := cell_later hB mr
            have y0 := cell_later hB x0
            have hst := someM_take (p := ts[k].path) hjl
            cases hs : someM (gs.take j) ts[k].path with
            | true =>
              rw [hs, Bool.true_or] at hst
              have HST : Keep (someM (gs.take (j + 1)) ts[k].path = true) := ⟨hst⟩
              clear hst dg hs
              go_wp2
              go_quiet (fail)
              go_wp2
              go_roundw
              case rel => exact ⟨j + 1, hjl, by rw [HST.out], by go_num, ⟨hB.os, hB.tape, hB.output, hB.size, hB.block⟩⟩
              case measure => simp only [intOf]; omega
            | false =>
              rw [hs, Bool.false_or] at hst
              have HST : Keep (someM (gs.take (j + 1)) ts[k].path = matchS gs[j] ts[k].path) := ⟨hst⟩
              obtain ⟨gl, hgl⟩ : ∃ gl, gs[j] = gl := ⟨_, rfl⟩
              obtain ⟨pt, hpt2⟩ : ∃ pt, ts[k].path = pt := ⟨_, rfl⟩
              rw [hgl] at y1
              rw [hpt2] at y0
              have HGP : Keep (matchS gs[j] ts[k].path = matchS gl pt) := ⟨by rw [hgl, hpt2]⟩
              have HC : Keep (∀ x : Later wr, Calls Try.prog 24 #[.string gl, .string pt] x.world fun e w'' => e = .returned (.bool (matchS gl pt)) ∧ ∃ y : Later wr, w'' = y.world) := ⟨fun x => Later.call x (specMatch_any gl pt _)⟩
              have z1 : ∀ x : Later wr, x.world.cell? ⟨bg, og + j, none⟩ = some (.string gl) := fun x => cell_later x.kept y1
              have zm : ∀ x : Later wr, x.world.cell? ⟨w.heap.size, 0, none⟩ = some (.slice (some ⟨b, off, none⟩) ts.length cap) := fun x => cell_later x.kept ym
              have z0 : ∀ x : Later wr, x.world.cell? ⟨b, off + k * 3, none⟩ = some (.string pt) := fun x => cell_later x.kept y0
              clear hst dg hs y1 ym y0 hgl hpt2
              go_wp2
              (haveI := later_any; refine wp_region_later (by kernel_rfl) (by kernel_rfl) ?_; (repeat (go_big_quiet_step ((go_at_call 24; exact HC.out _)))); refine wpQuiet_nil ?_; intro _ hwq; obtain ⟨xq, hwq2⟩ := hwq; subst hwq2)
              go_wp2
              go_roundw
              case rel => exact ⟨j + 1, hjl, by rw [HST.out, HGP.out], by go_num, hB.trans (xq.kept.mono hB.size)⟩
              case measure => simp only [intOf]; omega
          · obtain rfl : j = gs.length := by omega
            rw [List.take_length]
            have o3 := cell_later hB o0
            have of3 : wr.frozen? ⟨ob, 0, none⟩ = false := (hB.frozen (p := ⟨ob, 0, none⟩) hzr).trans of0
            have hrow3 := owns_below hrow hB
            have hg3 : w1.grownBy wr (some ob) := ⟨hB.os.trans hgr.os, hB.tape.trans hgr.tape, hB.output.trans hgr.output, Nat.le_trans hgr.size hB.size, fun j hj hne => (hB.block j (Nat.lt_of_lt_of_le hj hgr.size)).trans (hgr.block j hj hne)⟩
            have mr3 := cell_later hB mr
            have e0 := cell_later hB x0
            have e1 := cell_later hB x1
            have e2 := cell_later hB x2
            have hz3 := hB.size
            clear o0 of0 hrow mr x0 x1 x2 hEr hSr
            cases hs : someM gs ts[k].path with
            | false =>
              rw [hs] at hpt
              simp only [Bool.false_eq_true, if_false] at hpt
              have HW : Keep (picked (ts.take (k + 1)) gs = picked (ts.take k) gs) := ⟨hpt⟩
              clear hpt hs
              go_wp2
              go_roundw
              case rel => exact ⟨k + 1, v, by congr 1, hlt, o3, of3, by rw [HW.out]; exact hrow3, hg3⟩
              case measure => simp only [intOf]; omega
            | true =>
              rw [hs] at hpt
              simp only [if_true] at hpt
              have HW : Keep (picked (ts.take (k + 1)) gs = picked (ts.take k) gs ++ [ts[k]]) := ⟨hpt⟩
              have hlen : (picked (ts.take k) gs).length ≤ 1048576 := Nat.le_trans (picked_len _ _) (by simp; omega)
              clear hpt hs
              have hne : v.ownBlock ≠ some ob := fun e => by have := owns_row_ge hrow3 e; omega
              have hobr : ob < wr.heap.size := by omega
              have hcell : ∀ w2, ((wr.alloc (.cells #[.string ts[k].path, .string ts[k].text, .bool ts[k].runs] 58)).drew).grownBy w2 v.ownBlock → w2.cell? ⟨ob, 0, none⟩ = some v ∧ w2.frozen? ⟨ob, 0, none⟩ = false := fun w2 h => by
                have hh : w2.heap[ob]? = wr.heap[ob]? := (h.block ob (by simp; omega) (fun e => hne e.symm)).trans (heap_alloc_old wr _ hobr)
                refine ⟨(World.cell?_of_block hh).trans o3, ?_⟩
                unfold World.frozen? at of3 ⊢
                simp only at of3 ⊢
                rw [hh]; exact of3
              have o0a : ∀ o, (wr.alloc o).cell? ⟨ob, 0, none⟩ = some v := fun o => cell_later ((Below.refl _ _).alloc (Nat.le_refl _) _) o3
              go_wp2_with fail
              go_region_law (refine step_append_lies _ rfl _ _ 40 rfl w1.heap.size 58 i0 _ 3 40 Try.underlying40 hi hz0 hz1 hzb rfl (by decide) v (picked (ts.take k) gs).length (ecells (picked (ts.take k) gs)) rfl (by exact owns_below hrow3 ((Below.refl _ _).alloc (Nat.le_refl _) _).drew) ⟨wr.heap.size, 0, none⟩ 1 1 (ecell ts[k]) rfl rfl (by exact news_3 _ _ _ _ (by simp)) (by exact one_3 _) (by omega) (by unfold maxLen; omega) (by omega) (by simp; omega) (wr.heap.size + 1) (by simp) ?_; intro g2 cap2 w2 hown2 hgrow2 hat2 hlt2; obtain ⟨hc2, hf2⟩ := hcell w2 hgrow2)
              all_goals
                have hne2 : (Value.slice (some ⟨g2, 0, none⟩) ((picked (ts.take k) gs).length + 1) cap2).ownBlock ≠ some ob := fun e => by have := owns_row_ge hown2 e; omega
                have hrow4 := hown2.kept (grown_set0 w2 ob 0 (.slice (some ⟨g2, 0, none⟩) ((picked (ts.take k) gs).length + 1) cap2)) (Or.inr hne2)
                have hg4 : w1.grownBy (w2.setCell ⟨ob, 0, none⟩ (.slice (some ⟨g2, 0, none⟩) ((picked (ts.take k) gs).length + 1) cap2)) (some ob) := by
                  refine ⟨hgrow2.os.trans hg3.os, hgrow2.tape.trans hg3.tape, hgrow2.output.trans hg3.output, by have := hgrow2.size; simp at this ⊢; omega, fun j hj hnj => ?_⟩
                  rw [Below.heap_setCell _ _ _ _ (fun e => hnj (by rw [e])), hgrow2.block j (by simp; omega) (fun e => by have := owns_row_ge hrow3 e.symm; omega)]
                  exact (heap_alloc_old wr _ (by omega)).trans (hg3.block j hj hnj)
                have o5 := World.cell?_setCell_same w2 ⟨ob, 0, none⟩ (.slice (some ⟨g2, 0, none⟩) ((picked (ts.take k) gs).length + 1) cap2) hc2
                have of5 : (w2.setCell ⟨ob, 0, none⟩ (.slice (some ⟨g2, 0, none⟩) ((picked (ts.take k) gs).length + 1) cap2)).frozen? ⟨ob, 0, none⟩ = false := (World.frozen?_setCell _ _ _ _).trans hf2
                have hrow5 : (w2.setCell ⟨ob, 0, none⟩ (.slice (some ⟨g2, 0, none⟩) ((picked (ts.take k) gs).length + 1) cap2)).ownsRow w1.heap.size 58 3 (.slice (some ⟨g2, 0, none⟩) ((picked (ts.take k) gs).length + 1) cap2) (picked (ts.take (k + 1)) gs).length (ecells (picked (ts.take (k + 1)) gs)) := by
                  rw [HW.out, ecells_snoc, List.length_append]; exact hrow4
                clear hrow4 hown2 hgrow2 hat2 hcell hc2 hf2 o0a o3 of3 hrow3 mr3 e0 e1 e2
                go_wp2
                go_roundw
                case rel => exact ⟨k + 1, _, by congr 1, hlt, o5, of5, hrow5, hg4⟩
                case measure => simp only [intOf]; omega
      · obtain rfl : k = ts.length := by omega
        rw [List.take_length] at hrow
        obtain ⟨ad, cap2, rfl⟩ := owns_slice hrow
        have hel := el_of_row hrow
        have k2 : wr.cell? ⟨g, 0, none⟩ = some (.slice none 0 0) := (World.cell?_of_block (hgr.block g (by omega) (by simp; omega))).trans k0
        have kf2 : wr.frozen? ⟨g, 0, none⟩ = false := by
          unfold World.frozen? at kf ⊢
          simp only at kf ⊢
          rw [hgr.block g (by omega) (by simp; omega)]; exact kf
        have hel2 := (hel.grown (row := some g) (grown_set0 wr g 0 (.slice ad (picked ts gs).length cap2)) (fun j _ hj _ e => by cases e; omega)).mono (show w.heap.size ≤ w1.heap.size from hbw.size)
        clear hrow hel
        go_wp2
        refine bodyPost_ret (v := .agg #[.slice ad (picked ts gs).length cap2]) ?_ rfl ⟨picked ts gs, .inr ⟨⟨hv, hg20⟩, rfl⟩, ⟨ad, cap2, rfl, hel2⟩, hbr.setCell (p := ⟨g, 0, none⟩) hgw _⟩
        go_light
        simp [results, Try.results30, go_sem, k2]
end Go.Proofs.Ytjienajcpjcfiaf
