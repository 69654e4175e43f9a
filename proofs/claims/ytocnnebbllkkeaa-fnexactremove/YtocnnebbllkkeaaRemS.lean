/-
  spec.Remove.
-/
import Derived.Test.YtocnnebbllkkeaaRemP
import Derived.Test.YtocnnebbllkkeaaSpecTree
import Derived.Deep.RegionLaw
namespace Go.Proofs.Ytocnnebbllkkeaa
open Go.RowKit

theorem without_take {ts : List En} {p : ByteArray} {k : Nat} (hk : k < ts.length) : without (ts.take (k + 1)) p = if ts[k].path.toList == p.toList then without (ts.take k) p else without (ts.take k) p ++ [ts[k]] := by
  rw [List.take_succ_eq_append_getElem hk]
  unfold without
  rw [List.filter_append]
  cases h : ts[k].path.toList == p.toList <;> simp [h]

theorem without_len {ts : List En} {p : ByteArray} : (without ts p).length = ts.length ↔ ∀ e ∈ ts, e.path ≠ p := by
  unfold without
  rw [List.length_filter_eq_length_iff]
  refine forall_congr' fun e => forall_congr' fun _ => ?_
  rw [Bool.not_eq_true', Bool.eq_false_iff, ne_eq, beq_iff_eq, Lib.toList_data, Lib.toList_data]
  exact ⟨fun h e => h (by rw [e]), fun h e => h (WideShapes.bytes_inj e)⟩

set_option maxRecDepth 100000 in
set_option maxHeartbeats 4000000 in
theorem specRem_any (a : Option Addr) (cap : Nat) (ts : List En) (p : ByteArray) (w : World) (hts : ES w a ts) (hn : ts.length ≤ 1048576) :
    Calls Try.prog 15 #[.agg #[.slice a ts.length cap], .string p] w fun e w' => RemPost ts p w e w' := by
  obtain ⟨i0, hi, hz0, hz1, hz2⟩ := info_parts Try.infoEntry
  have hal : Below w.heap.size w ((w.alloc (.cells #[.slice a ts.length cap] 29)).alloc (.cells #[.slice none 0 0] 29)) := ((Below.refl _ _).alloc (Nat.le_refl _) _).alloc (by simp) _
  have m0 : ((w.alloc (.cells #[.slice a ts.length cap] 29)).alloc (.cells #[.slice none 0 0] 29)).cell? ⟨w.heap.size, 0, none⟩ = some (.slice a ts.length cap) := by simp
  have k0 : ((w.alloc (.cells #[.slice a ts.length cap] 29)).alloc (.cells #[.slice none 0 0] 29)).cell? ⟨w.heap.size + 1, 0, none⟩ = some (.slice none 0 0) := by simp
  have kf : ((w.alloc (.cells #[.slice a ts.length cap] 29)).alloc (.cells #[.slice none 0 0] 29)).frozen? ⟨w.heap.size + 1, 0, none⟩ = false := by simp
  have ks : w.heap.size + 1 < ((w.alloc (.cells #[.slice a ts.length cap] 29)).alloc (.cells #[.slice none 0 0] 29)).heap.size := by simp
  go_enter Try.func15, Try.ntmps15
  go_wp2_with fail
  refine (specTree_any a cap ts _ (hts.below hal) hn).mono ?_
  rintro e w1 ⟨vb, rfl, hvb, hb1⟩
  replace k0 := cell_later hb1 k0
  replace kf : w1.frozen? ⟨w.heap.size + 1, 0, none⟩ = false := (hb1.frozen (p := ⟨w.heap.size + 1, 0, none⟩) ks).trans kf
  replace m0 := cell_later hb1 m0
  have ks1 : w.heap.size + 1 < w1.heap.size := Nat.lt_of_lt_of_le ks hb1.size
  have hbw := hal.trans (hb1.mono hal.size)
  have hE := hts.below hbw
  have HV : Keep (vb = true ↔ ValidTs ts) := ⟨hvb⟩
  clear hvb hb1 hal hts ks
  generalize hg : w.heap.size + 1 = g at *
  have hgw : w.heap.size ≤ g := by omega
  have hwg : w.heap.size < g := by omega
  clear hg
  cases vb with
  | false =>
    have hnv : ¬ ValidTs ts := fun h => by have := HV.out.2 h; cases this
    go_wp2
    refine bodyPost_ret (v := TreeV none ([] : List En).length 0 1) ?_ rfl ⟨[], 1, .inl ⟨hnv, rfl, rfl⟩, ⟨none, 0, rfl, EL.nil _ _ _⟩, hbw.setCell (p := ⟨g, 0, none⟩) hgw _⟩
    go_light
    simp [results, Try.results15, go_sem, TreeV, k0]
  | true =>
    have hv := HV.out.1 rfl
    have hb2 : Below w1.heap.size w1 (w1.alloc (.cells #[.slice none 0 0] 29)) := (Below.refl _ _).alloc (Nat.le_refl _) _
    have o0 : (w1.alloc (.cells #[.slice none 0 0] 29)).cell? ⟨w1.heap.size, 0, none⟩ = some (.slice none 0 0) := by simp
    have of0 : (w1.alloc (.cells #[.slice none 0 0] 29)).frozen? ⟨w1.heap.size, 0, none⟩ = false := by simp
    have os0 : w1.heap.size + 1 ≤ (w1.alloc (.cells #[.slice none 0 0] 29)).heap.size := by simp
    go_wp2
    go_loopw [7] (fun i wr => ∃ (k : Nat) (v : Value), i = .int .i64 k ∧ k ≤ ts.length ∧ wr.cell? ⟨w1.heap.size, 0, none⟩ = some v ∧ wr.frozen? ⟨w1.heap.size, 0, none⟩ = false ∧ wr.ownsRow (w1.heap.size + 1) 34 3 v (without (ts.take k) p).length (ecells (without (ts.take k) p)) ∧ Below w1.heap.size w1 wr ∧ w1.heap.size + 1 ≤ wr.heap.size) (fun i _ => ts.length - (intOf i).toNat)
    case atStart => exact ⟨0, _, rfl, Nat.zero_le _, o0, of0, World.ownsRow_nil _ _ _ _, hb2, os0⟩
    case round =>
      clear hb2 o0 of0 os0
      obtain ⟨k, v, rfl, hk, o0, of0, hrow, hb2, hs2⟩ := hrel
      have mr := cell_later hb2 m0
      have hEr := hE.below hb2
      by_cases hlt : k < ts.length
      · have hlt' : (k : Int) < ts.length := by omega
        obtain ⟨b, off, rfl, hc⟩ := hEr.at hlt
        obtain ⟨x0, x1, x2⟩ := hc k hlt
        have hwt := without_take (p := p) hlt
        cases hq : (ts[k].path.toList == p.toList) with
        | true =>
          rw [hq] at hwt
          simp only [if_true] at hwt
          have HW : Keep (without (ts.take (k + 1)) p = without (ts.take k) p) := ⟨hwt⟩
          clear hwt hc
          go_wp2
          go_roundw
          case rel => exact ⟨k + 1, v, by congr 1, hlt, o0, of0, by rw [HW.out]; exact hrow, hb2, hs2⟩
          case measure => simp only [intOf]; omega
        | false =>
          rw [hq] at hwt
          simp only [Bool.false_eq_true, if_false] at hwt
          have HW : Keep (without (ts.take (k + 1)) p = without (ts.take k) p ++ [ts[k]]) := ⟨hwt⟩
          have hlen : (without (ts.take k) p).length ≤ 1048576 := Nat.le_trans (List.length_filter_le _ _) (by simp; omega)
          clear hwt hc
          have hne : v.ownBlock ≠ some w1.heap.size := fun e => by have := owns_row_ge hrow e; omega
          have hcell : ∀ w2, ((wr.alloc (.cells #[.string ts[k].path, .string ts[k].text, .bool ts[k].runs] 34)).drew).grownBy w2 v.ownBlock → w2.cell? ⟨w1.heap.size, 0, none⟩ = some v ∧ w2.frozen? ⟨w1.heap.size, 0, none⟩ = false := fun w2 h => by
            have hh : w2.heap[w1.heap.size]? = wr.heap[w1.heap.size]? := (h.block w1.heap.size (by simp; omega) (fun e => hne e.symm)).trans (heap_alloc_old wr _ (by omega))
            refine ⟨(World.cell?_of_block hh).trans o0, ?_⟩
            unfold World.frozen? at of0 ⊢
            simp only at of0 ⊢
            rw [hh]; exact of0
          have o0a : ∀ o, (wr.alloc o).cell? ⟨w1.heap.size, 0, none⟩ = some v := fun o => cell_later ((Below.refl _ _).alloc (Nat.le_refl _) _) o0
          go_wp2_with fail
          go_region_law (refine step_append_lies _ rfl _ _ 27 rfl (w1.heap.size + 1) 34 i0 _ 3 40 Try.underlying27 hi hz0 hz1 hz2 rfl (by decide) v (without (ts.take k) p).length (ecells (without (ts.take k) p)) rfl (by exact owns_below hrow ((Below.refl _ _).alloc (Nat.le_refl _) _).drew) ⟨wr.heap.size, 0, none⟩ 1 1 (ecell ts[k]) rfl rfl (by exact news_3 _ _ _ _ (by simp)) (by exact one_3 _) (by omega) (by unfold maxLen; omega) (by omega) (by simp; omega) (wr.heap.size + 1) (by simp) ?_; intro g2 cap2 w2 hown2 hgrow2 hat2 hlt2; obtain ⟨hc2, hf2⟩ := hcell w2 hgrow2)
          all_goals
            have hne2 : (Value.slice (some ⟨g2, 0, none⟩) ((without (ts.take k) p).length + 1) cap2).ownBlock ≠ some w1.heap.size := fun e => by have := owns_row_ge hown2 e; omega
            have hrow3 := hown2.kept (grown_set0 w2 w1.heap.size 0 (.slice (some ⟨g2, 0, none⟩) ((without (ts.take k) p).length + 1) cap2)) (Or.inr hne2)
            have hb3 : Below w1.heap.size w1 (w2.setCell ⟨w1.heap.size, 0, none⟩ (.slice (some ⟨g2, 0, none⟩) ((without (ts.take k) p).length + 1) cap2)) := ((hb2.alloc hb2.size (.cells #[.string ts[k].path, .string ts[k].text, .bool ts[k].runs] 34)).drew.grown hgrow2 (by simp; omega) (fun j hj => by have := owns_row_ge hrow hj; omega)).setCell (p := ⟨w1.heap.size, 0, none⟩) (Nat.le_refl _) _
            have o3 := World.cell?_setCell_same w2 ⟨w1.heap.size, 0, none⟩ (.slice (some ⟨g2, 0, none⟩) ((without (ts.take k) p).length + 1) cap2) hc2
            have of3 : (w2.setCell ⟨w1.heap.size, 0, none⟩ (.slice (some ⟨g2, 0, none⟩) ((without (ts.take k) p).length + 1) cap2)).frozen? ⟨w1.heap.size, 0, none⟩ = false := (World.frozen?_setCell _ _ _ _).trans hf2
            have hs3 : w1.heap.size + 1 ≤ (w2.setCell ⟨w1.heap.size, 0, none⟩ (.slice (some ⟨g2, 0, none⟩) ((without (ts.take k) p).length + 1) cap2)).heap.size := by have := hgrow2.size; simp at this ⊢; omega
            have hrow4 : (w2.setCell ⟨w1.heap.size, 0, none⟩ (.slice (some ⟨g2, 0, none⟩) ((without (ts.take k) p).length + 1) cap2)).ownsRow (w1.heap.size + 1) 34 3 (.slice (some ⟨g2, 0, none⟩) ((without (ts.take k) p).length + 1) cap2) (without (ts.take (k + 1)) p).length (ecells (without (ts.take (k + 1)) p)) := by
              rw [HW.out, ecells_snoc, List.length_append]; exact hrow3
            clear hrow3 hown2 hgrow2 hat2 hcell hc2 hf2 o0a o0 of0 hrow mr x0 x1 x2 hEr hb2
            go_wp2
            go_roundw
            case rel => exact ⟨k + 1, _, by congr 1, hlt, o3, of3, hrow4, hb3, hs3⟩
            case measure => simp only [intOf]; omega
      · obtain rfl : k = ts.length := by omega
        rw [List.take_length] at hrow
        obtain ⟨ad, cap2, rfl⟩ := owns_slice hrow
        have hel := el_of_row hrow
        have k2 := cell_later hb2 k0
        have kf2 : wr.frozen? ⟨g, 0, none⟩ = false := (hb2.frozen (p := ⟨g, 0, none⟩) ks1).trans kf
        have hbw2 := hbw.trans (hb2.mono hbw.size)
        have hll := without_len (ts := ts) (p := p)
        have hel2 := (hel.grown (row := some g) (grown_set0 wr g 0 (.slice ad (without ts p).length cap2)) (fun j _ hj _ e => by cases e; omega)).mono (show w.heap.size ≤ w1.heap.size + 1 by have := hbw.size; omega)
        have HLL : Keep ((without ts p).length = ts.length ↔ ∀ e ∈ ts, e.path ≠ p) := ⟨hll⟩
        by_cases hsame : (without ts p).length = ts.length
        · have hno := hll.1 hsame
          have hI : ((without ts p).length : Int) = ts.length := by omega
          clear hll hrow hel hel2 hsame
          go_wp2
          refine bodyPost_ret (v := TreeV none ([] : List En).length 0 4) ?_ rfl ⟨[], 4, .inr (.inl ⟨hv, hno, rfl, rfl⟩), ⟨none, 0, rfl, EL.nil _ _ _⟩, hbw2.setCell (p := ⟨g, 0, none⟩) hgw _⟩
          go_light
          simp [results, Try.results15, go_sem, TreeV, k2]
        · have hyes : ∃ e ∈ ts, e.path = p := Classical.byContradiction fun h => hsame (hll.2 fun e he hp => h ⟨e, he, hp⟩)
          have hI : ¬ (without ts p).length = ts.length := hsame
          clear hll hrow hel
          go_wp2
          refine bodyPost_ret (v := TreeV ad (without ts p).length cap2 0) ?_ rfl ⟨without ts p, 0, .inr (.inr ⟨hv, hyes, rfl, rfl⟩), ⟨ad, cap2, rfl, hel2⟩, hbw2.setCell (p := ⟨g, 0, none⟩) hgw _⟩
          go_light
          simp [results, Try.results15, go_sem, TreeV, k2]
end Go.Proofs.Ytocnnebbllkkeaa
