/-
  spec.Under.
-/
import Derived.Test.YtocnnebbllkkeaaUndP
import Derived.Test.YtocnnebbllkkeaaSpecTree
import Derived.Deep.RegionLaw
namespace Go.Proofs.Ytocnnebbllkkeaa
open Go.RowKit

theorem under_take {ts : List En} {p : ByteArray} {k : Nat} (hk : k < ts.length) : under (ts.take (k + 1)) p = if beginsB p ts[k].path then under (ts.take k) p ++ [cutE p ts[k]] else under (ts.take k) p := by
  rw [List.take_succ_eq_append_getElem hk]
  unfold under
  rw [List.filter_append, List.map_append]
  cases h : beginsB p ts[k].path <;> simp [h]
theorem begins_size {d p : ByteArray} (h : Begins d p) : d.size + 1 ≤ p.size := by
  obtain ⟨r, hr⟩ := h
  have := congrArg List.length hr
  simp at this
  have h1 : p.data.toList.length = p.size := (Lib.size_eq p).symm
  have h2 : d.data.toList.length = d.size := (Lib.size_eq d).symm
  simp at h1 h2
  omega

set_option maxRecDepth 100000 in
set_option maxHeartbeats 4000000 in
theorem specUnd_any (a : Option Addr) (cap : Nat) (ts : List En) (p : ByteArray) (w : World) (hts : ES w a ts) (hn : ts.length ≤ 1048576) (hp : p.size ≤ 1048576) :
    Calls Try.prog 19 #[.agg #[.slice a ts.length cap], .string p] w fun e w' => UndPost ts p w e w' := by
  obtain ⟨i0, hi, hz0, hz1, hzb⟩ := info_parts Try.infoEntry
  have hal : Below w.heap.size w (((w.alloc (.cells #[.slice a ts.length cap] 29)).alloc (.cells #[.slice none 0 0] 29)).alloc (.cells #[.slice none 0 0] 29)) := (((Below.refl _ _).alloc (Nat.le_refl _) _).alloc (by simp) _).alloc (by simp; omega) _
  have m0 : (((w.alloc (.cells #[.slice a ts.length cap] 29)).alloc (.cells #[.slice none 0 0] 29)).alloc (.cells #[.slice none 0 0] 29)).cell? ⟨w.heap.size, 0, none⟩ = some (.slice a ts.length cap) := by simp [go_sem]
  have k0 : (((w.alloc (.cells #[.slice a ts.length cap] 29)).alloc (.cells #[.slice none 0 0] 29)).alloc (.cells #[.slice none 0 0] 29)).cell? ⟨w.heap.size + 1, 0, none⟩ = some (.slice none 0 0) := by simp [go_sem]
  have kf : (((w.alloc (.cells #[.slice a ts.length cap] 29)).alloc (.cells #[.slice none 0 0] 29)).alloc (.cells #[.slice none 0 0] 29)).frozen? ⟨w.heap.size + 1, 0, none⟩ = false := by simp [go_sem]
  have o0 : (((w.alloc (.cells #[.slice a ts.length cap] 29)).alloc (.cells #[.slice none 0 0] 29)).alloc (.cells #[.slice none 0 0] 29)).cell? ⟨w.heap.size + 1 + 1, 0, none⟩ = some (.slice none 0 0) := by simp [go_sem]
  have of0 : (((w.alloc (.cells #[.slice a ts.length cap] 29)).alloc (.cells #[.slice none 0 0] 29)).alloc (.cells #[.slice none 0 0] 29)).frozen? ⟨w.heap.size + 1 + 1, 0, none⟩ = false := by simp [go_sem]
  have ks : w.heap.size + 1 + 1 < (((w.alloc (.cells #[.slice a ts.length cap] 29)).alloc (.cells #[.slice none 0 0] 29)).alloc (.cells #[.slice none 0 0] 29)).heap.size := by simp [go_sem]
  go_enter Try.func19, Try.ntmps19
  go_wp2_with fail
  refine (specTree_any a cap ts _ (hts.below hal) hn).mono ?_
  rintro e w1 ⟨vb, rfl, hvb, hb1⟩
  generalize ((w.alloc (.cells #[.slice a ts.length cap] 29)).alloc (.cells #[.slice none 0 0] 29)).alloc (.cells #[.slice none 0 0] 29) = w0 at *
  obtain ⟨g, hg⟩ : ∃ g, g = w.heap.size + 1 := ⟨_, rfl⟩
  obtain ⟨ob, hh⟩ : ∃ ob, ob = w.heap.size + 1 + 1 := ⟨_, rfl⟩
  rw [← hh] at o0 of0 ks ⊢
  rw [← hg] at k0 kf ⊢
  have HG : Keep (g = w.heap.size + 1 ∧ ob = g + 1) := ⟨⟨hg, by omega⟩⟩
  have hgw : w.heap.size ≤ g := by omega
  have hhw : w.heap.size ≤ ob := by omega
  have hgh : g < ob := by omega
  replace k0 := cell_later hb1 k0
  replace kf : w1.frozen? ⟨g, 0, none⟩ = false := (hb1.frozen (p := ⟨g, 0, none⟩) (by show g < _; omega)).trans kf
  replace m0 := cell_later hb1 m0
  replace o0 := cell_later hb1 o0
  replace of0 : w1.frozen? ⟨ob, 0, none⟩ = false := (hb1.frozen (p := ⟨ob, 0, none⟩) ks).trans of0
  have ks1 : ob < w1.heap.size := Nat.lt_of_lt_of_le ks hb1.size
  have hbw := hal.trans (hb1.mono hal.size)
  have HV : Keep (vb = true ↔ ValidTs ts) := ⟨hvb⟩
  clear hvb hb1 hal ks hg hh
  cases vb with
  | false =>
    have hnv : ¬ ValidTs ts := fun h => by have := HV.out.2 h; cases this
    go_wp2
    refine bodyPost_ret (v := .agg #[.slice none ([] : List En).length 0]) ?_ rfl ⟨[], .inl ⟨fun h => hnv h.1, rfl⟩, ⟨none, 0, rfl, EL.nil _ _ _⟩, hbw.setCell (p := ⟨g, 0, none⟩) hgw _⟩
    go_light
    simp [results, Try.results19, go_sem, k0]
  | true =>
    have hv := HV.out.1 rfl
    go_wp2_with fail
    refine (specPath_any p w1).mono ?_
    rintro e w2 ⟨rfl, hb2⟩
    replace k0 := cell_later hb2 k0
    replace kf : w2.frozen? ⟨g, 0, none⟩ = false := (hb2.frozen (p := ⟨g, 0, none⟩) (by show g < _; omega)).trans kf
    replace m0 := cell_later hb2 m0
    replace o0 := cell_later hb2 o0
    replace of0 : w2.frozen? ⟨ob, 0, none⟩ = false := (hb2.frozen (p := ⟨ob, 0, none⟩) ks1).trans of0
    have ks2 : ob < w2.heap.size := Nat.lt_of_lt_of_le ks1 hb2.size
    have hbw2 := hbw.trans (hb2.mono hbw.size)
    clear hb2 hbw ks1
    cases hpk : pathOk pathB p with
    | false =>
      go_wp2
      refine bodyPost_ret (v := .agg #[.slice none ([] : List En).length 0]) ?_ rfl ⟨[], .inl ⟨fun h => (by rw [hpk] at h; cases h.2), rfl⟩, ⟨none, 0, rfl, EL.nil _ _ _⟩, hbw2.setCell (p := ⟨g, 0, none⟩) hgw _⟩
      go_light
      simp [results, Try.results19, go_sem, k0]
    | true =>
      go_wp2
      go_loopw [6] (fun i wr => ∃ (k : Nat) (v : Value), i = .int .i64 k ∧ k ≤ ts.length ∧ wr.cell? ⟨ob, 0, none⟩ = some v ∧ wr.frozen? ⟨ob, 0, none⟩ = false ∧ wr.ownsRow w2.heap.size 34 3 v (under (ts.take k) p).length (ecells (under (ts.take k) p)) ∧ w2.grownBy wr (some ob)) (fun i _ => ts.length - (intOf i).toNat)
      case atStart => exact ⟨0, _, rfl, Nat.zero_le _, o0, of0, World.ownsRow_nil _ _ _ _, ⟨rfl, rfl, rfl, Nat.le_refl _, fun _ _ _ => rfl⟩⟩
      case round =>
        clear o0 of0
        obtain ⟨k, v, rfl, hk, o0, of0, hrow, hgr⟩ := hrel
        have mr : wr.cell? ⟨w.heap.size, 0, none⟩ = some (.slice a ts.length cap) := (World.cell?_of_block (hgr.block w.heap.size (by omega) (by have := HG.out; simp; omega))).trans m0
        have hbr : Below w.heap.size w wr := hbw2.grown hgr hbw2.size (fun j e => by cases e; exact hhw)
        have hzr : ob < wr.heap.size := Nat.lt_of_lt_of_le ks2 hgr.size
        have hz2 := hgr.size
        have hEr := hts.below hbr
        by_cases hlt : k < ts.length
        · have hlt' : (k : Int) < ts.length := by omega
          obtain ⟨b, off, rfl, hc⟩ := hEr.at hlt
          obtain ⟨x0, x1, x2⟩ := hc k hlt
          have hut := under_take (p := p) hlt
          have hal3 : Below wr.heap.size wr (wr.alloc (.cells #[.string ts[k].path, .string ts[k].text, .bool ts[k].runs] 34)) := (Below.refl _ _).alloc (Nat.le_refl _) _
          have e0 : (wr.alloc (.cells #[.string ts[k].path, .string ts[k].text, .bool ts[k].runs] 34)).cell? ⟨wr.heap.size, 0, none⟩ = some (.string ts[k].path) := by simp
          clear hc
          have hbg := begins_lit (beginsB p ts[k].path) beginsB_iff (wr.alloc (.cells #[.string ts[k].path, .string ts[k].text, .bool ts[k].runs] 34))
          go_wp2_with fail
          refine hbg.mono ?_
          rintro e w3 ⟨rfl, hb3⟩
          have hb3' := hal3.trans (hb3.mono hal3.size)
          have E0 := cell_later hb3 e0
          cases hq : beginsB p ts[k].path with
          | false =>
            rw [hq] at hut
            simp only [Bool.false_eq_true, if_false] at hut
            have HW : Keep (under (ts.take (k + 1)) p = under (ts.take k) p) := ⟨hut⟩
            have o3 := cell_later hb3' o0
            have of3 : w3.frozen? ⟨ob, 0, none⟩ = false := (hb3'.frozen (p := ⟨ob, 0, none⟩) hzr).trans of0
            have hrow3 := owns_below hrow hb3'
            have hg3 : w2.grownBy w3 (some ob) := ⟨hb3'.os.trans hgr.os, hb3'.tape.trans hgr.tape, hb3'.output.trans hgr.output, Nat.le_trans hgr.size hb3'.size, fun j hj hne => (hb3'.block j (Nat.lt_of_lt_of_le hj hgr.size)).trans (hgr.block j hj hne)⟩
            clear hut hbg hrow o0 of0
            go_wp2
            go_roundw
            case rel => exact ⟨k + 1, v, by congr 1, hlt, o3, of3, by rw [HW.out]; exact hrow3, hg3⟩
            case measure => simp only [intOf]; omega
          | true =>
            rw [hq] at hut
            simp only [if_true] at hut
            have HW : Keep (under (ts.take (k + 1)) p = under (ts.take k) p ++ [cutE p ts[k]]) := ⟨hut⟩
            have hbs := begins_size (beginsB_iff.1 hq)
            have E1 : w3.cell? ⟨wr.heap.size, 1, none⟩ = some (.string ts[k].text) := cell_later hb3 (by simp)
            have E2 : w3.cell? ⟨wr.heap.size, 2, none⟩ = some (.bool ts[k].runs) := cell_later hb3 (by simp)
            have EF : ∀ j, w3.frozen? ⟨wr.heap.size, j, none⟩ = false := fun j => (hb3.frozen (p := ⟨wr.heap.size, j, none⟩) (by simp)).trans (by simp)
            have o3 := cell_later hb3' o0
            have of3 : w3.frozen? ⟨ob, 0, none⟩ = false := (hb3'.frozen (p := ⟨ob, 0, none⟩) hzr).trans of0
            have hrow3 := owns_below hrow hb3'
            have hne1 : ¬ wr.heap.size = ob := by omega
            have hne2 : ¬ ob = wr.heap.size := by omega
            have hz3 : wr.heap.size < w3.heap.size := Nat.lt_of_lt_of_le (by simp) hb3.size
            have hv3 : v.ownBlock ≠ some wr.heap.size := fun e => by have := own_lt hrow e; omega
            have hlen : (under (ts.take k) p).length ≤ 1048576 := by
              unfold under; rw [List.length_map]; exact Nat.le_trans (List.length_filter_le _ _) (by simp; omega)
            have hg3 : w2.grownBy w3 (some ob) := ⟨hb3'.os.trans hgr.os, hb3'.tape.trans hgr.tape, hb3'.output.trans hgr.output, Nat.le_trans hgr.size hb3'.size, fun j hj hne => (hb3'.block j (Nat.lt_of_lt_of_le hj hgr.size)).trans (hgr.block j hj hne)⟩
            obtain ⟨en, hen⟩ : ∃ en : En, en = cutE p ts[k] := ⟨_, rfl⟩
            have he1 : ts[k].path.extract (p.size + 1) ts[k].path.size = en.path := by rw [hen]; rfl
            have he2 : ts[k].text = en.text := by rw [hen]; rfl
            have he3 : ts[k].runs = en.runs := by rw [hen]; rfl
            have HW2 : Keep (under (ts.take (k + 1)) p = under (ts.take k) p ++ [en]) := ⟨by rw [hen]; exact hut⟩
            have hrow4 := hrow3.kept (grown_set0 w3 wr.heap.size 0 (.string en.path)) (Or.inr hv3)
            have hg4 : w2.grownBy (w3.setCell ⟨wr.heap.size, 0, none⟩ (.string en.path)) (some ob) := ⟨hg3.os, hg3.tape, hg3.output, by simpa using hg3.size, fun j hj hne => (Below.heap_setCell _ _ _ _ (by show j ≠ wr.heap.size; omega)).trans (hg3.block j hj hne)⟩
            have hz4 : (w3.setCell ⟨wr.heap.size, 0, none⟩ (.string en.path)).heap.size = w3.heap.size := by simp
            have hvh : v.ownBlock ≠ some ob := fun e => by have := owns_row_ge hrow e; omega
            have o4 : (w3.setCell ⟨wr.heap.size, 0, none⟩ (.string en.path)).cell? ⟨ob, 0, none⟩ = some v := (World.cell?_setCell_other _ _ _ _ (by intro e; injection e with e; omega)).trans o3
            have of4 : (w3.setCell ⟨wr.heap.size, 0, none⟩ (.string en.path)).frozen? ⟨ob, 0, none⟩ = false := (World.frozen?_setCell _ _ _ _).trans of3
            have hcell : ∀ w5, ((w3.setCell ⟨wr.heap.size, 0, none⟩ (.string en.path)).alloc (.cells #[.string en.path, .string en.text, .bool en.runs] 34)).grownBy w5 v.ownBlock → w5.cell? ⟨ob, 0, none⟩ = some v ∧ w5.frozen? ⟨ob, 0, none⟩ = false := fun w5 hg => by
              have hh : w5.heap[ob]? = (w3.setCell ⟨wr.heap.size, 0, none⟩ (.string en.path)).heap[ob]? := (hg.block ob (by simp; omega) (fun e => hvh e.symm)).trans (heap_alloc_old _ _ (by simp; omega))
              refine ⟨(World.cell?_of_block hh).trans o4, ?_⟩
              unfold World.frozen? at of4 ⊢
              simp only at of4 ⊢
              rw [hh]; exact of4
            rw [he2] at E1
            rw [he3] at E2
            clear hut hbg hrow hq o0 of0 x0 x1 x2 hen he2 he3 hrow3 hg3
            go_wp2_with (first
              | (at_builtin; refine wpList_append_lies _ rfl _ _ 27 rfl w2.heap.size 34 i0 _ 3 40 Try.underlying27 hi hz0 hz1 hzb rfl (by decide) v (under (ts.take k) p).length (ecells (under (ts.take k) p)) rfl (hrow4.alloc _) ⟨w3.heap.size, 0, none⟩ 1 1 (ecell en) rfl rfl (news_3 _ en _ _ hz4) (one_3 en) (by omega) (by unfold maxLen; omega) (by omega) (by simp; omega) (w3.heap.size + 1) (by simp) ?_; intro g2 cap2 w5 hown5 hgrow5 hat5 hlt5; obtain ⟨o5, of5⟩ := hcell w5 hgrow5))
            have hne5 : (Value.slice (some ⟨g2, 0, none⟩) ((under (ts.take k) p).length + 1) cap2).ownBlock ≠ some ob := fun e => by have := owns_row_ge hown5 e; omega
            have hrow6 := hown5.kept (grown_set0 w5 ob 0 (.slice (some ⟨g2, 0, none⟩) ((under (ts.take k) p).length + 1) cap2)) (Or.inr hne5)
            have hg6 : w2.grownBy (w5.setCell ⟨ob, 0, none⟩ (.slice (some ⟨g2, 0, none⟩) ((under (ts.take k) p).length + 1) cap2)) (some ob) := by
              have hs5 := hgrow5.size
              simp at hs5
              refine ⟨hgrow5.os.trans hg4.os, hgrow5.tape.trans hg4.tape, hgrow5.output.trans hg4.output, by simp; omega, fun j hj hne => ?_⟩
              refine (Below.heap_setCell _ _ _ _ (by show j ≠ ob; exact fun e => hne (by rw [e]))).trans ?_
              refine (hgrow5.block j (by simp; omega) (fun e => by have := owns_row_ge hrow4 e.symm; omega)).trans ?_
              exact (heap_alloc_old _ _ (by simp; omega)).trans (hg4.block j hj hne)
            have o6 := World.cell?_setCell_same w5 ⟨ob, 0, none⟩ (.slice (some ⟨g2, 0, none⟩) ((under (ts.take k) p).length + 1) cap2) o5
            have of6 : (w5.setCell ⟨ob, 0, none⟩ (.slice (some ⟨g2, 0, none⟩) ((under (ts.take k) p).length + 1) cap2)).frozen? ⟨ob, 0, none⟩ = false := (World.frozen?_setCell _ _ _ _).trans of5
            have hrow7 : (w5.setCell ⟨ob, 0, none⟩ (.slice (some ⟨g2, 0, none⟩) ((under (ts.take k) p).length + 1) cap2)).ownsRow w2.heap.size 34 3 (.slice (some ⟨g2, 0, none⟩) ((under (ts.take k) p).length + 1) cap2) (under (ts.take (k + 1)) p).length (ecells (under (ts.take (k + 1)) p)) := by
              rw [HW2.out, ecells_snoc, List.length_append]; exact hrow6
            clear hrow6 hown5 hgrow5 hat5 hcell o5 of5 o4 of4 hrow4 hg4
            go_roundw
            case rel => exact ⟨k + 1, _, by congr 1, hlt, o6, of6, hrow7, hg6⟩
            case measure => simp only [intOf]; omega
        · obtain rfl : k = ts.length := by omega
          rw [List.take_length] at hrow
          obtain ⟨ad, cap2, rfl⟩ := owns_slice hrow
          have hel := el_of_row hrow
          have k2 : wr.cell? ⟨g, 0, none⟩ = some (.slice none 0 0) := (World.cell?_of_block (hgr.block g (by omega) (by simp; omega))).trans k0
          have kf2 : wr.frozen? ⟨g, 0, none⟩ = false := by
            have hk := hgr.block g (by omega) (by simp; omega)
            unfold World.frozen? at kf ⊢
            simp only at kf ⊢
            rw [hk]; exact kf
          have hel2 := (hel.grown (row := some g) (grown_set0 wr g 0 (.slice ad (under ts p).length cap2)) (fun j _ hj _ e => by cases e; omega)).mono (show w.heap.size ≤ w2.heap.size from hbw2.size)
          clear hrow hel
          go_wp2
          refine bodyPost_ret (v := .agg #[.slice ad (under ts p).length cap2]) ?_ rfl ⟨under ts p, .inr ⟨⟨hv, hpk⟩, rfl⟩, ⟨ad, cap2, rfl, hel2⟩, hbr.setCell (p := ⟨g, 0, none⟩) hgw _⟩
          go_light
          simp [results, Try.results19, go_sem, k2]
end Go.Proofs.Ytocnnebbllkkeaa
