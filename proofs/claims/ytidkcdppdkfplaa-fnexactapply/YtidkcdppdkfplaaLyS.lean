/-
  spec.l6Lay: a file laid under a path.
-/
import Derived.Test.YtidkcdppdkfplaaAppP
import Derived.Test.YtidkcdppdkfplaaSetS
import Derived.Deep.RegionLaw
namespace Go.Proofs.Ytidkcdppdkfplaa
open Go.RowKit

def LayPost6 (ts : List En) (p : ByteArray) (f : Fl) (w : World) (e : Ending) (w' : World) : Prop :=
  ∃ ad cap us, e = .returned (.agg #[.slice ad us.length cap]) ∧ LayRel ts p f us ∧ EL w.heap.size w' ad us ∧ Below w.heap.size w w' ∧ us.length ≤ ts.length + 1

set_option maxRecDepth 100000 in
set_option maxHeartbeats 8000000 in
theorem l6Lay_any (a : Option Addr) (cap : Nat) (ts : List En) (p : ByteArray) (f : Fl) (w : World) (hts : ES w a ts) (hn : ts.length ≤ 1000000) (hA : Asc ts) :
    Calls Try.prog 21 #[.agg #[.slice a ts.length cap], .string p, .agg #[.bool f.there, .string f.text, .bool f.runs]] w fun e w' => LayPost6 ts p f w e w' := by
  obtain ⟨i0, hi, hz0, hz1, hz2⟩ := info_parts Try.infoEntry
  have hal : Below w.heap.size w ((((w.alloc (.cells #[.slice a ts.length cap] 32)).alloc (.cells #[.bool f.there, .string f.text, .bool f.runs] 50)).alloc (.cells #[.slice none 0 0] 32)).alloc (.cells #[.slice none 0 0] 32)) := ((((Below.refl _ _).alloc (Nat.le_refl _) _).alloc (by simp) _).alloc (by simp; omega) _).alloc (by simp; omega) _
  have m0 : ((((w.alloc (.cells #[.slice a ts.length cap] 32)).alloc (.cells #[.bool f.there, .string f.text, .bool f.runs] 50)).alloc (.cells #[.slice none 0 0] 32)).alloc (.cells #[.slice none 0 0] 32)).cell? ⟨w.heap.size, 0, none⟩ = some (.slice a ts.length cap) := by simp [go_sem]
  have f0 : ((((w.alloc (.cells #[.slice a ts.length cap] 32)).alloc (.cells #[.bool f.there, .string f.text, .bool f.runs] 50)).alloc (.cells #[.slice none 0 0] 32)).alloc (.cells #[.slice none 0 0] 32)).cell? ⟨w.heap.size + 1, 0, none⟩ = some (.bool f.there) := by simp [go_sem]
  have f1 : ((((w.alloc (.cells #[.slice a ts.length cap] 32)).alloc (.cells #[.bool f.there, .string f.text, .bool f.runs] 50)).alloc (.cells #[.slice none 0 0] 32)).alloc (.cells #[.slice none 0 0] 32)).cell? ⟨w.heap.size + 1, 1, none⟩ = some (.string f.text) := by simp [go_sem]
  have f2 : ((((w.alloc (.cells #[.slice a ts.length cap] 32)).alloc (.cells #[.bool f.there, .string f.text, .bool f.runs] 50)).alloc (.cells #[.slice none 0 0] 32)).alloc (.cells #[.slice none 0 0] 32)).cell? ⟨w.heap.size + 1, 2, none⟩ = some (.bool f.runs) := by simp [go_sem]
  have k0 : ((((w.alloc (.cells #[.slice a ts.length cap] 32)).alloc (.cells #[.bool f.there, .string f.text, .bool f.runs] 50)).alloc (.cells #[.slice none 0 0] 32)).alloc (.cells #[.slice none 0 0] 32)).cell? ⟨w.heap.size + 1 + 1, 0, none⟩ = some (.slice none 0 0) := by simp [go_sem]
  have kf : ((((w.alloc (.cells #[.slice a ts.length cap] 32)).alloc (.cells #[.bool f.there, .string f.text, .bool f.runs] 50)).alloc (.cells #[.slice none 0 0] 32)).alloc (.cells #[.slice none 0 0] 32)).frozen? ⟨w.heap.size + 1 + 1, 0, none⟩ = false := by simp [go_sem]
  have o0 : ((((w.alloc (.cells #[.slice a ts.length cap] 32)).alloc (.cells #[.bool f.there, .string f.text, .bool f.runs] 50)).alloc (.cells #[.slice none 0 0] 32)).alloc (.cells #[.slice none 0 0] 32)).cell? ⟨w.heap.size + 1 + 1 + 1, 0, none⟩ = some (.slice none 0 0) := by simp [go_sem]
  have of0 : ((((w.alloc (.cells #[.slice a ts.length cap] 32)).alloc (.cells #[.bool f.there, .string f.text, .bool f.runs] 50)).alloc (.cells #[.slice none 0 0] 32)).alloc (.cells #[.slice none 0 0] 32)).frozen? ⟨w.heap.size + 1 + 1 + 1, 0, none⟩ = false := by simp [go_sem]
  have os0 : w.heap.size + 1 + 1 + 1 < ((((w.alloc (.cells #[.slice a ts.length cap] 32)).alloc (.cells #[.bool f.there, .string f.text, .bool f.runs] 50)).alloc (.cells #[.slice none 0 0] 32)).alloc (.cells #[.slice none 0 0] 32)).heap.size := by simp [go_sem]
  go_enter Try.func21, Try.ntmps21
  go_wp2
  generalize (((w.alloc (.cells #[.slice a ts.length cap] 32)).alloc (.cells #[.bool f.there, .string f.text, .bool f.runs] 50)).alloc (.cells #[.slice none 0 0] 32)).alloc (.cells #[.slice none 0 0] 32) = W at *
  obtain ⟨ob, hob⟩ : ∃ ob, ob = w.heap.size + 1 + 1 + 1 := ⟨_, rfl⟩
  obtain ⟨g, hg⟩ : ∃ g, g = w.heap.size + 1 + 1 := ⟨_, rfl⟩
  obtain ⟨fb, hfb⟩ : ∃ fb, fb = w.heap.size + 1 := ⟨_, rfl⟩
  obtain ⟨ta, hta⟩ : ∃ ta, ta = w.heap.size := ⟨_, rfl⟩
  rw [← hob] at o0 of0 os0 ⊢
  rw [← hg] at k0 kf ⊢
  rw [← hfb] at f0 f1 f2 ⊢
  rw [← hta] at m0 ⊢
  have HS : Keep (ta = w.heap.size ∧ fb = w.heap.size + 1 ∧ g = w.heap.size + 2 ∧ ob = w.heap.size + 3 ∧ ob < W.heap.size) := ⟨by omega⟩
  have hst0 := OutSt.start o0 of0 os0
  clear hob hg hfb hta o0 of0 os0
  go_loopw [8] (fun i wr => ∃ (k : Nat) (v : Value), i = .int .i64 k ∧ k ≤ ts.length ∧ OutSt ob W v (offP (ts.take k) p) wr) (fun i _ => ts.length - (intOf i).toNat)
  case atStart => exact ⟨0, _, rfl, Nat.zero_le _, hst0⟩
  case round =>
    clear hst0
    obtain ⟨k, v, rfl, hk, hst⟩ := hrel
    have hbr := hst.below hal (by have := HS.out; omega)
    have mr := hst.keep m0 (by have := HS.out; omega) (by have := HS.out; omega)
    by_cases hlt : k < ts.length
    · have hlt' : (k : Int) < ts.length := by omega
      obtain ⟨b, off, rfl, hc⟩ := (hts.below hbr).at hlt
      obtain ⟨x0, x1, x2⟩ := hc k hlt
      have hwt := offP_take (p := p) hlt
      cases hq : (ts[k].path.toList == p.toList) with
      | true =>
        rw [hq] at hwt
        simp only [if_true] at hwt
        have HW : Keep (offP (ts.take (k + 1)) p = offP (ts.take k) p) := ⟨hwt⟩
        have hq2 : (ts[k].path.toList != p.toList) = false := by simpa using hq
        clear hwt hc
        go_wp2
        go_roundw
        case rel => exact ⟨k + 1, v, by congr 1, hlt, by rw [HW.out]; exact hst⟩
        case measure => simp only [intOf]; omega
      | false =>
        rw [hq] at hwt
        simp only [Bool.false_eq_true, if_false] at hwt
        have HW : Keep (offP (ts.take (k + 1)) p = offP (ts.take k) p ++ [ts[k]]) := ⟨hwt⟩
        have hq2 : (ts[k].path.toList != p.toList) = true := by simpa using hq
        have hlen : (offP (ts.take k) p).length ≤ 1048576 := Nat.le_trans offP_len (by simp; omega)
        clear hwt hc
        generalize offP (ts.take k) p = us at *
        have hb1 : Below wr.heap.size wr (wr.alloc (.cells #[.string ts[k].path, .string ts[k].text, .bool ts[k].runs] 62)).drew := ((Below.refl _ _).alloc (Nat.le_refl _) _).drew
        have o1 := hst.cell
        have o1a : ∀ o, (wr.alloc o).cell? ⟨ob, 0, none⟩ = some v := fun o => cell_later ((Below.refl _ _).alloc (Nat.le_refl _) o) o1
        have HST : Keep (OutSt ob W v us wr) := ⟨hst⟩
        have hgs := hst.grown.size
        clear hst hbr
        go_wp2_with fail
        go_region_law (refine step_append_lies _ rfl _ _ 30 rfl W.heap.size 62 i0 _ 3 40 Try.underlying30 hi hz0 hz1 hz2 rfl (by decide) v us.length (ecells us) rfl (by exact owns_below HST.out.row hb1) ⟨wr.heap.size, 0, none⟩ 1 1 (ecell ts[k]) rfl rfl (by exact news_3 _ _ _ _ (by simp)) (by exact one_3 _) (by omega) (by unfold maxLen; omega) (by omega) (by simp; omega) (wr.heap.size + 1) (by simp) ?_; intro g2 cap2 w2 hown2 hgrow2 hat2 hlt2; have hm3 := HST.out.mid hb1 hgrow2; have oc3 := hm3.1; have of3 := hm3.2)
        all_goals
          have hst3 := HST.out.append hb1 hgrow2 hown2
          clear hm3 oc3 of3 hgrow2 hown2 hat2 hlt2 o1 o1a x0 x1 x2 mr HST
          go_wp2
          go_roundw
          case rel => exact ⟨k + 1, _, by congr 1, hlt, by rw [HW.out]; exact hst3⟩
          case measure => simp only [intOf]; omega
    · obtain rfl : k = ts.length := by omega
      rw [List.take_length] at hst
      have k2 := hst.keep k0 (by have := HS.out; omega) (by have := HS.out; omega)
      have g0 := hst.keep f0 (by have := HS.out; omega) (by have := HS.out; omega)
      have g1 := hst.keep f1 (by have := HS.out; omega) (by have := HS.out; omega)
      have g2 := hst.keep f2 (by have := HS.out; omega) (by have := HS.out; omega)
      have kf2 : wr.frozen? ⟨g, 0, none⟩ = false := frozen_of (hst.grown.block g (by have := HS.out; omega) (fun e => by have := HS.out; cases e; omega)) kf
      obtain ⟨ad, cap2, rfl⟩ := owns_slice hst.row
      have o2 := hst.cell
      have of2 := hst.fz
      have hel := el_of_row hst.row
      have hgo : ¬ g = ob := by have := HS.out; omega
      have hog : ¬ ob = g := by have := HS.out; omega
      cases ht : f.there with
      | false =>
        rw [ht] at g0
        have HB : Keep (LayPost6 ts p f w (.returned (.agg #[.slice ad (offP ts p).length cap2])) (wr.setCell ⟨g, 0, none⟩ (.slice ad (offP ts p).length cap2))) := ⟨⟨ad, cap2, offP ts p, rfl, by unfold LayRel; rw [if_neg (by rw [ht]; simp)], (hel.grown (row := some g) (grown_set0 wr g 0 _) (fun j _ hj _ e => by have := HS.out; cases e; omega)).mono (show w.heap.size ≤ W.heap.size by have := HS.out; omega), hbr.setCell (p := ⟨g, 0, none⟩) (by have := HS.out; show _ ≤ g; omega) _, Nat.le_trans offP_len (by omega)⟩⟩
        clear hel hst hbr
        generalize offP ts p = us at *
        go_wp2
        refine bodyPost_ret (v := .agg #[.slice ad us.length cap2]) ?_ rfl HB.out
        go_light
        simp [results, Try.results21, go_sem, k2]
      | true =>
        rw [ht] at g0
        have hset := l5Set_any ad cap2 (offP ts p) ⟨p, f.text, f.runs⟩ wr hel.es (Nat.le_trans offP_len (by omega)) (offP_asc hA)
        have hol : (offP ts p).length ≤ ts.length := offP_len
        have HST : Keep (OutSt ob W (.slice ad (offP ts p).length cap2) (offP ts p) wr) := ⟨hst⟩
        clear hel hst
        go_wp2_with fail
        refine hset.mono ?_
        rintro e w3 ⟨ad3, cap3, us, rfl, hrel, hel3, hb3, hus⟩
        replace k2 := cell_later hb3 k2
        replace o2 := cell_later hb3 o2
        replace kf2 : w3.frozen? ⟨g, 0, none⟩ = false := (hb3.frozen (p := ⟨g, 0, none⟩) (World.block_lt_of_cell? wr ⟨g, 0, none⟩ (HST.out.keep k0 (by have := HS.out; omega) (by have := HS.out; omega)))).trans kf2
        replace of2 : w3.frozen? ⟨ob, 0, none⟩ = false := (hb3.frozen (p := ⟨ob, 0, none⟩) HST.out.size).trans of2
        have hgw := HST.out.grown.size
        have h31 := hel3.grown (row := some ob) (grown_set0 w3 ob 0 (.slice ad3 us.length cap3)) (fun j _ hj _ e => by have := HS.out; cases e; omega)
        have h32 := h31.grown (row := some g) (grown_set0 _ g 0 (.slice ad3 us.length cap3)) (fun j _ hj _ e => by have := HS.out; cases e; omega)
        have hb4 := ((hbr.trans (hb3.mono hbr.size)).setCell (p := ⟨ob, 0, none⟩) (by have := HS.out; show _ ≤ ob; omega) (.slice ad3 us.length cap3)).setCell (p := ⟨g, 0, none⟩) (by have := HS.out; show _ ≤ g; omega) (.slice ad3 us.length cap3)
        have HB : Keep (LayPost6 ts p f w (.returned (.agg #[.slice ad3 us.length cap3])) ((w3.setCell ⟨ob, 0, none⟩ (.slice ad3 us.length cap3)).setCell ⟨g, 0, none⟩ (.slice ad3 us.length cap3))) := ⟨⟨ad3, cap3, us, rfl, by unfold LayRel; rw [if_pos ht]; exact hrel, h32.mono (show w.heap.size ≤ wr.heap.size by have := HS.out; omega), hb4, by omega⟩⟩
        clear hel3 h31 h32 hb4 hb3 hset hbr HST
        go_wp2
        refine bodyPost_ret (v := .agg #[.slice ad3 us.length cap3]) ?_ rfl HB.out
        go_light
        simp [results, Try.results21, go_sem, k2]
end Go.Proofs.Ytidkcdppdkfplaa
