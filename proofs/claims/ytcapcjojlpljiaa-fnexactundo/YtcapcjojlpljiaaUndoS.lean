/-
  spec.Undo.
-/
import Derived.Test.YtcapcjojlpljiaaUndoP
import Derived.Test.YtcapcjojlpljiaaPatS
namespace Go.Proofs.Ytcapcjojlpljiaa
open Go.RowKit

set_option maxRecDepth 100000 in
set_option maxHeartbeats 4000000 in
theorem specUndo_any (a : Option Addr) (cap : Nat) (cs : List Ch) (w : World) (hcs : CS w a cs) (hn : cs.length ≤ 1048576) :
    Calls Try.prog 21 #[.agg #[.slice a cs.length cap]] w fun e w' => UndoPost cs w e w' := by
  obtain ⟨i0, hi, hz0, hz1, hzb⟩ := info_parts Try.infoChange
  have hal : Below w.heap.size w (((w.alloc (.cells #[.slice a cs.length cap] 40)).alloc (.cells #[.slice none 0 0] 40)).alloc (.cells #[.slice none 0 0] 40)) := (((Below.refl _ _).alloc (Nat.le_refl _) _).alloc (by simp) _).alloc (by simp; omega) _
  have m0 : (((w.alloc (.cells #[.slice a cs.length cap] 40)).alloc (.cells #[.slice none 0 0] 40)).alloc (.cells #[.slice none 0 0] 40)).cell? ⟨w.heap.size, 0, none⟩ = some (.slice a cs.length cap) := by simp [go_sem]
  have k0 : (((w.alloc (.cells #[.slice a cs.length cap] 40)).alloc (.cells #[.slice none 0 0] 40)).alloc (.cells #[.slice none 0 0] 40)).cell? ⟨w.heap.size + 1, 0, none⟩ = some (.slice none 0 0) := by simp [go_sem]
  have kf : (((w.alloc (.cells #[.slice a cs.length cap] 40)).alloc (.cells #[.slice none 0 0] 40)).alloc (.cells #[.slice none 0 0] 40)).frozen? ⟨w.heap.size + 1, 0, none⟩ = false := by simp [go_sem]
  have o0 : (((w.alloc (.cells #[.slice a cs.length cap] 40)).alloc (.cells #[.slice none 0 0] 40)).alloc (.cells #[.slice none 0 0] 40)).cell? ⟨w.heap.size + 1 + 1, 0, none⟩ = some (.slice none 0 0) := by simp [go_sem]
  have of0 : (((w.alloc (.cells #[.slice a cs.length cap] 40)).alloc (.cells #[.slice none 0 0] 40)).alloc (.cells #[.slice none 0 0] 40)).frozen? ⟨w.heap.size + 1 + 1, 0, none⟩ = false := by simp [go_sem]
  have os0 : w.heap.size + 1 + 1 < (((w.alloc (.cells #[.slice a cs.length cap] 40)).alloc (.cells #[.slice none 0 0] 40)).alloc (.cells #[.slice none 0 0] 40)).heap.size := by simp [go_sem]
  go_enter Try.func21, Try.ntmps21
  go_wp2_with fail
  refine (specPatch_any a cap cs _ (hcs.below hal) hn).mono ?_
  rintro e W0 ⟨vb, rfl, hvb, hb1⟩
  replace m0 := cell_later hb1 m0
  replace k0 := cell_later hb1 k0
  replace o0 := cell_later hb1 o0
  replace kf : W0.frozen? ⟨w.heap.size + 1, 0, none⟩ = false := (hb1.frozen (p := ⟨w.heap.size + 1, 0, none⟩) (by show w.heap.size + 1 < _; omega)).trans kf
  replace of0 : W0.frozen? ⟨w.heap.size + 1 + 1, 0, none⟩ = false := (hb1.frozen (p := ⟨w.heap.size + 1 + 1, 0, none⟩) os0).trans of0
  have os1 : w.heap.size + 1 + 1 < W0.heap.size := Nat.lt_of_lt_of_le os0 hb1.size
  have hbw := hal.trans (hb1.mono hal.size)
  have HV : Keep (vb = true ↔ ValidP cs) := ⟨hvb⟩
  clear hvb hb1 hal os0
  obtain ⟨ob, hob⟩ : ∃ ob, ob = w.heap.size + 1 + 1 := ⟨_, rfl⟩
  obtain ⟨g, hg⟩ : ∃ g, g = w.heap.size + 1 := ⟨_, rfl⟩
  obtain ⟨tb, htb⟩ : ∃ tb, tb = w.heap.size := ⟨_, rfl⟩
  rw [← hob] at o0 of0 os1 ⊢
  rw [← hg] at k0 kf ⊢
  rw [← htb] at m0 ⊢
  have HS : Keep (tb = w.heap.size ∧ g = tb + 1 ∧ ob = tb + 2 ∧ ob < W0.heap.size) := ⟨by omega⟩
  clear hob hg htb
  cases vb with
  | false =>
    have hnv : ¬ ValidP cs := fun h => by have := HV.out.2 h; cases this
    go_wp2
    refine bodyPost_ret (v := .agg #[.slice none ([] : List Ch).length 0]) ?_ rfl ⟨[], .inr ⟨hnv, rfl⟩, ⟨none, 0, rfl, CL.nil _ _ _⟩, hbw.setCell (p := ⟨g, 0, none⟩) (by have := HS.out; show _ ≤ g; omega) _⟩
    go_light
    simp [results, Try.results21, go_sem, k0]
  | true =>
    have hv := HV.out.1 rfl
    have hst0 := OutCh.start o0 of0 os1
    clear o0 of0 os1
    go_wp2
    go_loopw [4] (fun i wr => ∃ (k : Nat) (v : Value), i = .int .i64 k ∧ k ≤ cs.length ∧ OutCh ob W0 v ((cs.take k).map flipC) wr) (fun i _ => cs.length - (intOf i).toNat)
    case atStart => exact ⟨0, _, rfl, Nat.zero_le _, hst0⟩
    case round =>
      clear hst0
      obtain ⟨k, v, rfl, hk, hst⟩ := hrel
      have hbr := hst.below hbw (by have := HS.out; omega)
      have mr := hst.keep m0 (by have := HS.out; omega) (by have := HS.out; omega)
      have o1 := hst.cell
      by_cases hlt : k < cs.length
      · have hlt' : (k : Int) < cs.length := by omega
        obtain ⟨b, off, rfl, hc⟩ := (hcs.below hbr).at hlt
        obtain ⟨c0, c1, c2, c3, c4, c5, c6⟩ := hc k hlt
        clear hc
        have HT : Keep ((cs.take (k + 1)).map flipC = (cs.take k).map flipC ++ [flipC cs[k]]) := ⟨flips_take hlt⟩
        have hul : ((cs.take k).map flipC).length = k := by simp; omega
        have hb1 : Below wr.heap.size wr (wr.alloc (.cells #[.string cs[k].path, .bool cs[k].old.there, .string cs[k].old.text, .bool cs[k].old.runs, .bool cs[k].new.there, .string cs[k].new.text, .bool cs[k].new.runs] 64)) := (Below.refl _ _).alloc (Nat.le_refl _) _
        have hx : ChAt (wr.alloc (.cells #[.string cs[k].path, .bool cs[k].old.there, .string cs[k].old.text, .bool cs[k].old.runs, .bool cs[k].new.there, .string cs[k].new.text, .bool cs[k].new.runs] 64)) wr.heap.size 0 cs[k] := by simp [ChAt]
        have hst1 := hst.later hb1
        have o2 := cell_later hb1 o1
        go_upto_region 8 with fail
        generalize wr.alloc (.cells #[.string cs[k].path, .bool cs[k].old.there, .string cs[k].old.text, .bool cs[k].old.runs, .bool cs[k].new.there, .string cs[k].new.text, .bool cs[k].new.runs] 64) = Wa at *
        generalize (cs.take k).map flipC = us at *
        obtain ⟨x0, x1, x2, x3, x4, x5, x6⟩ := hx
        simp only [Nat.zero_add] at x0 x1 x2 x3 x4 x5 x6
        clear c0 c1 c2 c3 c4 c5 c6 mr o1 hst hbr hb1
        have hb2 : Below Wa.heap.size Wa (Wa.alloc (.cells #[.string (flipC cs[k]).path, .bool (flipC cs[k]).old.there, .string (flipC cs[k]).old.text, .bool (flipC cs[k]).old.runs, .bool (flipC cs[k]).new.there, .string (flipC cs[k]).new.text, .bool (flipC cs[k]).new.runs] 64)) := (Below.refl _ _).alloc (Nat.le_refl _) _
        go_wp2_with (first
          | (at_builtin; refine wpList_append_lies _ rfl _ _ 38 rfl W0.heap.size 64 i0 _ 7 80 Try.underlying38 hi hz0 hz1 hzb rfl (by decide) v us.length (ccells us) rfl (hst1.row.alloc _) ⟨Wa.heap.size, 0, none⟩ 1 1 (chL (flipC cs[k])) rfl rfl (news_7 Wa (flipC cs[k]) _ _ rfl) (one_7 _) (by omega) (by unfold maxLen; omega) (by omega) (by have := hst1.grown.size; simp; omega) (Wa.heap.size + 1) (by simp) ?_; intro g2 cap2 w2 hown2 hgrow2 hat2 hlt2; obtain ⟨hc2, hf2⟩ := hst1.mid hb2 hgrow2))
        have hst2 := hst1.append hb2 hgrow2 hown2
        rw [hul] at hst2
        clear hc2 hf2 hb2 hgrow2 hown2 hat2 hlt2 o2 x0 x1 x2 x3 x4 x5 x6 hst1
        go_roundw
        case rel => exact ⟨k + 1, _, by congr 1, hlt, by rw [HT.out]; exact hst2⟩
        case measure => simp only [intOf]; omega
      · obtain rfl : k = cs.length := by omega
        rw [List.take_length] at hst
        have k2 := hst.keep k0 (by have := HS.out; omega) (by have := HS.out; omega)
        have kf2 : wr.frozen? ⟨g, 0, none⟩ = false := frozen_of (hst.grown.block g (by have := HS.out; omega) (fun e => by have := HS.out; cases e; omega)) kf
        obtain ⟨ad, cap2, rfl⟩ := owns_slice hst.row
        have hcl := cl_of_row hst.row
        have hcl2 : CL w.heap.size (wr.setCell ⟨g, 0, none⟩ (.slice ad cs.length cap2)) ad (cs.map flipC) := (hcl.grown (row := some g) (grown_set0 wr g 0 (.slice ad cs.length cap2)) (fun j _ hj _ e => by have := HS.out; cases e; omega)).mono (show w.heap.size ≤ W0.heap.size by have := HS.out; omega)
        have HB : Keep (Below w.heap.size w (wr.setCell ⟨g, 0, none⟩ (.slice ad cs.length cap2))) := ⟨hbr.setCell (p := ⟨g, 0, none⟩) (by have := HS.out; show _ ≤ g; omega) _⟩
        clear hcl hst
        go_wp2
        refine bodyPost_ret (v := .agg #[.slice ad (cs.map flipC).length cap2]) ?_ rfl ⟨cs.map flipC, .inl ⟨hv, rfl⟩, ⟨ad, cap2, rfl, hcl2⟩, HB.out⟩
        go_light
        simp [results, Try.results21, go_sem, k2]
end Go.Proofs.Ytcapcjojlpljiaa
