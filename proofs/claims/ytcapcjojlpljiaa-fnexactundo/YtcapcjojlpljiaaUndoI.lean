/-
  impl.Undo.
-/
import Derived.Test.YtcapcjojlpljiaaPatS
import Derived.Test.YtcapcjojlpljiaaPatV
import Derived.Test.YtcapcjojlpljiaaRowR
import Derived.Test.YtcapcjojlpljiaaChgI
import Derived.Test.YtcapcjojlpljiaaUndoP
namespace Go.Proofs.Ytcapcjojlpljiaa
open Go.RowKit

theorem flip_ok {c : Ch} (h : chOk c = true) : sameF (flipC c).old (flipC c).new = false ∧ (flipC c).old.text.size ≤ 281474976710656 ∧ (flipC c).new.text.size ≤ 281474976710656 := by
  simp only [chOk, flOk, Bool.and_eq_true, decide_eq_true_eq, Bool.not_eq_true'] at h
  obtain ⟨⟨⟨_, h1, _⟩, h2, _⟩, h3⟩ := h
  refine ⟨?_, by show c.new.text.size ≤ _; omega, by show c.old.text.size ≤ _; omega⟩
  rw [Bool.eq_false_iff] at h3 ⊢
  intro e
  apply h3
  rw [same_iff] at e ⊢
  exact ⟨e.1.symm, e.2.1.symm, e.2.2.symm⟩

/-- What Undo gives, its room besides. -/
def UndoPostC (cs : List Ch) (w : World) (e : Ending) (w' : World) : Prop :=
  ∃ us, UndoRel cs us ∧ (∃ ad cap, e = .returned (.agg #[.slice ad us.length cap]) ∧ CL w.heap.size w' ad us ∧ us.length ≤ cap) ∧ Below w.heap.size w w'

set_option maxRecDepth 100000 in
set_option maxHeartbeats 4000000 in
theorem implUndoC_any (a : Option Addr) (cap : Nat) (cs : List Ch) (w : World) (hcs : CS w a cs) (hn : cs.length ≤ 1048576) (hz : ∀ c ∈ cs, c.path.size ≤ 1048576) :
    Calls Try.prog 22 #[.agg #[.slice a cs.length cap]] w fun e w' => UndoPostC cs w e w' := by
  have hal : Below w.heap.size w ((w.alloc (.cells #[.slice a cs.length cap] 40)).alloc (.cells #[.slice none 0 0] 40)) := ((Below.refl _ _).alloc (Nat.le_refl _) _).alloc (by simp) _
  have m0 : ((w.alloc (.cells #[.slice a cs.length cap] 40)).alloc (.cells #[.slice none 0 0] 40)).cell? ⟨w.heap.size, 0, none⟩ = some (.slice a cs.length cap) := by simp [go_sem]
  have k0 : ((w.alloc (.cells #[.slice a cs.length cap] 40)).alloc (.cells #[.slice none 0 0] 40)).cell? ⟨w.heap.size + 1, 0, none⟩ = some (.slice none 0 0) := by simp [go_sem]
  have kf : ((w.alloc (.cells #[.slice a cs.length cap] 40)).alloc (.cells #[.slice none 0 0] 40)).frozen? ⟨w.heap.size + 1, 0, none⟩ = false := by simp [go_sem]
  have os0 : w.heap.size + 1 < ((w.alloc (.cells #[.slice a cs.length cap] 40)).alloc (.cells #[.slice none 0 0] 40)).heap.size := by simp [go_sem]
  go_enter Try.func22, Try.ntmps22
  go_wp2_with fail
  refine (implPatch_any a cap cs _ (hcs.below hal) hn hz).mono ?_
  rintro e w1 ⟨vb, rfl, hvb, hb1⟩
  replace m0 := cell_later hb1 m0
  replace k0 := cell_later hb1 k0
  replace kf : w1.frozen? ⟨w.heap.size + 1, 0, none⟩ = false := (hb1.frozen (p := ⟨w.heap.size + 1, 0, none⟩) os0).trans kf
  have os1 : w.heap.size + 1 < w1.heap.size := Nat.lt_of_lt_of_le os0 hb1.size
  have hbw := hal.trans (hb1.mono hal.size)
  have HV : Keep (vb = true ↔ ValidP cs) := ⟨hvb⟩
  clear hvb hb1 hal os0
  obtain ⟨g, hg⟩ : ∃ g, g = w.heap.size + 1 := ⟨_, rfl⟩
  obtain ⟨tb, htb⟩ : ∃ tb, tb = w.heap.size := ⟨_, rfl⟩
  rw [← hg] at k0 kf ⊢
  rw [← htb] at m0 ⊢
  have HS : Keep (tb = w.heap.size ∧ g = tb + 1 ∧ g < w1.heap.size) := ⟨by omega⟩
  clear hg htb os1
  cases vb with
  | false =>
    have hnv : ¬ ValidP cs := fun h => by have := HV.out.2 h; cases this
    go_wp2
    refine bodyPost_ret (v := .agg #[.slice none ([] : List Ch).length 0]) ?_ rfl ⟨[], .inr ⟨hnv, rfl⟩, ⟨none, 0, rfl, CL.nil _ _ _, Nat.le_refl _⟩, hbw.setCell (p := ⟨g, 0, none⟩) (by have := HS.out; show _ ≤ g; omega) _⟩
    go_light
    simp [results, Try.results22, go_sem, k0]
  | true =>
    have hv := HV.out.1 rfl
    have hb2 : Below w1.heap.size w1 (w1.alloc (.cells #[.slice none 0 0] 40)) := (Below.refl _ _).alloc (Nat.le_refl _) _
    have o0 : (w1.alloc (.cells #[.slice none 0 0] 40)).cell? ⟨w1.heap.size, 0, none⟩ = some (.slice none 0 0) := by simp
    have of0 : (w1.alloc (.cells #[.slice none 0 0] 40)).frozen? ⟨w1.heap.size, 0, none⟩ = false := by simp
    have os2 : w1.heap.size < (w1.alloc (.cells #[.slice none 0 0] 40)).heap.size := by simp
    replace m0 := cell_later hb2 m0
    replace k0 := cell_later hb2 k0
    replace kf : (w1.alloc (.cells #[.slice none 0 0] 40)).frozen? ⟨g, 0, none⟩ = false := (hb2.frozen (p := ⟨g, 0, none⟩) (by have := HS.out; show g < _; omega)).trans kf
    replace hbw := hbw.trans (hb2.mono hbw.size)
    have hst0 := OutCh.start o0 of0 os2
    have HS2 : Keep (w1.heap.size < (w1.alloc (.cells #[.slice none 0 0] 40)).heap.size) := ⟨os2⟩
    clear o0 of0 os2 hb2
    go_wp2
    generalize w1.alloc (.cells #[.slice none 0 0] 40) = W0 at *
    obtain ⟨ob, hob⟩ : ∃ ob, ob = w1.heap.size := ⟨_, rfl⟩
    rw [← hob] at hst0 HS HS2 ⊢
    clear hob
    go_loopw [13] (fun i wr => ∃ (k : Nat) (v : Value), i = .int .i64 k ∧ k ≤ cs.length ∧ OutCh ob W0 v ((cs.take k).map flipC) wr) (fun i _ => cs.length - (intOf i).toNat)
    case atStart => exact ⟨0, _, rfl, Nat.zero_le _, hst0⟩
    case round =>
      clear hst0
      obtain ⟨k, v, rfl, hk, hst⟩ := hrel
      have hbr := hst.below hbw (by have := HS.out; omega)
      by_cases hlt : k < cs.length
      · have hlt' : (k : Int) < cs.length := by omega
        obtain ⟨b, off, rfl, hc⟩ := (hcs.below hbr).at hlt
        obtain ⟨c0, c1, c2, c3, c4, c5, c6⟩ := hc k hlt
        clear hc
        have HT : Keep ((cs.take (k + 1)).map flipC = (cs.take k).map flipC ++ [flipC cs[k]]) := ⟨flips_take hlt⟩
        have hul : ((cs.take k).map flipC).length ≤ 1048576 := by simp; omega
        obtain ⟨q1, q2, q3⟩ := flip_ok (hv.2 k hlt).2.1
        have hb1 : Below wr.heap.size wr (wr.alloc (.cells #[.string cs[k].path, .bool cs[k].old.there, .string cs[k].old.text, .bool cs[k].old.runs, .bool cs[k].new.there, .string cs[k].new.text, .bool cs[k].new.runs] 64)) := (Below.refl _ _).alloc (Nat.le_refl _) _
        have hch := change_any ob W0 v ((cs.take k).map flipC) (flipC cs[k]) (wr.alloc (.cells #[.string cs[k].path, .bool cs[k].old.there, .string cs[k].old.text, .bool cs[k].old.runs, .bool cs[k].new.there, .string cs[k].new.text, .bool cs[k].new.runs] 64)) (hst.later hb1) hul q1 (by have := hz cs[k] (List.getElem_mem hlt); show cs[k].path.size ≤ _; omega) q2 q3
        simp only [flV, flipC] at hch
        clear q1 q2 q3 hul
        go_wp2_with fail
        refine hch.mono ?_
        rintro e w2 ⟨rfl, ad2, cap2, hst2⟩
        clear hch hb1 c0 c1 c2 c3 c4 c5 c6 hst hbr
        go_wp2
        go_roundw
        case rel => exact ⟨k + 1, _, by congr 1, hlt, by rw [HT.out]; exact hst2⟩
        case measure => simp only [intOf]; omega
      · obtain rfl : k = cs.length := by omega
        rw [List.take_length] at hst
        have o1 := hst.cell
        have k2 := hst.keep k0 (by have := HS.out; have := HS2.out; omega) (by have := HS.out; omega)
        have kf2 : wr.frozen? ⟨g, 0, none⟩ = false := frozen_of (hst.grown.block g (by have := HS.out; have := HS2.out; omega) (fun e => by have := HS.out; cases e; omega)) kf
        obtain ⟨ad, cap2, rfl⟩ := owns_slice hst.row
        have HRM : Keep ((cs.map flipC).length ≤ cap2) := ⟨row_roomO hst.row⟩
        have hcl := cl_of_row hst.row
        have hcl2 : CL w.heap.size (wr.setCell ⟨g, 0, none⟩ (.slice ad cs.length cap2)) ad (cs.map flipC) := (hcl.grown (row := some g) (grown_set0 wr g 0 (.slice ad cs.length cap2)) (fun j _ hj _ e => by have := HS.out; have := HS2.out; cases e; omega)).mono (show w.heap.size ≤ W0.heap.size by have := HS.out; have := HS2.out; omega)
        have HB : Keep (Below w.heap.size w (wr.setCell ⟨g, 0, none⟩ (.slice ad cs.length cap2))) := ⟨hbr.setCell (p := ⟨g, 0, none⟩) (by have := HS.out; show _ ≤ g; omega) _⟩
        clear hcl hst
        go_wp2
        refine bodyPost_ret (v := .agg #[.slice ad (cs.map flipC).length cap2]) ?_ rfl ⟨cs.map flipC, .inl ⟨hv, rfl⟩, ⟨ad, cap2, rfl, hcl2, HRM.out⟩, HB.out⟩
        go_light
        simp [results, Try.results22, go_sem, k2]
theorem implUndo_any (a : Option Addr) (cap : Nat) (cs : List Ch) (w : World) (hcs : CS w a cs) (hn : cs.length ≤ 1048576) (hz : ∀ c ∈ cs, c.path.size ≤ 1048576) :
    Calls Try.prog 22 #[.agg #[.slice a cs.length cap]] w fun e w' => UndoPost cs w e w' :=
  (implUndoC_any a cap cs w hcs hn hz).mono (fun _ _ ⟨cs, h1, ⟨ad, cap, h2, h3, _⟩, h4⟩ => ⟨cs, h1, ⟨ad, cap, h2, h3⟩, h4⟩)
end Go.Proofs.Ytcapcjojlpljiaa
