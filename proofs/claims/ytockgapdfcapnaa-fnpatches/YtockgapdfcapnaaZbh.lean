/-
  UndoI, FrontC, SideC, JnB, JoinI, PjW, DrawMr: laid as one text.
-/
import Derived.Test.YtockgapdfcapnaaZbd
import Derived.Test.YtockgapdfcapnaaZbb
import Derived.Test.YtockgapdfcapnaaRowR
import Derived.Test.YtockgapdfcapnaaChgI
import Derived.Test.YtockgapdfcapnaaMrgP
import Derived.Test.YtockgapdfcapnaaZba
import Derived.Deep.RegionWith
import Derived.RangeFuncNested
import Derived.RangeFuncBound
import Derived.RangeFuncCalls
import Derived.RangeFuncLeaves
import Derived.Shelf.Abstract
import Derived.Shelf.RegionOpen
import Derived.WalkKit
import Derived.OwnWalkIn
import Derived.TacticsInMore
import Derived.LoopNIn
import Derived.LoopIn
import Derived.Sort.CutIn
import Derived.Test.YtockgapdfcapnaaZbg
import Derived.Test.YtockgapdfcapnaaZbe
import Derived.Test.YtockgapdfcapnaaZbf
namespace Go.Proofs.Ytockgapdfcapnaa
open Go.RowKit

theorem flip_ok {c : Ch} (h : chOk c = true) : sameF (flipC c).old (flipC c).new = false ∧ (flipC c).old.text.size ≤ 281474976710656 ∧ (flipC c).new.text.size ≤ 281474976710656 := by
  simp only [chOk, flOk, Bool.and_eq_true, decide_eq_true_eq, Bool.not_eq_true'] at h
  obtain ⟨⟨⟨_, h1, _⟩, h2, _⟩, h3⟩ := h
  refine ⟨?_, by show c.new.text.size ≤ _; omega, by show c.old.text.size ≤ _; omega⟩
  rw [Bool.eq_false_iff] at h3 ⊢
  intro e
  apply h3
  rw [same_iff] at e ⊢
  exact ⟨e.1.symm, e.2.1.symm, e.2.2.symm⟩

/-- What Undo gives, its room besides. -/
def UndoPostC (cs : List Ch) (w : World) (e : Ending) (w' : World) : Prop :=
  ∃ us, UndoRel cs us ∧ (∃ ad cap, e = .returned (.agg #[.slice ad us.length cap]) ∧ CL w.heap.size w' ad us ∧ us.length ≤ cap) ∧ Below w.heap.size w w'

set_option maxRecDepth 100000 in
set_option maxHeartbeats 4000000 in
theorem implUndoC_any (a : Option Addr) (cap : Nat) (cs : List Ch) (w : World) (hcs : CS w a cs) (hn : cs.length ≤ 1048576) (hz : ∀ c ∈ cs, c.path.size ≤ 1048576) :
    Calls Try.prog 16 #[.agg #[.slice a cs.length cap]] w fun e w' => UndoPostC cs w e w' := by
  have hal : Below w.heap.size w ((w.alloc (.cells #[.slice a cs.length cap] 37)).alloc (.cells #[.slice none 0 0] 37)) := ((Below.refl _ _).alloc (Nat.le_refl _) _).alloc (by simp) _
  have m0 : ((w.alloc (.cells #[.slice a cs.length cap] 37)).alloc (.cells #[.slice none 0 0] 37)).cell? ⟨w.heap.size, 0, none⟩ = some (.slice a cs.length cap) := by simp [go_sem]
  have k0 : ((w.alloc (.cells #[.slice a cs.length cap] 37)).alloc (.cells #[.slice none 0 0] 37)).cell? ⟨w.heap.size + 1, 0, none⟩ = some (.slice none 0 0) := by simp [go_sem]
  have kf : ((w.alloc (.cells #[.slice a cs.length cap] 37)).alloc (.cells #[.slice none 0 0] 37)).frozen? ⟨w.heap.size + 1, 0, none⟩ = false := by simp [go_sem]
  have os0 : w.heap.size + 1 < ((w.alloc (.cells #[.slice a cs.length cap] 37)).alloc (.cells #[.slice none 0 0] 37)).heap.size := by simp [go_sem]
  go_enter Try.func16, Try.ntmps16
  go_wp2_with fail
  refine (implPatch_any a cap cs _ (hcs.below hal) hn hz).mono ?_
  rintro e w1 ⟨vb, rfl, hvb, hb1⟩
  replace m0 := cell_later hb1 m0
  replace k0 := cell_later hb1 k0
  replace kf : w1.frozen? ⟨w.heap.size + 1, 0, none⟩ = false := (hb1.frozen (p := ⟨w.heap.size + 1, 0, none⟩) os0).trans kf
  have os1 : w.heap.size + 1 < w1.heap.size := Nat.lt_of_lt_of_le os0 hb1.size
  have hbw := hal.trans (hb1.mono hal.size)
  have HV : Keep (vb = true ↔ ValidP cs) := ⟨hvb⟩
  clear hvb hb1 hal os0
  obtain ⟨g, hg⟩ : ∃ g, g = w.heap.size + 1 := ⟨_, rfl⟩
  obtain ⟨tb, htb⟩ : ∃ tb, tb = w.heap.size := ⟨_, rfl⟩
  rw [← hg] at k0 kf ⊢
  rw [← htb] at m0 ⊢
  have HS : Keep (tb = w.heap.size ∧ g = tb + 1 ∧ g < w1.heap.size) := ⟨by omega⟩
  clear hg htb os1
  cases vb with
  | false =>
    have hnv : ¬ ValidP cs := fun h => by have := HV.out.2 h; cases this
    go_wp2
    refine bodyPost_ret (v := .agg #[.slice none ([] : List Ch).length 0]) ?_ rfl ⟨[], .inr ⟨hnv, rfl⟩, ⟨none, 0, rfl, CL.nil _ _ _, Nat.le_refl _⟩, hbw.setCell (p := ⟨g, 0, none⟩) (by have := HS.out; show _ ≤ g; omega) _⟩
    go_light
    simp [results, Try.results16, go_sem, k0]
  | true =>
    have hv := HV.out.1 rfl
    have hb2 : Below w1.heap.size w1 (w1.alloc (.cells #[.slice none 0 0] 37)) := (Below.refl _ _).alloc (Nat.le_refl _) _
    have o0 : (w1.alloc (.cells #[.slice none 0 0] 37)).cell? ⟨w1.heap.size, 0, none⟩ = some (.slice none 0 0) := by simp
    have of0 : (w1.alloc (.cells #[.slice none 0 0] 37)).frozen? ⟨w1.heap.size, 0, none⟩ = false := by simp
    have os2 : w1.heap.size < (w1.alloc (.cells #[.slice none 0 0] 37)).heap.size := by simp
    replace m0 := cell_later hb2 m0
    replace k0 := cell_later hb2 k0
    replace kf : (w1.alloc (.cells #[.slice none 0 0] 37)).frozen? ⟨g, 0, none⟩ = false := (hb2.frozen (p := ⟨g, 0, none⟩) (by have := HS.out; show g < _; omega)).trans kf
    replace hbw := hbw.trans (hb2.mono hbw.size)
    have hst0 := OutCh.start o0 of0 os2
    have HS2 : Keep (w1.heap.size < (w1.alloc (.cells #[.slice none 0 0] 37)).heap.size) := ⟨os2⟩
    clear o0 of0 os2 hb2
    go_wp2
    generalize w1.alloc (.cells #[.slice none 0 0] 37) = W0 at *
    obtain ⟨ob, hob⟩ : ∃ ob, ob = w1.heap.size := ⟨_, rfl⟩
    rw [← hob] at hst0 HS HS2 ⊢
    clear hob
    go_loopw [13] (fun i wr => ∃ (k : Nat) (v : Value), i = .int .i64 k ∧ k ≤ cs.length ∧ OutCh ob W0 v ((cs.take k).map flipC) wr) (fun i _ => cs.length - (intOf i).toNat)
    case atStart => exact ⟨0, _, rfl, Nat.zero_le _, hst0⟩
    case round =>
      clear hst0
      obtain ⟨k, v, rfl, hk, hst⟩ := hrel
      have hbr := hst.below hbw (by have := HS.out; omega)
      by_cases hlt : k < cs.length
      · have hlt' : (k : Int) < cs.length := by omega
        obtain ⟨b, off, rfl, hc⟩ := (hcs.below hbr).at hlt
        obtain ⟨c0, c1, c2, c3, c4, c5, c6⟩ := hc k hlt
        clear hc
        have HT : Keep ((cs.take (k + 1)).map flipC = (cs.take k).map flipC ++ [flipC cs[k]]) := ⟨flips_take hlt⟩
        have hul : ((cs.take k).map flipC).length ≤ 1048576 := by simp; omega
        obtain ⟨q1, q2, q3⟩ := flip_ok (hv.2 k hlt).2.1
        have hb1 : Below wr.heap.size wr (wr.alloc (.cells #[.string cs[k].path, .bool cs[k].old.there, .string cs[k].old.text, .bool cs[k].old.runs, .bool cs[k].new.there, .string cs[k].new.text, .bool cs[k].new.runs] 82)) := (Below.refl _ _).alloc (Nat.le_refl _) _
        have hch := change_any ob W0 v ((cs.take k).map flipC) (flipC cs[k]) (wr.alloc (.cells #[.string cs[k].path, .bool cs[k].old.there, .string cs[k].old.text, .bool cs[k].old.runs, .bool cs[k].new.there, .string cs[k].new.text, .bool cs[k].new.runs] 82)) (hst.later hb1) hul q1 (by have := hz cs[k] (List.getElem_mem hlt); show cs[k].path.size ≤ _; omega) q2 q3
        simp only [flV, flipC] at hch
        clear q1 q2 q3 hul
        go_wp2_with fail
        refine hch.mono ?_
        rintro e w2 ⟨rfl, ad2, cap2, hst2⟩
        clear hch hb1 c0 c1 c2 c3 c4 c5 c6 hst hbr
        go_wp2
        go_roundw
        case rel => exact ⟨k + 1, _, by congr 1, hlt, by rw [HT.out]; exact hst2⟩
        case measure => simp only [intOf]; omega
      · obtain rfl : k = cs.length := by omega
        rw [List.take_length] at hst
        have o1 := hst.cell
        have k2 := hst.keep k0 (by have := HS.out; have := HS2.out; omega) (by have := HS.out; omega)
        have kf2 : wr.frozen? ⟨g, 0, none⟩ = false := frozen_of (hst.grown.block g (by have := HS.out; have := HS2.out; omega) (fun e => by have := HS.out; cases e; omega)) kf
        obtain ⟨ad, cap2, rfl⟩ := owns_slice hst.row
        have HRM : Keep ((cs.map flipC).length ≤ cap2) := ⟨row_roomO hst.row⟩
        have hcl := cl_of_row hst.row
        have hcl2 : CL w.heap.size (wr.setCell ⟨g, 0, none⟩ (.slice ad cs.length cap2)) ad (cs.map flipC) := (hcl.grown (row := some g) (grown_set0 wr g 0 (.slice ad cs.length cap2)) (fun j _ hj _ e => by have := HS.out; have := HS2.out; cases e; omega)).mono (show w.heap.size ≤ W0.heap.size by have := HS.out; have := HS2.out; omega)
        have HB : Keep (Below w.heap.size w (wr.setCell ⟨g, 0, none⟩ (.slice ad cs.length cap2))) := ⟨hbr.setCell (p := ⟨g, 0, none⟩) (by have := HS.out; show _ ≤ g; omega) _⟩
        clear hcl hst
        go_wp2
        refine bodyPost_ret (v := .agg #[.slice ad (cs.map flipC).length cap2]) ?_ rfl ⟨cs.map flipC, .inl ⟨hv, rfl⟩, ⟨ad, cap2, rfl, hcl2, HRM.out⟩, HB.out⟩
        go_light
        simp [results, Try.results16, go_sem, k2]
theorem implUndo_any (a : Option Addr) (cap : Nat) (cs : List Ch) (w : World) (hcs : CS w a cs) (hn : cs.length ≤ 1048576) (hz : ∀ c ∈ cs, c.path.size ≤ 1048576) :
    Calls Try.prog 16 #[.agg #[.slice a cs.length cap]] w fun e w' => UndoPost cs w e w' :=
  (implUndoC_any a cap cs w hcs hn hz).mono (fun _ _ ⟨cs, h1, ⟨ad, cap, h2, h3, _⟩, h4⟩ => ⟨cs, h1, ⟨ad, cap, h2, h3⟩, h4⟩)
end Go.Proofs.Ytockgapdfcapnaa

namespace Go.Proofs.Ytockgapdfcapnaa
open Go.RowKit

set_option maxRecDepth 100000 in
set_option maxHeartbeats 4000000 in
theorem frontsC_any (a b : Option Addr) (ca cb : Nat) (ts : List Ch) (us : List Ch) (w : World) (hts : CS w a ts) (hus : CS w b us) :
    Calls Try.prog 75 #[.slice a ts.length ca, .slice b us.length cb] w fun e w' => e = .returned (.int .i64 (frontG Ch.path Ch.path ts us)) ∧ Below w.heap.size w w' := by
  cases ts with
  | nil =>
    go_enter Try.func75, Try.ntmps75
    go_wp2
    go_ret
    exact ⟨rfl, Below.refl _ _⟩
  | cons x ts =>
    obtain ⟨b1, o1, rfl, hc1⟩ := hts.at (k := 0) (by simp)
    obtain ⟨x0, x1, x2, x3, x4, x5, x6⟩ := hc1 0 (by simp)
    simp only [List.getElem_cons_zero, Nat.zero_mul, Nat.add_zero] at x0 x1 x2 x3 x4 x5 x6
    have hl1 : (((x :: ts).length : Int) == 0) = false := by simp; omega
    have hl1' : (0 : Int) < (x :: ts).length := by rw [List.length_cons]; omega
    clear hc1 hts
    cases us with
    | nil =>
      generalize (x :: ts).length = n1 at *
      go_enter Try.func75, Try.ntmps75
      go_wp2
      go_ret
      exact ⟨rfl, Below.refl _ _⟩
    | cons y us =>
      obtain ⟨b2, o2, rfl, hc2⟩ := hus.at (k := 0) (by simp)
      obtain ⟨y0, y1, y2, y3, y4, y5, y6⟩ := hc2 0 (by simp)
      simp only [List.getElem_cons_zero, Nat.zero_mul, Nat.add_zero] at y0 y1 y2 y3 y4 y5 y6
      have hl2 : (((y :: us).length : Int) == 0) = false := by simp; omega
      have hl2' : (0 : Int) < (y :: us).length := by rw [List.length_cons]; omega
      clear hc2 hus
      generalize (x :: ts).length = n1 at *
      generalize (y :: us).length = n2 at *
      have cx0 : ∀ z : Later w, z.world.cell? ⟨b1, o1, none⟩ = some (.string x.path) := fun z => cell_later z.kept x0
      have cx1 : ∀ z : Later w, z.world.cell? ⟨b1, o1 + 1, none⟩ = some (.bool x.old.there) := fun z => cell_later z.kept x1
      have cx2 : ∀ z : Later w, z.world.cell? ⟨b1, o1 + 2, none⟩ = some (.string x.old.text) := fun z => cell_later z.kept x2
      have cx3 : ∀ z : Later w, z.world.cell? ⟨b1, o1 + 3, none⟩ = some (.bool x.old.runs) := fun z => cell_later z.kept x3
      have cx4 : ∀ z : Later w, z.world.cell? ⟨b1, o1 + 4, none⟩ = some (.bool x.new.there) := fun z => cell_later z.kept x4
      have cx5 : ∀ z : Later w, z.world.cell? ⟨b1, o1 + 5, none⟩ = some (.string x.new.text) := fun z => cell_later z.kept x5
      have cx6 : ∀ z : Later w, z.world.cell? ⟨b1, o1 + 6, none⟩ = some (.bool x.new.runs) := fun z => cell_later z.kept x6
      have cy0 : ∀ z : Later w, z.world.cell? ⟨b2, o2, none⟩ = some (.string y.path) := fun z => cell_later z.kept y0
      have cy1 : ∀ z : Later w, z.world.cell? ⟨b2, o2 + 1, none⟩ = some (.bool y.old.there) := fun z => cell_later z.kept y1
      have cy2 : ∀ z : Later w, z.world.cell? ⟨b2, o2 + 2, none⟩ = some (.string y.old.text) := fun z => cell_later z.kept y2
      have cy3 : ∀ z : Later w, z.world.cell? ⟨b2, o2 + 3, none⟩ = some (.bool y.old.runs) := fun z => cell_later z.kept y3
      have cy4 : ∀ z : Later w, z.world.cell? ⟨b2, o2 + 4, none⟩ = some (.bool y.new.there) := fun z => cell_later z.kept y4
      have cy5 : ∀ z : Later w, z.world.cell? ⟨b2, o2 + 5, none⟩ = some (.string y.new.text) := fun z => cell_later z.kept y5
      have cy6 : ∀ z : Later w, z.world.cell? ⟨b2, o2 + 6, none⟩ = some (.bool y.new.runs) := fun z => cell_later z.kept y6
      have HC1 : Keep (∀ z : Later w, Calls Try.prog 120 #[.agg #[.string x.path, .bool x.old.there, .string x.old.text, .bool x.old.runs, .bool x.new.there, .string x.new.text, .bool x.new.runs]] z.world fun e w'' => e = .returned (.string x.path) ∧ ∃ q : Later w, w'' = q.world) := ⟨fun z => Later.call z (pathC_any x _)⟩
      have HC2 : Keep (∀ z : Later w, Calls Try.prog 120 #[.agg #[.string y.path, .bool y.old.there, .string y.old.text, .bool y.old.runs, .bool y.new.there, .string y.new.text, .bool y.new.runs]] z.world fun e w'' => e = .returned (.string y.path) ∧ ∃ q : Later w, w'' = q.world) := ⟨fun z => Later.call z (pathC_any y _)⟩
      have HC3 : Keep (∀ z : Later w, Calls Try.prog 82 #[.string x.path, .string y.path] z.world fun e w'' => e = .returned (.int .i64 (Lib.compareBytes x.path.data.toList y.path.data.toList)) ∧ ∃ q : Later w, w'' = q.world) := ⟨fun z => Later.call z ((compare_any x.path y.path z.world).mono (fun e w' h => ⟨h.1, by rw [h.2]; exact Below.refl _ _⟩))⟩
      have HCM : Keep (frontG Ch.path Ch.path (x :: ts) (y :: us) = Lib.compareBytes x.path.data.toList y.path.data.toList) := ⟨rfl⟩
      clear x0 x1 x2 x3 x4 x5 x6 y0 y1 y2 y3 y4 y5 y6
      have hmp := mp_c
      have hcp := cp_c
      go_enter Try.func75, Try.ntmps75
      go_upto_region 5 with fail
      (haveI := later_any; refine wp_region_later (by kernel_rfl) (by kernel_rfl) ?_; (repeat (go_big_quiet_step (first | (go_at_call_of 120 ([Value.agg #[.string x.path, .bool x.old.there, .string x.old.text, .bool x.old.runs, .bool x.new.there, .string x.new.text, .bool x.new.runs]] : List Value); exact HC1.out _) | (go_at_call_of 120 ([Value.agg #[.string y.path, .bool y.old.there, .string y.old.text, .bool y.old.runs, .bool y.new.there, .string y.new.text, .bool y.new.runs]] : List Value); exact HC2.out _) | (go_at_call 82; exact HC3.out _)))); refine wpQuiet_nil ?_; intro _ hwq; obtain ⟨xq, hwq2⟩ := hwq; subst hwq2)
      go_wp2
      go_ret
      exact ⟨by rw [HCM.out]; rfl, xq.kept⟩
end Go.Proofs.Ytockgapdfcapnaa

namespace Go.Proofs.Ytockgapdfcapnaa
open Go.RowKit Go.Shelf

attribute [local go_sem] Oper.semAt_some

abbrev PC : Type := ByteArray × Option Ch × Option Ch
def yC (x : PC) : Array Value := #[cutCV (x.2.1.getD noCh), cutCV (x.2.2.getD noCh)]

theorem two_boxesC {w A X : World} {t t2 : TypeId} (hA : A = (w.alloc (.cells #[.string ⟨#[]⟩, .bool false, .string ⟨#[]⟩, .bool false, .bool false, .string ⟨#[]⟩, .bool false] t)).alloc (.cells #[.string ⟨#[]⟩, .bool false, .string ⟨#[]⟩, .bool false, .bool false, .string ⟨#[]⟩, .bool false] t2)) (hb : Below A.heap.size A X) :
    (X.cell? ⟨w.heap.size, 0, none⟩ = some (.string ⟨#[]⟩) ∧ X.cell? ⟨w.heap.size, 1, none⟩ = some (.bool false) ∧ X.cell? ⟨w.heap.size, 2, none⟩ = some (.string ⟨#[]⟩) ∧ X.cell? ⟨w.heap.size, 3, none⟩ = some (.bool false) ∧ X.cell? ⟨w.heap.size, 4, none⟩ = some (.bool false) ∧ X.cell? ⟨w.heap.size, 5, none⟩ = some (.string ⟨#[]⟩) ∧ X.cell? ⟨w.heap.size, 6, none⟩ = some (.bool false)) ∧ (X.cell? ⟨w.heap.size + 1, 0, none⟩ = some (.string ⟨#[]⟩) ∧ X.cell? ⟨w.heap.size + 1, 1, none⟩ = some (.bool false) ∧ X.cell? ⟨w.heap.size + 1, 2, none⟩ = some (.string ⟨#[]⟩) ∧ X.cell? ⟨w.heap.size + 1, 3, none⟩ = some (.bool false) ∧ X.cell? ⟨w.heap.size + 1, 4, none⟩ = some (.bool false) ∧ X.cell? ⟨w.heap.size + 1, 5, none⟩ = some (.string ⟨#[]⟩) ∧ X.cell? ⟨w.heap.size + 1, 6, none⟩ = some (.bool false)) ∧ (∀ j, X.frozen? ⟨w.heap.size, j, none⟩ = false) ∧ ∀ j, X.frozen? ⟨w.heap.size + 1, j, none⟩ = false := by
  have hl : w.heap.size + 1 < A.heap.size := by rw [hA]; simp
  refine ⟨⟨cell_later hb (by rw [hA]; simp [go_sem]), cell_later hb (by rw [hA]; simp [go_sem]), cell_later hb (by rw [hA]; simp [go_sem]), cell_later hb (by rw [hA]; simp [go_sem]), cell_later hb (by rw [hA]; simp [go_sem]), cell_later hb (by rw [hA]; simp [go_sem]), cell_later hb (by rw [hA]; simp [go_sem])⟩, ⟨cell_later hb (by rw [hA]; simp [go_sem]), cell_later hb (by rw [hA]; simp [go_sem]), cell_later hb (by rw [hA]; simp [go_sem]), cell_later hb (by rw [hA]; simp [go_sem]), cell_later hb (by rw [hA]; simp [go_sem]), cell_later hb (by rw [hA]; simp [go_sem]), cell_later hb (by rw [hA]; simp [go_sem])⟩, fun j => ?_, fun j => ?_⟩
  · exact (hb.frozen (p := ⟨w.heap.size, j, none⟩) (by show w.heap.size < _; omega)).trans (by rw [hA]; simp [go_sem])
  · exact (hb.frozen (p := ⟨w.heap.size + 1, j, none⟩) (by show w.heap.size + 1 < _; omega)).trans (by rw [hA]; simp [go_sem])

def sideMemC (Ba Bb : Nat) (a b : Option Addr) (ca cb : Nat) (ts : List Ch) (us : List Ch) (W : World) : Prop :=
  W.cell? ⟨Ba, 0, none⟩ = some (.slice a ts.length ca) ∧ W.cell? ⟨Bb, 0, none⟩ = some (.slice b us.length cb) ∧ CS W a ts ∧ CS W b us

def mrgC (ts : List Ch) (us : List Ch) : List PC := mrg Ch.path Ch.path (ts.length + us.length) ts us

set_option maxRecDepth 100000 in
set_option maxHeartbeats 8000000 in
theorem sideC1_in (n l Ba Bb : Nat) (a b : Option Addr) (ca cb : Nat) (ts : List Ch) (us : List Ch) (hca : ts.length ≤ ca) (hcb : us.length ≤ cb) (hnt : ts.length ≤ 1048576) (hnu : us.length ≤ 1048576)
    (J Jx : List PC → World → Prop) (W : World)
    (hM : ∀ pre W1, J pre W1 → sideMemC Ba Bb a b ca cb ts us W1)
    (hJ : ∀ pre W1 W2, J pre W1 → Below W1.heap.size W1 W2 → J pre W2)
    (hY : ∀ pre x W1, J pre W1 → (∃ r, mrgC ts us = (pre ++ [x]) ++ r) → YieldAt Fence.wide (n - 1) Try.prog l (yC x) W1 fun e W' =>
      (e = .returned (.bool true) ∧ J (pre ++ [x]) W') ∨ (e = .returned (.bool false) ∧ Jx (pre ++ [x]) W'))
    (h0 : J [] W) :
    CallsIn Fence.wide n Try.prog 74 #[.func (.yield l) #[] #[], .pointer (some ⟨Ba, 0, none⟩), .pointer (some ⟨Bb, 0, none⟩)] W fun e W' => (∃ v, e = .returned v) ∧
      (J (mrgC ts us) W' ∨ (∃ pre, pre <+: mrgC ts us ∧ Jx pre W')) := by
  refine callsIn_of_wp Try.func74 rfl trivial ?_ rfl
  simp only [Try.ntmps74, List.size_toArray, List.length_cons, List.length_nil, Nat.reduceAdd, Nat.reduceSub, Array.replicate_succ, Array.replicate_zero, List.push_toArray, List.append_toArray, List.nil_append, List.cons_append]
  gi_wp2
  gi_loopw [4, 5] (fun i j wr => ∃ (p q f : Nat) (pre : List PC), i = .int .i64 p ∧ j = .int .i64 q ∧ p ≤ ts.length ∧ q ≤ us.length ∧ (ts.length - p) + (us.length - q) ≤ f ∧ mrgC ts us = pre ++ mrg Ch.path Ch.path f (ts.drop p) (us.drop q) ∧ J pre wr)
    (fun i j _ => (ts.length - (intOf i).toNat) + (us.length - (intOf j).toNat))
  case atStart => exact ⟨0, 0, ts.length + us.length, [], rfl, rfl, Nat.zero_le _, Nat.zero_le _, by omega, by simp [mrgC], h0⟩
  case round =>
    obtain ⟨p, q, f, pre, rfl, rfl, hp, hq, hf, hm, hJs⟩ := hrel
    obtain ⟨m1, m2, e1, e2⟩ := hM pre wr hJs
    by_cases hend : p = ts.length ∧ q = us.length
    · obtain ⟨rfl, rfl⟩ := hend
      have hE : mrgC ts us = pre := by
        rw [hm]
        cases f with
        | zero => simp [mrg]
        | succ f => simp [mrg]
      gi_wp2
      go_end0
      exact ⟨⟨_, rfl⟩, .inl (by rw [hE]; exact hJs)⟩
    · obtain ⟨ad1, c1, hs1, hes1⟩ := cutC a ca ts p hp hca
      obtain ⟨ad2, c2, hs2, hes2⟩ := cutC b cb us q hq hcb
      have hal : Below wr.heap.size wr ((wr.alloc (.cells #[.string ⟨#[]⟩, .bool false, .string ⟨#[]⟩, .bool false, .bool false, .string ⟨#[]⟩, .bool false] 82)).alloc (.cells #[.string ⟨#[]⟩, .bool false, .string ⟨#[]⟩, .bool false, .bool false, .string ⟨#[]⟩, .bool false] 82)) := ((Below.refl _ _).alloc (Nat.le_refl _) _).alloc (by simp) _
      obtain ⟨A, hA⟩ : ∃ A, A = (wr.alloc (.cells #[.string ⟨#[]⟩, .bool false, .string ⟨#[]⟩, .bool false, .bool false, .string ⟨#[]⟩, .bool false] 82)).alloc (.cells #[.string ⟨#[]⟩, .bool false, .string ⟨#[]⟩, .bool false, .bool false, .string ⟨#[]⟩, .bool false] 82) := ⟨_, rfl⟩
      rw [← hA] at hal
      have cm1 : ∀ z : Later A, z.world.cell? ⟨Ba, 0, none⟩ = some (.slice a ts.length ca) := fun z => cell_later z.kept (cell_later hal m1)
      have cm2 : ∀ z : Later A, z.world.cell? ⟨Bb, 0, none⟩ = some (.slice b us.length cb) := fun z => cell_later z.kept (cell_later hal m2)
      have HF : Keep (∀ z : Later A, Calls Try.prog 75 #[.slice ad1 (ts.drop p).length c1, .slice ad2 (us.drop q).length c2] z.world fun e w'' => e = .returned (.int .i64 (frontG Ch.path Ch.path (ts.drop p) (us.drop q))) ∧ ∃ y : Later A, w'' = y.world) := ⟨fun z => Later.call z (frontsC_any ad1 ad2 c1 c2 (ts.drop p) (us.drop q) z.world (hes1 _ ((e1.below hal).below z.kept)) (hes2 _ ((e2.below hal).below z.kept)))⟩
      generalize hda : (ts.drop p).length = na at hs1 HF
      generalize hdb : (us.drop q).length = nb at hs2 HF
      obtain ⟨f, rfl⟩ : ∃ f', f = f' + 1 := ⟨f - 1, by omega⟩
      have hnn : ¬ (ts.drop p = [] ∧ us.drop q = []) := fun h => hend ⟨by have := congrArg List.length h.1; simp at this; omega, by have := congrArg List.length h.2; simp at this; omega⟩
      generalize ho : frontG Ch.path Ch.path (ts.drop p) (us.drop q) = o at HF
      rcases Int.lt_trichotomy o 0 with hlt | heq | hgt
      · obtain ⟨x, tr, hd, hmr⟩ := frontG_lt (f := f) (by rw [ho]; exact hlt)
        obtain ⟨hpl, rfl, rfl⟩ := drop_cons hd
        rw [hmr] at hm
        rw [List.append_cons] at hm
        obtain ⟨b1, o1, rfl, hc1⟩ := e1.at hpl
        have hpl' : (p : Int) < ts.length := by omega
        have ho1 : o ≤ 0 := by omega
        have ho2 : ¬ 0 ≤ o := by omega
        clear hc1 hd hmr hnn ho hend hlt
        gi_wp2
        rw [← hA]
        refine wpIn_wide.2 ?_
        (haveI := later_any; refine wp_region_later (by kernel_rfl) (by kernel_rfl) ?_; (repeat (go_big_quiet_step (first | (go_at_call 75; exact HF.out _)))); refine wpQuiet_nil ?_; intro _ hwq; obtain ⟨xq, hwq2⟩ := hwq; subst hwq2)
        have hX := hal.trans (xq.kept.mono hal.size)
        obtain ⟨⟨b60, b61, b62, b63, b64, b65, b66⟩, ⟨b70, b71, b72, b73, b74, b75, b76⟩, f6, f7⟩ := two_boxesC hA xq.kept
        have HE1 : Keep (CS wr (some ⟨b1, o1, none⟩) ts) := ⟨e1⟩
        have HE2 : Keep (CS wr b us) := ⟨e2⟩
        have HM1 : Keep (wr.cell? ⟨Ba, 0, none⟩ = some (.slice (some ⟨b1, o1, none⟩) ts.length ca)) := ⟨m1⟩
        have HM2 : Keep (wr.cell? ⟨Bb, 0, none⟩ = some (.slice b us.length cb)) := ⟨m2⟩
        clear hs1 hs2 hes1 hes2 HF cm1 cm2 e1 e2 m1 m2 hA hal
        generalize xq.world = X at *
        clear xq
        obtain ⟨g6, hg6⟩ : ∃ g, g = wr.heap.size := ⟨_, rfl⟩
        obtain ⟨g7, hg7⟩ : ∃ g, g = wr.heap.size + 1 := ⟨_, rfl⟩
        rw [← hg7] at b70 b71 b72 b73 b74 b75 b76 f7 ⊢
        rw [← hg6] at b60 b61 b62 b63 b64 b65 b66 f6 ⊢
        have hn67 : ¬ g6 = g7 := by omega
        have HG : Keep (wr.heap.size ≤ g6 ∧ wr.heap.size ≤ g7) := ⟨by omega⟩
        clear hg6 hg7
        have q1 := cell_later hX HM1.out
        obtain ⟨x0, x1, x2, x3, x4, x5, x6⟩ := (HE1.out.below hX).cells hpl
        gi_upto_region 8 with fail
        replace hX := box7_below (.string ts[p].path) (.bool ts[p].old.there) (.string ts[p].old.text) (.bool ts[p].old.runs) (.bool ts[p].new.there) (.string ts[p].new.text) (.bool ts[p].new.runs) hX HG.out.1
        obtain ⟨z0, z1, z2, z3, z4, z5, z6⟩ := box7_set (.string ts[p].path) (.bool ts[p].old.there) (.string ts[p].old.text) (.bool ts[p].old.runs) (.bool ts[p].new.there) (.string ts[p].new.text) (.bool ts[p].new.runs) b60 b61 b62 b63 b64 b65 b66
        replace b70 := (box7_other (.string ts[p].path) (.bool ts[p].old.there) (.string ts[p].old.text) (.bool ts[p].old.runs) (.bool ts[p].new.there) (.string ts[p].new.text) (.bool ts[p].new.runs) hn67).trans b70
        replace b71 := (box7_other (.string ts[p].path) (.bool ts[p].old.there) (.string ts[p].old.text) (.bool ts[p].old.runs) (.bool ts[p].new.there) (.string ts[p].new.text) (.bool ts[p].new.runs) hn67).trans b71
        replace b72 := (box7_other (.string ts[p].path) (.bool ts[p].old.there) (.string ts[p].old.text) (.bool ts[p].old.runs) (.bool ts[p].new.there) (.string ts[p].new.text) (.bool ts[p].new.runs) hn67).trans b72
        replace b73 := (box7_other (.string ts[p].path) (.bool ts[p].old.there) (.string ts[p].old.text) (.bool ts[p].old.runs) (.bool ts[p].new.there) (.string ts[p].new.text) (.bool ts[p].new.runs) hn67).trans b73
        replace b74 := (box7_other (.string ts[p].path) (.bool ts[p].old.there) (.string ts[p].old.text) (.bool ts[p].old.runs) (.bool ts[p].new.there) (.string ts[p].new.text) (.bool ts[p].new.runs) hn67).trans b74
        replace b75 := (box7_other (.string ts[p].path) (.bool ts[p].old.there) (.string ts[p].old.text) (.bool ts[p].old.runs) (.bool ts[p].new.there) (.string ts[p].new.text) (.bool ts[p].new.runs) hn67).trans b75
        replace b76 := (box7_other (.string ts[p].path) (.bool ts[p].old.there) (.string ts[p].old.text) (.bool ts[p].old.runs) (.bool ts[p].new.there) (.string ts[p].new.text) (.bool ts[p].new.runs) hn67).trans b76
        replace f7 : ∀ j, (((((((X.setCell ⟨g6, 0, none⟩ (.string ts[p].path)).setCell ⟨g6, 1, none⟩ (.bool ts[p].old.there)).setCell ⟨g6, 2, none⟩ (.string ts[p].old.text)).setCell ⟨g6, 3, none⟩ (.bool ts[p].old.runs)).setCell ⟨g6, 4, none⟩ (.bool ts[p].new.there)).setCell ⟨g6, 5, none⟩ (.string ts[p].new.text)).setCell ⟨g6, 6, none⟩ (.bool ts[p].new.runs)).frozen? ⟨g7, j, none⟩ = false := fun j => (box7_fz (.string ts[p].path) (.bool ts[p].old.there) (.string ts[p].old.text) (.bool ts[p].old.runs) (.bool ts[p].new.there) (.string ts[p].new.text) (.bool ts[p].new.runs)).trans (f7 j)
        clear b60 b61 b62 b63 b64 b65 b66 x0 x1 x2 x3 x4 x5 x6 q1 f6
        generalize (((((((X.setCell ⟨g6, 0, none⟩ (.string ts[p].path)).setCell ⟨g6, 1, none⟩ (.bool ts[p].old.there)).setCell ⟨g6, 2, none⟩ (.string ts[p].old.text)).setCell ⟨g6, 3, none⟩ (.bool ts[p].old.runs)).setCell ⟨g6, 4, none⟩ (.bool ts[p].new.there)).setCell ⟨g6, 5, none⟩ (.string ts[p].new.text)).setCell ⟨g6, 6, none⟩ (.bool ts[p].new.runs)) = X2 at *
        clear X
        have hY3 : YieldAt Fence.wide (n - 1) Try.prog l #[.agg #[.string ts[p].path, .bool ts[p].old.there, .string ts[p].old.text, .bool ts[p].old.runs, .bool ts[p].new.there, .string ts[p].new.text, .bool ts[p].new.runs], .agg #[.string ⟨#[]⟩, .bool false, .string ⟨#[]⟩, .bool false, .bool false, .string ⟨#[]⟩, .bool false]] X2 (fun e W' => (e = .returned (.bool true) ∧ J (pre ++ [(ts[p].path, some ts[p], none)]) W') ∨ (e = .returned (.bool false) ∧ Jx (pre ++ [(ts[p].path, some ts[p], none)]) W')) := hY pre (ts[p].path, some ts[p], none) _ (hJ pre wr _ hJs hX) ⟨_, hm⟩
        obtain ⟨fn, tmps, assign, body, hy, hR⟩ := hY3
        have HM : Keep (mrgC ts us = pre ++ [(ts[p].path, some ts[p], none)] ++ mrg Ch.path Ch.path f (ts.drop (p + 1)) (us.drop (q))) := ⟨hm⟩
        clear hY hJ hM hm hJs hX
        gi_wp2
        refine ⟨fun h => Bool.noConfusion h, hR.mono ?_⟩
        rintro e W3 (⟨rfl, hJ3⟩ | ⟨rfl, hJx3⟩)
        · gi_wp2
          go_roundw
          case rel => exact ⟨p + 1, q, f, pre ++ [(ts[p].path, some ts[p], none)], by congr 1, by congr 1, by omega, by omega, by omega, HM.out, hJ3⟩
          case measure => simp only [intOf]; omega
        · gi_wp2
          refine bodyPost_ret (results_none rfl _ _ _) rfl ?_
          exact ⟨⟨_, rfl⟩, .inr ⟨pre ++ [(ts[p].path, some ts[p], none)], ⟨_, HM.out.symm⟩, hJx3⟩⟩
      · obtain ⟨x, tr, y, ur, hd, hd2, hmr⟩ := frontG_eq (f := f) (by rw [ho]; exact heq)
        obtain ⟨hpl, rfl, rfl⟩ := drop_cons hd
        obtain ⟨hql, rfl, rfl⟩ := drop_cons hd2
        rw [hmr] at hm
        rw [List.append_cons] at hm
        obtain ⟨b1, o1, rfl, hc1⟩ := e1.at hpl
        obtain ⟨b2, o2, rfl, hc2⟩ := e2.at hql
        have hpl' : (p : Int) < ts.length := by omega
        have hql' : (q : Int) < us.length := by omega
        subst heq
        clear hc1 hc2 hd hd2 hmr hnn ho hend
        gi_wp2
        rw [← hA]
        refine wpIn_wide.2 ?_
        (haveI := later_any; refine wp_region_later (by kernel_rfl) (by kernel_rfl) ?_; (repeat (go_big_quiet_step (first | (go_at_call 75; exact HF.out _)))); refine wpQuiet_nil ?_; intro _ hwq; obtain ⟨xq, hwq2⟩ := hwq; subst hwq2)
        have hX := hal.trans (xq.kept.mono hal.size)
        obtain ⟨⟨b60, b61, b62, b63, b64, b65, b66⟩, ⟨b70, b71, b72, b73, b74, b75, b76⟩, f6, f7⟩ := two_boxesC hA xq.kept
        have HE1 : Keep (CS wr (some ⟨b1, o1, none⟩) ts) := ⟨e1⟩
        have HE2 : Keep (CS wr (some ⟨b2, o2, none⟩) us) := ⟨e2⟩
        have HM1 : Keep (wr.cell? ⟨Ba, 0, none⟩ = some (.slice (some ⟨b1, o1, none⟩) ts.length ca)) := ⟨m1⟩
        have HM2 : Keep (wr.cell? ⟨Bb, 0, none⟩ = some (.slice (some ⟨b2, o2, none⟩) us.length cb)) := ⟨m2⟩
        clear hs1 hs2 hes1 hes2 HF cm1 cm2 e1 e2 m1 m2 hA hal
        generalize xq.world = X at *
        clear xq
        obtain ⟨g6, hg6⟩ : ∃ g, g = wr.heap.size := ⟨_, rfl⟩
        obtain ⟨g7, hg7⟩ : ∃ g, g = wr.heap.size + 1 := ⟨_, rfl⟩
        rw [← hg7] at b70 b71 b72 b73 b74 b75 b76 f7 ⊢
        rw [← hg6] at b60 b61 b62 b63 b64 b65 b66 f6 ⊢
        have hn67 : ¬ g6 = g7 := by omega
        have HG : Keep (wr.heap.size ≤ g6 ∧ wr.heap.size ≤ g7) := ⟨by omega⟩
        clear hg6 hg7
        have q1 := cell_later hX HM1.out
        obtain ⟨x0, x1, x2, x3, x4, x5, x6⟩ := (HE1.out.below hX).cells hpl
        gi_upto_region 8 with fail
        replace hX := box7_below (.string ts[p].path) (.bool ts[p].old.there) (.string ts[p].old.text) (.bool ts[p].old.runs) (.bool ts[p].new.there) (.string ts[p].new.text) (.bool ts[p].new.runs) hX HG.out.1
        obtain ⟨z0, z1, z2, z3, z4, z5, z6⟩ := box7_set (.string ts[p].path) (.bool ts[p].old.there) (.string ts[p].old.text) (.bool ts[p].old.runs) (.bool ts[p].new.there) (.string ts[p].new.text) (.bool ts[p].new.runs) b60 b61 b62 b63 b64 b65 b66
        replace b70 := (box7_other (.string ts[p].path) (.bool ts[p].old.there) (.string ts[p].old.text) (.bool ts[p].old.runs) (.bool ts[p].new.there) (.string ts[p].new.text) (.bool ts[p].new.runs) hn67).trans b70
        replace b71 := (box7_other (.string ts[p].path) (.bool ts[p].old.there) (.string ts[p].old.text) (.bool ts[p].old.runs) (.bool ts[p].new.there) (.string ts[p].new.text) (.bool ts[p].new.runs) hn67).trans b71
        replace b72 := (box7_other (.string ts[p].path) (.bool ts[p].old.there) (.string ts[p].old.text) (.bool ts[p].old.runs) (.bool ts[p].new.there) (.string ts[p].new.text) (.bool ts[p].new.runs) hn67).trans b72
        replace b73 := (box7_other (.string ts[p].path) (.bool ts[p].old.there) (.string ts[p].old.text) (.bool ts[p].old.runs) (.bool ts[p].new.there) (.string ts[p].new.text) (.bool ts[p].new.runs) hn67).trans b73
        replace b74 := (box7_other (.string ts[p].path) (.bool ts[p].old.there) (.string ts[p].old.text) (.bool ts[p].old.runs) (.bool ts[p].new.there) (.string ts[p].new.text) (.bool ts[p].new.runs) hn67).trans b74
        replace b75 := (box7_other (.string ts[p].path) (.bool ts[p].old.there) (.string ts[p].old.text) (.bool ts[p].old.runs) (.bool ts[p].new.there) (.string ts[p].new.text) (.bool ts[p].new.runs) hn67).trans b75
        replace b76 := (box7_other (.string ts[p].path) (.bool ts[p].old.there) (.string ts[p].old.text) (.bool ts[p].old.runs) (.bool ts[p].new.there) (.string ts[p].new.text) (.bool ts[p].new.runs) hn67).trans b76
        replace f7 : ∀ j, (((((((X.setCell ⟨g6, 0, none⟩ (.string ts[p].path)).setCell ⟨g6, 1, none⟩ (.bool ts[p].old.there)).setCell ⟨g6, 2, none⟩ (.string ts[p].old.text)).setCell ⟨g6, 3, none⟩ (.bool ts[p].old.runs)).setCell ⟨g6, 4, none⟩ (.bool ts[p].new.there)).setCell ⟨g6, 5, none⟩ (.string ts[p].new.text)).setCell ⟨g6, 6, none⟩ (.bool ts[p].new.runs)).frozen? ⟨g7, j, none⟩ = false := fun j => (box7_fz (.string ts[p].path) (.bool ts[p].old.there) (.string ts[p].old.text) (.bool ts[p].old.runs) (.bool ts[p].new.there) (.string ts[p].new.text) (.bool ts[p].new.runs)).trans (f7 j)
        clear b60 b61 b62 b63 b64 b65 b66 x0 x1 x2 x3 x4 x5 x6 q1 f6
        generalize (((((((X.setCell ⟨g6, 0, none⟩ (.string ts[p].path)).setCell ⟨g6, 1, none⟩ (.bool ts[p].old.there)).setCell ⟨g6, 2, none⟩ (.string ts[p].old.text)).setCell ⟨g6, 3, none⟩ (.bool ts[p].old.runs)).setCell ⟨g6, 4, none⟩ (.bool ts[p].new.there)).setCell ⟨g6, 5, none⟩ (.string ts[p].new.text)).setCell ⟨g6, 6, none⟩ (.bool ts[p].new.runs)) = X2 at *
        clear X
        have q2 := cell_later hX HM2.out
        obtain ⟨y0, y1, y2, y3, y4, y5, y6⟩ := (HE2.out.below hX).cells hql
        gi_upto_region 11 with fail
        replace hX := box7_below (.string us[q].path) (.bool us[q].old.there) (.string us[q].old.text) (.bool us[q].old.runs) (.bool us[q].new.there) (.string us[q].new.text) (.bool us[q].new.runs) hX HG.out.2
        obtain ⟨v0, v1, v2, v3, v4, v5, v6⟩ := box7_set (.string us[q].path) (.bool us[q].old.there) (.string us[q].old.text) (.bool us[q].old.runs) (.bool us[q].new.there) (.string us[q].new.text) (.bool us[q].new.runs) b70 b71 b72 b73 b74 b75 b76
        have hn76 : ¬ g7 = g6 := fun e => hn67 e.symm
        replace z0 := (box7_other (.string us[q].path) (.bool us[q].old.there) (.string us[q].old.text) (.bool us[q].old.runs) (.bool us[q].new.there) (.string us[q].new.text) (.bool us[q].new.runs) hn76).trans z0
        replace z1 := (box7_other (.string us[q].path) (.bool us[q].old.there) (.string us[q].old.text) (.bool us[q].old.runs) (.bool us[q].new.there) (.string us[q].new.text) (.bool us[q].new.runs) hn76).trans z1
        replace z2 := (box7_other (.string us[q].path) (.bool us[q].old.there) (.string us[q].old.text) (.bool us[q].old.runs) (.bool us[q].new.there) (.string us[q].new.text) (.bool us[q].new.runs) hn76).trans z2
        replace z3 := (box7_other (.string us[q].path) (.bool us[q].old.there) (.string us[q].old.text) (.bool us[q].old.runs) (.bool us[q].new.there) (.string us[q].new.text) (.bool us[q].new.runs) hn76).trans z3
        replace z4 := (box7_other (.string us[q].path) (.bool us[q].old.there) (.string us[q].old.text) (.bool us[q].old.runs) (.bool us[q].new.there) (.string us[q].new.text) (.bool us[q].new.runs) hn76).trans z4
        replace z5 := (box7_other (.string us[q].path) (.bool us[q].old.there) (.string us[q].old.text) (.bool us[q].old.runs) (.bool us[q].new.there) (.string us[q].new.text) (.bool us[q].new.runs) hn76).trans z5
        replace z6 := (box7_other (.string us[q].path) (.bool us[q].old.there) (.string us[q].old.text) (.bool us[q].old.runs) (.bool us[q].new.there) (.string us[q].new.text) (.bool us[q].new.runs) hn76).trans z6
        clear b70 b71 b72 b73 b74 b75 b76 y0 y1 y2 y3 y4 y5 y6 q2 f7
        generalize (((((((X2.setCell ⟨g7, 0, none⟩ (.string us[q].path)).setCell ⟨g7, 1, none⟩ (.bool us[q].old.there)).setCell ⟨g7, 2, none⟩ (.string us[q].old.text)).setCell ⟨g7, 3, none⟩ (.bool us[q].old.runs)).setCell ⟨g7, 4, none⟩ (.bool us[q].new.there)).setCell ⟨g7, 5, none⟩ (.string us[q].new.text)).setCell ⟨g7, 6, none⟩ (.bool us[q].new.runs)) = X3 at *
        have hY3 : YieldAt Fence.wide (n - 1) Try.prog l #[.agg #[.string ts[p].path, .bool ts[p].old.there, .string ts[p].old.text, .bool ts[p].old.runs, .bool ts[p].new.there, .string ts[p].new.text, .bool ts[p].new.runs], .agg #[.string us[q].path, .bool us[q].old.there, .string us[q].old.text, .bool us[q].old.runs, .bool us[q].new.there, .string us[q].new.text, .bool us[q].new.runs]] X3 (fun e W' => (e = .returned (.bool true) ∧ J (pre ++ [(ts[p].path, some ts[p], some us[q])]) W') ∨ (e = .returned (.bool false) ∧ Jx (pre ++ [(ts[p].path, some ts[p], some us[q])]) W')) := hY pre (ts[p].path, some ts[p], some us[q]) _ (hJ pre wr _ hJs hX) ⟨_, hm⟩
        obtain ⟨fn, tmps, assign, body, hy, hR⟩ := hY3
        have HM : Keep (mrgC ts us = pre ++ [(ts[p].path, some ts[p], some us[q])] ++ mrg Ch.path Ch.path f (ts.drop (p + 1)) (us.drop (q + 1))) := ⟨hm⟩
        clear hY hJ hM hm hJs hX
        gi_wp2
        refine ⟨fun h => Bool.noConfusion h, hR.mono ?_⟩
        rintro e W3 (⟨rfl, hJ3⟩ | ⟨rfl, hJx3⟩)
        · gi_wp2
          go_roundw
          case rel => exact ⟨p + 1, q + 1, f, pre ++ [(ts[p].path, some ts[p], some us[q])], by congr 1, by congr 1, by omega, by omega, by omega, HM.out, hJ3⟩
          case measure => simp only [intOf]; omega
        · gi_wp2
          refine bodyPost_ret (results_none rfl _ _ _) rfl ?_
          exact ⟨⟨_, rfl⟩, .inr ⟨pre ++ [(ts[p].path, some ts[p], some us[q])], ⟨_, HM.out.symm⟩, hJx3⟩⟩
      · obtain ⟨y, ur, hd, hmr⟩ := frontG_gt (f := f) (by rw [ho]; exact hgt) hnn
        obtain ⟨hql, rfl, rfl⟩ := drop_cons hd
        rw [hmr] at hm
        rw [List.append_cons] at hm
        obtain ⟨b2, o2, rfl, hc2⟩ := e2.at hql
        have hql' : (q : Int) < us.length := by omega
        have ho1 : ¬ o ≤ 0 := by omega
        have ho2 : 0 ≤ o := by omega
        clear hc2 hd hmr hnn ho hend hgt
        by_cases hpl : p < ts.length
        · have hpl' : (p : Int) < ts.length := by omega
          gi_wp2
          rw [← hA]
          refine wpIn_wide.2 ?_
          (haveI := later_any; refine wp_region_later (by kernel_rfl) (by kernel_rfl) ?_; (repeat (go_big_quiet_step (first | (go_at_call 75; exact HF.out _)))); refine wpQuiet_nil ?_; intro _ hwq; obtain ⟨xq, hwq2⟩ := hwq; subst hwq2)
          have hX := hal.trans (xq.kept.mono hal.size)
          obtain ⟨⟨b60, b61, b62, b63, b64, b65, b66⟩, ⟨b70, b71, b72, b73, b74, b75, b76⟩, f6, f7⟩ := two_boxesC hA xq.kept
          have HE1 : Keep (CS wr a ts) := ⟨e1⟩
          have HE2 : Keep (CS wr (some ⟨b2, o2, none⟩) us) := ⟨e2⟩
          have HM1 : Keep (wr.cell? ⟨Ba, 0, none⟩ = some (.slice a ts.length ca)) := ⟨m1⟩
          have HM2 : Keep (wr.cell? ⟨Bb, 0, none⟩ = some (.slice (some ⟨b2, o2, none⟩) us.length cb)) := ⟨m2⟩
          clear hs1 hs2 hes1 hes2 HF cm1 cm2 e1 e2 m1 m2 hA hal
          generalize xq.world = X at *
          clear xq
          obtain ⟨g6, hg6⟩ : ∃ g, g = wr.heap.size := ⟨_, rfl⟩
          obtain ⟨g7, hg7⟩ : ∃ g, g = wr.heap.size + 1 := ⟨_, rfl⟩
          rw [← hg7] at b70 b71 b72 b73 b74 b75 b76 f7 ⊢
          rw [← hg6] at b60 b61 b62 b63 b64 b65 b66 f6 ⊢
          have hn67 : ¬ g6 = g7 := by omega
          have HG : Keep (wr.heap.size ≤ g6 ∧ wr.heap.size ≤ g7) := ⟨by omega⟩
          clear hg6 hg7
          have q2 := cell_later hX HM2.out
          obtain ⟨y0, y1, y2, y3, y4, y5, y6⟩ := (HE2.out.below hX).cells hql
          gi_upto_region 11 with fail
          replace hX := box7_below (.string us[q].path) (.bool us[q].old.there) (.string us[q].old.text) (.bool us[q].old.runs) (.bool us[q].new.there) (.string us[q].new.text) (.bool us[q].new.runs) hX HG.out.2
          obtain ⟨v0, v1, v2, v3, v4, v5, v6⟩ := box7_set (.string us[q].path) (.bool us[q].old.there) (.string us[q].old.text) (.bool us[q].old.runs) (.bool us[q].new.there) (.string us[q].new.text) (.bool us[q].new.runs) b70 b71 b72 b73 b74 b75 b76
          have hn76 : ¬ g7 = g6 := fun e => hn67 e.symm
          replace b60 := (box7_other (.string us[q].path) (.bool us[q].old.there) (.string us[q].old.text) (.bool us[q].old.runs) (.bool us[q].new.there) (.string us[q].new.text) (.bool us[q].new.runs) hn76).trans b60
          replace b61 := (box7_other (.string us[q].path) (.bool us[q].old.there) (.string us[q].old.text) (.bool us[q].old.runs) (.bool us[q].new.there) (.string us[q].new.text) (.bool us[q].new.runs) hn76).trans b61
          replace b62 := (box7_other (.string us[q].path) (.bool us[q].old.there) (.string us[q].old.text) (.bool us[q].old.runs) (.bool us[q].new.there) (.string us[q].new.text) (.bool us[q].new.runs) hn76).trans b62
          replace b63 := (box7_other (.string us[q].path) (.bool us[q].old.there) (.string us[q].old.text) (.bool us[q].old.runs) (.bool us[q].new.there) (.string us[q].new.text) (.bool us[q].new.runs) hn76).trans b63
          replace b64 := (box7_other (.string us[q].path) (.bool us[q].old.there) (.string us[q].old.text) (.bool us[q].old.runs) (.bool us[q].new.there) (.string us[q].new.text) (.bool us[q].new.runs) hn76).trans b64
          replace b65 := (box7_other (.string us[q].path) (.bool us[q].old.there) (.string us[q].old.text) (.bool us[q].old.runs) (.bool us[q].new.there) (.string us[q].new.text) (.bool us[q].new.runs) hn76).trans b65
          replace b66 := (box7_other (.string us[q].path) (.bool us[q].old.there) (.string us[q].old.text) (.bool us[q].old.runs) (.bool us[q].new.there) (.string us[q].new.text) (.bool us[q].new.runs) hn76).trans b66
          clear b70 b71 b72 b73 b74 b75 b76 y0 y1 y2 y3 y4 y5 y6 q2 f7
          generalize (((((((X.setCell ⟨g7, 0, none⟩ (.string us[q].path)).setCell ⟨g7, 1, none⟩ (.bool us[q].old.there)).setCell ⟨g7, 2, none⟩ (.string us[q].old.text)).setCell ⟨g7, 3, none⟩ (.bool us[q].old.runs)).setCell ⟨g7, 4, none⟩ (.bool us[q].new.there)).setCell ⟨g7, 5, none⟩ (.string us[q].new.text)).setCell ⟨g7, 6, none⟩ (.bool us[q].new.runs)) = X3 at *
          have hY3 : YieldAt Fence.wide (n - 1) Try.prog l #[.agg #[.string ⟨#[]⟩, .bool false, .string ⟨#[]⟩, .bool false, .bool false, .string ⟨#[]⟩, .bool false], .agg #[.string us[q].path, .bool us[q].old.there, .string us[q].old.text, .bool us[q].old.runs, .bool us[q].new.there, .string us[q].new.text, .bool us[q].new.runs]] X3 (fun e W' => (e = .returned (.bool true) ∧ J (pre ++ [(us[q].path, none, some us[q])]) W') ∨ (e = .returned (.bool false) ∧ Jx (pre ++ [(us[q].path, none, some us[q])]) W')) := hY pre (us[q].path, none, some us[q]) _ (hJ pre wr _ hJs hX) ⟨_, hm⟩
          obtain ⟨fn, tmps, assign, body, hy, hR⟩ := hY3
          have HM : Keep (mrgC ts us = pre ++ [(us[q].path, none, some us[q])] ++ mrg Ch.path Ch.path f (ts.drop (p)) (us.drop (q + 1))) := ⟨hm⟩
          clear hY hJ hM hm hJs hX
          gi_wp2
          refine ⟨fun h => Bool.noConfusion h, hR.mono ?_⟩
          rintro e W3 (⟨rfl, hJ3⟩ | ⟨rfl, hJx3⟩)
          · gi_wp2
            go_roundw
            case rel => exact ⟨p, q + 1, f, pre ++ [(us[q].path, none, some us[q])], by congr 1, by congr 1, by omega, by omega, by omega, HM.out, hJ3⟩
            case measure => simp only [intOf]; omega
          · gi_wp2
            refine bodyPost_ret (results_none rfl _ _ _) rfl ?_
            exact ⟨⟨_, rfl⟩, .inr ⟨pre ++ [(us[q].path, none, some us[q])], ⟨_, HM.out.symm⟩, hJx3⟩⟩
        · have hpl' : ¬ (p : Int) < ts.length := by omega
          gi_wp2
          rw [← hA]
          refine wpIn_wide.2 ?_
          (haveI := later_any; refine wp_region_later (by kernel_rfl) (by kernel_rfl) ?_; (repeat (go_big_quiet_step (first | (go_at_call 75; exact HF.out _)))); refine wpQuiet_nil ?_; intro _ hwq; obtain ⟨xq, hwq2⟩ := hwq; subst hwq2)
          have hX := hal.trans (xq.kept.mono hal.size)
          obtain ⟨⟨b60, b61, b62, b63, b64, b65, b66⟩, ⟨b70, b71, b72, b73, b74, b75, b76⟩, f6, f7⟩ := two_boxesC hA xq.kept
          have HE1 : Keep (CS wr a ts) := ⟨e1⟩
          have HE2 : Keep (CS wr (some ⟨b2, o2, none⟩) us) := ⟨e2⟩
          have HM1 : Keep (wr.cell? ⟨Ba, 0, none⟩ = some (.slice a ts.length ca)) := ⟨m1⟩
          have HM2 : Keep (wr.cell? ⟨Bb, 0, none⟩ = some (.slice (some ⟨b2, o2, none⟩) us.length cb)) := ⟨m2⟩
          clear hs1 hs2 hes1 hes2 HF cm1 cm2 e1 e2 m1 m2 hA hal
          generalize xq.world = X at *
          clear xq
          obtain ⟨g6, hg6⟩ : ∃ g, g = wr.heap.size := ⟨_, rfl⟩
          obtain ⟨g7, hg7⟩ : ∃ g, g = wr.heap.size + 1 := ⟨_, rfl⟩
          rw [← hg7] at b70 b71 b72 b73 b74 b75 b76 f7 ⊢
          rw [← hg6] at b60 b61 b62 b63 b64 b65 b66 f6 ⊢
          have hn67 : ¬ g6 = g7 := by omega
          have HG : Keep (wr.heap.size ≤ g6 ∧ wr.heap.size ≤ g7) := ⟨by omega⟩
          clear hg6 hg7
          have q2 := cell_later hX HM2.out
          obtain ⟨y0, y1, y2, y3, y4, y5, y6⟩ := (HE2.out.below hX).cells hql
          gi_upto_region 11 with fail
          replace hX := box7_below (.string us[q].path) (.bool us[q].old.there) (.string us[q].old.text) (.bool us[q].old.runs) (.bool us[q].new.there) (.string us[q].new.text) (.bool us[q].new.runs) hX HG.out.2
          obtain ⟨v0, v1, v2, v3, v4, v5, v6⟩ := box7_set (.string us[q].path) (.bool us[q].old.there) (.string us[q].old.text) (.bool us[q].old.runs) (.bool us[q].new.there) (.string us[q].new.text) (.bool us[q].new.runs) b70 b71 b72 b73 b74 b75 b76
          have hn76 : ¬ g7 = g6 := fun e => hn67 e.symm
          replace b60 := (box7_other (.string us[q].path) (.bool us[q].old.there) (.string us[q].old.text) (.bool us[q].old.runs) (.bool us[q].new.there) (.string us[q].new.text) (.bool us[q].new.runs) hn76).trans b60
          replace b61 := (box7_other (.string us[q].path) (.bool us[q].old.there) (.string us[q].old.text) (.bool us[q].old.runs) (.bool us[q].new.there) (.string us[q].new.text) (.bool us[q].new.runs) hn76).trans b61
          replace b62 := (box7_other (.string us[q].path) (.bool us[q].old.there) (.string us[q].old.text) (.bool us[q].old.runs) (.bool us[q].new.there) (.string us[q].new.text) (.bool us[q].new.runs) hn76).trans b62
          replace b63 := (box7_other (.string us[q].path) (.bool us[q].old.there) (.string us[q].old.text) (.bool us[q].old.runs) (.bool us[q].new.there) (.string us[q].new.text) (.bool us[q].new.runs) hn76).trans b63
          replace b64 := (box7_other (.string us[q].path) (.bool us[q].old.there) (.string us[q].old.text) (.bool us[q].old.runs) (.bool us[q].new.there) (.string us[q].new.text) (.bool us[q].new.runs) hn76).trans b64
          replace b65 := (box7_other (.string us[q].path) (.bool us[q].old.there) (.string us[q].old.text) (.bool us[q].old.runs) (.bool us[q].new.there) (.string us[q].new.text) (.bool us[q].new.runs) hn76).trans b65
          replace b66 := (box7_other (.string us[q].path) (.bool us[q].old.there) (.string us[q].old.text) (.bool us[q].old.runs) (.bool us[q].new.there) (.string us[q].new.text) (.bool us[q].new.runs) hn76).trans b66
          clear b70 b71 b72 b73 b74 b75 b76 y0 y1 y2 y3 y4 y5 y6 q2 f7
          generalize (((((((X.setCell ⟨g7, 0, none⟩ (.string us[q].path)).setCell ⟨g7, 1, none⟩ (.bool us[q].old.there)).setCell ⟨g7, 2, none⟩ (.string us[q].old.text)).setCell ⟨g7, 3, none⟩ (.bool us[q].old.runs)).setCell ⟨g7, 4, none⟩ (.bool us[q].new.there)).setCell ⟨g7, 5, none⟩ (.string us[q].new.text)).setCell ⟨g7, 6, none⟩ (.bool us[q].new.runs)) = X3 at *
          have hY3 : YieldAt Fence.wide (n - 1) Try.prog l #[.agg #[.string ⟨#[]⟩, .bool false, .string ⟨#[]⟩, .bool false, .bool false, .string ⟨#[]⟩, .bool false], .agg #[.string us[q].path, .bool us[q].old.there, .string us[q].old.text, .bool us[q].old.runs, .bool us[q].new.there, .string us[q].new.text, .bool us[q].new.runs]] X3 (fun e W' => (e = .returned (.bool true) ∧ J (pre ++ [(us[q].path, none, some us[q])]) W') ∨ (e = .returned (.bool false) ∧ Jx (pre ++ [(us[q].path, none, some us[q])]) W')) := hY pre (us[q].path, none, some us[q]) _ (hJ pre wr _ hJs hX) ⟨_, hm⟩
          obtain ⟨fn, tmps, assign, body, hy, hR⟩ := hY3
          have HM : Keep (mrgC ts us = pre ++ [(us[q].path, none, some us[q])] ++ mrg Ch.path Ch.path f (ts.drop (p)) (us.drop (q + 1))) := ⟨hm⟩
          clear hY hJ hM hm hJs hX
          gi_wp2
          refine ⟨fun h => Bool.noConfusion h, hR.mono ?_⟩
          rintro e W3 (⟨rfl, hJ3⟩ | ⟨rfl, hJx3⟩)
          · gi_wp2
            go_roundw
            case rel => exact ⟨p, q + 1, f, pre ++ [(us[q].path, none, some us[q])], by congr 1, by congr 1, by omega, by omega, by omega, HM.out, hJ3⟩
            case measure => simp only [intOf]; omega
          · gi_wp2
            refine bodyPost_ret (results_none rfl _ _ _) rfl ?_
            exact ⟨⟨_, rfl⟩, .inr ⟨pre ++ [(us[q].path, none, some us[q])], ⟨_, HM.out.symm⟩, hJx3⟩⟩

set_option maxHeartbeats 400000 in
theorem sideC_any (a b : Option Addr) (n m ca cb : Nat) (w : World) :
    Calls Try.prog 51 #[.slice a n ca, .slice b m cb] w fun e w' => e = .returned (.func (.func 74) #[] #[.pointer (some ⟨w.heap.size, 0, none⟩), .pointer (some ⟨w.heap.size + 1, 0, none⟩)]) ∧ w' = (w.alloc (.cells #[.slice a n ca] 35)).alloc (.cells #[.slice b m cb] 35) := by
  go_enter Try.func51, Try.ntmps51
  go_wp2
  go_ret
  exact ⟨by simp, rfl⟩
end Go.Proofs.Ytockgapdfcapnaa

namespace Go.Proofs.Ytockgapdfcapnaa
open Go.RowKit Go.Shelf

theorem sideC_iter (Ba Bb : Nat) (a b : Option Addr) (ca cb : Nat) (ts us : List Ch) (hca : ts.length ≤ ca) (hcb : us.length ≤ cb) (hnt : ts.length ≤ 1048576) (hnu : us.length ≤ 1048576) :
    Iter 74 #[.pointer (some ⟨Ba, 0, none⟩), .pointer (some ⟨Bb, 0, none⟩)] yC (mrgC ts us) (sideMemC Ba Bb a b ca cb ts us) :=
  fun n l J Jx W hM hJ hY h0 => sideC1_in n l Ba Bb a b ca cb ts us hca hcb hnt hnu J Jx W hM hJ hY h0

theorem OutCh.own_lt {h : Nat} {W0 W : World} {v : Value} {us : List Ch} (s : OutCh h W0 v us W) {k : Nat} (hk : v.ownBlock = some k) : k < W.heap.size := by
  rcases s.row.2 with ⟨e, _⟩ | ⟨g, cap, cur, e, _, hg, _⟩
  · rw [e] at hk; simp [Value.ownBlock] at hk
  · rw [e] at hk; simp [Value.ownBlock] at hk; subst hk; exact (Array.getElem?_eq_some_iff.1 hg).1
theorem OutCh.other {h B : Nat} {W0 W W' : World} {v : Value} {us : List Ch} (s : OutCh h W0 v us W) (hg : W.grownBy W' (some B)) (hB : W0.heap.size ≤ B) (hv : v.ownBlock ≠ some B) : OutCh h W0 v us W' := by
  have hl := s.lt
  have hh := hg.block h s.size (fun e => by cases e; omega)
  refine ⟨(World.cell?_of_block hh).trans s.cell, frozen_of hh s.fz, s.row.kept hg (Or.inr hv), ⟨hg.os.trans s.grown.os, hg.tape.trans s.grown.tape, hg.output.trans s.grown.output, Nat.le_trans s.grown.size hg.size, fun k hk hne => ?_⟩, hl⟩
  exact (hg.block k (Nat.lt_of_lt_of_le hk s.grown.size) (fun e => by cases e; omega)).trans (s.grown.block k hk hne)
theorem OutCh.putJ {h l : Nat} {W0 W : World} {v : Value} {us : List Ch} (s : OutCh h W0 v us W) (o : Obj) (hl : l < W0.heap.size) (hne : l ≠ h) : OutCh h (W0.putObj l o) v us (W.putObj l o) := by
  have hb : ∀ (X : World) (k : Nat), k ≠ l → (X.putObj l o).heap[k]? = X.heap[k]? := fun X k hk => World.putObj_heap_other hk
  have hh := hb W h (fun e => hne e.symm)
  have hg : W.grownBy (W.putObj l o) (some l) := ⟨rfl, rfl, rfl, by simp, fun k _ hk => hb W k (fun e => hk (by rw [e]))⟩
  have hlW := Nat.lt_of_lt_of_le hl s.grown.size
  refine ⟨(World.cell?_of_block hh).trans s.cell, frozen_of hh s.fz, ?_, ⟨s.grown.os, s.grown.tape, s.grown.output, by simpa using s.grown.size, fun k hk hkh => ?_⟩, by simpa using s.lt⟩
  · have h1 := s.row.kept hg (Or.inr (fun e => by have := owns_row_ge s.row e; omega))
    simpa using h1
  · have hk' : k < W0.heap.size := by simpa using hk
    by_cases e : k = l
    · subst e
      rw [World.putObj_heap_same hlW, World.putObj_heap_same hl]
    · rw [hb W k e, hb W0 k e]
      exact s.grown.block k hk' hkh

def chgL (p : ByteArray) (f g : Fl) : List Ch := if sameF f g = true then [] else [⟨p, f, g⟩]
theorem chg_pair (ob : Nat) (Wz : World) (v : Value) (us : List Ch) (p : ByteArray) (f g : Fl) (w : World) (hst : OutCh ob Wz v us w) (hul : us.length ≤ 1048576) (hp : p.size ≤ 1048576) (hx : f.text.size ≤ 1048576) (hy : g.text.size ≤ 1048576) :
    Calls Try.prog 41 #[.pointer (some ⟨ob, 0, none⟩), .string p, .agg #[.bool f.there, .string f.text, .bool f.runs], .agg #[.bool g.there, .string g.text, .bool g.runs]] w fun e w' => e = .returned (.tuple #[]) ∧ ∃ v', OutCh ob Wz v' (us ++ chgL p f g) w' := by
  unfold chgL
  cases hs : sameF f g with
  | true =>
    refine (change_none ob p f g w hs).mono ?_
    rintro e w' ⟨rfl, hb⟩
    exact ⟨rfl, v, by simpa using hst.later hb⟩
  | false =>
    refine (change_any ob Wz v us ⟨p, f, g⟩ w hst hul hs (by show p.size ≤ _; omega) (by show f.text.size ≤ _; omega) (by show g.text.size ≤ _; omega)).mono ?_
    rintro e w' ⟨rfl, ad, cap, h⟩
    exact ⟨rfl, _, by simpa using h⟩

def outsJ (pre : List PC) : List Ch := pre.flatMap fun x => outJ2 x.1 x.2.1 x.2.2
theorem outsJ_snoc (pre : List PC) (x : PC) : outsJ (pre ++ [x]) = outsJ pre ++ outJ2 x.1 x.2.1 x.2.2 := by simp [outsJ]
theorem outsJ_len (pre : List PC) : (outsJ pre).length ≤ pre.length := by
  induction pre with
  | nil => simp [outsJ]
  | cons x pre ih =>
    have h1 : outsJ (x :: pre) = outJ2 x.1 x.2.1 x.2.2 ++ outsJ pre := by simp [outsJ]
    have h2 := outJ2_len x.1 x.2.1 x.2.2
    rw [h1, List.length_append, List.length_cons]
    omega
theorem validP_ok {cs : List Ch} (h : ValidP cs) {c : Ch} (hc : c ∈ cs) : chOk c = true := by
  obtain ⟨i, hi, rfl⟩ := List.getElem_of_mem hc
  obtain ⟨_, h1, _⟩ := h.2 i hi
  exact h1
theorem validP_asc {cs : List Ch} (h : ValidP cs) : AscK Ch.path cs := by
  have key : ∀ i, i < cs.length → ∀ j, j < i → ∀ (hi : i < cs.length) (hj : j < cs.length), Op.bytesLess cs[j].path.toList cs[i].path.toList = true := by
    intro i
    induction i with
    | zero => intro _ j hj; omega
    | succ i ih =>
      intro hi j hj hi' hj'
      obtain ⟨_, _, h1⟩ := h.2 (i + 1) hi
      have h2 := h1 i rfl (by omega)
      by_cases e : j = i
      · subst e; exact h2
      · exact less_trans (ih (by omega) j (by omega) (by omega) hj') h2
  exact List.pairwise_iff_getElem.2 fun i j hi hj hij => key j hj i hij hj hi
theorem mrgC_is {p q : List Ch} (hp : ValidP p) (hq : ValidP q) : mrgC p q = (joinNs p q).map fun n => (n, fnd Ch.path p n, fnd Ch.path q n) :=
  mrg_eq Ch.path Ch.path (p.length + q.length) p q (joinNs p q) (Nat.le_refl _) (validP_asc hp) (validP_asc hq) (joinNs_mem p q).1 (joinNs_mem p q).2
theorem outs_join {p q : List Ch} (hp : ValidP p) (hq : ValidP q) : outsJ (mrgC p q) = joinN p q (joinNs p q) := by
  rw [mrgC_is hp hq]
  unfold outsJ joinN
  rw [List.flatMap_map]
  rfl
theorem mrg_lenJ {α β : Type} (pa : α → ByteArray) (pb : β → ByteArray) : ∀ (n : Nat) (ts : List α) (us : List β), (mrg pa pb n ts us).length ≤ n
  | 0, _, _ => by simp [mrg]
  | n + 1, [], [] => by simp [mrg]
  | n + 1, [], y :: us => by have := mrg_lenJ pa pb n [] us; simp only [mrg, List.length_cons]; omega
  | n + 1, x :: ts, [] => by have := mrg_lenJ pa pb n ts []; simp only [mrg, List.length_cons]; omega
  | n + 1, x :: ts, y :: us => by
    have h1 := mrg_lenJ pa pb n ts (y :: us)
    have h2 := mrg_lenJ pa pb n (x :: ts) us
    have h3 := mrg_lenJ pa pb n ts us
    simp only [mrg]
    split
    · simp only [List.length_cons]; omega
    · split
      · simp only [List.length_cons]; omega
      · simp only [List.length_cons]; omega
/-- Which of the two lists have a path. -/
theorem mrgC_cases {p q : List Ch} (hp : ValidP p) (hq : ValidP q) {x : PC} (hx : x ∈ mrgC p q) :
    (∃ d ∈ q, x = (d.path, none, some d)) ∨ (∃ c ∈ p, x = (c.path, some c, none)) ∨ ∃ c ∈ p, ∃ d ∈ q, d.path = c.path ∧ x = (c.path, some c, some d) := by
  rw [mrgC_is hp hq] at hx
  obtain ⟨n, hn, rfl⟩ := List.mem_map.1 hx
  cases h1 : fnd Ch.path p n with
  | none =>
    cases h2 : fnd Ch.path q n with
    | none =>
      exfalso
      rcases (joinNs_mem p q).2 n |>.1 hn with ⟨z, hz, hzn⟩ | ⟨z, hz, hzn⟩
      · unfold fnd at h1
        rw [List.find?_eq_none] at h1
        exact h1 z hz (eqb_iff.2 hzn)
      · unfold fnd at h2
        rw [List.find?_eq_none] at h2
        exact h2 z hz (eqb_iff.2 hzn)
    | some d =>
      obtain ⟨h3, rfl⟩ := fnd_some h2
      exact .inl ⟨d, h3, rfl⟩
  | some c =>
    obtain ⟨h3, rfl⟩ := fnd_some h1
    cases h2 : fnd Ch.path q c.path with
    | none => exact .inr (.inl ⟨c, h3, rfl⟩)
    | some d =>
      obtain ⟨h4, h5⟩ := fnd_some h2
      exact .inr (.inr ⟨c, h3, d, h4, h5, rfl⟩)
theorem chOk_parts {c : Ch} (h : chOk c = true) : (c.path.toList == ([] : List UInt8)) = false ∧ sameF c.old c.new = false ∧ c.old.text.size ≤ 1500 ∧ c.new.text.size ≤ 1500 := by
  simp only [chOk, flOk, Bool.and_eq_true, decide_eq_true_eq, Bool.not_eq_true'] at h
  obtain ⟨⟨⟨h1, h2, _⟩, h3, _⟩, h4⟩ := h
  refine ⟨?_, h4, h2, h3⟩
  rw [Bool.eq_false_iff]
  intro e
  have e1 : c.path = ⟨#[]⟩ := WideShapes.bytes_inj (by rw [← Lib.toList_data, (by simpa using e : c.path.toList = [])])
  rw [e1] at h1
  revert h1
  decide
end Go.Proofs.Ytockgapdfcapnaa

namespace Go.Proofs.Ytockgapdfcapnaa
open Go.RowKit Go.Shelf

attribute [local go_sem] Oper.semAt_some

def JnI (wl : World) (ob : Nat) (pre : List PC) (W : World) : Prop :=
  (∀ x ∈ pre, clJ2 x.2.1 x.2.2 = false) ∧ ∃ Wz v, Wz.heap.size = wl.heap.size + 2 ∧ Below wl.heap.size wl Wz ∧ OutCh ob Wz v (outsJ pre) W
def JnX (w : World) (g h : Nat) (pre : List PC) (W : World) : Prop :=
  (∃ x ∈ pre, clJ2 x.2.1 x.2.2 = true) ∧ Below w.heap.size w W ∧ W.cell? ⟨g, 0, none⟩ = some (.slice none 0 0) ∧ W.cell? ⟨h, 0, none⟩ = some (.bool false)

/-- What Join gives, its room besides. -/
def JoinPostC (p q : List Ch) (w : World) (e : Ending) (w' : World) : Prop :=
  ∃ cs ok, JoinRel p q cs ok ∧ (∃ ad cap, e = .returned (.tuple #[.agg #[.slice ad cs.length cap], .bool ok]) ∧ CL w.heap.size w' ad cs ∧ cs.length ≤ cap) ∧ Below w.heap.size w w'

set_option maxRecDepth 100000 in
set_option maxHeartbeats 40000000 in
theorem implJoinC_any (a b : Option Addr) (ca cb : Nat) (ps qs : List Ch) (w : World) (hps : CS w a ps) (hqs : CS w b qs) (hn : ps.length ≤ 1048576) (hnb : qs.length ≤ 1048576) (hca : ps.length ≤ ca) (hcb : qs.length ≤ cb) (hz : ∀ c ∈ ps, c.path.size ≤ 1048576) (hzb : ∀ c ∈ qs, c.path.size ≤ 1048576) :
    Calls Try.prog 18 #[.agg #[.slice a ps.length ca], .agg #[.slice b qs.length cb]] w fun e w' => JoinPostC ps qs w e w' := by
  have hal : Below w.heap.size w ((((w.alloc (.cells #[.slice a ps.length ca] 37)).alloc (.cells #[.slice b qs.length cb] 37)).alloc (.cells #[.slice none 0 0] 37)).alloc (.cells #[.bool false] 4)) := ((((Below.refl _ _).alloc (Nat.le_refl _) _).alloc (by simp) _).alloc (by simp; omega) _).alloc (by simp; omega) _
  have m0 : ((((w.alloc (.cells #[.slice a ps.length ca] 37)).alloc (.cells #[.slice b qs.length cb] 37)).alloc (.cells #[.slice none 0 0] 37)).alloc (.cells #[.bool false] 4)).cell? ⟨w.heap.size, 0, none⟩ = some (.slice a ps.length ca) := by simp [go_sem]
  have m1 : ((((w.alloc (.cells #[.slice a ps.length ca] 37)).alloc (.cells #[.slice b qs.length cb] 37)).alloc (.cells #[.slice none 0 0] 37)).alloc (.cells #[.bool false] 4)).cell? ⟨w.heap.size + 1, 0, none⟩ = some (.slice b qs.length cb) := by simp [go_sem]
  have k0 : ((((w.alloc (.cells #[.slice a ps.length ca] 37)).alloc (.cells #[.slice b qs.length cb] 37)).alloc (.cells #[.slice none 0 0] 37)).alloc (.cells #[.bool false] 4)).cell? ⟨w.heap.size + 1 + 1, 0, none⟩ = some (.slice none 0 0) := by simp [go_sem]
  have kf : ((((w.alloc (.cells #[.slice a ps.length ca] 37)).alloc (.cells #[.slice b qs.length cb] 37)).alloc (.cells #[.slice none 0 0] 37)).alloc (.cells #[.bool false] 4)).frozen? ⟨w.heap.size + 1 + 1, 0, none⟩ = false := by simp [go_sem]
  have h0 : ((((w.alloc (.cells #[.slice a ps.length ca] 37)).alloc (.cells #[.slice b qs.length cb] 37)).alloc (.cells #[.slice none 0 0] 37)).alloc (.cells #[.bool false] 4)).cell? ⟨w.heap.size + 1 + 1 + 1, 0, none⟩ = some (.bool false) := by simp [go_sem]
  have hf : ((((w.alloc (.cells #[.slice a ps.length ca] 37)).alloc (.cells #[.slice b qs.length cb] 37)).alloc (.cells #[.slice none 0 0] 37)).alloc (.cells #[.bool false] 4)).frozen? ⟨w.heap.size + 1 + 1 + 1, 0, none⟩ = false := by simp [go_sem]
  have os0 : w.heap.size + 1 + 1 + 1 < ((((w.alloc (.cells #[.slice a ps.length ca] 37)).alloc (.cells #[.slice b qs.length cb] 37)).alloc (.cells #[.slice none 0 0] 37)).alloc (.cells #[.bool false] 4)).heap.size := by simp [go_sem]
  refine (callsIn_wide (n := 5)).1 ?_
  refine callsIn_of_wp_marks Try.func18 rfl trivial ?_ rfl
  simp only [Try.ntmps18, List.size_toArray, List.length_cons, List.length_nil, Nat.reduceAdd, Nat.reduceSub, Array.replicate_succ, Array.replicate_zero, List.push_toArray, List.append_toArray, List.nil_append, List.cons_append]
  gi_wp2_with fail
  refine ⟨trivial, ?_⟩
  refine (callsIn_wide.2 (implPatch_any a ca ps _ (hps.below hal) hn hz)).mono ?_
  rintro e w1 ⟨vb, rfl, hvb, hb1⟩
  replace m0 := cell_later hb1 m0
  replace m1 := cell_later hb1 m1
  replace k0 := cell_later hb1 k0
  replace h0 := cell_later hb1 h0
  replace kf : w1.frozen? ⟨w.heap.size + 1 + 1, 0, none⟩ = false := (hb1.frozen (p := ⟨w.heap.size + 1 + 1, 0, none⟩) (by show w.heap.size + 1 + 1 < _; omega)).trans kf
  replace hf : w1.frozen? ⟨w.heap.size + 1 + 1 + 1, 0, none⟩ = false := (hb1.frozen (p := ⟨w.heap.size + 1 + 1 + 1, 0, none⟩) os0).trans hf
  have os1 : w.heap.size + 1 + 1 + 1 < w1.heap.size := Nat.lt_of_lt_of_le os0 hb1.size
  have hbw := hal.trans (hb1.mono hal.size)
  have HV : Keep (vb = true ↔ ValidP ps) := ⟨hvb⟩
  clear hvb hb1 hal os0
  obtain ⟨ta, hta⟩ : ∃ x, x = w.heap.size := ⟨_, rfl⟩
  obtain ⟨tb, htb⟩ : ∃ x, x = w.heap.size + 1 := ⟨_, rfl⟩
  obtain ⟨g, hg⟩ : ∃ x, x = w.heap.size + 1 + 1 := ⟨_, rfl⟩
  obtain ⟨h, hh⟩ : ∃ x, x = w.heap.size + 1 + 1 + 1 := ⟨_, rfl⟩
  rw [← hh] at h0 hf ⊢
  rw [← hg] at k0 kf ⊢
  rw [← htb] at m1 ⊢
  rw [← hta] at m0 ⊢
  have HS : Keep (ta = w.heap.size ∧ tb = ta + 1 ∧ g = tb + 1 ∧ h = g + 1 ∧ h < w1.heap.size) := ⟨by omega⟩
  have hgh : ¬ g = h := by omega
  have hhg : ¬ h = g := by omega
  clear hta htb hg hh os1
  have HNO : Keep (∀ X : World, Below w.heap.size w X → ¬ (ValidP ps ∧ ValidP qs) → JoinPostC ps qs w (.returned (.tuple #[.agg #[.slice none ([] : List Ch).length 0], .bool false])) ((X.setCell ⟨g, 0, none⟩ (.slice none 0 0)).setCell ⟨h, 0, none⟩ (.bool false))) := ⟨fun X hX hnv => ⟨[], false, .inl ⟨hnv, rfl, rfl⟩, ⟨none, 0, rfl, CL.nil _ _ _, Nat.le_refl _⟩, (hX.setCell (p := ⟨g, 0, none⟩) (by have := HS.out; show _ ≤ g; omega) _).setCell (p := ⟨h, 0, none⟩) (by have := HS.out; show _ ≤ h; omega) _⟩⟩
  cases vb with
  | false =>
    have hnv : ¬ (ValidP ps ∧ ValidP qs) := fun h => by have := HV.out.2 h.1; cases this
    gi_wp2
    refine ⟨trivial, ?_⟩
    gi_wp2
    refine ⟨.tuple #[.agg #[.slice none ([] : List Ch).length 0], .bool false], ?_, HNO.out _ hbw hnv⟩
    simp [results, Try.f18, go_sem, k0, h0]
  | true =>
    have HVT : Keep (ValidP ps) := ⟨HV.out.1 rfl⟩
    gi_wp2_with fail
    refine ⟨trivial, ?_⟩
    refine (callsIn_wide.2 (implPatch_any b cb qs _ (hqs.below hbw) hnb hzb)).mono ?_
    rintro e w2 ⟨vb, rfl, hvb, hb2⟩
    have HV2 : Keep (vb = true ↔ ValidP qs) := ⟨hvb⟩
    replace m0 := cell_later hb2 m0
    replace m1 := cell_later hb2 m1
    replace k0 := cell_later hb2 k0
    replace h0 := cell_later hb2 h0
    replace kf : w2.frozen? ⟨g, 0, none⟩ = false := (hb2.frozen (p := ⟨g, 0, none⟩) (by have := HS.out; show g < _; omega)).trans kf
    replace hf : w2.frozen? ⟨h, 0, none⟩ = false := (hb2.frozen (p := ⟨h, 0, none⟩) HS.out.2.2.2.2).trans hf
    have HS2 : Keep (ta = w.heap.size ∧ tb = ta + 1 ∧ g = tb + 1 ∧ h = g + 1 ∧ h < w2.heap.size) := ⟨by have := HS.out; have := hb2.size; omega⟩
    replace hbw := hbw.trans (hb2.mono hbw.size)
    clear hvb hb2 HS HV
    cases vb with
    | false =>
      have hnv : ¬ (ValidP ps ∧ ValidP qs) := fun h => by have := HV2.out.2 h.2; cases this
      gi_wp2
      refine ⟨.tuple #[.agg #[.slice none ([] : List Ch).length 0], .bool false], ?_, HNO.out _ hbw hnv⟩
      simp [results, Try.f18, go_sem, k0, h0]
    | true =>
      have HVU : Keep (ValidP qs) := ⟨HV2.out.1 rfl⟩
      have hal2 : Below w2.heap.size w2 (w2.alloc (.cells #[.slice none 0 0] 37)) := (Below.refl _ _).alloc (Nat.le_refl _) _
      replace m0 := cell_later hal2 m0
      replace m1 := cell_later hal2 m1
      have ob0 : (((w2.alloc (.cells #[.slice none 0 0] 37)).alloc (.cells #[.slice a ps.length ca] 35)).alloc (.cells #[.slice b qs.length cb] 35)).cell? ⟨w2.heap.size, 0, none⟩ = some (.slice none 0 0) := by simp [go_sem]
      have of0 : (((w2.alloc (.cells #[.slice none 0 0] 37)).alloc (.cells #[.slice a ps.length ca] 35)).alloc (.cells #[.slice b qs.length cb] 35)).frozen? ⟨w2.heap.size, 0, none⟩ = false := by simp [go_sem]
      have ma : (((w2.alloc (.cells #[.slice none 0 0] 37)).alloc (.cells #[.slice a ps.length ca] 35)).alloc (.cells #[.slice b qs.length cb] 35)).cell? ⟨w2.heap.size + 1, 0, none⟩ = some (.slice a ps.length ca) := by simp [go_sem]
      have mb : (((w2.alloc (.cells #[.slice none 0 0] 37)).alloc (.cells #[.slice a ps.length ca] 35)).alloc (.cells #[.slice b qs.length cb] 35)).cell? ⟨w2.heap.size + 1 + 1, 0, none⟩ = some (.slice b qs.length cb) := by simp [go_sem]
      have wsz : (((w2.alloc (.cells #[.slice none 0 0] 37)).alloc (.cells #[.slice a ps.length ca] 35)).alloc (.cells #[.slice b qs.length cb] 35)).heap.size = w2.heap.size + 3 := by simp [go_sem]
      have hb3 : Below w2.heap.size w2 (((w2.alloc (.cells #[.slice none 0 0] 37)).alloc (.cells #[.slice a ps.length ca] 35)).alloc (.cells #[.slice b qs.length cb] 35)) := (((Below.refl _ _).alloc (Nat.le_refl _) _).alloc (by simp) _).alloc (by simp; omega) _
      gi_wp2_with (refine ⟨trivial, ?_⟩; gi_at_call 51; refine (callsIn_wide.2 (sideC_any a b ps.length qs.length ca cb _)).mono ?_; rintro e w' ⟨rfl, rfl⟩)
      generalize hwl : (((w2.alloc (.cells #[.slice none 0 0] 37)).alloc (.cells #[.slice a ps.length ca] 35)).alloc (.cells #[.slice b qs.length cb] 35)) = wl at *
      clear hwl
      have hbl := hbw.trans (hb3.mono hbw.size)
      have kl := cell_later hb3 k0
      have hl0 := cell_later hb3 h0
      have kfl : wl.frozen? ⟨g, 0, none⟩ = false := (hb3.frozen (p := ⟨g, 0, none⟩) (by have := HS2.out; show g < _; omega)).trans kf
      have hfl : wl.frozen? ⟨h, 0, none⟩ = false := (hb3.frozen (p := ⟨h, 0, none⟩) HS2.out.2.2.2.2).trans hf
      obtain ⟨ob, hob⟩ : ∃ ob, ob = w2.heap.size := ⟨_, rfl⟩
      rw [← hob] at ob0 of0 ma mb wsz HS2 ⊢
      have HL : Keep (ta = w.heap.size ∧ tb = ta + 1 ∧ g = tb + 1 ∧ h = g + 1 ∧ h < ob ∧ wl.heap.size = ob + 3) := ⟨by have := HS2.out; omega⟩
      have hI0 : ∀ o1 o2, JnI wl ob [] ((wl.alloc o1).alloc o2) := fun o1 o2 => by
        have hb : Below wl.heap.size wl ((wl.alloc o1).alloc o2) := ((Below.refl _ _).alloc (Nat.le_refl _) _).alloc (by simp) _
        exact ⟨(fun x hx => by cases hx), _, _, by simp, hb, OutCh.start (cell_later hb ob0) ((hb.frozen (p := ⟨ob, 0, none⟩) (by show ob < _; omega)).trans of0) (by simp; omega)⟩
      clear hb3 hob k0 kf m0 m1 HS2 HV2 hbw hal2 h0 hf
      refine range_iter2 (sideC_iter (ob + 1) (ob + 1 + 1) a b ca cb ps qs hca hcb hn hnb) (enters_of Try.func74 (by kernel_rfl) rfl) (n := 5) (by omega) rfl (fun x => rfl) (JnI wl ob) (JnX w g h)
        (fun pre W ⟨_, Wz, v, hz1, hz2, hst⟩ => ⟨hst.keep (cell_later hz2 ma) (by omega) (by omega), hst.keep (cell_later hz2 mb) (by omega) (by omega), hps.below (hst.below (hbl.trans (hz2.mono hbl.size)) (by have := HL.out; omega)), hqs.below (hst.below (hbl.trans (hz2.mono hbl.size)) (by have := HL.out; omega))⟩)
        (fun pre W W' ⟨hc, Wz, v, hz1, hz2, hst⟩ hb => ⟨hc, Wz, v, hz1, hz2, hst.later hb⟩)
        (fun pre W l o hl ⟨hc, Wz, v, hz1, hz2, hst⟩ => ⟨hc, Wz.putObj l o, v, by simpa using hz1, hz2.grown (row := some l) ⟨rfl, rfl, rfl, by simp, fun k _ hk => World.putObj_heap_other (fun e => hk (by rw [e]))⟩ hz2.size (fun j e => by cases e; omega), hst.putJ o (by omega) (by omega)⟩)
        (fun pre W l o hl ⟨hc, hb, c1, c2⟩ => ⟨hc, hb.grown (row := some l) ⟨rfl, rfl, rfl, by simp, fun k _ hk => World.putObj_heap_other (fun e => hk (by rw [e]))⟩ hb.size (fun j e => by cases e; have := HL.out; omega), (World.cell?_of_block (World.putObj_heap_other (fun e => by have := HL.out; have e2 : g = l := e; omega))).trans c1, (World.cell?_of_block (World.putObj_heap_other (fun e => by have := HL.out; have e2 : h = l := e; omega))).trans c2⟩) hI0
        (fun x B a' W => a' = { tmps := #[.agg #[.slice a ps.length ca], .agg #[.slice b qs.length cb], .pointer (some ⟨ta, 0, none⟩), .pointer (some ⟨tb, 0, none⟩), .pointer (some ⟨g, 0, none⟩), .pointer (some ⟨h, 0, none⟩), .pointer (some ⟨ob, 0, none⟩), .pointer (some ⟨B, 0, none⟩), .pointer (some ⟨B + 1, 0, none⟩), .agg #[.slice a ps.length ca], .bool true, .bool false, .bool false, .agg #[.slice b qs.length cb], .bool true, .bool false, .bool false, undef, .pointer (some ⟨ta, 0, none⟩), .slice a ps.length ca, .pointer (some ⟨tb, 0, none⟩), .slice b qs.length cb, .func (.func 74) #[] #[.pointer (some ⟨ob + 1, 0, none⟩), .pointer (some ⟨ob + 1 + 1, 0, none⟩)], cutCV (x.2.1.getD noCh), cutCV (x.2.2.getD noCh), undef, undef, undef, undef, undef, undef, undef, undef, undef, undef, undef, undef, undef, undef, undef, undef, undef, undef, undef, undef, undef, undef, undef, undef, undef, undef, undef, undef, undef, undef, undef, undef, undef, undef, undef], defers := [] } ∧ CBox B (x.2.1.getD noCh) W ∧ CBox (B + 1) (x.2.2.getD noCh) W)
        (fun x B a' W l o hl ⟨h1, h2, h3⟩ => ⟨h1, h2.put o (by omega), h3.put o (by omega)⟩) ?assign ?body ?done ?stop
      case assign =>
        intro l x W K hK
        unfold yC cutCV
        gi_wp2
        exact hK _ _ (((Below.refl _ _).alloc (Nat.le_refl _) _).alloc (by simp) _) ⟨rfl, ⟨by simp [go_sem], by simp [go_sem], by simp [go_sem], by simp [go_sem], by simp [go_sem], by simp [go_sem], by simp [go_sem], fun j => by simp [go_sem], by simp [go_sem]⟩, ⟨by simp [go_sem], by simp [go_sem], by simp [go_sem], by simp [go_sem], by simp [go_sem], by simp [go_sem], by simp [go_sem], fun j => by simp [go_sem], by simp [go_sem]⟩⟩
      case body =>
        rintro l pre x a' Wb W ⟨hnc, Wz, v, hz1, hz2, hst⟩ ⟨r, hr⟩ hB1 hbW ⟨rfl, hx, hy⟩
        have hul : (outsJ pre).length ≤ 1048576 := by
          have h1 := outsJ_len pre
          have h2 := congrArg List.length hr
          have h3 := mrg_lenJ Ch.path Ch.path (ps.length + qs.length) ps qs
          have h4 := HVT.out.1
          have h5 := HVU.out.1
          simp only [List.length_append] at h2
          unfold mrgC at h2
          omega
        have hmx : x ∈ mrgC ps qs := by rw [hr]; simp
        have hvB : v.ownBlock ≠ some Wb.heap.size := fun e => by have := hst.own_lt e; omega
        have hvB1 : v.ownBlock ≠ some (Wb.heap.size + 1) := fun e => by have := hst.own_lt e; omega
        have st := hst.later hbW
        have HE : Keep (∀ v' w', clJ2 x.2.1 x.2.2 = false → OutCh ob Wz v' (outsJ pre ++ outJ2 x.1 x.2.1 x.2.2) w' → TwoB wl.heap.size W w' ∧ JnI wl ob (pre ++ [x]) w') := ⟨fun v' w' hc h => ⟨⟨(h.grown.block _ (by omega) (fun e => by have := HL.out; cases e; omega)).trans (st.grown.block _ (by omega) (fun e => by have := HL.out; cases e; omega)).symm, (h.grown.block _ (by omega) (fun e => by have := HL.out; cases e; omega)).trans (st.grown.block _ (by omega) (fun e => by have := HL.out; cases e; omega)).symm⟩, (fun y hy => by
            rcases List.mem_append.1 hy with h' | h'
            · exact hnc y h'
            · rw [List.mem_singleton.1 h']; exact hc), Wz, v', hz1, hz2, by rw [outsJ_snoc]; exact h⟩⟩
        have HR : Keep (∀ X, clJ2 x.2.1 x.2.2 = true → OutCh ob Wz v (outsJ pre) X → TwoB wl.heap.size W ((X.setCell ⟨g, 0, none⟩ (.slice none 0 0)).setCell ⟨h, 0, none⟩ (.bool false)) ∧ JnX w g h (pre ++ [x]) ((X.setCell ⟨g, 0, none⟩ (.slice none 0 0)).setCell ⟨h, 0, none⟩ (.bool false))) := ⟨fun X hc st' => by
          have hbk : ∀ k, k ≠ g → k ≠ h → ((X.setCell ⟨g, 0, none⟩ (.slice none 0 0)).setCell ⟨h, 0, none⟩ (.bool false)).heap[k]? = X.heap[k]? := fun k h1 h2 => (Below.heap_setCell _ _ _ _ h2).trans (Below.heap_setCell _ _ _ _ h1)
          have kX := st'.keep (cell_later hz2 kl) (by have := HL.out; omega) (by have := HL.out; omega)
          have hX := st'.keep (cell_later hz2 hl0) (by have := HL.out; omega) (by have := HL.out; omega)
          refine ⟨⟨(hbk _ (by have := HL.out; omega) (by have := HL.out; omega)).trans ((st'.grown.block _ (by omega) (fun e => by have := HL.out; cases e; omega)).trans (st.grown.block _ (by omega) (fun e => by have := HL.out; cases e; omega)).symm), (hbk _ (by have := HL.out; omega) (by have := HL.out; omega)).trans ((st'.grown.block _ (by omega) (fun e => by have := HL.out; cases e; omega)).trans (st.grown.block _ (by omega) (fun e => by have := HL.out; cases e; omega)).symm)⟩, ⟨x, by simp, hc⟩, ?_, ?_, ?_⟩
          · exact ((st'.below (hbl.trans (hz2.mono hbl.size)) (by have := HL.out; omega)).setCell (p := ⟨g, 0, none⟩) (by have := HL.out; show _ ≤ g; omega) _).setCell (p := ⟨h, 0, none⟩) (by have := HL.out; show _ ≤ h; omega) _
          · exact (World.cell?_setCell_other _ _ _ _ (by intro e; exact hhg (congrArg Addr.block e))).trans (World.cell?_setCell_same _ _ _ kX)
          · exact World.cell?_setCell_same _ _ _ ((World.cell?_setCell_other _ _ _ _ (by intro e; exact hgh (congrArg Addr.block e))).trans hX)⟩
        have HK : Keep (∀ X, OutCh ob Wz v (outsJ pre) X → (X.cell? ⟨g, 0, none⟩ = some (.slice none 0 0) ∧ X.cell? ⟨h, 0, none⟩ = some (.bool false)) ∧ X.frozen? ⟨g, 0, none⟩ = false ∧ X.frozen? ⟨h, 0, none⟩ = false) := ⟨fun X st' => ⟨⟨st'.keep (cell_later hz2 kl) (by have := HL.out; omega) (by have := HL.out; omega), st'.keep (cell_later hz2 hl0) (by have := HL.out; omega) (by have := HL.out; omega)⟩, frozen_of (st'.grown.block g (by have := HL.out; omega) (fun e => by have := HL.out; cases e; omega)) ((hz2.frozen (p := ⟨g, 0, none⟩) (by have := HL.out; show g < _; omega)).trans kfl), frozen_of (st'.grown.block h (by have := HL.out; omega) (fun e => by have := HL.out; cases e; omega)) ((hz2.frozen (p := ⟨h, 0, none⟩) (by have := HL.out; show h < _; omega)).trans hfl)⟩⟩
        have HB : Keep (Wz.heap.size ≤ Wb.heap.size) := ⟨hst.grown.size⟩
        clear hst hbW hr hI0 ma mb of0 ob0 kl kfl hl0 hfl hbl hps hqs HNO hB1 wsz
        generalize Wb.heap.size = B at *
        have hBn : ¬ B = B + 1 := by omega
        have hBn2 : ¬ B + 1 = B := by omega
        rcases mrgC_cases HVT.out HVU.out hmx with ⟨d, hd, rfl⟩ | ⟨c, hc, rfl⟩ | ⟨c, hc, d, hd, hcd, rfl⟩
        · obtain ⟨p1, p2, p3, p4⟩ := chOk_parts (validP_ok HVU.out hd)
          have hdp := hzb d hd
          replace hx : CBox B noCh W := hx
          replace hy : CBox (B + 1) d W := hy
          have a0 : W.cell? ⟨B, 0, none⟩ = some (.string ⟨#[]⟩) := hx.c0
          have a1 : W.cell? ⟨B, 1, none⟩ = some (.bool false) := hx.c1
          have a2 : W.cell? ⟨B, 2, none⟩ = some (.string ⟨#[]⟩) := hx.c2
          have a3 : W.cell? ⟨B, 3, none⟩ = some (.bool false) := hx.c3
          have a4 : W.cell? ⟨B, 4, none⟩ = some (.bool false) := hx.c4
          have a5 : W.cell? ⟨B, 5, none⟩ = some (.string ⟨#[]⟩) := hx.c5
          have a6 : W.cell? ⟨B, 6, none⟩ = some (.bool false) := hx.c6
          have b0 := hy.c0
          have b1 := hy.c1
          have b2 := hy.c2
          have b3 := hy.c3
          have b4 := hy.c4
          have b5 := hy.c5
          have b6 := hy.c6
          gi_wp2_with fail
          refine ⟨trivial, ?_⟩
          refine CallsIn.mono (CallsIn.inRound l (callsIn_wide.2 (stay_any d.path d.old _))) ?_
          rintro e W1 ⟨rfl, hb1⟩
          replace hx := hx.later hb1
          replace hy := hy.later hb1
          replace st := st.later hb1
          clear a0 a1 a2 a3 a4 a5 a6 b0 b1 b2 b3 b4 b5 b6 hb1
          have a0 : W1.cell? ⟨B, 0, none⟩ = some (.string ⟨#[]⟩) := hx.c0
          have a1 : W1.cell? ⟨B, 1, none⟩ = some (.bool false) := hx.c1
          have a2 : W1.cell? ⟨B, 2, none⟩ = some (.string ⟨#[]⟩) := hx.c2
          have a3 : W1.cell? ⟨B, 3, none⟩ = some (.bool false) := hx.c3
          have a4 : W1.cell? ⟨B, 4, none⟩ = some (.bool false) := hx.c4
          have a5 : W1.cell? ⟨B, 5, none⟩ = some (.string ⟨#[]⟩) := hx.c5
          have a6 : W1.cell? ⟨B, 6, none⟩ = some (.bool false) := hx.c6
          have fz := hx.fz
          gi_upto_region 9 with fail
          have hx2 : CBox B ⟨d.path, d.old, d.old⟩ (((((((W1.setCell ⟨B, 0, none⟩ (.string d.path)).setCell ⟨B, 1, none⟩ (.bool d.old.there)).setCell ⟨B, 2, none⟩ (.string d.old.text)).setCell ⟨B, 3, none⟩ (.bool d.old.runs)).setCell ⟨B, 4, none⟩ (.bool d.old.there)).setCell ⟨B, 5, none⟩ (.string d.old.text)).setCell ⟨B, 6, none⟩ (.bool d.old.runs)) := hx.set ⟨d.path, d.old, d.old⟩
          have hy2 : CBox (B + 1) d (((((((W1.setCell ⟨B, 0, none⟩ (.string d.path)).setCell ⟨B, 1, none⟩ (.bool d.old.there)).setCell ⟨B, 2, none⟩ (.string d.old.text)).setCell ⟨B, 3, none⟩ (.bool d.old.runs)).setCell ⟨B, 4, none⟩ (.bool d.old.there)).setCell ⟨B, 5, none⟩ (.string d.old.text)).setCell ⟨B, 6, none⟩ (.bool d.old.runs)) := hy.grown (box7_grown (.string d.path) (.bool d.old.there) (.string d.old.text) (.bool d.old.runs) (.bool d.old.there) (.string d.old.text) (.bool d.old.runs)) (by simp)
          have st2 : OutCh ob Wz v (outsJ pre) (((((((W1.setCell ⟨B, 0, none⟩ (.string d.path)).setCell ⟨B, 1, none⟩ (.bool d.old.there)).setCell ⟨B, 2, none⟩ (.string d.old.text)).setCell ⟨B, 3, none⟩ (.bool d.old.runs)).setCell ⟨B, 4, none⟩ (.bool d.old.there)).setCell ⟨B, 5, none⟩ (.string d.old.text)).setCell ⟨B, 6, none⟩ (.bool d.old.runs)) := st.other (box7_grown (.string d.path) (.bool d.old.there) (.string d.old.text) (.bool d.old.runs) (.bool d.old.there) (.string d.old.text) (.bool d.old.runs)) HB.out hvB
          clear a0 a1 a2 a3 a4 a5 a6 fz hx hy st
          generalize (((((((W1.setCell ⟨B, 0, none⟩ (.string d.path)).setCell ⟨B, 1, none⟩ (.bool d.old.there)).setCell ⟨B, 2, none⟩ (.string d.old.text)).setCell ⟨B, 3, none⟩ (.bool d.old.runs)).setCell ⟨B, 4, none⟩ (.bool d.old.there)).setCell ⟨B, 5, none⟩ (.string d.old.text)).setCell ⟨B, 6, none⟩ (.bool d.old.runs)) = X at *
          have a0 := hx2.c0
          have a1 := hx2.c1
          have a2 := hx2.c2
          have a3 := hx2.c3
          have a4 := hx2.c4
          have a5 := hx2.c5
          have a6 := hx2.c6
          have b0 := hy2.c0
          have b1 := hy2.c1
          have b2 := hy2.c2
          have b3 := hy2.c3
          have b4 := hy2.c4
          have b5 := hy2.c5
          have b6 := hy2.c6
          dsimp only at a0 a1 a2 a3 a4 a5 a6
          gi_wp2_with fail
          refine ⟨trivial, ?_⟩
          refine CallsIn.mono (CallsIn.inRound l (callsIn_wide.2 (chg_pair ob Wz v (outsJ pre) d.path d.old d.new X st2 hul hdp (by omega) (by omega)))) ?_
          rintro e W4 ⟨rfl, v', st4⟩
          clear a0 a1 a2 a3 a4 a5 a6 b0 b1 b2 b3 b4 b5 b6 hx2 hy2 st2
          gi_wp2
          exact HE.out _ _ rfl (by unfold chgL at st4; rw [p2] at st4; exact st4)
        · obtain ⟨p1, p2, p3, p4⟩ := chOk_parts (validP_ok HVT.out hc)
          have hdp := hz c hc
          replace hx : CBox B c W := hx
          replace hy : CBox (B + 1) noCh W := hy
          have a0 := hx.c0
          have a1 := hx.c1
          have a2 := hx.c2
          have a3 := hx.c3
          have a4 := hx.c4
          have a5 := hx.c5
          have a6 := hx.c6
          have b0 : W.cell? ⟨B + 1, 0, none⟩ = some (.string ⟨#[]⟩) := hy.c0
          have b1 : W.cell? ⟨B + 1, 1, none⟩ = some (.bool false) := hy.c1
          have b2 : W.cell? ⟨B + 1, 2, none⟩ = some (.string ⟨#[]⟩) := hy.c2
          have b3 : W.cell? ⟨B + 1, 3, none⟩ = some (.bool false) := hy.c3
          have b4 : W.cell? ⟨B + 1, 4, none⟩ = some (.bool false) := hy.c4
          have b5 : W.cell? ⟨B + 1, 5, none⟩ = some (.string ⟨#[]⟩) := hy.c5
          have b6 : W.cell? ⟨B + 1, 6, none⟩ = some (.bool false) := hy.c6
          gi_wp2_with fail
          refine ⟨trivial, ?_⟩
          refine CallsIn.mono (CallsIn.inRound l (callsIn_wide.2 (stay_any c.path c.new _))) ?_
          rintro e W1 ⟨rfl, hb1⟩
          replace hx := hx.later hb1
          replace hy := hy.later hb1
          replace st := st.later hb1
          clear a0 a1 a2 a3 a4 a5 a6 b0 b1 b2 b3 b4 b5 b6 hb1
          have b0 : W1.cell? ⟨B + 1, 0, none⟩ = some (.string ⟨#[]⟩) := hy.c0
          have b1 : W1.cell? ⟨B + 1, 1, none⟩ = some (.bool false) := hy.c1
          have b2 : W1.cell? ⟨B + 1, 2, none⟩ = some (.string ⟨#[]⟩) := hy.c2
          have b3 : W1.cell? ⟨B + 1, 3, none⟩ = some (.bool false) := hy.c3
          have b4 : W1.cell? ⟨B + 1, 4, none⟩ = some (.bool false) := hy.c4
          have b5 : W1.cell? ⟨B + 1, 5, none⟩ = some (.string ⟨#[]⟩) := hy.c5
          have b6 : W1.cell? ⟨B + 1, 6, none⟩ = some (.bool false) := hy.c6
          have fz := hy.fz
          gi_upto_region 11 with fail
          have hy2 : CBox (B + 1) ⟨c.path, c.new, c.new⟩ (((((((W1.setCell ⟨B + 1, 0, none⟩ (.string c.path)).setCell ⟨B + 1, 1, none⟩ (.bool c.new.there)).setCell ⟨B + 1, 2, none⟩ (.string c.new.text)).setCell ⟨B + 1, 3, none⟩ (.bool c.new.runs)).setCell ⟨B + 1, 4, none⟩ (.bool c.new.there)).setCell ⟨B + 1, 5, none⟩ (.string c.new.text)).setCell ⟨B + 1, 6, none⟩ (.bool c.new.runs)) := hy.set ⟨c.path, c.new, c.new⟩
          have hx2 : CBox B c (((((((W1.setCell ⟨B + 1, 0, none⟩ (.string c.path)).setCell ⟨B + 1, 1, none⟩ (.bool c.new.there)).setCell ⟨B + 1, 2, none⟩ (.string c.new.text)).setCell ⟨B + 1, 3, none⟩ (.bool c.new.runs)).setCell ⟨B + 1, 4, none⟩ (.bool c.new.there)).setCell ⟨B + 1, 5, none⟩ (.string c.new.text)).setCell ⟨B + 1, 6, none⟩ (.bool c.new.runs)) := hx.grown (box7_grown (.string c.path) (.bool c.new.there) (.string c.new.text) (.bool c.new.runs) (.bool c.new.there) (.string c.new.text) (.bool c.new.runs)) (by simp)
          have st2 : OutCh ob Wz v (outsJ pre) (((((((W1.setCell ⟨B + 1, 0, none⟩ (.string c.path)).setCell ⟨B + 1, 1, none⟩ (.bool c.new.there)).setCell ⟨B + 1, 2, none⟩ (.string c.new.text)).setCell ⟨B + 1, 3, none⟩ (.bool c.new.runs)).setCell ⟨B + 1, 4, none⟩ (.bool c.new.there)).setCell ⟨B + 1, 5, none⟩ (.string c.new.text)).setCell ⟨B + 1, 6, none⟩ (.bool c.new.runs)) := st.other (box7_grown (.string c.path) (.bool c.new.there) (.string c.new.text) (.bool c.new.runs) (.bool c.new.there) (.string c.new.text) (.bool c.new.runs)) (by have := HB.out; omega) hvB1
          clear b0 b1 b2 b3 b4 b5 b6 fz hx hy st
          generalize (((((((W1.setCell ⟨B + 1, 0, none⟩ (.string c.path)).setCell ⟨B + 1, 1, none⟩ (.bool c.new.there)).setCell ⟨B + 1, 2, none⟩ (.string c.new.text)).setCell ⟨B + 1, 3, none⟩ (.bool c.new.runs)).setCell ⟨B + 1, 4, none⟩ (.bool c.new.there)).setCell ⟨B + 1, 5, none⟩ (.string c.new.text)).setCell ⟨B + 1, 6, none⟩ (.bool c.new.runs)) = X at *
          have a0 := hx2.c0
          have a1 := hx2.c1
          have a2 := hx2.c2
          have a3 := hx2.c3
          have a4 := hx2.c4
          have a5 := hx2.c5
          have a6 := hx2.c6
          have b0 := hy2.c0
          have b1 := hy2.c1
          have b2 := hy2.c2
          have b3 := hy2.c3
          have b4 := hy2.c4
          have b5 := hy2.c5
          have b6 := hy2.c6
          dsimp only at b0 b1 b2 b3 b4 b5 b6
          gi_wp2_with fail
          refine ⟨trivial, ?_⟩
          refine CallsIn.mono (CallsIn.inRound l (callsIn_wide.2 (chg_pair ob Wz v (outsJ pre) c.path c.old c.new X st2 hul hdp (by omega) (by omega)))) ?_
          rintro e W4 ⟨rfl, v', st4⟩
          clear a0 a1 a2 a3 a4 a5 a6 b0 b1 b2 b3 b4 b5 b6 hx2 hy2 st2
          gi_wp2
          exact HE.out _ _ rfl (by unfold chgL at st4; rw [p2] at st4; exact st4)
        · obtain ⟨p1, p2, p3, p4⟩ := chOk_parts (validP_ok HVT.out hc)
          obtain ⟨q1, q2, q3, q4⟩ := chOk_parts (validP_ok HVU.out hd)
          have hdp := hz c hc
          replace hx : CBox B c W := hx
          replace hy : CBox (B + 1) d W := hy
          have a0 := hx.c0
          have a1 := hx.c1
          have a2 := hx.c2
          have a3 := hx.c3
          have a4 := hx.c4
          have a5 := hx.c5
          have a6 := hx.c6
          have b0 := hy.c0
          have b1 := hy.c1
          have b2 := hy.c2
          have b3 := hy.c3
          have b4 := hy.c4
          have b5 := hy.c5
          have b6 := hy.c6
          cases hsm : sameF c.new d.old with
          | true =>
            have HC : Keep (clJ2 (some c) (some d) = false) := ⟨by show (!sameF c.new d.old) = false; rw [hsm]; rfl⟩
            obtain ⟨⟨h1, h2⟩, h3⟩ : (c.new.there = d.old.there ∧ c.new.text.toList = d.old.text.toList) ∧ c.new.runs = d.old.runs := by simpa [sameF] using hsm
            have h4 : c.new.text = d.old.text := WideShapes.bytes_inj (by rw [← Lib.toList_data, ← Lib.toList_data]; exact h2)
            rw [← h1] at b1
            rw [← h4] at b2
            rw [← h3] at b3
            clear hsm h1 h2 h3 h4
            gi_wp2_with fail
            refine ⟨trivial, ?_⟩
            refine CallsIn.mono (CallsIn.inRound l (callsIn_wide.2 (chg_pair ob Wz v (outsJ pre) c.path c.old d.new W st hul hdp (by omega) (by omega)))) ?_
            rintro e W4 ⟨rfl, v', st4⟩
            clear a0 a1 a2 a3 a4 a5 a6 b0 b1 b2 b3 b4 b5 b6 hx hy st
            gi_wp2
            exact HE.out _ _ HC.out st4
          | false =>
            have HC : Keep (clJ2 (some c) (some d) = true) := ⟨by show (!sameF c.new d.old) = true; rw [hsm]; rfl⟩
            obtain ⟨⟨kX, hX⟩, kfX, hfX⟩ := HK.out W st
            by_cases h1 : c.new.there = d.old.there
            · by_cases h2 : c.new.text.toList = d.old.text.toList
              · by_cases h3 : c.new.runs = d.old.runs
                · exfalso
                  rw [Bool.eq_false_iff] at hsm
                  exact hsm (by simp [sameF, h1, h2, h3])
                · gi_wp2
                  exact HR.out W HC.out st
              · gi_wp2
                exact HR.out W HC.out st
            · gi_wp2
              exact HR.out W HC.out st
      case done =>
        rintro W ⟨hnc, Wz, v, hz1, hz2, hst⟩ hK
        rw [outs_join HVT.out HVU.out] at hst
        have HNC : Keep (∀ n ∈ joinNs ps qs, clJ ps qs n = false) := ⟨fun n hn' => hnc (n, fnd Ch.path ps n, fnd Ch.path qs n) (by rw [mrgC_is HVT.out HVU.out]; exact List.mem_map.2 ⟨n, hn', rfl⟩)⟩
        have kW := hst.keep (cell_later hz2 kl) (by have := HL.out; omega) (by have := HL.out; omega)
        have hW := hst.keep (cell_later hz2 hl0) (by have := HL.out; omega) (by have := HL.out; omega)
        have kfW : W.frozen? ⟨g, 0, none⟩ = false := frozen_of (hst.grown.block g (by have := HL.out; omega) (fun e => by have := HL.out; cases e; omega)) ((hz2.frozen (p := ⟨g, 0, none⟩) (by have := HL.out; show g < _; omega)).trans kfl)
        have hfW : W.frozen? ⟨h, 0, none⟩ = false := frozen_of (hst.grown.block h (by have := HL.out; omega) (fun e => by have := HL.out; cases e; omega)) ((hz2.frozen (p := ⟨h, 0, none⟩) (by have := HL.out; show h < _; omega)).trans hfl)
        have oW := hst.cell
        have hbW := hst.below (hbl.trans (hz2.mono hbl.size)) (show w.heap.size ≤ ob by have := HL.out; omega)
        obtain ⟨ad, cap, rfl⟩ := owns_slice hst.row
        have hrm := row_roomO hst.row
        have hcl := cl_of_row hst.row
        have HZ : Keep (w.heap.size ≤ g ∧ h = g + 1 ∧ h < wl.heap.size ∧ Wz.heap.size = wl.heap.size + 2) := ⟨by have := HL.out; omega⟩
        clear hst hz2 hI0 hps hqs HNO hnc wsz
        have fin : ∀ (cs : List Ch) (ok : Bool) (ad2 : Option Addr) (cap2 : Nat), JoinRel ps qs cs ok → CL Wz.heap.size W ad2 cs → cs.length ≤ cap2 → ∃ W3, W3 = (W.setCell ⟨g, 0, none⟩ (.slice ad2 cs.length cap2)).setCell ⟨h, 0, none⟩ (.bool ok) ∧ W3.heap[wl.heap.size]? = some (.deferred (some [])) ∧ (W3.putObj wl.heap.size (.deferred none)).cell? ⟨g, 0, none⟩ = some (.slice ad2 cs.length cap2) ∧ (W3.putObj wl.heap.size (.deferred none)).cell? ⟨h, 0, none⟩ = some (.bool ok) ∧ JoinPostC ps qs w (.returned (.tuple #[.agg #[.slice ad2 cs.length cap2], .bool ok])) (W3.putObj wl.heap.size (.deferred none)) := fun cs ok ad2 cap2 hrel hcs hrm2 => by
          have hzz := HZ.out
          have hbk : ∀ k, k ≠ g → k ≠ h → ((W.setCell ⟨g, 0, none⟩ (.slice ad2 cs.length cap2)).setCell ⟨h, 0, none⟩ (.bool ok)).heap[k]? = W.heap[k]? := fun k h1 h2 => (Below.heap_setCell _ _ _ _ h2).trans (Below.heap_setCell _ _ _ _ h1)
          have hg1 := hcs.grown (row := some g) (grown_set0 W g 0 (.slice ad2 cs.length cap2)) (fun j _ hj _ e => by cases e; omega)
          have hg2 := hg1.grown (row := some h) (grown_set0 _ h 0 (.bool ok)) (fun j _ hj _ e => by cases e; omega)
          have hbW2 := (hbW.setCell (p := ⟨g, 0, none⟩) hzz.1 (.slice ad2 cs.length cap2)).setCell (p := ⟨h, 0, none⟩) (by show _ ≤ h; omega) (.bool ok)
          have kc : ((W.setCell ⟨g, 0, none⟩ (.slice ad2 cs.length cap2)).setCell ⟨h, 0, none⟩ (.bool ok)).cell? ⟨g, 0, none⟩ = some (.slice ad2 cs.length cap2) := (World.cell?_setCell_other _ _ _ _ (by intro e; exact hhg (congrArg Addr.block e))).trans (World.cell?_setCell_same _ _ _ kW)
          have hc : ((W.setCell ⟨g, 0, none⟩ (.slice ad2 cs.length cap2)).setCell ⟨h, 0, none⟩ (.bool ok)).cell? ⟨h, 0, none⟩ = some (.bool ok) := World.cell?_setCell_same _ _ _ ((World.cell?_setCell_other _ _ _ _ (by intro e; exact hgh (congrArg Addr.block e))).trans hW)
          refine ⟨_, rfl, (hbk _ (by omega) (by omega)).trans hK, ?_⟩
          generalize (W.setCell ⟨g, 0, none⟩ (.slice ad2 cs.length cap2)).setCell ⟨h, 0, none⟩ (.bool ok) = W3 at *
          have hgp : W3.grownBy (W3.putObj wl.heap.size (.deferred none)) (some wl.heap.size) := ⟨rfl, rfl, rfl, by simp, fun k _ hk => World.putObj_heap_other (fun e => hk (by rw [e]))⟩
          exact ⟨(World.cell?_of_block (World.putObj_heap_other (fun e => by have e2 : g = wl.heap.size := e; omega))).trans kc, (World.cell?_of_block (World.putObj_heap_other (fun e => by have e2 : h = wl.heap.size := e; omega))).trans hc, cs, ok, hrel, ⟨ad2, cap2, rfl, (hg2.grown hgp (fun j _ hj _ e => by cases e; omega)).mono (by omega), hrm2⟩, hbW2.grown hgp hbW2.size (fun j e => by cases e; omega)⟩
        by_cases hlen : (joinN ps qs (joinNs ps qs)).length ≤ 200
        · have hlen' : ¬ (200 : Int) < (joinN ps qs (joinNs ps qs)).length := by omega
          obtain ⟨W3, hW3, hK3, kc, hc, hpost⟩ := fin (joinN ps qs (joinNs ps qs)) true ad cap (.inr ⟨HVT.out, HVU.out, .inr ⟨HNC.out, .inr ⟨hlen, rfl, rfl⟩⟩⟩) hcl hrm
          have HP : Keep _ := ⟨hpost⟩
          clear fin hcl hbW hpost hrm
          gi_wp2
          rw [← hW3]
          refine ⟨by simp, .inl ⟨_, _, rfl, run_takeDeferred hK3, ?_⟩⟩
          refine ⟨_, ?_, HP.out⟩
          simp [results, Try.f18, go_sem, kc, hc]
        · have hlen' : (200 : Int) < (joinN ps qs (joinNs ps qs)).length := by omega
          obtain ⟨W3, hW3, hK3, kc, hc, hpost⟩ := fin [] false none 0 (.inr ⟨HVT.out, HVU.out, .inr ⟨HNC.out, .inl ⟨by omega, rfl, rfl⟩⟩⟩) (CL.nil _ _ _) (Nat.le_refl _)
          have HP : Keep _ := ⟨hpost⟩
          replace hW3 : W3 = (W.setCell ⟨g, 0, none⟩ (.slice none 0 0)).setCell ⟨h, 0, none⟩ (.bool false) := hW3
          clear fin hcl hbW hpost hrm
          gi_wp2
          rw [← hW3]
          refine ⟨by simp, .inl ⟨_, _, rfl, run_takeDeferred hK3, ?_⟩⟩
          refine ⟨_, ?_, HP.out⟩
          simp [results, Try.f18, go_sem, kc, hc]
      case stop =>
        rintro pre W hpre ⟨⟨x, hx, hcl⟩, hb, c1, c2⟩ hK
        have hcn : ∃ n ∈ joinNs ps qs, clJ ps qs n = true := by
          have hm := hpre.subset hx
          rw [mrgC_is HVT.out HVU.out] at hm
          obtain ⟨n, hn', rfl⟩ := List.mem_map.1 hm
          exact ⟨n, hn', hcl⟩
        clear wsz
        gi_wp2
        refine ⟨by simp, .inl ⟨_, _, rfl, run_takeDeferred hK, ?_⟩⟩
        have hgp : W.grownBy (W.putObj wl.heap.size (.deferred none)) (some wl.heap.size) := ⟨rfl, rfl, rfl, by simp, fun k _ hk => World.putObj_heap_other (fun e => hk (by rw [e]))⟩
        have kc : (W.putObj wl.heap.size (.deferred none)).cell? ⟨g, 0, none⟩ = some (.slice none 0 0) := (World.cell?_of_block (World.putObj_heap_other (fun e => by have := HL.out; have e2 : g = wl.heap.size := e; omega))).trans c1
        have hc : (W.putObj wl.heap.size (.deferred none)).cell? ⟨h, 0, none⟩ = some (.bool false) := (World.cell?_of_block (World.putObj_heap_other (fun e => by have := HL.out; have e2 : h = wl.heap.size := e; omega))).trans c2
        refine ⟨.tuple #[.agg #[.slice none ([] : List Ch).length 0], .bool false], ?_, [], false, .inr ⟨HVT.out, HVU.out, .inl ⟨hcn, rfl, rfl⟩⟩, ⟨none, 0, rfl, CL.nil _ _ _, Nat.le_refl _⟩, hb.grown hgp hb.size (fun j e => by have := HL.out; cases e; omega)⟩
        simp [results, Try.f18, go_sem, kc, hc]
theorem implJoin_any (a b : Option Addr) (ca cb : Nat) (ps qs : List Ch) (w : World) (hps : CS w a ps) (hqs : CS w b qs) (hn : ps.length ≤ 1048576) (hnb : qs.length ≤ 1048576) (hca : ps.length ≤ ca) (hcb : qs.length ≤ cb) (hz : ∀ c ∈ ps, c.path.size ≤ 1048576) (hzb : ∀ c ∈ qs, c.path.size ≤ 1048576) :
    Calls Try.prog 18 #[.agg #[.slice a ps.length ca], .agg #[.slice b qs.length cb]] w fun e w' => JoinPost ps qs w e w' :=
  (implJoinC_any a b ca cb ps qs w hps hqs hn hnb hca hcb hz hzb).mono (fun _ _ ⟨cs, ok, h1, ⟨ad, cap, h2, h3, _⟩, h4⟩ => ⟨cs, ok, h1, ⟨ad, cap, h2, h3⟩, h4⟩)
end Go.Proofs.Ytockgapdfcapnaa

namespace Go.Proofs.Ytockgapdfcapnaa
open Go.RowKit

theorem field_patch (ad : Option Addr) (n cp : Nat) (w : World) : (Instr.field 37 (.agg #[.slice ad n cp]) 0).run Try.prog w = .ok (.slice ad n cp) w := by kernel_rfl
theorem kqP {W0 W W' : World} (h : Below W0.heap.size W0 W) (h' : Below W.heap.size W W') : Below W0.heap.size W0 W' := h.trans (h'.mono h.size)
structure PBx (b : Nat) (ad : Option Addr) (cp : Nat) (cs : List Ch) (W : World) : Prop where
  c : W.cell? ⟨b, 0, none⟩ = some (.slice ad cs.length cp)
  cs : CS W ad cs
theorem PBx.later {b : Nat} {ad : Option Addr} {cp : Nat} {cs : List Ch} {W W' : World} (h : PBx b ad cp cs W) (hb : Below W.heap.size W W') : PBx b ad cp cs W' := ⟨cell_later hb h.c, h.cs.below hb⟩
theorem PBx.new {ad : Option Addr} {cp : Nat} {cs : List Ch} {W : World} (h : CS W ad cs) : PBx W.heap.size ad cp cs (W.alloc (.cells #[.slice ad cs.length cp] 37)) := ⟨by simp, h.below (below_oneD _ _)⟩
theorem diff_one {ts us : List En} {cs cs' : List Ch} (h : DiffRel ts us cs) (h' : DiffRel ts us cs') : cs = cs' := by
  rcases h with ⟨h1, h2, rfl⟩ | ⟨h1, rfl⟩
  · rcases h' with ⟨_, _, rfl⟩ | ⟨h3, _⟩
    · rfl
    · exact absurd ⟨h1, h2⟩ h3
  · rcases h' with ⟨h3, h4, _⟩ | ⟨_, rfl⟩
    · exact absurd ⟨h3, h4⟩ h1
    · rfl
theorem diff_few {ts us : List En} {cs : List Ch} (h : DiffRel ts us cs) : cs.length ≤ 1000 ∧ ((∀ e ∈ ts, e.path.size ≤ 1048576) → (∀ e ∈ us, e.path.size ≤ 1048576) → ∀ c ∈ cs, c.path.size ≤ 1048576) := by
  rcases h with ⟨h3, h4, rfl⟩ | ⟨_, rfl⟩
  · refine ⟨by have := diff_len h3.1 h4.1; omega, fun ht hu c hc => ?_⟩
    obtain ⟨p, h5, rfl⟩ := (diff_mem c).1 hc
    rcases paths_differ h5 with ⟨e, he, rfl⟩ | ⟨e, he, rfl⟩
    · exact ht e he
    · exact hu e he
  · exact ⟨by simp, fun _ _ c hc => by cases hc⟩
theorem tmp_some {a : Act} {k : Nat} {b : Bool} (h : a.tmps[k]?.getD undef = .bool b) : a.tmps[k]? = some (.bool b) := by
  cases hx : a.tmps[k]? with
  | none => rw [hx] at h; cases h
  | some v => rw [hx] at h; simpa using h
/-- A patch of a call's own in a slot. -/
def patE (cs : List Ch) (v : Value) (w : World) : Prop := ∃ ad cap, v = .agg #[.slice ad cs.length cap] ∧ CS w ad cs
theorem patE.on {cs : List Ch} {v : Value} {w w' : World} (h : patE cs v w) (hb : Below w.heap.size w w') : patE cs v w' := by
  obtain ⟨ad, cap, h1, h2⟩ := h
  exact ⟨ad, cap, h1, h2.below hb⟩
def dTab (p q : Value) (a b c : Value) : Nat → Option Value
  | 0 => some p
  | 1 => some a
  | 2 => some b
  | 4 => some (.bool true)
  | 5 => some (.bool false)
  | 6 => some (.bool false)
  | 7 => some q
  | 8 => some b
  | 9 => some c
  | 11 => some (.bool true)
  | 12 => some (.bool false)
  | 13 => some (.bool false)
  | _ => none
def dEx (cs ds : List Ch) : Nat → Value → World → Prop
  | 3 => patE cs
  | 10 => patE ds
  | _ => fun _ _ => True
theorem dSt (cs ds : List Ch) : ∀ i v w w', Below w.heap.size w w' → dEx cs ds i v w → dEx cs ds i v w' := fun i v w w' hb h => by
  match i, h with
  | 3, h => exact patE.on h hb
  | 10, h => exact patE.on h hb
  | 0, h | 1, h | 2, h | 4, h | 5, h | 6, h | 7, h | 8, h | 9, h => exact h
  | (_ + 11), h => exact h
def dDs : List Nat := [33, 34, 35, 36, 37, 38, 39, 40, 41, 42, 43, 44, 45, 46]
theorem dNd : dDs.Nodup := by decide
/-- The region that applies what leads back: a call in a call, a box that is made at any time. -/
def tupE (n : Nat) (v : Value) : Prop := ∃ ad cap, v = .tuple #[.agg #[.slice ad n cap], .int .i64 0]
def aggE (n : Nat) (v : Value) : Prop := ∃ ad cap, v = .agg #[.slice ad n cap]
def uTab (b p : Value) : Nat → Option Value
  | 0 => some b
  | 1 => some p
  | 6 => some (.int .i64 0)
  | 9 => some (.int .i64 0)
  | _ => none
def uXv (n : Nat) : Nat → Value → Prop
  | 3 => tupE n
  | 4 => tupE n
  | 5 => aggE n
  | _ => fun _ => True
def treE (ts : List En) (v : Value) (w : World) : Prop := ∃ ad cap, v = .tuple #[.agg #[.slice ad (List.length ts) cap], .int .i64 0] ∧ EL 0 w ad ts
def treA (ts : List En) (v : Value) (w : World) : Prop := ∃ ad cap, v = .agg #[.slice ad (List.length ts) cap] ∧ EL 0 w ad ts
def patR (cs : List Ch) (v : Value) (w : World) : Prop := ∃ ad cap, v = .agg #[.slice ad (List.length cs) cap] ∧ CS w ad cs ∧ cs.length ≤ cap
def boxE (lo : Nat) (v : Value) (w : World) : Prop := ∃ nb, v = .pointer (some ⟨nb, 0, none⟩) ∧ lo ≤ nb ∧ nb < w.heap.size ∧ w.cell? ⟨nb, 0, none⟩ = some (.slice none 0 0) ∧ w.frozen? ⟨nb, 0, none⟩ = false
def uEx (cs : List Ch) (ts : List En) (lo : Nat) : Nat → Value → World → Prop
  | 2 => patR cs
  | 3 => treE ts
  | 4 => treE ts
  | 5 => treA ts
  | 7 => boxE lo
  | _ => fun _ _ => True
theorem uSt {cs : List Ch} {ts : List En} {lo : Nat} {w w' : World} (hb : Below w.heap.size w w') : ∀ i v, uEx cs ts lo i v w → uEx cs ts lo i v w' := fun i v h => by
  match i, h with
  | 2, ⟨ad, cap, h1, h2, h3⟩ => exact ⟨ad, cap, h1, h2.below hb, h3⟩
  | 3, ⟨ad, cap, h1, h2⟩ => exact ⟨ad, cap, h1, h2.below hb⟩
  | 4, ⟨ad, cap, h1, h2⟩ => exact ⟨ad, cap, h1, h2.below hb⟩
  | 5, ⟨ad, cap, h1, h2⟩ => exact ⟨ad, cap, h1, h2.below hb⟩
  | 7, ⟨nb, h1, h2, h3, h4, h5⟩ => exact ⟨nb, h1, h2, Nat.lt_of_lt_of_le h3 hb.size, cell_later hb h4, (hb.frozen (p := ⟨nb, 0, none⟩) h3).trans h5⟩
  | 0, h | 1, h | 6, h => exact h
  | (_ + 8), h => exact h
def uDs : List Nat := [79, 80, 81, 82, 78, 83, 84, 10, 1000, 11]
theorem uNd : uDs.Nodup := by decide
structure YP (T0 : Array Value) (b p : Value) (cs : List Ch) (ts : List En) (X : World) (L : Array Bool) (a : Act) (w : World) : Prop where
  sl : Sl2 T0 uDs (uTab b p) L a
  xv : ∀ i (h : i < uDs.length), L.getD i false = true → uXv ts.length i (a.eval (.tmp uDs[i]))
  wd : L.getD 8 false = false → Below X.heap.size X w
  ex : L.getD 8 false = false → ∀ i (h : i < uDs.length), L.getD i false = true → uEx cs ts X.heap.size i (a.eval (.tmp uDs[i])) w
  fin : L.getD 8 false = true → ∃ nb ad cap, a.eval (.tmp 10) = .pointer (some ⟨nb, 0, none⟩) ∧ TBx nb ad cap ts w ∧ Below X.heap.size X w
theorem YP.step {T0 : Array Value} {b p : Value} {cs : List Ch} {ts : List En} {X : World} {L : Array Bool} {a : Act} {w w' : World} (h : YP T0 b p cs ts X L a w) {i : Nat} {v : Value} (hi : i < uDs.length) (hd : uDs[i] < T0.size) (h8 : i ≠ 8) (ht : ∀ u, uTab b p i = some u → u = v) (hx : uXv ts.length i v) (hw : (L.getD 8 false = true → uDs[i] ≠ 10 ∧ w' = w) ∧ (L.getD 8 false = false → uEx cs ts X.heap.size i v w' ∧ Below w.heap.size w w')) :
    YP T0 b p cs ts X (L.setIfInBounds i true) (a.put (some uDs[i]) v) w' := by
  have g : (L.setIfInBounds i true).getD 8 false = L.getD 8 false := getD_set_ne false h8
  have ev : ∀ j (hj : j < uDs.length), j ≠ i → (a.put (some uDs[i]) v).eval (.tmp uDs[j]) = a.eval (.tmp uDs[j]) := fun j hj hne => Act.eval_put (fun d hd' => by cases hd'; intro e'; injection e' with e'; exact nodup_ne uNd hi hj hne e')
  refine ⟨h.sl.put uNd hi hd ht, fun j hj hL => ?_, fun h0 => ?_, fun h0 j hj hL => ?_, fun h0 => ?_⟩
  · by_cases e : j = i
    · subst e
      rw [eval_put_same (by rw [h.sl.sz]; exact hd)]
      exact hx
    · rw [ev j hj e]
      exact h.xv j hj (getD_of_set hL e)
  · rw [g] at h0
    exact (h.wd h0).trans ((hw.2 h0).2.mono (h.wd h0).size)
  · rw [g] at h0
    by_cases e : j = i
    · subst e
      rw [eval_put_same (by rw [h.sl.sz]; exact hd)]
      exact (hw.2 h0).1
    · rw [ev j hj e]
      exact uSt (hw.2 h0).2 j _ (h.ex h0 j hj (getD_of_set hL e))
  · rw [g] at h0
    obtain ⟨h1, rfl⟩ := hw.1 h0
    obtain ⟨nb, ad, cap, h2, h3⟩ := h.fin h0
    exact ⟨nb, ad, cap, by rw [Act.eval_put (fun d hd' => by cases hd'; intro e'; injection e' with e'; exact h1 e'.symm)]; exact h2, h3⟩
theorem YP.store {T0 : Array Value} {b p : Value} {cs : List Ch} {ts : List En} {X : World} {L : Array Bool} {a : Act} {w : World} (h : YP T0 b p cs ts X L a w) (hL : L.getD 8 true = false) {nb : Nat} {ad : Option Addr} {cap : Nat} (e10 : a.eval (.tmp 10) = .pointer (some ⟨nb, 0, none⟩)) (h1 : X.heap.size ≤ nb) (h2 : w.cell? ⟨nb, 0, none⟩ = some (.slice none 0 0)) (h3 : EL 0 w ad ts) :
    YP T0 b p cs ts X (L.setIfInBounds 8 true) a (w.setCell ⟨nb, 0, none⟩ (.slice ad ts.length cap)) := by
  have g : (L.setIfInBounds 8 true).getD 8 false = true := by
    have h1 := getD_false hL
    have h2 : 8 < L.size := by simpa using (List.getElem?_eq_some_iff.1 h1).1
    rw [Array.getD_eq_getD_getElem?, Array.getElem?_setIfInBounds_self_of_lt h2]
    rfl
  have hne : ts = [] ∨ blk ad ≠ some nb := by
    rcases h3 with h3 | ⟨gb, e, _, _, _, hc⟩
    · exact .inl h3
    · by_cases h0 : ts = []
      · exact .inl h0
      · refine .inr fun e' => ?_
        rw [e] at e'
        have e2 : gb = nb := by simpa [blk] using e'
        have hp := List.length_pos_iff.2 h0
        have h5 := (hc 0 hp).1
        rw [e2] at h5
        have h6 : w.cell? ⟨nb, 0, none⟩ = some (.string (ts[0]'hp).path) := by simpa using h5
        rw [h2] at h6
        cases h6
  refine ⟨h.sl.skip rfl, fun j hj hL' => ?_, (fun h0 => by rw [g] at h0; cases h0), (fun h0 => by rw [g] at h0; cases h0), fun _ => ⟨nb, ad, cap, e10, ⟨World.cell?_setCell_same _ _ _ h2, ?_⟩, (h.wd (getD_ft hL)).setCell (p := ⟨nb, 0, none⟩) h1 _⟩⟩
  · by_cases e : j = 8
    · subst e; trivial
    · exact h.xv j hj (getD_of_set hL' e)
  · rcases hne with h0 | h0
    · rw [h0]; exact (EL.nil 0 _ _).es
    · exact (h3.grown (grown_set0 w nb 0 _) (fun k hk _ _ e => by cases e; exact h0 hk)).es
/-- The last region: all is true. -/
def gTab (p j a c u : Value) : Nat → Option Value
  | 0 => some (.bool true)
  | 1 => some (.bool true)
  | 2 => some j
  | 3 => some a
  | 4 => some c
  | 6 => some (.bool true)
  | 7 => some (.bool true)
  | 8 => some (.bool true)
  | 9 => some (.int .i64 0)
  | 10 => some (.bool true)
  | 11 => some (.bool true)
  | 12 => some (.bool true)
  | 13 => some u
  | 14 => some c
  | 15 => some (.bool true)
  | 16 => some (.bool true)
  | 17 => some (.bool true)
  | 18 => some p
  | 21 => some p
  | 22 => some (.bool true)
  | 23 => some (.bool true)
  | 24 => some (.bool true)
  | 25 => some p
  | 26 => some (.bool true)
  | 27 => some (.bool true)
  | 28 => some (.bool true)
  | _ => none
def gEx (ds us ps : List Ch) : Nat → Value → World → Prop
  | 5 => patE ds
  | 19 => patE us
  | 20 => patE ps
  | _ => fun _ _ => True
theorem gSt (ds us ps : List Ch) : ∀ i v w w', Below w.heap.size w w' → gEx ds us ps i v w → gEx ds us ps i v w' := fun i v w w' hb h => by
  match i, h with
  | 5, h => exact patE.on h hb
  | 19, h => exact patE.on h hb
  | 20, h => exact patE.on h hb
  | 0, h | 1, h | 2, h | 3, h | 4, h | 6, h | 7, h | 8, h | 9, h | 10, h | 11, h | 12, h | 13, h | 14, h | 15, h | 16, h | 17, h | 18, h => exact h
  | (_ + 21), h => exact h
def gDs : List Nat := [135, 136, 137, 138, 139, 140, 141, 142, 143, 144, 145, 146, 147, 148, 149, 150, 151, 152, 153, 154, 155, 156, 157, 158, 159, 160, 161, 162, 2]
theorem gNd : gDs.Nodup := by decide
end Go.Proofs.Ytockgapdfcapnaa

namespace Go.Proofs.Ytockgapdfcapnaa
open Go.RowKit

def strE (m : Nat) (v : Value) (_ : World) : Prop := ∃ s : ByteArray, v = .string s ∧ s.size ≤ m
def natE (lo hi : Nat) (v : Value) (_ : World) : Prop := ∃ z : Nat, v = .int .i64 (z : Int) ∧ lo ≤ z ∧ z ≤ hi
def enE (m : Nat) (v : Value) (_ : World) : Prop := ∃ s : ByteArray, v = .agg #[.string s, .string ⟨#[]⟩, .bool false] ∧ s.size ≤ m
def flE (m : Nat) (v : Value) (_ : World) : Prop := ∃ s : ByteArray, v = .agg #[.bool true, .string s, .bool false] ∧ s.size ≤ m
def setX (ts : List En) (m lo : Nat) (v : Value) (w : World) : Prop := ∃ ad cap us en, v = .agg #[.slice ad (List.length us) cap] ∧ SetRel ts en us ∧ en.path.size ≤ m ∧ en.text.size ≤ 0 ∧ EL lo w ad us ∧ us.length ≤ ts.length + 1 ∧ us.length ≤ cap
def layX (ts : List En) (p : ByteArray) (m lo : Nat) (v : Value) (w : World) : Prop := ∃ ad cap us f, v = .agg #[.slice ad (List.length us) cap] ∧ f.text.size ≤ m ∧ LayRel ts p f us ∧ EL lo w ad us ∧ us.length ≤ ts.length + 1 ∧ us.length ≤ cap
theorem setX.on {ts : List En} {m lo g : Nat} {v : Value} {w w' : World} (h : setX ts m lo v w) (hg : w.grownBy w' (some g)) (hl : g < lo) : setX ts m lo v w' := by
  obtain ⟨ad, cap, us, en, h1, h2, h3, h4, h5, h6⟩ := h
  exact ⟨ad, cap, us, en, h1, h2, h3, h4, h5.grown hg (fun k _ hk _ e => by cases e; omega), h6⟩
theorem layX.on {ts : List En} {p : ByteArray} {m lo g : Nat} {v : Value} {w w' : World} (h : layX ts p m lo v w) (hg : w.grownBy w' (some g)) (hl : g < lo) : layX ts p m lo v w' := by
  obtain ⟨ad, cap, us, f, h1, h2, h3, h4, h5⟩ := h
  exact ⟨ad, cap, us, f, h1, h2, h3, h4.grown hg (fun k _ hk _ e => by cases e; omega), h5⟩

/-- l5Set of a numbered path. -/
def lTab (t : Tr) (k : Nat) : Nat → Option Value
  | 0 => some (.agg #[.slice t.ad t.ts.length t.cp])
  | 1 => some (.int .i64 k)
  | _ => none
def lEx (ts : List En) (lo : Nat) : Nat → Value → World → Prop
  | 2 => strE 2
  | 3 => strE 3
  | 4 => enE 3
  | 5 => setX ts 3 lo
  | _ => fun _ _ => True
theorem lSt {ts : List En} {lo g : Nat} {w w' : World} (hg : w.grownBy w' (some g)) (hl : g < lo) : ∀ i v, lEx ts lo i v w → lEx ts lo i v w' := fun i v h => by
  match i, h with
  | 5, h => exact setX.on h hg hl
  | 0, h | 1, h | 2, h | 3, h | 4, h => exact h
  | (_ + 6), h => exact h
def lDs (d : Nat) : List Nat := [d, d + 1, d + 2, d + 3, d + 4, d + 5, 1000]
theorem lNd56 : (lDs 56).Nodup := by decide
theorem lNd62 : (lDs 62).Nodup := by decide
/-- l6Lay of a drawn text. -/
def aTabM (t : Tr) (g : Nat) : Nat → Option Value
  | 0 => some (.agg #[.slice t.ad t.ts.length t.cp])
  | 1 => some (.pointer (some ⟨g, 0, none⟩))
  | _ => none
def aEx (ts : List En) (lo : Nat) : Nat → Value → World → Prop
  | 2 => natE 0 1
  | 3 => natE 700 701
  | 4 => strE 701
  | 5 => strE 704
  | 6 => flE 704
  | 7 => layX ts ⟨#[97]⟩ 704 lo
  | _ => fun _ _ => True
theorem aSt {ts : List En} {lo g : Nat} {w w' : World} (hg : w.grownBy w' (some g)) (hl : g < lo) : ∀ i v, aEx ts lo i v w → aEx ts lo i v w' := fun i v h => by
  match i, h with
  | 7, h => exact layX.on h hg hl
  | 0, h | 1, h | 2, h | 3, h | 4, h | 5, h | 6, h => exact h
  | (_ + 8), h => exact h
def aDsM : List Nat := [73, 74, 75, 76, 77, 78, 79, 80, 1000]
theorem aNdM : aDsM.Nodup := by decide
/-- Where the reader stands in that region. -/
def IM (w : World) (g r2 r3 r4 b6 b7 b8 : Nat) (a : Option Addr) (cap : Nat) (zs : List Int) (t6 t7 t8 : Tr) (L : Array Bool) (W : World) : Prop :=
  ∃ p, (p ≤ 1100 ∨ (L.getD 2 false = true ∧ p ≤ 1200)) ∧ M3 w g r2 r3 r4 b6 b7 b8 a cap zs p t6 t7 t8 W
theorem IM.keep {w : World} {g r2 r3 r4 b6 b7 b8 : Nat} {a : Option Addr} {cap : Nat} {zs : List Int} {t6 t7 t8 : Tr} {L : Array Bool} {W : World} {i : Nat} (h : IM w g r2 r3 r4 b6 b7 b8 a cap zs t6 t7 t8 L W) (hi : i ≠ 2) : IM w g r2 r3 r4 b6 b7 b8 a cap zs t6 t7 t8 (L.setIfInBounds i true) W := by
  obtain ⟨p, h1, h2⟩ := h
  exact ⟨p, h1.imp id (fun h => ⟨by rw [getD_set_ne false hi]; exact h.1, h.2⟩), h2⟩
theorem IM.later {w : World} {g r2 r3 r4 b6 b7 b8 : Nat} {a : Option Addr} {cap : Nat} {zs : List Int} {t6 t7 t8 : Tr} {L : Array Bool} {W W' : World} (h : IM w g r2 r3 r4 b6 b7 b8 a cap zs t6 t7 t8 L W) (hb : Below W.heap.size W W') : IM w g r2 r3 r4 b6 b7 b8 a cap zs t6 t7 t8 L W' := by
  obtain ⟨p, h1, h2⟩ := h
  exact ⟨p, h1, h2.later hb⟩
def bTab (t : Tr) : Nat → Option Value
  | 0 => some (.agg #[.slice t.ad t.ts.length t.cp])
  | _ => none
def bEx (ts : List En) (lo : Nat) : Nat → Value → World → Prop
  | 1 => strE 796
  | 2 => strE 798
  | 3 => strE 799
  | 4 => flE 799
  | 5 => layX ts ⟨#[97]⟩ 799 lo
  | _ => fun _ _ => True
theorem bSt {ts : List En} {lo g : Nat} {w w' : World} (hg : w.grownBy w' (some g)) (hl : g < lo) : ∀ i v, bEx ts lo i v w → bEx ts lo i v w' := fun i v h => by
  match i, h with
  | 5, h => exact layX.on h hg hl
  | 0, h | 1, h | 2, h | 3, h | 4, h => exact h
  | (_ + 6), h => exact h
def bDs : List Nat := [81, 82, 83, 84, 85, 86, 1000]
theorem bNd : bDs.Nodup := by decide
theorem manyI (c : UInt8) (n z : Nat) (hn : n + z ≤ 1000000) (W : World) : Calls Try.prog 38 #[.string ⟨#[c]⟩, .int .i64 ((n + z : Nat) : Int)] W fun e w' => ∃ o : ByteArray, e = .returned (.string o) ∧ o.size = n + z ∧ W = w' := by
  have := many_any ⟨#[c]⟩ (n + z) W (by show 1 * (n + z) ≤ _; omega) (by omega) (by show 1 ≤ 1; omega) (by show 1 ≤ _; omega)
  exact this.mono (fun e w' ⟨o, h1, h2, h3⟩ => ⟨o, h1, by rw [h2]; show 1 * (n + z) = _; omega, h3⟩)
end Go.Proofs.Ytockgapdfcapnaa
