/-
  PthE, PthC, FrontEC, CutE, CutC, SideEC, RangeI: laid as one text.
-/
import Derived.Test.YtockgapdfcapnaaEntL
import Derived.Test.YtockgapdfcapnaaSplitP
import Derived.Test.YtockgapdfcapnaaLaterQ
import Derived.Test.YtockgapdfcapnaaChangesB
import Derived.Test.YtockgapdfcapnaaMrgP
import Derived.Deep.RegionWith
import Derived.Below
import Derived.RangeFuncNested
import Derived.RangeFuncBound
import Derived.RangeFuncCalls
import Derived.RangeFuncLeaves
import Derived.Shelf.Abstract
import Derived.Shelf.RegionOpen
import Derived.WalkKit
import Derived.OwnWalkIn
import Derived.TacticsInMore
import Derived.LoopNIn
import Derived.LoopIn
import Derived.Sort.CutIn
import Derived.RangeFuncFrom
import Derived.Test.YtockgapdfcapnaaRows
namespace Go.Proofs.Ytockgapdfcapnaa
open Go.RowKit

set_option maxRecDepth 100000 in
theorem mp_e (x : Value) (w : World) : (method 257 72 x "loop.example/kilntree/impl.path").run Try.prog w = .ok (118, x) w := by kernel_rfl
set_option maxRecDepth 100000 in
theorem cp_e (x : Value) (w : World) : (callFunc 118 #[x]).run Try.prog w = .ok (.enter 118 #[x]) w := by kernel_rfl

theorem pathE_any (e : En) (w : World) : Calls Try.prog 118 #[.agg #[.string e.path, .string e.text, .bool e.runs]] w fun r w' => r = .returned (.string e.path) ∧ Below w.heap.size w w' := by
  go_enter Try.func118, Try.ntmps118
  go_wp2
  go_ret
  exact ⟨rfl, (Below.refl _ _).alloc (Nat.le_refl _) _⟩
end Go.Proofs.Ytockgapdfcapnaa

namespace Go.Proofs.Ytockgapdfcapnaa
open Go.RowKit

set_option maxRecDepth 100000 in
theorem mp_c (x : Value) (w : World) : (method 257 82 x "loop.example/kilntree/impl.path").run Try.prog w = .ok (120, x) w := by kernel_rfl
set_option maxRecDepth 100000 in
theorem cp_c (x : Value) (w : World) : (callFunc 120 #[x]).run Try.prog w = .ok (.enter 120 #[x]) w := by kernel_rfl

theorem pathC_any (c : Ch) (w : World) : Calls Try.prog 120 #[.agg #[.string c.path, .bool c.old.there, .string c.old.text, .bool c.old.runs, .bool c.new.there, .string c.new.text, .bool c.new.runs]] w fun r w' => r = .returned (.string c.path) ∧ Below w.heap.size w w' := by
  go_enter Try.func120, Try.ntmps120
  go_wp2
  go_ret
  exact ⟨rfl, (Below.refl _ _).alloc (Nat.le_refl _) _⟩
end Go.Proofs.Ytockgapdfcapnaa

namespace Go.Proofs.Ytockgapdfcapnaa
open Go.RowKit

set_option maxRecDepth 100000 in
set_option maxHeartbeats 4000000 in
theorem frontsEC_any (a b : Option Addr) (ca cb : Nat) (ts : List En) (us : List Ch) (w : World) (hts : ES w a ts) (hus : CS w b us) :
    Calls Try.prog 73 #[.slice a ts.length ca, .slice b us.length cb] w fun e w' => e = .returned (.int .i64 (frontG En.path Ch.path ts us)) ∧ Below w.heap.size w w' := by
  cases ts with
  | nil =>
    go_enter Try.func73, Try.ntmps73
    go_wp2
    go_ret
    exact ⟨rfl, Below.refl _ _⟩
  | cons x ts =>
    obtain ⟨b1, o1, rfl, hc1⟩ := hts.at (k := 0) (by simp)
    obtain ⟨x0, x1, x2⟩ := hc1 0 (by simp)
    simp only [List.getElem_cons_zero, Nat.zero_mul, Nat.add_zero] at x0 x1 x2
    have hl1 : (((x :: ts).length : Int) == 0) = false := by simp; omega
    have hl1' : (0 : Int) < (x :: ts).length := by rw [List.length_cons]; omega
    clear hc1 hts
    cases us with
    | nil =>
      generalize (x :: ts).length = n1 at *
      go_enter Try.func73, Try.ntmps73
      go_wp2
      go_ret
      exact ⟨rfl, Below.refl _ _⟩
    | cons y us =>
      obtain ⟨b2, o2, rfl, hc2⟩ := hus.at (k := 0) (by simp)
      obtain ⟨y0, y1, y2, y3, y4, y5, y6⟩ := hc2 0 (by simp)
      simp only [List.getElem_cons_zero, Nat.zero_mul, Nat.add_zero] at y0 y1 y2 y3 y4 y5 y6
      have hl2 : (((y :: us).length : Int) == 0) = false := by simp; omega
      have hl2' : (0 : Int) < (y :: us).length := by rw [List.length_cons]; omega
      clear hc2 hus
      generalize (x :: ts).length = n1 at *
      generalize (y :: us).length = n2 at *
      have cx0 : ∀ z : Later w, z.world.cell? ⟨b1, o1, none⟩ = some (.string x.path) := fun z => cell_later z.kept x0
      have cx1 : ∀ z : Later w, z.world.cell? ⟨b1, o1 + 1, none⟩ = some (.string x.text) := fun z => cell_later z.kept x1
      have cx2 : ∀ z : Later w, z.world.cell? ⟨b1, o1 + 2, none⟩ = some (.bool x.runs) := fun z => cell_later z.kept x2
      have cy0 : ∀ z : Later w, z.world.cell? ⟨b2, o2, none⟩ = some (.string y.path) := fun z => cell_later z.kept y0
      have cy1 : ∀ z : Later w, z.world.cell? ⟨b2, o2 + 1, none⟩ = some (.bool y.old.there) := fun z => cell_later z.kept y1
      have cy2 : ∀ z : Later w, z.world.cell? ⟨b2, o2 + 2, none⟩ = some (.string y.old.text) := fun z => cell_later z.kept y2
      have cy3 : ∀ z : Later w, z.world.cell? ⟨b2, o2 + 3, none⟩ = some (.bool y.old.runs) := fun z => cell_later z.kept y3
      have cy4 : ∀ z : Later w, z.world.cell? ⟨b2, o2 + 4, none⟩ = some (.bool y.new.there) := fun z => cell_later z.kept y4
      have cy5 : ∀ z : Later w, z.world.cell? ⟨b2, o2 + 5, none⟩ = some (.string y.new.text) := fun z => cell_later z.kept y5
      have cy6 : ∀ z : Later w, z.world.cell? ⟨b2, o2 + 6, none⟩ = some (.bool y.new.runs) := fun z => cell_later z.kept y6
      have HC1 : Keep (∀ z : Later w, Calls Try.prog 118 #[.agg #[.string x.path, .string x.text, .bool x.runs]] z.world fun e w'' => e = .returned (.string x.path) ∧ ∃ q : Later w, w'' = q.world) := ⟨fun z => Later.call z (pathE_any x _)⟩
      have HC2 : Keep (∀ z : Later w, Calls Try.prog 120 #[.agg #[.string y.path, .bool y.old.there, .string y.old.text, .bool y.old.runs, .bool y.new.there, .string y.new.text, .bool y.new.runs]] z.world fun e w'' => e = .returned (.string y.path) ∧ ∃ q : Later w, w'' = q.world) := ⟨fun z => Later.call z (pathC_any y _)⟩
      have HC3 : Keep (∀ z : Later w, Calls Try.prog 82 #[.string x.path, .string y.path] z.world fun e w'' => e = .returned (.int .i64 (Lib.compareBytes x.path.data.toList y.path.data.toList)) ∧ ∃ q : Later w, w'' = q.world) := ⟨fun z => Later.call z ((compare_any x.path y.path z.world).mono (fun e w' h => ⟨h.1, by rw [h.2]; exact Below.refl _ _⟩))⟩
      have HCM : Keep (frontG En.path Ch.path (x :: ts) (y :: us) = Lib.compareBytes x.path.data.toList y.path.data.toList) := ⟨rfl⟩
      clear x0 x1 x2 y0 y1 y2 y3 y4 y5 y6
      have hmp := mp_e
      have hcp := cp_e
      have hmp2 := mp_c
      have hcp2 := cp_c
      go_enter Try.func73, Try.ntmps73
      go_upto_region 5 with fail
      (haveI := later_any; refine wp_region_later (by kernel_rfl) (by kernel_rfl) ?_; (repeat (go_big_quiet_step (first | (go_at_call_of 118 ([Value.agg #[.string x.path, .string x.text, .bool x.runs]] : List Value); exact HC1.out _) | (go_at_call_of 120 ([Value.agg #[.string y.path, .bool y.old.there, .string y.old.text, .bool y.old.runs, .bool y.new.there, .string y.new.text, .bool y.new.runs]] : List Value); exact HC2.out _) | (go_at_call 82; exact HC3.out _)))); refine wpQuiet_nil ?_; intro _ hwq; obtain ⟨xq, hwq2⟩ := hwq; subst hwq2)
      go_wp2
      go_ret
      exact ⟨by rw [HCM.out]; rfl, xq.kept⟩
end Go.Proofs.Ytockgapdfcapnaa

namespace Go.Proofs.Ytockgapdfcapnaa
open Go.RowKit

/-- The entry that is nothing. -/
def zeroE : En := ⟨⟨#[]⟩, ⟨#[]⟩, false⟩
def cutEV (e : En) : Value := .agg #[.string e.path, .string e.text, .bool e.runs]

set_option maxRecDepth 100000 in
theorem cutEn (a : Option Addr) (cp : Nat) (ts : List En) (k : Nat) (hk : k ≤ ts.length) (hc : ts.length ≤ cp) : ∃ ad' c', (∀ w1, (Instr.sliceAt 30 (.slice a ts.length cp) (some (.int .i64 (k : Int))) none none).run Try.prog w1 = .ok (.slice ad' (ts.drop k).length c') w1) ∧ ∀ W, ES W a ts → ES W ad' (ts.drop k) := by
  have hrun : ∀ w1, (Instr.sliceAt 30 (.slice a ts.length cp) (some (.int .i64 (k : Int))) none none).run Try.prog w1 = .ok (sliced a k ts.length cp 3) w1 := fun w1 => by
    rw [run_sliceAt_slice w1 _ _ _ _ _ Try.underlying30, run_slice_l w1 _ _ _ _ Try.underlying30 .i64 (k : Int) (by omega) (by omega)]
    have hz : (sizeOf (Try.prog.elem 30)).run Try.prog w1 = .ok 3 w1 := by kernel_rfl
    rw [hz, show (k : Int).toNat = k by omega]
    rfl
  refine ⟨if cp = k then a else a.map (·.add (k * 3)), cp - k, fun w1 => by rw [hrun w1, List.length_drop]; rfl, fun W hE => ?_⟩
  rcases hE with h | ⟨b, off, rfl, hcl⟩
  · subst h; exact .inl (by simp)
  · by_cases hl : k = ts.length
    · subst hl; exact .inl (by simp)
    · rw [if_neg (by omega)]
      refine .inr ⟨b, off + k * 3, by rw [Option.map_some, WideShapes.add_plain], fun i hi => ?_⟩
      rw [List.length_drop] at hi
      obtain ⟨c0, c1, c2⟩ := hcl (k + i) (by omega)
      rw [List.getElem_drop]
      rw [show off + k * 3 + i * 3 = off + (k + i) * 3 by omega]
      exact ⟨c0, c1, c2⟩

theorem ES.cells {w : World} {b off : Nat} {ts : List En} (h : ES w (some ⟨b, off, none⟩) ts) {k : Nat} (hk : k < ts.length) :
    w.cell? ⟨b, off + k * 3, none⟩ = some (.string ts[k].path) ∧ w.cell? ⟨b, off + k * 3 + 1, none⟩ = some (.string ts[k].text) ∧ w.cell? ⟨b, off + k * 3 + 2, none⟩ = some (.bool ts[k].runs) := by
  obtain ⟨b', o', ha, hc⟩ := h.at hk
  simp only [Option.some.injEq, Addr.mk.injEq, and_true] at ha
  obtain ⟨rfl, rfl⟩ := ha
  exact hc k hk

theorem box3_set {X : World} {g : Nat} {u0 u1 u2 : Value} (v0 v1 v2 : Value) (h0 : X.cell? ⟨g, 0, none⟩ = some u0) (h1 : X.cell? ⟨g, 1, none⟩ = some u1) (h2 : X.cell? ⟨g, 2, none⟩ = some u2) :
    (((X.setCell ⟨g, 0, none⟩ v0).setCell ⟨g, 1, none⟩ v1).setCell ⟨g, 2, none⟩ v2).cell? ⟨g, 0, none⟩ = some v0 ∧ (((X.setCell ⟨g, 0, none⟩ v0).setCell ⟨g, 1, none⟩ v1).setCell ⟨g, 2, none⟩ v2).cell? ⟨g, 1, none⟩ = some v1 ∧ (((X.setCell ⟨g, 0, none⟩ v0).setCell ⟨g, 1, none⟩ v1).setCell ⟨g, 2, none⟩ v2).cell? ⟨g, 2, none⟩ = some v2 := by
  refine ⟨?_, ?_, ?_⟩
  · rw [World.cell?_setCell_other _ _ _ _ (by simp), World.cell?_setCell_other _ _ _ _ (by simp)]; exact World.cell?_setCell_same _ _ _ h0
  · rw [World.cell?_setCell_other _ _ _ _ (by simp)]; exact World.cell?_setCell_same _ _ _ ((World.cell?_setCell_other _ _ _ _ (by simp)).trans h1)
  · exact World.cell?_setCell_same _ _ _ ((World.cell?_setCell_other _ _ _ _ (by simp)).trans ((World.cell?_setCell_other _ _ _ _ (by simp)).trans h2))
theorem box3_other {X : World} {g h j : Nat} (v0 v1 v2 : Value) (hn : ¬ g = h) : (((X.setCell ⟨g, 0, none⟩ v0).setCell ⟨g, 1, none⟩ v1).setCell ⟨g, 2, none⟩ v2).cell? ⟨h, j, none⟩ = X.cell? ⟨h, j, none⟩ := by
  have hne : ∀ k, (⟨g, k, none⟩ : Addr) ≠ ⟨h, j, none⟩ := fun k e => hn (congrArg Addr.block e)
  rw [World.cell?_setCell_other _ _ _ _ (hne _), World.cell?_setCell_other _ _ _ _ (hne _), World.cell?_setCell_other _ _ _ _ (hne _)]
theorem box3_below {w X : World} {g : Nat} (v0 v1 v2 : Value) (hX : Below w.heap.size w X) (hg : w.heap.size ≤ g) : Below w.heap.size w (((X.setCell ⟨g, 0, none⟩ v0).setCell ⟨g, 1, none⟩ v1).setCell ⟨g, 2, none⟩ v2) :=
  (((hX.setCell (p := ⟨g, 0, none⟩) hg _).setCell (p := ⟨g, 1, none⟩) hg _).setCell (p := ⟨g, 2, none⟩) hg _)
theorem box3_fz {X : World} {g : Nat} {p : Addr} (v0 v1 v2 : Value) : (((X.setCell ⟨g, 0, none⟩ v0).setCell ⟨g, 1, none⟩ v1).setCell ⟨g, 2, none⟩ v2).frozen? p = X.frozen? p := by
  rw [World.frozen?_setCell, World.frozen?_setCell, World.frozen?_setCell]
end Go.Proofs.Ytockgapdfcapnaa

namespace Go.Proofs.Ytockgapdfcapnaa
open Go.RowKit

/-- The change that is nothing. -/
def noCh : Ch := ⟨⟨#[]⟩, ⟨false, ⟨#[]⟩, false⟩, ⟨false, ⟨#[]⟩, false⟩⟩
def cutCV (c : Ch) : Value := .agg #[.string c.path, .bool c.old.there, .string c.old.text, .bool c.old.runs, .bool c.new.there, .string c.new.text, .bool c.new.runs]

set_option maxRecDepth 100000 in
theorem cutC (a : Option Addr) (cp : Nat) (ts : List Ch) (k : Nat) (hk : k ≤ ts.length) (hc : ts.length ≤ cp) : ∃ ad' c', (∀ w1, (Instr.sliceAt 35 (.slice a ts.length cp) (some (.int .i64 (k : Int))) none none).run Try.prog w1 = .ok (.slice ad' (ts.drop k).length c') w1) ∧ ∀ W, CS W a ts → CS W ad' (ts.drop k) := by
  have hrun : ∀ w1, (Instr.sliceAt 35 (.slice a ts.length cp) (some (.int .i64 (k : Int))) none none).run Try.prog w1 = .ok (sliced a k ts.length cp 7) w1 := fun w1 => by
    rw [run_sliceAt_slice w1 _ _ _ _ _ Try.underlying35, run_slice_l w1 _ _ _ _ Try.underlying35 .i64 (k : Int) (by omega) (by omega)]
    have hz : (sizeOf (Try.prog.elem 35)).run Try.prog w1 = .ok 7 w1 := by kernel_rfl
    rw [hz, show (k : Int).toNat = k by omega]
    rfl
  refine ⟨if cp = k then a else a.map (·.add (k * 7)), cp - k, fun w1 => by rw [hrun w1, List.length_drop]; rfl, fun W hE => ?_⟩
  rcases hE with h | ⟨b, off, rfl, hcl⟩
  · subst h; exact .inl (by simp)
  · by_cases hl : k = ts.length
    · subst hl; exact .inl (by simp)
    · rw [if_neg (by omega)]
      refine .inr ⟨b, off + k * 7, by rw [Option.map_some, WideShapes.add_plain], fun i hi => ?_⟩
      rw [List.length_drop] at hi
      have c0 := hcl (k + i) (by omega)
      rw [List.getElem_drop]
      rw [show off + k * 7 + i * 7 = off + (k + i) * 7 by omega]
      exact c0

theorem CS.cells {w : World} {b off : Nat} {ts : List Ch} (h : CS w (some ⟨b, off, none⟩) ts) {k : Nat} (hk : k < ts.length) : ChAt w b (off + k * 7) ts[k] := by
  obtain ⟨b', o', ha, hc⟩ := h.at hk
  simp only [Option.some.injEq, Addr.mk.injEq, and_true] at ha
  obtain ⟨rfl, rfl⟩ := ha
  exact hc k hk

theorem box7_set {X : World} {g : Nat} {u0 u1 u2 u3 u4 u5 u6 : Value} (v0 v1 v2 v3 v4 v5 v6 : Value) (h0 : X.cell? ⟨g, 0, none⟩ = some u0) (h1 : X.cell? ⟨g, 1, none⟩ = some u1) (h2 : X.cell? ⟨g, 2, none⟩ = some u2) (h3 : X.cell? ⟨g, 3, none⟩ = some u3) (h4 : X.cell? ⟨g, 4, none⟩ = some u4) (h5 : X.cell? ⟨g, 5, none⟩ = some u5) (h6 : X.cell? ⟨g, 6, none⟩ = some u6) :
    (((((((X.setCell ⟨g, 0, none⟩ v0).setCell ⟨g, 1, none⟩ v1).setCell ⟨g, 2, none⟩ v2).setCell ⟨g, 3, none⟩ v3).setCell ⟨g, 4, none⟩ v4).setCell ⟨g, 5, none⟩ v5).setCell ⟨g, 6, none⟩ v6).cell? ⟨g, 0, none⟩ = some v0 ∧ (((((((X.setCell ⟨g, 0, none⟩ v0).setCell ⟨g, 1, none⟩ v1).setCell ⟨g, 2, none⟩ v2).setCell ⟨g, 3, none⟩ v3).setCell ⟨g, 4, none⟩ v4).setCell ⟨g, 5, none⟩ v5).setCell ⟨g, 6, none⟩ v6).cell? ⟨g, 1, none⟩ = some v1 ∧ (((((((X.setCell ⟨g, 0, none⟩ v0).setCell ⟨g, 1, none⟩ v1).setCell ⟨g, 2, none⟩ v2).setCell ⟨g, 3, none⟩ v3).setCell ⟨g, 4, none⟩ v4).setCell ⟨g, 5, none⟩ v5).setCell ⟨g, 6, none⟩ v6).cell? ⟨g, 2, none⟩ = some v2 ∧ (((((((X.setCell ⟨g, 0, none⟩ v0).setCell ⟨g, 1, none⟩ v1).setCell ⟨g, 2, none⟩ v2).setCell ⟨g, 3, none⟩ v3).setCell ⟨g, 4, none⟩ v4).setCell ⟨g, 5, none⟩ v5).setCell ⟨g, 6, none⟩ v6).cell? ⟨g, 3, none⟩ = some v3 ∧ (((((((X.setCell ⟨g, 0, none⟩ v0).setCell ⟨g, 1, none⟩ v1).setCell ⟨g, 2, none⟩ v2).setCell ⟨g, 3, none⟩ v3).setCell ⟨g, 4, none⟩ v4).setCell ⟨g, 5, none⟩ v5).setCell ⟨g, 6, none⟩ v6).cell? ⟨g, 4, none⟩ = some v4 ∧ (((((((X.setCell ⟨g, 0, none⟩ v0).setCell ⟨g, 1, none⟩ v1).setCell ⟨g, 2, none⟩ v2).setCell ⟨g, 3, none⟩ v3).setCell ⟨g, 4, none⟩ v4).setCell ⟨g, 5, none⟩ v5).setCell ⟨g, 6, none⟩ v6).cell? ⟨g, 5, none⟩ = some v5 ∧ (((((((X.setCell ⟨g, 0, none⟩ v0).setCell ⟨g, 1, none⟩ v1).setCell ⟨g, 2, none⟩ v2).setCell ⟨g, 3, none⟩ v3).setCell ⟨g, 4, none⟩ v4).setCell ⟨g, 5, none⟩ v5).setCell ⟨g, 6, none⟩ v6).cell? ⟨g, 6, none⟩ = some v6 := by
  refine ⟨?_, ?_, ?_, ?_, ?_, ?_, ?_⟩
  · rw [World.cell?_setCell_other _ _ _ _ (by simp), World.cell?_setCell_other _ _ _ _ (by simp), World.cell?_setCell_other _ _ _ _ (by simp), World.cell?_setCell_other _ _ _ _ (by simp), World.cell?_setCell_other _ _ _ _ (by simp), World.cell?_setCell_other _ _ _ _ (by simp)]; exact World.cell?_setCell_same _ _ _ h0
  · rw [World.cell?_setCell_other _ _ _ _ (by simp), World.cell?_setCell_other _ _ _ _ (by simp), World.cell?_setCell_other _ _ _ _ (by simp), World.cell?_setCell_other _ _ _ _ (by simp), World.cell?_setCell_other _ _ _ _ (by simp)]; exact World.cell?_setCell_same _ _ _ ((World.cell?_setCell_other _ _ _ _ (by simp)).trans h1)
  · rw [World.cell?_setCell_other _ _ _ _ (by simp), World.cell?_setCell_other _ _ _ _ (by simp), World.cell?_setCell_other _ _ _ _ (by simp), World.cell?_setCell_other _ _ _ _ (by simp)]; exact World.cell?_setCell_same _ _ _ ((World.cell?_setCell_other _ _ _ _ (by simp)).trans ((World.cell?_setCell_other _ _ _ _ (by simp)).trans h2))
  · rw [World.cell?_setCell_other _ _ _ _ (by simp), World.cell?_setCell_other _ _ _ _ (by simp), World.cell?_setCell_other _ _ _ _ (by simp)]; exact World.cell?_setCell_same _ _ _ ((World.cell?_setCell_other _ _ _ _ (by simp)).trans ((World.cell?_setCell_other _ _ _ _ (by simp)).trans ((World.cell?_setCell_other _ _ _ _ (by simp)).trans h3)))
  · rw [World.cell?_setCell_other _ _ _ _ (by simp), World.cell?_setCell_other _ _ _ _ (by simp)]; exact World.cell?_setCell_same _ _ _ ((World.cell?_setCell_other _ _ _ _ (by simp)).trans ((World.cell?_setCell_other _ _ _ _ (by simp)).trans ((World.cell?_setCell_other _ _ _ _ (by simp)).trans ((World.cell?_setCell_other _ _ _ _ (by simp)).trans h4))))
  · rw [World.cell?_setCell_other _ _ _ _ (by simp)]; exact World.cell?_setCell_same _ _ _ ((World.cell?_setCell_other _ _ _ _ (by simp)).trans ((World.cell?_setCell_other _ _ _ _ (by simp)).trans ((World.cell?_setCell_other _ _ _ _ (by simp)).trans ((World.cell?_setCell_other _ _ _ _ (by simp)).trans ((World.cell?_setCell_other _ _ _ _ (by simp)).trans h5)))))
  · exact World.cell?_setCell_same _ _ _ ((World.cell?_setCell_other _ _ _ _ (by simp)).trans ((World.cell?_setCell_other _ _ _ _ (by simp)).trans ((World.cell?_setCell_other _ _ _ _ (by simp)).trans ((World.cell?_setCell_other _ _ _ _ (by simp)).trans ((World.cell?_setCell_other _ _ _ _ (by simp)).trans ((World.cell?_setCell_other _ _ _ _ (by simp)).trans h6))))))
theorem box7_other {X : World} {g h j : Nat} (v0 v1 v2 v3 v4 v5 v6 : Value) (hn : ¬ g = h) : (((((((X.setCell ⟨g, 0, none⟩ v0).setCell ⟨g, 1, none⟩ v1).setCell ⟨g, 2, none⟩ v2).setCell ⟨g, 3, none⟩ v3).setCell ⟨g, 4, none⟩ v4).setCell ⟨g, 5, none⟩ v5).setCell ⟨g, 6, none⟩ v6).cell? ⟨h, j, none⟩ = X.cell? ⟨h, j, none⟩ := by
  have hne : ∀ k, (⟨g, k, none⟩ : Addr) ≠ ⟨h, j, none⟩ := fun k e => hn (congrArg Addr.block e)
  rw [World.cell?_setCell_other _ _ _ _ (hne _), World.cell?_setCell_other _ _ _ _ (hne _), World.cell?_setCell_other _ _ _ _ (hne _), World.cell?_setCell_other _ _ _ _ (hne _), World.cell?_setCell_other _ _ _ _ (hne _), World.cell?_setCell_other _ _ _ _ (hne _), World.cell?_setCell_other _ _ _ _ (hne _)]
theorem box7_below {w X : World} {g : Nat} (v0 v1 v2 v3 v4 v5 v6 : Value) (hX : Below w.heap.size w X) (hg : w.heap.size ≤ g) : Below w.heap.size w (((((((X.setCell ⟨g, 0, none⟩ v0).setCell ⟨g, 1, none⟩ v1).setCell ⟨g, 2, none⟩ v2).setCell ⟨g, 3, none⟩ v3).setCell ⟨g, 4, none⟩ v4).setCell ⟨g, 5, none⟩ v5).setCell ⟨g, 6, none⟩ v6) :=
  (((((((hX.setCell (p := ⟨g, 0, none⟩) hg _).setCell (p := ⟨g, 1, none⟩) hg _).setCell (p := ⟨g, 2, none⟩) hg _).setCell (p := ⟨g, 3, none⟩) hg _).setCell (p := ⟨g, 4, none⟩) hg _).setCell (p := ⟨g, 5, none⟩) hg _).setCell (p := ⟨g, 6, none⟩) hg _)
theorem box7_fz {X : World} {g : Nat} {p : Addr} (v0 v1 v2 v3 v4 v5 v6 : Value) : (((((((X.setCell ⟨g, 0, none⟩ v0).setCell ⟨g, 1, none⟩ v1).setCell ⟨g, 2, none⟩ v2).setCell ⟨g, 3, none⟩ v3).setCell ⟨g, 4, none⟩ v4).setCell ⟨g, 5, none⟩ v5).setCell ⟨g, 6, none⟩ v6).frozen? p = X.frozen? p := by
  rw [World.frozen?_setCell, World.frozen?_setCell, World.frozen?_setCell, World.frozen?_setCell, World.frozen?_setCell, World.frozen?_setCell, World.frozen?_setCell]
end Go.Proofs.Ytockgapdfcapnaa

namespace Go.Proofs.Ytockgapdfcapnaa
open Go.RowKit Go.Shelf

attribute [local go_sem] Oper.semAt_some

abbrev PEC : Type := ByteArray × Option En × Option Ch
def yEC (x : PEC) : Array Value := #[cutEV (x.2.1.getD zeroE), cutCV (x.2.2.getD noCh)]

theorem two_boxesEC {w A X : World} {t t2 : TypeId} (hA : A = (w.alloc (.cells #[.string ⟨#[]⟩, .string ⟨#[]⟩, .bool false] t)).alloc (.cells #[.string ⟨#[]⟩, .bool false, .string ⟨#[]⟩, .bool false, .bool false, .string ⟨#[]⟩, .bool false] t2)) (hb : Below A.heap.size A X) :
    (X.cell? ⟨w.heap.size, 0, none⟩ = some (.string ⟨#[]⟩) ∧ X.cell? ⟨w.heap.size, 1, none⟩ = some (.string ⟨#[]⟩) ∧ X.cell? ⟨w.heap.size, 2, none⟩ = some (.bool false)) ∧ (X.cell? ⟨w.heap.size + 1, 0, none⟩ = some (.string ⟨#[]⟩) ∧ X.cell? ⟨w.heap.size + 1, 1, none⟩ = some (.bool false) ∧ X.cell? ⟨w.heap.size + 1, 2, none⟩ = some (.string ⟨#[]⟩) ∧ X.cell? ⟨w.heap.size + 1, 3, none⟩ = some (.bool false) ∧ X.cell? ⟨w.heap.size + 1, 4, none⟩ = some (.bool false) ∧ X.cell? ⟨w.heap.size + 1, 5, none⟩ = some (.string ⟨#[]⟩) ∧ X.cell? ⟨w.heap.size + 1, 6, none⟩ = some (.bool false)) ∧ (∀ j, X.frozen? ⟨w.heap.size, j, none⟩ = false) ∧ ∀ j, X.frozen? ⟨w.heap.size + 1, j, none⟩ = false := by
  have hl : w.heap.size + 1 < A.heap.size := by rw [hA]; simp
  refine ⟨⟨cell_later hb (by rw [hA]; simp [go_sem]), cell_later hb (by rw [hA]; simp [go_sem]), cell_later hb (by rw [hA]; simp [go_sem])⟩, ⟨cell_later hb (by rw [hA]; simp [go_sem]), cell_later hb (by rw [hA]; simp [go_sem]), cell_later hb (by rw [hA]; simp [go_sem]), cell_later hb (by rw [hA]; simp [go_sem]), cell_later hb (by rw [hA]; simp [go_sem]), cell_later hb (by rw [hA]; simp [go_sem]), cell_later hb (by rw [hA]; simp [go_sem])⟩, fun j => ?_, fun j => ?_⟩
  · exact (hb.frozen (p := ⟨w.heap.size, j, none⟩) (by show w.heap.size < _; omega)).trans (by rw [hA]; simp [go_sem])
  · exact (hb.frozen (p := ⟨w.heap.size + 1, j, none⟩) (by show w.heap.size + 1 < _; omega)).trans (by rw [hA]; simp [go_sem])

def sideMemEC (Ba Bb : Nat) (a b : Option Addr) (ca cb : Nat) (ts : List En) (us : List Ch) (W : World) : Prop :=
  W.cell? ⟨Ba, 0, none⟩ = some (.slice a ts.length ca) ∧ W.cell? ⟨Bb, 0, none⟩ = some (.slice b us.length cb) ∧ ES W a ts ∧ CS W b us

def mrgEC (ts : List En) (us : List Ch) : List PEC := mrg En.path Ch.path (ts.length + us.length) ts us

set_option maxRecDepth 100000 in
set_option maxHeartbeats 8000000 in
theorem sideEC1_in (n l Ba Bb : Nat) (a b : Option Addr) (ca cb : Nat) (ts : List En) (us : List Ch) (hca : ts.length ≤ ca) (hcb : us.length ≤ cb) (hnt : ts.length ≤ 1048576) (hnu : us.length ≤ 1048576)
    (J Jx : List PEC → World → Prop) (W : World)
    (hM : ∀ pre W1, J pre W1 → sideMemEC Ba Bb a b ca cb ts us W1)
    (hJ : ∀ pre W1 W2, J pre W1 → Below W1.heap.size W1 W2 → J pre W2)
    (hY : ∀ pre x W1, J pre W1 → (∃ r, mrgEC ts us = (pre ++ [x]) ++ r) → YieldAt Fence.wide (n - 1) Try.prog l (yEC x) W1 fun e W' =>
      (e = .returned (.bool true) ∧ J (pre ++ [x]) W') ∨ (e = .returned (.bool false) ∧ Jx (pre ++ [x]) W'))
    (h0 : J [] W) :
    CallsIn Fence.wide n Try.prog 72 #[.func (.yield l) #[] #[], .pointer (some ⟨Ba, 0, none⟩), .pointer (some ⟨Bb, 0, none⟩)] W fun e W' => (∃ v, e = .returned v) ∧
      (J (mrgEC ts us) W' ∨ (∃ pre, pre <+: mrgEC ts us ∧ Jx pre W')) := by
  refine callsIn_of_wp Try.func72 rfl trivial ?_ rfl
  simp only [Try.ntmps72, List.size_toArray, List.length_cons, List.length_nil, Nat.reduceAdd, Nat.reduceSub, Array.replicate_succ, Array.replicate_zero, List.push_toArray, List.append_toArray, List.nil_append, List.cons_append]
  gi_wp2
  gi_loopw [4, 5] (fun i j wr => ∃ (p q f : Nat) (pre : List PEC), i = .int .i64 p ∧ j = .int .i64 q ∧ p ≤ ts.length ∧ q ≤ us.length ∧ (ts.length - p) + (us.length - q) ≤ f ∧ mrgEC ts us = pre ++ mrg En.path Ch.path f (ts.drop p) (us.drop q) ∧ J pre wr)
    (fun i j _ => (ts.length - (intOf i).toNat) + (us.length - (intOf j).toNat))
  case atStart => exact ⟨0, 0, ts.length + us.length, [], rfl, rfl, Nat.zero_le _, Nat.zero_le _, by omega, by simp [mrgEC], h0⟩
  case round =>
    obtain ⟨p, q, f, pre, rfl, rfl, hp, hq, hf, hm, hJs⟩ := hrel
    obtain ⟨m1, m2, e1, e2⟩ := hM pre wr hJs
    by_cases hend : p = ts.length ∧ q = us.length
    · obtain ⟨rfl, rfl⟩ := hend
      have hE : mrgEC ts us = pre := by
        rw [hm]
        cases f with
        | zero => simp [mrg]
        | succ f => simp [mrg]
      gi_wp2
      go_end0
      exact ⟨⟨_, rfl⟩, .inl (by rw [hE]; exact hJs)⟩
    · obtain ⟨ad1, c1, hs1, hes1⟩ := cutEn a ca ts p hp hca
      obtain ⟨ad2, c2, hs2, hes2⟩ := cutC b cb us q hq hcb
      have hal : Below wr.heap.size wr ((wr.alloc (.cells #[.string ⟨#[]⟩, .string ⟨#[]⟩, .bool false] 72)).alloc (.cells #[.string ⟨#[]⟩, .bool false, .string ⟨#[]⟩, .bool false, .bool false, .string ⟨#[]⟩, .bool false] 82)) := ((Below.refl _ _).alloc (Nat.le_refl _) _).alloc (by simp) _
      obtain ⟨A, hA⟩ : ∃ A, A = (wr.alloc (.cells #[.string ⟨#[]⟩, .string ⟨#[]⟩, .bool false] 72)).alloc (.cells #[.string ⟨#[]⟩, .bool false, .string ⟨#[]⟩, .bool false, .bool false, .string ⟨#[]⟩, .bool false] 82) := ⟨_, rfl⟩
      rw [← hA] at hal
      have cm1 : ∀ z : Later A, z.world.cell? ⟨Ba, 0, none⟩ = some (.slice a ts.length ca) := fun z => cell_later z.kept (cell_later hal m1)
      have cm2 : ∀ z : Later A, z.world.cell? ⟨Bb, 0, none⟩ = some (.slice b us.length cb) := fun z => cell_later z.kept (cell_later hal m2)
      have HF : Keep (∀ z : Later A, Calls Try.prog 73 #[.slice ad1 (ts.drop p).length c1, .slice ad2 (us.drop q).length c2] z.world fun e w'' => e = .returned (.int .i64 (frontG En.path Ch.path (ts.drop p) (us.drop q))) ∧ ∃ y : Later A, w'' = y.world) := ⟨fun z => Later.call z (frontsEC_any ad1 ad2 c1 c2 (ts.drop p) (us.drop q) z.world (hes1 _ ((e1.below hal).below z.kept)) (hes2 _ ((e2.below hal).below z.kept)))⟩
      generalize hda : (ts.drop p).length = na at hs1 HF
      generalize hdb : (us.drop q).length = nb at hs2 HF
      obtain ⟨f, rfl⟩ : ∃ f', f = f' + 1 := ⟨f - 1, by omega⟩
      have hnn : ¬ (ts.drop p = [] ∧ us.drop q = []) := fun h => hend ⟨by have := congrArg List.length h.1; simp at this; omega, by have := congrArg List.length h.2; simp at this; omega⟩
      generalize ho : frontG En.path Ch.path (ts.drop p) (us.drop q) = o at HF
      rcases Int.lt_trichotomy o 0 with hlt | heq | hgt
      · obtain ⟨x, tr, hd, hmr⟩ := frontG_lt (f := f) (by rw [ho]; exact hlt)
        obtain ⟨hpl, rfl, rfl⟩ := drop_cons hd
        rw [hmr] at hm
        rw [List.append_cons] at hm
        obtain ⟨b1, o1, rfl, hc1⟩ := e1.at hpl
        have hpl' : (p : Int) < ts.length := by omega
        have ho1 : o ≤ 0 := by omega
        have ho2 : ¬ 0 ≤ o := by omega
        clear hc1 hd hmr hnn ho hend hlt
        gi_wp2
        rw [← hA]
        refine wpIn_wide.2 ?_
        (haveI := later_any; refine wp_region_later (by kernel_rfl) (by kernel_rfl) ?_; (repeat (go_big_quiet_step (first | (go_at_call 73; exact HF.out _)))); refine wpQuiet_nil ?_; intro _ hwq; obtain ⟨xq, hwq2⟩ := hwq; subst hwq2)
        have hX := hal.trans (xq.kept.mono hal.size)
        obtain ⟨⟨b60, b61, b62⟩, ⟨b70, b71, b72, b73, b74, b75, b76⟩, f6, f7⟩ := two_boxesEC hA xq.kept
        have HE1 : Keep (ES wr (some ⟨b1, o1, none⟩) ts) := ⟨e1⟩
        have HE2 : Keep (CS wr b us) := ⟨e2⟩
        have HM1 : Keep (wr.cell? ⟨Ba, 0, none⟩ = some (.slice (some ⟨b1, o1, none⟩) ts.length ca)) := ⟨m1⟩
        have HM2 : Keep (wr.cell? ⟨Bb, 0, none⟩ = some (.slice b us.length cb)) := ⟨m2⟩
        clear hs1 hs2 hes1 hes2 HF cm1 cm2 e1 e2 m1 m2 hA hal
        generalize xq.world = X at *
        clear xq
        obtain ⟨g6, hg6⟩ : ∃ g, g = wr.heap.size := ⟨_, rfl⟩
        obtain ⟨g7, hg7⟩ : ∃ g, g = wr.heap.size + 1 := ⟨_, rfl⟩
        rw [← hg7] at b70 b71 b72 b73 b74 b75 b76 f7 ⊢
        rw [← hg6] at b60 b61 b62 f6 ⊢
        have hn67 : ¬ g6 = g7 := by omega
        have HG : Keep (wr.heap.size ≤ g6 ∧ wr.heap.size ≤ g7) := ⟨by omega⟩
        clear hg6 hg7
        have q1 := cell_later hX HM1.out
        obtain ⟨x0, x1, x2⟩ := (HE1.out.below hX).cells hpl
        gi_upto_region 8 with fail
        replace hX := box3_below (.string ts[p].path) (.string ts[p].text) (.bool ts[p].runs) hX HG.out.1
        obtain ⟨z0, z1, z2⟩ := box3_set (.string ts[p].path) (.string ts[p].text) (.bool ts[p].runs) b60 b61 b62
        replace b70 := (box3_other (.string ts[p].path) (.string ts[p].text) (.bool ts[p].runs) hn67).trans b70
        replace b71 := (box3_other (.string ts[p].path) (.string ts[p].text) (.bool ts[p].runs) hn67).trans b71
        replace b72 := (box3_other (.string ts[p].path) (.string ts[p].text) (.bool ts[p].runs) hn67).trans b72
        replace b73 := (box3_other (.string ts[p].path) (.string ts[p].text) (.bool ts[p].runs) hn67).trans b73
        replace b74 := (box3_other (.string ts[p].path) (.string ts[p].text) (.bool ts[p].runs) hn67).trans b74
        replace b75 := (box3_other (.string ts[p].path) (.string ts[p].text) (.bool ts[p].runs) hn67).trans b75
        replace b76 := (box3_other (.string ts[p].path) (.string ts[p].text) (.bool ts[p].runs) hn67).trans b76
        replace f7 : ∀ j, (((X.setCell ⟨g6, 0, none⟩ (.string ts[p].path)).setCell ⟨g6, 1, none⟩ (.string ts[p].text)).setCell ⟨g6, 2, none⟩ (.bool ts[p].runs)).frozen? ⟨g7, j, none⟩ = false := fun j => (box3_fz (.string ts[p].path) (.string ts[p].text) (.bool ts[p].runs)).trans (f7 j)
        clear b60 b61 b62 x0 x1 x2 q1 f6
        generalize (((X.setCell ⟨g6, 0, none⟩ (.string ts[p].path)).setCell ⟨g6, 1, none⟩ (.string ts[p].text)).setCell ⟨g6, 2, none⟩ (.bool ts[p].runs)) = X2 at *
        clear X
        have hY3 : YieldAt Fence.wide (n - 1) Try.prog l #[.agg #[.string ts[p].path, .string ts[p].text, .bool ts[p].runs], .agg #[.string ⟨#[]⟩, .bool false, .string ⟨#[]⟩, .bool false, .bool false, .string ⟨#[]⟩, .bool false]] X2 (fun e W' => (e = .returned (.bool true) ∧ J (pre ++ [(ts[p].path, some ts[p], none)]) W') ∨ (e = .returned (.bool false) ∧ Jx (pre ++ [(ts[p].path, some ts[p], none)]) W')) := hY pre (ts[p].path, some ts[p], none) _ (hJ pre wr _ hJs hX) ⟨_, hm⟩
        obtain ⟨fn, tmps, assign, body, hy, hR⟩ := hY3
        have HM : Keep (mrgEC ts us = pre ++ [(ts[p].path, some ts[p], none)] ++ mrg En.path Ch.path f (ts.drop (p + 1)) (us.drop (q))) := ⟨hm⟩
        clear hY hJ hM hm hJs hX
        gi_wp2
        refine ⟨fun h => Bool.noConfusion h, hR.mono ?_⟩
        rintro e W3 (⟨rfl, hJ3⟩ | ⟨rfl, hJx3⟩)
        · gi_wp2
          go_roundw
          case rel => exact ⟨p + 1, q, f, pre ++ [(ts[p].path, some ts[p], none)], by congr 1, by congr 1, by omega, by omega, by omega, HM.out, hJ3⟩
          case measure => simp only [intOf]; omega
        · gi_wp2
          refine bodyPost_ret (results_none rfl _ _ _) rfl ?_
          exact ⟨⟨_, rfl⟩, .inr ⟨pre ++ [(ts[p].path, some ts[p], none)], ⟨_, HM.out.symm⟩, hJx3⟩⟩
      · obtain ⟨x, tr, y, ur, hd, hd2, hmr⟩ := frontG_eq (f := f) (by rw [ho]; exact heq)
        obtain ⟨hpl, rfl, rfl⟩ := drop_cons hd
        obtain ⟨hql, rfl, rfl⟩ := drop_cons hd2
        rw [hmr] at hm
        rw [List.append_cons] at hm
        obtain ⟨b1, o1, rfl, hc1⟩ := e1.at hpl
        obtain ⟨b2, o2, rfl, hc2⟩ := e2.at hql
        have hpl' : (p : Int) < ts.length := by omega
        have hql' : (q : Int) < us.length := by omega
        subst heq
        clear hc1 hc2 hd hd2 hmr hnn ho hend
        gi_wp2
        rw [← hA]
        refine wpIn_wide.2 ?_
        (haveI := later_any; refine wp_region_later (by kernel_rfl) (by kernel_rfl) ?_; (repeat (go_big_quiet_step (first | (go_at_call 73; exact HF.out _)))); refine wpQuiet_nil ?_; intro _ hwq; obtain ⟨xq, hwq2⟩ := hwq; subst hwq2)
        have hX := hal.trans (xq.kept.mono hal.size)
        obtain ⟨⟨b60, b61, b62⟩, ⟨b70, b71, b72, b73, b74, b75, b76⟩, f6, f7⟩ := two_boxesEC hA xq.kept
        have HE1 : Keep (ES wr (some ⟨b1, o1, none⟩) ts) := ⟨e1⟩
        have HE2 : Keep (CS wr (some ⟨b2, o2, none⟩) us) := ⟨e2⟩
        have HM1 : Keep (wr.cell? ⟨Ba, 0, none⟩ = some (.slice (some ⟨b1, o1, none⟩) ts.length ca)) := ⟨m1⟩
        have HM2 : Keep (wr.cell? ⟨Bb, 0, none⟩ = some (.slice (some ⟨b2, o2, none⟩) us.length cb)) := ⟨m2⟩
        clear hs1 hs2 hes1 hes2 HF cm1 cm2 e1 e2 m1 m2 hA hal
        generalize xq.world = X at *
        clear xq
        obtain ⟨g6, hg6⟩ : ∃ g, g = wr.heap.size := ⟨_, rfl⟩
        obtain ⟨g7, hg7⟩ : ∃ g, g = wr.heap.size + 1 := ⟨_, rfl⟩
        rw [← hg7] at b70 b71 b72 b73 b74 b75 b76 f7 ⊢
        rw [← hg6] at b60 b61 b62 f6 ⊢
        have hn67 : ¬ g6 = g7 := by omega
        have HG : Keep (wr.heap.size ≤ g6 ∧ wr.heap.size ≤ g7) := ⟨by omega⟩
        clear hg6 hg7
        have q1 := cell_later hX HM1.out
        obtain ⟨x0, x1, x2⟩ := (HE1.out.below hX).cells hpl
        gi_upto_region 8 with fail
        replace hX := box3_below (.string ts[p].path) (.string ts[p].text) (.bool ts[p].runs) hX HG.out.1
        obtain ⟨z0, z1, z2⟩ := box3_set (.string ts[p].path) (.string ts[p].text) (.bool ts[p].runs) b60 b61 b62
        replace b70 := (box3_other (.string ts[p].path) (.string ts[p].text) (.bool ts[p].runs) hn67).trans b70
        replace b71 := (box3_other (.string ts[p].path) (.string ts[p].text) (.bool ts[p].runs) hn67).trans b71
        replace b72 := (box3_other (.string ts[p].path) (.string ts[p].text) (.bool ts[p].runs) hn67).trans b72
        replace b73 := (box3_other (.string ts[p].path) (.string ts[p].text) (.bool ts[p].runs) hn67).trans b73
        replace b74 := (box3_other (.string ts[p].path) (.string ts[p].text) (.bool ts[p].runs) hn67).trans b74
        replace b75 := (box3_other (.string ts[p].path) (.string ts[p].text) (.bool ts[p].runs) hn67).trans b75
        replace b76 := (box3_other (.string ts[p].path) (.string ts[p].text) (.bool ts[p].runs) hn67).trans b76
        replace f7 : ∀ j, (((X.setCell ⟨g6, 0, none⟩ (.string ts[p].path)).setCell ⟨g6, 1, none⟩ (.string ts[p].text)).setCell ⟨g6, 2, none⟩ (.bool ts[p].runs)).frozen? ⟨g7, j, none⟩ = false := fun j => (box3_fz (.string ts[p].path) (.string ts[p].text) (.bool ts[p].runs)).trans (f7 j)
        clear b60 b61 b62 x0 x1 x2 q1 f6
        generalize (((X.setCell ⟨g6, 0, none⟩ (.string ts[p].path)).setCell ⟨g6, 1, none⟩ (.string ts[p].text)).setCell ⟨g6, 2, none⟩ (.bool ts[p].runs)) = X2 at *
        clear X
        have q2 := cell_later hX HM2.out
        obtain ⟨y0, y1, y2, y3, y4, y5, y6⟩ := (HE2.out.below hX).cells hql
        gi_upto_region 11 with fail
        replace hX := box7_below (.string us[q].path) (.bool us[q].old.there) (.string us[q].old.text) (.bool us[q].old.runs) (.bool us[q].new.there) (.string us[q].new.text) (.bool us[q].new.runs) hX HG.out.2
        obtain ⟨v0, v1, v2, v3, v4, v5, v6⟩ := box7_set (.string us[q].path) (.bool us[q].old.there) (.string us[q].old.text) (.bool us[q].old.runs) (.bool us[q].new.there) (.string us[q].new.text) (.bool us[q].new.runs) b70 b71 b72 b73 b74 b75 b76
        have hn76 : ¬ g7 = g6 := fun e => hn67 e.symm
        replace z0 := (box7_other (.string us[q].path) (.bool us[q].old.there) (.string us[q].old.text) (.bool us[q].old.runs) (.bool us[q].new.there) (.string us[q].new.text) (.bool us[q].new.runs) hn76).trans z0
        replace z1 := (box7_other (.string us[q].path) (.bool us[q].old.there) (.string us[q].old.text) (.bool us[q].old.runs) (.bool us[q].new.there) (.string us[q].new.text) (.bool us[q].new.runs) hn76).trans z1
        replace z2 := (box7_other (.string us[q].path) (.bool us[q].old.there) (.string us[q].old.text) (.bool us[q].old.runs) (.bool us[q].new.there) (.string us[q].new.text) (.bool us[q].new.runs) hn76).trans z2
        clear b70 b71 b72 b73 b74 b75 b76 y0 y1 y2 y3 y4 y5 y6 q2 f7
        generalize (((((((X2.setCell ⟨g7, 0, none⟩ (.string us[q].path)).setCell ⟨g7, 1, none⟩ (.bool us[q].old.there)).setCell ⟨g7, 2, none⟩ (.string us[q].old.text)).setCell ⟨g7, 3, none⟩ (.bool us[q].old.runs)).setCell ⟨g7, 4, none⟩ (.bool us[q].new.there)).setCell ⟨g7, 5, none⟩ (.string us[q].new.text)).setCell ⟨g7, 6, none⟩ (.bool us[q].new.runs)) = X3 at *
        have hY3 : YieldAt Fence.wide (n - 1) Try.prog l #[.agg #[.string ts[p].path, .string ts[p].text, .bool ts[p].runs], .agg #[.string us[q].path, .bool us[q].old.there, .string us[q].old.text, .bool us[q].old.runs, .bool us[q].new.there, .string us[q].new.text, .bool us[q].new.runs]] X3 (fun e W' => (e = .returned (.bool true) ∧ J (pre ++ [(ts[p].path, some ts[p], some us[q])]) W') ∨ (e = .returned (.bool false) ∧ Jx (pre ++ [(ts[p].path, some ts[p], some us[q])]) W')) := hY pre (ts[p].path, some ts[p], some us[q]) _ (hJ pre wr _ hJs hX) ⟨_, hm⟩
        obtain ⟨fn, tmps, assign, body, hy, hR⟩ := hY3
        have HM : Keep (mrgEC ts us = pre ++ [(ts[p].path, some ts[p], some us[q])] ++ mrg En.path Ch.path f (ts.drop (p + 1)) (us.drop (q + 1))) := ⟨hm⟩
        clear hY hJ hM hm hJs hX
        gi_wp2
        refine ⟨fun h => Bool.noConfusion h, hR.mono ?_⟩
        rintro e W3 (⟨rfl, hJ3⟩ | ⟨rfl, hJx3⟩)
        · gi_wp2
          go_roundw
          case rel => exact ⟨p + 1, q + 1, f, pre ++ [(ts[p].path, some ts[p], some us[q])], by congr 1, by congr 1, by omega, by omega, by omega, HM.out, hJ3⟩
          case measure => simp only [intOf]; omega
        · gi_wp2
          refine bodyPost_ret (results_none rfl _ _ _) rfl ?_
          exact ⟨⟨_, rfl⟩, .inr ⟨pre ++ [(ts[p].path, some ts[p], some us[q])], ⟨_, HM.out.symm⟩, hJx3⟩⟩
      · obtain ⟨y, ur, hd, hmr⟩ := frontG_gt (f := f) (by rw [ho]; exact hgt) hnn
        obtain ⟨hql, rfl, rfl⟩ := drop_cons hd
        rw [hmr] at hm
        rw [List.append_cons] at hm
        obtain ⟨b2, o2, rfl, hc2⟩ := e2.at hql
        have hql' : (q : Int) < us.length := by omega
        have ho1 : ¬ o ≤ 0 := by omega
        have ho2 : 0 ≤ o := by omega
        clear hc2 hd hmr hnn ho hend hgt
        by_cases hpl : p < ts.length
        · have hpl' : (p : Int) < ts.length := by omega
          gi_wp2
          rw [← hA]
          refine wpIn_wide.2 ?_
          (haveI := later_any; refine wp_region_later (by kernel_rfl) (by kernel_rfl) ?_; (repeat (go_big_quiet_step (first | (go_at_call 73; exact HF.out _)))); refine wpQuiet_nil ?_; intro _ hwq; obtain ⟨xq, hwq2⟩ := hwq; subst hwq2)
          have hX := hal.trans (xq.kept.mono hal.size)
          obtain ⟨⟨b60, b61, b62⟩, ⟨b70, b71, b72, b73, b74, b75, b76⟩, f6, f7⟩ := two_boxesEC hA xq.kept
          have HE1 : Keep (ES wr a ts) := ⟨e1⟩
          have HE2 : Keep (CS wr (some ⟨b2, o2, none⟩) us) := ⟨e2⟩
          have HM1 : Keep (wr.cell? ⟨Ba, 0, none⟩ = some (.slice a ts.length ca)) := ⟨m1⟩
          have HM2 : Keep (wr.cell? ⟨Bb, 0, none⟩ = some (.slice (some ⟨b2, o2, none⟩) us.length cb)) := ⟨m2⟩
          clear hs1 hs2 hes1 hes2 HF cm1 cm2 e1 e2 m1 m2 hA hal
          generalize xq.world = X at *
          clear xq
          obtain ⟨g6, hg6⟩ : ∃ g, g = wr.heap.size := ⟨_, rfl⟩
          obtain ⟨g7, hg7⟩ : ∃ g, g = wr.heap.size + 1 := ⟨_, rfl⟩
          rw [← hg7] at b70 b71 b72 b73 b74 b75 b76 f7 ⊢
          rw [← hg6] at b60 b61 b62 f6 ⊢
          have hn67 : ¬ g6 = g7 := by omega
          have HG : Keep (wr.heap.size ≤ g6 ∧ wr.heap.size ≤ g7) := ⟨by omega⟩
          clear hg6 hg7
          have q2 := cell_later hX HM2.out
          obtain ⟨y0, y1, y2, y3, y4, y5, y6⟩ := (HE2.out.below hX).cells hql
          gi_upto_region 11 with fail
          replace hX := box7_below (.string us[q].path) (.bool us[q].old.there) (.string us[q].old.text) (.bool us[q].old.runs) (.bool us[q].new.there) (.string us[q].new.text) (.bool us[q].new.runs) hX HG.out.2
          obtain ⟨v0, v1, v2, v3, v4, v5, v6⟩ := box7_set (.string us[q].path) (.bool us[q].old.there) (.string us[q].old.text) (.bool us[q].old.runs) (.bool us[q].new.there) (.string us[q].new.text) (.bool us[q].new.runs) b70 b71 b72 b73 b74 b75 b76
          have hn76 : ¬ g7 = g6 := fun e => hn67 e.symm
          replace b60 := (box7_other (.string us[q].path) (.bool us[q].old.there) (.string us[q].old.text) (.bool us[q].old.runs) (.bool us[q].new.there) (.string us[q].new.text) (.bool us[q].new.runs) hn76).trans b60
          replace b61 := (box7_other (.string us[q].path) (.bool us[q].old.there) (.string us[q].old.text) (.bool us[q].old.runs) (.bool us[q].new.there) (.string us[q].new.text) (.bool us[q].new.runs) hn76).trans b61
          replace b62 := (box7_other (.string us[q].path) (.bool us[q].old.there) (.string us[q].old.text) (.bool us[q].old.runs) (.bool us[q].new.there) (.string us[q].new.text) (.bool us[q].new.runs) hn76).trans b62
          clear b70 b71 b72 b73 b74 b75 b76 y0 y1 y2 y3 y4 y5 y6 q2 f7
          generalize (((((((X.setCell ⟨g7, 0, none⟩ (.string us[q].path)).setCell ⟨g7, 1, none⟩ (.bool us[q].old.there)).setCell ⟨g7, 2, none⟩ (.string us[q].old.text)).setCell ⟨g7, 3, none⟩ (.bool us[q].old.runs)).setCell ⟨g7, 4, none⟩ (.bool us[q].new.there)).setCell ⟨g7, 5, none⟩ (.string us[q].new.text)).setCell ⟨g7, 6, none⟩ (.bool us[q].new.runs)) = X3 at *
          have hY3 : YieldAt Fence.wide (n - 1) Try.prog l #[.agg #[.string ⟨#[]⟩, .string ⟨#[]⟩, .bool false], .agg #[.string us[q].path, .bool us[q].old.there, .string us[q].old.text, .bool us[q].old.runs, .bool us[q].new.there, .string us[q].new.text, .bool us[q].new.runs]] X3 (fun e W' => (e = .returned (.bool true) ∧ J (pre ++ [(us[q].path, none, some us[q])]) W') ∨ (e = .returned (.bool false) ∧ Jx (pre ++ [(us[q].path, none, some us[q])]) W')) := hY pre (us[q].path, none, some us[q]) _ (hJ pre wr _ hJs hX) ⟨_, hm⟩
          obtain ⟨fn, tmps, assign, body, hy, hR⟩ := hY3
          have HM : Keep (mrgEC ts us = pre ++ [(us[q].path, none, some us[q])] ++ mrg En.path Ch.path f (ts.drop (p)) (us.drop (q + 1))) := ⟨hm⟩
          clear hY hJ hM hm hJs hX
          gi_wp2
          refine ⟨fun h => Bool.noConfusion h, hR.mono ?_⟩
          rintro e W3 (⟨rfl, hJ3⟩ | ⟨rfl, hJx3⟩)
          · gi_wp2
            go_roundw
            case rel => exact ⟨p, q + 1, f, pre ++ [(us[q].path, none, some us[q])], by congr 1, by congr 1, by omega, by omega, by omega, HM.out, hJ3⟩
            case measure => simp only [intOf]; omega
          · gi_wp2
            refine bodyPost_ret (results_none rfl _ _ _) rfl ?_
            exact ⟨⟨_, rfl⟩, .inr ⟨pre ++ [(us[q].path, none, some us[q])], ⟨_, HM.out.symm⟩, hJx3⟩⟩
        · have hpl' : ¬ (p : Int) < ts.length := by omega
          gi_wp2
          rw [← hA]
          refine wpIn_wide.2 ?_
          (haveI := later_any; refine wp_region_later (by kernel_rfl) (by kernel_rfl) ?_; (repeat (go_big_quiet_step (first | (go_at_call 73; exact HF.out _)))); refine wpQuiet_nil ?_; intro _ hwq; obtain ⟨xq, hwq2⟩ := hwq; subst hwq2)
          have hX := hal.trans (xq.kept.mono hal.size)
          obtain ⟨⟨b60, b61, b62⟩, ⟨b70, b71, b72, b73, b74, b75, b76⟩, f6, f7⟩ := two_boxesEC hA xq.kept
          have HE1 : Keep (ES wr a ts) := ⟨e1⟩
          have HE2 : Keep (CS wr (some ⟨b2, o2, none⟩) us) := ⟨e2⟩
          have HM1 : Keep (wr.cell? ⟨Ba, 0, none⟩ = some (.slice a ts.length ca)) := ⟨m1⟩
          have HM2 : Keep (wr.cell? ⟨Bb, 0, none⟩ = some (.slice (some ⟨b2, o2, none⟩) us.length cb)) := ⟨m2⟩
          clear hs1 hs2 hes1 hes2 HF cm1 cm2 e1 e2 m1 m2 hA hal
          generalize xq.world = X at *
          clear xq
          obtain ⟨g6, hg6⟩ : ∃ g, g = wr.heap.size := ⟨_, rfl⟩
          obtain ⟨g7, hg7⟩ : ∃ g, g = wr.heap.size + 1 := ⟨_, rfl⟩
          rw [← hg7] at b70 b71 b72 b73 b74 b75 b76 f7 ⊢
          rw [← hg6] at b60 b61 b62 f6 ⊢
          have hn67 : ¬ g6 = g7 := by omega
          have HG : Keep (wr.heap.size ≤ g6 ∧ wr.heap.size ≤ g7) := ⟨by omega⟩
          clear hg6 hg7
          have q2 := cell_later hX HM2.out
          obtain ⟨y0, y1, y2, y3, y4, y5, y6⟩ := (HE2.out.below hX).cells hql
          gi_upto_region 11 with fail
          replace hX := box7_below (.string us[q].path) (.bool us[q].old.there) (.string us[q].old.text) (.bool us[q].old.runs) (.bool us[q].new.there) (.string us[q].new.text) (.bool us[q].new.runs) hX HG.out.2
          obtain ⟨v0, v1, v2, v3, v4, v5, v6⟩ := box7_set (.string us[q].path) (.bool us[q].old.there) (.string us[q].old.text) (.bool us[q].old.runs) (.bool us[q].new.there) (.string us[q].new.text) (.bool us[q].new.runs) b70 b71 b72 b73 b74 b75 b76
          have hn76 : ¬ g7 = g6 := fun e => hn67 e.symm
          replace b60 := (box7_other (.string us[q].path) (.bool us[q].old.there) (.string us[q].old.text) (.bool us[q].old.runs) (.bool us[q].new.there) (.string us[q].new.text) (.bool us[q].new.runs) hn76).trans b60
          replace b61 := (box7_other (.string us[q].path) (.bool us[q].old.there) (.string us[q].old.text) (.bool us[q].old.runs) (.bool us[q].new.there) (.string us[q].new.text) (.bool us[q].new.runs) hn76).trans b61
          replace b62 := (box7_other (.string us[q].path) (.bool us[q].old.there) (.string us[q].old.text) (.bool us[q].old.runs) (.bool us[q].new.there) (.string us[q].new.text) (.bool us[q].new.runs) hn76).trans b62
          clear b70 b71 b72 b73 b74 b75 b76 y0 y1 y2 y3 y4 y5 y6 q2 f7
          generalize (((((((X.setCell ⟨g7, 0, none⟩ (.string us[q].path)).setCell ⟨g7, 1, none⟩ (.bool us[q].old.there)).setCell ⟨g7, 2, none⟩ (.string us[q].old.text)).setCell ⟨g7, 3, none⟩ (.bool us[q].old.runs)).setCell ⟨g7, 4, none⟩ (.bool us[q].new.there)).setCell ⟨g7, 5, none⟩ (.string us[q].new.text)).setCell ⟨g7, 6, none⟩ (.bool us[q].new.runs)) = X3 at *
          have hY3 : YieldAt Fence.wide (n - 1) Try.prog l #[.agg #[.string ⟨#[]⟩, .string ⟨#[]⟩, .bool false], .agg #[.string us[q].path, .bool us[q].old.there, .string us[q].old.text, .bool us[q].old.runs, .bool us[q].new.there, .string us[q].new.text, .bool us[q].new.runs]] X3 (fun e W' => (e = .returned (.bool true) ∧ J (pre ++ [(us[q].path, none, some us[q])]) W') ∨ (e = .returned (.bool false) ∧ Jx (pre ++ [(us[q].path, none, some us[q])]) W')) := hY pre (us[q].path, none, some us[q]) _ (hJ pre wr _ hJs hX) ⟨_, hm⟩
          obtain ⟨fn, tmps, assign, body, hy, hR⟩ := hY3
          have HM : Keep (mrgEC ts us = pre ++ [(us[q].path, none, some us[q])] ++ mrg En.path Ch.path f (ts.drop (p)) (us.drop (q + 1))) := ⟨hm⟩
          clear hY hJ hM hm hJs hX
          gi_wp2
          refine ⟨fun h => Bool.noConfusion h, hR.mono ?_⟩
          rintro e W3 (⟨rfl, hJ3⟩ | ⟨rfl, hJx3⟩)
          · gi_wp2
            go_roundw
            case rel => exact ⟨p, q + 1, f, pre ++ [(us[q].path, none, some us[q])], by congr 1, by congr 1, by omega, by omega, by omega, HM.out, hJ3⟩
            case measure => simp only [intOf]; omega
          · gi_wp2
            refine bodyPost_ret (results_none rfl _ _ _) rfl ?_
            exact ⟨⟨_, rfl⟩, .inr ⟨pre ++ [(us[q].path, none, some us[q])], ⟨_, HM.out.symm⟩, hJx3⟩⟩

set_option maxHeartbeats 400000 in
theorem sideEC_any (a b : Option Addr) (n m ca cb : Nat) (w : World) :
    Calls Try.prog 48 #[.slice a n ca, .slice b m cb] w fun e w' => e = .returned (.func (.func 72) #[] #[.pointer (some ⟨w.heap.size, 0, none⟩), .pointer (some ⟨w.heap.size + 1, 0, none⟩)]) ∧ w' = (w.alloc (.cells #[.slice a n ca] 30)).alloc (.cells #[.slice b m cb] 35) := by
  go_enter Try.func48, Try.ntmps48
  go_wp2
  go_ret
  exact ⟨by simp, rfl⟩
end Go.Proofs.Ytockgapdfcapnaa

namespace Go.Proofs.Ytockgapdfcapnaa
open Go.RowKit Go.Shelf

/-- The function gf with the captured values lb goes through the list all. -/
def Iter {α : Type} (gf : Nat) (lb : Array Value) (enc : α → Array Value) (all : List α) (M : World → Prop) : Prop :=
  ∀ (n l : Nat) (J Jx : List α → World → Prop) (W : World), (∀ pre W1, J pre W1 → M W1) → (∀ pre W1 W2, J pre W1 → Below W1.heap.size W1 W2 → J pre W2) →
    (∀ pre x W1, J pre W1 → (∃ r, all = (pre ++ [x]) ++ r) → YieldAt Fence.wide (n - 1) Try.prog l (enc x) W1 fun e W' =>
      (e = .returned (.bool true) ∧ J (pre ++ [x]) W') ∨ (e = .returned (.bool false) ∧ Jx (pre ++ [x]) W')) → J [] W →
    CallsIn Fence.wide n Try.prog gf (#[.func (.yield l) #[] #[]] ++ lb) W fun e W' => (∃ v, e = .returned v) ∧ (J all W' ∨ (∃ pre, pre <+: all ∧ Jx pre W'))

/-- The loop's own two blocks. -/
def TwoB (B : Nat) (W W' : World) : Prop := W'.heap[B]? = W.heap[B]? ∧ W'.heap[B + 1]? = W.heap[B + 1]?

/-- How the body of a round may be left. -/
def iterPost {α : Type} (B : Nat) (I : List α → World → Prop) (Ix : List α → World → Prop) (xs : List α) (W : World) : Exit → Act → World → Prop
  | .normal, _, W' => TwoB B W W' ∧ I xs W'
  | .ret, _, W' => TwoB B W W' ∧ Ix xs W'
  | .exit _, _, _ => False
  | .goto _, _, _ => False
  | .panic _, _, _ => False
  | .outgrown, _, _ => False

theorem range_iter {α : Type} {gf : Nat} {lb : Array Value} {enc : α → Array Value} {all : List α} {M : World → Prop} (hIt : Iter gf lb enc all M) (heg : ∀ args w, (callFunc gf args).run Try.prog w = .ok (.enter gf args) w)
    {g : Operand} {ps : Array Tmp} {assign body : Code} {Q : Exit → Act → World → Prop} {a : Act} {w : World} {n : Nat} (h1 : 1 ≤ n)
    (hg : a.eval g = .func (.func gf) #[] lb) (hps : ∀ x, (enc x).size = ps.size)
    (I Ix : List α → World → Prop) (hIM : ∀ pre W, I pre W → M W) (hIb : ∀ pre W W', I pre W → Below W.heap.size W W' → I pre W')
    (hIp : ∀ pre W l o, (l = w.heap.size ∨ l = w.heap.size + 1) → I pre W → I pre (W.putObj l o)) (hXp : ∀ pre W l o, (l = w.heap.size ∨ l = w.heap.size + 1) → Ix pre W → Ix pre (W.putObj l o))
    (h0 : ∀ o1 o2, I [] ((w.alloc o1).alloc o2)) (Bx : α → Nat → Act → World → Prop) (hBp : ∀ x B a' W l o, l < B → Bx x B a' W → Bx x B a' (W.putObj l o))
    (hassign : ∀ (l : Nat) (x : α) (W : World) (K : Act → World → Prop), (∀ a' W', Below W.heap.size W W' → Bx x W.heap.size a' W' → K a' W') →
      assign.wpIn (Fence.wide.inRound l) (n - 1 - 1) Try.prog (Exit.then K (fun _ _ _ => False)) { tmps := (ps.zip (enc x)).foldl (fun t (p, v) => t.setIfInBounds p v) a.tmps, defers := [] } W)
    (hbody : ∀ (l : Nat) (pre : List α) (x : α) (a' : Act) (B : Nat) (W : World), I pre W → (∃ r, all = pre ++ [x] ++ r) → w.heap.size + 1 < B → B ≤ W.heap.size → Bx x B a' W → body.wpIn (Fence.wide.inRound l) (n - 1 - 1) Try.prog (iterPost w.heap.size I Ix (pre ++ [x]) W) a' W)
    (hdone : ∀ (W : World), I all W → W.heap[w.heap.size]? = some (.deferred (some [])) → Q .normal { a with defers := { target := .collected w.heap.size, args := #[] } :: a.defers } W)
    (hstop : ∀ (pre : List α) (W : World), pre <+: all → Ix pre W → W.heap[w.heap.size]? = some (.deferred (some [])) → Code.ret.wpIn Fence.wide n Try.prog Q { a with defers := { target := .collected w.heap.size, args := #[] } :: a.defers } W) :
    (Code.rangeFunc g ps assign body).wpIn Fence.wide n Try.prog Q a w := by
  refine wpIn_rangeFunc ?_
  intro fn hfn
  rw [show Fence.wide.round = none from rfl]
  obtain ⟨rc, hrc⟩ : ∃ rc : LoopState → Option Code → Loop, rc = fun st pe => { state := st, pending := pe, fn, tmps := a.tmps, params := ps, assign, body, defers := w.heap.size } := ⟨_, rfl⟩
  obtain ⟨W1, hW1⟩ : ∃ W1, (w.alloc (.deferred (some []))).alloc (.loop (rc .ready none)) = W1 := ⟨_, rfl⟩
  have hL1 : W1.heap[w.heap.size + 1]? = some (.loop (rc .ready none)) := by
    rw [← hW1]
    have := World.alloc_heap_new (w.alloc (.deferred (some []))) (.loop (rc .ready none))
    rwa [World.size_alloc] at this
  have hK1 : W1.heap[w.heap.size]? = some (.deferred (some [])) := by
    rw [← hW1]; exact (Below.heap_alloc _ _ _ (by simp)).trans (World.alloc_heap_new w _)
  have hI1 : I [] W1 := by rw [← hW1]; exact h0 _ _
  refine ⟨w.heap.size + 1, [{ target := .collected w.heap.size, args := #[] }], W1, { target := .fn (.func gf) lb, args := #[.func (.yield (w.heap.size + 1)) #[] #[]] }, W1, gf,
    #[.func (.yield (w.heap.size + 1)) #[] #[]] ++ lb, W1, ?_, ?_, ?_, ?_, fun _ => h1, ?_⟩
  · rw [← hW1, hrc]; exact run_enterLoop_outer _ _ _ _ _
  · simp only [resolve, hg]
    simp [go_sem]
  · intro f' hf'; trivial
  · simp [invoke, go_sem, heg]
  · refine (hIt (n - 1) (w.heap.size + 1)
      (fun pre W => I pre W ∧ W.heap[w.heap.size + 1]? = some (.loop (rc .ready none)) ∧ W.heap[w.heap.size]? = some (.deferred (some [])))
      (fun pre W => Ix pre W ∧ W.heap[w.heap.size + 1]? = some (.loop (rc .done (some .ret))) ∧ W.heap[w.heap.size]? = some (.deferred (some [])))
      W1 (fun pre W hJ => hIM pre W hJ.1)
      (fun pre W W' hJ hb => ⟨hIb _ _ _ hJ.1 hb, (hb.block _ (Array.getElem?_eq_some_iff.1 hJ.2.1).1).trans hJ.2.1, (hb.block _ (Array.getElem?_eq_some_iff.1 hJ.2.2).1).trans hJ.2.2⟩) ?_ ⟨hI1, hL1, hK1⟩).mono ?_
    · rintro pre x W ⟨hi, hl, hk⟩ hr
      have hlt1 : w.heap.size + 1 < W.heap.size := (Array.getElem?_eq_some_iff.1 hl).1
      have hy := run_yield (P := Try.prog) (args := enc x) hl (by rw [hrc]; exact hps x)
      rw [hrc] at hy
      refine ⟨fn, _, assign, body, hy, roundIn_of_wpIn hfn (hassign _ x W _ ?_)⟩
      intro a2 W2 hb2 hbx
      have hl' : W2.heap[w.heap.size + 1]? = some (.loop (rc .ready none)) := (hb2.block _ hlt1).trans hl
      have hk' : W2.heap[w.heap.size]? = some (.deferred (some [])) := (hb2.block _ (by omega)).trans hk
      have hlt2 : w.heap.size + 1 < W2.heap.size := Nat.lt_of_lt_of_le hlt1 hb2.size
      refine ⟨_, run_beginRound hl' (by rw [hrc]), ?_⟩
      have hl2 : (W2.putObj (w.heap.size + 1) (.loop { rc .ready none with state := .busy })).heap[w.heap.size + 1]? = some (.loop { rc .ready none with state := .busy }) := World.putObj_heap_same hlt2
      have hk2 : (W2.putObj (w.heap.size + 1) (.loop { rc .ready none with state := .busy })).heap[w.heap.size]? = some (.deferred (some [])) := (World.putObj_heap_other (by omega)).trans hk'
      refine wpIn_mono (hbody _ pre x _ W.heap.size _ (hIp _ _ _ _ (.inr rfl) (hIb _ _ _ hi hb2)) hr hlt1 (by simpa using hb2.size) (hBp _ _ _ _ _ _ hlt1 hbx)) ?_
      have fin : ∀ (jump : Option Code) (W3 : World), TwoB w.heap.size (W2.putObj (w.heap.size + 1) (.loop { rc .ready none with state := .busy })) W3 →
          (Instr.endRound (w.heap.size + 1) jump).run Try.prog W3 = .ok (.bool jump.isNone) (W3.putObj (w.heap.size + 1) (.loop (rc (if jump.isNone then .ready else .done) jump))) ∧
          (W3.putObj (w.heap.size + 1) (.loop (rc (if jump.isNone then .ready else .done) jump))).heap[w.heap.size + 1]? = some (.loop (rc (if jump.isNone then .ready else .done) jump)) ∧
          (W3.putObj (w.heap.size + 1) (.loop (rc (if jump.isNone then .ready else .done) jump))).heap[w.heap.size]? = some (.deferred (some [])) := fun jump W3 h3 => by
        have hl3 := h3.2.trans hl2
        have := run_endRound (P := Try.prog) jump hl3
        rw [hrc] at this ⊢
        rw [hrc] at hl3
        exact ⟨this, World.putObj_heap_same (Array.getElem?_eq_some_iff.1 hl3).1, (World.putObj_heap_other (by omega)).trans (h3.1.trans hk2)⟩
      rintro e a3 W3 hp
      cases e with
      | normal =>
        obtain ⟨h3, hi3⟩ := hp
        obtain ⟨hr3, hl4, hk4⟩ := fin none W3 h3
        exact ⟨_, _, hr3, .inl ⟨rfl, hIp _ _ _ _ (.inr rfl) hi3, hl4, hk4⟩⟩
      | ret =>
        obtain ⟨h3, hi3⟩ := hp
        obtain ⟨hr3, hl4, hk4⟩ := fin (some .ret) W3 h3
        exact ⟨_, _, hr3, .inr ⟨rfl, hXp _ _ _ _ (.inr rfl) hi3, hl4, hk4⟩⟩
      | exit id => exact hp.elim
      | goto t => exact hp.elim
      | panic ch => exact hp.elim
      | outgrown => exact hp.elim
    · rintro e W2 ⟨⟨v, rfl⟩, (⟨hi, hl, hk⟩ | ⟨pre, hpre, hi, hl, hk⟩)⟩
      · exact ⟨none, _, by have := run_endLoop (P := Try.prog) hl (by rw [hrc]; simp); rw [hrc] at this; exact this, hdone _ (hIp _ _ _ _ (.inr rfl) hi) ((World.putObj_heap_other (by omega)).trans hk)⟩
      · exact ⟨some .ret, _, by have := run_endLoop (P := Try.prog) hl (by rw [hrc]; simp); rw [hrc] at this; exact this, hstop pre _ hpre (hXp _ _ _ _ (.inr rfl) hi) ((World.putObj_heap_other (by omega)).trans hk)⟩
end Go.Proofs.Ytockgapdfcapnaa
