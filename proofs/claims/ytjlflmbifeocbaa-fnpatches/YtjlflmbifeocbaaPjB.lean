/-
  PthC, FrontEC, CutC, SideEC, RangeJ, RegW, AppP, CBx, StayC, EntOf, AppB, LyS, ApR, ApS, JoinP, PjP, RegX, WTr, WPt, DecT2, DrawMs, AppR, AppI, FrontC, SideC, JnB, JoinI, PjW, DrawMr, DrawMg, LawPj, ExactPj: laid as one text.
-/
import Derived.Test.YtjlflmbifeocbaaChangesB
import Derived.Test.YtjlflmbifeocbaaSplitP
import Derived.Test.YtjlflmbifeocbaaLaterQ
import Derived.Test.YtjlflmbifeocbaaPjA
import Derived.Deep.RegionWith
import Derived.Below
import Derived.RangeFuncNested
import Derived.RangeFuncBound
import Derived.RangeFuncCalls
import Derived.RangeFuncLeaves
import Derived.Shelf.Abstract
import Derived.Shelf.RegionOpen
import Derived.WalkKit
import Derived.OwnWalkIn
import Derived.TacticsInMore
import Derived.LoopNIn
import Derived.LoopIn
import Derived.Sort.CutIn
import Derived.Test.YtjlflmbifeocbaaSetP
import Derived.Test.YtjlflmbifeocbaaOutL
import Derived.Test.YtjlflmbifeocbaaEntB
import Derived.Test.YtjlflmbifeocbaaClone
import Derived.Test.YtjlflmbifeocbaaSetS
import Derived.Deep.RegionLaw
import Derived.Test.YtjlflmbifeocbaaCopyT
import Derived.Test.YtjlflmbifeocbaaSpecTree
import Derived.Deep.CutRange
import Derived.Test.YtjlflmbifeocbaaPatP
import Derived.Test.YtjlflmbifeocbaaChOut
import Derived.Test.YtjlflmbifeocbaaDrawPth
import Derived.Deep.DeepCutAuto
import Derived.Test.YtjlflmbifeocbaaDecT
import Derived.Test.YtjlflmbifeocbaaDrawTr
import Derived.Deep.AppendLies
import Derived.Test.YtjlflmbifeocbaaChgI
import Derived.Test.YtjlflmbifeocbaaNear
import Derived.Test.YtjlflmbifeocbaaDrawS5
import Derived.ProofKit
import Derived.OpenShut
import Derived.ShutString
import Derived.ChangeOld
import Derived.SliceStrings
import Derived.ChangeSlices
namespace Go.Proofs.Ytjlflmbifeocbaa
open Go.RowKit

set_option maxRecDepth 100000 in
theorem mp_c (x : Value) (w : World) : (method 245 68 x "loop.example/kilntree/impl.path").run Try.prog w = .ok (111, x) w := by kernel_rfl
set_option maxRecDepth 100000 in
theorem cp_c (x : Value) (w : World) : (callFunc 111 #[x]).run Try.prog w = .ok (.enter 111 #[x]) w := by kernel_rfl

theorem pathC_any (c : Ch) (w : World) : Calls Try.prog 111 #[.agg #[.string c.path, .bool c.old.there, .string c.old.text, .bool c.old.runs, .bool c.new.there, .string c.new.text, .bool c.new.runs]] w fun r w' => r = .returned (.string c.path) ∧ Below w.heap.size w w' := by
  go_enter Try.func111, Try.ntmps111
  go_wp2
  go_ret
  exact ⟨rfl, (Below.refl _ _).alloc (Nat.le_refl _) _⟩
end Go.Proofs.Ytjlflmbifeocbaa

namespace Go.Proofs.Ytjlflmbifeocbaa
open Go.RowKit

set_option maxRecDepth 100000 in
set_option maxHeartbeats 4000000 in
theorem frontsEC_any (a b : Option Addr) (ca cb : Nat) (ts : List En) (us : List Ch) (w : World) (hts : ES w a ts) (hus : CS w b us) :
    Calls Try.prog 62 #[.slice a ts.length ca, .slice b us.length cb] w fun e w' => e = .returned (.int .i64 (frontG En.path Ch.path ts us)) ∧ Below w.heap.size w w' := by
  cases ts with
  | nil =>
    go_enter Try.func62, Try.ntmps62
    go_wp2
    go_ret
    exact ⟨rfl, Below.refl _ _⟩
  | cons x ts =>
    obtain ⟨b1, o1, rfl, hc1⟩ := hts.at (k := 0) (by simp)
    obtain ⟨x0, x1, x2⟩ := hc1 0 (by simp)
    simp only [List.getElem_cons_zero, Nat.zero_mul, Nat.add_zero] at x0 x1 x2
    have hl1 : (((x :: ts).length : Int) == 0) = false := by simp; omega
    have hl1' : (0 : Int) < (x :: ts).length := by rw [List.length_cons]; omega
    clear hc1 hts
    cases us with
    | nil =>
      generalize (x :: ts).length = n1 at *
      go_enter Try.func62, Try.ntmps62
      go_wp2
      go_ret
      exact ⟨rfl, Below.refl _ _⟩
    | cons y us =>
      obtain ⟨b2, o2, rfl, hc2⟩ := hus.at (k := 0) (by simp)
      obtain ⟨y0, y1, y2, y3, y4, y5, y6⟩ := hc2 0 (by simp)
      simp only [List.getElem_cons_zero, Nat.zero_mul, Nat.add_zero] at y0 y1 y2 y3 y4 y5 y6
      have hl2 : (((y :: us).length : Int) == 0) = false := by simp; omega
      have hl2' : (0 : Int) < (y :: us).length := by rw [List.length_cons]; omega
      clear hc2 hus
      generalize (x :: ts).length = n1 at *
      generalize (y :: us).length = n2 at *
      have cx0 : ∀ z : Later w, z.world.cell? ⟨b1, o1, none⟩ = some (.string x.path) := fun z => cell_later z.kept x0
      have cx1 : ∀ z : Later w, z.world.cell? ⟨b1, o1 + 1, none⟩ = some (.string x.text) := fun z => cell_later z.kept x1
      have cx2 : ∀ z : Later w, z.world.cell? ⟨b1, o1 + 2, none⟩ = some (.bool x.runs) := fun z => cell_later z.kept x2
      have cy0 : ∀ z : Later w, z.world.cell? ⟨b2, o2, none⟩ = some (.string y.path) := fun z => cell_later z.kept y0
      have cy1 : ∀ z : Later w, z.world.cell? ⟨b2, o2 + 1, none⟩ = some (.bool y.old.there) := fun z => cell_later z.kept y1
      have cy2 : ∀ z : Later w, z.world.cell? ⟨b2, o2 + 2, none⟩ = some (.string y.old.text) := fun z => cell_later z.kept y2
      have cy3 : ∀ z : Later w, z.world.cell? ⟨b2, o2 + 3, none⟩ = some (.bool y.old.runs) := fun z => cell_later z.kept y3
      have cy4 : ∀ z : Later w, z.world.cell? ⟨b2, o2 + 4, none⟩ = some (.bool y.new.there) := fun z => cell_later z.kept y4
      have cy5 : ∀ z : Later w, z.world.cell? ⟨b2, o2 + 5, none⟩ = some (.string y.new.text) := fun z => cell_later z.kept y5
      have cy6 : ∀ z : Later w, z.world.cell? ⟨b2, o2 + 6, none⟩ = some (.bool y.new.runs) := fun z => cell_later z.kept y6
      have HC1 : Keep (∀ z : Later w, Calls Try.prog 109 #[.agg #[.string x.path, .string x.text, .bool x.runs]] z.world fun e w'' => e = .returned (.string x.path) ∧ ∃ q : Later w, w'' = q.world) := ⟨fun z => Later.call z (pathE_any x _)⟩
      have HC2 : Keep (∀ z : Later w, Calls Try.prog 111 #[.agg #[.string y.path, .bool y.old.there, .string y.old.text, .bool y.old.runs, .bool y.new.there, .string y.new.text, .bool y.new.runs]] z.world fun e w'' => e = .returned (.string y.path) ∧ ∃ q : Later w, w'' = q.world) := ⟨fun z => Later.call z (pathC_any y _)⟩
      have HC3 : Keep (∀ z : Later w, Calls Try.prog 71 #[.string x.path, .string y.path] z.world fun e w'' => e = .returned (.int .i64 (Lib.compareBytes x.path.data.toList y.path.data.toList)) ∧ ∃ q : Later w, w'' = q.world) := ⟨fun z => Later.call z ((compare_any x.path y.path z.world).mono (fun e w' h => ⟨h.1, by rw [h.2]; exact Below.refl _ _⟩))⟩
      have HCM : Keep (frontG En.path Ch.path (x :: ts) (y :: us) = Lib.compareBytes x.path.data.toList y.path.data.toList) := ⟨rfl⟩
      clear x0 x1 x2 y0 y1 y2 y3 y4 y5 y6
      have hmp := mp_e
      have hcp := cp_e
      have hmp2 := mp_c
      have hcp2 := cp_c
      go_enter Try.func62, Try.ntmps62
      go_upto_region 5 with fail
      (haveI := later_any; refine wp_region_later (by kernel_rfl) (by kernel_rfl) ?_; (repeat (go_big_quiet_step (first | (go_at_call_of 109 ([Value.agg #[.string x.path, .string x.text, .bool x.runs]] : List Value); exact HC1.out _) | (go_at_call_of 111 ([Value.agg #[.string y.path, .bool y.old.there, .string y.old.text, .bool y.old.runs, .bool y.new.there, .string y.new.text, .bool y.new.runs]] : List Value); exact HC2.out _) | (go_at_call 71; exact HC3.out _)))); refine wpQuiet_nil ?_; intro _ hwq; obtain ⟨xq, hwq2⟩ := hwq; subst hwq2)
      go_wp2
      go_ret
      exact ⟨by rw [HCM.out]; rfl, xq.kept⟩
end Go.Proofs.Ytjlflmbifeocbaa

namespace Go.Proofs.Ytjlflmbifeocbaa
open Go.RowKit

/-- The change that is nothing. -/
def noCh : Ch := ⟨⟨#[]⟩, ⟨false, ⟨#[]⟩, false⟩, ⟨false, ⟨#[]⟩, false⟩⟩
def cutCV (c : Ch) : Value := .agg #[.string c.path, .bool c.old.there, .string c.old.text, .bool c.old.runs, .bool c.new.there, .string c.new.text, .bool c.new.runs]

set_option maxRecDepth 100000 in
theorem cutC (a : Option Addr) (cp : Nat) (ts : List Ch) (k : Nat) (hk : k ≤ ts.length) (hc : ts.length ≤ cp) : ∃ ad' c', (∀ w1, (Instr.sliceAt 28 (.slice a ts.length cp) (some (.int .i64 (k : Int))) none none).run Try.prog w1 = .ok (.slice ad' (ts.drop k).length c') w1) ∧ ∀ W, CS W a ts → CS W ad' (ts.drop k) := by
  have hrun : ∀ w1, (Instr.sliceAt 28 (.slice a ts.length cp) (some (.int .i64 (k : Int))) none none).run Try.prog w1 = .ok (sliced a k ts.length cp 7) w1 := fun w1 => by
    rw [run_sliceAt_slice w1 _ _ _ _ _ Try.underlying28, run_slice_l w1 _ _ _ _ Try.underlying28 .i64 (k : Int) (by omega) (by omega)]
    have hz : (sizeOf (Try.prog.elem 28)).run Try.prog w1 = .ok 7 w1 := by kernel_rfl
    rw [hz, show (k : Int).toNat = k by omega]
    rfl
  refine ⟨if cp = k then a else a.map (·.add (k * 7)), cp - k, fun w1 => by rw [hrun w1, List.length_drop]; rfl, fun W hE => ?_⟩
  rcases hE with h | ⟨b, off, rfl, hcl⟩
  · subst h; exact .inl (by simp)
  · by_cases hl : k = ts.length
    · subst hl; exact .inl (by simp)
    · rw [if_neg (by omega)]
      refine .inr ⟨b, off + k * 7, by rw [Option.map_some, WideShapes.add_plain], fun i hi => ?_⟩
      rw [List.length_drop] at hi
      have c0 := hcl (k + i) (by omega)
      rw [List.getElem_drop]
      rw [show off + k * 7 + i * 7 = off + (k + i) * 7 by omega]
      exact c0

theorem CS.cells {w : World} {b off : Nat} {ts : List Ch} (h : CS w (some ⟨b, off, none⟩) ts) {k : Nat} (hk : k < ts.length) : ChAt w b (off + k * 7) ts[k] := by
  obtain ⟨b', o', ha, hc⟩ := h.at hk
  simp only [Option.some.injEq, Addr.mk.injEq, and_true] at ha
  obtain ⟨rfl, rfl⟩ := ha
  exact hc k hk

theorem box7_set {X : World} {g : Nat} {u0 u1 u2 u3 u4 u5 u6 : Value} (v0 v1 v2 v3 v4 v5 v6 : Value) (h0 : X.cell? ⟨g, 0, none⟩ = some u0) (h1 : X.cell? ⟨g, 1, none⟩ = some u1) (h2 : X.cell? ⟨g, 2, none⟩ = some u2) (h3 : X.cell? ⟨g, 3, none⟩ = some u3) (h4 : X.cell? ⟨g, 4, none⟩ = some u4) (h5 : X.cell? ⟨g, 5, none⟩ = some u5) (h6 : X.cell? ⟨g, 6, none⟩ = some u6) :
    (((((((X.setCell ⟨g, 0, none⟩ v0).setCell ⟨g, 1, none⟩ v1).setCell ⟨g, 2, none⟩ v2).setCell ⟨g, 3, none⟩ v3).setCell ⟨g, 4, none⟩ v4).setCell ⟨g, 5, none⟩ v5).setCell ⟨g, 6, none⟩ v6).cell? ⟨g, 0, none⟩ = some v0 ∧ (((((((X.setCell ⟨g, 0, none⟩ v0).setCell ⟨g, 1, none⟩ v1).setCell ⟨g, 2, none⟩ v2).setCell ⟨g, 3, none⟩ v3).setCell ⟨g, 4, none⟩ v4).setCell ⟨g, 5, none⟩ v5).setCell ⟨g, 6, none⟩ v6).cell? ⟨g, 1, none⟩ = some v1 ∧ (((((((X.setCell ⟨g, 0, none⟩ v0).setCell ⟨g, 1, none⟩ v1).setCell ⟨g, 2, none⟩ v2).setCell ⟨g, 3, none⟩ v3).setCell ⟨g, 4, none⟩ v4).setCell ⟨g, 5, none⟩ v5).setCell ⟨g, 6, none⟩ v6).cell? ⟨g, 2, none⟩ = some v2 ∧ (((((((X.setCell ⟨g, 0, none⟩ v0).setCell ⟨g, 1, none⟩ v1).setCell ⟨g, 2, none⟩ v2).setCell ⟨g, 3, none⟩ v3).setCell ⟨g, 4, none⟩ v4).setCell ⟨g, 5, none⟩ v5).setCell ⟨g, 6, none⟩ v6).cell? ⟨g, 3, none⟩ = some v3 ∧ (((((((X.setCell ⟨g, 0, none⟩ v0).setCell ⟨g, 1, none⟩ v1).setCell ⟨g, 2, none⟩ v2).setCell ⟨g, 3, none⟩ v3).setCell ⟨g, 4, none⟩ v4).setCell ⟨g, 5, none⟩ v5).setCell ⟨g, 6, none⟩ v6).cell? ⟨g, 4, none⟩ = some v4 ∧ (((((((X.setCell ⟨g, 0, none⟩ v0).setCell ⟨g, 1, none⟩ v1).setCell ⟨g, 2, none⟩ v2).setCell ⟨g, 3, none⟩ v3).setCell ⟨g, 4, none⟩ v4).setCell ⟨g, 5, none⟩ v5).setCell ⟨g, 6, none⟩ v6).cell? ⟨g, 5, none⟩ = some v5 ∧ (((((((X.setCell ⟨g, 0, none⟩ v0).setCell ⟨g, 1, none⟩ v1).setCell ⟨g, 2, none⟩ v2).setCell ⟨g, 3, none⟩ v3).setCell ⟨g, 4, none⟩ v4).setCell ⟨g, 5, none⟩ v5).setCell ⟨g, 6, none⟩ v6).cell? ⟨g, 6, none⟩ = some v6 := by
  refine ⟨?_, ?_, ?_, ?_, ?_, ?_, ?_⟩
  · rw [World.cell?_setCell_other _ _ _ _ (by simp), World.cell?_setCell_other _ _ _ _ (by simp), World.cell?_setCell_other _ _ _ _ (by simp), World.cell?_setCell_other _ _ _ _ (by simp), World.cell?_setCell_other _ _ _ _ (by simp), World.cell?_setCell_other _ _ _ _ (by simp)]; exact World.cell?_setCell_same _ _ _ h0
  · rw [World.cell?_setCell_other _ _ _ _ (by simp), World.cell?_setCell_other _ _ _ _ (by simp), World.cell?_setCell_other _ _ _ _ (by simp), World.cell?_setCell_other _ _ _ _ (by simp), World.cell?_setCell_other _ _ _ _ (by simp)]; exact World.cell?_setCell_same _ _ _ ((World.cell?_setCell_other _ _ _ _ (by simp)).trans h1)
  · rw [World.cell?_setCell_other _ _ _ _ (by simp), World.cell?_setCell_other _ _ _ _ (by simp), World.cell?_setCell_other _ _ _ _ (by simp), World.cell?_setCell_other _ _ _ _ (by simp)]; exact World.cell?_setCell_same _ _ _ ((World.cell?_setCell_other _ _ _ _ (by simp)).trans ((World.cell?_setCell_other _ _ _ _ (by simp)).trans h2))
  · rw [World.cell?_setCell_other _ _ _ _ (by simp), World.cell?_setCell_other _ _ _ _ (by simp), World.cell?_setCell_other _ _ _ _ (by simp)]; exact World.cell?_setCell_same _ _ _ ((World.cell?_setCell_other _ _ _ _ (by simp)).trans ((World.cell?_setCell_other _ _ _ _ (by simp)).trans ((World.cell?_setCell_other _ _ _ _ (by simp)).trans h3)))
  · rw [World.cell?_setCell_other _ _ _ _ (by simp), World.cell?_setCell_other _ _ _ _ (by simp)]; exact World.cell?_setCell_same _ _ _ ((World.cell?_setCell_other _ _ _ _ (by simp)).trans ((World.cell?_setCell_other _ _ _ _ (by simp)).trans ((World.cell?_setCell_other _ _ _ _ (by simp)).trans ((World.cell?_setCell_other _ _ _ _ (by simp)).trans h4))))
  · rw [World.cell?_setCell_other _ _ _ _ (by simp)]; exact World.cell?_setCell_same _ _ _ ((World.cell?_setCell_other _ _ _ _ (by simp)).trans ((World.cell?_setCell_other _ _ _ _ (by simp)).trans ((World.cell?_setCell_other _ _ _ _ (by simp)).trans ((World.cell?_setCell_other _ _ _ _ (by simp)).trans ((World.cell?_setCell_other _ _ _ _ (by simp)).trans h5)))))
  · exact World.cell?_setCell_same _ _ _ ((World.cell?_setCell_other _ _ _ _ (by simp)).trans ((World.cell?_setCell_other _ _ _ _ (by simp)).trans ((World.cell?_setCell_other _ _ _ _ (by simp)).trans ((World.cell?_setCell_other _ _ _ _ (by simp)).trans ((World.cell?_setCell_other _ _ _ _ (by simp)).trans ((World.cell?_setCell_other _ _ _ _ (by simp)).trans h6))))))
theorem box7_other {X : World} {g h j : Nat} (v0 v1 v2 v3 v4 v5 v6 : Value) (hn : ¬ g = h) : (((((((X.setCell ⟨g, 0, none⟩ v0).setCell ⟨g, 1, none⟩ v1).setCell ⟨g, 2, none⟩ v2).setCell ⟨g, 3, none⟩ v3).setCell ⟨g, 4, none⟩ v4).setCell ⟨g, 5, none⟩ v5).setCell ⟨g, 6, none⟩ v6).cell? ⟨h, j, none⟩ = X.cell? ⟨h, j, none⟩ := by
  have hne : ∀ k, (⟨g, k, none⟩ : Addr) ≠ ⟨h, j, none⟩ := fun k e => hn (congrArg Addr.block e)
  rw [World.cell?_setCell_other _ _ _ _ (hne _), World.cell?_setCell_other _ _ _ _ (hne _), World.cell?_setCell_other _ _ _ _ (hne _), World.cell?_setCell_other _ _ _ _ (hne _), World.cell?_setCell_other _ _ _ _ (hne _), World.cell?_setCell_other _ _ _ _ (hne _), World.cell?_setCell_other _ _ _ _ (hne _)]
theorem box7_below {w X : World} {g : Nat} (v0 v1 v2 v3 v4 v5 v6 : Value) (hX : Below w.heap.size w X) (hg : w.heap.size ≤ g) : Below w.heap.size w (((((((X.setCell ⟨g, 0, none⟩ v0).setCell ⟨g, 1, none⟩ v1).setCell ⟨g, 2, none⟩ v2).setCell ⟨g, 3, none⟩ v3).setCell ⟨g, 4, none⟩ v4).setCell ⟨g, 5, none⟩ v5).setCell ⟨g, 6, none⟩ v6) :=
  (((((((hX.setCell (p := ⟨g, 0, none⟩) hg _).setCell (p := ⟨g, 1, none⟩) hg _).setCell (p := ⟨g, 2, none⟩) hg _).setCell (p := ⟨g, 3, none⟩) hg _).setCell (p := ⟨g, 4, none⟩) hg _).setCell (p := ⟨g, 5, none⟩) hg _).setCell (p := ⟨g, 6, none⟩) hg _)
theorem box7_fz {X : World} {g : Nat} {p : Addr} (v0 v1 v2 v3 v4 v5 v6 : Value) : (((((((X.setCell ⟨g, 0, none⟩ v0).setCell ⟨g, 1, none⟩ v1).setCell ⟨g, 2, none⟩ v2).setCell ⟨g, 3, none⟩ v3).setCell ⟨g, 4, none⟩ v4).setCell ⟨g, 5, none⟩ v5).setCell ⟨g, 6, none⟩ v6).frozen? p = X.frozen? p := by
  rw [World.frozen?_setCell, World.frozen?_setCell, World.frozen?_setCell, World.frozen?_setCell, World.frozen?_setCell, World.frozen?_setCell, World.frozen?_setCell]
end Go.Proofs.Ytjlflmbifeocbaa

namespace Go.Proofs.Ytjlflmbifeocbaa
open Go.RowKit Go.Shelf

attribute [local go_sem] Oper.semAt_some

abbrev PEC : Type := ByteArray × Option En × Option Ch
def yEC (x : PEC) : Array Value := #[cutEV (x.2.1.getD zeroE), cutCV (x.2.2.getD noCh)]

theorem two_boxesEC {w A X : World} {t t2 : TypeId} (hA : A = (w.alloc (.cells #[.string ⟨#[]⟩, .string ⟨#[]⟩, .bool false] t)).alloc (.cells #[.string ⟨#[]⟩, .bool false, .string ⟨#[]⟩, .bool false, .bool false, .string ⟨#[]⟩, .bool false] t2)) (hb : Below A.heap.size A X) :
    (X.cell? ⟨w.heap.size, 0, none⟩ = some (.string ⟨#[]⟩) ∧ X.cell? ⟨w.heap.size, 1, none⟩ = some (.string ⟨#[]⟩) ∧ X.cell? ⟨w.heap.size, 2, none⟩ = some (.bool false)) ∧ (X.cell? ⟨w.heap.size + 1, 0, none⟩ = some (.string ⟨#[]⟩) ∧ X.cell? ⟨w.heap.size + 1, 1, none⟩ = some (.bool false) ∧ X.cell? ⟨w.heap.size + 1, 2, none⟩ = some (.string ⟨#[]⟩) ∧ X.cell? ⟨w.heap.size + 1, 3, none⟩ = some (.bool false) ∧ X.cell? ⟨w.heap.size + 1, 4, none⟩ = some (.bool false) ∧ X.cell? ⟨w.heap.size + 1, 5, none⟩ = some (.string ⟨#[]⟩) ∧ X.cell? ⟨w.heap.size + 1, 6, none⟩ = some (.bool false)) ∧ (∀ j, X.frozen? ⟨w.heap.size, j, none⟩ = false) ∧ ∀ j, X.frozen? ⟨w.heap.size + 1, j, none⟩ = false := by
  have hl : w.heap.size + 1 < A.heap.size := by rw [hA]; simp
  refine ⟨⟨cell_later hb (by rw [hA]; simp [go_sem]), cell_later hb (by rw [hA]; simp [go_sem]), cell_later hb (by rw [hA]; simp [go_sem])⟩, ⟨cell_later hb (by rw [hA]; simp [go_sem]), cell_later hb (by rw [hA]; simp [go_sem]), cell_later hb (by rw [hA]; simp [go_sem]), cell_later hb (by rw [hA]; simp [go_sem]), cell_later hb (by rw [hA]; simp [go_sem]), cell_later hb (by rw [hA]; simp [go_sem]), cell_later hb (by rw [hA]; simp [go_sem])⟩, fun j => ?_, fun j => ?_⟩
  · exact (hb.frozen (p := ⟨w.heap.size, j, none⟩) (by show w.heap.size < _; omega)).trans (by rw [hA]; simp [go_sem])
  · exact (hb.frozen (p := ⟨w.heap.size + 1, j, none⟩) (by show w.heap.size + 1 < _; omega)).trans (by rw [hA]; simp [go_sem])

def sideMemEC (Ba Bb : Nat) (a b : Option Addr) (ca cb : Nat) (ts : List En) (us : List Ch) (W : World) : Prop :=
  W.cell? ⟨Ba, 0, none⟩ = some (.slice a ts.length ca) ∧ W.cell? ⟨Bb, 0, none⟩ = some (.slice b us.length cb) ∧ ES W a ts ∧ CS W b us

def mrgEC (ts : List En) (us : List Ch) : List PEC := mrg En.path Ch.path (ts.length + us.length) ts us

set_option maxRecDepth 100000 in
set_option maxHeartbeats 8000000 in
theorem sideEC1_in (n l Ba Bb : Nat) (a b : Option Addr) (ca cb : Nat) (ts : List En) (us : List Ch) (hca : ts.length ≤ ca) (hcb : us.length ≤ cb) (hnt : ts.length ≤ 1048576) (hnu : us.length ≤ 1048576)
    (J Jx : List PEC → World → Prop) (W : World)
    (hM : ∀ pre W1, J pre W1 → sideMemEC Ba Bb a b ca cb ts us W1)
    (hJ : ∀ pre W1 W2, J pre W1 → Below W1.heap.size W1 W2 → J pre W2)
    (hY : ∀ pre x W1, J pre W1 → (∃ r, mrgEC ts us = (pre ++ [x]) ++ r) → YieldAt Fence.wide (n - 1) Try.prog l (yEC x) W1 fun e W' =>
      (e = .returned (.bool true) ∧ J (pre ++ [x]) W') ∨ (e = .returned (.bool false) ∧ Jx (pre ++ [x]) W'))
    (h0 : J [] W) :
    CallsIn Fence.wide n Try.prog 61 #[.func (.yield l) #[] #[], .pointer (some ⟨Ba, 0, none⟩), .pointer (some ⟨Bb, 0, none⟩)] W fun e W' => (∃ v, e = .returned v) ∧
      (J (mrgEC ts us) W' ∨ (∃ pre, pre <+: mrgEC ts us ∧ Jx pre W')) := by
  refine callsIn_of_wp Try.func61 rfl trivial ?_ rfl
  simp only [Try.ntmps61, List.size_toArray, List.length_cons, List.length_nil, Nat.reduceAdd, Nat.reduceSub, Array.replicate_succ, Array.replicate_zero, List.push_toArray, List.append_toArray, List.nil_append, List.cons_append]
  gi_wp2
  gi_loopw [4, 5] (fun i j wr => ∃ (p q f : Nat) (pre : List PEC), i = .int .i64 p ∧ j = .int .i64 q ∧ p ≤ ts.length ∧ q ≤ us.length ∧ (ts.length - p) + (us.length - q) ≤ f ∧ mrgEC ts us = pre ++ mrg En.path Ch.path f (ts.drop p) (us.drop q) ∧ J pre wr)
    (fun i j _ => (ts.length - (intOf i).toNat) + (us.length - (intOf j).toNat))
  case atStart => exact ⟨0, 0, ts.length + us.length, [], rfl, rfl, Nat.zero_le _, Nat.zero_le _, by omega, by simp [mrgEC], h0⟩
  case round =>
    obtain ⟨p, q, f, pre, rfl, rfl, hp, hq, hf, hm, hJs⟩ := hrel
    obtain ⟨m1, m2, e1, e2⟩ := hM pre wr hJs
    by_cases hend : p = ts.length ∧ q = us.length
    · obtain ⟨rfl, rfl⟩ := hend
      have hE : mrgEC ts us = pre := by
        rw [hm]
        cases f with
        | zero => simp [mrg]
        | succ f => simp [mrg]
      gi_wp2
      go_end0
      exact ⟨⟨_, rfl⟩, .inl (by rw [hE]; exact hJs)⟩
    · obtain ⟨ad1, c1, hs1, hes1⟩ := cutEn a ca ts p hp hca
      obtain ⟨ad2, c2, hs2, hes2⟩ := cutC b cb us q hq hcb
      have hal : Below wr.heap.size wr ((wr.alloc (.cells #[.string ⟨#[]⟩, .string ⟨#[]⟩, .bool false] 57)).alloc (.cells #[.string ⟨#[]⟩, .bool false, .string ⟨#[]⟩, .bool false, .bool false, .string ⟨#[]⟩, .bool false] 68)) := ((Below.refl _ _).alloc (Nat.le_refl _) _).alloc (by simp) _
      obtain ⟨A, hA⟩ : ∃ A, A = (wr.alloc (.cells #[.string ⟨#[]⟩, .string ⟨#[]⟩, .bool false] 57)).alloc (.cells #[.string ⟨#[]⟩, .bool false, .string ⟨#[]⟩, .bool false, .bool false, .string ⟨#[]⟩, .bool false] 68) := ⟨_, rfl⟩
      rw [← hA] at hal
      have cm1 : ∀ z : Later A, z.world.cell? ⟨Ba, 0, none⟩ = some (.slice a ts.length ca) := fun z => cell_later z.kept (cell_later hal m1)
      have cm2 : ∀ z : Later A, z.world.cell? ⟨Bb, 0, none⟩ = some (.slice b us.length cb) := fun z => cell_later z.kept (cell_later hal m2)
      have HF : Keep (∀ z : Later A, Calls Try.prog 62 #[.slice ad1 (ts.drop p).length c1, .slice ad2 (us.drop q).length c2] z.world fun e w'' => e = .returned (.int .i64 (frontG En.path Ch.path (ts.drop p) (us.drop q))) ∧ ∃ y : Later A, w'' = y.world) := ⟨fun z => Later.call z (frontsEC_any ad1 ad2 c1 c2 (ts.drop p) (us.drop q) z.world (hes1 _ ((e1.below hal).below z.kept)) (hes2 _ ((e2.below hal).below z.kept)))⟩
      generalize hda : (ts.drop p).length = na at hs1 HF
      generalize hdb : (us.drop q).length = nb at hs2 HF
      obtain ⟨f, rfl⟩ : ∃ f', f = f' + 1 := ⟨f - 1, by omega⟩
      have hnn : ¬ (ts.drop p = [] ∧ us.drop q = []) := fun h => hend ⟨by have := congrArg List.length h.1; simp at this; omega, by have := congrArg List.length h.2; simp at this; omega⟩
      generalize ho : frontG En.path Ch.path (ts.drop p) (us.drop q) = o at HF
      rcases Int.lt_trichotomy o 0 with hlt | heq | hgt
      · obtain ⟨x, tr, hd, hmr⟩ := frontG_lt (f := f) (by rw [ho]; exact hlt)
        obtain ⟨hpl, rfl, rfl⟩ := drop_cons hd
        rw [hmr] at hm
        rw [List.append_cons] at hm
        obtain ⟨b1, o1, rfl, hc1⟩ := e1.at hpl
        have hpl' : (p : Int) < ts.length := by omega
        have ho1 : o ≤ 0 := by omega
        have ho2 : ¬ 0 ≤ o := by omega
        clear hc1 hd hmr hnn ho hend hlt
        gi_wp2
        rw [← hA]
        refine wpIn_wide.2 ?_
        (haveI := later_any; refine wp_region_later (by kernel_rfl) (by kernel_rfl) ?_; (repeat (go_big_quiet_step (first | (go_at_call 62; exact HF.out _)))); refine wpQuiet_nil ?_; intro _ hwq; obtain ⟨xq, hwq2⟩ := hwq; subst hwq2)
        have hX := hal.trans (xq.kept.mono hal.size)
        obtain ⟨⟨b60, b61, b62⟩, ⟨b70, b71, b72, b73, b74, b75, b76⟩, f6, f7⟩ := two_boxesEC hA xq.kept
        have HE1 : Keep (ES wr (some ⟨b1, o1, none⟩) ts) := ⟨e1⟩
        have HE2 : Keep (CS wr b us) := ⟨e2⟩
        have HM1 : Keep (wr.cell? ⟨Ba, 0, none⟩ = some (.slice (some ⟨b1, o1, none⟩) ts.length ca)) := ⟨m1⟩
        have HM2 : Keep (wr.cell? ⟨Bb, 0, none⟩ = some (.slice b us.length cb)) := ⟨m2⟩
        clear hs1 hs2 hes1 hes2 HF cm1 cm2 e1 e2 m1 m2 hA hal
        generalize xq.world = X at *
        clear xq
        obtain ⟨g6, hg6⟩ : ∃ g, g = wr.heap.size := ⟨_, rfl⟩
        obtain ⟨g7, hg7⟩ : ∃ g, g = wr.heap.size + 1 := ⟨_, rfl⟩
        rw [← hg7] at b70 b71 b72 b73 b74 b75 b76 f7 ⊢
        rw [← hg6] at b60 b61 b62 f6 ⊢
        have hn67 : ¬ g6 = g7 := by omega
        have HG : Keep (wr.heap.size ≤ g6 ∧ wr.heap.size ≤ g7) := ⟨by omega⟩
        clear hg6 hg7
        have q1 := cell_later hX HM1.out
        obtain ⟨x0, x1, x2⟩ := (HE1.out.below hX).cells hpl
        gi_upto_region 8 with fail
        replace hX := box3_below (.string ts[p].path) (.string ts[p].text) (.bool ts[p].runs) hX HG.out.1
        obtain ⟨z0, z1, z2⟩ := box3_set (.string ts[p].path) (.string ts[p].text) (.bool ts[p].runs) b60 b61 b62
        replace b70 := (box3_other (.string ts[p].path) (.string ts[p].text) (.bool ts[p].runs) hn67).trans b70
        replace b71 := (box3_other (.string ts[p].path) (.string ts[p].text) (.bool ts[p].runs) hn67).trans b71
        replace b72 := (box3_other (.string ts[p].path) (.string ts[p].text) (.bool ts[p].runs) hn67).trans b72
        replace b73 := (box3_other (.string ts[p].path) (.string ts[p].text) (.bool ts[p].runs) hn67).trans b73
        replace b74 := (box3_other (.string ts[p].path) (.string ts[p].text) (.bool ts[p].runs) hn67).trans b74
        replace b75 := (box3_other (.string ts[p].path) (.string ts[p].text) (.bool ts[p].runs) hn67).trans b75
        replace b76 := (box3_other (.string ts[p].path) (.string ts[p].text) (.bool ts[p].runs) hn67).trans b76
        replace f7 : ∀ j, (((X.setCell ⟨g6, 0, none⟩ (.string ts[p].path)).setCell ⟨g6, 1, none⟩ (.string ts[p].text)).setCell ⟨g6, 2, none⟩ (.bool ts[p].runs)).frozen? ⟨g7, j, none⟩ = false := fun j => (box3_fz (.string ts[p].path) (.string ts[p].text) (.bool ts[p].runs)).trans (f7 j)
        clear b60 b61 b62 x0 x1 x2 q1 f6
        generalize (((X.setCell ⟨g6, 0, none⟩ (.string ts[p].path)).setCell ⟨g6, 1, none⟩ (.string ts[p].text)).setCell ⟨g6, 2, none⟩ (.bool ts[p].runs)) = X2 at *
        clear X
        have hY3 : YieldAt Fence.wide (n - 1) Try.prog l #[.agg #[.string ts[p].path, .string ts[p].text, .bool ts[p].runs], .agg #[.string ⟨#[]⟩, .bool false, .string ⟨#[]⟩, .bool false, .bool false, .string ⟨#[]⟩, .bool false]] X2 (fun e W' => (e = .returned (.bool true) ∧ J (pre ++ [(ts[p].path, some ts[p], none)]) W') ∨ (e = .returned (.bool false) ∧ Jx (pre ++ [(ts[p].path, some ts[p], none)]) W')) := hY pre (ts[p].path, some ts[p], none) _ (hJ pre wr _ hJs hX) ⟨_, hm⟩
        obtain ⟨fn, tmps, assign, body, hy, hR⟩ := hY3
        have HM : Keep (mrgEC ts us = pre ++ [(ts[p].path, some ts[p], none)] ++ mrg En.path Ch.path f (ts.drop (p + 1)) (us.drop (q))) := ⟨hm⟩
        clear hY hJ hM hm hJs hX
        gi_wp2
        refine ⟨fun h => Bool.noConfusion h, hR.mono ?_⟩
        rintro e W3 (⟨rfl, hJ3⟩ | ⟨rfl, hJx3⟩)
        · gi_wp2
          go_roundw
          case rel => exact ⟨p + 1, q, f, pre ++ [(ts[p].path, some ts[p], none)], by congr 1, by congr 1, by omega, by omega, by omega, HM.out, hJ3⟩
          case measure => simp only [intOf]; omega
        · gi_wp2
          refine bodyPost_ret (results_none rfl _ _ _) rfl ?_
          exact ⟨⟨_, rfl⟩, .inr ⟨pre ++ [(ts[p].path, some ts[p], none)], ⟨_, HM.out.symm⟩, hJx3⟩⟩
      · obtain ⟨x, tr, y, ur, hd, hd2, hmr⟩ := frontG_eq (f := f) (by rw [ho]; exact heq)
        obtain ⟨hpl, rfl, rfl⟩ := drop_cons hd
        obtain ⟨hql, rfl, rfl⟩ := drop_cons hd2
        rw [hmr] at hm
        rw [List.append_cons] at hm
        obtain ⟨b1, o1, rfl, hc1⟩ := e1.at hpl
        obtain ⟨b2, o2, rfl, hc2⟩ := e2.at hql
        have hpl' : (p : Int) < ts.length := by omega
        have hql' : (q : Int) < us.length := by omega
        subst heq
        clear hc1 hc2 hd hd2 hmr hnn ho hend
        gi_wp2
        rw [← hA]
        refine wpIn_wide.2 ?_
        (haveI := later_any; refine wp_region_later (by kernel_rfl) (by kernel_rfl) ?_; (repeat (go_big_quiet_step (first | (go_at_call 62; exact HF.out _)))); refine wpQuiet_nil ?_; intro _ hwq; obtain ⟨xq, hwq2⟩ := hwq; subst hwq2)
        have hX := hal.trans (xq.kept.mono hal.size)
        obtain ⟨⟨b60, b61, b62⟩, ⟨b70, b71, b72, b73, b74, b75, b76⟩, f6, f7⟩ := two_boxesEC hA xq.kept
        have HE1 : Keep (ES wr (some ⟨b1, o1, none⟩) ts) := ⟨e1⟩
        have HE2 : Keep (CS wr (some ⟨b2, o2, none⟩) us) := ⟨e2⟩
        have HM1 : Keep (wr.cell? ⟨Ba, 0, none⟩ = some (.slice (some ⟨b1, o1, none⟩) ts.length ca)) := ⟨m1⟩
        have HM2 : Keep (wr.cell? ⟨Bb, 0, none⟩ = some (.slice (some ⟨b2, o2, none⟩) us.length cb)) := ⟨m2⟩
        clear hs1 hs2 hes1 hes2 HF cm1 cm2 e1 e2 m1 m2 hA hal
        generalize xq.world = X at *
        clear xq
        obtain ⟨g6, hg6⟩ : ∃ g, g = wr.heap.size := ⟨_, rfl⟩
        obtain ⟨g7, hg7⟩ : ∃ g, g = wr.heap.size + 1 := ⟨_, rfl⟩
        rw [← hg7] at b70 b71 b72 b73 b74 b75 b76 f7 ⊢
        rw [← hg6] at b60 b61 b62 f6 ⊢
        have hn67 : ¬ g6 = g7 := by omega
        have HG : Keep (wr.heap.size ≤ g6 ∧ wr.heap.size ≤ g7) := ⟨by omega⟩
        clear hg6 hg7
        have q1 := cell_later hX HM1.out
        obtain ⟨x0, x1, x2⟩ := (HE1.out.below hX).cells hpl
        gi_upto_region 8 with fail
        replace hX := box3_below (.string ts[p].path) (.string ts[p].text) (.bool ts[p].runs) hX HG.out.1
        obtain ⟨z0, z1, z2⟩ := box3_set (.string ts[p].path) (.string ts[p].text) (.bool ts[p].runs) b60 b61 b62
        replace b70 := (box3_other (.string ts[p].path) (.string ts[p].text) (.bool ts[p].runs) hn67).trans b70
        replace b71 := (box3_other (.string ts[p].path) (.string ts[p].text) (.bool ts[p].runs) hn67).trans b71
        replace b72 := (box3_other (.string ts[p].path) (.string ts[p].text) (.bool ts[p].runs) hn67).trans b72
        replace b73 := (box3_other (.string ts[p].path) (.string ts[p].text) (.bool ts[p].runs) hn67).trans b73
        replace b74 := (box3_other (.string ts[p].path) (.string ts[p].text) (.bool ts[p].runs) hn67).trans b74
        replace b75 := (box3_other (.string ts[p].path) (.string ts[p].text) (.bool ts[p].runs) hn67).trans b75
        replace b76 := (box3_other (.string ts[p].path) (.string ts[p].text) (.bool ts[p].runs) hn67).trans b76
        replace f7 : ∀ j, (((X.setCell ⟨g6, 0, none⟩ (.string ts[p].path)).setCell ⟨g6, 1, none⟩ (.string ts[p].text)).setCell ⟨g6, 2, none⟩ (.bool ts[p].runs)).frozen? ⟨g7, j, none⟩ = false := fun j => (box3_fz (.string ts[p].path) (.string ts[p].text) (.bool ts[p].runs)).trans (f7 j)
        clear b60 b61 b62 x0 x1 x2 q1 f6
        generalize (((X.setCell ⟨g6, 0, none⟩ (.string ts[p].path)).setCell ⟨g6, 1, none⟩ (.string ts[p].text)).setCell ⟨g6, 2, none⟩ (.bool ts[p].runs)) = X2 at *
        clear X
        have q2 := cell_later hX HM2.out
        obtain ⟨y0, y1, y2, y3, y4, y5, y6⟩ := (HE2.out.below hX).cells hql
        gi_upto_region 11 with fail
        replace hX := box7_below (.string us[q].path) (.bool us[q].old.there) (.string us[q].old.text) (.bool us[q].old.runs) (.bool us[q].new.there) (.string us[q].new.text) (.bool us[q].new.runs) hX HG.out.2
        obtain ⟨v0, v1, v2, v3, v4, v5, v6⟩ := box7_set (.string us[q].path) (.bool us[q].old.there) (.string us[q].old.text) (.bool us[q].old.runs) (.bool us[q].new.there) (.string us[q].new.text) (.bool us[q].new.runs) b70 b71 b72 b73 b74 b75 b76
        have hn76 : ¬ g7 = g6 := fun e => hn67 e.symm
        replace z0 := (box7_other (.string us[q].path) (.bool us[q].old.there) (.string us[q].old.text) (.bool us[q].old.runs) (.bool us[q].new.there) (.string us[q].new.text) (.bool us[q].new.runs) hn76).trans z0
        replace z1 := (box7_other (.string us[q].path) (.bool us[q].old.there) (.string us[q].old.text) (.bool us[q].old.runs) (.bool us[q].new.there) (.string us[q].new.text) (.bool us[q].new.runs) hn76).trans z1
        replace z2 := (box7_other (.string us[q].path) (.bool us[q].old.there) (.string us[q].old.text) (.bool us[q].old.runs) (.bool us[q].new.there) (.string us[q].new.text) (.bool us[q].new.runs) hn76).trans z2
        clear b70 b71 b72 b73 b74 b75 b76 y0 y1 y2 y3 y4 y5 y6 q2 f7
        generalize (((((((X2.setCell ⟨g7, 0, none⟩ (.string us[q].path)).setCell ⟨g7, 1, none⟩ (.bool us[q].old.there)).setCell ⟨g7, 2, none⟩ (.string us[q].old.text)).setCell ⟨g7, 3, none⟩ (.bool us[q].old.runs)).setCell ⟨g7, 4, none⟩ (.bool us[q].new.there)).setCell ⟨g7, 5, none⟩ (.string us[q].new.text)).setCell ⟨g7, 6, none⟩ (.bool us[q].new.runs)) = X3 at *
        have hY3 : YieldAt Fence.wide (n - 1) Try.prog l #[.agg #[.string ts[p].path, .string ts[p].text, .bool ts[p].runs], .agg #[.string us[q].path, .bool us[q].old.there, .string us[q].old.text, .bool us[q].old.runs, .bool us[q].new.there, .string us[q].new.text, .bool us[q].new.runs]] X3 (fun e W' => (e = .returned (.bool true) ∧ J (pre ++ [(ts[p].path, some ts[p], some us[q])]) W') ∨ (e = .returned (.bool false) ∧ Jx (pre ++ [(ts[p].path, some ts[p], some us[q])]) W')) := hY pre (ts[p].path, some ts[p], some us[q]) _ (hJ pre wr _ hJs hX) ⟨_, hm⟩
        obtain ⟨fn, tmps, assign, body, hy, hR⟩ := hY3
        have HM : Keep (mrgEC ts us = pre ++ [(ts[p].path, some ts[p], some us[q])] ++ mrg En.path Ch.path f (ts.drop (p + 1)) (us.drop (q + 1))) := ⟨hm⟩
        clear hY hJ hM hm hJs hX
        gi_wp2
        refine ⟨fun h => Bool.noConfusion h, hR.mono ?_⟩
        rintro e W3 (⟨rfl, hJ3⟩ | ⟨rfl, hJx3⟩)
        · gi_wp2
          go_roundw
          case rel => exact ⟨p + 1, q + 1, f, pre ++ [(ts[p].path, some ts[p], some us[q])], by congr 1, by congr 1, by omega, by omega, by omega, HM.out, hJ3⟩
          case measure => simp only [intOf]; omega
        · gi_wp2
          refine bodyPost_ret (results_none rfl _ _ _) rfl ?_
          exact ⟨⟨_, rfl⟩, .inr ⟨pre ++ [(ts[p].path, some ts[p], some us[q])], ⟨_, HM.out.symm⟩, hJx3⟩⟩
      · obtain ⟨y, ur, hd, hmr⟩ := frontG_gt (f := f) (by rw [ho]; exact hgt) hnn
        obtain ⟨hql, rfl, rfl⟩ := drop_cons hd
        rw [hmr] at hm
        rw [List.append_cons] at hm
        obtain ⟨b2, o2, rfl, hc2⟩ := e2.at hql
        have hql' : (q : Int) < us.length := by omega
        have ho1 : ¬ o ≤ 0 := by omega
        have ho2 : 0 ≤ o := by omega
        clear hc2 hd hmr hnn ho hend hgt
        by_cases hpl : p < ts.length
        · have hpl' : (p : Int) < ts.length := by omega
          gi_wp2
          rw [← hA]
          refine wpIn_wide.2 ?_
          (haveI := later_any; refine wp_region_later (by kernel_rfl) (by kernel_rfl) ?_; (repeat (go_big_quiet_step (first | (go_at_call 62; exact HF.out _)))); refine wpQuiet_nil ?_; intro _ hwq; obtain ⟨xq, hwq2⟩ := hwq; subst hwq2)
          have hX := hal.trans (xq.kept.mono hal.size)
          obtain ⟨⟨b60, b61, b62⟩, ⟨b70, b71, b72, b73, b74, b75, b76⟩, f6, f7⟩ := two_boxesEC hA xq.kept
          have HE1 : Keep (ES wr a ts) := ⟨e1⟩
          have HE2 : Keep (CS wr (some ⟨b2, o2, none⟩) us) := ⟨e2⟩
          have HM1 : Keep (wr.cell? ⟨Ba, 0, none⟩ = some (.slice a ts.length ca)) := ⟨m1⟩
          have HM2 : Keep (wr.cell? ⟨Bb, 0, none⟩ = some (.slice (some ⟨b2, o2, none⟩) us.length cb)) := ⟨m2⟩
          clear hs1 hs2 hes1 hes2 HF cm1 cm2 e1 e2 m1 m2 hA hal
          generalize xq.world = X at *
          clear xq
          obtain ⟨g6, hg6⟩ : ∃ g, g = wr.heap.size := ⟨_, rfl⟩
          obtain ⟨g7, hg7⟩ : ∃ g, g = wr.heap.size + 1 := ⟨_, rfl⟩
          rw [← hg7] at b70 b71 b72 b73 b74 b75 b76 f7 ⊢
          rw [← hg6] at b60 b61 b62 f6 ⊢
          have hn67 : ¬ g6 = g7 := by omega
          have HG : Keep (wr.heap.size ≤ g6 ∧ wr.heap.size ≤ g7) := ⟨by omega⟩
          clear hg6 hg7
          have q2 := cell_later hX HM2.out
          obtain ⟨y0, y1, y2, y3, y4, y5, y6⟩ := (HE2.out.below hX).cells hql
          gi_upto_region 11 with fail
          replace hX := box7_below (.string us[q].path) (.bool us[q].old.there) (.string us[q].old.text) (.bool us[q].old.runs) (.bool us[q].new.there) (.string us[q].new.text) (.bool us[q].new.runs) hX HG.out.2
          obtain ⟨v0, v1, v2, v3, v4, v5, v6⟩ := box7_set (.string us[q].path) (.bool us[q].old.there) (.string us[q].old.text) (.bool us[q].old.runs) (.bool us[q].new.there) (.string us[q].new.text) (.bool us[q].new.runs) b70 b71 b72 b73 b74 b75 b76
          have hn76 : ¬ g7 = g6 := fun e => hn67 e.symm
          replace b60 := (box7_other (.string us[q].path) (.bool us[q].old.there) (.string us[q].old.text) (.bool us[q].old.runs) (.bool us[q].new.there) (.string us[q].new.text) (.bool us[q].new.runs) hn76).trans b60
          replace b61 := (box7_other (.string us[q].path) (.bool us[q].old.there) (.string us[q].old.text) (.bool us[q].old.runs) (.bool us[q].new.there) (.string us[q].new.text) (.bool us[q].new.runs) hn76).trans b61
          replace b62 := (box7_other (.string us[q].path) (.bool us[q].old.there) (.string us[q].old.text) (.bool us[q].old.runs) (.bool us[q].new.there) (.string us[q].new.text) (.bool us[q].new.runs) hn76).trans b62
          clear b70 b71 b72 b73 b74 b75 b76 y0 y1 y2 y3 y4 y5 y6 q2 f7
          generalize (((((((X.setCell ⟨g7, 0, none⟩ (.string us[q].path)).setCell ⟨g7, 1, none⟩ (.bool us[q].old.there)).setCell ⟨g7, 2, none⟩ (.string us[q].old.text)).setCell ⟨g7, 3, none⟩ (.bool us[q].old.runs)).setCell ⟨g7, 4, none⟩ (.bool us[q].new.there)).setCell ⟨g7, 5, none⟩ (.string us[q].new.text)).setCell ⟨g7, 6, none⟩ (.bool us[q].new.runs)) = X3 at *
          have hY3 : YieldAt Fence.wide (n - 1) Try.prog l #[.agg #[.string ⟨#[]⟩, .string ⟨#[]⟩, .bool false], .agg #[.string us[q].path, .bool us[q].old.there, .string us[q].old.text, .bool us[q].old.runs, .bool us[q].new.there, .string us[q].new.text, .bool us[q].new.runs]] X3 (fun e W' => (e = .returned (.bool true) ∧ J (pre ++ [(us[q].path, none, some us[q])]) W') ∨ (e = .returned (.bool false) ∧ Jx (pre ++ [(us[q].path, none, some us[q])]) W')) := hY pre (us[q].path, none, some us[q]) _ (hJ pre wr _ hJs hX) ⟨_, hm⟩
          obtain ⟨fn, tmps, assign, body, hy, hR⟩ := hY3
          have HM : Keep (mrgEC ts us = pre ++ [(us[q].path, none, some us[q])] ++ mrg En.path Ch.path f (ts.drop (p)) (us.drop (q + 1))) := ⟨hm⟩
          clear hY hJ hM hm hJs hX
          gi_wp2
          refine ⟨fun h => Bool.noConfusion h, hR.mono ?_⟩
          rintro e W3 (⟨rfl, hJ3⟩ | ⟨rfl, hJx3⟩)
          · gi_wp2
            go_roundw
            case rel => exact ⟨p, q + 1, f, pre ++ [(us[q].path, none, some us[q])], by congr 1, by congr 1, by omega, by omega, by omega, HM.out, hJ3⟩
            case measure => simp only [intOf]; omega
          · gi_wp2
            refine bodyPost_ret (results_none rfl _ _ _) rfl ?_
            exact ⟨⟨_, rfl⟩, .inr ⟨pre ++ [(us[q].path, none, some us[q])], ⟨_, HM.out.symm⟩, hJx3⟩⟩
        · have hpl' : ¬ (p : Int) < ts.length := by omega
          gi_wp2
          rw [← hA]
          refine wpIn_wide.2 ?_
          (haveI := later_any; refine wp_region_later (by kernel_rfl) (by kernel_rfl) ?_; (repeat (go_big_quiet_step (first | (go_at_call 62; exact HF.out _)))); refine wpQuiet_nil ?_; intro _ hwq; obtain ⟨xq, hwq2⟩ := hwq; subst hwq2)
          have hX := hal.trans (xq.kept.mono hal.size)
          obtain ⟨⟨b60, b61, b62⟩, ⟨b70, b71, b72, b73, b74, b75, b76⟩, f6, f7⟩ := two_boxesEC hA xq.kept
          have HE1 : Keep (ES wr a ts) := ⟨e1⟩
          have HE2 : Keep (CS wr (some ⟨b2, o2, none⟩) us) := ⟨e2⟩
          have HM1 : Keep (wr.cell? ⟨Ba, 0, none⟩ = some (.slice a ts.length ca)) := ⟨m1⟩
          have HM2 : Keep (wr.cell? ⟨Bb, 0, none⟩ = some (.slice (some ⟨b2, o2, none⟩) us.length cb)) := ⟨m2⟩
          clear hs1 hs2 hes1 hes2 HF cm1 cm2 e1 e2 m1 m2 hA hal
          generalize xq.world = X at *
          clear xq
          obtain ⟨g6, hg6⟩ : ∃ g, g = wr.heap.size := ⟨_, rfl⟩
          obtain ⟨g7, hg7⟩ : ∃ g, g = wr.heap.size + 1 := ⟨_, rfl⟩
          rw [← hg7] at b70 b71 b72 b73 b74 b75 b76 f7 ⊢
          rw [← hg6] at b60 b61 b62 f6 ⊢
          have hn67 : ¬ g6 = g7 := by omega
          have HG : Keep (wr.heap.size ≤ g6 ∧ wr.heap.size ≤ g7) := ⟨by omega⟩
          clear hg6 hg7
          have q2 := cell_later hX HM2.out
          obtain ⟨y0, y1, y2, y3, y4, y5, y6⟩ := (HE2.out.below hX).cells hql
          gi_upto_region 11 with fail
          replace hX := box7_below (.string us[q].path) (.bool us[q].old.there) (.string us[q].old.text) (.bool us[q].old.runs) (.bool us[q].new.there) (.string us[q].new.text) (.bool us[q].new.runs) hX HG.out.2
          obtain ⟨v0, v1, v2, v3, v4, v5, v6⟩ := box7_set (.string us[q].path) (.bool us[q].old.there) (.string us[q].old.text) (.bool us[q].old.runs) (.bool us[q].new.there) (.string us[q].new.text) (.bool us[q].new.runs) b70 b71 b72 b73 b74 b75 b76
          have hn76 : ¬ g7 = g6 := fun e => hn67 e.symm
          replace b60 := (box7_other (.string us[q].path) (.bool us[q].old.there) (.string us[q].old.text) (.bool us[q].old.runs) (.bool us[q].new.there) (.string us[q].new.text) (.bool us[q].new.runs) hn76).trans b60
          replace b61 := (box7_other (.string us[q].path) (.bool us[q].old.there) (.string us[q].old.text) (.bool us[q].old.runs) (.bool us[q].new.there) (.string us[q].new.text) (.bool us[q].new.runs) hn76).trans b61
          replace b62 := (box7_other (.string us[q].path) (.bool us[q].old.there) (.string us[q].old.text) (.bool us[q].old.runs) (.bool us[q].new.there) (.string us[q].new.text) (.bool us[q].new.runs) hn76).trans b62
          clear b70 b71 b72 b73 b74 b75 b76 y0 y1 y2 y3 y4 y5 y6 q2 f7
          generalize (((((((X.setCell ⟨g7, 0, none⟩ (.string us[q].path)).setCell ⟨g7, 1, none⟩ (.bool us[q].old.there)).setCell ⟨g7, 2, none⟩ (.string us[q].old.text)).setCell ⟨g7, 3, none⟩ (.bool us[q].old.runs)).setCell ⟨g7, 4, none⟩ (.bool us[q].new.there)).setCell ⟨g7, 5, none⟩ (.string us[q].new.text)).setCell ⟨g7, 6, none⟩ (.bool us[q].new.runs)) = X3 at *
          have hY3 : YieldAt Fence.wide (n - 1) Try.prog l #[.agg #[.string ⟨#[]⟩, .string ⟨#[]⟩, .bool false], .agg #[.string us[q].path, .bool us[q].old.there, .string us[q].old.text, .bool us[q].old.runs, .bool us[q].new.there, .string us[q].new.text, .bool us[q].new.runs]] X3 (fun e W' => (e = .returned (.bool true) ∧ J (pre ++ [(us[q].path, none, some us[q])]) W') ∨ (e = .returned (.bool false) ∧ Jx (pre ++ [(us[q].path, none, some us[q])]) W')) := hY pre (us[q].path, none, some us[q]) _ (hJ pre wr _ hJs hX) ⟨_, hm⟩
          obtain ⟨fn, tmps, assign, body, hy, hR⟩ := hY3
          have HM : Keep (mrgEC ts us = pre ++ [(us[q].path, none, some us[q])] ++ mrg En.path Ch.path f (ts.drop (p)) (us.drop (q + 1))) := ⟨hm⟩
          clear hY hJ hM hm hJs hX
          gi_wp2
          refine ⟨fun h => Bool.noConfusion h, hR.mono ?_⟩
          rintro e W3 (⟨rfl, hJ3⟩ | ⟨rfl, hJx3⟩)
          · gi_wp2
            go_roundw
            case rel => exact ⟨p, q + 1, f, pre ++ [(us[q].path, none, some us[q])], by congr 1, by congr 1, by omega, by omega, by omega, HM.out, hJ3⟩
            case measure => simp only [intOf]; omega
          · gi_wp2
            refine bodyPost_ret (results_none rfl _ _ _) rfl ?_
            exact ⟨⟨_, rfl⟩, .inr ⟨pre ++ [(us[q].path, none, some us[q])], ⟨_, HM.out.symm⟩, hJx3⟩⟩

set_option maxHeartbeats 400000 in
theorem sideEC_any (a b : Option Addr) (n m ca cb : Nat) (w : World) :
    Calls Try.prog 38 #[.slice a n ca, .slice b m cb] w fun e w' => e = .returned (.func (.func 61) #[] #[.pointer (some ⟨w.heap.size, 0, none⟩), .pointer (some ⟨w.heap.size + 1, 0, none⟩)]) ∧ w' = (w.alloc (.cells #[.slice a n ca] 23)).alloc (.cells #[.slice b m cb] 28) := by
  go_enter Try.func38, Try.ntmps38
  go_wp2
  go_ret
  exact ⟨by simp, rfl⟩
end Go.Proofs.Ytjlflmbifeocbaa

namespace Go.Proofs.Ytjlflmbifeocbaa
open Go.RowKit Go.Shelf

theorem range_iter2 {α : Type} {gf : Nat} {lb : Array Value} {enc : α → Array Value} {all : List α} {M : World → Prop} (hIt : Iter gf lb enc all M) (heg : ∀ args w, (callFunc gf args).run Try.prog w = .ok (.enter gf args) w)
    {g : Operand} {ps : Array Tmp} {assign body : Code} {Q : Exit → Act → World → Prop} {a : Act} {w : World} {n : Nat} (h1 : 1 ≤ n)
    (hg : a.eval g = .func (.func gf) #[] lb) (hps : ∀ x, (enc x).size = ps.size)
    (I Ix : List α → World → Prop) (hIM : ∀ pre W, I pre W → M W) (hIb : ∀ pre W W', I pre W → Below W.heap.size W W' → I pre W')
    (hIp : ∀ pre W l o, (l = w.heap.size ∨ l = w.heap.size + 1) → I pre W → I pre (W.putObj l o)) (hXp : ∀ pre W l o, (l = w.heap.size ∨ l = w.heap.size + 1) → Ix pre W → Ix pre (W.putObj l o))
    (h0 : ∀ o1 o2, I [] ((w.alloc o1).alloc o2)) (Bx : α → Nat → Act → World → Prop) (hBp : ∀ x B a' W l o, l < B → Bx x B a' W → Bx x B a' (W.putObj l o))
    (hassign : ∀ (l : Nat) (x : α) (W : World) (K : Act → World → Prop), (∀ a' W', Below W.heap.size W W' → Bx x W.heap.size a' W' → K a' W') →
      assign.wpIn (Fence.wide.inRound l) (n - 1 - 1) Try.prog (Exit.then K (fun _ _ _ => False)) { tmps := (ps.zip (enc x)).foldl (fun t (p, v) => t.setIfInBounds p v) a.tmps, defers := [] } W)
    (hbody : ∀ (l : Nat) (pre : List α) (x : α) (a' : Act) (Wb W : World), I pre Wb → (∃ r, all = pre ++ [x] ++ r) → w.heap.size + 1 < Wb.heap.size → Below Wb.heap.size Wb W → Bx x Wb.heap.size a' W → body.wpIn (Fence.wide.inRound l) (n - 1 - 1) Try.prog (iterPost w.heap.size I Ix (pre ++ [x]) W) a' W)
    (hdone : ∀ (W : World), I all W → W.heap[w.heap.size]? = some (.deferred (some [])) → Q .normal { a with defers := { target := .collected w.heap.size, args := #[] } :: a.defers } W)
    (hstop : ∀ (pre : List α) (W : World), pre <+: all → Ix pre W → W.heap[w.heap.size]? = some (.deferred (some [])) → Code.ret.wpIn Fence.wide n Try.prog Q { a with defers := { target := .collected w.heap.size, args := #[] } :: a.defers } W) :
    (Code.rangeFunc g ps assign body).wpIn Fence.wide n Try.prog Q a w := by
  refine wpIn_rangeFunc ?_
  intro fn hfn
  rw [show Fence.wide.round = none from rfl]
  obtain ⟨rc, hrc⟩ : ∃ rc : LoopState → Option Code → Loop, rc = fun st pe => { state := st, pending := pe, fn, tmps := a.tmps, params := ps, assign, body, defers := w.heap.size } := ⟨_, rfl⟩
  obtain ⟨W1, hW1⟩ : ∃ W1, (w.alloc (.deferred (some []))).alloc (.loop (rc .ready none)) = W1 := ⟨_, rfl⟩
  have hL1 : W1.heap[w.heap.size + 1]? = some (.loop (rc .ready none)) := by
    rw [← hW1]
    have := World.alloc_heap_new (w.alloc (.deferred (some []))) (.loop (rc .ready none))
    rwa [World.size_alloc] at this
  have hK1 : W1.heap[w.heap.size]? = some (.deferred (some [])) := by
    rw [← hW1]; exact (Below.heap_alloc _ _ _ (by simp)).trans (World.alloc_heap_new w _)
  have hI1 : I [] W1 := by rw [← hW1]; exact h0 _ _
  refine ⟨w.heap.size + 1, [{ target := .collected w.heap.size, args := #[] }], W1, { target := .fn (.func gf) lb, args := #[.func (.yield (w.heap.size + 1)) #[] #[]] }, W1, gf,
    #[.func (.yield (w.heap.size + 1)) #[] #[]] ++ lb, W1, ?_, ?_, ?_, ?_, fun _ => h1, ?_⟩
  · rw [← hW1, hrc]; exact run_enterLoop_outer _ _ _ _ _
  · simp only [resolve, hg]
    simp [go_sem]
  · intro f' hf'; trivial
  · simp [invoke, go_sem, heg]
  · refine (hIt (n - 1) (w.heap.size + 1)
      (fun pre W => I pre W ∧ W.heap[w.heap.size + 1]? = some (.loop (rc .ready none)) ∧ W.heap[w.heap.size]? = some (.deferred (some [])))
      (fun pre W => Ix pre W ∧ W.heap[w.heap.size + 1]? = some (.loop (rc .done (some .ret))) ∧ W.heap[w.heap.size]? = some (.deferred (some [])))
      W1 (fun pre W hJ => hIM pre W hJ.1)
      (fun pre W W' hJ hb => ⟨hIb _ _ _ hJ.1 hb, (hb.block _ (Array.getElem?_eq_some_iff.1 hJ.2.1).1).trans hJ.2.1, (hb.block _ (Array.getElem?_eq_some_iff.1 hJ.2.2).1).trans hJ.2.2⟩) ?_ ⟨hI1, hL1, hK1⟩).mono ?_
    · rintro pre x W ⟨hi, hl, hk⟩ hr
      have hlt1 : w.heap.size + 1 < W.heap.size := (Array.getElem?_eq_some_iff.1 hl).1
      have hy := run_yield (P := Try.prog) (args := enc x) hl (by rw [hrc]; exact hps x)
      rw [hrc] at hy
      refine ⟨fn, _, assign, body, hy, roundIn_of_wpIn hfn (hassign _ x W _ ?_)⟩
      intro a2 W2 hb2 hbx
      have hl' : W2.heap[w.heap.size + 1]? = some (.loop (rc .ready none)) := (hb2.block _ hlt1).trans hl
      have hk' : W2.heap[w.heap.size]? = some (.deferred (some [])) := (hb2.block _ (by omega)).trans hk
      have hlt2 : w.heap.size + 1 < W2.heap.size := Nat.lt_of_lt_of_le hlt1 hb2.size
      refine ⟨_, run_beginRound hl' (by rw [hrc]), ?_⟩
      have hl2 : (W2.putObj (w.heap.size + 1) (.loop { rc .ready none with state := .busy })).heap[w.heap.size + 1]? = some (.loop { rc .ready none with state := .busy }) := World.putObj_heap_same hlt2
      have hk2 : (W2.putObj (w.heap.size + 1) (.loop { rc .ready none with state := .busy })).heap[w.heap.size]? = some (.deferred (some [])) := (World.putObj_heap_other (by omega)).trans hk'
      have hbp : Below (W.putObj (w.heap.size + 1) (.loop { rc .ready none with state := .busy })).heap.size (W.putObj (w.heap.size + 1) (.loop { rc .ready none with state := .busy })) (W2.putObj (w.heap.size + 1) (.loop { rc .ready none with state := .busy })) := by
        refine ⟨hb2.os, hb2.tape, hb2.output, by simpa using hb2.size, fun k hk => ?_⟩
        have hk' : k < W.heap.size := by simpa using hk
        by_cases e : k = w.heap.size + 1
        · subst e
          rw [World.putObj_heap_same hlt2, World.putObj_heap_same hlt1]
        · rw [World.putObj_heap_other e, World.putObj_heap_other e]
          exact hb2.block k hk'
      have hbx2 : Bx x (W.putObj (w.heap.size + 1) (.loop { rc .ready none with state := .busy })).heap.size a2 (W2.putObj (w.heap.size + 1) (.loop { rc .ready none with state := .busy })) := by
        have := hBp _ _ _ _ (w.heap.size + 1) (.loop { rc .ready none with state := .busy }) hlt1 hbx
        simpa using this
      refine wpIn_mono (hbody _ pre x _ _ _ (hIp _ _ _ _ (.inr rfl) hi) hr (by simpa using hlt1) hbp hbx2) ?_
      have fin : ∀ (jump : Option Code) (W3 : World), TwoB w.heap.size (W2.putObj (w.heap.size + 1) (.loop { rc .ready none with state := .busy })) W3 →
          (Instr.endRound (w.heap.size + 1) jump).run Try.prog W3 = .ok (.bool jump.isNone) (W3.putObj (w.heap.size + 1) (.loop (rc (if jump.isNone then .ready else .done) jump))) ∧
          (W3.putObj (w.heap.size + 1) (.loop (rc (if jump.isNone then .ready else .done) jump))).heap[w.heap.size + 1]? = some (.loop (rc (if jump.isNone then .ready else .done) jump)) ∧
          (W3.putObj (w.heap.size + 1) (.loop (rc (if jump.isNone then .ready else .done) jump))).heap[w.heap.size]? = some (.deferred (some [])) := fun jump W3 h3 => by
        have hl3 := h3.2.trans hl2
        have := run_endRound (P := Try.prog) jump hl3
        rw [hrc] at this ⊢
        rw [hrc] at hl3
        exact ⟨this, World.putObj_heap_same (Array.getElem?_eq_some_iff.1 hl3).1, (World.putObj_heap_other (by omega)).trans (h3.1.trans hk2)⟩
      rintro e a3 W3 hp
      cases e with
      | normal =>
        obtain ⟨h3, hi3⟩ := hp
        obtain ⟨hr3, hl4, hk4⟩ := fin none W3 h3
        exact ⟨_, _, hr3, .inl ⟨rfl, hIp _ _ _ _ (.inr rfl) hi3, hl4, hk4⟩⟩
      | ret =>
        obtain ⟨h3, hi3⟩ := hp
        obtain ⟨hr3, hl4, hk4⟩ := fin (some .ret) W3 h3
        exact ⟨_, _, hr3, .inr ⟨rfl, hXp _ _ _ _ (.inr rfl) hi3, hl4, hk4⟩⟩
      | exit id => exact hp.elim
      | goto t => exact hp.elim
      | panic ch => exact hp.elim
      | outgrown => exact hp.elim
    · rintro e W2 ⟨⟨v, rfl⟩, (⟨hi, hl, hk⟩ | ⟨pre, hpre, hi, hl, hk⟩)⟩
      · exact ⟨none, _, by have := run_endLoop (P := Try.prog) hl (by rw [hrc]; simp); rw [hrc] at this; exact this, hdone _ (hIp _ _ _ _ (.inr rfl) hi) ((World.putObj_heap_other (by omega)).trans hk)⟩
      · exact ⟨some .ret, _, by have := run_endLoop (P := Try.prog) hl (by rw [hrc]; simp); rw [hrc] at this; exact this, hstop pre _ hpre (hXp _ _ _ _ (.inr rfl) hi) ((World.putObj_heap_other (by omega)).trans hk)⟩
end Go.Proofs.Ytjlflmbifeocbaa

namespace Go.Proofs.Ytjlflmbifeocbaa
open Go.RowKit

/-- The slots ds.i hold what the done operations gave; all others are as they were. -/
structure Sl2 (T0 : Array Value) (ds : List Nat) (tab : Nat → Option Value) (L : Array Bool) (a : Act) : Prop where
  sz : a.tmps.size = T0.size
  df : a.defers = []
  fr : ∀ k, k ∉ ds → a.tmps[k]? = T0[k]?
  sl : ∀ i (h : i < ds.length) v, tab i = some v → L.getD i false = true → a.eval (.tmp ds[i]) = v
theorem Sl2.put {T0 : Array Value} {ds : List Nat} {tab : Nat → Option Value} {L : Array Bool} {a : Act} (h : Sl2 T0 ds tab L a) (nd : ds.Nodup) {i : Nat} {v : Value} (hi : i < ds.length) (hd : ds[i] < T0.size) (ht : ∀ u, tab i = some u → u = v) : Sl2 T0 ds tab (L.setIfInBounds i true) (a.put (some ds[i]) v) := by
  refine ⟨by simp [Act.put, h.sz], h.df, fun k hk => ?_, fun j hj u hu hL => ?_⟩
  · have hne : ds[i] ≠ k := fun e => hk (e ▸ List.getElem_mem hi)
    show (a.tmps.setIfInBounds ds[i] v)[k]? = _
    rw [Array.getElem?_setIfInBounds_ne hne]
    exact h.fr k hk
  · by_cases e : j = i
    · subst e
      rw [ht u hu]
      show ((a.tmps.setIfInBounds ds[j] v).getD ds[j] undef) = v
      rw [Array.getD_eq_getD_getElem?, Array.getElem?_setIfInBounds_self_of_lt (by rw [h.sz]; exact hd)]
      rfl
    · rw [getD_set_ne false (fun e' => e e'.symm)] at hL
      rw [Act.eval_put (fun d hd' => by
        cases hd'
        intro e'
        injection e' with e'
        have e2 : ds[j] = ds[i] := e'
        rcases Nat.lt_trichotomy j i with h1 | h1 | h1
        · exact List.pairwise_iff_getElem.1 nd j i hj hi h1 e2
        · exact e h1
        · exact List.pairwise_iff_getElem.1 nd i j hi hj h1 e2.symm)]
      exact h.sl j hj u hu hL
theorem Sl2.skip {T0 : Array Value} {ds : List Nat} {tab : Nat → Option Value} {L : Array Bool} {a : Act} (h : Sl2 T0 ds tab L a) {i : Nat} (ht : tab i = none) : Sl2 T0 ds tab (L.setIfInBounds i true) a :=
  ⟨h.sz, h.df, h.fr, fun j hj u hu hL => by
    by_cases e : j = i
    · subst e; rw [ht] at hu; cases hu
    · rw [getD_set_ne false (fun e' => e e'.symm)] at hL
      exact h.sl j hj u hu hL⟩
theorem Sl2.start {T0 : Array Value} {ds : List Nat} {tab : Nat → Option Value} (n : Nat) : Sl2 T0 ds tab (Array.replicate n false) { tmps := T0, defers := [] } :=
  ⟨rfl, rfl, fun _ _ => rfl, fun i _ v _ hL => by rw [getD_repl] at hL; cases hL⟩
theorem Sl2.old {T0 : Array Value} {ds : List Nat} {tab : Nat → Option Value} {L : Array Bool} {a : Act} (h : Sl2 T0 ds tab L a) {k : Nat} (hk : ds.contains k = false) : a.tmps[k]?.getD undef = T0[k]?.getD undef := by
  rw [h.fr k (fun hm => by rw [List.contains_iff_mem.2 hm] at hk; cases hk)]
theorem Sl2.new {T0 : Array Value} {ds : List Nat} {tab : Nat → Option Value} {L : Array Bool} {a : Act} (h : Sl2 T0 ds tab L a) {i : Nat} {v : Value} (hi : i < ds.length) (ht : tab i = some v) (hL : L.getD i false = true) : a.tmps[ds[i]]?.getD undef = v := by
  rw [← Array.getD_eq_getD_getElem?]
  exact h.sl i hi v ht hL

/-- The frame behind the region, written out. -/
def updL (ds : List Nat) (u : Nat → Value) : Nat → List Value → List Value
  | _, [] => []
  | k, e :: l => (bif ds.contains k then u k else e) :: updL ds u (k + 1) l
theorem updL_len (ds : List Nat) (u : Nat → Value) : ∀ (l : List Value) (k : Nat), (updL ds u k l).length = l.length
  | [], _ => rfl
  | _ :: l, k => by simp [updL, updL_len ds u l (k + 1)]
theorem updL_at (ds : List Nat) (u : Nat → Value) : ∀ (l : List Value) (k i : Nat), (updL ds u k l)[i]? = (l[i]?).map fun e => bif ds.contains (k + i) then u (k + i) else e
  | [], _, i => by simp [updL]
  | e :: l, k, 0 => by simp [updL]
  | e :: l, k, i + 1 => by
    simp only [updL, List.getElem?_cons_succ]
    rw [updL_at ds u l (k + 1) i]
    rw [show k + 1 + i = k + (i + 1) by omega]
theorem Sl2.act {l : List Value} {ds : List Nat} {tab : Nat → Option Value} {L : Array Bool} {a : Act} (h : Sl2 l.toArray ds tab L a) : a = { tmps := (updL ds (fun k => a.tmps.getD k undef) 0 l).toArray, defers := [] } := by
  obtain ⟨t, d⟩ := a
  have hd : d = [] := h.df
  subst hd
  congr 1
  refine Array.ext' ?_
  refine List.ext_getElem? fun i => ?_
  rw [updL_at, Nat.zero_add]
  have hsz : t.size = l.length := by simpa using h.sz
  by_cases hi : i < l.length
  · rw [List.getElem?_eq_getElem hi]
    have hit : i < t.size := by omega
    cases hc : ds.contains i with
    | true =>
      simp only [Option.map_some, cond_true]
      rw [Array.getElem?_toList, Array.getElem?_eq_getElem hit]
      congr 1
      rw [Array.getD_eq_getD_getElem?, Array.getElem?_eq_getElem hit]
      rfl
    | false =>
      simp only [Option.map_some, cond_false]
      have h1 := h.fr i (fun hm => by rw [List.contains_iff_mem.2 hm] at hc; cases hc)
      have h2 : t[i]? = l.toArray[i]? := h1
      rw [Array.getElem?_toList, h2]
      simp [hi]
  · have h1 : t.toList[i]? = none := by rw [Array.getElem?_toList]; exact Array.getElem?_eq_none (by omega)
    rw [h1, List.getElem?_eq_none (by omega)]
    rfl
theorem evalD2 {a : Act} {k : Nat} {v : Value} (h : a.eval (.tmp k) = v) : a.tmps[k]?.getD undef = v := by
  rw [← Array.getD_eq_getD_getElem?]; exact h
/-- As lexAll, of the edges that bind. -/
def lexB2 (ops : Array Oper) : Bool := (List.range ops.size).all fun i => match ops[i]? with
  | some o => o.after.all fun e => !Region.binds .any e || decide (e.on < i)
  | none => true
theorem wpIn_region_inv0 {F : Fence} {n : Nat} {P : Program} {id : Nat} {ops : Array Oper} {Q : Exit → Act → World → Prop} {T0 : Array Value} {w : World} (hm : P.follows .mixedOrders = true) (hlex : lexB2 ops = true) (Inv : Array Value → Array Bool → Act → World → Prop)
    (h0 : Inv T0 (Array.replicate ops.size false) { tmps := T0, defers := [] } w.drew)
    (hd : ∀ L a w, Inv T0 L a w → (∀ i, i < ops.size → L.getD i false = true) → Q .normal a w)
    (hs : ∀ L a w i o, Inv T0 L a w → ClosedB ops L → L.getD i true = false → ops[i]? = some o → (∀ e ∈ o.after, Region.binds .any e = true → L.getD e.on false = true) → wpOpIn F n P ops Q i (Inv T0 (L.setIfInBounds i true)) a w) :
    (Code.region id ops true).wpIn F n P Q { tmps := T0, defers := [] } w := by
  have hc0 : ClosedB ops (Array.replicate ops.size false) := fun i o _ h => by rw [getD_repl] at h; cases h
  refine wpIn_region_any hm (wpAnyIn_inv (fun L a w => Inv T0 L a w ∧ ClosedB ops L ∧ L.size = ops.size) ?_ ?_ ops.size _ _ _ (by simp) ⟨h0, hc0, by simp⟩)
  · rintro L a w ⟨hi, hc, hz⟩ hr
    refine hd L a w hi ?_
    have key : ∀ n i, i < n → i < ops.size → L.getD i false = true := by
      intro n
      induction n with
      | zero => intro i h; omega
      | succ n ih =>
        intro i h hlt
        refine getD_tt (by omega) ?_
        cases hb : L.getD i true with
        | true => rfl
        | false =>
          exfalso
          have : i ∈ Region.ready .any ops L := mem_ready.2 ⟨hb, ops[i], Array.getElem?_eq_getElem hlt, fun e he hbd => by
            have hle : e.on < i := by
              have h1 := List.all_eq_true.1 hlex i (by simpa using hlt)
              rw [Array.getElem?_eq_getElem hlt] at h1
              simp only [Array.all_eq_true_iff_forall_mem, Bool.or_eq_true, Bool.not_eq_true', decide_eq_true_eq] at h1
              rcases h1 e he with h2 | h2
              · rw [hbd] at h2; cases h2
              · exact h2
            exact ih e.on (by omega) (by omega)⟩
          rw [hr] at this
          cases this
    exact fun i hi => key (i + 1) i (by omega) hi
  · rintro L a w i ⟨hi, hc, hz⟩ hr
    obtain ⟨h1, o, h2, h3⟩ := mem_ready.1 hr
    refine wpOpIn_mono (fun a' w' h => ⟨h, fun j o' ho' hj e he hb => ?_, by simpa using hz⟩) (hs L a w i o hi hc h1 h2 h3)
    by_cases e' : j = i
    · subst e'
      rw [h2] at ho'
      cases ho'
      exact getD_set_true (h3 e he hb)
    · rw [getD_set_ne false (fun x => e' x.symm)] at hj
      exact getD_set_true (hc j o' ho' hj e he hb)
end Go.Proofs.Ytjlflmbifeocbaa

namespace Go.Proofs.Ytjlflmbifeocbaa
open Go.RowKit

/-- The entries that lie under other paths. -/
def offP (ts : List En) (p : ByteArray) : List En := ts.filter fun e => !(e.path.toList == p.toList)
theorem offP_mem {ts : List En} {p : ByteArray} (e : En) : e ∈ offP ts p ↔ e ∈ ts ∧ e.path ≠ p := by
  unfold offP
  rw [List.mem_filter, Bool.not_eq_true']
  refine and_congr Iff.rfl ?_
  exact neb_iff
theorem offP_asc {ts : List En} {p : ByteArray} (h : Asc ts) : Asc (offP ts p) := List.Pairwise.filter _ h
theorem offP_take {ts : List En} {p : ByteArray} {k : Nat} (hk : k < ts.length) : offP (ts.take (k + 1)) p = if ts[k].path.toList == p.toList then offP (ts.take k) p else offP (ts.take k) p ++ [ts[k]] := by
  rw [List.take_succ_eq_append_getElem hk]
  unfold offP
  rw [List.filter_append]
  cases h : ts[k].path.toList == p.toList <;> simp [h]
theorem offP_len {ts : List En} {p : ByteArray} : (offP ts p).length ≤ ts.length := List.length_filter_le _ _

/-- What l6Lay makes. -/
def LayRel (ts : List En) (p : ByteArray) (f : Fl) (us : List En) : Prop :=
  if f.there = true then SetRel (offP ts p) ⟨p, f.text, f.runs⟩ us else us = offP ts p
theorem LayRel.asc {ts : List En} {p : ByteArray} {f : Fl} {us : List En} (hA : Asc ts) (h : LayRel ts p f us) : Asc us := by
  unfold LayRel at h
  split at h
  · exact h.asc
  · rw [h]; exact offP_asc hA
theorem LayRel.mem {ts : List En} {p : ByteArray} {f : Fl} {us : List En} (h : LayRel ts p f us) (e : En) : e ∈ us ↔ (f.there = true ∧ e = ⟨p, f.text, f.runs⟩) ∨ (e ∈ ts ∧ e.path ≠ p) := by
  unfold LayRel at h
  split at h
  · rename_i ht
    rw [h.mem, offP_mem]
    constructor
    · rintro (rfl | ⟨⟨h1, h2⟩, _⟩)
      · exact .inl ⟨ht, rfl⟩
      · exact .inr ⟨h1, h2⟩
    · rintro (⟨_, rfl⟩ | ⟨h1, h2⟩)
      · exact .inl rfl
      · exact .inr ⟨⟨h1, h2⟩, h2⟩
  · rename_i ht
    rw [h, offP_mem]
    constructor
    · exact .inr
    · rintro (⟨h1, _⟩ | h1)
      · exact absurd h1 ht
      · exact h1

/-- A list with all changes laid. -/
structure AppRel (ts : List En) (cs : List Ch) (us : List En) : Prop where
  asc : Asc us
  mem : ∀ e, e ∈ us ↔ (∃ c ∈ cs, c.new.there = true ∧ e = ⟨c.path, c.new.text, c.new.runs⟩) ∨ (e ∈ ts ∧ ∀ c ∈ cs, c.path ≠ e.path)
theorem AppRel.one {ts : List En} {cs : List Ch} {us us' : List En} (h : AppRel ts cs us) (h' : AppRel ts cs us') : us = us' :=
  asc_unique h.asc h'.asc (fun e => by rw [h.mem, h'.mem])
theorem AppRel.start {ts : List En} (h : Asc ts) : AppRel ts [] ts := ⟨h, fun e => by simp⟩
theorem AppRel.step {ts : List En} {cs : List Ch} {us us' : List En} {k : Nat} (hk : k < cs.length) (hC : AscK Ch.path cs) (h : AppRel ts (cs.take k) us) (hl : LayRel us cs[k].path cs[k].new us') : AppRel ts (cs.take (k + 1)) us' := by
  refine ⟨hl.asc h.asc, fun e => ?_⟩
  have hlt : ∀ c ∈ cs.take k, c.path ≠ cs[k].path := fun c hc => by
    obtain ⟨i, hi, rfl⟩ := List.getElem_of_mem hc
    rw [List.getElem_take]
    have hi2 : i < k := by simp at hi; omega
    exact less_ne (List.pairwise_iff_getElem.1 hC i k (by omega) hk hi2)
  have htk : ∀ c, c ∈ cs.take (k + 1) ↔ c ∈ cs.take k ∨ c = cs[k] := fun c => by
    rw [List.take_succ_eq_append_getElem hk, List.mem_append, List.mem_singleton]
  rw [hl.mem, h.mem]
  constructor
  · rintro (⟨h1, rfl⟩ | ⟨⟨c, hc, h1, rfl⟩ | ⟨h1, h2⟩, h3⟩)
    · exact .inl ⟨cs[k], (htk _).2 (.inr rfl), h1, rfl⟩
    · exact .inl ⟨c, (htk _).2 (.inl hc), h1, rfl⟩
    · refine .inr ⟨h1, fun c hc => ?_⟩
      rcases (htk c).1 hc with h4 | h4
      · exact h2 c h4
      · rw [h4]; exact fun e' => h3 e'.symm
  · rintro (⟨c, hc, h1, rfl⟩ | ⟨h1, h2⟩)
    · rcases (htk c).1 hc with h4 | h4
      · exact .inr ⟨.inl ⟨c, h4, h1, rfl⟩, hlt c h4⟩
      · subst h4; exact .inl ⟨h1, rfl⟩
    · exact .inr ⟨.inr ⟨h1, fun c hc => h2 c ((htk c).2 (.inl hc))⟩, fun e' => h2 cs[k] ((htk _).2 (.inr rfl)) e'.symm⟩

/-- What one round of impl's loop puts behind. -/
def outA (z : En) : Option En → Option Ch → List En
  | e, none => [e.getD z]
  | _, some c => if c.new.there = true then [⟨c.path, c.new.text, c.new.runs⟩] else []
theorem outA_some (z : En) (e : Option En) (c : Ch) : outA z e (some c) = if c.new.there = true then [⟨c.path, c.new.text, c.new.runs⟩] else [] := by cases e <;> rfl
theorem outA_none (z : En) (e : Option En) : outA z e none = [e.getD z] := by cases e <;> rfl
theorem app_rows {ts : List En} {cs : List Ch} {ns : List ByteArray} (z : En) (hN : AscN ns) (hm : ∀ p, p ∈ ns ↔ (∃ x ∈ ts, En.path x = p) ∨ ∃ y ∈ cs, Ch.path y = p) (hA : Asc ts) (hC : AscK Ch.path cs) :
    AppRel ts cs (ns.flatMap fun p => outA z (fnd En.path ts p) (fnd Ch.path cs p)) := by
  have hpath : ∀ p ∈ ns, ∀ e ∈ outA z (fnd En.path ts p) (fnd Ch.path cs p), e.path = p := fun p hp e he => by
    cases hc : fnd Ch.path cs p with
    | some c =>
      rw [hc, outA_some] at he
      split at he
      · rw [List.mem_singleton.1 he]; exact (fnd_some hc).2
      · cases he
    | none =>
      rw [hc, outA_none] at he
      have he2 : e = (fnd En.path ts p).getD z := List.mem_singleton.1 he
      cases ht : fnd En.path ts p with
      | some x => rw [ht] at he2; rw [he2]; exact (fnd_some ht).2
      | none =>
        exfalso
        rcases (hm p).1 hp with ⟨x, hx, hxp⟩ | ⟨x, hx, hxp⟩
        · unfold fnd at ht
          rw [List.find?_eq_none] at ht
          exact ht x hx (eqb_iff.2 hxp)
        · unfold fnd at hc
          rw [List.find?_eq_none] at hc
          exact hc x hx (eqb_iff.2 hxp)
  have hone : ∀ p, (outA z (fnd En.path ts p) (fnd Ch.path cs p)).length ≤ 1 := fun p => by
    cases fnd Ch.path cs p with
    | none => rw [outA_none]; simp
    | some c => rw [outA_some]; split <;> simp
  have uniqT : ∀ {x y : En}, x ∈ ts → y ∈ ts → x.path = y.path → x = y := fun {x y} hx hy hxy => by
    obtain ⟨i, hi, rfl⟩ := List.getElem_of_mem hx
    obtain ⟨j, hj, rfl⟩ := List.getElem_of_mem hy
    rcases Nat.lt_trichotomy i j with h | h | h
    · exact absurd hxy (less_ne (List.pairwise_iff_getElem.1 hA i j hi hj h))
    · subst h; rfl
    · exact absurd hxy.symm (less_ne (List.pairwise_iff_getElem.1 hA j i hj hi h))
  have uniqC : ∀ {x y : Ch}, x ∈ cs → y ∈ cs → x.path = y.path → x = y := fun {x y} hx hy hxy => by
    obtain ⟨i, hi, rfl⟩ := List.getElem_of_mem hx
    obtain ⟨j, hj, rfl⟩ := List.getElem_of_mem hy
    rcases Nat.lt_trichotomy i j with h | h | h
    · exact absurd hxy (less_ne (List.pairwise_iff_getElem.1 hC i j hi hj h))
    · subst h; rfl
    · exact absurd hxy.symm (less_ne (List.pairwise_iff_getElem.1 hC j i hj hi h))
  refine ⟨?_, fun e => ?_⟩
  · have key : ∀ l : List ByteArray, AscN l → (∀ p ∈ l, p ∈ ns) → Asc (l.flatMap fun p => outA z (fnd En.path ts p) (fnd Ch.path cs p)) := by
      intro l
      induction l with
      | nil => intro _ _; exact List.Pairwise.nil
      | cons p l ih =>
        intro hl hs
        obtain ⟨h1, h2⟩ := List.pairwise_cons.1 hl
        rw [List.flatMap_cons]
        refine List.pairwise_append.2 ⟨?_, ih h2 (fun q hq => hs q (by simp [hq])), fun x hx y hy => ?_⟩
        · have h3 := hone p
          generalize outA z (fnd En.path ts p) (fnd Ch.path cs p) = m at h3
          match m, h3 with
          | [], _ => exact List.Pairwise.nil
          | [x], _ => exact List.pairwise_singleton _ _
        · obtain ⟨q, hq, hy2⟩ := List.mem_flatMap.1 hy
          rw [hpath p (hs p (by simp)) x hx, hpath q (hs q (by simp [hq])) y hy2]
          exact h1 q hq
    exact key ns hN (fun p hp => hp)
  · constructor
    · intro he
      obtain ⟨p, hp, he2⟩ := List.mem_flatMap.1 he
      cases hc : fnd Ch.path cs p with
      | some c =>
        rw [hc, outA_some] at he2
        split at he2
        · rename_i hth
          exact .inl ⟨c, (fnd_some hc).1, hth, List.mem_singleton.1 he2⟩
        · cases he2
      | none =>
        have hpe := hpath p hp e he2
        rw [hc, outA_none] at he2
        have he3 : e = (fnd En.path ts p).getD z := List.mem_singleton.1 he2
        cases ht : fnd En.path ts p with
        | some x =>
          rw [ht] at he3
          have he4 : e = x := he3
          subst he4
          refine .inr ⟨(fnd_some ht).1, fun c hcc e' => ?_⟩
          unfold fnd at hc
          rw [List.find?_eq_none] at hc
          exact hc c hcc (eqb_iff.2 (by rw [e', hpe]))
        | none =>
          exfalso
          rcases (hm p).1 hp with ⟨x, hx, hxp⟩ | ⟨x, hx, hxp⟩
          · unfold fnd at ht
            rw [List.find?_eq_none] at ht
            exact ht x hx (eqb_iff.2 hxp)
          · unfold fnd at hc
            rw [List.find?_eq_none] at hc
            exact hc x hx (eqb_iff.2 hxp)
    · rintro (⟨c, hc, hth, rfl⟩ | ⟨he, hno⟩)
      · refine List.mem_flatMap.2 ⟨c.path, (hm _).2 (.inr ⟨c, hc, rfl⟩), ?_⟩
        have hf : fnd Ch.path cs c.path = some c := by
          cases h : fnd Ch.path cs c.path with
          | none =>
            unfold fnd at h
            rw [List.find?_eq_none] at h
            exact absurd (eqb_iff.2 rfl) (h c hc)
          | some d => rw [uniqC (fnd_some h).1 hc (fnd_some h).2]
        rw [hf, outA_some, if_pos hth]
        simp
      · refine List.mem_flatMap.2 ⟨e.path, (hm _).2 (.inl ⟨e, he, rfl⟩), ?_⟩
        have hf : fnd En.path ts e.path = some e := by
          cases h : fnd En.path ts e.path with
          | none =>
            unfold fnd at h
            rw [List.find?_eq_none] at h
            exact absurd (eqb_iff.2 rfl) (h e he)
          | some d => rw [uniqT (fnd_some h).1 he (fnd_some h).2]
        have hg : fnd Ch.path cs e.path = none := fnd_none (fun c hc => hno c hc)
        rw [hf, hg, outA_none]
        simp
end Go.Proofs.Ytjlflmbifeocbaa

namespace Go.Proofs.Ytjlflmbifeocbaa
open Go.RowKit

theorem box7_grown {X : World} {g : Nat} (v0 v1 v2 v3 v4 v5 v6 : Value) : X.grownBy (((((((X.setCell ⟨g, 0, none⟩ v0).setCell ⟨g, 1, none⟩ v1).setCell ⟨g, 2, none⟩ v2).setCell ⟨g, 3, none⟩ v3).setCell ⟨g, 4, none⟩ v4).setCell ⟨g, 5, none⟩ v5).setCell ⟨g, 6, none⟩ v6) (some g) :=
  have h : ∀ (Y : World) (j : Nat) (v : Value), Y.grownBy (Y.setCell ⟨g, j, none⟩ v) (some g) := fun Y j v => ⟨rfl, rfl, rfl, by simp, fun k _ hk => Below.heap_setCell _ _ _ _ (fun e => hk (by rw [e]))⟩
  have t : ∀ {A B C : World}, A.grownBy B (some g) → B.grownBy C (some g) → A.grownBy C (some g) := fun a b => ⟨b.os.trans a.os, b.tape.trans a.tape, b.output.trans a.output, Nat.le_trans a.size b.size, fun k hk hne => (b.block k (Nat.lt_of_lt_of_le hk a.size) hne).trans (a.block k hk hne)⟩
  t (t (t (t (t (t (h _ _ _) (h _ _ _)) (h _ _ _)) (h _ _ _)) (h _ _ _)) (h _ _ _)) (h _ _ _)

/-- A change in a box. -/
structure CBox (b : Nat) (c : Ch) (W : World) : Prop where
  c0 : W.cell? ⟨b, 0, none⟩ = some (.string c.path)
  c1 : W.cell? ⟨b, 1, none⟩ = some (.bool c.old.there)
  c2 : W.cell? ⟨b, 2, none⟩ = some (.string c.old.text)
  c3 : W.cell? ⟨b, 3, none⟩ = some (.bool c.old.runs)
  c4 : W.cell? ⟨b, 4, none⟩ = some (.bool c.new.there)
  c5 : W.cell? ⟨b, 5, none⟩ = some (.string c.new.text)
  c6 : W.cell? ⟨b, 6, none⟩ = some (.bool c.new.runs)
  fz : ∀ j, W.frozen? ⟨b, j, none⟩ = false
  lt : b < W.heap.size
theorem CBox.block {b : Nat} {c : Ch} {W W' : World} (h : CBox b c W) (hb : W'.heap[b]? = W.heap[b]?) : CBox b c W' :=
  ⟨(World.cell?_of_block hb).trans h.c0, (World.cell?_of_block hb).trans h.c1, (World.cell?_of_block hb).trans h.c2, (World.cell?_of_block hb).trans h.c3, (World.cell?_of_block hb).trans h.c4, (World.cell?_of_block hb).trans h.c5, (World.cell?_of_block hb).trans h.c6, fun j => frozen_of hb (h.fz j), by
    have := Array.getElem?_eq_getElem h.lt
    rw [this] at hb
    exact (Array.getElem?_eq_some_iff.1 hb).1⟩
theorem CBox.later {b : Nat} {c : Ch} {W W' : World} (h : CBox b c W) (hb : Below W.heap.size W W') : CBox b c W' := h.block (hb.block b h.lt)
theorem CBox.put {b l : Nat} {c : Ch} {W : World} (h : CBox b c W) (o : Obj) (hl : l ≠ b) : CBox b c (W.putObj l o) := h.block (World.putObj_heap_other (fun e => hl e.symm))
theorem CBox.grown {b : Nat} {c : Ch} {W W' : World} {row : Option Nat} (h : CBox b c W) (hg : W.grownBy W' row) (hr : row ≠ some b) : CBox b c W' := h.block (hg.block b h.lt (fun e => hr e.symm))
theorem CBox.set {g : Nat} {c : Ch} {X : World} (h : CBox g c X) (d : Ch) : CBox g d (((((((X.setCell ⟨g, 0, none⟩ (.string d.path)).setCell ⟨g, 1, none⟩ (.bool d.old.there)).setCell ⟨g, 2, none⟩ (.string d.old.text)).setCell ⟨g, 3, none⟩ (.bool d.old.runs)).setCell ⟨g, 4, none⟩ (.bool d.new.there)).setCell ⟨g, 5, none⟩ (.string d.new.text)).setCell ⟨g, 6, none⟩ (.bool d.new.runs)) := by
  obtain ⟨z0, z1, z2, z3, z4, z5, z6⟩ := box7_set (.string d.path) (.bool d.old.there) (.string d.old.text) (.bool d.old.runs) (.bool d.new.there) (.string d.new.text) (.bool d.new.runs) h.c0 h.c1 h.c2 h.c3 h.c4 h.c5 h.c6
  exact ⟨z0, z1, z2, z3, z4, z5, z6, fun j => (box7_fz (.string d.path) (.bool d.old.there) (.string d.old.text) (.bool d.old.runs) (.bool d.new.there) (.string d.new.text) (.bool d.new.runs)).trans (h.fz j), by simpa using h.lt⟩
end Go.Proofs.Ytjlflmbifeocbaa

namespace Go.Proofs.Ytjlflmbifeocbaa
open Go.RowKit

set_option maxRecDepth 20000 in
set_option maxHeartbeats 1000000 in
theorem stay_any (p : ByteArray) (f : Fl) (w : World) : Calls Try.prog 39 #[.string p, .agg #[.bool f.there, .string f.text, .bool f.runs]] w fun e w' => e = .returned (.agg #[.string p, .bool f.there, .string f.text, .bool f.runs, .bool f.there, .string f.text, .bool f.runs]) ∧ Below w.heap.size w w' := by
  have hal : Below w.heap.size w (w.alloc (.cells #[.bool f.there, .string f.text, .bool f.runs] 54)) := (Below.refl _ _).alloc (Nat.le_refl _) _
  have hal2 : Below w.heap.size w ((w.alloc (.cells #[.bool f.there, .string f.text, .bool f.runs] 54)).alloc (.cells #[.string ⟨#[]⟩, .bool false, .string ⟨#[]⟩, .bool false, .bool false, .string ⟨#[]⟩, .bool false] 68)) := hal.alloc (by simp) _
  go_enter Try.func39, Try.ntmps39
  go_wp2
  refine bodyPost_ret (v := .agg #[.string p, .bool f.there, .string f.text, .bool f.runs, .bool f.there, .string f.text, .bool f.runs]) ?_ rfl ⟨rfl, ?_⟩
  · go_light
    simp [results, Try.results39, go_sem]
  · first | exact hal.alloc (by simp) _ | exact box7_below _ _ _ _ _ _ _ hal2 (by omega)
end Go.Proofs.Ytjlflmbifeocbaa

namespace Go.Proofs.Ytjlflmbifeocbaa
open Go.RowKit

def EntPost (p t : ByteArray) (r : Bool) (w : World) (e : Ending) (w' : World) : Prop := e = .returned (.agg #[.string p, .string t, .bool r]) ∧ Below w.heap.size w w'

set_option maxRecDepth 100000 in
set_option maxHeartbeats 4000000 in
theorem entry_any (p t : ByteArray) (r : Bool) (w : World) (hp : p.size ≤ 281474976710656) (ht : t.size ≤ 281474976710656) :
    Calls Try.prog 40 #[.agg #[.bool true, .string t, .bool r], .string p] w fun e w' => EntPost p t r w e w' := by
  have hal : Below w.heap.size w ((w.alloc (.cells #[.bool true, .string t, .bool r] 54)).alloc (.cells #[.string ⟨#[]⟩, .string ⟨#[]⟩, .bool false] 57)) := ((Below.refl _ _).alloc (Nat.le_refl _) _).alloc (by simp) _
  have d1 : ((w.alloc (.cells #[.bool true, .string t, .bool r] 54)).alloc (.cells #[.string ⟨#[]⟩, .string ⟨#[]⟩, .bool false] 57)).cell? ⟨w.heap.size, 1, none⟩ = some (.string t) := by simp
  have d2 : ((w.alloc (.cells #[.bool true, .string t, .bool r] 54)).alloc (.cells #[.string ⟨#[]⟩, .string ⟨#[]⟩, .bool false] 57)).cell? ⟨w.heap.size, 2, none⟩ = some (.bool r) := by simp
  have g0 : ((w.alloc (.cells #[.bool true, .string t, .bool r] 54)).alloc (.cells #[.string ⟨#[]⟩, .string ⟨#[]⟩, .bool false] 57)).cell? ⟨w.heap.size + 1, 0, none⟩ = some (.string ⟨#[]⟩) := by simp
  have g1 : ((w.alloc (.cells #[.bool true, .string t, .bool r] 54)).alloc (.cells #[.string ⟨#[]⟩, .string ⟨#[]⟩, .bool false] 57)).cell? ⟨w.heap.size + 1, 1, none⟩ = some (.string ⟨#[]⟩) := by simp
  have g2 : ((w.alloc (.cells #[.bool true, .string t, .bool r] 54)).alloc (.cells #[.string ⟨#[]⟩, .string ⟨#[]⟩, .bool false] 57)).cell? ⟨w.heap.size + 1, 2, none⟩ = some (.bool false) := by simp
  have hsz : w.heap.size + 1 < ((w.alloc (.cells #[.bool true, .string t, .bool r] 54)).alloc (.cells #[.string ⟨#[]⟩, .string ⟨#[]⟩, .bool false] 57)).heap.size := by simp
  have f0 : ∀ j, ((w.alloc (.cells #[.bool true, .string t, .bool r] 54)).alloc (.cells #[.string ⟨#[]⟩, .string ⟨#[]⟩, .bool false] 57)).frozen? ⟨w.heap.size + 1, j, none⟩ = false := fun j => by simp
  go_enter Try.func40, Try.ntmps40
  go_wp2_with fail
  generalize hw2 : (w.alloc (.cells #[.bool true, .string t, .bool r] 54)).alloc (.cells #[.string ⟨#[]⟩, .string ⟨#[]⟩, .bool false] 57) = w2 at *
  clear hw2
  obtain ⟨g, hg⟩ : ∃ g, g = w.heap.size + 1 := ⟨_, rfl⟩
  obtain ⟨g', hg'⟩ : ∃ g', g' = w.heap.size := ⟨_, rfl⟩
  have hgw : w.heap.size ≤ g := by omega
  rw [← hg] at g0 g1 g2 hsz f0 ⊢
  rw [← hg'] at d1 d2 ⊢
  have HG : Keep (g' = w.heap.size) := ⟨hg'⟩
  have HGW : Keep (w.heap.size ≤ g) := ⟨hgw⟩
  have hal2 : Below w.heap.size w w2 := hal
  clear hal hg hg' hgw
  have q0 : Below w2.heap.size w2 w2.drew := (Below.refl _ _).drew
  have kq : ∀ {W W' : World}, Below w2.heap.size w2 W → Below W.heap.size W W' → Below w2.heap.size w2 W' := fun h h' => h.trans (h'.mono h.size)
  have kF : ∀ {W : World}, Below w2.heap.size w2 W → ∀ j, W.frozen? ⟨g, j, none⟩ = false := fun h j => (h.frozen (p := ⟨g, j, none⟩) hsz).trans (f0 j)
  go_region_with (first | (go_at_call_of 58 p; refine (clone_any p _ hp).mono ?_; rintro e w3 ⟨rfl, hb3⟩; have q : Below w2.heap.size w2 w3 := (by first | exact kq q hb3 | exact kq q0 hb3); have p1 := cell_later q d1; have p2 := cell_later q d2; have p3 := cell_later q g0; have p4 := cell_later q g1; have p5 := cell_later q g2; have pf := kF q) | (go_at_call_of 58 t; refine (clone_any t _ ht).mono ?_; rintro e w3 ⟨rfl, hb3⟩; have q : Below w2.heap.size w2 w3 := (by first | exact kq q hb3 | exact kq q0 hb3); have p1 := cell_later q d1; have p2 := cell_later q d2; have p3 := cell_later q g0; have p4 := cell_later q g1; have p5 := cell_later q g2; have pf := kF q))
  all_goals
    have hbl : Below w.heap.size w w3 := hal2.trans (q.mono hal2.size)
    go_wp2
    refine bodyPost_ret (v := .agg #[.string p, .string t, .bool r]) ?_ rfl ⟨rfl, ?_⟩
    · go_light
      simp [results, Try.results40, go_sem, p3, p4, p5]
    · have hgw := HGW.out
      exact ((hbl.setCell (p := ⟨g, 0, none⟩) hgw _).setCell (p := ⟨g, 1, none⟩) hgw _).setCell (p := ⟨g, 2, none⟩) hgw _
end Go.Proofs.Ytjlflmbifeocbaa

namespace Go.Proofs.Ytjlflmbifeocbaa
open Go.RowKit Go.Shelf

theorem sideEC_iter (Ba Bb : Nat) (a b : Option Addr) (ca cb : Nat) (ts : List En) (us : List Ch) (hca : ts.length ≤ ca) (hcb : us.length ≤ cb) (hnt : ts.length ≤ 1048576) (hnu : us.length ≤ 1048576) :
    Iter 61 #[.pointer (some ⟨Ba, 0, none⟩), .pointer (some ⟨Bb, 0, none⟩)] yEC (mrgEC ts us) (sideMemEC Ba Bb a b ca cb ts us) :=
  fun n l J Jx W hM hJ hY h0 => sideEC1_in n l Ba Bb a b ca cb ts us hca hcb hnt hnu J Jx W hM hJ hY h0

theorem OutSt.own_lt {h : Nat} {W0 W : World} {v : Value} {us : List En} (s : OutSt h W0 v us W) {k : Nat} (hk : v.ownBlock = some k) : k < W.heap.size := by
  rcases s.row.2 with ⟨e, _⟩ | ⟨g, cap, cur, e, _, hg, _⟩
  · rw [e] at hk; simp [Value.ownBlock] at hk
  · rw [e] at hk; simp [Value.ownBlock] at hk; subst hk; exact (Array.getElem?_eq_some_iff.1 hg).1
theorem OutSt.other {h B : Nat} {W0 W W' : World} {v : Value} {us : List En} (s : OutSt h W0 v us W) (hg : W.grownBy W' (some B)) (hB : W0.heap.size ≤ B) (hv : v.ownBlock ≠ some B) : OutSt h W0 v us W' := by
  have hl := s.lt
  have hh := hg.block h s.size (fun e => by cases e; omega)
  refine ⟨(World.cell?_of_block hh).trans s.cell, frozen_of hh s.fz, s.row.kept hg (Or.inr hv), ⟨hg.os.trans s.grown.os, hg.tape.trans s.grown.tape, hg.output.trans s.grown.output, Nat.le_trans s.grown.size hg.size, fun k hk hne => ?_⟩, hl⟩
  exact (hg.block k (Nat.lt_of_lt_of_le hk s.grown.size) (fun e => by cases e; omega)).trans (s.grown.block k hk hne)
theorem OutSt.putJ {h l : Nat} {W0 W : World} {v : Value} {us : List En} (s : OutSt h W0 v us W) (o : Obj) (hl : l < W0.heap.size) (hne : l ≠ h) : OutSt h (W0.putObj l o) v us (W.putObj l o) := by
  have hb : ∀ (X : World) (k : Nat), k ≠ l → (X.putObj l o).heap[k]? = X.heap[k]? := fun X k hk => World.putObj_heap_other hk
  have hh := hb W h (fun e => hne e.symm)
  have hg : W.grownBy (W.putObj l o) (some l) := ⟨rfl, rfl, rfl, by simp, fun k _ hk => hb W k (fun e => hk (by rw [e]))⟩
  have hlW := Nat.lt_of_lt_of_le hl s.grown.size
  refine ⟨(World.cell?_of_block hh).trans s.cell, frozen_of hh s.fz, ?_, ⟨s.grown.os, s.grown.tape, s.grown.output, by simpa using s.grown.size, fun k hk hkh => ?_⟩, by simpa using s.lt⟩
  · have h1 := s.row.kept hg (Or.inr (fun e => by have := owns_row_ge s.row e; omega))
    simpa using h1
  · have hk' : k < W0.heap.size := by simpa using hk
    by_cases e : k = l
    · subst e
      rw [World.putObj_heap_same hlW, World.putObj_heap_same hl]
    · rw [hb W k e, hb W0 k e]
      exact s.grown.block k hk' hkh


def outsA (pre : List PEC) : List En := pre.flatMap fun x => outA zeroE x.2.1 x.2.2
theorem outsA_snoc (pre : List PEC) (x : PEC) : outsA (pre ++ [x]) = outsA pre ++ outA zeroE x.2.1 x.2.2 := by simp [outsA]
theorem outA_len (z : En) (e : Option En) (c : Option Ch) : (outA z e c).length ≤ 1 := by
  cases c with
  | none => rw [outA_none]; simp
  | some c => rw [outA_some]; split <;> simp
theorem outsA_len (pre : List PEC) : (outsA pre).length ≤ pre.length := by
  induction pre with
  | nil => simp [outsA]
  | cons x pre ih =>
    have h1 : outsA (x :: pre) = outA zeroE x.2.1 x.2.2 ++ outsA pre := by simp [outsA]
    have h2 := outA_len zeroE x.2.1 x.2.2
    rw [h1, List.length_append, List.length_cons]
    omega

theorem mrg_lenA {α β : Type} (pa : α → ByteArray) (pb : β → ByteArray) : ∀ (n : Nat) (ts : List α) (us : List β), (mrg pa pb n ts us).length ≤ n
  | 0, _, _ => by simp [mrg]
  | n + 1, [], [] => by simp [mrg]
  | n + 1, [], y :: us => by have := mrg_lenA pa pb n [] us; simp only [mrg, List.length_cons]; omega
  | n + 1, x :: ts, [] => by have := mrg_lenA pa pb n ts []; simp only [mrg, List.length_cons]; omega
  | n + 1, x :: ts, y :: us => by
    have h1 := mrg_lenA pa pb n ts (y :: us)
    have h2 := mrg_lenA pa pb n (x :: ts) us
    have h3 := mrg_lenA pa pb n ts us
    simp only [mrg]
    split
    · simp only [List.length_cons]; omega
    · split
      · simp only [List.length_cons]; omega
      · simp only [List.length_cons]; omega
theorem names_of : ∀ l : List ByteArray, ∃ ns, AscN ns ∧ ∀ p, p ∈ ns ↔ p ∈ l
  | [] => ⟨[], List.Pairwise.nil, fun p => Iff.rfl⟩
  | q :: l => by
    obtain ⟨ns, h1, h2⟩ := names_of l
    have h3 := nameL_asc (s := q) h1
    refine ⟨nameL ns q, h3.1, fun p => ?_⟩
    rw [h3.2, h2, List.mem_cons]
    exact ⟨fun h => h.elim .inr .inl, fun h => h.elim .inr .inl⟩
theorem vp_asc {cs : List Ch} (h : ValidP cs) : AscK Ch.path cs := by
  have key : ∀ i, i < cs.length → ∀ j, j < i → ∀ (hi : i < cs.length) (hj : j < cs.length), Op.bytesLess cs[j].path.toList cs[i].path.toList = true := by
    intro i
    induction i with
    | zero => intro _ j hj; omega
    | succ i ih =>
      intro hi j hj hi' hj'
      obtain ⟨_, _, h1⟩ := h.2 (i + 1) hi
      have h2 := h1 i rfl (by omega)
      by_cases e : j = i
      · subst e; exact h2
      · exact less_trans (ih (by omega) j (by omega) (by omega) hj') h2
  exact List.pairwise_iff_getElem.2 fun i j hi hj hij => key j hj i hij hj hi
theorem mrgEC_rows {ts : List En} {cs : List Ch} (ht : ValidTs ts) (hc : ValidP cs) : ∃ ns, AscN ns ∧ (∀ p, p ∈ ns ↔ (∃ x ∈ ts, En.path x = p) ∨ ∃ y ∈ cs, Ch.path y = p) ∧ mrgEC ts cs = ns.map fun p => (p, fnd En.path ts p, fnd Ch.path cs p) := by
  obtain ⟨ns, h1, h2⟩ := names_of (ts.map En.path ++ cs.map Ch.path)
  have h3 : ∀ p, p ∈ ns ↔ (∃ x ∈ ts, En.path x = p) ∨ ∃ y ∈ cs, Ch.path y = p := fun p => by
    rw [h2, List.mem_append, List.mem_map, List.mem_map]
  exact ⟨ns, h1, h3, mrg_eq En.path Ch.path (ts.length + cs.length) ts cs ns (Nat.le_refl _) (valid_asc ht) (vp_asc hc) h1 h3⟩
theorem outs_app {ts : List En} {cs : List Ch} (ht : ValidTs ts) (hc : ValidP cs) : AppRel ts cs (outsA (mrgEC ts cs)) := by
  obtain ⟨ns, h1, h2, h3⟩ := mrgEC_rows ht hc
  have h4 := app_rows zeroE h1 h2 (valid_asc ht) (vp_asc hc)
  unfold outsA
  rw [h3, List.flatMap_map]
  exact h4
/-- The file is another one than the change says. -/
def badA (e : Option En) : Option Ch → Bool
  | some c => !sameF (fileE (e.getD zeroE)) c.old
  | none => false
theorem bad_iff {ts : List En} {cs : List Ch} (ht : ValidTs ts) (hc : ValidP cs) : (∃ x ∈ mrgEC ts cs, badA x.2.1 x.2.2 = true) ↔ ∃ c ∈ cs, sameF (atL ts c.path) c.old = false := by
  obtain ⟨ns, h1, h2, h3⟩ := mrgEC_rows ht hc
  rw [h3]
  constructor
  · rintro ⟨x, hx, hb⟩
    obtain ⟨p, hp, rfl⟩ := List.mem_map.1 hx
    cases hf : fnd Ch.path cs p with
    | none => simp only [hf] at hb; cases hb
    | some c =>
      obtain ⟨hcm, rfl⟩ := fnd_some hf
      simp only [hf, badA] at hb
      rw [fileE_at ht] at hb
      exact ⟨c, hcm, by simpa using hb⟩
  · rintro ⟨c, hcm, hs⟩
    refine ⟨_, List.mem_map.2 ⟨c.path, (h2 _).2 (.inr ⟨c, hcm, rfl⟩), rfl⟩, ?_⟩
    have hf : fnd Ch.path cs c.path = some c := by
      cases h : fnd Ch.path cs c.path with
      | none =>
        unfold fnd at h
        rw [List.find?_eq_none] at h
        exact absurd (eqb_iff.2 rfl) (h c hcm)
      | some d =>
        obtain ⟨hd1, hd2⟩ := fnd_some h
        have hA := vp_asc hc
        obtain ⟨i, hi, rfl⟩ := List.getElem_of_mem hd1
        obtain ⟨j, hj, rfl⟩ := List.getElem_of_mem hcm
        rcases Nat.lt_trichotomy i j with h' | h' | h'
        · exact absurd hd2 (less_ne (List.pairwise_iff_getElem.1 hA i j hi hj h'))
        · subst h'; rfl
        · exact absurd hd2.symm (less_ne (List.pairwise_iff_getElem.1 hA j i hj hi h'))
    simp only [hf, badA]
    rw [fileE_at ht, hs]
    rfl
/-- Which of the two lists have a path. -/
theorem mrgEC_cases {ts : List En} {cs : List Ch} (ht : ValidTs ts) (hc : ValidP cs) {x : PEC} (hx : x ∈ mrgEC ts cs) :
    (∃ d ∈ cs, x = (d.path, none, some d) ∧ ∀ e ∈ ts, e.path ≠ d.path) ∨ (∃ e ∈ ts, x = (e.path, some e, none)) ∨ ∃ e ∈ ts, ∃ d ∈ cs, d.path = e.path ∧ x = (e.path, some e, some d) := by
  obtain ⟨ns, h1, h2, h3⟩ := mrgEC_rows ht hc
  rw [h3] at hx
  obtain ⟨n, hn, rfl⟩ := List.mem_map.1 hx
  cases h1 : fnd En.path ts n with
  | none =>
    have hno : ∀ e ∈ ts, e.path ≠ n := fun e he e' => by
      unfold fnd at h1
      rw [List.find?_eq_none] at h1
      exact h1 e he (eqb_iff.2 e')
    cases h4 : fnd Ch.path cs n with
    | none =>
      exfalso
      rcases (h2 n).1 hn with ⟨z, hz, hzn⟩ | ⟨z, hz, hzn⟩
      · exact hno z hz hzn
      · unfold fnd at h4
        rw [List.find?_eq_none] at h4
        exact h4 z hz (eqb_iff.2 hzn)
    | some d =>
      obtain ⟨h5, rfl⟩ := fnd_some h4
      exact .inl ⟨d, h5, rfl, hno⟩
  | some e =>
    obtain ⟨h5, rfl⟩ := fnd_some h1
    cases h4 : fnd Ch.path cs e.path with
    | none => exact .inr (.inl ⟨e, h5, rfl⟩)
    | some d =>
      obtain ⟨h6, h7⟩ := fnd_some h4
      exact .inr (.inr ⟨e, h5, d, h6, h7, rfl⟩)
end Go.Proofs.Ytjlflmbifeocbaa

namespace Go.Proofs.Ytjlflmbifeocbaa
open Go.RowKit

def LayPost6 (ts : List En) (p : ByteArray) (f : Fl) (w : World) (e : Ending) (w' : World) : Prop :=
  ∃ ad cap us, e = .returned (.agg #[.slice ad us.length cap]) ∧ LayRel ts p f us ∧ EL w.heap.size w' ad us ∧ Below w.heap.size w w' ∧ us.length ≤ ts.length + 1

def LayPost6C (ts : List En) (p : ByteArray) (f : Fl) (w : World) (e : Ending) (w' : World) : Prop :=
  ∃ ad cap us, e = .returned (.agg #[.slice ad us.length cap]) ∧ LayRel ts p f us ∧ EL w.heap.size w' ad us ∧ Below w.heap.size w w' ∧ us.length ≤ ts.length + 1 ∧ us.length ≤ cap

set_option maxRecDepth 100000 in
set_option maxHeartbeats 8000000 in
theorem l6LayC_any (a : Option Addr) (cap : Nat) (ts : List En) (p : ByteArray) (f : Fl) (w : World) (hts : ES w a ts) (hn : ts.length ≤ 1000000) (hA : Asc ts) :
    Calls Try.prog 24 #[.agg #[.slice a ts.length cap], .string p, .agg #[.bool f.there, .string f.text, .bool f.runs]] w fun e w' => LayPost6C ts p f w e w' := by
  obtain ⟨i0, hi, hz0, hz1, hz2⟩ := info_parts Try.infoEntry
  have hal : Below w.heap.size w ((((w.alloc (.cells #[.slice a ts.length cap] 25)).alloc (.cells #[.bool f.there, .string f.text, .bool f.runs] 54)).alloc (.cells #[.slice none 0 0] 25)).alloc (.cells #[.slice none 0 0] 25)) := ((((Below.refl _ _).alloc (Nat.le_refl _) _).alloc (by simp) _).alloc (by simp; omega) _).alloc (by simp; omega) _
  have m0 : ((((w.alloc (.cells #[.slice a ts.length cap] 25)).alloc (.cells #[.bool f.there, .string f.text, .bool f.runs] 54)).alloc (.cells #[.slice none 0 0] 25)).alloc (.cells #[.slice none 0 0] 25)).cell? ⟨w.heap.size, 0, none⟩ = some (.slice a ts.length cap) := by simp [go_sem]
  have f0 : ((((w.alloc (.cells #[.slice a ts.length cap] 25)).alloc (.cells #[.bool f.there, .string f.text, .bool f.runs] 54)).alloc (.cells #[.slice none 0 0] 25)).alloc (.cells #[.slice none 0 0] 25)).cell? ⟨w.heap.size + 1, 0, none⟩ = some (.bool f.there) := by simp [go_sem]
  have f1 : ((((w.alloc (.cells #[.slice a ts.length cap] 25)).alloc (.cells #[.bool f.there, .string f.text, .bool f.runs] 54)).alloc (.cells #[.slice none 0 0] 25)).alloc (.cells #[.slice none 0 0] 25)).cell? ⟨w.heap.size + 1, 1, none⟩ = some (.string f.text) := by simp [go_sem]
  have f2 : ((((w.alloc (.cells #[.slice a ts.length cap] 25)).alloc (.cells #[.bool f.there, .string f.text, .bool f.runs] 54)).alloc (.cells #[.slice none 0 0] 25)).alloc (.cells #[.slice none 0 0] 25)).cell? ⟨w.heap.size + 1, 2, none⟩ = some (.bool f.runs) := by simp [go_sem]
  have k0 : ((((w.alloc (.cells #[.slice a ts.length cap] 25)).alloc (.cells #[.bool f.there, .string f.text, .bool f.runs] 54)).alloc (.cells #[.slice none 0 0] 25)).alloc (.cells #[.slice none 0 0] 25)).cell? ⟨w.heap.size + 1 + 1, 0, none⟩ = some (.slice none 0 0) := by simp [go_sem]
  have kf : ((((w.alloc (.cells #[.slice a ts.length cap] 25)).alloc (.cells #[.bool f.there, .string f.text, .bool f.runs] 54)).alloc (.cells #[.slice none 0 0] 25)).alloc (.cells #[.slice none 0 0] 25)).frozen? ⟨w.heap.size + 1 + 1, 0, none⟩ = false := by simp [go_sem]
  have o0 : ((((w.alloc (.cells #[.slice a ts.length cap] 25)).alloc (.cells #[.bool f.there, .string f.text, .bool f.runs] 54)).alloc (.cells #[.slice none 0 0] 25)).alloc (.cells #[.slice none 0 0] 25)).cell? ⟨w.heap.size + 1 + 1 + 1, 0, none⟩ = some (.slice none 0 0) := by simp [go_sem]
  have of0 : ((((w.alloc (.cells #[.slice a ts.length cap] 25)).alloc (.cells #[.bool f.there, .string f.text, .bool f.runs] 54)).alloc (.cells #[.slice none 0 0] 25)).alloc (.cells #[.slice none 0 0] 25)).frozen? ⟨w.heap.size + 1 + 1 + 1, 0, none⟩ = false := by simp [go_sem]
  have os0 : w.heap.size + 1 + 1 + 1 < ((((w.alloc (.cells #[.slice a ts.length cap] 25)).alloc (.cells #[.bool f.there, .string f.text, .bool f.runs] 54)).alloc (.cells #[.slice none 0 0] 25)).alloc (.cells #[.slice none 0 0] 25)).heap.size := by simp [go_sem]
  go_enter Try.func24, Try.ntmps24
  go_wp2
  generalize (((w.alloc (.cells #[.slice a ts.length cap] 25)).alloc (.cells #[.bool f.there, .string f.text, .bool f.runs] 54)).alloc (.cells #[.slice none 0 0] 25)).alloc (.cells #[.slice none 0 0] 25) = W at *
  obtain ⟨ob, hob⟩ : ∃ ob, ob = w.heap.size + 1 + 1 + 1 := ⟨_, rfl⟩
  obtain ⟨g, hg⟩ : ∃ g, g = w.heap.size + 1 + 1 := ⟨_, rfl⟩
  obtain ⟨fb, hfb⟩ : ∃ fb, fb = w.heap.size + 1 := ⟨_, rfl⟩
  obtain ⟨ta, hta⟩ : ∃ ta, ta = w.heap.size := ⟨_, rfl⟩
  rw [← hob] at o0 of0 os0 ⊢
  rw [← hg] at k0 kf ⊢
  rw [← hfb] at f0 f1 f2 ⊢
  rw [← hta] at m0 ⊢
  have HS : Keep (ta = w.heap.size ∧ fb = w.heap.size + 1 ∧ g = w.heap.size + 2 ∧ ob = w.heap.size + 3 ∧ ob < W.heap.size) := ⟨by omega⟩
  have hst0 := OutSt.start o0 of0 os0
  clear hob hg hfb hta o0 of0 os0
  go_loopw [8] (fun i wr => ∃ (k : Nat) (v : Value), i = .int .i64 k ∧ k ≤ ts.length ∧ OutSt ob W v (offP (ts.take k) p) wr) (fun i _ => ts.length - (intOf i).toNat)
  case atStart => exact ⟨0, _, rfl, Nat.zero_le _, hst0⟩
  case round =>
    clear hst0
    obtain ⟨k, v, rfl, hk, hst⟩ := hrel
    have hbr := hst.below hal (by have := HS.out; omega)
    have mr := hst.keep m0 (by have := HS.out; omega) (by have := HS.out; omega)
    by_cases hlt : k < ts.length
    · have hlt' : (k : Int) < ts.length := by omega
      obtain ⟨b, off, rfl, hc⟩ := (hts.below hbr).at hlt
      obtain ⟨x0, x1, x2⟩ := hc k hlt
      have hwt := offP_take (p := p) hlt
      cases hq : (ts[k].path.toList == p.toList) with
      | true =>
        rw [hq] at hwt
        simp only [if_true] at hwt
        have HW : Keep (offP (ts.take (k + 1)) p = offP (ts.take k) p) := ⟨hwt⟩
        have hq2 : (ts[k].path.toList != p.toList) = false := by simpa using hq
        clear hwt hc
        go_wp2
        go_roundw
        case rel => exact ⟨k + 1, v, by congr 1, hlt, by rw [HW.out]; exact hst⟩
        case measure => simp only [intOf]; omega
      | false =>
        rw [hq] at hwt
        simp only [Bool.false_eq_true, if_false] at hwt
        have HW : Keep (offP (ts.take (k + 1)) p = offP (ts.take k) p ++ [ts[k]]) := ⟨hwt⟩
        have hq2 : (ts[k].path.toList != p.toList) = true := by simpa using hq
        have hlen : (offP (ts.take k) p).length ≤ 1048576 := Nat.le_trans offP_len (by simp; omega)
        clear hwt hc
        generalize offP (ts.take k) p = us at *
        have hb1 : Below wr.heap.size wr (wr.alloc (.cells #[.string ts[k].path, .string ts[k].text, .bool ts[k].runs] 57)).drew := ((Below.refl _ _).alloc (Nat.le_refl _) _).drew
        have o1 := hst.cell
        have o1a : ∀ o, (wr.alloc o).cell? ⟨ob, 0, none⟩ = some v := fun o => cell_later ((Below.refl _ _).alloc (Nat.le_refl _) o) o1
        have HST : Keep (OutSt ob W v us wr) := ⟨hst⟩
        have hgs := hst.grown.size
        clear hst hbr
        go_wp2_with fail
        go_region_law (refine step_append_lies _ rfl _ _ 23 rfl W.heap.size 57 i0 _ 3 40 Try.underlying23 hi hz0 hz1 hz2 rfl (by decide) v us.length (ecells us) rfl (by exact owns_below HST.out.row hb1) ⟨wr.heap.size, 0, none⟩ 1 1 (ecell ts[k]) rfl rfl (by exact news_3 _ _ _ _ (by simp)) (by exact one_3 _) (by omega) (by unfold maxLen; omega) (by omega) (by simp; omega) (wr.heap.size + 1) (by simp) ?_; intro g2 cap2 w2 hown2 hgrow2 hat2 hlt2; have hm3 := HST.out.mid hb1 hgrow2; have oc3 := hm3.1; have of3 := hm3.2)
        all_goals
          have hst3 := HST.out.append hb1 hgrow2 hown2
          clear hm3 oc3 of3 hgrow2 hown2 hat2 hlt2 o1 o1a x0 x1 x2 mr HST
          go_wp2
          go_roundw
          case rel => exact ⟨k + 1, _, by congr 1, hlt, by rw [HW.out]; exact hst3⟩
          case measure => simp only [intOf]; omega
    · obtain rfl : k = ts.length := by omega
      rw [List.take_length] at hst
      have k2 := hst.keep k0 (by have := HS.out; omega) (by have := HS.out; omega)
      have g0 := hst.keep f0 (by have := HS.out; omega) (by have := HS.out; omega)
      have g1 := hst.keep f1 (by have := HS.out; omega) (by have := HS.out; omega)
      have g2 := hst.keep f2 (by have := HS.out; omega) (by have := HS.out; omega)
      have kf2 : wr.frozen? ⟨g, 0, none⟩ = false := frozen_of (hst.grown.block g (by have := HS.out; omega) (fun e => by have := HS.out; cases e; omega)) kf
      obtain ⟨ad, cap2, rfl⟩ := owns_slice hst.row
      have o2 := hst.cell
      have of2 := hst.fz
      have hel := el_of_row hst.row
      have hgo : ¬ g = ob := by have := HS.out; omega
      have hog : ¬ ob = g := by have := HS.out; omega
      cases ht : f.there with
      | false =>
        rw [ht] at g0
        have HB : Keep (LayPost6C ts p f w (.returned (.agg #[.slice ad (offP ts p).length cap2])) (wr.setCell ⟨g, 0, none⟩ (.slice ad (offP ts p).length cap2))) := ⟨⟨ad, cap2, offP ts p, rfl, by unfold LayRel; rw [if_neg (by rw [ht]; simp)], (hel.grown (row := some g) (grown_set0 wr g 0 _) (fun j _ hj _ e => by have := HS.out; cases e; omega)).mono (show w.heap.size ≤ W.heap.size by have := HS.out; omega), hbr.setCell (p := ⟨g, 0, none⟩) (by have := HS.out; show _ ≤ g; omega) _, Nat.le_trans offP_len (by omega), row_room hst.row⟩⟩
        clear hel hst hbr
        generalize offP ts p = us at *
        go_wp2
        refine bodyPost_ret (v := .agg #[.slice ad us.length cap2]) ?_ rfl HB.out
        go_light
        simp [results, Try.results24, go_sem, k2]
      | true =>
        rw [ht] at g0
        have hset := l5SetC_any ad cap2 (offP ts p) ⟨p, f.text, f.runs⟩ wr hel.es (Nat.le_trans offP_len (by omega)) (offP_asc hA)
        have hol : (offP ts p).length ≤ ts.length := offP_len
        have HST : Keep (OutSt ob W (.slice ad (offP ts p).length cap2) (offP ts p) wr) := ⟨hst⟩
        clear hel hst
        go_wp2_with fail
        refine hset.mono ?_
        rintro e w3 ⟨ad3, cap3, us, rfl, hrel, hel3, hb3, hus, hrm3⟩
        replace k2 := cell_later hb3 k2
        replace o2 := cell_later hb3 o2
        replace kf2 : w3.frozen? ⟨g, 0, none⟩ = false := (hb3.frozen (p := ⟨g, 0, none⟩) (World.block_lt_of_cell? wr ⟨g, 0, none⟩ (HST.out.keep k0 (by have := HS.out; omega) (by have := HS.out; omega)))).trans kf2
        replace of2 : w3.frozen? ⟨ob, 0, none⟩ = false := (hb3.frozen (p := ⟨ob, 0, none⟩) HST.out.size).trans of2
        have hgw := HST.out.grown.size
        have h31 := hel3.grown (row := some ob) (grown_set0 w3 ob 0 (.slice ad3 us.length cap3)) (fun j _ hj _ e => by have := HS.out; cases e; omega)
        have h32 := h31.grown (row := some g) (grown_set0 _ g 0 (.slice ad3 us.length cap3)) (fun j _ hj _ e => by have := HS.out; cases e; omega)
        have hb4 := ((hbr.trans (hb3.mono hbr.size)).setCell (p := ⟨ob, 0, none⟩) (by have := HS.out; show _ ≤ ob; omega) (.slice ad3 us.length cap3)).setCell (p := ⟨g, 0, none⟩) (by have := HS.out; show _ ≤ g; omega) (.slice ad3 us.length cap3)
        have HB : Keep (LayPost6C ts p f w (.returned (.agg #[.slice ad3 us.length cap3])) ((w3.setCell ⟨ob, 0, none⟩ (.slice ad3 us.length cap3)).setCell ⟨g, 0, none⟩ (.slice ad3 us.length cap3))) := ⟨⟨ad3, cap3, us, rfl, by unfold LayRel; rw [if_pos ht]; exact hrel, h32.mono (show w.heap.size ≤ wr.heap.size by have := HS.out; omega), hb4, by omega, hrm3⟩⟩
        clear hel3 h31 h32 hb4 hb3 hset hbr HST
        go_wp2
        refine bodyPost_ret (v := .agg #[.slice ad3 us.length cap3]) ?_ rfl HB.out
        go_light
        simp [results, Try.results24, go_sem, k2]
theorem l6Lay_any (a : Option Addr) (cap : Nat) (ts : List En) (p : ByteArray) (f : Fl) (w : World) (hts : ES w a ts) (hn : ts.length ≤ 1000000) (hA : Asc ts) :
    Calls Try.prog 24 #[.agg #[.slice a ts.length cap], .string p, .agg #[.bool f.there, .string f.text, .bool f.runs]] w fun e w' => LayPost6 ts p f w e w' :=
  (l6LayC_any a cap ts p f w hts hn hA).mono (fun _ _ ⟨ad, cp, us, h1, h2, h3, h4, h5, _⟩ => ⟨ad, cp, us, h1, h2, h3, h4, h5⟩)
end Go.Proofs.Ytjlflmbifeocbaa

namespace Go.Proofs.Ytjlflmbifeocbaa
open Go.RowKit

def yTab (P C K : Value) (tb b1 o : Nat) (s : ByteArray) (f : Fl) : Nat → Option Value
  | 0 => some P
  | 1 => some (.pointer (some ⟨tb, 0, none⟩))
  | 2 => some C
  | 3 => some K
  | 4 => some (.pointer (some ⟨b1, o, none⟩))
  | 5 => some (.pointer (some ⟨b1, o, none⟩))
  | 6 => some (.string s)
  | 7 => some (.pointer (some ⟨tb, 0, none⟩))
  | 8 => some C
  | 9 => some K
  | 10 => some (.pointer (some ⟨b1, o, none⟩))
  | 11 => some (.pointer (some ⟨b1, o + 4, none⟩))
  | 12 => some (.agg #[.bool f.there, .string f.text, .bool f.runs])
  | _ => none
def yDs : List Nat := [50, 51, 52, 53, 54, 55, 56, 57, 58, 59, 60, 61, 62, 63, 1000]
theorem yNd : yDs.Nodup := by decide

structure YV (T0 : Array Value) (X : World) (P C K : Value) (tb b1 o : Nat) (us : List En) (s : ByteArray) (f : Fl) (E : World → Prop) (L : Array Bool) (a : Act) (w : World) : Prop where
  sl : Sl2 T0 yDs (yTab P C K tb b1 o s f) L a
  w0 : L.getD 13 false = false → w = X.drew
  w1 : L.getD 13 false = true → L.getD 14 false = false → ∃ ad cap vs, a.eval (.tmp 63) = .agg #[.slice ad vs.length cap] ∧ LayRel us s f vs ∧ EL X.heap.size w ad vs ∧ Below X.heap.size X w ∧ vs.length ≤ us.length + 1
  w3 : L.getD 14 false = true → E w

theorem YV.step {T0 : Array Value} {X : World} {P C K : Value} {tb b1 o : Nat} {us : List En} {s : ByteArray} {f : Fl} {E : World → Prop} {L : Array Bool} {a : Act} {w : World} (h : YV T0 X P C K tb b1 o us s f E L a w) {i : Nat} {u : Value} (hT : T0.size = 69) (hi : i < 13) (ht : yTab P C K tb b1 o s f i = some u) :
    YV T0 X P C K tb b1 o us s f E (L.setIfInBounds i true) (a.put (some (50 + i)) u) w := by
  have hlen : i < yDs.length := by show i < 15; omega
  have hds : yDs[i] = 50 + i := by
    match i, hi with
    | 0, _ | 1, _ | 2, _ | 3, _ | 4, _ | 5, _ | 6, _ | 7, _ | 8, _ | 9, _ | 10, _ | 11, _ | 12, _ => rfl
  have hsl := h.sl.put yNd hlen (by rw [hds, hT]; omega) (v := u) (fun u' hu => by rw [ht] at hu; cases hu; rfl)
  rw [hds] at hsl
  have ev : ∀ k, k ≠ 50 + i → (a.put (some (50 + i)) u).eval (.tmp k) = a.eval (.tmp k) := fun k hk => Act.eval_put (fun d hd' => by cases hd'; intro e'; injection e' with e'; exact hk e')
  refine ⟨hsl, fun h1 => ?_, fun h1 h2 => ?_, fun h1 => ?_⟩
  · rw [getD_set_ne false (by omega)] at h1; exact h.w0 h1
  · rw [getD_set_ne false (by omega)] at h1; rw [getD_set_ne false (by omega)] at h2
    obtain ⟨ad, cap, vs, e1, e2⟩ := h.w1 h1 h2
    exact ⟨ad, cap, vs, by rw [ev 63 (by omega)]; exact e1, e2⟩
  · rw [getD_set_ne false (by omega)] at h1; exact h.w3 h1
theorem YV.call {T0 : Array Value} {X : World} {P C K : Value} {tb b1 o : Nat} {us : List En} {s : ByteArray} {f : Fl} {E : World → Prop} {L : Array Bool} {a : Act} {w w' : World} (h : YV T0 X P C K tb b1 o us s f E L a w) (hT : T0.size = 69) (hL : L.getD 13 true = false) (h14 : L.getD 14 false = false) {ad : Option Addr} {cap : Nat} {vs : List En}
    (e2 : LayRel us s f vs) (e3 : EL X.heap.size w' ad vs) (e4 : Below X.heap.size X w') (e5 : vs.length ≤ us.length + 1) :
    YV T0 X P C K tb b1 o us s f E (L.setIfInBounds 13 true) (a.put (some 63) (.agg #[.slice ad vs.length cap])) w' := by
  have g13 : (L.setIfInBounds 13 true).getD 13 false = true := by
    have h1 := getD_false hL
    have h2 : 13 < L.size := by simpa using (List.getElem?_eq_some_iff.1 h1).1
    rw [Array.getD_eq_getD_getElem?, Array.getElem?_setIfInBounds_self_of_lt h2]
    rfl
  refine ⟨h.sl.put (i := 13) yNd (by decide) (show 63 < _ by rw [hT]; omega) (fun u hu => by cases hu), fun h1 => ?_, fun _ _ => ⟨ad, cap, vs, ?_, e2, e3, e4, e5⟩, fun h1 => ?_⟩
  · rw [g13] at h1; cases h1
  · show ((a.tmps.setIfInBounds 63 _).getD 63 undef) = _
    rw [Array.getD_eq_getD_getElem?, Array.getElem?_setIfInBounds_self_of_lt (by rw [h.sl.sz, hT]; omega)]
    rfl
  · rw [getD_set_ne false (by omega), h14] at h1; cases h1
theorem YV.last {T0 : Array Value} {X : World} {P C K : Value} {tb b1 o : Nat} {us : List En} {s : ByteArray} {f : Fl} {E : World → Prop} {L : Array Bool} {a : Act} {w w' : World} (h : YV T0 X P C K tb b1 o us s f E L a w) (h13 : L.getD 13 false = true) (hL : L.getD 14 true = false) (hE : E w') :
    YV T0 X P C K tb b1 o us s f E (L.setIfInBounds 14 true) a w' := by
  have g14 : (L.setIfInBounds 14 true).getD 14 false = true := by
    have h1 := getD_false hL
    have h2 : 14 < L.size := by simpa using (List.getElem?_eq_some_iff.1 h1).1
    rw [Array.getD_eq_getD_getElem?, Array.getElem?_setIfInBounds_self_of_lt h2]
    rfl
  refine ⟨h.sl.skip rfl, fun h1 => ?_, fun _ h2 => ?_, fun _ => hE⟩
  · rw [getD_set_ne false (by omega), h13] at h1; cases h1
  · rw [g14] at h2; cases h2
end Go.Proofs.Ytjlflmbifeocbaa

namespace Go.Proofs.Ytjlflmbifeocbaa
open Go.RowKit

def ApplyRel (ts : List En) (cs : List Ch) (us : List En) (c : Int) : Prop :=
  (¬ (ValidTs ts ∧ ValidP cs) ∧ us = [] ∧ c = 1) ∨ (ValidTs ts ∧ ValidP cs ∧
    (((∃ x ∈ cs, sameF (atL ts x.path) x.old = false) ∧ us = [] ∧ c = 2) ∨
     ((∀ x ∈ cs, sameF (atL ts x.path) x.old = true) ∧ ∃ vs, AppRel ts cs vs ∧ ((¬ ValidTs vs ∧ us = [] ∧ c = 3) ∨ (ValidTs vs ∧ us = vs ∧ c = 0)))))
theorem apply_one {ts : List En} {cs : List Ch} {us us' : List En} {c c' : Int} (h : ApplyRel ts cs us c) (h' : ApplyRel ts cs us' c') : us = us' ∧ c = c' := by
  rcases h with ⟨h1, rfl, rfl⟩ | ⟨h1, h2, h⟩
  · rcases h' with ⟨_, rfl, rfl⟩ | ⟨h3, h4, _⟩
    · exact ⟨rfl, rfl⟩
    · exact absurd ⟨h3, h4⟩ h1
  · rcases h' with ⟨h3, _⟩ | ⟨_, _, h'⟩
    · exact absurd ⟨h1, h2⟩ h3
    · rcases h with ⟨⟨x, hx, hs⟩, rfl, rfl⟩ | ⟨ha, vs, hv, h⟩
      · rcases h' with ⟨_, rfl, rfl⟩ | ⟨ha, _⟩
        · exact ⟨rfl, rfl⟩
        · rw [ha x hx] at hs; cases hs
      · rcases h' with ⟨⟨x, hx, hs⟩, _⟩ | ⟨_, vs', hv', h'⟩
        · rw [ha x hx] at hs; cases hs
        · obtain rfl := hv.one hv'
          rcases h with ⟨h5, rfl, rfl⟩ | ⟨h5, rfl, rfl⟩
          · rcases h' with ⟨_, rfl, rfl⟩ | ⟨h6, _⟩
            · exact ⟨rfl, rfl⟩
            · exact absurd h6 h5
          · rcases h' with ⟨h6, _⟩ | ⟨_, rfl, rfl⟩
            · exact absurd h5 h6
            · exact ⟨rfl, rfl⟩
theorem EL.box {B ob : Nat} {w : World} {ad : Option Addr} {us : List En} {v : Value} (h : EL B w ad us) (hne : us = [] ∨ blk ad ≠ some ob) : EL B (w.setCell ⟨ob, 0, none⟩ v) ad us := by
  rcases hne with h' | h'
  · subst h'; exact .inl rfl
  · exact h.grown (row := some ob) (grown_set0 w ob 0 v) (fun g hg _ _ e => h' (by rw [hg, e]))
theorem EL.apart {B ob : Nat} {w : World} {ad : Option Addr} {us : List En} (h : EL B w ad us) (hb : ob < B ∨ w.heap.size ≤ ob) : us = [] ∨ blk ad ≠ some ob := by
  rcases h with h | ⟨g, rfl, h1, h2, _⟩
  · exact .inl h
  · refine .inr (fun e => ?_)
    have e2 : g = ob := by simpa [blk] using e
    omega

def ApplyPost (ts : List En) (cs : List Ch) (w : World) (e : Ending) (w' : World) : Prop :=
  ∃ us c, ApplyRel ts cs us c ∧ (∃ ad cap, e = .returned (TreeV ad us.length cap c) ∧ EL w.heap.size w' ad us) ∧ Below w.heap.size w w'

theorem ap_asc {cs : List Ch} (h : ValidP cs) : AscK Ch.path cs := by
  have key : ∀ i, i < cs.length → ∀ j, j < i → ∀ (hi : i < cs.length) (hj : j < cs.length), Op.bytesLess cs[j].path.toList cs[i].path.toList = true := by
    intro i
    induction i with
    | zero => intro _ j hj; omega
    | succ i ih =>
      intro hi j hj hi' hj'
      obtain ⟨_, _, h1⟩ := h.2 (i + 1) hi
      have h2 := h1 i rfl (by omega)
      by_cases e : j = i
      · subst e; exact h2
      · exact less_trans (ih (by omega) j (by omega) (by omega) hj') h2
  exact List.pairwise_iff_getElem.2 fun i j hi hj hij => key j hj i hij hj hi

set_option maxRecDepth 100000 in
set_option maxHeartbeats 8000000 in
theorem specApply_any (a b : Option Addr) (ca cb : Nat) (ts : List En) (cs : List Ch) (w : World) (hts : ES w a ts) (hcs : CS w b cs) (hn : ts.length ≤ 1048576) (hnb : cs.length ≤ 1048576) (hca : (∃ ad, a = some ad) ∨ (a = none ∧ ca = 0)) :
    Calls Try.prog 44 #[.agg #[.slice a ts.length ca], .agg #[.slice b cs.length cb]] w fun e w' => ApplyPost ts cs w e w' := by
  have hal : Below w.heap.size w (((w.alloc (.cells #[.slice a ts.length ca] 25)).alloc (.cells #[.slice b cs.length cb] 30)).alloc (.cells #[.slice none 0 0] 25)) := (((Below.refl _ _).alloc (Nat.le_refl _) _).alloc (by simp) _).alloc (by simp; omega) _
  have m0 : (((w.alloc (.cells #[.slice a ts.length ca] 25)).alloc (.cells #[.slice b cs.length cb] 30)).alloc (.cells #[.slice none 0 0] 25)).cell? ⟨w.heap.size, 0, none⟩ = some (.slice a ts.length ca) := by simp [go_sem]
  have m1 : (((w.alloc (.cells #[.slice a ts.length ca] 25)).alloc (.cells #[.slice b cs.length cb] 30)).alloc (.cells #[.slice none 0 0] 25)).cell? ⟨w.heap.size + 1, 0, none⟩ = some (.slice b cs.length cb) := by simp [go_sem]
  have k0 : (((w.alloc (.cells #[.slice a ts.length ca] 25)).alloc (.cells #[.slice b cs.length cb] 30)).alloc (.cells #[.slice none 0 0] 25)).cell? ⟨w.heap.size + 1 + 1, 0, none⟩ = some (.slice none 0 0) := by simp [go_sem]
  have kf : (((w.alloc (.cells #[.slice a ts.length ca] 25)).alloc (.cells #[.slice b cs.length cb] 30)).alloc (.cells #[.slice none 0 0] 25)).frozen? ⟨w.heap.size + 1 + 1, 0, none⟩ = false := by simp [go_sem]
  have os0 : w.heap.size + 1 + 1 < (((w.alloc (.cells #[.slice a ts.length ca] 25)).alloc (.cells #[.slice b cs.length cb] 30)).alloc (.cells #[.slice none 0 0] 25)).heap.size := by simp [go_sem]
  go_enter Try.func44, Try.ntmps44
  go_upto_region 1 with fail
  generalize ((w.alloc (.cells #[.slice a ts.length ca] 25)).alloc (.cells #[.slice b cs.length cb] 30)).alloc (.cells #[.slice none 0 0] 25) = W at *
  obtain ⟨g, hg⟩ : ∃ g, g = w.heap.size + 1 + 1 := ⟨_, rfl⟩
  obtain ⟨tb, htb⟩ : ∃ tb, tb = w.heap.size + 1 := ⟨_, rfl⟩
  obtain ⟨ta, hta⟩ : ∃ ta, ta = w.heap.size := ⟨_, rfl⟩
  rw [← hg] at k0 kf os0 ⊢
  rw [← htb] at m1 ⊢
  rw [← hta] at m0 ⊢
  have HS : Keep (ta = w.heap.size ∧ tb = w.heap.size + 1 ∧ g = w.heap.size + 2) := ⟨by omega⟩
  clear hg htb hta
  go_cut [16] (fun v wx => ∃ nb : Bool, v = .bool nb ∧ Keep (nb = false ↔ ValidTs ts ∧ ValidP cs) ∧ Below W.heap.size W wx)
  case first =>
    go_wp2_with fail
    refine (specTree_any a ca ts W (hts.below hal) hn).mono ?_
    rintro e w1 ⟨va, rfl, hva, hb1⟩
    have m1' := cell_later hb1 m1
    cases va with
    | false =>
      have HV : Keep ((true = false) ↔ ValidTs ts ∧ ValidP cs) := ⟨⟨fun h => (by cases h), fun h => (by have := hva.2 h.1; cases this)⟩⟩
      clear hva
      go_wp2_with fail
      go_meet
      case rel => exact ⟨true, rfl, HV, hb1⟩
    | true =>
      have HV : Keep (ValidTs ts) := ⟨hva.1 rfl⟩
      clear hva
      go_wp2_with fail
      refine (specPatch_any b cb cs w1 ((hcs.below hal).below hb1) hnb).mono ?_
      rintro e w2 ⟨vb, rfl, hvb, hb2⟩
      have HV2 : Keep ((!vb) = false ↔ ValidTs ts ∧ ValidP cs) := ⟨⟨fun h => ⟨HV.out, hvb.1 (by simpa using h)⟩, fun h => by rw [hvb.2 h.2]; rfl⟩⟩
      clear hvb
      go_wp2_with fail
      go_meet
      case rel => exact ⟨_, rfl, HV2, hb1.trans (hb2.mono hb1.size)⟩
  case rest =>
    obtain ⟨nb, rfl, HV, hb1⟩ := hcut
    replace m0 := cell_later hb1 m0
    replace m1 := cell_later hb1 m1
    replace k0 := cell_later hb1 k0
    replace kf : wc.frozen? ⟨g, 0, none⟩ = false := (hb1.frozen (p := ⟨g, 0, none⟩) os0).trans kf
    have os1 : g < wc.heap.size := Nat.lt_of_lt_of_le os0 hb1.size
    have hbw := hal.trans (hb1.mono hal.size)
    clear hb1 hal os0
    cases nb with
    | true =>
      have hnv : ¬ (ValidTs ts ∧ ValidP cs) := fun h => by have := HV.out.2 h; cases this
      go_wp2
      refine bodyPost_ret (v := TreeV none ([] : List En).length 0 1) ?_ rfl ⟨[], 1, .inl ⟨hnv, rfl, rfl⟩, ⟨none, 0, rfl, EL.nil _ _ _⟩, hbw.setCell (p := ⟨g, 0, none⟩) (by have := HS.out; show _ ≤ g; omega) _⟩
      go_light
      simp [results, Try.results44, go_sem, TreeV, k0]
    | false =>
      have hv := HV.out.1 rfl
      have HS1 : Keep (g < wc.heap.size) := ⟨os1⟩
      clear os1
      go_wp2
      go_loopw [6] (fun i wr => ∃ k : Nat, i = .int .i64 k ∧ k ≤ cs.length ∧ Below wc.heap.size wc wr ∧ Keep (∀ x ∈ cs.take k, sameF (atL ts x.path) x.old = true)) (fun i _ => cs.length - (intOf i).toNat)
      case atStart => exact ⟨0, rfl, Nat.zero_le _, Below.refl _ _, ⟨fun x hx => by simp at hx⟩⟩
      case round =>
        obtain ⟨k, rfl, hk, hbk, HSM⟩ := hrel
        have t0 := cell_later hbk m0
        have t1 := cell_later hbk m1
        have hbx := hbw.trans (hbk.mono hbw.size)
        by_cases hlt : k < cs.length
        · have hlt' : (k : Int) < cs.length := by omega
          obtain ⟨b1, o1, rfl, hc1⟩ := (hcs.below hbx).at hlt
          obtain ⟨x0, x1, x2, x3, x4, x5, x6⟩ := hc1 k hlt
          have ct0 : ∀ z : Later wr, z.world.cell? ⟨ta, 0, none⟩ = some (.slice a ts.length ca) := fun z => cell_later z.kept t0
          have ct1 : ∀ z : Later wr, z.world.cell? ⟨tb, 0, none⟩ = some (.slice (some ⟨b1, o1, none⟩) cs.length cb) := fun z => cell_later z.kept t1
          have cx0 : ∀ z : Later wr, z.world.cell? ⟨b1, o1 + k * 7, none⟩ = some (.string cs[k].path) := fun z => cell_later z.kept x0
          have cx1 : ∀ z : Later wr, z.world.cell? ⟨b1, o1 + k * 7 + 1, none⟩ = some (.bool cs[k].old.there) := fun z => cell_later z.kept x1
          have cx2 : ∀ z : Later wr, z.world.cell? ⟨b1, o1 + k * 7 + 2, none⟩ = some (.string cs[k].old.text) := fun z => cell_later z.kept x2
          have cx3 : ∀ z : Later wr, z.world.cell? ⟨b1, o1 + k * 7 + 3, none⟩ = some (.bool cs[k].old.runs) := fun z => cell_later z.kept x3
          have kr := cell_later hbk k0
          have kfr : wr.frozen? ⟨g, 0, none⟩ = false := (hbk.frozen (p := ⟨g, 0, none⟩) HS1.out).trans kf
          have HG : Keep (g < wr.heap.size) := ⟨Nat.lt_of_lt_of_le HS1.out hbk.size⟩
          obtain ⟨f1, hf1⟩ : ∃ f1, f1 = atL ts cs[k].path := ⟨_, rfl⟩
          have HA1 : Keep (∀ z : Later wr, Calls Try.prog 35 #[.agg #[.slice a ts.length ca], .string cs[k].path] z.world fun e w'' => e = .returned (.agg #[.bool f1.there, .string f1.text, .bool f1.runs]) ∧ ∃ q : Later wr, w'' = q.world) := ⟨fun z => by rw [hf1]; exact Later.call z (l6At_any a ca ts cs[k].path z.world ((hts.below hbx).below z.kept) hn)⟩
          have HT : Keep (cs.take (k + 1) = cs.take k ++ [cs[k]]) := ⟨List.take_succ_eq_append_getElem hlt⟩
          clear hc1 x0 x1 x2 x3 x4 x5 x6
          cases hsm : sameF f1 cs[k].old with
          | true =>
            have HN2 : Keep (∀ x ∈ cs.take (k + 1), sameF (atL ts x.path) x.old = true) := ⟨fun x hx => by
              rw [HT.out] at hx
              rcases List.mem_append.1 hx with h' | h'
              · exact HSM.out x h'
              · rw [List.mem_singleton.1 h', ← hf1]; exact hsm⟩
            obtain ⟨⟨h1, h2⟩, h3⟩ : (f1.there = cs[k].old.there ∧ f1.text.toList = cs[k].old.text.toList) ∧ f1.runs = cs[k].old.runs := by simpa [sameF] using hsm
            have h4 : f1.text = cs[k].old.text := WideShapes.bytes_inj (by rw [← Lib.toList_data, ← Lib.toList_data]; exact h2)
            rw [← h1] at cx1
            rw [← h4] at cx2
            rw [← h3] at cx3
            clear hsm h1 h2 h3 h4 hf1
            go_upto_region 6 with fail
            (haveI := later_any; refine wp_region_later (by kernel_rfl) (by kernel_rfl) ?_; (repeat (go_big_quiet_step (first | (go_at_call 35; exact HA1.out _)))); refine wpQuiet_nil ?_; intro _ hwq; obtain ⟨xq, hwq2⟩ := hwq; subst hwq2)
            have hbq := hbk.trans (xq.kept.mono hbk.size)
            clear ct0 ct1 cx0 cx1 cx2 cx3 HA1 t0 t1 hbk hbx kr kfr
            go_wp2
            go_roundw
            case rel => exact ⟨k + 1, by congr 1, hlt, hbq, HN2⟩
            case measure => simp only [intOf]; omega
          | false =>
            have HBad : Keep (∀ X, Below wr.heap.size wr X → ApplyPost ts cs w (.returned (TreeV none ([] : List En).length 0 2)) (X.setCell ⟨g, 0, none⟩ (.slice none 0 0))) := ⟨fun X hX => ⟨[], 2, .inr ⟨hv.1, hv.2, .inl ⟨⟨cs[k], List.getElem_mem hlt, by rw [← hf1]; exact hsm⟩, rfl, rfl⟩⟩, ⟨none, 0, rfl, EL.nil _ _ _⟩, (hbx.trans (hX.mono hbx.size)).setCell (p := ⟨g, 0, none⟩) (by have := HS.out; show _ ≤ g; omega) _⟩⟩
            clear hf1
            by_cases h1 : f1.there = cs[k].old.there
            · by_cases h2 : f1.text.toList = cs[k].old.text.toList
              · by_cases h3 : f1.runs = cs[k].old.runs
                · exfalso
                  rw [Bool.eq_false_iff] at hsm
                  exact hsm (by simp [sameF, h1, h2, h3])
                · clear hsm
                  go_upto_region 6 with fail
                  (haveI := later_any; refine wp_region_later (by kernel_rfl) (by kernel_rfl) ?_; (repeat (go_big_quiet_step (first | (go_at_call 35; exact HA1.out _)))); refine wpQuiet_nil ?_; intro _ hwq; obtain ⟨xq, hwq2⟩ := hwq; subst hwq2)
                  have kq := cell_later xq.kept kr
                  have kfq : xq.world.frozen? ⟨g, 0, none⟩ = false := (xq.kept.frozen (p := ⟨g, 0, none⟩) HG.out).trans kfr
                  have HB : Keep (ApplyPost ts cs w (.returned (TreeV none ([] : List En).length 0 2)) (xq.world.setCell ⟨g, 0, none⟩ (.slice none 0 0))) := ⟨HBad.out xq.world xq.kept⟩
                  go_wp2
                  refine bodyPost_ret (v := TreeV none ([] : List En).length 0 2) ?_ rfl HB.out
                  go_light
                  simp [results, Try.results44, go_sem, TreeV, kq]
              · clear hsm
                go_upto_region 6 with fail
                (haveI := later_any; refine wp_region_later (by kernel_rfl) (by kernel_rfl) ?_; (repeat (go_big_quiet_step (first | (go_at_call 35; exact HA1.out _)))); refine wpQuiet_nil ?_; intro _ hwq; obtain ⟨xq, hwq2⟩ := hwq; subst hwq2)
                have kq := cell_later xq.kept kr
                have kfq : xq.world.frozen? ⟨g, 0, none⟩ = false := (xq.kept.frozen (p := ⟨g, 0, none⟩) HG.out).trans kfr
                have HB : Keep (ApplyPost ts cs w (.returned (TreeV none ([] : List En).length 0 2)) (xq.world.setCell ⟨g, 0, none⟩ (.slice none 0 0))) := ⟨HBad.out xq.world xq.kept⟩
                go_wp2
                refine bodyPost_ret (v := TreeV none ([] : List En).length 0 2) ?_ rfl HB.out
                go_light
                simp [results, Try.results44, go_sem, TreeV, kq]
            · clear hsm
              go_upto_region 6 with fail
              (haveI := later_any; refine wp_region_later (by kernel_rfl) (by kernel_rfl) ?_; (repeat (go_big_quiet_step (first | (go_at_call 35; exact HA1.out _)))); refine wpQuiet_nil ?_; intro _ hwq; obtain ⟨xq, hwq2⟩ := hwq; subst hwq2)
              have kq := cell_later xq.kept kr
              have kfq : xq.world.frozen? ⟨g, 0, none⟩ = false := (xq.kept.frozen (p := ⟨g, 0, none⟩) HG.out).trans kfr
              have HB : Keep (ApplyPost ts cs w (.returned (TreeV none ([] : List En).length 0 2)) (xq.world.setCell ⟨g, 0, none⟩ (.slice none 0 0))) := ⟨HBad.out xq.world xq.kept⟩
              go_wp2
              refine bodyPost_ret (v := TreeV none ([] : List En).length 0 2) ?_ rfl HB.out
              go_light
              simp [results, Try.results44, go_sem, TreeV, kq]
        · obtain rfl : k = cs.length := by omega
          rw [List.take_length] at HSM
          have kr := cell_later hbk k0
          have kfr : wr.frozen? ⟨g, 0, none⟩ = false := (hbk.frozen (p := ⟨g, 0, none⟩) HS1.out).trans kf
          have HG : Keep (g < wr.heap.size) := ⟨Nat.lt_of_lt_of_le HS1.out hbk.size⟩
          have hcp := l5Copy_any a ca ts wr (hts.below hbx) hn hca
          go_wp2_with fail
          refine hcp.mono ?_
          rintro e w2 ⟨⟨ad2, cap2, rfl, hel2⟩, hb2⟩
          have hb3 : Below w2.heap.size w2 (w2.alloc (.cells #[.slice ad2 ts.length cap2] 25)) := (Below.refl _ _).alloc (Nat.le_refl _) _
          have o0 : (w2.alloc (.cells #[.slice ad2 ts.length cap2] 25)).cell? ⟨w2.heap.size, 0, none⟩ = some (.slice ad2 ts.length cap2) := by simp
          have of0 : (w2.alloc (.cells #[.slice ad2 ts.length cap2] 25)).frozen? ⟨w2.heap.size, 0, none⟩ = false := by simp
          have os0 : w2.heap.size < (w2.alloc (.cells #[.slice ad2 ts.length cap2] 25)).heap.size := by simp
          have hap := hel2.apart (ob := w2.heap.size) (.inr (Nat.le_refl _))
          obtain ⟨B0, hB0⟩ : ∃ B0, B0 = wr.heap.size := ⟨_, rfl⟩
          have hel3 : EL B0 (w2.alloc (.cells #[.slice ad2 ts.length cap2] 25)) ad2 ts := by rw [hB0]; exact hel2.below hb3
          have HB0 : Keep (g < B0 ∧ w.heap.size ≤ B0 ∧ B0 ≤ w2.heap.size) := ⟨by have := HG.out; have := hbx.size; have := hb2.size; omega⟩
          clear hB0
          have hbx2 := hbx.trans (hb2.mono hbx.size)
          have m1q := cell_later hb2 t1
          have k0q := cell_later hb2 kr
          have kfq : w2.frozen? ⟨g, 0, none⟩ = false := (hb2.frozen (p := ⟨g, 0, none⟩) HG.out).trans kfr
          have HG2 : Keep (g < w2.heap.size ∧ w.heap.size ≤ g) := ⟨⟨Nat.lt_of_lt_of_le HG.out hb2.size, by have := HS.out; omega⟩⟩
          have hA0 : AppRel ts (cs.take 0) ts := AppRel.start (valid_asc hv.1)
          have ht100 := hv.1.1
          have hc200 := hv.2.1
          have hCK := ap_asc hv.2
          clear hel2 hb2 hcp kr kfr HG t0 t1 hbk hbx
          go_wp2
          generalize w2.alloc (.cells #[.slice ad2 ts.length cap2] 25) = W2 at *
          obtain ⟨ob, hob⟩ : ∃ ob, ob = w2.heap.size := ⟨_, rfl⟩
          rw [← hob] at o0 of0 os0 hap ⊢
          have HOB : Keep (ob = w2.heap.size ∧ ob < W2.heap.size) := ⟨⟨hob, os0⟩⟩
          clear hob os0
          go_loopw [8] (fun i wq => ∃ (k : Nat) (ad : Option Addr) (cp : Nat) (us : List En), i = .int .i64 k ∧ k ≤ cs.length ∧ wq.cell? ⟨ob, 0, none⟩ = some (.slice ad us.length cp) ∧ wq.frozen? ⟨ob, 0, none⟩ = false ∧ EL B0 wq ad us ∧ (us = [] ∨ blk ad ≠ some ob) ∧ Below w2.heap.size w2 wq ∧ AppRel ts (cs.take k) us ∧ us.length ≤ ts.length + k ∧ ob < wq.heap.size) (fun i _ => cs.length - (intOf i).toNat)
          case atStart => exact ⟨0, ad2, cap2, ts, rfl, Nat.zero_le _, o0, of0, hel3, hap, hb3, hA0, Nat.le_refl _, HOB.out.2⟩
          case round =>
            clear o0 of0 hap hel3 hb3 hA0
            obtain ⟨k, ad, cp, us, rfl, hk, o0, of0, hel, hap, hbq, hAR, hul, hobq⟩ := hrel
            have t1 := cell_later hbq m1q
            have hbx3 := hbx2.trans (hbq.mono hbx2.size)
            by_cases hlt : k < cs.length
            · have hlt' : (k : Int) < cs.length := by omega
              obtain ⟨b1, o1, rfl, hc1⟩ := (hcs.below hbx3).at hlt
              obtain ⟨x0, _, _, _, x4, x5, x6⟩ := hc1 k hlt
              have hly := l6Lay_any ad cp us cs[k].path cs[k].new wr.drew (hel.es.below ((Below.refl _ _).drew)) (by omega) hAR.asc
              have HE : Keep (∀ (ad3 : Option Addr) (cp3 : Nat) (vs : List En) (X : World), LayRel us cs[k].path cs[k].new vs → EL wr.heap.size X ad3 vs → Below wr.heap.size wr X → vs.length ≤ us.length + 1 → (X.setCell ⟨ob, 0, none⟩ (.slice ad3 vs.length cp3)).cell? ⟨ob, 0, none⟩ = some (.slice ad3 vs.length cp3) ∧ (X.setCell ⟨ob, 0, none⟩ (.slice ad3 vs.length cp3)).frozen? ⟨ob, 0, none⟩ = false ∧ EL B0 (X.setCell ⟨ob, 0, none⟩ (.slice ad3 vs.length cp3)) ad3 vs ∧ (vs = [] ∨ blk ad3 ≠ some ob) ∧ Below w2.heap.size w2 (X.setCell ⟨ob, 0, none⟩ (.slice ad3 vs.length cp3)) ∧ AppRel ts (cs.take (k + 1)) vs ∧ vs.length ≤ ts.length + (k + 1) ∧ ob < (X.setCell ⟨ob, 0, none⟩ (.slice ad3 vs.length cp3)).heap.size) := ⟨fun ad3 cp3 vs X h1 h2 h3 h4 => by
                have hap3 := h2.apart (ob := ob) (.inl hobq)
                refine ⟨World.cell?_setCell_same _ _ _ (cell_later h3 o0), (World.frozen?_setCell _ _ _ _).trans ((h3.frozen (p := ⟨ob, 0, none⟩) hobq).trans of0), (h2.box hap3).mono (Nat.le_trans HB0.out.2.2 hbq.size), hap3, (hbq.trans (h3.mono hbq.size)).setCell (p := ⟨ob, 0, none⟩) (by have := HOB.out; show _ ≤ ob; omega) _, hAR.step hlt hCK h1, by omega, by have := h3.size; simp; omega⟩⟩
              go_upto_region 12 with fail
              refine (wpIn_wide (n := 0)).1 ?_
              refine wpIn_region_inv0 (by kernel_rfl) (by kernel_rfl) (fun T0 => YV T0 wr (.agg #[.slice ad us.length cp]) (.slice (some ⟨b1, o1, none⟩) cs.length cb) (.int .i64 k) tb b1 (o1 + k * 7) us cs[k].path cs[k].new (fun X => ∃ (ad3 : Option Addr) (cp3 : Nat) (vs : List En), X.cell? ⟨ob, 0, none⟩ = some (.slice ad3 vs.length cp3) ∧ X.frozen? ⟨ob, 0, none⟩ = false ∧ EL B0 X ad3 vs ∧ (vs = [] ∨ blk ad3 ≠ some ob) ∧ Below w2.heap.size w2 X ∧ AppRel ts (cs.take (k + 1)) vs ∧ vs.length ≤ ts.length + (k + 1) ∧ ob < X.heap.size)) ?_ ?_ ?_
              · exact ⟨Sl2.start _, fun _ => rfl, (fun h => by rw [getD_repl] at h; cases h), (fun h => by rw [getD_repl] at h; cases h)⟩
              · intro L a2 w9 hinv hall
                obtain ⟨ad3, cp3, vs, y1, y2, y3, y4, y5, y6, y7, y8⟩ := hinv.w3 (hall 14 (by decide))
                have HX : Keep _ := ⟨hinv.sl.act⟩
                clear hinv hall HE hly x0 x4 x5 x6 t1 o0 of0
                rw [HX.out]
                simp only [updL, yDs, List.contains_cons, List.contains_nil, Nat.reduceAdd, Nat.reduceBEq, Bool.or_false, cond_false, cond_true, Bool.or_true]
                go_wp2
                go_roundw
                case rel => exact ⟨k + 1, ad3, cp3, vs, by congr 1, hlt, y1, y2, y3, y4, y5, y6, y7, y8⟩
                case measure => simp only [intOf]; omega
              · intro L a2 w9 i o hinv hcl hL ho hdep
                have hi15 : i < 15 := (Array.getElem?_eq_some_iff.1 ho).1
                unfold wpOpIn
                rw [ho]
                have q13 : i < 13 → L.getD 13 false = false := fun hi => by
                  cases hb : L.getD 13 false with
                  | false => rfl
                  | true =>
                    exfalso
                    have d0 := hcl 13 _ rfl hb ⟨0, .data⟩ (by simp) rfl
                    have d6 := hcl 13 _ rfl hb ⟨6, .data⟩ (by simp) rfl
                    have d12 := hcl 13 _ rfl hb ⟨12, .data⟩ (by simp) rfl
                    have d5 := hcl 6 _ rfl d6 ⟨5, .data⟩ (by simp) rfl
                    have d4 := hcl 5 _ rfl d5 ⟨4, .data⟩ (by simp) rfl
                    have d3 := hcl 4 _ rfl d4 ⟨3, .data⟩ (by simp) rfl
                    have d2 := hcl 4 _ rfl d4 ⟨2, .data⟩ (by simp) rfl
                    have d1 := hcl 2 _ rfl d2 ⟨1, .data⟩ (by simp) rfl
                    have d11 := hcl 12 _ rfl d12 ⟨11, .data⟩ (by simp) rfl
                    have d10 := hcl 11 _ rfl d11 ⟨10, .data⟩ (by simp) rfl
                    have d9 := hcl 10 _ rfl d10 ⟨9, .data⟩ (by simp) rfl
                    have d8 := hcl 10 _ rfl d10 ⟨8, .data⟩ (by simp) rfl
                    have d7 := hcl 8 _ rfl d8 ⟨7, .data⟩ (by simp) rfl
                    have hf := getD_ft hL
                    match i, hi, hf with
                    | 0, _, hf => rw [d0] at hf; cases hf
                    | 1, _, hf => rw [d1] at hf; cases hf
                    | 2, _, hf => rw [d2] at hf; cases hf
                    | 3, _, hf => rw [d3] at hf; cases hf
                    | 4, _, hf => rw [d4] at hf; cases hf
                    | 5, _, hf => rw [d5] at hf; cases hf
                    | 6, _, hf => rw [d6] at hf; cases hf
                    | 7, _, hf => rw [d7] at hf; cases hf
                    | 8, _, hf => rw [d8] at hf; cases hf
                    | 9, _, hf => rw [d9] at hf; cases hf
                    | 10, _, hf => rw [d10] at hf; cases hf
                    | 11, _, hf => rw [d11] at hf; cases hf
                    | 12, _, hf => rw [d12] at hf; cases hf
                have q14 : L.getD 13 true = false → L.getD 14 false = false := fun h9 => by
                  cases hb : L.getD 14 false with
                  | false => rfl
                  | true => exfalso; have h := hcl 14 _ rfl hb ⟨13, .data⟩ (by simp) rfl; rw [getD_ft h9] at h; cases h
                clear hcl
                match i, hi15, hL, ho, hdep, q13 with
                | 0, _, hL, ho, hdep, q13 =>
                  injection ho with ho; subst ho
                  dsimp only
                  rw [if_pos (by rfl)]
                  refine ⟨fun f _ => trivial, ?_⟩
                  obtain rfl := hinv.w0 (q13 (by omega))
                  have e7 : a2.tmps[7]?.getD undef = .pointer (some ⟨ob, 0, none⟩) := hinv.sl.old (by decide)
                  go_simp
                  exact hinv.step (i := 0) rfl (by omega) rfl
                | 1, _, hL, ho, hdep, q13 =>
                  injection ho with ho; subst ho
                  dsimp only
                  rw [if_pos (by rfl)]
                  refine ⟨fun f _ => trivial, ?_⟩
                  obtain rfl := hinv.w0 (q13 (by omega))
                  have e3 : a2.tmps[3]?.getD undef = .pointer (some ⟨tb, 0, none⟩) := hinv.sl.old (by decide)
                  go_simp
                  exact hinv.step (i := 1) rfl (by omega) rfl
                | 2, _, hL, ho, hdep, q13 =>
                  injection ho with ho; subst ho
                  dsimp only
                  rw [if_pos (by rfl)]
                  refine ⟨fun f _ => trivial, ?_⟩
                  obtain rfl := hinv.w0 (q13 (by omega))
                  have e51 : a2.tmps[51]?.getD undef = .pointer (some ⟨tb, 0, none⟩) := hinv.sl.new (i := 1) (by decide) rfl (hdep ⟨1, .data⟩ (by simp) rfl)
                  go_simp
                  exact hinv.step (i := 2) rfl (by omega) rfl
                | 3, _, hL, ho, hdep, q13 =>
                  injection ho with ho; subst ho
                  dsimp only
                  rw [if_pos (by rfl)]
                  refine ⟨fun f _ => trivial, ?_⟩
                  obtain rfl := hinv.w0 (q13 (by omega))
                  have e8 : a2.tmps[8]?.getD undef = .int .i64 k := hinv.sl.old (by decide)
                  go_simp
                  exact hinv.step (i := 3) rfl (by omega) rfl
                | 4, _, hL, ho, hdep, q13 =>
                  injection ho with ho; subst ho
                  dsimp only
                  rw [if_pos (by rfl)]
                  refine ⟨fun f _ => trivial, ?_⟩
                  obtain rfl := hinv.w0 (q13 (by omega))
                  have e52 : a2.tmps[52]?.getD undef = .slice (some ⟨b1, o1, none⟩) cs.length cb := hinv.sl.new (i := 2) (by decide) rfl (hdep ⟨2, .data⟩ (by simp) rfl)
                  have e53 : a2.tmps[53]?.getD undef = .int .i64 k := hinv.sl.new (i := 3) (by decide) rfl (hdep ⟨3, .data⟩ (by simp) rfl)
                  go_simp
                  exact hinv.step (i := 4) rfl (by omega) rfl
                | 5, _, hL, ho, hdep, q13 =>
                  injection ho with ho; subst ho
                  dsimp only
                  rw [if_pos (by rfl)]
                  refine ⟨fun f _ => trivial, ?_⟩
                  obtain rfl := hinv.w0 (q13 (by omega))
                  have e54 : a2.tmps[54]?.getD undef = .pointer (some ⟨b1, o1 + k * 7, none⟩) := hinv.sl.new (i := 4) (by decide) rfl (hdep ⟨4, .data⟩ (by simp) rfl)
                  go_simp
                  exact hinv.step (i := 5) rfl (by omega) rfl
                | 6, _, hL, ho, hdep, q13 =>
                  injection ho with ho; subst ho
                  dsimp only
                  rw [if_pos (by rfl)]
                  refine ⟨fun f _ => trivial, ?_⟩
                  obtain rfl := hinv.w0 (q13 (by omega))
                  have e55 : a2.tmps[55]?.getD undef = .pointer (some ⟨b1, o1 + k * 7, none⟩) := hinv.sl.new (i := 5) (by decide) rfl (hdep ⟨5, .data⟩ (by simp) rfl)
                  go_simp
                  exact hinv.step (i := 6) rfl (by omega) rfl
                | 7, _, hL, ho, hdep, q13 =>
                  injection ho with ho; subst ho
                  dsimp only
                  rw [if_pos (by rfl)]
                  refine ⟨fun f _ => trivial, ?_⟩
                  obtain rfl := hinv.w0 (q13 (by omega))
                  have e3 : a2.tmps[3]?.getD undef = .pointer (some ⟨tb, 0, none⟩) := hinv.sl.old (by decide)
                  go_simp
                  exact hinv.step (i := 7) rfl (by omega) rfl
                | 8, _, hL, ho, hdep, q13 =>
                  injection ho with ho; subst ho
                  dsimp only
                  rw [if_pos (by rfl)]
                  refine ⟨fun f _ => trivial, ?_⟩
                  obtain rfl := hinv.w0 (q13 (by omega))
                  have e57 : a2.tmps[57]?.getD undef = .pointer (some ⟨tb, 0, none⟩) := hinv.sl.new (i := 7) (by decide) rfl (hdep ⟨7, .data⟩ (by simp) rfl)
                  go_simp
                  exact hinv.step (i := 8) rfl (by omega) rfl
                | 9, _, hL, ho, hdep, q13 =>
                  injection ho with ho; subst ho
                  dsimp only
                  rw [if_pos (by rfl)]
                  refine ⟨fun f _ => trivial, ?_⟩
                  obtain rfl := hinv.w0 (q13 (by omega))
                  have e8 : a2.tmps[8]?.getD undef = .int .i64 k := hinv.sl.old (by decide)
                  go_simp
                  exact hinv.step (i := 9) rfl (by omega) rfl
                | 10, _, hL, ho, hdep, q13 =>
                  injection ho with ho; subst ho
                  dsimp only
                  rw [if_pos (by rfl)]
                  refine ⟨fun f _ => trivial, ?_⟩
                  obtain rfl := hinv.w0 (q13 (by omega))
                  have e58 : a2.tmps[58]?.getD undef = .slice (some ⟨b1, o1, none⟩) cs.length cb := hinv.sl.new (i := 8) (by decide) rfl (hdep ⟨8, .data⟩ (by simp) rfl)
                  have e59 : a2.tmps[59]?.getD undef = .int .i64 k := hinv.sl.new (i := 9) (by decide) rfl (hdep ⟨9, .data⟩ (by simp) rfl)
                  go_simp
                  exact hinv.step (i := 10) rfl (by omega) rfl
                | 11, _, hL, ho, hdep, q13 =>
                  injection ho with ho; subst ho
                  dsimp only
                  rw [if_pos (by rfl)]
                  refine ⟨fun f _ => trivial, ?_⟩
                  obtain rfl := hinv.w0 (q13 (by omega))
                  have e60 : a2.tmps[60]?.getD undef = .pointer (some ⟨b1, o1 + k * 7, none⟩) := hinv.sl.new (i := 10) (by decide) rfl (hdep ⟨10, .data⟩ (by simp) rfl)
                  go_simp
                  exact hinv.step (i := 11) rfl (by omega) rfl
                | 12, _, hL, ho, hdep, q13 =>
                  injection ho with ho; subst ho
                  dsimp only
                  rw [if_pos (by rfl)]
                  refine ⟨fun f _ => trivial, ?_⟩
                  obtain rfl := hinv.w0 (q13 (by omega))
                  have e61 : a2.tmps[61]?.getD undef = .pointer (some ⟨b1, o1 + k * 7 + 4, none⟩) := hinv.sl.new (i := 11) (by decide) rfl (hdep ⟨11, .data⟩ (by simp) rfl)
                  go_simp
                  exact hinv.step (i := 12) rfl (by omega) rfl
                | 13, _, hL, ho, hdep, q13 =>
                  injection ho with ho; subst ho
                  dsimp only
                  rw [if_pos (by rfl)]
                  refine ⟨fun f _ => trivial, ?_⟩
                  obtain rfl := hinv.w0 (getD_ft hL)
                  have e50 : a2.tmps[50]?.getD undef = .agg #[.slice ad us.length cp] := hinv.sl.new (i := 0) (by decide) rfl (hdep ⟨0, .data⟩ (by simp) rfl)
                  have e56 : a2.tmps[56]?.getD undef = .string cs[k].path := hinv.sl.new (i := 6) (by decide) rfl (hdep ⟨6, .data⟩ (by simp) rfl)
                  have e62 : a2.tmps[62]?.getD undef = .agg #[.bool cs[k].new.there, .string cs[k].new.text, .bool cs[k].new.runs] := hinv.sl.new (i := 12) (by decide) rfl (hdep ⟨12, .data⟩ (by simp) rfl)
                  go_simp
                  refine ⟨rfl, CallsIn.mono (callsIn_wide.2 hly) ?_⟩
                  rintro e w' ⟨ad3, cp3, vs, rfl, h1, h2, h3, h4⟩
                  exact hinv.call rfl hL (q14 hL) h1 h2 ((Below.refl wr.heap.size wr).drew.trans (h3.mono (Nat.le_refl _))) h4
                | 14, _, hL, ho, hdep, q13 =>
                  injection ho with ho; subst ho
                  dsimp only
                  rw [if_pos (by rfl)]
                  refine ⟨fun f _ => trivial, ?_⟩
                  obtain ⟨ad3, cp3, vs, ex, h1, h2, h3, h4⟩ := hinv.w1 (hdep ⟨13, .data⟩ (by simp) rfl) (getD_ft hL)
                  have e63 := evalD2 ex
                  have e7 : a2.tmps[7]?.getD undef = .pointer (some ⟨ob, 0, none⟩) := hinv.sl.old (by decide)
                  have oc := cell_later h3 o0
                  have ofc : w9.frozen? ⟨ob, 0, none⟩ = false := (h3.frozen (p := ⟨ob, 0, none⟩) hobq).trans of0
                  go_simp
                  exact hinv.last (hdep ⟨13, .data⟩ (by simp) rfl) hL ⟨ad3, cp3, vs, HE.out ad3 cp3 vs w9 h1 h2 h3 h4⟩
            · obtain rfl : k = cs.length := by omega
              rw [List.take_length] at hAR
              have r2 := cell_later hbq k0q
              have rf2 : wr.frozen? ⟨g, 0, none⟩ = false := (hbq.frozen (p := ⟨g, 0, none⟩) HG2.out.1).trans kfq
              have hgl : g < wr.heap.size := Nat.lt_of_lt_of_le HG2.out.1 hbq.size
              have hst := specTree_any ad cp us wr hel.es (by omega)
              go_wp2_with fail
              refine hst.mono ?_
              rintro e w5 ⟨vb, rfl, hvb, hb5⟩
              have HVB : Keep (vb = true ↔ ValidTs us) := ⟨hvb⟩
              replace r2 := cell_later hb5 r2
              replace o0 := cell_later hb5 o0
              replace rf2 : w5.frozen? ⟨g, 0, none⟩ = false := (hb5.frozen (p := ⟨g, 0, none⟩) hgl).trans rf2
              have hbx5 := hbx3.trans (hb5.mono hbx3.size)
              have hap5 := hel.apart (ob := g) (.inl HB0.out.1)
              have hel5 := hel.below hb5
              cases vb with
              | false =>
                have hnv : ¬ ValidTs us := fun h => by have := HVB.out.2 h; cases this
                have HB : Keep (ApplyPost ts cs w (.returned (TreeV none ([] : List En).length 0 3)) (w5.setCell ⟨g, 0, none⟩ (.slice none 0 0))) := ⟨⟨[], 3, .inr ⟨hv.1, hv.2, .inr ⟨HSM.out, us, hAR, .inl ⟨hnv, rfl, rfl⟩⟩⟩, ⟨none, 0, rfl, EL.nil _ _ _⟩, hbx5.setCell (p := ⟨g, 0, none⟩) HG2.out.2 _⟩⟩
                clear hst hvb hel hel5 hAR hap hap5
                go_wp2
                refine bodyPost_ret (v := TreeV none ([] : List En).length 0 3) ?_ rfl HB.out
                go_light
                simp [results, Try.results44, go_sem, TreeV, r2]
              | true =>
                have hvv := HVB.out.1 rfl
                have HB : Keep (ApplyPost ts cs w (.returned (TreeV ad us.length cp 0)) (w5.setCell ⟨g, 0, none⟩ (.slice ad us.length cp))) := ⟨⟨us, 0, .inr ⟨hv.1, hv.2, .inr ⟨HSM.out, us, hAR, .inr ⟨hvv, rfl, rfl⟩⟩⟩, ⟨ad, cp, rfl, (hel5.box hap5).mono HB0.out.2.1⟩, hbx5.setCell (p := ⟨g, 0, none⟩) HG2.out.2 _⟩⟩
                clear hst hvb hel hel5 hAR hap hap5
                go_wp2
                refine bodyPost_ret (v := TreeV ad us.length cp 0) ?_ rfl HB.out
                go_light
                simp [results, Try.results44, go_sem, TreeV, r2]
end Go.Proofs.Ytjlflmbifeocbaa

namespace Go.Proofs.Ytjlflmbifeocbaa
open Go.RowKit

def addG (l : List ByteArray) (ps : List ByteArray) : List ByteArray := ps.foldl nameL l
theorem addG_take {l ps : List ByteArray} {j : Nat} (hj : j < ps.length) : addG l (ps.take (j + 1)) = nameL (addG l (ps.take j)) ps[j] := by
  unfold addG
  rw [List.take_succ_eq_append_getElem hj, List.foldl_append]
  rfl
theorem addG_len (l ps : List ByteArray) : ∀ j, j ≤ ps.length → (addG l (ps.take j)).length ≤ l.length + j
  | 0, _ => by simp [addG]
  | j + 1, hj => by
    have h := addG_len l ps j (by omega)
    rw [addG_take (by omega)]
    have := nameL_len (addG l (ps.take j)) ps[j]
    omega
theorem addG_asc {l : List ByteArray} (hl : AscN l) (ps : List ByteArray) : AscN (addG l ps) ∧ ∀ y, y ∈ addG l ps ↔ y ∈ l ∨ y ∈ ps := by
  have key : ∀ j, j ≤ ps.length → AscN (addG l (ps.take j)) ∧ ∀ y, y ∈ addG l (ps.take j) ↔ y ∈ l ∨ y ∈ ps.take j := by
    intro j
    induction j with
    | zero => intro _; exact ⟨by simpa [addG] using hl, fun y => by simp [addG]⟩
    | succ j ih =>
      intro hj
      obtain ⟨h1, h2⟩ := ih (by omega)
      rw [addG_take (by omega)]
      have h3 := nameL_asc (s := ps[j]) h1
      refine ⟨h3.1, fun y => ?_⟩
      rw [h3.2, h2, List.take_succ_eq_append_getElem (by omega), List.mem_append, List.mem_singleton, or_assoc]
  have := key ps.length (Nat.le_refl _)
  rwa [List.take_length] at this

def joinNs (p q : List Ch) : List ByteArray := addG (addG [] (p.map Ch.path)) (q.map Ch.path)
def outJ2 (n : ByteArray) : Option Ch → Option Ch → List Ch
  | none, y => [y.getD noCh]
  | some x, none => [x]
  | some x, some y => if sameF x.old y.new = true then [] else [⟨n, x.old, y.new⟩]
def clJ2 : Option Ch → Option Ch → Bool
  | some x, some y => !sameF x.new y.old
  | _, _ => false
def outJ (p q : List Ch) (n : ByteArray) : List Ch := outJ2 n (fnd Ch.path p n) (fnd Ch.path q n)
def clJ (p q : List Ch) (n : ByteArray) : Bool := clJ2 (fnd Ch.path p n) (fnd Ch.path q n)
theorem outJ2_len (n : ByteArray) (x y : Option Ch) : (outJ2 n x y).length ≤ 1 := by
  unfold outJ2
  split
  · simp
  · simp
  · split <;> simp
def joinN (p q : List Ch) (ns : List ByteArray) : List Ch := ns.flatMap (outJ p q)
theorem joinN_take {p q : List Ch} {ns : List ByteArray} {k : Nat} (hk : k < ns.length) : joinN p q (ns.take (k + 1)) = joinN p q (ns.take k) ++ outJ p q ns[k] := by
  unfold joinN
  rw [List.take_succ_eq_append_getElem hk, List.flatMap_append]
  simp
theorem outJ_len (p q : List Ch) (n : ByteArray) : (outJ p q n).length ≤ 1 := outJ2_len _ _ _
theorem joinN_len (p q : List Ch) : ∀ ns : List ByteArray, (joinN p q ns).length ≤ ns.length
  | [] => Nat.le_refl _
  | n :: ns => by
    have h := joinN_len p q ns
    have h1 := outJ_len p q n
    unfold joinN at h ⊢
    rw [List.flatMap_cons, List.length_append, List.length_cons]
    omega
theorem joinNs_len (p q : List Ch) : (joinNs p q).length ≤ p.length + q.length := by
  have h1 := addG_len [] (p.map Ch.path) (p.map Ch.path).length (Nat.le_refl _)
  have h2 := addG_len (addG [] (p.map Ch.path)) (q.map Ch.path) (q.map Ch.path).length (Nat.le_refl _)
  rw [List.take_length] at h1 h2
  simp only [List.length_map, List.length_nil] at h1 h2
  unfold joinNs
  omega
theorem joinNs_mem (p q : List Ch) : AscN (joinNs p q) ∧ ∀ n, n ∈ joinNs p q ↔ (∃ x ∈ p, Ch.path x = n) ∨ ∃ y ∈ q, Ch.path y = n := by
  have h1 := addG_asc (l := []) List.Pairwise.nil (p.map Ch.path)
  have h2 := addG_asc h1.1 (q.map Ch.path)
  refine ⟨h2.1, fun n => ?_⟩
  unfold joinNs
  rw [h2.2, h1.2]
  simp

def JoinRel (p q cs : List Ch) (ok : Bool) : Prop :=
  (¬ (ValidP p ∧ ValidP q) ∧ cs = [] ∧ ok = false) ∨ (ValidP p ∧ ValidP q ∧
    (((∃ n ∈ joinNs p q, clJ p q n = true) ∧ cs = [] ∧ ok = false) ∨
     ((∀ n ∈ joinNs p q, clJ p q n = false) ∧ ((200 < (joinN p q (joinNs p q)).length ∧ cs = [] ∧ ok = false) ∨ ((joinN p q (joinNs p q)).length ≤ 200 ∧ cs = joinN p q (joinNs p q) ∧ ok = true)))))
def JoinPost (p q : List Ch) (w : World) (e : Ending) (w' : World) : Prop :=
  ∃ cs ok, JoinRel p q cs ok ∧ (∃ ad cap, e = .returned (.tuple #[.agg #[.slice ad cs.length cap], .bool ok]) ∧ CL w.heap.size w' ad cs) ∧ Below w.heap.size w w'
theorem join_one {p q us vs : List Ch} {c d : Bool} (h : JoinRel p q us c) (h' : JoinRel p q vs d) : us = vs ∧ c = d := by
  rcases h with ⟨h1, rfl, rfl⟩ | ⟨h1, h2, h⟩
  · rcases h' with ⟨_, rfl, rfl⟩ | ⟨h3, h4, _⟩
    · exact ⟨rfl, rfl⟩
    · exact absurd ⟨h3, h4⟩ h1
  · rcases h' with ⟨h3, _⟩ | ⟨_, _, h'⟩
    · exact absurd ⟨h1, h2⟩ h3
    · rcases h with ⟨⟨n, hn, hc⟩, rfl, rfl⟩ | ⟨hn, h⟩
      · rcases h' with ⟨_, rfl, rfl⟩ | ⟨hn', _⟩
        · exact ⟨rfl, rfl⟩
        · rw [hn' n hn] at hc; cases hc
      · rcases h' with ⟨⟨n, hn', hc⟩, _⟩ | ⟨_, h'⟩
        · rw [hn n hn'] at hc; cases hc
        · rcases h with ⟨h5, rfl, rfl⟩ | ⟨h5, rfl, rfl⟩
          · rcases h' with ⟨_, rfl, rfl⟩ | ⟨h6, _⟩
            · exact ⟨rfl, rfl⟩
            · omega
          · rcases h' with ⟨h6, _⟩ | ⟨_, rfl, rfl⟩
            · omega
            · exact ⟨rfl, rfl⟩
theorem join_few {p q us : List Ch} {c : Bool} (h : JoinRel p q us c) : us.length ≤ 200 := by
  rcases h with ⟨_, rfl, _⟩ | ⟨_, _, ⟨_, rfl, _⟩ | ⟨_, ⟨_, rfl, _⟩ | ⟨h, rfl, _⟩⟩⟩
  · simp
  · simp
  · simp
  · exact h
end Go.Proofs.Ytjlflmbifeocbaa

namespace Go.Proofs.Ytjlflmbifeocbaa
open Go.RowKit

theorem sameF_iff {f g : Fl} : sameF f g = true ↔ f = g := by
  obtain ⟨f1, f2, f3⟩ := f
  obtain ⟨g1, g2, g3⟩ := g
  simp only [sameF, Bool.and_eq_true, beq_iff_eq, Fl.mk.injEq]
  constructor
  · rintro ⟨⟨rfl, h⟩, rfl⟩
    exact ⟨rfl, WideShapes.bytes_inj (by rw [← Lib.toList_data, ← Lib.toList_data]; exact h), rfl⟩
  · rintro ⟨rfl, rfl, rfl⟩; exact ⟨⟨rfl, rfl⟩, rfl⟩
theorem sameF_not {f g : Fl} : sameF f g = false ↔ f ≠ g := by
  rw [← Bool.not_eq_true, sameF_iff]
theorem at_mem {ts : List En} (h : Asc ts) {e : En} (he : e ∈ ts) : atL ts e.path = ⟨true, e.text, e.runs⟩ := by
  unfold atL
  cases hf : ts.find? (fun x => x.path.toList == e.path.toList) with
  | none =>
    rw [List.find?_eq_none] at hf
    exact absurd (eqb_iff.2 rfl) (hf e he)
  | some x =>
    have h1 : x ∈ ts := List.mem_of_find?_eq_some hf
    have h2 : x.path = e.path := eqb_iff.1 (by have h0 := List.find?_some hf; exact h0)
    have h3 : x = e := by
      obtain ⟨i, hi, rfl⟩ := List.getElem_of_mem h1
      obtain ⟨j, hj, rfl⟩ := List.getElem_of_mem he
      rcases Nat.lt_trichotomy i j with h' | h' | h'
      · exact absurd h2 (less_ne (List.pairwise_iff_getElem.1 h i j hi hj h'))
      · subst h'; rfl
      · exact absurd h2.symm (less_ne (List.pairwise_iff_getElem.1 h j i hj hi h'))
    rw [h3]
theorem at_cases (ts : List En) (p : ByteArray) : (atL ts p = noFl ∧ ∀ e ∈ ts, e.path ≠ p) ∨ ∃ e ∈ ts, e.path = p ∧ atL ts p = ⟨true, e.text, e.runs⟩ := by
  unfold atL
  cases hf : ts.find? (fun x => x.path.toList == p.toList) with
  | none =>
    rw [List.find?_eq_none] at hf
    exact .inl ⟨rfl, fun e he e' => hf e he (eqb_iff.2 e')⟩
  | some x => exact .inr ⟨x, List.mem_of_find?_eq_some hf, eqb_iff.1 (by have h0 := List.find?_some hf; exact h0), rfl⟩
theorem at_there {ts : List En} {p : ByteArray} (h : (atL ts p).there = true) : (⟨p, (atL ts p).text, (atL ts p).runs⟩ : En) ∈ ts := by
  rcases at_cases ts p with ⟨h1, _⟩ | ⟨e, h1, rfl, h2⟩
  · rw [h1] at h; cases h
  · rw [h2]; exact h1

/-- The paths at which two trees are not alike, of a list. -/
def diffNs (ts us : List En) (ns : List ByteArray) : List ByteArray := ns.filter fun p => !sameF (atL ts p) (atL us p)
theorem diffN_eq (ts us : List En) : ∀ ns : List ByteArray, diffN ts us ns = (diffNs ts us ns).map (diffC ts us)
  | [] => rfl
  | p :: ns => by
    have ih := diffN_eq ts us ns
    unfold diffN diffNs at ih ⊢
    rw [List.flatMap_cons, List.filter_cons, ih]
    cases sameF (atL ts p) (atL us p) <;> simp
theorem diffNs_unique {ts us : List En} {ns ms : List ByteArray} (h1 : AscN ns) (h2 : AscN ms) (h : ∀ p, sameF (atL ts p) (atL us p) = false → (p ∈ ns ↔ p ∈ ms)) : diffN ts us ns = diffN ts us ms := by
  rw [diffN_eq, diffN_eq]
  congr 1
  refine ascN_unique (List.Pairwise.filter _ h1) (List.Pairwise.filter _ h2) fun p => ?_
  unfold diffNs
  simp only [List.mem_filter, Bool.not_eq_true']
  exact ⟨fun ⟨h3, h4⟩ => ⟨(h p h4).1 h3, h4⟩, fun ⟨h3, h4⟩ => ⟨(h p h4).2 h3, h4⟩⟩
theorem paths_mem (ts us : List En) : AscN (pathsL [ts, us]) ∧ ∀ p, p ∈ pathsL [ts, us] ↔ (∃ e ∈ ts, e.path = p) ∨ ∃ e ∈ us, e.path = p := by
  have h1 := addP_asc (l := []) List.Pairwise.nil ts
  have h2 := addP_asc h1.1 us
  refine ⟨h2.1, fun p => ?_⟩
  show p ∈ addP (addP [] ts) us ↔ _
  rw [h2.2, h1.2]
  simp
theorem paths_differ {ts us : List En} {p : ByteArray} (h : sameF (atL ts p) (atL us p) = false) : (∃ e ∈ ts, e.path = p) ∨ ∃ e ∈ us, e.path = p := by
  rcases at_cases ts p with ⟨h1, _⟩ | ⟨e, h1, h2, _⟩
  · rcases at_cases us p with ⟨h3, _⟩ | ⟨e, h3, h4, _⟩
    · rw [h1, h3, sameF_iff.2 rfl] at h; cases h
    · exact .inr ⟨e, h3, h4⟩
  · exact .inl ⟨e, h1, h2⟩
theorem diff_mem {ts us : List En} (c : Ch) : c ∈ diffL ts us ↔ ∃ p, sameF (atL ts p) (atL us p) = false ∧ c = diffC ts us p := by
  unfold diffL
  rw [diffN_eq]
  unfold diffNs
  simp only [List.mem_map, List.mem_filter, Bool.not_eq_true']
  constructor
  · rintro ⟨p, ⟨_, h⟩, rfl⟩; exact ⟨p, h, rfl⟩
  · rintro ⟨p, h, rfl⟩; exact ⟨p, ⟨((paths_mem ts us).2 p).2 (paths_differ h), h⟩, rfl⟩
theorem diff_asc (ts us : List En) : AscK Ch.path (diffL ts us) := by
  unfold diffL
  rw [diffN_eq]
  exact List.Pairwise.map _ (fun _ _ h => h) (List.Pairwise.filter _ (paths_mem ts us).1)
theorem diff_len {ts us : List En} (h1 : ts.length ≤ 100) (h2 : us.length ≤ 100) : (diffL ts us).length ≤ 200 := by
  have h3 := diffN_len ts us (pathsL [ts, us])
  have h4 := addP_len [] ts ts.length (Nat.le_refl _)
  have h5 := addP_len (addP [] ts) us us.length (Nat.le_refl _)
  rw [List.take_length] at h4 h5
  have h6 : pathsL [ts, us] = addP (addP [] ts) us := rfl
  unfold diffL
  rw [h6] at h3 ⊢
  simp only [List.length_nil] at h4
  omega
theorem validP_mk {cs : List Ch} (h1 : cs.length ≤ 200) (h2 : ∀ c ∈ cs, chOk c = true) (h3 : AscK Ch.path cs) : ValidP cs :=
  ⟨h1, fun i hi => ⟨hi, h2 _ (List.getElem_mem hi), fun j hj hj' => List.pairwise_iff_getElem.1 h3 j i hj' hi (by omega)⟩⟩
theorem at_ok {ts : List En} (h : ValidTs ts) (p : ByteArray) : flOk (atL ts p) = true := by
  rcases at_cases ts p with ⟨h1, _⟩ | ⟨e, h1, _, h2⟩
  · rw [h1]
    have h2 : (⟨#[]⟩ : ByteArray).size ≤ 1500 := Nat.zero_le _
    simp [flOk, noFl, h2]
  · rw [h2]
    have h3 := valid_enF h h1
    simp only [enOk, Bool.and_eq_true, decide_eq_true_eq] at h3
    simp [flOk, h3.2]
theorem diff_valid {ts us : List En} (ht : ValidTs ts) (hu : ValidTs us) : ValidP (diffL ts us) := by
  refine validP_mk (diff_len ht.1 hu.1) (fun c hc => ?_) (diff_asc ts us)
  obtain ⟨p, h, rfl⟩ := (diff_mem c).1 hc
  have hp : pathOk pathB p = true := by
    rcases paths_differ h with ⟨e, he, rfl⟩ | ⟨e, he, rfl⟩
    · have h3 := valid_enF ht he
      simp only [enOk, Bool.and_eq_true] at h3
      exact h3.1
    · have h3 := valid_enF hu he
      simp only [enOk, Bool.and_eq_true] at h3
      exact h3.1
  simp only [chOk, diffC, Bool.and_eq_true, Bool.not_eq_true']
  exact ⟨⟨⟨hp, at_ok ht p⟩, at_ok hu p⟩, h⟩
theorem diff_app {ts us : List En} (ht : Asc ts) (hu : Asc us) : AppRel ts (diffL ts us) us := by
  refine ⟨hu, fun e => ?_⟩
  constructor
  · intro he
    have h1 := at_mem hu he
    cases hs : sameF (atL ts e.path) (atL us e.path) with
    | false => exact .inl ⟨diffC ts us e.path, (diff_mem _).2 ⟨_, hs, rfl⟩, by show (atL us e.path).there = true; rw [h1], by show e = ⟨e.path, (atL us e.path).text, (atL us e.path).runs⟩; rw [h1]⟩
    | true =>
      have h2 := sameF_iff.1 hs
      rw [h1] at h2
      have h3 := at_there (ts := ts) (p := e.path) (by rw [h2])
      rw [h2] at h3
      refine .inr ⟨h3, fun c hc e' => ?_⟩
      obtain ⟨p, h4, rfl⟩ := (diff_mem c).1 hc
      have e2 : p = e.path := e'
      rw [e2, hs] at h4
      cases h4
  · rintro (⟨c, hc, h1, rfl⟩ | ⟨h1, h2⟩)
    · obtain ⟨p, h4, rfl⟩ := (diff_mem c).1 hc
      exact at_there h1
    · have h3 := at_mem ht h1
      cases hs : sameF (atL ts e.path) (atL us e.path) with
      | false => exact absurd rfl (h2 _ ((diff_mem _).2 ⟨e.path, hs, rfl⟩))
      | true =>
        have h4 := sameF_iff.1 hs
        rw [h3] at h4
        have h5 := at_there (ts := us) (p := e.path) (by rw [← h4])
        rw [← h4] at h5
        exact h5
theorem diff_apply {ts us : List En} (ht : ValidTs ts) (hu : ValidTs us) : ApplyRel ts (diffL ts us) us 0 :=
  .inr ⟨ht, diff_valid ht hu, .inr ⟨fun x hx => by
    obtain ⟨p, _, rfl⟩ := (diff_mem x).1 hx
    exact sameF_iff.2 rfl, us, diff_app (valid_asc ht) (valid_asc hu), .inr ⟨hu, rfl, rfl⟩⟩⟩
theorem diff_self (ts : List En) : diffL ts ts = [] := by
  rw [List.eq_nil_iff_forall_not_mem]
  intro c hc
  obtain ⟨p, h, _⟩ := (diff_mem c).1 hc
  rw [sameF_iff.2 rfl] at h
  cases h
theorem flip_flip (cs : List Ch) : (cs.map flipC).map flipC = cs := by
  rw [List.map_map]
  conv => rhs; rw [← List.map_id cs]
  rfl
theorem diff_flip (ts us : List En) : (diffL ts us).map flipC = diffL us ts := by
  have h1 : diffN us ts (pathsL [us, ts]) = diffN us ts (pathsL [ts, us]) := diffNs_unique (paths_mem us ts).1 (paths_mem ts us).1 (fun p _ => by rw [(paths_mem us ts).2, (paths_mem ts us).2]; exact ⟨fun h => h.elim .inr .inl, fun h => h.elim .inr .inl⟩)
  unfold diffL
  rw [h1, diffN_eq, diffN_eq, List.map_map]
  have h2 : ∀ p, sameF (atL ts p) (atL us p) = sameF (atL us p) (atL ts p) := fun p => by
    rw [Bool.eq_iff_iff, sameF_iff, sameF_iff]
    exact ⟨fun h => h.symm, fun h => h.symm⟩
  unfold diffNs
  simp only [h2]
  rfl
theorem undo_diff {ts us : List En} (ht : ValidTs ts) (hu : ValidTs us) {cs : List Ch} (h : UndoRel (diffL ts us) cs) : cs = diffL us ts := by
  rcases h with ⟨_, rfl⟩ | ⟨h, _⟩
  · exact diff_flip ts us
  · exact absurd (diff_valid ht hu) h
theorem fnd_diff (ts us : List En) (n : ByteArray) : fnd Ch.path (diffL ts us) n = if sameF (atL ts n) (atL us n) = true then none else some (diffC ts us n) := by
  cases hf : fnd Ch.path (diffL ts us) n with
  | none =>
    split
    · rfl
    · rename_i h
      unfold fnd at hf
      rw [List.find?_eq_none] at hf
      exact absurd (eqb_iff.2 rfl) (hf _ ((diff_mem _).2 ⟨n, by simpa using h, rfl⟩))
  | some c =>
    obtain ⟨h1, h2⟩ := fnd_some hf
    obtain ⟨p, h3, rfl⟩ := (diff_mem c).1 h1
    have e2 : p = n := h2
    subst e2
    rw [h3]
    rfl
theorem join_diff {ts us vs : List En} : (∀ n, clJ (diffL ts us) (diffL us vs) n = false) ∧ joinN (diffL ts us) (diffL us vs) (joinNs (diffL ts us) (diffL us vs)) = diffL ts vs := by
  have hout : ∀ n ∈ joinNs (diffL ts us) (diffL us vs), outJ (diffL ts us) (diffL us vs) n = if sameF (atL ts n) (atL vs n) = true then [] else [diffC ts vs n] := by
    intro n hn
    unfold outJ
    rw [fnd_diff, fnd_diff]
    cases h1 : sameF (atL ts n) (atL us n) with
    | true =>
      have e1 := sameF_iff.1 h1
      cases h2 : sameF (atL us n) (atL vs n) with
      | true =>
        exfalso
        rcases ((joinNs_mem _ _).2 n).1 hn with ⟨c, hc, rfl⟩ | ⟨c, hc, rfl⟩
        · obtain ⟨p, h3, rfl⟩ := (diff_mem c).1 hc
          have h4 : sameF (atL ts p) (atL us p) = true := h1
          rw [h3] at h4; cases h4
        · obtain ⟨p, h3, rfl⟩ := (diff_mem c).1 hc
          have h4 : sameF (atL us p) (atL vs p) = true := h2
          rw [h3] at h4; cases h4
      | false =>
        rw [e1, h2]
        simp [outJ2, diffC, e1]
    | false =>
      cases h2 : sameF (atL us n) (atL vs n) with
      | true =>
        have e2 := sameF_iff.1 h2
        rw [← e2, h1]
        simp [outJ2, diffC, e2]
      | false =>
        simp only [Bool.false_eq_true, if_false, outJ2, diffC]
  refine ⟨fun n => ?_, ?_⟩
  · unfold clJ
    rw [fnd_diff, fnd_diff]
    split
    · rfl
    · split
      · rfl
      · show (!sameF (atL us n) (atL us n)) = false
        rw [sameF_iff.2 rfl]; rfl
  · have h1 : joinN (diffL ts us) (diffL us vs) (joinNs (diffL ts us) (diffL us vs)) = diffN ts vs (joinNs (diffL ts us) (diffL us vs)) := by
      unfold joinN diffN
      rw [List.flatMap_def, List.flatMap_def, List.map_congr_left hout]
    rw [h1]
    refine diffNs_unique (joinNs_mem _ _).1 (paths_mem ts vs).1 fun p hp => ?_
    constructor
    · exact fun _ => ((paths_mem ts vs).2 p).2 (paths_differ hp)
    · intro _
      rw [(joinNs_mem _ _).2]
      cases h1 : sameF (atL ts p) (atL us p) with
      | false => exact .inl ⟨diffC ts us p, (diff_mem _).2 ⟨p, h1, rfl⟩, rfl⟩
      | true =>
        refine .inr ⟨diffC us vs p, (diff_mem _).2 ⟨p, ?_, rfl⟩, rfl⟩
        rw [← sameF_iff.1 h1]
        exact hp
theorem join_diffs {ts us vs : List En} (ht : ValidTs ts) (hu : ValidTs us) (hv : ValidTs vs) : JoinRel (diffL ts us) (diffL us vs) (diffL ts vs) true :=
  .inr ⟨diff_valid ht hu, diff_valid hu hv, .inr ⟨fun n _ => join_diff.1 n, .inr ⟨by rw [join_diff.2]; exact diff_len ht.1 hv.1, join_diff.2.symm, rfl⟩⟩⟩
end Go.Proofs.Ytjlflmbifeocbaa

namespace Go.Proofs.Ytjlflmbifeocbaa
open Go.RowKit

theorem eval_put_same {a : Act} {d : Nat} {v : Value} (hd : d < a.tmps.size) : (a.put (some d) v).eval (.tmp d) = v := by
  show ((a.tmps.setIfInBounds d v).getD d undef) = v
  rw [Array.getD_eq_getD_getElem?, Array.getElem?_setIfInBounds_self_of_lt hd]
  rfl
theorem nodup_ne {ds : List Nat} (nd : ds.Nodup) {i j : Nat} (hi : i < ds.length) (hj : j < ds.length) (h : j ≠ i) : ds[j] ≠ ds[i] := fun e => by
  rcases Nat.lt_trichotomy j i with h1 | h1 | h1
  · exact List.pairwise_iff_getElem.1 nd j i hj hi h1 e
  · exact h h1
  · exact List.pairwise_iff_getElem.1 nd i j hi hj h1 e.symm
theorem getD_of_set {L : Array Bool} {i j : Nat} (h : (L.setIfInBounds i true).getD j false = true) (hne : j ≠ i) : L.getD j false = true := by
  rwa [getD_set_ne false (fun e => hne e.symm)] at h

structure EV0 (T0 : Array Value) (ds : List Nat) (tab : Nat → Option Value) (ex : Nat → Value → World → Prop) (W : World) (L : Array Bool) (a : Act) (w : World) : Prop where
  sl : Sl2 T0 ds tab L a
  wd : Below W.heap.size W w
  ex : ∀ i (h : i < ds.length), L.getD i false = true → ex i (a.eval (.tmp ds[i])) w
theorem EV0.step {T0 : Array Value} {ds : List Nat} {tab : Nat → Option Value} {ex : Nat → Value → World → Prop} {W : World} {L : Array Bool} {a : Act} {w w' : World} (h : EV0 T0 ds tab ex W L a w) (nd : ds.Nodup) (hst : ∀ i v w w', Below w.heap.size w w' → ex i v w → ex i v w') {i : Nat} {v : Value} (hi : i < ds.length) (hd : ds[i] < T0.size) (ht : ∀ u, tab i = some u → u = v) (he : ex i v w') (hb : Below w.heap.size w w') : EV0 T0 ds tab ex W (L.setIfInBounds i true) (a.put (some ds[i]) v) w' := by
  refine ⟨h.sl.put nd hi hd ht, h.wd.trans (hb.mono h.wd.size), fun j hj hL => ?_⟩
  by_cases e : j = i
  · subst e
    rw [eval_put_same (by rw [h.sl.sz]; exact hd)]
    exact he
  · rw [Act.eval_put (fun d hd' => by cases hd'; intro e'; injection e' with e'; exact nodup_ne nd hi hj e e')]
    exact hst j _ _ _ hb (h.ex j hj (getD_of_set hL e))

structure EVS (T0 : Array Value) (ds : List Nat) (tab : Nat → Option Value) (ex : Nat → Value → World → Prop) (W : World) (m : Nat) (E : World → Prop) (L : Array Bool) (a : Act) (w : World) : Prop where
  sl : Sl2 T0 ds tab L a
  wd : L.getD m false = false → Below W.heap.size W w
  ex : L.getD m false = false → ∀ i (h : i < ds.length), L.getD i false = true → ex i (a.eval (.tmp ds[i])) w
  fin : L.getD m false = true → E w
theorem EVS.step {T0 : Array Value} {ds : List Nat} {tab : Nat → Option Value} {ex : Nat → Value → World → Prop} {W : World} {m : Nat} {E : World → Prop} {L : Array Bool} {a : Act} {w w' : World} (h : EVS T0 ds tab ex W m E L a w) (nd : ds.Nodup) (hst : ∀ i v w w', Below w.heap.size w w' → ex i v w → ex i v w') {i : Nat} {v : Value} (hi : i < ds.length) (hd : ds[i] < T0.size) (hm : i ≠ m) (h0 : L.getD m false = false) (ht : ∀ u, tab i = some u → u = v) (he : ex i v w') (hb : Below w.heap.size w w') : EVS T0 ds tab ex W m E (L.setIfInBounds i true) (a.put (some ds[i]) v) w' := by
  have g : (L.setIfInBounds i true).getD m false = false := by rw [getD_set_ne false hm]; exact h0
  refine ⟨h.sl.put nd hi hd ht, fun _ => (h.wd h0).trans (hb.mono (h.wd h0).size), fun _ j hj hL => ?_, fun h1 => by rw [g] at h1; cases h1⟩
  by_cases e : j = i
  · subst e
    rw [eval_put_same (by rw [h.sl.sz]; exact hd)]
    exact he
  · rw [Act.eval_put (fun d hd' => by cases hd'; intro e'; injection e' with e'; exact nodup_ne nd hi hj e e')]
    exact hst j _ _ _ hb (h.ex h0 j hj (getD_of_set hL e))
theorem EVS.last {T0 : Array Value} {ds : List Nat} {tab : Nat → Option Value} {ex : Nat → Value → World → Prop} {W : World} {m : Nat} {E : World → Prop} {L : Array Bool} {a : Act} {w w' : World} (h : EVS T0 ds tab ex W m E L a w) (ht : tab m = none) (hL : L.getD m true = false) (hE : E w') : EVS T0 ds tab ex W m E (L.setIfInBounds m true) a w' := by
  have g : (L.setIfInBounds m true).getD m false = true := by
    have h1 := getD_false hL
    have h2 : m < L.size := by simpa using (List.getElem?_eq_some_iff.1 h1).1
    rw [Array.getD_eq_getD_getElem?, Array.getElem?_setIfInBounds_self_of_lt h2]
    rfl
  exact ⟨h.sl.skip ht, (fun h1 => by rw [g] at h1; cases h1), (fun h1 => by rw [g] at h1; cases h1), fun _ => hE⟩

/-- As EVS, with what stands of the world ('I') and how it goes on ('Rl') left open. -/
structure EVG (T0 : Array Value) (ds : List Nat) (tab : Nat → Option Value) (ex : Nat → Value → World → Prop) (I : Array Bool → World → Prop) (m : Nat) (E : World → Prop) (L : Array Bool) (a : Act) (w : World) : Prop where
  sl : Sl2 T0 ds tab L a
  wd : L.getD m false = false → I L w
  ex : L.getD m false = false → ∀ i (h : i < ds.length), L.getD i false = true → ex i (a.eval (.tmp ds[i])) w
  fin : L.getD m false = true → E w
theorem EVG.step {T0 : Array Value} {ds : List Nat} {tab : Nat → Option Value} {ex : Nat → Value → World → Prop} {I : Array Bool → World → Prop} {m : Nat} {E : World → Prop} {L : Array Bool} {a : Act} {w w' : World} (h : EVG T0 ds tab ex I m E L a w) (nd : ds.Nodup) (hst : ∀ i v, ex i v w → ex i v w') {i : Nat} {v : Value} (hi : i < ds.length) (hd : ds[i] < T0.size) (hm : i ≠ m) (h0 : L.getD m false = false) (ht : ∀ u, tab i = some u → u = v) (he : ex i v w') (hI : I (L.setIfInBounds i true) w') : EVG T0 ds tab ex I m E (L.setIfInBounds i true) (a.put (some ds[i]) v) w' := by
  have g : (L.setIfInBounds i true).getD m false = false := by rw [getD_set_ne false hm]; exact h0
  refine ⟨h.sl.put nd hi hd ht, fun _ => hI, fun _ j hj hL => ?_, fun h1 => by rw [g] at h1; cases h1⟩
  by_cases e : j = i
  · subst e
    rw [eval_put_same (by rw [h.sl.sz]; exact hd)]
    exact he
  · rw [Act.eval_put (fun d hd' => by cases hd'; intro e'; injection e' with e'; exact nodup_ne nd hi hj e e')]
    exact hst j _ (h.ex h0 j hj (getD_of_set hL e))
theorem EVG.last {T0 : Array Value} {ds : List Nat} {tab : Nat → Option Value} {ex : Nat → Value → World → Prop} {I : Array Bool → World → Prop} {m : Nat} {E : World → Prop} {L : Array Bool} {a : Act} {w w' : World} (h : EVG T0 ds tab ex I m E L a w) (ht : tab m = none) (hL : L.getD m true = false) (hE : E w') : EVG T0 ds tab ex I m E (L.setIfInBounds m true) a w' := by
  have g : (L.setIfInBounds m true).getD m false = true := by
    have h1 := getD_false hL
    have h2 : m < L.size := by simpa using (List.getElem?_eq_some_iff.1 h1).1
    rw [Array.getD_eq_getD_getElem?, Array.getElem?_setIfInBounds_self_of_lt h2]
    rfl
  exact ⟨h.sl.skip ht, (fun h1 => by rw [g] at h1; cases h1), (fun h1 => by rw [g] at h1; cases h1), fun _ => hE⟩
end Go.Proofs.Ytjlflmbifeocbaa

namespace Go.Proofs.Ytjlflmbifeocbaa
open Go.RowKit

/-- A tree in a box. -/
structure TBx (b : Nat) (ad : Option Addr) (cp : Nat) (ts : List En) (W : World) : Prop where
  c : W.cell? ⟨b, 0, none⟩ = some (.slice ad ts.length cp)
  es : ES W ad ts
theorem TBx.later {b : Nat} {ad : Option Addr} {cp : Nat} {ts : List En} {W W' : World} (h : TBx b ad cp ts W) (hb : Below W.heap.size W W') : TBx b ad cp ts W' := ⟨cell_later hb h.c, h.es.below hb⟩
theorem TBx.new {ad : Option Addr} {cp : Nat} {ts : List En} {W : World} (h : ES W ad ts) : TBx W.heap.size ad cp ts (W.alloc (.cells #[.slice ad ts.length cp] 25)) := ⟨by simp, h.below (below_oneD _ _)⟩

set_option maxRecDepth 20000 in
set_option maxHeartbeats 2000000 in
theorem wTree_any (a b : Option Addr) (ca cb : Nat) (ts : List En) (w : World) (ha : ES w a ts) (hb : ES w b ts) (hn : ts.length ≤ 1048576) :
    Calls Try.prog 12 #[.agg #[.slice a ts.length ca], .agg #[.slice b ts.length cb]] w fun e w' => e = .returned (.bool true) ∧ Below w.heap.size w w' := by
  have hal : Below w.heap.size w ((w.alloc (.cells #[.slice a ts.length ca] 25)).alloc (.cells #[.slice b ts.length cb] 25)) := ((Below.refl _ _).alloc (Nat.le_refl _) _).alloc (by simp) _
  have m0 : ((w.alloc (.cells #[.slice a ts.length ca] 25)).alloc (.cells #[.slice b ts.length cb] 25)).cell? ⟨w.heap.size, 0, none⟩ = some (.slice a ts.length ca) := by simp [go_sem]
  have n0 : ((w.alloc (.cells #[.slice a ts.length ca] 25)).alloc (.cells #[.slice b ts.length cb] 25)).cell? ⟨w.heap.size + 1, 0, none⟩ = some (.slice b ts.length cb) := by simp [go_sem]
  go_enter Try.func12, Try.ntmps12
  go_wp2
  generalize (w.alloc (.cells #[.slice a ts.length ca] 25)).alloc (.cells #[.slice b ts.length cb] 25) = W0 at *
  go_loopw [5] (fun i wr => ∃ k : Nat, i = .int .i64 k ∧ k ≤ ts.length ∧ Below W0.heap.size W0 wr) (fun i _ => ts.length - (intOf i).toNat)
  case atStart => exact ⟨0, rfl, Nat.zero_le _, Below.refl _ _⟩
  case round =>
    obtain ⟨k, rfl, hk, hB⟩ := hrel
    have M := cell_later hB m0
    have N := cell_later hB n0
    have hBw := hal.trans (hB.mono hal.size)
    by_cases hlt : k < ts.length
    · have hlt' : (k : Int) < ts.length := by omega
      obtain ⟨b1, o1, rfl, h1⟩ := (ha.below hBw).at hlt
      obtain ⟨b2, o2, rfl, h2⟩ := (hb.below hBw).at hlt
      obtain ⟨x0, x1, x2⟩ := h1 k hlt
      obtain ⟨y0, y1, y2⟩ := h2 k hlt
      clear h1 h2
      go_wp2
      go_quiet (fail)
      go_wp2
      go_roundw
      case rel => exact ⟨k + 1, by congr 1, hlt, below_drewN hB _⟩
      case measure => simp only [intOf]; omega
    · obtain rfl : k = ts.length := by omega
      go_wp2
      go_ret
      exact ⟨rfl, hBw⟩
end Go.Proofs.Ytjlflmbifeocbaa

namespace Go.Proofs.Ytjlflmbifeocbaa
open Go.RowKit

set_option maxRecDepth 20000 in
set_option maxHeartbeats 2000000 in
theorem wPatch_any (a b : Option Addr) (ca cb : Nat) (ts : List Ch) (w : World) (ha : CS w a ts) (hb : CS w b ts) (hn : ts.length ≤ 1048576) :
    Calls Try.prog 7 #[.agg #[.slice a ts.length ca], .agg #[.slice b ts.length cb]] w fun e w' => e = .returned (.bool true) ∧ Below w.heap.size w w' := by
  have hal : Below w.heap.size w ((w.alloc (.cells #[.slice a ts.length ca] 30)).alloc (.cells #[.slice b ts.length cb] 30)) := ((Below.refl _ _).alloc (Nat.le_refl _) _).alloc (by simp) _
  have m0 : ((w.alloc (.cells #[.slice a ts.length ca] 30)).alloc (.cells #[.slice b ts.length cb] 30)).cell? ⟨w.heap.size, 0, none⟩ = some (.slice a ts.length ca) := by simp [go_sem]
  have n0 : ((w.alloc (.cells #[.slice a ts.length ca] 30)).alloc (.cells #[.slice b ts.length cb] 30)).cell? ⟨w.heap.size + 1, 0, none⟩ = some (.slice b ts.length cb) := by simp [go_sem]
  go_enter Try.func7, Try.ntmps7
  go_wp2
  generalize (w.alloc (.cells #[.slice a ts.length ca] 30)).alloc (.cells #[.slice b ts.length cb] 30) = W0 at *
  go_loopw [5] (fun i wr => ∃ k : Nat, i = .int .i64 k ∧ k ≤ ts.length ∧ Below W0.heap.size W0 wr) (fun i _ => ts.length - (intOf i).toNat)
  case atStart => exact ⟨0, rfl, Nat.zero_le _, Below.refl _ _⟩
  case round =>
    obtain ⟨k, rfl, hk, hB⟩ := hrel
    have M := cell_later hB m0
    have N := cell_later hB n0
    have hBw := hal.trans (hB.mono hal.size)
    by_cases hlt : k < ts.length
    · have hlt' : (k : Int) < ts.length := by omega
      obtain ⟨b1, o1, rfl, h1⟩ := (ha.below hBw).at hlt
      obtain ⟨b2, o2, rfl, h2⟩ := (hb.below hBw).at hlt
      obtain ⟨x0, x1, x2, x3, x4, x5, x6⟩ := h1 k hlt
      obtain ⟨y0, y1, y2, y3, y4, y5, y6⟩ := h2 k hlt
      clear h1 h2
      go_wp2
      go_quiet (fail)
      go_wp2
      go_roundw
      case rel => exact ⟨k + 1, by congr 1, hlt, below_drewN hB _⟩
      case measure => simp only [intOf]; omega
    · obtain rfl : k = ts.length := by omega
      go_wp2
      go_ret
      exact ⟨rfl, hBw⟩
end Go.Proofs.Ytjlflmbifeocbaa

namespace Go.Proofs.Ytjlflmbifeocbaa
open Go.RowKit

def tTab (n q r : Nat) : Nat → Option Value
  | 0 => some (.int .i64 n)
  | 1 => some (.int .i64 (q : Int))
  | 3 => some (.int .i64 n)
  | 4 => some (.int .i64 (r : Int))
  | 5 => some (.int .i64 (48 + (r : Int)))
  | 6 => some (.int .u8 (48 + (r : Int)))
  | 8 => some (.string (strOfNums [48 + (r : Int)]))
  | _ => none
def tEx (r : Nat) : Nat → Value → World → Prop
  | 2 => fun v _ => ∃ s : ByteArray, v = .string s ∧ s.size = 1
  | 7 => fun v w => ∃ b, v = .slice (some ⟨b, 0, none⟩) 1 1 ∧ w.cell? ⟨b, 0, none⟩ = some (.int .u8 (48 + (r : Int)))
  | 9 => fun v _ => ∃ s : ByteArray, v = .string s ∧ s.size ≤ 2
  | 10 => fun v _ => ∃ s : ByteArray, v = .string s ∧ s.size ≤ 2
  | _ => fun _ _ => True
theorem tSt (r : Nat) : ∀ i v w w', Below w.heap.size w w' → tEx r i v w → tEx r i v w' := fun i v w w' hb h => by
  match i, h with
  | 2, h => exact h
  | 7, ⟨b, h1, h2⟩ => exact ⟨b, h1, cell_later hb h2⟩
  | 9, h => exact h
  | 10, h => exact h
  | 0, h | 1, h | 3, h | 4, h | 5, h | 6, h | 8, h => exact h
  | (_ + 11), h => exact h
def tDs : List Nat := [10, 11, 12, 13, 14, 15, 16, 17, 18, 19, 2]
theorem tNd : tDs.Nodup := by decide
theorem conv_at (x : Int) (w : World) (b : Nat) (h : w.cell? ⟨b, 0, none⟩ = some (.int .u8 x)) : (convert 22 9 (.slice (some ⟨b, 0, none⟩) 1 1)).run Try.prog w = .ok (.string (strOfNums [x])) w := by
  refine run_convert_bytes_arg _ 22 5 Try.underlying22 Try.underlying5 _ 0 1 1 [x] rfl ?_ 9 Try.underlying9
  intro i hi
  obtain rfl : i = 0 := by omega
  simpa using h

set_option maxRecDepth 100000 in
set_option maxHeartbeats 4000000 in
theorem dec2_any (n : Nat) (w : World) (hn : n < 100) :
    Calls Try.prog 27 #[.int .i64 (n : Int)] w fun e w' => ∃ s : ByteArray, e = .returned (.string s) ∧ s.size ≤ 2 ∧ Below w.heap.size w w' := by
  by_cases h10 : n < 10
  · refine (dec_any n w h10).mono ?_
    rintro e w' ⟨s, h1, h2, h3⟩
    exact ⟨s, h1, by omega, h3⟩
  · have hn' : ¬ (n : Int) < 10 := by omega
    obtain ⟨q, hq⟩ : ∃ q : Nat, (n : Int) / 10 = q := ⟨n / 10, by omega⟩
    obtain ⟨r, hr⟩ : ∃ r : Nat, (n : Int) % 10 = r := ⟨n % 10, by omega⟩
    have hq9 : q < 10 := by omega
    have hr9 : r < 10 := by omega
    have hd := fun W => dec_any q W hq9
    have w1 : IntKind.i64.wrap (q : Int) = q := by rw [IntKind.wrap_i64] <;> omega
    have w2 : IntKind.i64.wrap (48 + (r : Int)) = 48 + r := by rw [IntKind.wrap_i64] <;> omega
    have w3 : IntKind.u8.wrap (48 + (r : Int)) = 48 + r := by first | (rw [IntKind.wrap_u8] <;> omega) | (simp [IntKind.wrap]; omega) | (unfold IntKind.wrap; simp; omega)
    have hr2 : (n : Int).tmod 10 = r := by rw [← hr]; exact Int.tmod_eq_emod_of_nonneg (by omega)
    have hq2 : (n : Int).tdiv 10 = q := by rw [← hq]; exact Int.tdiv_eq_ediv_of_nonneg (by omega)
    go_enter Try.func27, Try.ntmps27
    go_upto_region 3 with fail
    refine (wpIn_wide (n := 0)).1 ?_
    refine wpIn_region_inv0 (by kernel_rfl) (by kernel_rfl) (fun T0 => EV0 T0 tDs (tTab n q r) (tEx r) w) ?_ ?_ ?_
    · exact ⟨Sl2.start _, (Below.refl _ _).drew, fun i _ hL => by rw [getD_repl] at hL; cases hL⟩
    · intro L a2 w9 hinv hall
      obtain ⟨s, hs1, hs2⟩ : ∃ s : ByteArray, a2.eval (.tmp 2) = .string s ∧ s.size ≤ 2 := hinv.ex 10 (by decide) (hall 10 (by decide))
      have e2 : a2.tmps.getD 2 undef = .string s := hs1
      have HXX : Keep _ := ⟨hinv.sl.act⟩
      have hb9 := hinv.wd
      clear hinv hall
      rw [HXX.out]
      simp only [updL, tDs, List.contains_cons, List.contains_nil, Nat.reduceAdd, Nat.reduceBEq, Bool.or_false, cond_false, cond_true, Bool.or_true, e2]
      go_wp2
      go_ret
      exact ⟨s, rfl, hs2, hb9⟩
    · intro L a2 w9 i o hinv hcl hL ho hdep
      have hi11 : i < 11 := (Array.getElem?_eq_some_iff.1 ho).1
      unfold wpOpIn
      rw [ho]
      clear hcl
      match i, hi11, hL, ho, hdep with
      | 0, _, hL, ho, hdep =>
        injection ho with ho; subst ho
        dsimp only
        rw [if_pos (by rfl)]
        refine ⟨fun f _ => trivial, ?_⟩
        have e0 : a2.tmps[0]?.getD undef = .int .i64 (n : Int) := hinv.sl.old (by decide)
        go_simp
        exact hinv.step tNd (tSt r) (i := 0) (by decide) (by show 10 < 20; decide) (fun u hu => by cases hu; rfl) trivial (Below.refl _ _)
      | 1, _, hL, ho, hdep =>
        injection ho with ho; subst ho
        dsimp only
        rw [if_pos (by rfl)]
        refine ⟨fun f _ => trivial, ?_⟩
        have e10 : a2.tmps[10]?.getD undef = .int .i64 (n : Int) := hinv.sl.new (i := 0) (by decide) rfl (hdep ⟨0, .data⟩ (by simp) rfl)
        go_simp
        exact hinv.step tNd (tSt r) (i := 1) (by decide) (by show 11 < 20; decide) (fun u hu => by cases hu; rfl) trivial (Below.refl _ _)
      | 2, _, hL, ho, hdep =>
        injection ho with ho; subst ho
        dsimp only
        rw [if_pos (by rfl)]
        refine ⟨fun f _ => trivial, ?_⟩
        have e11 : a2.tmps[11]?.getD undef = .int .i64 (q : Int) := hinv.sl.new (i := 1) (by decide) rfl (hdep ⟨1, .data⟩ (by simp) rfl)
        go_simp
        refine ⟨rfl, CallsIn.mono (callsIn_wide.2 (hd _)) ?_⟩
        rintro e' w' ⟨s, rfl, hs, hb'⟩
        exact hinv.step tNd (tSt r) (i := 2) (by decide) (by show 12 < 20; decide) (fun u hu => by cases hu) ⟨s, rfl, hs⟩ hb'
      | 3, _, hL, ho, hdep =>
        injection ho with ho; subst ho
        dsimp only
        rw [if_pos (by rfl)]
        refine ⟨fun f _ => trivial, ?_⟩
        have e0 : a2.tmps[0]?.getD undef = .int .i64 (n : Int) := hinv.sl.old (by decide)
        go_simp
        exact hinv.step tNd (tSt r) (i := 3) (by decide) (by show 13 < 20; decide) (fun u hu => by cases hu; rfl) trivial (Below.refl _ _)
      | 4, _, hL, ho, hdep =>
        injection ho with ho; subst ho
        dsimp only
        rw [if_pos (by rfl)]
        refine ⟨fun f _ => trivial, ?_⟩
        have e13 : a2.tmps[13]?.getD undef = .int .i64 (n : Int) := hinv.sl.new (i := 3) (by decide) rfl (hdep ⟨3, .data⟩ (by simp) rfl)
        go_simp
        exact hinv.step tNd (tSt r) (i := 4) (by decide) (by show 14 < 20; decide) (fun u hu => by cases hu; rfl) trivial (Below.refl _ _)
      | 5, _, hL, ho, hdep =>
        injection ho with ho; subst ho
        dsimp only
        rw [if_pos (by rfl)]
        refine ⟨fun f _ => trivial, ?_⟩
        have e14 : a2.tmps[14]?.getD undef = .int .i64 (r : Int) := hinv.sl.new (i := 4) (by decide) rfl (hdep ⟨4, .data⟩ (by simp) rfl)
        go_simp
        exact hinv.step tNd (tSt r) (i := 5) (by decide) (by show 15 < 20; decide) (fun u hu => by cases hu; rfl) trivial (Below.refl _ _)
      | 6, _, hL, ho, hdep =>
        injection ho with ho; subst ho
        dsimp only
        rw [if_pos (by rfl)]
        refine ⟨fun f _ => trivial, ?_⟩
        have e15 : a2.tmps[15]?.getD undef = .int .i64 (48 + (r : Int)) := hinv.sl.new (i := 5) (by decide) rfl (hdep ⟨5, .data⟩ (by simp) rfl)
        go_simp
        exact hinv.step tNd (tSt r) (i := 6) (by decide) (by show 16 < 20; decide) (fun u hu => by cases hu; rfl) trivial (Below.refl _ _)
      | 7, _, hL, ho, hdep =>
        injection ho with ho; subst ho
        dsimp only
        rw [if_pos (by rfl)]
        refine ⟨fun f _ => trivial, ?_⟩
        have e16 : a2.tmps[16]?.getD undef = .int .u8 (48 + (r : Int)) := hinv.sl.new (i := 6) (by decide) rfl (hdep ⟨6, .data⟩ (by simp) rfl)
        go_simp
        exact hinv.step tNd (tSt r) (i := 7) (by decide) (by show 17 < 20; decide) (fun u hu => by cases hu) ⟨w9.heap.size, rfl, by simp⟩ ((Below.refl _ _).alloc (Nat.le_refl _) _)
      | 8, _, hL, ho, hdep =>
        injection ho with ho; subst ho
        dsimp only
        rw [if_pos (by rfl)]
        refine ⟨fun f _ => trivial, ?_⟩
        obtain ⟨b7, h71, h72⟩ := hinv.ex 7 (by decide) (hdep ⟨7, .data⟩ (by simp) rfl)
        have e17 : a2.tmps[17]?.getD undef = .slice (some ⟨b7, 0, none⟩) 1 1 := evalD2 h71
        have hcv := conv_at _ w9 b7 h72
        go_simp
        exact hinv.step tNd (tSt r) (i := 8) (by decide) (by show 18 < 20; decide) (fun u hu => by cases hu; rfl) trivial (Below.refl _ _)
      | 9, _, hL, ho, hdep =>
        injection ho with ho; subst ho
        dsimp only
        rw [if_pos (by rfl)]
        refine ⟨fun f _ => trivial, ?_⟩
        obtain ⟨s, h21, h22⟩ := hinv.ex 2 (by decide) (hdep ⟨2, .data⟩ (by simp) rfl)
        have e12 : a2.tmps[12]?.getD undef = .string s := evalD2 h21
        have e18 : a2.tmps[18]?.getD undef = .string (strOfNums [48 + (r : Int)]) := hinv.sl.new (i := 8) (by decide) rfl (hdep ⟨8, .data⟩ (by simp) rfl)
        have hc3 : ¬ 9223372036854775807 < s.size + (strOfNums [48 + (r : Int)]).size := by rw [h22, strOfNums_size]; simp
        go_simp
        exact hinv.step tNd (tSt r) (i := 9) (by decide) (by show 19 < 20; decide) (fun u hu => by cases hu) ⟨_, rfl, by rw [ByteArray.size_append, h22]; first | omega | (rw [strOfNums_size]; simp)⟩ (Below.refl _ _)
      | 10, _, hL, ho, hdep =>
        injection ho with ho; subst ho
        dsimp only
        rw [if_pos (by rfl)]
        refine ⟨fun f _ => trivial, ?_⟩
        obtain ⟨s, h91, h92⟩ := hinv.ex 9 (by decide) (hdep ⟨9, .data⟩ (by simp) rfl)
        have e19 : a2.tmps[19]?.getD undef = .string s := evalD2 h91
        go_simp
        exact hinv.step tNd (tSt r) (i := 10) (by decide) (by show 2 < 20; decide) (fun u hu => by cases hu) ⟨s, rfl, h92⟩ (Below.refl _ _)
end Go.Proofs.Ytjlflmbifeocbaa

namespace Go.Proofs.Ytjlflmbifeocbaa
open Go.RowKit

/-- A tree: where its entries lie, their room. -/
structure Tr where
  ad : Option Addr
  cp : Nat
  ts : List En
def Tr.v (t : Tr) : Value := .slice t.ad t.ts.length t.cp
/-- A tree in a box b; its entries lie in no block of F. -/
structure TX (F : List Nat) (b : Nat) (t : Tr) (W : World) : Prop where
  c : W.cell? ⟨b, 0, none⟩ = some (.slice t.ad t.ts.length t.cp)
  f : W.frozen? ⟨b, 0, none⟩ = false
  el : EL 0 W t.ad t.ts
  ne : t.ts = [] ∨ ∀ k ∈ F, blk t.ad ≠ some k
  rm : t.ts.length ≤ t.cp
section
variable {F : List Nat} {b k : Nat} {t u : Tr} {W W' : World}
theorem TX.lt (h : TX F b t W) : b < W.heap.size := World.block_lt_of_cell? W ⟨b, 0, none⟩ h.c
theorem TX.later (h : TX F b t W) (hb : Below W.heap.size W W') : TX F b t W' :=
  ⟨cell_later hb h.c, (hb.frozen (p := ⟨b, 0, none⟩) h.lt).trans h.f, h.el.below hb, h.ne, h.rm⟩
theorem TX.grown (h : TX F b t W) (hg : W.grownBy W' (some k)) (hk : k ∈ F) (hb : b ≠ k) : TX F b t W' := by
  have hh := hg.block b h.lt (fun e => hb (by cases e; rfl))
  refine ⟨(World.cell?_of_block hh).trans h.c, frozen_of hh h.f, ?_, h.ne, h.rm⟩
  rcases h.ne with h0 | h0
  · rw [h0]; exact EL.nil _ _ _
  · exact h.el.grown hg (fun j hj _ _ e => by cases e; exact h0 k hk hj)
theorem TX.put (h : TX F b t W) (hb : b ∈ F) (he : EL 0 W u.ad u.ts) (hn : u.ts = [] ∨ ∀ k ∈ F, blk u.ad ≠ some k) (hr : u.ts.length ≤ u.cp) : TX F b u (W.setCell ⟨b, 0, none⟩ (.slice u.ad u.ts.length u.cp)) := by
  refine ⟨World.cell?_setCell_same _ _ _ h.c, (World.frozen?_setCell _ _ _ _).trans h.f, ?_, hn, hr⟩
  rcases hn with h0 | h0
  · rw [h0]; exact EL.nil _ _ _
  · exact he.grown (grown_set0 W b 0 _) (fun j hj _ _ e => by cases e; exact h0 b hb hj)
end
theorem EL.off {B : Nat} {W : World} {ad : Option Addr} {us : List En} {F : List Nat} (h : EL B W ad us) (hF : ∀ k ∈ F, k < B) : us = [] ∨ ∀ k ∈ F, blk ad ≠ some k := by
  rcases h with h | ⟨g, e, h1, _⟩
  · exact .inl h
  · refine .inr fun k hk e' => ?_
    rw [e] at e'
    have e2 : g = k := by simpa [blk] using e'
    have := hF k hk
    omega

theorem EL.btw {B : Nat} {W : World} {ad : Option Addr} {us : List En} (h : EL B W ad us) : us = [] ∨ ∃ k, blk ad = some k ∧ B ≤ k ∧ k < W.heap.size := by
  rcases h with h | ⟨g, e, h1, h2, _⟩
  · exact .inl h
  · exact .inr ⟨g, by rw [e]; rfl, h1, h2⟩
theorem TX.wide {F F' : List Nat} {b : Nat} {t : Tr} {W : World} (h : TX F b t W) {lo hi : Nat} (hn : t.ts = [] ∨ ∃ k, blk t.ad = some k ∧ lo ≤ k ∧ k < hi) (hF : ∀ k ∈ F', k < lo ∨ hi ≤ k) : TX F' b t W := ⟨h.c, h.f, h.el, by
  rcases hn with h0 | ⟨j, h1, h2, h3⟩
  · exact .inl h0
  · refine .inr fun k hk e => ?_
    rw [h1] at e
    cases e
    have := hF j hk
    omega, h.rm⟩
theorem TX.new {g : Nat} {t : Tr} {B : Nat} {W : World} (h : EL B W t.ad t.ts) (hB : g < B) (hr : t.ts.length ≤ t.cp) : TX [g] W.heap.size t (W.alloc (.cells #[.slice t.ad t.ts.length t.cp] 25)) := by
  have hba := below_oneD W (.cells #[.slice t.ad t.ts.length t.cp] 25)
  exact ⟨by simp, by simp, (h.mono (Nat.zero_le _)).below hba, h.off (fun k hk => by rw [List.mem_singleton.1 hk]; exact hB), hr⟩

def mF (r2 r3 r4 g b6 b7 b8 : Nat) : List Nat := [r2, r3, r4, g, b6, b7, b8]
structure M3 (w : World) (g r2 r3 r4 b6 b7 b8 : Nat) (a : Option Addr) (cap : Nat) (zs : List Int) (p : Nat) (t6 t7 t8 : Tr) (W : World) : Prop where
  rd : Rd W g a cap zs p
  bw : Below w.heap.size w W
  x6 : TX (mF r2 r3 r4 g b6 b7 b8) b6 t6 W
  x7 : TX (mF r2 r3 r4 g b6 b7 b8) b7 t7 W
  x8 : TX (mF r2 r3 r4 g b6 b7 b8) b8 t8 W
  c2 : W.cell? ⟨r2, 0, none⟩ = some (.slice none 0 0)
  f2 : W.frozen? ⟨r2, 0, none⟩ = false
  c3 : W.cell? ⟨r3, 0, none⟩ = some (.slice none 0 0)
  f3 : W.frozen? ⟨r3, 0, none⟩ = false
  c4 : W.cell? ⟨r4, 0, none⟩ = some (.slice none 0 0)
  f4 : W.frozen? ⟨r4, 0, none⟩ = false
  ord : w.heap.size ≤ r2 ∧ r2 < r3 ∧ r3 < r4 ∧ r4 < g ∧ g < b6 ∧ b6 < b7 ∧ b7 < b8
section
variable {w : World} {g r2 r3 r4 b6 b7 b8 : Nat} {a : Option Addr} {cap : Nat} {zs : List Int} {p p' : Nat} {t6 t7 t8 u : Tr} {W W' : World}
theorem M3.step (h : M3 w g r2 r3 r4 b6 b7 b8 a cap zs p t6 t7 t8 W) (hg : W.grownBy W' (some g)) (hR : Rd W' g a cap zs p') : M3 w g r2 r3 r4 b6 b7 b8 a cap zs p' t6 t7 t8 W' := by
  have o := h.ord
  have k2 := hg.block r2 (World.block_lt_of_cell? W ⟨r2, 0, none⟩ h.c2) (by simp; omega)
  have k3 := hg.block r3 (World.block_lt_of_cell? W ⟨r3, 0, none⟩ h.c3) (by simp; omega)
  have k4 := hg.block r4 (World.block_lt_of_cell? W ⟨r4, 0, none⟩ h.c4) (by simp; omega)
  exact ⟨hR, h.bw.grown hg h.bw.size (fun j e => by cases e; omega), h.x6.grown hg (by simp [mF]) (by omega), h.x7.grown hg (by simp [mF]) (by omega), h.x8.grown hg (by simp [mF]) (by omega), (World.cell?_of_block k2).trans h.c2, frozen_of k2 h.f2, (World.cell?_of_block k3).trans h.c3, frozen_of k3 h.f3, (World.cell?_of_block k4).trans h.c4, frozen_of k4 h.f4, o⟩
theorem M3.later (h : M3 w g r2 r3 r4 b6 b7 b8 a cap zs p t6 t7 t8 W) (hb : Below W.heap.size W W') : M3 w g r2 r3 r4 b6 b7 b8 a cap zs p t6 t7 t8 W' := h.step (gr_below hb) (h.rd.below hb)
theorem M3.rest (h : M3 w g r2 r3 r4 b6 b7 b8 a cap zs p t6 t7 t8 W) {k : Nat} (v : Value) (hk : k = b6 ∨ k = b7 ∨ k = b8) : Rd (W.setCell ⟨k, 0, none⟩ v) g a cap zs p ∧ Below w.heap.size w (W.setCell ⟨k, 0, none⟩ v) ∧ ((W.setCell ⟨k, 0, none⟩ v).cell? ⟨r2, 0, none⟩ = some (.slice none 0 0) ∧ (W.setCell ⟨k, 0, none⟩ v).frozen? ⟨r2, 0, none⟩ = false) ∧ ((W.setCell ⟨k, 0, none⟩ v).cell? ⟨r3, 0, none⟩ = some (.slice none 0 0) ∧ (W.setCell ⟨k, 0, none⟩ v).frozen? ⟨r3, 0, none⟩ = false) ∧ (W.setCell ⟨k, 0, none⟩ v).cell? ⟨r4, 0, none⟩ = some (.slice none 0 0) ∧ (W.setCell ⟨k, 0, none⟩ v).frozen? ⟨r4, 0, none⟩ = false := by
  have o := h.ord
  have hg : W.grownBy (W.setCell ⟨k, 0, none⟩ v) (some k) := grown_set0 W k 0 v
  have k2 := hg.block r2 (World.block_lt_of_cell? W ⟨r2, 0, none⟩ h.c2) (by simp; omega)
  have k3 := hg.block r3 (World.block_lt_of_cell? W ⟨r3, 0, none⟩ h.c3) (by simp; omega)
  have k4 := hg.block r4 (World.block_lt_of_cell? W ⟨r4, 0, none⟩ h.c4) (by simp; omega)
  exact ⟨h.rd.kept hg (fun j e => by cases e; omega), h.bw.setCell (p := ⟨k, 0, none⟩) (by show _ ≤ k; omega) _, ⟨(World.cell?_of_block k2).trans h.c2, frozen_of k2 h.f2⟩, ⟨(World.cell?_of_block k3).trans h.c3, frozen_of k3 h.f3⟩, (World.cell?_of_block k4).trans h.c4, frozen_of k4 h.f4⟩
theorem M3.all (h : M3 w g r2 r3 r4 b6 b7 b8 a cap zs p t6 t7 t8 W) : ∀ k ∈ mF r2 r3 r4 g b6 b7 b8, k < b8 + 1 := fun k hk => by
  have o := h.ord
  simp only [mF, List.mem_cons, List.not_mem_nil, or_false] at hk
  omega
theorem M3.put6 (h : M3 w g r2 r3 r4 b6 b7 b8 a cap zs p t6 t7 t8 W) (he : EL (b8 + 1) W u.ad u.ts) (hr : u.ts.length ≤ u.cp) : M3 w g r2 r3 r4 b6 b7 b8 a cap zs p u t7 t8 (W.setCell ⟨b6, 0, none⟩ (.slice u.ad u.ts.length u.cp)) := by
  obtain ⟨h1, h2, ⟨h3, h4⟩, ⟨h5, h6⟩, h7, h8⟩ := h.rest (.slice u.ad u.ts.length u.cp) (.inl rfl)
  have o := h.ord
  exact ⟨h1, h2, h.x6.put (by simp [mF]) (he.mono (Nat.zero_le _)) (he.off h.all) hr, h.x7.grown (grown_set0 _ _ _ _) (by simp [mF]) (by omega), h.x8.grown (grown_set0 _ _ _ _) (by simp [mF]) (by omega), h3, h4, h5, h6, h7, h8, o⟩
theorem M3.put7 (h : M3 w g r2 r3 r4 b6 b7 b8 a cap zs p t6 t7 t8 W) (he : EL (b8 + 1) W u.ad u.ts) (hr : u.ts.length ≤ u.cp) : M3 w g r2 r3 r4 b6 b7 b8 a cap zs p t6 u t8 (W.setCell ⟨b7, 0, none⟩ (.slice u.ad u.ts.length u.cp)) := by
  obtain ⟨h1, h2, ⟨h3, h4⟩, ⟨h5, h6⟩, h7, h8⟩ := h.rest (.slice u.ad u.ts.length u.cp) (.inr (.inl rfl))
  have o := h.ord
  exact ⟨h1, h2, h.x6.grown (grown_set0 _ _ _ _) (by simp [mF]) (by omega), h.x7.put (by simp [mF]) (he.mono (Nat.zero_le _)) (he.off h.all) hr, h.x8.grown (grown_set0 _ _ _ _) (by simp [mF]) (by omega), h3, h4, h5, h6, h7, h8, o⟩
theorem M3.put8 (h : M3 w g r2 r3 r4 b6 b7 b8 a cap zs p t6 t7 t8 W) (he : EL (b8 + 1) W u.ad u.ts) (hr : u.ts.length ≤ u.cp) : M3 w g r2 r3 r4 b6 b7 b8 a cap zs p t6 t7 u (W.setCell ⟨b8, 0, none⟩ (.slice u.ad u.ts.length u.cp)) := by
  obtain ⟨h1, h2, ⟨h3, h4⟩, ⟨h5, h6⟩, h7, h8⟩ := h.rest (.slice u.ad u.ts.length u.cp) (.inr (.inr rfl))
  have o := h.ord
  exact ⟨h1, h2, h.x6.grown (grown_set0 _ _ _ _) (by simp [mF]) (by omega), h.x7.grown (grown_set0 _ _ _ _) (by simp [mF]) (by omega), h.x8.put (by simp [mF]) (he.mono (Nat.zero_le _)) (he.off h.all) hr, h3, h4, h5, h6, h7, h8, o⟩
end
/-- What is handed back, or nothing yet. -/
def rcV (b : Bool) (t : Tr) : Value := bif b then .slice t.ad t.ts.length t.cp else .slice none 0 0
def zTab (t6 t7 t8 : Tr) : Nat → Option Value
  | 0 => some (.agg #[.slice t6.ad t6.ts.length t6.cp])
  | 1 => some (.agg #[.slice t7.ad t7.ts.length t7.cp])
  | 2 => some (.agg #[.slice t8.ad t8.ts.length t8.cp])
  | _ => none
def zDs : List Nat := [87, 88, 89, 1000, 1001, 1002]
theorem zNd : zDs.Nodup := by decide
structure RV3 (w : World) (g r2 r3 r4 b6 b7 b8 : Nat) (t6 t7 t8 : Tr) (T0 : Array Value) (L : Array Bool) (a : Act) (W : World) : Prop where
  sl : Sl2 T0 zDs (zTab t6 t7 t8) L a
  bw : Below w.heap.size w W
  x6 : TX (mF r2 r3 r4 g b6 b7 b8) b6 t6 W
  x7 : TX (mF r2 r3 r4 g b6 b7 b8) b7 t7 W
  x8 : TX (mF r2 r3 r4 g b6 b7 b8) b8 t8 W
  c2 : W.cell? ⟨r2, 0, none⟩ = some (rcV (L.getD 3 false) t6)
  f2 : W.frozen? ⟨r2, 0, none⟩ = false
  c3 : W.cell? ⟨r3, 0, none⟩ = some (rcV (L.getD 4 false) t7)
  f3 : W.frozen? ⟨r3, 0, none⟩ = false
  c4 : W.cell? ⟨r4, 0, none⟩ = some (rcV (L.getD 5 false) t8)
  f4 : W.frozen? ⟨r4, 0, none⟩ = false
section
variable {w : World} {g r2 r3 r4 b6 b7 b8 : Nat} {t6 t7 t8 : Tr} {T0 : Array Value} {L : Array Bool} {a : Act} {W : World}
theorem RV3.step (h : RV3 w g r2 r3 r4 b6 b7 b8 t6 t7 t8 T0 L a W) {i : Nat} {v : Value} (hi : i < 3) (hd : 87 + i < T0.size) (ht : zTab t6 t7 t8 i = some v) : RV3 w g r2 r3 r4 b6 b7 b8 t6 t7 t8 T0 (L.setIfInBounds i true) (a.put (some (87 + i)) v) W := by
  have hlen : i < zDs.length := by show i < 6; omega
  have hds : zDs[i] = 87 + i := by
    match i, hi with
    | 0, _ | 1, _ | 2, _ => rfl
  have hsl := h.sl.put zNd hlen (by rw [hds]; exact hd) (v := v) (fun u' hu => by rw [ht] at hu; cases hu; rfl)
  rw [hds] at hsl
  refine ⟨hsl, h.bw, h.x6, h.x7, h.x8, ?_, h.f2, ?_, h.f3, ?_, h.f4⟩
  · rw [getD_set_ne false (by omega)]; exact h.c2
  · rw [getD_set_ne false (by omega)]; exact h.c3
  · rw [getD_set_ne false (by omega)]; exact h.c4
theorem RV3.st2 (h : RV3 w g r2 r3 r4 b6 b7 b8 t6 t7 t8 T0 L a W) (o : r2 < r3 ∧ r3 < r4 ∧ r4 < g ∧ g < b6 ∧ b6 < b7 ∧ b7 < b8 ∧ w.heap.size ≤ r2) (hL : L.getD 3 true = false) : RV3 w g r2 r3 r4 b6 b7 b8 t6 t7 t8 T0 (L.setIfInBounds 3 true) a (W.setCell ⟨r2, 0, none⟩ (.slice t6.ad t6.ts.length t6.cp)) := by
  have hg : W.grownBy (W.setCell ⟨r2, 0, none⟩ (.slice t6.ad t6.ts.length t6.cp)) (some r2) := grown_set0 W r2 0 _
  have gi : (L.setIfInBounds 3 true).getD 3 false = true := by
    have h1 := getD_false hL
    have h2 : 3 < L.size := by simpa using (List.getElem?_eq_some_iff.1 h1).1
    rw [Array.getD_eq_getD_getElem?, Array.getElem?_setIfInBounds_self_of_lt h2]
    rfl
  refine ⟨h.sl.skip rfl, h.bw.setCell (p := ⟨r2, 0, none⟩) (by show _ ≤ r2; omega) _, h.x6.grown hg (by simp [mF]) (by omega), h.x7.grown hg (by simp [mF]) (by omega), h.x8.grown hg (by simp [mF]) (by omega), ?_, (World.frozen?_setCell _ _ _ _).trans h.f2, ?_, (World.frozen?_setCell _ _ _ _).trans h.f3, ?_, (World.frozen?_setCell _ _ _ _).trans h.f4⟩
  · rw [gi]
    exact World.cell?_setCell_same _ _ _ h.c2
  · rw [getD_set_ne false (by omega)]
    exact (World.cell?_setCell_other _ _ _ _ (by intro e; have e2 := congrArg Addr.block e; have e3 : r2 = r3 := e2; omega)).trans h.c3
  · rw [getD_set_ne false (by omega)]
    exact (World.cell?_setCell_other _ _ _ _ (by intro e; have e2 := congrArg Addr.block e; have e3 : r2 = r4 := e2; omega)).trans h.c4
theorem RV3.st3 (h : RV3 w g r2 r3 r4 b6 b7 b8 t6 t7 t8 T0 L a W) (o : r2 < r3 ∧ r3 < r4 ∧ r4 < g ∧ g < b6 ∧ b6 < b7 ∧ b7 < b8 ∧ w.heap.size ≤ r2) (hL : L.getD 4 true = false) : RV3 w g r2 r3 r4 b6 b7 b8 t6 t7 t8 T0 (L.setIfInBounds 4 true) a (W.setCell ⟨r3, 0, none⟩ (.slice t7.ad t7.ts.length t7.cp)) := by
  have hg : W.grownBy (W.setCell ⟨r3, 0, none⟩ (.slice t7.ad t7.ts.length t7.cp)) (some r3) := grown_set0 W r3 0 _
  have gi : (L.setIfInBounds 4 true).getD 4 false = true := by
    have h1 := getD_false hL
    have h2 : 4 < L.size := by simpa using (List.getElem?_eq_some_iff.1 h1).1
    rw [Array.getD_eq_getD_getElem?, Array.getElem?_setIfInBounds_self_of_lt h2]
    rfl
  refine ⟨h.sl.skip rfl, h.bw.setCell (p := ⟨r3, 0, none⟩) (by show _ ≤ r3; omega) _, h.x6.grown hg (by simp [mF]) (by omega), h.x7.grown hg (by simp [mF]) (by omega), h.x8.grown hg (by simp [mF]) (by omega), ?_, (World.frozen?_setCell _ _ _ _).trans h.f2, ?_, (World.frozen?_setCell _ _ _ _).trans h.f3, ?_, (World.frozen?_setCell _ _ _ _).trans h.f4⟩
  · rw [getD_set_ne false (by omega)]
    exact (World.cell?_setCell_other _ _ _ _ (by intro e; have e2 := congrArg Addr.block e; have e3 : r3 = r2 := e2; omega)).trans h.c2
  · rw [gi]
    exact World.cell?_setCell_same _ _ _ h.c3
  · rw [getD_set_ne false (by omega)]
    exact (World.cell?_setCell_other _ _ _ _ (by intro e; have e2 := congrArg Addr.block e; have e3 : r3 = r4 := e2; omega)).trans h.c4
theorem RV3.st4 (h : RV3 w g r2 r3 r4 b6 b7 b8 t6 t7 t8 T0 L a W) (o : r2 < r3 ∧ r3 < r4 ∧ r4 < g ∧ g < b6 ∧ b6 < b7 ∧ b7 < b8 ∧ w.heap.size ≤ r2) (hL : L.getD 5 true = false) : RV3 w g r2 r3 r4 b6 b7 b8 t6 t7 t8 T0 (L.setIfInBounds 5 true) a (W.setCell ⟨r4, 0, none⟩ (.slice t8.ad t8.ts.length t8.cp)) := by
  have hg : W.grownBy (W.setCell ⟨r4, 0, none⟩ (.slice t8.ad t8.ts.length t8.cp)) (some r4) := grown_set0 W r4 0 _
  have gi : (L.setIfInBounds 5 true).getD 5 false = true := by
    have h1 := getD_false hL
    have h2 : 5 < L.size := by simpa using (List.getElem?_eq_some_iff.1 h1).1
    rw [Array.getD_eq_getD_getElem?, Array.getElem?_setIfInBounds_self_of_lt h2]
    rfl
  refine ⟨h.sl.skip rfl, h.bw.setCell (p := ⟨r4, 0, none⟩) (by show _ ≤ r4; omega) _, h.x6.grown hg (by simp [mF]) (by omega), h.x7.grown hg (by simp [mF]) (by omega), h.x8.grown hg (by simp [mF]) (by omega), ?_, (World.frozen?_setCell _ _ _ _).trans h.f2, ?_, (World.frozen?_setCell _ _ _ _).trans h.f3, ?_, (World.frozen?_setCell _ _ _ _).trans h.f4⟩
  · rw [getD_set_ne false (by omega)]
    exact (World.cell?_setCell_other _ _ _ _ (by intro e; have e2 := congrArg Addr.block e; have e3 : r4 = r2 := e2; omega)).trans h.c2
  · rw [getD_set_ne false (by omega)]
    exact (World.cell?_setCell_other _ _ _ _ (by intro e; have e2 := congrArg Addr.block e; have e3 : r4 = r3 := e2; omega)).trans h.c3
  · rw [gi]
    exact World.cell?_setCell_same _ _ _ h.c4
end
/-- What is known of a drawn tree. -/
def TQ (t : Tr) : Prop := t.ts.length ≤ 300 ∧ Tiny 1000 20000 t.ts
def DrawnM (w : World) (e : Ending) (w' : World) : Prop :=
  ∃ t6 t7 t8 : Tr, e = .returned (.tuple #[.agg #[.slice t6.ad t6.ts.length t6.cp], .agg #[.slice t7.ad t7.ts.length t7.cp], .agg #[.slice t8.ad t8.ts.length t8.cp]]) ∧ ES w' t6.ad t6.ts ∧ ES w' t7.ad t7.ts ∧ ES w' t8.ad t8.ts ∧ TQ t6 ∧ TQ t7 ∧ TQ t8 ∧ t6.ts.length ≤ t6.cp ∧ t7.ts.length ≤ t7.cp ∧ t8.ts.length ≤ t8.cp ∧ Below w.heap.size w w'
theorem Tiny.layRel {P T : Nat} {ts us : List En} {p : ByteArray} {f : Fl} (h : Tiny P T ts) (he : p.size ≤ P ∧ f.text.size ≤ T) (hs : LayRel ts p f us) : Tiny P T us := fun x hx => by
  rcases (hs.mem x).1 hx with ⟨_, rfl⟩ | ⟨h1, _⟩
  · exact he
  · exact h x h1
end Go.Proofs.Ytjlflmbifeocbaa

namespace Go.Proofs.Ytjlflmbifeocbaa
open Go.RowKit

theorem getD_put {L : Array Bool} {m : Nat} (hL : L.getD m true = false) : (L.setIfInBounds m true).getD m false = true := by
  have h1 := getD_false hL
  have h2 : m < L.size := by simpa using (List.getElem?_eq_some_iff.1 h1).1
  rw [Array.getD_eq_getD_getElem?, Array.getElem?_setIfInBounds_self_of_lt h2]
  rfl

/-- A region whose own operations only read. -/
structure QV (T0 : Array Value) (ds : List Nat) (tab : Nat → Option Value) (W : World) (L : Array Bool) (a : Act) (w : World) : Prop where
  sl : Sl2 T0 ds tab L a
  wd : Below W.heap.size W w
theorem QV.step {T0 : Array Value} {ds : List Nat} {tab : Nat → Option Value} {W : World} {L : Array Bool} {a : Act} {w w' : World} (h : QV T0 ds tab W L a w) (nd : ds.Nodup) {i : Nat} {v : Value} (hi : i < ds.length) (hd : ds[i] < T0.size) (ht : tab i = some v) (hb : Below w.heap.size w w') : QV T0 ds tab W (L.setIfInBounds i true) (a.put (some ds[i]) v) w' :=
  ⟨h.sl.put nd hi hd (fun u hu => by rw [ht] at hu; cases hu; rfl), h.wd.trans (hb.mono h.wd.size)⟩

/-- A region whose last operation (m) alone writes. -/
structure RX (T0 : Array Value) (ds : List Nat) (tab : Nat → Option Value) (W : World) (m : Nat) (E : World → Prop) (L : Array Bool) (a : Act) (w : World) : Prop where
  sl : Sl2 T0 ds tab L a
  wd : L.getD m false = false → Below W.heap.size W w
  fin : L.getD m false = true → E w
theorem RX.step {T0 : Array Value} {ds : List Nat} {tab : Nat → Option Value} {W : World} {m : Nat} {E : World → Prop} {L : Array Bool} {a : Act} {w w' : World} (h : RX T0 ds tab W m E L a w) (nd : ds.Nodup) {i : Nat} {v : Value} (hi : i < ds.length) (hd : ds[i] < T0.size) (hm : i ≠ m) (h0 : L.getD m false = false) (ht : tab i = some v) (hb : Below w.heap.size w w') : RX T0 ds tab W m E (L.setIfInBounds i true) (a.put (some ds[i]) v) w' := by
  have g : (L.setIfInBounds i true).getD m false = false := by rw [getD_set_ne false hm]; exact h0
  exact ⟨h.sl.put nd hi hd (fun u hu => by rw [ht] at hu; cases hu; rfl), fun _ => (h.wd h0).trans (hb.mono (h.wd h0).size), fun h1 => by rw [g] at h1; cases h1⟩
theorem RX.last {T0 : Array Value} {ds : List Nat} {tab : Nat → Option Value} {W : World} {m : Nat} {E : World → Prop} {L : Array Bool} {a : Act} {w w' : World} (h : RX T0 ds tab W m E L a w) (ht : tab m = none) (hL : L.getD m true = false) (hE : E w') : RX T0 ds tab W m E (L.setIfInBounds m true) a w' := by
  have g := getD_put hL
  exact ⟨h.sl.skip ht, (fun h1 => by rw [g] at h1; cases h1), fun _ => hE⟩

/-- The region that makes the round's change, the one that holds the files against each other. -/
def sTab (B : Nat) (e : En) : Nat → Option Value
  | 0 => some (.pointer (some ⟨B, 0, none⟩))
  | 1 => some (.string e.path)
  | 2 => some (.agg #[.string e.path, .string e.text, .bool e.runs])
  | 3 => some (.agg #[.bool (fileE e).there, .string (fileE e).text, .bool (fileE e).runs])
  | 4 => some (.agg #[.string e.path, .bool (fileE e).there, .string (fileE e).text, .bool (fileE e).runs, .bool (fileE e).there, .string (fileE e).text, .bool (fileE e).runs])
  | _ => none
def sDs : List Nat := [28, 29, 30, 31, 32, 1000]
theorem sNd : sDs.Nodup := by decide
def fTab (B : Nat) (e : En) (f : Fl) (nb : Bool) : Nat → Option Value
  | 0 => some (.agg #[.string e.path, .string e.text, .bool e.runs])
  | 1 => some (.agg #[.bool (fileE e).there, .string (fileE e).text, .bool (fileE e).runs])
  | 2 => some (.pointer (some ⟨B + 1, 1, none⟩))
  | 3 => some (.agg #[.bool f.there, .string f.text, .bool f.runs])
  | 4 => some (.bool nb)
  | _ => none
def fDs : List Nat := [33, 34, 35, 36, 37]
theorem fNd : fDs.Nodup := by decide

/-- The region that puts an entry behind. -/
def nTab (ob B : Nat) (v : Value) (p t : ByteArray) (r : Bool) : Nat → Option Value
  | 0 => some (.pointer (some ⟨ob, 0, none⟩))
  | 1 => some v
  | 2 => some (.pointer (some ⟨B + 1, 4, none⟩))
  | 3 => some (.agg #[.bool true, .string t, .bool r])
  | 4 => some (.pointer (some ⟨B + 1, 0, none⟩))
  | 5 => some (.string p)
  | 6 => some (.agg #[.string p, .string t, .bool r])
  | 9 => some (.pointer (some ⟨ob, 0, none⟩))
  | _ => none
def nDs : List Nat := [42, 43, 44, 45, 46, 47, 48, 49, 50, 51, 1000]
theorem nNd : nDs.Nodup := by decide
structure NV (T0 : Array Value) (ob B : Nat) (Wz X : World) (v : Value) (p t : ByteArray) (r : Bool) (us : List En) (L : Array Bool) (a : Act) (w : World) : Prop where
  sl : Sl2 T0 nDs (nTab ob B v p t r) L a
  w0 : L.getD 7 false = false → Below X.heap.size X w
  w1 : L.getD 7 false = true → L.getD 8 false = false → ∃ y : World, Below X.heap.size X y ∧ w = y.alloc (.cells #[.string p, .string t, .bool r] 57) ∧ a.eval (.tmp 49) = .slice (some ⟨y.heap.size, 0, none⟩) 1 1
  w2 : L.getD 8 false = true → L.getD 10 false = false → ∃ (W1 : World) (g2 cap : Nat), a.eval (.tmp 50) = .slice (some ⟨g2, 0, none⟩) (us.length + 1) cap ∧ Below X.heap.size X W1 ∧ w.ownsRow Wz.heap.size 57 3 (.slice (some ⟨g2, 0, none⟩) (us.length + 1) cap) (us.length + 1) (ecells us ++ ecell ⟨p, t, r⟩) ∧ W1.grownBy w v.ownBlock
  w3 : L.getD 10 false = true → ∃ v', OutSt ob Wz v' (us ++ [⟨p, t, r⟩]) w
theorem NV.below {T0 : Array Value} {ob B : Nat} {Wz X : World} {v : Value} {p t : ByteArray} {r : Bool} {us : List En} {L : Array Bool} {a : Act} {w : World} (h : NV T0 ob B Wz X v p t r us L a w) (h8 : L.getD 8 false = false) : Below X.heap.size X w := by
  cases h7 : L.getD 7 false with
  | false => exact h.w0 h7
  | true =>
    obtain ⟨y, hy, rfl, _⟩ := h.w1 h7 h8
    exact hy.alloc hy.size _
theorem NV.step {T0 : Array Value} {ob B : Nat} {Wz X : World} {v : Value} {p t : ByteArray} {r : Bool} {us : List En} {L : Array Bool} {a : Act} {w w' : World} (h : NV T0 ob B Wz X v p t r us L a w) {i : Nat} {u : Value} (hT : T0.size = 57) (hi : i < 10) (h7 : i ≠ 7) (h8 : i ≠ 8) (ht : nTab ob B v p t r i = some u)
    (hw : w' = w ∨ (Below w.heap.size w w' ∧ L.getD 7 false = false ∧ L.getD 8 false = false ∧ L.getD 10 false = false)) :
    NV T0 ob B Wz X v p t r us (L.setIfInBounds i true) (a.put (some (42 + i)) u) w' := by
  have hlen : i < nDs.length := by show i < 11; omega
  have hds : nDs[i] = 42 + i := by
    match i, hi with
    | 0, _ | 1, _ | 2, _ | 3, _ | 4, _ | 5, _ | 6, _ | 7, _ | 8, _ | 9, _ => rfl
  have hsl := h.sl.put nNd hlen (by rw [hds, hT]; omega) (v := u) (fun u' hu => by rw [ht] at hu; cases hu; rfl)
  rw [hds] at hsl
  have ev : ∀ k, k ≠ 42 + i → (a.put (some (42 + i)) u).eval (.tmp k) = a.eval (.tmp k) := fun k hk => Act.eval_put (fun d hd' => by cases hd'; intro e'; injection e' with e'; exact hk e')
  refine ⟨hsl, fun h1 => ?_, fun h1 h2 => ?_, fun h1 h2 => ?_, fun h1 => ?_⟩
  · rw [getD_set_ne false h7] at h1
    rcases hw with rfl | ⟨hb, _⟩
    · exact h.w0 h1
    · exact (h.w0 h1).trans (hb.mono (h.w0 h1).size)
  · rw [getD_set_ne false h7] at h1; rw [getD_set_ne false h8] at h2
    rcases hw with rfl | ⟨_, h3, _⟩
    · rw [ev 49 (by omega)]; exact h.w1 h1 h2
    · rw [h3] at h1; cases h1
  · rw [getD_set_ne false h8] at h1; rw [getD_set_ne false (by omega)] at h2
    rcases hw with rfl | ⟨_, _, h3, _⟩
    · rw [ev 50 (by omega)]; exact h.w2 h1 h2
    · rw [h3] at h1; cases h1
  · rw [getD_set_ne false (by omega)] at h1
    rcases hw with rfl | ⟨_, _, _, h3⟩
    · exact h.w3 h1
    · rw [h3] at h1; cases h1
theorem NV.build {T0 : Array Value} {ob B : Nat} {Wz X : World} {v : Value} {p t : ByteArray} {r : Bool} {us : List En} {L : Array Bool} {a : Act} {w : World} (h : NV T0 ob B Wz X v p t r us L a w) (hT : T0.size = 57) (h8 : L.getD 8 false = false) (h10 : L.getD 10 false = false) (hL : L.getD 7 true = false) :
    NV T0 ob B Wz X v p t r us (L.setIfInBounds 7 true) (a.put (some 49) (.slice (some ⟨w.heap.size, 0, none⟩) 1 1)) (w.alloc (.cells #[.string p, .string t, .bool r] 57)) := by
  have g := getD_put hL
  refine ⟨h.sl.put (i := 7) nNd (by decide) (show 49 < _ by rw [hT]; omega) (fun u hu => by cases hu), fun h1 => ?_, fun _ _ => ⟨w, h.w0 (getD_ft hL), rfl, ?_⟩, fun h1 _ => ?_, fun h1 => ?_⟩
  · rw [g] at h1; cases h1
  · show ((a.tmps.setIfInBounds 49 _).getD 49 undef) = _
    rw [Array.getD_eq_getD_getElem?, Array.getElem?_setIfInBounds_self_of_lt (by rw [h.sl.sz, hT]; omega)]
    rfl
  · rw [getD_set_ne false (by omega), h8] at h1; cases h1
  · rw [getD_set_ne false (by omega), h10] at h1; cases h1
theorem NV.app {T0 : Array Value} {ob B : Nat} {Wz X W1 : World} {v : Value} {p t : ByteArray} {r : Bool} {us : List En} {L : Array Bool} {a : Act} {w w' : World} (h : NV T0 ob B Wz X v p t r us L a w) (hT : T0.size = 57) (h7 : L.getD 7 false = true) (h10 : L.getD 10 false = false) (hL : L.getD 8 true = false) {g2 cap : Nat} (hX : Below X.heap.size X W1)
    (e2 : w'.ownsRow Wz.heap.size 57 3 (.slice (some ⟨g2, 0, none⟩) (us.length + 1) cap) (us.length + 1) (ecells us ++ ecell ⟨p, t, r⟩)) (e3 : W1.grownBy w' v.ownBlock) :
    NV T0 ob B Wz X v p t r us (L.setIfInBounds 8 true) (a.put (some 50) (.slice (some ⟨g2, 0, none⟩) (us.length + 1) cap)) w' := by
  have g := getD_put hL
  refine ⟨h.sl.put (i := 8) nNd (by decide) (show 50 < _ by rw [hT]; omega) (fun u hu => by cases hu), fun h1 => ?_, fun _ h2 => ?_, fun _ _ => ⟨W1, g2, cap, ?_, hX, e2, e3⟩, fun h1 => ?_⟩
  · rw [getD_set_ne false (by omega), h7] at h1; cases h1
  · rw [g] at h2; cases h2
  · show ((a.tmps.setIfInBounds 50 _).getD 50 undef) = _
    rw [Array.getD_eq_getD_getElem?, Array.getElem?_setIfInBounds_self_of_lt (by rw [h.sl.sz, hT]; omega)]
    rfl
  · rw [getD_set_ne false (by omega), h10] at h1; cases h1
theorem NV.last {T0 : Array Value} {ob B : Nat} {Wz X : World} {v : Value} {p t : ByteArray} {r : Bool} {us : List En} {L : Array Bool} {a : Act} {w w' : World} (h : NV T0 ob B Wz X v p t r us L a w) (h7 : L.getD 7 false = true) (h8 : L.getD 8 false = true) (hL : L.getD 10 true = false) (hE : ∃ v', OutSt ob Wz v' (us ++ [⟨p, t, r⟩]) w') :
    NV T0 ob B Wz X v p t r us (L.setIfInBounds 10 true) a w' := by
  have g := getD_put hL
  refine ⟨h.sl.skip rfl, fun h1 => ?_, fun _ h2 => ?_, fun _ h2 => ?_, fun _ => hE⟩
  · rw [getD_set_ne false (by omega), h7] at h1; cases h1
  · rw [getD_set_ne false (by omega), h8] at h2; cases h2
  · rw [g] at h2; cases h2
/-- An append, at a step of a region (RegV) in a round. -/
theorem wpIn_appendR {l n : Nat} {P : Program} {o : Oper} {a : Act} {w w' : World} {K : Act → World → Prop} {Q : Exit → Act → World → Prop} (s x : Operand) (t : TypeId) (ho : o.op = .call { callee := .builtin .append, args := #[s, x], argTypes := #[t, t] }) {v u v' : Value} (hs : a.eval s = v) (hx : a.eval x = u)
    (hr : (Builtin.append_ #[t, t] o.type #[v, u]).run P w = .ok v' w') (hK : K (a.put o.dst v') w') : o.wpIn (Fence.wide.inRound l) n P a w K Q := by
  refine ⟨fun f _ => trivial, ?_⟩
  show Oper.uponIn (Fence.wide.inRound l) n P o a K Q ((Oper.semAt (some l) a.eval o).run P w)
  rw [Oper.semAt_some l a.eval o (fun c e => by rw [ho] at e; cases e)]
  unfold execOp
  simp only [ho, resolve, invoke, builtin, Sem.run_bind, Sem.run_pure, Result.andThen_ok, List.map_toArray, List.map_cons, List.map_nil, hs, hx, hr]
  exact hK

theorem EBox.grown {b : Nat} {e : En} {W W' : World} {row : Option Nat} (h : EBox b e W) (hg : W.grownBy W' row) (hr : row ≠ some b) : EBox b e W' := by
  have hb := hg.block b (World.block_lt_of_cell? W ⟨b, 0, none⟩ h.c0) (fun e => hr e.symm)
  exact ⟨(World.cell?_of_block hb).trans h.c0, (World.cell?_of_block hb).trans h.c1, (World.cell?_of_block hb).trans h.c2⟩

/-- The change that a round goes by. -/
def chA (e : Option En) (c : Option Ch) : Ch := c.getD ⟨(e.getD zeroE).path, fileE (e.getD zeroE), fileE (e.getD zeroE)⟩
theorem sameF_self (f : Fl) : sameF f f = true := by simp [sameF]
theorem round_facts {ts : List En} {cs : List Ch} (ht : ValidTs ts) (hc : ValidP cs) {x : PEC} (hx : x ∈ mrgEC ts cs) :
    badA x.2.1 x.2.2 = !sameF (fileE (x.2.1.getD zeroE)) (chA x.2.1 x.2.2).old ∧
    outA zeroE x.2.1 x.2.2 = (if (chA x.2.1 x.2.2).new.there = true then [⟨(chA x.2.1 x.2.2).path, (chA x.2.1 x.2.2).new.text, (chA x.2.1 x.2.2).new.runs⟩] else []) ∧
    (chA x.2.1 x.2.2).path.size ≤ 1048576 ∧ (chA x.2.1 x.2.2).new.text.size ≤ 1048576 ∧
    (x.2.2 = none ∨ ∃ d, x.2.2 = some d ∧ (d.path.toList == ([] : List UInt8)) = false) := by
  have hsz : ∀ {s : ByteArray}, pathOk pathB s = true → s.size ≤ 1048576 := fun h => by have := pathOk_size h; omega
  have hd : ∀ d ∈ cs, (d.path.toList == ([] : List UInt8)) = false ∧ d.path.size ≤ 1048576 ∧ d.new.text.size ≤ 1048576 := fun d h => by
    obtain ⟨i, hi, rfl⟩ := List.getElem_of_mem h
    obtain ⟨_, h1, _⟩ := hc.2 i hi
    simp only [chOk, flOk, Bool.and_eq_true, decide_eq_true_eq, Bool.not_eq_true'] at h1
    obtain ⟨⟨⟨h1, h2, _⟩, h3, _⟩, h4⟩ := h1
    exact ⟨path_ne0 h1, hsz h1, by omega⟩
  rcases mrgEC_cases ht hc hx with ⟨d, h1, rfl, _⟩ | ⟨e, h1, rfl⟩ | ⟨e, h1, d, h2, h3, rfl⟩
  · exact ⟨rfl, outA_some _ _ _, (hd d h1).2.1, (hd d h1).2.2, .inr ⟨d, rfl, (hd d h1).1⟩⟩
  · have h2 := valid_enF ht h1
    simp only [enOk, Bool.and_eq_true, decide_eq_true_eq] at h2
    have h3 := fileE_some (valid_path ht h1)
    refine ⟨?_, ?_, hsz h2.1, ?_, .inl rfl⟩
    · show false = !sameF (fileE e) (fileE e)
      rw [sameF_self]; rfl
    · rw [outA_none]
      show [e] = if (fileE e).there = true then [⟨e.path, (fileE e).text, (fileE e).runs⟩] else []
      rw [h3]; rfl
    · show (fileE e).text.size ≤ _
      rw [h3]; show e.text.size ≤ _; omega
  · exact ⟨rfl, outA_some _ _ _, (hd d h2).2.1, (hd d h2).2.2, .inr ⟨d, rfl, (hd d h2).1⟩⟩
end Go.Proofs.Ytjlflmbifeocbaa

namespace Go.Proofs.Ytjlflmbifeocbaa
open Go.RowKit Go.Shelf

attribute [local go_sem] Oper.semAt_some

def ApI (wl : World) (ob : Nat) (pre : List PEC) (W : World) : Prop :=
  (∀ x ∈ pre, badA x.2.1 x.2.2 = false) ∧ ∃ Wz v, Wz.heap.size = wl.heap.size + 2 ∧ Below wl.heap.size wl Wz ∧ OutSt ob Wz v (outsA pre) W
def ApX (w : World) (g h : Nat) (pre : List PEC) (W : World) : Prop :=
  (∃ x ∈ pre, badA x.2.1 x.2.2 = true) ∧ Below w.heap.size w W ∧ W.cell? ⟨g, 0, none⟩ = some (.slice none 0 0) ∧ W.cell? ⟨h, 0, none⟩ = some (.int .i64 2)

/-- What Apply gives, its room besides. -/
def ApplyPostC (ts : List En) (cs : List Ch) (w : World) (e : Ending) (w' : World) : Prop :=
  ∃ us c, ApplyRel ts cs us c ∧ (∃ ad cap, e = .returned (TreeV ad us.length cap c) ∧ EL w.heap.size w' ad us ∧ us.length ≤ cap) ∧ Below w.heap.size w w'

set_option maxRecDepth 100000 in
set_option maxHeartbeats 40000000 in
theorem implApplyC_any (a b : Option Addr) (ca cb : Nat) (ps : List En) (qs : List Ch) (w : World) (hps : ES w a ps) (hqs : CS w b qs) (hn : ps.length ≤ 1048576) (hnb : qs.length ≤ 1048576) (hca : ps.length ≤ ca) (hcb : qs.length ≤ cb) (hz : ∀ c ∈ ps, c.path.size ≤ 1048576) (hzb : ∀ c ∈ qs, c.path.size ≤ 1048576) :
    Calls Try.prog 10 #[.agg #[.slice a ps.length ca], .agg #[.slice b qs.length cb]] w fun e w' => ApplyPostC ps qs w e w' := by
  have hal : Below w.heap.size w ((((w.alloc (.cells #[.slice a ps.length ca] 25)).alloc (.cells #[.slice b qs.length cb] 30)).alloc (.cells #[.slice none 0 0] 25)).alloc (.cells #[.int .i64 0] 3)) := ((((Below.refl _ _).alloc (Nat.le_refl _) _).alloc (by simp) _).alloc (by simp; omega) _).alloc (by simp; omega) _
  have m0 : ((((w.alloc (.cells #[.slice a ps.length ca] 25)).alloc (.cells #[.slice b qs.length cb] 30)).alloc (.cells #[.slice none 0 0] 25)).alloc (.cells #[.int .i64 0] 3)).cell? ⟨w.heap.size, 0, none⟩ = some (.slice a ps.length ca) := by simp [go_sem]
  have m1 : ((((w.alloc (.cells #[.slice a ps.length ca] 25)).alloc (.cells #[.slice b qs.length cb] 30)).alloc (.cells #[.slice none 0 0] 25)).alloc (.cells #[.int .i64 0] 3)).cell? ⟨w.heap.size + 1, 0, none⟩ = some (.slice b qs.length cb) := by simp [go_sem]
  have k0 : ((((w.alloc (.cells #[.slice a ps.length ca] 25)).alloc (.cells #[.slice b qs.length cb] 30)).alloc (.cells #[.slice none 0 0] 25)).alloc (.cells #[.int .i64 0] 3)).cell? ⟨w.heap.size + 1 + 1, 0, none⟩ = some (.slice none 0 0) := by simp [go_sem]
  have kf : ((((w.alloc (.cells #[.slice a ps.length ca] 25)).alloc (.cells #[.slice b qs.length cb] 30)).alloc (.cells #[.slice none 0 0] 25)).alloc (.cells #[.int .i64 0] 3)).frozen? ⟨w.heap.size + 1 + 1, 0, none⟩ = false := by simp [go_sem]
  have h0 : ((((w.alloc (.cells #[.slice a ps.length ca] 25)).alloc (.cells #[.slice b qs.length cb] 30)).alloc (.cells #[.slice none 0 0] 25)).alloc (.cells #[.int .i64 0] 3)).cell? ⟨w.heap.size + 1 + 1 + 1, 0, none⟩ = some (.int .i64 0) := by simp [go_sem]
  have hf : ((((w.alloc (.cells #[.slice a ps.length ca] 25)).alloc (.cells #[.slice b qs.length cb] 30)).alloc (.cells #[.slice none 0 0] 25)).alloc (.cells #[.int .i64 0] 3)).frozen? ⟨w.heap.size + 1 + 1 + 1, 0, none⟩ = false := by simp [go_sem]
  have os0 : w.heap.size + 1 + 1 + 1 < ((((w.alloc (.cells #[.slice a ps.length ca] 25)).alloc (.cells #[.slice b qs.length cb] 30)).alloc (.cells #[.slice none 0 0] 25)).alloc (.cells #[.int .i64 0] 3)).heap.size := by simp [go_sem]
  refine (callsIn_wide (n := 5)).1 ?_
  refine callsIn_of_wp_marks Try.func10 rfl trivial ?_ rfl
  simp only [Try.ntmps10, List.size_toArray, List.length_cons, List.length_nil, Nat.reduceAdd, Nat.reduceSub, Array.replicate_succ, Array.replicate_zero, List.push_toArray, List.append_toArray, List.nil_append, List.cons_append]
  gi_wp2_with fail
  refine ⟨trivial, ?_⟩
  refine (callsIn_wide.2 (implTree_any a ca ps _ (hps.below hal) hn hz)).mono ?_
  rintro e w1 ⟨vb, rfl, hvb, hb1⟩
  replace m0 := cell_later hb1 m0
  replace m1 := cell_later hb1 m1
  replace k0 := cell_later hb1 k0
  replace h0 := cell_later hb1 h0
  replace kf : w1.frozen? ⟨w.heap.size + 1 + 1, 0, none⟩ = false := (hb1.frozen (p := ⟨w.heap.size + 1 + 1, 0, none⟩) (by show w.heap.size + 1 + 1 < _; omega)).trans kf
  replace hf : w1.frozen? ⟨w.heap.size + 1 + 1 + 1, 0, none⟩ = false := (hb1.frozen (p := ⟨w.heap.size + 1 + 1 + 1, 0, none⟩) os0).trans hf
  have os1 : w.heap.size + 1 + 1 + 1 < w1.heap.size := Nat.lt_of_lt_of_le os0 hb1.size
  have hbw := hal.trans (hb1.mono hal.size)
  have HV : Keep (vb = true ↔ ValidTs ps) := ⟨hvb⟩
  clear hvb hb1 hal os0
  obtain ⟨ta, hta⟩ : ∃ x, x = w.heap.size := ⟨_, rfl⟩
  obtain ⟨tb, htb⟩ : ∃ x, x = w.heap.size + 1 := ⟨_, rfl⟩
  obtain ⟨g, hg⟩ : ∃ x, x = w.heap.size + 1 + 1 := ⟨_, rfl⟩
  obtain ⟨h, hh⟩ : ∃ x, x = w.heap.size + 1 + 1 + 1 := ⟨_, rfl⟩
  rw [← hh] at h0 hf ⊢
  rw [← hg] at k0 kf ⊢
  rw [← htb] at m1 ⊢
  rw [← hta] at m0 ⊢
  have HS : Keep (ta = w.heap.size ∧ tb = ta + 1 ∧ g = tb + 1 ∧ h = g + 1 ∧ h < w1.heap.size) := ⟨by omega⟩
  have hgh : ¬ g = h := by omega
  have hhg : ¬ h = g := by omega
  clear hta htb hg hh os1
  have HNO : Keep (∀ X : World, Below w.heap.size w X → ¬ (ValidTs ps ∧ ValidP qs) → ApplyPostC ps qs w (.returned (TreeV none ([] : List En).length 0 1)) ((X.setCell ⟨g, 0, none⟩ (.slice none 0 0)).setCell ⟨h, 0, none⟩ (.int .i64 1))) := ⟨fun X hX hnv => ⟨[], 1, .inl ⟨hnv, rfl, rfl⟩, ⟨none, 0, rfl, EL.nil _ _ _, Nat.le_refl _⟩, (hX.setCell (p := ⟨g, 0, none⟩) (by have := HS.out; show _ ≤ g; omega) _).setCell (p := ⟨h, 0, none⟩) (by have := HS.out; show _ ≤ h; omega) _⟩⟩
  cases vb with
  | false =>
    have hnv : ¬ (ValidTs ps ∧ ValidP qs) := fun h => by have := HV.out.2 h.1; cases this
    gi_wp2
    refine ⟨trivial, ?_⟩
    gi_wp2
    refine ⟨TreeV none ([] : List En).length 0 1, ?_, HNO.out _ hbw hnv⟩
    simp [results, Try.f10, go_sem, TreeV, k0, h0]
  | true =>
    have HVT : Keep (ValidTs ps) := ⟨HV.out.1 rfl⟩
    gi_wp2_with fail
    refine ⟨trivial, ?_⟩
    refine (callsIn_wide.2 (implPatch_any b cb qs _ (hqs.below hbw) hnb hzb)).mono ?_
    rintro e w2 ⟨vb, rfl, hvb, hb2⟩
    have HV2 : Keep (vb = true ↔ ValidP qs) := ⟨hvb⟩
    replace m0 := cell_later hb2 m0
    replace m1 := cell_later hb2 m1
    replace k0 := cell_later hb2 k0
    replace h0 := cell_later hb2 h0
    replace kf : w2.frozen? ⟨g, 0, none⟩ = false := (hb2.frozen (p := ⟨g, 0, none⟩) (by have := HS.out; show g < _; omega)).trans kf
    replace hf : w2.frozen? ⟨h, 0, none⟩ = false := (hb2.frozen (p := ⟨h, 0, none⟩) HS.out.2.2.2.2).trans hf
    have HS2 : Keep (ta = w.heap.size ∧ tb = ta + 1 ∧ g = tb + 1 ∧ h = g + 1 ∧ h < w2.heap.size) := ⟨by have := HS.out; have := hb2.size; omega⟩
    replace hbw := hbw.trans (hb2.mono hbw.size)
    clear hvb hb2 HS HV
    cases vb with
    | false =>
      have hnv : ¬ (ValidTs ps ∧ ValidP qs) := fun h => by have := HV2.out.2 h.2; cases this
      gi_wp2
      refine ⟨TreeV none ([] : List En).length 0 1, ?_, HNO.out _ hbw hnv⟩
      simp [results, Try.f10, go_sem, TreeV, k0, h0]
    | true =>
      have HVU : Keep (ValidP qs) := ⟨HV2.out.1 rfl⟩
      have hal2 : Below w2.heap.size w2 (w2.alloc (.cells #[.slice none 0 0] 25)) := (Below.refl _ _).alloc (Nat.le_refl _) _
      replace m0 := cell_later hal2 m0
      replace m1 := cell_later hal2 m1
      have ob0 : (((w2.alloc (.cells #[.slice none 0 0] 25)).alloc (.cells #[.slice a ps.length ca] 23)).alloc (.cells #[.slice b qs.length cb] 28)).cell? ⟨w2.heap.size, 0, none⟩ = some (.slice none 0 0) := by simp [go_sem]
      have of0 : (((w2.alloc (.cells #[.slice none 0 0] 25)).alloc (.cells #[.slice a ps.length ca] 23)).alloc (.cells #[.slice b qs.length cb] 28)).frozen? ⟨w2.heap.size, 0, none⟩ = false := by simp [go_sem]
      have ma : (((w2.alloc (.cells #[.slice none 0 0] 25)).alloc (.cells #[.slice a ps.length ca] 23)).alloc (.cells #[.slice b qs.length cb] 28)).cell? ⟨w2.heap.size + 1, 0, none⟩ = some (.slice a ps.length ca) := by simp [go_sem]
      have mb : (((w2.alloc (.cells #[.slice none 0 0] 25)).alloc (.cells #[.slice a ps.length ca] 23)).alloc (.cells #[.slice b qs.length cb] 28)).cell? ⟨w2.heap.size + 1 + 1, 0, none⟩ = some (.slice b qs.length cb) := by simp [go_sem]
      have wsz : (((w2.alloc (.cells #[.slice none 0 0] 25)).alloc (.cells #[.slice a ps.length ca] 23)).alloc (.cells #[.slice b qs.length cb] 28)).heap.size = w2.heap.size + 3 := by simp [go_sem]
      have hb3 : Below w2.heap.size w2 (((w2.alloc (.cells #[.slice none 0 0] 25)).alloc (.cells #[.slice a ps.length ca] 23)).alloc (.cells #[.slice b qs.length cb] 28)) := (((Below.refl _ _).alloc (Nat.le_refl _) _).alloc (by simp) _).alloc (by simp; omega) _
      gi_wp2_with (refine ⟨trivial, ?_⟩; gi_at_call 38; refine (callsIn_wide.2 (sideEC_any a b ps.length qs.length ca cb _)).mono ?_; rintro e w' ⟨rfl, rfl⟩)
      generalize hwl : (((w2.alloc (.cells #[.slice none 0 0] 25)).alloc (.cells #[.slice a ps.length ca] 23)).alloc (.cells #[.slice b qs.length cb] 28)) = wl at *
      clear hwl
      have hbl := hbw.trans (hb3.mono hbw.size)
      have kl := cell_later hb3 k0
      have hl0 := cell_later hb3 h0
      have kfl : wl.frozen? ⟨g, 0, none⟩ = false := (hb3.frozen (p := ⟨g, 0, none⟩) (by have := HS2.out; show g < _; omega)).trans kf
      have hfl : wl.frozen? ⟨h, 0, none⟩ = false := (hb3.frozen (p := ⟨h, 0, none⟩) HS2.out.2.2.2.2).trans hf
      obtain ⟨ob, hob⟩ : ∃ ob, ob = w2.heap.size := ⟨_, rfl⟩
      rw [← hob] at ob0 of0 ma mb wsz HS2 ⊢
      have HL : Keep (ta = w.heap.size ∧ tb = ta + 1 ∧ g = tb + 1 ∧ h = g + 1 ∧ h < ob ∧ wl.heap.size = ob + 3) := ⟨by have := HS2.out; omega⟩
      have hI0 : ∀ o1 o2, ApI wl ob [] ((wl.alloc o1).alloc o2) := fun o1 o2 => by
        have hb : Below wl.heap.size wl ((wl.alloc o1).alloc o2) := ((Below.refl _ _).alloc (Nat.le_refl _) _).alloc (by simp) _
        exact ⟨(fun x hx => by cases hx), _, _, by simp, hb, OutSt.start (cell_later hb ob0) ((hb.frozen (p := ⟨ob, 0, none⟩) (by show ob < _; omega)).trans of0) (by simp; omega)⟩
      clear hb3 hob k0 kf m0 m1 HS2 HV2 hbw hal2 h0 hf
      refine range_iter2 (sideEC_iter (ob + 1) (ob + 1 + 1) a b ca cb ps qs hca hcb hn hnb) (enters_of Try.func61 (by kernel_rfl) rfl) (n := 5) (by omega) rfl (fun x => rfl) (ApI wl ob) (ApX w g h)
        (fun pre W ⟨_, Wz, v, hz1, hz2, hst⟩ => ⟨hst.keep (cell_later hz2 ma) (by omega) (by omega), hst.keep (cell_later hz2 mb) (by omega) (by omega), hps.below (hst.below (hbl.trans (hz2.mono hbl.size)) (by have := HL.out; omega)), hqs.below (hst.below (hbl.trans (hz2.mono hbl.size)) (by have := HL.out; omega))⟩)
        (fun pre W W' ⟨hc, Wz, v, hz1, hz2, hst⟩ hb => ⟨hc, Wz, v, hz1, hz2, hst.later hb⟩)
        (fun pre W l o hl ⟨hc, Wz, v, hz1, hz2, hst⟩ => ⟨hc, Wz.putObj l o, v, by simpa using hz1, hz2.grown (row := some l) ⟨rfl, rfl, rfl, by simp, fun k _ hk => World.putObj_heap_other (fun e => hk (by rw [e]))⟩ hz2.size (fun j e => by cases e; omega), hst.putJ o (by omega) (by omega)⟩)
        (fun pre W l o hl ⟨hc, hb, c1, c2⟩ => ⟨hc, hb.grown (row := some l) ⟨rfl, rfl, rfl, by simp, fun k _ hk => World.putObj_heap_other (fun e => hk (by rw [e]))⟩ hb.size (fun j e => by cases e; have := HL.out; omega), (World.cell?_of_block (World.putObj_heap_other (fun e => by have := HL.out; have e2 : g = l := e; omega))).trans c1, (World.cell?_of_block (World.putObj_heap_other (fun e => by have := HL.out; have e2 : h = l := e; omega))).trans c2⟩) hI0
        (fun x B a' W => a' = { tmps := #[.agg #[.slice a ps.length ca], .agg #[.slice b qs.length cb], .pointer (some ⟨ta, 0, none⟩), .pointer (some ⟨tb, 0, none⟩), .pointer (some ⟨g, 0, none⟩), .pointer (some ⟨h, 0, none⟩), .pointer (some ⟨ob, 0, none⟩), .pointer (some ⟨B, 0, none⟩), .pointer (some ⟨B + 1, 0, none⟩), .agg #[.slice a ps.length ca], .bool true, .bool false, .bool false, .agg #[.slice b qs.length cb], .bool true, .bool false, .bool false, undef, .pointer (some ⟨ta, 0, none⟩), .slice a ps.length ca, .pointer (some ⟨tb, 0, none⟩), .slice b qs.length cb, .func (.func 61) #[] #[.pointer (some ⟨ob + 1, 0, none⟩), .pointer (some ⟨ob + 1 + 1, 0, none⟩)], cutEV (x.2.1.getD zeroE), cutCV (x.2.2.getD noCh), undef, undef, undef, undef, undef, undef, undef, undef, undef, undef, undef, undef, undef, undef, undef, undef, undef, undef, undef, undef, undef, undef, undef, undef, undef, undef, undef, undef, undef, undef, undef, undef], defers := [] } ∧ EBox B (x.2.1.getD zeroE) W ∧ CBox (B + 1) (x.2.2.getD noCh) W)
        (fun x B a' W l o hl ⟨h1, h2, h3⟩ => ⟨h1, h2.put o (by omega), h3.put o (by omega)⟩) ?assign ?body ?done ?stop
      case assign =>
        intro l x W K hK
        unfold yEC cutEV cutCV
        gi_wp2
        exact hK _ _ (((Below.refl _ _).alloc (Nat.le_refl _) _).alloc (by simp) _) ⟨rfl, ⟨by simp [go_sem], by simp [go_sem], by simp [go_sem]⟩, ⟨by simp [go_sem], by simp [go_sem], by simp [go_sem], by simp [go_sem], by simp [go_sem], by simp [go_sem], by simp [go_sem], fun j => by simp [go_sem], by simp [go_sem]⟩⟩
      case body =>
        rintro l pre x a' Wb W ⟨hnc, Wz, v, hz1, hz2, hst⟩ ⟨r, hr⟩ hB1 hbW ⟨rfl, hx, hy⟩
        have hul : (outsA pre).length ≤ 1048576 := by
          have h1 := outsA_len pre
          have h2 := congrArg List.length hr
          have h3 := mrg_lenA En.path Ch.path (ps.length + qs.length) ps qs
          have h4 := HVT.out.1
          have h5 := HVU.out.1
          simp only [List.length_append] at h2
          unfold mrgEC at h2
          omega
        have hmx : x ∈ mrgEC ps qs := by rw [hr]; simp
        have hvB1 : v.ownBlock ≠ some (Wb.heap.size + 1) := fun e => by have := hst.own_lt e; omega
        have st := hst.later hbW
        have HE : Keep (∀ v' w', badA x.2.1 x.2.2 = false → OutSt ob Wz v' (outsA pre ++ outA zeroE x.2.1 x.2.2) w' → TwoB wl.heap.size W w' ∧ ApI wl ob (pre ++ [x]) w') := ⟨fun v' w' hc h => ⟨⟨(h.grown.block _ (by omega) (fun e => by have := HL.out; cases e; omega)).trans (st.grown.block _ (by omega) (fun e => by have := HL.out; cases e; omega)).symm, (h.grown.block _ (by omega) (fun e => by have := HL.out; cases e; omega)).trans (st.grown.block _ (by omega) (fun e => by have := HL.out; cases e; omega)).symm⟩, (fun y hy => by
            rcases List.mem_append.1 hy with h' | h'
            · exact hnc y h'
            · rw [List.mem_singleton.1 h']; exact hc), Wz, v', hz1, hz2, by rw [outsA_snoc]; exact h⟩⟩
        have HR : Keep (∀ X, badA x.2.1 x.2.2 = true → OutSt ob Wz v (outsA pre) X → TwoB wl.heap.size W ((X.setCell ⟨g, 0, none⟩ (.slice none 0 0)).setCell ⟨h, 0, none⟩ (.int .i64 2)) ∧ ApX w g h (pre ++ [x]) ((X.setCell ⟨g, 0, none⟩ (.slice none 0 0)).setCell ⟨h, 0, none⟩ (.int .i64 2))) := ⟨fun X hc st' => by
          have hbk : ∀ k, k ≠ g → k ≠ h → ((X.setCell ⟨g, 0, none⟩ (.slice none 0 0)).setCell ⟨h, 0, none⟩ (.int .i64 2)).heap[k]? = X.heap[k]? := fun k h1 h2 => (Below.heap_setCell _ _ _ _ h2).trans (Below.heap_setCell _ _ _ _ h1)
          have kX := st'.keep (cell_later hz2 kl) (by have := HL.out; omega) (by have := HL.out; omega)
          have hX := st'.keep (cell_later hz2 hl0) (by have := HL.out; omega) (by have := HL.out; omega)
          refine ⟨⟨(hbk _ (by have := HL.out; omega) (by have := HL.out; omega)).trans ((st'.grown.block _ (by omega) (fun e => by have := HL.out; cases e; omega)).trans (st.grown.block _ (by omega) (fun e => by have := HL.out; cases e; omega)).symm), (hbk _ (by have := HL.out; omega) (by have := HL.out; omega)).trans ((st'.grown.block _ (by omega) (fun e => by have := HL.out; cases e; omega)).trans (st.grown.block _ (by omega) (fun e => by have := HL.out; cases e; omega)).symm)⟩, ⟨x, by simp, hc⟩, ?_, ?_, ?_⟩
          · exact ((st'.below (hbl.trans (hz2.mono hbl.size)) (by have := HL.out; omega)).setCell (p := ⟨g, 0, none⟩) (by have := HL.out; show _ ≤ g; omega) _).setCell (p := ⟨h, 0, none⟩) (by have := HL.out; show _ ≤ h; omega) _
          · exact (World.cell?_setCell_other _ _ _ _ (by intro e; exact hhg (congrArg Addr.block e))).trans (World.cell?_setCell_same _ _ _ kX)
          · exact World.cell?_setCell_same _ _ _ ((World.cell?_setCell_other _ _ _ _ (by intro e; exact hgh (congrArg Addr.block e))).trans hX)⟩
        have HK : Keep (∀ X, OutSt ob Wz v (outsA pre) X → (X.cell? ⟨g, 0, none⟩ = some (.slice none 0 0) ∧ X.cell? ⟨h, 0, none⟩ = some (.int .i64 0)) ∧ X.frozen? ⟨g, 0, none⟩ = false ∧ X.frozen? ⟨h, 0, none⟩ = false) := ⟨fun X st' => ⟨⟨st'.keep (cell_later hz2 kl) (by have := HL.out; omega) (by have := HL.out; omega), st'.keep (cell_later hz2 hl0) (by have := HL.out; omega) (by have := HL.out; omega)⟩, frozen_of (st'.grown.block g (by have := HL.out; omega) (fun e => by have := HL.out; cases e; omega)) ((hz2.frozen (p := ⟨g, 0, none⟩) (by have := HL.out; show g < _; omega)).trans kfl), frozen_of (st'.grown.block h (by have := HL.out; omega) (fun e => by have := HL.out; cases e; omega)) ((hz2.frozen (p := ⟨h, 0, none⟩) (by have := HL.out; show h < _; omega)).trans hfl)⟩⟩
        have HB : Keep (Wz.heap.size ≤ Wb.heap.size) := ⟨hst.grown.size⟩
        obtain ⟨hF1, hF2, hF3, hF4, hF5⟩ := round_facts HVT.out HVU.out hmx
        have HF1 : Keep (badA x.2.1 x.2.2 = !sameF (fileE (x.2.1.getD zeroE)) (chA x.2.1 x.2.2).old) := ⟨hF1⟩
        have HF2 : Keep (outA zeroE x.2.1 x.2.2 = (if (chA x.2.1 x.2.2).new.there = true then [⟨(chA x.2.1 x.2.2).path, (chA x.2.1 x.2.2).new.text, (chA x.2.1 x.2.2).new.runs⟩] else [])) := ⟨hF2⟩
        have HF5 : Keep ((x.2.2.getD noCh = noCh ∧ chA x.2.1 x.2.2 = ⟨(x.2.1.getD zeroE).path, fileE (x.2.1.getD zeroE), fileE (x.2.1.getD zeroE)⟩) ∨ (x.2.2.getD noCh = chA x.2.1 x.2.2 ∧ ((chA x.2.1 x.2.2).path.toList == ([] : List UInt8)) = false)) := ⟨by
          rcases hF5 with h5 | ⟨d, h5, h6⟩
          · exact .inl ⟨by rw [h5]; rfl, by unfold chA; rw [h5]; rfl⟩
          · exact .inr ⟨by unfold chA; rw [h5]; rfl, by unfold chA; rw [h5]; exact h6⟩⟩
        clear hst hbW hr hI0 ma mb of0 ob0 kl kfl hl0 hfl hbl hps hqs HNO hB1 wsz hmx hF1 hF2 hF5 hnc hz1 hz2
        generalize Wb.heap.size = B at *
        generalize x.2.1.getD zeroE = e at *
        generalize chA x.2.1 x.2.2 = c at *
        generalize x.2.2.getD noCh = c0 at *
        have hBn : ¬ B = B + 1 := by omega
        have hBn2 : ¬ B + 1 = B := by omega
        obtain ⟨nz, hnz⟩ : ∃ nz : Bool, (nz = true ∧ c0 = noCh ∧ c = ⟨e.path, fileE e, fileE e⟩) ∨ (nz = false ∧ c0 = c ∧ (c.path.toList == ([] : List UInt8)) = false) := by
          rcases HF5.out with ⟨h1, h2⟩ | ⟨h1, h2⟩
          · exact ⟨true, .inl ⟨rfl, h1, h2⟩⟩
          · exact ⟨false, .inr ⟨rfl, h1, h2⟩⟩
        have HNZ : Keep _ := ⟨hnz⟩
        clear hnz HF5
        have HX : Keep (EBox B e W) := ⟨hx⟩
        have HY : Keep (CBox (B + 1) c0 W) := ⟨hy⟩
        have HST : Keep (OutSt ob Wz v (outsA pre) W) := ⟨st⟩
        have a0 := hx.c0
        have a1 := hx.c1
        have a2 := hx.c2
        have b0 := hy.c0
        have b1 := hy.c1
        have b2 := hy.c2
        have b3 := hy.c3
        have b4 := hy.c4
        have b5 := hy.c5
        have b6 := hy.c6
        clear hx hy st
        gi_upto_region 7 with fail
        dsimp only
        gi_cut [27] from 28 (fun u wx => u = .bool nz ∧ wx = W)
        case first =>
          rcases HNZ.out with ⟨rfl, rfl, _⟩ | ⟨rfl, rfl, hp0⟩
          · replace b0 : W.cell? ⟨B + 1, 0, none⟩ = some (.string ⟨#[]⟩) := b0
            replace b1 : W.cell? ⟨B + 1, 1, none⟩ = some (.bool false) := b1
            replace b2 : W.cell? ⟨B + 1, 2, none⟩ = some (.string ⟨#[]⟩) := b2
            replace b3 : W.cell? ⟨B + 1, 3, none⟩ = some (.bool false) := b3
            replace b4 : W.cell? ⟨B + 1, 4, none⟩ = some (.bool false) := b4
            replace b5 : W.cell? ⟨B + 1, 5, none⟩ = some (.string ⟨#[]⟩) := b5
            replace b6 : W.cell? ⟨B + 1, 6, none⟩ = some (.bool false) := b6
            gi_wp2
            gi_meet
            case rel => exact ⟨rfl, rfl⟩
          · gi_wp2
            gi_meet
            case rel => exact ⟨rfl, rfl⟩
        case rest =>
          obtain ⟨rfl, rfl⟩ := hcut
          gi_upto_if 27 with fail
          gi_cut [] from 28 (fun wx => EBox B e wx ∧ CBox (B + 1) c wx ∧ OutSt ob Wz v (outsA pre) wx)
          case first =>
            rcases HNZ.out with ⟨rfl, rfl, rfl⟩ | ⟨rfl, rfl, hp0⟩
            · have a2c := a2
              clear a2
              gi_upto_region 8 with fail
              refine wpIn_region_inv0 (by kernel_rfl) (by kernel_rfl) (fun T0 => RX T0 sDs (sTab B e) wc 5 (fun wx => EBox B e wx ∧ CBox (B + 1) ⟨e.path, fileE e, fileE e⟩ wx ∧ OutSt ob Wz v (outsA pre) wx)) ?_ ?_ ?_
              · exact ⟨Sl2.start _, fun _ => (Below.refl _ _).drew, fun h => by rw [getD_repl] at h; cases h⟩
              · intro L a2 w9 hinv hall
                have hE := hinv.fin (hall 5 (by decide))
                have HXX : Keep _ := ⟨hinv.sl.act⟩
                have HEE : Keep _ := ⟨hE⟩
                clear hinv hall hE
                rw [HXX.out]
                simp only [updL, sDs, List.contains_cons, List.contains_nil, Nat.reduceAdd, Nat.reduceBEq, Bool.or_false, cond_false, cond_true, Bool.or_true]
                gi_wp2
                gi_meet
                case rel => exact HEE.out
              · intro L a2 w9 i o hinv hcl hL ho hdep
                have hi6 : i < 6 := (Array.getElem?_eq_some_iff.1 ho).1
                have h5 : i ≠ 5 → L.getD 5 false = false := fun hne => by
                  cases hb : L.getD 5 false with
                  | false => rfl
                  | true =>
                    exfalso
                    have d4 := hcl 5 _ rfl hb ⟨4, .data⟩ (by simp) rfl
                    have d3 := hcl 4 _ rfl d4 ⟨3, .data⟩ (by simp) rfl
                    have d1 := hcl 4 _ rfl d4 ⟨1, .data⟩ (by simp) rfl
                    have d2 := hcl 3 _ rfl d3 ⟨2, .data⟩ (by simp) rfl
                    have d0 := hcl 1 _ rfl d1 ⟨0, .data⟩ (by simp) rfl
                    have hf := getD_ft hL
                    match i, hi6, hne, hf with
                    | 0, _, _, hf => rw [d0] at hf; cases hf
                    | 1, _, _, hf => rw [d1] at hf; cases hf
                    | 2, _, _, hf => rw [d2] at hf; cases hf
                    | 3, _, _, hf => rw [d3] at hf; cases hf
                    | 4, _, _, hf => rw [d4] at hf; cases hf
                    | 5, _, hne, _ => exact hne rfl
                unfold wpOpIn
                rw [ho]
                clear hcl
                match i, hi6, hL, ho, hdep, h5 with
                | 0, _, hL, ho, hdep, h5 =>
                  injection ho with ho; subst ho
                  dsimp only
                  rw [if_pos (by rfl)]
                  refine ⟨fun f _ => trivial, ?_⟩
                  have e7 : a2.tmps[7]?.getD undef = .pointer (some ⟨B, 0, none⟩) := hinv.sl.old (by decide)
                  go_simp
                  exact hinv.step sNd (i := 0) (by decide) (by show 28 < 57; decide) (by omega) (h5 (by omega)) rfl (Below.refl _ _)
                | 1, _, hL, ho, hdep, h5 =>
                  injection ho with ho; subst ho
                  dsimp only
                  rw [if_pos (by rfl)]
                  refine ⟨fun f _ => trivial, ?_⟩
                  have hb9 := hinv.wd (h5 (by omega))
                  have e28 : a2.tmps[28]?.getD undef = .pointer (some ⟨B, 0, none⟩) := hinv.sl.new (i := 0) (by decide) rfl (hdep ⟨0, .data⟩ (by simp) rfl)
                  have z0 := cell_later hb9 a0
                  go_simp
                  exact hinv.step sNd (i := 1) (by decide) (by show 29 < 57; decide) (by omega) (h5 (by omega)) rfl (Below.refl _ _)
                | 2, _, hL, ho, hdep, h5 =>
                  injection ho with ho; subst ho
                  dsimp only
                  rw [if_pos (by rfl)]
                  refine ⟨fun f _ => trivial, ?_⟩
                  have hb9 := hinv.wd (h5 (by omega))
                  have e7 : a2.tmps[7]?.getD undef = .pointer (some ⟨B, 0, none⟩) := hinv.sl.old (by decide)
                  have z0 := cell_later hb9 a0
                  have z1 := cell_later hb9 a1
                  have z2 := cell_later hb9 a2c
                  go_simp
                  exact hinv.step sNd (i := 2) (by decide) (by show 30 < 57; decide) (by omega) (h5 (by omega)) rfl (Below.refl _ _)
                | 3, _, hL, ho, hdep, h5 =>
                  injection ho with ho; subst ho
                  dsimp only
                  rw [if_pos (by rfl)]
                  refine ⟨fun f _ => trivial, ?_⟩
                  have hb9 := hinv.wd (h5 (by omega))
                  have e30 : a2.tmps[30]?.getD undef = .agg #[.string e.path, .string e.text, .bool e.runs] := hinv.sl.new (i := 2) (by decide) rfl (hdep ⟨2, .data⟩ (by simp) rfl)
                  go_simp
                  refine CallsIn.mono (CallsIn.inRound l (callsIn_wide.2 (fileE_any e _))) ?_
                  rintro e' w' ⟨rfl, hb'⟩
                  exact hinv.step sNd (i := 3) (by decide) (by show 31 < 57; decide) (by omega) (h5 (by omega)) rfl hb'
                | 4, _, hL, ho, hdep, h5 =>
                  injection ho with ho; subst ho
                  dsimp only
                  rw [if_pos (by rfl)]
                  refine ⟨fun f _ => trivial, ?_⟩
                  have hb9 := hinv.wd (h5 (by omega))
                  have e29 : a2.tmps[29]?.getD undef = .string e.path := hinv.sl.new (i := 1) (by decide) rfl (hdep ⟨1, .data⟩ (by simp) rfl)
                  have e31 : a2.tmps[31]?.getD undef = .agg #[.bool (fileE e).there, .string (fileE e).text, .bool (fileE e).runs] := hinv.sl.new (i := 3) (by decide) rfl (hdep ⟨3, .data⟩ (by simp) rfl)
                  go_simp
                  refine CallsIn.mono (CallsIn.inRound l (callsIn_wide.2 (stay_any e.path (fileE e) _))) ?_
                  rintro e' w' ⟨rfl, hb'⟩
                  exact hinv.step sNd (i := 4) (by decide) (by show 32 < 57; decide) (by omega) (h5 (by omega)) rfl hb'
                | 5, _, hL, ho, hdep, h5 =>
                  injection ho with ho; subst ho
                  dsimp only
                  rw [if_pos (by rfl)]
                  refine ⟨fun f _ => trivial, ?_⟩
                  have hb9 := hinv.wd (getD_ft hL)
                  have e8 : a2.tmps[8]?.getD undef = .pointer (some ⟨B + 1, 0, none⟩) := hinv.sl.old (by decide)
                  have e32 : a2.tmps[32]?.getD undef = .agg #[.string e.path, .bool (fileE e).there, .string (fileE e).text, .bool (fileE e).runs, .bool (fileE e).there, .string (fileE e).text, .bool (fileE e).runs] := hinv.sl.new (i := 4) (by decide) rfl (hdep ⟨4, .data⟩ (by simp) rfl)
                  have hy9 := HY.out.later hb9
                  have z0 : w9.cell? ⟨B + 1, 0, none⟩ = some (.string ⟨#[]⟩) := hy9.c0
                  have z1 : w9.cell? ⟨B + 1, 1, none⟩ = some (.bool false) := hy9.c1
                  have z2 : w9.cell? ⟨B + 1, 2, none⟩ = some (.string ⟨#[]⟩) := hy9.c2
                  have z3 : w9.cell? ⟨B + 1, 3, none⟩ = some (.bool false) := hy9.c3
                  have z4 : w9.cell? ⟨B + 1, 4, none⟩ = some (.bool false) := hy9.c4
                  have z5 : w9.cell? ⟨B + 1, 5, none⟩ = some (.string ⟨#[]⟩) := hy9.c5
                  have z6 : w9.cell? ⟨B + 1, 6, none⟩ = some (.bool false) := hy9.c6
                  have fz := hy9.fz
                  have hE : EBox B e (((((((w9.setCell ⟨B + 1, 0, none⟩ (.string e.path)).setCell ⟨B + 1, 1, none⟩ (.bool (fileE e).there)).setCell ⟨B + 1, 2, none⟩ (.string (fileE e).text)).setCell ⟨B + 1, 3, none⟩ (.bool (fileE e).runs)).setCell ⟨B + 1, 4, none⟩ (.bool (fileE e).there)).setCell ⟨B + 1, 5, none⟩ (.string (fileE e).text)).setCell ⟨B + 1, 6, none⟩ (.bool (fileE e).runs)) ∧ CBox (B + 1) ⟨e.path, fileE e, fileE e⟩ (((((((w9.setCell ⟨B + 1, 0, none⟩ (.string e.path)).setCell ⟨B + 1, 1, none⟩ (.bool (fileE e).there)).setCell ⟨B + 1, 2, none⟩ (.string (fileE e).text)).setCell ⟨B + 1, 3, none⟩ (.bool (fileE e).runs)).setCell ⟨B + 1, 4, none⟩ (.bool (fileE e).there)).setCell ⟨B + 1, 5, none⟩ (.string (fileE e).text)).setCell ⟨B + 1, 6, none⟩ (.bool (fileE e).runs)) ∧ OutSt ob Wz v (outsA pre) (((((((w9.setCell ⟨B + 1, 0, none⟩ (.string e.path)).setCell ⟨B + 1, 1, none⟩ (.bool (fileE e).there)).setCell ⟨B + 1, 2, none⟩ (.string (fileE e).text)).setCell ⟨B + 1, 3, none⟩ (.bool (fileE e).runs)).setCell ⟨B + 1, 4, none⟩ (.bool (fileE e).there)).setCell ⟨B + 1, 5, none⟩ (.string (fileE e).text)).setCell ⟨B + 1, 6, none⟩ (.bool (fileE e).runs)) := ⟨(HX.out.later hb9).grown (box7_grown (.string e.path) (.bool (fileE e).there) (.string (fileE e).text) (.bool (fileE e).runs) (.bool (fileE e).there) (.string (fileE e).text) (.bool (fileE e).runs)) (by simp), hy9.set ⟨e.path, fileE e, fileE e⟩, (HST.out.later hb9).other (box7_grown (.string e.path) (.bool (fileE e).there) (.string (fileE e).text) (.bool (fileE e).runs) (.bool (fileE e).there) (.string (fileE e).text) (.bool (fileE e).runs)) (by have := HB.out; omega) hvB1⟩
                  have HEE : Keep _ := ⟨hE⟩
                  clear hE hy9
                  go_simp
                  exact hinv.last rfl hL HEE.out
            · gi_wp2
              gi_meet
              case rel => exact ⟨HX.out, HY.out, HST.out⟩
          case rest =>
            obtain ⟨hx, hy, st⟩ := hcut
            clear HX HY HST hvB1 a0 a1 a2 b0 b1 b2 b3 b4 b5 b6 HNZ
            have a0 := hx.c0
            have a1 := hx.c1
            have a2c := hx.c2
            have b0 := hy.c0
            have b1 := hy.c1
            have b2 := hy.c2
            have b3 := hy.c3
            have b4 := hy.c4
            have b5 := hy.c5
            have b6 := hy.c6
            have HX : Keep (EBox B e wc) := ⟨hx⟩
            have HY : Keep (CBox (B + 1) c wc) := ⟨hy⟩
            have HST : Keep (OutSt ob Wz v (outsA pre) wc) := ⟨st⟩
            clear hx hy st
            obtain ⟨nb, hnb⟩ : ∃ nb : Bool, nb = !sameF (fileE e) c.old := ⟨_, rfl⟩
            have HNB : Keep (nb = !sameF (fileE e) c.old) := ⟨hnb⟩
            clear hnb
            gi_upto_region 9 with fail
            refine wpIn_region_inv0 (by kernel_rfl) (by kernel_rfl) (fun T0 => QV T0 fDs (fTab B e c.old nb) wc) ?_ ?_ ?_
            · exact ⟨Sl2.start _, (Below.refl _ _).drew⟩
            · intro L a2 w9 hinv hall
              have hb9 := hinv.wd
              have e37 : a2.tmps.getD 37 undef = .bool nb := hinv.sl.sl 4 (by decide) _ rfl (hall 4 (by decide))
              have HXX : Keep _ := ⟨hinv.sl.act⟩
              clear hinv hall
              rw [HXX.out]
              simp only [updL, fDs, List.contains_cons, List.contains_nil, Nat.reduceAdd, Nat.reduceBEq, Bool.or_false, cond_false, cond_true, Bool.or_true, e37]
              generalize a2.tmps.getD 33 undef = s33
              generalize a2.tmps.getD 34 undef = s34
              generalize a2.tmps.getD 35 undef = s35
              generalize a2.tmps.getD 36 undef = s36
              have HY9 := HY.out.later hb9
              have HST9 := HST.out.later hb9
              clear HXX e37 HX HY HST a0 a1 a2c b0 b1 b2 b3 b4 b5 b6 hb9
              cases nb with
              | true =>
                obtain ⟨⟨kX, hX⟩, kfX, hfX⟩ := HK.out w9 HST9
                have HS9 : Keep _ := ⟨HST9⟩
                clear HST9 HY9
                gi_wp2
                exact HR.out w9 (by rw [HF1.out]; exact HNB.out.symm) HS9.out
              | false =>
                have hbad : badA x.2.1 x.2.2 = false := by rw [HF1.out]; exact HNB.out.symm
                have HBAD : Keep _ := ⟨hbad⟩
                clear hbad HNB HK HR HF1
                have HST : Keep (OutSt ob Wz v (outsA pre) w9) := ⟨HST9⟩
                have oc := HST9.cell
                have b0 := HY9.c0
                have b4 := HY9.c4
                have b5 := HY9.c5
                have b6 := HY9.c6
                clear HST9 HY9
                cases hth : c.new.there with
                | false =>
                  rw [hth] at b4
                  gi_wp2
                  exact HE.out v w9 HBAD.out (by rw [HF2.out, hth]; simpa using HST.out)
                | true =>
                  rw [hth] at b4
                  obtain ⟨i0, hi, hz0, hz1', hzb'⟩ := info_parts Try.infoEntry
                  have HE2 : Keep (∀ v' w', OutSt ob Wz v' (outsA pre ++ [⟨c.path, c.new.text, c.new.runs⟩]) w' → TwoB wl.heap.size _ w' ∧ ApI wl ob (pre ++ [x]) w') := ⟨fun v' w' h' => HE.out v' w' HBAD.out (by rw [HF2.out, hth]; exact h')⟩
                  gi_upto_region 12 with fail
                  refine wpIn_region_inv0 (by kernel_rfl) (by kernel_rfl) (fun T0 => NV T0 ob B Wz w9 v c.path c.new.text c.new.runs (outsA pre)) ?_ ?_ ?_
                  · exact ⟨Sl2.start _, fun _ => (Below.refl _ _).drew, (fun h => by rw [getD_repl] at h; cases h), (fun h => by rw [getD_repl] at h; cases h), (fun h => by rw [getD_repl] at h; cases h)⟩
                  · intro L a2 wx hinv hall
                    obtain ⟨v', h'⟩ := hinv.w3 (hall 10 (by decide))
                    have HXX : Keep _ := ⟨hinv.sl.act⟩
                    have HHH : Keep _ := ⟨h'⟩
                    clear hinv hall h'
                    rw [HXX.out]
                    simp only [updL, nDs, List.contains_cons, List.contains_nil, Nat.reduceAdd, Nat.reduceBEq, Bool.or_false, cond_false, cond_true, Bool.or_true]
                    clear HXX oc b0 b4 b5 b6
                    gi_wp2
                    exact HE2.out _ _ HHH.out
                  · intro L a2 wx i o hinv hcl hL ho hdep
                    have hi11 : i < 11 := (Array.getElem?_eq_some_iff.1 ho).1
                    unfold wpOpIn
                    rw [ho]
                    have q87 : L.getD 8 false = true → L.getD 7 false = true := fun hb => hcl 8 _ rfl hb ⟨7, .data⟩ (by simp) rfl
                    have q108 : L.getD 10 false = true → L.getD 8 false = true := fun hb => hcl 10 _ rfl hb ⟨8, .data⟩ (by simp) rfl
                    have q76 : L.getD 7 false = true → L.getD 6 false = true := fun hb => hcl 7 _ rfl hb ⟨6, .data⟩ (by simp) rfl
                    have q7 : (L.getD 6 true = false ∨ L.getD 3 true = false ∨ L.getD 5 true = false) → L.getD 7 false = false := fun h9 => by
                      cases hb : L.getD 7 false with
                      | false => rfl
                      | true =>
                        exfalso
                        have h6 := q76 hb
                        rcases h9 with h9 | h9 | h9
                        · rw [getD_ft h9] at h6; cases h6
                        · have h := hcl 6 _ rfl h6 ⟨3, .data⟩ (by simp) rfl; rw [getD_ft h9] at h; cases h
                        · have h := hcl 6 _ rfl h6 ⟨5, .data⟩ (by simp) rfl; rw [getD_ft h9] at h; cases h
                    have q8 : (L.getD 1 true = false ∨ L.getD 7 true = false ∨ L.getD 6 true = false) → L.getD 8 false = false := fun h9 => by
                      cases hb : L.getD 8 false with
                      | false => rfl
                      | true =>
                        exfalso
                        rcases h9 with h9 | h9 | h9
                        · have h := hcl 8 _ rfl hb ⟨1, .data⟩ (by simp) rfl; rw [getD_ft h9] at h; cases h
                        · have h := q87 hb; rw [getD_ft h9] at h; cases h
                        · have h := q76 (q87 hb); rw [getD_ft h9] at h; cases h
                    have q10 : (L.getD 8 true = false ∨ L.getD 7 true = false ∨ L.getD 6 true = false) → L.getD 10 false = false := fun h9 => by
                      cases hb : L.getD 10 false with
                      | false => rfl
                      | true =>
                        exfalso
                        rcases h9 with h9 | h9 | h9
                        · have h := q108 hb; rw [getD_ft h9] at h; cases h
                        · have h := q87 (q108 hb); rw [getD_ft h9] at h; cases h
                        · have h := q76 (q87 (q108 hb)); rw [getD_ft h9] at h; cases h
                    clear hcl
                    match i, hi11, hL, ho, hdep with
                        | 0, _, hL, ho, hdep =>
                          injection ho with ho; subst ho
                          dsimp only
                          rw [if_pos (by rfl)]
                          refine ⟨fun f _ => trivial, ?_⟩
                          have e6 : a2.tmps[6]?.getD undef = .pointer (some ⟨ob, 0, none⟩) := hinv.sl.old (by decide)
                          go_simp
                          exact hinv.step (i := 0) rfl (by omega) (by omega) (by omega) rfl (.inl rfl)
                        | 1, _, hL, ho, hdep =>
                          injection ho with ho; subst ho
                          dsimp only
                          rw [if_pos (by rfl)]
                          refine ⟨fun f _ => trivial, ?_⟩
                          have e42 : a2.tmps[42]?.getD undef = .pointer (some ⟨ob, 0, none⟩) := hinv.sl.new (i := 0) (by decide) rfl (hdep ⟨0, .data⟩ (by simp) rfl)
                          have z0 := cell_later (hinv.below (q8 (.inl hL))) oc
                          go_simp
                          exact hinv.step (i := 1) rfl (by omega) (by omega) (by omega) rfl (.inl rfl)
                        | 2, _, hL, ho, hdep =>
                          injection ho with ho; subst ho
                          dsimp only
                          rw [if_pos (by rfl)]
                          refine ⟨fun f _ => trivial, ?_⟩
                          have e8 : a2.tmps[8]?.getD undef = .pointer (some ⟨B + 1, 0, none⟩) := hinv.sl.old (by decide)
                          go_simp
                          exact hinv.step (i := 2) rfl (by omega) (by omega) (by omega) rfl (.inl rfl)
                        | 3, _, hL, ho, hdep =>
                          injection ho with ho; subst ho
                          dsimp only
                          rw [if_pos (by rfl)]
                          refine ⟨fun f _ => trivial, ?_⟩
                          have e44 : a2.tmps[44]?.getD undef = .pointer (some ⟨B + 1, 4, none⟩) := hinv.sl.new (i := 2) (by decide) rfl (hdep ⟨2, .data⟩ (by simp) rfl)
                          have hb := hinv.w0 (q7 (.inr (.inl hL)))
                          have z0 := cell_later hb b4
                          have z1 := cell_later hb b5
                          have z2 := cell_later hb b6
                          go_simp
                          exact hinv.step (i := 3) rfl (by omega) (by omega) (by omega) rfl (.inl rfl)
                        | 4, _, hL, ho, hdep =>
                          injection ho with ho; subst ho
                          dsimp only
                          rw [if_pos (by rfl)]
                          refine ⟨fun f _ => trivial, ?_⟩
                          have e8 : a2.tmps[8]?.getD undef = .pointer (some ⟨B + 1, 0, none⟩) := hinv.sl.old (by decide)
                          go_simp
                          exact hinv.step (i := 4) rfl (by omega) (by omega) (by omega) rfl (.inl rfl)
                        | 5, _, hL, ho, hdep =>
                          injection ho with ho; subst ho
                          dsimp only
                          rw [if_pos (by rfl)]
                          refine ⟨fun f _ => trivial, ?_⟩
                          have e46 : a2.tmps[46]?.getD undef = .pointer (some ⟨B + 1, 0, none⟩) := hinv.sl.new (i := 4) (by decide) rfl (hdep ⟨4, .data⟩ (by simp) rfl)
                          have z0 := cell_later (hinv.w0 (q7 (.inr (.inr hL)))) b0
                          go_simp
                          exact hinv.step (i := 5) rfl (by omega) (by omega) (by omega) rfl (.inl rfl)
                        | 6, _, hL, ho, hdep =>
                          injection ho with ho; subst ho
                          dsimp only
                          rw [if_pos (by rfl)]
                          refine ⟨fun f _ => trivial, ?_⟩
                          have e45 : a2.tmps[45]?.getD undef = .agg #[.bool true, .string c.new.text, .bool c.new.runs] := hinv.sl.new (i := 3) (by decide) rfl (hdep ⟨3, .data⟩ (by simp) rfl)
                          have e47 : a2.tmps[47]?.getD undef = .string c.path := hinv.sl.new (i := 5) (by decide) rfl (hdep ⟨5, .data⟩ (by simp) rfl)
                          go_simp
                          refine CallsIn.mono (CallsIn.inRound l (callsIn_wide.2 (entry_any c.path c.new.text c.new.runs _ (by omega) (by omega)))) ?_
                          rintro e' w' ⟨rfl, hb'⟩
                          exact hinv.step (i := 6) rfl (by omega) (by omega) (by omega) rfl (.inr ⟨hb', q7 (.inl hL), q8 (.inr (.inr hL)), q10 (.inr (.inr hL))⟩)
                        | 7, _, hL, ho, hdep =>
                          injection ho with ho; subst ho
                          dsimp only
                          rw [if_pos (by rfl)]
                          refine ⟨fun f _ => trivial, ?_⟩
                          have e48 : a2.tmps[48]?.getD undef = .agg #[.string c.path, .string c.new.text, .bool c.new.runs] := hinv.sl.new (i := 6) (by decide) rfl (hdep ⟨6, .data⟩ (by simp) rfl)
                          go_simp
                          exact hinv.build rfl (q8 (.inr (.inl hL))) (q10 (.inr (.inl hL))) hL
                        | 8, _, hL, ho, hdep =>
                          injection ho with ho; subst ho
                          dsimp only
                          rw [if_pos (by rfl)]
                          have h7 := hdep ⟨7, .data⟩ (by simp) rfl
                          obtain ⟨y, hby, rfl, ex⟩ := hinv.w1 h7 (getD_ft hL)
                          have ev := hinv.sl.sl 1 (by decide) _ rfl (hdep ⟨1, .data⟩ (by simp) rfl)
                          have hbz : Below w9.heap.size w9 (y.alloc (.cells #[.string c.path, .string c.new.text, .bool c.new.runs] 57)) := hby.alloc hby.size _
                          have hgs := HST.out.grown.size
                          have hys := hby.size
                          obtain ⟨g3, cap3, w7, hr3, hown3, hgrow3, _, _⟩ := run_append_lies (P := Try.prog) (y.alloc (.cells #[.string c.path, .string c.new.text, .bool c.new.runs] 57)) 23 23 Wz.heap.size 57 i0 _ 3 40 Try.underlying23 hi hz0 hz1' hzb' rfl (by decide) v (outsA pre).length (ecells (outsA pre)) (owns_below HST.out.row hbz) ⟨y.heap.size, 0, none⟩ 1 1 (ecell ⟨c.path, c.new.text, c.new.runs⟩) rfl (news_3 y ⟨c.path, c.new.text, c.new.runs⟩ _ _ rfl) (one_3 _) (by omega) (by unfold maxLen; omega) (by omega) (by simp; omega) (y.heap.size + 1) (by simp)
                          exact wpIn_appendR _ _ _ rfl ev ex hr3 (hinv.app rfl h7 (q10 (.inl hL)) hL hbz hown3 hgrow3)
                        | 9, _, hL, ho, hdep =>
                          injection ho with ho; subst ho
                          dsimp only
                          rw [if_pos (by rfl)]
                          refine ⟨fun f _ => trivial, ?_⟩
                          have e6 : a2.tmps[6]?.getD undef = .pointer (some ⟨ob, 0, none⟩) := hinv.sl.old (by decide)
                          go_simp
                          exact hinv.step (i := 9) rfl (by omega) (by omega) (by omega) rfl (.inl rfl)
                        | 10, _, hL, ho, hdep =>
                          injection ho with ho; subst ho
                          dsimp only
                          rw [if_pos (by rfl)]
                          refine ⟨fun f _ => trivial, ?_⟩
                          have h8 := hdep ⟨8, .data⟩ (by simp) rfl
                          obtain ⟨W1, g3, cap3, ex, hbx, hown3, hgrow3⟩ := hinv.w2 h8 (getD_ft hL)
                          have e50 := evalD2 ex
                          have e51 : a2.tmps[51]?.getD undef = .pointer (some ⟨ob, 0, none⟩) := hinv.sl.new (i := 9) (by decide) rfl (hdep ⟨9, .data⟩ (by simp) rfl)
                          obtain ⟨oc3, of3⟩ := HST.out.mid hbx hgrow3
                          go_simp
                          exact hinv.last (q87 h8) h8 hL ⟨_, HST.out.append hbx hgrow3 hown3⟩
            · intro L a2 w9 i o hinv hcl hL ho hdep
              have hi5 : i < 5 := (Array.getElem?_eq_some_iff.1 ho).1
              unfold wpOpIn
              rw [ho]
              clear hcl
              match i, hi5, hL, ho, hdep with
                | 0, _, hL, ho, hdep =>
                  injection ho with ho; subst ho
                  dsimp only
                  rw [if_pos (by rfl)]
                  refine ⟨fun f _ => trivial, ?_⟩
                  have e7 : a2.tmps[7]?.getD undef = .pointer (some ⟨B, 0, none⟩) := hinv.sl.old (by decide)
                  have z0 := cell_later hinv.wd a0
                  have z1 := cell_later hinv.wd a1
                  have z2 := cell_later hinv.wd a2c
                  go_simp
                  exact hinv.step fNd (i := 0) (by decide) (by show 33 < 57; decide) rfl (Below.refl _ _)
                | 1, _, hL, ho, hdep =>
                  injection ho with ho; subst ho
                  dsimp only
                  rw [if_pos (by rfl)]
                  refine ⟨fun f _ => trivial, ?_⟩
                  have e33 : a2.tmps[33]?.getD undef = .agg #[.string e.path, .string e.text, .bool e.runs] := hinv.sl.new (i := 0) (by decide) rfl (hdep ⟨0, .data⟩ (by simp) rfl)
                  go_simp
                  refine CallsIn.mono (CallsIn.inRound l (callsIn_wide.2 (fileE_any e _))) ?_
                  rintro e' w' ⟨rfl, hb'⟩
                  exact hinv.step fNd (i := 1) (by decide) (by show 34 < 57; decide) rfl hb'
                | 2, _, hL, ho, hdep =>
                  injection ho with ho; subst ho
                  dsimp only
                  rw [if_pos (by rfl)]
                  refine ⟨fun f _ => trivial, ?_⟩
                  have e8 : a2.tmps[8]?.getD undef = .pointer (some ⟨B + 1, 0, none⟩) := hinv.sl.old (by decide)
                  go_simp
                  exact hinv.step fNd (i := 2) (by decide) (by show 35 < 57; decide) rfl (Below.refl _ _)
                | 3, _, hL, ho, hdep =>
                  injection ho with ho; subst ho
                  dsimp only
                  rw [if_pos (by rfl)]
                  refine ⟨fun f _ => trivial, ?_⟩
                  have e35 : a2.tmps[35]?.getD undef = .pointer (some ⟨B + 1, 1, none⟩) := hinv.sl.new (i := 2) (by decide) rfl (hdep ⟨2, .data⟩ (by simp) rfl)
                  have z0 := cell_later hinv.wd b1
                  have z1 := cell_later hinv.wd b2
                  have z2 := cell_later hinv.wd b3
                  go_simp
                  exact hinv.step fNd (i := 3) (by decide) (by show 36 < 57; decide) rfl (Below.refl _ _)
                | 4, _, hL, ho, hdep =>
                  injection ho with ho; subst ho
                  dsimp only
                  rw [if_pos (by rfl)]
                  refine ⟨fun f _ => trivial, ?_⟩
                  have e34 : a2.tmps[34]?.getD undef = .agg #[.bool (fileE e).there, .string (fileE e).text, .bool (fileE e).runs] := hinv.sl.new (i := 1) (by decide) rfl (hdep ⟨1, .data⟩ (by simp) rfl)
                  have e36 : a2.tmps[36]?.getD undef = .agg #[.bool c.old.there, .string c.old.text, .bool c.old.runs] := hinv.sl.new (i := 3) (by decide) rfl (hdep ⟨3, .data⟩ (by simp) rfl)
                  have hfin := fun v (hv : v = Value.bool nb) => hinv.step fNd (i := 4) (v := v) (by decide) (by show 37 < 57; decide) (by rw [hv]; rfl) (Below.refl _ _)
                  clear hinv a0 a1 a2c b0 b1 b2 b3 b4 b5 b6
                  generalize fileE e = f at *
                  generalize c.old = fo at *
                  obtain ⟨f1, f2, f3⟩ := f
                  obtain ⟨g1, g2, g3⟩ := fo
                  dsimp only at e34 e36
                  by_cases q1 : f1 = g1
                  · by_cases q2 : f2.toList = g2.toList
                    · by_cases q3 : f3 = g3
                      · have q4 : f2 = g2 := WideShapes.bytes_inj (by rw [← Lib.toList_data, ← Lib.toList_data]; exact q2)
                        subst q1 q3 q4
                        go_simp
                        exact hfin _ (by rw [HNB.out, sameF_self]; rfl)
                      · go_simp
                        exact hfin _ (by rw [HNB.out]; simp [sameF, q3])
                    · go_simp
                      exact hfin _ (by rw [HNB.out]; simp [sameF, q2])
                  · go_simp
                    exact hfin _ (by rw [HNB.out]; simp [sameF, q1])
      case done =>
        rintro W ⟨hnc, Wz, v, hz1, hz2, hst⟩ hK
        have hAR := outs_app HVT.out HVU.out
        have hlen : (outsA (mrgEC ps qs)).length ≤ 1048576 := by
          have h1 := outsA_len (mrgEC ps qs)
          have h2 : (mrgEC ps qs).length ≤ ps.length + qs.length := mrg_lenA En.path Ch.path (ps.length + qs.length) ps qs
          have h3 := HVT.out.1
          have h4 := HVU.out.1
          omega
        have HNB : Keep (∀ x ∈ qs, sameF (atL ps x.path) x.old = true) := ⟨fun x hx => by
          cases hb : sameF (atL ps x.path) x.old with
          | true => rfl
          | false =>
            obtain ⟨y, hy, hyb⟩ := (bad_iff HVT.out HVU.out).2 ⟨x, hx, hb⟩
            rw [hnc y hy] at hyb
            cases hyb⟩
        have hzu : ∀ e ∈ outsA (mrgEC ps qs), e.path.size ≤ 1048576 := fun e he => by
          rcases (hAR.mem e).1 he with ⟨c, hc, _, rfl⟩ | ⟨h1, _⟩
          · exact hzb c hc
          · exact hz e h1
        have kW := hst.keep (cell_later hz2 kl) (by have := HL.out; omega) (by have := HL.out; omega)
        have hW := hst.keep (cell_later hz2 hl0) (by have := HL.out; omega) (by have := HL.out; omega)
        have kfW : W.frozen? ⟨g, 0, none⟩ = false := frozen_of (hst.grown.block g (by have := HL.out; omega) (fun e => by have := HL.out; cases e; omega)) ((hz2.frozen (p := ⟨g, 0, none⟩) (by have := HL.out; show g < _; omega)).trans kfl)
        have hfW : W.frozen? ⟨h, 0, none⟩ = false := frozen_of (hst.grown.block h (by have := HL.out; omega) (fun e => by have := HL.out; cases e; omega)) ((hz2.frozen (p := ⟨h, 0, none⟩) (by have := HL.out; show h < _; omega)).trans hfl)
        have oW := hst.cell
        have hbW := hst.below (hbl.trans (hz2.mono hbl.size)) (show w.heap.size ≤ ob by have := HL.out; omega)
        obtain ⟨ad, cap, rfl⟩ := owns_slice hst.row
        have hrm := row_roomO hst.row
        have hcl := el_of_row hst.row
        have HZ : Keep (w.heap.size ≤ g ∧ h = g + 1 ∧ h < wl.heap.size ∧ Wz.heap.size = wl.heap.size + 2 ∧ Wz.heap.size ≤ W.heap.size) := ⟨by have := HL.out; have := hst.grown.size; omega⟩
        clear hst hz2 hI0 hps hqs HNO hnc wsz
        generalize outsA (mrgEC ps qs) = us at *
        have hvt := implTree_any ad cap us W hcl.es hlen hzu
        gi_wp2_with fail
        refine ⟨trivial, ?_⟩
        refine (callsIn_wide.2 hvt).mono ?_
        rintro e W5 ⟨vb, rfl, hvb, hb5⟩
        have HVB : Keep (vb = true ↔ ValidTs us) := ⟨hvb⟩
        replace kW := cell_later hb5 kW
        replace hW := cell_later hb5 hW
        replace oW := cell_later hb5 oW
        have hgl : h < W.heap.size := by have := HZ.out; omega
        replace kfW : W5.frozen? ⟨g, 0, none⟩ = false := (hb5.frozen (p := ⟨g, 0, none⟩) (by have := HZ.out; show g < _; omega)).trans kfW
        replace hfW : W5.frozen? ⟨h, 0, none⟩ = false := (hb5.frozen (p := ⟨h, 0, none⟩) hgl).trans hfW
        replace hcl := hcl.below hb5
        replace hbW := hbW.trans (hb5.mono hbW.size)
        replace hK := (hb5.block wl.heap.size (by have := HZ.out; omega)).trans hK
        have fin : ∀ (vs : List En) (c : Int) (ad2 : Option Addr) (cap2 : Nat), ApplyRel ps qs vs c → EL Wz.heap.size W5 ad2 vs → vs.length ≤ cap2 → ∃ W3, W3 = (W5.setCell ⟨g, 0, none⟩ (.slice ad2 vs.length cap2)).setCell ⟨h, 0, none⟩ (.int .i64 c) ∧ W3.heap[wl.heap.size]? = some (.deferred (some [])) ∧ (W3.putObj wl.heap.size (.deferred none)).cell? ⟨g, 0, none⟩ = some (.slice ad2 vs.length cap2) ∧ (W3.putObj wl.heap.size (.deferred none)).cell? ⟨h, 0, none⟩ = some (.int .i64 c) ∧ ApplyPostC ps qs w (.returned (TreeV ad2 vs.length cap2 c)) (W3.putObj wl.heap.size (.deferred none)) := fun vs c ad2 cap2 hrel hcs hrm2 => by
          have hzz := HZ.out
          have hbk : ∀ k, k ≠ g → k ≠ h → ((W5.setCell ⟨g, 0, none⟩ (.slice ad2 vs.length cap2)).setCell ⟨h, 0, none⟩ (.int .i64 c)).heap[k]? = W5.heap[k]? := fun k h1 h2 => (Below.heap_setCell _ _ _ _ h2).trans (Below.heap_setCell _ _ _ _ h1)
          have hg1 := hcs.grown (row := some g) (grown_set0 W5 g 0 (.slice ad2 vs.length cap2)) (fun j _ hj _ e => by cases e; omega)
          have hg2 := hg1.grown (row := some h) (grown_set0 _ h 0 (.int .i64 c)) (fun j _ hj _ e => by cases e; omega)
          have hbW2 := (hbW.setCell (p := ⟨g, 0, none⟩) hzz.1 (.slice ad2 vs.length cap2)).setCell (p := ⟨h, 0, none⟩) (by show _ ≤ h; omega) (.int .i64 c)
          have kc : ((W5.setCell ⟨g, 0, none⟩ (.slice ad2 vs.length cap2)).setCell ⟨h, 0, none⟩ (.int .i64 c)).cell? ⟨g, 0, none⟩ = some (.slice ad2 vs.length cap2) := (World.cell?_setCell_other _ _ _ _ (by intro e; exact hhg (congrArg Addr.block e))).trans (World.cell?_setCell_same _ _ _ kW)
          have hc : ((W5.setCell ⟨g, 0, none⟩ (.slice ad2 vs.length cap2)).setCell ⟨h, 0, none⟩ (.int .i64 c)).cell? ⟨h, 0, none⟩ = some (.int .i64 c) := World.cell?_setCell_same _ _ _ ((World.cell?_setCell_other _ _ _ _ (by intro e; exact hgh (congrArg Addr.block e))).trans hW)
          refine ⟨_, rfl, (hbk _ (by omega) (by omega)).trans hK, ?_⟩
          generalize (W5.setCell ⟨g, 0, none⟩ (.slice ad2 vs.length cap2)).setCell ⟨h, 0, none⟩ (.int .i64 c) = W3 at *
          have hgp : W3.grownBy (W3.putObj wl.heap.size (.deferred none)) (some wl.heap.size) := ⟨rfl, rfl, rfl, by simp, fun k _ hk => World.putObj_heap_other (fun e => hk (by rw [e]))⟩
          exact ⟨(World.cell?_of_block (World.putObj_heap_other (fun e => by have e2 : g = wl.heap.size := e; omega))).trans kc, (World.cell?_of_block (World.putObj_heap_other (fun e => by have e2 : h = wl.heap.size := e; omega))).trans hc, vs, c, hrel, ⟨ad2, cap2, rfl, (hg2.grown hgp (fun j _ hj _ e => by cases e; omega)).mono (by omega), hrm2⟩, hbW2.grown hgp hbW2.size (fun j e => by cases e; omega)⟩
        cases vb with
        | true =>
          have hvv := HVB.out.1 rfl
          obtain ⟨W3, hW3, hK3, kc, hc, hpost⟩ := fin us 0 ad cap (.inr ⟨HVT.out, HVU.out, .inr ⟨HNB.out, us, hAR, .inr ⟨hvv, rfl, rfl⟩⟩⟩) hcl hrm
          have HP : Keep _ := ⟨hpost⟩
          clear fin hcl hbW hpost hvt hAR hzu hvb hrm
          gi_wp2
          rw [← hW3]
          refine ⟨by simp, .inl ⟨_, _, rfl, run_takeDeferred hK3, ?_⟩⟩
          refine ⟨_, ?_, HP.out⟩
          simp [results, Try.f10, go_sem, TreeV, kc, hc]
        | false =>
          have hvv : ¬ ValidTs us := fun h => by have := HVB.out.2 h; cases this
          obtain ⟨W3, hW3, hK3, kc, hc, hpost⟩ := fin [] 3 none 0 (.inr ⟨HVT.out, HVU.out, .inr ⟨HNB.out, us, hAR, .inl ⟨hvv, rfl, rfl⟩⟩⟩) (EL.nil _ _ _) (Nat.le_refl _)
          have HP : Keep _ := ⟨hpost⟩
          replace hW3 : W3 = (W5.setCell ⟨g, 0, none⟩ (.slice none 0 0)).setCell ⟨h, 0, none⟩ (.int .i64 3) := hW3
          clear fin hcl hbW hpost hvt hAR hzu hvb hrm
          gi_wp2
          rw [← hW3]
          refine ⟨by simp, .inl ⟨_, _, rfl, run_takeDeferred hK3, ?_⟩⟩
          refine ⟨_, ?_, HP.out⟩
          simp [results, Try.f10, go_sem, TreeV, kc, hc]
      case stop =>
        rintro pre W hpre ⟨⟨x, hx, hcl⟩, hb, c1, c2⟩ hK
        have hcn : ∃ c ∈ qs, sameF (atL ps c.path) c.old = false := (bad_iff HVT.out HVU.out).1 ⟨x, hpre.subset hx, hcl⟩
        clear wsz
        gi_wp2
        refine ⟨by simp, .inl ⟨_, _, rfl, run_takeDeferred hK, ?_⟩⟩
        have hgp : W.grownBy (W.putObj wl.heap.size (.deferred none)) (some wl.heap.size) := ⟨rfl, rfl, rfl, by simp, fun k _ hk => World.putObj_heap_other (fun e => hk (by rw [e]))⟩
        have kc : (W.putObj wl.heap.size (.deferred none)).cell? ⟨g, 0, none⟩ = some (.slice none 0 0) := (World.cell?_of_block (World.putObj_heap_other (fun e => by have := HL.out; have e2 : g = wl.heap.size := e; omega))).trans c1
        have hc : (W.putObj wl.heap.size (.deferred none)).cell? ⟨h, 0, none⟩ = some (.int .i64 2) := (World.cell?_of_block (World.putObj_heap_other (fun e => by have := HL.out; have e2 : h = wl.heap.size := e; omega))).trans c2
        refine ⟨TreeV none ([] : List En).length 0 2, ?_, [], 2, .inr ⟨HVT.out, HVU.out, .inl ⟨hcn, rfl, rfl⟩⟩, ⟨none, 0, rfl, EL.nil _ _ _, Nat.le_refl _⟩, hb.grown hgp hb.size (fun j e => by have := HL.out; cases e; omega)⟩
        simp [results, Try.f10, go_sem, TreeV, kc, hc]
theorem implApply_any (a b : Option Addr) (ca cb : Nat) (ps : List En) (qs : List Ch) (w : World) (hps : ES w a ps) (hqs : CS w b qs) (hn : ps.length ≤ 1048576) (hnb : qs.length ≤ 1048576) (hca : ps.length ≤ ca) (hcb : qs.length ≤ cb) (hz : ∀ c ∈ ps, c.path.size ≤ 1048576) (hzb : ∀ c ∈ qs, c.path.size ≤ 1048576) :
    Calls Try.prog 10 #[.agg #[.slice a ps.length ca], .agg #[.slice b qs.length cb]] w fun e w' => ApplyPost ps qs w e w' :=
  (implApplyC_any a b ca cb ps qs w hps hqs hn hnb hca hcb hz hzb).mono (fun _ _ ⟨us, c, h1, ⟨ad, cap, h2, h3, _⟩, h4⟩ => ⟨us, c, h1, ⟨ad, cap, h2, h3⟩, h4⟩)
end Go.Proofs.Ytjlflmbifeocbaa

namespace Go.Proofs.Ytjlflmbifeocbaa
open Go.RowKit

set_option maxRecDepth 100000 in
set_option maxHeartbeats 4000000 in
theorem frontsC_any (a b : Option Addr) (ca cb : Nat) (ts : List Ch) (us : List Ch) (w : World) (hts : CS w a ts) (hus : CS w b us) :
    Calls Try.prog 64 #[.slice a ts.length ca, .slice b us.length cb] w fun e w' => e = .returned (.int .i64 (frontG Ch.path Ch.path ts us)) ∧ Below w.heap.size w w' := by
  cases ts with
  | nil =>
    go_enter Try.func64, Try.ntmps64
    go_wp2
    go_ret
    exact ⟨rfl, Below.refl _ _⟩
  | cons x ts =>
    obtain ⟨b1, o1, rfl, hc1⟩ := hts.at (k := 0) (by simp)
    obtain ⟨x0, x1, x2, x3, x4, x5, x6⟩ := hc1 0 (by simp)
    simp only [List.getElem_cons_zero, Nat.zero_mul, Nat.add_zero] at x0 x1 x2 x3 x4 x5 x6
    have hl1 : (((x :: ts).length : Int) == 0) = false := by simp; omega
    have hl1' : (0 : Int) < (x :: ts).length := by rw [List.length_cons]; omega
    clear hc1 hts
    cases us with
    | nil =>
      generalize (x :: ts).length = n1 at *
      go_enter Try.func64, Try.ntmps64
      go_wp2
      go_ret
      exact ⟨rfl, Below.refl _ _⟩
    | cons y us =>
      obtain ⟨b2, o2, rfl, hc2⟩ := hus.at (k := 0) (by simp)
      obtain ⟨y0, y1, y2, y3, y4, y5, y6⟩ := hc2 0 (by simp)
      simp only [List.getElem_cons_zero, Nat.zero_mul, Nat.add_zero] at y0 y1 y2 y3 y4 y5 y6
      have hl2 : (((y :: us).length : Int) == 0) = false := by simp; omega
      have hl2' : (0 : Int) < (y :: us).length := by rw [List.length_cons]; omega
      clear hc2 hus
      generalize (x :: ts).length = n1 at *
      generalize (y :: us).length = n2 at *
      have cx0 : ∀ z : Later w, z.world.cell? ⟨b1, o1, none⟩ = some (.string x.path) := fun z => cell_later z.kept x0
      have cx1 : ∀ z : Later w, z.world.cell? ⟨b1, o1 + 1, none⟩ = some (.bool x.old.there) := fun z => cell_later z.kept x1
      have cx2 : ∀ z : Later w, z.world.cell? ⟨b1, o1 + 2, none⟩ = some (.string x.old.text) := fun z => cell_later z.kept x2
      have cx3 : ∀ z : Later w, z.world.cell? ⟨b1, o1 + 3, none⟩ = some (.bool x.old.runs) := fun z => cell_later z.kept x3
      have cx4 : ∀ z : Later w, z.world.cell? ⟨b1, o1 + 4, none⟩ = some (.bool x.new.there) := fun z => cell_later z.kept x4
      have cx5 : ∀ z : Later w, z.world.cell? ⟨b1, o1 + 5, none⟩ = some (.string x.new.text) := fun z => cell_later z.kept x5
      have cx6 : ∀ z : Later w, z.world.cell? ⟨b1, o1 + 6, none⟩ = some (.bool x.new.runs) := fun z => cell_later z.kept x6
      have cy0 : ∀ z : Later w, z.world.cell? ⟨b2, o2, none⟩ = some (.string y.path) := fun z => cell_later z.kept y0
      have cy1 : ∀ z : Later w, z.world.cell? ⟨b2, o2 + 1, none⟩ = some (.bool y.old.there) := fun z => cell_later z.kept y1
      have cy2 : ∀ z : Later w, z.world.cell? ⟨b2, o2 + 2, none⟩ = some (.string y.old.text) := fun z => cell_later z.kept y2
      have cy3 : ∀ z : Later w, z.world.cell? ⟨b2, o2 + 3, none⟩ = some (.bool y.old.runs) := fun z => cell_later z.kept y3
      have cy4 : ∀ z : Later w, z.world.cell? ⟨b2, o2 + 4, none⟩ = some (.bool y.new.there) := fun z => cell_later z.kept y4
      have cy5 : ∀ z : Later w, z.world.cell? ⟨b2, o2 + 5, none⟩ = some (.string y.new.text) := fun z => cell_later z.kept y5
      have cy6 : ∀ z : Later w, z.world.cell? ⟨b2, o2 + 6, none⟩ = some (.bool y.new.runs) := fun z => cell_later z.kept y6
      have HC1 : Keep (∀ z : Later w, Calls Try.prog 111 #[.agg #[.string x.path, .bool x.old.there, .string x.old.text, .bool x.old.runs, .bool x.new.there, .string x.new.text, .bool x.new.runs]] z.world fun e w'' => e = .returned (.string x.path) ∧ ∃ q : Later w, w'' = q.world) := ⟨fun z => Later.call z (pathC_any x _)⟩
      have HC2 : Keep (∀ z : Later w, Calls Try.prog 111 #[.agg #[.string y.path, .bool y.old.there, .string y.old.text, .bool y.old.runs, .bool y.new.there, .string y.new.text, .bool y.new.runs]] z.world fun e w'' => e = .returned (.string y.path) ∧ ∃ q : Later w, w'' = q.world) := ⟨fun z => Later.call z (pathC_any y _)⟩
      have HC3 : Keep (∀ z : Later w, Calls Try.prog 71 #[.string x.path, .string y.path] z.world fun e w'' => e = .returned (.int .i64 (Lib.compareBytes x.path.data.toList y.path.data.toList)) ∧ ∃ q : Later w, w'' = q.world) := ⟨fun z => Later.call z ((compare_any x.path y.path z.world).mono (fun e w' h => ⟨h.1, by rw [h.2]; exact Below.refl _ _⟩))⟩
      have HCM : Keep (frontG Ch.path Ch.path (x :: ts) (y :: us) = Lib.compareBytes x.path.data.toList y.path.data.toList) := ⟨rfl⟩
      clear x0 x1 x2 x3 x4 x5 x6 y0 y1 y2 y3 y4 y5 y6
      have hmp := mp_c
      have hcp := cp_c
      go_enter Try.func64, Try.ntmps64
      go_upto_region 5 with fail
      (haveI := later_any; refine wp_region_later (by kernel_rfl) (by kernel_rfl) ?_; (repeat (go_big_quiet_step (first | (go_at_call_of 111 ([Value.agg #[.string x.path, .bool x.old.there, .string x.old.text, .bool x.old.runs, .bool x.new.there, .string x.new.text, .bool x.new.runs]] : List Value); exact HC1.out _) | (go_at_call_of 111 ([Value.agg #[.string y.path, .bool y.old.there, .string y.old.text, .bool y.old.runs, .bool y.new.there, .string y.new.text, .bool y.new.runs]] : List Value); exact HC2.out _) | (go_at_call 71; exact HC3.out _)))); refine wpQuiet_nil ?_; intro _ hwq; obtain ⟨xq, hwq2⟩ := hwq; subst hwq2)
      go_wp2
      go_ret
      exact ⟨by rw [HCM.out]; rfl, xq.kept⟩
end Go.Proofs.Ytjlflmbifeocbaa

namespace Go.Proofs.Ytjlflmbifeocbaa
open Go.RowKit Go.Shelf

attribute [local go_sem] Oper.semAt_some

abbrev PC : Type := ByteArray × Option Ch × Option Ch
def yC (x : PC) : Array Value := #[cutCV (x.2.1.getD noCh), cutCV (x.2.2.getD noCh)]

theorem two_boxesC {w A X : World} {t t2 : TypeId} (hA : A = (w.alloc (.cells #[.string ⟨#[]⟩, .bool false, .string ⟨#[]⟩, .bool false, .bool false, .string ⟨#[]⟩, .bool false] t)).alloc (.cells #[.string ⟨#[]⟩, .bool false, .string ⟨#[]⟩, .bool false, .bool false, .string ⟨#[]⟩, .bool false] t2)) (hb : Below A.heap.size A X) :
    (X.cell? ⟨w.heap.size, 0, none⟩ = some (.string ⟨#[]⟩) ∧ X.cell? ⟨w.heap.size, 1, none⟩ = some (.bool false) ∧ X.cell? ⟨w.heap.size, 2, none⟩ = some (.string ⟨#[]⟩) ∧ X.cell? ⟨w.heap.size, 3, none⟩ = some (.bool false) ∧ X.cell? ⟨w.heap.size, 4, none⟩ = some (.bool false) ∧ X.cell? ⟨w.heap.size, 5, none⟩ = some (.string ⟨#[]⟩) ∧ X.cell? ⟨w.heap.size, 6, none⟩ = some (.bool false)) ∧ (X.cell? ⟨w.heap.size + 1, 0, none⟩ = some (.string ⟨#[]⟩) ∧ X.cell? ⟨w.heap.size + 1, 1, none⟩ = some (.bool false) ∧ X.cell? ⟨w.heap.size + 1, 2, none⟩ = some (.string ⟨#[]⟩) ∧ X.cell? ⟨w.heap.size + 1, 3, none⟩ = some (.bool false) ∧ X.cell? ⟨w.heap.size + 1, 4, none⟩ = some (.bool false) ∧ X.cell? ⟨w.heap.size + 1, 5, none⟩ = some (.string ⟨#[]⟩) ∧ X.cell? ⟨w.heap.size + 1, 6, none⟩ = some (.bool false)) ∧ (∀ j, X.frozen? ⟨w.heap.size, j, none⟩ = false) ∧ ∀ j, X.frozen? ⟨w.heap.size + 1, j, none⟩ = false := by
  have hl : w.heap.size + 1 < A.heap.size := by rw [hA]; simp
  refine ⟨⟨cell_later hb (by rw [hA]; simp [go_sem]), cell_later hb (by rw [hA]; simp [go_sem]), cell_later hb (by rw [hA]; simp [go_sem]), cell_later hb (by rw [hA]; simp [go_sem]), cell_later hb (by rw [hA]; simp [go_sem]), cell_later hb (by rw [hA]; simp [go_sem]), cell_later hb (by rw [hA]; simp [go_sem])⟩, ⟨cell_later hb (by rw [hA]; simp [go_sem]), cell_later hb (by rw [hA]; simp [go_sem]), cell_later hb (by rw [hA]; simp [go_sem]), cell_later hb (by rw [hA]; simp [go_sem]), cell_later hb (by rw [hA]; simp [go_sem]), cell_later hb (by rw [hA]; simp [go_sem]), cell_later hb (by rw [hA]; simp [go_sem])⟩, fun j => ?_, fun j => ?_⟩
  · exact (hb.frozen (p := ⟨w.heap.size, j, none⟩) (by show w.heap.size < _; omega)).trans (by rw [hA]; simp [go_sem])
  · exact (hb.frozen (p := ⟨w.heap.size + 1, j, none⟩) (by show w.heap.size + 1 < _; omega)).trans (by rw [hA]; simp [go_sem])

def sideMemC (Ba Bb : Nat) (a b : Option Addr) (ca cb : Nat) (ts : List Ch) (us : List Ch) (W : World) : Prop :=
  W.cell? ⟨Ba, 0, none⟩ = some (.slice a ts.length ca) ∧ W.cell? ⟨Bb, 0, none⟩ = some (.slice b us.length cb) ∧ CS W a ts ∧ CS W b us

def mrgC (ts : List Ch) (us : List Ch) : List PC := mrg Ch.path Ch.path (ts.length + us.length) ts us

set_option maxRecDepth 100000 in
set_option maxHeartbeats 8000000 in
theorem sideC1_in (n l Ba Bb : Nat) (a b : Option Addr) (ca cb : Nat) (ts : List Ch) (us : List Ch) (hca : ts.length ≤ ca) (hcb : us.length ≤ cb) (hnt : ts.length ≤ 1048576) (hnu : us.length ≤ 1048576)
    (J Jx : List PC → World → Prop) (W : World)
    (hM : ∀ pre W1, J pre W1 → sideMemC Ba Bb a b ca cb ts us W1)
    (hJ : ∀ pre W1 W2, J pre W1 → Below W1.heap.size W1 W2 → J pre W2)
    (hY : ∀ pre x W1, J pre W1 → (∃ r, mrgC ts us = (pre ++ [x]) ++ r) → YieldAt Fence.wide (n - 1) Try.prog l (yC x) W1 fun e W' =>
      (e = .returned (.bool true) ∧ J (pre ++ [x]) W') ∨ (e = .returned (.bool false) ∧ Jx (pre ++ [x]) W'))
    (h0 : J [] W) :
    CallsIn Fence.wide n Try.prog 63 #[.func (.yield l) #[] #[], .pointer (some ⟨Ba, 0, none⟩), .pointer (some ⟨Bb, 0, none⟩)] W fun e W' => (∃ v, e = .returned v) ∧
      (J (mrgC ts us) W' ∨ (∃ pre, pre <+: mrgC ts us ∧ Jx pre W')) := by
  refine callsIn_of_wp Try.func63 rfl trivial ?_ rfl
  simp only [Try.ntmps63, List.size_toArray, List.length_cons, List.length_nil, Nat.reduceAdd, Nat.reduceSub, Array.replicate_succ, Array.replicate_zero, List.push_toArray, List.append_toArray, List.nil_append, List.cons_append]
  gi_wp2
  gi_loopw [4, 5] (fun i j wr => ∃ (p q f : Nat) (pre : List PC), i = .int .i64 p ∧ j = .int .i64 q ∧ p ≤ ts.length ∧ q ≤ us.length ∧ (ts.length - p) + (us.length - q) ≤ f ∧ mrgC ts us = pre ++ mrg Ch.path Ch.path f (ts.drop p) (us.drop q) ∧ J pre wr)
    (fun i j _ => (ts.length - (intOf i).toNat) + (us.length - (intOf j).toNat))
  case atStart => exact ⟨0, 0, ts.length + us.length, [], rfl, rfl, Nat.zero_le _, Nat.zero_le _, by omega, by simp [mrgC], h0⟩
  case round =>
    obtain ⟨p, q, f, pre, rfl, rfl, hp, hq, hf, hm, hJs⟩ := hrel
    obtain ⟨m1, m2, e1, e2⟩ := hM pre wr hJs
    by_cases hend : p = ts.length ∧ q = us.length
    · obtain ⟨rfl, rfl⟩ := hend
      have hE : mrgC ts us = pre := by
        rw [hm]
        cases f with
        | zero => simp [mrg]
        | succ f => simp [mrg]
      gi_wp2
      go_end0
      exact ⟨⟨_, rfl⟩, .inl (by rw [hE]; exact hJs)⟩
    · obtain ⟨ad1, c1, hs1, hes1⟩ := cutC a ca ts p hp hca
      obtain ⟨ad2, c2, hs2, hes2⟩ := cutC b cb us q hq hcb
      have hal : Below wr.heap.size wr ((wr.alloc (.cells #[.string ⟨#[]⟩, .bool false, .string ⟨#[]⟩, .bool false, .bool false, .string ⟨#[]⟩, .bool false] 68)).alloc (.cells #[.string ⟨#[]⟩, .bool false, .string ⟨#[]⟩, .bool false, .bool false, .string ⟨#[]⟩, .bool false] 68)) := ((Below.refl _ _).alloc (Nat.le_refl _) _).alloc (by simp) _
      obtain ⟨A, hA⟩ : ∃ A, A = (wr.alloc (.cells #[.string ⟨#[]⟩, .bool false, .string ⟨#[]⟩, .bool false, .bool false, .string ⟨#[]⟩, .bool false] 68)).alloc (.cells #[.string ⟨#[]⟩, .bool false, .string ⟨#[]⟩, .bool false, .bool false, .string ⟨#[]⟩, .bool false] 68) := ⟨_, rfl⟩
      rw [← hA] at hal
      have cm1 : ∀ z : Later A, z.world.cell? ⟨Ba, 0, none⟩ = some (.slice a ts.length ca) := fun z => cell_later z.kept (cell_later hal m1)
      have cm2 : ∀ z : Later A, z.world.cell? ⟨Bb, 0, none⟩ = some (.slice b us.length cb) := fun z => cell_later z.kept (cell_later hal m2)
      have HF : Keep (∀ z : Later A, Calls Try.prog 64 #[.slice ad1 (ts.drop p).length c1, .slice ad2 (us.drop q).length c2] z.world fun e w'' => e = .returned (.int .i64 (frontG Ch.path Ch.path (ts.drop p) (us.drop q))) ∧ ∃ y : Later A, w'' = y.world) := ⟨fun z => Later.call z (frontsC_any ad1 ad2 c1 c2 (ts.drop p) (us.drop q) z.world (hes1 _ ((e1.below hal).below z.kept)) (hes2 _ ((e2.below hal).below z.kept)))⟩
      generalize hda : (ts.drop p).length = na at hs1 HF
      generalize hdb : (us.drop q).length = nb at hs2 HF
      obtain ⟨f, rfl⟩ : ∃ f', f = f' + 1 := ⟨f - 1, by omega⟩
      have hnn : ¬ (ts.drop p = [] ∧ us.drop q = []) := fun h => hend ⟨by have := congrArg List.length h.1; simp at this; omega, by have := congrArg List.length h.2; simp at this; omega⟩
      generalize ho : frontG Ch.path Ch.path (ts.drop p) (us.drop q) = o at HF
      rcases Int.lt_trichotomy o 0 with hlt | heq | hgt
      · obtain ⟨x, tr, hd, hmr⟩ := frontG_lt (f := f) (by rw [ho]; exact hlt)
        obtain ⟨hpl, rfl, rfl⟩ := drop_cons hd
        rw [hmr] at hm
        rw [List.append_cons] at hm
        obtain ⟨b1, o1, rfl, hc1⟩ := e1.at hpl
        have hpl' : (p : Int) < ts.length := by omega
        have ho1 : o ≤ 0 := by omega
        have ho2 : ¬ 0 ≤ o := by omega
        clear hc1 hd hmr hnn ho hend hlt
        gi_wp2
        rw [← hA]
        refine wpIn_wide.2 ?_
        (haveI := later_any; refine wp_region_later (by kernel_rfl) (by kernel_rfl) ?_; (repeat (go_big_quiet_step (first | (go_at_call 64; exact HF.out _)))); refine wpQuiet_nil ?_; intro _ hwq; obtain ⟨xq, hwq2⟩ := hwq; subst hwq2)
        have hX := hal.trans (xq.kept.mono hal.size)
        obtain ⟨⟨b60, b61, b62, b63, b64, b65, b66⟩, ⟨b70, b71, b72, b73, b74, b75, b76⟩, f6, f7⟩ := two_boxesC hA xq.kept
        have HE1 : Keep (CS wr (some ⟨b1, o1, none⟩) ts) := ⟨e1⟩
        have HE2 : Keep (CS wr b us) := ⟨e2⟩
        have HM1 : Keep (wr.cell? ⟨Ba, 0, none⟩ = some (.slice (some ⟨b1, o1, none⟩) ts.length ca)) := ⟨m1⟩
        have HM2 : Keep (wr.cell? ⟨Bb, 0, none⟩ = some (.slice b us.length cb)) := ⟨m2⟩
        clear hs1 hs2 hes1 hes2 HF cm1 cm2 e1 e2 m1 m2 hA hal
        generalize xq.world = X at *
        clear xq
        obtain ⟨g6, hg6⟩ : ∃ g, g = wr.heap.size := ⟨_, rfl⟩
        obtain ⟨g7, hg7⟩ : ∃ g, g = wr.heap.size + 1 := ⟨_, rfl⟩
        rw [← hg7] at b70 b71 b72 b73 b74 b75 b76 f7 ⊢
        rw [← hg6] at b60 b61 b62 b63 b64 b65 b66 f6 ⊢
        have hn67 : ¬ g6 = g7 := by omega
        have HG : Keep (wr.heap.size ≤ g6 ∧ wr.heap.size ≤ g7) := ⟨by omega⟩
        clear hg6 hg7
        have q1 := cell_later hX HM1.out
        obtain ⟨x0, x1, x2, x3, x4, x5, x6⟩ := (HE1.out.below hX).cells hpl
        gi_upto_region 8 with fail
        replace hX := box7_below (.string ts[p].path) (.bool ts[p].old.there) (.string ts[p].old.text) (.bool ts[p].old.runs) (.bool ts[p].new.there) (.string ts[p].new.text) (.bool ts[p].new.runs) hX HG.out.1
        obtain ⟨z0, z1, z2, z3, z4, z5, z6⟩ := box7_set (.string ts[p].path) (.bool ts[p].old.there) (.string ts[p].old.text) (.bool ts[p].old.runs) (.bool ts[p].new.there) (.string ts[p].new.text) (.bool ts[p].new.runs) b60 b61 b62 b63 b64 b65 b66
        replace b70 := (box7_other (.string ts[p].path) (.bool ts[p].old.there) (.string ts[p].old.text) (.bool ts[p].old.runs) (.bool ts[p].new.there) (.string ts[p].new.text) (.bool ts[p].new.runs) hn67).trans b70
        replace b71 := (box7_other (.string ts[p].path) (.bool ts[p].old.there) (.string ts[p].old.text) (.bool ts[p].old.runs) (.bool ts[p].new.there) (.string ts[p].new.text) (.bool ts[p].new.runs) hn67).trans b71
        replace b72 := (box7_other (.string ts[p].path) (.bool ts[p].old.there) (.string ts[p].old.text) (.bool ts[p].old.runs) (.bool ts[p].new.there) (.string ts[p].new.text) (.bool ts[p].new.runs) hn67).trans b72
        replace b73 := (box7_other (.string ts[p].path) (.bool ts[p].old.there) (.string ts[p].old.text) (.bool ts[p].old.runs) (.bool ts[p].new.there) (.string ts[p].new.text) (.bool ts[p].new.runs) hn67).trans b73
        replace b74 := (box7_other (.string ts[p].path) (.bool ts[p].old.there) (.string ts[p].old.text) (.bool ts[p].old.runs) (.bool ts[p].new.there) (.string ts[p].new.text) (.bool ts[p].new.runs) hn67).trans b74
        replace b75 := (box7_other (.string ts[p].path) (.bool ts[p].old.there) (.string ts[p].old.text) (.bool ts[p].old.runs) (.bool ts[p].new.there) (.string ts[p].new.text) (.bool ts[p].new.runs) hn67).trans b75
        replace b76 := (box7_other (.string ts[p].path) (.bool ts[p].old.there) (.string ts[p].old.text) (.bool ts[p].old.runs) (.bool ts[p].new.there) (.string ts[p].new.text) (.bool ts[p].new.runs) hn67).trans b76
        replace f7 : ∀ j, (((((((X.setCell ⟨g6, 0, none⟩ (.string ts[p].path)).setCell ⟨g6, 1, none⟩ (.bool ts[p].old.there)).setCell ⟨g6, 2, none⟩ (.string ts[p].old.text)).setCell ⟨g6, 3, none⟩ (.bool ts[p].old.runs)).setCell ⟨g6, 4, none⟩ (.bool ts[p].new.there)).setCell ⟨g6, 5, none⟩ (.string ts[p].new.text)).setCell ⟨g6, 6, none⟩ (.bool ts[p].new.runs)).frozen? ⟨g7, j, none⟩ = false := fun j => (box7_fz (.string ts[p].path) (.bool ts[p].old.there) (.string ts[p].old.text) (.bool ts[p].old.runs) (.bool ts[p].new.there) (.string ts[p].new.text) (.bool ts[p].new.runs)).trans (f7 j)
        clear b60 b61 b62 b63 b64 b65 b66 x0 x1 x2 x3 x4 x5 x6 q1 f6
        generalize (((((((X.setCell ⟨g6, 0, none⟩ (.string ts[p].path)).setCell ⟨g6, 1, none⟩ (.bool ts[p].old.there)).setCell ⟨g6, 2, none⟩ (.string ts[p].old.text)).setCell ⟨g6, 3, none⟩ (.bool ts[p].old.runs)).setCell ⟨g6, 4, none⟩ (.bool ts[p].new.there)).setCell ⟨g6, 5, none⟩ (.string ts[p].new.text)).setCell ⟨g6, 6, none⟩ (.bool ts[p].new.runs)) = X2 at *
        clear X
        have hY3 : YieldAt Fence.wide (n - 1) Try.prog l #[.agg #[.string ts[p].path, .bool ts[p].old.there, .string ts[p].old.text, .bool ts[p].old.runs, .bool ts[p].new.there, .string ts[p].new.text, .bool ts[p].new.runs], .agg #[.string ⟨#[]⟩, .bool false, .string ⟨#[]⟩, .bool false, .bool false, .string ⟨#[]⟩, .bool false]] X2 (fun e W' => (e = .returned (.bool true) ∧ J (pre ++ [(ts[p].path, some ts[p], none)]) W') ∨ (e = .returned (.bool false) ∧ Jx (pre ++ [(ts[p].path, some ts[p], none)]) W')) := hY pre (ts[p].path, some ts[p], none) _ (hJ pre wr _ hJs hX) ⟨_, hm⟩
        obtain ⟨fn, tmps, assign, body, hy, hR⟩ := hY3
        have HM : Keep (mrgC ts us = pre ++ [(ts[p].path, some ts[p], none)] ++ mrg Ch.path Ch.path f (ts.drop (p + 1)) (us.drop (q))) := ⟨hm⟩
        clear hY hJ hM hm hJs hX
        gi_wp2
        refine ⟨fun h => Bool.noConfusion h, hR.mono ?_⟩
        rintro e W3 (⟨rfl, hJ3⟩ | ⟨rfl, hJx3⟩)
        · gi_wp2
          go_roundw
          case rel => exact ⟨p + 1, q, f, pre ++ [(ts[p].path, some ts[p], none)], by congr 1, by congr 1, by omega, by omega, by omega, HM.out, hJ3⟩
          case measure => simp only [intOf]; omega
        · gi_wp2
          refine bodyPost_ret (results_none rfl _ _ _) rfl ?_
          exact ⟨⟨_, rfl⟩, .inr ⟨pre ++ [(ts[p].path, some ts[p], none)], ⟨_, HM.out.symm⟩, hJx3⟩⟩
      · obtain ⟨x, tr, y, ur, hd, hd2, hmr⟩ := frontG_eq (f := f) (by rw [ho]; exact heq)
        obtain ⟨hpl, rfl, rfl⟩ := drop_cons hd
        obtain ⟨hql, rfl, rfl⟩ := drop_cons hd2
        rw [hmr] at hm
        rw [List.append_cons] at hm
        obtain ⟨b1, o1, rfl, hc1⟩ := e1.at hpl
        obtain ⟨b2, o2, rfl, hc2⟩ := e2.at hql
        have hpl' : (p : Int) < ts.length := by omega
        have hql' : (q : Int) < us.length := by omega
        subst heq
        clear hc1 hc2 hd hd2 hmr hnn ho hend
        gi_wp2
        rw [← hA]
        refine wpIn_wide.2 ?_
        (haveI := later_any; refine wp_region_later (by kernel_rfl) (by kernel_rfl) ?_; (repeat (go_big_quiet_step (first | (go_at_call 64; exact HF.out _)))); refine wpQuiet_nil ?_; intro _ hwq; obtain ⟨xq, hwq2⟩ := hwq; subst hwq2)
        have hX := hal.trans (xq.kept.mono hal.size)
        obtain ⟨⟨b60, b61, b62, b63, b64, b65, b66⟩, ⟨b70, b71, b72, b73, b74, b75, b76⟩, f6, f7⟩ := two_boxesC hA xq.kept
        have HE1 : Keep (CS wr (some ⟨b1, o1, none⟩) ts) := ⟨e1⟩
        have HE2 : Keep (CS wr (some ⟨b2, o2, none⟩) us) := ⟨e2⟩
        have HM1 : Keep (wr.cell? ⟨Ba, 0, none⟩ = some (.slice (some ⟨b1, o1, none⟩) ts.length ca)) := ⟨m1⟩
        have HM2 : Keep (wr.cell? ⟨Bb, 0, none⟩ = some (.slice (some ⟨b2, o2, none⟩) us.length cb)) := ⟨m2⟩
        clear hs1 hs2 hes1 hes2 HF cm1 cm2 e1 e2 m1 m2 hA hal
        generalize xq.world = X at *
        clear xq
        obtain ⟨g6, hg6⟩ : ∃ g, g = wr.heap.size := ⟨_, rfl⟩
        obtain ⟨g7, hg7⟩ : ∃ g, g = wr.heap.size + 1 := ⟨_, rfl⟩
        rw [← hg7] at b70 b71 b72 b73 b74 b75 b76 f7 ⊢
        rw [← hg6] at b60 b61 b62 b63 b64 b65 b66 f6 ⊢
        have hn67 : ¬ g6 = g7 := by omega
        have HG : Keep (wr.heap.size ≤ g6 ∧ wr.heap.size ≤ g7) := ⟨by omega⟩
        clear hg6 hg7
        have q1 := cell_later hX HM1.out
        obtain ⟨x0, x1, x2, x3, x4, x5, x6⟩ := (HE1.out.below hX).cells hpl
        gi_upto_region 8 with fail
        replace hX := box7_below (.string ts[p].path) (.bool ts[p].old.there) (.string ts[p].old.text) (.bool ts[p].old.runs) (.bool ts[p].new.there) (.string ts[p].new.text) (.bool ts[p].new.runs) hX HG.out.1
        obtain ⟨z0, z1, z2, z3, z4, z5, z6⟩ := box7_set (.string ts[p].path) (.bool ts[p].old.there) (.string ts[p].old.text) (.bool ts[p].old.runs) (.bool ts[p].new.there) (.string ts[p].new.text) (.bool ts[p].new.runs) b60 b61 b62 b63 b64 b65 b66
        replace b70 := (box7_other (.string ts[p].path) (.bool ts[p].old.there) (.string ts[p].old.text) (.bool ts[p].old.runs) (.bool ts[p].new.there) (.string ts[p].new.text) (.bool ts[p].new.runs) hn67).trans b70
        replace b71 := (box7_other (.string ts[p].path) (.bool ts[p].old.there) (.string ts[p].old.text) (.bool ts[p].old.runs) (.bool ts[p].new.there) (.string ts[p].new.text) (.bool ts[p].new.runs) hn67).trans b71
        replace b72 := (box7_other (.string ts[p].path) (.bool ts[p].old.there) (.string ts[p].old.text) (.bool ts[p].old.runs) (.bool ts[p].new.there) (.string ts[p].new.text) (.bool ts[p].new.runs) hn67).trans b72
        replace b73 := (box7_other (.string ts[p].path) (.bool ts[p].old.there) (.string ts[p].old.text) (.bool ts[p].old.runs) (.bool ts[p].new.there) (.string ts[p].new.text) (.bool ts[p].new.runs) hn67).trans b73
        replace b74 := (box7_other (.string ts[p].path) (.bool ts[p].old.there) (.string ts[p].old.text) (.bool ts[p].old.runs) (.bool ts[p].new.there) (.string ts[p].new.text) (.bool ts[p].new.runs) hn67).trans b74
        replace b75 := (box7_other (.string ts[p].path) (.bool ts[p].old.there) (.string ts[p].old.text) (.bool ts[p].old.runs) (.bool ts[p].new.there) (.string ts[p].new.text) (.bool ts[p].new.runs) hn67).trans b75
        replace b76 := (box7_other (.string ts[p].path) (.bool ts[p].old.there) (.string ts[p].old.text) (.bool ts[p].old.runs) (.bool ts[p].new.there) (.string ts[p].new.text) (.bool ts[p].new.runs) hn67).trans b76
        replace f7 : ∀ j, (((((((X.setCell ⟨g6, 0, none⟩ (.string ts[p].path)).setCell ⟨g6, 1, none⟩ (.bool ts[p].old.there)).setCell ⟨g6, 2, none⟩ (.string ts[p].old.text)).setCell ⟨g6, 3, none⟩ (.bool ts[p].old.runs)).setCell ⟨g6, 4, none⟩ (.bool ts[p].new.there)).setCell ⟨g6, 5, none⟩ (.string ts[p].new.text)).setCell ⟨g6, 6, none⟩ (.bool ts[p].new.runs)).frozen? ⟨g7, j, none⟩ = false := fun j => (box7_fz (.string ts[p].path) (.bool ts[p].old.there) (.string ts[p].old.text) (.bool ts[p].old.runs) (.bool ts[p].new.there) (.string ts[p].new.text) (.bool ts[p].new.runs)).trans (f7 j)
        clear b60 b61 b62 b63 b64 b65 b66 x0 x1 x2 x3 x4 x5 x6 q1 f6
        generalize (((((((X.setCell ⟨g6, 0, none⟩ (.string ts[p].path)).setCell ⟨g6, 1, none⟩ (.bool ts[p].old.there)).setCell ⟨g6, 2, none⟩ (.string ts[p].old.text)).setCell ⟨g6, 3, none⟩ (.bool ts[p].old.runs)).setCell ⟨g6, 4, none⟩ (.bool ts[p].new.there)).setCell ⟨g6, 5, none⟩ (.string ts[p].new.text)).setCell ⟨g6, 6, none⟩ (.bool ts[p].new.runs)) = X2 at *
        clear X
        have q2 := cell_later hX HM2.out
        obtain ⟨y0, y1, y2, y3, y4, y5, y6⟩ := (HE2.out.below hX).cells hql
        gi_upto_region 11 with fail
        replace hX := box7_below (.string us[q].path) (.bool us[q].old.there) (.string us[q].old.text) (.bool us[q].old.runs) (.bool us[q].new.there) (.string us[q].new.text) (.bool us[q].new.runs) hX HG.out.2
        obtain ⟨v0, v1, v2, v3, v4, v5, v6⟩ := box7_set (.string us[q].path) (.bool us[q].old.there) (.string us[q].old.text) (.bool us[q].old.runs) (.bool us[q].new.there) (.string us[q].new.text) (.bool us[q].new.runs) b70 b71 b72 b73 b74 b75 b76
        have hn76 : ¬ g7 = g6 := fun e => hn67 e.symm
        replace z0 := (box7_other (.string us[q].path) (.bool us[q].old.there) (.string us[q].old.text) (.bool us[q].old.runs) (.bool us[q].new.there) (.string us[q].new.text) (.bool us[q].new.runs) hn76).trans z0
        replace z1 := (box7_other (.string us[q].path) (.bool us[q].old.there) (.string us[q].old.text) (.bool us[q].old.runs) (.bool us[q].new.there) (.string us[q].new.text) (.bool us[q].new.runs) hn76).trans z1
        replace z2 := (box7_other (.string us[q].path) (.bool us[q].old.there) (.string us[q].old.text) (.bool us[q].old.runs) (.bool us[q].new.there) (.string us[q].new.text) (.bool us[q].new.runs) hn76).trans z2
        replace z3 := (box7_other (.string us[q].path) (.bool us[q].old.there) (.string us[q].old.text) (.bool us[q].old.runs) (.bool us[q].new.there) (.string us[q].new.text) (.bool us[q].new.runs) hn76).trans z3
        replace z4 := (box7_other (.string us[q].path) (.bool us[q].old.there) (.string us[q].old.text) (.bool us[q].old.runs) (.bool us[q].new.there) (.string us[q].new.text) (.bool us[q].new.runs) hn76).trans z4
        replace z5 := (box7_other (.string us[q].path) (.bool us[q].old.there) (.string us[q].old.text) (.bool us[q].old.runs) (.bool us[q].new.there) (.string us[q].new.text) (.bool us[q].new.runs) hn76).trans z5
        replace z6 := (box7_other (.string us[q].path) (.bool us[q].old.there) (.string us[q].old.text) (.bool us[q].old.runs) (.bool us[q].new.there) (.string us[q].new.text) (.bool us[q].new.runs) hn76).trans z6
        clear b70 b71 b72 b73 b74 b75 b76 y0 y1 y2 y3 y4 y5 y6 q2 f7
        generalize (((((((X2.setCell ⟨g7, 0, none⟩ (.string us[q].path)).setCell ⟨g7, 1, none⟩ (.bool us[q].old.there)).setCell ⟨g7, 2, none⟩ (.string us[q].old.text)).setCell ⟨g7, 3, none⟩ (.bool us[q].old.runs)).setCell ⟨g7, 4, none⟩ (.bool us[q].new.there)).setCell ⟨g7, 5, none⟩ (.string us[q].new.text)).setCell ⟨g7, 6, none⟩ (.bool us[q].new.runs)) = X3 at *
        have hY3 : YieldAt Fence.wide (n - 1) Try.prog l #[.agg #[.string ts[p].path, .bool ts[p].old.there, .string ts[p].old.text, .bool ts[p].old.runs, .bool ts[p].new.there, .string ts[p].new.text, .bool ts[p].new.runs], .agg #[.string us[q].path, .bool us[q].old.there, .string us[q].old.text, .bool us[q].old.runs, .bool us[q].new.there, .string us[q].new.text, .bool us[q].new.runs]] X3 (fun e W' => (e = .returned (.bool true) ∧ J (pre ++ [(ts[p].path, some ts[p], some us[q])]) W') ∨ (e = .returned (.bool false) ∧ Jx (pre ++ [(ts[p].path, some ts[p], some us[q])]) W')) := hY pre (ts[p].path, some ts[p], some us[q]) _ (hJ pre wr _ hJs hX) ⟨_, hm⟩
        obtain ⟨fn, tmps, assign, body, hy, hR⟩ := hY3
        have HM : Keep (mrgC ts us = pre ++ [(ts[p].path, some ts[p], some us[q])] ++ mrg Ch.path Ch.path f (ts.drop (p + 1)) (us.drop (q + 1))) := ⟨hm⟩
        clear hY hJ hM hm hJs hX
        gi_wp2
        refine ⟨fun h => Bool.noConfusion h, hR.mono ?_⟩
        rintro e W3 (⟨rfl, hJ3⟩ | ⟨rfl, hJx3⟩)
        · gi_wp2
          go_roundw
          case rel => exact ⟨p + 1, q + 1, f, pre ++ [(ts[p].path, some ts[p], some us[q])], by congr 1, by congr 1, by omega, by omega, by omega, HM.out, hJ3⟩
          case measure => simp only [intOf]; omega
        · gi_wp2
          refine bodyPost_ret (results_none rfl _ _ _) rfl ?_
          exact ⟨⟨_, rfl⟩, .inr ⟨pre ++ [(ts[p].path, some ts[p], some us[q])], ⟨_, HM.out.symm⟩, hJx3⟩⟩
      · obtain ⟨y, ur, hd, hmr⟩ := frontG_gt (f := f) (by rw [ho]; exact hgt) hnn
        obtain ⟨hql, rfl, rfl⟩ := drop_cons hd
        rw [hmr] at hm
        rw [List.append_cons] at hm
        obtain ⟨b2, o2, rfl, hc2⟩ := e2.at hql
        have hql' : (q : Int) < us.length := by omega
        have ho1 : ¬ o ≤ 0 := by omega
        have ho2 : 0 ≤ o := by omega
        clear hc2 hd hmr hnn ho hend hgt
        by_cases hpl : p < ts.length
        · have hpl' : (p : Int) < ts.length := by omega
          gi_wp2
          rw [← hA]
          refine wpIn_wide.2 ?_
          (haveI := later_any; refine wp_region_later (by kernel_rfl) (by kernel_rfl) ?_; (repeat (go_big_quiet_step (first | (go_at_call 64; exact HF.out _)))); refine wpQuiet_nil ?_; intro _ hwq; obtain ⟨xq, hwq2⟩ := hwq; subst hwq2)
          have hX := hal.trans (xq.kept.mono hal.size)
          obtain ⟨⟨b60, b61, b62, b63, b64, b65, b66⟩, ⟨b70, b71, b72, b73, b74, b75, b76⟩, f6, f7⟩ := two_boxesC hA xq.kept
          have HE1 : Keep (CS wr a ts) := ⟨e1⟩
          have HE2 : Keep (CS wr (some ⟨b2, o2, none⟩) us) := ⟨e2⟩
          have HM1 : Keep (wr.cell? ⟨Ba, 0, none⟩ = some (.slice a ts.length ca)) := ⟨m1⟩
          have HM2 : Keep (wr.cell? ⟨Bb, 0, none⟩ = some (.slice (some ⟨b2, o2, none⟩) us.length cb)) := ⟨m2⟩
          clear hs1 hs2 hes1 hes2 HF cm1 cm2 e1 e2 m1 m2 hA hal
          generalize xq.world = X at *
          clear xq
          obtain ⟨g6, hg6⟩ : ∃ g, g = wr.heap.size := ⟨_, rfl⟩
          obtain ⟨g7, hg7⟩ : ∃ g, g = wr.heap.size + 1 := ⟨_, rfl⟩
          rw [← hg7] at b70 b71 b72 b73 b74 b75 b76 f7 ⊢
          rw [← hg6] at b60 b61 b62 b63 b64 b65 b66 f6 ⊢
          have hn67 : ¬ g6 = g7 := by omega
          have HG : Keep (wr.heap.size ≤ g6 ∧ wr.heap.size ≤ g7) := ⟨by omega⟩
          clear hg6 hg7
          have q2 := cell_later hX HM2.out
          obtain ⟨y0, y1, y2, y3, y4, y5, y6⟩ := (HE2.out.below hX).cells hql
          gi_upto_region 11 with fail
          replace hX := box7_below (.string us[q].path) (.bool us[q].old.there) (.string us[q].old.text) (.bool us[q].old.runs) (.bool us[q].new.there) (.string us[q].new.text) (.bool us[q].new.runs) hX HG.out.2
          obtain ⟨v0, v1, v2, v3, v4, v5, v6⟩ := box7_set (.string us[q].path) (.bool us[q].old.there) (.string us[q].old.text) (.bool us[q].old.runs) (.bool us[q].new.there) (.string us[q].new.text) (.bool us[q].new.runs) b70 b71 b72 b73 b74 b75 b76
          have hn76 : ¬ g7 = g6 := fun e => hn67 e.symm
          replace b60 := (box7_other (.string us[q].path) (.bool us[q].old.there) (.string us[q].old.text) (.bool us[q].old.runs) (.bool us[q].new.there) (.string us[q].new.text) (.bool us[q].new.runs) hn76).trans b60
          replace b61 := (box7_other (.string us[q].path) (.bool us[q].old.there) (.string us[q].old.text) (.bool us[q].old.runs) (.bool us[q].new.there) (.string us[q].new.text) (.bool us[q].new.runs) hn76).trans b61
          replace b62 := (box7_other (.string us[q].path) (.bool us[q].old.there) (.string us[q].old.text) (.bool us[q].old.runs) (.bool us[q].new.there) (.string us[q].new.text) (.bool us[q].new.runs) hn76).trans b62
          replace b63 := (box7_other (.string us[q].path) (.bool us[q].old.there) (.string us[q].old.text) (.bool us[q].old.runs) (.bool us[q].new.there) (.string us[q].new.text) (.bool us[q].new.runs) hn76).trans b63
          replace b64 := (box7_other (.string us[q].path) (.bool us[q].old.there) (.string us[q].old.text) (.bool us[q].old.runs) (.bool us[q].new.there) (.string us[q].new.text) (.bool us[q].new.runs) hn76).trans b64
          replace b65 := (box7_other (.string us[q].path) (.bool us[q].old.there) (.string us[q].old.text) (.bool us[q].old.runs) (.bool us[q].new.there) (.string us[q].new.text) (.bool us[q].new.runs) hn76).trans b65
          replace b66 := (box7_other (.string us[q].path) (.bool us[q].old.there) (.string us[q].old.text) (.bool us[q].old.runs) (.bool us[q].new.there) (.string us[q].new.text) (.bool us[q].new.runs) hn76).trans b66
          clear b70 b71 b72 b73 b74 b75 b76 y0 y1 y2 y3 y4 y5 y6 q2 f7
          generalize (((((((X.setCell ⟨g7, 0, none⟩ (.string us[q].path)).setCell ⟨g7, 1, none⟩ (.bool us[q].old.there)).setCell ⟨g7, 2, none⟩ (.string us[q].old.text)).setCell ⟨g7, 3, none⟩ (.bool us[q].old.runs)).setCell ⟨g7, 4, none⟩ (.bool us[q].new.there)).setCell ⟨g7, 5, none⟩ (.string us[q].new.text)).setCell ⟨g7, 6, none⟩ (.bool us[q].new.runs)) = X3 at *
          have hY3 : YieldAt Fence.wide (n - 1) Try.prog l #[.agg #[.string ⟨#[]⟩, .bool false, .string ⟨#[]⟩, .bool false, .bool false, .string ⟨#[]⟩, .bool false], .agg #[.string us[q].path, .bool us[q].old.there, .string us[q].old.text, .bool us[q].old.runs, .bool us[q].new.there, .string us[q].new.text, .bool us[q].new.runs]] X3 (fun e W' => (e = .returned (.bool true) ∧ J (pre ++ [(us[q].path, none, some us[q])]) W') ∨ (e = .returned (.bool false) ∧ Jx (pre ++ [(us[q].path, none, some us[q])]) W')) := hY pre (us[q].path, none, some us[q]) _ (hJ pre wr _ hJs hX) ⟨_, hm⟩
          obtain ⟨fn, tmps, assign, body, hy, hR⟩ := hY3
          have HM : Keep (mrgC ts us = pre ++ [(us[q].path, none, some us[q])] ++ mrg Ch.path Ch.path f (ts.drop (p)) (us.drop (q + 1))) := ⟨hm⟩
          clear hY hJ hM hm hJs hX
          gi_wp2
          refine ⟨fun h => Bool.noConfusion h, hR.mono ?_⟩
          rintro e W3 (⟨rfl, hJ3⟩ | ⟨rfl, hJx3⟩)
          · gi_wp2
            go_roundw
            case rel => exact ⟨p, q + 1, f, pre ++ [(us[q].path, none, some us[q])], by congr 1, by congr 1, by omega, by omega, by omega, HM.out, hJ3⟩
            case measure => simp only [intOf]; omega
          · gi_wp2
            refine bodyPost_ret (results_none rfl _ _ _) rfl ?_
            exact ⟨⟨_, rfl⟩, .inr ⟨pre ++ [(us[q].path, none, some us[q])], ⟨_, HM.out.symm⟩, hJx3⟩⟩
        · have hpl' : ¬ (p : Int) < ts.length := by omega
          gi_wp2
          rw [← hA]
          refine wpIn_wide.2 ?_
          (haveI := later_any; refine wp_region_later (by kernel_rfl) (by kernel_rfl) ?_; (repeat (go_big_quiet_step (first | (go_at_call 64; exact HF.out _)))); refine wpQuiet_nil ?_; intro _ hwq; obtain ⟨xq, hwq2⟩ := hwq; subst hwq2)
          have hX := hal.trans (xq.kept.mono hal.size)
          obtain ⟨⟨b60, b61, b62, b63, b64, b65, b66⟩, ⟨b70, b71, b72, b73, b74, b75, b76⟩, f6, f7⟩ := two_boxesC hA xq.kept
          have HE1 : Keep (CS wr a ts) := ⟨e1⟩
          have HE2 : Keep (CS wr (some ⟨b2, o2, none⟩) us) := ⟨e2⟩
          have HM1 : Keep (wr.cell? ⟨Ba, 0, none⟩ = some (.slice a ts.length ca)) := ⟨m1⟩
          have HM2 : Keep (wr.cell? ⟨Bb, 0, none⟩ = some (.slice (some ⟨b2, o2, none⟩) us.length cb)) := ⟨m2⟩
          clear hs1 hs2 hes1 hes2 HF cm1 cm2 e1 e2 m1 m2 hA hal
          generalize xq.world = X at *
          clear xq
          obtain ⟨g6, hg6⟩ : ∃ g, g = wr.heap.size := ⟨_, rfl⟩
          obtain ⟨g7, hg7⟩ : ∃ g, g = wr.heap.size + 1 := ⟨_, rfl⟩
          rw [← hg7] at b70 b71 b72 b73 b74 b75 b76 f7 ⊢
          rw [← hg6] at b60 b61 b62 b63 b64 b65 b66 f6 ⊢
          have hn67 : ¬ g6 = g7 := by omega
          have HG : Keep (wr.heap.size ≤ g6 ∧ wr.heap.size ≤ g7) := ⟨by omega⟩
          clear hg6 hg7
          have q2 := cell_later hX HM2.out
          obtain ⟨y0, y1, y2, y3, y4, y5, y6⟩ := (HE2.out.below hX).cells hql
          gi_upto_region 11 with fail
          replace hX := box7_below (.string us[q].path) (.bool us[q].old.there) (.string us[q].old.text) (.bool us[q].old.runs) (.bool us[q].new.there) (.string us[q].new.text) (.bool us[q].new.runs) hX HG.out.2
          obtain ⟨v0, v1, v2, v3, v4, v5, v6⟩ := box7_set (.string us[q].path) (.bool us[q].old.there) (.string us[q].old.text) (.bool us[q].old.runs) (.bool us[q].new.there) (.string us[q].new.text) (.bool us[q].new.runs) b70 b71 b72 b73 b74 b75 b76
          have hn76 : ¬ g7 = g6 := fun e => hn67 e.symm
          replace b60 := (box7_other (.string us[q].path) (.bool us[q].old.there) (.string us[q].old.text) (.bool us[q].old.runs) (.bool us[q].new.there) (.string us[q].new.text) (.bool us[q].new.runs) hn76).trans b60
          replace b61 := (box7_other (.string us[q].path) (.bool us[q].old.there) (.string us[q].old.text) (.bool us[q].old.runs) (.bool us[q].new.there) (.string us[q].new.text) (.bool us[q].new.runs) hn76).trans b61
          replace b62 := (box7_other (.string us[q].path) (.bool us[q].old.there) (.string us[q].old.text) (.bool us[q].old.runs) (.bool us[q].new.there) (.string us[q].new.text) (.bool us[q].new.runs) hn76).trans b62
          replace b63 := (box7_other (.string us[q].path) (.bool us[q].old.there) (.string us[q].old.text) (.bool us[q].old.runs) (.bool us[q].new.there) (.string us[q].new.text) (.bool us[q].new.runs) hn76).trans b63
          replace b64 := (box7_other (.string us[q].path) (.bool us[q].old.there) (.string us[q].old.text) (.bool us[q].old.runs) (.bool us[q].new.there) (.string us[q].new.text) (.bool us[q].new.runs) hn76).trans b64
          replace b65 := (box7_other (.string us[q].path) (.bool us[q].old.there) (.string us[q].old.text) (.bool us[q].old.runs) (.bool us[q].new.there) (.string us[q].new.text) (.bool us[q].new.runs) hn76).trans b65
          replace b66 := (box7_other (.string us[q].path) (.bool us[q].old.there) (.string us[q].old.text) (.bool us[q].old.runs) (.bool us[q].new.there) (.string us[q].new.text) (.bool us[q].new.runs) hn76).trans b66
          clear b70 b71 b72 b73 b74 b75 b76 y0 y1 y2 y3 y4 y5 y6 q2 f7
          generalize (((((((X.setCell ⟨g7, 0, none⟩ (.string us[q].path)).setCell ⟨g7, 1, none⟩ (.bool us[q].old.there)).setCell ⟨g7, 2, none⟩ (.string us[q].old.text)).setCell ⟨g7, 3, none⟩ (.bool us[q].old.runs)).setCell ⟨g7, 4, none⟩ (.bool us[q].new.there)).setCell ⟨g7, 5, none⟩ (.string us[q].new.text)).setCell ⟨g7, 6, none⟩ (.bool us[q].new.runs)) = X3 at *
          have hY3 : YieldAt Fence.wide (n - 1) Try.prog l #[.agg #[.string ⟨#[]⟩, .bool false, .string ⟨#[]⟩, .bool false, .bool false, .string ⟨#[]⟩, .bool false], .agg #[.string us[q].path, .bool us[q].old.there, .string us[q].old.text, .bool us[q].old.runs, .bool us[q].new.there, .string us[q].new.text, .bool us[q].new.runs]] X3 (fun e W' => (e = .returned (.bool true) ∧ J (pre ++ [(us[q].path, none, some us[q])]) W') ∨ (e = .returned (.bool false) ∧ Jx (pre ++ [(us[q].path, none, some us[q])]) W')) := hY pre (us[q].path, none, some us[q]) _ (hJ pre wr _ hJs hX) ⟨_, hm⟩
          obtain ⟨fn, tmps, assign, body, hy, hR⟩ := hY3
          have HM : Keep (mrgC ts us = pre ++ [(us[q].path, none, some us[q])] ++ mrg Ch.path Ch.path f (ts.drop (p)) (us.drop (q + 1))) := ⟨hm⟩
          clear hY hJ hM hm hJs hX
          gi_wp2
          refine ⟨fun h => Bool.noConfusion h, hR.mono ?_⟩
          rintro e W3 (⟨rfl, hJ3⟩ | ⟨rfl, hJx3⟩)
          · gi_wp2
            go_roundw
            case rel => exact ⟨p, q + 1, f, pre ++ [(us[q].path, none, some us[q])], by congr 1, by congr 1, by omega, by omega, by omega, HM.out, hJ3⟩
            case measure => simp only [intOf]; omega
          · gi_wp2
            refine bodyPost_ret (results_none rfl _ _ _) rfl ?_
            exact ⟨⟨_, rfl⟩, .inr ⟨pre ++ [(us[q].path, none, some us[q])], ⟨_, HM.out.symm⟩, hJx3⟩⟩

set_option maxHeartbeats 400000 in
theorem sideC_any (a b : Option Addr) (n m ca cb : Nat) (w : World) :
    Calls Try.prog 41 #[.slice a n ca, .slice b m cb] w fun e w' => e = .returned (.func (.func 63) #[] #[.pointer (some ⟨w.heap.size, 0, none⟩), .pointer (some ⟨w.heap.size + 1, 0, none⟩)]) ∧ w' = (w.alloc (.cells #[.slice a n ca] 28)).alloc (.cells #[.slice b m cb] 28) := by
  go_enter Try.func41, Try.ntmps41
  go_wp2
  go_ret
  exact ⟨by simp, rfl⟩
end Go.Proofs.Ytjlflmbifeocbaa

namespace Go.Proofs.Ytjlflmbifeocbaa
open Go.RowKit Go.Shelf

theorem sideC_iter (Ba Bb : Nat) (a b : Option Addr) (ca cb : Nat) (ts us : List Ch) (hca : ts.length ≤ ca) (hcb : us.length ≤ cb) (hnt : ts.length ≤ 1048576) (hnu : us.length ≤ 1048576) :
    Iter 63 #[.pointer (some ⟨Ba, 0, none⟩), .pointer (some ⟨Bb, 0, none⟩)] yC (mrgC ts us) (sideMemC Ba Bb a b ca cb ts us) :=
  fun n l J Jx W hM hJ hY h0 => sideC1_in n l Ba Bb a b ca cb ts us hca hcb hnt hnu J Jx W hM hJ hY h0

theorem OutCh.own_lt {h : Nat} {W0 W : World} {v : Value} {us : List Ch} (s : OutCh h W0 v us W) {k : Nat} (hk : v.ownBlock = some k) : k < W.heap.size := by
  rcases s.row.2 with ⟨e, _⟩ | ⟨g, cap, cur, e, _, hg, _⟩
  · rw [e] at hk; simp [Value.ownBlock] at hk
  · rw [e] at hk; simp [Value.ownBlock] at hk; subst hk; exact (Array.getElem?_eq_some_iff.1 hg).1
theorem OutCh.other {h B : Nat} {W0 W W' : World} {v : Value} {us : List Ch} (s : OutCh h W0 v us W) (hg : W.grownBy W' (some B)) (hB : W0.heap.size ≤ B) (hv : v.ownBlock ≠ some B) : OutCh h W0 v us W' := by
  have hl := s.lt
  have hh := hg.block h s.size (fun e => by cases e; omega)
  refine ⟨(World.cell?_of_block hh).trans s.cell, frozen_of hh s.fz, s.row.kept hg (Or.inr hv), ⟨hg.os.trans s.grown.os, hg.tape.trans s.grown.tape, hg.output.trans s.grown.output, Nat.le_trans s.grown.size hg.size, fun k hk hne => ?_⟩, hl⟩
  exact (hg.block k (Nat.lt_of_lt_of_le hk s.grown.size) (fun e => by cases e; omega)).trans (s.grown.block k hk hne)
theorem OutCh.putJ {h l : Nat} {W0 W : World} {v : Value} {us : List Ch} (s : OutCh h W0 v us W) (o : Obj) (hl : l < W0.heap.size) (hne : l ≠ h) : OutCh h (W0.putObj l o) v us (W.putObj l o) := by
  have hb : ∀ (X : World) (k : Nat), k ≠ l → (X.putObj l o).heap[k]? = X.heap[k]? := fun X k hk => World.putObj_heap_other hk
  have hh := hb W h (fun e => hne e.symm)
  have hg : W.grownBy (W.putObj l o) (some l) := ⟨rfl, rfl, rfl, by simp, fun k _ hk => hb W k (fun e => hk (by rw [e]))⟩
  have hlW := Nat.lt_of_lt_of_le hl s.grown.size
  refine ⟨(World.cell?_of_block hh).trans s.cell, frozen_of hh s.fz, ?_, ⟨s.grown.os, s.grown.tape, s.grown.output, by simpa using s.grown.size, fun k hk hkh => ?_⟩, by simpa using s.lt⟩
  · have h1 := s.row.kept hg (Or.inr (fun e => by have := owns_row_ge s.row e; omega))
    simpa using h1
  · have hk' : k < W0.heap.size := by simpa using hk
    by_cases e : k = l
    · subst e
      rw [World.putObj_heap_same hlW, World.putObj_heap_same hl]
    · rw [hb W k e, hb W0 k e]
      exact s.grown.block k hk' hkh

def chgL (p : ByteArray) (f g : Fl) : List Ch := if sameF f g = true then [] else [⟨p, f, g⟩]
theorem chg_pair (ob : Nat) (Wz : World) (v : Value) (us : List Ch) (p : ByteArray) (f g : Fl) (w : World) (hst : OutCh ob Wz v us w) (hul : us.length ≤ 1048576) (hp : p.size ≤ 1048576) (hx : f.text.size ≤ 1048576) (hy : g.text.size ≤ 1048576) :
    Calls Try.prog 31 #[.pointer (some ⟨ob, 0, none⟩), .string p, .agg #[.bool f.there, .string f.text, .bool f.runs], .agg #[.bool g.there, .string g.text, .bool g.runs]] w fun e w' => e = .returned (.tuple #[]) ∧ ∃ v', OutCh ob Wz v' (us ++ chgL p f g) w' := by
  unfold chgL
  cases hs : sameF f g with
  | true =>
    refine (change_none ob p f g w hs).mono ?_
    rintro e w' ⟨rfl, hb⟩
    exact ⟨rfl, v, by simpa using hst.later hb⟩
  | false =>
    refine (change_any ob Wz v us ⟨p, f, g⟩ w hst hul hs (by show p.size ≤ _; omega) (by show f.text.size ≤ _; omega) (by show g.text.size ≤ _; omega)).mono ?_
    rintro e w' ⟨rfl, ad, cap, h⟩
    exact ⟨rfl, _, by simpa using h⟩

def outsJ (pre : List PC) : List Ch := pre.flatMap fun x => outJ2 x.1 x.2.1 x.2.2
theorem outsJ_snoc (pre : List PC) (x : PC) : outsJ (pre ++ [x]) = outsJ pre ++ outJ2 x.1 x.2.1 x.2.2 := by simp [outsJ]
theorem outsJ_len (pre : List PC) : (outsJ pre).length ≤ pre.length := by
  induction pre with
  | nil => simp [outsJ]
  | cons x pre ih =>
    have h1 : outsJ (x :: pre) = outJ2 x.1 x.2.1 x.2.2 ++ outsJ pre := by simp [outsJ]
    have h2 := outJ2_len x.1 x.2.1 x.2.2
    rw [h1, List.length_append, List.length_cons]
    omega
theorem validP_ok {cs : List Ch} (h : ValidP cs) {c : Ch} (hc : c ∈ cs) : chOk c = true := by
  obtain ⟨i, hi, rfl⟩ := List.getElem_of_mem hc
  obtain ⟨_, h1, _⟩ := h.2 i hi
  exact h1
theorem validP_asc {cs : List Ch} (h : ValidP cs) : AscK Ch.path cs := by
  have key : ∀ i, i < cs.length → ∀ j, j < i → ∀ (hi : i < cs.length) (hj : j < cs.length), Op.bytesLess cs[j].path.toList cs[i].path.toList = true := by
    intro i
    induction i with
    | zero => intro _ j hj; omega
    | succ i ih =>
      intro hi j hj hi' hj'
      obtain ⟨_, _, h1⟩ := h.2 (i + 1) hi
      have h2 := h1 i rfl (by omega)
      by_cases e : j = i
      · subst e; exact h2
      · exact less_trans (ih (by omega) j (by omega) (by omega) hj') h2
  exact List.pairwise_iff_getElem.2 fun i j hi hj hij => key j hj i hij hj hi
theorem mrgC_is {p q : List Ch} (hp : ValidP p) (hq : ValidP q) : mrgC p q = (joinNs p q).map fun n => (n, fnd Ch.path p n, fnd Ch.path q n) :=
  mrg_eq Ch.path Ch.path (p.length + q.length) p q (joinNs p q) (Nat.le_refl _) (validP_asc hp) (validP_asc hq) (joinNs_mem p q).1 (joinNs_mem p q).2
theorem outs_join {p q : List Ch} (hp : ValidP p) (hq : ValidP q) : outsJ (mrgC p q) = joinN p q (joinNs p q) := by
  rw [mrgC_is hp hq]
  unfold outsJ joinN
  rw [List.flatMap_map]
  rfl
theorem mrg_lenJ {α β : Type} (pa : α → ByteArray) (pb : β → ByteArray) : ∀ (n : Nat) (ts : List α) (us : List β), (mrg pa pb n ts us).length ≤ n
  | 0, _, _ => by simp [mrg]
  | n + 1, [], [] => by simp [mrg]
  | n + 1, [], y :: us => by have := mrg_lenJ pa pb n [] us; simp only [mrg, List.length_cons]; omega
  | n + 1, x :: ts, [] => by have := mrg_lenJ pa pb n ts []; simp only [mrg, List.length_cons]; omega
  | n + 1, x :: ts, y :: us => by
    have h1 := mrg_lenJ pa pb n ts (y :: us)
    have h2 := mrg_lenJ pa pb n (x :: ts) us
    have h3 := mrg_lenJ pa pb n ts us
    simp only [mrg]
    split
    · simp only [List.length_cons]; omega
    · split
      · simp only [List.length_cons]; omega
      · simp only [List.length_cons]; omega
/-- Which of the two lists have a path. -/
theorem mrgC_cases {p q : List Ch} (hp : ValidP p) (hq : ValidP q) {x : PC} (hx : x ∈ mrgC p q) :
    (∃ d ∈ q, x = (d.path, none, some d)) ∨ (∃ c ∈ p, x = (c.path, some c, none)) ∨ ∃ c ∈ p, ∃ d ∈ q, d.path = c.path ∧ x = (c.path, some c, some d) := by
  rw [mrgC_is hp hq] at hx
  obtain ⟨n, hn, rfl⟩ := List.mem_map.1 hx
  cases h1 : fnd Ch.path p n with
  | none =>
    cases h2 : fnd Ch.path q n with
    | none =>
      exfalso
      rcases (joinNs_mem p q).2 n |>.1 hn with ⟨z, hz, hzn⟩ | ⟨z, hz, hzn⟩
      · unfold fnd at h1
        rw [List.find?_eq_none] at h1
        exact h1 z hz (eqb_iff.2 hzn)
      · unfold fnd at h2
        rw [List.find?_eq_none] at h2
        exact h2 z hz (eqb_iff.2 hzn)
    | some d =>
      obtain ⟨h3, rfl⟩ := fnd_some h2
      exact .inl ⟨d, h3, rfl⟩
  | some c =>
    obtain ⟨h3, rfl⟩ := fnd_some h1
    cases h2 : fnd Ch.path q c.path with
    | none => exact .inr (.inl ⟨c, h3, rfl⟩)
    | some d =>
      obtain ⟨h4, h5⟩ := fnd_some h2
      exact .inr (.inr ⟨c, h3, d, h4, h5, rfl⟩)
theorem chOk_parts {c : Ch} (h : chOk c = true) : (c.path.toList == ([] : List UInt8)) = false ∧ sameF c.old c.new = false ∧ c.old.text.size ≤ 1500 ∧ c.new.text.size ≤ 1500 := by
  simp only [chOk, flOk, Bool.and_eq_true, decide_eq_true_eq, Bool.not_eq_true'] at h
  obtain ⟨⟨⟨h1, h2, _⟩, h3, _⟩, h4⟩ := h
  refine ⟨?_, h4, h2, h3⟩
  rw [Bool.eq_false_iff]
  intro e
  have e1 : c.path = ⟨#[]⟩ := WideShapes.bytes_inj (by rw [← Lib.toList_data, (by simpa using e : c.path.toList = [])])
  rw [e1] at h1
  revert h1
  decide
end Go.Proofs.Ytjlflmbifeocbaa

namespace Go.Proofs.Ytjlflmbifeocbaa
open Go.RowKit Go.Shelf

attribute [local go_sem] Oper.semAt_some

def JnI (wl : World) (ob : Nat) (pre : List PC) (W : World) : Prop :=
  (∀ x ∈ pre, clJ2 x.2.1 x.2.2 = false) ∧ ∃ Wz v, Wz.heap.size = wl.heap.size + 2 ∧ Below wl.heap.size wl Wz ∧ OutCh ob Wz v (outsJ pre) W
def JnX (w : World) (g h : Nat) (pre : List PC) (W : World) : Prop :=
  (∃ x ∈ pre, clJ2 x.2.1 x.2.2 = true) ∧ Below w.heap.size w W ∧ W.cell? ⟨g, 0, none⟩ = some (.slice none 0 0) ∧ W.cell? ⟨h, 0, none⟩ = some (.bool false)

/-- What Join gives, its room besides. -/
def JoinPostC (p q : List Ch) (w : World) (e : Ending) (w' : World) : Prop :=
  ∃ cs ok, JoinRel p q cs ok ∧ (∃ ad cap, e = .returned (.tuple #[.agg #[.slice ad cs.length cap], .bool ok]) ∧ CL w.heap.size w' ad cs ∧ cs.length ≤ cap) ∧ Below w.heap.size w w'

set_option maxRecDepth 100000 in
set_option maxHeartbeats 40000000 in
theorem implJoinC_any (a b : Option Addr) (ca cb : Nat) (ps qs : List Ch) (w : World) (hps : CS w a ps) (hqs : CS w b qs) (hn : ps.length ≤ 1048576) (hnb : qs.length ≤ 1048576) (hca : ps.length ≤ ca) (hcb : qs.length ≤ cb) (hz : ∀ c ∈ ps, c.path.size ≤ 1048576) (hzb : ∀ c ∈ qs, c.path.size ≤ 1048576) :
    Calls Try.prog 13 #[.agg #[.slice a ps.length ca], .agg #[.slice b qs.length cb]] w fun e w' => JoinPostC ps qs w e w' := by
  have hal : Below w.heap.size w ((((w.alloc (.cells #[.slice a ps.length ca] 30)).alloc (.cells #[.slice b qs.length cb] 30)).alloc (.cells #[.slice none 0 0] 30)).alloc (.cells #[.bool false] 4)) := ((((Below.refl _ _).alloc (Nat.le_refl _) _).alloc (by simp) _).alloc (by simp; omega) _).alloc (by simp; omega) _
  have m0 : ((((w.alloc (.cells #[.slice a ps.length ca] 30)).alloc (.cells #[.slice b qs.length cb] 30)).alloc (.cells #[.slice none 0 0] 30)).alloc (.cells #[.bool false] 4)).cell? ⟨w.heap.size, 0, none⟩ = some (.slice a ps.length ca) := by simp [go_sem]
  have m1 : ((((w.alloc (.cells #[.slice a ps.length ca] 30)).alloc (.cells #[.slice b qs.length cb] 30)).alloc (.cells #[.slice none 0 0] 30)).alloc (.cells #[.bool false] 4)).cell? ⟨w.heap.size + 1, 0, none⟩ = some (.slice b qs.length cb) := by simp [go_sem]
  have k0 : ((((w.alloc (.cells #[.slice a ps.length ca] 30)).alloc (.cells #[.slice b qs.length cb] 30)).alloc (.cells #[.slice none 0 0] 30)).alloc (.cells #[.bool false] 4)).cell? ⟨w.heap.size + 1 + 1, 0, none⟩ = some (.slice none 0 0) := by simp [go_sem]
  have kf : ((((w.alloc (.cells #[.slice a ps.length ca] 30)).alloc (.cells #[.slice b qs.length cb] 30)).alloc (.cells #[.slice none 0 0] 30)).alloc (.cells #[.bool false] 4)).frozen? ⟨w.heap.size + 1 + 1, 0, none⟩ = false := by simp [go_sem]
  have h0 : ((((w.alloc (.cells #[.slice a ps.length ca] 30)).alloc (.cells #[.slice b qs.length cb] 30)).alloc (.cells #[.slice none 0 0] 30)).alloc (.cells #[.bool false] 4)).cell? ⟨w.heap.size + 1 + 1 + 1, 0, none⟩ = some (.bool false) := by simp [go_sem]
  have hf : ((((w.alloc (.cells #[.slice a ps.length ca] 30)).alloc (.cells #[.slice b qs.length cb] 30)).alloc (.cells #[.slice none 0 0] 30)).alloc (.cells #[.bool false] 4)).frozen? ⟨w.heap.size + 1 + 1 + 1, 0, none⟩ = false := by simp [go_sem]
  have os0 : w.heap.size + 1 + 1 + 1 < ((((w.alloc (.cells #[.slice a ps.length ca] 30)).alloc (.cells #[.slice b qs.length cb] 30)).alloc (.cells #[.slice none 0 0] 30)).alloc (.cells #[.bool false] 4)).heap.size := by simp [go_sem]
  refine (callsIn_wide (n := 5)).1 ?_
  refine callsIn_of_wp_marks Try.func13 rfl trivial ?_ rfl
  simp only [Try.ntmps13, List.size_toArray, List.length_cons, List.length_nil, Nat.reduceAdd, Nat.reduceSub, Array.replicate_succ, Array.replicate_zero, List.push_toArray, List.append_toArray, List.nil_append, List.cons_append]
  gi_wp2_with fail
  refine ⟨trivial, ?_⟩
  refine (callsIn_wide.2 (implPatch_any a ca ps _ (hps.below hal) hn hz)).mono ?_
  rintro e w1 ⟨vb, rfl, hvb, hb1⟩
  replace m0 := cell_later hb1 m0
  replace m1 := cell_later hb1 m1
  replace k0 := cell_later hb1 k0
  replace h0 := cell_later hb1 h0
  replace kf : w1.frozen? ⟨w.heap.size + 1 + 1, 0, none⟩ = false := (hb1.frozen (p := ⟨w.heap.size + 1 + 1, 0, none⟩) (by show w.heap.size + 1 + 1 < _; omega)).trans kf
  replace hf : w1.frozen? ⟨w.heap.size + 1 + 1 + 1, 0, none⟩ = false := (hb1.frozen (p := ⟨w.heap.size + 1 + 1 + 1, 0, none⟩) os0).trans hf
  have os1 : w.heap.size + 1 + 1 + 1 < w1.heap.size := Nat.lt_of_lt_of_le os0 hb1.size
  have hbw := hal.trans (hb1.mono hal.size)
  have HV : Keep (vb = true ↔ ValidP ps) := ⟨hvb⟩
  clear hvb hb1 hal os0
  obtain ⟨ta, hta⟩ : ∃ x, x = w.heap.size := ⟨_, rfl⟩
  obtain ⟨tb, htb⟩ : ∃ x, x = w.heap.size + 1 := ⟨_, rfl⟩
  obtain ⟨g, hg⟩ : ∃ x, x = w.heap.size + 1 + 1 := ⟨_, rfl⟩
  obtain ⟨h, hh⟩ : ∃ x, x = w.heap.size + 1 + 1 + 1 := ⟨_, rfl⟩
  rw [← hh] at h0 hf ⊢
  rw [← hg] at k0 kf ⊢
  rw [← htb] at m1 ⊢
  rw [← hta] at m0 ⊢
  have HS : Keep (ta = w.heap.size ∧ tb = ta + 1 ∧ g = tb + 1 ∧ h = g + 1 ∧ h < w1.heap.size) := ⟨by omega⟩
  have hgh : ¬ g = h := by omega
  have hhg : ¬ h = g := by omega
  clear hta htb hg hh os1
  have HNO : Keep (∀ X : World, Below w.heap.size w X → ¬ (ValidP ps ∧ ValidP qs) → JoinPostC ps qs w (.returned (.tuple #[.agg #[.slice none ([] : List Ch).length 0], .bool false])) ((X.setCell ⟨g, 0, none⟩ (.slice none 0 0)).setCell ⟨h, 0, none⟩ (.bool false))) := ⟨fun X hX hnv => ⟨[], false, .inl ⟨hnv, rfl, rfl⟩, ⟨none, 0, rfl, CL.nil _ _ _, Nat.le_refl _⟩, (hX.setCell (p := ⟨g, 0, none⟩) (by have := HS.out; show _ ≤ g; omega) _).setCell (p := ⟨h, 0, none⟩) (by have := HS.out; show _ ≤ h; omega) _⟩⟩
  cases vb with
  | false =>
    have hnv : ¬ (ValidP ps ∧ ValidP qs) := fun h => by have := HV.out.2 h.1; cases this
    gi_wp2
    refine ⟨trivial, ?_⟩
    gi_wp2
    refine ⟨.tuple #[.agg #[.slice none ([] : List Ch).length 0], .bool false], ?_, HNO.out _ hbw hnv⟩
    simp [results, Try.f13, go_sem, k0, h0]
  | true =>
    have HVT : Keep (ValidP ps) := ⟨HV.out.1 rfl⟩
    gi_wp2_with fail
    refine ⟨trivial, ?_⟩
    refine (callsIn_wide.2 (implPatch_any b cb qs _ (hqs.below hbw) hnb hzb)).mono ?_
    rintro e w2 ⟨vb, rfl, hvb, hb2⟩
    have HV2 : Keep (vb = true ↔ ValidP qs) := ⟨hvb⟩
    replace m0 := cell_later hb2 m0
    replace m1 := cell_later hb2 m1
    replace k0 := cell_later hb2 k0
    replace h0 := cell_later hb2 h0
    replace kf : w2.frozen? ⟨g, 0, none⟩ = false := (hb2.frozen (p := ⟨g, 0, none⟩) (by have := HS.out; show g < _; omega)).trans kf
    replace hf : w2.frozen? ⟨h, 0, none⟩ = false := (hb2.frozen (p := ⟨h, 0, none⟩) HS.out.2.2.2.2).trans hf
    have HS2 : Keep (ta = w.heap.size ∧ tb = ta + 1 ∧ g = tb + 1 ∧ h = g + 1 ∧ h < w2.heap.size) := ⟨by have := HS.out; have := hb2.size; omega⟩
    replace hbw := hbw.trans (hb2.mono hbw.size)
    clear hvb hb2 HS HV
    cases vb with
    | false =>
      have hnv : ¬ (ValidP ps ∧ ValidP qs) := fun h => by have := HV2.out.2 h.2; cases this
      gi_wp2
      refine ⟨.tuple #[.agg #[.slice none ([] : List Ch).length 0], .bool false], ?_, HNO.out _ hbw hnv⟩
      simp [results, Try.f13, go_sem, k0, h0]
    | true =>
      have HVU : Keep (ValidP qs) := ⟨HV2.out.1 rfl⟩
      have hal2 : Below w2.heap.size w2 (w2.alloc (.cells #[.slice none 0 0] 30)) := (Below.refl _ _).alloc (Nat.le_refl _) _
      replace m0 := cell_later hal2 m0
      replace m1 := cell_later hal2 m1
      have ob0 : (((w2.alloc (.cells #[.slice none 0 0] 30)).alloc (.cells #[.slice a ps.length ca] 28)).alloc (.cells #[.slice b qs.length cb] 28)).cell? ⟨w2.heap.size, 0, none⟩ = some (.slice none 0 0) := by simp [go_sem]
      have of0 : (((w2.alloc (.cells #[.slice none 0 0] 30)).alloc (.cells #[.slice a ps.length ca] 28)).alloc (.cells #[.slice b qs.length cb] 28)).frozen? ⟨w2.heap.size, 0, none⟩ = false := by simp [go_sem]
      have ma : (((w2.alloc (.cells #[.slice none 0 0] 30)).alloc (.cells #[.slice a ps.length ca] 28)).alloc (.cells #[.slice b qs.length cb] 28)).cell? ⟨w2.heap.size + 1, 0, none⟩ = some (.slice a ps.length ca) := by simp [go_sem]
      have mb : (((w2.alloc (.cells #[.slice none 0 0] 30)).alloc (.cells #[.slice a ps.length ca] 28)).alloc (.cells #[.slice b qs.length cb] 28)).cell? ⟨w2.heap.size + 1 + 1, 0, none⟩ = some (.slice b qs.length cb) := by simp [go_sem]
      have wsz : (((w2.alloc (.cells #[.slice none 0 0] 30)).alloc (.cells #[.slice a ps.length ca] 28)).alloc (.cells #[.slice b qs.length cb] 28)).heap.size = w2.heap.size + 3 := by simp [go_sem]
      have hb3 : Below w2.heap.size w2 (((w2.alloc (.cells #[.slice none 0 0] 30)).alloc (.cells #[.slice a ps.length ca] 28)).alloc (.cells #[.slice b qs.length cb] 28)) := (((Below.refl _ _).alloc (Nat.le_refl _) _).alloc (by simp) _).alloc (by simp; omega) _
      gi_wp2_with (refine ⟨trivial, ?_⟩; gi_at_call 41; refine (callsIn_wide.2 (sideC_any a b ps.length qs.length ca cb _)).mono ?_; rintro e w' ⟨rfl, rfl⟩)
      generalize hwl : (((w2.alloc (.cells #[.slice none 0 0] 30)).alloc (.cells #[.slice a ps.length ca] 28)).alloc (.cells #[.slice b qs.length cb] 28)) = wl at *
      clear hwl
      have hbl := hbw.trans (hb3.mono hbw.size)
      have kl := cell_later hb3 k0
      have hl0 := cell_later hb3 h0
      have kfl : wl.frozen? ⟨g, 0, none⟩ = false := (hb3.frozen (p := ⟨g, 0, none⟩) (by have := HS2.out; show g < _; omega)).trans kf
      have hfl : wl.frozen? ⟨h, 0, none⟩ = false := (hb3.frozen (p := ⟨h, 0, none⟩) HS2.out.2.2.2.2).trans hf
      obtain ⟨ob, hob⟩ : ∃ ob, ob = w2.heap.size := ⟨_, rfl⟩
      rw [← hob] at ob0 of0 ma mb wsz HS2 ⊢
      have HL : Keep (ta = w.heap.size ∧ tb = ta + 1 ∧ g = tb + 1 ∧ h = g + 1 ∧ h < ob ∧ wl.heap.size = ob + 3) := ⟨by have := HS2.out; omega⟩
      have hI0 : ∀ o1 o2, JnI wl ob [] ((wl.alloc o1).alloc o2) := fun o1 o2 => by
        have hb : Below wl.heap.size wl ((wl.alloc o1).alloc o2) := ((Below.refl _ _).alloc (Nat.le_refl _) _).alloc (by simp) _
        exact ⟨(fun x hx => by cases hx), _, _, by simp, hb, OutCh.start (cell_later hb ob0) ((hb.frozen (p := ⟨ob, 0, none⟩) (by show ob < _; omega)).trans of0) (by simp; omega)⟩
      clear hb3 hob k0 kf m0 m1 HS2 HV2 hbw hal2 h0 hf
      refine range_iter2 (sideC_iter (ob + 1) (ob + 1 + 1) a b ca cb ps qs hca hcb hn hnb) (enters_of Try.func63 (by kernel_rfl) rfl) (n := 5) (by omega) rfl (fun x => rfl) (JnI wl ob) (JnX w g h)
        (fun pre W ⟨_, Wz, v, hz1, hz2, hst⟩ => ⟨hst.keep (cell_later hz2 ma) (by omega) (by omega), hst.keep (cell_later hz2 mb) (by omega) (by omega), hps.below (hst.below (hbl.trans (hz2.mono hbl.size)) (by have := HL.out; omega)), hqs.below (hst.below (hbl.trans (hz2.mono hbl.size)) (by have := HL.out; omega))⟩)
        (fun pre W W' ⟨hc, Wz, v, hz1, hz2, hst⟩ hb => ⟨hc, Wz, v, hz1, hz2, hst.later hb⟩)
        (fun pre W l o hl ⟨hc, Wz, v, hz1, hz2, hst⟩ => ⟨hc, Wz.putObj l o, v, by simpa using hz1, hz2.grown (row := some l) ⟨rfl, rfl, rfl, by simp, fun k _ hk => World.putObj_heap_other (fun e => hk (by rw [e]))⟩ hz2.size (fun j e => by cases e; omega), hst.putJ o (by omega) (by omega)⟩)
        (fun pre W l o hl ⟨hc, hb, c1, c2⟩ => ⟨hc, hb.grown (row := some l) ⟨rfl, rfl, rfl, by simp, fun k _ hk => World.putObj_heap_other (fun e => hk (by rw [e]))⟩ hb.size (fun j e => by cases e; have := HL.out; omega), (World.cell?_of_block (World.putObj_heap_other (fun e => by have := HL.out; have e2 : g = l := e; omega))).trans c1, (World.cell?_of_block (World.putObj_heap_other (fun e => by have := HL.out; have e2 : h = l := e; omega))).trans c2⟩) hI0
        (fun x B a' W => a' = { tmps := #[.agg #[.slice a ps.length ca], .agg #[.slice b qs.length cb], .pointer (some ⟨ta, 0, none⟩), .pointer (some ⟨tb, 0, none⟩), .pointer (some ⟨g, 0, none⟩), .pointer (some ⟨h, 0, none⟩), .pointer (some ⟨ob, 0, none⟩), .pointer (some ⟨B, 0, none⟩), .pointer (some ⟨B + 1, 0, none⟩), .agg #[.slice a ps.length ca], .bool true, .bool false, .bool false, .agg #[.slice b qs.length cb], .bool true, .bool false, .bool false, undef, .pointer (some ⟨ta, 0, none⟩), .slice a ps.length ca, .pointer (some ⟨tb, 0, none⟩), .slice b qs.length cb, .func (.func 63) #[] #[.pointer (some ⟨ob + 1, 0, none⟩), .pointer (some ⟨ob + 1 + 1, 0, none⟩)], cutCV (x.2.1.getD noCh), cutCV (x.2.2.getD noCh), undef, undef, undef, undef, undef, undef, undef, undef, undef, undef, undef, undef, undef, undef, undef, undef, undef, undef, undef, undef, undef, undef, undef, undef, undef, undef, undef, undef, undef, undef, undef, undef, undef, undef, undef], defers := [] } ∧ CBox B (x.2.1.getD noCh) W ∧ CBox (B + 1) (x.2.2.getD noCh) W)
        (fun x B a' W l o hl ⟨h1, h2, h3⟩ => ⟨h1, h2.put o (by omega), h3.put o (by omega)⟩) ?assign ?body ?done ?stop
      case assign =>
        intro l x W K hK
        unfold yC cutCV
        gi_wp2
        exact hK _ _ (((Below.refl _ _).alloc (Nat.le_refl _) _).alloc (by simp) _) ⟨rfl, ⟨by simp [go_sem], by simp [go_sem], by simp [go_sem], by simp [go_sem], by simp [go_sem], by simp [go_sem], by simp [go_sem], fun j => by simp [go_sem], by simp [go_sem]⟩, ⟨by simp [go_sem], by simp [go_sem], by simp [go_sem], by simp [go_sem], by simp [go_sem], by simp [go_sem], by simp [go_sem], fun j => by simp [go_sem], by simp [go_sem]⟩⟩
      case body =>
        rintro l pre x a' Wb W ⟨hnc, Wz, v, hz1, hz2, hst⟩ ⟨r, hr⟩ hB1 hbW ⟨rfl, hx, hy⟩
        have hul : (outsJ pre).length ≤ 1048576 := by
          have h1 := outsJ_len pre
          have h2 := congrArg List.length hr
          have h3 := mrg_lenJ Ch.path Ch.path (ps.length + qs.length) ps qs
          have h4 := HVT.out.1
          have h5 := HVU.out.1
          simp only [List.length_append] at h2
          unfold mrgC at h2
          omega
        have hmx : x ∈ mrgC ps qs := by rw [hr]; simp
        have hvB : v.ownBlock ≠ some Wb.heap.size := fun e => by have := hst.own_lt e; omega
        have hvB1 : v.ownBlock ≠ some (Wb.heap.size + 1) := fun e => by have := hst.own_lt e; omega
        have st := hst.later hbW
        have HE : Keep (∀ v' w', clJ2 x.2.1 x.2.2 = false → OutCh ob Wz v' (outsJ pre ++ outJ2 x.1 x.2.1 x.2.2) w' → TwoB wl.heap.size W w' ∧ JnI wl ob (pre ++ [x]) w') := ⟨fun v' w' hc h => ⟨⟨(h.grown.block _ (by omega) (fun e => by have := HL.out; cases e; omega)).trans (st.grown.block _ (by omega) (fun e => by have := HL.out; cases e; omega)).symm, (h.grown.block _ (by omega) (fun e => by have := HL.out; cases e; omega)).trans (st.grown.block _ (by omega) (fun e => by have := HL.out; cases e; omega)).symm⟩, (fun y hy => by
            rcases List.mem_append.1 hy with h' | h'
            · exact hnc y h'
            · rw [List.mem_singleton.1 h']; exact hc), Wz, v', hz1, hz2, by rw [outsJ_snoc]; exact h⟩⟩
        have HR : Keep (∀ X, clJ2 x.2.1 x.2.2 = true → OutCh ob Wz v (outsJ pre) X → TwoB wl.heap.size W ((X.setCell ⟨g, 0, none⟩ (.slice none 0 0)).setCell ⟨h, 0, none⟩ (.bool false)) ∧ JnX w g h (pre ++ [x]) ((X.setCell ⟨g, 0, none⟩ (.slice none 0 0)).setCell ⟨h, 0, none⟩ (.bool false))) := ⟨fun X hc st' => by
          have hbk : ∀ k, k ≠ g → k ≠ h → ((X.setCell ⟨g, 0, none⟩ (.slice none 0 0)).setCell ⟨h, 0, none⟩ (.bool false)).heap[k]? = X.heap[k]? := fun k h1 h2 => (Below.heap_setCell _ _ _ _ h2).trans (Below.heap_setCell _ _ _ _ h1)
          have kX := st'.keep (cell_later hz2 kl) (by have := HL.out; omega) (by have := HL.out; omega)
          have hX := st'.keep (cell_later hz2 hl0) (by have := HL.out; omega) (by have := HL.out; omega)
          refine ⟨⟨(hbk _ (by have := HL.out; omega) (by have := HL.out; omega)).trans ((st'.grown.block _ (by omega) (fun e => by have := HL.out; cases e; omega)).trans (st.grown.block _ (by omega) (fun e => by have := HL.out; cases e; omega)).symm), (hbk _ (by have := HL.out; omega) (by have := HL.out; omega)).trans ((st'.grown.block _ (by omega) (fun e => by have := HL.out; cases e; omega)).trans (st.grown.block _ (by omega) (fun e => by have := HL.out; cases e; omega)).symm)⟩, ⟨x, by simp, hc⟩, ?_, ?_, ?_⟩
          · exact ((st'.below (hbl.trans (hz2.mono hbl.size)) (by have := HL.out; omega)).setCell (p := ⟨g, 0, none⟩) (by have := HL.out; show _ ≤ g; omega) _).setCell (p := ⟨h, 0, none⟩) (by have := HL.out; show _ ≤ h; omega) _
          · exact (World.cell?_setCell_other _ _ _ _ (by intro e; exact hhg (congrArg Addr.block e))).trans (World.cell?_setCell_same _ _ _ kX)
          · exact World.cell?_setCell_same _ _ _ ((World.cell?_setCell_other _ _ _ _ (by intro e; exact hgh (congrArg Addr.block e))).trans hX)⟩
        have HK : Keep (∀ X, OutCh ob Wz v (outsJ pre) X → (X.cell? ⟨g, 0, none⟩ = some (.slice none 0 0) ∧ X.cell? ⟨h, 0, none⟩ = some (.bool false)) ∧ X.frozen? ⟨g, 0, none⟩ = false ∧ X.frozen? ⟨h, 0, none⟩ = false) := ⟨fun X st' => ⟨⟨st'.keep (cell_later hz2 kl) (by have := HL.out; omega) (by have := HL.out; omega), st'.keep (cell_later hz2 hl0) (by have := HL.out; omega) (by have := HL.out; omega)⟩, frozen_of (st'.grown.block g (by have := HL.out; omega) (fun e => by have := HL.out; cases e; omega)) ((hz2.frozen (p := ⟨g, 0, none⟩) (by have := HL.out; show g < _; omega)).trans kfl), frozen_of (st'.grown.block h (by have := HL.out; omega) (fun e => by have := HL.out; cases e; omega)) ((hz2.frozen (p := ⟨h, 0, none⟩) (by have := HL.out; show h < _; omega)).trans hfl)⟩⟩
        have HB : Keep (Wz.heap.size ≤ Wb.heap.size) := ⟨hst.grown.size⟩
        clear hst hbW hr hI0 ma mb of0 ob0 kl kfl hl0 hfl hbl hps hqs HNO hB1 wsz
        generalize Wb.heap.size = B at *
        have hBn : ¬ B = B + 1 := by omega
        have hBn2 : ¬ B + 1 = B := by omega
        rcases mrgC_cases HVT.out HVU.out hmx with ⟨d, hd, rfl⟩ | ⟨c, hc, rfl⟩ | ⟨c, hc, d, hd, hcd, rfl⟩
        · obtain ⟨p1, p2, p3, p4⟩ := chOk_parts (validP_ok HVU.out hd)
          have hdp := hzb d hd
          replace hx : CBox B noCh W := hx
          replace hy : CBox (B + 1) d W := hy
          have a0 : W.cell? ⟨B, 0, none⟩ = some (.string ⟨#[]⟩) := hx.c0
          have a1 : W.cell? ⟨B, 1, none⟩ = some (.bool false) := hx.c1
          have a2 : W.cell? ⟨B, 2, none⟩ = some (.string ⟨#[]⟩) := hx.c2
          have a3 : W.cell? ⟨B, 3, none⟩ = some (.bool false) := hx.c3
          have a4 : W.cell? ⟨B, 4, none⟩ = some (.bool false) := hx.c4
          have a5 : W.cell? ⟨B, 5, none⟩ = some (.string ⟨#[]⟩) := hx.c5
          have a6 : W.cell? ⟨B, 6, none⟩ = some (.bool false) := hx.c6
          have b0 := hy.c0
          have b1 := hy.c1
          have b2 := hy.c2
          have b3 := hy.c3
          have b4 := hy.c4
          have b5 := hy.c5
          have b6 := hy.c6
          gi_wp2_with fail
          refine ⟨trivial, ?_⟩
          refine CallsIn.mono (CallsIn.inRound l (callsIn_wide.2 (stay_any d.path d.old _))) ?_
          rintro e W1 ⟨rfl, hb1⟩
          replace hx := hx.later hb1
          replace hy := hy.later hb1
          replace st := st.later hb1
          clear a0 a1 a2 a3 a4 a5 a6 b0 b1 b2 b3 b4 b5 b6 hb1
          have a0 : W1.cell? ⟨B, 0, none⟩ = some (.string ⟨#[]⟩) := hx.c0
          have a1 : W1.cell? ⟨B, 1, none⟩ = some (.bool false) := hx.c1
          have a2 : W1.cell? ⟨B, 2, none⟩ = some (.string ⟨#[]⟩) := hx.c2
          have a3 : W1.cell? ⟨B, 3, none⟩ = some (.bool false) := hx.c3
          have a4 : W1.cell? ⟨B, 4, none⟩ = some (.bool false) := hx.c4
          have a5 : W1.cell? ⟨B, 5, none⟩ = some (.string ⟨#[]⟩) := hx.c5
          have a6 : W1.cell? ⟨B, 6, none⟩ = some (.bool false) := hx.c6
          have fz := hx.fz
          gi_upto_region 9 with fail
          have hx2 : CBox B ⟨d.path, d.old, d.old⟩ (((((((W1.setCell ⟨B, 0, none⟩ (.string d.path)).setCell ⟨B, 1, none⟩ (.bool d.old.there)).setCell ⟨B, 2, none⟩ (.string d.old.text)).setCell ⟨B, 3, none⟩ (.bool d.old.runs)).setCell ⟨B, 4, none⟩ (.bool d.old.there)).setCell ⟨B, 5, none⟩ (.string d.old.text)).setCell ⟨B, 6, none⟩ (.bool d.old.runs)) := hx.set ⟨d.path, d.old, d.old⟩
          have hy2 : CBox (B + 1) d (((((((W1.setCell ⟨B, 0, none⟩ (.string d.path)).setCell ⟨B, 1, none⟩ (.bool d.old.there)).setCell ⟨B, 2, none⟩ (.string d.old.text)).setCell ⟨B, 3, none⟩ (.bool d.old.runs)).setCell ⟨B, 4, none⟩ (.bool d.old.there)).setCell ⟨B, 5, none⟩ (.string d.old.text)).setCell ⟨B, 6, none⟩ (.bool d.old.runs)) := hy.grown (box7_grown (.string d.path) (.bool d.old.there) (.string d.old.text) (.bool d.old.runs) (.bool d.old.there) (.string d.old.text) (.bool d.old.runs)) (by simp)
          have st2 : OutCh ob Wz v (outsJ pre) (((((((W1.setCell ⟨B, 0, none⟩ (.string d.path)).setCell ⟨B, 1, none⟩ (.bool d.old.there)).setCell ⟨B, 2, none⟩ (.string d.old.text)).setCell ⟨B, 3, none⟩ (.bool d.old.runs)).setCell ⟨B, 4, none⟩ (.bool d.old.there)).setCell ⟨B, 5, none⟩ (.string d.old.text)).setCell ⟨B, 6, none⟩ (.bool d.old.runs)) := st.other (box7_grown (.string d.path) (.bool d.old.there) (.string d.old.text) (.bool d.old.runs) (.bool d.old.there) (.string d.old.text) (.bool d.old.runs)) HB.out hvB
          clear a0 a1 a2 a3 a4 a5 a6 fz hx hy st
          generalize (((((((W1.setCell ⟨B, 0, none⟩ (.string d.path)).setCell ⟨B, 1, none⟩ (.bool d.old.there)).setCell ⟨B, 2, none⟩ (.string d.old.text)).setCell ⟨B, 3, none⟩ (.bool d.old.runs)).setCell ⟨B, 4, none⟩ (.bool d.old.there)).setCell ⟨B, 5, none⟩ (.string d.old.text)).setCell ⟨B, 6, none⟩ (.bool d.old.runs)) = X at *
          have a0 := hx2.c0
          have a1 := hx2.c1
          have a2 := hx2.c2
          have a3 := hx2.c3
          have a4 := hx2.c4
          have a5 := hx2.c5
          have a6 := hx2.c6
          have b0 := hy2.c0
          have b1 := hy2.c1
          have b2 := hy2.c2
          have b3 := hy2.c3
          have b4 := hy2.c4
          have b5 := hy2.c5
          have b6 := hy2.c6
          dsimp only at a0 a1 a2 a3 a4 a5 a6
          gi_wp2_with fail
          refine ⟨trivial, ?_⟩
          refine CallsIn.mono (CallsIn.inRound l (callsIn_wide.2 (chg_pair ob Wz v (outsJ pre) d.path d.old d.new X st2 hul hdp (by omega) (by omega)))) ?_
          rintro e W4 ⟨rfl, v', st4⟩
          clear a0 a1 a2 a3 a4 a5 a6 b0 b1 b2 b3 b4 b5 b6 hx2 hy2 st2
          gi_wp2
          exact HE.out _ _ rfl (by unfold chgL at st4; rw [p2] at st4; exact st4)
        · obtain ⟨p1, p2, p3, p4⟩ := chOk_parts (validP_ok HVT.out hc)
          have hdp := hz c hc
          replace hx : CBox B c W := hx
          replace hy : CBox (B + 1) noCh W := hy
          have a0 := hx.c0
          have a1 := hx.c1
          have a2 := hx.c2
          have a3 := hx.c3
          have a4 := hx.c4
          have a5 := hx.c5
          have a6 := hx.c6
          have b0 : W.cell? ⟨B + 1, 0, none⟩ = some (.string ⟨#[]⟩) := hy.c0
          have b1 : W.cell? ⟨B + 1, 1, none⟩ = some (.bool false) := hy.c1
          have b2 : W.cell? ⟨B + 1, 2, none⟩ = some (.string ⟨#[]⟩) := hy.c2
          have b3 : W.cell? ⟨B + 1, 3, none⟩ = some (.bool false) := hy.c3
          have b4 : W.cell? ⟨B + 1, 4, none⟩ = some (.bool false) := hy.c4
          have b5 : W.cell? ⟨B + 1, 5, none⟩ = some (.string ⟨#[]⟩) := hy.c5
          have b6 : W.cell? ⟨B + 1, 6, none⟩ = some (.bool false) := hy.c6
          gi_wp2_with fail
          refine ⟨trivial, ?_⟩
          refine CallsIn.mono (CallsIn.inRound l (callsIn_wide.2 (stay_any c.path c.new _))) ?_
          rintro e W1 ⟨rfl, hb1⟩
          replace hx := hx.later hb1
          replace hy := hy.later hb1
          replace st := st.later hb1
          clear a0 a1 a2 a3 a4 a5 a6 b0 b1 b2 b3 b4 b5 b6 hb1
          have b0 : W1.cell? ⟨B + 1, 0, none⟩ = some (.string ⟨#[]⟩) := hy.c0
          have b1 : W1.cell? ⟨B + 1, 1, none⟩ = some (.bool false) := hy.c1
          have b2 : W1.cell? ⟨B + 1, 2, none⟩ = some (.string ⟨#[]⟩) := hy.c2
          have b3 : W1.cell? ⟨B + 1, 3, none⟩ = some (.bool false) := hy.c3
          have b4 : W1.cell? ⟨B + 1, 4, none⟩ = some (.bool false) := hy.c4
          have b5 : W1.cell? ⟨B + 1, 5, none⟩ = some (.string ⟨#[]⟩) := hy.c5
          have b6 : W1.cell? ⟨B + 1, 6, none⟩ = some (.bool false) := hy.c6
          have fz := hy.fz
          gi_upto_region 11 with fail
          have hy2 : CBox (B + 1) ⟨c.path, c.new, c.new⟩ (((((((W1.setCell ⟨B + 1, 0, none⟩ (.string c.path)).setCell ⟨B + 1, 1, none⟩ (.bool c.new.there)).setCell ⟨B + 1, 2, none⟩ (.string c.new.text)).setCell ⟨B + 1, 3, none⟩ (.bool c.new.runs)).setCell ⟨B + 1, 4, none⟩ (.bool c.new.there)).setCell ⟨B + 1, 5, none⟩ (.string c.new.text)).setCell ⟨B + 1, 6, none⟩ (.bool c.new.runs)) := hy.set ⟨c.path, c.new, c.new⟩
          have hx2 : CBox B c (((((((W1.setCell ⟨B + 1, 0, none⟩ (.string c.path)).setCell ⟨B + 1, 1, none⟩ (.bool c.new.there)).setCell ⟨B + 1, 2, none⟩ (.string c.new.text)).setCell ⟨B + 1, 3, none⟩ (.bool c.new.runs)).setCell ⟨B + 1, 4, none⟩ (.bool c.new.there)).setCell ⟨B + 1, 5, none⟩ (.string c.new.text)).setCell ⟨B + 1, 6, none⟩ (.bool c.new.runs)) := hx.grown (box7_grown (.string c.path) (.bool c.new.there) (.string c.new.text) (.bool c.new.runs) (.bool c.new.there) (.string c.new.text) (.bool c.new.runs)) (by simp)
          have st2 : OutCh ob Wz v (outsJ pre) (((((((W1.setCell ⟨B + 1, 0, none⟩ (.string c.path)).setCell ⟨B + 1, 1, none⟩ (.bool c.new.there)).setCell ⟨B + 1, 2, none⟩ (.string c.new.text)).setCell ⟨B + 1, 3, none⟩ (.bool c.new.runs)).setCell ⟨B + 1, 4, none⟩ (.bool c.new.there)).setCell ⟨B + 1, 5, none⟩ (.string c.new.text)).setCell ⟨B + 1, 6, none⟩ (.bool c.new.runs)) := st.other (box7_grown (.string c.path) (.bool c.new.there) (.string c.new.text) (.bool c.new.runs) (.bool c.new.there) (.string c.new.text) (.bool c.new.runs)) (by have := HB.out; omega) hvB1
          clear b0 b1 b2 b3 b4 b5 b6 fz hx hy st
          generalize (((((((W1.setCell ⟨B + 1, 0, none⟩ (.string c.path)).setCell ⟨B + 1, 1, none⟩ (.bool c.new.there)).setCell ⟨B + 1, 2, none⟩ (.string c.new.text)).setCell ⟨B + 1, 3, none⟩ (.bool c.new.runs)).setCell ⟨B + 1, 4, none⟩ (.bool c.new.there)).setCell ⟨B + 1, 5, none⟩ (.string c.new.text)).setCell ⟨B + 1, 6, none⟩ (.bool c.new.runs)) = X at *
          have a0 := hx2.c0
          have a1 := hx2.c1
          have a2 := hx2.c2
          have a3 := hx2.c3
          have a4 := hx2.c4
          have a5 := hx2.c5
          have a6 := hx2.c6
          have b0 := hy2.c0
          have b1 := hy2.c1
          have b2 := hy2.c2
          have b3 := hy2.c3
          have b4 := hy2.c4
          have b5 := hy2.c5
          have b6 := hy2.c6
          dsimp only at b0 b1 b2 b3 b4 b5 b6
          gi_wp2_with fail
          refine ⟨trivial, ?_⟩
          refine CallsIn.mono (CallsIn.inRound l (callsIn_wide.2 (chg_pair ob Wz v (outsJ pre) c.path c.old c.new X st2 hul hdp (by omega) (by omega)))) ?_
          rintro e W4 ⟨rfl, v', st4⟩
          clear a0 a1 a2 a3 a4 a5 a6 b0 b1 b2 b3 b4 b5 b6 hx2 hy2 st2
          gi_wp2
          exact HE.out _ _ rfl (by unfold chgL at st4; rw [p2] at st4; exact st4)
        · obtain ⟨p1, p2, p3, p4⟩ := chOk_parts (validP_ok HVT.out hc)
          obtain ⟨q1, q2, q3, q4⟩ := chOk_parts (validP_ok HVU.out hd)
          have hdp := hz c hc
          replace hx : CBox B c W := hx
          replace hy : CBox (B + 1) d W := hy
          have a0 := hx.c0
          have a1 := hx.c1
          have a2 := hx.c2
          have a3 := hx.c3
          have a4 := hx.c4
          have a5 := hx.c5
          have a6 := hx.c6
          have b0 := hy.c0
          have b1 := hy.c1
          have b2 := hy.c2
          have b3 := hy.c3
          have b4 := hy.c4
          have b5 := hy.c5
          have b6 := hy.c6
          cases hsm : sameF c.new d.old with
          | true =>
            have HC : Keep (clJ2 (some c) (some d) = false) := ⟨by show (!sameF c.new d.old) = false; rw [hsm]; rfl⟩
            obtain ⟨⟨h1, h2⟩, h3⟩ : (c.new.there = d.old.there ∧ c.new.text.toList = d.old.text.toList) ∧ c.new.runs = d.old.runs := by simpa [sameF] using hsm
            have h4 : c.new.text = d.old.text := WideShapes.bytes_inj (by rw [← Lib.toList_data, ← Lib.toList_data]; exact h2)
            rw [← h1] at b1
            rw [← h4] at b2
            rw [← h3] at b3
            clear hsm h1 h2 h3 h4
            gi_wp2_with fail
            refine ⟨trivial, ?_⟩
            refine CallsIn.mono (CallsIn.inRound l (callsIn_wide.2 (chg_pair ob Wz v (outsJ pre) c.path c.old d.new W st hul hdp (by omega) (by omega)))) ?_
            rintro e W4 ⟨rfl, v', st4⟩
            clear a0 a1 a2 a3 a4 a5 a6 b0 b1 b2 b3 b4 b5 b6 hx hy st
            gi_wp2
            exact HE.out _ _ HC.out st4
          | false =>
            have HC : Keep (clJ2 (some c) (some d) = true) := ⟨by show (!sameF c.new d.old) = true; rw [hsm]; rfl⟩
            obtain ⟨⟨kX, hX⟩, kfX, hfX⟩ := HK.out W st
            by_cases h1 : c.new.there = d.old.there
            · by_cases h2 : c.new.text.toList = d.old.text.toList
              · by_cases h3 : c.new.runs = d.old.runs
                · exfalso
                  rw [Bool.eq_false_iff] at hsm
                  exact hsm (by simp [sameF, h1, h2, h3])
                · gi_wp2
                  exact HR.out W HC.out st
              · gi_wp2
                exact HR.out W HC.out st
            · gi_wp2
              exact HR.out W HC.out st
      case done =>
        rintro W ⟨hnc, Wz, v, hz1, hz2, hst⟩ hK
        rw [outs_join HVT.out HVU.out] at hst
        have HNC : Keep (∀ n ∈ joinNs ps qs, clJ ps qs n = false) := ⟨fun n hn' => hnc (n, fnd Ch.path ps n, fnd Ch.path qs n) (by rw [mrgC_is HVT.out HVU.out]; exact List.mem_map.2 ⟨n, hn', rfl⟩)⟩
        have kW := hst.keep (cell_later hz2 kl) (by have := HL.out; omega) (by have := HL.out; omega)
        have hW := hst.keep (cell_later hz2 hl0) (by have := HL.out; omega) (by have := HL.out; omega)
        have kfW : W.frozen? ⟨g, 0, none⟩ = false := frozen_of (hst.grown.block g (by have := HL.out; omega) (fun e => by have := HL.out; cases e; omega)) ((hz2.frozen (p := ⟨g, 0, none⟩) (by have := HL.out; show g < _; omega)).trans kfl)
        have hfW : W.frozen? ⟨h, 0, none⟩ = false := frozen_of (hst.grown.block h (by have := HL.out; omega) (fun e => by have := HL.out; cases e; omega)) ((hz2.frozen (p := ⟨h, 0, none⟩) (by have := HL.out; show h < _; omega)).trans hfl)
        have oW := hst.cell
        have hbW := hst.below (hbl.trans (hz2.mono hbl.size)) (show w.heap.size ≤ ob by have := HL.out; omega)
        obtain ⟨ad, cap, rfl⟩ := owns_slice hst.row
        have hrm := row_roomO hst.row
        have hcl := cl_of_row hst.row
        have HZ : Keep (w.heap.size ≤ g ∧ h = g + 1 ∧ h < wl.heap.size ∧ Wz.heap.size = wl.heap.size + 2) := ⟨by have := HL.out; omega⟩
        clear hst hz2 hI0 hps hqs HNO hnc wsz
        have fin : ∀ (cs : List Ch) (ok : Bool) (ad2 : Option Addr) (cap2 : Nat), JoinRel ps qs cs ok → CL Wz.heap.size W ad2 cs → cs.length ≤ cap2 → ∃ W3, W3 = (W.setCell ⟨g, 0, none⟩ (.slice ad2 cs.length cap2)).setCell ⟨h, 0, none⟩ (.bool ok) ∧ W3.heap[wl.heap.size]? = some (.deferred (some [])) ∧ (W3.putObj wl.heap.size (.deferred none)).cell? ⟨g, 0, none⟩ = some (.slice ad2 cs.length cap2) ∧ (W3.putObj wl.heap.size (.deferred none)).cell? ⟨h, 0, none⟩ = some (.bool ok) ∧ JoinPostC ps qs w (.returned (.tuple #[.agg #[.slice ad2 cs.length cap2], .bool ok])) (W3.putObj wl.heap.size (.deferred none)) := fun cs ok ad2 cap2 hrel hcs hrm2 => by
          have hzz := HZ.out
          have hbk : ∀ k, k ≠ g → k ≠ h → ((W.setCell ⟨g, 0, none⟩ (.slice ad2 cs.length cap2)).setCell ⟨h, 0, none⟩ (.bool ok)).heap[k]? = W.heap[k]? := fun k h1 h2 => (Below.heap_setCell _ _ _ _ h2).trans (Below.heap_setCell _ _ _ _ h1)
          have hg1 := hcs.grown (row := some g) (grown_set0 W g 0 (.slice ad2 cs.length cap2)) (fun j _ hj _ e => by cases e; omega)
          have hg2 := hg1.grown (row := some h) (grown_set0 _ h 0 (.bool ok)) (fun j _ hj _ e => by cases e; omega)
          have hbW2 := (hbW.setCell (p := ⟨g, 0, none⟩) hzz.1 (.slice ad2 cs.length cap2)).setCell (p := ⟨h, 0, none⟩) (by show _ ≤ h; omega) (.bool ok)
          have kc : ((W.setCell ⟨g, 0, none⟩ (.slice ad2 cs.length cap2)).setCell ⟨h, 0, none⟩ (.bool ok)).cell? ⟨g, 0, none⟩ = some (.slice ad2 cs.length cap2) := (World.cell?_setCell_other _ _ _ _ (by intro e; exact hhg (congrArg Addr.block e))).trans (World.cell?_setCell_same _ _ _ kW)
          have hc : ((W.setCell ⟨g, 0, none⟩ (.slice ad2 cs.length cap2)).setCell ⟨h, 0, none⟩ (.bool ok)).cell? ⟨h, 0, none⟩ = some (.bool ok) := World.cell?_setCell_same _ _ _ ((World.cell?_setCell_other _ _ _ _ (by intro e; exact hgh (congrArg Addr.block e))).trans hW)
          refine ⟨_, rfl, (hbk _ (by omega) (by omega)).trans hK, ?_⟩
          generalize (W.setCell ⟨g, 0, none⟩ (.slice ad2 cs.length cap2)).setCell ⟨h, 0, none⟩ (.bool ok) = W3 at *
          have hgp : W3.grownBy (W3.putObj wl.heap.size (.deferred none)) (some wl.heap.size) := ⟨rfl, rfl, rfl, by simp, fun k _ hk => World.putObj_heap_other (fun e => hk (by rw [e]))⟩
          exact ⟨(World.cell?_of_block (World.putObj_heap_other (fun e => by have e2 : g = wl.heap.size := e; omega))).trans kc, (World.cell?_of_block (World.putObj_heap_other (fun e => by have e2 : h = wl.heap.size := e; omega))).trans hc, cs, ok, hrel, ⟨ad2, cap2, rfl, (hg2.grown hgp (fun j _ hj _ e => by cases e; omega)).mono (by omega), hrm2⟩, hbW2.grown hgp hbW2.size (fun j e => by cases e; omega)⟩
        by_cases hlen : (joinN ps qs (joinNs ps qs)).length ≤ 200
        · have hlen' : ¬ (200 : Int) < (joinN ps qs (joinNs ps qs)).length := by omega
          obtain ⟨W3, hW3, hK3, kc, hc, hpost⟩ := fin (joinN ps qs (joinNs ps qs)) true ad cap (.inr ⟨HVT.out, HVU.out, .inr ⟨HNC.out, .inr ⟨hlen, rfl, rfl⟩⟩⟩) hcl hrm
          have HP : Keep _ := ⟨hpost⟩
          clear fin hcl hbW hpost hrm
          gi_wp2
          rw [← hW3]
          refine ⟨by simp, .inl ⟨_, _, rfl, run_takeDeferred hK3, ?_⟩⟩
          refine ⟨_, ?_, HP.out⟩
          simp [results, Try.f13, go_sem, kc, hc]
        · have hlen' : (200 : Int) < (joinN ps qs (joinNs ps qs)).length := by omega
          obtain ⟨W3, hW3, hK3, kc, hc, hpost⟩ := fin [] false none 0 (.inr ⟨HVT.out, HVU.out, .inr ⟨HNC.out, .inl ⟨by omega, rfl, rfl⟩⟩⟩) (CL.nil _ _ _) (Nat.le_refl _)
          have HP : Keep _ := ⟨hpost⟩
          replace hW3 : W3 = (W.setCell ⟨g, 0, none⟩ (.slice none 0 0)).setCell ⟨h, 0, none⟩ (.bool false) := hW3
          clear fin hcl hbW hpost hrm
          gi_wp2
          rw [← hW3]
          refine ⟨by simp, .inl ⟨_, _, rfl, run_takeDeferred hK3, ?_⟩⟩
          refine ⟨_, ?_, HP.out⟩
          simp [results, Try.f13, go_sem, kc, hc]
      case stop =>
        rintro pre W hpre ⟨⟨x, hx, hcl⟩, hb, c1, c2⟩ hK
        have hcn : ∃ n ∈ joinNs ps qs, clJ ps qs n = true := by
          have hm := hpre.subset hx
          rw [mrgC_is HVT.out HVU.out] at hm
          obtain ⟨n, hn', rfl⟩ := List.mem_map.1 hm
          exact ⟨n, hn', hcl⟩
        clear wsz
        gi_wp2
        refine ⟨by simp, .inl ⟨_, _, rfl, run_takeDeferred hK, ?_⟩⟩
        have hgp : W.grownBy (W.putObj wl.heap.size (.deferred none)) (some wl.heap.size) := ⟨rfl, rfl, rfl, by simp, fun k _ hk => World.putObj_heap_other (fun e => hk (by rw [e]))⟩
        have kc : (W.putObj wl.heap.size (.deferred none)).cell? ⟨g, 0, none⟩ = some (.slice none 0 0) := (World.cell?_of_block (World.putObj_heap_other (fun e => by have := HL.out; have e2 : g = wl.heap.size := e; omega))).trans c1
        have hc : (W.putObj wl.heap.size (.deferred none)).cell? ⟨h, 0, none⟩ = some (.bool false) := (World.cell?_of_block (World.putObj_heap_other (fun e => by have := HL.out; have e2 : h = wl.heap.size := e; omega))).trans c2
        refine ⟨.tuple #[.agg #[.slice none ([] : List Ch).length 0], .bool false], ?_, [], false, .inr ⟨HVT.out, HVU.out, .inl ⟨hcn, rfl, rfl⟩⟩, ⟨none, 0, rfl, CL.nil _ _ _, Nat.le_refl _⟩, hb.grown hgp hb.size (fun j e => by have := HL.out; cases e; omega)⟩
        simp [results, Try.f13, go_sem, kc, hc]
theorem implJoin_any (a b : Option Addr) (ca cb : Nat) (ps qs : List Ch) (w : World) (hps : CS w a ps) (hqs : CS w b qs) (hn : ps.length ≤ 1048576) (hnb : qs.length ≤ 1048576) (hca : ps.length ≤ ca) (hcb : qs.length ≤ cb) (hz : ∀ c ∈ ps, c.path.size ≤ 1048576) (hzb : ∀ c ∈ qs, c.path.size ≤ 1048576) :
    Calls Try.prog 13 #[.agg #[.slice a ps.length ca], .agg #[.slice b qs.length cb]] w fun e w' => JoinPost ps qs w e w' :=
  (implJoinC_any a b ca cb ps qs w hps hqs hn hnb hca hcb hz hzb).mono (fun _ _ ⟨cs, ok, h1, ⟨ad, cap, h2, h3, _⟩, h4⟩ => ⟨cs, ok, h1, ⟨ad, cap, h2, h3⟩, h4⟩)
end Go.Proofs.Ytjlflmbifeocbaa

namespace Go.Proofs.Ytjlflmbifeocbaa
open Go.RowKit

theorem field_patch (ad : Option Addr) (n cp : Nat) (w : World) : (Instr.field 30 (.agg #[.slice ad n cp]) 0).run Try.prog w = .ok (.slice ad n cp) w := by kernel_rfl
theorem kqP {W0 W W' : World} (h : Below W0.heap.size W0 W) (h' : Below W.heap.size W W') : Below W0.heap.size W0 W' := h.trans (h'.mono h.size)
structure PBx (b : Nat) (ad : Option Addr) (cp : Nat) (cs : List Ch) (W : World) : Prop where
  c : W.cell? ⟨b, 0, none⟩ = some (.slice ad cs.length cp)
  cs : CS W ad cs
theorem PBx.later {b : Nat} {ad : Option Addr} {cp : Nat} {cs : List Ch} {W W' : World} (h : PBx b ad cp cs W) (hb : Below W.heap.size W W') : PBx b ad cp cs W' := ⟨cell_later hb h.c, h.cs.below hb⟩
theorem PBx.new {ad : Option Addr} {cp : Nat} {cs : List Ch} {W : World} (h : CS W ad cs) : PBx W.heap.size ad cp cs (W.alloc (.cells #[.slice ad cs.length cp] 30)) := ⟨by simp, h.below (below_oneD _ _)⟩
theorem diff_one {ts us : List En} {cs cs' : List Ch} (h : DiffRel ts us cs) (h' : DiffRel ts us cs') : cs = cs' := by
  rcases h with ⟨h1, h2, rfl⟩ | ⟨h1, rfl⟩
  · rcases h' with ⟨_, _, rfl⟩ | ⟨h3, _⟩
    · rfl
    · exact absurd ⟨h1, h2⟩ h3
  · rcases h' with ⟨h3, h4, _⟩ | ⟨_, rfl⟩
    · exact absurd ⟨h3, h4⟩ h1
    · rfl
theorem diff_few {ts us : List En} {cs : List Ch} (h : DiffRel ts us cs) : cs.length ≤ 1000 ∧ ((∀ e ∈ ts, e.path.size ≤ 1048576) → (∀ e ∈ us, e.path.size ≤ 1048576) → ∀ c ∈ cs, c.path.size ≤ 1048576) := by
  rcases h with ⟨h3, h4, rfl⟩ | ⟨_, rfl⟩
  · refine ⟨by have := diff_len h3.1 h4.1; omega, fun ht hu c hc => ?_⟩
    obtain ⟨p, h5, rfl⟩ := (diff_mem c).1 hc
    rcases paths_differ h5 with ⟨e, he, rfl⟩ | ⟨e, he, rfl⟩
    · exact ht e he
    · exact hu e he
  · exact ⟨by simp, fun _ _ c hc => by cases hc⟩
theorem tmp_some {a : Act} {k : Nat} {b : Bool} (h : a.tmps[k]?.getD undef = .bool b) : a.tmps[k]? = some (.bool b) := by
  cases hx : a.tmps[k]? with
  | none => rw [hx] at h; cases h
  | some v => rw [hx] at h; simpa using h
/-- A patch of a call's own in a slot. -/
def patE (cs : List Ch) (v : Value) (w : World) : Prop := ∃ ad cap, v = .agg #[.slice ad cs.length cap] ∧ CS w ad cs
theorem patE.on {cs : List Ch} {v : Value} {w w' : World} (h : patE cs v w) (hb : Below w.heap.size w w') : patE cs v w' := by
  obtain ⟨ad, cap, h1, h2⟩ := h
  exact ⟨ad, cap, h1, h2.below hb⟩
def dTab (p q : Value) (a b c : Value) : Nat → Option Value
  | 0 => some p
  | 1 => some a
  | 2 => some b
  | 4 => some (.bool true)
  | 5 => some (.bool false)
  | 6 => some (.bool false)
  | 7 => some q
  | 8 => some b
  | 9 => some c
  | 11 => some (.bool true)
  | 12 => some (.bool false)
  | 13 => some (.bool false)
  | _ => none
def dEx (cs ds : List Ch) : Nat → Value → World → Prop
  | 3 => patE cs
  | 10 => patE ds
  | _ => fun _ _ => True
theorem dSt (cs ds : List Ch) : ∀ i v w w', Below w.heap.size w w' → dEx cs ds i v w → dEx cs ds i v w' := fun i v w w' hb h => by
  match i, h with
  | 3, h => exact patE.on h hb
  | 10, h => exact patE.on h hb
  | 0, h | 1, h | 2, h | 4, h | 5, h | 6, h | 7, h | 8, h | 9, h => exact h
  | (_ + 11), h => exact h
def dDs : List Nat := [33, 34, 35, 36, 37, 38, 39, 40, 41, 42, 43, 44, 45, 46]
theorem dNd : dDs.Nodup := by decide
/-- The region that applies what leads back: a call in a call, a box that is made at any time. -/
def tupE (n : Nat) (v : Value) : Prop := ∃ ad cap, v = .tuple #[.agg #[.slice ad n cap], .int .i64 0]
def aggE (n : Nat) (v : Value) : Prop := ∃ ad cap, v = .agg #[.slice ad n cap]
def uTab (b p : Value) : Nat → Option Value
  | 0 => some b
  | 1 => some p
  | 6 => some (.int .i64 0)
  | 9 => some (.int .i64 0)
  | _ => none
def uXv (n : Nat) : Nat → Value → Prop
  | 3 => tupE n
  | 4 => tupE n
  | 5 => aggE n
  | _ => fun _ => True
def treE (ts : List En) (v : Value) (w : World) : Prop := ∃ ad cap, v = .tuple #[.agg #[.slice ad (List.length ts) cap], .int .i64 0] ∧ EL 0 w ad ts
def treA (ts : List En) (v : Value) (w : World) : Prop := ∃ ad cap, v = .agg #[.slice ad (List.length ts) cap] ∧ EL 0 w ad ts
def patR (cs : List Ch) (v : Value) (w : World) : Prop := ∃ ad cap, v = .agg #[.slice ad (List.length cs) cap] ∧ CS w ad cs ∧ cs.length ≤ cap
def boxE (lo : Nat) (v : Value) (w : World) : Prop := ∃ nb, v = .pointer (some ⟨nb, 0, none⟩) ∧ lo ≤ nb ∧ nb < w.heap.size ∧ w.cell? ⟨nb, 0, none⟩ = some (.slice none 0 0) ∧ w.frozen? ⟨nb, 0, none⟩ = false
def uEx (cs : List Ch) (ts : List En) (lo : Nat) : Nat → Value → World → Prop
  | 2 => patR cs
  | 3 => treE ts
  | 4 => treE ts
  | 5 => treA ts
  | 7 => boxE lo
  | _ => fun _ _ => True
theorem uSt {cs : List Ch} {ts : List En} {lo : Nat} {w w' : World} (hb : Below w.heap.size w w') : ∀ i v, uEx cs ts lo i v w → uEx cs ts lo i v w' := fun i v h => by
  match i, h with
  | 2, ⟨ad, cap, h1, h2, h3⟩ => exact ⟨ad, cap, h1, h2.below hb, h3⟩
  | 3, ⟨ad, cap, h1, h2⟩ => exact ⟨ad, cap, h1, h2.below hb⟩
  | 4, ⟨ad, cap, h1, h2⟩ => exact ⟨ad, cap, h1, h2.below hb⟩
  | 5, ⟨ad, cap, h1, h2⟩ => exact ⟨ad, cap, h1, h2.below hb⟩
  | 7, ⟨nb, h1, h2, h3, h4, h5⟩ => exact ⟨nb, h1, h2, Nat.lt_of_lt_of_le h3 hb.size, cell_later hb h4, (hb.frozen (p := ⟨nb, 0, none⟩) h3).trans h5⟩
  | 0, h | 1, h | 6, h => exact h
  | (_ + 8), h => exact h
def uDs : List Nat := [79, 80, 81, 82, 78, 83, 84, 10, 1000, 11]
theorem uNd : uDs.Nodup := by decide
structure YP (T0 : Array Value) (b p : Value) (cs : List Ch) (ts : List En) (X : World) (L : Array Bool) (a : Act) (w : World) : Prop where
  sl : Sl2 T0 uDs (uTab b p) L a
  xv : ∀ i (h : i < uDs.length), L.getD i false = true → uXv ts.length i (a.eval (.tmp uDs[i]))
  wd : L.getD 8 false = false → Below X.heap.size X w
  ex : L.getD 8 false = false → ∀ i (h : i < uDs.length), L.getD i false = true → uEx cs ts X.heap.size i (a.eval (.tmp uDs[i])) w
  fin : L.getD 8 false = true → ∃ nb ad cap, a.eval (.tmp 10) = .pointer (some ⟨nb, 0, none⟩) ∧ TBx nb ad cap ts w ∧ Below X.heap.size X w
theorem YP.step {T0 : Array Value} {b p : Value} {cs : List Ch} {ts : List En} {X : World} {L : Array Bool} {a : Act} {w w' : World} (h : YP T0 b p cs ts X L a w) {i : Nat} {v : Value} (hi : i < uDs.length) (hd : uDs[i] < T0.size) (h8 : i ≠ 8) (ht : ∀ u, uTab b p i = some u → u = v) (hx : uXv ts.length i v) (hw : (L.getD 8 false = true → uDs[i] ≠ 10 ∧ w' = w) ∧ (L.getD 8 false = false → uEx cs ts X.heap.size i v w' ∧ Below w.heap.size w w')) :
    YP T0 b p cs ts X (L.setIfInBounds i true) (a.put (some uDs[i]) v) w' := by
  have g : (L.setIfInBounds i true).getD 8 false = L.getD 8 false := getD_set_ne false h8
  have ev : ∀ j (hj : j < uDs.length), j ≠ i → (a.put (some uDs[i]) v).eval (.tmp uDs[j]) = a.eval (.tmp uDs[j]) := fun j hj hne => Act.eval_put (fun d hd' => by cases hd'; intro e'; injection e' with e'; exact nodup_ne uNd hi hj hne e')
  refine ⟨h.sl.put uNd hi hd ht, fun j hj hL => ?_, fun h0 => ?_, fun h0 j hj hL => ?_, fun h0 => ?_⟩
  · by_cases e : j = i
    · subst e
      rw [eval_put_same (by rw [h.sl.sz]; exact hd)]
      exact hx
    · rw [ev j hj e]
      exact h.xv j hj (getD_of_set hL e)
  · rw [g] at h0
    exact (h.wd h0).trans ((hw.2 h0).2.mono (h.wd h0).size)
  · rw [g] at h0
    by_cases e : j = i
    · subst e
      rw [eval_put_same (by rw [h.sl.sz]; exact hd)]
      exact (hw.2 h0).1
    · rw [ev j hj e]
      exact uSt (hw.2 h0).2 j _ (h.ex h0 j hj (getD_of_set hL e))
  · rw [g] at h0
    obtain ⟨h1, rfl⟩ := hw.1 h0
    obtain ⟨nb, ad, cap, h2, h3⟩ := h.fin h0
    exact ⟨nb, ad, cap, by rw [Act.eval_put (fun d hd' => by cases hd'; intro e'; injection e' with e'; exact h1 e'.symm)]; exact h2, h3⟩
theorem YP.store {T0 : Array Value} {b p : Value} {cs : List Ch} {ts : List En} {X : World} {L : Array Bool} {a : Act} {w : World} (h : YP T0 b p cs ts X L a w) (hL : L.getD 8 true = false) {nb : Nat} {ad : Option Addr} {cap : Nat} (e10 : a.eval (.tmp 10) = .pointer (some ⟨nb, 0, none⟩)) (h1 : X.heap.size ≤ nb) (h2 : w.cell? ⟨nb, 0, none⟩ = some (.slice none 0 0)) (h3 : EL 0 w ad ts) :
    YP T0 b p cs ts X (L.setIfInBounds 8 true) a (w.setCell ⟨nb, 0, none⟩ (.slice ad ts.length cap)) := by
  have g : (L.setIfInBounds 8 true).getD 8 false = true := by
    have h1 := getD_false hL
    have h2 : 8 < L.size := by simpa using (List.getElem?_eq_some_iff.1 h1).1
    rw [Array.getD_eq_getD_getElem?, Array.getElem?_setIfInBounds_self_of_lt h2]
    rfl
  have hne : ts = [] ∨ blk ad ≠ some nb := by
    rcases h3 with h3 | ⟨gb, e, _, _, _, hc⟩
    · exact .inl h3
    · by_cases h0 : ts = []
      · exact .inl h0
      · refine .inr fun e' => ?_
        rw [e] at e'
        have e2 : gb = nb := by simpa [blk] using e'
        have hp := List.length_pos_iff.2 h0
        have h5 := (hc 0 hp).1
        rw [e2] at h5
        have h6 : w.cell? ⟨nb, 0, none⟩ = some (.string (ts[0]'hp).path) := by simpa using h5
        rw [h2] at h6
        cases h6
  refine ⟨h.sl.skip rfl, fun j hj hL' => ?_, (fun h0 => by rw [g] at h0; cases h0), (fun h0 => by rw [g] at h0; cases h0), fun _ => ⟨nb, ad, cap, e10, ⟨World.cell?_setCell_same _ _ _ h2, ?_⟩, (h.wd (getD_ft hL)).setCell (p := ⟨nb, 0, none⟩) h1 _⟩⟩
  · by_cases e : j = 8
    · subst e; trivial
    · exact h.xv j hj (getD_of_set hL' e)
  · rcases hne with h0 | h0
    · rw [h0]; exact (EL.nil 0 _ _).es
    · exact (h3.grown (grown_set0 w nb 0 _) (fun k hk _ _ e => by cases e; exact h0 hk)).es
/-- The last region: all is true. -/
def gTab (p j a c u : Value) : Nat → Option Value
  | 0 => some (.bool true)
  | 1 => some (.bool true)
  | 2 => some j
  | 3 => some a
  | 4 => some c
  | 6 => some (.bool true)
  | 7 => some (.bool true)
  | 8 => some (.bool true)
  | 9 => some (.int .i64 0)
  | 10 => some (.bool true)
  | 11 => some (.bool true)
  | 12 => some (.bool true)
  | 13 => some u
  | 14 => some c
  | 15 => some (.bool true)
  | 16 => some (.bool true)
  | 17 => some (.bool true)
  | 18 => some p
  | 21 => some p
  | 22 => some (.bool true)
  | 23 => some (.bool true)
  | 24 => some (.bool true)
  | 25 => some p
  | 26 => some (.bool true)
  | 27 => some (.bool true)
  | 28 => some (.bool true)
  | _ => none
def gEx (ds us ps : List Ch) : Nat → Value → World → Prop
  | 5 => patE ds
  | 19 => patE us
  | 20 => patE ps
  | _ => fun _ _ => True
theorem gSt (ds us ps : List Ch) : ∀ i v w w', Below w.heap.size w w' → gEx ds us ps i v w → gEx ds us ps i v w' := fun i v w w' hb h => by
  match i, h with
  | 5, h => exact patE.on h hb
  | 19, h => exact patE.on h hb
  | 20, h => exact patE.on h hb
  | 0, h | 1, h | 2, h | 3, h | 4, h | 6, h | 7, h | 8, h | 9, h | 10, h | 11, h | 12, h | 13, h | 14, h | 15, h | 16, h | 17, h | 18, h => exact h
  | (_ + 21), h => exact h
def gDs : List Nat := [135, 136, 137, 138, 139, 140, 141, 142, 143, 144, 145, 146, 147, 148, 149, 150, 151, 152, 153, 154, 155, 156, 157, 158, 159, 160, 161, 162, 2]
theorem gNd : gDs.Nodup := by decide
end Go.Proofs.Ytjlflmbifeocbaa

namespace Go.Proofs.Ytjlflmbifeocbaa
open Go.RowKit

def strE (m : Nat) (v : Value) (_ : World) : Prop := ∃ s : ByteArray, v = .string s ∧ s.size ≤ m
def natE (lo hi : Nat) (v : Value) (_ : World) : Prop := ∃ z : Nat, v = .int .i64 (z : Int) ∧ lo ≤ z ∧ z ≤ hi
def enE (m : Nat) (v : Value) (_ : World) : Prop := ∃ s : ByteArray, v = .agg #[.string s, .string ⟨#[]⟩, .bool false] ∧ s.size ≤ m
def flE (m : Nat) (v : Value) (_ : World) : Prop := ∃ s : ByteArray, v = .agg #[.bool true, .string s, .bool false] ∧ s.size ≤ m
def setX (ts : List En) (m lo : Nat) (v : Value) (w : World) : Prop := ∃ ad cap us en, v = .agg #[.slice ad (List.length us) cap] ∧ SetRel ts en us ∧ en.path.size ≤ m ∧ en.text.size ≤ 0 ∧ EL lo w ad us ∧ us.length ≤ ts.length + 1 ∧ us.length ≤ cap
def layX (ts : List En) (p : ByteArray) (m lo : Nat) (v : Value) (w : World) : Prop := ∃ ad cap us f, v = .agg #[.slice ad (List.length us) cap] ∧ f.text.size ≤ m ∧ LayRel ts p f us ∧ EL lo w ad us ∧ us.length ≤ ts.length + 1 ∧ us.length ≤ cap
theorem setX.on {ts : List En} {m lo g : Nat} {v : Value} {w w' : World} (h : setX ts m lo v w) (hg : w.grownBy w' (some g)) (hl : g < lo) : setX ts m lo v w' := by
  obtain ⟨ad, cap, us, en, h1, h2, h3, h4, h5, h6⟩ := h
  exact ⟨ad, cap, us, en, h1, h2, h3, h4, h5.grown hg (fun k _ hk _ e => by cases e; omega), h6⟩
theorem layX.on {ts : List En} {p : ByteArray} {m lo g : Nat} {v : Value} {w w' : World} (h : layX ts p m lo v w) (hg : w.grownBy w' (some g)) (hl : g < lo) : layX ts p m lo v w' := by
  obtain ⟨ad, cap, us, f, h1, h2, h3, h4, h5⟩ := h
  exact ⟨ad, cap, us, f, h1, h2, h3, h4.grown hg (fun k _ hk _ e => by cases e; omega), h5⟩

/-- l5Set of a numbered path. -/
def lTab (t : Tr) (k : Nat) : Nat → Option Value
  | 0 => some (.agg #[.slice t.ad t.ts.length t.cp])
  | 1 => some (.int .i64 k)
  | _ => none
def lEx (ts : List En) (lo : Nat) : Nat → Value → World → Prop
  | 2 => strE 2
  | 3 => strE 3
  | 4 => enE 3
  | 5 => setX ts 3 lo
  | _ => fun _ _ => True
theorem lSt {ts : List En} {lo g : Nat} {w w' : World} (hg : w.grownBy w' (some g)) (hl : g < lo) : ∀ i v, lEx ts lo i v w → lEx ts lo i v w' := fun i v h => by
  match i, h with
  | 5, h => exact setX.on h hg hl
  | 0, h | 1, h | 2, h | 3, h | 4, h => exact h
  | (_ + 6), h => exact h
def lDs (d : Nat) : List Nat := [d, d + 1, d + 2, d + 3, d + 4, d + 5, 1000]
theorem lNd56 : (lDs 56).Nodup := by decide
theorem lNd62 : (lDs 62).Nodup := by decide
/-- l6Lay of a drawn text. -/
def aTabM (t : Tr) (g : Nat) : Nat → Option Value
  | 0 => some (.agg #[.slice t.ad t.ts.length t.cp])
  | 1 => some (.pointer (some ⟨g, 0, none⟩))
  | _ => none
def aEx (ts : List En) (lo : Nat) : Nat → Value → World → Prop
  | 2 => natE 0 1
  | 3 => natE 700 701
  | 4 => strE 701
  | 5 => strE 704
  | 6 => flE 704
  | 7 => layX ts ⟨#[97]⟩ 704 lo
  | _ => fun _ _ => True
theorem aSt {ts : List En} {lo g : Nat} {w w' : World} (hg : w.grownBy w' (some g)) (hl : g < lo) : ∀ i v, aEx ts lo i v w → aEx ts lo i v w' := fun i v h => by
  match i, h with
  | 7, h => exact layX.on h hg hl
  | 0, h | 1, h | 2, h | 3, h | 4, h | 5, h | 6, h => exact h
  | (_ + 8), h => exact h
def aDsM : List Nat := [73, 74, 75, 76, 77, 78, 79, 80, 1000]
theorem aNdM : aDsM.Nodup := by decide
/-- Where the reader stands in that region. -/
def IM (w : World) (g r2 r3 r4 b6 b7 b8 : Nat) (a : Option Addr) (cap : Nat) (zs : List Int) (t6 t7 t8 : Tr) (L : Array Bool) (W : World) : Prop :=
  ∃ p, (p ≤ 1100 ∨ (L.getD 2 false = true ∧ p ≤ 1200)) ∧ M3 w g r2 r3 r4 b6 b7 b8 a cap zs p t6 t7 t8 W
theorem IM.keep {w : World} {g r2 r3 r4 b6 b7 b8 : Nat} {a : Option Addr} {cap : Nat} {zs : List Int} {t6 t7 t8 : Tr} {L : Array Bool} {W : World} {i : Nat} (h : IM w g r2 r3 r4 b6 b7 b8 a cap zs t6 t7 t8 L W) (hi : i ≠ 2) : IM w g r2 r3 r4 b6 b7 b8 a cap zs t6 t7 t8 (L.setIfInBounds i true) W := by
  obtain ⟨p, h1, h2⟩ := h
  exact ⟨p, h1.imp id (fun h => ⟨by rw [getD_set_ne false hi]; exact h.1, h.2⟩), h2⟩
theorem IM.later {w : World} {g r2 r3 r4 b6 b7 b8 : Nat} {a : Option Addr} {cap : Nat} {zs : List Int} {t6 t7 t8 : Tr} {L : Array Bool} {W W' : World} (h : IM w g r2 r3 r4 b6 b7 b8 a cap zs t6 t7 t8 L W) (hb : Below W.heap.size W W') : IM w g r2 r3 r4 b6 b7 b8 a cap zs t6 t7 t8 L W' := by
  obtain ⟨p, h1, h2⟩ := h
  exact ⟨p, h1, h2.later hb⟩
def bTab (t : Tr) : Nat → Option Value
  | 0 => some (.agg #[.slice t.ad t.ts.length t.cp])
  | _ => none
def bEx (ts : List En) (lo : Nat) : Nat → Value → World → Prop
  | 1 => strE 796
  | 2 => strE 798
  | 3 => strE 799
  | 4 => flE 799
  | 5 => layX ts ⟨#[97]⟩ 799 lo
  | _ => fun _ _ => True
theorem bSt {ts : List En} {lo g : Nat} {w w' : World} (hg : w.grownBy w' (some g)) (hl : g < lo) : ∀ i v, bEx ts lo i v w → bEx ts lo i v w' := fun i v h => by
  match i, h with
  | 5, h => exact layX.on h hg hl
  | 0, h | 1, h | 2, h | 3, h | 4, h => exact h
  | (_ + 6), h => exact h
def bDs : List Nat := [81, 82, 83, 84, 85, 86, 1000]
theorem bNd : bDs.Nodup := by decide
theorem manyI (c : UInt8) (n z : Nat) (hn : n + z ≤ 1000000) (W : World) : Calls Try.prog 28 #[.string ⟨#[c]⟩, .int .i64 ((n + z : Nat) : Int)] W fun e w' => ∃ o : ByteArray, e = .returned (.string o) ∧ o.size = n + z ∧ W = w' := by
  have := many_any ⟨#[c]⟩ (n + z) W (by show 1 * (n + z) ≤ _; omega) (by omega) (by show 1 ≤ 1; omega) (by show 1 ≤ _; omega)
  exact this.mono (fun e w' ⟨o, h1, h2, h3⟩ => ⟨o, h1, by rw [h2]; show 1 * (n + z) = _; omega, h3⟩)
end Go.Proofs.Ytjlflmbifeocbaa

namespace Go.Proofs.Ytjlflmbifeocbaa
open Go.RowKit

theorem getD_put2 {L : Array Bool} {m : Nat} (hL : L.getD m true = false) : (L.setIfInBounds m true).getD m false = true := by
  have h1 := getD_false hL
  have h2 : m < L.size := by simpa using (List.getElem?_eq_some_iff.1 h1).1
  rw [Array.getD_eq_getD_getElem?, Array.getElem?_setIfInBounds_self_of_lt h2]
  rfl
theorem code_laterM {w w' : World} {a : Option Addr} {cap : Nat} {zs : List Int} (h : Code0 w a cap zs) (hb : Below w.heap.size w w') : Code0 w' a cap zs :=
  ⟨by
    rcases h.bytes with h0 | ⟨b, off, h1, h2, h3⟩
    · exact .inl h0
    · exact .inr ⟨b, off, h1, Nat.lt_of_lt_of_le h2 hb.size, fun i hi => cell_later hb (h3 i hi)⟩, h.len, h.cap, h.wf⟩

set_option maxRecDepth 100000 in
set_option maxHeartbeats 20000000 in
theorem drawMerge_any (a : Option Addr) (cap : Nat) (zs : List Int) (w : World) (h : Code0 w a cap zs) :
    Calls Try.prog 5 #[.slice a zs.length cap] w (DrawnM w) := by
  have hal : Below w.heap.size w (((w.alloc (.cells #[.slice none 0 0] 25)).alloc (.cells #[.slice none 0 0] 25)).alloc (.cells #[.slice none 0 0] 25)) := (((Below.refl _ _).alloc (Nat.le_refl _) _).alloc (by simp) _).alloc (by simp; omega) _
  have a0 : (((w.alloc (.cells #[.slice none 0 0] 25)).alloc (.cells #[.slice none 0 0] 25)).alloc (.cells #[.slice none 0 0] 25)).cell? ⟨w.heap.size, 0, none⟩ = some (.slice none 0 0) ∧ (((w.alloc (.cells #[.slice none 0 0] 25)).alloc (.cells #[.slice none 0 0] 25)).alloc (.cells #[.slice none 0 0] 25)).frozen? ⟨w.heap.size, 0, none⟩ = false := ⟨by simp [go_sem], by simp [go_sem]⟩
  have b0 : (((w.alloc (.cells #[.slice none 0 0] 25)).alloc (.cells #[.slice none 0 0] 25)).alloc (.cells #[.slice none 0 0] 25)).cell? ⟨w.heap.size + 1, 0, none⟩ = some (.slice none 0 0) ∧ (((w.alloc (.cells #[.slice none 0 0] 25)).alloc (.cells #[.slice none 0 0] 25)).alloc (.cells #[.slice none 0 0] 25)).frozen? ⟨w.heap.size + 1, 0, none⟩ = false := ⟨by simp [go_sem], by simp [go_sem]⟩
  have d0 : (((w.alloc (.cells #[.slice none 0 0] 25)).alloc (.cells #[.slice none 0 0] 25)).alloc (.cells #[.slice none 0 0] 25)).cell? ⟨w.heap.size + 1 + 1, 0, none⟩ = some (.slice none 0 0) ∧ (((w.alloc (.cells #[.slice none 0 0] 25)).alloc (.cells #[.slice none 0 0] 25)).alloc (.cells #[.slice none 0 0] 25)).frozen? ⟨w.heap.size + 1 + 1, 0, none⟩ = false := ⟨by simp [go_sem], by simp [go_sem]⟩
  have hsz : (((w.alloc (.cells #[.slice none 0 0] 25)).alloc (.cells #[.slice none 0 0] 25)).alloc (.cells #[.slice none 0 0] 25)).heap.size = w.heap.size + 1 + 1 + 1 := by simp
  have hop := open_any a cap zs _ (code_laterM h hal)
  go_enter Try.func5, Try.ntmps5
  go_wp2_with fail
  refine hop.mono ?_
  rintro e w1 ⟨rfl, hb1, hs1, zs', hR1⟩
  have hkeep : ∀ {k : Nat} {W : World} {u : Value}, W = (((w.alloc (.cells #[.slice none 0 0] 25)).alloc (.cells #[.slice none 0 0] 25)).alloc (.cells #[.slice none 0 0] 25)) → W.cell? ⟨k, 0, none⟩ = some u ∧ W.frozen? ⟨k, 0, none⟩ = false → w1.cell? ⟨k, 0, none⟩ = some u ∧ w1.frozen? ⟨k, 0, none⟩ = false := fun {k W u} e hh => by
    subst e
    exact ⟨cell_later hb1 hh.1, (hb1.frozen (p := ⟨k, 0, none⟩) (World.block_lt_of_cell? _ ⟨k, 0, none⟩ hh.1)).trans hh.2⟩
  have a1 := hkeep rfl a0
  have b1 := hkeep rfl b0
  have d1 := hkeep rfl d0
  have hbw1 : Below w.heap.size w w1 := hal.trans (hb1.mono hal.size)
  rw [hsz] at hR1 hs1
  rw [hsz]
  obtain ⟨g, hg⟩ : ∃ g, g = w.heap.size + 1 + 1 + 1 := ⟨_, rfl⟩
  obtain ⟨r4, hr4⟩ : ∃ r4, r4 = w.heap.size + 1 + 1 := ⟨_, rfl⟩
  obtain ⟨r3, hr3⟩ : ∃ r3, r3 = w.heap.size + 1 := ⟨_, rfl⟩
  obtain ⟨r2, hr2⟩ : ∃ r2, r2 = w.heap.size := ⟨_, rfl⟩
  rw [← hg] at hR1 ⊢
  rw [← hr4] at d1 ⊢
  rw [← hr3] at b1 ⊢
  rw [← hr2] at a1 ⊢
  have HO : Keep (r2 = w.heap.size ∧ r3 = w.heap.size + 1 ∧ r4 = w.heap.size + 2 ∧ g = w.heap.size + 3 ∧ w1.heap.size = w.heap.size + 4) := ⟨by omega⟩
  clear hop hal a0 b0 d0 hsz hb1 hs1 hg hr2 hr3 hr4 hkeep
  have hany := l5DrawC_any g a cap zs' 0 w1 hR1 (by omega)
  go_wp2_with fail
  refine hany.mono ?_
  rintro e w2 ⟨ad6, cp6, ts6, rfl, hel6, hn6, hA6, hT6, hNil6, ⟨⟨p2, hp2, hR2⟩, hg2⟩, hrm6⟩
  have T6 := TX.new (g := g) (t := ⟨ad6, cp6, ts6⟩) hel6 (by have := HO.out; omega) hrm6
  have hbt6 := hel6.btw
  have hba2 := below_oneD w2 (.cells #[.slice ad6 ts6.length cp6] 25)
  have hR3 := hR2.below hba2
  have hs2 := hg2.size
  have h3s : (w2.alloc (.cells #[.slice ad6 ts6.length cp6] 25)).heap.size = w2.heap.size + 1 := by simp
  have hgr3 : w1.grownBy (w2.alloc (.cells #[.slice ad6 ts6.length cp6] 25)) (some g) := gr_trans hg2 (gr_below hba2)
  have HA6 : Keep (Asc ts6 ∧ Tiny 40 20 ts6 ∧ NilOk ad6 cp6) := ⟨⟨hA6, hT6, hNil6⟩⟩
  clear hany hel6 hg2 hba2 hR2 hR1 hA6 hT6 hNil6
  go_upto_region 3 with fail
  generalize w2.alloc (.cells #[.slice ad6 ts6.length cp6] 25) = w3 at *
  generalize hb6 : w2.heap.size = b6 at *
  have c6 := T6.c
  have hnear := l5NearA_any g a cap zs' p2 ad6 cp6 ts6 w3 hR3 (by omega) T6.el.es HA6.out.2.2 (HA6.out.2.1.wide (by omega) (by omega)) (by omega)
  go_wp2_with fail
  refine hnear.mono ?_
  rintro e w4 ⟨ad7, cp7, ts7, rfl, hel7, hn7, hT7, hNil7, ⟨⟨p4, hp4, hR4⟩, hg4⟩, hA7, hrm7⟩
  have T6' := T6.grown hg4 (by simp) (by have := HO.out; omega)
  have T7 := TX.new (g := g) (t := ⟨ad7, cp7, ts7⟩) hel7 (by have := HO.out; omega) hrm7
  have hbt7 := hel7.btw
  have hba4 := below_oneD w4 (.cells #[.slice ad7 ts7.length cp7] 25)
  have hR5 := hR4.below hba4
  have hs4 := hg4.size
  have h5s : (w4.alloc (.cells #[.slice ad7 ts7.length cp7] 25)).heap.size = w4.heap.size + 1 := by simp
  have hgr5 : w1.grownBy (w4.alloc (.cells #[.slice ad7 ts7.length cp7] 25)) (some g) := gr_trans (gr_trans hgr3 hg4) (gr_below hba4)
  have T6b := T6'.later hba4
  have HA7 : Keep (Asc ts7 ∧ Tiny 100 1620 ts7 ∧ NilOk ad7 cp7) := ⟨⟨hA7 HA6.out.1, hT7, hNil7⟩⟩
  clear hnear hel7 hg4 hba4 hR4 hR3 hA7 hT7 hNil7 T6 T6' c6 hgr3
  go_upto_region 4 with fail
  generalize w4.alloc (.cells #[.slice ad7 ts7.length cp7] 25) = w5 at *
  generalize hb7 : w4.heap.size = b7 at *
  have c6 := T6b.c
  have hnear := l5NearA_any g a cap zs' p4 ad6 cp6 ts6 w5 hR5 (by omega) T6b.el.es HA6.out.2.2 (HA6.out.2.1.wide (by omega) (by omega)) (by omega)
  go_wp2_with fail
  refine hnear.mono ?_
  rintro e w6 ⟨ad8, cp8, ts8, rfl, hel8, hn8, hT8, hNil8, ⟨⟨p6, hp6, hR6⟩, hg6⟩, hA8, hrm8⟩
  have T6c := T6b.grown hg6 (by simp) (by have := HO.out; omega)
  have T7c := T7.grown hg6 (by simp) (by have := HO.out; omega)
  have T8 := TX.new (g := g) (t := ⟨ad8, cp8, ts8⟩) hel8 (by have := HO.out; omega) hrm8
  have hbt8 := hel8.btw
  have hba6 := below_oneD w6 (.cells #[.slice ad8 ts8.length cp8] 25)
  have hR7 := hR6.below hba6
  have hs6 := hg6.size
  have hgr7 : w1.grownBy (w6.alloc (.cells #[.slice ad8 ts8.length cp8] 25)) (some g) := gr_trans (gr_trans hgr5 hg6) (gr_below hba6)
  have HA8 : Keep (Asc ts8 ∧ Tiny 100 1620 ts8 ∧ NilOk ad8 cp8) := ⟨⟨hA8 HA6.out.1, hT8, hNil8⟩⟩
  have hM : M3 w g r2 r3 r4 b6 b7 w6.heap.size a cap zs' p6 ⟨ad6, cp6, ts6⟩ ⟨ad7, cp7, ts7⟩ ⟨ad8, cp8, ts8⟩ (w6.alloc (.cells #[.slice ad8 ts8.length cp8] 25)) := by
    have o := HO.out
    have k2 := hgr7.block r2 (by omega) (by simp; omega)
    have k3 := hgr7.block r3 (by omega) (by simp; omega)
    have k4 := hgr7.block r4 (by omega) (by simp; omega)
    refine ⟨hR7, hbw1.grown hgr7 hbw1.size (fun j e => by cases e; omega), (T6c.later hba6).wide hbt6 ?_, (T7c.later hba6).wide hbt7 ?_, T8.wide hbt8 ?_, (World.cell?_of_block k2).trans a1.1, frozen_of k2 a1.2, (World.cell?_of_block k3).trans b1.1, frozen_of k3 b1.2, (World.cell?_of_block k4).trans d1.1, frozen_of k4 d1.2, by omega⟩
    all_goals
      intro k hk
      simp only [mF, List.mem_cons, List.not_mem_nil, or_false] at hk
      omega
  have HL : Keep (ts6.length ≤ 100 ∧ ts7.length ≤ 103 ∧ ts8.length ≤ 103 ∧ p6 ≤ 1000) := ⟨by omega⟩
  clear hnear hel8 hg6 hba6 hR7 hR6 hR5 hA8 hT8 hNil8 T6b T6c T7 T7c T8 c6 hgr5 hgr7 hbt6 hbt7 hbt8 a1 b1 d1 hbw1 hrm6 hrm7 hrm8
  go_upto_region 5 with fail
  generalize w6.alloc (.cells #[.slice ad8 ts8.length cp8] 25) = w7 at *
  generalize w6.heap.size = b8 at *
  clear hs2 hs4 hs6 h3s h5s hb6 hb7
  go_cut [23] (fun v wx => ∃ y : Nat, v = .int .i64 y ∧ y < 12 ∧ ∃ px, px ≤ 1001 ∧ M3 w g r2 r3 r4 b6 b7 b8 a cap zs' px ⟨ad6, cp6, ts6⟩ ⟨ad7, cp7, ts7⟩ ⟨ad8, cp8, ts8⟩ wx)
  case first =>
    go_wp2_with fail
    refine (pick_any g a cap zs' p6 12 w7 hM.rd (by omega) (by omega) (by have := HL.out; omega)).mono ?_
    rintro e w8 ⟨y, rfl, hy, hg8, hR8⟩
    go_wp2_with fail
    go_meet
    case rel => exact ⟨y, rfl, hy, p6 + 1, by have := HL.out; omega, hM.step hg8 hR8⟩
  case rest =>
    clear hM
    obtain ⟨y, rfl, hy, px, hpx, hM⟩ := hcut
    rename_i K1 hk1 K2 hk2
    refine hk2 _ _ ?_
    go_cut [24] (fun _ wx => ∃ px t6 t7 t8, M3 w g r2 r3 r4 b6 b7 b8 a cap zs' px t6 t7 t8 wx ∧ TQ t6 ∧ TQ t7 ∧ TQ t8)
    case first =>
      have hlt8 : b8 + 1 ≤ wc.heap.size := hM.x8.lt
      have HQ6 : Keep (TQ ⟨ad6, cp6, ts6⟩) := ⟨⟨by have := HL.out; show ts6.length ≤ 300; omega, HA6.out.2.1.wide (by omega) (by omega)⟩⟩
      have HQ7 : Keep (TQ ⟨ad7, cp7, ts7⟩) := ⟨⟨by have := HL.out; show ts7.length ≤ 300; omega, HA7.out.2.1.wide (by omega) (by omega)⟩⟩
      have HQ8 : Keep (TQ ⟨ad8, cp8, ts8⟩) := ⟨⟨by have := HL.out; show ts8.length ≤ 300; omega, HA8.out.2.1.wide (by omega) (by omega)⟩⟩
      by_cases y0 : y = 0
      · have hB : ((y : Int) == 0) = true := by simp; omega
        clear y0
        have hdr := l5DrawC_any g a cap zs' px wc hM.rd (by omega)
        go_wp2_with fail
        refine hdr.mono ?_
        rintro e w8 ⟨ad, cp, ts, rfl, hel, hn, hA, hT, hNil, ⟨⟨p8, hp8, hR8⟩, hg8⟩, hrm⟩
        have hM8 := hM.step hg8 hR8
        have c7 := hM8.x7.c
        have f7 := hM8.x7.f
        have HM9 : Keep _ := ⟨hM8.put7 (u := ⟨ad, cp, ts⟩) (hel.mono hlt8) hrm⟩
        have HT : Keep (TQ ⟨ad, cp, ts⟩) := ⟨⟨by show ts.length ≤ 300; omega, hT.wide (by omega) (by omega)⟩⟩
        clear hdr hM8 hel hg8 hR8 hA hT hNil
        go_wp2_with fail
        go_meet
        case rel => exact ⟨p8, _, _, _, HM9.out, HQ6.out, HT.out, HQ8.out⟩
      have hB0 : ((y : Int) == 0) = false := by simp; omega
      by_cases y1 : y = 1
      · have hB : ((y : Int) == 1) = true := by simp; omega
        clear y0 y1
        have c8 := hM.x8.c
        have hdr := l5SpoilB_any 100 1620 103 (by omega) (by omega) (by omega) (by omega) (by omega) g a cap zs' px ad8 cp8 ts8 wc hM.rd (by omega) hM.x8.el.es HA8.out.2.2 HA8.out.1 HA8.out.2.1 (by have := HL.out; omega)
        go_wp2_with fail
        refine hdr.mono ?_
        rintro e w8 ⟨ad, cp, ts, rfl, hel, hn, hT, hNil, ⟨⟨p8, hp8, hR8⟩, hg8⟩, hrm⟩
        have hM8 := hM.step hg8 hR8
        replace c8 := hM8.x8.c
        have f8 := hM8.x8.f
        have HM9 : Keep _ := ⟨hM8.put8 (u := ⟨ad, cp, ts⟩) (hel.mono hlt8) hrm⟩
        have HT : Keep (TQ ⟨ad, cp, ts⟩) := ⟨⟨by show ts.length ≤ 300; omega, hT.wide (by omega) (by omega)⟩⟩
        clear hdr hM8 hel hg8 hR8 hT hNil
        go_wp2_with fail
        go_meet
        case rel => exact ⟨p8, _, _, _, HM9.out, HQ6.out, HQ7.out, HT.out⟩
      have hB1 : ((y : Int) == 1) = false := by simp; omega
      by_cases y2 : y = 2
      · have hB : ((y : Int) == 2) = true := by simp; omega
        clear y0 y1 y2
        have c7 := hM.x7.c
        have hly := l6LayC_any ad7 cp7 ts7 ⟨#[99]⟩ ⟨true, ⟨#[]⟩, false⟩ wc hM.x7.el.es (by have := HL.out; omega) HA7.out.1
        go_wp2_with fail
        refine hly.mono ?_
        rintro e w8 ⟨ad, cp, us, rfl, hrel, hel, hb8, hn, hrm⟩
        have hM8 := hM.later hb8
        replace c7 := hM8.x7.c
        have f7 := hM8.x7.f
        have hM9 := hM8.put7 (u := ⟨ad, cp, us⟩) (hel.mono hlt8) hrm
        have HU : Keep (Asc us ∧ Tiny 100 1620 us) := ⟨⟨hrel.asc HA7.out.1, HA7.out.2.1.layRel ⟨by show 1 ≤ 100; omega, Nat.zero_le _⟩ hrel⟩⟩
        have hl9 : b8 + 1 ≤ (w8.setCell ⟨b7, 0, none⟩ (.slice ad us.length cp)).heap.size := hM9.x8.lt
        clear hly hM8 hel hb8 hrel hM
        go_upto_region 12 with fail
        generalize w8.setCell ⟨b7, 0, none⟩ (.slice ad us.length cp) = w9 at *
        clear c7 f7
        have c7 := hM9.x7.c
        have hly := l6LayC_any ad cp us ⟨#[99, 47, 120]⟩ ⟨false, ⟨#[]⟩, false⟩ w9 hM9.x7.el.es (by have := HL.out; omega) HU.out.1
        go_wp2_with fail
        refine hly.mono ?_
        rintro e w10 ⟨ad2, cp2, us2, rfl, hrel2, hel2, hb10, hn2, hrm2⟩
        have hM10 := hM9.later hb10
        replace c7 := hM10.x7.c
        have f7 := hM10.x7.f
        have hM11 := hM10.put7 (u := ⟨ad2, cp2, us2⟩) (hel2.mono hl9) hrm2
        have HU2 : Keep (TQ ⟨ad2, cp2, us2⟩) := ⟨⟨by have := HL.out; show us2.length ≤ 300; omega, (HU.out.2.layRel ⟨by show 3 ≤ 100; omega, Nat.zero_le _⟩ hrel2).wide (by omega) (by omega)⟩⟩
        have hl11 : b8 + 1 ≤ (w10.setCell ⟨b7, 0, none⟩ (.slice ad2 us2.length cp2)).heap.size := hM11.x8.lt
        clear hly hM10 hel2 hb10 hrel2 hM9
        go_upto_region 13 with fail
        generalize w10.setCell ⟨b7, 0, none⟩ (.slice ad2 us2.length cp2) = w11 at *
        clear c7 f7
        have c8 := hM11.x8.c
        have hpt := specPutC_any ad8 cp8 ts8 ⟨⟨#[99, 47, 120]⟩, ⟨#[]⟩, false⟩ w11 hM11.x8.el.es (by have := HL.out; omega)
        go_wp2_with fail
        refine hpt.mono ?_
        rintro e w12 ⟨us3, c, hR3, ⟨ad3, cp3, rfl, hel3, hrm3⟩, hb12⟩
        have hba := below_oneD w12 (.cells #[.slice ad3 us3.length cp3] 25)
        have hM13 := (hM11.later hb12).later hba
        have hn0 : (w12.alloc (.cells #[.slice ad3 us3.length cp3] 25)).cell? ⟨w12.heap.size, 0, none⟩ = some (.slice ad3 us3.length cp3) := by simp
        have hel4 := (hel3.below hba).mono hl11
        clear hpt hM11 hel3 hb12 c8
        unfold TreeV
        go_upto_region 14 with fail
        generalize w12.alloc (.cells #[.slice ad3 us3.length cp3] 25) = w13 at *
        generalize w12.heap.size = nb at *
        by_cases hc : c = 0
        · have hBc : (c == 0) = true := by simp [hc]
          rw [hc] at hR3
          obtain ⟨ha1, ha2, ha3, ha4⟩ := put_asc hR3
          have HU3 : Keep (TQ ⟨ad3, cp3, us3⟩) := ⟨⟨by show us3.length ≤ 300; omega, fun x hx => by
            rcases ha4 x hx with rfl | h4
            · exact ⟨by show 3 ≤ 1000; omega, Nat.zero_le _⟩
            · exact HQ8.out.2 x h4⟩⟩
          have c8 := hM13.x8.c
          have f8 := hM13.x8.f
          have HM14 : Keep _ := ⟨hM13.put8 (u := ⟨ad3, cp3, us3⟩) hel4 hrm3⟩
          clear hM13 hel4 hR3 ha1 ha2 ha3 ha4 hc
          go_wp2_with fail
          go_meet
          case rel => exact ⟨px, _, _, _, HM14.out, HQ6.out, HU2.out, HU3.out⟩
        · have hBc : (c == 0) = false := by simp [hc]
          have HM14 : Keep _ := ⟨hM13⟩
          clear hM13 hel4 hR3 hc
          go_wp2_with fail
          go_meet
          case rel => exact ⟨px, _, _, _, HM14.out, HQ6.out, HU2.out, HQ8.out⟩
      have hB2 : ((y : Int) == 2) = false := by simp; omega
      by_cases y3 : y = 3
      · have hB : ((y : Int) == 3) = true := by simp; omega
        clear y0 y1 y2 y3
        have HGB : Keep (g < b8 + 1) := ⟨by have := hM.ord; omega⟩
        have hU0 : Keep ((Asc ts7 ∧ Tiny 100 1620 ts7 ∧ ts7.length ≤ 103 + 0) ∧ (Asc ts8 ∧ Tiny 100 1620 ts8 ∧ ts8.length ≤ 103 + 0)) := ⟨⟨⟨HA7.out.1, HA7.out.2.1, by have := HL.out; omega⟩, ⟨HA8.out.1, HA8.out.2.1, by have := HL.out; omega⟩⟩⟩
        go_wp2_with fail
        go_loopw [11] (fun i wr => ∃ (k : Nat) (u7 u8 : Tr), i = .int .i64 k ∧ k ≤ 60 ∧ M3 w g r2 r3 r4 b6 b7 b8 a cap zs' px ⟨ad6, cp6, ts6⟩ u7 u8 wr ∧ Keep ((Asc u7.ts ∧ Tiny 100 1620 u7.ts ∧ u7.ts.length ≤ 103 + k) ∧ (Asc u8.ts ∧ Tiny 100 1620 u8.ts ∧ u8.ts.length ≤ 103 + k))) (fun i _ => 60 - (intOf i).toNat)
        case atStart => exact ⟨0, _, _, rfl, by omega, hM, hU0⟩
        case round =>
          clear hM hU0
          obtain ⟨k, u7, u8, rfl, hk, hML, HU⟩ := hrel
          have HML : Keep _ := ⟨hML⟩
          by_cases hlt : k < 60
          · have hlt' : (k : Int) < 60 := by omega
            have HA7L : Keep _ := ⟨HU.out.1⟩
            have HA8L : Keep _ := ⟨HU.out.2⟩
            have hl7 : u7.ts.length ≤ 200 := by have := HA7L.out.2.2; omega
            have hl8 : u8.ts.length ≤ 200 := by have := HA8L.out.2.2; omega
            clear hML
            go_upto_region 20 with fail
            refine (wpIn_wide (n := 0)).1 ?_
            refine wpIn_region_inv0 (by kernel_rfl) (by kernel_rfl) (fun T0 => EVG T0 (lDs 56) (lTab u7 k) (lEx u7.ts (b8 + 1)) (fun _ W => M3 w g r2 r3 r4 b6 b7 b8 a cap zs' px ⟨ad6, cp6, ts6⟩ u7 u8 W) 6 (fun W => ∃ v7 : Tr, M3 w g r2 r3 r4 b6 b7 b8 a cap zs' px ⟨ad6, cp6, ts6⟩ v7 u8 W ∧ Asc v7.ts ∧ Tiny 100 1620 v7.ts ∧ v7.ts.length ≤ 103 + (k + 1))) ?_ ?_ ?_
            · exact ⟨Sl2.start _, (fun _ => HML.out.later (Below.refl _ _).drew), (fun _ i _ hL => by rw [getD_repl] at hL; cases hL), (fun h => by rw [getD_repl] at h; cases h)⟩
            · intro L a2 w9 hinv hall
              obtain ⟨v7, hE, hA, hT, hN⟩ := hinv.fin (hall 6 (by decide))
              have HXX : Keep _ := ⟨hinv.sl.act⟩
              have HE7 : Keep _ := ⟨hE⟩
              have HF7 : Keep (Asc v7.ts ∧ Tiny 100 1620 v7.ts ∧ v7.ts.length ≤ 103 + (k + 1)) := ⟨⟨hA, hT, hN⟩⟩
              clear hinv hall hE hA hT hN
              rw [HXX.out]
              simp only [updL, lDs, List.contains_cons, List.contains_nil, Nat.reduceAdd, Nat.reduceBEq, Bool.or_false, cond_false, cond_true, Bool.or_true]
              generalize a2.tmps.getD 56 undef = s56
              generalize a2.tmps.getD 57 undef = s57
              generalize a2.tmps.getD 58 undef = s58
              generalize a2.tmps.getD 59 undef = s59
              generalize a2.tmps.getD 60 undef = s60
              generalize a2.tmps.getD 61 undef = s61
              clear HXX
              go_upto_region 21 with fail
              refine (wpIn_wide (n := 0)).1 ?_
              refine wpIn_region_inv0 (by kernel_rfl) (by kernel_rfl) (fun T0 => EVG T0 (lDs 62) (lTab u8 k) (lEx u8.ts (b8 + 1)) (fun _ W => M3 w g r2 r3 r4 b6 b7 b8 a cap zs' px ⟨ad6, cp6, ts6⟩ v7 u8 W) 6 (fun W => ∃ v8 : Tr, M3 w g r2 r3 r4 b6 b7 b8 a cap zs' px ⟨ad6, cp6, ts6⟩ v7 v8 W ∧ Asc v8.ts ∧ Tiny 100 1620 v8.ts ∧ v8.ts.length ≤ 103 + (k + 1))) ?_ ?_ ?_
              · exact ⟨Sl2.start _, (fun _ => HE7.out.later (Below.refl _ _).drew), (fun _ i _ hL => by rw [getD_repl] at hL; cases hL), (fun h => by rw [getD_repl] at h; cases h)⟩
              · intro L a2 w9 hinv hall
                obtain ⟨v8, hE, hA, hT, hN⟩ := hinv.fin (hall 6 (by decide))
                have HXX : Keep _ := ⟨hinv.sl.act⟩
                have HE8 : Keep _ := ⟨hE⟩
                have HF8 : Keep (Asc v8.ts ∧ Tiny 100 1620 v8.ts ∧ v8.ts.length ≤ 103 + (k + 1)) := ⟨⟨hA, hT, hN⟩⟩
                clear hinv hall hE hA hT hN
                rw [HXX.out]
                simp only [updL, lDs, List.contains_cons, List.contains_nil, Nat.reduceAdd, Nat.reduceBEq, Bool.or_false, cond_false, cond_true, Bool.or_true]
                generalize a2.tmps.getD 62 undef = s62
                generalize a2.tmps.getD 63 undef = s63
                generalize a2.tmps.getD 64 undef = s64
                generalize a2.tmps.getD 65 undef = s65
                generalize a2.tmps.getD 66 undef = s66
                generalize a2.tmps.getD 67 undef = s67
                clear HXX
                go_wp2
                go_roundw
                case rel => exact ⟨k + 1, v7, v8, by congr 1, by omega, HE8.out, ⟨⟨HF7.out, HF8.out⟩⟩⟩
                case measure => simp only [intOf]; omega
              · intro L a2 w9 i o hinv hcl hL ho hdep
                have hin : i < 7 := (Array.getElem?_eq_some_iff.1 ho).1
                have hm : i ≠ 6 → L.getD 6 false = false := fun hne => by
                  cases hb : L.getD 6 false with
                  | false => rfl
                  | true =>
                    exfalso
                    have d5 := hcl 6 _ rfl hb ⟨5, .data⟩ (by simp) rfl
                    have d0 := hcl 5 _ rfl d5 ⟨0, .data⟩ (by simp) rfl
                    have d4 := hcl 5 _ rfl d5 ⟨4, .data⟩ (by simp) rfl
                    have d3 := hcl 4 _ rfl d4 ⟨3, .data⟩ (by simp) rfl
                    have d2 := hcl 3 _ rfl d3 ⟨2, .data⟩ (by simp) rfl
                    have d1 := hcl 2 _ rfl d2 ⟨1, .data⟩ (by simp) rfl
                    have hf := getD_ft hL
                    match i, hin, hne, hf with
                    | 0, _, _, hf => rw [d0] at hf; cases hf
                    | 1, _, _, hf => rw [d1] at hf; cases hf
                    | 2, _, _, hf => rw [d2] at hf; cases hf
                    | 3, _, _, hf => rw [d3] at hf; cases hf
                    | 4, _, _, hf => rw [d4] at hf; cases hf
                    | 5, _, _, hf => rw [d5] at hf; cases hf
                    | 6, _, hne, _ => exact hne rfl
                unfold wpOpIn
                rw [ho]
                clear hcl
                match i, hin, hL, ho, hdep, hm with
                | 0, _, hL, ho, hdep, hm =>
                  injection ho with ho; subst ho
                  dsimp only
                  rw [if_pos (by rfl)]
                  refine ⟨fun f _ => trivial, ?_⟩
                  have e8 : a2.tmps[8]?.getD undef = .pointer (some ⟨b8, 0, none⟩) := hinv.sl.old (by decide)
                  have z0 := (hinv.wd (hm (by omega))).x8.c
                  go_simp
                  exact hinv.step lNd62 (lSt (g := g) (gr_below (Below.refl _ _)) HGB.out) (i := 0) (by decide) (by show 62 < 90; decide) (by omega) (hm (by omega)) (fun u hu => by cases hu; rfl) trivial (hinv.wd (hm (by omega)))
                | 1, _, hL, ho, hdep, hm =>
                  injection ho with ho; subst ho
                  dsimp only
                  rw [if_pos (by rfl)]
                  refine ⟨fun f _ => trivial, ?_⟩
                  have e11 : a2.tmps[11]?.getD undef = .int .i64 (k : Int) := hinv.sl.old (by decide)
                  go_simp
                  exact hinv.step lNd62 (lSt (g := g) (gr_below (Below.refl _ _)) HGB.out) (i := 1) (by decide) (by show 63 < 90; decide) (by omega) (hm (by omega)) (fun u hu => by cases hu; rfl) trivial (hinv.wd (hm (by omega)))
                | 2, _, hL, ho, hdep, hm =>
                  injection ho with ho; subst ho
                  dsimp only
                  rw [if_pos (by rfl)]
                  refine ⟨fun f _ => trivial, ?_⟩
                  have e63 : a2.tmps[63]?.getD undef = .int .i64 (k : Int) := hinv.sl.new (i := 1) (by decide) rfl (hdep ⟨1, .data⟩ (by simp) rfl)
                  go_simp
                  refine ⟨rfl, CallsIn.mono (callsIn_wide.2 (dec2_any k _ (by omega))) ?_⟩
                  rintro e' w' ⟨s, rfl, hs, hb'⟩
                  exact hinv.step lNd62 (lSt (g := g) (gr_below hb') HGB.out) (i := 2) (by decide) (by show 64 < 90; decide) (by omega) (hm (by omega)) (fun u hu => by cases hu) ⟨s, rfl, hs⟩ ((hinv.wd (hm (by omega))).later hb')
                | 3, _, hL, ho, hdep, hm =>
                  injection ho with ho; subst ho
                  dsimp only
                  rw [if_pos (by rfl)]
                  refine ⟨fun f _ => trivial, ?_⟩
                  obtain ⟨s, h21, h22⟩ := hinv.ex (hm (by omega)) 2 (by decide) (hdep ⟨2, .data⟩ (by simp) rfl)
                  have e64 : a2.tmps[64]?.getD undef = .string s := evalD2 h21
                  have hc3 : ¬ 9223372036854775807 < 1 + s.size := by omega
                  go_simp
                  exact hinv.step lNd62 (lSt (g := g) (gr_below (Below.refl _ _)) HGB.out) (i := 3) (by decide) (by show 65 < 90; decide) (by omega) (hm (by omega)) (fun u hu => by cases hu) ⟨_, rfl, by rw [ByteArray.size_append]; show 1 + s.size ≤ 3; omega⟩ (hinv.wd (hm (by omega)))
                | 4, _, hL, ho, hdep, hm =>
                  injection ho with ho; subst ho
                  dsimp only
                  rw [if_pos (by rfl)]
                  refine ⟨fun f _ => trivial, ?_⟩
                  obtain ⟨s, h31, h32⟩ := hinv.ex (hm (by omega)) 3 (by decide) (hdep ⟨3, .data⟩ (by simp) rfl)
                  have e65 : a2.tmps[65]?.getD undef = .string s := evalD2 h31
                  go_simp
                  exact hinv.step lNd62 (lSt (g := g) (gr_below (Below.refl _ _)) HGB.out) (i := 4) (by decide) (by show 66 < 90; decide) (by omega) (hm (by omega)) (fun u hu => by cases hu) ⟨s, rfl, h32⟩ (hinv.wd (hm (by omega)))
                | 5, _, hL, ho, hdep, hm =>
                  injection ho with ho; subst ho
                  dsimp only
                  rw [if_pos (by rfl)]
                  refine ⟨fun f _ => trivial, ?_⟩
                  obtain ⟨s, h41, h42⟩ := hinv.ex (hm (by omega)) 4 (by decide) (hdep ⟨4, .data⟩ (by simp) rfl)
                  have e66 : a2.tmps[66]?.getD undef = .agg #[.string s, .string ⟨#[]⟩, .bool false] := evalD2 h41
                  have e62 : a2.tmps[62]?.getD undef = .agg #[.slice u8.ad u8.ts.length u8.cp] := hinv.sl.new (i := 0) (by decide) rfl (hdep ⟨0, .data⟩ (by simp) rfl)
                  have hwd := hinv.wd (hm (by omega))
                  go_simp
                  refine ⟨rfl, CallsIn.mono (callsIn_wide.2 (l5SetC_any u8.ad u8.cp u8.ts ⟨s, ⟨#[]⟩, false⟩ w9 hwd.x8.el.es (by omega) HA8L.out.1)) ?_⟩
                  rintro e' w' ⟨ad', cap', us, rfl, hrel, hel, hb', hln, hrm⟩
                  exact hinv.step lNd62 (lSt (g := g) (gr_below hb') HGB.out) (i := 5) (by decide) (by show 67 < 90; decide) (by omega) (hm (by omega)) (fun u hu => by cases hu) ⟨ad', cap', us, _, rfl, hrel, h42, Nat.le_refl _, hel.mono hwd.x8.lt, hln, hrm⟩ (hwd.later hb')
                | 6, _, hL, ho, hdep, hm =>
                  injection ho with ho; subst ho
                  dsimp only
                  rw [if_pos (by rfl)]
                  refine ⟨fun f _ => trivial, ?_⟩
                  have h60 := getD_ft hL
                  obtain ⟨ad', cap', us, en, h51, h52, h53, h54, h55, h56, h57⟩ := hinv.ex h60 5 (by decide) (hdep ⟨5, .data⟩ (by simp) rfl)
                  have e67 : a2.tmps[67]?.getD undef = .agg #[.slice ad' us.length cap'] := evalD2 h51
                  have e8 : a2.tmps[8]?.getD undef = .pointer (some ⟨b8, 0, none⟩) := hinv.sl.old (by decide)
                  have hwd := hinv.wd h60
                  have z0 := hwd.x8.c
                  have z1 := hwd.x8.f
                  have HP : Keep _ := ⟨hwd.put8 (u := ⟨ad', cap', us⟩) h55 h57⟩
                  have HS : Keep _ := ⟨h52⟩
                  clear h55 hwd h52
                  go_simp
                  exact hinv.last rfl hL ⟨⟨ad', cap', us⟩, HP.out, HS.out.asc, HA8L.out.2.1.setRel ⟨by omega, by omega⟩ HS.out, by have := HA8L.out.2.2; show us.length ≤ 103 + (k + 1); omega⟩
            · intro L a2 w9 i o hinv hcl hL ho hdep
              have hin : i < 7 := (Array.getElem?_eq_some_iff.1 ho).1
              have hm : i ≠ 6 → L.getD 6 false = false := fun hne => by
                cases hb : L.getD 6 false with
                | false => rfl
                | true =>
                  exfalso
                  have d5 := hcl 6 _ rfl hb ⟨5, .data⟩ (by simp) rfl
                  have d0 := hcl 5 _ rfl d5 ⟨0, .data⟩ (by simp) rfl
                  have d4 := hcl 5 _ rfl d5 ⟨4, .data⟩ (by simp) rfl
                  have d3 := hcl 4 _ rfl d4 ⟨3, .data⟩ (by simp) rfl
                  have d2 := hcl 3 _ rfl d3 ⟨2, .data⟩ (by simp) rfl
                  have d1 := hcl 2 _ rfl d2 ⟨1, .data⟩ (by simp) rfl
                  have hf := getD_ft hL
                  match i, hin, hne, hf with
                  | 0, _, _, hf => rw [d0] at hf; cases hf
                  | 1, _, _, hf => rw [d1] at hf; cases hf
                  | 2, _, _, hf => rw [d2] at hf; cases hf
                  | 3, _, _, hf => rw [d3] at hf; cases hf
                  | 4, _, _, hf => rw [d4] at hf; cases hf
                  | 5, _, _, hf => rw [d5] at hf; cases hf
                  | 6, _, hne, _ => exact hne rfl
              unfold wpOpIn
              rw [ho]
              clear hcl
              match i, hin, hL, ho, hdep, hm with
              | 0, _, hL, ho, hdep, hm =>
                injection ho with ho; subst ho
                dsimp only
                rw [if_pos (by rfl)]
                refine ⟨fun f _ => trivial, ?_⟩
                have e7 : a2.tmps[7]?.getD undef = .pointer (some ⟨b7, 0, none⟩) := hinv.sl.old (by decide)
                have z0 := (hinv.wd (hm (by omega))).x7.c
                go_simp
                exact hinv.step lNd56 (lSt (g := g) (gr_below (Below.refl _ _)) HGB.out) (i := 0) (by decide) (by show 56 < 90; decide) (by omega) (hm (by omega)) (fun u hu => by cases hu; rfl) trivial (hinv.wd (hm (by omega)))
              | 1, _, hL, ho, hdep, hm =>
                injection ho with ho; subst ho
                dsimp only
                rw [if_pos (by rfl)]
                refine ⟨fun f _ => trivial, ?_⟩
                have e11 : a2.tmps[11]?.getD undef = .int .i64 (k : Int) := hinv.sl.old (by decide)
                go_simp
                exact hinv.step lNd56 (lSt (g := g) (gr_below (Below.refl _ _)) HGB.out) (i := 1) (by decide) (by show 57 < 90; decide) (by omega) (hm (by omega)) (fun u hu => by cases hu; rfl) trivial (hinv.wd (hm (by omega)))
              | 2, _, hL, ho, hdep, hm =>
                injection ho with ho; subst ho
                dsimp only
                rw [if_pos (by rfl)]
                refine ⟨fun f _ => trivial, ?_⟩
                have e57 : a2.tmps[57]?.getD undef = .int .i64 (k : Int) := hinv.sl.new (i := 1) (by decide) rfl (hdep ⟨1, .data⟩ (by simp) rfl)
                go_simp
                refine ⟨rfl, CallsIn.mono (callsIn_wide.2 (dec2_any k _ (by omega))) ?_⟩
                rintro e' w' ⟨s, rfl, hs, hb'⟩
                exact hinv.step lNd56 (lSt (g := g) (gr_below hb') HGB.out) (i := 2) (by decide) (by show 58 < 90; decide) (by omega) (hm (by omega)) (fun u hu => by cases hu) ⟨s, rfl, hs⟩ ((hinv.wd (hm (by omega))).later hb')
              | 3, _, hL, ho, hdep, hm =>
                injection ho with ho; subst ho
                dsimp only
                rw [if_pos (by rfl)]
                refine ⟨fun f _ => trivial, ?_⟩
                obtain ⟨s, h21, h22⟩ := hinv.ex (hm (by omega)) 2 (by decide) (hdep ⟨2, .data⟩ (by simp) rfl)
                have e58 : a2.tmps[58]?.getD undef = .string s := evalD2 h21
                have hc3 : ¬ 9223372036854775807 < 1 + s.size := by omega
                go_simp
                exact hinv.step lNd56 (lSt (g := g) (gr_below (Below.refl _ _)) HGB.out) (i := 3) (by decide) (by show 59 < 90; decide) (by omega) (hm (by omega)) (fun u hu => by cases hu) ⟨_, rfl, by rw [ByteArray.size_append]; show 1 + s.size ≤ 3; omega⟩ (hinv.wd (hm (by omega)))
              | 4, _, hL, ho, hdep, hm =>
                injection ho with ho; subst ho
                dsimp only
                rw [if_pos (by rfl)]
                refine ⟨fun f _ => trivial, ?_⟩
                obtain ⟨s, h31, h32⟩ := hinv.ex (hm (by omega)) 3 (by decide) (hdep ⟨3, .data⟩ (by simp) rfl)
                have e59 : a2.tmps[59]?.getD undef = .string s := evalD2 h31
                go_simp
                exact hinv.step lNd56 (lSt (g := g) (gr_below (Below.refl _ _)) HGB.out) (i := 4) (by decide) (by show 60 < 90; decide) (by omega) (hm (by omega)) (fun u hu => by cases hu) ⟨s, rfl, h32⟩ (hinv.wd (hm (by omega)))
              | 5, _, hL, ho, hdep, hm =>
                injection ho with ho; subst ho
                dsimp only
                rw [if_pos (by rfl)]
                refine ⟨fun f _ => trivial, ?_⟩
                obtain ⟨s, h41, h42⟩ := hinv.ex (hm (by omega)) 4 (by decide) (hdep ⟨4, .data⟩ (by simp) rfl)
                have e60 : a2.tmps[60]?.getD undef = .agg #[.string s, .string ⟨#[]⟩, .bool false] := evalD2 h41
                have e56 : a2.tmps[56]?.getD undef = .agg #[.slice u7.ad u7.ts.length u7.cp] := hinv.sl.new (i := 0) (by decide) rfl (hdep ⟨0, .data⟩ (by simp) rfl)
                have hwd := hinv.wd (hm (by omega))
                go_simp
                refine ⟨rfl, CallsIn.mono (callsIn_wide.2 (l5SetC_any u7.ad u7.cp u7.ts ⟨s, ⟨#[]⟩, false⟩ w9 hwd.x7.el.es (by omega) HA7L.out.1)) ?_⟩
                rintro e' w' ⟨ad', cap', us, rfl, hrel, hel, hb', hln, hrm⟩
                exact hinv.step lNd56 (lSt (g := g) (gr_below hb') HGB.out) (i := 5) (by decide) (by show 61 < 90; decide) (by omega) (hm (by omega)) (fun u hu => by cases hu) ⟨ad', cap', us, _, rfl, hrel, h42, Nat.le_refl _, hel.mono hwd.x8.lt, hln, hrm⟩ (hwd.later hb')
              | 6, _, hL, ho, hdep, hm =>
                injection ho with ho; subst ho
                dsimp only
                rw [if_pos (by rfl)]
                refine ⟨fun f _ => trivial, ?_⟩
                have h60 := getD_ft hL
                obtain ⟨ad', cap', us, en, h51, h52, h53, h54, h55, h56, h57⟩ := hinv.ex h60 5 (by decide) (hdep ⟨5, .data⟩ (by simp) rfl)
                have e61 : a2.tmps[61]?.getD undef = .agg #[.slice ad' us.length cap'] := evalD2 h51
                have e7 : a2.tmps[7]?.getD undef = .pointer (some ⟨b7, 0, none⟩) := hinv.sl.old (by decide)
                have hwd := hinv.wd h60
                have z0 := hwd.x7.c
                have z1 := hwd.x7.f
                have HP : Keep _ := ⟨hwd.put7 (u := ⟨ad', cap', us⟩) h55 h57⟩
                have HS : Keep _ := ⟨h52⟩
                clear h55 hwd h52
                go_simp
                exact hinv.last rfl hL ⟨⟨ad', cap', us⟩, HP.out, HS.out.asc, HA7L.out.2.1.setRel ⟨by omega, by omega⟩ HS.out, by have := HA7L.out.2.2; show us.length ≤ 103 + (k + 1); omega⟩
          · obtain rfl : k = 60 := by omega
            have HQA : Keep (TQ u7 ∧ TQ u8) := ⟨⟨⟨by have := HU.out.1.2.2; omega, HU.out.1.2.1.wide (by omega) (by omega)⟩, ⟨by have := HU.out.2.2.2; omega, HU.out.2.2.1.wide (by omega) (by omega)⟩⟩⟩
            clear hML
            go_wp2_with fail
            go_meet
            case rel => exact ⟨px, _, _, _, HML.out, HQ6.out, HQA.out.1, HQA.out.2⟩
      have hB3 : ((y : Int) == 3) = false := by simp; omega
      by_cases y4 : y = 4
      · have hB : ((y : Int) == 4) = true := by simp; omega
        clear y0 y1 y2 y3 y4
        have HGB : Keep (g < b8 + 1) := ⟨by have := hM.ord; omega⟩
        have c6 := hM.x6.c
        have hly := l6LayC_any ad6 cp6 ts6 ⟨#[97]⟩ ⟨true, ⟨#[109, 10]⟩, false⟩ wc hM.x6.el.es (by have := HL.out; omega) HA6.out.1
        go_wp2_with fail
        refine hly.mono ?_
        rintro e w8 ⟨ad, cp, us, rfl, hrel, hel, hb8, hn, hrm⟩
        have hM8 := hM.later hb8
        replace c6 := hM8.x6.c
        have f6 := hM8.x6.f
        have HM9 : Keep _ := ⟨hM8.put6 (u := ⟨ad, cp, us⟩) (hel.mono hlt8) hrm⟩
        have HU : Keep (Asc us ∧ Tiny 40 20 us) := ⟨⟨hrel.asc HA6.out.1, HA6.out.2.1.layRel ⟨by show 1 ≤ 40; omega, by show 2 ≤ 20; omega⟩ hrel⟩⟩
        have HU6 : Keep (TQ ⟨ad, cp, us⟩) := ⟨⟨by have := HL.out; show us.length ≤ 300; omega, HU.out.2.wide (by omega) (by omega)⟩⟩
        clear hly hM8 hel hb8 hrel hM
        go_upto_region 24 with fail
        refine (wpIn_wide (n := 0)).1 ?_
        refine wpIn_region_inv0 (by kernel_rfl) (by kernel_rfl) (fun T0 => EVG T0 aDsM (aTabM ⟨ad, cp, us⟩ g) (aEx us (b8 + 1)) (IM w g r2 r3 r4 b6 b7 b8 a cap zs' ⟨ad, cp, us⟩ ⟨ad7, cp7, ts7⟩ ⟨ad8, cp8, ts8⟩) 8 (fun W => ∃ p v7, (p ≤ 1200 ∧ TQ v7) ∧ M3 w g r2 r3 r4 b6 b7 b8 a cap zs' p ⟨ad, cp, us⟩ v7 ⟨ad8, cp8, ts8⟩ W)) ?_ ?_ ?_
        · exact ⟨Sl2.start _, (fun _ => ⟨px, .inl (by omega), HM9.out.later (Below.refl _ _).drew⟩), (fun _ i _ hL => by rw [getD_repl] at hL; cases hL), (fun h => by rw [getD_repl] at h; cases h)⟩
        · intro L a2 w9 hinv hall
          obtain ⟨p24, v7, ⟨hp24, hV7⟩, hE⟩ := hinv.fin (hall 8 (by decide))
          have HXX : Keep _ := ⟨hinv.sl.act⟩
          have HE24 : Keep _ := ⟨hE⟩
          clear hinv hall hE
          rw [HXX.out]
          simp only [updL, aDsM, List.contains_cons, List.contains_nil, Nat.reduceAdd, Nat.reduceBEq, Bool.or_false, cond_false, cond_true, Bool.or_true]
          generalize a2.tmps.getD 73 undef = s73
          generalize a2.tmps.getD 74 undef = s74
          generalize a2.tmps.getD 75 undef = s75
          generalize a2.tmps.getD 76 undef = s76
          generalize a2.tmps.getD 77 undef = s77
          generalize a2.tmps.getD 78 undef = s78
          generalize a2.tmps.getD 79 undef = s79
          generalize a2.tmps.getD 80 undef = s80
          clear HXX
          have HV7 : Keep _ := ⟨hV7⟩
          clear hV7
          go_upto_region 25 with fail
          refine (wpIn_wide (n := 0)).1 ?_
          refine wpIn_region_inv0 (by kernel_rfl) (by kernel_rfl) (fun T0 => EVG T0 bDs (bTab ⟨ad, cp, us⟩) (bEx us (b8 + 1)) (fun _ W => M3 w g r2 r3 r4 b6 b7 b8 a cap zs' p24 ⟨ad, cp, us⟩ v7 ⟨ad8, cp8, ts8⟩ W) 6 (fun W => ∃ v8, TQ v8 ∧ M3 w g r2 r3 r4 b6 b7 b8 a cap zs' p24 ⟨ad, cp, us⟩ v7 v8 W)) ?_ ?_ ?_
          · exact ⟨Sl2.start _, (fun _ => HE24.out.later (Below.refl _ _).drew), (fun _ i _ hL => by rw [getD_repl] at hL; cases hL), (fun h => by rw [getD_repl] at h; cases h)⟩
          · intro L a2 w9 hinv hall
            obtain ⟨v8, hV8, hE⟩ := hinv.fin (hall 6 (by decide))
            have HXX : Keep _ := ⟨hinv.sl.act⟩
            have HE25 : Keep _ := ⟨hE⟩
            clear hinv hall hE
            rw [HXX.out]
            simp only [updL, bDs, List.contains_cons, List.contains_nil, Nat.reduceAdd, Nat.reduceBEq, Bool.or_false, cond_false, cond_true, Bool.or_true]
            generalize a2.tmps.getD 81 undef = s81
            generalize a2.tmps.getD 82 undef = s82
            generalize a2.tmps.getD 83 undef = s83
            generalize a2.tmps.getD 84 undef = s84
            generalize a2.tmps.getD 85 undef = s85
            generalize a2.tmps.getD 86 undef = s86
            clear HXX
            have HV8 : Keep _ := ⟨hV8⟩
            clear hV8
            go_wp2_with fail
            go_meet
            case rel => exact ⟨p24, _, _, _, HE25.out, HU6.out, HV7.out, HV8.out⟩
          · intro L a2 w9 i o hinv hcl hL ho hdep
            have hin : i < 7 := (Array.getElem?_eq_some_iff.1 ho).1
            have hm : i ≠ 6 → L.getD 6 false = false := fun hne => by
              cases hb : L.getD 6 false with
              | false => rfl
              | true =>
                exfalso
                have d5 := hcl 6 _ rfl hb ⟨5, .data⟩ (by simp) rfl
                have d0 := hcl 5 _ rfl d5 ⟨0, .data⟩ (by simp) rfl
                have d4 := hcl 5 _ rfl d5 ⟨4, .data⟩ (by simp) rfl
                have d3 := hcl 4 _ rfl d4 ⟨3, .data⟩ (by simp) rfl
                have d2 := hcl 3 _ rfl d3 ⟨2, .data⟩ (by simp) rfl
                have d1 := hcl 2 _ rfl d2 ⟨1, .data⟩ (by simp) rfl
                have hf := getD_ft hL
                match i, hin, hne, hf with
                | 0, _, _, hf => rw [d0] at hf; cases hf
                | 1, _, _, hf => rw [d1] at hf; cases hf
                | 2, _, _, hf => rw [d2] at hf; cases hf
                | 3, _, _, hf => rw [d3] at hf; cases hf
                | 4, _, _, hf => rw [d4] at hf; cases hf
                | 5, _, _, hf => rw [d5] at hf; cases hf
                | 6, _, hne, _ => exact hne rfl
            unfold wpOpIn
            rw [ho]
            clear hcl
            match i, hin, hL, ho, hdep, hm with
            | 0, _, hL, ho, hdep, hm =>
              injection ho with ho; subst ho
              dsimp only
              rw [if_pos (by rfl)]
              refine ⟨fun f _ => trivial, ?_⟩
              have e6 : a2.tmps[6]?.getD undef = .pointer (some ⟨b6, 0, none⟩) := hinv.sl.old (by decide)
              have z0 := (hinv.wd (hm (by omega))).x6.c
              go_simp
              exact hinv.step bNd (bSt (g := g) (gr_below (Below.refl _ _)) HGB.out) (i := 0) (by decide) (by show 81 < 90; decide) (by omega) (hm (by omega)) (fun u hu => by cases hu; rfl) trivial (hinv.wd (hm (by omega)))
            | 1, _, hL, ho, hdep, hm =>
              injection ho with ho; subst ho
              dsimp only
              rw [if_pos (by rfl)]
              refine ⟨fun f _ => trivial, ?_⟩
              have hmn := manyI 121 796 0 (by omega) w9
              go_simp
              refine ⟨rfl, CallsIn.mono (callsIn_wide.2 hmn) ?_⟩
              rintro e' w' ⟨s, rfl, hs, rfl⟩
              exact hinv.step bNd (bSt (g := g) (gr_below (Below.refl _ _)) HGB.out) (i := 1) (by decide) (by show 82 < 90; decide) (by omega) (hm (by omega)) (fun u hu => by cases hu) ⟨s, rfl, by omega⟩ (hinv.wd (hm (by omega)))
            | 2, _, hL, ho, hdep, hm =>
              injection ho with ho; subst ho
              dsimp only
              rw [if_pos (by rfl)]
              refine ⟨fun f _ => trivial, ?_⟩
              obtain ⟨s, h11, h12⟩ := hinv.ex (hm (by omega)) 1 (by decide) (hdep ⟨1, .data⟩ (by simp) rfl)
              have e82 : a2.tmps[82]?.getD undef = .string s := evalD2 h11
              have hc3 : ¬ 9223372036854775807 < 2 + s.size := by omega
              go_simp
              exact hinv.step bNd (bSt (g := g) (gr_below (Below.refl _ _)) HGB.out) (i := 2) (by decide) (by show 83 < 90; decide) (by omega) (hm (by omega)) (fun u hu => by cases hu) ⟨_, rfl, by rw [ByteArray.size_append]; show 2 + s.size ≤ 798; omega⟩ (hinv.wd (hm (by omega)))
            | 3, _, hL, ho, hdep, hm =>
              injection ho with ho; subst ho
              dsimp only
              rw [if_pos (by rfl)]
              refine ⟨fun f _ => trivial, ?_⟩
              obtain ⟨s, h21, h22⟩ := hinv.ex (hm (by omega)) 2 (by decide) (hdep ⟨2, .data⟩ (by simp) rfl)
              have e83 : a2.tmps[83]?.getD undef = .string s := evalD2 h21
              have hc3 : ¬ 9223372036854775807 < s.size + 1 := by omega
              go_simp
              exact hinv.step bNd (bSt (g := g) (gr_below (Below.refl _ _)) HGB.out) (i := 3) (by decide) (by show 84 < 90; decide) (by omega) (hm (by omega)) (fun u hu => by cases hu) ⟨_, rfl, by rw [ByteArray.size_append]; show s.size + 1 ≤ 799; omega⟩ (hinv.wd (hm (by omega)))
            | 4, _, hL, ho, hdep, hm =>
              injection ho with ho; subst ho
              dsimp only
              rw [if_pos (by rfl)]
              refine ⟨fun f _ => trivial, ?_⟩
              obtain ⟨s, h31, h32⟩ := hinv.ex (hm (by omega)) 3 (by decide) (hdep ⟨3, .data⟩ (by simp) rfl)
              have e84 : a2.tmps[84]?.getD undef = .string s := evalD2 h31
              go_simp
              exact hinv.step bNd (bSt (g := g) (gr_below (Below.refl _ _)) HGB.out) (i := 4) (by decide) (by show 85 < 90; decide) (by omega) (hm (by omega)) (fun u hu => by cases hu) ⟨s, rfl, h32⟩ (hinv.wd (hm (by omega)))
            | 5, _, hL, ho, hdep, hm =>
              injection ho with ho; subst ho
              dsimp only
              rw [if_pos (by rfl)]
              refine ⟨fun f _ => trivial, ?_⟩
              obtain ⟨s, h41, h42⟩ := hinv.ex (hm (by omega)) 4 (by decide) (hdep ⟨4, .data⟩ (by simp) rfl)
              have e85 : a2.tmps[85]?.getD undef = .agg #[.bool true, .string s, .bool false] := evalD2 h41
              have e81 : a2.tmps[81]?.getD undef = .agg #[.slice ad us.length cp] := hinv.sl.new (i := 0) (by decide) rfl (hdep ⟨0, .data⟩ (by simp) rfl)
              have hwd := hinv.wd (hm (by omega))
              have hly := l6LayC_any ad cp us ⟨#[97]⟩ ⟨true, s, false⟩ w9 hwd.x6.el.es (by have := HL.out; omega) HU.out.1
              go_simp
              refine ⟨rfl, CallsIn.mono (callsIn_wide.2 hly) ?_⟩
              rintro e' w' ⟨ad', cap', us', rfl, hrel, hel, hb', hln, hrm⟩
              exact hinv.step bNd (bSt (g := g) (gr_below hb') HGB.out) (i := 5) (by decide) (by show 86 < 90; decide) (by omega) (hm (by omega)) (fun u hu => by cases hu) ⟨ad', cap', us', _, rfl, h42, hrel, hel.mono hwd.x8.lt, hln, hrm⟩ (hwd.later hb')
            | 6, _, hL, ho, hdep, hm =>
              injection ho with ho; subst ho
              dsimp only
              rw [if_pos (by rfl)]
              refine ⟨fun f _ => trivial, ?_⟩
              have h60 := getD_ft hL
              obtain ⟨ad', cap', us', f, h71, h72, h73, h74, h75, h76⟩ := hinv.ex h60 5 (by decide) (hdep ⟨5, .data⟩ (by simp) rfl)
              have e86 : a2.tmps[86]?.getD undef = .agg #[.slice ad' us'.length cap'] := evalD2 h71
              have e8 : a2.tmps[8]?.getD undef = .pointer (some ⟨b8, 0, none⟩) := hinv.sl.old (by decide)
              have hwd := hinv.wd h60
              have z0 := hwd.x8.c
              have z1 := hwd.x8.f
              have HP : Keep _ := ⟨hwd.put8 (u := ⟨ad', cap', us'⟩) h74 h76⟩
              have HT : Keep (TQ ⟨ad', cap', us'⟩) := ⟨⟨by have := HL.out; show us'.length ≤ 300; omega, ((HU.out.2.wide (P' := 1000) (T' := 20000) (by omega) (by omega)).layRel ⟨by show 1 ≤ 1000; omega, by omega⟩ h73)⟩⟩
              clear h74 hwd h73
              go_simp
              exact hinv.last rfl hL ⟨_, HT.out, HP.out⟩
        · intro L a2 w9 i o hinv hcl hL ho hdep
          have hin : i < 9 := (Array.getElem?_eq_some_iff.1 ho).1
          have hm : i ≠ 8 → L.getD 8 false = false := fun hne => by
            cases hb : L.getD 8 false with
            | false => rfl
            | true =>
              exfalso
              have d7 := hcl 8 _ rfl hb ⟨7, .data⟩ (by simp) rfl
              have d0 := hcl 7 _ rfl d7 ⟨0, .data⟩ (by simp) rfl
              have d6 := hcl 7 _ rfl d7 ⟨6, .data⟩ (by simp) rfl
              have d5 := hcl 6 _ rfl d6 ⟨5, .data⟩ (by simp) rfl
              have d4 := hcl 5 _ rfl d5 ⟨4, .data⟩ (by simp) rfl
              have d3 := hcl 4 _ rfl d4 ⟨3, .data⟩ (by simp) rfl
              have d2 := hcl 3 _ rfl d3 ⟨2, .data⟩ (by simp) rfl
              have d1 := hcl 2 _ rfl d2 ⟨1, .data⟩ (by simp) rfl
              have hf := getD_ft hL
              match i, hin, hne, hf with
              | 0, _, _, hf => rw [d0] at hf; cases hf
              | 1, _, _, hf => rw [d1] at hf; cases hf
              | 2, _, _, hf => rw [d2] at hf; cases hf
              | 3, _, _, hf => rw [d3] at hf; cases hf
              | 4, _, _, hf => rw [d4] at hf; cases hf
              | 5, _, _, hf => rw [d5] at hf; cases hf
              | 6, _, _, hf => rw [d6] at hf; cases hf
              | 7, _, _, hf => rw [d7] at hf; cases hf
              | 8, _, hne, _ => exact hne rfl
          unfold wpOpIn
          rw [ho]
          clear hcl
          match i, hin, hL, ho, hdep, hm with
          | 0, _, hL, ho, hdep, hm =>
            injection ho with ho; subst ho
            dsimp only
            rw [if_pos (by rfl)]
            refine ⟨fun f _ => trivial, ?_⟩
            have e6 : a2.tmps[6]?.getD undef = .pointer (some ⟨b6, 0, none⟩) := hinv.sl.old (by decide)
            obtain ⟨p0, hp0, hwd⟩ := hinv.wd (hm (by omega))
            have z0 := hwd.x6.c
            go_simp
            exact hinv.step aNdM (aSt (g := g) (gr_below (Below.refl _ _)) HGB.out) (i := 0) (by decide) (by show 73 < 90; decide) (by omega) (hm (by omega)) (fun u hu => by cases hu; rfl) trivial ((hinv.wd (hm (by omega))).keep (by omega))
          | 1, _, hL, ho, hdep, hm =>
            injection ho with ho; subst ho
            dsimp only
            rw [if_pos (by rfl)]
            refine ⟨fun f _ => trivial, ?_⟩
            have e5 : a2.tmps[5]?.getD undef = .pointer (some ⟨g, 0, none⟩) := hinv.sl.old (by decide)
            go_simp
            exact hinv.step aNdM (aSt (g := g) (gr_below (Below.refl _ _)) HGB.out) (i := 1) (by decide) (by show 74 < 90; decide) (by omega) (hm (by omega)) (fun u hu => by cases hu; rfl) trivial ((hinv.wd (hm (by omega))).keep (by omega))
          | 2, _, hL, ho, hdep, hm =>
            injection ho with ho; subst ho
            dsimp only
            rw [if_pos (by rfl)]
            refine ⟨fun f _ => trivial, ?_⟩
            have e74 : a2.tmps[74]?.getD undef = .pointer (some ⟨g, 0, none⟩) := hinv.sl.new (i := 1) (by decide) rfl (hdep ⟨1, .data⟩ (by simp) rfl)
            obtain ⟨p0, hp0, hwd⟩ := hinv.wd (hm (by omega))
            replace hp0 : p0 ≤ 1100 := by
              rcases hp0 with h0 | ⟨h0, _⟩
              · exact h0
              · rw [getD_ft hL] at h0; cases h0
            go_simp
            refine ⟨rfl, CallsIn.mono (callsIn_wide.2 (pick_any g a cap zs' p0 2 w9 hwd.rd (by omega) (by omega) (by omega))) ?_⟩
            rintro e' w' ⟨z, rfl, hz, hg', hR'⟩
            exact hinv.step aNdM (aSt (g := g) hg' HGB.out) (i := 2) (by decide) (by show 75 < 90; decide) (by omega) (hm (by omega)) (fun u hu => by cases hu) ⟨z, rfl, by omega, by omega⟩ ⟨p0 + 1, .inr ⟨getD_put2 hL, by omega⟩, hwd.step hg' hR'⟩
          | 3, _, hL, ho, hdep, hm =>
            injection ho with ho; subst ho
            dsimp only
            rw [if_pos (by rfl)]
            refine ⟨fun f _ => trivial, ?_⟩
            obtain ⟨z, h21, h22, h23⟩ := hinv.ex (hm (by omega)) 2 (by decide) (hdep ⟨2, .data⟩ (by simp) rfl)
            have e75 : a2.tmps[75]?.getD undef = .int .i64 (z : Int) := evalD2 h21
            have hw7 : IntKind.i64.wrap (700 + (z : Int)) = ((700 + z : Nat) : Int) := by rw [IntKind.wrap_i64] <;> omega
            go_simp
            exact hinv.step aNdM (aSt (g := g) (gr_below (Below.refl _ _)) HGB.out) (i := 3) (by decide) (by show 76 < 90; decide) (by omega) (hm (by omega)) (fun u hu => by cases hu) ⟨700 + z, by first | rfl | (congr 1; omega) | simp, by omega, by omega⟩ ((hinv.wd (hm (by omega))).keep (by omega))
          | 4, _, hL, ho, hdep, hm =>
            injection ho with ho; subst ho
            dsimp only
            rw [if_pos (by rfl)]
            refine ⟨fun f _ => trivial, ?_⟩
            obtain ⟨z, h31, h32, h33⟩ := hinv.ex (hm (by omega)) 3 (by decide) (hdep ⟨3, .data⟩ (by simp) rfl)
            have e76 : a2.tmps[76]?.getD undef = .int .i64 (z : Int) := evalD2 h31
            have hmn := manyI 120 z 0 (by omega) w9
            go_simp
            refine ⟨rfl, CallsIn.mono (callsIn_wide.2 hmn) ?_⟩
            rintro e' w' ⟨s, rfl, hs, rfl⟩
            exact hinv.step aNdM (aSt (g := g) (gr_below (Below.refl _ _)) HGB.out) (i := 4) (by decide) (by show 77 < 90; decide) (by omega) (hm (by omega)) (fun u hu => by cases hu) ⟨s, rfl, by omega⟩ ((hinv.wd (hm (by omega))).keep (by omega))
          | 5, _, hL, ho, hdep, hm =>
            injection ho with ho; subst ho
            dsimp only
            rw [if_pos (by rfl)]
            refine ⟨fun f _ => trivial, ?_⟩
            obtain ⟨s, h41, h42⟩ := hinv.ex (hm (by omega)) 4 (by decide) (hdep ⟨4, .data⟩ (by simp) rfl)
            have e77 : a2.tmps[77]?.getD undef = .string s := evalD2 h41
            have hc3 : ¬ 9223372036854775807 < s.size + 3 := by omega
            go_simp
            exact hinv.step aNdM (aSt (g := g) (gr_below (Below.refl _ _)) HGB.out) (i := 5) (by decide) (by show 78 < 90; decide) (by omega) (hm (by omega)) (fun u hu => by cases hu) ⟨_, rfl, by rw [ByteArray.size_append]; show s.size + 3 ≤ 704; omega⟩ ((hinv.wd (hm (by omega))).keep (by omega))
          | 6, _, hL, ho, hdep, hm =>
            injection ho with ho; subst ho
            dsimp only
            rw [if_pos (by rfl)]
            refine ⟨fun f _ => trivial, ?_⟩
            obtain ⟨s, h51, h52⟩ := hinv.ex (hm (by omega)) 5 (by decide) (hdep ⟨5, .data⟩ (by simp) rfl)
            have e78 : a2.tmps[78]?.getD undef = .string s := evalD2 h51
            go_simp
            exact hinv.step aNdM (aSt (g := g) (gr_below (Below.refl _ _)) HGB.out) (i := 6) (by decide) (by show 79 < 90; decide) (by omega) (hm (by omega)) (fun u hu => by cases hu) ⟨s, rfl, h52⟩ ((hinv.wd (hm (by omega))).keep (by omega))
          | 7, _, hL, ho, hdep, hm =>
            injection ho with ho; subst ho
            dsimp only
            rw [if_pos (by rfl)]
            refine ⟨fun f _ => trivial, ?_⟩
            obtain ⟨s, h61, h62⟩ := hinv.ex (hm (by omega)) 6 (by decide) (hdep ⟨6, .data⟩ (by simp) rfl)
            have e79 : a2.tmps[79]?.getD undef = .agg #[.bool true, .string s, .bool false] := evalD2 h61
            have e73 : a2.tmps[73]?.getD undef = .agg #[.slice ad us.length cp] := hinv.sl.new (i := 0) (by decide) rfl (hdep ⟨0, .data⟩ (by simp) rfl)
            obtain ⟨p0, hp0, hwd⟩ := hinv.wd (hm (by omega))
            have hly := l6LayC_any ad cp us ⟨#[97]⟩ ⟨true, s, false⟩ w9 hwd.x6.el.es (by have := HL.out; omega) HU.out.1
            go_simp
            refine ⟨rfl, CallsIn.mono (callsIn_wide.2 hly) ?_⟩
            rintro e' w' ⟨ad', cap', us', rfl, hrel, hel, hb', hln, hrm⟩
            exact hinv.step aNdM (aSt (g := g) (gr_below hb') HGB.out) (i := 7) (by decide) (by show 80 < 90; decide) (by omega) (hm (by omega)) (fun u hu => by cases hu) ⟨ad', cap', us', _, rfl, h62, hrel, hel.mono hwd.x8.lt, hln, hrm⟩ (((hinv.wd (hm (by omega))).later hb').keep (by omega))
          | 8, _, hL, ho, hdep, hm =>
            injection ho with ho; subst ho
            dsimp only
            rw [if_pos (by rfl)]
            refine ⟨fun f _ => trivial, ?_⟩
            have h80 := getD_ft hL
            obtain ⟨ad', cap', us', f, h71, h72, h73, h74, h75, h76⟩ := hinv.ex h80 7 (by decide) (hdep ⟨7, .data⟩ (by simp) rfl)
            have e80 : a2.tmps[80]?.getD undef = .agg #[.slice ad' us'.length cap'] := evalD2 h71
            have e7 : a2.tmps[7]?.getD undef = .pointer (some ⟨b7, 0, none⟩) := hinv.sl.old (by decide)
            obtain ⟨p0, hp0, hwd⟩ := hinv.wd h80
            have z0 := hwd.x7.c
            have z1 := hwd.x7.f
            have HP : Keep _ := ⟨hwd.put7 (u := ⟨ad', cap', us'⟩) h74 h76⟩
            have HT : Keep (TQ ⟨ad', cap', us'⟩) := ⟨⟨by have := HL.out; show us'.length ≤ 300; omega, ((HU.out.2.wide (P' := 1000) (T' := 20000) (by omega) (by omega)).layRel ⟨by show 1 ≤ 1000; omega, by omega⟩ h73)⟩⟩
            clear h74 hwd h73
            go_simp
            exact hinv.last rfl hL ⟨p0, _, ⟨by rcases hp0 with h0 | ⟨_, h0⟩ <;> omega, HT.out⟩, HP.out⟩
      have hB4 : ((y : Int) == 4) = false := by simp; omega
      have HM9 : Keep _ := ⟨hM⟩
      clear y0 y1 y2 y3 y4 hM
      go_wp2_with fail
      go_meet
      case rel => exact ⟨px, _, _, _, HM9.out, HQ6.out, HQ7.out, HQ8.out⟩
    case rest =>
      clear hM
      obtain ⟨px, t6, t7, t8, hM, q6, q7, q8⟩ := hcut
      have HQ : Keep (TQ t6 ∧ TQ t7 ∧ TQ t8) := ⟨⟨q6, q7, q8⟩⟩
      have HORD : Keep (r2 < r3 ∧ r3 < r4 ∧ r4 < g ∧ g < b6 ∧ b6 < b7 ∧ b7 < b8 ∧ w.heap.size ≤ r2) := ⟨by have := hM.ord; omega⟩
      have hM0 := hM.later (W' := wc.drew) (Below.refl _ _).drew
      have HM : Keep _ := ⟨hM0⟩
      clear q6 q7 q8 hM hM0
      go_upto_region 26 with fail
      refine (wpIn_wide (n := 0)).1 ?_
      refine wpIn_region_inv0 (by kernel_rfl) (by kernel_rfl) (fun T0 => RV3 w g r2 r3 r4 b6 b7 b8 t6 t7 t8 T0) ?_ ?_ ?_
      · exact ⟨Sl2.start _, HM.out.bw, HM.out.x6, HM.out.x7, HM.out.x8, by rw [getD_repl]; exact HM.out.c2, HM.out.f2, by rw [getD_repl]; exact HM.out.c3, HM.out.f3, by rw [getD_repl]; exact HM.out.c4, HM.out.f4⟩
      · intro L a2 w9 hinv hall
        have z2 : w9.cell? ⟨r2, 0, none⟩ = some (.slice t6.ad t6.ts.length t6.cp) := by have := hinv.c2; rw [hall 3 (by decide)] at this; exact this
        have z3 : w9.cell? ⟨r3, 0, none⟩ = some (.slice t7.ad t7.ts.length t7.cp) := by have := hinv.c3; rw [hall 4 (by decide)] at this; exact this
        have z4 : w9.cell? ⟨r4, 0, none⟩ = some (.slice t8.ad t8.ts.length t8.cp) := by have := hinv.c4; rw [hall 5 (by decide)] at this; exact this
        have hfin : DrawnM w (.returned (.tuple #[.agg #[.slice t6.ad t6.ts.length t6.cp], .agg #[.slice t7.ad t7.ts.length t7.cp], .agg #[.slice t8.ad t8.ts.length t8.cp]])) w9 := ⟨t6, t7, t8, rfl, hinv.x6.el.es, hinv.x7.el.es, hinv.x8.el.es, HQ.out.1, HQ.out.2.1, HQ.out.2.2, hinv.x6.rm, hinv.x7.rm, hinv.x8.rm, hinv.bw⟩
        have HXX : Keep _ := ⟨hinv.sl.act⟩
        have HF : Keep _ := ⟨hfin⟩
        clear hinv hall hfin
        rw [HXX.out]
        simp only [updL, zDs, List.contains_cons, List.contains_nil, Nat.reduceAdd, Nat.reduceBEq, Bool.or_false, cond_false, cond_true, Bool.or_true]
        go_wp2
        refine bodyPost_ret (v := .tuple #[.agg #[.slice t6.ad t6.ts.length t6.cp], .agg #[.slice t7.ad t7.ts.length t7.cp], .agg #[.slice t8.ad t8.ts.length t8.cp]]) ?_ rfl HF.out
        go_light
        simp [results, Try.results5, go_sem, z2, z3, z4]
      · intro L a2 w9 i o hinv hcl hL ho hdep
        have hi6 : i < 6 := (Array.getElem?_eq_some_iff.1 ho).1
        unfold wpOpIn
        rw [ho]
        clear hcl
        match i, hi6, hL, ho, hdep with
        | 0, _, hL, ho, hdep =>
          injection ho with ho; subst ho
          dsimp only
          rw [if_pos (by rfl)]
          refine ⟨fun f _ => trivial, ?_⟩
          have e6 : a2.tmps[6]?.getD undef = .pointer (some ⟨b6, 0, none⟩) := hinv.sl.old (by decide)
          have z0 := hinv.x6.c
          go_simp
          exact hinv.step (i := 0) (by omega) (by show 87 < 90; decide) rfl
        | 1, _, hL, ho, hdep =>
          injection ho with ho; subst ho
          dsimp only
          rw [if_pos (by rfl)]
          refine ⟨fun f _ => trivial, ?_⟩
          have e7 : a2.tmps[7]?.getD undef = .pointer (some ⟨b7, 0, none⟩) := hinv.sl.old (by decide)
          have z0 := hinv.x7.c
          go_simp
          exact hinv.step (i := 1) (by omega) (by show 88 < 90; decide) rfl
        | 2, _, hL, ho, hdep =>
          injection ho with ho; subst ho
          dsimp only
          rw [if_pos (by rfl)]
          refine ⟨fun f _ => trivial, ?_⟩
          have e8 : a2.tmps[8]?.getD undef = .pointer (some ⟨b8, 0, none⟩) := hinv.sl.old (by decide)
          have z0 := hinv.x8.c
          go_simp
          exact hinv.step (i := 2) (by omega) (by show 89 < 90; decide) rfl
        | 3, _, hL, ho, hdep =>
          injection ho with ho; subst ho
          dsimp only
          rw [if_pos (by rfl)]
          refine ⟨fun f _ => trivial, ?_⟩
          have e2 : a2.tmps[2]?.getD undef = .pointer (some ⟨r2, 0, none⟩) := hinv.sl.old (by decide)
          have e87 : a2.tmps[87]?.getD undef = .agg #[.slice t6.ad t6.ts.length t6.cp] := hinv.sl.new (i := 0) (by decide) rfl (hdep ⟨0, .data⟩ (by simp) rfl)
          have z0 := hinv.c2
          have z1 := hinv.f2
          go_simp
          exact hinv.st2 HORD.out hL
        | 4, _, hL, ho, hdep =>
          injection ho with ho; subst ho
          dsimp only
          rw [if_pos (by rfl)]
          refine ⟨fun f _ => trivial, ?_⟩
          have e3 : a2.tmps[3]?.getD undef = .pointer (some ⟨r3, 0, none⟩) := hinv.sl.old (by decide)
          have e88 : a2.tmps[88]?.getD undef = .agg #[.slice t7.ad t7.ts.length t7.cp] := hinv.sl.new (i := 1) (by decide) rfl (hdep ⟨1, .data⟩ (by simp) rfl)
          have z0 := hinv.c3
          have z1 := hinv.f3
          go_simp
          exact hinv.st3 HORD.out hL
        | 5, _, hL, ho, hdep =>
          injection ho with ho; subst ho
          dsimp only
          rw [if_pos (by rfl)]
          refine ⟨fun f _ => trivial, ?_⟩
          have e4 : a2.tmps[4]?.getD undef = .pointer (some ⟨r4, 0, none⟩) := hinv.sl.old (by decide)
          have e89 : a2.tmps[89]?.getD undef = .agg #[.slice t8.ad t8.ts.length t8.cp] := hinv.sl.new (i := 2) (by decide) rfl (hdep ⟨2, .data⟩ (by simp) rfl)
          have z0 := hinv.c4
          have z1 := hinv.f4
          go_simp
          exact hinv.st4 HORD.out hL
end Go.Proofs.Ytjlflmbifeocbaa

namespace Go.Proofs.Ytjlflmbifeocbaa
open Go.RowKit

set_option maxRecDepth 100000 in
set_option maxHeartbeats 16000000 in
theorem patches_walk (a : Option Addr) (cap : Nat) (zs : List Int) (w : World) (hc : Code0 w a cap zs) :
    Calls Try.prog 3 #[.slice a zs.length cap] w fun e w' => e = .returned (.bool true) ∧ Below w.heap.size w w' := by
  by_cases hbig : (1048576 : Int) < zs.length
  · go_enter Try.func3, Try.ntmps3
    go_wp2
    go_ret
    exact ⟨rfl, Below.refl _ _⟩
  go_enter Try.func3, Try.ntmps3
  go_wp2_with fail
  refine (drawMerge_any a cap zs w hc).mono ?_
  rintro e w1 ⟨⟨ad3, cp3, ts3⟩, ⟨ad4, cp4, ts4⟩, ⟨ad5, cp5, ts5⟩, rfl, he3, he4, he5, q3, q4, q5, m3, m4, m5, hb1⟩
  dsimp only at he3 he4 he5 m3 m4 m5 ⊢
  have ba1 : Below w1.heap.size w1 (((w1.alloc (.cells #[.slice ad3 ts3.length cp3] 25)).alloc (.cells #[.slice ad4 ts4.length cp4] 25)).alloc (.cells #[.slice ad5 ts5.length cp5] 25)) := ((below_oneD _ _).trans ((below_oneD _ _).mono (by simp))).trans ((below_oneD _ _).mono (by simp; omega))
  have X3 : TBx w1.heap.size ad3 cp3 ts3 (((w1.alloc (.cells #[.slice ad3 ts3.length cp3] 25)).alloc (.cells #[.slice ad4 ts4.length cp4] 25)).alloc (.cells #[.slice ad5 ts5.length cp5] 25)) := ⟨by simp [go_sem], he3.below ba1⟩
  have X4 : TBx (w1.heap.size + 1) ad4 cp4 ts4 (((w1.alloc (.cells #[.slice ad3 ts3.length cp3] 25)).alloc (.cells #[.slice ad4 ts4.length cp4] 25)).alloc (.cells #[.slice ad5 ts5.length cp5] 25)) := ⟨by simp [go_sem], he4.below ba1⟩
  have X5 : TBx (w1.heap.size + 1 + 1) ad5 cp5 ts5 (((w1.alloc (.cells #[.slice ad3 ts3.length cp3] 25)).alloc (.cells #[.slice ad4 ts4.length cp4] 25)).alloc (.cells #[.slice ad5 ts5.length cp5] 25)) := ⟨by simp [go_sem], he5.below ba1⟩
  have hbw : Below w.heap.size w (((w1.alloc (.cells #[.slice ad3 ts3.length cp3] 25)).alloc (.cells #[.slice ad4 ts4.length cp4] 25)).alloc (.cells #[.slice ad5 ts5.length cp5] 25)) := kqP hb1 ba1
  have hl3 : ts3.length ≤ 300 := q3.1
  have hl4 : ts4.length ≤ 300 := q4.1
  have hl5 : ts5.length ≤ 300 := q5.1
  have HZ : Keep ((∀ e ∈ ts3, e.path.size ≤ 1048576) ∧ (∀ e ∈ ts4, e.path.size ≤ 1048576) ∧ (∀ e ∈ ts5, e.path.size ≤ 1048576)) := ⟨⟨fun e he => by have := (q3.2 e he).1; omega, fun e he => by have := (q4.2 e he).1; omega, fun e he => by have := (q5.2 e he).1; omega⟩⟩
  clear he3 he4 he5 hb1 ba1 q3 q4 q5
  go_upto_region 4 with fail
  generalize ((w1.alloc (.cells #[.slice ad3 ts3.length cp3] 25)).alloc (.cells #[.slice ad4 ts4.length cp4] 25)).alloc (.cells #[.slice ad5 ts5.length cp5] 25) = w2 at *
  generalize w1.heap.size + 1 + 1 = b5 at *
  generalize w1.heap.size + 1 = b4 at *
  generalize w1.heap.size = b3 at *
  have x3 := X3.c
  have x4 := X4.c
  have hm := implDiffC_any ad3 ad4 cp3 cp4 ts3 ts4 w2 X3.es X4.es (by omega) (by omega) m3 m4 HZ.out.1 HZ.out.2.1
  go_wp2_with fail
  refine hm.mono ?_
  rintro e w3 ⟨ps, hDp, ⟨adp, cpp, rfl, hclp, hrp⟩, hb3⟩
  have ba3 := below_oneD w3 (.cells #[.slice adp ps.length cpp] 30)
  have P6 : PBx w3.heap.size adp cpp ps (w3.alloc (.cells #[.slice adp ps.length cpp] 30)) := PBx.new hclp.cs
  replace X3 := (X3.later hb3).later ba3
  replace X4 := (X4.later hb3).later ba3
  replace X5 := (X5.later hb3).later ba3
  replace hbw := kqP (kqP hbw hb3) ba3
  clear hm x3 x4 hclp hb3 ba3
  go_upto_region 5 with fail
  generalize w3.alloc (.cells #[.slice adp ps.length cpp] 30) = w4 at *
  generalize w3.heap.size = b6 at *
  have x4 := X4.c
  have x5 := X5.c
  have hm := implDiffC_any ad4 ad5 cp4 cp5 ts4 ts5 w4 X4.es X5.es (by omega) (by omega) m4 m5 HZ.out.2.1 HZ.out.2.2
  go_wp2_with fail
  refine hm.mono ?_
  rintro e w5 ⟨qs, hDq, ⟨adq, cpq, rfl, hclq, hrq⟩, hb5⟩
  have ba5 := below_oneD w5 (.cells #[.slice adq qs.length cpq] 30)
  have P7 : PBx w5.heap.size adq cpq qs (w5.alloc (.cells #[.slice adq qs.length cpq] 30)) := PBx.new hclq.cs
  replace X3 := (X3.later hb5).later ba5
  replace X4 := (X4.later hb5).later ba5
  replace X5 := (X5.later hb5).later ba5
  replace P6 := (P6.later hb5).later ba5
  replace hbw := kqP (kqP hbw hb5) ba5
  have hfp := (diff_few hDp).1
  have hfq := (diff_few hDq).1
  have HPZ : Keep ((∀ c ∈ ps, c.path.size ≤ 1048576) ∧ (∀ c ∈ qs, c.path.size ≤ 1048576)) := ⟨⟨(diff_few hDp).2 HZ.out.1 HZ.out.2.1, (diff_few hDq).2 HZ.out.2.1 HZ.out.2.2⟩⟩
  have HD : Keep (DiffRel ts3 ts4 ps ∧ DiffRel ts4 ts5 qs) := ⟨⟨hDp, hDq⟩⟩
  clear hm x4 x5 hclq hb5 ba5 hDp hDq
  go_upto_region 6 with fail
  generalize w5.alloc (.cells #[.slice adq qs.length cpq] 30) = w6 at *
  generalize w5.heap.size = b7 at *
  have HX : Keep (TBx b3 ad3 cp3 ts3 w6 ∧ TBx b4 ad4 cp4 ts4 w6 ∧ TBx b5 ad5 cp5 ts5 w6 ∧ PBx b6 adp cpp ps w6 ∧ PBx b7 adq cpq qs w6) := ⟨⟨X3, X4, X5, P6, P7⟩⟩
  clear X3 X4 X5 P6 P7
  go_cut [46] (fun v wx => v = .bool false ∧ Below w6.heap.size w6 wx)
  case first =>
    refine (wpIn_wide (n := 0)).1 ?_
    refine wpIn_region_inv0 (by kernel_rfl) (by kernel_rfl) (fun T0 => EV0 T0 dDs (dTab (.agg #[.slice adp ps.length cpp]) (.agg #[.slice adq qs.length cpq]) (.agg #[.slice ad3 ts3.length cp3]) (.agg #[.slice ad4 ts4.length cp4]) (.agg #[.slice ad5 ts5.length cp5])) (dEx ps qs) w6) ?_ ?_ ?_
    · exact ⟨Sl2.start _, (Below.refl _ _).drew, fun i _ hL => by rw [getD_repl] at hL; cases hL⟩
    · intro L a2 w9 hinv hall
      have e46 : a2.tmps.getD 46 undef = .bool false := hinv.sl.sl 13 (by decide) _ rfl (hall 13 (by decide))
      have HXX : Keep _ := ⟨hinv.sl.act⟩
      have HB9 : Keep _ := ⟨hinv.wd⟩
      clear hinv hall
      rw [HXX.out]
      simp only [updL, dDs, List.contains_cons, List.contains_nil, Nat.reduceAdd, Nat.reduceBEq, Bool.or_false, cond_false, cond_true, Bool.or_true, e46]
      go_wp2_with fail
      go_meet
      case rel => exact ⟨rfl, HB9.out⟩
    · intro L a2 w9 i o hinv hcl hL ho hdep
      have hin : i < 14 := (Array.getElem?_eq_some_iff.1 ho).1
      unfold wpOpIn
      rw [ho]
      clear hcl
      match i, hin, hL, ho, hdep with
      | 0, _, hL, ho, hdep =>
        injection ho with ho; subst ho
        dsimp only
        rw [if_pos (by rfl)]
        refine ⟨fun f _ => trivial, ?_⟩
        have e6 : a2.tmps[6]?.getD undef = .pointer (some ⟨b6, 0, none⟩) := hinv.sl.old (by decide)
        have z0 := (HX.out.2.2.2.1.later hinv.wd).c
        go_simp
        exact hinv.step dNd (dSt ps qs) (i := 0) (by decide) (by show 33 < 163; decide) (fun u hu => by cases hu; rfl) trivial (Below.refl _ _)
      | 1, _, hL, ho, hdep =>
        injection ho with ho; subst ho
        dsimp only
        rw [if_pos (by rfl)]
        refine ⟨fun f _ => trivial, ?_⟩
        have e3 : a2.tmps[3]?.getD undef = .pointer (some ⟨b3, 0, none⟩) := hinv.sl.old (by decide)
        have z0 := (HX.out.1.later hinv.wd).c
        go_simp
        exact hinv.step dNd (dSt ps qs) (i := 1) (by decide) (by show 34 < 163; decide) (fun u hu => by cases hu; rfl) trivial (Below.refl _ _)
      | 2, _, hL, ho, hdep =>
        injection ho with ho; subst ho
        dsimp only
        rw [if_pos (by rfl)]
        refine ⟨fun f _ => trivial, ?_⟩
        have e4 : a2.tmps[4]?.getD undef = .pointer (some ⟨b4, 0, none⟩) := hinv.sl.old (by decide)
        have z0 := (HX.out.2.1.later hinv.wd).c
        go_simp
        exact hinv.step dNd (dSt ps qs) (i := 2) (by decide) (by show 35 < 163; decide) (fun u hu => by cases hu; rfl) trivial (Below.refl _ _)
      | 3, _, hL, ho, hdep =>
        injection ho with ho; subst ho
        dsimp only
        rw [if_pos (by rfl)]
        refine ⟨fun f _ => trivial, ?_⟩
        have e34 : a2.tmps[34]?.getD undef = .agg #[.slice ad3 ts3.length cp3] := hinv.sl.new (i := 1) (by decide) rfl (hdep ⟨1, .data⟩ (by simp) rfl)
        have e35 : a2.tmps[35]?.getD undef = .agg #[.slice ad4 ts4.length cp4] := hinv.sl.new (i := 2) (by decide) rfl (hdep ⟨2, .data⟩ (by simp) rfl)
        go_simp
        refine ⟨rfl, CallsIn.mono (callsIn_wide.2 (specDiff_any ad3 ad4 cp3 cp4 ts3 ts4 w9 (HX.out.1.later hinv.wd).es (HX.out.2.1.later hinv.wd).es (by omega) (by omega))) ?_⟩
        rintro e' w' ⟨cs', hD', ⟨ad', cap', rfl, hcl'⟩, hb'⟩
        obtain rfl := diff_one HD.out.1 hD'
        exact hinv.step dNd (dSt ps qs) (i := 3) (by decide) (by show 36 < 163; decide) (fun u hu => by cases hu) ⟨ad', cap', rfl, hcl'.cs⟩ hb'
      | 4, _, hL, ho, hdep =>
        injection ho with ho; subst ho
        dsimp only
        rw [if_pos (by rfl)]
        refine ⟨fun f _ => trivial, ?_⟩
        have e33 : a2.tmps[33]?.getD undef = .agg #[.slice adp ps.length cpp] := hinv.sl.new (i := 0) (by decide) rfl (hdep ⟨0, .data⟩ (by simp) rfl)
        obtain ⟨ad', cap', h31, h32⟩ := hinv.ex 3 (by decide) (hdep ⟨3, .data⟩ (by simp) rfl)
        have e36 : a2.tmps[36]?.getD undef = .agg #[.slice ad' ps.length cap'] := evalD2 h31
        go_simp
        refine ⟨rfl, CallsIn.mono (callsIn_wide.2 (wPatch_any adp ad' cpp cap' ps w9 (HX.out.2.2.2.1.later hinv.wd).cs h32 (by omega))) ?_⟩
        rintro e' w' ⟨rfl, hb'⟩
        exact hinv.step dNd (dSt ps qs) (i := 4) (by decide) (by show 37 < 163; decide) (fun u hu => by cases hu; rfl) trivial hb'
      | 5, _, hL, ho, hdep =>
        injection ho with ho; subst ho
        dsimp only
        rw [if_pos (by rfl)]
        refine ⟨fun f _ => trivial, ?_⟩
        have e37 : a2.tmps[37]?.getD undef = .bool true := hinv.sl.new (i := 4) (by decide) rfl (hdep ⟨4, .data⟩ (by simp) rfl)
        go_simp
        exact hinv.step dNd (dSt ps qs) (i := 5) (by decide) (by show 38 < 163; decide) (fun u hu => by cases hu; rfl) trivial (Below.refl _ _)
      | 6, _, hL, ho, hdep =>
        injection ho with ho; subst ho
        dsimp only
        rw [if_pos (by rfl)]
        refine ⟨fun f _ => trivial, ?_⟩
        have e38 : a2.tmps[38]?.getD undef = .bool false := hinv.sl.new (i := 5) (by decide) rfl (hdep ⟨5, .data⟩ (by simp) rfl)
        go_simp
        exact hinv.step dNd (dSt ps qs) (i := 6) (by decide) (by show 39 < 163; decide) (fun u hu => by cases hu; rfl) trivial (Below.refl _ _)
      | 7, _, hL, ho, hdep =>
        injection ho with ho; subst ho
        dsimp only
        have t39 := tmp_some (a := a2) (k := 39) (hinv.sl.new (i := 6) (by decide) rfl (hdep ⟨6, .guard⟩ (by simp) rfl))
        rw [if_pos (by simp [Region.wanted, yielded, t39])]
        refine ⟨fun f _ => trivial, ?_⟩
        have e7 : a2.tmps[7]?.getD undef = .pointer (some ⟨b7, 0, none⟩) := hinv.sl.old (by decide)
        have z0 := (HX.out.2.2.2.2.later hinv.wd).c
        go_simp
        exact hinv.step dNd (dSt ps qs) (i := 7) (by decide) (by show 40 < 163; decide) (fun u hu => by cases hu; rfl) trivial (Below.refl _ _)
      | 8, _, hL, ho, hdep =>
        injection ho with ho; subst ho
        dsimp only
        have t39 := tmp_some (a := a2) (k := 39) (hinv.sl.new (i := 6) (by decide) rfl (hdep ⟨6, .guard⟩ (by simp) rfl))
        rw [if_pos (by simp [Region.wanted, yielded, t39])]
        refine ⟨fun f _ => trivial, ?_⟩
        have e4 : a2.tmps[4]?.getD undef = .pointer (some ⟨b4, 0, none⟩) := hinv.sl.old (by decide)
        have z0 := (HX.out.2.1.later hinv.wd).c
        go_simp
        exact hinv.step dNd (dSt ps qs) (i := 8) (by decide) (by show 41 < 163; decide) (fun u hu => by cases hu; rfl) trivial (Below.refl _ _)
      | 9, _, hL, ho, hdep =>
        injection ho with ho; subst ho
        dsimp only
        have t39 := tmp_some (a := a2) (k := 39) (hinv.sl.new (i := 6) (by decide) rfl (hdep ⟨6, .guard⟩ (by simp) rfl))
        rw [if_pos (by simp [Region.wanted, yielded, t39])]
        refine ⟨fun f _ => trivial, ?_⟩
        have e5 : a2.tmps[5]?.getD undef = .pointer (some ⟨b5, 0, none⟩) := hinv.sl.old (by decide)
        have z0 := (HX.out.2.2.1.later hinv.wd).c
        go_simp
        exact hinv.step dNd (dSt ps qs) (i := 9) (by decide) (by show 42 < 163; decide) (fun u hu => by cases hu; rfl) trivial (Below.refl _ _)
      | 10, _, hL, ho, hdep =>
        injection ho with ho; subst ho
        dsimp only
        have t39 := tmp_some (a := a2) (k := 39) (hinv.sl.new (i := 6) (by decide) rfl (hdep ⟨6, .guard⟩ (by simp) rfl))
        rw [if_pos (by simp [Region.wanted, yielded, t39])]
        refine ⟨fun f _ => trivial, ?_⟩
        have e41 : a2.tmps[41]?.getD undef = .agg #[.slice ad4 ts4.length cp4] := hinv.sl.new (i := 8) (by decide) rfl (hdep ⟨8, .data⟩ (by simp) rfl)
        have e42 : a2.tmps[42]?.getD undef = .agg #[.slice ad5 ts5.length cp5] := hinv.sl.new (i := 9) (by decide) rfl (hdep ⟨9, .data⟩ (by simp) rfl)
        go_simp
        refine ⟨rfl, CallsIn.mono (callsIn_wide.2 (specDiff_any ad4 ad5 cp4 cp5 ts4 ts5 w9 (HX.out.2.1.later hinv.wd).es (HX.out.2.2.1.later hinv.wd).es (by omega) (by omega))) ?_⟩
        rintro e' w' ⟨cs', hD', ⟨ad', cap', rfl, hcl'⟩, hb'⟩
        obtain rfl := diff_one HD.out.2 hD'
        exact hinv.step dNd (dSt ps qs) (i := 10) (by decide) (by show 43 < 163; decide) (fun u hu => by cases hu) ⟨ad', cap', rfl, hcl'.cs⟩ hb'
      | 11, _, hL, ho, hdep =>
        injection ho with ho; subst ho
        dsimp only
        have t39 := tmp_some (a := a2) (k := 39) (hinv.sl.new (i := 6) (by decide) rfl (hdep ⟨6, .guard⟩ (by simp) rfl))
        rw [if_pos (by simp [Region.wanted, yielded, t39])]
        refine ⟨fun f _ => trivial, ?_⟩
        have e40 : a2.tmps[40]?.getD undef = .agg #[.slice adq qs.length cpq] := hinv.sl.new (i := 7) (by decide) rfl (hdep ⟨7, .data⟩ (by simp) rfl)
        obtain ⟨ad', cap', h31, h32⟩ := hinv.ex 10 (by decide) (hdep ⟨10, .data⟩ (by simp) rfl)
        have e43 : a2.tmps[43]?.getD undef = .agg #[.slice ad' qs.length cap'] := evalD2 h31
        go_simp
        refine ⟨rfl, CallsIn.mono (callsIn_wide.2 (wPatch_any adq ad' cpq cap' qs w9 (HX.out.2.2.2.2.later hinv.wd).cs h32 (by omega))) ?_⟩
        rintro e' w' ⟨rfl, hb'⟩
        exact hinv.step dNd (dSt ps qs) (i := 11) (by decide) (by show 44 < 163; decide) (fun u hu => by cases hu; rfl) trivial hb'
      | 12, _, hL, ho, hdep =>
        injection ho with ho; subst ho
        dsimp only
        have t39 := tmp_some (a := a2) (k := 39) (hinv.sl.new (i := 6) (by decide) rfl (hdep ⟨6, .guard⟩ (by simp) rfl))
        rw [if_pos (by simp [Region.wanted, yielded, t39])]
        refine ⟨fun f _ => trivial, ?_⟩
        have e44 : a2.tmps[44]?.getD undef = .bool true := hinv.sl.new (i := 11) (by decide) rfl (hdep ⟨11, .data⟩ (by simp) rfl)
        go_simp
        exact hinv.step dNd (dSt ps qs) (i := 12) (by decide) (by show 45 < 163; decide) (fun u hu => by cases hu; rfl) trivial (Below.refl _ _)
      | 13, _, hL, ho, hdep =>
        injection ho with ho; subst ho
        dsimp only
        rw [if_pos (by rfl)]
        refine ⟨fun f _ => trivial, ?_⟩
        have e39 : a2.tmps[39]?.getD undef = .bool false := hinv.sl.new (i := 6) (by decide) rfl (hdep ⟨6, .data⟩ (by simp) rfl)
        have e45 : a2.tmps[45]?.getD undef = .bool false := hinv.sl.new (i := 12) (by decide) rfl (hdep ⟨12, .data⟩ (by simp) rfl)
        go_simp
        exact hinv.step dNd (dSt ps qs) (i := 13) (by decide) (by show 46 < 163; decide) (fun u hu => by cases hu; rfl) trivial (Below.refl _ _)
  case rest =>
    obtain ⟨rfl, hb9⟩ := hcut
    obtain ⟨w7, hw7⟩ : ∃ x, x = wc := ⟨_, rfl⟩
    subst hw7
    have X3 := HX.out.1.later hb9
    have X4 := HX.out.2.1.later hb9
    have X5 := HX.out.2.2.1.later hb9
    have P6 := HX.out.2.2.2.1.later hb9
    have P7 := HX.out.2.2.2.2.later hb9
    replace hbw := kqP hbw hb9
    clear HX hb9
    have HX : Keep (TBx b3 ad3 cp3 ts3 w7 ∧ TBx b4 ad4 cp4 ts4 w7 ∧ TBx b5 ad5 cp5 ts5 w7 ∧ PBx b6 adp cpp ps w7 ∧ PBx b7 adq cpq qs w7) := ⟨⟨X3, X4, X5, P6, P7⟩⟩
    have HBW : Keep (Below w.heap.size w w7) := ⟨hbw⟩
    clear X3 X4 X5 P6 P7 hbw
    go_upto_region 8 with fail
    go_cut [59] (fun v wx => ∃ nb : Bool, v = .bool nb ∧ Keep (nb = false ↔ ValidTs ts3 ∧ ValidTs ts4 ∧ ValidTs ts5) ∧ Below w7.heap.size w7 wx)
    case first =>
      have x3 := HX.out.1.c
      have hv := specTree_any ad3 cp3 ts3 w7 HX.out.1.es (by omega)
      go_wp2_with fail
      refine hv.mono ?_
      rintro e w8 ⟨v3, rfl, hv3, hb8⟩
      have HV3 : Keep (v3 = true ↔ ValidTs ts3) := ⟨hv3⟩
      clear hv x3 hv3
      cases v3 with
      | false =>
        go_wp2_with fail
        go_meet
        case rel => exact ⟨true, rfl, ⟨⟨(fun h => by cases h), (fun h => by have := HV3.out.2 h.1; cases this)⟩⟩, hb8⟩
      | true =>
        have x4 := (HX.out.2.1.later hb8).c
        have hv := specTree_any ad4 cp4 ts4 w8 (HX.out.2.1.later hb8).es (by omega)
        go_wp2_with fail
        refine hv.mono ?_
        rintro e w9 ⟨v4, rfl, hv4, hb9⟩
        have hb79 := kqP hb8 hb9
        have HV4 : Keep (v4 = true ↔ ValidTs ts4) := ⟨hv4⟩
        clear hv x4 hv4
        cases v4 with
        | false =>
          go_wp2_with fail
          go_meet
          case rel => exact ⟨true, rfl, ⟨⟨(fun h => by cases h), (fun h => by have := HV4.out.2 h.2.1; cases this)⟩⟩, hb79⟩
        | true =>
          have x5 := (HX.out.2.2.1.later hb79).c
          have hv := specTree_any ad5 cp5 ts5 w9 (HX.out.2.2.1.later hb79).es (by omega)
          go_wp2_with fail
          refine hv.mono ?_
          rintro e w10 ⟨v5, rfl, hv5, hb10⟩
          have hb710 := kqP hb79 hb10
          have HV5 : Keep (v5 = true ↔ ValidTs ts5) := ⟨hv5⟩
          clear hv x5 hv5
          cases v5 with
          | false =>
            go_wp2_with fail
            go_meet
            case rel => exact ⟨true, rfl, ⟨⟨(fun h => by cases h), (fun h => by have := HV5.out.2 h.2.2; cases this)⟩⟩, hb710⟩
          | true =>
            go_wp2_with fail
            go_meet
            case rel => exact ⟨false, rfl, ⟨⟨fun _ => ⟨by first | exact HV3.out | exact HV3.out.1 trivial | exact HV3.out.1 rfl, by first | exact HV4.out | exact HV4.out.1 trivial | exact HV4.out.1 rfl, by first | exact HV5.out | exact HV5.out.1 trivial | exact HV5.out.1 rfl⟩, fun _ => rfl⟩⟩, hb710⟩
    case rest =>
      obtain ⟨nb, rfl, HV, hb9⟩ := hcut
      obtain ⟨w8, hw8⟩ : ∃ x, x = wc := ⟨_, rfl⟩
      subst hw8
      have X3 := HX.out.1.later hb9
      have X4 := HX.out.2.1.later hb9
      have X5 := HX.out.2.2.1.later hb9
      have P6 := HX.out.2.2.2.1.later hb9
      have P7 := HX.out.2.2.2.2.later hb9
      have hbw := kqP HBW.out hb9
      clear HX HBW hb9
      cases nb with
      | true =>
        have x3 := X3.c
        have x6 := P6.c
        by_cases hp : ps.length = 0
        · have hB : ((ps.length : Int) == 0) = true := by simp [hp]
          go_wp2
          go_ret
          exact ⟨rfl, hbw⟩
        · have hB : ((ps.length : Int) == 0) = false := by simp; exact fun e => hp (by rw [e]; rfl)
          obtain ⟨h3, h4⟩ : ValidTs ts3 ∧ ValidTs ts4 := by
            rcases HD.out.1 with ⟨h3, h4, _⟩ | ⟨_, rfl⟩
            · exact ⟨h3, h4⟩
            · exact absurd rfl hp
          have HV34 : Keep (ValidTs ts3 ∧ ValidTs ts4) := ⟨⟨h3, h4⟩⟩
          have hv := specTree_any ad3 cp3 ts3 w8 X3.es (by omega)
          have HX4 : Keep (TBx b4 ad4 cp4 ts4 w8) := ⟨X4⟩
          clear X3 X4 X5 P6 P7 h3 h4 hp
          go_wp2_with fail
          refine hv.mono ?_
          rintro e w9 ⟨v3, rfl, hv3, hb9⟩
          obtain rfl : v3 = true := hv3.2 HV34.out.1
          have X4 := HX4.out.later hb9
          have x4 := X4.c
          clear hv x3 x6 hv3 HX4
          have hv := specTree_any ad4 cp4 ts4 w9 X4.es (by omega)
          go_wp2_with fail
          refine hv.mono ?_
          rintro e w10 ⟨v4, rfl, hv4, hb10⟩
          obtain rfl : v4 = true := hv4.2 HV34.out.2
          have hbw2 := kqP (kqP hbw hb9) hb10
          clear hv x4 hv4
          go_wp2
          go_ret
          exact ⟨rfl, hbw2⟩
      | false =>
        obtain ⟨v3, v4, v5⟩ := HV.out.1 rfl
        have HVV : Keep (ValidTs ts3 ∧ ValidTs ts4 ∧ ValidTs ts5) := ⟨⟨v3, v4, v5⟩⟩
        have HPS : Keep (ps = diffL ts3 ts4 ∧ qs = diffL ts4 ts5) := ⟨by
          rcases HD.out.1 with ⟨_, _, h1⟩ | ⟨h1, _⟩
          · rcases HD.out.2 with ⟨_, _, h2⟩ | ⟨h2, _⟩
            · exact ⟨h1, h2⟩
            · exact absurd ⟨v4, v5⟩ h2
          · exact absurd ⟨v3, v4⟩ h1⟩
        clear HV HD v3 v4 v5
        have x3 := X3.c
        have x6 := P6.c
        have hm := implApplyC_any ad3 adp cp3 cpp ts3 ps w8 X3.es P6.cs (by omega) (by omega) m3 hrp HZ.out.1 HPZ.out.1
        go_wp2_with fail
        refine hm.mono ?_
        rintro e w9 ⟨us, c, hR, ⟨ad8, cp8, rfl, hel8, hr8⟩, hb9⟩
        obtain ⟨rfl, rfl⟩ := apply_one (us := ts4) (c := 0) (by rw [HPS.out.1]; exact diff_apply HVV.out.1 HVV.out.2.1) hR
        clear hm x3 x6 hR
        unfold TreeV
        have ba9 := below_oneD w9 (.cells #[.slice ad8 ts4.length cp8] 25)
        have X8 : TBx w9.heap.size ad8 cp8 ts4 (w9.alloc (.cells #[.slice ad8 ts4.length cp8] 25)) := TBx.new hel8.es
        replace X3 := (X3.later hb9).later ba9
        replace X4 := (X4.later hb9).later ba9
        replace X5 := (X5.later hb9).later ba9
        replace P6 := (P6.later hb9).later ba9
        replace P7 := (P7.later hb9).later ba9
        replace hbw := kqP (kqP hbw hb9) ba9
        clear hb9 ba9 hel8
        go_upto_region 11 with fail
        generalize w9.alloc (.cells #[.slice ad8 ts4.length cp8] 25) = w10 at *
        generalize w9.heap.size = b8 at *
        have HX : Keep (TBx b3 ad3 cp3 ts3 w10 ∧ TBx b4 ad4 cp4 ts4 w10 ∧ TBx b5 ad5 cp5 ts5 w10 ∧ PBx b6 adp cpp ps w10 ∧ PBx b7 adq cpq qs w10 ∧ TBx b8 ad8 cp8 ts4 w10) := ⟨⟨X3, X4, X5, P6, P7, X8⟩⟩
        clear X3 X4 X5 P6 P7 X8
        go_cut [10, 11] (fun pv cc wx => ∃ nb ad cap, pv = .pointer (some ⟨nb, 0, none⟩) ∧ cc = .int .i64 0 ∧ TBx nb ad cap ts3 wx ∧ Below w10.heap.size w10 wx)
        case first =>
          refine (wpIn_wide (n := 0)).1 ?_
          refine wpIn_region_inv0 (by kernel_rfl) (by kernel_rfl) (fun T0 => YP T0 (.agg #[.slice ad4 ts4.length cp4]) (.agg #[.slice adp ps.length cpp]) (diffL ts4 ts3) ts3 w10) ?_ ?_ ?_
          · exact ⟨Sl2.start _, (fun i _ hL => by rw [getD_repl] at hL; cases hL), (fun _ => (Below.refl _ _).drew), (fun _ i _ hL => by rw [getD_repl] at hL; cases hL), (fun h => by rw [getD_repl] at h; cases h)⟩
          · intro L a2 w9 hinv hall
            obtain ⟨nb, ad, cap, hn1, hn2, hn3⟩ := hinv.fin (hall 8 (by decide))
            have e10 : a2.tmps.getD 10 undef = .pointer (some ⟨nb, 0, none⟩) := hn1
            have e11 : a2.tmps.getD 11 undef = .int .i64 0 := hinv.sl.sl 9 (by decide) _ rfl (hall 9 (by decide))
            have HXX : Keep _ := ⟨hinv.sl.act⟩
            have HN : Keep (TBx nb ad cap ts3 w9 ∧ Below w10.heap.size w10 w9) := ⟨⟨hn2, hn3⟩⟩
            clear hinv hall hn1 hn2 hn3
            rw [HXX.out]
            simp only [updL, uDs, List.contains_cons, List.contains_nil, Nat.reduceAdd, Nat.reduceBEq, Bool.or_false, cond_false, cond_true, Bool.or_true, e10, e11]
            go_wp2_with fail
            go_meet
            case rel => exact ⟨nb, ad, cap, rfl, rfl, HN.out.1, HN.out.2⟩
          · intro L a2 w9 i o hinv hcl hL ho hdep
            have hin : i < 10 := (Array.getElem?_eq_some_iff.1 ho).1
            have q8 : ∀ j, j = 0 ∨ j = 1 ∨ j = 2 ∨ j = 3 ∨ j = 4 ∨ j = 5 ∨ j = 7 → L.getD j true = false → L.getD 8 false = false := fun j hj hL' => by
              cases hb : L.getD 8 false with
              | false => rfl
              | true =>
                exfalso
                have d7 := hcl 8 _ rfl hb ⟨7, .data⟩ (by simp) rfl
                have d5 := hcl 8 _ rfl hb ⟨5, .data⟩ (by simp) rfl
                have d4 := hcl 5 _ rfl d5 ⟨4, .data⟩ (by simp) rfl
                have d3 := hcl 4 _ rfl d4 ⟨3, .data⟩ (by simp) rfl
                have d2 := hcl 3 _ rfl d3 ⟨2, .data⟩ (by simp) rfl
                have d0 := hcl 3 _ rfl d3 ⟨0, .data⟩ (by simp) rfl
                have d1 := hcl 2 _ rfl d2 ⟨1, .data⟩ (by simp) rfl
                have hf := getD_ft hL'
                rcases hj with rfl | rfl | rfl | rfl | rfl | rfl | rfl
                · rw [d0] at hf; cases hf
                · rw [d1] at hf; cases hf
                · rw [d2] at hf; cases hf
                · rw [d3] at hf; cases hf
                · rw [d4] at hf; cases hf
                · rw [d5] at hf; cases hf
                · rw [d7] at hf; cases hf
            unfold wpOpIn
            rw [ho]
            clear hcl
            match i, hin, hL, ho, hdep with
            | 0, _, hL, ho, hdep =>
              injection ho with ho; subst ho
              dsimp only
              rw [if_pos (by rfl)]
              refine ⟨fun f _ => trivial, ?_⟩
              have h8 := q8 0 (by omega) hL
              have e4 : a2.tmps[4]?.getD undef = .pointer (some ⟨b4, 0, none⟩) := hinv.sl.old (by decide)
              have z0 := (HX.out.2.1.later (hinv.wd h8)).c
              go_simp
              exact hinv.step (i := 0) (by decide) (by show 79 < 163; decide) (by omega) (fun u hu => by cases hu; rfl) trivial ⟨(fun h => by rw [q8 0 (by omega) hL] at h; cases h), fun _ => ⟨trivial, (Below.refl _ _)⟩⟩
            | 1, _, hL, ho, hdep =>
              injection ho with ho; subst ho
              dsimp only
              rw [if_pos (by rfl)]
              refine ⟨fun f _ => trivial, ?_⟩
              have h8 := q8 1 (by omega) hL
              have e6 : a2.tmps[6]?.getD undef = .pointer (some ⟨b6, 0, none⟩) := hinv.sl.old (by decide)
              have z0 := (HX.out.2.2.2.1.later (hinv.wd h8)).c
              go_simp
              exact hinv.step (i := 1) (by decide) (by show 80 < 163; decide) (by omega) (fun u hu => by cases hu; rfl) trivial ⟨(fun h => by rw [q8 1 (by omega) hL] at h; cases h), fun _ => ⟨trivial, (Below.refl _ _)⟩⟩
            | 2, _, hL, ho, hdep =>
              injection ho with ho; subst ho
              dsimp only
              rw [if_pos (by rfl)]
              refine ⟨fun f _ => trivial, ?_⟩
              have h8 := q8 2 (by omega) hL
              have e80 : a2.tmps[80]?.getD undef = .agg #[.slice adp ps.length cpp] := hinv.sl.new (i := 1) (by decide) rfl (hdep ⟨1, .data⟩ (by simp) rfl)
              go_simp
              refine ⟨rfl, CallsIn.mono (callsIn_wide.2 (implUndoC_any adp cpp ps w9 (HX.out.2.2.2.1.later (hinv.wd h8)).cs (by omega) HPZ.out.1)) ?_⟩
              rintro e' w' ⟨cs', hU', ⟨ad', cap', rfl, hcl', hr'⟩, hb'⟩
              have hcs : cs' = diffL ts4 ts3 := undo_diff HVV.out.1 HVV.out.2.1 (by rw [← HPS.out.1]; exact hU')
              rw [hcs] at hcl' hr' ⊢
              exact hinv.step (i := 2) (by decide) (by show 81 < 163; decide) (by omega) (fun u hu => by cases hu) trivial ⟨(fun h => by rw [q8 2 (by omega) hL] at h; cases h), fun _ => ⟨⟨ad', cap', rfl, hcl'.cs, hr'⟩, hb'⟩⟩
            | 3, _, hL, ho, hdep =>
              injection ho with ho; subst ho
              dsimp only
              rw [if_pos (by rfl)]
              refine ⟨fun f _ => trivial, ?_⟩
              have h8 := q8 3 (by omega) hL
              have e79 : a2.tmps[79]?.getD undef = .agg #[.slice ad4 ts4.length cp4] := hinv.sl.new (i := 0) (by decide) rfl (hdep ⟨0, .data⟩ (by simp) rfl)
              obtain ⟨ad', cap', h21, h22, h23⟩ := hinv.ex h8 2 (by decide) (hdep ⟨2, .data⟩ (by simp) rfl)
              have e81 : a2.tmps[81]?.getD undef = .agg #[.slice ad' (diffL ts4 ts3).length cap'] := evalD2 h21
              have hdl := diff_len HVV.out.2.1.1 HVV.out.1.1
              go_simp
              refine ⟨rfl, CallsIn.mono (callsIn_wide.2 (implApplyC_any ad4 ad' cp4 cap' ts4 (diffL ts4 ts3) w9 (HX.out.2.1.later (hinv.wd h8)).es h22 (by omega) (by omega) m4 h23 HZ.out.2.1 ((diff_few (.inl ⟨HVV.out.2.1, HVV.out.1, rfl⟩)).2 HZ.out.2.1 HZ.out.1))) ?_⟩
              rintro e' w' ⟨us', c', hR', ⟨adx, cpx, rfl, helx, hrx⟩, hb'⟩
              obtain ⟨rfl, rfl⟩ := apply_one (us := ts3) (c := 0) (diff_apply HVV.out.2.1 HVV.out.1) hR'
              unfold TreeV
              exact hinv.step (i := 3) (by decide) (by show 82 < 163; decide) (by omega) (fun u hu => by cases hu) ⟨adx, cpx, rfl⟩ ⟨(fun h => by rw [q8 3 (by omega) hL] at h; cases h), fun _ => ⟨⟨adx, cpx, rfl, helx.mono (Nat.zero_le _)⟩, hb'⟩⟩
            | 4, _, hL, ho, hdep =>
              injection ho with ho; subst ho
              dsimp only
              rw [if_pos (by rfl)]
              refine ⟨fun f _ => trivial, ?_⟩
              have h8 := q8 4 (by omega) hL
              obtain ⟨adx, cpx, h31, h32⟩ := hinv.ex h8 3 (by decide) (hdep ⟨3, .data⟩ (by simp) rfl)
              have e82 : a2.tmps[82]?.getD undef = .tuple #[.agg #[.slice adx ts3.length cpx], .int .i64 0] := evalD2 h31
              go_simp
              exact hinv.step (i := 4) (by decide) (by show 78 < 163; decide) (by omega) (fun u hu => by cases hu) ⟨adx, cpx, rfl⟩ ⟨(fun h => by rw [q8 4 (by omega) hL] at h; cases h), fun _ => ⟨⟨adx, cpx, rfl, h32⟩, (Below.refl _ _)⟩⟩
            | 5, _, hL, ho, hdep =>
              injection ho with ho; subst ho
              dsimp only
              rw [if_pos (by rfl)]
              refine ⟨fun f _ => trivial, ?_⟩
              have h8 := q8 5 (by omega) hL
              obtain ⟨adx, cpx, h41, h42⟩ := hinv.ex h8 4 (by decide) (hdep ⟨4, .data⟩ (by simp) rfl)
              have e78 : a2.tmps[78]?.getD undef = .tuple #[.agg #[.slice adx ts3.length cpx], .int .i64 0] := evalD2 h41
              go_simp
              exact hinv.step (i := 5) (by decide) (by show 83 < 163; decide) (by omega) (fun u hu => by cases hu) ⟨adx, cpx, rfl⟩ ⟨(fun h => by rw [q8 5 (by omega) hL] at h; cases h), fun _ => ⟨⟨adx, cpx, rfl, h42⟩, (Below.refl _ _)⟩⟩
            | 6, _, hL, ho, hdep =>
              injection ho with ho; subst ho
              dsimp only
              rw [if_pos (by rfl)]
              refine ⟨fun f _ => trivial, ?_⟩
              obtain ⟨adx, cpx, h41⟩ := hinv.xv 4 (by decide) (hdep ⟨4, .data⟩ (by simp) rfl)
              have e78 : a2.tmps[78]?.getD undef = .tuple #[.agg #[.slice adx ts3.length cpx], .int .i64 0] := evalD2 h41
              go_simp
              exact hinv.step (i := 6) (by decide) (by show 84 < 163; decide) (by omega) (fun u hu => by cases hu; rfl) trivial ⟨fun _ => ⟨by decide, rfl⟩, fun _ => ⟨trivial, (Below.refl _ _)⟩⟩
            | 7, _, hL, ho, hdep =>
              injection ho with ho; subst ho
              dsimp only
              rw [if_pos (by rfl)]
              refine ⟨fun f _ => trivial, ?_⟩
              have h8 := q8 7 (by omega) hL
              go_simp
              exact hinv.step (i := 7) (by decide) (by show 10 < 163; decide) (by omega) (fun u hu => by cases hu) trivial ⟨(fun h => by rw [q8 7 (by omega) hL] at h; cases h), fun _ => ⟨⟨w9.heap.size, rfl, (hinv.wd h8).size, by simp, by simp, by simp⟩, ((Below.refl _ _).alloc (Nat.le_refl _) _)⟩⟩
            | 8, _, hL, ho, hdep =>
              injection ho with ho; subst ho
              dsimp only
              rw [if_pos (by rfl)]
              refine ⟨fun f _ => trivial, ?_⟩
              have h8 := getD_ft hL
              obtain ⟨adx, cpx, h51, h52⟩ := hinv.ex h8 5 (by decide) (hdep ⟨5, .data⟩ (by simp) rfl)
              obtain ⟨nb, h71, h72, h73, h74, h75⟩ := hinv.ex h8 7 (by decide) (hdep ⟨7, .data⟩ (by simp) rfl)
              have e83 : a2.tmps[83]?.getD undef = .agg #[.slice adx ts3.length cpx] := evalD2 h51
              have e10 : a2.tmps[10]?.getD undef = .pointer (some ⟨nb, 0, none⟩) := evalD2 h71
              go_simp
              exact hinv.store hL h71 h72 h74 h52
            | 9, _, hL, ho, hdep =>
              injection ho with ho; subst ho
              dsimp only
              rw [if_pos (by rfl)]
              refine ⟨fun f _ => trivial, ?_⟩
              have e84 : a2.tmps[84]?.getD undef = .int .i64 0 := hinv.sl.new (i := 6) (by decide) rfl (hdep ⟨6, .data⟩ (by simp) rfl)
              go_simp
              exact hinv.step (i := 9) (by decide) (by show 11 < 163; decide) (by omega) (fun u hu => by cases hu; rfl) trivial ⟨fun _ => ⟨by decide, rfl⟩, fun _ => ⟨trivial, (Below.refl _ _)⟩⟩
        case rest =>
          obtain ⟨b10, ad10, cp10, rfl, rfl, X10, hb9⟩ := hcut
          obtain ⟨w11, hw11⟩ : ∃ x, x = wc := ⟨_, rfl⟩
          subst hw11
          have X3 := HX.out.1.later hb9
          have X4 := HX.out.2.1.later hb9
          have X5 := HX.out.2.2.1.later hb9
          have P6 := HX.out.2.2.2.1.later hb9
          have P7 := HX.out.2.2.2.2.1.later hb9
          have X8 := HX.out.2.2.2.2.2.later hb9
          replace hbw := kqP hbw hb9
          clear HX hb9
          have x8 := X8.c
          have x7 := P7.c
          have hm := implApplyC_any ad8 adq cp8 cpq ts4 qs w11 X8.es P7.cs (by omega) (by omega) hr8 hrq HZ.out.2.1 HPZ.out.2
          go_wp2_with fail
          refine hm.mono ?_
          rintro e w12 ⟨us, c, hR, ⟨ad12, cp12, rfl, hel12, hr12⟩, hb12⟩
          obtain ⟨rfl, rfl⟩ := apply_one (us := ts5) (c := 0) (by rw [HPS.out.2]; exact diff_apply HVV.out.2.1 HVV.out.2.2) hR
          clear hm x7 x8 hR
          unfold TreeV
          have ba12 := below_oneD w12 (.cells #[.slice ad12 ts5.length cp12] 25)
          have X12 : TBx w12.heap.size ad12 cp12 ts5 (w12.alloc (.cells #[.slice ad12 ts5.length cp12] 25)) := TBx.new hel12.es
          replace X3 := (X3.later hb12).later ba12
          replace X4 := (X4.later hb12).later ba12
          replace X5 := (X5.later hb12).later ba12
          replace P6 := (P6.later hb12).later ba12
          replace P7 := (P7.later hb12).later ba12
          replace X8 := (X8.later hb12).later ba12
          replace X10 := (X10.later hb12).later ba12
          replace hbw := kqP (kqP hbw hb12) ba12
          clear hb12 ba12 hel12
          go_upto_region 13 with fail
          generalize w12.alloc (.cells #[.slice ad12 ts5.length cp12] 25) = w13 at *
          generalize w12.heap.size = b12 at *
          -- wTree(x, b)
          have x8 := X8.c
          have x4 := X4.c
          have hm := wTree_any ad8 ad4 cp8 cp4 ts4 w13 X8.es X4.es (by omega)
          go_wp2_with fail
          refine hm.mono ?_
          rintro e w14 ⟨rfl, hb14⟩
          replace X3 := X3.later hb14
          replace X4 := X4.later hb14
          replace X5 := X5.later hb14
          replace P6 := P6.later hb14
          replace P7 := P7.later hb14
          replace X10 := X10.later hb14
          replace X12 := X12.later hb14
          replace hbw := kqP hbw hb14
          clear hm x8 x4 hb14 X8
          have x10 := X10.c
          have x3 := X3.c
          have hm := wTree_any ad10 ad3 cp10 cp3 ts3 w14 X10.es X3.es (by omega)
          go_wp2_with fail
          refine hm.mono ?_
          rintro e w15 ⟨rfl, hb15⟩
          replace X3 := X3.later hb15
          replace X4 := X4.later hb15
          replace X5 := X5.later hb15
          replace P6 := P6.later hb15
          replace P7 := P7.later hb15
          replace X12 := X12.later hb15
          replace hbw := kqP hbw hb15
          clear hm x10 x3 hb15 X10
          have x12 := X12.c
          have x5 := X5.c
          have hm := wTree_any ad12 ad5 cp12 cp5 ts5 w15 X12.es X5.es (by omega)
          go_wp2_with fail
          refine hm.mono ?_
          rintro e w16 ⟨rfl, hb16⟩
          replace X3 := X3.later hb16
          replace X4 := X4.later hb16
          replace X5 := X5.later hb16
          replace P6 := P6.later hb16
          replace P7 := P7.later hb16
          replace hbw := kqP hbw hb16
          clear hm x12 x5 hb16 X12
          have x3 := X3.c
          have hm := implDiffC_any ad3 ad3 cp3 cp3 ts3 ts3 w16 X3.es X3.es (by omega) (by omega) m3 m3 HZ.out.1 HZ.out.1
          go_wp2_with fail
          refine hm.mono ?_
          rintro e w17 ⟨cs, hDc, ⟨adc, cpc, rfl, hclc, hrc⟩, hb17⟩
          obtain rfl : [] = cs := diff_one (.inl ⟨HVV.out.1, HVV.out.1, (diff_self ts3).symm⟩) hDc
          replace X3 := X3.later hb17
          replace X4 := X4.later hb17
          replace X5 := X5.later hb17
          replace P6 := P6.later hb17
          replace P7 := P7.later hb17
          replace hbw := kqP hbw hb17
          clear hm x3 hb17 hDc hclc hrc
          have hfld := field_patch adc 0 cpc w17
          -- Join
          have x6 := P6.c
          have x7 := P7.c
          have hm := implJoinC_any adp adq cpp cpq ps qs w17 P6.cs P7.cs (by omega) (by omega) hrp hrq HPZ.out.1 HPZ.out.2
          go_wp2_with fail
          refine hm.mono ?_
          rintro e w18 ⟨js, ok, hJ, ⟨adj, cpj, rfl, hclj, hrj⟩, hb18⟩
          obtain ⟨hjs, rfl⟩ := join_one (us := diffL ts3 ts5) (c := true) (by rw [HPS.out.1, HPS.out.2]; exact join_diffs HVV.out.1 HVV.out.2.1 HVV.out.2.2) hJ
          have HJS : Keep (js = diffL ts3 ts5) := ⟨hjs.symm⟩
          have hfj : js.length ≤ 1000 := by rw [← hjs]; have := diff_len HVV.out.1.1 HVV.out.2.2.1; omega
          have HJZ : Keep (∀ c ∈ js, c.path.size ≤ 1048576) := ⟨by rw [← hjs]; exact (diff_few (.inl ⟨HVV.out.1, HVV.out.2.2, rfl⟩)).2 HZ.out.1 HZ.out.2.2⟩
          have ba18 := below_oneD w18 (.cells #[.slice adj js.length cpj] 30)
          have P14 : PBx w18.heap.size adj cpj js (w18.alloc (.cells #[.slice adj js.length cpj] 30)) := PBx.new hclj.cs
          replace X3 := (X3.later hb18).later ba18
          replace X5 := (X5.later hb18).later ba18
          replace P6 := (P6.later hb18).later ba18
          replace hbw := kqP (kqP hbw hb18) ba18
          clear hm x6 x7 hb18 ba18 hclj hJ hjs X4 P7
          go_upto_region 16 with fail
          generalize w18.alloc (.cells #[.slice adj js.length cpj] 30) = w19 at *
          generalize w18.heap.size = b14 at *
          have x3 := X3.c
          have x14 := P14.c
          have hm := implApplyC_any ad3 adj cp3 cpj ts3 js w19 X3.es P14.cs (by omega) (by omega) m3 hrj HZ.out.1 HJZ.out
          go_wp2_with fail
          refine hm.mono ?_
          rintro e w20 ⟨us, c, hR, ⟨ad16, cp16, rfl, hel16, hr16⟩, hb20⟩
          obtain ⟨rfl, rfl⟩ := apply_one (us := ts5) (c := 0) (by rw [HJS.out]; exact diff_apply HVV.out.1 HVV.out.2.2) hR
          clear hm x3 x14 hR
          unfold TreeV
          have ba20 := below_oneD w20 (.cells #[.slice ad16 ts5.length cp16] 25)
          have X16 : TBx w20.heap.size ad16 cp16 ts5 (w20.alloc (.cells #[.slice ad16 ts5.length cp16] 25)) := TBx.new hel16.es
          replace X3 := (X3.later hb20).later ba20
          replace X5 := (X5.later hb20).later ba20
          replace P6 := (P6.later hb20).later ba20
          replace P14 := (P14.later hb20).later ba20
          replace hbw := kqP (kqP hbw hb20) ba20
          clear hb20 ba20 hel16
          go_upto_region 17 with fail
          generalize w20.alloc (.cells #[.slice ad16 ts5.length cp16] 25) = w21 at *
          generalize w20.heap.size = b16 at *
          have HX : Keep (TBx b3 ad3 cp3 ts3 w21 ∧ TBx b5 ad5 cp5 ts5 w21 ∧ PBx b6 adp cpp ps w21 ∧ PBx b14 adj cpj js w21 ∧ TBx b16 ad16 cp16 ts5 w21) := ⟨⟨X3, X5, P6, P14, X16⟩⟩
          have HBW : Keep (Below w.heap.size w w21) := ⟨hbw⟩
          clear X3 X5 P6 P14 X16 hbw
          refine (wpIn_wide (n := 0)).1 ?_
          refine wpIn_region_inv0 (by kernel_rfl) (by kernel_rfl) (fun T0 => EV0 T0 gDs (gTab (.agg #[.slice adp ps.length cpp]) (.agg #[.slice adj js.length cpj]) (.agg #[.slice ad3 ts3.length cp3]) (.agg #[.slice ad5 ts5.length cp5]) (.agg #[.slice ad16 ts5.length cp16])) (gEx (diffL ts3 ts5) (diffL ts4 ts3) ps) w21) ?_ ?_ ?_
          · exact ⟨Sl2.start _, (Below.refl _ _).drew, fun i _ hL => by rw [getD_repl] at hL; cases hL⟩
          · intro L a2 w9 hinv hall
            have e2 : a2.tmps.getD 2 undef = .bool true := hinv.sl.sl 28 (by decide) _ rfl (hall 28 (by decide))
            have HXX : Keep _ := ⟨hinv.sl.act⟩
            have HB9 : Keep (Below w.heap.size w w9) := ⟨kqP HBW.out hinv.wd⟩
            clear hinv hall
            rw [HXX.out]
            simp only [updL, gDs, List.contains_cons, List.contains_nil, Nat.reduceAdd, Nat.reduceBEq, Bool.or_false, cond_false, cond_true, Bool.or_true, e2]
            go_wp2
            go_ret
            exact ⟨rfl, HB9.out⟩
          · intro L a2 w9 i o hinv hcl hL ho hdep
            have hin : i < 29 := (Array.getElem?_eq_some_iff.1 ho).1
            unfold wpOpIn
            rw [ho]
            clear hcl
            match i, hin, hL, ho, hdep with
            | 0, _, hL, ho, hdep =>
                injection ho with ho; subst ho
                dsimp only
                rw [if_pos (by rfl)]
                refine ⟨fun f _ => trivial, ?_⟩
                have e15 : a2.tmps[15]?.getD undef = .bool true := hinv.sl.old (by decide)
                go_simp
                exact hinv.step gNd (gSt (diffL ts3 ts5) (diffL ts4 ts3) ps) (i := 0) (by decide) (by show 135 < 163; decide) (fun u hu => by cases hu; rfl) trivial (Below.refl _ _)
            | 1, _, hL, ho, hdep =>
                injection ho with ho; subst ho
                dsimp only
                rw [if_pos (by rfl)]
                refine ⟨fun f _ => trivial, ?_⟩
                have e135 : a2.tmps[135]?.getD undef = .bool true := hinv.sl.new (i := 0) (by decide) rfl (hdep ⟨0, .data⟩ (by simp) rfl)
                go_simp
                exact hinv.step gNd (gSt (diffL ts3 ts5) (diffL ts4 ts3) ps) (i := 1) (by decide) (by show 136 < 163; decide) (fun u hu => by cases hu; rfl) trivial (Below.refl _ _)
            | 2, _, hL, ho, hdep =>
                injection ho with ho; subst ho
                dsimp only
                have t136 := tmp_some (a := a2) (k := 136) (hinv.sl.new (i := 1) (by decide) rfl (hdep ⟨1, .guard⟩ (by simp) rfl))
                rw [if_pos (by simp [Region.wanted, yielded, t136])]
                refine ⟨fun f _ => trivial, ?_⟩
                have e14 : a2.tmps[14]?.getD undef = .pointer (some ⟨b14, 0, none⟩) := hinv.sl.old (by decide)
                have z0 := (HX.out.2.2.2.1.later hinv.wd).c
                go_simp
                exact hinv.step gNd (gSt (diffL ts3 ts5) (diffL ts4 ts3) ps) (i := 2) (by decide) (by show 137 < 163; decide) (fun u hu => by cases hu; rfl) trivial (Below.refl _ _)
            | 3, _, hL, ho, hdep =>
                injection ho with ho; subst ho
                dsimp only
                have t136 := tmp_some (a := a2) (k := 136) (hinv.sl.new (i := 1) (by decide) rfl (hdep ⟨1, .guard⟩ (by simp) rfl))
                rw [if_pos (by simp [Region.wanted, yielded, t136])]
                refine ⟨fun f _ => trivial, ?_⟩
                have e3 : a2.tmps[3]?.getD undef = .pointer (some ⟨b3, 0, none⟩) := hinv.sl.old (by decide)
                have z0 := (HX.out.1.later hinv.wd).c
                go_simp
                exact hinv.step gNd (gSt (diffL ts3 ts5) (diffL ts4 ts3) ps) (i := 3) (by decide) (by show 138 < 163; decide) (fun u hu => by cases hu; rfl) trivial (Below.refl _ _)
            | 4, _, hL, ho, hdep =>
                injection ho with ho; subst ho
                dsimp only
                have t136 := tmp_some (a := a2) (k := 136) (hinv.sl.new (i := 1) (by decide) rfl (hdep ⟨1, .guard⟩ (by simp) rfl))
                rw [if_pos (by simp [Region.wanted, yielded, t136])]
                refine ⟨fun f _ => trivial, ?_⟩
                have e5 : a2.tmps[5]?.getD undef = .pointer (some ⟨b5, 0, none⟩) := hinv.sl.old (by decide)
                have z0 := (HX.out.2.1.later hinv.wd).c
                go_simp
                exact hinv.step gNd (gSt (diffL ts3 ts5) (diffL ts4 ts3) ps) (i := 4) (by decide) (by show 139 < 163; decide) (fun u hu => by cases hu; rfl) trivial (Below.refl _ _)
            | 5, _, hL, ho, hdep =>
                injection ho with ho; subst ho
                dsimp only
                have t136 := tmp_some (a := a2) (k := 136) (hinv.sl.new (i := 1) (by decide) rfl (hdep ⟨1, .guard⟩ (by simp) rfl))
                rw [if_pos (by simp [Region.wanted, yielded, t136])]
                refine ⟨fun f _ => trivial, ?_⟩
                have e138 : a2.tmps[138]?.getD undef = .agg #[.slice ad3 ts3.length cp3] := hinv.sl.new (i := 3) (by decide) rfl (hdep ⟨3, .data⟩ (by simp) rfl)
                have e139 : a2.tmps[139]?.getD undef = .agg #[.slice ad5 ts5.length cp5] := hinv.sl.new (i := 4) (by decide) rfl (hdep ⟨4, .data⟩ (by simp) rfl)
                go_simp
                refine ⟨rfl, CallsIn.mono (callsIn_wide.2 (implDiffC_any ad3 ad5 cp3 cp5 ts3 ts5 w9 (HX.out.1.later hinv.wd).es (HX.out.2.1.later hinv.wd).es (by omega) (by omega) m3 m5 HZ.out.1 HZ.out.2.2)) ?_⟩
                rintro e' w' ⟨cs', hD', ⟨ad', cap', rfl, hcl', hr'⟩, hb'⟩
                obtain rfl := diff_one (.inl ⟨HVV.out.1, HVV.out.2.2, rfl⟩) hD'
                exact hinv.step gNd (gSt (diffL ts3 ts5) (diffL ts4 ts3) ps) (i := 5) (by decide) (by show 140 < 163; decide) (fun u hu => by cases hu) ⟨ad', cap', rfl, hcl'.cs⟩ hb'
            | 6, _, hL, ho, hdep =>
                injection ho with ho; subst ho
                dsimp only
                have t136 := tmp_some (a := a2) (k := 136) (hinv.sl.new (i := 1) (by decide) rfl (hdep ⟨1, .guard⟩ (by simp) rfl))
                rw [if_pos (by simp [Region.wanted, yielded, t136])]
                refine ⟨fun f _ => trivial, ?_⟩
                have e137 : a2.tmps[137]?.getD undef = .agg #[.slice adj js.length cpj] := hinv.sl.new (i := 2) (by decide) rfl (hdep ⟨2, .data⟩ (by simp) rfl)
                obtain ⟨ad', cap', h31, h32⟩ := hinv.ex 5 (by decide) (hdep ⟨5, .data⟩ (by simp) rfl)
                have e140 : a2.tmps[140]?.getD undef = .agg #[.slice ad' (diffL ts3 ts5).length cap'] := evalD2 h31
                rw [← HJS.out] at e140 h32
                go_simp
                refine ⟨rfl, CallsIn.mono (callsIn_wide.2 (wPatch_any adj ad' cpj cap' js w9 (HX.out.2.2.2.1.later hinv.wd).cs h32 (by omega))) ?_⟩
                rintro e' w' ⟨rfl, hb'⟩
                exact hinv.step gNd (gSt (diffL ts3 ts5) (diffL ts4 ts3) ps) (i := 6) (by decide) (by show 141 < 163; decide) (fun u hu => by cases hu; rfl) trivial hb'
            | 7, _, hL, ho, hdep =>
                injection ho with ho; subst ho
                dsimp only
                rw [if_pos (by rfl)]
                refine ⟨fun f _ => trivial, ?_⟩
                have e136 : a2.tmps[136]?.getD undef = .bool true := hinv.sl.new (i := 1) (by decide) rfl (hdep ⟨1, .data⟩ (by simp) rfl)
                have e141 : a2.tmps[141]?.getD undef = .bool true := hinv.sl.new (i := 6) (by decide) rfl (hdep ⟨6, .data⟩ (by simp) rfl)
                go_simp
                exact hinv.step gNd (gSt (diffL ts3 ts5) (diffL ts4 ts3) ps) (i := 7) (by decide) (by show 142 < 163; decide) (fun u hu => by cases hu; rfl) trivial (Below.refl _ _)
            | 8, _, hL, ho, hdep =>
                injection ho with ho; subst ho
                dsimp only
                rw [if_pos (by rfl)]
                refine ⟨fun f _ => trivial, ?_⟩
                have e142 : a2.tmps[142]?.getD undef = .bool true := hinv.sl.new (i := 7) (by decide) rfl (hdep ⟨7, .data⟩ (by simp) rfl)
                go_simp
                exact hinv.step gNd (gSt (diffL ts3 ts5) (diffL ts4 ts3) ps) (i := 8) (by decide) (by show 143 < 163; decide) (fun u hu => by cases hu; rfl) trivial (Below.refl _ _)
            | 9, _, hL, ho, hdep =>
                injection ho with ho; subst ho
                dsimp only
                have t143 := tmp_some (a := a2) (k := 143) (hinv.sl.new (i := 8) (by decide) rfl (hdep ⟨8, .guard⟩ (by simp) rfl))
                rw [if_pos (by simp [Region.wanted, yielded, t143])]
                refine ⟨fun f _ => trivial, ?_⟩
                have e17 : a2.tmps[17]?.getD undef = .int .i64 0 := hinv.sl.old (by decide)
                go_simp
                exact hinv.step gNd (gSt (diffL ts3 ts5) (diffL ts4 ts3) ps) (i := 9) (by decide) (by show 144 < 163; decide) (fun u hu => by cases hu; rfl) trivial (Below.refl _ _)
            | 10, _, hL, ho, hdep =>
                injection ho with ho; subst ho
                dsimp only
                have t143 := tmp_some (a := a2) (k := 143) (hinv.sl.new (i := 8) (by decide) rfl (hdep ⟨8, .guard⟩ (by simp) rfl))
                rw [if_pos (by simp [Region.wanted, yielded, t143])]
                refine ⟨fun f _ => trivial, ?_⟩
                have e144 : a2.tmps[144]?.getD undef = .int .i64 0 := hinv.sl.new (i := 9) (by decide) rfl (hdep ⟨9, .data⟩ (by simp) rfl)
                go_simp
                exact hinv.step gNd (gSt (diffL ts3 ts5) (diffL ts4 ts3) ps) (i := 10) (by decide) (by show 145 < 163; decide) (fun u hu => by cases hu; rfl) trivial (Below.refl _ _)
            | 11, _, hL, ho, hdep =>
                injection ho with ho; subst ho
                dsimp only
                rw [if_pos (by rfl)]
                refine ⟨fun f _ => trivial, ?_⟩
                have e143 : a2.tmps[143]?.getD undef = .bool true := hinv.sl.new (i := 8) (by decide) rfl (hdep ⟨8, .data⟩ (by simp) rfl)
                have e145 : a2.tmps[145]?.getD undef = .bool true := hinv.sl.new (i := 10) (by decide) rfl (hdep ⟨10, .data⟩ (by simp) rfl)
                go_simp
                exact hinv.step gNd (gSt (diffL ts3 ts5) (diffL ts4 ts3) ps) (i := 11) (by decide) (by show 146 < 163; decide) (fun u hu => by cases hu; rfl) trivial (Below.refl _ _)
            | 12, _, hL, ho, hdep =>
                injection ho with ho; subst ho
                dsimp only
                rw [if_pos (by rfl)]
                refine ⟨fun f _ => trivial, ?_⟩
                have e146 : a2.tmps[146]?.getD undef = .bool true := hinv.sl.new (i := 11) (by decide) rfl (hdep ⟨11, .data⟩ (by simp) rfl)
                go_simp
                exact hinv.step gNd (gSt (diffL ts3 ts5) (diffL ts4 ts3) ps) (i := 12) (by decide) (by show 147 < 163; decide) (fun u hu => by cases hu; rfl) trivial (Below.refl _ _)
            | 13, _, hL, ho, hdep =>
                injection ho with ho; subst ho
                dsimp only
                have t147 := tmp_some (a := a2) (k := 147) (hinv.sl.new (i := 12) (by decide) rfl (hdep ⟨12, .guard⟩ (by simp) rfl))
                rw [if_pos (by simp [Region.wanted, yielded, t147])]
                refine ⟨fun f _ => trivial, ?_⟩
                have e16 : a2.tmps[16]?.getD undef = .pointer (some ⟨b16, 0, none⟩) := hinv.sl.old (by decide)
                have z0 := (HX.out.2.2.2.2.later hinv.wd).c
                go_simp
                exact hinv.step gNd (gSt (diffL ts3 ts5) (diffL ts4 ts3) ps) (i := 13) (by decide) (by show 148 < 163; decide) (fun u hu => by cases hu; rfl) trivial (Below.refl _ _)
            | 14, _, hL, ho, hdep =>
                injection ho with ho; subst ho
                dsimp only
                have t147 := tmp_some (a := a2) (k := 147) (hinv.sl.new (i := 12) (by decide) rfl (hdep ⟨12, .guard⟩ (by simp) rfl))
                rw [if_pos (by simp [Region.wanted, yielded, t147])]
                refine ⟨fun f _ => trivial, ?_⟩
                have e5 : a2.tmps[5]?.getD undef = .pointer (some ⟨b5, 0, none⟩) := hinv.sl.old (by decide)
                have z0 := (HX.out.2.1.later hinv.wd).c
                go_simp
                exact hinv.step gNd (gSt (diffL ts3 ts5) (diffL ts4 ts3) ps) (i := 14) (by decide) (by show 149 < 163; decide) (fun u hu => by cases hu; rfl) trivial (Below.refl _ _)
            | 15, _, hL, ho, hdep =>
                injection ho with ho; subst ho
                dsimp only
                have t147 := tmp_some (a := a2) (k := 147) (hinv.sl.new (i := 12) (by decide) rfl (hdep ⟨12, .guard⟩ (by simp) rfl))
                rw [if_pos (by simp [Region.wanted, yielded, t147])]
                refine ⟨fun f _ => trivial, ?_⟩
                have e148 : a2.tmps[148]?.getD undef = .agg #[.slice ad16 ts5.length cp16] := hinv.sl.new (i := 13) (by decide) rfl (hdep ⟨13, .data⟩ (by simp) rfl)
                have e149 : a2.tmps[149]?.getD undef = .agg #[.slice ad5 ts5.length cp5] := hinv.sl.new (i := 14) (by decide) rfl (hdep ⟨14, .data⟩ (by simp) rfl)
                go_simp
                refine ⟨rfl, CallsIn.mono (callsIn_wide.2 (wTree_any ad16 ad5 cp16 cp5 ts5 w9 (HX.out.2.2.2.2.later hinv.wd).es (HX.out.2.1.later hinv.wd).es (by omega))) ?_⟩
                rintro e' w' ⟨rfl, hb'⟩
                exact hinv.step gNd (gSt (diffL ts3 ts5) (diffL ts4 ts3) ps) (i := 15) (by decide) (by show 150 < 163; decide) (fun u hu => by cases hu; rfl) trivial hb'
            | 16, _, hL, ho, hdep =>
                injection ho with ho; subst ho
                dsimp only
                rw [if_pos (by rfl)]
                refine ⟨fun f _ => trivial, ?_⟩
                have e147 : a2.tmps[147]?.getD undef = .bool true := hinv.sl.new (i := 12) (by decide) rfl (hdep ⟨12, .data⟩ (by simp) rfl)
                have e150 : a2.tmps[150]?.getD undef = .bool true := hinv.sl.new (i := 15) (by decide) rfl (hdep ⟨15, .data⟩ (by simp) rfl)
                go_simp
                exact hinv.step gNd (gSt (diffL ts3 ts5) (diffL ts4 ts3) ps) (i := 16) (by decide) (by show 151 < 163; decide) (fun u hu => by cases hu; rfl) trivial (Below.refl _ _)
            | 17, _, hL, ho, hdep =>
                injection ho with ho; subst ho
                dsimp only
                rw [if_pos (by rfl)]
                refine ⟨fun f _ => trivial, ?_⟩
                have e151 : a2.tmps[151]?.getD undef = .bool true := hinv.sl.new (i := 16) (by decide) rfl (hdep ⟨16, .data⟩ (by simp) rfl)
                go_simp
                exact hinv.step gNd (gSt (diffL ts3 ts5) (diffL ts4 ts3) ps) (i := 17) (by decide) (by show 152 < 163; decide) (fun u hu => by cases hu; rfl) trivial (Below.refl _ _)
            | 18, _, hL, ho, hdep =>
                injection ho with ho; subst ho
                dsimp only
                have t152 := tmp_some (a := a2) (k := 152) (hinv.sl.new (i := 17) (by decide) rfl (hdep ⟨17, .guard⟩ (by simp) rfl))
                rw [if_pos (by simp [Region.wanted, yielded, t152])]
                refine ⟨fun f _ => trivial, ?_⟩
                have e6 : a2.tmps[6]?.getD undef = .pointer (some ⟨b6, 0, none⟩) := hinv.sl.old (by decide)
                have z0 := (HX.out.2.2.1.later hinv.wd).c
                go_simp
                exact hinv.step gNd (gSt (diffL ts3 ts5) (diffL ts4 ts3) ps) (i := 18) (by decide) (by show 153 < 163; decide) (fun u hu => by cases hu; rfl) trivial (Below.refl _ _)
            | 19, _, hL, ho, hdep =>
                injection ho with ho; subst ho
                dsimp only
                have t152 := tmp_some (a := a2) (k := 152) (hinv.sl.new (i := 17) (by decide) rfl (hdep ⟨17, .guard⟩ (by simp) rfl))
                rw [if_pos (by simp [Region.wanted, yielded, t152])]
                refine ⟨fun f _ => trivial, ?_⟩
                have e153 : a2.tmps[153]?.getD undef = .agg #[.slice adp ps.length cpp] := hinv.sl.new (i := 18) (by decide) rfl (hdep ⟨18, .data⟩ (by simp) rfl)
                go_simp
                refine ⟨rfl, CallsIn.mono (callsIn_wide.2 (implUndoC_any adp cpp ps w9 (HX.out.2.2.1.later hinv.wd).cs (by omega) HPZ.out.1)) ?_⟩
                rintro e' w' ⟨cs', hU', ⟨ad', cap', rfl, hcl', hr'⟩, hb'⟩
                have hcs : cs' = diffL ts4 ts3 := undo_diff HVV.out.1 HVV.out.2.1 (by rw [← HPS.out.1]; exact hU')
                rw [hcs] at hcl' hr' ⊢
                exact hinv.step gNd (gSt (diffL ts3 ts5) (diffL ts4 ts3) ps) (i := 19) (by decide) (by show 154 < 163; decide) (fun u hu => by cases hu) ⟨ad', cap', rfl, hcl'.cs⟩ hb'
            | 20, _, hL, ho, hdep =>
                injection ho with ho; subst ho
                dsimp only
                have t152 := tmp_some (a := a2) (k := 152) (hinv.sl.new (i := 17) (by decide) rfl (hdep ⟨17, .guard⟩ (by simp) rfl))
                rw [if_pos (by simp [Region.wanted, yielded, t152])]
                refine ⟨fun f _ => trivial, ?_⟩
                obtain ⟨ad', cap', h31, h32⟩ := hinv.ex 19 (by decide) (hdep ⟨19, .data⟩ (by simp) rfl)
                have e154 : a2.tmps[154]?.getD undef = .agg #[.slice ad' (diffL ts4 ts3).length cap'] := evalD2 h31
                have hdl := diff_len HVV.out.2.1.1 HVV.out.1.1
                go_simp
                refine ⟨rfl, CallsIn.mono (callsIn_wide.2 (implUndoC_any ad' cap' (diffL ts4 ts3) w9 h32 (by omega) ((diff_few (.inl ⟨HVV.out.2.1, HVV.out.1, rfl⟩)).2 HZ.out.2.1 HZ.out.1))) ?_⟩
                rintro e' w' ⟨cs', hU', ⟨ad2', cap2', rfl, hcl', hr'⟩, hb'⟩
                have hcs : cs' = ps := (undo_diff HVV.out.2.1 HVV.out.1 hU').trans HPS.out.1.symm
                rw [hcs] at hcl' hr' ⊢
                exact hinv.step gNd (gSt (diffL ts3 ts5) (diffL ts4 ts3) ps) (i := 20) (by decide) (by show 155 < 163; decide) (fun u hu => by cases hu) ⟨ad2', cap2', rfl, hcl'.cs⟩ hb'
            | 21, _, hL, ho, hdep =>
                injection ho with ho; subst ho
                dsimp only
                have t152 := tmp_some (a := a2) (k := 152) (hinv.sl.new (i := 17) (by decide) rfl (hdep ⟨17, .guard⟩ (by simp) rfl))
                rw [if_pos (by simp [Region.wanted, yielded, t152])]
                refine ⟨fun f _ => trivial, ?_⟩
                have e6 : a2.tmps[6]?.getD undef = .pointer (some ⟨b6, 0, none⟩) := hinv.sl.old (by decide)
                have z0 := (HX.out.2.2.1.later hinv.wd).c
                go_simp
                exact hinv.step gNd (gSt (diffL ts3 ts5) (diffL ts4 ts3) ps) (i := 21) (by decide) (by show 156 < 163; decide) (fun u hu => by cases hu; rfl) trivial (Below.refl _ _)
            | 22, _, hL, ho, hdep =>
                injection ho with ho; subst ho
                dsimp only
                have t152 := tmp_some (a := a2) (k := 152) (hinv.sl.new (i := 17) (by decide) rfl (hdep ⟨17, .guard⟩ (by simp) rfl))
                rw [if_pos (by simp [Region.wanted, yielded, t152])]
                refine ⟨fun f _ => trivial, ?_⟩
                obtain ⟨ad', cap', h31, h32⟩ := hinv.ex 20 (by decide) (hdep ⟨20, .data⟩ (by simp) rfl)
                have e155 : a2.tmps[155]?.getD undef = .agg #[.slice ad' ps.length cap'] := evalD2 h31
                have e156 : a2.tmps[156]?.getD undef = .agg #[.slice adp ps.length cpp] := hinv.sl.new (i := 21) (by decide) rfl (hdep ⟨21, .data⟩ (by simp) rfl)
                go_simp
                refine ⟨rfl, CallsIn.mono (callsIn_wide.2 (wPatch_any ad' adp cap' cpp ps w9 h32 (HX.out.2.2.1.later hinv.wd).cs (by omega))) ?_⟩
                rintro e' w' ⟨rfl, hb'⟩
                exact hinv.step gNd (gSt (diffL ts3 ts5) (diffL ts4 ts3) ps) (i := 22) (by decide) (by show 157 < 163; decide) (fun u hu => by cases hu; rfl) trivial hb'
            | 23, _, hL, ho, hdep =>
                injection ho with ho; subst ho
                dsimp only
                rw [if_pos (by rfl)]
                refine ⟨fun f _ => trivial, ?_⟩
                have e152 : a2.tmps[152]?.getD undef = .bool true := hinv.sl.new (i := 17) (by decide) rfl (hdep ⟨17, .data⟩ (by simp) rfl)
                have e157 : a2.tmps[157]?.getD undef = .bool true := hinv.sl.new (i := 22) (by decide) rfl (hdep ⟨22, .data⟩ (by simp) rfl)
                go_simp
                exact hinv.step gNd (gSt (diffL ts3 ts5) (diffL ts4 ts3) ps) (i := 23) (by decide) (by show 158 < 163; decide) (fun u hu => by cases hu; rfl) trivial (Below.refl _ _)
            | 24, _, hL, ho, hdep =>
                injection ho with ho; subst ho
                dsimp only
                rw [if_pos (by rfl)]
                refine ⟨fun f _ => trivial, ?_⟩
                have e158 : a2.tmps[158]?.getD undef = .bool true := hinv.sl.new (i := 23) (by decide) rfl (hdep ⟨23, .data⟩ (by simp) rfl)
                go_simp
                exact hinv.step gNd (gSt (diffL ts3 ts5) (diffL ts4 ts3) ps) (i := 24) (by decide) (by show 159 < 163; decide) (fun u hu => by cases hu; rfl) trivial (Below.refl _ _)
            | 25, _, hL, ho, hdep =>
                injection ho with ho; subst ho
                dsimp only
                have t159 := tmp_some (a := a2) (k := 159) (hinv.sl.new (i := 24) (by decide) rfl (hdep ⟨24, .guard⟩ (by simp) rfl))
                rw [if_pos (by simp [Region.wanted, yielded, t159])]
                refine ⟨fun f _ => trivial, ?_⟩
                have e6 : a2.tmps[6]?.getD undef = .pointer (some ⟨b6, 0, none⟩) := hinv.sl.old (by decide)
                have z0 := (HX.out.2.2.1.later hinv.wd).c
                go_simp
                exact hinv.step gNd (gSt (diffL ts3 ts5) (diffL ts4 ts3) ps) (i := 25) (by decide) (by show 160 < 163; decide) (fun u hu => by cases hu; rfl) trivial (Below.refl _ _)
            | 26, _, hL, ho, hdep =>
                injection ho with ho; subst ho
                dsimp only
                have t159 := tmp_some (a := a2) (k := 159) (hinv.sl.new (i := 24) (by decide) rfl (hdep ⟨24, .guard⟩ (by simp) rfl))
                rw [if_pos (by simp [Region.wanted, yielded, t159])]
                refine ⟨fun f _ => trivial, ?_⟩
                have e160 : a2.tmps[160]?.getD undef = .agg #[.slice adp ps.length cpp] := hinv.sl.new (i := 25) (by decide) rfl (hdep ⟨25, .data⟩ (by simp) rfl)
                go_simp
                refine ⟨rfl, CallsIn.mono (callsIn_wide.2 (implPatch_any adp cpp ps w9 (HX.out.2.2.1.later hinv.wd).cs (by omega) HPZ.out.1)) ?_⟩
                rintro e' w' ⟨vb, rfl, hvb, hb'⟩
                obtain rfl : vb = true := hvb.2 (by rw [HPS.out.1]; exact diff_valid HVV.out.1 HVV.out.2.1)
                exact hinv.step gNd (gSt (diffL ts3 ts5) (diffL ts4 ts3) ps) (i := 26) (by decide) (by show 161 < 163; decide) (fun u hu => by cases hu; rfl) trivial hb'
            | 27, _, hL, ho, hdep =>
                injection ho with ho; subst ho
                dsimp only
                rw [if_pos (by rfl)]
                refine ⟨fun f _ => trivial, ?_⟩
                have e159 : a2.tmps[159]?.getD undef = .bool true := hinv.sl.new (i := 24) (by decide) rfl (hdep ⟨24, .data⟩ (by simp) rfl)
                have e161 : a2.tmps[161]?.getD undef = .bool true := hinv.sl.new (i := 26) (by decide) rfl (hdep ⟨26, .data⟩ (by simp) rfl)
                go_simp
                exact hinv.step gNd (gSt (diffL ts3 ts5) (diffL ts4 ts3) ps) (i := 27) (by decide) (by show 162 < 163; decide) (fun u hu => by cases hu; rfl) trivial (Below.refl _ _)
            | 28, _, hL, ho, hdep =>
                injection ho with ho; subst ho
                dsimp only
                rw [if_pos (by rfl)]
                refine ⟨fun f _ => trivial, ?_⟩
                have e162 : a2.tmps[162]?.getD undef = .bool true := hinv.sl.new (i := 27) (by decide) rfl (hdep ⟨27, .data⟩ (by simp) rfl)
                go_simp
                exact hinv.step gNd (gSt (diffL ts3 ts5) (diffL ts4 ts3) ps) (i := 28) (by decide) (by show 2 < 163; decide) (fun u hu => by cases hu; rfl) trivial (Below.refl _ _)
end Go.Proofs.Ytjlflmbifeocbaa

namespace Go.Proofs.Ytjlflmbifeocbaa.fnPatches
open Go.ChangeShapes Go.WideShapes Go.ChangeAt Go.RowKit
set_option linter.unusedVariables false

theorem own : ownKnob Try.prog.godebug = none := by kernel_rfl
theorem laidOut : laidOutB Try.prog = true := by kernel_rfl

theorem open_code {H : Type} {enc : TypeId × Value → H} {W : World} {a : Option Addr} {len cap : Nat} {d : DataW H} {p : List MemPlace} (h : DataW.Trod enc Try.prog W 0 (fun _ => true) true 22 (.slice a len cap) d p) :
    ∃ zs : List Int, len = zs.length ∧ Code0 W a cap zs := by
  obtain ⟨fuel, hf⟩ := h
  rcases open_ints Try.underlying22 Try.underlying5 (by kernel_rfl) hf with ⟨hcs, _⟩ | ⟨x, l, c, zs, hcs, _, hl, hm, hz, _, hcell, hwz⟩
  · simp [Value.cells] at hcs
    obtain ⟨rfl, rfl, rfl⟩ := hcs
    exact ⟨[], rfl, .inl rfl, Nat.zero_le _, Nat.zero_le _, fun z hz => by simp at hz⟩
  · simp [Value.cells] at hcs
    obtain ⟨rfl, rfl, rfl⟩ := hcs
    have hz' : zs.length = cap := by simpa using hz
    refine ⟨zs.take len, by simp; omega, ?_, by simp; omega, hm, fun z hz => ?_⟩
    · by_cases h0 : len = 0
      · left; simp [h0]
      · right
        obtain ⟨b, off, rfl, hc⟩ := ints_at hcell (by omega)
        refine ⟨b, off, rfl, ?_, fun i hi => ?_⟩
        · have h1 := hc 0 (by omega)
          unfold World.cell? at h1
          cases hh : W.heap[b]? with
          | none => simp [hh] at h1
          | some o => exact (Array.getElem?_eq_some_iff.1 hh).1
        · have hi' : i < zs.length := by simp at hi; omega
          rw [hc i hi']
          simp [List.getD, hi']
    · have := bounds_u8 (hwz z (List.mem_of_mem_take hz))
      omega

set_option maxRecDepth 100000 in
theorem lifted (os : Os) (started : os.Started) (H : Type) (enc : TypeId × Value → H) :
    ReturnsInHanded {} Try.checked os 3 .any (Rows.fnPatchesSpec.pre6 enc Try.prog Try.f3 Rows.fnPatchesRow.domain false) (Rows.fnPatchesSpec.post enc Try.prog Try.f3 false true false false) := by
  refine returnsInHanded_of_change (C := Try.checked) own started (by kernel_rfl) Try.func3
    (ChangeSpec.witness6 (enc := enc) (C := Try.checked) false ⟨#[], #[.slice none 0 0], []⟩ 8 (by kernel_rfl) (by kernel_rfl) (by kernel_rfl) (by kernel_rfl)) ?_
  intro W base args ds gs before hval0 hW hcnd _
  have hval : ∀ (j : Nat) t v, Try.f3.params[j]? = some t → args[j]? = some v → Value.okWide Try.prog W .any base t v := hval0
  have hW' := hW
  obtain ⟨p, q, hA0, hV, rfl, hfz, hnd⟩ := hW
  have hA : DataW.TrodAll enc Try.prog W 0 (fun _ => true) true Try.f3.params.toList args.toList ds p := hA0
  rw [Try.params3] at hA hval
  obtain ⟨v0, vs0, d0, ds0, p0, q0, hargs, rfl, rfl, h0, r0⟩ := trodAll_cons hA
  obtain ⟨rfl, rfl, rfl⟩ := trodAll_nil r0
  obtain rfl : args = #[v0] := by cases args; simp_all
  obtain ⟨rfl, rfl⟩ := trodVars_none hV
  obtain ⟨a0, len0, cap0, rfl⟩ := okWide_slice Try.underlying22 (hval 0 22 v0 rfl rfl)
  have k0 := h0
  have lt0 : ∀ x ∈ p0, x.block < W.heap.size := by obtain ⟨m, hm⟩ := k0; exact DataW.trod_lt m _ _ _ hm
  obtain ⟨zs, rfl, hc⟩ := open_code h0
  clear hA0 hval0
  refine (patches_walk a0 cap0 zs W hc).mono fun e W' ⟨he, bel⟩ => ?_
  subst he
  exact ⟨_, rfl, _, _, _, [], _, [], hW', trodAll_mk1 (shut_bool Try.underlying4 _), (trodAll_cons_mk (Below.trod laidOut (by kernel_rfl) (of_decide_eq_true (by kernel_rfl)) k0 bel lt0) trodAll_mk0), rfl, bel.frame _, fun h => by cases h⟩

theorem over : Rows.fnPatchesRow.holds Try.pinned (OpenSpec.ofChange Rows.fnPatchesSpec) :=
  OpenClaim.holds_of_wide 3 Try.f3 rfl rfl rfl rfl rfl rfl rfl ⟨rfl, rfl, rfl, rfl, rfl⟩ rfl rfl rfl rfl rfl (by kernel_rfl) Try.func3 (by kernel_rfl)
    (of_decide_eq_true (by kernel_rfl)) (by unfold Func.isWrapper; first | (rw [if_pos (by decide +kernel)]; kernel_rfl) | (rw [if_neg (by decide +kernel)]; exact ⟨rfl, rfl⟩))
    (fun os started H enc _ => lifted os started H enc)

theorem proved : Rows.FnPatchesSaid := over
end Go.Proofs.Ytjlflmbifeocbaa.fnPatches
