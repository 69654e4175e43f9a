/-
  impl's compareFronts, by program (side.py C C).
-/
import Derived.Test.YtjlflmbifeocbaaMrgP
import Derived.Test.YtjlflmbifeocbaaPthC
import Derived.Deep.RegionWith
namespace Go.Proofs.Ytjlflmbifeocbaa
open Go.RowKit

set_option maxRecDepth 100000 in
set_option maxHeartbeats 4000000 in
theorem frontsC_any (a b : Option Addr) (ca cb : Nat) (ts : List Ch) (us : List Ch) (w : World) (hts : CS w a ts) (hus : CS w b us) :
    Calls Try.prog 64 #[.slice a ts.length ca, .slice b us.length cb] w fun e w' => e = .returned (.int .i64 (frontG Ch.path Ch.path ts us)) ∧ Below w.heap.size w w' := by
  cases ts with
  | nil =>
    go_enter Try.func64, Try.ntmps64
    go_wp2
    go_ret
    exact ⟨rfl, Below.refl _ _⟩
  | cons x ts =>
    obtain ⟨b1, o1, rfl, hc1⟩ := hts.at (k := 0) (by simp)
    obtain ⟨x0, x1, x2, x3, x4, x5, x6⟩ := hc1 0 (by simp)
    simp only [List.getElem_cons_zero, Nat.zero_mul, Nat.add_zero] at x0 x1 x2 x3 x4 x5 x6
    have hl1 : (((x :: ts).length : Int) == 0) = false := by simp; omega
    have hl1' : (0 : Int) < (x :: ts).length := by rw [List.length_cons]; omega
    clear hc1 hts
    cases us with
    | nil =>
      generalize (x :: ts).length = n1 at *
      go_enter Try.func64, Try.ntmps64
      go_wp2
      go_ret
      exact ⟨rfl, Below.refl _ _⟩
    | cons y us =>
      obtain ⟨b2, o2, rfl, hc2⟩ := hus.at (k := 0) (by simp)
      obtain ⟨y0, y1, y2, y3, y4, y5, y6⟩ := hc2 0 (by simp)
      simp only [List.getElem_cons_zero, Nat.zero_mul, Nat.add_zero] at y0 y1 y2 y3 y4 y5 y6
      have hl2 : (((y :: us).length : Int) == 0) = false := by simp; omega
      have hl2' : (0 : Int) < (y :: us).length := by rw [List.length_cons]; omega
      clear hc2 hus
      generalize (x :: ts).length = n1 at *
      generalize (y :: us).length = n2 at *
      have cx0 : ∀ z : Later w, z.world.cell? ⟨b1, o1, none⟩ = some (.string x.path) := fun z => cell_later z.kept x0
      have cx1 : ∀ z : Later w, z.world.cell? ⟨b1, o1 + 1, none⟩ = some (.bool x.old.there) := fun z => cell_later z.kept x1
      have cx2 : ∀ z : Later w, z.world.cell? ⟨b1, o1 + 2, none⟩ = some (.string x.old.text) := fun z => cell_later z.kept x2
      have cx3 : ∀ z : Later w, z.world.cell? ⟨b1, o1 + 3, none⟩ = some (.bool x.old.runs) := fun z => cell_later z.kept x3
      have cx4 : ∀ z : Later w, z.world.cell? ⟨b1, o1 + 4, none⟩ = some (.bool x.new.there) := fun z => cell_later z.kept x4
      have cx5 : ∀ z : Later w, z.world.cell? ⟨b1, o1 + 5, none⟩ = some (.string x.new.text) := fun z => cell_later z.kept x5
      have cx6 : ∀ z : Later w, z.world.cell? ⟨b1, o1 + 6, none⟩ = some (.bool x.new.runs) := fun z => cell_later z.kept x6
      have cy0 : ∀ z : Later w, z.world.cell? ⟨b2, o2, none⟩ = some (.string y.path) := fun z => cell_later z.kept y0
      have cy1 : ∀ z : Later w, z.world.cell? ⟨b2, o2 + 1, none⟩ = some (.bool y.old.there) := fun z => cell_later z.kept y1
      have cy2 : ∀ z : Later w, z.world.cell? ⟨b2, o2 + 2, none⟩ = some (.string y.old.text) := fun z => cell_later z.kept y2
      have cy3 : ∀ z : Later w, z.world.cell? ⟨b2, o2 + 3, none⟩ = some (.bool y.old.runs) := fun z => cell_later z.kept y3
      have cy4 : ∀ z : Later w, z.world.cell? ⟨b2, o2 + 4, none⟩ = some (.bool y.new.there) := fun z => cell_later z.kept y4
      have cy5 : ∀ z : Later w, z.world.cell? ⟨b2, o2 + 5, none⟩ = some (.string y.new.text) := fun z => cell_later z.kept y5
      have cy6 : ∀ z : Later w, z.world.cell? ⟨b2, o2 + 6, none⟩ = some (.bool y.new.runs) := fun z => cell_later z.kept y6
      have HC1 : Keep (∀ z : Later w, Calls Try.prog 111 #[.agg #[.string x.path, .bool x.old.there, .string x.old.text, .bool x.old.runs, .bool x.new.there, .string x.new.text, .bool x.new.runs]] z.world fun e w'' => e = .returned (.string x.path) ∧ ∃ q : Later w, w'' = q.world) := ⟨fun z => Later.call z (pathC_any x _)⟩
      have HC2 : Keep (∀ z : Later w, Calls Try.prog 111 #[.agg #[.string y.path, .bool y.old.there, .string y.old.text, .bool y.old.runs, .bool y.new.there, .string y.new.text, .bool y.new.runs]] z.world fun e w'' => e = .returned (.string y.path) ∧ ∃ q : Later w, w'' = q.world) := ⟨fun z => Later.call z (pathC_any y _)⟩
      have HC3 : Keep (∀ z : Later w, Calls Try.prog 71 #[.string x.path, .string y.path] z.world fun e w'' => e = .returned (.int .i64 (Lib.compareBytes x.path.data.toList y.path.data.toList)) ∧ ∃ q : Later w, w'' = q.world) := ⟨fun z => Later.call z ((compare_any x.path y.path z.world).mono (fun e w' h => ⟨h.1, by rw [h.2]; exact Below.refl _ _⟩))⟩
      have HCM : Keep (frontG Ch.path Ch.path (x :: ts) (y :: us) = Lib.compareBytes x.path.data.toList y.path.data.toList) := ⟨rfl⟩
      clear x0 x1 x2 x3 x4 x5 x6 y0 y1 y2 y3 y4 y5 y6
      have hmp := mp_c
      have hcp := cp_c
      go_enter Try.func64, Try.ntmps64
      go_upto_region 5 with fail
      (haveI := later_any; refine wp_region_later (by kernel_rfl) (by kernel_rfl) ?_; (repeat (go_big_quiet_step (first | (go_at_call_of 111 ([Value.agg #[.string x.path, .bool x.old.there, .string x.old.text, .bool x.old.runs, .bool x.new.there, .string x.new.text, .bool x.new.runs]] : List Value); exact HC1.out _) | (go_at_call_of 111 ([Value.agg #[.string y.path, .bool y.old.there, .string y.old.text, .bool y.old.runs, .bool y.new.there, .string y.new.text, .bool y.new.runs]] : List Value); exact HC2.out _) | (go_at_call 71; exact HC3.out _)))); refine wpQuiet_nil ?_; intro _ hwq; obtain ⟨xq, hwq2⟩ := hwq; subst hwq2)
      go_wp2
      go_ret
      exact ⟨by rw [HCM.out]; rfl, xq.kept⟩
end Go.Proofs.Ytjlflmbifeocbaa
