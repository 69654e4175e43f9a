/-
  CBx, StayC, EBx: laid as one text.
-/
import Derived.Test.YtidkcdppdkfplaaApA
import Derived.Test.YtidkcdppdkfplaaOutL
namespace Go.Proofs.Ytidkcdppdkfplaa
open Go.RowKit

theorem box7_grown {X : World} {g : Nat} (v0 v1 v2 v3 v4 v5 v6 : Value) : X.grownBy (((((((X.setCell ⟨g, 0, none⟩ v0).setCell ⟨g, 1, none⟩ v1).setCell ⟨g, 2, none⟩ v2).setCell ⟨g, 3, none⟩ v3).setCell ⟨g, 4, none⟩ v4).setCell ⟨g, 5, none⟩ v5).setCell ⟨g, 6, none⟩ v6) (some g) :=
  have h : ∀ (Y : World) (j : Nat) (v : Value), Y.grownBy (Y.setCell ⟨g, j, none⟩ v) (some g) := fun Y j v => ⟨rfl, rfl, rfl, by simp, fun k _ hk => Below.heap_setCell _ _ _ _ (fun e => hk (by rw [e]))⟩
  have t : ∀ {A B C : World}, A.grownBy B (some g) → B.grownBy C (some g) → A.grownBy C (some g) := fun a b => ⟨b.os.trans a.os, b.tape.trans a.tape, b.output.trans a.output, Nat.le_trans a.size b.size, fun k hk hne => (b.block k (Nat.lt_of_lt_of_le hk a.size) hne).trans (a.block k hk hne)⟩
  t (t (t (t (t (t (h _ _ _) (h _ _ _)) (h _ _ _)) (h _ _ _)) (h _ _ _)) (h _ _ _)) (h _ _ _)

/-- A change in a box. -/
structure CBox (b : Nat) (c : Ch) (W : World) : Prop where
  c0 : W.cell? ⟨b, 0, none⟩ = some (.string c.path)
  c1 : W.cell? ⟨b, 1, none⟩ = some (.bool c.old.there)
  c2 : W.cell? ⟨b, 2, none⟩ = some (.string c.old.text)
  c3 : W.cell? ⟨b, 3, none⟩ = some (.bool c.old.runs)
  c4 : W.cell? ⟨b, 4, none⟩ = some (.bool c.new.there)
  c5 : W.cell? ⟨b, 5, none⟩ = some (.string c.new.text)
  c6 : W.cell? ⟨b, 6, none⟩ = some (.bool c.new.runs)
  fz : ∀ j, W.frozen? ⟨b, j, none⟩ = false
  lt : b < W.heap.size
theorem CBox.block {b : Nat} {c : Ch} {W W' : World} (h : CBox b c W) (hb : W'.heap[b]? = W.heap[b]?) : CBox b c W' :=
  ⟨(World.cell?_of_block hb).trans h.c0, (World.cell?_of_block hb).trans h.c1, (World.cell?_of_block hb).trans h.c2, (World.cell?_of_block hb).trans h.c3, (World.cell?_of_block hb).trans h.c4, (World.cell?_of_block hb).trans h.c5, (World.cell?_of_block hb).trans h.c6, fun j => frozen_of hb (h.fz j), by
    have := Array.getElem?_eq_getElem h.lt
    rw [this] at hb
    exact (Array.getElem?_eq_some_iff.1 hb).1⟩
theorem CBox.later {b : Nat} {c : Ch} {W W' : World} (h : CBox b c W) (hb : Below W.heap.size W W') : CBox b c W' := h.block (hb.block b h.lt)
theorem CBox.put {b l : Nat} {c : Ch} {W : World} (h : CBox b c W) (o : Obj) (hl : l ≠ b) : CBox b c (W.putObj l o) := h.block (World.putObj_heap_other (fun e => hl e.symm))
theorem CBox.grown {b : Nat} {c : Ch} {W W' : World} {row : Option Nat} (h : CBox b c W) (hg : W.grownBy W' row) (hr : row ≠ some b) : CBox b c W' := h.block (hg.block b h.lt (fun e => hr e.symm))
theorem CBox.set {g : Nat} {c : Ch} {X : World} (h : CBox g c X) (d : Ch) : CBox g d (((((((X.setCell ⟨g, 0, none⟩ (.string d.path)).setCell ⟨g, 1, none⟩ (.bool d.old.there)).setCell ⟨g, 2, none⟩ (.string d.old.text)).setCell ⟨g, 3, none⟩ (.bool d.old.runs)).setCell ⟨g, 4, none⟩ (.bool d.new.there)).setCell ⟨g, 5, none⟩ (.string d.new.text)).setCell ⟨g, 6, none⟩ (.bool d.new.runs)) := by
  obtain ⟨z0, z1, z2, z3, z4, z5, z6⟩ := box7_set (.string d.path) (.bool d.old.there) (.string d.old.text) (.bool d.old.runs) (.bool d.new.there) (.string d.new.text) (.bool d.new.runs) h.c0 h.c1 h.c2 h.c3 h.c4 h.c5 h.c6
  exact ⟨z0, z1, z2, z3, z4, z5, z6, fun j => (box7_fz (.string d.path) (.bool d.old.there) (.string d.old.text) (.bool d.old.runs) (.bool d.new.there) (.string d.new.text) (.bool d.new.runs)).trans (h.fz j), by simpa using h.lt⟩
end Go.Proofs.Ytidkcdppdkfplaa

namespace Go.Proofs.Ytidkcdppdkfplaa
open Go.RowKit

set_option maxRecDepth 20000 in
set_option maxHeartbeats 1000000 in
theorem stay_any (p : ByteArray) (f : Fl) (w : World) : Calls Try.prog 27 #[.string p, .agg #[.bool f.there, .string f.text, .bool f.runs]] w fun e w' => e = .returned (.agg #[.string p, .bool f.there, .string f.text, .bool f.runs, .bool f.there, .string f.text, .bool f.runs]) ∧ Below w.heap.size w w' := by
  have hal : Below w.heap.size w (w.alloc (.cells #[.bool f.there, .string f.text, .bool f.runs] 50)) := (Below.refl _ _).alloc (Nat.le_refl _) _
  have hal2 : Below w.heap.size w ((w.alloc (.cells #[.bool f.there, .string f.text, .bool f.runs] 50)).alloc (.cells #[.string ⟨#[]⟩, .bool false, .string ⟨#[]⟩, .bool false, .bool false, .string ⟨#[]⟩, .bool false] 53)) := hal.alloc (by simp) _
  go_enter Try.func27, Try.ntmps27
  go_wp2
  refine bodyPost_ret (v := .agg #[.string p, .bool f.there, .string f.text, .bool f.runs, .bool f.there, .string f.text, .bool f.runs]) ?_ rfl ⟨rfl, ?_⟩
  · go_light
    simp [results, Try.results27, go_sem]
  · first | exact hal.alloc (by simp) _ | exact box7_below _ _ _ _ _ _ _ hal2 (by omega)
end Go.Proofs.Ytidkcdppdkfplaa

namespace Go.Proofs.Ytidkcdppdkfplaa
open Go.RowKit

structure EBox (b : Nat) (e : En) (W : World) : Prop where
  c0 : W.cell? ⟨b, 0, none⟩ = some (.string e.path)
  c1 : W.cell? ⟨b, 1, none⟩ = some (.string e.text)
  c2 : W.cell? ⟨b, 2, none⟩ = some (.bool e.runs)

theorem EBox.put {b l : Nat} {e : En} {W : World} (h : EBox b e W) (o : Obj) (hl : l ≠ b) : EBox b e (W.putObj l o) := by
  have hb : (W.putObj l o).heap[b]? = W.heap[b]? := World.putObj_heap_other (fun e => hl e.symm)
  exact ⟨(World.cell?_of_block hb).trans h.c0, (World.cell?_of_block hb).trans h.c1, (World.cell?_of_block hb).trans h.c2⟩
theorem EBox.later {b : Nat} {e : En} {W W' : World} (h : EBox b e W) (hb : Below W.heap.size W W') : EBox b e W' := ⟨cell_later hb h.c0, cell_later hb h.c1, cell_later hb h.c2⟩
end Go.Proofs.Ytidkcdppdkfplaa
