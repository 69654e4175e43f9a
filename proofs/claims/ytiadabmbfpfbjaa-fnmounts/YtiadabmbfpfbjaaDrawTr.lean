/-
  Drawn trees: what is held while one is drawn.
-/
import Derived.Test.YtiadabmbfpfbjaaDrawPth
import Derived.Test.YtiadabmbfpfbjaaPutS
namespace Go.Proofs.Ytiadabmbfpfbjaa
open Go.RowKit

def Tiny (P T : Nat) (ts : List En) : Prop := ∀ e ∈ ts, e.path.size ≤ P ∧ e.text.size ≤ T
/-- Where an address of a slice is none there is no room. -/
def NilOk (ad : Option Addr) (cp : Nat) : Prop := (∃ x, ad = some x) ∨ (ad = none ∧ cp = 0)
theorem NilOk.ne {B : Nat} {w : World} {ad : Option Addr} {cp : Nat} {ts : List En} (h : EL B w ad ts) (hne : ts ≠ []) : NilOk ad cp := by
  rcases h with h | ⟨g, h, _⟩
  · exact absurd h hne
  · exact .inl ⟨_, h⟩

/-- A tree in a box, beside a reader. -/
structure LD5 (g : Nat) (a : Option Addr) (cap : Nat) (zs : List Int) (w : World) (rs tb : Nat) (ad : Option Addr) (cp : Nat) (ts : List En) (p : Nat) (W : World) : Prop where
  rd : Rd W g a cap zs p
  gr : w.grownBy W (some g)
  rc : W.cell? ⟨rs, 0, none⟩ = some (.slice none 0 0)
  rf : W.frozen? ⟨rs, 0, none⟩ = false
  tc : W.cell? ⟨tb, 0, none⟩ = some (.slice ad ts.length cp)
  tf : W.frozen? ⟨tb, 0, none⟩ = false
  el : EL (tb + 1) W ad ts
  ord : g < rs ∧ rs < tb
theorem LD5.lt {g : Nat} {a : Option Addr} {cap : Nat} {zs : List Int} {w : World} {rs tb : Nat} {ad : Option Addr} {cp : Nat} {ts : List En} {p : Nat} {W : World} (h : LD5 g a cap zs w rs tb ad cp ts p W) : tb < W.heap.size := World.block_lt_of_cell? W ⟨tb, 0, none⟩ h.tc
theorem LD5.ltr {g : Nat} {a : Option Addr} {cap : Nat} {zs : List Int} {w : World} {rs tb : Nat} {ad : Option Addr} {cp : Nat} {ts : List En} {p : Nat} {W : World} (h : LD5 g a cap zs w rs tb ad cp ts p W) : rs < W.heap.size := World.block_lt_of_cell? W ⟨rs, 0, none⟩ h.rc
theorem fz_blk {w w' : World} {g j : Nat} (h : w'.heap[g]? = w.heap[g]?) (hf : w.frozen? ⟨g, j, none⟩ = false) : w'.frozen? ⟨g, j, none⟩ = false := by
  unfold World.frozen? at hf ⊢
  simp only at hf ⊢
  rw [h]; exact hf
theorem LD5.step {g : Nat} {a : Option Addr} {cap : Nat} {zs : List Int} {w : World} {rs tb : Nat} {ad : Option Addr} {cp : Nat} {ts : List En} {p p' : Nat} {W W' : World} (h : LD5 g a cap zs w rs tb ad cp ts p W) (hg : W.grownBy W' (some g)) (hR : Rd W' g a cap zs p') : LD5 g a cap zs w rs tb ad cp ts p' W' := by
  have o := h.ord
  have b1 := hg.block rs h.ltr (by simp; omega)
  have b2 := hg.block tb h.lt (by simp; omega)
  exact ⟨hR, gr_trans h.gr hg, (World.cell?_of_block b1).trans h.rc, fz_blk b1 h.rf, (World.cell?_of_block b2).trans h.tc, fz_blk b2 h.tf, h.el.grown hg (fun k _ hk _ e => by cases e; omega), o⟩
theorem LD5.later {g : Nat} {a : Option Addr} {cap : Nat} {zs : List Int} {w : World} {rs tb : Nat} {ad : Option Addr} {cp : Nat} {ts : List En} {p : Nat} {W W' : World} (h : LD5 g a cap zs w rs tb ad cp ts p W) (hb : Below W.heap.size W W') : LD5 g a cap zs w rs tb ad cp ts p W' := h.step (gr_below hb) (h.rd.below hb)
theorem LD5.al {g : Nat} {a : Option Addr} {cap : Nat} {zs : List Int} {w : World} {rs tb : Nat} {ad : Option Addr} {cp : Nat} {ts : List En} {p : Nat} {W : World} (h : LD5 g a cap zs w rs tb ad cp ts p W) (o : Obj) : LD5 g a cap zs w rs tb ad cp ts p (W.alloc o) := h.later (below_oneD _ _)
theorem LD5.drew {g : Nat} {a : Option Addr} {cap : Nat} {zs : List Int} {w : World} {rs tb : Nat} {ad : Option Addr} {cp : Nat} {ts : List En} {p : Nat} {W : World} (h : LD5 g a cap zs w rs tb ad cp ts p W) : LD5 g a cap zs w rs tb ad cp ts p W.drew := h.later (Below.refl _ _).drew
/-- Another tree is put into the box. -/
theorem LD5.put {g : Nat} {a : Option Addr} {cap : Nat} {zs : List Int} {w : World} {rs tb : Nat} {ad ad' : Option Addr} {cp cp' : Nat} {ts us : List En} {p : Nat} {W : World} (h : LD5 g a cap zs w rs tb ad cp ts p W) (he : EL (tb + 1) W ad' us) (hw : w.heap.size ≤ tb) : LD5 g a cap zs w rs tb ad' cp' us p (W.setCell ⟨tb, 0, none⟩ (.slice ad' us.length cp')) := by
  have o := h.ord
  have hg : W.grownBy (W.setCell ⟨tb, 0, none⟩ (.slice ad' us.length cp')) (some tb) := grown_set W tb 0 _
  refine ⟨h.rd.kept hg (fun k e => by cases e; omega), gr_own h.gr hg (fun j e => by cases e; exact hw), ?_, (World.frozen?_setCell _ _ _ _).trans h.rf, World.cell?_setCell_same _ _ _ h.tc, (World.frozen?_setCell _ _ _ _).trans h.tf, he.grown hg (fun k _ hk _ e => by cases e; omega), o⟩
  exact (World.cell?_of_block (Below.heap_setCell _ _ _ _ (by show rs ≠ tb; omega))).trans h.rc

/-- The same, behind a world of some size. -/
structure QD (lo g : Nat) (a : Option Addr) (cap : Nat) (zs : List Int) (w : World) (rs tb : Nat) (ad : Option Addr) (cp : Nat) (ts : List En) (p : Nat) (W : World) : Prop where
  ld : LD5 g a cap zs w rs tb ad cp ts p W
  sz : lo ≤ W.heap.size
theorem QD.step {lo g : Nat} {a : Option Addr} {cap : Nat} {zs : List Int} {w : World} {rs tb : Nat} {ad : Option Addr} {cp : Nat} {ts : List En} {p p' : Nat} {W W' : World} (h : QD lo g a cap zs w rs tb ad cp ts p W) (hg : W.grownBy W' (some g)) (hR : Rd W' g a cap zs p') : QD lo g a cap zs w rs tb ad cp ts p' W' := ⟨h.ld.step hg hR, Nat.le_trans h.sz hg.size⟩
theorem QD.al {lo g : Nat} {a : Option Addr} {cap : Nat} {zs : List Int} {w : World} {rs tb : Nat} {ad : Option Addr} {cp : Nat} {ts : List En} {p : Nat} {W : World} (h : QD lo g a cap zs w rs tb ad cp ts p W) (o : Obj) : QD lo g a cap zs w rs tb ad cp ts p (W.alloc o) := ⟨h.ld.al o, Nat.le_trans h.sz (by simp)⟩
theorem QD.drew {lo g : Nat} {a : Option Addr} {cap : Nat} {zs : List Int} {w : World} {rs tb : Nat} {ad : Option Addr} {cp : Nat} {ts : List En} {p : Nat} {W : World} (h : QD lo g a cap zs w rs tb ad cp ts p W) : QD lo g a cap zs w rs tb ad cp ts p W.drew := ⟨h.ld.drew, h.sz⟩

/-- A box that was made beside. -/
structure NC (lo nc : Nat) (W : World) : Prop where
  cell : W.cell? ⟨nc, 0, none⟩ = some (.slice none 0 0)
  fz : W.frozen? ⟨nc, 0, none⟩ = false
  lo : lo ≤ nc
theorem NC.lt {lo nc : Nat} {W : World} (h : NC lo nc W) : nc < W.heap.size := World.block_lt_of_cell? W ⟨nc, 0, none⟩ h.cell
theorem NC.step {g lo nc : Nat} {W W' : World} (h : NC lo nc W) (hg : W.grownBy W' (some g)) (hgt : g < lo) : NC lo nc W' := by
  have b := hg.block nc h.lt (by have := h.lo; simp; omega)
  exact ⟨(World.cell?_of_block b).trans h.cell, fz_blk b h.fz, h.lo⟩
theorem NC.newA {g lo : Nat} {Y W' : World} {t : TypeId} (hs : lo ≤ Y.heap.size) (hg : (Y.alloc (.cells #[.slice none 0 0] t)).grownBy W' (some g)) (hgt : g < lo) : NC lo Y.heap.size W' := by
  have b := hg.block Y.heap.size (by simp) (by simp; omega)
  exact ⟨(World.cell?_of_block b).trans (by simp), fz_blk b (by simp), hs⟩
theorem NC.newD {g lo : Nat} {Y W' : World} {t : TypeId} (hs : lo ≤ Y.heap.size) (hg : (Y.alloc (.cells #[.slice none 0 0] t)).drew.grownBy W' (some g)) (hgt : g < lo) : NC lo Y.heap.size W' := by
  have b := hg.block Y.heap.size (by simp) (by simp; omega)
  exact ⟨(World.cell?_of_block b).trans (by simp), fz_blk b (by simp), hs⟩

/-- Behind spec.Put in a region that draws. -/
def CutP (g : Nat) (a : Option Addr) (cap : Nat) (zs : List Int) (w : World) (rs tb : Nat) (ad : Option Addr) (cp : Nat) (ts : List En) (P T p : Nat) (pv cc : Value) (W : World) : Prop :=
  ∃ us c ad' cp' nc p2 en, pv = .pointer (some ⟨nc, 0, none⟩) ∧ cc = .int .i64 c ∧ Tiny P T [en] ∧ PutR ts en us c ∧ EL (tb + 1) W ad' us ∧ W.cell? ⟨nc, 0, none⟩ = some (.slice ad' us.length cp') ∧ LD5 g a cap zs w rs tb ad cp ts p2 W ∧ p2 ≤ p
theorem cutP_mk {g : Nat} {a : Option Addr} {cap : Nat} {zs : List Int} {w : World} {rs tb : Nat} {ad ad' : Option Addr} {cp cp' : Nat} {ts us : List En} {P T p p2 : Nat} {c : Int} {en : En} {B : Nat} {W : World} (he : Tiny P T [en]) (hR : PutR ts en us c) (hel : EL B W ad' us) (hB : tb < B) (hl : LD5 g a cap zs w rs tb ad cp ts p2 W) (hp : p2 ≤ p) :
    CutP g a cap zs w rs tb ad cp ts P T p (.pointer (some ⟨W.heap.size, 0, none⟩)) (.int .i64 c) (W.alloc (.cells #[.slice ad' us.length cp'] 25)) :=
  ⟨us, c, ad', cp', W.heap.size, p2, en, rfl, rfl, he, hR, (hel.below (below_oneD _ _)).mono hB, by simp, hl.al _, hp⟩
theorem cutP_mk' {g : Nat} {a : Option Addr} {cap : Nat} {zs : List Int} {w : World} {rs tb : Nat} {ad ad' : Option Addr} {cp cp' : Nat} {ts us : List En} {P T p p2 : Nat} {c : Int} {en : En} {B nc : Nat} {W : World} (he : Tiny P T [en]) (hR : PutR ts en us c) (hel : EL B W ad' us) (hB : tb < B) (hl : LD5 g a cap zs w rs tb ad cp ts p2 W) (hp : p2 ≤ p) {lo : Nat} (N : NC lo nc W) (hn : nc < B) (hlo : tb < lo) (hw : w.heap.size ≤ tb) (hap : ts = [] ∨ ∃ k, blk ad = some k ∧ k < lo) :
    CutP g a cap zs w rs tb ad cp ts P T p (.pointer (some ⟨nc, 0, none⟩)) (.int .i64 c) (W.setCell ⟨nc, 0, none⟩ (.slice ad' us.length cp')) := by
  have hg : W.grownBy (W.setCell ⟨nc, 0, none⟩ (.slice ad' us.length cp')) (some nc) := grown_set W nc 0 _
  have o := hl.ord
  have lo := N.lo
  refine ⟨us, c, ad', cp', nc, p2, en, rfl, rfl, he, hR, (hel.grown hg (fun k _ hk _ e => by cases e; omega)).mono hB, World.cell?_setCell_same _ _ _ N.cell, ?_, hp⟩
  refine ⟨hl.rd.kept hg (fun k e => by cases e; omega), gr_own hl.gr hg (fun j e => by cases e; omega), ?_, (World.frozen?_setCell _ _ _ _).trans hl.rf, ?_, (World.frozen?_setCell _ _ _ _).trans hl.tf, ?_, o⟩
  · exact (World.cell?_of_block (Below.heap_setCell _ _ _ _ (by show rs ≠ nc; omega))).trans hl.rc
  · exact (World.cell?_of_block (Below.heap_setCell _ _ _ _ (by show tb ≠ nc; omega))).trans hl.tc
  · rcases hap with h | h
    · subst h; exact EL.nil _ _ _
    · obtain ⟨k0, h1, h2⟩ := h
      exact hl.el.grown hg (fun k hk _ _ e => by rw [h1] at hk; cases hk; cases e; omega)
end Go.Proofs.Ytiadabmbfpfbjaa
