/-
  Where Merge's loops stand: what comes out and the clashes, two rows in the making beside boxes that are written; a file in a box; two kinds of regions that draw (a call, a box, a store; an entry put behind).
-/
import Derived.Test.YtjiafjdjocmodaaGreatRegZ
import Derived.Test.YtjiafjdjocmodaaGreatOutL
import Derived.Test.YtjiafjdjocmodaaGreatNameS
import Derived.Test.YtjiafjdjocmodaaGreatAtS
import Derived.Test.YtjiafjdjocmodaaGreatDrawPth
namespace Go.Proofs.YtjiafjdjocmodaaGreat
open Go.RowKit

/-- A file in a box. -/
structure FB (b : Nat) (f : Fl) (W : World) : Prop where
  c0 : W.cell? ⟨b, 0, none⟩ = some (.bool f.there)
  c1 : W.cell? ⟨b, 1, none⟩ = some (.string f.text)
  c2 : W.cell? ⟨b, 2, none⟩ = some (.bool f.runs)
  fz : ∀ j, W.frozen? ⟨b, j, none⟩ = false
theorem FB.lt {b : Nat} {f : Fl} {W : World} (h : FB b f W) : b < W.heap.size := World.block_lt_of_cell? W ⟨b, 0, none⟩ h.c0
theorem FB.later {b : Nat} {f : Fl} {W W' : World} (h : FB b f W) (hb : Below W.heap.size W W') : FB b f W' :=
  ⟨cell_later hb h.c0, cell_later hb h.c1, cell_later hb h.c2, fun j => (hb.frozen (p := ⟨b, j, none⟩) h.lt).trans (h.fz j)⟩
theorem FB.new (W : World) (f : Fl) (t : TypeId) : FB W.heap.size f (W.alloc (.cells #[.bool f.there, .string f.text, .bool f.runs] t)) := ⟨by simp, by simp, by simp, fun j => by simp⟩
theorem FB.set {b : Nat} {g : Fl} {W : World} (h : FB b g W) (f : Fl) : FB b f (((W.setCell ⟨b, 0, none⟩ (.bool f.there)).setCell ⟨b, 1, none⟩ (.string f.text)).setCell ⟨b, 2, none⟩ (.bool f.runs)) := by
  have q : ∀ {Y : World} {i j : Nat} {v u : Value}, i ≠ j → Y.cell? ⟨b, j, none⟩ = some u → (Y.setCell ⟨b, i, none⟩ v).cell? ⟨b, j, none⟩ = some u := fun hn hc => (World.cell?_setCell_other _ _ _ _ (fun e => hn (by injection e))).trans hc
  refine ⟨q (by omega) (q (by omega) (World.cell?_setCell_same _ _ _ h.c0)), q (by omega) (World.cell?_setCell_same _ _ _ (q (by omega) h.c1)), World.cell?_setCell_same _ _ _ (q (by omega) (q (by omega) h.c2)), fun j => ?_⟩
  rw [World.frozen?_setCell, World.frozen?_setCell, World.frozen?_setCell]
  exact h.fz j
theorem FB.set_below {b : Nat} {w W : World} (hb : Below w.heap.size w W) (hl : w.heap.size ≤ b) (f : Fl) : Below w.heap.size w (((W.setCell ⟨b, 0, none⟩ (.bool f.there)).setCell ⟨b, 1, none⟩ (.string f.text)).setCell ⟨b, 2, none⟩ (.bool f.runs)) :=
  ((hb.setCell (p := ⟨b, 0, none⟩) hl _).setCell (p := ⟨b, 1, none⟩) hl _).setCell (p := ⟨b, 2, none⟩) hl _

theorem FB.grown {b : Nat} {f : Fl} {W W' : World} {row : Option Nat} (h : FB b f W) (hg : W.grownBy W' row) (hr : row ≠ some b) : FB b f W' := by
  have hb := hg.block b h.lt (fun e => hr e.symm)
  exact ⟨(World.cell?_of_block hb).trans h.c0, (World.cell?_of_block hb).trans h.c1, (World.cell?_of_block hb).trans h.c2, fun j => frozen_of hb (h.fz j)⟩

/-- What comes out (in the box ob) and the clashes (in a slot), in the making; S: the boxes that are written. -/
structure MSt (w : World) (S : List Nat) (ob : Nat) (W0 : World) (v v2 : Value) (us : List En) (ks : List ByteArray) (W : World) : Prop where
  bw : Below w.heap.size w W
  lo : w.heap.size ≤ W0.heap.size
  bl : ∀ k, k < W0.heap.size → k ∉ S → W.heap[k]? = W0.heap[k]?
  sz : W0.heap.size ≤ W.heap.size
  ss : ∀ s ∈ S, w.heap.size ≤ s ∧ s < W0.heap.size
  mem : ob ∈ S
  cell : W.cell? ⟨ob, 0, none⟩ = some v
  fz : W.frozen? ⟨ob, 0, none⟩ = false
  row : W.ownsRow W0.heap.size 55 3 v us.length (ecells us)
  row2 : W.ownsRow W0.heap.size 9 1 v2 ks.length (ks.map .string)
  sep : ∀ g, v.ownBlock = some g → v2.ownBlock ≠ some g
theorem owns_lt {w : World} {base : Nat} {e : TypeId} {size : Nat} {v : Value} {n : Nat} {xs : List Value} (h : w.ownsRow base e size v n xs) {j : Nat} (hj : v.ownBlock = some j) : j < w.heap.size := by
  rcases h.2 with ⟨rfl, _⟩ | ⟨g, cap, cur, rfl, _, hg, _⟩
  · simp [Value.ownBlock] at hj
  · have : g = j := by simpa [Value.ownBlock] using hj
    rw [← this]; exact (Array.getElem?_eq_some_iff.1 hg).1
section
variable {w : World} {S : List Nat} {ob : Nat} {W0 : World} {v v2 : Value} {us : List En} {ks : List ByteArray} {W : World}
theorem MSt.later {W' : World} (s : MSt w S ob W0 v v2 us ks W) (hb : Below W.heap.size W W') : MSt w S ob W0 v v2 us ks W' :=
  ⟨s.bw.trans (hb.mono s.bw.size), s.lo, fun k hk hn => (hb.block k (Nat.lt_of_lt_of_le hk s.sz)).trans (s.bl k hk hn), Nat.le_trans s.sz hb.size, s.ss, s.mem, cell_later hb s.cell, (hb.frozen (p := ⟨ob, 0, none⟩) (Nat.lt_of_lt_of_le (s.ss ob s.mem).2 s.sz)).trans s.fz, owns_below s.row hb, owns_below s.row2 hb, s.sep⟩
theorem MSt.keep {b j : Nat} {u : Value} (s : MSt w S ob W0 v v2 us ks W) (hc : W0.cell? ⟨b, j, none⟩ = some u) (hn : b ∉ S) : W.cell? ⟨b, j, none⟩ = some u :=
  (World.cell?_of_block (s.bl b (World.block_lt_of_cell? W0 ⟨b, j, none⟩ hc) hn)).trans hc
theorem MSt.start (hb : Below w.heap.size w W0) (hc : W0.cell? ⟨ob, 0, none⟩ = some (.slice none 0 0)) (hf : W0.frozen? ⟨ob, 0, none⟩ = false) (hS : ∀ s ∈ S, w.heap.size ≤ s ∧ s < W0.heap.size) (hm : ob ∈ S) : MSt w S ob W0 (.slice none 0 0) (.slice none 0 0) [] [] W0 :=
  ⟨hb, hb.size, fun _ _ _ => rfl, Nat.le_refl _, hS, hm, hc, hf, World.ownsRow_nil _ _ _ _, ⟨rfl, .inl ⟨rfl, rfl⟩⟩, fun g e => by simp [Value.ownBlock] at e⟩
/-- As spec begins it: the clashes are an empty row. -/
theorem MSt.start2 (hb : Below w.heap.size w W0) (hc : W0.cell? ⟨ob, 0, none⟩ = some (.slice none 0 0)) (hf : W0.frozen? ⟨ob, 0, none⟩ = false) (hS : ∀ s ∈ S, w.heap.size ≤ s ∧ s < W0.heap.size) (hm : ob ∈ S) : MSt w S ob W0 (.slice none 0 0) (.slice (some ⟨W0.heap.size, 0, none⟩) 0 0) [] [] (W0.alloc (.cells #[] 9)) := by
  have h := (MSt.start hb hc hf hS hm).later (below_oneD W0 (.cells #[] 9))
  exact ⟨h.bw, h.lo, h.bl, h.sz, h.ss, h.mem, h.cell, h.fz, h.row, ⟨by simp, .inr ⟨W0.heap.size, 0, #[], rfl, Nat.le_refl _, heap_alloc_new W0 _, Nat.le_refl _, by unfold maxLen; omega, rfl, by simp⟩⟩, fun g e => by simp [Value.ownBlock] at e⟩
/-- A box of S is written. -/
theorem MSt.box {W' : World} {n : Nat} (s : MSt w S ob W0 v v2 us ks W) (hg : W.grownBy W' (some n)) (hn : n ∈ S) (hne : n ≠ ob) : MSt w S ob W0 v v2 us ks W' := by
  have hl := s.ss n hn
  have hob := hg.block ob (Nat.lt_of_lt_of_le (s.ss ob s.mem).2 s.sz) (fun e => hne (by injection e with e; exact e.symm))
  refine ⟨s.bw.grown hg s.bw.size (fun j e => by cases e; exact hl.1), s.lo, fun k hk hk2 => (hg.block k (Nat.lt_of_lt_of_le hk s.sz) (fun e => hk2 (by cases e; exact hn))).trans (s.bl k hk hk2), Nat.le_trans s.sz hg.size, s.ss, s.mem, (World.cell?_of_block hob).trans s.cell, frozen_of hob s.fz, s.row.kept hg ?_, s.row2.kept hg ?_, s.sep⟩
  · exact .inr fun e => by have := owns_row_ge s.row e; omega
  · exact .inr fun e => by have := owns_row_ge s.row2 e; omega
/-- A clash more. -/
theorem MSt.addK {W1 w2 : World} {g2 cap2 H : Nat} {x : ByteArray} (s : MSt w S ob W0 v v2 us ks W) (hb : Below W.heap.size W W1) (hg : W1.grownBy w2 v2.ownBlock) (hown : w2.ownsRow W0.heap.size 9 1 (.slice (some ⟨g2, 0, none⟩) (ks.length + 1) cap2) (ks.length + 1) (ks.map .string ++ [.string x])) (hat : v2.ownBlock = some g2 ∨ g2 = H) (hH : W1.heap.size = H) :
    MSt w S ob W0 v (.slice (some ⟨g2, 0, none⟩) (ks.length + 1) cap2) us (ks ++ [x]) w2 := by
  have s1 := s.later hb
  have hge : ∀ j, v2.ownBlock = some j → W0.heap.size ≤ j := fun j e => owns_row_ge s.row2 e
  have hob := hg.block ob (Nat.lt_of_lt_of_le (s.ss ob s.mem).2 s1.sz) (fun e => by have := hge ob e.symm; have := (s.ss ob s.mem).2; omega)
  refine ⟨s1.bw.grown hg s1.bw.size (fun j e => Nat.le_trans s.lo (hge j e)), s.lo, fun k hk hk2 => (hg.block k (Nat.lt_of_lt_of_le hk s1.sz) (fun e => by have := hge k e.symm; omega)).trans (s1.bl k hk hk2), Nat.le_trans s1.sz hg.size, s.ss, s.mem, (World.cell?_of_block hob).trans s1.cell, frozen_of hob s1.fz, s1.row.kept hg ?_, ?_, fun g hgv e => ?_⟩
  · cases hv : v.ownBlock with
    | none => exact .inl rfl
    | some g => exact .inr fun e => s.sep g hv e.symm
  · rw [List.length_append, List.map_append]; exact hown
  · have e2 : g2 = g := by simpa [Value.ownBlock] using e
    rcases hat with h | h
    · exact s.sep g hgv (by rw [h, e2])
    · have := owns_lt s1.row hgv; omega
/-- An entry more. -/
theorem MSt.addE {W1 w2 : World} {g2 cap2 H : Nat} {e : En} (s : MSt w S ob W0 v v2 us ks W) (hb : Below W.heap.size W W1) (hg : W1.grownBy w2 v.ownBlock) (hown : w2.ownsRow W0.heap.size 55 3 (.slice (some ⟨g2, 0, none⟩) (us.length + 1) cap2) (us.length + 1) (ecells us ++ ecell e)) (hat : v.ownBlock = some g2 ∨ g2 = H) (hH : W1.heap.size = H) :
    (w2.cell? ⟨ob, 0, none⟩ = some v ∧ w2.frozen? ⟨ob, 0, none⟩ = false) ∧ MSt w S ob W0 (.slice (some ⟨g2, 0, none⟩) (us.length + 1) cap2) v2 (us ++ [e]) ks (w2.setCell ⟨ob, 0, none⟩ (.slice (some ⟨g2, 0, none⟩) (us.length + 1) cap2)) ∧ ∀ b, b < W0.heap.size → b ≠ ob → (w2.setCell ⟨ob, 0, none⟩ (.slice (some ⟨g2, 0, none⟩) (us.length + 1) cap2)).heap[b]? = W.heap[b]? := by
  have s1 := s.later hb
  have hge : ∀ j, v.ownBlock = some j → W0.heap.size ≤ j := fun j e => owns_row_ge s.row e
  have hobl := (s.ss ob s.mem).2
  have hob := hg.block ob (Nat.lt_of_lt_of_le hobl s1.sz) (fun e => by have := hge ob e.symm; omega)
  have hc := (World.cell?_of_block hob).trans s1.cell
  have hf := frozen_of hob s1.fz
  have hgs := grown_set0 w2 ob 0 (.slice (some ⟨g2, 0, none⟩) (us.length + 1) cap2)
  have hg2 : W0.heap.size ≤ g2 := owns_row_ge hown rfl
  have hkeep : ∀ b, b < W0.heap.size → b ≠ ob → (w2.setCell ⟨ob, 0, none⟩ (.slice (some ⟨g2, 0, none⟩) (us.length + 1) cap2)).heap[b]? = W.heap[b]? := fun b hb1 hne => ((hgs.block b (Nat.lt_of_lt_of_le hb1 (Nat.le_trans s1.sz hg.size)) (fun e => hne (by cases e; rfl))).trans (hg.block b (Nat.lt_of_lt_of_le hb1 s1.sz) (fun e => by have := hge b e.symm; omega))).trans (hb.block b (Nat.lt_of_lt_of_le hb1 s.sz))
  refine ⟨⟨hc, hf⟩, ⟨(s1.bw.grown hg s1.bw.size (fun j e => Nat.le_trans s.lo (hge j e))).setCell (p := ⟨ob, 0, none⟩) (s.ss ob s.mem).1 _, s.lo, fun k hk hk2 => ?_, ?_, s.ss, s.mem, World.cell?_setCell_same _ _ _ hc, (World.frozen?_setCell _ _ _ _).trans hf, ?_, ?_, fun g hgv e => ?_⟩, hkeep⟩
  · have hne : k ≠ ob := fun e => hk2 (e ▸ s.mem)
    refine (hgs.block k (Nat.lt_of_lt_of_le hk (Nat.le_trans s1.sz hg.size)) (fun e => hne (by cases e; rfl))).trans ((hg.block k (Nat.lt_of_lt_of_le hk s1.sz) (fun e => by have := hge k e.symm; omega)).trans (s1.bl k hk hk2))
  · have := hgs.size; exact Nat.le_trans (Nat.le_trans s1.sz hg.size) this
  · rw [ecells_snoc, List.length_append]
    exact hown.kept hgs (.inr fun e => by
      have : g2 = ob := by simpa [Value.ownBlock] using e
      omega)
  · have h2 := s1.row2.kept hg (by
      cases hv : v2.ownBlock with
      | none => exact .inl rfl
      | some g => exact .inr fun e => s.sep g e.symm hv)
    exact h2.kept hgs (.inr fun e => by have := owns_row_ge s.row2 e; omega)
  · have e2 : g2 = g := by simpa [Value.ownBlock] using hgv
    rcases hat with h | h
    · exact s.sep g (by rw [h, e2]) e
    · have := owns_lt s1.row2 e; omega
end

/-- A counter in a box. -/
structure Cnt (n k : Nat) (W : World) : Prop where
  c : W.cell? ⟨n, 0, none⟩ = some (.int .i64 k)
  fz : W.frozen? ⟨n, 0, none⟩ = false
theorem Cnt.lt {n k : Nat} {W : World} (h : Cnt n k W) : n < W.heap.size := World.block_lt_of_cell? W ⟨n, 0, none⟩ h.c
theorem Cnt.grown {n k : Nat} {W W' : World} {row : Option Nat} (h : Cnt n k W) (hg : W.grownBy W' row) (hr : row ≠ some n) : Cnt n k W' := by
  have hb := hg.block n h.lt (fun e => hr e.symm)
  exact ⟨(World.cell?_of_block hb).trans h.c, frozen_of hb h.fz⟩
theorem Cnt.of_block {n k : Nat} {W W' : World} (h : Cnt n k W) (hb : W'.heap[n]? = W.heap[n]?) : Cnt n k W' := ⟨(World.cell?_of_block hb).trans h.c, frozen_of hb h.fz⟩
theorem Cnt.later {n k : Nat} {W W' : World} (h : Cnt n k W) (hb : Below W.heap.size W W') : Cnt n k W' := h.grown (row := none) (gr_below hb) (by simp)

/-- Regions that draw: calls, a box (operation p) and a store into it (operation q); E and F: what the box holds ahead of the store and behind it. -/
def exB (p q base : Nat) (E F : Nat → World → Prop) (j : Nat) (v : Value) (L : Array Bool) (w : World) : Prop :=
  j = p → ∃ fb, v = .pointer (some ⟨fb, 0, none⟩) ∧ base ≤ fb ∧ (L.getD q false = true → F fb w) ∧ (L.getD q false = false → E fb w)
def IW (W : World) (_ : Array Bool) (w : World) : Prop := Below W.heap.size W w
abbrev BV (T0 : Array Value) (ds : List Nat) (tab : Nat → Option Value) (p q : Nat) (E F : Nat → World → Prop) (W : World) := EVL T0 ds tab (exB p q W.heap.size E F) (IW W)
section
variable {T0 : Array Value} {ds : List Nat} {tab : Nat → Option Value} {p q : Nat} {E F : Nat → World → Prop} {W : World} {L : Array Bool} {a : Act} {w w' : World}
theorem BV.start (n : Nat) : BV T0 ds tab p q E F W (Array.replicate n false) { tmps := T0, defers := [] } W.drew :=
  ⟨Sl2.start _, (Below.refl _ _).drew, fun i _ hL => by rw [getD_repl] at hL; cases hL⟩
theorem exB_later (hE : ∀ fb {w w' : World}, Below w.heap.size w w' → E fb w → E fb w') (hF : ∀ fb {w w' : World}, Below w.heap.size w w' → F fb w → F fb w') {i j : Nat} {v : Value} (hq : i ≠ q) (hb : Below w.heap.size w w') (h : exB p q W.heap.size E F j v L w) : exB p q W.heap.size E F j v (L.setIfInBounds i true) w' := fun hj => by
  obtain ⟨fb, h1, h2, h3, h4⟩ := h hj
  refine ⟨fb, h1, h2, fun h => ?_, fun h => ?_⟩
  · rw [getD_set_ne false hq] at h; exact hF fb hb (h3 h)
  · rw [getD_set_ne false hq] at h; exact hE fb hb (h4 h)
theorem BV.step (h : BV T0 ds tab p q E F W L a w) (nd : ds.Nodup) (hE : ∀ fb {w w' : World}, Below w.heap.size w w' → E fb w → E fb w') (hF : ∀ fb {w w' : World}, Below w.heap.size w w' → F fb w → F fb w') {i : Nat} {v : Value} (hi : i < ds.length) (hd : ds[i] < T0.size) (hp : i ≠ p) (hq : i ≠ q) (ht : tab i = some v) (hb : Below w.heap.size w w') : BV T0 ds tab p q E F W (L.setIfInBounds i true) (a.put (some ds[i]) v) w' :=
  EVL.step h nd (fun _ _ _ hx => exB_later hE hF hq hb hx) hi hd (fun u hu => by rw [ht] at hu; cases hu; rfl) (fun e => absurd e hp) (Below.trans h.wd (hb.mono (Below.size h.wd)))
theorem BV.box (h : BV T0 ds tab p q E F W L a w) (nd : ds.Nodup) (hE : ∀ fb {w w' : World}, Below w.heap.size w w' → E fb w → E fb w') (hF : ∀ fb {w w' : World}, Below w.heap.size w w' → F fb w → F fb w') {o : Obj} (hi : p < ds.length) (hd : ds[p] < T0.size) (hpq : p ≠ q) (ht : tab p = none) (hq : L.getD q false = false) (hn : E w.heap.size (w.alloc o)) : BV T0 ds tab p q E F W (L.setIfInBounds p true) (a.put (some ds[p]) (.pointer (some ⟨w.heap.size, 0, none⟩))) (w.alloc o) := by
  have hb : Below w.heap.size w (w.alloc o) := (Below.refl _ _).alloc (Nat.le_refl _) _
  refine EVL.step h nd (fun _ _ _ hx => exB_later hE hF hpq hb hx) hi hd (fun u hu => by rw [ht] at hu; cases hu) (fun _ => ⟨w.heap.size, rfl, Below.size h.wd, fun h1 => ?_, fun _ => hn⟩) (Below.trans h.wd (hb.mono (Below.size h.wd)))
  rw [getD_set_ne false hpq, hq] at h1; cases h1
theorem BV.store (h : BV T0 ds tab p q E F W L a w) {fb : Nat} (hi : p < ds.length) (hL : L.getD q true = false) (ht : tab q = none) (hpq : p ≠ q) (hp : L.getD p false = true) (e1 : a.eval (.tmp ds[p]) = .pointer (some ⟨fb, 0, none⟩)) (hf : F fb w') (hb : Below W.heap.size W w') : BV T0 ds tab p q E F W (L.setIfInBounds q true) a w' := by
  obtain ⟨fb', g1, g2, _⟩ := h.ex p hi hp rfl
  rw [e1] at g1
  injection g1 with g1; injection g1 with g1; injection g1 with g1
  subst g1
  refine ⟨h.sl.skip ht, hb, fun j hj hLj hjp => ?_⟩
  subst hjp
  refine ⟨fb, e1, g2, fun _ => hf, fun h1 => ?_⟩
  rw [getD_set_true hL] at h1; cases h1
theorem BV.at (h : BV T0 ds tab p q E F W L a w) (hi : p < ds.length) (hp : L.getD p false = true) : ∃ fb, a.eval (.tmp ds[p]) = .pointer (some ⟨fb, 0, none⟩) ∧ W.heap.size ≤ fb ∧ (L.getD q false = true → F fb w) ∧ (L.getD q false = false → E fb w) := h.ex p hi hp rfl
end
theorem undone {ops : Array Oper} {L : Array Bool} (hcl : ClosedB ops L) {i j : Nat} {o : Oper} (ho : ops[i]? = some o) {k : Ground} (he : (⟨j, k⟩ : Edge) ∈ o.after) (hb : Region.binds .any ⟨j, k⟩ = true) (hj : L.getD j false = false) : L.getD i false = false := by
  cases h : L.getD i false with
  | false => rfl
  | true =>
    have h1 := hcl i o ho h ⟨j, k⟩ he hb
    rw [hj] at h1
    cases h1

/-- Regions that draw and put an entry behind the list in the box ob: bi makes the slice of one, ai appends, si stores. -/
structure AE (T0 : Array Value) (ds : List Nat) (tab : Nat → Option Value) (bi ai si sb sa : Nat) (w0 : World) (S : List Nat) (ob : Nat) (Wz X : World) (v v2 : Value) (us : List En) (ks : List ByteArray) (e : En) (L : Array Bool) (a : Act) (w : World) : Prop where
  sl : Sl2 T0 ds tab L a
  p0 : L.getD bi false = false → Below X.heap.size X w
  p1 : L.getD bi false = true → L.getD ai false = false → ∃ y : World, Below X.heap.size X y ∧ w = y.alloc (.cells #[.string e.path, .string e.text, .bool e.runs] 55) ∧ a.eval (.tmp sb) = .slice (some ⟨y.heap.size, 0, none⟩) 1 1
  p2 : L.getD ai false = true → L.getD si false = false → ∃ (W1 : World) (g2 cap : Nat), a.eval (.tmp sa) = .slice (some ⟨g2, 0, none⟩) (us.length + 1) cap ∧ Below X.heap.size X W1 ∧ w.ownsRow Wz.heap.size 55 3 (.slice (some ⟨g2, 0, none⟩) (us.length + 1) cap) (us.length + 1) (ecells us ++ ecell e) ∧ W1.grownBy w v.ownBlock ∧ (v.ownBlock = some g2 ∨ g2 = W1.heap.size)
  p3 : L.getD si false = true → ∃ v', MSt w0 S ob Wz v' v2 (us ++ [e]) ks w ∧ ∀ b, b < Wz.heap.size → b ≠ ob → w.heap[b]? = X.heap[b]?
section
variable {T0 : Array Value} {ds : List Nat} {tab : Nat → Option Value} {bi ai si sb sa : Nat} {w0 : World} {S : List Nat} {ob : Nat} {Wz X : World} {v v2 : Value} {us : List En} {ks : List ByteArray} {e : En} {L : Array Bool} {a : Act} {w w' : World}
theorem AE.start (n : Nat) : AE T0 ds tab bi ai si sb sa w0 S ob Wz X v v2 us ks e (Array.replicate n false) { tmps := T0, defers := [] } X.drew :=
  ⟨Sl2.start _, fun _ => (Below.refl _ _).drew, (fun h => by rw [getD_repl] at h; cases h), (fun h => by rw [getD_repl] at h; cases h), (fun h => by rw [getD_repl] at h; cases h)⟩
theorem AE.below (h : AE T0 ds tab bi ai si sb sa w0 S ob Wz X v v2 us ks e L a w) (h8 : L.getD ai false = false) : Below X.heap.size X w := by
  cases h7 : L.getD bi false with
  | false => exact h.p0 h7
  | true =>
    obtain ⟨y, hy, rfl, _⟩ := h.p1 h7 h8
    exact hy.alloc hy.size _
theorem AE.step (h : AE T0 ds tab bi ai si sb sa w0 S ob Wz X v v2 us ks e L a w) (nd : ds.Nodup) {i : Nat} {u : Value} (hi : i < ds.length) (hd : ds[i] < T0.size) (hbi : i ≠ bi) (hai : i ≠ ai) (hsi : i ≠ si) (hsb : sb ≠ ds[i]) (hsa : sa ≠ ds[i]) (ht : tab i = some u)
    (hw : w' = w ∨ (Below w.heap.size w w' ∧ L.getD bi false = false ∧ L.getD ai false = false ∧ L.getD si false = false)) :
    AE T0 ds tab bi ai si sb sa w0 S ob Wz X v v2 us ks e (L.setIfInBounds i true) (a.put (some ds[i]) u) w' := by
  have hsl := h.sl.put nd hi hd (v := u) (fun u' hu => by rw [ht] at hu; cases hu; rfl)
  have ev : ∀ k, k ≠ ds[i] → (a.put (some ds[i]) u).eval (.tmp k) = a.eval (.tmp k) := fun k hk => Act.eval_put (fun d hd' => by cases hd'; intro e'; injection e' with e'; exact hk e')
  refine ⟨hsl, fun h1 => ?_, fun h1 h2 => ?_, fun h1 h2 => ?_, fun h1 => ?_⟩
  · rw [getD_set_ne false hbi] at h1
    rcases hw with rfl | ⟨hb, _⟩
    · exact h.p0 h1
    · exact (h.p0 h1).trans (hb.mono (h.p0 h1).size)
  · rw [getD_set_ne false hbi] at h1; rw [getD_set_ne false hai] at h2
    rcases hw with rfl | ⟨_, h3, _⟩
    · rw [ev sb hsb]; exact h.p1 h1 h2
    · rw [h3] at h1; cases h1
  · rw [getD_set_ne false hai] at h1; rw [getD_set_ne false hsi] at h2
    rcases hw with rfl | ⟨_, _, h3, _⟩
    · rw [ev sa hsa]; exact h.p2 h1 h2
    · rw [h3] at h1; cases h1
  · rw [getD_set_ne false hsi] at h1
    rcases hw with rfl | ⟨_, _, _, h3⟩
    · exact h.p3 h1
    · rw [h3] at h1; cases h1
theorem AE.build (h : AE T0 ds tab bi ai si sb sa w0 S ob Wz X v v2 us ks e L a w) (nd : ds.Nodup) (hi : bi < ds.length) (hd : ds[bi] < T0.size) (hab : bi ≠ ai) (hsb' : bi ≠ si) (hsb : ds[bi] = sb) (ht : tab bi = none) (h8 : L.getD ai false = false) (h10 : L.getD si false = false) (hL : L.getD bi true = false) :
    AE T0 ds tab bi ai si sb sa w0 S ob Wz X v v2 us ks e (L.setIfInBounds bi true) (a.put (some ds[bi]) (.slice (some ⟨w.heap.size, 0, none⟩) 1 1)) (w.alloc (.cells #[.string e.path, .string e.text, .bool e.runs] 55)) := by
  have g := getD_set_true hL
  refine ⟨h.sl.put nd hi hd (fun u hu => by rw [ht] at hu; cases hu), fun h1 => ?_, fun _ _ => ⟨w, h.p0 (getD_ft hL), rfl, ?_⟩, fun h1 _ => ?_, fun h1 => ?_⟩
  · rw [g] at h1; cases h1
  · rw [← hsb]; exact eval_put_same (by rw [h.sl.sz]; exact hd)
  · rw [getD_set_ne false hab, h8] at h1; cases h1
  · rw [getD_set_ne false hsb', h10] at h1; cases h1
theorem AE.app {W1 : World} (h : AE T0 ds tab bi ai si sb sa w0 S ob Wz X v v2 us ks e L a w) (nd : ds.Nodup) (hi : ai < ds.length) (hd : ds[ai] < T0.size) (hab : ai ≠ bi) (has : ai ≠ si) (hsa : ds[ai] = sa) (ht : tab ai = none) (h7 : L.getD bi false = true) (h10 : L.getD si false = false) (hL : L.getD ai true = false) {g2 cap : Nat} (hX : Below X.heap.size X W1)
    (e2 : w'.ownsRow Wz.heap.size 55 3 (.slice (some ⟨g2, 0, none⟩) (us.length + 1) cap) (us.length + 1) (ecells us ++ ecell e)) (e3 : W1.grownBy w' v.ownBlock) (e4 : v.ownBlock = some g2 ∨ g2 = W1.heap.size) :
    AE T0 ds tab bi ai si sb sa w0 S ob Wz X v v2 us ks e (L.setIfInBounds ai true) (a.put (some ds[ai]) (.slice (some ⟨g2, 0, none⟩) (us.length + 1) cap)) w' := by
  have g := getD_set_true hL
  refine ⟨h.sl.put nd hi hd (fun u hu => by rw [ht] at hu; cases hu), fun h1 => ?_, fun _ h2 => ?_, fun _ _ => ⟨W1, g2, cap, ?_, hX, e2, e3, e4⟩, fun h1 => ?_⟩
  · rw [getD_set_ne false hab, h7] at h1; cases h1
  · rw [g] at h2; cases h2
  · rw [← hsa]; exact eval_put_same (by rw [h.sl.sz]; exact hd)
  · rw [getD_set_ne false has, h10] at h1; cases h1
theorem AE.last (h : AE T0 ds tab bi ai si sb sa w0 S ob Wz X v v2 us ks e L a w) (hsb : si ≠ bi) (hsa : si ≠ ai) (ht : tab si = none) (h7 : L.getD bi false = true) (h8 : L.getD ai false = true) (hL : L.getD si true = false) (hE : ∃ v', MSt w0 S ob Wz v' v2 (us ++ [e]) ks w' ∧ ∀ b, b < Wz.heap.size → b ≠ ob → w'.heap[b]? = X.heap[b]?) :
    AE T0 ds tab bi ai si sb sa w0 S ob Wz X v v2 us ks e (L.setIfInBounds si true) a w' := by
  have g := getD_set_true hL
  refine ⟨h.sl.skip ht, fun h1 => ?_, fun _ h2 => ?_, fun _ h2 => ?_, fun _ => hE⟩
  · rw [getD_set_ne false hsb, h7] at h1; cases h1
  · rw [getD_set_ne false hsa, h8] at h2; cases h2
  · rw [g] at h2; cases h2
end
end Go.Proofs.YtjiafjdjocmodaaGreat
