/-
  PatLaw, PatK, MarkK, OpenTree, SizeL: laid as one text.
-/
import Derived.Test.YtebgoligoeklbaaHeldC
import Derived.Test.YtebgoligoeklbaaTreeLaw
import Derived.Test.YtebgoligoeklbaaEntries
import Derived.Test.YtebgoligoeklbaaRows
import Derived.ProofKit
import Derived.OpenShut
import Derived.ChangeOld
import Derived.Below
import Derived.Deep.Slices
import Derived.Lib.SmallJoins
import Derived.Deep.Strs
namespace Go.Proofs.Ytebgoligoeklbaa
open Go.RowKit

/-- Changes of a call's own, in a block from B up and under C. -/
def CIn (B C : Nat) (w : World) (a : Option Addr) (ts : List Ch) : Prop :=
  ts = [] ∨ ∃ g, a = some ⟨g, 0, none⟩ ∧ B ≤ g ∧ g < C ∧ (∀ j, w.frozen? ⟨g, j, none⟩ = false) ∧ ∀ i (h : i < ts.length), ChAt w g (i * 7) ts[i]

theorem CL.cin {B C : Nat} {w : World} {a : Option Addr} {ts : List Ch} (h : CL B w a ts) (hC : w.heap.size ≤ C) : CIn B C w a ts := by
  rcases h with h | ⟨g, h1, h2, h3, h4⟩
  · exact .inl h
  · exact .inr ⟨g, h1, h2, Nat.lt_of_lt_of_le h3 hC, h4⟩
theorem CIn.cl {B C : Nat} {w : World} {a : Option Addr} {ts : List Ch} (h : CIn B C w a ts) (hC : C ≤ w.heap.size) : CL B w a ts := by
  rcases h with h | ⟨g, h1, h2, h3, h4⟩
  · exact .inl h
  · exact .inr ⟨g, h1, h2, Nat.lt_of_lt_of_le h3 hC, h4⟩
theorem CIn.cs {B C : Nat} {w : World} {a : Option Addr} {ts : List Ch} (h : CIn B C w a ts) : CS w a ts := by
  rcases h with h | ⟨g, h1, _, _, _, hc⟩
  · exact .inl h
  · exact .inr ⟨g, 0, h1, fun i hi => by rw [Nat.zero_add]; exact hc i hi⟩
theorem CIn.grown {B C : Nat} {w w' : World} {a : Option Addr} {ts : List Ch} {row : Option Nat} (h : CIn B C w a ts) (hC : C ≤ w.heap.size) (hg : w.grownBy w' row) (hne : ∀ r, row = some r → r < B ∨ C ≤ r) : CIn B C w' a ts := by
  rcases h with h | ⟨g, rfl, h1, h2, h3, h4⟩
  · exact .inl h
  · have hk := hg.block g (by omega) (fun e => by rcases hne g e.symm with h | h <;> omega)
    refine .inr ⟨g, rfl, h1, h2, fun j => ?_, fun i hi => ?_⟩
    · have := h3 j
      unfold World.frozen? at this ⊢
      simp only at this ⊢
      rw [hk]; exact this
    · exact (h4 i hi).block hk
theorem CIn.below {B C : Nat} {w w' : World} {a : Option Addr} {ts : List Ch} (h : CIn B C w a ts) (hC : C ≤ w.heap.size) (hb : Below w.heap.size w w') : CIn B C w' a ts :=
  h.grown hC (grown_below (row := none) hb) (fun _ e => by cases e)

def MarkP (B C : Nat) (a : Option Addr) (n : Nat) (w : World) (e : Ending) (w' : World) : Prop :=
  e = .returned (.int .i64 ((1 + 7 * n : Nat) : Int)) ∧ CIn B C w' a (marksC 1 n) ∧ ∃ row, w.grownBy w' row ∧ ∀ r, row = some r → B ≤ r ∧ r < C

theorem markP_any (a : Option Addr) (cap : Nat) (ts : List Ch) (B C : Nat) (w : World) (h : CIn B C w a ts) (hC : C ≤ w.heap.size) (hn : ts.length ≤ 1048576) :
    Calls Try.prog 10 #[.agg #[.slice a ts.length cap], .int .i64 1] w fun e w' => MarkP B C a ts.length w e w' := by
  refine (markPatch_any a cap ts B w (h.cl hC) hn).mono ?_
  rintro e w' ⟨he, hel, row, hg, hr⟩
  refine ⟨he, ?_, row, hg, fun r e => ?_⟩
  · rcases h with h | ⟨g, rfl, h1, h2, _⟩
    · subst h; exact .inl rfl
    · rcases hel with h | ⟨g', e', h1', h2', h3'⟩
      · exact .inl h
      · cases e'
        exact .inr ⟨g, rfl, h1, h2, h3'⟩
  · obtain ⟨hp, ha⟩ := hr r e
    rcases h with h | ⟨g, rfl, h1, h2, _⟩
    · subst h; simp at hp
    · cases ha; exact ⟨h1, h2⟩

theorem cin_of_toPatch {w' : World} {B g : Nat} {ts : List Ch} (hs : CS w' (some ⟨g, 0, none⟩) ts) (hB : B ≤ g) (hf : ∀ j, w'.frozen? ⟨g, j, none⟩ = false) (hl : g < w'.heap.size) : CIn B w'.heap.size w' (some ⟨g, 0, none⟩) ts := by
  rcases hs with h | ⟨b, off, ha, hc⟩
  · exact .inl h
  · cases ha
    refine .inr ⟨g, rfl, hB, hl, hf, fun i hi => ?_⟩
    have := hc i hi
    rw [Nat.zero_add] at this
    exact this
end Go.Proofs.Ytebgoligoeklbaa

namespace Go.Proofs.Ytebgoligoeklbaa
open Go.RowKit

/-- A patch in a box. -/
structure ItmP (W : World) (b B D : Nat) (ad : Option Addr) (cap : Nat) (us : List Ch) : Prop where
  cell : W.cell? ⟨b, 0, none⟩ = some (.slice ad us.length cap)
  lst : CIn B D W ad us
  hi : D ≤ W.heap.size
theorem ItmP.later {W W' : World} {b B D : Nat} {ad : Option Addr} {cap : Nat} {us : List Ch} (h : ItmP W b B D ad cap us) (hb : Below W.heap.size W W') : ItmP W' b B D ad cap us :=
  ⟨cell_later hb h.cell, h.lst.below h.hi hb, Nat.le_trans h.hi hb.size⟩
theorem ItmP.grown {W W' : World} {b B D : Nat} {ad : Option Addr} {cap : Nat} {us : List Ch} {row : Option Nat} (h : ItmP W b B D ad cap us) (hg : W.grownBy W' row) (hne : ∀ r, row = some r → r ≠ b ∧ (r < B ∨ D ≤ r)) : ItmP W' b B D ad cap us :=
  ⟨cell_grown h.cell (cell_lt h.cell) hg (fun r e => (hne r e).1), h.lst.grown h.hi hg (fun r e => (hne r e).2), Nat.le_trans h.hi hg.size⟩
theorem ItmP.cs {W : World} {b B D : Nat} {ad : Option Addr} {cap : Nat} {us : List Ch} (h : ItmP W b B D ad cap us) : CS W ad us := h.lst.cs
/-- The patch's box is new. -/
theorem ItmP.new {W : World} {B : Nat} {ad : Option Addr} {cap : Nat} {us : List Ch} (h : CIn B W.heap.size W ad us) : ItmP (W.alloc (.cells #[.slice ad us.length cap] 28)) W.heap.size B W.heap.size ad cap us := by
  have hal : Below W.heap.size W (W.alloc (.cells #[.slice ad us.length cap] 28)) := (Below.refl _ _).alloc (Nat.le_refl _) _
  exact ⟨by simp, h.below (Nat.le_refl _) hal, by simp⟩

/-- Behind a call that gives a patch: where it lies. -/
def CutQ (R : List Ch → Prop) (W1 : World) (p : Value) (W : World) : Prop :=
  ∃ us ad cap n2 n3 nc, p = .pointer (some ⟨nc, 0, none⟩) ∧ R us ∧ CIn n2 n3 W ad us ∧ W.cell? ⟨nc, 0, none⟩ = some (.slice ad us.length cap) ∧ W1.heap.size ≤ n2 ∧ n2 ≤ n3 ∧ n3 ≤ W.heap.size ∧ W1.heap.size ≤ nc ∧ nc < W.heap.size ∧ (nc < n2 ∨ n3 ≤ nc) ∧ Below W1.heap.size W1 W
/-- The patch's cell made behind the call. -/
theorem cutQ_mk {R : List Ch → Prop} {W1 Wb W : World} {us : List Ch} {ad : Option Addr} {cap : Nat} (hR : R us) (hel : CL Wb.heap.size W ad us) (hs : W1.heap.size ≤ Wb.heap.size) (hbs : Wb.heap.size ≤ W.heap.size) (hb : Below W1.heap.size W1 W) :
    CutQ R W1 (.pointer (some ⟨W.heap.size, 0, none⟩)) (W.alloc (.cells #[.slice ad us.length cap] 28)) := by
  have hal : Below W.heap.size W (W.alloc (.cells #[.slice ad us.length cap] 28)) := (Below.refl _ _).alloc (Nat.le_refl _) _
  exact ⟨us, ad, cap, Wb.heap.size, W.heap.size, W.heap.size, rfl, hR, (hel.cin (Nat.le_refl _)).below (Nat.le_refl _) hal, by simp, hs, hbs, by simp, hb.size, by simp, .inr (Nat.le_refl _), hb.trans (hal.mono hb.size)⟩
/-- The patch's cell made ahead of the call. -/
theorem cutQ_mk' {R : List Ch → Prop} {W1 Wb W : World} {us : List Ch} {ad : Option Addr} {cap nc : Nat} {u : Value} (hR : R us) (hel : CL Wb.heap.size W ad us) (hs : W1.heap.size ≤ nc) (hnc : nc < Wb.heap.size) (hbs : Wb.heap.size ≤ W.heap.size) (hb : Below W1.heap.size W1 W) (hc : W.cell? ⟨nc, 0, none⟩ = some u) :
    CutQ R W1 (.pointer (some ⟨nc, 0, none⟩)) (W.setCell ⟨nc, 0, none⟩ (.slice ad us.length cap)) := by
  have hg : W.grownBy (W.setCell ⟨nc, 0, none⟩ (.slice ad us.length cap)) (some nc) := grown_setM W nc 0 _
  exact ⟨us, ad, cap, Wb.heap.size, W.heap.size, nc, rfl, hR, (hel.cin (Nat.le_refl _)).grown (Nat.le_refl _) hg (fun r e => by cases e; exact .inl hnc), World.cell?_setCell_same _ _ _ hc, by omega, hbs, by simp, hs, by simp; omega, .inl hnc, hb.setCell (p := ⟨nc, 0, none⟩) hs _⟩
end Go.Proofs.Ytebgoligoeklbaa

namespace Go.Proofs.Ytebgoligoeklbaa
open Go.RowKit

def MarkTK (B C : Nat) (a : Option Addr) (n k : Nat) (w : World) (e : Ending) (w' : World) : Prop :=
  e = .returned (.int .i64 ((k + 3 * n : Nat) : Int)) ∧ EIn B C w' a (marksE k n) ∧ ∃ row, w.grownBy w' row ∧ ∀ r, row = some r → B ≤ r ∧ r < C

/-- A tree in a box. -/
structure Itm (W : World) (b B D : Nat) (ad : Option Addr) (cap : Nat) (us : List En) : Prop where
  cell : W.cell? ⟨b, 0, none⟩ = some (.slice ad us.length cap)
  lst : EIn B D W ad us
  hi : D ≤ W.heap.size
theorem Itm.later {W W' : World} {b B D : Nat} {ad : Option Addr} {cap : Nat} {us : List En} (h : Itm W b B D ad cap us) (hb : Below W.heap.size W W') : Itm W' b B D ad cap us :=
  ⟨cell_later hb h.cell, h.lst.below h.hi hb, Nat.le_trans h.hi hb.size⟩
theorem Itm.grown {W W' : World} {b B D : Nat} {ad : Option Addr} {cap : Nat} {us : List En} {row : Option Nat} (h : Itm W b B D ad cap us) (hg : W.grownBy W' row) (hne : ∀ r, row = some r → r ≠ b ∧ (r < B ∨ D ≤ r)) : Itm W' b B D ad cap us :=
  ⟨cell_grown h.cell (cell_lt h.cell) hg (fun r e => (hne r e).1), h.lst.grown h.hi hg (fun r e => (hne r e).2), Nat.le_trans h.hi hg.size⟩
theorem Itm.es {W : World} {b B D : Nat} {ad : Option Addr} {cap : Nat} {us : List En} (h : Itm W b B D ad cap us) : ES W ad us := h.lst.es
/-- The tree's box is new. -/
theorem Itm.new {W : World} {B : Nat} {ad : Option Addr} {cap : Nat} {us : List En} (h : EIn B W.heap.size W ad us) : Itm (W.alloc (.cells #[.slice ad us.length cap] 42)) W.heap.size B W.heap.size ad cap us := by
  have hal : Below W.heap.size W (W.alloc (.cells #[.slice ad us.length cap] 42)) := (Below.refl _ _).alloc (Nat.le_refl _) _
  exact ⟨by simp, h.below (Nat.le_refl _) hal, by simp⟩

set_option maxRecDepth 20000 in
set_option maxHeartbeats 1000000 in
theorem markTK_any (k : Nat) (h0 : 0 < k) (hk : k ≤ 10485760) (a : Option Addr) (cap : Nat) (ts : List En) (B C : Nat) (w : World) (h : EIn B C w a ts) (hC : C ≤ w.heap.size) (hn : ts.length ≤ 1048576) :
    Calls Try.prog 17 #[.agg #[.slice a ts.length cap], .int .i64 k] w fun e w' => MarkTK B C a ts.length k w e w' := by
  have hb0 : Below w.heap.size w (w.alloc (.cells #[.slice a ts.length cap] 42)) := (Below.refl _ _).alloc (Nat.le_refl _) _
  go_enter Try.func17, Try.ntmps17
  go_wp2_with fail
  refine (markEs_any a cap ts k B _ ((h.el hC).below hb0) h0 (by omega)).mono ?_
  rintro e w1 ⟨rfl, hel1, row, hg1, hr1⟩
  go_wp2
  go_ret
  refine ⟨rfl, ?_, row, grown_trans (grown_below hb0) hg1, fun r e => ?_⟩
  · rcases h with h | ⟨g, rfl, h1, h2, _⟩
    · subst h; exact .inl rfl
    · rcases hel1 with h | ⟨g', e', h1', h2', h3'⟩
      · exact .inl h
      · cases e'
        exact .inr ⟨g, rfl, h1, h2, h3'⟩
  · obtain ⟨hp, ha⟩ := hr1 r e
    rcases h with h | ⟨g, rfl, h1, h2, _⟩
    · subst h; simp at hp
    · cases ha; exact ⟨h1, h2⟩
end Go.Proofs.Ytebgoligoeklbaa

namespace Go.Proofs.Ytebgoligoeklbaa
open Go.ChangeShapes Go.WideShapes Go.ChangeAt Go.RowKit

theorem cellsEntry : Try.prog.cellsOf 94 = 3 := by kernel_rfl
theorem cellsRow : Try.prog.cellsOf 35 = 1 := by kernel_rfl
theorem cellsStr : Try.prog.cellsOf 9 = 1 := by kernel_rfl
theorem cellsBool : Try.prog.cellsOf 4 = 1 := by kernel_rfl
theorem cellsVal : Try.prog.cellsOf 37 = 1 := by kernel_rfl

set_option maxRecDepth 100000 in
theorem open_entry {H : Type} {enc : TypeId × Value → H} {W : World} {n : Nat} {cs : List Value} {x : DataW H × List MemPlace} {a : Addr} (h1 : W.cells? 0 a 3 = some cs) (h2 : DataW.trod enc Try.prog W 0 (fun _ => true) true n 94 cs = some x) :
    ∃ t : En, W.cell? (a.add 0) = some (.string t.path) ∧ W.cell? (a.add 1) = some (.string t.text) ∧ W.cell? (a.add 2) = some (.bool t.runs) ∧ t.path.size ≤ maxLen ∧ t.text.size ≤ maxLen := by
  obtain ⟨_, hlen, hc⟩ := World.cells?_some h1
  match cs, hlen with
  | [c0, c1, c2], _ =>
    obtain ⟨y0, y1, y2, m, _, _, g0, g1, g2⟩ := Go.Deep.trod_struct3 Try.underlying94 h2
    simp only [cellsStr, cellsBool, List.drop, List.take] at g0 g1 g2
    obtain ⟨s0, e0, _, hs0⟩ := DataW.trod_string Try.underlying9 g0
    obtain ⟨s1, e1, _, hs1⟩ := DataW.trod_string Try.underlying9 g1
    obtain ⟨b2, e2, _⟩ := DataW.trod_bool Try.underlying4 g2
    simp at e0 e1 e2
    subst e0 e1 e2
    exact ⟨⟨s0, s1, b2⟩, hc 0 (by omega), hc 1 (by omega), hc 2 (by omega), hs0, hs1⟩

set_option maxRecDepth 100000 in
theorem open_tree {H : Type} {enc : TypeId × Value → H} {W : World} {base : Nat} {v : Value} {d : DataW H} {p : List MemPlace} (hv : Value.okWide Try.prog W .any base 37 v) (h : DataW.Trod enc Try.prog W 0 (fun _ => true) true 37 v d p) :
    ∃ a cap ts, v = .agg #[.slice a ts.length cap] ∧ ES W a ts ∧ ts.length ≤ maxLen ∧ ∀ s ∈ ts, s.path.size ≤ maxLen ∧ s.text.size ≤ maxLen := by
  haveI : Inhabited En := ⟨⟨⟨#[]⟩, ⟨#[]⟩, false⟩⟩
  obtain ⟨cs, rfl, hsz⟩ := okWide_struct Try.underlying37 hv
  rw [cellsVal] at hsz
  obtain ⟨c0, rfl⟩ : ∃ c0, cs = #[c0] := by
    obtain ⟨l⟩ := cs
    match l, hsz with
    | [c], _ => exact ⟨c, rfl⟩
  obtain ⟨fuel, hf⟩ := h
  obtain ⟨y0, n, _, _, h0⟩ := trod_struct1 Try.underlying37 hf
  simp only [cellsRow, Value.cells, List.drop, List.take] at h0
  rcases Go.Deep.open_slice Try.underlying35 h0 with ⟨hcs, _⟩ | ⟨a, len, cap, m, n, D, Pl, hcs, _, hl, hm, hmm, _, hx⟩
  · simp at hcs
    subst hcs
    exact ⟨none, 0, [], rfl, .inl rfl, Nat.zero_le _, fun s hs => by simp at hs⟩
  · simp at hcs
    subst hcs
    simp at hmm
    subst hmm
    rw [cellsEntry] at hx
    obtain ⟨V, hV⟩ := Go.Deep.choose_lt (α := En) (p := fun i t => W.cell? ((a.add (i * 3)).add 0) = some (.string t.path) ∧ W.cell? ((a.add (i * 3)).add 1) = some (.string t.text) ∧ W.cell? ((a.add (i * 3)).add 2) = some (.bool t.runs) ∧ t.path.size ≤ maxLen ∧ t.text.size ≤ maxLen) (n := m) (fun i hi => by
      obtain ⟨cs', h1, h2⟩ := hx i hi
      exact open_entry h1 h2)
    refine ⟨some a, m, (List.range len).map V, by simp, ?_, by simp; omega, ?_⟩
    · by_cases h0 : len = 0
      · left; simp [h0]
      · right
        obtain ⟨b, off, spot⟩ := a
        have hspot : spot = none := by simpa [Addr.add] using World.cell?_spot (hV 0 (by omega)).1
        subst hspot
        refine ⟨b, off, rfl, fun i hi => ?_⟩
        simp at hi
        obtain ⟨q0, q1, q2, _⟩ := hV i (by omega)
        simp only [Go.WideShapes.add_plain, Nat.add_zero] at q0 q1 q2
        simp only [List.getElem_map, List.getElem_range]
        exact ⟨q0, q1, q2⟩
    · intro s hs
      simp only [List.mem_map, List.mem_range] at hs
      obtain ⟨i, hi, rfl⟩ := hs
      exact (hV i (by omega)).2.2.2
end Go.Proofs.Ytebgoligoeklbaa

namespace Go.Proofs.Ytebgoligoeklbaa
open Go.RowKit

set_option maxRecDepth 20000 in
set_option maxHeartbeats 1000000 in
theorem szEntrySL_any (L : Nat) (hL : L ≤ 1048576) (a : Option Addr) (cap : Nat) (ts : List En) (w : World) (hss : ES w a ts) (hn : ts.length ≤ maxLen) (hm : ∀ s ∈ ts, s.path.size ≤ maxLen ∧ s.text.size ≤ maxLen) :
    Calls Try.prog 30 #[.slice a ts.length cap, .int .i64 L] w fun e w' => ∃ r : Int, e = .returned (.int .i64 r) ∧ Below w.heap.size w w' ∧ ((r = -1) ∨ (0 ≤ r ∧ r ≤ L ∧ ts.length + totalE ts ≤ L)) := by
  unfold maxLen at hn
  by_cases h0 : (L : Int) - ts.length < 0
  · go_enter Try.func30, Try.ntmps30
    go_wp2
    go_ret
    exact ⟨-1, rfl, Below.refl _ _, .inl rfl⟩
  · go_enter Try.func30, Try.ntmps30
    go_wp2
    go_loopw [1, 5] (fun l i wr => ∃ k : Nat, k ≤ ts.length ∧ i = .int .i64 k ∧ l = .int .i64 ((L : Int) - ts.length - totalE (ts.take k)) ∧ ts.length + totalE (ts.take k) ≤ L ∧ Below w.heap.size w wr) (fun _ i _ => ts.length - (intOf i).toNat)
    case atStart => exact ⟨0, Nat.zero_le _, rfl, by simp [totalE], by simp [totalE]; omega, Below.refl _ _⟩
    case round =>
      obtain ⟨k, hk, rfl, rfl, hle, hb⟩ := hrel
      by_cases hlt : k < ts.length
      · obtain ⟨b, off, rfl, hc⟩ := (hss.below hb).at hlt
        obtain ⟨c0, c1, c2⟩ := hc k hlt
        have HT : Hid (totalE (ts.take (k + 1)) = totalE (ts.take k) + (ts[k].path.size + ts[k].text.size)) := totalE_take ts k hlt
        have hsz := hm ts[k] (List.getElem_mem hlt)
        generalize totalE (ts.take k) = t at *
        clear hc
        go_wp2_with fail
        refine (szEntry_any ts[k] _ _ (by omega) hsz).mono ?_
        rintro e w1 ⟨rfl, hb1⟩
        by_cases hneg : (L : Int) - ts.length - t - (ts[k].path.size + ts[k].text.size) < 0
        · rw [if_pos hneg]
          go_wp2
          go_ret
          exact ⟨-1, rfl, hb.trans (hb1.mono hb.size), .inl rfl⟩
        · rw [if_neg hneg]
          go_wp2
          go_roundw
          case rel => exact ⟨k + 1, by omega, by go_num, by rw [HT.out]; go_num, by rw [HT.out]; omega, hb.trans (hb1.mono hb.size)⟩
          case measure => simp [intOf]; omega
      · obtain rfl : k = ts.length := by omega
        go_wp2
        go_ret
        rw [List.take_length] at *
        exact ⟨_, rfl, hb, .inr ⟨by omega, by omega, hle⟩⟩

set_option maxRecDepth 20000 in
set_option maxHeartbeats 1000000 in
theorem szTreeL_any (L : Nat) (hL : L ≤ 1048576) (a : Option Addr) (cap : Nat) (ts : List En) (w : World) (hss : ES w a ts) (hn : ts.length ≤ maxLen) (hm : ∀ s ∈ ts, s.path.size ≤ maxLen ∧ s.text.size ≤ maxLen) :
    Calls Try.prog 12 #[.agg #[.slice a ts.length cap], .int .i64 L] w fun e w' => ∃ r : Int, e = .returned (.int .i64 r) ∧ Below w.heap.size w w' ∧ ((r = -1) ∨ (0 ≤ r ∧ r ≤ L ∧ ts.length + totalE ts ≤ L)) := by
  go_enter Try.func12, Try.ntmps12
  go_wp2_with fail
  refine (szEntrySL_any L hL a cap ts _ (hss.below ((Below.refl _ _).alloc (Nat.le_refl _) _)) hn hm).mono ?_
  rintro e w1 ⟨r, rfl, hb, hr⟩
  have hb0 : Below w.heap.size w w1 := ((Below.refl _ _).alloc (Nat.le_refl _) _).trans (hb.mono (by simp))
  rcases hr with rfl | ⟨h0, h2, h1⟩
  · go_wp2
    go_ret
    exact ⟨-1, rfl, hb0, .inl rfl⟩
  · go_wp2
    go_ret
    exact ⟨r, rfl, hb0, .inr ⟨h0, h2, h1⟩⟩

end Go.Proofs.Ytebgoligoeklbaa
