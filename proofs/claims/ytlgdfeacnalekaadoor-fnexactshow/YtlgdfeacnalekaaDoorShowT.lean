/-
  What spec.Show keeps: the directories that were read, the answer's second box, and the region that finds a line.
-/
import Derived.Test.YtlgdfeacnalekaaDoorRegW
import Derived.Test.YtlgdfeacnalekaaDoorReadS
import Derived.Test.YtlgdfeacnalekaaDoorShowI
namespace Go.Proofs.YtlgdfeacnalekaaDoor
open Go.RowKit

/-- A list of lines in memory, at a block of its own. -/
def LineAt (x : SD) (W : World) : Prop := ∃ B cp, W.ownsRow B 46 3 (.slice (some ⟨x.mb, 0, none⟩) x.ds.length cp) x.ds.length (slcells x.ds)
theorem line_block {W : World} {B : Nat} {e : TypeId} {z : Nat} {b n cp : Nat} {vs : List Value} (h : W.ownsRow B e z (.slice (some ⟨b, 0, none⟩) n cp) n vs) : ∃ cur, W.heap[b]? = some (.cells cur e) := by
  rcases h.2 with ⟨h0, _⟩ | ⟨g, c, cur, hv, _, h1, _⟩
  · cases h0
  · injection hv with hv
    injection hv with hv
    injection hv with hv
    subst hv
    exact ⟨cur, h1⟩
theorem row_block {W : World} {B : Nat} {e : TypeId} {z : Nat} {v : Value} {n : Nat} {vs : List Value} (h : W.ownsRow B e z v n vs) {g : Nat} (hg : v.ownBlock = some g) : ∃ cur, W.heap[g]? = some (.cells cur e) := by
  rcases h.2 with ⟨h0, _⟩ | ⟨g', cap, cur, h0, _, h1, _⟩
  · rw [h0] at hg; cases hg
  · rw [h0] at hg
    injection hg with hg
    have hg : g' = g := hg
    rw [hg] at h1
    exact ⟨cur, h1⟩
theorem LineAt.later {x : SD} {W W' : World} (h : LineAt x W) (hb : Below W.heap.size W W') : LineAt x W' := by
  obtain ⟨B, cp, h⟩ := h
  exact ⟨B, cp, row_laterD hb h⟩
theorem LineAt.kept {x : SD} {W W' : World} {row : Option Nat} (h : LineAt x W) (hg : W.grownBy W' row) (hr : ∀ g, row = some g → ∃ cur, W.heap[g]? = some (.cells cur 40)) : LineAt x W' := by
  obtain ⟨B, cp, h⟩ := h
  refine ⟨B, cp, h.kept hg (.inr (fun e => ?_))⟩
  obtain ⟨cur, h1⟩ := line_block h
  obtain ⟨cur', h2⟩ := hr x.mb e.symm
  rw [h1] at h2
  injection h2 with h2
  injection h2 with _ h2
  exact absurd h2 (by decide)
theorem LineAt.lsp {x : SD} {W : World} (h : LineAt x W) : LSp W x.mb x.ds := by
  obtain ⟨B, cp, h⟩ := h
  intro i hi
  obtain ⟨b, e, hl⟩ := lsp_of_row h (by omega)
  injection e with e
  injection e with e
  subst e
  exact hl i hi
/-- How the directories stand in the slice of slices. -/
def VsOk (xs : List SD) (vs : List Value) : Prop := ∀ (i : Nat) x, xs[i]? = some x → ∃ cp : Nat, vs[i]? = some (.slice (some ⟨x.mb, 0, none⟩) x.ds.length cp)
theorem VsOk.push {xs : List SD} {vs : List Value} (h : VsOk xs vs) (hl : xs.length = vs.length) (x : SD) (cp : Nat) : VsOk (xs ++ [x]) (vs ++ [.slice (some ⟨x.mb, 0, none⟩) x.ds.length cp]) := fun i y hy => by
  by_cases hi : i < xs.length
  · rw [List.getElem?_append_left hi] at hy
    rw [List.getElem?_append_left (by omega)]
    exact h i y hy
  · rw [List.getElem?_append_right (by omega)] at hy
    by_cases hz : i - xs.length = 0
    · rw [hz] at hy
      simp only [List.getElem?_cons_zero, Option.some.injEq] at hy
      subst hy
      exact ⟨cp, by rw [List.getElem?_append_right (by omega), show i - vs.length = 0 by omega]; rfl⟩
    · rw [List.getElem?_eq_none (by simp; omega)] at hy
      cases hy
theorem DirOfs.push {ts : List ByteArray} {wd k : Nat} {xs : List SD} (h : ∀ (i : Nat) t, i < k → ts[i]? = some t → ∃ x, xs[i]? = some x ∧ DirOf wd t x) (hk : k < ts.length) (hl : xs.length = k) {x : SD} (hx : DirOf wd ts[k] x) : ∀ (i : Nat) t, i < k + 1 → ts[i]? = some t → ∃ y, (xs ++ [x])[i]? = some y ∧ DirOf wd t y := fun i t h1 h2 => by
  by_cases hik : i < k
  · obtain ⟨y, h3, h4⟩ := h i t hik h2
    exact ⟨y, by rw [List.getElem?_append_left (by omega)]; exact h3, h4⟩
  · obtain rfl : i = k := by omega
    rw [List.getElem?_eq_getElem hk] at h2
    injection h2 with h2
    subst h2
    exact ⟨_, by rw [List.getElem?_append_right (by omega), show i - xs.length = 0 by omega]; rfl, hx⟩
theorem Tryd.infoLL : (Tryd.prog.info? 40).map (fun i => (i.zero, i.size, i.bytes)) = some (some (.slice none 0 0), 1, 24) := by kernel_rfl

/-- A box of an answer. -/
structure NBx (nb : Nat) (c : Int) (W : World) : Prop where
  n0 : W.cell? ⟨nb, 0, none⟩ = some (.int .i64 c)
  n1 : W.cell? ⟨nb, 1, none⟩ = some (.bool false)
  n2 : W.cell? ⟨nb, 2, none⟩ = some (.string ⟨#[]⟩)
  n3 : W.cell? ⟨nb, 3, none⟩ = some (.string ⟨#[]⟩)
  n4 : W.cell? ⟨nb, 4, none⟩ = some (.bool false)
theorem NBx.later {nb : Nat} {c : Int} {W W' : World} (h : NBx nb c W) (hb : Below W.heap.size W W') : NBx nb c W' := ⟨cell_later hb h.n0, cell_later hb h.n1, cell_later hb h.n2, cell_later hb h.n3, cell_later hb h.n4⟩

/-- A box of a line. -/
structure LBox (fb : Nat) (v0 v1 v2 : Value) (w : World) : Prop where
  c0 : w.cell? ⟨fb, 0, none⟩ = some v0
  c1 : w.cell? ⟨fb, 1, none⟩ = some v1
  c2 : w.cell? ⟨fb, 2, none⟩ = some v2
  fz : ∀ j, w.frozen? ⟨fb, j, none⟩ = false
theorem LBox.later {fb : Nat} {v0 v1 v2 : Value} {w w' : World} (h : LBox fb v0 v1 v2 w) (hb : Below w.heap.size w w') : LBox fb v0 v1 v2 w' := ⟨cell_later hb h.c0, cell_later hb h.c1, cell_later hb h.c2, fun j => (hb.frozen (p := ⟨fb, j, none⟩) (lt_of_cell h.c0)).trans (h.fz j)⟩
theorem LBox.set {fb : Nat} {u0 u1 u2 : Value} {w : World} (h : LBox fb u0 u1 u2 w) (v0 v1 v2 : Value) : LBox fb v0 v1 v2 (((w.setCell ⟨fb, 0, none⟩ v0).setCell ⟨fb, 1, none⟩ v1).setCell ⟨fb, 2, none⟩ v2) := by
  have q : ∀ {Y : World} {i j : Nat} {v u : Value}, i ≠ j → Y.cell? ⟨fb, j, none⟩ = some u → (Y.setCell ⟨fb, i, none⟩ v).cell? ⟨fb, j, none⟩ = some u := fun hn hc => (World.cell?_setCell_other _ _ _ _ (fun e => hn (by injection e))).trans hc
  exact ⟨q (by omega) (q (by omega) (World.cell?_setCell_same _ _ _ h.c0)), q (by omega) (World.cell?_setCell_same _ _ _ (q (by omega) h.c1)), World.cell?_setCell_same _ _ _ (q (by omega) (q (by omega) h.c2)), fun j => by simp [go_sem, h.fz j]⟩

structure LV (T0 : Array Value) (ds : List Nat) (wr : World) (tab : Nat → Option Value) (v0 v1 v2 : Value) (p : Nat) (L : Array Bool) (a : Act) (w : World) : Prop where
  sl : Sl2 T0 ds tab L a
  wd : Below wr.heap.size wr w
  bx : L.getD 9 false = true → ∃ fb, a.eval (.tmp p) = .pointer (some ⟨fb, 0, none⟩) ∧ wr.heap.size ≤ fb ∧ (L.getD 10 false = false → LBox fb (.int .u8 0) (.string ⟨#[]⟩) (.string ⟨#[]⟩) w) ∧ (L.getD 10 false = true → LBox fb v0 v1 v2 w)
section
variable {T0 : Array Value} {ds : List Nat} {wr : World} {tab : Nat → Option Value} {v0 v1 v2 : Value} {p : Nat} {L : Array Bool} {a : Act} {w w' : World}
theorem LV.step (h : LV T0 ds wr tab v0 v1 v2 p L a w) (nd : ds.Nodup) {i : Nat} {v : Value} (hi : i < ds.length) (hd : ds[i] < T0.size) (h9 : i ≠ 9) (h10 : i ≠ 10) (hp : ds[i] ≠ p) (ht : tab i = some v) (hb : Below w.heap.size w w') :
    LV T0 ds wr tab v0 v1 v2 p (L.setIfInBounds i true) (a.put (some ds[i]) v) w' := by
  refine ⟨h.sl.put nd hi hd (fun u hu => by rw [ht] at hu; cases hu; rfl), h.wd.trans (hb.mono h.wd.size), fun hL => ?_⟩
  rw [getD_set_ne false h9] at hL
  obtain ⟨fb, e1, e2, e3, e4⟩ := h.bx hL
  refine ⟨fb, ?_, e2, fun h => ?_, fun h => ?_⟩
  · rw [Act.eval_put (fun d hd' => by cases hd'; intro e'; injection e' with e'; exact hp e'.symm)]
    exact e1
  · rw [getD_set_ne false h10] at h
    exact (e3 h).later hb
  · rw [getD_set_ne false h10] at h
    exact (e4 h).later hb
theorem LV.box {t : TypeId} (hi : 9 < ds.length) (h : LV T0 ds wr tab v0 v1 v2 ds[9] L a w) (nd : ds.Nodup) (hd : ds[9] < T0.size) (ht : tab 9 = none) (h10 : L.getD 10 false = false) :
    LV T0 ds wr tab v0 v1 v2 ds[9] (L.setIfInBounds 9 true) (a.put (some ds[9]) (.pointer (some ⟨w.heap.size, 0, none⟩))) (w.alloc (.cells #[.int .u8 0, .string ⟨#[]⟩, .string ⟨#[]⟩] t)) := by
  refine ⟨h.sl.put nd hi hd (fun u hu => by rw [ht] at hu; cases hu), h.wd.alloc h.wd.size _, fun _ => ⟨w.heap.size, ?_, h.wd.size, fun _ => ?_, fun h' => ?_⟩⟩
  · show ((a.tmps.setIfInBounds ds[9] _).getD ds[9] undef) = _
    rw [Array.getD_eq_getD_getElem?, Array.getElem?_setIfInBounds_self_of_lt (by rw [h.sl.sz]; exact hd)]
    rfl
  · exact ⟨by simp, by simp, by simp, fun j => by simp⟩
  · rw [getD_set_ne false (by omega), h10] at h'
    cases h'
theorem LV.store {fb : Nat} (h : LV T0 ds wr tab v0 v1 v2 p L a w) (ht : tab 10 = none) (e1 : a.eval (.tmp p) = .pointer (some ⟨fb, 0, none⟩)) (e2 : wr.heap.size ≤ fb) {u0 u1 u2 : Value} (e3 : LBox fb u0 u1 u2 w) (hL : L.getD 10 true = false) :
    LV T0 ds wr tab v0 v1 v2 p (L.setIfInBounds 10 true) a (((w.setCell ⟨fb, 0, none⟩ v0).setCell ⟨fb, 1, none⟩ v1).setCell ⟨fb, 2, none⟩ v2) := by
  refine ⟨h.sl.skip ht, ((h.wd.setCell (p := ⟨fb, 0, none⟩) e2 _).setCell (p := ⟨fb, 1, none⟩) e2 _).setCell (p := ⟨fb, 2, none⟩) e2 _, fun _ => ⟨fb, e1, e2, fun h' => ?_, fun _ => e3.set _ _ _⟩⟩
  have h1 := getD_false hL
  have h2 : 10 < L.size := by simpa using (List.getElem?_eq_some_iff.1 h1).1
  rw [Array.getD_eq_getD_getElem?, Array.getElem?_setIfInBounds_self_of_lt h2] at h'
  cases h'
end
def lTab (v1 : Value) (k : Nat) (p2 x3 v4 p6 : Value) (s : ByteArray) (r : Value) : Nat → Option Value
  | 0 => some v1
  | 1 => some (.int .i64 k)
  | 2 => some p2
  | 3 => some x3
  | 4 => some v4
  | 5 => some (.int .i64 k)
  | 6 => some p6
  | 7 => some (.string s)
  | 8 => some r
  | _ => none
theorem RdR.len {w : Nat} : ∀ {ps : List (List UInt8)} {last : ByteArray} {ds : List DL}, RdR w last ps ds → ds.length = ps.length
  | [], _, _, h => by rw [show _ = [] from h]; rfl
  | p :: ps, _, _, ⟨d, r, e1, _, _, _, e5⟩ => by rw [e1, List.length_cons, List.length_cons, e5.len]
section
variable {there : Bool} {text : ByteArray} {wd : Nat} {l : DL}
theorem ansN_none : ansOf there text wd (some none) = if there then ⟨2, false, false⟩ else ⟨0, false, false⟩ := rfl
theorem ansN_some (h : isFd l = false) : ansOf there text wd (some (some l)) = if there then ⟨2, false, false⟩ else ⟨0, false, false⟩ := by
  unfold ansOf
  simp only [h]
  rfl
theorem ansF_no (ht : there = false) (h : isFd l = true) : ansOf there text wd (some (some l)) = ⟨2, false, false⟩ := by
  unfold ansOf
  simp only [h, ht]
  rfl
theorem ansF_bad (h : isFd l = true) (hx : (hexL (sumStr (ffB ++ text).data.toList wd).data.toList == l.dig.data.toList) = false) : ansOf there text wd (some (some l)) = ⟨2, false, false⟩ := by
  unfold ansOf
  simp only [h, hx, Bool.and_false]
  rfl
theorem ansF_yes (ht : there = true) (h : isFd l = true) (hx : (hexL (sumStr (ffB ++ text).data.toList wd).data.toList == l.dig.data.toList) = true) : ansOf there text wd (some (some l)) = ⟨0, true, l.kind == 120⟩ := by
  unfold ansOf
  simp only [h, hx, ht, Bool.and_true]
  rfl
end
def CutF (v0 v1 v2 : Value) (wr : World) (pv : Value) (wx : World) : Prop := ∃ fb, pv = .pointer (some ⟨fb, 0, none⟩) ∧ LBox fb v0 v1 v2 wx ∧ wr.heap.size ≤ fb ∧ Below wr.heap.size wr wx
end Go.Proofs.YtlgdfeacnalekaaDoor
