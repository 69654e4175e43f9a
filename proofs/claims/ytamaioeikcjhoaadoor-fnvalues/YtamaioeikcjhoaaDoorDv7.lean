/-
  Values that are spoilt: spec.l2Spoil.
-/
import Derived.Test.YtamaioeikcjhoaaDoorDv6
namespace Go.Proofs.YtamaioeikcjhoaaDoor
open Go.RowKit

theorem SB.done {g : Nat} {a : Option Addr} {cap : Nat} {zs : List Int} {W w2 : World} {p0 p K N M rb gs n cs : Nat} {ts : List At} (hrd : Rd w2 g a cap zs p) (hgr : W.grownBy w2 (some g)) (hlt : g < W.heap.size) (hrb : W.heap.size ≤ rb) (hne : gs ≠ rb) (hal : AL W.heap.size w2 (some ⟨gs, 0, none⟩) ts) (hn : n = ts.length) (hok : AOk N M ts) (hp : p ≤ p0 + K) : DrL g a cap zs W p0 K N M (.returned (.agg #[.slice (some ⟨gs, 0, none⟩) n cs])) (w2.setCell ⟨rb, 0, none⟩ (.slice (some ⟨gs, 0, none⟩) n cs)) := by
  subst hn
  exact ⟨some ⟨gs, 0, none⟩, cs, ts, rfl, hal.grown (dk_set w2 rb 0 _) (fun g' h1 _ _ e => by cases h1; cases e; exact hne rfl), hok, ⟨p, hp, hrd.kept (dk_set w2 rb 0 _) (fun k hk => by cases hk; omega)⟩, gr_own hgr (dk_set w2 rb 0 _) (fun j e => by cases e; exact hrb)⟩
theorem set4_gr (w : World) (g o : Nat) (v0 v1 v2 v3 : Value) : w.grownBy (set4 w g o v0 v1 v2 v3) (some g) :=
  gr_trans (gr_trans (gr_trans (dk_set w g o v0) (dk_set _ g (o + 1) v1)) (dk_set _ g (o + 2) v2)) (dk_set _ g (o + 3) v3)
/-- The atom is put back: what stands then. -/
theorem SB.put {g : Nat} {a : Option Addr} {cap : Nat} {zs : List Int} {W wr : World} {p p0 K N M rb vb xb gs cs k : Nat} {ys : List At} {x : At} (h : SB g a cap zs W wr p rb vb xb (.slice (some ⟨gs, 0, none⟩) ys.length cs) ys x) (hk : k < ys.length) (hok : AOk N M ys) (hx : -9223372036854775808 ≤ x.n ∧ x.n < 9223372036854775808) (hp : p ≤ p0 + K) :
    (set4 wr gs (k * 4) (.int .i64 x.kind) (.int .i64 x.n) (.string x.text) (.int .i64 x.kids)).cell? ⟨vb, 0, none⟩ = some (.slice (some ⟨gs, 0, none⟩) ys.length cs) ∧ (set4 wr gs (k * 4) (.int .i64 x.kind) (.int .i64 x.n) (.string x.text) (.int .i64 x.kids)).cell? ⟨rb, 0, none⟩ = some (.slice none 0 0) ∧ (set4 wr gs (k * 4) (.int .i64 x.kind) (.int .i64 x.n) (.string x.text) (.int .i64 x.kids)).frozen? ⟨rb, 0, none⟩ = false ∧ DrL g a cap zs W p0 K N (M + x.text.size) (.returned (.agg #[.slice (some ⟨gs, 0, none⟩) ys.length cs])) ((set4 wr gs (k * 4) (.int .i64 x.kind) (.int .i64 x.n) (.string x.text) (.int .i64 x.kids)).setCell ⟨rb, 0, none⟩ (.slice (some ⟨gs, 0, none⟩) ys.length cs)) := by
  obtain ⟨n1, n2, n3⟩ := h.own gs rfl
  have hG := set4_gr wr gs (k * 4) (.int .i64 x.kind) (.int .i64 x.n) (.string x.text) (.int .i64 x.kids)
  have hgs : W.heap.size ≤ gs := owns_base h.row gs rfl
  refine ⟨(hG.cell_far ⟨vb, 0, none⟩ (lt_of_cellR h.c) (by simp; omega)).trans h.c, (hG.cell_far ⟨rb, 0, none⟩ (lt_of_cellR h.r) (by simp; omega)).trans h.r, (hG.frozen_far ⟨rb, 0, none⟩ (lt_of_cellR h.r) (by simp; omega)).trans h.rf, ?_⟩
  exact SB.done (h.rd.kept hG (fun j e => by cases e; have := h.lt; omega)) (gr_own h.gr hG (fun j e => by cases e; exact hgs)) h.lt h.low.1 n1 (al_set4 h.row rfl hk) (by rw [List.length_set]) (hok.set hx) hp

/-- The atoms were appended to, and are stored: what stands then. -/
theorem SB.fin {g : Nat} {a : Option Addr} {cap : Nat} {zs : List Int} {W wr w3 : World} {p p0 K N M rb vb xb n cs : Nat} {v : Value} {ad : Option Addr} {ys us : List At} {x : At} (h : SB g a cap zs W wr p rb vb xb v ys x) (hg : wr.grownBy w3 v.ownBlock) (hown : w3.ownsRow W.heap.size 66 4 (.slice ad n cs) n (acells us)) (hn : n = us.length) (hat : (Value.slice ad n cs).ownBlock = v.ownBlock ∨ (Value.slice ad n cs).ownBlock = some wr.heap.size) (hok : AOk N M us) (hp : p ≤ p0 + K) :
    (w3.setCell ⟨vb, 0, none⟩ (.slice ad n cs)).cell? ⟨vb, 0, none⟩ = some (.slice ad n cs) ∧ (w3.setCell ⟨vb, 0, none⟩ (.slice ad n cs)).cell? ⟨rb, 0, none⟩ = some (.slice none 0 0) ∧ (w3.setCell ⟨vb, 0, none⟩ (.slice ad n cs)).frozen? ⟨rb, 0, none⟩ = false ∧ DrL g a cap zs W p0 K N M (.returned (.agg #[.slice ad n cs])) ((w3.setCell ⟨vb, 0, none⟩ (.slice ad n cs)).setCell ⟨rb, 0, none⟩ (.slice ad n cs)) := by
  subst hn
  obtain ⟨m1, m2⟩ := h.mid hg
  have hl := h.low
  have hrl : rb < wr.heap.size := lt_of_cellR h.r
  have hvl : vb < wr.heap.size := lt_of_cellR h.c
  have m3 : w3.cell? ⟨rb, 0, none⟩ = some (.slice none 0 0) := (hg.cell_far ⟨rb, 0, none⟩ hrl (fun e => (h.own rb e.symm).1 rfl)).trans h.r
  have m4 : w3.frozen? ⟨rb, 0, none⟩ = false := (hg.frozen_far ⟨rb, 0, none⟩ hrl (fun e => (h.own rb e.symm).1 rfl)).trans h.rf
  have hno : ∀ j, (Value.slice ad us.length cs).ownBlock = some j → j ≠ rb ∧ j ≠ vb := fun j e => by
    rcases hat with h' | h'
    · rw [h'] at e; exact ⟨(h.own j e).1, (h.own j e).2.1⟩
    · rw [h'] at e; cases e; omega
  have hrd3 : Rd w3 g a cap zs p := h.rd.kept hg (fun k hk => by have := owns_base h.row k hk; have := h.lt; omega)
  have hG3 : W.grownBy w3 (some g) := gr_own h.gr hg (fun j e => owns_base h.row j e)
  have hrow4 : ((w3.setCell ⟨vb, 0, none⟩ (.slice ad us.length cs)).setCell ⟨rb, 0, none⟩ (.slice ad us.length cs)).ownsRow W.heap.size 66 4 (.slice ad us.length cs) us.length (acells us) := (hown.kept (dk_set w3 vb 0 _) (Or.inr (fun e => (hno vb e).2 rfl))).kept (dk_set _ rb 0 _) (Or.inr (fun e => (hno rb e).1 rfl))
  refine ⟨World.cell?_setCell_same _ _ _ m1, (World.cell?_setCell_other _ _ _ _ (by intro e; injection e with e; omega)).trans m3, (World.frozen?_setCell _ _ _ _).trans m4, ad, cs, us, rfl, al_of_row hrow4, hok, ⟨p, hp, (hrd3.kept (dk_set w3 vb 0 _) (fun k hk => by cases hk; have := h.lt; omega)).kept (dk_set _ rb 0 _) (fun k hk => by cases hk; have := h.lt; omega)⟩, gr_own (gr_own hG3 (dk_set w3 vb 0 _) (fun j e => by cases e; omega)) (dk_set _ rb 0 _) (fun j e => by cases e; omega)⟩

theorem lit3I (q : Nat) (hq : q < 3) : ∃ c : Int, -9223372036854775808 ≤ c ∧ c < 9223372036854775808 ∧ (#[.int .i64 2, .int .i64 (-1), .int .i64 1] : Array Value)[q]? = some (.int .i64 c) := by
  match q, hq with
  | 0, _ => exact ⟨_, by omega, by omega, rfl⟩
  | 1, _ => exact ⟨_, by omega, by omega, rfl⟩
  | 2, _ => exact ⟨_, by omega, by omega, rfl⟩
theorem lit3S (q : Nat) (hq : q < 3) (t : ByteArray) (ht : t.size ≤ 1501) : ∃ c : ByteArray, c.size ≤ 1501 ∧ (#[.string ⟨#[]⟩, .string ⟨#[116]⟩, .string t] : Array Value)[q]? = some (.string c) := by
  match q, hq with
  | 0, _ => exact ⟨_, by show 0 ≤ 1501; omega, rfl⟩
  | 1, _ => exact ⟨_, by show 1 ≤ 1501; omega, rfl⟩
  | 2, _ => exact ⟨_, ht, rfl⟩

set_option maxRecDepth 20000 in
set_option maxHeartbeats 2000000 in
theorem spoilV_any (g : Nat) (a : Option Addr) (cap : Nat) (zs : List Int) (p : Nat) (gv cv : Nat) (ts : List At) (W : World) (h : Rd W g a cap zs p) (hp : p ≤ 1000000) (hAS : AS W (some ⟨gv, 0, none⟩) ts) (hpos : 0 < ts.length) (hok : AOk 301 102000 ts) :
    Calls Tryd.prog 24 #[.pointer (some ⟨g, 0, none⟩), .agg #[.slice (some ⟨gv, 0, none⟩) ts.length cv]] W fun e w' => DrL g a cap zs W p 4 302 205000 e w' := by
  obtain ⟨i0, hi, hz0, hz1, hzb⟩ := info_parts Tryd.infoAtom
  have hgW : g < W.heap.size := h.lt
  have hN := hok.1
  have hb3 : Below W.heap.size W (((W.alloc (.cells #[.slice (some ⟨gv, 0, none⟩) ts.length cv] 24)).alloc (.cells #[.slice none 0 0] 24)).alloc (.cells #[] 66)) := (((Below.refl _ _).alloc (Nat.le_refl _) _).alloc (by simp) _).alloc (by simp; omega) _
  have hown0 : (((W.alloc (.cells #[.slice (some ⟨gv, 0, none⟩) ts.length cv] 24)).alloc (.cells #[.slice none 0 0] 24)).alloc (.cells #[] 66)).ownsRow (W.heap.size + 2) 66 4 (.slice (some ⟨W.heap.size + 1 + 1, 0, none⟩) 0 0) 0 (acells []) := by simpa using own_noneA ((W.alloc (.cells #[.slice (some ⟨gv, 0, none⟩) ts.length cv] 24)).alloc (.cells #[.slice none 0 0] 24)) (W.heap.size + 2) (by simp)
  have m0 : (((W.alloc (.cells #[.slice (some ⟨gv, 0, none⟩) ts.length cv] 24)).alloc (.cells #[.slice none 0 0] 24)).alloc (.cells #[] 66)).cell? ⟨W.heap.size, 0, none⟩ = some (.slice (some ⟨gv, 0, none⟩) ts.length cv) := by simp [go_sem]
  have k0 : (((W.alloc (.cells #[.slice (some ⟨gv, 0, none⟩) ts.length cv] 24)).alloc (.cells #[.slice none 0 0] 24)).alloc (.cells #[] 66)).cell? ⟨W.heap.size + 1, 0, none⟩ = some (.slice none 0 0) := by simp [go_sem]
  have kf : (((W.alloc (.cells #[.slice (some ⟨gv, 0, none⟩) ts.length cv] 24)).alloc (.cells #[.slice none 0 0] 24)).alloc (.cells #[] 66)).frozen? ⟨W.heap.size + 1, 0, none⟩ = false := by simp [go_sem]
  have hnw : ∀ j u, (acells ts)[j]? = some u → (((W.alloc (.cells #[.slice (some ⟨gv, 0, none⟩) ts.length cv] 24)).alloc (.cells #[.slice none 0 0] 24)).alloc (.cells #[] 66)).cell? (Addr.add ⟨gv, 0, none⟩ j) = some u := by
    intro j u hj
    rw [Go.WideShapes.add_plain, Nat.zero_add]
    refine cell_later hb3 ?_
    have hl : j < ts.length * 4 := by
      rw [← acells_len]
      rcases Nat.lt_or_ge j (acells ts).length with h' | h'
      · exact h'
      · rw [List.getElem?_eq_none h'] at hj; cases hj
    rcases hAS with h0 | ⟨b, off, hb, hc⟩
    · rw [h0] at hpos; simp at hpos
    · cases hb
      have hq : j / 4 < ts.length := by omega
      obtain ⟨y0, y1, y2, y3⟩ := hc (j / 4) hq
      obtain ⟨z0, z1, z2, z3⟩ := acells_at ts (j / 4) hq
      rcases (show j = j / 4 * 4 ∨ j = j / 4 * 4 + 1 ∨ j = j / 4 * 4 + 2 ∨ j = j / 4 * 4 + 3 by omega) with e | e | e | e
      · rw [e, z0] at hj; rw [e, ← hj, ← y0, Nat.zero_add]
      · rw [e, z1] at hj; rw [e, ← hj, ← y1, Nat.zero_add]
      · rw [e, z2] at hj; rw [e, ← hj, ← y2, Nat.zero_add]
      · rw [e, z3] at hj; rw [e, ← hj, ← y3, Nat.zero_add]
  have hlen := acells_len ts
  have hone := acells_one ts
  go_enter Tryd.func24, Tryd.ntmps24
  go_upto_region 2 with (first | (at_builtin; refine wpList_append_lies _ rfl _ _ 22 rfl (W.heap.size + 2) 66 i0 _ 4 40 Tryd.underlying22 hi hz0 hz1 hzb rfl (by decide) (.slice (some ⟨W.heap.size + 1 + 1, 0, none⟩) 0 0) 0 (acells []) rfl hown0 ⟨gv, 0, none⟩ ts.length cv (acells ts) rfl hlen hnw hone hpos (by unfold maxLen; omega) (by omega) (by simp) _ rfl ?_; intro g3 cap3 w3 hown3 hgrow3 hat3 hlt3))
  have hbW : Below W.heap.size W w3 := hb3.grown hgrow3 hb3.size (fun j e => by cases e; show W.heap.size ≤ W.heap.size + 1 + 1; omega)
  have hne3 : ∀ j, (Value.slice (some ⟨W.heap.size + 1 + 1, 0, none⟩) 0 0).ownBlock = some j → j = W.heap.size + 2 := fun j e => by simpa [Value.ownBlock] using e.symm
  have kk := (hgrow3.cell_far ⟨W.heap.size + 1, 0, none⟩ (by simp) (fun e => by have h1 : W.heap.size + 1 = W.heap.size + 2 := hne3 _ e.symm; omega)).trans k0
  have kkf := (hgrow3.frozen_far ⟨W.heap.size + 1, 0, none⟩ (by simp) (fun e => by have h1 : W.heap.size + 1 = W.heap.size + 2 := hne3 _ e.symm; omega)).trans kf
  have hg3lo : W.heap.size + 2 ≤ g3 := owns_base hown3 g3 rfl
  have hown3' : w3.ownsRow W.heap.size 66 4 (.slice (some ⟨g3, 0, none⟩) ts.length cap3) ts.length (acells ts) := by
    have := dk_low hown3 (base' := W.heap.size) (by omega)
    simpa [acells] using this
  have hal3 : Below w3.heap.size w3 (w3.alloc (.cells #[.slice (some ⟨g3, 0, none⟩) ts.length cap3] 24)) := (Below.refl _ _).alloc (Nat.le_refl _) _
  have hrow4 := owns_below hown3' hal3
  have hRd4 := (h.below hbW).below hal3
  have hG4 : W.grownBy (w3.alloc (.cells #[.slice (some ⟨g3, 0, none⟩) ts.length cap3] 24)) (some g) := gr_below (hbW.trans (hal3.mono hbW.size))
  have c4 : (w3.alloc (.cells #[.slice (some ⟨g3, 0, none⟩) ts.length cap3] 24)).cell? ⟨w3.heap.size, 0, none⟩ = some (.slice (some ⟨g3, 0, none⟩) ts.length cap3) := by simp
  have f4 : (w3.alloc (.cells #[.slice (some ⟨g3, 0, none⟩) ts.length cap3] 24)).frozen? ⟨w3.heap.size, 0, none⟩ = false := by simp
  have hk3 : W.heap.size + 1 < w3.heap.size := lt_of_cellR kk
  have r4 := cell_later hal3 kk
  have rf4 := (hal3.frozen (p := ⟨W.heap.size + 1, 0, none⟩) hk3).trans kkf
  clear hown0 m0 k0 kf hnw hlen hone hb3 hown3 hgrow3 hat3 hne3 kk kkf hown3' hal3 hbW h hAS
  generalize w3.alloc (.cells #[.slice (some ⟨g3, 0, none⟩) ts.length cap3] 24) = w4 at *
  generalize w3.heap.size = vb at *
  obtain ⟨rb, hrb⟩ : ∃ rb, W.heap.size + 1 = rb := ⟨_, rfl⟩
  rw [hrb] at r4 rf4 ⊢
  have hrb2 : W.heap.size ≤ rb ∧ rb < vb ∧ rb < g3 := by omega
  have HGV : RKeep (g3 < vb) := ⟨hlt3⟩
  have HR : RKeep (W.heap.size + 1 = rb) := ⟨hrb⟩
  clear hrb hg3lo hk3
  have hpk := pick_any g a cap zs p ts.length w4 hRd4 (by omega) (by omega) (by omega)
  go_wp2_with fail
  refine hpk.mono ?_
  rintro e w5 ⟨k, rfl, hk, hg5, hR5⟩
  clear hpk
  have hkl : (k : Int) < ts.length := by omega
  have c5 := (hg5.cell_far ⟨vb, 0, none⟩ (lt_of_cellR c4) (by simp; omega)).trans c4
  have f5 := (hg5.frozen_far ⟨vb, 0, none⟩ (lt_of_cellR c4) (by simp; omega)).trans f4
  have r5 := (hg5.cell_far ⟨rb, 0, none⟩ (lt_of_cellR r4) (by simp; omega)).trans r4
  have rf5 := (hg5.frozen_far ⟨rb, 0, none⟩ (lt_of_cellR r4) (by simp; omega)).trans rf4
  have hrow5 := owns_rd hrow4 hg5 hgW
  have hG5 := gr_trans hG4 hg5
  obtain ⟨z0, z1, z2, z3⟩ := acells_at ts k hk
  have q0 := (hrow5.cellAt (k * 4) (by omega)).trans z0
  have q1 := (hrow5.cellAt (k * 4 + 1) (by omega)).trans z1
  have q2 := (hrow5.cellAt (k * 4 + 2) (by omega)).trans z2
  have q3 := (hrow5.cellAt (k * 4 + 3) (by omega)).trans z3
  clear z0 z1 z2 z3 c4 f4 r4 rf4 hrow4 hG4 hg5 hRd4
  have hS : SB g a cap zs W (w5.alloc (.cells #[.int .i64 ts[k].kind, .int .i64 ts[k].n, .string ts[k].text, .int .i64 ts[k].kids] 66)) (p + 1) rb vb w5.heap.size (.slice (some ⟨g3, 0, none⟩) ts.length cap3) ts ts[k] := by
    have hA : Below w5.heap.size w5 (w5.alloc (.cells #[.int .i64 ts[k].kind, .int .i64 ts[k].n, .string ts[k].text, .int .i64 ts[k].kids] 66)) := (Below.refl _ _).alloc (Nat.le_refl _) _
    have hvl : vb < w5.heap.size := lt_of_cellR c5
    have hgl : g3 < w5.heap.size := own_lt hrow5 rfl
    refine ⟨hR5.below hA, gr_trans hG5 (gr_below hA), hgW, cell_later hA c5, (hA.frozen (p := ⟨vb, 0, none⟩) hvl).trans f5, cell_later hA r5, (hA.frozen (p := ⟨rb, 0, none⟩) (lt_of_cellR r5)).trans rf5, by simp, by simp, by simp, by simp, fun j => by simp, owns_below hrow5 hA, ⟨hrb2.1, hrb2.2.1, hvl⟩, fun j e => ?_⟩
    have : g3 = j := by simpa [Value.ownBlock] using e
    have := HGV.out
    omega
  have hxn := hok.2.2 ts[k] (List.getElem_mem hk)
  have hxt : ts[k].text.size ≤ 102000 := by have h1 := size_le_totalA ts ts[k] (List.getElem_mem hk); have h2 := hok.2.1; omega
  go_upto_region 4 with fail
  clear q0 q1 q2 q3 c5 f5 r5 rf5 hrow5 hG5 hR5 HGV
  generalize w5.alloc (.cells #[.int .i64 ts[k].kind, .int .i64 ts[k].n, .string ts[k].text, .int .i64 ts[k].kids] 66) = w6 at *
  generalize w5.heap.size = xb at *
  obtain ⟨x, hx⟩ : ∃ x, ts[k] = x := ⟨_, rfl⟩
  rw [hx] at hS hxn hxt
  have HX : RKeep (ts[k] = x) := ⟨hx⟩
  clear hx
  have hpk := pick_any g a cap zs (p + 1) 7 w6 hS.rd (by omega) (by omega) (by omega)
  go_wp2_with fail
  refine hpk.mono ?_
  rintro e w7 ⟨y, rfl, hy, hg7, hR7⟩
  have hS7 := hS.call hg7 hR7
  clear hpk hS hg7 hR7
  have HOK := RKeep.mk hok
  clear hok
  by_cases y0 : y = 0
  · subst y0
    have hpk := pick_any g a cap zs (p + 1 + 1) 8 w7 hS7.rd (by omega) (by omega) (by omega)
    go_wp2_with fail
    refine hpk.mono ?_
    rintro e w8 ⟨z, rfl, hz, hg8, hR8⟩
    have hS8 := hS7.call hg8 hR8
    have hw8 : IntKind.i64.wrap ((z : Int) - 1) = (z : Int) - 1 := by rw [IntKind.wrap_i64]; omega
    have hD0 := hS8.setK ((z : Int) - 1)
    have xx := hS8.x0
    have xxf := hS8.xf
    clear hpk hS7 hg8 hR8 hS8
    obtain ⟨x9, hx9⟩ : ∃ x9 : At, x9 = ⟨(z : Int) - 1, x.n, x.text, x.kids⟩ := ⟨_, rfl⟩
    have HXN : RKeep (-9223372036854775808 ≤ x9.n ∧ x9.n < 9223372036854775808) := ⟨by rw [hx9]; exact hxn⟩
    have HXT : RKeep (x9.text.size ≤ 102000) := ⟨by rw [hx9]; exact hxt⟩
    have hD : SB g a cap zs W (w8.setCell ⟨xb, 0, none⟩ (.int .i64 ((z : Int) - 1))) (p + 1 + 1 + 1) rb vb xb (.slice (some ⟨g3, 0, none⟩) ts.length cap3) ts x9 := by rw [hx9]; exact hD0
    clear hx9 hD0 hxn hxt
    go_upto_region 26 with fail
    clear xx xxf
    generalize w8.setCell ⟨xb, 0, none⟩ (.int .i64 ((z : Int) - 1)) = wt at *
    have c := hD.c
    have xx0 := hD.x0
    have xx1 := hD.x1
    have xx2 := hD.x2
    have xx3 := hD.x3
    obtain ⟨kv, kr, krf, hP⟩ := hD.put (p0 := p) (K := 4) (N := 302) (M := 102000) hk (HOK.out.mono (by omega) (Nat.le_refl _)) HXN.out (by omega)
    have HP0 : RKeep (DrL g a cap zs W p 4 302 205000 (.returned (.agg #[.slice (some ⟨g3, 0, none⟩) ts.length cap3])) ((set4 wt g3 (k * 4) (.int .i64 (x9).kind) (.int .i64 (x9).n) (.string (x9).text) (.int .i64 (x9).kids)).setCell ⟨rb, 0, none⟩ (.slice (some ⟨g3, 0, none⟩) ts.length cap3))) := ⟨by obtain ⟨ad, cs, us, e1, e2, e3, e4⟩ := hP; exact ⟨ad, cs, us, e1, e2, e3.mono (Nat.le_refl _) (by have := HXT.out; omega), e4⟩⟩
    obtain ⟨z0, z1, z2, z3⟩ := acells_at ts k hk
    have q0 := (hD.row.cellAt (k * 4) (by omega)).trans z0
    have q1 := (hD.row.cellAt (k * 4 + 1) (by omega)).trans z1
    have q2 := (hD.row.cellAt (k * 4 + 2) (by omega)).trans z2
    have q3 := (hD.row.cellAt (k * 4 + 3) (by omega)).trans z3
    have qf := fun j => hD.row.frozenAt j
    clear hP hD z0 z1 z2 z3
    unfold set4 at kv kr krf HP0
    go_upto_region 27 with fail
    clear q0 q1 q2 q3 qf xx0 xx1 xx2 xx3 c
    generalize (((wt.setCell ⟨g3, k * 4, none⟩ (.int .i64 (x9).kind)).setCell ⟨g3, k * 4 + 1, none⟩ (.int .i64 (x9).n)).setCell ⟨g3, k * 4 + 2, none⟩ (.string (x9).text)).setCell ⟨g3, k * 4 + 3, none⟩ (.int .i64 (x9).kids) = wu at *
    have kz : (wu.setCell ⟨rb, 0, none⟩ (.slice (some ⟨g3, 0, none⟩) ts.length cap3)).cell? ⟨rb, 0, none⟩ = some (.slice (some ⟨g3, 0, none⟩) ts.length cap3) := World.cell?_setCell_same _ _ _ kr
    go_wp2
    refine bodyPost_ret (v := .agg #[.slice (some ⟨g3, 0, none⟩) ts.length cap3]) ?_ rfl HP0.out
    go_light
    simp [results, Tryd.results24, go_sem, kz]
  have hB0 : ((y : Int) == 0) = false := by simpa using (show ¬ (y : Int) = 0 by omega)
  by_cases y1 : y = 1
  · subst y1
    have hbT : Below w7.heap.size w7 (w7.alloc (.cells #[.int .i64 2, .int .i64 (-1), .int .i64 1] 2)) := (Below.refl _ _).alloc (Nat.le_refl _) _
    have hST := hS7.below hbT
    have hpk := pick_any g a cap zs (p + 1 + 1) 3 (w7.alloc (.cells #[.int .i64 2, .int .i64 (-1), .int .i64 1] 2)) hST.rd (by omega) (by omega) (by omega)
    go_wp2_with fail
    refine hpk.mono ?_
    rintro e w8 ⟨z, rfl, hz, hg8, hR8⟩
    have hS8 := hST.call hg8 hR8
    obtain ⟨c, hc1, hc2, hc3⟩ := lit3I z hz
    have hgw : g < w7.heap.size := hS7.rd.lt
    have hcell : w8.cell? ⟨w7.heap.size, z, none⟩ = some (.int .i64 c) := hg8.cell (a := ⟨w7.heap.size, z, none⟩) ((World.cell?_alloc_new w7 _ _ z).trans hc3) (by simp; omega)
    have hD0 := hS8.setN c
    have xx := hS8.x1
    have xxf := hS8.xf
    clear hpk hS7 hg8 hR8 hS8 hST hbT hc3
    generalize w7.heap.size = k7 at *
    obtain ⟨x9, hx9⟩ : ∃ x9 : At, x9 = ⟨x.kind, c, x.text, x.kids⟩ := ⟨_, rfl⟩
    have HXN : RKeep (-9223372036854775808 ≤ x9.n ∧ x9.n < 9223372036854775808) := ⟨by rw [hx9]; exact ⟨hc1, hc2⟩⟩
    have HXT : RKeep (x9.text.size ≤ 102000) := ⟨by rw [hx9]; exact hxt⟩
    have hD : SB g a cap zs W (w8.setCell ⟨xb, 1, none⟩ (.int .i64 c)) (p + 1 + 1 + 1) rb vb xb (.slice (some ⟨g3, 0, none⟩) ts.length cap3) ts x9 := by rw [hx9]; exact hD0
    clear hx9 hD0 hxn hxt
    go_upto_region 26 with fail
    clear xx xxf hcell
    generalize w8.setCell ⟨xb, 1, none⟩ (.int .i64 c) = wt at *
    have cc := hD.c
    have xx0 := hD.x0
    have xx1 := hD.x1
    have xx2 := hD.x2
    have xx3 := hD.x3
    obtain ⟨kv, kr, krf, hP⟩ := hD.put (p0 := p) (K := 4) (N := 302) (M := 102000) hk (HOK.out.mono (by omega) (Nat.le_refl _)) HXN.out (by omega)
    have HP0 : RKeep (DrL g a cap zs W p 4 302 205000 (.returned (.agg #[.slice (some ⟨g3, 0, none⟩) ts.length cap3])) ((set4 wt g3 (k * 4) (.int .i64 (x9).kind) (.int .i64 (x9).n) (.string (x9).text) (.int .i64 (x9).kids)).setCell ⟨rb, 0, none⟩ (.slice (some ⟨g3, 0, none⟩) ts.length cap3))) := ⟨by obtain ⟨ad, cs, us, e1, e2, e3, e4⟩ := hP; exact ⟨ad, cs, us, e1, e2, e3.mono (Nat.le_refl _) (by have := HXT.out; omega), e4⟩⟩
    obtain ⟨z0, z1, z2, z3⟩ := acells_at ts k hk
    have q0 := (hD.row.cellAt (k * 4) (by omega)).trans z0
    have q1 := (hD.row.cellAt (k * 4 + 1) (by omega)).trans z1
    have q2 := (hD.row.cellAt (k * 4 + 2) (by omega)).trans z2
    have q3 := (hD.row.cellAt (k * 4 + 3) (by omega)).trans z3
    have qf := fun j => hD.row.frozenAt j
    clear hP hD z0 z1 z2 z3
    unfold set4 at kv kr krf HP0
    go_upto_region 27 with fail
    clear q0 q1 q2 q3 qf xx0 xx1 xx2 xx3 cc
    generalize (((wt.setCell ⟨g3, k * 4, none⟩ (.int .i64 (x9).kind)).setCell ⟨g3, k * 4 + 1, none⟩ (.int .i64 (x9).n)).setCell ⟨g3, k * 4 + 2, none⟩ (.string (x9).text)).setCell ⟨g3, k * 4 + 3, none⟩ (.int .i64 (x9).kids) = wu at *
    have kz : (wu.setCell ⟨rb, 0, none⟩ (.slice (some ⟨g3, 0, none⟩) ts.length cap3)).cell? ⟨rb, 0, none⟩ = some (.slice (some ⟨g3, 0, none⟩) ts.length cap3) := World.cell?_setCell_same _ _ _ kr
    go_wp2
    refine bodyPost_ret (v := .agg #[.slice (some ⟨g3, 0, none⟩) ts.length cap3]) ?_ rfl HP0.out
    go_light
    simp [results, Tryd.results24, go_sem, kz]
  have hB1 : ((y : Int) == 1) = false := by simpa using (show ¬ (y : Int) = 1 by omega)
  by_cases y2 : y = 2
  · subst y2
    have hpk := pick_any g a cap zs (p + 1 + 1) 2 w7 hS7.rd (by omega) (by omega) (by omega)
    go_wp2_with fail
    refine hpk.mono ?_
    rintro e w8 ⟨z, rfl, hz, hg8, hR8⟩
    have hS8 := hS7.call hg8 hR8
    clear hpk hS7 hg8 hR8
    have hmany := many_any ⟨#[116]⟩ (1500 + z) w8 (by show 1 * (1500 + z) ≤ 1073741824; omega) (by omega) (by show 1 ≤ 1; omega) (by show 1 ≤ 1073741824; omega)
    rw [show ((1500 + z : Nat) : Int) = 1500 + (z : Int) by omega] at hmany
    go_wp2_with fail
    refine hmany.mono ?_
    rintro e wx ⟨o, rfl, hosz, rfl⟩
    have ho : o.size ≤ 1501 := by rw [hosz]; show 1 * (1500 + z) ≤ 1501; omega
    clear hmany hosz
    have hbT : Below w8.heap.size w8 (w8.alloc (.cells #[.string ⟨#[]⟩, .string ⟨#[116]⟩, .string o] 9)) := (Below.refl _ _).alloc (Nat.le_refl _) _
    have hST := hS8.below hbT
    have hpk := pick_any g a cap zs (p + 1 + 1 + 1) 3 (w8.alloc (.cells #[.string ⟨#[]⟩, .string ⟨#[116]⟩, .string o] 9)) hST.rd (by omega) (by omega) (by omega)
    go_wp2_with fail
    refine hpk.mono ?_
    rintro e w9 ⟨z2, rfl, hz2, hg9, hR9⟩
    have hS9 := hST.call hg9 hR9
    obtain ⟨c, hc1, hc3⟩ := lit3S z2 hz2 o ho
    have hgw : g < w8.heap.size := hS8.rd.lt
    have hcell : w9.cell? ⟨w8.heap.size, z2, none⟩ = some (.string c) := hg9.cell (a := ⟨w8.heap.size, z2, none⟩) ((World.cell?_alloc_new w8 _ _ z2).trans hc3) (by simp; omega)
    have hD0 := hS9.setT c
    have xx := hS9.x2
    have xxf := hS9.xf
    clear hpk hS8 hg9 hR9 hS9 hST hbT hc3
    generalize w8.heap.size = k7 at *
    obtain ⟨x9, hx9⟩ : ∃ x9 : At, x9 = ⟨x.kind, x.n, c, x.kids⟩ := ⟨_, rfl⟩
    have HXN : RKeep (-9223372036854775808 ≤ x9.n ∧ x9.n < 9223372036854775808) := ⟨by rw [hx9]; exact hxn⟩
    have HXT : RKeep (x9.text.size ≤ 102000) := ⟨by rw [hx9]; show c.size ≤ 102000; omega⟩
    have hD : SB g a cap zs W (w9.setCell ⟨xb, 2, none⟩ (.string c)) (p + 1 + 1 + 1 + 1) rb vb xb (.slice (some ⟨g3, 0, none⟩) ts.length cap3) ts x9 := by rw [hx9]; exact hD0
    clear hx9 hD0 hxn hxt
    go_upto_region 26 with fail
    clear xx xxf hcell
    generalize w9.setCell ⟨xb, 2, none⟩ (.string c) = wt at *
    have cc := hD.c
    have xx0 := hD.x0
    have xx1 := hD.x1
    have xx2 := hD.x2
    have xx3 := hD.x3
    obtain ⟨kv, kr, krf, hP⟩ := hD.put (p0 := p) (K := 4) (N := 302) (M := 102000) hk (HOK.out.mono (by omega) (Nat.le_refl _)) HXN.out (by omega)
    have HP0 : RKeep (DrL g a cap zs W p 4 302 205000 (.returned (.agg #[.slice (some ⟨g3, 0, none⟩) ts.length cap3])) ((set4 wt g3 (k * 4) (.int .i64 (x9).kind) (.int .i64 (x9).n) (.string (x9).text) (.int .i64 (x9).kids)).setCell ⟨rb, 0, none⟩ (.slice (some ⟨g3, 0, none⟩) ts.length cap3))) := ⟨by obtain ⟨ad, cs, us, e1, e2, e3, e4⟩ := hP; exact ⟨ad, cs, us, e1, e2, e3.mono (Nat.le_refl _) (by have := HXT.out; omega), e4⟩⟩
    obtain ⟨z0, z1, z2, z3⟩ := acells_at ts k hk
    have q0 := (hD.row.cellAt (k * 4) (by omega)).trans z0
    have q1 := (hD.row.cellAt (k * 4 + 1) (by omega)).trans z1
    have q2 := (hD.row.cellAt (k * 4 + 2) (by omega)).trans z2
    have q3 := (hD.row.cellAt (k * 4 + 3) (by omega)).trans z3
    have qf := fun j => hD.row.frozenAt j
    clear hP hD z0 z1 z2 z3
    unfold set4 at kv kr krf HP0
    go_upto_region 27 with fail
    clear q0 q1 q2 q3 qf xx0 xx1 xx2 xx3 cc
    generalize (((wt.setCell ⟨g3, k * 4, none⟩ (.int .i64 (x9).kind)).setCell ⟨g3, k * 4 + 1, none⟩ (.int .i64 (x9).n)).setCell ⟨g3, k * 4 + 2, none⟩ (.string (x9).text)).setCell ⟨g3, k * 4 + 3, none⟩ (.int .i64 (x9).kids) = wu at *
    have kz : (wu.setCell ⟨rb, 0, none⟩ (.slice (some ⟨g3, 0, none⟩) ts.length cap3)).cell? ⟨rb, 0, none⟩ = some (.slice (some ⟨g3, 0, none⟩) ts.length cap3) := World.cell?_setCell_same _ _ _ kr
    go_wp2
    refine bodyPost_ret (v := .agg #[.slice (some ⟨g3, 0, none⟩) ts.length cap3]) ?_ rfl HP0.out
    go_light
    simp [results, Tryd.results24, go_sem, kz]
  have hB2 : ((y : Int) == 2) = false := by simpa using (show ¬ (y : Int) = 2 by omega)
  by_cases y3 : y = 3
  · subst y3
    have hbD : Below w7.heap.size w7 w7.drew := (Below.refl _ _).drew
    have hSd := hS7.below hbD
    have hpk := pick_any g a cap zs (p + 1 + 1) 3 w7.drew hSd.rd (by omega) (by omega) (by omega)
    have xx3 := hS7.x3
    have xxf := hS7.xf
    go_upto_region 19 with fail
    go_region_law (first
      | (refine step_fn2V (by rfl) 23 _ _ _ _ (by rfl) (.pointer (some ⟨g, 0, none⟩)) (.int .i64 3) (by rfl) (by rfl) (fun _ => by kernel_rfl) hpk ?_; rintro e w8 ⟨z, rfl, hz, hg8, hR8⟩; refine ⟨_, rfl, ?_⟩; have hS8 := hSd.call hg8 hR8; have yy3 := hS8.x3; have yyf := hS8.xf))
    all_goals
      clear hpk hS7 hSd hbD hg8 hR8 xx3 xxf yy3 yyf
      generalize IntKind.i64.wrap (IntKind.i64.wrap (x.kids + (z : Int)) - 1) = qq at *
      have hD0 := hS8.setC qq
      clear hS8
      obtain ⟨x9, hx9⟩ : ∃ x9 : At, x9 = ⟨x.kind, x.n, x.text, qq⟩ := ⟨_, rfl⟩
      have HXN : RKeep (-9223372036854775808 ≤ x9.n ∧ x9.n < 9223372036854775808) := ⟨by rw [hx9]; exact hxn⟩
      have HXT : RKeep (x9.text.size ≤ 102000) := ⟨by rw [hx9]; exact hxt⟩
      have hD : SB g a cap zs W (w8.setCell ⟨xb, 3, none⟩ (.int .i64 qq)) (p + 1 + 1 + 1) rb vb xb (.slice (some ⟨g3, 0, none⟩) ts.length cap3) ts x9 := by rw [hx9]; exact hD0
      clear hx9 hD0 hxn hxt
      go_upto_region 26 with fail

      generalize w8.setCell ⟨xb, 3, none⟩ (.int .i64 qq) = wt at *
      have c := hD.c
      have xx0 := hD.x0
      have xx1 := hD.x1
      have xx2 := hD.x2
      have xx3 := hD.x3
      obtain ⟨kv, kr, krf, hP⟩ := hD.put (p0 := p) (K := 4) (N := 302) (M := 102000) hk (HOK.out.mono (by omega) (Nat.le_refl _)) HXN.out (by omega)
      have HP0 : RKeep (DrL g a cap zs W p 4 302 205000 (.returned (.agg #[.slice (some ⟨g3, 0, none⟩) ts.length cap3])) ((set4 wt g3 (k * 4) (.int .i64 (x9).kind) (.int .i64 (x9).n) (.string (x9).text) (.int .i64 (x9).kids)).setCell ⟨rb, 0, none⟩ (.slice (some ⟨g3, 0, none⟩) ts.length cap3))) := ⟨by obtain ⟨ad, cs, us, e1, e2, e3, e4⟩ := hP; exact ⟨ad, cs, us, e1, e2, e3.mono (Nat.le_refl _) (by have := HXT.out; omega), e4⟩⟩
      obtain ⟨z0, z1, z2, z3⟩ := acells_at ts k hk
      have q0 := (hD.row.cellAt (k * 4) (by omega)).trans z0
      have q1 := (hD.row.cellAt (k * 4 + 1) (by omega)).trans z1
      have q2 := (hD.row.cellAt (k * 4 + 2) (by omega)).trans z2
      have q3 := (hD.row.cellAt (k * 4 + 3) (by omega)).trans z3
      have qf := fun j => hD.row.frozenAt j
      clear hP hD z0 z1 z2 z3
      unfold set4 at kv kr krf HP0
      go_upto_region 27 with fail
      clear q0 q1 q2 q3 qf xx0 xx1 xx2 xx3 c
      generalize (((wt.setCell ⟨g3, k * 4, none⟩ (.int .i64 (x9).kind)).setCell ⟨g3, k * 4 + 1, none⟩ (.int .i64 (x9).n)).setCell ⟨g3, k * 4 + 2, none⟩ (.string (x9).text)).setCell ⟨g3, k * 4 + 3, none⟩ (.int .i64 (x9).kids) = wu at *
      have kz : (wu.setCell ⟨rb, 0, none⟩ (.slice (some ⟨g3, 0, none⟩) ts.length cap3)).cell? ⟨rb, 0, none⟩ = some (.slice (some ⟨g3, 0, none⟩) ts.length cap3) := World.cell?_setCell_same _ _ _ kr
      go_wp2
      refine bodyPost_ret (v := .agg #[.slice (some ⟨g3, 0, none⟩) ts.length cap3]) ?_ rfl HP0.out
      go_light
      simp [results, Tryd.results24, go_sem, kz]
  have hB3 : ((y : Int) == 3) = false := by simpa using (show ¬ (y : Int) = 3 by omega)
  by_cases y4 : y = 4
  · subst y4
    have hroom : ts.length ≤ cap3 := by
      rcases hS7.row.2 with ⟨h0, _⟩ | ⟨g', cap', cur, hv, _, _, h1, _⟩
      · cases h0
      · cases hv; exact h1
    obtain ⟨adB, nB, cB, HnB, hcutB, hnewB⟩ := cut_hiA g3 cap3 ts k hk hroom
    have hcutL := cut_loA g3 cap3 ts.length k (by omega) (by omega)
    have hSd := hS7.below (Below.refl _ _).drew
    have c := hS7.c
    have hwK : IntKind.i64.wrap ((k : Int) + 1) = (k : Int) + 1 := by rw [IntKind.wrap_i64]; omega
    have hW7 : W.heap.size ≤ w7.heap.size := hS7.gr.size
    have HA : RKeep (∀ ty, ∃ v' w', (Builtin.append_ #[22, 22] ty #[.slice (some ⟨g3, 0, none⟩) k cap3, .slice (some adB) nB cB]).run Tryd.prog w7.drew = .ok v' w' ∧ (∃ ad n cs, v' = .slice ad n cs ∧ w'.cell? ⟨vb, 0, none⟩ = some (.slice (some ⟨g3, 0, none⟩) ts.length cap3) ∧ w'.frozen? ⟨vb, 0, none⟩ = false ∧ RKeep ((w'.setCell ⟨vb, 0, none⟩ (.slice ad n cs)).cell? ⟨vb, 0, none⟩ = some (.slice ad n cs) ∧ (w'.setCell ⟨vb, 0, none⟩ (.slice ad n cs)).cell? ⟨rb, 0, none⟩ = some (.slice none 0 0) ∧ (w'.setCell ⟨vb, 0, none⟩ (.slice ad n cs)).frozen? ⟨rb, 0, none⟩ = false ∧ DrL g a cap zs W p 4 302 205000 (.returned (.agg #[.slice ad n cs])) ((w'.setCell ⟨vb, 0, none⟩ (.slice ad n cs)).setCell ⟨rb, 0, none⟩ (.slice ad n cs))))) := ⟨fun ty => by
      have hnl : nB = ts.length - (k + 1) := by rw [HnB.out, List.length_drop]
      obtain ⟨v', w', hr, ho, hg, _, hat⟩ := run_append_own_at (P := Tryd.prog) w7.drew W.heap.size 22 ty 66 i0 _ 4 40 Tryd.underlying22 hi hz0 hz1 hzb rfl (by decide) (.slice (some ⟨g3, 0, none⟩) k cap3) k (acells (ts.take k)) (row_cutA hSd.row (by omega)) adB nB cB (acells (ts.drop (k + 1))) (by rw [acells_len, ← HnB.out]) (hnewB _ _ _ hSd.row) (acells_one _) (by unfold maxLen; omega) (by omega) (by show W.heap.size ≤ w7.heap.size; omega)
      obtain ⟨ad, cs, rfl⟩ := owns_slice ho
      have hus : AOk 302 205000 (ts.take k ++ ts.drop (k + 1)) := by
        have h1 := HOK.out.take k
        have h2 := totalA_append (ts.take (k + 1)) (ts.drop (k + 1))
        rw [List.take_append_drop] at h2
        have h3 := HOK.out.2.1
        refine ⟨by rw [List.length_append, List.length_take, List.length_drop]; omega, by rw [totalA_append]; have := h1.2.1; omega, inr_append h1.2.2 (fun y hy => HOK.out.2.2 y (List.mem_of_mem_drop hy))⟩
      refine ⟨_, w', hr, ad, k + nB, cs, rfl, (hSd.mid hg).1, (hSd.mid hg).2, ⟨hSd.fin (us := ts.take k ++ ts.drop (k + 1)) hg (by rw [acells_append]; exact ho) (by rw [List.length_append, List.length_take, List.length_drop]; omega) ?_ hus (by omega)⟩⟩
      rcases hat with h' | h'
      · exact .inl h'
      · exact .inr h'⟩
    clear hS7 hSd hnewB HnB
    go_upto_region 21 with fail
    go_region_law (refine step_append_runV (by rfl) _ _ _ (by rfl) _ _ (by rfl) (by rfl) _ HA.out ?_; rintro v8 w8 ⟨ad8, n8, cs8, rfl, c8, f8, HF8⟩)
    all_goals
      obtain ⟨kv, kr, krf, hP⟩ := HF8.out
      have HP := RKeep.mk hP
      clear HF8 HA c8 f8 hP c hcutL hcutB
      generalize w8.setCell ⟨vb, 0, none⟩ (.slice ad8 n8 cs8) = wu at *
      have kz : (wu.setCell ⟨rb, 0, none⟩ (.slice ad8 n8 cs8)).cell? ⟨rb, 0, none⟩ = some (.slice ad8 n8 cs8) := World.cell?_setCell_same _ _ _ kr
      go_wp2
      refine bodyPost_ret (v := .agg #[.slice ad8 n8 cs8]) ?_ rfl HP.out
      go_light
      simp [results, Tryd.results24, go_sem, kz]
  have hB4 : ((y : Int) == 4) = false := by simpa using (show ¬ (y : Int) = 4 by omega)
  by_cases y5 : y = 5
  · subst y5
    have hbA : Below w7.heap.size w7 (w7.alloc (.cells #[.int .i64 x.kind, .int .i64 x.n, .string x.text, .int .i64 x.kids] 66)) := (Below.refl _ _).alloc (Nat.le_refl _) _
    have hSA := hS7.below hbA
    have hrow := hSA.row
    have hnw := news_4 w7 x 66 w7.heap.size rfl
    have hone := one_4 x
    have c := hS7.c
    have xx0 := hS7.x0
    have xx1 := hS7.x1
    have xx2 := hS7.x2
    have xx3 := hS7.x3
    have hW7 : W.heap.size ≤ w7.heap.size := hS7.gr.size
    have HW : RKeep (∀ g4 cap4 w4, (w7.alloc (.cells #[.int .i64 x.kind, .int .i64 x.n, .string x.text, .int .i64 x.kids] 66)).grownBy w4 (Value.slice (some ⟨g3, 0, none⟩) ts.length cap3).ownBlock → w4.ownsRow W.heap.size 66 4 (.slice (some ⟨g4, 0, none⟩) (ts.length + 1) cap4) (ts.length + 1) (acells ts ++ x.cells) → ((Value.slice (some ⟨g3, 0, none⟩) ts.length cap3).ownBlock = some g4 ∨ g4 = (w7.alloc (.cells #[.int .i64 x.kind, .int .i64 x.n, .string x.text, .int .i64 x.kids] 66)).heap.size) → (w4.setCell ⟨vb, 0, none⟩ (.slice (some ⟨g4, 0, none⟩) (ts.length + 1) cap4)).cell? ⟨vb, 0, none⟩ = some (.slice (some ⟨g4, 0, none⟩) (ts.length + 1) cap4) ∧ (w4.setCell ⟨vb, 0, none⟩ (.slice (some ⟨g4, 0, none⟩) (ts.length + 1) cap4)).cell? ⟨rb, 0, none⟩ = some (.slice none 0 0) ∧ (w4.setCell ⟨vb, 0, none⟩ (.slice (some ⟨g4, 0, none⟩) (ts.length + 1) cap4)).frozen? ⟨rb, 0, none⟩ = false ∧ DrL g a cap zs W p 4 302 205000 (.returned (.agg #[.slice (some ⟨g4, 0, none⟩) (ts.length + 1) cap4])) ((w4.setCell ⟨vb, 0, none⟩ (.slice (some ⟨g4, 0, none⟩) (ts.length + 1) cap4)).setCell ⟨rb, 0, none⟩ (.slice (some ⟨g4, 0, none⟩) (ts.length + 1) cap4))) := ⟨fun g4 cap4 w4 hg4 ho4 ha4 => hSA.fin (us := ts ++ [x]) hg4 (by rw [acells_snoc]; exact ho4) (by simp) (ha4.elim (fun h' => .inl h'.symm) (fun h' => .inr (by rw [h']; rfl))) ((HOK.out.append (AOk.one hxn)).mono (by omega) (by omega)) (by omega)⟩
    have HMid : RKeep (∀ w4, (w7.alloc (.cells #[.int .i64 x.kind, .int .i64 x.n, .string x.text, .int .i64 x.kids] 66)).grownBy w4 (Value.slice (some ⟨g3, 0, none⟩) ts.length cap3).ownBlock → w4.cell? ⟨vb, 0, none⟩ = some (.slice (some ⟨g3, 0, none⟩) ts.length cap3) ∧ w4.frozen? ⟨vb, 0, none⟩ = false) := ⟨fun w4 hg4 => hSA.mid hg4⟩
    clear hS7 hSA hbA
    go_upto_region 25 with (first | (at_builtin; refine wpList_append_lies _ rfl _ _ 22 rfl W.heap.size 66 i0 _ 4 40 Tryd.underlying22 hi hz0 hz1 hzb rfl (by decide) (.slice (some ⟨g3, 0, none⟩) ts.length cap3) ts.length (acells ts) rfl hrow ⟨w7.heap.size, 0, none⟩ 1 1 x.cells rfl rfl (by exact hnw) hone (by omega) (by unfold maxLen; omega) (by omega) (by simp; omega) _ rfl ?_; intro g4 cap4 w4 hown4 hgrow4 hat4 hlt4; obtain ⟨mc, mf⟩ := HMid.out w4 hgrow4))
    obtain ⟨kv, kr, krf, hP⟩ := HW.out g4 cap4 w4 hgrow4 hown4 hat4
    have HP := RKeep.mk hP
    clear HW HMid hrow hnw hone hown4 hgrow4 hat4 hlt4 mc mf c xx0 xx1 xx2 xx3 hP
    generalize w4.setCell ⟨vb, 0, none⟩ (.slice (some ⟨g4, 0, none⟩) (ts.length + 1) cap4) = wu at *
    have kz : (wu.setCell ⟨rb, 0, none⟩ (.slice (some ⟨g4, 0, none⟩) (ts.length + 1) cap4)).cell? ⟨rb, 0, none⟩ = some (.slice (some ⟨g4, 0, none⟩) (ts.length + 1) cap4) := World.cell?_setCell_same _ _ _ kr
    go_wp2
    refine bodyPost_ret (v := .agg #[.slice (some ⟨g4, 0, none⟩) (ts.length + 1) cap4]) ?_ rfl HP.out
    go_light
    simp [results, Tryd.results24, go_sem, kz]
  have hB5 : ((y : Int) == 5) = false := by simpa using (show ¬ (y : Int) = 5 by omega)
  obtain ⟨x9, hx9⟩ : ∃ x9, x9 = x := ⟨_, rfl⟩
  rw [← hx9] at hS7 hxn hxt
  clear hx9 HX
  have c := hS7.c
  obtain ⟨l0, l1⟩ := And.intro hS7.row hS7.gr
  have hcells : RKeep (∀ j (hj : j < ts.length), w7.cell? ⟨g3, j * 4, none⟩ = some (.int .i64 ts[j].kind) ∧ w7.cell? ⟨g3, j * 4 + 2, none⟩ = some (.string ts[j].text)) := ⟨fun j hj => by
    obtain ⟨z0, z1, z2, z3⟩ := acells_at ts j hj
    exact ⟨(l0.cellAt (j * 4) (by omega)).trans z0, (l0.cellAt (j * 4 + 2) (by omega)).trans z2⟩⟩
  have qf := fun j => l0.frozenAt j
  clear l0 l1
  have HS := RKeep.mk hS7
  clear hS7
  go_wp2
  go_loopw [8] (fun i wr => ∃ m : Nat, m ≤ ts.length ∧ i = .int .i64 m ∧ wr = w7) (fun i _ => ts.length - (intOf i).toNat)
  case atStart => exact ⟨0, Nat.zero_le _, rfl, rfl⟩
  case round =>
    obtain ⟨m, hm, rfl, rfl⟩ := hrel
    by_cases hlt : m < ts.length
    · have hlt1 : (m : Int) < ts.length := by omega
      obtain ⟨j, hj, hjl⟩ : ∃ j : Nat, ((k : Int) + m) % ts.length = j ∧ j < ts.length := ⟨(k + m) % ts.length, by simp, Nat.mod_lt _ (by omega)⟩
      have hjl1 : (j : Int) < ts.length := by omega
      obtain ⟨d0, d2⟩ := hcells.out j hjl
      have hz : ¬ (ts.length : Int) = 0 := by omega
      by_cases h3 : ts[j].kind = 3
      · have hB : (ts[j].kind == 3) = true := by simpa using h3
        have hSw := HS.out
        have hgs : W.heap.size ≤ g3 := owns_base hSw.row g3 rfl
        obtain ⟨n1, n2, n3⟩ := hSw.own g3 rfl
        have kv : (wr.setCell ⟨g3, j * 4 + 2, none⟩ (.string ⟨#[110]⟩)).cell? ⟨vb, 0, none⟩ = some (.slice (some ⟨g3, 0, none⟩) ts.length cap3) := (World.cell?_setCell_other _ _ _ _ (by intro e; injection e with e; exact n2 e)).trans hSw.c
        have kr : (wr.setCell ⟨g3, j * 4 + 2, none⟩ (.string ⟨#[110]⟩)).cell? ⟨rb, 0, none⟩ = some (.slice none 0 0) := (World.cell?_setCell_other _ _ _ _ (by intro e; injection e with e; exact n1 e)).trans hSw.r
        have krf : (wr.setCell ⟨g3, j * 4 + 2, none⟩ (.string ⟨#[110]⟩)).frozen? ⟨rb, 0, none⟩ = false := (World.frozen?_setCell _ _ _ _).trans hSw.rf
        have HP : RKeep (DrL g a cap zs W p 4 302 205000 (.returned (.agg #[.slice (some ⟨g3, 0, none⟩) ts.length cap3])) ((wr.setCell ⟨g3, j * 4 + 2, none⟩ (.string ⟨#[110]⟩)).setCell ⟨rb, 0, none⟩ (.slice (some ⟨g3, 0, none⟩) ts.length cap3))) := ⟨SB.done (hSw.rd.kept (dk_set wr g3 _ _) (fun j e => by cases e; have := hSw.lt; omega)) (gr_own hSw.gr (dk_set wr g3 _ _) (fun j e => by cases e; exact hgs)) hSw.lt hSw.low.1 n1 (al_setT (t := ⟨#[110]⟩) hSw.row rfl hjl) (by rw [List.length_set]) ((HOK.out.set (x := ⟨ts[j].kind, ts[j].n, ⟨#[110]⟩, ts[j].kids⟩) (HOK.out.2.2 ts[j] (List.getElem_mem hjl))).mono (by omega) (by show 102000 + 1 ≤ 205000; omega)) (by omega)⟩
        clear hSw HS hcells h3 n1 n2 n3
        go_upto_region 11 with fail
        clear c d0 d2 qf
        generalize wr.setCell ⟨g3, j * 4 + 2, none⟩ (.string ⟨#[110]⟩) = wu at *
        have kz : (wu.setCell ⟨rb, 0, none⟩ (.slice (some ⟨g3, 0, none⟩) ts.length cap3)).cell? ⟨rb, 0, none⟩ = some (.slice (some ⟨g3, 0, none⟩) ts.length cap3) := World.cell?_setCell_same _ _ _ kr
        go_wp2
        refine bodyPost_ret (v := .agg #[.slice (some ⟨g3, 0, none⟩) ts.length cap3]) ?_ rfl HP.out
        go_light
        simp [results, Tryd.results24, go_sem, kz]
      · have hB : (ts[j].kind == 3) = false := by simpa using h3
        clear h3
        go_wp2
        exact ⟨⟨m + 1, by omega, by go_num, trivial⟩, by simp [intOf]; omega⟩
    · have hlt1 : ¬ (m : Int) < ts.length := by omega
      have hD := HS.out
      have HXN : RKeep (-9223372036854775808 ≤ x9.n ∧ x9.n < 9223372036854775808) := ⟨hxn⟩
      have HXT : RKeep (x9.text.size ≤ 102000) := ⟨hxt⟩
      clear HS hcells qf hxn hxt
      go_upto_region 26 with fail
      clear c
      have c := hD.c
      have xx0 := hD.x0
      have xx1 := hD.x1
      have xx2 := hD.x2
      have xx3 := hD.x3
      obtain ⟨kv, kr, krf, hP⟩ := hD.put (p0 := p) (K := 4) (N := 302) (M := 102000) hk (HOK.out.mono (by omega) (Nat.le_refl _)) HXN.out (by omega)
      have HP0 : RKeep (DrL g a cap zs W p 4 302 205000 (.returned (.agg #[.slice (some ⟨g3, 0, none⟩) ts.length cap3])) ((set4 wr g3 (k * 4) (.int .i64 (x9).kind) (.int .i64 (x9).n) (.string (x9).text) (.int .i64 (x9).kids)).setCell ⟨rb, 0, none⟩ (.slice (some ⟨g3, 0, none⟩) ts.length cap3))) := ⟨by obtain ⟨ad, cs, us, e1, e2, e3, e4⟩ := hP; exact ⟨ad, cs, us, e1, e2, e3.mono (Nat.le_refl _) (by have := HXT.out; omega), e4⟩⟩
      obtain ⟨z0, z1, z2, z3⟩ := acells_at ts k hk
      have q0 := (hD.row.cellAt (k * 4) (by omega)).trans z0
      have q1 := (hD.row.cellAt (k * 4 + 1) (by omega)).trans z1
      have q2 := (hD.row.cellAt (k * 4 + 2) (by omega)).trans z2
      have q3 := (hD.row.cellAt (k * 4 + 3) (by omega)).trans z3
      have qf := fun j => hD.row.frozenAt j
      clear hP hD z0 z1 z2 z3
      unfold set4 at kv kr krf HP0
      go_upto_region 27 with fail
      clear q0 q1 q2 q3 qf xx0 xx1 xx2 xx3 c
      generalize (((wr.setCell ⟨g3, k * 4, none⟩ (.int .i64 (x9).kind)).setCell ⟨g3, k * 4 + 1, none⟩ (.int .i64 (x9).n)).setCell ⟨g3, k * 4 + 2, none⟩ (.string (x9).text)).setCell ⟨g3, k * 4 + 3, none⟩ (.int .i64 (x9).kids) = wu at *
      have kz : (wu.setCell ⟨rb, 0, none⟩ (.slice (some ⟨g3, 0, none⟩) ts.length cap3)).cell? ⟨rb, 0, none⟩ = some (.slice (some ⟨g3, 0, none⟩) ts.length cap3) := World.cell?_setCell_same _ _ _ kr
      go_wp2
      refine bodyPost_ret (v := .agg #[.slice (some ⟨g3, 0, none⟩) ts.length cap3]) ?_ rfl HP0.out
      go_light
      simp [results, Tryd.results24, go_sem, kz]
end Go.Proofs.YtamaioeikcjhoaaDoor
