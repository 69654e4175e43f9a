/-
  CopyR, DrawSp, DrawS5, DrawPu, DrawPb, DrawGl, DrawMt, DrawPk, GlbP, WTr, LawGlb, ExactGlb: laid as one text.
-/
import Derived.Test.YtcajheaacdeokaaCopyT
import Derived.Test.YtcajheaacdeokaaDrawD5
import Derived.Test.YtcajheaacdeokaaSetS
import Derived.Test.YtcajheaacdeokaaDrawPth
import Derived.Test.YtcajheaacdeokaaSpecParts
import Derived.Deep.RegionHeld3
import Derived.Test.YtcajheaacdeokaaGlbM
import Derived.Test.YtcajheaacdeokaaEntB
import Derived.Test.YtcajheaacdeokaaLaterQ
import Derived.Deep.DeepCutAuto
import Derived.Test.YtcajheaacdeokaaGlbK
import Derived.Deep.RegionWith
import Derived.ProofKit
import Derived.OpenShut
import Derived.ShutString
import Derived.ChangeOld
import Derived.Below
import Derived.SliceStrings
import Derived.ChangeSlices
namespace Go.Proofs.Ytcajheaacdeokaa
open Go.RowKit

set_option maxRecDepth 20000 in
set_option maxHeartbeats 2000000 in
theorem l5CopyR_any (b : Option Addr) (cb : Nat) (bs : List En) (w : World) (hbs : ES w b bs) (hn : bs.length ≤ 1048576) (hb : (∃ ad, b = some ad) ∨ (b = none ∧ cb = 0)) :
    Calls Try.prog 61 #[.agg #[.slice b bs.length cb]] w fun e w' => ∃ ad cp, e = .returned (.agg #[.slice ad bs.length cp]) ∧ w'.ownsRow w.heap.size 36 3 (.slice ad bs.length cp) bs.length (ecells bs) ∧ (∃ x, ad = some x) ∧ Below w.heap.size w w' := by
  obtain ⟨i0, hi, hz0, hz1, hzb⟩ := info_parts Try.infoEntry
  have hal : Below w.heap.size w (((w.alloc (.cells #[.slice b bs.length cb] 29)).alloc (.cells #[.slice none 0 0] 29)).alloc (.cells #[] 36)) := (((Below.refl _ _).alloc (Nat.le_refl _) _).alloc (by simp) _).alloc (by simp; omega) _
  have k0 : (((w.alloc (.cells #[.slice b bs.length cb] 29)).alloc (.cells #[.slice none 0 0] 29)).alloc (.cells #[] 36)).cell? ⟨w.heap.size + 1, 0, none⟩ = some (.slice none 0 0) := by simp [go_sem]
  have kf : (((w.alloc (.cells #[.slice b bs.length cb] 29)).alloc (.cells #[.slice none 0 0] 29)).alloc (.cells #[] 36)).frozen? ⟨w.heap.size + 1, 0, none⟩ = false := by simp [go_sem]
  have m0 : (((w.alloc (.cells #[.slice b bs.length cb] 29)).alloc (.cells #[.slice none 0 0] 29)).alloc (.cells #[] 36)).cell? ⟨w.heap.size, 0, none⟩ = some (.slice b bs.length cb) := by simp [go_sem]
  have hown0 : (((w.alloc (.cells #[.slice b bs.length cb] 29)).alloc (.cells #[.slice none 0 0] 29)).alloc (.cells #[] 36)).ownsRow (w.heap.size + 2) 36 3 (.slice (some ⟨w.heap.size + 1 + 1, 0, none⟩) 0 0) 0 (ecells []) := by simpa using own_none ((w.alloc (.cells #[.slice b bs.length cb] 29)).alloc (.cells #[.slice none 0 0] 29)) (w.heap.size + 2) (by simp)
  have hsz : w.heap.size + 3 ≤ (((w.alloc (.cells #[.slice b bs.length cb] 29)).alloc (.cells #[.slice none 0 0] 29)).alloc (.cells #[] 36)).heap.size := by simp
  rcases hb with ⟨ad, rfl⟩ | ⟨rfl, rfl⟩
  · have hnews : ∃ ad', ∀ n c, (Value.slice (some ad) bs.length c = .slice (some ad) n c → True) ∧ ad' = ad ∧ ∀ j u, (ecells bs)[j]? = some u → (((w.alloc (.cells #[.slice (some ad) bs.length cb] 29)).alloc (.cells #[.slice none 0 0] 29)).alloc (.cells #[] 36)).cell? (ad.add j) = some u := by
      refine ⟨ad, fun _ _ => ⟨fun _ => trivial, rfl, ?_⟩⟩
      rcases hbs with rfl | ⟨bb, off, h, hc⟩
      · intro j u hu; simp [ecells] at hu
      · cases h
        exact es_news (fun i hi => ⟨cell_later hal (hc i hi).1, cell_later hal (hc i hi).2.1, cell_later hal (hc i hi).2.2⟩)
    obtain ⟨_, h3⟩ := hnews
    obtain ⟨_, _, hnw⟩ := h3 0 0
    clear h3
    have hone := ecells_one bs
    have hlen := ecells_len bs
    go_enter Try.func61, Try.ntmps61
    go_wp2_with (first | (at_builtin; refine wpList_append_own _ rfl _ _ 27 rfl (w.heap.size + 2) 36 i0 _ 3 40 Try.underlying27 hi hz0 hz1 hzb rfl (by decide) (.slice (some ⟨w.heap.size + 1 + 1, 0, none⟩) 0 0) 0 (ecells []) rfl hown0 ad bs.length cb (ecells bs) rfl hlen hnw hone (by unfold maxLen; omega) (by omega) (by omega) ?_; intro v2 w2 hown2 hgrow2 hnn; have k2 := hgrow2.cell (a := ⟨w.heap.size + 1, 0, none⟩) k0 (by simp [Value.ownBlock]); have kf2 : w2.frozen? ⟨w.heap.size + 1, 0, none⟩ = false := frozen_blk (hgrow2.block (w.heap.size + 1) (by simp) (by simp [Value.ownBlock])) kf; obtain ⟨ad2, cp2, rfl⟩ := owns_slice hown2))
    have hb2 := hal.grown hgrow2 hal.size (fun j hj => by cases hj; simp; omega)
    replace hown2 : w2.ownsRow (w.heap.size + 2) 36 3 (.slice ad2 bs.length cp2) bs.length (ecells bs) := by simpa [ecells] using hown2
    have hrow2 : (w2.setCell ⟨w.heap.size + 1, 0, none⟩ (.slice ad2 bs.length cp2)).ownsRow (w.heap.size + 2) 36 3 (.slice ad2 bs.length cp2) bs.length (ecells bs) := hown2.kept (grown_set0 w2 (w.heap.size + 1) 0 (.slice ad2 bs.length cp2)) (Or.inr (fun e => by have := owns_row_ge hown2 e; omega))
    have hrow3 : (w2.setCell ⟨w.heap.size + 1, 0, none⟩ (.slice ad2 bs.length cp2)).ownsRow w.heap.size 36 3 (.slice ad2 bs.length cp2) bs.length (ecells bs) := by
      refine ⟨hrow2.1, ?_⟩
      rcases hrow2.2 with h' | ⟨gq, capq, curq, hv, h1, h2⟩
      · exact .inl h'
      · exact .inr ⟨gq, capq, curq, hv, by omega, h2⟩
    have hsome : ∃ x, ad2 = some x := by
      cases ad2 with
      | some x => exact ⟨x, rfl⟩
      | none =>
        exfalso
        rcases hown2.2 with ⟨h', _⟩ | ⟨gq, capq, curq, hv, _⟩
        · exact absurd (hnn.1 (by rw [Nat.zero_add]; exact h')) (fun h => by cases h.1)
        · cases hv
    refine bodyPost_ret (v := .agg #[.slice ad2 bs.length cp2]) ?_ rfl ⟨ad2, cp2, rfl, hrow3, hsome, hb2.setCell (p := ⟨w.heap.size + 1, 0, none⟩) (by simp) _⟩
    go_light
    simp [results, Try.results61, go_sem, k2]
  · obtain rfl : bs = [] := by
      rcases hbs with h | ⟨bb, off, h, _⟩
      · exact h
      · cases h
    go_enter Try.func61, Try.ntmps61
    go_wp2_with (first | (at_builtin; refine wpList_append_own_none rfl _ _ 27 rfl (w.heap.size + 2) 36 i0 3 Try.underlying27 hi _ _ _ rfl hown0 rfl ?_))
    have hownL : (((w.alloc (.cells #[.slice none 0 0] 29)).alloc (.cells #[.slice (some ⟨w.heap.size + 1 + 1, 0, none⟩) 0 0] 29)).alloc (.cells #[] 36)).ownsRow w.heap.size 36 3 (.slice (some ⟨w.heap.size + 1 + 1, 0, none⟩) 0 0) 0 (ecells []) := by simpa using own_none ((w.alloc (.cells #[.slice none 0 0] 29)).alloc (.cells #[.slice (some ⟨w.heap.size + 1 + 1, 0, none⟩) 0 0] 29)) w.heap.size (by simp; omega)
    refine bodyPost_ret (v := .agg #[.slice (some ⟨w.heap.size + 1 + 1, 0, none⟩) ([] : List En).length 0]) ?_ rfl ⟨_, _, rfl, (by exact hownL), ⟨_, rfl⟩, (((Below.refl _ _).alloc (Nat.le_refl _) _).alloc (by simp) _).alloc (by simp; omega) _⟩
    go_light
    simp [results, Try.results61, go_sem]
end Go.Proofs.Ytcajheaacdeokaa

namespace Go.Proofs.Ytcajheaacdeokaa
open Go.RowKit

/-- A tree in a box, beside a reader; its row may lie ahead of the box. -/
structure LD6 (g : Nat) (a : Option Addr) (cap : Nat) (zs : List Int) (w : World) (rs tb : Nat) (ad : Option Addr) (cp : Nat) (ts : List En) (p : Nat) (W : World) : Prop where
  rd : Rd W g a cap zs p
  gr : w.grownBy W (some g)
  rc : W.cell? ⟨rs, 0, none⟩ = some (.slice none 0 0)
  rf : W.frozen? ⟨rs, 0, none⟩ = false
  tc : W.cell? ⟨tb, 0, none⟩ = some (.slice ad ts.length cp)
  tf : W.frozen? ⟨tb, 0, none⟩ = false
  el : EL (rs + 1) W ad ts
  ap : ts = [] ∨ blk ad ≠ some tb
  ord : g < rs ∧ rs < tb ∧ w.heap.size ≤ rs
section
variable {g : Nat} {a : Option Addr} {cap : Nat} {zs : List Int} {w : World} {rs tb : Nat} {ad ad' : Option Addr} {cp cp' : Nat} {ts us : List En} {p p' : Nat} {W W' : World}
theorem LD6.lt (h : LD6 g a cap zs w rs tb ad cp ts p W) : tb < W.heap.size := World.block_lt_of_cell? W ⟨tb, 0, none⟩ h.tc
theorem LD6.ltr (h : LD6 g a cap zs w rs tb ad cp ts p W) : rs < W.heap.size := World.block_lt_of_cell? W ⟨rs, 0, none⟩ h.rc
theorem LD6.step (h : LD6 g a cap zs w rs tb ad cp ts p W) (hg : W.grownBy W' (some g)) (hR : Rd W' g a cap zs p') : LD6 g a cap zs w rs tb ad cp ts p' W' := by
  have o := h.ord
  have b1 := hg.block rs h.ltr (by simp; omega)
  have b2 := hg.block tb h.lt (by simp; omega)
  exact ⟨hR, gr_trans h.gr hg, (World.cell?_of_block b1).trans h.rc, fz_blk b1 h.rf, (World.cell?_of_block b2).trans h.tc, fz_blk b2 h.tf, h.el.grown hg (fun k _ hk _ e => by cases e; omega), h.ap, o⟩
theorem LD6.later (h : LD6 g a cap zs w rs tb ad cp ts p W) (hb : Below W.heap.size W W') : LD6 g a cap zs w rs tb ad cp ts p W' := h.step (gr_below hb) (h.rd.below hb)
theorem LD6.al (h : LD6 g a cap zs w rs tb ad cp ts p W) (o : Obj) : LD6 g a cap zs w rs tb ad cp ts p (W.alloc o) := h.later (below_oneD _ _)
theorem LD6.drew (h : LD6 g a cap zs w rs tb ad cp ts p W) : LD6 g a cap zs w rs tb ad cp ts p W.drew := h.later (Below.refl _ _).drew
theorem LD6.put (h : LD6 g a cap zs w rs tb ad cp ts p W) (he : EL (rs + 1) W ad' us) (hap : us = [] ∨ blk ad' ≠ some tb) : LD6 g a cap zs w rs tb ad' cp' us p (W.setCell ⟨tb, 0, none⟩ (.slice ad' us.length cp')) := by
  have o := h.ord
  have hg : W.grownBy (W.setCell ⟨tb, 0, none⟩ (.slice ad' us.length cp')) (some tb) := grown_set W tb 0 _
  refine ⟨h.rd.kept hg (fun k e => by cases e; omega), gr_own h.gr hg (fun j e => by cases e; omega), ?_, (World.frozen?_setCell _ _ _ _).trans h.rf, World.cell?_setCell_same _ _ _ h.tc, (World.frozen?_setCell _ _ _ _).trans h.tf, ?_, hap, o⟩
  · exact (World.cell?_of_block (Below.heap_setCell _ _ _ _ (by show rs ≠ tb; omega))).trans h.rc
  · rcases hap with h0 | h0
    · exact .inl h0
    · exact he.grown hg (fun k hk _ _ e => h0 (by rw [hk, ← e]))
/-- What l5Set gives is put into the box. -/
theorem LD6.putNew {B : Nat} (h : LD6 g a cap zs w rs tb ad cp ts p W) (he : EL B W ad' us) (hB : tb < B) : LD6 g a cap zs w rs tb ad' cp' us p (W.setCell ⟨tb, 0, none⟩ (.slice ad' us.length cp')) :=
  h.put (he.mono (by have := h.ord; omega)) (by
    rcases he with h0 | ⟨k, rfl, hk, _⟩
    · exact .inl h0
    · exact .inr (fun e => by simp [blk] at e; omega))
theorem EL.setPath {B gb k : Nat} {s : ByteArray} (h : EL B W (some ⟨gb, 0, none⟩) ts) (hk : k < ts.length) : EL B (W.setCell ⟨gb, k * 3, none⟩ (.string s)) (some ⟨gb, 0, none⟩) (ts.set k ⟨s, ts[k].text, ts[k].runs⟩) := by
  rcases h with h | ⟨g', e, h1, h2, h3, h4⟩
  · subst h; simp at hk
  · cases e
    have hne : ∀ i j : Nat, i ≠ j → (⟨gb, i, none⟩ : Addr) ≠ ⟨gb, j, none⟩ := fun i j h e => h (by injection e)
    refine .inr ⟨gb, rfl, h1, by simpa using h2, fun j => (World.frozen?_setCell _ _ _ _).trans (h3 j), fun i hi => ?_⟩
    have hi' : i < ts.length := by simpa using hi
    obtain ⟨c0, c1, c2⟩ := h4 i hi'
    by_cases e : i = k
    · subst e
      rw [List.getElem_set_self]
      exact ⟨World.cell?_setCell_same _ _ _ c0, by rw [World.cell?_setCell_other _ _ _ _ (hne _ _ (by omega))]; exact c1, by rw [World.cell?_setCell_other _ _ _ _ (hne _ _ (by omega))]; exact c2⟩
    · rw [List.getElem_set_ne (fun e' => e e'.symm)]
      exact ⟨by rw [World.cell?_setCell_other _ _ _ _ (hne _ _ (by omega))]; exact c0, by rw [World.cell?_setCell_other _ _ _ _ (hne _ _ (by omega))]; exact c1, by rw [World.cell?_setCell_other _ _ _ _ (hne _ _ (by omega))]; exact c2⟩
theorem EL.setText {B gb k : Nat} {s : ByteArray} (h : EL B W (some ⟨gb, 0, none⟩) ts) (hk : k < ts.length) : EL B (W.setCell ⟨gb, k * 3 + 1, none⟩ (.string s)) (some ⟨gb, 0, none⟩) (ts.set k ⟨ts[k].path, s, ts[k].runs⟩) := by
  rcases h with h | ⟨g', e, h1, h2, h3, h4⟩
  · subst h; simp at hk
  · cases e
    have hne : ∀ i j : Nat, i ≠ j → (⟨gb, i, none⟩ : Addr) ≠ ⟨gb, j, none⟩ := fun i j h e => h (by injection e)
    refine .inr ⟨gb, rfl, h1, by simpa using h2, fun j => (World.frozen?_setCell _ _ _ _).trans (h3 j), fun i hi => ?_⟩
    have hi' : i < ts.length := by simpa using hi
    obtain ⟨c0, c1, c2⟩ := h4 i hi'
    by_cases e : i = k
    · subst e
      rw [List.getElem_set_self]
      exact ⟨by rw [World.cell?_setCell_other _ _ _ _ (hne _ _ (by omega))]; exact c0, World.cell?_setCell_same _ _ _ c1, by rw [World.cell?_setCell_other _ _ _ _ (hne _ _ (by omega))]; exact c2⟩
    · rw [List.getElem_set_ne (fun e' => e e'.symm)]
      exact ⟨by rw [World.cell?_setCell_other _ _ _ _ (hne _ _ (by omega))]; exact c0, by rw [World.cell?_setCell_other _ _ _ _ (hne _ _ (by omega))]; exact c1, by rw [World.cell?_setCell_other _ _ _ _ (hne _ _ (by omega))]; exact c2⟩
/-- A cell of the row has been set. -/
theorem LD6.turn {gb j : Nat} {u : Value} (h : LD6 g a cap zs w rs tb (some ⟨gb, 0, none⟩) cp ts p W) (hne : ts ≠ []) (he : EL (rs + 1) (W.setCell ⟨gb, j, none⟩ u) (some ⟨gb, 0, none⟩) us) (hl : us.length = ts.length) : LD6 g a cap zs w rs tb (some ⟨gb, 0, none⟩) cp us p (W.setCell ⟨gb, j, none⟩ u) := by
  have o := h.ord
  have hgb : rs + 1 ≤ gb := by
    rcases h.el with h0 | ⟨k, e, hk, _⟩
    · exact absurd h0 hne
    · cases e; exact hk
  have hgt : gb ≠ tb := by
    rcases h.ap with h0 | h0
    · exact absurd h0 hne
    · exact fun e => h0 (by simp [blk, e])
  have hg : W.grownBy (W.setCell ⟨gb, j, none⟩ u) (some gb) := grown_set W gb j _
  refine ⟨h.rd.kept hg (fun k e => by cases e; omega), gr_own h.gr hg (fun i e => by cases e; omega), ?_, (World.frozen?_setCell _ _ _ _).trans h.rf, ?_, (World.frozen?_setCell _ _ _ _).trans h.tf, he, .inr (fun e => hgt (by simpa [blk] using e)), o⟩
  · exact (World.cell?_of_block (Below.heap_setCell _ _ _ _ (by show rs ≠ gb; omega))).trans h.rc
  · rw [hl]
    exact (World.cell?_of_block (Below.heap_setCell _ _ _ _ (fun e => hgt e.symm))).trans h.tc
theorem Tiny.set {P T k : Nat} {e : En} (h : Tiny P T ts) (he : e.path.size ≤ P ∧ e.text.size ≤ T) : Tiny P T (ts.set k e) := fun x hx => by
  rcases List.mem_or_eq_of_mem_set hx with h1 | h1
  · exact h x h1
  · subst h1; exact he
theorem Tiny.wide {P T P' T' : Nat} (h : Tiny P T ts) (hP : P ≤ P') (hT : T ≤ T') : Tiny P' T' ts := fun x hx => ⟨Nat.le_trans (h x hx).1 hP, Nat.le_trans (h x hx).2 hT⟩
theorem Tiny.setRel {P T : Nat} {e : En} (h : Tiny P T ts) (he : e.path.size ≤ P ∧ e.text.size ≤ T) (hs : SetRel ts e us) : Tiny P T us := fun x hx => by
  rcases (hs.mem x).1 hx with rfl | ⟨h1, _⟩
  · exact he
  · exact h x h1
theorem setRel_ne {e : En} (hs : SetRel ts e us) : us ≠ [] := fun h => by
  have := (hs.mem e).2 (.inl rfl)
  rw [h] at this
  cases this
end

/-- Some tree that was drawn. -/
def TreeS (P T N : Nat) (g : Nat) (a : Option Addr) (cap : Nat) (zs : List Int) (K p : Nat) (w : World) (e : Ending) (w' : World) : Prop :=
  ∃ ad cp ts, e = .returned (.agg #[.slice ad (List.length ts) cp]) ∧ EL w.heap.size w' ad ts ∧ ts.length ≤ N ∧ Tiny P T ts ∧ NilOk ad cp ∧ Dr g a cap zs w w' p K

theorem LD6.back {g : Nat} {a : Option Addr} {cap : Nat} {zs : List Int} {w : World} {rs tb : Nat} {ad : Option Addr} {cp : Nat} {ts : List En} {p p2 K : Nat} {W : World} (h : LD6 g a cap zs w rs tb ad cp ts p2 W) (hp : p2 ≤ p + K) : EL w.heap.size (W.setCell ⟨rs, 0, none⟩ (.slice ad ts.length cp)) ad ts ∧ Dr g a cap zs w (W.setCell ⟨rs, 0, none⟩ (.slice ad ts.length cp)) p K := by
  have hg : W.grownBy (W.setCell ⟨rs, 0, none⟩ (.slice ad ts.length cp)) (some rs) := grown_set W rs 0 _
  have o := h.ord
  exact ⟨(h.el.grown hg (fun k _ hk _ e => by cases e; omega)).mono (by omega), ⟨p2, hp, h.rd.kept hg (fun k e => by cases e; omega)⟩, gr_own h.gr hg (fun j e => by cases e; omega)⟩
end Go.Proofs.Ytcajheaacdeokaa

namespace Go.Proofs.Ytcajheaacdeokaa
open Go.RowKit

/-- As TreeS, and there is room. -/
def TreeSR (P T N : Nat) (g : Nat) (a : Option Addr) (cap : Nat) (zs : List Int) (K p : Nat) (w : World) (e : Ending) (w' : World) : Prop :=
  ∃ ad cp ts, e = .returned (.agg #[.slice ad (List.length ts) cp]) ∧ EL w.heap.size w' ad ts ∧ ts.length ≤ N ∧ Tiny P T ts ∧ NilOk ad cp ∧ Dr g a cap zs w w' p K ∧ ts.length ≤ cp

/-- What is held once there is an entry. -/
def SpI (P T N : Nat) (g : Nat) (a : Option Addr) (cap : Nat) (zs : List Int) (w : World) (rs tb p : Nat) (W : World) : Prop :=
  ∃ gb cp ts, LD6 g a cap zs w rs tb (some ⟨gb, 0, none⟩) cp ts p W ∧ ts ≠ [] ∧ ts.length ≤ N ∧ Asc ts ∧ Tiny P T ts ∧ W.ownsRow (rs + 1) 36 3 (.slice (some ⟨gb, 0, none⟩) ts.length cp) ts.length (ecells ts)

theorem row_block {W : World} {B : Nat} {e : TypeId} {x : Addr} {n cp : Nat} {xs : List Value} (h : W.ownsRow B e 3 (.slice (some x) n cp) n xs) : ∃ gb, x = ⟨gb, 0, none⟩ ∧ B ≤ gb ∧ gb < W.heap.size := by
  rcases h.2 with ⟨h0, _⟩ | ⟨gb, c, cur, hv, h1, h2, _⟩
  · cases h0
  · cases hv
    exact ⟨gb, rfl, h1, (Array.getElem?_eq_some_iff.1 h2).1⟩

theorem LD6.append {g : Nat} {a : Option Addr} {cap : Nat} {zs : List Int} {w : World} {rs tb gb g3 cp cap3 : Nat} {ts : List En} {e : En} {p : Nat} {X W : World} (h : LD6 g a cap zs w rs tb (some ⟨gb, 0, none⟩) cp ts p X) (hgb : rs + 1 ≤ gb) (hgt : gb ≠ tb) (hg : X.grownBy W (some gb)) (hown : W.ownsRow (rs + 1) 36 3 (.slice (some ⟨g3, 0, none⟩) (ts.length + 1) cap3) (ts.length + 1) (ecells ts ++ ecell e)) (h3 : g3 ≠ tb) :
    LD6 g a cap zs w rs tb (some ⟨g3, 0, none⟩) cap3 (ts ++ [e]) p (W.setCell ⟨tb, 0, none⟩ (.slice (some ⟨g3, 0, none⟩) (ts.length + 1) cap3)) := by
  have o := h.ord
  have b1 := hg.block rs h.ltr (by simp; omega)
  have b2 := hg.block tb h.lt (by simp; omega)
  have hs : W.grownBy (W.setCell ⟨tb, 0, none⟩ (.slice (some ⟨g3, 0, none⟩) (ts.length + 1) cap3)) (some tb) := grown_set W tb 0 _
  have ht : W.cell? ⟨tb, 0, none⟩ = some (.slice (some ⟨gb, 0, none⟩) ts.length cp) := (World.cell?_of_block b2).trans h.tc
  refine ⟨(h.rd.kept hg (fun k e => by cases e; omega)).kept hs (fun k e => by cases e; omega), gr_own (gr_own h.gr hg (fun j e => by cases e; omega)) hs (fun j e => by cases e; omega), ?_, (World.frozen?_setCell _ _ _ _).trans (fz_blk b1 h.rf), ?_, (World.frozen?_setCell _ _ _ _).trans (fz_blk b2 h.tf), ?_, .inr (fun e => h3 (by simpa [blk] using e)), o⟩
  · exact (World.cell?_of_block (Below.heap_setCell _ _ _ _ (by show rs ≠ tb; omega))).trans ((World.cell?_of_block b1).trans h.rc)
  · rw [List.length_append]
    exact World.cell?_setCell_same _ _ _ ht
  · have hrow : W.ownsRow (rs + 1) 36 3 (.slice (some ⟨g3, 0, none⟩) (ts ++ [e]).length cap3) (ts ++ [e]).length (ecells (ts ++ [e])) := by
      rw [ecells_snoc, List.length_append]
      exact hown
    exact (el_of_row hrow).grown hs (fun k hk _ _ e => by cases e; simp [blk] at hk; exact h3 hk)

set_option maxRecDepth 100000 in
set_option maxHeartbeats 20000000 in
theorem l5SpoilB_any (P T N : Nat) (hP1 : 1 ≤ P) (hP : P ≤ 1000) (hTT : T ≤ 100000) (hN1 : 98 ≤ N) (hN : N ≤ 1000) (g : Nat) (a : Option Addr) (cap : Nat) (zs : List Int) (p : Nat) (ad0 : Option Addr) (cp0 : Nat) (t0 : List En) (w : World) (h : Rd w g a cap zs p) (hp : p ≤ 10000000) (hes : ES w ad0 t0) (hno : NilOk ad0 cp0) (hA : Asc t0) (hT : Tiny P T t0) (hn : t0.length ≤ N) :
    Calls Try.prog 46 #[.pointer (some ⟨g, 0, none⟩), .agg #[.slice ad0 t0.length cp0]] w (TreeSR (P + 60) (T + 1580) (N + 3) g a cap zs 10 p w) := by
  obtain ⟨i0, hi, hz0, hz1, hzi⟩ := info_parts Try.infoEntry
  have hglt := h.lt
  have hal : Below w.heap.size w ((w.alloc (.cells #[.slice ad0 t0.length cp0] 29)).alloc (.cells #[.slice none 0 0] 29)) := ((Below.refl _ _).alloc (Nat.le_refl _) _).alloc (by simp) _
  have r0 : ((w.alloc (.cells #[.slice ad0 t0.length cp0] 29)).alloc (.cells #[.slice none 0 0] 29)).cell? ⟨w.heap.size + 1, 0, none⟩ = some (.slice none 0 0) := by simp [go_sem]
  have rf0 : ((w.alloc (.cells #[.slice ad0 t0.length cp0] 29)).alloc (.cells #[.slice none 0 0] 29)).frozen? ⟨w.heap.size + 1, 0, none⟩ = false := by simp [go_sem]
  have hsz : ((w.alloc (.cells #[.slice ad0 t0.length cp0] 29)).alloc (.cells #[.slice none 0 0] 29)).heap.size = w.heap.size + 1 + 1 := by simp
  have hcp := l5CopyR_any ad0 cp0 t0 _ (hes.below hal) (by omega) hno
  go_enter Try.func46, Try.ntmps46
  go_wp2_with fail
  refine hcp.mono ?_
  rintro e w2 ⟨ad, cp, rfl, hrow, ⟨x, rfl⟩, hb2⟩
  clear hcp
  obtain ⟨rs, hrs⟩ : ∃ rs, rs = w.heap.size + 1 := ⟨_, rfl⟩
  rw [hsz, ← hrs] at hrow
  have hb2' := hal.trans (hb2.mono hal.size)
  have r2 := cell_later hb2 r0
  have rf2 : w2.frozen? ⟨w.heap.size + 1, 0, none⟩ = false := (hb2.frozen (p := ⟨w.heap.size + 1, 0, none⟩) (by rw [hsz]; show w.heap.size + 1 < _; omega)).trans rf0
  have hs2 : w.heap.size + 1 + 1 ≤ w2.heap.size := by have := hb2.size; omega
  rw [← hrs] at r2 rf2 ⊢
  obtain ⟨gb, rfl, hgb1, hgb2⟩ := row_block hrow
  have hba := below_oneD w2 (.cells #[.slice (some ⟨gb, 0, none⟩) t0.length cp] 29)
  have hL0 : LD6 g a cap zs w rs w2.heap.size (some ⟨gb, 0, none⟩) cp t0 p (w2.alloc (.cells #[.slice (some ⟨gb, 0, none⟩) t0.length cp] 29)) := by
    refine ⟨(h.below hb2').below hba, gr_trans (gr_below hb2') (gr_below hba), cell_later hba r2, (hba.frozen (p := ⟨rs, 0, none⟩) (by show rs < _; omega)).trans rf2, by simp, by simp, (el_of_row hrow).below hba, .inr (fun e => by simp [blk] at e; omega), by omega⟩
  have hrow3 := owns_below hrow hba
  have HO : Keep (rs = w.heap.size + 1 ∧ rs < w2.heap.size) := ⟨by omega⟩
  clear hrow r2 rf2 r0 rf0 hb2 hb2' hal hes hno hrs hs2 hba hsz hgb1 hgb2
  go_upto_if 15 with fail
  generalize w2.alloc (.cells #[.slice (some ⟨gb, 0, none⟩) t0.length cp] 29) = W3 at *
  generalize w2.heap.size = tb at *
  go_cut [17] (fun _ wx => SpI P T N g a cap zs w rs tb p wx)
  case first =>
    have t1 := hL0.tc
    have t2 := hL0.tf
    by_cases h0 : t0 = []
    · subst h0
      have hB : ((([] : List En).length : Int) == 0) = true := rfl
      have hrn : (W3.alloc (.cells #[.string ⟨#[97]⟩, .string ⟨#[]⟩, .bool false] 36)).ownsRow (rs + 1) 36 3 (.slice (some ⟨W3.heap.size, 0, none⟩) 1 1) 1 (ecells [⟨⟨#[97]⟩, ⟨#[]⟩, false⟩]) :=
        ⟨rfl, .inr ⟨W3.heap.size, 1, _, rfl, by have := hL0.ord; have := hL0.lt; omega, heap_alloc_new _ _, Nat.le_refl _, by unfold maxLen; omega, rfl, rfl⟩⟩
      have t1a := fun o => (hL0.al o).tc
      have t2a := fun o => (hL0.al o).tf
      have hLn := (hL0.al (.cells #[.string ⟨#[97]⟩, .string ⟨#[]⟩, .bool false] 36)).put (ad' := some ⟨W3.heap.size, 0, none⟩) (cp' := 1) (us := [⟨⟨#[97]⟩, ⟨#[]⟩, false⟩]) (el_of_row (cap := 1) hrn) (.inr (fun e => by have := hL0.lt; simp [blk] at e; omega))
      have hrn2 := hrn.kept (grown_set0 _ tb 0 (.slice (some ⟨W3.heap.size, 0, none⟩) 1 1)) (Or.inr (fun e => by have := hL0.lt; simp [Value.ownBlock] at e; omega))
      go_wp2_with fail
      go_meet
      case rel => exact ⟨W3.heap.size, 1, [⟨⟨#[97]⟩, ⟨#[]⟩, false⟩], hLn, by simp, by simp; omega, by simp [Asc], fun x hx => by rw [List.mem_singleton.1 hx]; exact ⟨by show 1 ≤ P; omega, Nat.zero_le _⟩, hrn2⟩
    · have hB : ((t0.length : Int) == 0) = false := by
        have : 0 < t0.length := List.length_pos_iff.2 h0
        simp
        exact h0
      go_wp2_with fail
      go_meet
      case rel => exact ⟨gb, cp, t0, hL0, h0, hn, hA, hT, hrow3⟩
  case rest =>
    clear hL0 hrow3
    obtain ⟨gb, cp, ts, hL, hne, hn, hA, hT, hrow⟩ := hcut
    have hgb : rs + 1 ≤ gb := by obtain ⟨k, e, h1, _⟩ := row_block hrow; cases e; exact h1
    have hgt : gb ≠ tb := by
      rcases hL.ap with h0 | h0
      · exact absurd h0 hne
      · exact fun e => h0 (by simp [blk, e])
    have hpos : 0 < ts.length := List.length_pos_iff.2 hne
    have hgr : g < rs + 1 := by have := hL.ord; omega
    have t0 := hL.tc
    go_wp2_with fail
    refine (pick_any g a cap zs p ts.length wc hL.rd (by omega) (by omega) (by omega)).mono ?_
    rintro e w4 ⟨k, rfl, hk, hg4, hR4⟩
    have hL4 := hL.step hg4 hR4
    have hrow4 := owns_rd hrow hg4 hgr
    clear hL hrow hg4 hR4 t0
    go_wp2_with fail
    refine (pick_any g a cap zs (p + 1) 5 w4 hL4.rd (by omega) (by omega) (by omega)).mono ?_
    rintro e w5 ⟨y, rfl, hy, hg5, hR5⟩
    have hL5 := hL4.step hg5 hR5
    have hrow5 := owns_rd hrow4 hg5 hgr
    have HRM : Keep (ts.length ≤ cp) := ⟨row_room hrow5⟩
    clear hL4 hrow4 hg5 hR5
    have hk' : (k : Int) < ts.length := by omega
    obtain ⟨x0, x1, x2⟩ : w5.cell? ⟨gb, k * 3, none⟩ = some (.string ts[k].path) ∧ w5.cell? ⟨gb, k * 3 + 1, none⟩ = some (.string ts[k].text) ∧ w5.cell? ⟨gb, k * 3 + 2, none⟩ = some (.bool ts[k].runs) := by
      rcases hL5.el with h0 | ⟨g', e, _, _, _, h4⟩
      · exact absurd h0 hne
      · cases e; exact h4 k hk
    have hkT := hT _ (List.getElem_mem hk)
    have t5 := hL5.tc
    by_cases q0 : y = 0
    · have hB0 : ((y : Int) == 0) = true := by simp; omega
      clear q0
      obtain ⟨xp, hxp⟩ : ∃ xp, xp = ts[k].path := ⟨_, rfl⟩
      rw [← hxp] at x0
      have hxz : xp.size ≤ P := by rw [hxp]; exact hkT.1
      clear hxp
      have hsp := spoilS_any g a cap zs (p + 1 + 1) xp w5.drew hL5.drew.rd (by omega) (by omega)
      have HL : Keep (LD6 g a cap zs w rs tb (some ⟨gb, 0, none⟩) cp ts (p + 1 + 1) w5.drew) := ⟨hL5.drew⟩
      have hafter : ∀ (W' : World) (p6 : Nat), w5.drew.grownBy W' (some g) → Rd W' g a cap zs p6 → LD6 g a cap zs w rs tb (some ⟨gb, 0, none⟩) cp ts p6 W' ∧ (∀ j, W'.frozen? ⟨gb, j, none⟩ = false) ∧ W'.cell? ⟨gb, k * 3, none⟩ = some (.string xp) := fun W' p6 hg hR => by
        have h6 := HL.out.step hg hR
        refine ⟨h6, fun j => ?_, hg.cell (a := ⟨gb, k * 3, none⟩) x0 (by simp; omega)⟩
        rcases h6.el with h0 | ⟨g', e, _, _, h3, _⟩
        · exact absurd h0 hne
        · cases e; exact h3 j
      go_upto_region 11 with fail
      go_region_with (go_at_call 18; refine hsp.mono ?_; rintro e w6 ⟨o, rfl, ho, ⟨p6, hp6, hR6⟩, hg6⟩; have hA6 := hafter w6 p6 hg6 hR6; have tc6 := hA6.1.tc; have fz6 := hA6.2.1; have ck6 := hA6.2.2)
      all_goals
        have L7 := hA6.1.turn hne (hA6.1.el.setPath (s := o) hk) (by simp)
        have t7 := L7.tc
        have r7 := L7.rc
        have rf7 := L7.rf
        obtain ⟨b1, b2⟩ := L7.back (p := p) (K := 10) (by omega)
        have hTn : Tiny (P + 60) (T + 1580) (ts.set k ⟨o, ts[k].text, ts[k].runs⟩) := (hT.wide (by omega) (by omega)).set ⟨by show o.size ≤ P + 60; omega, by show ts[k].text.size ≤ T + 1580; omega⟩
        have hln : (ts.set k ⟨o, ts[k].text, ts[k].runs⟩).length = ts.length := by simp
        generalize ts.set k ⟨o, ts[k].text, ts[k].runs⟩ = us at *
        rw [hln] at t7 b1 b2
        have HLN : Keep (us.length = ts.length) := ⟨hln⟩
        clear hln hA6 tc6 fz6 ck6 hsp hafter HL L7 t5
        go_wp2
        refine bodyPost_ret (v := .agg #[.slice (some ⟨gb, 0, none⟩) ts.length cp]) ?_ rfl ⟨some ⟨gb, 0, none⟩, cp, us, by rw [HLN.out], b1, by rw [HLN.out]; omega, hTn, .inl ⟨_, rfl⟩, b2, by rw [HLN.out]; exact HRM.out⟩
        go_light
        simp [results, Try.results46, go_sem, r7]
    have hB0 : ((y : Int) == 0) = false := by simp; omega
    by_cases q1 : y = 1
    · have hB1 : ((y : Int) == 1) = true := by simp; omega
      clear q0 q1
      have HL : Keep (LD6 g a cap zs w rs tb (some ⟨gb, 0, none⟩) cp ts (p + 1 + 1) w5.drew) := ⟨hL5.drew⟩
      have hpk := pick_any g a cap zs (p + 1 + 1) 2 w5.drew hL5.drew.rd (by omega) (by omega) (by omega)
      have hmany : ∀ (z : Nat) (W : World), z < 2 → Calls Try.prog 19 #[.string ⟨#[116]⟩, .int .i64 (1500 + (z : Int))] W fun e w' => ∃ o : ByteArray, e = .returned (.string o) ∧ o.size ≤ 1501 ∧ W = w' := fun z W hz => by
        have := many_any ⟨#[116]⟩ (1500 + z) W (by show 1 * (1500 + z) ≤ _; omega) (by omega) (by show 1 ≤ 1; omega) (by show 1 ≤ _; omega)
        rw [show ((1500 + z : Nat) : Int) = 1500 + (z : Int) by omega] at this
        exact this.mono (fun e w' ⟨o, h1, h2, h3⟩ => ⟨o, h1, by rw [h2]; show 1 * (1500 + z) ≤ _; omega, h3⟩)
      have hafter : ∀ (W' : World) (p6 : Nat), w5.drew.grownBy W' (some g) → Rd W' g a cap zs p6 → LD6 g a cap zs w rs tb (some ⟨gb, 0, none⟩) cp ts p6 W' ∧ (∀ j, W'.frozen? ⟨gb, j, none⟩ = false) ∧ W'.cell? ⟨gb, k * 3 + 1, none⟩ = some (.string ts[k].text) := fun W' p6 hg hR => by
        have h6 := HL.out.step hg hR
        refine ⟨h6, fun j => ?_, hg.cell (a := ⟨gb, k * 3 + 1, none⟩) x1 (by simp; omega)⟩
        rcases h6.el with h0 | ⟨g', e, _, _, h3, _⟩
        · exact absurd h0 hne
        · cases e; exact h3 j
      go_upto_region 13 with fail
      go_region_with (first
        | (go_at_call 16; refine hpk.mono ?_; rintro e w6 ⟨z, rfl, hz, hg6, hR6⟩; obtain ⟨M, hM, hwM⟩ : ∃ M : Int, 1500 + (z : Int) = M ∧ IntKind.i64.wrap (1500 + (z : Int)) = M := ⟨_, rfl, (by rw [IntKind.wrap_i64]; omega)⟩; have hmM : ∀ W, Calls Try.prog 19 #[.string ⟨#[116]⟩, .int .i64 M] W fun e w' => ∃ o : ByteArray, e = .returned (.string o) ∧ o.size ≤ 1501 ∧ W = w' := (fun W => hM ▸ hmany z W hz); clear hM; have hA6 := hafter w6 (p + 1 + 1 + 1) hg6 hR6; have tc6 := hA6.1.tc; have fz6 := hA6.2.1; have ck6 := hA6.2.2)
        | (go_at_call 19; refine (hmM _).mono ?_; rintro e w7 ⟨o, rfl, ho, rfl⟩))
      all_goals
        have L7 := hA6.1.turn hne (hA6.1.el.setText (s := o) hk) (by simp)
        have t7 := L7.tc
        have r7 := L7.rc
        have rf7 := L7.rf
        obtain ⟨b1, b2⟩ := L7.back (p := p) (K := 10) (by omega)
        have hTn : Tiny (P + 60) (T + 1580) (ts.set k ⟨ts[k].path, o, ts[k].runs⟩) := (hT.wide (by omega) (by omega)).set ⟨by show ts[k].path.size ≤ P + 60; omega, by show o.size ≤ T + 1580; omega⟩
        have hln : (ts.set k ⟨ts[k].path, o, ts[k].runs⟩).length = ts.length := by simp
        generalize ts.set k ⟨ts[k].path, o, ts[k].runs⟩ = us at *
        rw [hln] at t7 b1 b2
        have HLN : Keep (us.length = ts.length) := ⟨hln⟩
        clear hln hA6 tc6 fz6 ck6 hpk hmany hafter HL L7 t5
        go_wp2
        refine bodyPost_ret (v := .agg #[.slice (some ⟨gb, 0, none⟩) ts.length cp]) ?_ rfl ⟨some ⟨gb, 0, none⟩, cp, us, by rw [HLN.out], b1, by rw [HLN.out]; omega, hTn, .inl ⟨_, rfl⟩, b2, by rw [HLN.out]; exact HRM.out⟩
        go_light
        simp [results, Try.results46, go_sem, r7]
    have hB1 : ((y : Int) == 1) = false := by simp; omega
    by_cases q2 : y = 2
    · have hB2 : ((y : Int) == 2) = true := by simp; omega
      clear q0 q1 q2
      have hb1 : Below w5.heap.size w5 ((w5.alloc (.cells #[.string ts[k].path, .string ts[k].text, .bool ts[k].runs] 36)).drew) := ((Below.refl _ _).alloc (Nat.le_refl _) _).drew
      have o1a : ∀ o, (w5.alloc o).cell? ⟨tb, 0, none⟩ = some (.slice (some ⟨gb, 0, none⟩) ts.length cp) := fun o => (hL5.al o).tc
      have hLb := hL5.later hb1
      have hrl := hL5.ltr
      have htl := hL5.lt
      go_upto_region 15 with fail
      go_region_law (refine step_append_lies _ rfl _ _ 27 rfl (rs + 1) 36 i0 _ 3 40 Try.underlying27 hi hz0 hz1 hzi rfl (by decide) (.slice (some ⟨gb, 0, none⟩) ts.length cp) ts.length (ecells ts) rfl (by exact owns_below hrow5 hb1) ⟨w5.heap.size, 0, none⟩ 1 1 (ecell ts[k]) rfl rfl (by exact news_3 _ _ _ _ (by simp)) (by exact one_3 _) (by omega) (by unfold maxLen; omega) (by omega) (by simp; omega) (w5.heap.size + 1) (by simp) ?_; intro g3 cap3 w7 hown3 hgrow3 hat3 hlt3; have hb7 := hgrow3.block tb (by exact hLb.lt) (by exact fun e => hgt (by simpa [Value.ownBlock] using e.symm)); have hc3 := (World.cell?_of_block hb7 : w7.cell? ⟨tb, 0, none⟩ = _).trans hLb.tc; have hf3 := fz_blk hb7 hLb.tf)
      all_goals
        have hg3t : g3 ≠ tb := by
          rcases hat3 with h3 | h3
          · intro e; simp [Value.ownBlock] at h3; omega
          · omega
        have L7 := hLb.append (e := ts[k]) hgb hgt hgrow3 hown3 hg3t
        have t7 := L7.tc
        have r7 := L7.rc
        have rf7 := L7.rf
        obtain ⟨b1, b2⟩ := L7.back (p := p) (K := 10) (by omega)
        have hTn : Tiny (P + 60) (T + 1580) (ts ++ [ts[k]]) := fun x hx => by
          rcases List.mem_append.1 hx with h1 | h1
          · exact (hT.wide (by omega) (by omega)) x h1
          · rw [List.mem_singleton.1 h1]; exact (hT.wide (by omega) (by omega)) _ (List.getElem_mem hk)
        have hln : (ts ++ [ts[k]]).length = ts.length + 1 := by simp
        generalize ts ++ [ts[k]] = us at *
        rw [hln] at t7 b1 b2
        have HLN : Keep (us.length = ts.length + 1) := ⟨hln⟩
        have HR3 : Keep (ts.length + 1 ≤ cap3) := ⟨row_room hown3⟩
        clear hln hc3 hf3 hb7 hgrow3 hown3 hat3 hlt3 L7 t5 o1a hLb hb1
        go_wp2
        refine bodyPost_ret (v := .agg #[.slice (some ⟨g3, 0, none⟩) (ts.length + 1) cap3]) ?_ rfl ⟨some ⟨g3, 0, none⟩, cap3, us, by rw [HLN.out], b1, by rw [HLN.out]; omega, hTn, .inl ⟨_, rfl⟩, b2, by rw [HLN.out]; exact HR3.out⟩
        go_light
        simp [results, Try.results46, go_sem, r7]
    have hB2 : ((y : Int) == 2) = false := by simp; omega
    clear hrow5
    by_cases q3 : y = 3
    · have hB3 : ((y : Int) == 3) = true := by simp; omega
      clear q0 q1 q2 q3 t5 x0 x1 x2
      go_wp2_with fail
      refine (pick_any g a cap zs (p + 1 + 1) 2 w5 hL5.rd (by omega) (by omega) (by omega)).mono ?_
      rintro e w6 ⟨z, rfl, hz, hg6, hR6⟩
      have hL6 := hL5.step hg6 hR6
      have HA : Keep (Asc ts ∧ Tiny P T ts ∧ NilOk (some ⟨gb, 0, none⟩) cp ∧ ts.length ≤ cp) := ⟨⟨hA, hT, .inl ⟨_, rfl⟩, HRM.out⟩⟩
      clear hL5 hg6 hR6 hA hT hkT
      go_wp2
      go_loopw [8] (fun i wr => ∃ (j : Nat) (ad : Option Addr) (cp : Nat) (us : List En), i = .int .i64 j ∧ Keep (HasZ j us) ∧ j ≤ 101 ∧ LD6 g a cap zs w rs tb ad cp us (p + 1 + 1 + 1) wr ∧ Keep (Asc us ∧ Tiny (P + 60) T us ∧ NilOk ad cp ∧ us.length ≤ cp) ∧ us.length ≤ N + 3) (fun i _ => 102 - (intOf i).toNat)
      case atStart => exact ⟨0, _, cp, ts, rfl, ⟨fun j hj => by omega⟩, Nat.zero_le _, hL6, ⟨⟨HA.out.1, HA.out.2.1.wide (by omega) (Nat.le_refl _), HA.out.2.2⟩⟩, by omega⟩
      case round =>
        clear hL6 HA
        obtain ⟨j, ad, cp, us, rfl, HZ, hj, hL, HT, hnn⟩ := hrel
        have t1 := hL.tc
        have t2 := hL.tf
        have hkl := HZ.out.count (by omega)
        by_cases hlt : (us.length : Int) < 100 + z
        · have hk99 : j ≤ 100 := by omega
          have hcv := conv_two (97 + (j : Int) / 26) (97 + (j : Int) % 26) wr
          have hLa := hL.al (.cells #[.int .u8 (97 + (j : Int) / 26), .int .u8 (97 + (j : Int) % 26)] 5)
          have hset := l5SetC_any ad cp us ⟨zp j, ⟨#[]⟩, false⟩ _ hLa.el.es (by omega) HT.out.1
          have hc3 : ¬ 9223372036854775807 < 1 + (strOfNums [97 + (j : Int) / 26, 97 + (j : Int) % 26]).size := by rw [strOfNums_size]; simp
          go_wp2_with fail
          refine hset.mono ?_
          rintro e w7 ⟨ad5, cap5, us5, rfl, hrel5, hel5, hb5, hlen5, hrm5⟩
          have hL5 := hLa.later hb5
          have t3 := hL5.tc
          have t4 := hL5.tf
          have hL7 := hL5.putNew (cp' := cap5) hel5 hLa.lt
          have HZ5 : Keep (HasZ (j + 1) us5) := ⟨HZ.out.set rfl hrel5⟩
          have HT5 : Keep (Asc us5 ∧ Tiny (P + 60) T us5 ∧ NilOk ad5 cap5 ∧ us5.length ≤ cap5) := ⟨⟨hrel5.asc, HT.out.2.1.setRel ⟨by rw [zp_size]; omega, Nat.zero_le _⟩ hrel5, NilOk.ne hel5 (setRel_ne hrel5), hrm5⟩⟩
          clear hset hcv hLa hL hL5 t1 t2 hb5 hel5 hrel5 hc3
          go_wp2
          go_roundw
          case rel => exact ⟨j + 1, ad5, cap5, us5, by congr 1, HZ5, by omega, hL7, HT5, by omega⟩
          case measure => simp only [intOf]; omega
        · have t3 := hL.rc
          have t4 := hL.rf
          obtain ⟨he1, he2⟩ := hL.back (p := p) (K := 10) (by omega)
          clear hL
          go_wp2
          refine bodyPost_ret (v := .agg #[.slice ad us.length cp]) ?_ rfl ⟨ad, cp, us, rfl, he1, by omega, HT.out.2.1.wide (by omega) (by omega), HT.out.2.2.1, he2, HT.out.2.2.2⟩
          go_light
          simp [results, Try.results46, go_sem, t3]
    have hB3 : ((y : Int) == 3) = false := by simp; omega
    clear q0 q1 q2 q3 x1 x2
    have hcI : ¬ 9223372036854775807 < ts[k].path.size + 3 := by omega
    have hcJ : ¬ 9223372036854775807 < ts[k].path.size + 2 := by omega
    have hset := l5SetC_any (some ⟨gb, 0, none⟩) cp ts ⟨ts[k].path ++ ⟨#[47, 105, 110]⟩, ⟨#[]⟩, false⟩ w5 hL5.el.es (by omega) hA
    go_wp2_with fail
    refine hset.mono ?_
    rintro e w6 ⟨ad6, cap6, us6, rfl, hrel6, hel6, hb6, hlen6, hrm6⟩
    have hL6 := hL5.later hb6
    have t3 := hL6.tc
    have t4 := hL6.tf
    have hL7 := hL6.putNew (cp' := cap6) hel6 hL5.lt
    have HT6 : Keep (Asc us6 ∧ Tiny (P + 60) T us6 ∧ NilOk ad6 cap6 ∧ us6.length ≤ cap6) := ⟨⟨hrel6.asc, (hT.wide (by omega) (Nat.le_refl _)).setRel ⟨by show (ts[k].path ++ _).size ≤ P + 60; rw [ByteArray.size_append]; show ts[k].path.size + 3 ≤ P + 60; omega, Nat.zero_le _⟩ hrel6, NilOk.ne hel6 (setRel_ne hrel6), hrm6⟩⟩
    have hl6 : us6.length ≤ N + 1 := by omega
    have hkz := hkT.1
    clear hset hL5 hL6 hb6 hel6 hrel6 t5 x0 hlen6
    generalize ts[k].path = xp at *
    have hpk2 := pick_any g a cap zs (p + 1 + 1) 2 _ hL7.rd (by omega) (by omega) (by omega)
    go_wp2_with fail
    refine hpk2.mono ?_
    rintro e w8 ⟨z, rfl, hz, hg8, hR8⟩
    have hL8 := hL7.step hg8 hR8
    clear hL7 hg8 hR8 t3 t4 hpk2
    have t8 := hL8.tc
    by_cases z0 : z = 0
    · have hBz : ((z : Int) == 0) = true := by simp; omega
      clear z0
      have hset := l5SetC_any ad6 cap6 us6 ⟨xp ++ ⟨#[33, 98]⟩, ⟨#[]⟩, false⟩ w8 hL8.el.es (by omega) HT6.out.1
      go_wp2_with fail
      refine hset.mono ?_
      rintro e w9 ⟨ad9, cap9, us9, rfl, hrel9, hel9, hb9, hlen9, hrm9⟩
      have hL9 := hL8.later hb9
      have t3 := hL9.tc
      have t4 := hL9.tf
      have hL10 := hL9.putNew (cp' := cap9) hel9 hL8.lt
      have t9 := hL10.tc
      have r9 := hL10.rc
      have rf9 := hL10.rf
      have hn9 := NilOk.ne (cp := cap9) hel9 (setRel_ne hrel9)
      obtain ⟨he1, he2⟩ := hL10.back (p := p) (K := 10) (by omega)
      have hT9 : Tiny (P + 60) (T + 1580) us9 := ((HT6.out.2.1).setRel ⟨by show (xp ++ _).size ≤ P + 60; rw [ByteArray.size_append]; show xp.size + 2 ≤ P + 60; omega, Nat.zero_le _⟩ hrel9).wide (Nat.le_refl _) (by omega)
      clear hset hL8 hL9 hL10 hb9 hel9 hrel9 t8
      go_wp2
      refine bodyPost_ret (v := .agg #[.slice ad9 us9.length cap9]) ?_ rfl ⟨ad9, cap9, us9, rfl, he1, by omega, hT9, hn9, he2, hrm9⟩
      go_light
      simp [results, Try.results46, go_sem, r9]
    · have hBz : ((z : Int) == 0) = false := by simp; omega
      clear z0
      have r9 := hL8.rc
      have rf9 := hL8.rf
      obtain ⟨he1, he2⟩ := hL8.back (p := p) (K := 10) (by omega)
      clear hL8
      go_wp2
      refine bodyPost_ret (v := .agg #[.slice ad6 us6.length cap6]) ?_ rfl ⟨ad6, cap6, us6, rfl, he1, by omega, HT6.out.2.1.wide (Nat.le_refl _) (by omega), HT6.out.2.2.1, he2, HT6.out.2.2.2⟩
      go_light
      simp [results, Try.results46, go_sem, r9]
theorem l5Spoil_any (g : Nat) (a : Option Addr) (cap : Nat) (zs : List Int) (p : Nat) (ad0 : Option Addr) (cp0 : Nat) (t0 : List En) (w : World) (h : Rd w g a cap zs p) (hp : p ≤ 10000000) (hes : ES w ad0 t0) (hno : NilOk ad0 cp0) (hA : Asc t0) (hT : Tiny 40 20 t0) (hn : t0.length ≤ 100) :
    Calls Try.prog 46 #[.pointer (some ⟨g, 0, none⟩), .agg #[.slice ad0 t0.length cp0]] w (TreeS 100 1600 103 g a cap zs 10 p w) :=
  (l5SpoilB_any 40 20 100 (by omega) (by omega) (by omega) (by omega) (by omega) g a cap zs p ad0 cp0 t0 w h hp hes hno hA hT hn).mono (fun _ _ ⟨ad, cp, ts, h1, h2, h3, h4, h5, h6, _⟩ => ⟨ad, cp, ts, h1, h2, h3, h4, h5, h6⟩)
end Go.Proofs.Ytcajheaacdeokaa

namespace Go.Proofs.Ytcajheaacdeokaa
open Go.RowKit

set_option maxRecDepth 100000 in
set_option maxHeartbeats 4000000 in
theorem l5Any_any (g : Nat) (a : Option Addr) (cap : Nat) (zs : List Int) (p : Nat) (w : World) (h : Rd w g a cap zs p) (hp : p ≤ 1000000) :
    Calls Try.prog 29 #[.pointer (some ⟨g, 0, none⟩)] w (TreeS 100 1600 103 g a cap zs 220 p w) := by
  have hglt := h.lt
  have hal := below_oneD w (.cells #[.slice none 0 0] 29)
  have r0 : (w.alloc (.cells #[.slice none 0 0] 29)).cell? ⟨w.heap.size, 0, none⟩ = some (.slice none 0 0) := by simp
  have rf0 : (w.alloc (.cells #[.slice none 0 0] 29)).frozen? ⟨w.heap.size, 0, none⟩ = false := by simp
  have hdr := l5Draw_any g a cap zs p _ (h.below hal) (by omega)
  have hne : some w.heap.size ≠ some g := by simp; omega
  have hsz : (w.alloc (.cells #[.slice none 0 0] 29)).heap.size = w.heap.size + 1 := by simp
  go_enter Try.func29, Try.ntmps29
  go_wp2_with fail
  refine hdr.mono ?_
  rintro e w2 ⟨ad, cp, ts, rfl, hel, hn, hA, hT, hNil, ⟨p2, hp2, hR2⟩, hg2⟩
  rw [hsz] at hel
  have r2 := hg2.cell (a := ⟨w.heap.size, 0, none⟩) r0 hne
  have rf2 : w2.frozen? ⟨w.heap.size, 0, none⟩ = false := fz_blk (hg2.block w.heap.size (by rw [hsz]; omega) hne) rf0
  have hgw := gr_trans (gr_below (row := some g) hal) hg2
  obtain ⟨rs, hrs⟩ : ∃ rs, rs = w.heap.size := ⟨_, rfl⟩
  rw [← hrs] at r2 rf2 hel hne ⊢
  have hrl : rs < w2.heap.size := World.block_lt_of_cell? w2 ⟨rs, 0, none⟩ r2
  have hgr : g < rs := by omega
  have HO : Keep (rs = w.heap.size) := ⟨hrs⟩
  clear hdr hal r0 rf0 hg2 hsz hrs h
  have hba := below_oneD w2 (.cells #[.slice ad ts.length cp] 29)
  have t3 : (w2.alloc (.cells #[.slice ad ts.length cp] 29)).cell? ⟨w2.heap.size, 0, none⟩ = some (.slice ad ts.length cp) := by simp
  have hpk := pick_any g a cap zs p2 10 _ (hR2.below hba) (by omega) (by omega) (by omega)
  go_wp2_with fail
  refine hpk.mono ?_
  rintro e w4 ⟨x, rfl, hx, hg4, hR4⟩
  have t4 := hg4.cell (a := ⟨w2.heap.size, 0, none⟩) t3 (by simp; omega)
  have r4 := hg4.cell (a := ⟨rs, 0, none⟩) (cell_later hba r2) (by simp; omega)
  have rf4 : w4.frozen? ⟨rs, 0, none⟩ = false := fz_blk (hg4.block rs (by simp; omega) (by simp; omega)) ((hba.frozen (p := ⟨rs, 0, none⟩) hrl).trans rf2)
  have hel4 : EL (rs + 1) w4 ad ts := (hel.below hba).grown hg4 (fun k _ hk _ e => by cases e; omega)
  have hgw4 := gr_trans (gr_trans hgw (gr_below (row := some g) hba)) hg4
  generalize w2.heap.size = tb at *
  clear hpk t3 hba r2 rf2 hel hgw hg4 hR2
  have hback : ∀ (W : World) (ad : Option Addr) (cp : Nat) (us : List En) (p5 : Nat), W.cell? ⟨rs, 0, none⟩ = some (.slice none 0 0) → EL (rs + 1) W ad us → Rd W g a cap zs p5 → w.grownBy W (some g) → p5 ≤ p + 220 → EL w.heap.size (W.setCell ⟨rs, 0, none⟩ (.slice ad us.length cp)) ad us ∧ Dr g a cap zs w (W.setCell ⟨rs, 0, none⟩ (.slice ad us.length cp)) p 220 := fun W ad cp us p5 _ he hR hg hp5 => by
    have hs : W.grownBy (W.setCell ⟨rs, 0, none⟩ (.slice ad us.length cp)) (some rs) := grown_set W rs 0 _
    have ho := HO.out
    exact ⟨(he.grown hs (fun k _ hk _ e => by cases e; omega)).mono (by omega), ⟨p5, hp5, hR.kept hs (fun k e => by cases e; omega)⟩, gr_own hg hs (fun j e => by cases e; omega)⟩
  by_cases x0 : x = 0
  · have hB : ((x : Int) == 0) = true := by simp; omega
    clear x0
    have hsp := l5Spoil_any g a cap zs (p2 + 1) ad cp ts w4 hR4 (by omega) hel4.es hNil hA hT hn
    go_wp2_with fail
    refine hsp.mono ?_
    rintro e w5 ⟨ad5, cp5, us, rfl, hel5, hn5, hT5, hN5, ⟨p5, hp5, hR5⟩, hg5⟩
    have r4l : rs < w4.heap.size := World.block_lt_of_cell? w4 ⟨rs, 0, none⟩ r4
    have r5 := hg5.cell (a := ⟨rs, 0, none⟩) r4 (by simp; omega)
    have rf5 : w5.frozen? ⟨rs, 0, none⟩ = false := fz_blk (hg5.block rs r4l (by simp; omega)) rf4
    obtain ⟨b1, b2⟩ := hback w5 ad5 cp5 us p5 r5 (hel5.mono (by omega)) hR5 (gr_trans hgw4 hg5) (by omega)
    clear hsp hback
    go_wp2
    refine bodyPost_ret (v := .agg #[.slice ad5 us.length cp5]) ?_ rfl ⟨ad5, cp5, us, rfl, b1, hn5, hT5, hN5, b2⟩
    go_light
    simp [results, Try.results29, go_sem, r5]
  · have hB : ((x : Int) == 0) = false := by simp; omega
    clear x0
    obtain ⟨b1, b2⟩ := hback w4 ad cp ts (p2 + 1) r4 hel4 hR4 hgw4 (by omega)
    clear hback
    go_wp2
    refine bodyPost_ret (v := .agg #[.slice ad ts.length cp]) ?_ rfl ⟨ad, cp, ts, rfl, b1, by omega, hT.wide (by omega) (by omega), hNil, b2⟩
    go_light
    simp [results, Try.results29, go_sem, r4]
end Go.Proofs.Ytcajheaacdeokaa

namespace Go.Proofs.Ytcajheaacdeokaa
open Go.RowKit

/-- An entry in a box. -/
structure EBx (b : Nat) (en : En) (W : World) : Prop where
  c0 : W.cell? ⟨b, 0, none⟩ = some (.string en.path)
  c1 : W.cell? ⟨b, 1, none⟩ = some (.string en.text)
  c2 : W.cell? ⟨b, 2, none⟩ = some (.bool en.runs)
  fz : ∀ j, W.frozen? ⟨b, j, none⟩ = false
theorem EBx.lt {b : Nat} {en : En} {W : World} (h : EBx b en W) : b < W.heap.size := World.block_lt_of_cell? W ⟨b, 0, none⟩ h.c0
theorem EBx.grown {b : Nat} {en : En} {W W' : World} {row : Option Nat} (h : EBx b en W) (hg : W.grownBy W' row) (hne : some b ≠ row) : EBx b en W' := by
  have k := hg.block b h.lt hne
  exact ⟨(World.cell?_of_block k).trans h.c0, (World.cell?_of_block k).trans h.c1, (World.cell?_of_block k).trans h.c2, fun j => fz_blk k (h.fz j)⟩
theorem EBx.later {b : Nat} {en : En} {W W' : World} (h : EBx b en W) (hb : Below W.heap.size W W') : EBx b en W' := h.grown (row := none) (gr_below hb) (by simp)
theorem EBx.path {b : Nat} {en : En} {W : World} (h : EBx b en W) (s : ByteArray) : EBx b ⟨s, en.text, en.runs⟩ (W.setCell ⟨b, 0, none⟩ (.string s)) :=
  ⟨World.cell?_setCell_same _ _ _ h.c0, (World.cell?_setCell_other _ _ _ _ (by simp)).trans h.c1, (World.cell?_setCell_other _ _ _ _ (by simp)).trans h.c2, fun j => (World.frozen?_setCell _ _ _ _).trans (h.fz j)⟩
theorem EBx.txt {b : Nat} {en : En} {W : World} (h : EBx b en W) (s : ByteArray) : EBx b ⟨en.path, s, en.runs⟩ (W.setCell ⟨b, 1, none⟩ (.string s)) :=
  ⟨(World.cell?_setCell_other _ _ _ _ (by simp)).trans h.c0, World.cell?_setCell_same _ _ _ h.c1, (World.cell?_setCell_other _ _ _ _ (by simp)).trans h.c2, fun j => (World.frozen?_setCell _ _ _ _).trans (h.fz j)⟩
theorem el_setJ {B g j : Nat} {w : World} {a : Option Addr} {ts : List En} {u : Value} (h : EL B w a ts) (hg : g < B) : EL B (w.setCell ⟨g, j, none⟩ u) a ts :=
  h.grown (row := some g) ⟨rfl, rfl, rfl, by simp, fun k _ hk => Below.heap_setCell _ _ _ _ (fun e => hk (by rw [e]))⟩ (fun k _ hk _ e => by cases e; omega)
theorem code_later {w w' : World} {a : Option Addr} {cap : Nat} {zs : List Int} (h : Code0 w a cap zs) (hb : Below w.heap.size w w') : Code0 w' a cap zs :=
  ⟨by
    rcases h.bytes with h0 | ⟨b, off, h1, h2, h3⟩
    · exact .inl h0
    · exact .inr ⟨b, off, h1, Nat.lt_of_lt_of_le h2 hb.size, fun i hi => cell_later hb (h3 i hi)⟩, h.len, h.cap, h.wf⟩
theorem el_drew {B : Nat} {w : World} {a : Option Addr} {ts : List En} (h : EL B w a ts) : EL B w.drew a ts := h.below (Below.refl _ _).drew
end Go.Proofs.Ytcajheaacdeokaa

namespace Go.Proofs.Ytcajheaacdeokaa
open Go.RowKit

theorem lit5g (q : Nat) (hq : q < 5) : ∃ c : ByteArray, c.size ≤ 2 ∧ (#[.string ⟨#[42]⟩, .string ⟨#[42, 42]⟩, .string ⟨#[97]⟩, .string ⟨#[63]⟩, .string ⟨#[98, 42]⟩] : Array Value)[q]? = some (.string c) ∧ ∀ h, ([.string ⟨#[42]⟩, .string ⟨#[42, 42]⟩, .string ⟨#[97]⟩, .string ⟨#[63]⟩, .string ⟨#[98, 42]⟩] : List Value)[q]'h = .string c := by
  match q, hq with
  | 0, _ => exact ⟨_, by decide, rfl, fun _ => rfl⟩
  | 1, _ => exact ⟨_, by decide, rfl, fun _ => rfl⟩
  | 2, _ => exact ⟨_, by decide, rfl, fun _ => rfl⟩
  | 3, _ => exact ⟨_, by decide, rfl, fun _ => rfl⟩
  | 4, _ => exact ⟨_, by decide, rfl, fun _ => rfl⟩
theorem lit9g (q : Nat) (hq : q < 9) : ∃ c : ByteArray, c.size ≤ 3 ∧ (#[.string ⟨#[42]⟩, .string ⟨#[42, 42]⟩, .string ⟨#[120, 42]⟩, .string ⟨#[63]⟩, .string ⟨#[42, 120, 42]⟩, .string ⟨#[63, 63]⟩, .string ⟨#[42, 46, 107]⟩, .string ⟨#[120]⟩, .string ⟨#[97]⟩] : Array Value)[q]? = some (.string c) ∧ ∀ h, ([.string ⟨#[42]⟩, .string ⟨#[42, 42]⟩, .string ⟨#[120, 42]⟩, .string ⟨#[63]⟩, .string ⟨#[42, 120, 42]⟩, .string ⟨#[63, 63]⟩, .string ⟨#[42, 46, 107]⟩, .string ⟨#[120]⟩, .string ⟨#[97]⟩] : List Value)[q]'h = .string c := by
  match q, hq with
  | 0, _ => exact ⟨_, by decide, rfl, fun _ => rfl⟩
  | 1, _ => exact ⟨_, by decide, rfl, fun _ => rfl⟩
  | 2, _ => exact ⟨_, by decide, rfl, fun _ => rfl⟩
  | 3, _ => exact ⟨_, by decide, rfl, fun _ => rfl⟩
  | 4, _ => exact ⟨_, by decide, rfl, fun _ => rfl⟩
  | 5, _ => exact ⟨_, by decide, rfl, fun _ => rfl⟩
  | 6, _ => exact ⟨_, by decide, rfl, fun _ => rfl⟩
  | 7, _ => exact ⟨_, by decide, rfl, fun _ => rfl⟩
  | 8, _ => exact ⟨_, by decide, rfl, fun _ => rfl⟩

set_option maxRecDepth 20000 in
set_option maxHeartbeats 4000000 in
theorem glob_any (g : Nat) (a : Option Addr) (cap : Nat) (zs : List Int) (p : Nat) (w : World) (h : Rd w g a cap zs p) (hp : p ≤ 100000000) :
    Calls Try.prog 15 #[.pointer (some ⟨g, 0, none⟩)] w fun e w' => ∃ s : ByteArray, e = .returned (.string s) ∧ s.size ≤ 14 ∧ Dr g a cap zs w w' p 5 := by
  have hglt := h.lt
  have hpk := pick_any g a cap zs p 5 (w.alloc (.cells #[.string ⟨#[42]⟩, .string ⟨#[42, 42]⟩, .string ⟨#[97]⟩, .string ⟨#[63]⟩, .string ⟨#[98, 42]⟩] 9)) (h.below (below_oneD _ _)) (by omega) (by omega) (by omega)
  go_enter Try.func15, Try.ntmps15
  go_wp2_with fail
  refine hpk.mono ?_
  rintro e w1 ⟨x, rfl, hx, hg1, hR1⟩
  obtain ⟨s0, hs0, hL, hLL⟩ := lit5g x hx
  have hck : w1.cell? ⟨w.heap.size, x, none⟩ = some (.string s0) := hg1.cell (a := ⟨w.heap.size, x, none⟩) ((World.cell?_alloc_new w _ _ x).trans hL) (by simp; omega)
  have hxi : (x : Int) < 5 := by omega
  have hgw := gr_trans (gr_alloc (.cells #[.string ⟨#[42]⟩, .string ⟨#[42, 42]⟩, .string ⟨#[97]⟩, .string ⟨#[63]⟩, .string ⟨#[98, 42]⟩] 9) (gr_refl w (some g))) hg1
  clear hpk hL hg1 h
  go_wp2_with fail
  refine (pick_any g a cap zs (p + 1) 4 w1 hR1 (by omega) (by omega) (by omega)).mono ?_
  rintro e w2 ⟨y, rfl, hy, hg2, hR2⟩
  have hg02 := gr_trans hgw hg2
  clear hR1 hgw hg2 hck
  go_wp2
  go_loopw [3, 4] (fun o q wr => ∃ (o' : ByteArray) (q' p' : Nat), o = .string o' ∧ q = .int .i64 q' ∧ q' ≤ 3 ∧ o'.size + 4 * q' ≤ 14 ∧ p' + q' ≤ p + 5 ∧ Rd wr g a cap zs p' ∧ w.grownBy wr (some g)) (fun _ q _ => (intOf q).toNat)
  case atStart => exact ⟨s0, y, p + 1 + 1, rfl, rfl, by omega, by omega, by omega, hR2, hg02⟩
  case round =>
    obtain ⟨o, q, p', rfl, rfl, hq3, ho, hpq, hR, hg⟩ := hrel
    by_cases hq : 0 < q
    · have hq' : (0 : Int) < q := by omega
      have hc0 : ¬ 9223372036854775807 < o.size + 1 := by omega
      have hpk := pick_any g a cap zs p' 9 (wr.alloc (.cells #[.string ⟨#[42]⟩, .string ⟨#[42, 42]⟩, .string ⟨#[120, 42]⟩, .string ⟨#[63]⟩, .string ⟨#[42, 120, 42]⟩, .string ⟨#[63, 63]⟩, .string ⟨#[42, 46, 107]⟩, .string ⟨#[120]⟩, .string ⟨#[97]⟩] 9)) (hR.below (below_oneD _ _)) (by omega) (by omega) (by omega)
      go_wp2_with fail
      refine hpk.mono ?_
      rintro e w3 ⟨z, rfl, hz, hg3, hR3⟩
      obtain ⟨c, hc1, hL, hLL⟩ := lit9g z hz
      have hck : w3.cell? ⟨wr.heap.size, z, none⟩ = some (.string c) := hg3.cell (a := ⟨wr.heap.size, z, none⟩) ((World.cell?_alloc_new wr _ _ z).trans hL) (by have := hR.lt; simp; omega)
      have hzi : (z : Int) < 9 := by omega
      have hc2 : ¬ 9223372036854775807 < (o ++ ⟨#[47]⟩).size + c.size := by rw [ByteArray.size_append]; show ¬ _ < o.size + 1 + c.size; omega
      have hgx := gr_trans (gr_alloc (.cells #[.string ⟨#[42]⟩, .string ⟨#[42, 42]⟩, .string ⟨#[120, 42]⟩, .string ⟨#[63]⟩, .string ⟨#[42, 120, 42]⟩, .string ⟨#[63, 63]⟩, .string ⟨#[42, 46, 107]⟩, .string ⟨#[120]⟩, .string ⟨#[97]⟩] 9) hg) hg3
      have HZ : Hid ((o ++ ⟨#[47]⟩ ++ c).size + 4 * (q - 1) ≤ 14) := by
        have : (o ++ ⟨#[47]⟩ ++ c).size + 4 * (q - 1) ≤ 14 := by
          rw [ByteArray.size_append, ByteArray.size_append]
          show o.size + 1 + c.size + _ ≤ 14
          omega
        exact this
      clear hpk hL hR hg hg3 ho
      go_wp2
      go_roundw
      case rel => exact ⟨_, q - 1, p' + 1, rfl, by congr 1; omega, by omega, HZ.out, by omega, hR3, hgx⟩
      case measure => simp only [intOf]; omega
    · obtain rfl : q = 0 := by omega
      go_wp2
      go_ret
      exact ⟨o, rfl, by omega, ⟨p', by omega, hR⟩, hg⟩
end Go.Proofs.Ytcajheaacdeokaa

namespace Go.Proofs.Ytcajheaacdeokaa
open Go.RowKit

theorem lit6m (A B C D E F : ByteArray) (m : Nat) (hA : A.size ≤ m) (hB : B.size ≤ m) (hC : C.size ≤ m) (hD : D.size ≤ m) (hE : E.size ≤ m) (hF : F.size ≤ m) (q : Nat) (hq : q < 6) : ∃ c : ByteArray, c.size ≤ m ∧ (#[.string A, .string B, .string C, .string D, .string E, .string F] : Array Value)[q]? = some (.string c) ∧ ∀ h, ([.string A, .string B, .string C, .string D, .string E, .string F] : List Value)[q]'h = .string c := by
  match q, hq with
  | 0, _ => exact ⟨_, hA, rfl, fun _ => rfl⟩
  | 1, _ => exact ⟨_, hB, rfl, fun _ => rfl⟩
  | 2, _ => exact ⟨_, hC, rfl, fun _ => rfl⟩
  | 3, _ => exact ⟨_, hD, rfl, fun _ => rfl⟩
  | 4, _ => exact ⟨_, hE, rfl, fun _ => rfl⟩
  | 5, _ => exact ⟨_, hF, rfl, fun _ => rfl⟩
theorem lit2m (A B : ByteArray) (m : Nat) (hA : A.size ≤ m) (hB : B.size ≤ m) (q : Nat) (hq : q < 2) : ∃ c : ByteArray, c.size ≤ m ∧ (#[.string A, .string B] : Array Value)[q]? = some (.string c) ∧ ∀ h, ([.string A, .string B] : List Value)[q]'h = .string c := by
  match q, hq with
  | 0, _ => exact ⟨_, hA, rfl, fun _ => rfl⟩
  | 1, _ => exact ⟨_, hB, rfl, fun _ => rfl⟩

/-- A row of texts that is read while a reader turns. -/
structure PRd (g g4 : Nat) (ps : List ByteArray) (W : World) : Prop where
  cell : ∀ k (hk : k < ps.length), W.cell? ⟨g4, k, none⟩ = some (.string ps[k])
  ne : g4 ≠ g
theorem PRd.step {g g4 : Nat} {ps : List ByteArray} {W W' : World} (h : PRd g g4 ps W) (hg : W.grownBy W' (some g)) : PRd g g4 ps W' :=
  ⟨fun k hk => hg.cell (a := ⟨g4, k, none⟩) (h.cell k hk) (by have := h.ne; simpa using this), h.ne⟩

def DrawnM (w : World) (e : Ending) (w' : World) : Prop :=
  ∃ g p : ByteArray, e = .returned (.tuple #[.string g, .string p]) ∧ g.size ≤ 5000 ∧ p.size ≤ 200 ∧ Below w.heap.size w w'

set_option maxRecDepth 100000 in
set_option maxHeartbeats 8000000 in
theorem drawMatch_any (a : Option Addr) (cap : Nat) (zs : List Int) (w : World) (h : Code0 w a cap zs) :
    Calls Try.prog 4 #[.slice a zs.length cap] w (DrawnM w) := by
  have hop := open_any a cap zs w h
  go_enter Try.func4, Try.ntmps4
  go_wp2_with fail
  refine hop.mono ?_
  rintro e w1 ⟨rfl, hbw1, hs1, zs', hR1⟩
  obtain ⟨g, hg⟩ : ∃ g, g = w.heap.size := ⟨_, rfl⟩
  rw [← hg] at hR1 ⊢
  have HO : Keep (g = w.heap.size ∧ w1.heap.size = w.heap.size + 1) := ⟨hg, hs1⟩
  clear hop hg hs1
  go_wp2_with fail
  refine (path_slim g a cap zs' 0 w1 hR1 (by omega)).mono ?_
  rintro e w2 ⟨sP, rfl, hsP, hslim, ⟨p2, hp2, hR2⟩, hg2⟩
  have HSL : Keep (Slim sP) := ⟨hslim⟩
  clear hslim
  go_wp2_with fail
  refine (glob_any g a cap zs' p2 w2 hR2 (by omega)).mono ?_
  rintro e w3 ⟨sG, rfl, hsG, ⟨p3, hp3, hR3⟩, hg3⟩
  go_wp2_with fail
  refine (pick_any g a cap zs' p3 2 w3 hR3 (by omega) (by omega) (by omega)).mono ?_
  rintro e w4 ⟨x, rfl, hx, hg4, hR4⟩
  have hgw4 : w1.grownBy w4 (some g) := gr_trans (gr_trans hg2 hg3) hg4
  clear hg2 hg3 hg4 hR1 hR2 hR3
  go_upto_if 18 with fail
  go_cut [6] (fun gv wx => ∃ (o : ByteArray) (q : Nat), gv = .string o ∧ o.size ≤ 2500 ∧ q ≤ 100 ∧ Rd wx g a cap zs' q ∧ w1.grownBy wx (some g))
  case first =>
    by_cases x0 : x = 0
    · have hB : ((x : Int) == 0) = true := by simp; omega
      clear x0
      have hps := l4Parts_any sP (by omega) w4
      go_wp2_with fail
      refine hps.mono ?_
      rintro e w5 ⟨ad5, cp5, rfl, hrow5, hb5⟩
      have hpl : 0 < (partsB sP).length := List.length_pos_iff.2 (by unfold partsB; intro e; exact splitS_ne _ (by simpa using e))
      obtain ⟨g5, c5, hv5, hlo5, _⟩ := hrow5.form hpl
      cases hv5
      have hg5l := hR4.lt
      have hP5 : PRd g g5 (partsB sP) w5 := ⟨fun k hk => by
        rw [hrow5.cellAt k (by simpa using hk), List.getElem?_map, List.getElem?_eq_getElem hk]
        rfl, by omega⟩
      have hz5 : ∀ y ∈ partsB sP, 1 ≤ y.size ∧ y.size ≤ 40 := fun y hy => ⟨HSL.out y hy, Nat.le_trans (parts_size hy) hsP⟩
      have hn5 : (partsB sP).length ≤ 41 := by
        have := splitS_le sP.data.toList
        unfold partsB
        rw [List.length_map]
        have hl : sP.data.toList.length = sP.size := (Lib.size_eq sP).symm
        omega
      have hR5 := hR4.below hb5
      have hgw5 : w1.grownBy w5 (some g) := gr_trans hgw4 (gr_below hb5)
      generalize partsB sP = ps at *
      have HZ : Keep (∀ y ∈ ps, 1 ≤ y.size ∧ y.size ≤ 40) := ⟨hz5⟩
      clear hps hrow5 hb5 hR4 hgw4 hz5 hlo5 hg5l hpl
      go_wp2_with fail
      go_loopw [6, 8] (fun gv iv wr => ∃ (o : ByteArray) (i : Nat), gv = .string o ∧ iv = .int .i64 i ∧ i ≤ ps.length ∧ o.size ≤ 45 * i ∧ Rd wr g a cap zs' (p3 + 1 + i) ∧ PRd g g5 ps wr ∧ w1.grownBy wr (some g)) (fun _ i _ => ps.length - (intOf i).toNat)
      case atStart => exact ⟨⟨#[]⟩, 0, rfl, rfl, Nat.zero_le _, Nat.zero_le _, hR5, hP5, hgw5⟩
      case round =>
        obtain ⟨o, i, rfl, rfl, hi, ho, hR, hP, hgw⟩ := hrel
        by_cases hlt : i < ps.length
        · have hlt' : (i : Int) < ps.length := by omega
          have ck := hP.cell i hlt
          obtain ⟨hx1, hx2⟩ := HZ.out _ (List.getElem_mem hlt)
          generalize ps[i] = y at *
          obtain ⟨n, HN⟩ : ∃ n, Keep (y.size = n + 1) := ⟨y.size - 1, ⟨by omega⟩⟩
          have hy1 : (1 : Int) ≤ y.size := by omega
          obtain ⟨A, hA, hA'⟩ : ∃ A, y.extract 0 1 = A ∧ A.size ≤ 40 := ⟨_, rfl, by rw [ByteArray.size_extract]; omega⟩
          obtain ⟨B, hB1, hB'⟩ : ∃ B, y.extract 1 y.size = B ∧ B.size ≤ 40 := ⟨_, rfl, by rw [ByteArray.size_extract]; omega⟩
          obtain ⟨C, hC, hC'⟩ : ∃ C, y.extract n y.size = C ∧ C.size ≤ 40 := ⟨_, rfl, by rw [ByteArray.size_extract]; omega⟩
          have hn1 : (n : Int) ≤ y.size := by have := HN.out; omega
          have hn2 : IntKind.i64.wrap ((y.size : Int) - 1) = n := by have := HN.out; rw [IntKind.wrap_i64] <;> omega
          have hn3 : (y.size : Int) - 1 = n := by have := HN.out; omega
          have hn0 : (0 : Int) ≤ n := by omega
          have hn4 : IntKind.i64.wrap (n : Int) = n := by have := HN.out; rw [IntKind.wrap_i64] <;> omega
          have cA : ¬ 9223372036854775807 < A.size + 1 := by omega
          have cB : ¬ 9223372036854775807 < 1 + B.size := by omega
          have cC : ¬ 9223372036854775807 < 1 + C.size := by omega
          have hbL : Below wr.heap.size wr (wr.alloc (.cells #[.string y, .string ⟨#[42]⟩, .string (A ++ ⟨#[42]⟩), .string ⟨#[42, 42]⟩, .string (⟨#[63]⟩ ++ B), .string (⟨#[42]⟩ ++ C)] 9)).drew := (below_oneD _ _).drew
          have hpk := pick_any g a cap zs' (p3 + 1 + i) 6 (wr.alloc (.cells #[.string y, .string ⟨#[42]⟩, .string (A ++ ⟨#[42]⟩), .string ⟨#[42, 42]⟩, .string (⟨#[63]⟩ ++ B), .string (⟨#[42]⟩ ++ C)] 9)).drew (hR.below hbL) (by omega) (by omega) (by omega)
          have hpA := pick_any g a cap zs' (p3 + 1 + i) 6 wr.drew (hR.below (w' := wr.drew) (Below.refl _ _).drew) (by omega) (by omega) (by omega)
          have hcyA : ∀ w3, wr.drew.grownBy w3 (some g) → w3.cell? ⟨g5, i, none⟩ = some (.string y) :=
            fun w3 h3 => h3.cell (a := ⟨g5, i, none⟩) ck (by have := hP.ne; simpa using this)
          have hgl := hR.lt
          have hcl : ∀ w3 z c, (wr.alloc (.cells #[.string y, .string ⟨#[42]⟩, .string (A ++ ⟨#[42]⟩), .string ⟨#[42, 42]⟩, .string (⟨#[63]⟩ ++ B), .string (⟨#[42]⟩ ++ C)] 9)).drew.grownBy w3 (some g) → (#[.string y, .string ⟨#[42]⟩, .string (A ++ ⟨#[42]⟩), .string ⟨#[42, 42]⟩, .string (⟨#[63]⟩ ++ B), .string (⟨#[42]⟩ ++ C)] : Array Value)[z]? = some (.string c) → w3.cell? ⟨wr.heap.size, z, none⟩ = some (.string c) :=
            fun w3 z c h3 hL => h3.cell (a := ⟨wr.heap.size, z, none⟩) ((World.cell?_alloc_new wr _ _ z).trans hL) (by simp; omega)
          have hcy : ∀ w3, (wr.alloc (.cells #[.string y, .string ⟨#[42]⟩, .string (A ++ ⟨#[42]⟩), .string ⟨#[42, 42]⟩, .string (⟨#[63]⟩ ++ B), .string (⟨#[42]⟩ ++ C)] 9)).drew.grownBy w3 (some g) → w3.cell? ⟨g5, i, none⟩ = some (.string y) :=
            fun w3 h3 => h3.cell (a := ⟨g5, i, none⟩) (cell_later hbL ck) (by have := hP.ne; simpa using this)
          have HLm : Keep (∀ z, z < 6 → ∃ c : ByteArray, c.size ≤ 42 ∧ (#[.string y, .string ⟨#[42]⟩, .string (A ++ ⟨#[42]⟩), .string ⟨#[42, 42]⟩, .string (⟨#[63]⟩ ++ B), .string (⟨#[42]⟩ ++ C)] : Array Value)[z]? = some (.string c) ∧ ∀ h, ([.string y, .string ⟨#[42]⟩, .string (A ++ ⟨#[42]⟩), .string ⟨#[42, 42]⟩, .string (⟨#[63]⟩ ++ B), .string (⟨#[42]⟩ ++ C)] : List Value)[z]'h = .string c) := ⟨lit6m _ _ _ _ _ _ 42 (by omega) (by decide) (by rw [ByteArray.size_append]; show A.size + 1 ≤ 42; omega) (by decide) (by rw [ByteArray.size_append]; show 1 + B.size ≤ 42; omega) (by rw [ByteArray.size_append]; show 1 + C.size ≤ 42; omega)⟩
          have hPn := hP
          have HG : Keep (∀ w3, (wr.alloc (.cells #[.string y, .string ⟨#[42]⟩, .string (A ++ ⟨#[42]⟩), .string ⟨#[42, 42]⟩, .string (⟨#[63]⟩ ++ B), .string (⟨#[42]⟩ ++ C)] 9)).drew.grownBy w3 (some g) → PRd g g5 ps w3 ∧ w1.grownBy w3 (some g)) := ⟨fun w3 h3 => ⟨(hP.step (gr_below hbL)).step h3, gr_trans (gr_trans hgw (gr_below hbL)) h3⟩⟩
          have HGA : Keep (∀ w3, wr.drew.grownBy w3 (some g) → PRd g g5 ps (w3.alloc (.cells #[.string y, .string ⟨#[42]⟩, .string (A ++ ⟨#[42]⟩), .string ⟨#[42, 42]⟩, .string (⟨#[63]⟩ ++ B), .string (⟨#[42]⟩ ++ C)] 9)) ∧ w1.grownBy (w3.alloc (.cells #[.string y, .string ⟨#[42]⟩, .string (A ++ ⟨#[42]⟩), .string ⟨#[42, 42]⟩, .string (⟨#[63]⟩ ++ B), .string (⟨#[42]⟩ ++ C)] 9)) (some g)) := ⟨fun w3 h3 => ⟨((hP.step (gr_below (w' := wr.drew) (Below.refl _ _).drew)).step h3).step (gr_below (below_oneD _ _)), gr_alloc _ (gr_trans (gr_trans hgw (gr_below (w' := wr.drew) (Below.refl _ _).drew)) h3)⟩⟩
          clear hPn hP5 hR5 hgw5 hP hgw
          go_upto_region 10 with fail
          go_cut [9] (fun v wx => ∃ c : ByteArray, v = .string c ∧ c.size ≤ 42 ∧ Rd wx g a cap zs' (p3 + 1 + i + 1) ∧ PRd g g5 ps wx ∧ w1.grownBy wx (some g))
          case first =>
            refine wp_region_held_drew (S := fun w' => w'.cell? ⟨g5, i, none⟩ = some (.string y)) (by kernel_rfl) ?_ (fun hHeld => ?_)
            · exact ck
            refine wpAnyH_take (i := 0) (oi := _) (v := ?_) rfl (by kernel_rfl) (by kernel_rfl) (by kernel_rfl) (fun _ _ _ h => h) (Or.inl ⟨by rfl, ?_⟩) (by assumption) ?_
            rotate_left
            · (intro w hSw; go_simp; (try with_reducible rfl))
            (try simp only [Act.put, List.setIfInBounds_toArray, List.set_cons_zero, List.set_cons_succ, List.getElem_toArray, List.getElem_cons_zero])
            refine wpAnyH_take (i := 1) (oi := _) (v := ?_) rfl (by kernel_rfl) (by kernel_rfl) (by kernel_rfl) (fun _ _ _ h => h) (Or.inl ⟨by rfl, ?_⟩) (by assumption) ?_
            rotate_left
            · (intro w hSw; go_simp; (try with_reducible rfl))
            (try simp only [Act.put, List.setIfInBounds_toArray, List.set_cons_zero, List.set_cons_succ, List.getElem_toArray, List.getElem_cons_zero, List.getElem_cons_succ])
            refine wpAnyH_take (i := 2) (oi := _) (v := ?_) rfl (by kernel_rfl) (by kernel_rfl) (by kernel_rfl) (fun _ _ _ h => h) (Or.inl ⟨by rfl, ?_⟩) (by assumption) ?_
            rotate_left
            · (intro w hSw; go_simp; (try with_reducible rfl))
            (try simp only [Act.put, List.setIfInBounds_toArray, List.set_cons_zero, List.set_cons_succ, List.getElem_toArray, List.getElem_cons_zero, List.getElem_cons_succ])
            refine wpAnyH_take (i := 3) (oi := _) (v := ?_) rfl (by kernel_rfl) (by kernel_rfl) (by kernel_rfl) (fun _ _ _ h => h) (Or.inl ⟨by rfl, ?_⟩) (by assumption) ?_
            rotate_left
            · (intro w hSw; go_simp; (try with_reducible rfl))
            (try simp only [Act.put, List.setIfInBounds_toArray, List.set_cons_zero, List.set_cons_succ, List.getElem_toArray, List.getElem_cons_zero, List.getElem_cons_succ])
            refine wpAnyH_take (i := 4) (oi := _) (v := ?_) rfl (by kernel_rfl) (by kernel_rfl) (by kernel_rfl) (fun _ _ _ h => h) (Or.inl ⟨by rfl, ?_⟩) (by assumption) ?_
            rotate_left
            · (intro w hSw; go_simp; (try with_reducible rfl))
            (try simp only [Act.put, List.setIfInBounds_toArray, List.set_cons_zero, List.set_cons_succ, List.getElem_toArray, List.getElem_cons_zero, List.getElem_cons_succ])
            refine wpAnyH_take (i := 5) (oi := _) (v := ?_) rfl (by kernel_rfl) (by kernel_rfl) (by kernel_rfl) (fun _ _ _ h => h) (Or.inl ⟨by rfl, ?_⟩) (by assumption) ?_
            rotate_left
            · (intro w hSw; go_simp; (try with_reducible rfl))
            (try simp only [Act.put, List.setIfInBounds_toArray, List.set_cons_zero, List.set_cons_succ, List.getElem_toArray, List.getElem_cons_zero, List.getElem_cons_succ])
            refine wpAnyH_take (i := 6) (oi := _) (v := ?_) rfl (by kernel_rfl) (by kernel_rfl) (by kernel_rfl) (fun _ _ _ h => h) (Or.inl ⟨by rfl, ?_⟩) (by assumption) ?_
            rotate_left
            · (intro w hSw; go_simp; (try with_reducible rfl))
            (try simp only [Act.put, List.setIfInBounds_toArray, List.set_cons_zero, List.set_cons_succ, List.getElem_toArray, List.getElem_cons_zero, List.getElem_cons_succ])
            refine wpAnyH_take (i := 7) (oi := _) (v := ?_) rfl (by kernel_rfl) (by kernel_rfl) (by kernel_rfl) (fun _ _ _ h => h) (Or.inl ⟨by rfl, ?_⟩) (by assumption) ?_
            rotate_left
            · (intro w hSw; go_simp; (try with_reducible rfl))
            (try simp only [Act.put, List.setIfInBounds_toArray, List.set_cons_zero, List.set_cons_succ, List.getElem_toArray, List.getElem_cons_zero, List.getElem_cons_succ])
            refine wpAnyH_take (i := 8) (oi := _) (v := ?_) rfl (by kernel_rfl) (by kernel_rfl) (by kernel_rfl) (fun _ _ _ h => h) (Or.inl ⟨by rfl, ?_⟩) (by assumption) ?_
            rotate_left
            · (intro w hSw; go_simp; (try with_reducible rfl))
            (try simp only [Act.put, List.setIfInBounds_toArray, List.set_cons_zero, List.set_cons_succ, List.getElem_toArray, List.getElem_cons_zero, List.getElem_cons_succ])
            refine wpAnyH_take (i := 9) (oi := _) (v := ?_) rfl (by kernel_rfl) (by kernel_rfl) (by kernel_rfl) (fun _ _ _ h => h) (Or.inl ⟨by rfl, ?_⟩) (by assumption) ?_
            rotate_left
            · (intro w hSw; go_simp; (try with_reducible rfl))
            (try simp only [Act.put, List.setIfInBounds_toArray, List.set_cons_zero, List.set_cons_succ, List.getElem_toArray, List.getElem_cons_zero, List.getElem_cons_succ])
            refine wpAnyH_take (i := 10) (oi := _) (v := ?_) rfl (by kernel_rfl) (by kernel_rfl) (by kernel_rfl) (fun _ _ _ h => h) (Or.inl ⟨by rfl, ?_⟩) (by assumption) ?_
            rotate_left
            · (intro w hSw; go_simp; (try with_reducible rfl))
            (try simp only [Act.put, List.setIfInBounds_toArray, List.set_cons_zero, List.set_cons_succ, List.getElem_toArray, List.getElem_cons_zero, List.getElem_cons_succ])
            refine wpAnyH_take (i := 11) (oi := _) (v := ?_) rfl (by kernel_rfl) (by kernel_rfl) (by kernel_rfl) (fun _ _ _ h => h) (Or.inl ⟨by rfl, ?_⟩) (by assumption) ?_
            rotate_left
            · (intro w hSw; go_simp; (try with_reducible rfl))
            (try simp only [Act.put, List.setIfInBounds_toArray, List.set_cons_zero, List.set_cons_succ, List.getElem_toArray, List.getElem_cons_zero, List.getElem_cons_succ])
            refine wpAnyH_take (i := 12) (oi := _) (v := ?_) rfl (by kernel_rfl) (by kernel_rfl) (by kernel_rfl) (fun _ _ _ h => h) (Or.inl ⟨by rfl, ?_⟩) (by assumption) ?_
            rotate_left
            · (intro w hSw; go_simp; (try with_reducible rfl))
            (try simp only [Act.put, List.setIfInBounds_toArray, List.set_cons_zero, List.set_cons_succ, List.getElem_toArray, List.getElem_cons_zero, List.getElem_cons_succ])
            refine wpAnyH_take (i := 13) (oi := _) (v := ?_) rfl (by kernel_rfl) (by kernel_rfl) (by kernel_rfl) (fun _ _ _ h => h) (Or.inl ⟨by rfl, ?_⟩) (by assumption) ?_
            rotate_left
            · (intro w hSw; go_simp; (try with_reducible rfl))
            (try simp only [Act.put, List.setIfInBounds_toArray, List.set_cons_zero, List.set_cons_succ, List.getElem_toArray, List.getElem_cons_zero, List.getElem_cons_succ])
            refine wpAnyH_take (i := 14) (oi := _) (v := ?_) rfl (by kernel_rfl) (by kernel_rfl) (by kernel_rfl) (fun _ _ _ h => h) (Or.inl ⟨by rfl, ?_⟩) (by assumption) ?_
            rotate_left
            · (intro w hSw; go_simp; (try with_reducible rfl))
            (try simp only [Act.put, List.setIfInBounds_toArray, List.set_cons_zero, List.set_cons_succ, List.getElem_toArray, List.getElem_cons_zero, List.getElem_cons_succ])
            refine wpAnyH_take (i := 15) (oi := _) (v := ?_) rfl (by kernel_rfl) (by kernel_rfl) (by kernel_rfl) (fun _ _ _ h => h) (Or.inl ⟨by rfl, ?_⟩) (by assumption) ?_
            rotate_left
            · (intro w hSw; go_simp; (try with_reducible rfl))
            (try simp only [Act.put, List.setIfInBounds_toArray, List.set_cons_zero, List.set_cons_succ, List.getElem_toArray, List.getElem_cons_zero, List.getElem_cons_succ])
            refine wpAnyH_take (i := 16) (oi := _) (v := ?_) rfl (by kernel_rfl) (by kernel_rfl) (by kernel_rfl) (fun _ _ _ h => h) (Or.inl ⟨by rfl, ?_⟩) (by assumption) ?_
            rotate_left
            · (intro w hSw; go_simp; (try with_reducible rfl))
            (try simp only [Act.put, List.setIfInBounds_toArray, List.set_cons_zero, List.set_cons_succ, List.getElem_toArray, List.getElem_cons_zero, List.getElem_cons_succ])
            refine wpAnyH_take (i := 17) (oi := _) (v := ?_) rfl (by kernel_rfl) (by kernel_rfl) (by kernel_rfl) (fun _ _ _ h => h) (Or.inl ⟨by rfl, ?_⟩) (by assumption) ?_
            rotate_left
            · (intro w hSw; go_simp; (try with_reducible rfl))
            (try simp only [Act.put, List.setIfInBounds_toArray, List.set_cons_zero, List.set_cons_succ, List.getElem_toArray, List.getElem_cons_zero, List.getElem_cons_succ])
            refine wpAnyH_take (i := 18) (oi := _) (v := ?_) rfl (by kernel_rfl) (by kernel_rfl) (by kernel_rfl) (fun _ _ _ h => h) (Or.inl ⟨by rfl, ?_⟩) (by assumption) ?_
            rotate_left
            · (intro w hSw; go_simp; (try with_reducible rfl))
            (try simp only [Act.put, List.setIfInBounds_toArray, List.set_cons_zero, List.set_cons_succ, List.getElem_toArray, List.getElem_cons_zero, List.getElem_cons_succ])
            refine wpAnyH_take (i := 19) (oi := _) (v := ?_) rfl (by kernel_rfl) (by kernel_rfl) (by kernel_rfl) (fun _ _ _ h => h) (Or.inl ⟨by rfl, ?_⟩) (by assumption) ?_
            rotate_left
            · (intro w hSw; go_simp; (try with_reducible rfl))
            (try simp only [Act.put, List.setIfInBounds_toArray, List.set_cons_zero, List.set_cons_succ, List.getElem_toArray, List.getElem_cons_zero, List.getElem_cons_succ])
            refine wpAnyH_take (i := 20) (oi := _) (v := ?_) rfl (by kernel_rfl) (by kernel_rfl) (by kernel_rfl) (fun _ _ _ h => h) (Or.inl ⟨by rfl, ?_⟩) (by assumption) ?_
            rotate_left
            · (intro w hSw; go_simp; (try with_reducible rfl))
            (try simp only [Act.put, List.setIfInBounds_toArray, List.set_cons_zero, List.set_cons_succ, List.getElem_toArray, List.getElem_cons_zero, List.getElem_cons_succ])
            refine wpAnyH_take (i := 21) (oi := _) (v := ?_) rfl (by kernel_rfl) (by kernel_rfl) (by kernel_rfl) (fun _ _ _ h => h) (Or.inl ⟨by rfl, ?_⟩) (by assumption) ?_
            rotate_left
            · (intro w hSw; go_simp; (try with_reducible rfl))
            (try simp only [Act.put, List.setIfInBounds_toArray, List.set_cons_zero, List.set_cons_succ, List.getElem_toArray, List.getElem_cons_zero, List.getElem_cons_succ])
            refine wpAnyH_take (i := 22) (oi := _) (v := ?_) rfl (by kernel_rfl) (by kernel_rfl) (by kernel_rfl) (fun _ _ _ h => h) (Or.inl ⟨by rfl, ?_⟩) (by assumption) ?_
            rotate_left
            · (intro w hSw; go_simp; (try with_reducible rfl))
            (try simp only [Act.put, List.setIfInBounds_toArray, List.set_cons_zero, List.set_cons_succ, List.getElem_toArray, List.getElem_cons_zero, List.getElem_cons_succ])
            refine wpAnyH_take (i := 23) (oi := _) (v := ?_) rfl (by kernel_rfl) (by kernel_rfl) (by kernel_rfl) (fun _ _ _ h => h) (Or.inl ⟨by rfl, ?_⟩) (by assumption) ?_
            rotate_left
            · (intro w hSw; go_simp; (try with_reducible rfl))
            (try simp only [Act.put, List.setIfInBounds_toArray, List.set_cons_zero, List.set_cons_succ, List.getElem_toArray, List.getElem_cons_zero, List.getElem_cons_succ])
            refine wpAnyH_take (i := 24) (oi := _) (v := ?_) rfl (by kernel_rfl) (by kernel_rfl) (by kernel_rfl) (fun _ _ _ h => h) (Or.inl ⟨by rfl, ?_⟩) (by assumption) ?_
            rotate_left
            · (intro w hSw; go_simp; (try with_reducible rfl))
            (try simp only [Act.put, List.setIfInBounds_toArray, List.set_cons_zero, List.set_cons_succ, List.getElem_toArray, List.getElem_cons_zero, List.getElem_cons_succ])
            refine wpAnyH_take (i := 25) (oi := _) (v := ?_) rfl (by kernel_rfl) (by kernel_rfl) (by kernel_rfl) (fun _ _ _ h => h) (Or.inl ⟨by rfl, ?_⟩) (by assumption) ?_
            rotate_left
            · (intro w hSw; go_simp; (try with_reducible rfl))
            (try simp only [Act.put, List.setIfInBounds_toArray, List.set_cons_zero, List.set_cons_succ, List.getElem_toArray, List.getElem_cons_zero, List.getElem_cons_succ])
            refine wpAnyH_take (i := 26) (oi := _) (v := ?_) rfl (by kernel_rfl) (by kernel_rfl) (by kernel_rfl) (fun _ _ _ h => h) (Or.inl ⟨by rfl, ?_⟩) (by assumption) ?_
            rotate_left
            · (intro w hSw; go_simp; (try with_reducible rfl))
            (try simp only [Act.put, List.setIfInBounds_toArray, List.set_cons_zero, List.set_cons_succ, List.getElem_toArray, List.getElem_cons_zero, List.getElem_cons_succ])
            refine wpAnyH_take (i := 27) (oi := _) (v := ?_) rfl (by kernel_rfl) (by kernel_rfl) (by kernel_rfl) (fun _ _ _ h => h) (Or.inl ⟨by rfl, ?_⟩) (by assumption) ?_
            rotate_left
            · (intro w hSw; go_simp; (try with_reducible rfl))
            (try simp only [Act.put, List.setIfInBounds_toArray, List.set_cons_zero, List.set_cons_succ, List.getElem_toArray, List.getElem_cons_zero, List.getElem_cons_succ])
            refine wpAnyH_take (i := 29) (oi := _) (v := ?_) rfl (by kernel_rfl) (by kernel_rfl) (by kernel_rfl) (fun _ _ _ h => h) (Or.inl ⟨by rfl, ?_⟩) (by assumption) ?_
            rotate_left
            · (intro w hSw; go_simp; (try with_reducible rfl))
            (try simp only [Act.put, List.setIfInBounds_toArray, List.set_cons_zero, List.set_cons_succ, List.getElem_toArray, List.getElem_cons_zero, List.getElem_cons_succ])
            refine wpAnyH_ready (rs := [28, 30]) (by kernel_rfl) (by simp) ?_
            refine AllReadyH.cons (o := _) rfl (fun K hK => ?_) (AllReadyH.cons (o := _) rfl (fun K hK => ?_) AllReadyH.nil)
            · go_simp
              refine hK.out _ _ ?_ (fun hHeld => ?_)
              · exact cell_later hbL ck
              clear hK K
              (try simp only [Act.put, List.setIfInBounds_toArray, List.set_cons_zero, List.set_cons_succ, List.getElem_toArray, List.getElem_cons_zero, List.getElem_cons_succ])
              refine wpAnyH_ready (rs := [30]) (by kernel_rfl) (by simp) ?_
              refine AllReadyH.cons (o := _) rfl (fun K hK => ?_) AllReadyH.nil
              go_simp
              refine hpk.mono ?_
              rintro e w3 ⟨z, rfl, hz, hg3, hR3⟩
              have hcy3 := hcy w3 hg3
              obtain ⟨c, hc1, hL, hLL⟩ := HLm.out z hz
              have hck := hcl w3 z c hg3 hL
              have hzi : (z : Int) < 6 := by omega
              go_simp
              refine hK.out _ _ ?_ (fun hHeld => ?_)
              · exact hcy3
              clear hK K
              (try simp only [Act.put, List.setIfInBounds_toArray, List.set_cons_zero, List.set_cons_succ, List.getElem_toArray, List.getElem_cons_zero, List.getElem_cons_succ])
              refine wpAnyH_take (i := 31) (oi := _) (v := ?_) rfl (by kernel_rfl) (by kernel_rfl) (by kernel_rfl) (fun _ _ _ h => h) (Or.inl ⟨by rfl, ?_⟩) (by assumption) ?_
              rotate_left
              · (intro w hSw; go_simp; (try with_reducible rfl))
              (try simp only [Act.put, List.setIfInBounds_toArray, List.set_cons_zero, List.set_cons_succ, List.getElem_toArray, List.getElem_cons_zero, List.getElem_cons_succ])
              refine wpAnyH_ready (rs := [32]) (by kernel_rfl) (by simp) ?_
              refine AllReadyH.cons (o := _) rfl (fun K hK => ?_) AllReadyH.nil
              go_simp
              refine hK.out _ _ ?_ (fun hHeld => ?_)
              · exact hcy3
              clear hK K
              (try simp only [Act.put, List.setIfInBounds_toArray, List.set_cons_zero, List.set_cons_succ, List.getElem_toArray, List.getElem_cons_zero, List.getElem_cons_succ])
              refine wpAnyH_take (i := 33) (oi := _) (v := ?_) rfl (by kernel_rfl) (by kernel_rfl) (by kernel_rfl) (fun _ _ _ h => h) (Or.inl ⟨by rfl, ?_⟩) (by assumption) ?_
              rotate_left
              · (intro w hSw; go_simp; (try with_reducible rfl))
              (try simp only [Act.put, List.setIfInBounds_toArray, List.set_cons_zero, List.set_cons_succ, List.getElem_toArray, List.getElem_cons_zero, List.getElem_cons_succ])
              refine wpAnyH_done (by kernel_rfl) ?_ _
              go_wp2_with fail
              go_meet
              case rel => exact ⟨c, rfl, hc1, hR3, HG.out w3 hg3⟩
            · go_simp
              refine hpA.mono ?_
              rintro e w3 ⟨z, rfl, hz, hg3, hR3⟩
              have hcy3 := hcyA w3 hg3
              obtain ⟨c, hc1, hL, hLL⟩ := HLm.out z hz
              have hzi : (z : Int) < 6 := by omega
              go_simp
              refine hK.out _ _ ?_ (fun hHeld => ?_)
              · exact hcy3
              clear hK K
              (try simp only [Act.put, List.setIfInBounds_toArray, List.set_cons_zero, List.set_cons_succ, List.getElem_toArray, List.getElem_cons_zero, List.getElem_cons_succ])
              refine wpAnyH_ready (rs := [28]) (by kernel_rfl) (by simp) ?_
              refine AllReadyH.cons (o := _) rfl (fun K hK => ?_) AllReadyH.nil
              go_simp
              refine hK.out _ _ ?_ (fun hHeld => ?_)
              · exact cell_later (below_oneD _ _) hcy3
              clear hK K
              (try simp only [Act.put, List.setIfInBounds_toArray, List.set_cons_zero, List.set_cons_succ, List.getElem_toArray, List.getElem_cons_zero, List.getElem_cons_succ])
              refine wpAnyH_take (i := 31) (oi := _) (v := ?_) rfl (by kernel_rfl) (by kernel_rfl) (by kernel_rfl) (fun _ _ _ h => h) (Or.inl ⟨by rfl, ?_⟩) (by assumption) ?_
              rotate_left
              · (intro w hSw; go_simp; (try with_reducible rfl))
              (try simp only [Act.put, List.setIfInBounds_toArray, List.set_cons_zero, List.set_cons_succ, List.getElem_toArray, List.getElem_cons_zero, List.getElem_cons_succ])
              refine wpAnyH_ready (rs := [32]) (by kernel_rfl) (by simp) ?_
              refine AllReadyH.cons (o := _) rfl (fun K hK => ?_) AllReadyH.nil
              go_simp
              refine hK.out _ _ ?_ (fun hHeld => ?_)
              · exact cell_later (below_oneD _ _) hcy3
              clear hK K
              (try simp only [Act.put, List.setIfInBounds_toArray, List.set_cons_zero, List.set_cons_succ, List.getElem_toArray, List.getElem_cons_zero, List.getElem_cons_succ])
              refine wpAnyH_take (i := 33) (oi := _) (v := ?_) rfl (by kernel_rfl) (by kernel_rfl) (by kernel_rfl) (fun _ _ _ h => h) (Or.inl ⟨by rfl, ?_⟩) (by assumption) ?_
              rotate_left
              · (intro w hSw; go_simp; (try with_reducible rfl))
              (try simp only [Act.put, List.setIfInBounds_toArray, List.set_cons_zero, List.set_cons_succ, List.getElem_toArray, List.getElem_cons_zero, List.getElem_cons_succ])
              refine wpAnyH_done (by kernel_rfl) ?_ _
              go_wp2_with fail
              go_meet
              case rel => exact ⟨c, rfl, hc1, hR3.below (below_oneD _ _), HGA.out w3 hg3⟩
          case rest =>
           obtain ⟨c, rfl, hc1, hR3, hP3, hgw3⟩ := hcut
           clear hpk hpA hcl hcy hcyA HLm HG HGA hbL hR hA hB1 hC cA cB cC hn1 hn2 hn3 hn4 hn0 ck
           by_cases hi0 : 0 < i
           · have hi0' : (0 : Int) < i := by omega
             have hc0 : ¬ 9223372036854775807 < o.size + 1 := by omega
             have hc2 : ¬ 9223372036854775807 < (o ++ ⟨#[47]⟩).size + c.size := by rw [ByteArray.size_append]; show ¬ _ < o.size + 1 + c.size; omega
             have HS : Keep ((o ++ ⟨#[47]⟩ ++ c).size ≤ 45 * (i + 1)) := ⟨by rw [ByteArray.size_append, ByteArray.size_append]; show o.size + 1 + c.size ≤ _; omega⟩
             go_wp2
             go_roundw
             case rel => exact ⟨_, i + 1, rfl, by congr 1, hlt, HS.out, hR3, hP3, hgw3⟩
             case measure => simp only [intOf]; omega
           · obtain rfl : i = 0 := by omega
             have hc2 : ¬ 9223372036854775807 < o.size + c.size := by omega
             have HS : Keep ((o ++ c).size ≤ 45 * (0 + 1)) := ⟨by rw [ByteArray.size_append]; omega⟩
             go_wp2
             go_roundw
             case rel => exact ⟨_, 1, rfl, rfl, hlt, HS.out, hR3, hP3, hgw3⟩
             case measure => simp only [intOf]; omega
        · obtain rfl : i = ps.length := by omega
          clear hR5 hP5 hgw5 hP hlt
          have hc3 : ¬ 9223372036854775807 < 3 + o.size := by omega
          have hc4 : ¬ 9223372036854775807 < o.size + 3 := by omega
          go_wp2_with fail
          refine (pick_any g a cap zs' (p3 + 1 + ps.length) 6 wr hR (by omega) (by omega) (by omega)).mono ?_
          rintro e w6 ⟨y, rfl, hy, hg6, hR6⟩
          have hgw6 := gr_trans hgw hg6
          clear hR hgw hg6
          have hmeet : (∃ (o' : ByteArray) (q : Nat), Value.string o = .string o' ∧ o'.size ≤ 2500 ∧ q ≤ 100 ∧ Rd w6 g a cap zs' q ∧ w1.grownBy w6 (some g)) := ⟨o, p3 + 1 + ps.length + 1, rfl, by omega, by omega, hR6, hgw6⟩
          by_cases y0 : y = 0
          · have hB0 : ((y : Int) == 0) = true := by simp; omega
            clear y0
            by_cases hl6 : ps.length < 6
            · have hl6' : (ps.length : Int) < 6 := by omega
              have hgl := hR6.lt
              have hpk := pick_any g a cap zs' (p3 + 1 + ps.length + 1) 2 (w6.alloc (.cells #[.string (⟨#[42, 42, 47]⟩ ++ o), .string (o ++ ⟨#[47, 42, 42]⟩)] 9)) (hR6.below (below_oneD _ _)) (by omega) (by omega) (by omega)
              clear hmeet
              go_wp2_with fail
              refine hpk.mono ?_
              rintro e w7 ⟨z, rfl, hz, hg7, hR7⟩
              obtain ⟨c, hc1, hL, hLL⟩ := lit2m (⟨#[42, 42, 47]⟩ ++ o) (o ++ ⟨#[47, 42, 42]⟩) 2000 (by rw [ByteArray.size_append]; show 3 + o.size ≤ _; omega) (by rw [ByteArray.size_append]; show o.size + 3 ≤ _; omega) z hz
              have hck : w7.cell? ⟨w6.heap.size, z, none⟩ = some (.string c) := hg7.cell (a := ⟨w6.heap.size, z, none⟩) ((World.cell?_alloc_new w6 _ _ z).trans hL) (by simp; omega)
              have hzi : (z : Int) < 2 := by omega
              have hgx := gr_trans (gr_alloc (.cells #[.string (⟨#[42, 42, 47]⟩ ++ o), .string (o ++ ⟨#[47, 42, 42]⟩)] 9) hgw6) hg7
              clear hpk hL hg7 hgw6
              go_wp2_with fail
              go_meet
              case rel => exact ⟨c, p3 + 1 + ps.length + 1 + 1, rfl, by omega, by omega, hR7, hgx⟩
            · have hl6' : ¬ ((ps.length : Int) < 6) := by omega
              go_wp2_with fail
              go_meet
              case rel => exact hmeet
          · have hB0 : ((y : Int) == 0) = false := by simp; omega
            clear y0
            go_wp2_with fail
            go_meet
            case rel => exact hmeet
    · have hB : ((x : Int) == 0) = false := by simp; omega
      clear x0
      go_wp2_with fail
      go_meet
      case rel => exact ⟨sG, p3 + 1, rfl, by omega, by omega, hR4, hgw4⟩
  case rest =>
    obtain ⟨sg, q, rfl, hsg, hq, hRq, hgq⟩ := hcut
    clear hgw4 hR4 HSL
    go_wp2_with fail
    refine (pick_any g a cap zs' q 16 wc hRq (by omega) (by omega) (by omega)).mono ?_
    rintro e w5 ⟨y, rfl, hy, hg5, hR5⟩
    have hg15 := gr_trans hgq hg5
    have hend : ∀ W, w1.grownBy W (some g) → Below w.heap.size w W := fun W hW => hbw1.grown hW hbw1.size (fun j e => by cases e; have := HO.out; omega)
    clear hgq hg5 hRq
    by_cases y0 : y = 0
    · have hB0 : ((y : Int) == 0) = true := by simp; omega
      clear y0
      go_wp2_with fail
      refine (spoilS_any g a cap zs' (q + 1) sg w5 hR5 (by omega) (by omega)).mono ?_
      rintro e w6 ⟨o, rfl, ho, ⟨p6, hp6, hR6⟩, hg6⟩
      go_wp2
      refine bodyPost_ret (v := .tuple #[.string o, .string sP]) (by go_light; simp [results, Try.results4, go_sem]) rfl ⟨_, _, rfl, by omega, by omega, hend _ (gr_trans hg15 hg6)⟩
    have hB0 : ((y : Int) == 0) = false := by simp; omega
    by_cases y1 : y = 1
    · have hB1 : ((y : Int) == 1) = true := by simp; omega
      clear y0 y1
      go_wp2_with fail
      refine (spoilS_any g a cap zs' (q + 1) sP w5 hR5 (by omega) (by omega)).mono ?_
      rintro e w6 ⟨o, rfl, ho, ⟨p6, hp6, hR6⟩, hg6⟩
      go_wp2
      refine bodyPost_ret (v := .tuple #[.string sg, .string o]) (by go_light; simp [results, Try.results4, go_sem]) rfl ⟨_, _, rfl, by omega, by omega, hend _ (gr_trans hg15 hg6)⟩
    have hB1 : ((y : Int) == 1) = false := by simp; omega
    by_cases y2 : y = 2
    · have hB2 : ((y : Int) == 2) = true := by simp; omega
      clear y0 y1 y2
      go_wp2_with fail
      refine (many_any ⟨#[42, 97]⟩ 9 w5 (by show 2 * 9 ≤ _; omega) (by omega) (by show 1 ≤ 2; omega) (by show 2 ≤ _; omega)).mono ?_
      rintro e w6 ⟨t, rfl, ht, rfl⟩
      have ht2 : t.size ≤ 18 := by rw [ht]; show 2 * 9 ≤ 18; omega
      clear ht
      go_wp2_with fail
      refine (many_any ⟨#[97]⟩ 18 w5 (by show 1 * 18 ≤ _; omega) (by omega) (by show 1 ≤ 1; omega) (by show 1 ≤ _; omega)).mono ?_
      rintro e w6 ⟨t2, rfl, ht, rfl⟩
      have ht3 : t2.size ≤ 18 := by rw [ht]; show 1 * 18 ≤ 18; omega
      clear ht
      have hpk := pick_any g a cap zs' (q + 1) 2 (w5.alloc (.cells #[.string ⟨#[]⟩, .string ⟨#[98]⟩] 9)) (hR5.below (below_oneD _ _)) (by omega) (by omega) (by omega)
      go_wp2_with fail
      refine hpk.mono ?_
      rintro e w6 ⟨z, rfl, hz, hg6, hR6⟩
      obtain ⟨c, hc1, hL, hLL⟩ := lit2m ⟨#[]⟩ ⟨#[98]⟩ 1 (by decide) (by decide) z hz
      have hck : w6.cell? ⟨w5.heap.size, z, none⟩ = some (.string c) := hg6.cell (a := ⟨w5.heap.size, z, none⟩) ((World.cell?_alloc_new w5 _ _ z).trans hL) (by have := hR5.lt; simp; omega)
      have hzi : (z : Int) < 2 := by omega
      have hc2 : ¬ 9223372036854775807 < t2.size + c.size := by omega
      have hgx := gr_trans (gr_alloc (.cells #[.string ⟨#[]⟩, .string ⟨#[98]⟩] 9) hg15) hg6
      clear hpk hL
      go_wp2
      refine bodyPost_ret (v := .tuple #[.string t, .string (t2 ++ c)]) (by go_light; simp [results, Try.results4, go_sem]) rfl ⟨_, _, rfl, by omega, by rw [ByteArray.size_append]; omega, hend _ hgx⟩
    have hB2 : ((y : Int) == 2) = false := by simp; omega
    clear y0 y1 y2
    go_wp2
    refine bodyPost_ret (v := .tuple #[.string sg, .string sP]) (by go_light; simp [results, Try.results4, go_sem]) rfl ⟨_, _, rfl, by omega, by omega, hend _ hg15⟩
end Go.Proofs.Ytcajheaacdeokaa

namespace Go.Proofs.Ytcajheaacdeokaa
open Go.RowKit

theorem ss_of_rowK {w : World} {base : Nat} {ad : Option Addr} {cp : Nat} {ss : List ByteArray} (h : w.ownsRow base 9 1 (.slice ad ss.length cp) ss.length (ss.map .string)) : SS w ad ss := by
  by_cases h0 : ss = []
  · exact .inl h0
  · right
    obtain ⟨g, c, hv, _⟩ := h.form (List.length_pos_iff.2 h0)
    cases hv
    exact ⟨g, 0, rfl, fun i hi => by rw [Nat.zero_add, h.cellAt i (by simpa using hi), List.getElem?_map, List.getElem?_eq_getElem hi]; rfl⟩
theorem ss_takeK {w : World} {ad : Option Addr} {ss : List ByteArray} (h : SS w ad ss) (n : Nat) : SS w ad (ss.take n) := by
  rcases h with h | ⟨b, o, h1, h2⟩
  · subst h; exact .inl (by simp)
  · exact .inr ⟨b, o, h1, fun i hi => by rw [List.getElem_take]; exact h2 i (by rw [List.length_take] at hi; omega)⟩
def lenV : Value → Nat
  | .slice _ n _ => n
  | _ => 0

/-- All that is held while globs are drawn. -/
structure DPk (w : World) (g r2 tb : Nat) (a : Option Addr) (cap : Nat) (zs : List Int) (p : Nat) (ad : Option Addr) (cp : Nat) (ts : List En) (v : Value) (gs : List ByteArray) (W : World) : Prop where
  rd : Rd W g a cap zs p
  bw : Below w.heap.size w W
  a0 : W.cell? ⟨r2, 0, none⟩ = some (.slice none 0 0)
  af : W.frozen? ⟨r2, 0, none⟩ = false
  tc : W.cell? ⟨tb, 0, none⟩ = some (.slice ad ts.length cp)
  el : EL (g + 1) W ad ts
  up : ts = [] ∨ ∃ k, blk ad = some k ∧ k < tb
  own : W.ownsRow (tb + 1) 9 1 v gs.length (gs.map .string)
  sz : ∀ s ∈ gs, s.size ≤ 100
  ord : w.heap.size ≤ r2 ∧ r2 < g ∧ g < tb
theorem DPk.l2 {w : World} {g r2 tb : Nat} {a : Option Addr} {cap : Nat} {zs : List Int} {p : Nat} {ad : Option Addr} {cp : Nat} {ts : List En} {v : Value} {gs : List ByteArray} {W : World} (h : DPk w g r2 tb a cap zs p ad cp ts v gs W) : r2 < W.heap.size ∧ tb < W.heap.size :=
  ⟨World.block_lt_of_cell? W ⟨r2, 0, none⟩ h.a0, World.block_lt_of_cell? W ⟨tb, 0, none⟩ h.tc⟩
theorem DPk.step {w : World} {g r2 tb : Nat} {a : Option Addr} {cap : Nat} {zs : List Int} {p p' : Nat} {ad : Option Addr} {cp : Nat} {ts : List En} {v : Value} {gs : List ByteArray} {W W' : World} (h : DPk w g r2 tb a cap zs p ad cp ts v gs W) (hg : W.grownBy W' (some g)) (hR : Rd W' g a cap zs p') : DPk w g r2 tb a cap zs p' ad cp ts v gs W' := by
  have o := h.ord
  have k2 := hg.block r2 h.l2.1 (by simp; omega)
  have kt := hg.block tb h.l2.2 (by simp; omega)
  exact ⟨hR, h.bw.grown hg h.bw.size (fun j e => by cases e; omega), (World.cell?_of_block k2).trans h.a0, fz_blk k2 h.af, (World.cell?_of_block kt).trans h.tc, h.el.grown hg (fun k _ hk _ e => by cases e; omega), h.up, owns_rd h.own hg (by omega), h.sz, o⟩
theorem DPk.later {w : World} {g r2 tb : Nat} {a : Option Addr} {cap : Nat} {zs : List Int} {p : Nat} {ad : Option Addr} {cp : Nat} {ts : List En} {v : Value} {gs : List ByteArray} {W W' : World} (h : DPk w g r2 tb a cap zs p ad cp ts v gs W) (hb : Below W.heap.size W W') : DPk w g r2 tb a cap zs p ad cp ts v gs W' := h.step (gr_below hb) (h.rd.below hb)
theorem DPk.app {w : World} {g r2 tb : Nat} {a : Option Addr} {cap : Nat} {zs : List Int} {p : Nat} {ad : Option Addr} {cp : Nat} {ts : List En} {v v' : Value} {gs gs' : List ByteArray} {W W' : World} (h : DPk w g r2 tb a cap zs p ad cp ts v gs W) (hg : W.grownBy W' v.ownBlock) (ho : W'.ownsRow (tb + 1) 9 1 v' gs'.length (gs'.map .string)) (hz : ∀ s ∈ gs', s.size ≤ 100) : DPk w g r2 tb a cap zs p ad cp ts v' gs' W' := by
  have o := h.ord
  have hge : ∀ j, v.ownBlock = some j → tb + 1 ≤ j := fun j hj => owns_row_ge h.own hj
  have k2 := hg.block r2 h.l2.1 (fun e => by have := hge r2 e.symm; omega)
  have kt := hg.block tb h.l2.2 (fun e => by have := hge tb e.symm; omega)
  refine ⟨h.rd.own hg hge (by omega), h.bw.grown hg h.bw.size (fun j e => by have := hge j e; omega), (World.cell?_of_block k2).trans h.a0, fz_blk k2 h.af, (World.cell?_of_block kt).trans h.tc, ?_, h.up, ho, hz, o⟩
  rcases h.up with h0 | ⟨k0, h1, h2⟩
  · subst h0; exact EL.nil _ _ _
  · exact h.el.grown hg (fun k hk _ _ e => by rw [h1] at hk; cases hk; have := hge k0 e.symm; omega)

def DrawnK (w : World) (e : Ending) (w' : World) : Prop :=
  ∃ ad cp ts ag cg gs, e = .returned (.tuple #[.agg #[.slice ad (List.length ts) cp], .slice ag (List.length gs) cg]) ∧ ES w' ad ts ∧ SS w' ag gs ∧ ts.length ≤ 103 ∧ gs.length ≤ 21 ∧ Tiny 100 1600 ts ∧ (∀ s ∈ gs, ByteArray.size s ≤ 100) ∧ Below w.heap.size w w'

theorem DPk.back {w : World} {g r2 tb : Nat} {a : Option Addr} {cap : Nat} {zs : List Int} {p : Nat} {ad : Option Addr} {cp : Nat} {ts : List En} {ag : Option Addr} {cg : Nat} {gs : List ByteArray} {W : World} (h : DPk w g r2 tb a cap zs p ad cp ts (.slice ag gs.length cg) gs W) (hn : ts.length ≤ 103) (hT : Tiny 100 1600 ts) (n : Nat) (hn2 : (gs.take n).length ≤ 21) {m : Nat} (hm : (gs.take n).length = m) {e : Ending} {cg' : Nat} (he : e = .returned (.tuple #[.agg #[.slice ad ts.length cp], .slice ag m cg'])) : DrawnK w e (W.setCell ⟨r2, 0, none⟩ (.slice ad ts.length cp)) := by
  have o := h.ord
  have hg : W.grownBy (W.setCell ⟨r2, 0, none⟩ (.slice ad ts.length cp)) (some r2) := grown_set W r2 0 _
  have ho := owns_rd h.own hg (by omega)
  exact ⟨ad, cp, ts, ag, cg', gs.take n, by rw [he, hm], (h.el.grown hg (fun k _ hk _ e => by cases e; omega)).es, ss_takeK (ss_of_rowK ho) n, hn, hn2, hT, fun s hs => h.sz s (List.mem_of_mem_take hs), h.bw.setCell (p := ⟨r2, 0, none⟩) o.1 _⟩

set_option maxRecDepth 100000 in
set_option maxHeartbeats 8000000 in
theorem drawPick_any (a : Option Addr) (cap : Nat) (zs : List Int) (w : World) (h : Code0 w a cap zs) :
    Calls Try.prog 9 #[.slice a zs.length cap] w (DrawnK w) := by
  obtain ⟨i0, hi, hz0, hz1, hz2⟩ := info_parts Try.infoStr
  have hal : Below w.heap.size w (w.alloc (.cells #[.slice none 0 0] 29)) := below_oneD _ _
  have a0 : (w.alloc (.cells #[.slice none 0 0] 29)).cell? ⟨w.heap.size, 0, none⟩ = some (.slice none 0 0) := by simp
  have af0 : (w.alloc (.cells #[.slice none 0 0] 29)).frozen? ⟨w.heap.size, 0, none⟩ = false := by simp
  have hsz : (w.alloc (.cells #[.slice none 0 0] 29)).heap.size = w.heap.size + 1 := by simp
  have hop := open_any a cap zs _ (code_later h hal)
  go_enter Try.func9, Try.ntmps9
  go_wp2_with fail
  refine hop.mono ?_
  rintro e w1 ⟨rfl, hb1, hs1, zs', hR1⟩
  have a1 := cell_later hb1 a0
  have af1 : w1.frozen? ⟨w.heap.size, 0, none⟩ = false := (hb1.frozen (p := ⟨w.heap.size, 0, none⟩) (by rw [hsz]; show w.heap.size < _; omega)).trans af0
  have hbw1 : Below w.heap.size w w1 := hal.trans (hb1.mono (by rw [hsz]; omega))
  rw [hsz] at hR1 hs1
  rw [hsz]
  obtain ⟨g, hg⟩ : ∃ g, g = w.heap.size + 1 := ⟨_, rfl⟩
  obtain ⟨r2, hr2⟩ : ∃ r2, r2 = w.heap.size := ⟨_, rfl⟩
  rw [← hg] at hR1 ⊢
  rw [← hr2] at a1 af1 ⊢
  have HO : Keep (r2 = w.heap.size ∧ g = w.heap.size + 1 ∧ w1.heap.size = w.heap.size + 2) := ⟨by omega⟩
  clear hop hal a0 af0 hsz hb1 hs1 hg hr2
  have hany := l5Any_any g a cap zs' 0 w1 hR1 (by omega)
  go_wp2_with fail
  refine hany.mono ?_
  rintro e w2 ⟨ad, cp, ts, rfl, hel, hn, hT, hNil, ⟨p2, hp2, hR2⟩, hg2⟩
  clear hany
  have hD : DPk w g r2 w2.heap.size a cap zs' p2 ad cp ts (.slice (some ⟨w2.heap.size + 1, 0, none⟩) 0 0) [] ((w2.alloc (.cells #[.slice ad ts.length cp] 29)).alloc (.cells #[] 9)) := by
    have ho := HO.out
    have hba := below_oneD w2 (.cells #[.slice ad ts.length cp] 29)
    have hbb := below_oneD (w2.alloc (.cells #[.slice ad ts.length cp] 29)) (.cells #[] 9)
    have hs2 := hg2.size
    have k2 := hg2.block r2 (by omega) (by simp; omega)
    have x2 : w2.cell? ⟨r2, 0, none⟩ = some (.slice none 0 0) := (World.cell?_of_block k2).trans a1
    have f2 := fz_blk k2 af1
    have hbw2 : Below w.heap.size w w2 := hbw1.grown hg2 hbw1.size (fun j e => by cases e; omega)
    have hbw3 := hbw2.trans (hba.mono hbw2.size)
    have hbw4 := hbw3.trans (hbb.mono hbw3.size)
    have hup : ts = [] ∨ ∃ k, blk ad = some k ∧ k < w2.heap.size := by
      rcases hel with h0 | ⟨k, rfl, _, hk, _⟩
      · exact .inl h0
      · exact .inr ⟨k, rfl, hk⟩
    refine ⟨(hR2.below hba).below hbb, hbw4, cell_later hbb (cell_later hba x2), ?_, cell_later hbb (by simp), ((hel.mono (by omega)).below hba).below hbb, hup, ?_, by simp, by omega⟩
    · refine (hbb.frozen (p := ⟨r2, 0, none⟩) (by simp; omega)).trans ((hba.frozen (p := ⟨r2, 0, none⟩) (by show r2 < _; omega)).trans f2)
    · refine ⟨by simp, .inr ⟨w2.heap.size + 1, 0, #[], rfl, Nat.le_refl _, ?_, Nat.le_refl _, by unfold maxLen; omega, rfl, by simp⟩⟩
      have := heap_alloc_new (w2.alloc (.cells #[.slice ad ts.length cp] 29)) (.cells #[] 9)
      rw [World.size_alloc] at this
      exact this
  clear hel hR2 hg2 hbw1 a1 af1 hR1 hNil
  go_wp2_with fail
  generalize (w2.alloc (.cells #[.slice ad ts.length cp] 29)).alloc (.cells #[] 9) = W3 at *
  generalize w2.heap.size = tb at *
  refine (pick_any g a cap zs' p2 4 W3 hD.rd (by omega) (by omega) (by omega)).mono ?_
  rintro e w4 ⟨x, rfl, hx, hg4, hR4⟩
  have hD4 := hD.step hg4 hR4
  clear hD hg4 hR4
  go_wp2
  go_loopw [6, 7] (fun v q wr => ∃ (gs : List ByteArray) (q' p' : Nat), q = .int .i64 q' ∧ gs.length + q' ≤ 3 ∧ p' + 20 * q' ≤ p2 + 80 ∧ DPk w g r2 tb a cap zs' p' ad cp ts v gs wr) (fun _ q _ => (intOf q).toNat)
  case atStart => exact ⟨[], x, p2 + 1, rfl, by simp; omega, by omega, hD4⟩
  case round =>
    obtain ⟨gs, q, p', rfl, hq3, hpq, hD⟩ := hrel
    by_cases hq : 0 < q
    · have hq' : (0 : Int) < q := by omega
      go_wp2_with fail
      refine (glob_any g a cap zs' p' wr hD.rd (by omega)).mono ?_
      rintro e w5 ⟨sG, rfl, hsG, ⟨p5, hp5, hR5⟩, hg5⟩
      have hD5 := hD.step hg5 hR5
      clear hD hg5 hR5 hD4
      go_wp2_with fail
      refine (pick_any g a cap zs' p5 8 w5 hD5.rd (by omega) (by omega) (by omega)).mono ?_
      rintro e w6 ⟨y, rfl, hy, hg6, hR6⟩
      have hD6 := hD5.step hg6 hR6
      clear hD5 hg6 hR6
      by_cases y0 : y = 0
      · have hB : ((y : Int) == 0) = true := by simp; omega
        clear y0
        go_wp2_with fail
        refine (spoilS_any g a cap zs' (p5 + 1) sG w6 hD6.rd (by omega) (by omega)).mono ?_
        rintro e w7 ⟨t, rfl, ht, ⟨p7, hp7, hR7⟩, hg7⟩
        have hD7 := hD6.step hg7 hR7
        have hw7 : tb + 1 ≤ w7.heap.size := hD7.l2.2
        have hDa := hD7.later (below_oneD w7 (.cells #[.string t] 9))
        have ho7 := hDa.own
        clear hD6 hg7 hR7
        go_wp2_with (at_builtin; refine wpList_append_own _ rfl _ _ 30 rfl (tb + 1) 9 i0 _ 1 16 Try.underlying30 hi hz0 hz1 hz2 rfl (by decide) _ _ _ rfl ho7 ⟨w7.heap.size, 0, none⟩ 1 1 [.string t] rfl rfl (cell_one_new _ _ _) (by simp [Value.oneCell']) (by unfold maxLen; omega) (by omega) (by simp; omega) ?_; intro v8 w8 ho8 hg8 _)
        have hD8 := hDa.app hg8 (gs' := gs ++ [t]) (by rw [List.length_append, List.map_append]; exact ho8) (fun u hu => by
          rcases List.mem_append.1 hu with hu | hu
          · exact hDa.sz u hu
          · rw [List.mem_singleton.1 hu]; omega)
        exact ⟨⟨gs ++ [t], q - 1, p7, by congr 1; omega, by simp; omega, by omega, hD8⟩, by simp only [intOf]; omega⟩
      · have hB : ((y : Int) == 0) = false := by simp; omega
        clear y0
        have hw7 : tb + 1 ≤ w6.heap.size := hD6.l2.2
        have hDa := hD6.later (below_oneD w6 (.cells #[.string sG] 9))
        have ho7 := hDa.own
        clear hD6
        go_wp2_with (at_builtin; refine wpList_append_own _ rfl _ _ 30 rfl (tb + 1) 9 i0 _ 1 16 Try.underlying30 hi hz0 hz1 hz2 rfl (by decide) _ _ _ rfl ho7 ⟨w6.heap.size, 0, none⟩ 1 1 [.string sG] rfl rfl (cell_one_new _ _ _) (by simp [Value.oneCell']) (by unfold maxLen; omega) (by omega) (by simp; omega) ?_; intro v8 w8 ho8 hg8 _)
        have hD8 := hDa.app hg8 (gs' := gs ++ [sG]) (by rw [List.length_append, List.map_append]; exact ho8) (fun u hu => by
          rcases List.mem_append.1 hu with hu | hu
          · exact hDa.sz u hu
          · rw [List.mem_singleton.1 hu]; omega)
        exact ⟨⟨gs ++ [sG], q - 1, p5 + 1, by congr 1; omega, by simp; omega, by omega, hD8⟩, by simp only [intOf]; omega⟩
    · obtain rfl : q = 0 := by omega
      clear hD4 hx
      go_wp2_with fail
      refine (pick_any g a cap zs' p' 16 wr hD.rd (by omega) (by omega) (by omega)).mono ?_
      rintro e w5 ⟨y, rfl, hy, hg5, hR5⟩
      have hD5 := hD.step hg5 hR5
      clear hD hg5 hR5
      by_cases y0 : y = 0
      · have hB : ((y : Int) == 0) = true := by simp; omega
        clear y0
        go_wp2
        go_loopw [6] (fun v wq => ∃ (us : List ByteArray), us.length ≤ 21 ∧ DPk w g r2 tb a cap zs' (p' + 1) ad cp ts v us wq) (fun v _ => 21 - lenV v)
        case atStart => exact ⟨gs, by omega, hD5⟩
        case round =>
          obtain ⟨us, hu, hD⟩ := hrel
          obtain ⟨ag, cg, rfl⟩ := owns_slice hD.own
          by_cases hlt : us.length < 21
          · have hlt' : (us.length : Int) < 21 := by omega
            have hDa := hD.later (below_oneD wr (.cells #[.string ⟨#[42, 42]⟩] 9))
            have ho7 := hDa.own
            have hw7 : tb + 1 ≤ wr.heap.size := hD.l2.2
            clear hD hD5
            go_wp2_with (at_builtin; refine wpList_append_own _ rfl _ _ 30 rfl (tb + 1) 9 i0 _ 1 16 Try.underlying30 hi hz0 hz1 hz2 rfl (by decide) _ _ _ rfl ho7 ⟨wr.heap.size, 0, none⟩ 1 1 [.string ⟨#[42, 42]⟩] rfl rfl (cell_one_new _ _ _) (by simp [Value.oneCell']) (by unfold maxLen; omega) (by omega) (by simp; omega) ?_; intro v8 w8 ho8 hg8 _)
            have hD8 := hDa.app hg8 (gs' := us ++ [⟨#[42, 42]⟩]) (by rw [List.length_append, List.map_append]; exact ho8) (fun u hu => by
              rcases List.mem_append.1 hu with hu | hu
              · exact hDa.sz u hu
              · rw [List.mem_singleton.1 hu]; decide)
            obtain ⟨ag8, cg8, rfl⟩ := owns_slice ho8
            exact ⟨⟨us ++ [⟨#[42, 42]⟩], by simp; omega, hD8⟩, by simp [lenV]; omega⟩
          · have HL21 : Keep (us.length = 21) := ⟨by omega⟩
            have hl20 : 20 < us.length := by omega
            clear hlt
            obtain ⟨nb, c9, hv9, hlo9, _⟩ := hD.own.form (by omega)
            cases hv9
            have hcg : 21 ≤ cg := by
              rcases hD.own.2 with ⟨h0, _⟩ | ⟨_, _, _, h0, _, _, h1, _⟩
              · cases h0
              · cases h0; omega
            have hD0 : DPk w g r2 tb a cap zs' (p' + 1) ad cp ts (.slice (some ⟨nb, 0, none⟩) us.length cg) us wr.drew := hD.later (W' := wr.drew) (Below.refl _ _).drew
            have t6 := hD0.tc
            have hpk := pick_any g a cap zs' (p' + 1) 2 wr.drew hD0.rd (by omega) (by omega) (by omega)
            have hsl : ∀ (k : Nat) (w1 : World), k < 2 → (Instr.sliceAt 30 (.slice (some ⟨nb, 0, none⟩) us.length cg) none (some (.int .i64 (20 + (k : Int)))) none).run Try.prog w1 = .ok (.slice (some ⟨nb, 0, none⟩) (20 + k) cg) w1 := fun k w1 hk => by
              rw [run_sliceAt_slice w1 _ _ _ _ _ Try.underlying30, run_slice_h w1 _ _ _ _ Try.underlying30 .i64 (20 + (k : Int)) (by omega) (by omega)]
              have hz : (sizeOf (Try.prog.elem 30)).run Try.prog w1 = .ok 1 w1 := by kernel_rfl
              rw [hz, show (20 + (k : Int)).toNat = 20 + k by omega]
              show Result.ok (sliced (some ⟨nb, 0, none⟩) 0 (20 + k) cg 1) w1 = _
              unfold sliced
              rw [if_neg (by omega)]
              rfl
            have hkt : ∀ W : World, W.cell? ⟨tb, 0, none⟩ = some (.slice ad ts.length cp) → (W.setCell ⟨r2, 0, none⟩ (.slice ad ts.length cp)).cell? ⟨tb, 0, none⟩ = some (.slice ad ts.length cp) := fun W hW => (World.cell?_setCell_other _ _ _ _ (by have := hD.ord; simp <;> omega)).trans hW
            clear hD hD5
            go_upto_region 14 with fail
            go_region_held3 (fun w' => w'.cell? ⟨tb, 0, none⟩ = some (.slice ad ts.length cp)) (first | go_keep | (exact t7) | (exact t8))
              (first | (go_at_call 16; refine hpk.mono ?_; rintro e w7 ⟨k, rfl, hk, hg7, hR7⟩; have hD7 := hD0.step hg7 hR7; have t7 := hD7.tc; have r7 := hD7.a0; have rf7 := hD7.af; have t8 := hkt w7 t7; have hwM : IntKind.i64.wrap (20 + (k : Int)) = 20 + k := (by rw [IntKind.wrap_i64] <;> omega); have hs7 := fun w1 => hsl k w1 hk))
            have hm : Keep ((us.take (20 + k)).length = 20 + k) := ⟨by rw [List.length_take]; omega⟩
            go_wp2
            refine bodyPost_ret (v := .tuple #[.agg #[.slice ad ts.length cp], .slice (some ⟨nb, 0, none⟩) (20 + k) cg]) ?_ rfl (hD7.back hn hT (20 + k) (by rw [hm.out]; omega) hm.out rfl)
            go_light
            simp [results, Try.results9, go_sem, r7]
      · have hB : ((y : Int) == 0) = false := by simp; omega
        clear y0
        obtain ⟨ag, cg, rfl⟩ := owns_slice hD5.own
        have r5 := hD5.a0
        have rf5 := hD5.af
        have t5 := hD5.tc
        go_wp2
        refine bodyPost_ret (v := .tuple #[.agg #[.slice ad ts.length cp], .slice ag gs.length cg]) ?_ rfl (hD5.back hn hT gs.length (by rw [List.take_length]; omega) (by rw [List.take_length]) rfl)
        go_light
        simp [results, Try.results9, go_sem, r5]
end Go.Proofs.Ytcajheaacdeokaa

namespace Go.Proofs.Ytcajheaacdeokaa
open Go.RowKit

section
variable {X : Type} {any : X → Bool} {one : X → X → Bool}
theorem mat_self : ∀ ms : List X, (∀ m ∈ ms, any m = false ∧ one m m = true) → mat any one ms ms = true
  | [], _ => rfl
  | m :: ms, h => by
    rw [mat_one (h m (by simp)).1, (h m (by simp)).2, mat_self ms (fun x hx => h x (by simp [hx]))]
    rfl
theorem mat_same {Y : Type} (f : X → Y) : ∀ ms ps : List X, (∀ m ∈ ms, any m = false ∧ ∀ q, one m q = true → f m = f q) → mat any one ms ps = true → ms.map f = ps.map f
  | [], ps, _, h => by
    rw [mat_nil] at h
    cases ps with
    | nil => rfl
    | cons => simp at h
  | m :: ms, [], k, h => by rw [mat_one_nil (k m (by simp)).1] at h; cases h
  | m :: ms, q :: qs, k, h => by
    rw [mat_one (k m (by simp)).1, Bool.and_eq_true] at h
    rw [List.map_cons, List.map_cons, (k m (by simp)).2 q h.1, mat_same f ms qs (fun x hx => k x (by simp [hx])) h.2]
theorem mat_tail {m : X} {ms ps : List X} (hm : any m = true) (h : mat any one ms ps = true) : mat any one (m :: ms) ps = true := by
  cases ps with
  | nil => rw [mat_any_nil hm]; exact h
  | cons q qs => rw [mat_any hm, h]; rfl
theorem mat_front {m z : X} {ms ps : List X} (hm : any m = true) (h : mat any one ms ps = true) : mat any one (m :: ms) (z :: ps) = true := by
  rw [mat_any hm, mat_tail hm h, Bool.or_true]
end

theorem pathB_glob {r : Int} (h : pathB r = true) : globB r = true ∧ (r == 42) = false ∧ (r == 63) = false := by
  simp only [pathB, Bool.and_eq_true, Bool.not_eq_true'] at h
  exact ⟨h.1.1, h.1.2, h.2⟩
theorem part_bytes {s : ByteArray} (h : partOk pathB s = true) : ∀ c ∈ s.data.toList, pathB (c.toNat : Int) = true := by
  simp only [partOk, Bool.and_eq_true] at h
  exact fun c hc => List.all_eq_true.1 h.2 c hc
theorem part_glob {s : ByteArray} (h : partOk pathB s = true) : partOk globB s = true := by
  have hb := part_bytes h
  simp only [partOk, Bool.and_eq_true] at h ⊢
  exact ⟨h.1, List.all_eq_true.2 fun c hc => (pathB_glob (hb c hc)).1⟩
theorem path_glob {s : ByteArray} (h : pathOk pathB s = true) : pathOk globB s = true := by
  simp only [pathOk, Bool.and_eq_true] at h ⊢
  exact ⟨h.1, List.all_eq_true.2 fun x hx => part_glob (List.all_eq_true.1 h.2 x hx)⟩
theorem path_partsG {s x : ByteArray} (h : pathOk pathB s = true) (hx : x ∈ partsB s) : partOk pathB x = true := by
  simp only [pathOk, Bool.and_eq_true] at h
  exact List.all_eq_true.1 h.2 x hx
theorem num_nat (c : UInt8) : num c = (c.toNat : Int) := rfl
theorem plain_nums {x : ByteArray} (h : partOk pathB x = true) : ∀ m ∈ nums x.data.toList, anyB m = false ∧ (m == 63) = false := by
  intro m hm
  obtain ⟨c, hc, rfl⟩ := List.mem_map.1 hm
  have := pathB_glob (part_bytes h c hc)
  exact ⟨this.2.1, this.2.2⟩
theorem plain_any {x : ByteArray} (h : partOk pathB x = true) : anyS x = false := by
  have hb := part_bytes h
  unfold anyS
  rw [Lib.toList_data]
  cases hq : (x.data.toList == [42, 42]) with
  | false => rfl
  | true =>
    have he : x.data.toList = [42, 42] := by simpa using hq
    have := hb 42 (by rw [he]; simp)
    exact absurd this (by decide)
theorem one_self {x : ByteArray} (h : partOk pathB x = true) : oneS x x = true :=
  mat_self _ fun m hm => ⟨(plain_nums h m hm).1, by simp [oneB]⟩
theorem one_size {x y : ByteArray} (h : partOk pathB x = true) (k : oneS x y = true) : x.size = y.size := by
  have := congrArg List.length (mat_same (fun _ => ()) _ _ (fun m hm => ⟨(plain_nums h m hm).1, fun _ _ => rfl⟩) k)
  rw [List.length_map, List.length_map, nums, nums, List.length_map, List.length_map] at this
  rw [Lib.size_eq, Lib.size_eq]
  exact this

theorem match_self {p : ByteArray} (h : pathOk pathB p = true) : matchS p p = true := by
  unfold matchS
  rw [path_glob h, h, mat_self _ fun m hm => ⟨plain_any (path_partsG h hm), one_self (path_partsG h hm)⟩]
  rfl
theorem match_longer {p q : ByteArray} (h : pathOk pathB p = true) (hq : p.size < q.size) : matchS p q = false := by
  cases hm : matchS p q with
  | false => rfl
  | true =>
    unfold matchS at hm
    simp only [Bool.and_eq_true] at hm
    have hs := mat_same ByteArray.size _ _ (fun m hm => ⟨plain_any (path_partsG h hm), fun q k => one_size (path_partsG h hm) k⟩) hm.2
    have h1 := splitS_length p.data.toList
    have h2 := splitS_length q.data.toList
    have h3 : ∀ s : ByteArray, (partsB s).map ByteArray.size = (splitS s.data.toList).map List.length := fun s => by
      unfold partsB
      rw [List.map_map]
      exact List.map_congr_left fun l _ => mkB_size l
    rw [h3, h3] at hs
    have h4 : ∀ l : List (List UInt8), (l.map fun p => p.length + 1) = (l.map List.length).map (· + 1) := fun l => by rw [List.map_map]; rfl
    rw [h4, hs, ← h4] at h1
    have h5 : p.data.toList.length = p.size := (Lib.size_eq p).symm
    have h6 : q.data.toList.length = q.size := (Lib.size_eq q).symm
    omega
theorem drop_behind (l m : List UInt8) (c : UInt8) : (l ++ c :: m).drop (l.length + 1) = m := by
  rw [List.drop_append, List.drop_eq_nil_of_le (by omega), Nat.add_sub_cancel_left]
  rfl
theorem parts_front (x y : ByteArray) (hx : ∀ k : Nat, x.data.toList[k]? ≠ some 47) : partsB (x ++ ⟨#[47]⟩ ++ y) = x :: partsB y := by
  unfold partsB
  have e : (x ++ ⟨#[47]⟩ ++ y).data.toList = x.data.toList ++ 47 :: y.data.toList := by simp [ByteArray.data_append]
  rw [e, splitS_at (x.data.toList ++ 47 :: y.data.toList) x.data.toList.length (by simp) (fun k hk => by rw [List.getElem?_append_left hk]; exact hx k)]
  rw [List.take_left, drop_behind, List.map_cons, mkB_data]
theorem match_front {g p : ByteArray} (h : matchS g p = true) (h1 : pathOk pathB (⟨#[122]⟩ ++ ⟨#[47]⟩ ++ p) = true) (h2 : pathOk globB (⟨#[42, 42]⟩ ++ ⟨#[47]⟩ ++ g) = true) : matchS (⟨#[42, 42]⟩ ++ ⟨#[47]⟩ ++ g) (⟨#[122]⟩ ++ ⟨#[47]⟩ ++ p) = true := by
  unfold matchS at h ⊢
  simp only [Bool.and_eq_true] at h
  rw [h1, h2, parts_front _ _ (by intro k; match k with | 0 => decide | 1 => decide | k + 2 => simp), parts_front _ _ (by intro k; match k with | 0 => decide | k + 1 => simp)]
  rw [mat_front (by unfold anyS; rw [Lib.toList_data]; rfl) h.2]
  rfl
end Go.Proofs.Ytcajheaacdeokaa

namespace Go.Proofs.Ytcajheaacdeokaa
open Go.RowKit

/-- A tree in a box. -/
structure TBx (b : Nat) (ad : Option Addr) (cp : Nat) (ts : List En) (W : World) : Prop where
  c : W.cell? ⟨b, 0, none⟩ = some (.slice ad ts.length cp)
  es : ES W ad ts
theorem TBx.later {b : Nat} {ad : Option Addr} {cp : Nat} {ts : List En} {W W' : World} (h : TBx b ad cp ts W) (hb : Below W.heap.size W W') : TBx b ad cp ts W' := ⟨cell_later hb h.c, h.es.below hb⟩
theorem TBx.new {ad : Option Addr} {cp : Nat} {ts : List En} {W : World} (h : ES W ad ts) : TBx W.heap.size ad cp ts (W.alloc (.cells #[.slice ad ts.length cp] 29)) := ⟨by simp, h.below (below_oneD _ _)⟩

set_option maxRecDepth 20000 in
set_option maxHeartbeats 2000000 in
theorem wTree_any (a b : Option Addr) (ca cb : Nat) (ts : List En) (w : World) (ha : ES w a ts) (hb : ES w b ts) (hn : ts.length ≤ 1048576) :
    Calls Try.prog 11 #[.agg #[.slice a ts.length ca], .agg #[.slice b ts.length cb]] w fun e w' => e = .returned (.bool true) ∧ Below w.heap.size w w' := by
  have hal : Below w.heap.size w ((w.alloc (.cells #[.slice a ts.length ca] 29)).alloc (.cells #[.slice b ts.length cb] 29)) := ((Below.refl _ _).alloc (Nat.le_refl _) _).alloc (by simp) _
  have m0 : ((w.alloc (.cells #[.slice a ts.length ca] 29)).alloc (.cells #[.slice b ts.length cb] 29)).cell? ⟨w.heap.size, 0, none⟩ = some (.slice a ts.length ca) := by simp [go_sem]
  have n0 : ((w.alloc (.cells #[.slice a ts.length ca] 29)).alloc (.cells #[.slice b ts.length cb] 29)).cell? ⟨w.heap.size + 1, 0, none⟩ = some (.slice b ts.length cb) := by simp [go_sem]
  go_enter Try.func11, Try.ntmps11
  go_wp2
  generalize (w.alloc (.cells #[.slice a ts.length ca] 29)).alloc (.cells #[.slice b ts.length cb] 29) = W0 at *
  go_loopw [5] (fun i wr => ∃ k : Nat, i = .int .i64 k ∧ k ≤ ts.length ∧ Below W0.heap.size W0 wr) (fun i _ => ts.length - (intOf i).toNat)
  case atStart => exact ⟨0, rfl, Nat.zero_le _, Below.refl _ _⟩
  case round =>
    obtain ⟨k, rfl, hk, hB⟩ := hrel
    have M := cell_later hB m0
    have N := cell_later hB n0
    have hBw := hal.trans (hB.mono hal.size)
    by_cases hlt : k < ts.length
    · have hlt' : (k : Int) < ts.length := by omega
      obtain ⟨b1, o1, rfl, h1⟩ := (ha.below hBw).at hlt
      obtain ⟨b2, o2, rfl, h2⟩ := (hb.below hBw).at hlt
      obtain ⟨x0, x1, x2⟩ := h1 k hlt
      obtain ⟨y0, y1, y2⟩ := h2 k hlt
      clear h1 h2
      go_wp2
      go_quiet (fail)
      go_wp2
      go_roundw
      case rel => exact ⟨k + 1, by congr 1, hlt, below_drewN hB _⟩
      case measure => simp only [intOf]; omega
    · obtain rfl : k = ts.length := by omega
      go_wp2
      go_ret
      exact ⟨rfl, hBw⟩
end Go.Proofs.Ytcajheaacdeokaa

namespace Go.Proofs.Ytcajheaacdeokaa
open Go.RowKit

theorem tiny_okG {P T : Nat} {ts : List En} (h : Tiny P T ts) (hP : P ≤ 1048576) (hT : T ≤ 1048576) : ∀ e ∈ ts, e.path.size ≤ 1048576 ∧ e.text.size ≤ 1048576 := fun e he => ⟨Nat.le_trans (h e he).1 hP, Nat.le_trans (h e he).2 hT⟩
theorem front_z (p : ByteArray) : (⟨#[122, 47]⟩ : ByteArray) ++ p = ⟨#[122]⟩ ++ ⟨#[47]⟩ ++ p := by
  rw [show (⟨#[122]⟩ ++ ⟨#[47]⟩ : ByteArray) = ⟨#[122, 47]⟩ from rfl]
theorem front_s (p : ByteArray) : (⟨#[42, 42, 47]⟩ : ByteArray) ++ p = ⟨#[42, 42]⟩ ++ ⟨#[47]⟩ ++ p := by
  rw [show (⟨#[42, 42]⟩ ++ ⟨#[47]⟩ : ByteArray) = ⟨#[42, 42, 47]⟩ from rfl]
theorem pck_some {ts : List En} {gs : List ByteArray} {us : List En} (h : Pck ts gs us) : ∀ x ∈ us, someM gs x.path = true := by
  intro x hx
  rcases h with ⟨_, rfl⟩ | ⟨_, rfl⟩
  · cases hx
  · exact (List.mem_filter.1 hx).2
theorem pck_tiny {P T : Nat} {ts : List En} {gs : List ByteArray} {us : List En} (h : Pck ts gs us) (ht : Tiny P T ts) : Tiny P T us := by
  intro x hx
  rcases h with ⟨_, rfl⟩ | ⟨_, rfl⟩
  · cases hx
  · exact ht x (List.mem_filter.1 hx).1

theorem iM {g p : ByteArray} {m : Bool} (hm : matchS g p = m) (hg : g.size ≤ 1099511627776) (hp : p.size ≤ 1099511627776) (w : World) : Calls Try.prog 5 #[.string g, .string p] w fun e w' => e = .returned (.bool m) ∧ Below w.heap.size w w' :=
  (implMatch_any g p hg hp w).mono fun _ _ ⟨h1, h2⟩ => ⟨hm ▸ h1, h2⟩
theorem sM {g p : ByteArray} {m : Bool} (hm : matchS g p = m) (w : World) : Calls Try.prog 6 #[.string g, .string p] w fun e w' => e = .returned (.bool m) ∧ Below w.heap.size w w' :=
  (specMatch_any g p w).mono fun _ _ ⟨h1, h2⟩ => ⟨hm ▸ h1, h2⟩
theorem sP {p : ByteArray} {m : Bool} (hm : pathOk pathB p = m) (w : World) : Calls Try.prog 7 #[.string p] w fun e w' => e = .returned (.bool m) ∧ Below w.heap.size w w' :=
  (specPath_any p w).mono fun _ _ ⟨h1, h2⟩ => ⟨hm ▸ h1, h2⟩
theorem sG {p : ByteArray} {m : Bool} (hm : pathOk globB p = m) (w : World) : Calls Try.prog 8 #[.string p] w fun e w' => e = .returned (.bool m) ∧ Below w.heap.size w w' :=
  (specGlob_any p w).mono fun _ _ ⟨h1, h2⟩ => ⟨hm ▸ h1, h2⟩

set_option maxRecDepth 100000 in
set_option maxHeartbeats 16000000 in
theorem globs_walk (a : Option Addr) (cap : Nat) (zs : List Int) (w : World) (hc : Code0 w a cap zs) :
    Calls Try.prog 3 #[.slice a zs.length cap] w fun e w' => e = .returned (.bool true) ∧ Below w.heap.size w w' := by
  by_cases hbig : (1048576 : Int) < zs.length
  · go_enter Try.func3, Try.ntmps3
    go_wp2
    go_ret
    exact ⟨rfl, Below.refl _ _⟩
  go_enter Try.func3, Try.ntmps3
  go_wp2_with fail
  refine (drawMatch_any a cap zs w hc).mono ?_
  rintro e w1 ⟨g, p, rfl, hgz, hpz, hb1⟩
  have kq : ∀ {W W' : World}, Below w.heap.size w W → Below W.heap.size W W' → Below w.heap.size w W' := fun h h' => h.trans (h'.mono h.size)
  obtain ⟨m, hm⟩ : ∃ m, matchS g p = m := ⟨_, rfl⟩
  obtain ⟨vp, hvp⟩ : ∃ vp, pathOk pathB p = vp := ⟨_, rfl⟩
  have HV : Keep (pathOk pathB p = vp ∧ matchS g p = m) := ⟨hvp, hm⟩
  clear hvp hm
  have hne : (m != m) = false := by cases m <;> rfl
  go_wp2_with fail
  refine (iM HV.out.2 (by omega) (by omega) w1).mono ?_
  rintro e w2 ⟨rfl, hb2⟩
  go_wp2_with fail
  refine (sM HV.out.2 w2).mono ?_
  rintro e w3 ⟨rfl, hb3⟩
  have hbw3 := kq (kq hb1 hb2) hb3
  clear hb1 hb2 hb3
  go_wp2_with fail
  refine (sP HV.out.1 w3).mono ?_
  rintro e w4 ⟨rfl, hb4⟩
  have hbw4 := kq hbw3 hb4
  clear hbw3 hb4 hne
  go_upto_if 29 with fail
  go_cut [] (fun wx => Below w.heap.size w wx)
  case first =>
    cases vp with
    | false =>
      go_wp2_with fail
      go_meet
      case rel => exact hbw4
    | true =>
      have hc1 : ¬ 9223372036854775807 < p.size + 1 := by omega
      have hc2 : ¬ 9223372036854775807 < 2 + p.size := by omega
      have hc3 : ¬ 9223372036854775807 < 3 + g.size := by omega
      have hz1 : (p ++ ⟨#[122]⟩).size ≤ 1000 := by rw [ByteArray.size_append]; show p.size + 1 ≤ _; omega
      have hz2 : ((⟨#[122, 47]⟩ : ByteArray) ++ p).size ≤ 1000 := by rw [ByteArray.size_append]; show 2 + p.size ≤ _; omega
      have hz3 : ((⟨#[42, 42, 47]⟩ : ByteArray) ++ g).size ≤ 6000 := by rw [ByteArray.size_append]; show 3 + g.size ≤ _; omega
      have HZ : Keep ((p ++ ⟨#[122]⟩).size ≤ 1000 ∧ ((⟨#[122, 47]⟩ : ByteArray) ++ p).size ≤ 1000 ∧ ((⟨#[42, 42, 47]⟩ : ByteArray) ++ g).size ≤ 6000) := ⟨hz1, hz2, hz3⟩
      have HS : Keep (matchS p p = true ∧ matchS p (p ++ ⟨#[122]⟩) = false) := ⟨match_self HV.out.1, match_longer HV.out.1 (by rw [ByteArray.size_append]; show p.size < p.size + 1; omega)⟩
      clear hz1 hz2 hz3
      go_wp2_with fail
      refine (iM HS.out.1 (by omega) (by omega) w4).mono ?_
      rintro e w5 ⟨rfl, hb5⟩
      have hbw5 := kq hbw4 hb5
      go_wp2_with fail
      refine (iM HS.out.2 (by omega) (by have := HZ.out.1; omega) w5).mono ?_
      rintro e w6 ⟨rfl, hb6⟩
      have hbw6 := kq hbw5 hb6
      clear hbw4 hbw5 hb5 hb6
      cases m with
      | false =>
        go_wp2_with fail
        go_meet
        case rel => exact hbw6
      | true =>
        obtain ⟨vz, hvz⟩ : ∃ vz, pathOk pathB (⟨#[122, 47]⟩ ++ p) = vz := ⟨_, rfl⟩
        have HVZ : Keep (pathOk pathB (⟨#[122, 47]⟩ ++ p) = vz) := ⟨hvz⟩
        clear hvz
        go_wp2_with fail
        refine (sP HVZ.out w6).mono ?_
        rintro e w7 ⟨rfl, hb7⟩
        have hbw7 := kq hbw6 hb7
        clear hbw6 hb7
        cases vz with
        | false =>
          go_wp2_with fail
          go_meet
          case rel => exact hbw7
        | true =>
          obtain ⟨vg, hvg⟩ : ∃ vg, pathOk globB (⟨#[42, 42, 47]⟩ ++ g) = vg := ⟨_, rfl⟩
          have HVG : Keep (pathOk globB (⟨#[42, 42, 47]⟩ ++ g) = vg) := ⟨hvg⟩
          clear hvg
          go_wp2_with fail
          refine (sG HVG.out w7).mono ?_
          rintro e w8 ⟨rfl, hb8⟩
          have hbw8 := kq hbw7 hb8
          clear hbw7 hb8
          cases vg with
          | false =>
            go_wp2_with fail
            go_meet
            case rel => exact hbw8
          | true =>
            have HF : Keep (matchS (⟨#[42, 42, 47]⟩ ++ g) (⟨#[122, 47]⟩ ++ p) = true) := ⟨by
              rw [front_s, front_z]
              exact match_front HV.out.2 (by rw [← front_z]; exact HVZ.out) (by rw [← front_s]; exact HVG.out)⟩
            go_wp2_with fail
            refine (iM HF.out (by have := HZ.out.2.2; omega) (by have := HZ.out.2.1; omega) w8).mono ?_
            rintro e w9 ⟨rfl, hb9⟩
            have hbw9 := kq hbw8 hb9
            go_wp2_with fail
            go_meet
            case rel => exact hbw9
  case rest =>
    clear hbw4 HV
    have hdk := drawPick_any a cap zs wc (code_later hc hcut)
    go_wp2_with fail
    refine hdk.mono ?_
    rintro e w5 ⟨ad, cp, ts, ag, cg, gs, rfl, hes, hss, hn, hgn, hT, hgs, hb5⟩
    have hbw5 := kq hcut hb5
    clear hdk hcut hb5
    have ba5 := below_oneD w5 (.cells #[.slice ad ts.length cp] 29)
    have hT5 : TBx w5.heap.size ad cp ts (w5.alloc (.cells #[.slice ad ts.length cp] 29)) := TBx.new hes
    have hss5 := hss.below ba5
    have hbw6 := kq hbw5 ba5
    clear hes hss ba5 hbw5
    have t0 := hT5.c
    have hpk := implPck_any ad cp ts ag cg gs _ hT5.es hss5 (by omega) (tiny_okG hT (by omega) (by omega)) (fun s hs => Nat.le_trans (hgs s hs) (by omega))
    go_wp2_with fail
    refine hpk.mono ?_
    rintro e w6 ⟨us, hP, ⟨ad6, cp6, rfl, hel6⟩, hb6⟩
    generalize w5.alloc (.cells #[.slice ad ts.length cp] 29) = w5a at *
    generalize w5.heap.size = tb at *
    clear hpk t0
    have ba6 := below_oneD w6 (.cells #[.slice ad6 us.length cp6] 29)
    have hX7 : TBx w6.heap.size ad6 cp6 us (w6.alloc (.cells #[.slice ad6 us.length cp6] 29)) := TBx.new hel6.es
    have hT7 := (hT5.later hb6).later ba6
    have hss7 := (hss5.below hb6).below ba6
    have hbw7 := kq (kq hbw6 hb6) ba6
    have hun := pck_few hP
    have huT := pck_tiny hP hT
    have HU : Keep (∀ x ∈ us, someM gs x.path = true) := ⟨pck_some hP⟩
    clear hT5 hss5 hbw6 hb6 ba6 hel6
    go_upto_region 14 with fail
    generalize w6.alloc (.cells #[.slice ad6 us.length cp6] 29) = w7 at *
    generalize w6.heap.size = xb at *
    have t0 := hT7.c
    have x0 := hX7.c
    have hX8 := hX7.later (W' := w7.drew) (Below.refl _ _).drew
    have hT8 := hT7.later (W' := w7.drew) (Below.refl _ _).drew
    have hsp := specPck_any ad cp ts ag cg gs w7.drew hT8.es (hss7.below (w' := w7.drew) (Below.refl _ _).drew) (by omega)
    go_region_held3 (fun w' => w'.cell? ⟨xb, 0, none⟩ = some (.slice ad6 us.length cp6) ∧ w'.cell? ⟨tb, 0, none⟩ = some (.slice ad ts.length cp)) (first | go_keep | (exact ⟨x9, t9⟩) | (exact ⟨x10, t10⟩))
      (first
        | (go_at_call 12; refine hsp.mono ?_; rintro e w9 ⟨us', hP', ⟨ad9, cp9, rfl, hel9⟩, hb9⟩; have hq := pck_one hP' hP; subst hq; have hX9 := hX8.later hb9; have hT9 := hT8.later hb9; have x9 := hX9.c; have t9 := hT9.c; have hwt := wTree_any ad6 ad9 cp6 cp9 us' w9 hX9.es hel9.es (by omega))
        | (go_at_call 11; refine hwt.mono ?_; rintro e w10 ⟨rfl, hb10⟩; have hX10 := hX9.later hb10; have hT10 := hT9.later hb10; have x10 := hX10.c; have t10 := hT10.c))
    have hss10 : SS w10 ag gs := ((hss7.below (w' := w7.drew) (Below.refl _ _).drew).below hb9).below hb10
    have hbw10 := kq (kq (kq hbw7 (W' := w7.drew) (Below.refl _ _).drew) hb9) hb10
    have hus : us'.length ≤ 103 := by omega
    clear hX7 hT7 hss7 hX8 hT8 hX9 hT9 x9 t9 t10 hT10 hwt hsp hb9 hb10 hbw7 t0 x0 hel9 hP hP' hT hn
    go_wp2
    go_loopw [9] (fun i wr => ∃ k : Nat, i = .int .i64 k ∧ k ≤ us'.length ∧ Below w10.heap.size w10 wr) (fun i _ => us'.length - (intOf i).toNat)
    case atStart => exact ⟨0, rfl, Nat.zero_le _, Below.refl _ _⟩
    case round =>
      obtain ⟨k, rfl, hk, hBr⟩ := hrel
      have xr := cell_later hBr x10
      by_cases hlt : k < us'.length
      · have hlt' : (k : Int) < us'.length := by omega
        obtain ⟨b, off, rfl, hcc⟩ := (hX10.es.below hBr).at hlt
        obtain ⟨p0, _, _⟩ := hcc k hlt
        have hSr := hss10.below hBr
        have HM : Keep (someM gs us'[k].path = true) := ⟨HU.out _ (List.getElem_mem hlt)⟩
        have hpz2 := (huT _ (List.getElem_mem hlt)).1
        clear hcc x10
        obtain ⟨pt, hpt⟩ : ∃ pt, us'[k].path = pt := ⟨_, rfl⟩
        rw [hpt] at p0 HM hpz2
        clear hpt
        rename World => W
        go_wp2
        go_loopw [10, 11] (fun s7 s8 wi => ∃ j : Nat, j ≤ gs.length ∧ s7 = .bool (someM (gs.take j) pt) ∧ s8 = .int .i64 (j : Int) ∧ Below W.heap.size W wi) (fun _ s8 _ => gs.length - (intOf s8).toNat)
        case atStart => exact ⟨0, Nat.zero_le _, rfl, rfl, Below.refl _ _⟩
        case round =>
          obtain ⟨j, hj, rfl, rfl, hB⟩ := hrel
          by_cases hjl : j < gs.length
          · have hjl' : (j : Int) < gs.length := by omega
            obtain ⟨bg, og, rfl, dg⟩ := hSr.at hjl
            have y1 := cell_later hB (dg j hjl)
            have ym := cell_later hB xr
            have y0 := cell_later hB p0
            have hst := someM_take (p := pt) hjl
            cases hs : someM (gs.take j) pt with
            | true =>
              rw [hs, Bool.true_or] at hst
              have HST : Keep (someM (gs.take (j + 1)) pt = true) := ⟨hst⟩
              clear hst dg hs
              go_wp2
              go_quiet (fail)
              go_wp2
              go_roundw
              case rel => exact ⟨j + 1, hjl, by rw [HST.out], by go_num, ⟨hB.os, hB.tape, hB.output, hB.size, hB.block⟩⟩
              case measure => simp only [intOf]; omega
            | false =>
              rw [hs, Bool.false_or] at hst
              have HST : Keep (someM (gs.take (j + 1)) pt = matchS gs[j] pt) := ⟨hst⟩
              obtain ⟨gl, hgl⟩ : ∃ gl, gs[j] = gl := ⟨_, rfl⟩
              have hglz : gl.size ≤ 100 := by rw [← hgl]; exact hgs _ (List.getElem_mem hjl)
              rw [hgl] at y1
              have HGP : Keep (matchS gs[j] pt = matchS gl pt) := ⟨by rw [hgl]⟩
              have HC : Keep (∀ x : Later wr, Calls Try.prog 5 #[.string gl, .string pt] x.world fun e w'' => e = .returned (.bool (matchS gl pt)) ∧ ∃ y : Later wr, w'' = y.world) := ⟨fun x => Later.call x (iM rfl (by omega) (by omega) _)⟩
              have z1 : ∀ x : Later wr, x.world.cell? ⟨bg, og + j, none⟩ = some (.string gl) := fun x => cell_later x.kept y1
              have zm : ∀ x : Later wr, x.world.cell? ⟨xb, 0, none⟩ = some (.slice (some ⟨b, off, none⟩) us'.length cp6) := fun x => cell_later x.kept ym
              have z0 : ∀ x : Later wr, x.world.cell? ⟨b, off + k * 3, none⟩ = some (.string pt) := fun x => cell_later x.kept y0
              clear hst dg hs y1 ym y0 hgl
              go_wp2
              (haveI := later_any; refine wp_region_later (by kernel_rfl) (by kernel_rfl) ?_; (repeat (go_big_quiet_step ((go_at_call 5; exact HC.out _)))); refine wpQuiet_nil ?_; intro _ hwq; obtain ⟨xq, hwq2⟩ := hwq; subst hwq2)
              go_wp2
              go_roundw
              case rel => exact ⟨j + 1, hjl, by rw [HST.out, HGP.out], by go_num, hB.trans (xq.kept.mono hB.size)⟩
              case measure => simp only [intOf]; omega
          · obtain rfl : j = gs.length := by omega
            rw [List.take_length, HM.out]
            have hB2 := hBr.trans (hB.mono hBr.size)
            go_wp2
            go_roundw
            case rel => exact ⟨k + 1, by congr 1, hlt, hB2⟩
            case measure => simp only [intOf]; omega
      · obtain rfl : k = us'.length := by omega
        go_wp2
        go_ret
        exact ⟨rfl, kq hbw10 hBr⟩
end Go.Proofs.Ytcajheaacdeokaa

namespace Go.Proofs.Ytcajheaacdeokaa.fnGlobs
open Go.ChangeShapes Go.WideShapes Go.ChangeAt Go.RowKit
set_option linter.unusedVariables false

theorem own : ownKnob Try.prog.godebug = none := by kernel_rfl
theorem laidOut : laidOutB Try.prog = true := by kernel_rfl

theorem open_code {H : Type} {enc : TypeId × Value → H} {W : World} {a : Option Addr} {len cap : Nat} {d : DataW H} {p : List MemPlace} (h : DataW.Trod enc Try.prog W 0 (fun _ => true) true 22 (.slice a len cap) d p) :
    ∃ zs : List Int, len = zs.length ∧ Code0 W a cap zs := by
  obtain ⟨fuel, hf⟩ := h
  rcases open_ints Try.underlying22 Try.underlying5 (by kernel_rfl) hf with ⟨hcs, _⟩ | ⟨x, l, c, zs, hcs, _, hl, hm, hz, _, hcell, hwz⟩
  · simp [Value.cells] at hcs
    obtain ⟨rfl, rfl, rfl⟩ := hcs
    exact ⟨[], rfl, .inl rfl, Nat.zero_le _, Nat.zero_le _, fun z hz => by simp at hz⟩
  · simp [Value.cells] at hcs
    obtain ⟨rfl, rfl, rfl⟩ := hcs
    have hz' : zs.length = cap := by simpa using hz
    refine ⟨zs.take len, by simp; omega, ?_, by simp; omega, hm, fun z hz => ?_⟩
    · by_cases h0 : len = 0
      · left; simp [h0]
      · right
        obtain ⟨b, off, rfl, hc⟩ := ints_at hcell (by omega)
        refine ⟨b, off, rfl, ?_, fun i hi => ?_⟩
        · have h1 := hc 0 (by omega)
          unfold World.cell? at h1
          cases hh : W.heap[b]? with
          | none => simp [hh] at h1
          | some o => exact (Array.getElem?_eq_some_iff.1 hh).1
        · have hi' : i < zs.length := by simp at hi; omega
          rw [hc i hi']
          simp [List.getD, hi']
    · have := bounds_u8 (hwz z (List.mem_of_mem_take hz))
      omega

set_option maxRecDepth 100000 in
theorem lifted (os : Os) (started : os.Started) (H : Type) (enc : TypeId × Value → H) :
    ReturnsInHanded {} Try.checked os 3 .any (Rows.fnGlobsSpec.pre6 enc Try.prog Try.f3 Rows.fnGlobsRow.domain false) (Rows.fnGlobsSpec.post enc Try.prog Try.f3 false true false false) := by
  refine returnsInHanded_of_change (C := Try.checked) own started (by kernel_rfl) Try.func3
    (ChangeSpec.witness6 (enc := enc) (C := Try.checked) false ⟨#[], #[.slice none 0 0], []⟩ 8 (by kernel_rfl) (by kernel_rfl) (by kernel_rfl) (by kernel_rfl)) ?_
  intro W base args ds gs before hval0 hW hcnd _
  have hval : ∀ (j : Nat) t v, Try.f3.params[j]? = some t → args[j]? = some v → Value.okWide Try.prog W .any base t v := hval0
  have hW' := hW
  obtain ⟨p, q, hA0, hV, rfl, hfz, hnd⟩ := hW
  have hA : DataW.TrodAll enc Try.prog W 0 (fun _ => true) true Try.f3.params.toList args.toList ds p := hA0
  rw [Try.params3] at hA hval
  obtain ⟨v0, vs0, d0, ds0, p0, q0, hargs, rfl, rfl, h0, r0⟩ := trodAll_cons hA
  obtain ⟨rfl, rfl, rfl⟩ := trodAll_nil r0
  obtain rfl : args = #[v0] := by cases args; simp_all
  obtain ⟨rfl, rfl⟩ := trodVars_none hV
  obtain ⟨a0, len0, cap0, rfl⟩ := okWide_slice Try.underlying22 (hval 0 22 v0 rfl rfl)
  have k0 := h0
  have lt0 : ∀ x ∈ p0, x.block < W.heap.size := by obtain ⟨m, hm⟩ := k0; exact DataW.trod_lt m _ _ _ hm
  obtain ⟨zs, rfl, hc⟩ := open_code h0
  clear hA0 hval0
  refine (globs_walk a0 cap0 zs W hc).mono fun e W' ⟨he, bel⟩ => ?_
  subst he
  exact ⟨_, rfl, _, _, _, [], _, [], hW', trodAll_mk1 (shut_bool Try.underlying4 _), (trodAll_cons_mk (Below.trod laidOut (by kernel_rfl) (of_decide_eq_true (by kernel_rfl)) k0 bel lt0) trodAll_mk0), rfl, bel.frame _, fun h => by cases h⟩

theorem over : Rows.fnGlobsRow.holds Try.pinned (OpenSpec.ofChange Rows.fnGlobsSpec) :=
  OpenClaim.holds_of_wide 3 Try.f3 rfl rfl rfl rfl rfl rfl rfl ⟨rfl, rfl, rfl, rfl, rfl⟩ rfl rfl rfl rfl rfl (by kernel_rfl) Try.func3 (by kernel_rfl)
    (of_decide_eq_true (by kernel_rfl)) (by unfold Func.isWrapper; first | (rw [if_pos (by decide +kernel)]; kernel_rfl) | (rw [if_neg (by decide +kernel)]; exact ⟨rfl, rfl⟩))
    (fun os started H enc _ => lifted os started H enc)

theorem proved : Rows.FnGlobsSaid := over
end Go.Proofs.Ytcajheaacdeokaa.fnGlobs
