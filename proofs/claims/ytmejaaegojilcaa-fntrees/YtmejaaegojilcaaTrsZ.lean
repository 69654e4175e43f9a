/-
  CopyR, DrawSp, DrawS5, DrawP5, DrawPu, DrawPb, DrawPt, TrsP, PutI, GetP, GetI, GotB, RemP, RemI, ImplTree, WTr, LawTrs, ExactTrs: laid as one text.
-/
import Derived.Test.YtmejaaegojilcaaCopyT
import Derived.Test.YtmejaaegojilcaaDrawD5
import Derived.Test.YtmejaaegojilcaaSetS
import Derived.Test.YtmejaaegojilcaaSpecParts
import Derived.Deep.RegionHeld3
import Derived.Test.YtmejaaegojilcaaPutP
import Derived.Test.YtmejaaegojilcaaTreeT
import Derived.Test.YtmejaaegojilcaaGrow
import Derived.Test.YtmejaaegojilcaaFind
import Derived.Test.YtmejaaegojilcaaTreeP
import Derived.Test.YtmejaaegojilcaaEntOf
import Derived.Test.YtmejaaegojilcaaStrikeN
import Derived.Test.YtmejaaegojilcaaDrawPth
import Derived.Test.YtmejaaegojilcaaEntB
import Derived.Test.YtmejaaegojilcaaLaterQ
import Derived.Deep.DeepCutAuto
import Derived.Deep.RegionWith
import Derived.ProofKit
import Derived.OpenShut
import Derived.ShutString
import Derived.ChangeOld
import Derived.Below
import Derived.SliceStrings
import Derived.ChangeSlices
namespace Go.Proofs.Ytmejaaegojilcaa
open Go.RowKit

set_option maxRecDepth 20000 in
set_option maxHeartbeats 2000000 in
theorem l5CopyR_any (b : Option Addr) (cb : Nat) (bs : List En) (w : World) (hbs : ES w b bs) (hn : bs.length ≤ 1048576) (hb : (∃ ad, b = some ad) ∨ (b = none ∧ cb = 0)) :
    Calls Try.prog 40 #[.agg #[.slice b bs.length cb]] w fun e w' => ∃ ad cp, e = .returned (.agg #[.slice ad bs.length cp]) ∧ w'.ownsRow w.heap.size 27 3 (.slice ad bs.length cp) bs.length (ecells bs) ∧ (∃ x, ad = some x) ∧ Below w.heap.size w w' := by
  obtain ⟨i0, hi, hz0, hz1, hzb⟩ := info_parts Try.infoEntry
  have hal : Below w.heap.size w (((w.alloc (.cells #[.slice b bs.length cb] 25)).alloc (.cells #[.slice none 0 0] 25)).alloc (.cells #[] 27)) := (((Below.refl _ _).alloc (Nat.le_refl _) _).alloc (by simp) _).alloc (by simp; omega) _
  have k0 : (((w.alloc (.cells #[.slice b bs.length cb] 25)).alloc (.cells #[.slice none 0 0] 25)).alloc (.cells #[] 27)).cell? ⟨w.heap.size + 1, 0, none⟩ = some (.slice none 0 0) := by simp [go_sem]
  have kf : (((w.alloc (.cells #[.slice b bs.length cb] 25)).alloc (.cells #[.slice none 0 0] 25)).alloc (.cells #[] 27)).frozen? ⟨w.heap.size + 1, 0, none⟩ = false := by simp [go_sem]
  have m0 : (((w.alloc (.cells #[.slice b bs.length cb] 25)).alloc (.cells #[.slice none 0 0] 25)).alloc (.cells #[] 27)).cell? ⟨w.heap.size, 0, none⟩ = some (.slice b bs.length cb) := by simp [go_sem]
  have hown0 : (((w.alloc (.cells #[.slice b bs.length cb] 25)).alloc (.cells #[.slice none 0 0] 25)).alloc (.cells #[] 27)).ownsRow (w.heap.size + 2) 27 3 (.slice (some ⟨w.heap.size + 1 + 1, 0, none⟩) 0 0) 0 (ecells []) := by simpa using own_none ((w.alloc (.cells #[.slice b bs.length cb] 25)).alloc (.cells #[.slice none 0 0] 25)) (w.heap.size + 2) (by simp)
  have hsz : w.heap.size + 3 ≤ (((w.alloc (.cells #[.slice b bs.length cb] 25)).alloc (.cells #[.slice none 0 0] 25)).alloc (.cells #[] 27)).heap.size := by simp
  rcases hb with ⟨ad, rfl⟩ | ⟨rfl, rfl⟩
  · have hnews : ∃ ad', ∀ n c, (Value.slice (some ad) bs.length c = .slice (some ad) n c → True) ∧ ad' = ad ∧ ∀ j u, (ecells bs)[j]? = some u → (((w.alloc (.cells #[.slice (some ad) bs.length cb] 25)).alloc (.cells #[.slice none 0 0] 25)).alloc (.cells #[] 27)).cell? (ad.add j) = some u := by
      refine ⟨ad, fun _ _ => ⟨fun _ => trivial, rfl, ?_⟩⟩
      rcases hbs with rfl | ⟨bb, off, h, hc⟩
      · intro j u hu; simp [ecells] at hu
      · cases h
        exact es_news (fun i hi => ⟨cell_later hal (hc i hi).1, cell_later hal (hc i hi).2.1, cell_later hal (hc i hi).2.2⟩)
    obtain ⟨_, h3⟩ := hnews
    obtain ⟨_, _, hnw⟩ := h3 0 0
    clear h3
    have hone := ecells_one bs
    have hlen := ecells_len bs
    go_enter Try.func40, Try.ntmps40
    go_wp2_with (first | (at_builtin; refine wpList_append_own _ rfl _ _ 23 rfl (w.heap.size + 2) 27 i0 _ 3 40 Try.underlying23 hi hz0 hz1 hzb rfl (by decide) (.slice (some ⟨w.heap.size + 1 + 1, 0, none⟩) 0 0) 0 (ecells []) rfl hown0 ad bs.length cb (ecells bs) rfl hlen hnw hone (by unfold maxLen; omega) (by omega) (by omega) ?_; intro v2 w2 hown2 hgrow2 hnn; have k2 := hgrow2.cell (a := ⟨w.heap.size + 1, 0, none⟩) k0 (by simp [Value.ownBlock]); have kf2 : w2.frozen? ⟨w.heap.size + 1, 0, none⟩ = false := frozen_blk (hgrow2.block (w.heap.size + 1) (by simp) (by simp [Value.ownBlock])) kf; obtain ⟨ad2, cp2, rfl⟩ := owns_slice hown2))
    have hb2 := hal.grown hgrow2 hal.size (fun j hj => by cases hj; simp; omega)
    replace hown2 : w2.ownsRow (w.heap.size + 2) 27 3 (.slice ad2 bs.length cp2) bs.length (ecells bs) := by simpa [ecells] using hown2
    have hrow2 : (w2.setCell ⟨w.heap.size + 1, 0, none⟩ (.slice ad2 bs.length cp2)).ownsRow (w.heap.size + 2) 27 3 (.slice ad2 bs.length cp2) bs.length (ecells bs) := hown2.kept (grown_set0 w2 (w.heap.size + 1) 0 (.slice ad2 bs.length cp2)) (Or.inr (fun e => by have := owns_row_ge hown2 e; omega))
    have hrow3 : (w2.setCell ⟨w.heap.size + 1, 0, none⟩ (.slice ad2 bs.length cp2)).ownsRow w.heap.size 27 3 (.slice ad2 bs.length cp2) bs.length (ecells bs) := by
      refine ⟨hrow2.1, ?_⟩
      rcases hrow2.2 with h' | ⟨gq, capq, curq, hv, h1, h2⟩
      · exact .inl h'
      · exact .inr ⟨gq, capq, curq, hv, by omega, h2⟩
    have hsome : ∃ x, ad2 = some x := by
      cases ad2 with
      | some x => exact ⟨x, rfl⟩
      | none =>
        exfalso
        rcases hown2.2 with ⟨h', _⟩ | ⟨gq, capq, curq, hv, _⟩
        · exact absurd (hnn.1 (by rw [Nat.zero_add]; exact h')) (fun h => by cases h.1)
        · cases hv
    refine bodyPost_ret (v := .agg #[.slice ad2 bs.length cp2]) ?_ rfl ⟨ad2, cp2, rfl, hrow3, hsome, hb2.setCell (p := ⟨w.heap.size + 1, 0, none⟩) (by simp) _⟩
    go_light
    simp [results, Try.results40, go_sem, k2]
  · obtain rfl : bs = [] := by
      rcases hbs with h | ⟨bb, off, h, _⟩
      · exact h
      · cases h
    go_enter Try.func40, Try.ntmps40
    go_wp2_with (first | (at_builtin; refine wpList_append_own_none rfl _ _ 23 rfl (w.heap.size + 2) 27 i0 3 Try.underlying23 hi _ _ _ rfl hown0 rfl ?_))
    have hownL : (((w.alloc (.cells #[.slice none 0 0] 25)).alloc (.cells #[.slice (some ⟨w.heap.size + 1 + 1, 0, none⟩) 0 0] 25)).alloc (.cells #[] 27)).ownsRow w.heap.size 27 3 (.slice (some ⟨w.heap.size + 1 + 1, 0, none⟩) 0 0) 0 (ecells []) := by simpa using own_none ((w.alloc (.cells #[.slice none 0 0] 25)).alloc (.cells #[.slice (some ⟨w.heap.size + 1 + 1, 0, none⟩) 0 0] 25)) w.heap.size (by simp; omega)
    refine bodyPost_ret (v := .agg #[.slice (some ⟨w.heap.size + 1 + 1, 0, none⟩) ([] : List En).length 0]) ?_ rfl ⟨_, _, rfl, (by exact hownL), ⟨_, rfl⟩, (((Below.refl _ _).alloc (Nat.le_refl _) _).alloc (by simp) _).alloc (by simp; omega) _⟩
    go_light
    simp [results, Try.results40, go_sem]
end Go.Proofs.Ytmejaaegojilcaa

namespace Go.Proofs.Ytmejaaegojilcaa
open Go.RowKit

/-- A tree in a box, beside a reader; its row may lie ahead of the box. -/
structure LD6 (g : Nat) (a : Option Addr) (cap : Nat) (zs : List Int) (w : World) (rs tb : Nat) (ad : Option Addr) (cp : Nat) (ts : List En) (p : Nat) (W : World) : Prop where
  rd : Rd W g a cap zs p
  gr : w.grownBy W (some g)
  rc : W.cell? ⟨rs, 0, none⟩ = some (.slice none 0 0)
  rf : W.frozen? ⟨rs, 0, none⟩ = false
  tc : W.cell? ⟨tb, 0, none⟩ = some (.slice ad ts.length cp)
  tf : W.frozen? ⟨tb, 0, none⟩ = false
  el : EL (rs + 1) W ad ts
  ap : ts = [] ∨ blk ad ≠ some tb
  ord : g < rs ∧ rs < tb ∧ w.heap.size ≤ rs
section
variable {g : Nat} {a : Option Addr} {cap : Nat} {zs : List Int} {w : World} {rs tb : Nat} {ad ad' : Option Addr} {cp cp' : Nat} {ts us : List En} {p p' : Nat} {W W' : World}
theorem LD6.lt (h : LD6 g a cap zs w rs tb ad cp ts p W) : tb < W.heap.size := World.block_lt_of_cell? W ⟨tb, 0, none⟩ h.tc
theorem LD6.ltr (h : LD6 g a cap zs w rs tb ad cp ts p W) : rs < W.heap.size := World.block_lt_of_cell? W ⟨rs, 0, none⟩ h.rc
theorem LD6.step (h : LD6 g a cap zs w rs tb ad cp ts p W) (hg : W.grownBy W' (some g)) (hR : Rd W' g a cap zs p') : LD6 g a cap zs w rs tb ad cp ts p' W' := by
  have o := h.ord
  have b1 := hg.block rs h.ltr (by simp; omega)
  have b2 := hg.block tb h.lt (by simp; omega)
  exact ⟨hR, gr_trans h.gr hg, (World.cell?_of_block b1).trans h.rc, fz_blk b1 h.rf, (World.cell?_of_block b2).trans h.tc, fz_blk b2 h.tf, h.el.grown hg (fun k _ hk _ e => by cases e; omega), h.ap, o⟩
theorem LD6.later (h : LD6 g a cap zs w rs tb ad cp ts p W) (hb : Below W.heap.size W W') : LD6 g a cap zs w rs tb ad cp ts p W' := h.step (gr_below hb) (h.rd.below hb)
theorem LD6.al (h : LD6 g a cap zs w rs tb ad cp ts p W) (o : Obj) : LD6 g a cap zs w rs tb ad cp ts p (W.alloc o) := h.later (below_oneD _ _)
theorem LD6.drew (h : LD6 g a cap zs w rs tb ad cp ts p W) : LD6 g a cap zs w rs tb ad cp ts p W.drew := h.later (Below.refl _ _).drew
theorem LD6.put (h : LD6 g a cap zs w rs tb ad cp ts p W) (he : EL (rs + 1) W ad' us) (hap : us = [] ∨ blk ad' ≠ some tb) : LD6 g a cap zs w rs tb ad' cp' us p (W.setCell ⟨tb, 0, none⟩ (.slice ad' us.length cp')) := by
  have o := h.ord
  have hg : W.grownBy (W.setCell ⟨tb, 0, none⟩ (.slice ad' us.length cp')) (some tb) := grown_set W tb 0 _
  refine ⟨h.rd.kept hg (fun k e => by cases e; omega), gr_own h.gr hg (fun j e => by cases e; omega), ?_, (World.frozen?_setCell _ _ _ _).trans h.rf, World.cell?_setCell_same _ _ _ h.tc, (World.frozen?_setCell _ _ _ _).trans h.tf, ?_, hap, o⟩
  · exact (World.cell?_of_block (Below.heap_setCell _ _ _ _ (by show rs ≠ tb; omega))).trans h.rc
  · rcases hap with h0 | h0
    · exact .inl h0
    · exact he.grown hg (fun k hk _ _ e => h0 (by rw [hk, ← e]))
/-- What l5Set gives is put into the box. -/
theorem LD6.putNew {B : Nat} (h : LD6 g a cap zs w rs tb ad cp ts p W) (he : EL B W ad' us) (hB : tb < B) : LD6 g a cap zs w rs tb ad' cp' us p (W.setCell ⟨tb, 0, none⟩ (.slice ad' us.length cp')) :=
  h.put (he.mono (by have := h.ord; omega)) (by
    rcases he with h0 | ⟨k, rfl, hk, _⟩
    · exact .inl h0
    · exact .inr (fun e => by simp [blk] at e; omega))
theorem EL.setPath {B gb k : Nat} {s : ByteArray} (h : EL B W (some ⟨gb, 0, none⟩) ts) (hk : k < ts.length) : EL B (W.setCell ⟨gb, k * 3, none⟩ (.string s)) (some ⟨gb, 0, none⟩) (ts.set k ⟨s, ts[k].text, ts[k].runs⟩) := by
  rcases h with h | ⟨g', e, h1, h2, h3, h4⟩
  · subst h; simp at hk
  · cases e
    have hne : ∀ i j : Nat, i ≠ j → (⟨gb, i, none⟩ : Addr) ≠ ⟨gb, j, none⟩ := fun i j h e => h (by injection e)
    refine .inr ⟨gb, rfl, h1, by simpa using h2, fun j => (World.frozen?_setCell _ _ _ _).trans (h3 j), fun i hi => ?_⟩
    have hi' : i < ts.length := by simpa using hi
    obtain ⟨c0, c1, c2⟩ := h4 i hi'
    by_cases e : i = k
    · subst e
      rw [List.getElem_set_self]
      exact ⟨World.cell?_setCell_same _ _ _ c0, by rw [World.cell?_setCell_other _ _ _ _ (hne _ _ (by omega))]; exact c1, by rw [World.cell?_setCell_other _ _ _ _ (hne _ _ (by omega))]; exact c2⟩
    · rw [List.getElem_set_ne (fun e' => e e'.symm)]
      exact ⟨by rw [World.cell?_setCell_other _ _ _ _ (hne _ _ (by omega))]; exact c0, by rw [World.cell?_setCell_other _ _ _ _ (hne _ _ (by omega))]; exact c1, by rw [World.cell?_setCell_other _ _ _ _ (hne _ _ (by omega))]; exact c2⟩
theorem EL.setText {B gb k : Nat} {s : ByteArray} (h : EL B W (some ⟨gb, 0, none⟩) ts) (hk : k < ts.length) : EL B (W.setCell ⟨gb, k * 3 + 1, none⟩ (.string s)) (some ⟨gb, 0, none⟩) (ts.set k ⟨ts[k].path, s, ts[k].runs⟩) := by
  rcases h with h | ⟨g', e, h1, h2, h3, h4⟩
  · subst h; simp at hk
  · cases e
    have hne : ∀ i j : Nat, i ≠ j → (⟨gb, i, none⟩ : Addr) ≠ ⟨gb, j, none⟩ := fun i j h e => h (by injection e)
    refine .inr ⟨gb, rfl, h1, by simpa using h2, fun j => (World.frozen?_setCell _ _ _ _).trans (h3 j), fun i hi => ?_⟩
    have hi' : i < ts.length := by simpa using hi
    obtain ⟨c0, c1, c2⟩ := h4 i hi'
    by_cases e : i = k
    · subst e
      rw [List.getElem_set_self]
      exact ⟨by rw [World.cell?_setCell_other _ _ _ _ (hne _ _ (by omega))]; exact c0, World.cell?_setCell_same _ _ _ c1, by rw [World.cell?_setCell_other _ _ _ _ (hne _ _ (by omega))]; exact c2⟩
    · rw [List.getElem_set_ne (fun e' => e e'.symm)]
      exact ⟨by rw [World.cell?_setCell_other _ _ _ _ (hne _ _ (by omega))]; exact c0, by rw [World.cell?_setCell_other _ _ _ _ (hne _ _ (by omega))]; exact c1, by rw [World.cell?_setCell_other _ _ _ _ (hne _ _ (by omega))]; exact c2⟩
/-- A cell of the row has been set. -/
theorem LD6.turn {gb j : Nat} {u : Value} (h : LD6 g a cap zs w rs tb (some ⟨gb, 0, none⟩) cp ts p W) (hne : ts ≠ []) (he : EL (rs + 1) (W.setCell ⟨gb, j, none⟩ u) (some ⟨gb, 0, none⟩) us) (hl : us.length = ts.length) : LD6 g a cap zs w rs tb (some ⟨gb, 0, none⟩) cp us p (W.setCell ⟨gb, j, none⟩ u) := by
  have o := h.ord
  have hgb : rs + 1 ≤ gb := by
    rcases h.el with h0 | ⟨k, e, hk, _⟩
    · exact absurd h0 hne
    · cases e; exact hk
  have hgt : gb ≠ tb := by
    rcases h.ap with h0 | h0
    · exact absurd h0 hne
    · exact fun e => h0 (by simp [blk, e])
  have hg : W.grownBy (W.setCell ⟨gb, j, none⟩ u) (some gb) := grown_set W gb j _
  refine ⟨h.rd.kept hg (fun k e => by cases e; omega), gr_own h.gr hg (fun i e => by cases e; omega), ?_, (World.frozen?_setCell _ _ _ _).trans h.rf, ?_, (World.frozen?_setCell _ _ _ _).trans h.tf, he, .inr (fun e => hgt (by simpa [blk] using e)), o⟩
  · exact (World.cell?_of_block (Below.heap_setCell _ _ _ _ (by show rs ≠ gb; omega))).trans h.rc
  · rw [hl]
    exact (World.cell?_of_block (Below.heap_setCell _ _ _ _ (fun e => hgt e.symm))).trans h.tc
theorem Tiny.set {P T k : Nat} {e : En} (h : Tiny P T ts) (he : e.path.size ≤ P ∧ e.text.size ≤ T) : Tiny P T (ts.set k e) := fun x hx => by
  rcases List.mem_or_eq_of_mem_set hx with h1 | h1
  · exact h x h1
  · subst h1; exact he
theorem Tiny.wide {P T P' T' : Nat} (h : Tiny P T ts) (hP : P ≤ P') (hT : T ≤ T') : Tiny P' T' ts := fun x hx => ⟨Nat.le_trans (h x hx).1 hP, Nat.le_trans (h x hx).2 hT⟩
theorem Tiny.setRel {P T : Nat} {e : En} (h : Tiny P T ts) (he : e.path.size ≤ P ∧ e.text.size ≤ T) (hs : SetRel ts e us) : Tiny P T us := fun x hx => by
  rcases (hs.mem x).1 hx with rfl | ⟨h1, _⟩
  · exact he
  · exact h x h1
theorem setRel_ne {e : En} (hs : SetRel ts e us) : us ≠ [] := fun h => by
  have := (hs.mem e).2 (.inl rfl)
  rw [h] at this
  cases this
end

/-- Some tree that was drawn. -/
def TreeS (P T N : Nat) (g : Nat) (a : Option Addr) (cap : Nat) (zs : List Int) (K p : Nat) (w : World) (e : Ending) (w' : World) : Prop :=
  ∃ ad cp ts, e = .returned (.agg #[.slice ad (List.length ts) cp]) ∧ EL w.heap.size w' ad ts ∧ ts.length ≤ N ∧ Tiny P T ts ∧ NilOk ad cp ∧ Dr g a cap zs w w' p K

theorem LD6.back {g : Nat} {a : Option Addr} {cap : Nat} {zs : List Int} {w : World} {rs tb : Nat} {ad : Option Addr} {cp : Nat} {ts : List En} {p p2 K : Nat} {W : World} (h : LD6 g a cap zs w rs tb ad cp ts p2 W) (hp : p2 ≤ p + K) : EL w.heap.size (W.setCell ⟨rs, 0, none⟩ (.slice ad ts.length cp)) ad ts ∧ Dr g a cap zs w (W.setCell ⟨rs, 0, none⟩ (.slice ad ts.length cp)) p K := by
  have hg : W.grownBy (W.setCell ⟨rs, 0, none⟩ (.slice ad ts.length cp)) (some rs) := grown_set W rs 0 _
  have o := h.ord
  exact ⟨(h.el.grown hg (fun k _ hk _ e => by cases e; omega)).mono (by omega), ⟨p2, hp, h.rd.kept hg (fun k e => by cases e; omega)⟩, gr_own h.gr hg (fun j e => by cases e; omega)⟩
end Go.Proofs.Ytmejaaegojilcaa

namespace Go.Proofs.Ytmejaaegojilcaa
open Go.RowKit

/-- As TreeS, and there is room. -/
def TreeSR (P T N : Nat) (g : Nat) (a : Option Addr) (cap : Nat) (zs : List Int) (K p : Nat) (w : World) (e : Ending) (w' : World) : Prop :=
  ∃ ad cp ts, e = .returned (.agg #[.slice ad (List.length ts) cp]) ∧ EL w.heap.size w' ad ts ∧ ts.length ≤ N ∧ Tiny P T ts ∧ NilOk ad cp ∧ Dr g a cap zs w w' p K ∧ ts.length ≤ cp

/-- What is held once there is an entry. -/
def SpI (P T N : Nat) (g : Nat) (a : Option Addr) (cap : Nat) (zs : List Int) (w : World) (rs tb p : Nat) (W : World) : Prop :=
  ∃ gb cp ts, LD6 g a cap zs w rs tb (some ⟨gb, 0, none⟩) cp ts p W ∧ ts ≠ [] ∧ ts.length ≤ N ∧ Asc ts ∧ Tiny P T ts ∧ W.ownsRow (rs + 1) 27 3 (.slice (some ⟨gb, 0, none⟩) ts.length cp) ts.length (ecells ts)

theorem row_block {W : World} {B : Nat} {e : TypeId} {x : Addr} {n cp : Nat} {xs : List Value} (h : W.ownsRow B e 3 (.slice (some x) n cp) n xs) : ∃ gb, x = ⟨gb, 0, none⟩ ∧ B ≤ gb ∧ gb < W.heap.size := by
  rcases h.2 with ⟨h0, _⟩ | ⟨gb, c, cur, hv, h1, h2, _⟩
  · cases h0
  · cases hv
    exact ⟨gb, rfl, h1, (Array.getElem?_eq_some_iff.1 h2).1⟩

theorem LD6.append {g : Nat} {a : Option Addr} {cap : Nat} {zs : List Int} {w : World} {rs tb gb g3 cp cap3 : Nat} {ts : List En} {e : En} {p : Nat} {X W : World} (h : LD6 g a cap zs w rs tb (some ⟨gb, 0, none⟩) cp ts p X) (hgb : rs + 1 ≤ gb) (hgt : gb ≠ tb) (hg : X.grownBy W (some gb)) (hown : W.ownsRow (rs + 1) 27 3 (.slice (some ⟨g3, 0, none⟩) (ts.length + 1) cap3) (ts.length + 1) (ecells ts ++ ecell e)) (h3 : g3 ≠ tb) :
    LD6 g a cap zs w rs tb (some ⟨g3, 0, none⟩) cap3 (ts ++ [e]) p (W.setCell ⟨tb, 0, none⟩ (.slice (some ⟨g3, 0, none⟩) (ts.length + 1) cap3)) := by
  have o := h.ord
  have b1 := hg.block rs h.ltr (by simp; omega)
  have b2 := hg.block tb h.lt (by simp; omega)
  have hs : W.grownBy (W.setCell ⟨tb, 0, none⟩ (.slice (some ⟨g3, 0, none⟩) (ts.length + 1) cap3)) (some tb) := grown_set W tb 0 _
  have ht : W.cell? ⟨tb, 0, none⟩ = some (.slice (some ⟨gb, 0, none⟩) ts.length cp) := (World.cell?_of_block b2).trans h.tc
  refine ⟨(h.rd.kept hg (fun k e => by cases e; omega)).kept hs (fun k e => by cases e; omega), gr_own (gr_own h.gr hg (fun j e => by cases e; omega)) hs (fun j e => by cases e; omega), ?_, (World.frozen?_setCell _ _ _ _).trans (fz_blk b1 h.rf), ?_, (World.frozen?_setCell _ _ _ _).trans (fz_blk b2 h.tf), ?_, .inr (fun e => h3 (by simpa [blk] using e)), o⟩
  · exact (World.cell?_of_block (Below.heap_setCell _ _ _ _ (by show rs ≠ tb; omega))).trans ((World.cell?_of_block b1).trans h.rc)
  · rw [List.length_append]
    exact World.cell?_setCell_same _ _ _ ht
  · have hrow : W.ownsRow (rs + 1) 27 3 (.slice (some ⟨g3, 0, none⟩) (ts ++ [e]).length cap3) (ts ++ [e]).length (ecells (ts ++ [e])) := by
      rw [ecells_snoc, List.length_append]
      exact hown
    exact (el_of_row hrow).grown hs (fun k hk _ _ e => by cases e; simp [blk] at hk; exact h3 hk)

set_option maxRecDepth 100000 in
set_option maxHeartbeats 20000000 in
theorem l5SpoilB_any (P T N : Nat) (hP1 : 1 ≤ P) (hP : P ≤ 1000) (hTT : T ≤ 100000) (hN1 : 98 ≤ N) (hN : N ≤ 1000) (g : Nat) (a : Option Addr) (cap : Nat) (zs : List Int) (p : Nat) (ad0 : Option Addr) (cp0 : Nat) (t0 : List En) (w : World) (h : Rd w g a cap zs p) (hp : p ≤ 10000000) (hes : ES w ad0 t0) (hno : NilOk ad0 cp0) (hA : Asc t0) (hT : Tiny P T t0) (hn : t0.length ≤ N) :
    Calls Try.prog 29 #[.pointer (some ⟨g, 0, none⟩), .agg #[.slice ad0 t0.length cp0]] w (TreeSR (P + 60) (T + 1580) (N + 3) g a cap zs 10 p w) := by
  obtain ⟨i0, hi, hz0, hz1, hzi⟩ := info_parts Try.infoEntry
  have hglt := h.lt
  have hal : Below w.heap.size w ((w.alloc (.cells #[.slice ad0 t0.length cp0] 25)).alloc (.cells #[.slice none 0 0] 25)) := ((Below.refl _ _).alloc (Nat.le_refl _) _).alloc (by simp) _
  have r0 : ((w.alloc (.cells #[.slice ad0 t0.length cp0] 25)).alloc (.cells #[.slice none 0 0] 25)).cell? ⟨w.heap.size + 1, 0, none⟩ = some (.slice none 0 0) := by simp [go_sem]
  have rf0 : ((w.alloc (.cells #[.slice ad0 t0.length cp0] 25)).alloc (.cells #[.slice none 0 0] 25)).frozen? ⟨w.heap.size + 1, 0, none⟩ = false := by simp [go_sem]
  have hsz : ((w.alloc (.cells #[.slice ad0 t0.length cp0] 25)).alloc (.cells #[.slice none 0 0] 25)).heap.size = w.heap.size + 1 + 1 := by simp
  have hcp := l5CopyR_any ad0 cp0 t0 _ (hes.below hal) (by omega) hno
  go_enter Try.func29, Try.ntmps29
  go_wp2_with fail
  refine hcp.mono ?_
  rintro e w2 ⟨ad, cp, rfl, hrow, ⟨x, rfl⟩, hb2⟩
  clear hcp
  obtain ⟨rs, hrs⟩ : ∃ rs, rs = w.heap.size + 1 := ⟨_, rfl⟩
  rw [hsz, ← hrs] at hrow
  have hb2' := hal.trans (hb2.mono hal.size)
  have r2 := cell_later hb2 r0
  have rf2 : w2.frozen? ⟨w.heap.size + 1, 0, none⟩ = false := (hb2.frozen (p := ⟨w.heap.size + 1, 0, none⟩) (by rw [hsz]; show w.heap.size + 1 < _; omega)).trans rf0
  have hs2 : w.heap.size + 1 + 1 ≤ w2.heap.size := by have := hb2.size; omega
  rw [← hrs] at r2 rf2 ⊢
  obtain ⟨gb, rfl, hgb1, hgb2⟩ := row_block hrow
  have hba := below_oneD w2 (.cells #[.slice (some ⟨gb, 0, none⟩) t0.length cp] 25)
  have hL0 : LD6 g a cap zs w rs w2.heap.size (some ⟨gb, 0, none⟩) cp t0 p (w2.alloc (.cells #[.slice (some ⟨gb, 0, none⟩) t0.length cp] 25)) := by
    refine ⟨(h.below hb2').below hba, gr_trans (gr_below hb2') (gr_below hba), cell_later hba r2, (hba.frozen (p := ⟨rs, 0, none⟩) (by show rs < _; omega)).trans rf2, by simp, by simp, (el_of_row hrow).below hba, .inr (fun e => by simp [blk] at e; omega), by omega⟩
  have hrow3 := owns_below hrow hba
  have HO : Keep (rs = w.heap.size + 1 ∧ rs < w2.heap.size) := ⟨by omega⟩
  clear hrow r2 rf2 r0 rf0 hb2 hb2' hal hes hno hrs hs2 hba hsz hgb1 hgb2
  go_upto_if 15 with fail
  generalize w2.alloc (.cells #[.slice (some ⟨gb, 0, none⟩) t0.length cp] 25) = W3 at *
  generalize w2.heap.size = tb at *
  go_cut [17] (fun _ wx => SpI P T N g a cap zs w rs tb p wx)
  case first =>
    have t1 := hL0.tc
    have t2 := hL0.tf
    by_cases h0 : t0 = []
    · subst h0
      have hB : ((([] : List En).length : Int) == 0) = true := rfl
      have hrn : (W3.alloc (.cells #[.string ⟨#[97]⟩, .string ⟨#[]⟩, .bool false] 27)).ownsRow (rs + 1) 27 3 (.slice (some ⟨W3.heap.size, 0, none⟩) 1 1) 1 (ecells [⟨⟨#[97]⟩, ⟨#[]⟩, false⟩]) :=
        ⟨rfl, .inr ⟨W3.heap.size, 1, _, rfl, by have := hL0.ord; have := hL0.lt; omega, heap_alloc_new _ _, Nat.le_refl _, by unfold maxLen; omega, rfl, rfl⟩⟩
      have t1a := fun o => (hL0.al o).tc
      have t2a := fun o => (hL0.al o).tf
      have hLn := (hL0.al (.cells #[.string ⟨#[97]⟩, .string ⟨#[]⟩, .bool false] 27)).put (ad' := some ⟨W3.heap.size, 0, none⟩) (cp' := 1) (us := [⟨⟨#[97]⟩, ⟨#[]⟩, false⟩]) (el_of_row (cap := 1) hrn) (.inr (fun e => by have := hL0.lt; simp [blk] at e; omega))
      have hrn2 := hrn.kept (grown_set0 _ tb 0 (.slice (some ⟨W3.heap.size, 0, none⟩) 1 1)) (Or.inr (fun e => by have := hL0.lt; simp [Value.ownBlock] at e; omega))
      go_wp2_with fail
      go_meet
      case rel => exact ⟨W3.heap.size, 1, [⟨⟨#[97]⟩, ⟨#[]⟩, false⟩], hLn, by simp, by simp; omega, by simp [Asc], fun x hx => by rw [List.mem_singleton.1 hx]; exact ⟨by show 1 ≤ P; omega, Nat.zero_le _⟩, hrn2⟩
    · have hB : ((t0.length : Int) == 0) = false := by
        have : 0 < t0.length := List.length_pos_iff.2 h0
        simp
        exact h0
      go_wp2_with fail
      go_meet
      case rel => exact ⟨gb, cp, t0, hL0, h0, hn, hA, hT, hrow3⟩
  case rest =>
    clear hL0 hrow3
    obtain ⟨gb, cp, ts, hL, hne, hn, hA, hT, hrow⟩ := hcut
    have hgb : rs + 1 ≤ gb := by obtain ⟨k, e, h1, _⟩ := row_block hrow; cases e; exact h1
    have hgt : gb ≠ tb := by
      rcases hL.ap with h0 | h0
      · exact absurd h0 hne
      · exact fun e => h0 (by simp [blk, e])
    have hpos : 0 < ts.length := List.length_pos_iff.2 hne
    have hgr : g < rs + 1 := by have := hL.ord; omega
    have t0 := hL.tc
    go_wp2_with fail
    refine (pick_any g a cap zs p ts.length wc hL.rd (by omega) (by omega) (by omega)).mono ?_
    rintro e w4 ⟨k, rfl, hk, hg4, hR4⟩
    have hL4 := hL.step hg4 hR4
    have hrow4 := owns_rd hrow hg4 hgr
    clear hL hrow hg4 hR4 t0
    go_wp2_with fail
    refine (pick_any g a cap zs (p + 1) 5 w4 hL4.rd (by omega) (by omega) (by omega)).mono ?_
    rintro e w5 ⟨y, rfl, hy, hg5, hR5⟩
    have hL5 := hL4.step hg5 hR5
    have hrow5 := owns_rd hrow4 hg5 hgr
    have HRM : Keep (ts.length ≤ cp) := ⟨row_room hrow5⟩
    clear hL4 hrow4 hg5 hR5
    have hk' : (k : Int) < ts.length := by omega
    obtain ⟨x0, x1, x2⟩ : w5.cell? ⟨gb, k * 3, none⟩ = some (.string ts[k].path) ∧ w5.cell? ⟨gb, k * 3 + 1, none⟩ = some (.string ts[k].text) ∧ w5.cell? ⟨gb, k * 3 + 2, none⟩ = some (.bool ts[k].runs) := by
      rcases hL5.el with h0 | ⟨g', e, _, _, _, h4⟩
      · exact absurd h0 hne
      · cases e; exact h4 k hk
    have hkT := hT _ (List.getElem_mem hk)
    have t5 := hL5.tc
    by_cases q0 : y = 0
    · have hB0 : ((y : Int) == 0) = true := by simp; omega
      clear q0
      obtain ⟨xp, hxp⟩ : ∃ xp, xp = ts[k].path := ⟨_, rfl⟩
      rw [← hxp] at x0
      have hxz : xp.size ≤ P := by rw [hxp]; exact hkT.1
      clear hxp
      have hsp := spoilS_any g a cap zs (p + 1 + 1) xp w5.drew hL5.drew.rd (by omega) (by omega)
      have HL : Keep (LD6 g a cap zs w rs tb (some ⟨gb, 0, none⟩) cp ts (p + 1 + 1) w5.drew) := ⟨hL5.drew⟩
      have hafter : ∀ (W' : World) (p6 : Nat), w5.drew.grownBy W' (some g) → Rd W' g a cap zs p6 → LD6 g a cap zs w rs tb (some ⟨gb, 0, none⟩) cp ts p6 W' ∧ (∀ j, W'.frozen? ⟨gb, j, none⟩ = false) ∧ W'.cell? ⟨gb, k * 3, none⟩ = some (.string xp) := fun W' p6 hg hR => by
        have h6 := HL.out.step hg hR
        refine ⟨h6, fun j => ?_, hg.cell (a := ⟨gb, k * 3, none⟩) x0 (by simp; omega)⟩
        rcases h6.el with h0 | ⟨g', e, _, _, h3, _⟩
        · exact absurd h0 hne
        · cases e; exact h3 j
      go_upto_region 11 with fail
      go_region_with (go_at_call 16; refine hsp.mono ?_; rintro e w6 ⟨o, rfl, ho, ⟨p6, hp6, hR6⟩, hg6⟩; have hA6 := hafter w6 p6 hg6 hR6; have tc6 := hA6.1.tc; have fz6 := hA6.2.1; have ck6 := hA6.2.2)
      all_goals
        have L7 := hA6.1.turn hne (hA6.1.el.setPath (s := o) hk) (by simp)
        have t7 := L7.tc
        have r7 := L7.rc
        have rf7 := L7.rf
        obtain ⟨b1, b2⟩ := L7.back (p := p) (K := 10) (by omega)
        have hTn : Tiny (P + 60) (T + 1580) (ts.set k ⟨o, ts[k].text, ts[k].runs⟩) := (hT.wide (by omega) (by omega)).set ⟨by show o.size ≤ P + 60; omega, by show ts[k].text.size ≤ T + 1580; omega⟩
        have hln : (ts.set k ⟨o, ts[k].text, ts[k].runs⟩).length = ts.length := by simp
        generalize ts.set k ⟨o, ts[k].text, ts[k].runs⟩ = us at *
        rw [hln] at t7 b1 b2
        have HLN : Keep (us.length = ts.length) := ⟨hln⟩
        clear hln hA6 tc6 fz6 ck6 hsp hafter HL L7 t5
        go_wp2
        refine bodyPost_ret (v := .agg #[.slice (some ⟨gb, 0, none⟩) ts.length cp]) ?_ rfl ⟨some ⟨gb, 0, none⟩, cp, us, by rw [HLN.out], b1, by rw [HLN.out]; omega, hTn, .inl ⟨_, rfl⟩, b2, by rw [HLN.out]; exact HRM.out⟩
        go_light
        simp [results, Try.results29, go_sem, r7]
    have hB0 : ((y : Int) == 0) = false := by simp; omega
    by_cases q1 : y = 1
    · have hB1 : ((y : Int) == 1) = true := by simp; omega
      clear q0 q1
      have HL : Keep (LD6 g a cap zs w rs tb (some ⟨gb, 0, none⟩) cp ts (p + 1 + 1) w5.drew) := ⟨hL5.drew⟩
      have hpk := pick_any g a cap zs (p + 1 + 1) 2 w5.drew hL5.drew.rd (by omega) (by omega) (by omega)
      have hmany : ∀ (z : Nat) (W : World), z < 2 → Calls Try.prog 17 #[.string ⟨#[116]⟩, .int .i64 (1500 + (z : Int))] W fun e w' => ∃ o : ByteArray, e = .returned (.string o) ∧ o.size ≤ 1501 ∧ W = w' := fun z W hz => by
        have := many_any ⟨#[116]⟩ (1500 + z) W (by show 1 * (1500 + z) ≤ _; omega) (by omega) (by show 1 ≤ 1; omega) (by show 1 ≤ _; omega)
        rw [show ((1500 + z : Nat) : Int) = 1500 + (z : Int) by omega] at this
        exact this.mono (fun e w' ⟨o, h1, h2, h3⟩ => ⟨o, h1, by rw [h2]; show 1 * (1500 + z) ≤ _; omega, h3⟩)
      have hafter : ∀ (W' : World) (p6 : Nat), w5.drew.grownBy W' (some g) → Rd W' g a cap zs p6 → LD6 g a cap zs w rs tb (some ⟨gb, 0, none⟩) cp ts p6 W' ∧ (∀ j, W'.frozen? ⟨gb, j, none⟩ = false) ∧ W'.cell? ⟨gb, k * 3 + 1, none⟩ = some (.string ts[k].text) := fun W' p6 hg hR => by
        have h6 := HL.out.step hg hR
        refine ⟨h6, fun j => ?_, hg.cell (a := ⟨gb, k * 3 + 1, none⟩) x1 (by simp; omega)⟩
        rcases h6.el with h0 | ⟨g', e, _, _, h3, _⟩
        · exact absurd h0 hne
        · cases e; exact h3 j
      go_upto_region 13 with fail
      go_region_with (first
        | (go_at_call 15; refine hpk.mono ?_; rintro e w6 ⟨z, rfl, hz, hg6, hR6⟩; obtain ⟨M, hM, hwM⟩ : ∃ M : Int, 1500 + (z : Int) = M ∧ IntKind.i64.wrap (1500 + (z : Int)) = M := ⟨_, rfl, (by rw [IntKind.wrap_i64]; omega)⟩; have hmM : ∀ W, Calls Try.prog 17 #[.string ⟨#[116]⟩, .int .i64 M] W fun e w' => ∃ o : ByteArray, e = .returned (.string o) ∧ o.size ≤ 1501 ∧ W = w' := (fun W => hM ▸ hmany z W hz); clear hM; have hA6 := hafter w6 (p + 1 + 1 + 1) hg6 hR6; have tc6 := hA6.1.tc; have fz6 := hA6.2.1; have ck6 := hA6.2.2)
        | (go_at_call 17; refine (hmM _).mono ?_; rintro e w7 ⟨o, rfl, ho, rfl⟩))
      all_goals
        have L7 := hA6.1.turn hne (hA6.1.el.setText (s := o) hk) (by simp)
        have t7 := L7.tc
        have r7 := L7.rc
        have rf7 := L7.rf
        obtain ⟨b1, b2⟩ := L7.back (p := p) (K := 10) (by omega)
        have hTn : Tiny (P + 60) (T + 1580) (ts.set k ⟨ts[k].path, o, ts[k].runs⟩) := (hT.wide (by omega) (by omega)).set ⟨by show ts[k].path.size ≤ P + 60; omega, by show o.size ≤ T + 1580; omega⟩
        have hln : (ts.set k ⟨ts[k].path, o, ts[k].runs⟩).length = ts.length := by simp
        generalize ts.set k ⟨ts[k].path, o, ts[k].runs⟩ = us at *
        rw [hln] at t7 b1 b2
        have HLN : Keep (us.length = ts.length) := ⟨hln⟩
        clear hln hA6 tc6 fz6 ck6 hpk hmany hafter HL L7 t5
        go_wp2
        refine bodyPost_ret (v := .agg #[.slice (some ⟨gb, 0, none⟩) ts.length cp]) ?_ rfl ⟨some ⟨gb, 0, none⟩, cp, us, by rw [HLN.out], b1, by rw [HLN.out]; omega, hTn, .inl ⟨_, rfl⟩, b2, by rw [HLN.out]; exact HRM.out⟩
        go_light
        simp [results, Try.results29, go_sem, r7]
    have hB1 : ((y : Int) == 1) = false := by simp; omega
    by_cases q2 : y = 2
    · have hB2 : ((y : Int) == 2) = true := by simp; omega
      clear q0 q1 q2
      have hb1 : Below w5.heap.size w5 ((w5.alloc (.cells #[.string ts[k].path, .string ts[k].text, .bool ts[k].runs] 27)).drew) := ((Below.refl _ _).alloc (Nat.le_refl _) _).drew
      have o1a : ∀ o, (w5.alloc o).cell? ⟨tb, 0, none⟩ = some (.slice (some ⟨gb, 0, none⟩) ts.length cp) := fun o => (hL5.al o).tc
      have hLb := hL5.later hb1
      have hrl := hL5.ltr
      have htl := hL5.lt
      go_upto_region 15 with fail
      go_region_law (refine step_append_lies _ rfl _ _ 23 rfl (rs + 1) 27 i0 _ 3 40 Try.underlying23 hi hz0 hz1 hzi rfl (by decide) (.slice (some ⟨gb, 0, none⟩) ts.length cp) ts.length (ecells ts) rfl (by exact owns_below hrow5 hb1) ⟨w5.heap.size, 0, none⟩ 1 1 (ecell ts[k]) rfl rfl (by exact news_3 _ _ _ _ (by simp)) (by exact one_3 _) (by omega) (by unfold maxLen; omega) (by omega) (by simp; omega) (w5.heap.size + 1) (by simp) ?_; intro g3 cap3 w7 hown3 hgrow3 hat3 hlt3; have hb7 := hgrow3.block tb (by exact hLb.lt) (by exact fun e => hgt (by simpa [Value.ownBlock] using e.symm)); have hc3 := (World.cell?_of_block hb7 : w7.cell? ⟨tb, 0, none⟩ = _).trans hLb.tc; have hf3 := fz_blk hb7 hLb.tf)
      all_goals
        have hg3t : g3 ≠ tb := by
          rcases hat3 with h3 | h3
          · intro e; simp [Value.ownBlock] at h3; omega
          · omega
        have L7 := hLb.append (e := ts[k]) hgb hgt hgrow3 hown3 hg3t
        have t7 := L7.tc
        have r7 := L7.rc
        have rf7 := L7.rf
        obtain ⟨b1, b2⟩ := L7.back (p := p) (K := 10) (by omega)
        have hTn : Tiny (P + 60) (T + 1580) (ts ++ [ts[k]]) := fun x hx => by
          rcases List.mem_append.1 hx with h1 | h1
          · exact (hT.wide (by omega) (by omega)) x h1
          · rw [List.mem_singleton.1 h1]; exact (hT.wide (by omega) (by omega)) _ (List.getElem_mem hk)
        have hln : (ts ++ [ts[k]]).length = ts.length + 1 := by simp
        generalize ts ++ [ts[k]] = us at *
        rw [hln] at t7 b1 b2
        have HLN : Keep (us.length = ts.length + 1) := ⟨hln⟩
        have HR3 : Keep (ts.length + 1 ≤ cap3) := ⟨row_room hown3⟩
        clear hln hc3 hf3 hb7 hgrow3 hown3 hat3 hlt3 L7 t5 o1a hLb hb1
        go_wp2
        refine bodyPost_ret (v := .agg #[.slice (some ⟨g3, 0, none⟩) (ts.length + 1) cap3]) ?_ rfl ⟨some ⟨g3, 0, none⟩, cap3, us, by rw [HLN.out], b1, by rw [HLN.out]; omega, hTn, .inl ⟨_, rfl⟩, b2, by rw [HLN.out]; exact HR3.out⟩
        go_light
        simp [results, Try.results29, go_sem, r7]
    have hB2 : ((y : Int) == 2) = false := by simp; omega
    clear hrow5
    by_cases q3 : y = 3
    · have hB3 : ((y : Int) == 3) = true := by simp; omega
      clear q0 q1 q2 q3 t5 x0 x1 x2
      go_wp2_with fail
      refine (pick_any g a cap zs (p + 1 + 1) 2 w5 hL5.rd (by omega) (by omega) (by omega)).mono ?_
      rintro e w6 ⟨z, rfl, hz, hg6, hR6⟩
      have hL6 := hL5.step hg6 hR6
      have HA : Keep (Asc ts ∧ Tiny P T ts ∧ NilOk (some ⟨gb, 0, none⟩) cp ∧ ts.length ≤ cp) := ⟨⟨hA, hT, .inl ⟨_, rfl⟩, HRM.out⟩⟩
      clear hL5 hg6 hR6 hA hT hkT
      go_wp2
      go_loopw [8] (fun i wr => ∃ (j : Nat) (ad : Option Addr) (cp : Nat) (us : List En), i = .int .i64 j ∧ Keep (HasZ j us) ∧ j ≤ 101 ∧ LD6 g a cap zs w rs tb ad cp us (p + 1 + 1 + 1) wr ∧ Keep (Asc us ∧ Tiny (P + 60) T us ∧ NilOk ad cp ∧ us.length ≤ cp) ∧ us.length ≤ N + 3) (fun i _ => 102 - (intOf i).toNat)
      case atStart => exact ⟨0, _, cp, ts, rfl, ⟨fun j hj => by omega⟩, Nat.zero_le _, hL6, ⟨⟨HA.out.1, HA.out.2.1.wide (by omega) (Nat.le_refl _), HA.out.2.2⟩⟩, by omega⟩
      case round =>
        clear hL6 HA
        obtain ⟨j, ad, cp, us, rfl, HZ, hj, hL, HT, hnn⟩ := hrel
        have t1 := hL.tc
        have t2 := hL.tf
        have hkl := HZ.out.count (by omega)
        by_cases hlt : (us.length : Int) < 100 + z
        · have hk99 : j ≤ 100 := by omega
          have hcv := conv_two (97 + (j : Int) / 26) (97 + (j : Int) % 26) wr
          have hLa := hL.al (.cells #[.int .u8 (97 + (j : Int) / 26), .int .u8 (97 + (j : Int) % 26)] 5)
          have hset := l5SetC_any ad cp us ⟨zp j, ⟨#[]⟩, false⟩ _ hLa.el.es (by omega) HT.out.1
          have hc3 : ¬ 9223372036854775807 < 1 + (strOfNums [97 + (j : Int) / 26, 97 + (j : Int) % 26]).size := by rw [strOfNums_size]; simp
          go_wp2_with fail
          refine hset.mono ?_
          rintro e w7 ⟨ad5, cap5, us5, rfl, hrel5, hel5, hb5, hlen5, hrm5⟩
          have hL5 := hLa.later hb5
          have t3 := hL5.tc
          have t4 := hL5.tf
          have hL7 := hL5.putNew (cp' := cap5) hel5 hLa.lt
          have HZ5 : Keep (HasZ (j + 1) us5) := ⟨HZ.out.set rfl hrel5⟩
          have HT5 : Keep (Asc us5 ∧ Tiny (P + 60) T us5 ∧ NilOk ad5 cap5 ∧ us5.length ≤ cap5) := ⟨⟨hrel5.asc, HT.out.2.1.setRel ⟨by rw [zp_size]; omega, Nat.zero_le _⟩ hrel5, NilOk.ne hel5 (setRel_ne hrel5), hrm5⟩⟩
          clear hset hcv hLa hL hL5 t1 t2 hb5 hel5 hrel5 hc3
          go_wp2
          go_roundw
          case rel => exact ⟨j + 1, ad5, cap5, us5, by congr 1, HZ5, by omega, hL7, HT5, by omega⟩
          case measure => simp only [intOf]; omega
        · have t3 := hL.rc
          have t4 := hL.rf
          obtain ⟨he1, he2⟩ := hL.back (p := p) (K := 10) (by omega)
          clear hL
          go_wp2
          refine bodyPost_ret (v := .agg #[.slice ad us.length cp]) ?_ rfl ⟨ad, cp, us, rfl, he1, by omega, HT.out.2.1.wide (by omega) (by omega), HT.out.2.2.1, he2, HT.out.2.2.2⟩
          go_light
          simp [results, Try.results29, go_sem, t3]
    have hB3 : ((y : Int) == 3) = false := by simp; omega
    clear q0 q1 q2 q3 x1 x2
    have hcI : ¬ 9223372036854775807 < ts[k].path.size + 3 := by omega
    have hcJ : ¬ 9223372036854775807 < ts[k].path.size + 2 := by omega
    have hset := l5SetC_any (some ⟨gb, 0, none⟩) cp ts ⟨ts[k].path ++ ⟨#[47, 105, 110]⟩, ⟨#[]⟩, false⟩ w5 hL5.el.es (by omega) hA
    go_wp2_with fail
    refine hset.mono ?_
    rintro e w6 ⟨ad6, cap6, us6, rfl, hrel6, hel6, hb6, hlen6, hrm6⟩
    have hL6 := hL5.later hb6
    have t3 := hL6.tc
    have t4 := hL6.tf
    have hL7 := hL6.putNew (cp' := cap6) hel6 hL5.lt
    have HT6 : Keep (Asc us6 ∧ Tiny (P + 60) T us6 ∧ NilOk ad6 cap6 ∧ us6.length ≤ cap6) := ⟨⟨hrel6.asc, (hT.wide (by omega) (Nat.le_refl _)).setRel ⟨by show (ts[k].path ++ _).size ≤ P + 60; rw [ByteArray.size_append]; show ts[k].path.size + 3 ≤ P + 60; omega, Nat.zero_le _⟩ hrel6, NilOk.ne hel6 (setRel_ne hrel6), hrm6⟩⟩
    have hl6 : us6.length ≤ N + 1 := by omega
    have hkz := hkT.1
    clear hset hL5 hL6 hb6 hel6 hrel6 t5 x0 hlen6
    generalize ts[k].path = xp at *
    have hpk2 := pick_any g a cap zs (p + 1 + 1) 2 _ hL7.rd (by omega) (by omega) (by omega)
    go_wp2_with fail
    refine hpk2.mono ?_
    rintro e w8 ⟨z, rfl, hz, hg8, hR8⟩
    have hL8 := hL7.step hg8 hR8
    clear hL7 hg8 hR8 t3 t4 hpk2
    have t8 := hL8.tc
    by_cases z0 : z = 0
    · have hBz : ((z : Int) == 0) = true := by simp; omega
      clear z0
      have hset := l5SetC_any ad6 cap6 us6 ⟨xp ++ ⟨#[33, 98]⟩, ⟨#[]⟩, false⟩ w8 hL8.el.es (by omega) HT6.out.1
      go_wp2_with fail
      refine hset.mono ?_
      rintro e w9 ⟨ad9, cap9, us9, rfl, hrel9, hel9, hb9, hlen9, hrm9⟩
      have hL9 := hL8.later hb9
      have t3 := hL9.tc
      have t4 := hL9.tf
      have hL10 := hL9.putNew (cp' := cap9) hel9 hL8.lt
      have t9 := hL10.tc
      have r9 := hL10.rc
      have rf9 := hL10.rf
      have hn9 := NilOk.ne (cp := cap9) hel9 (setRel_ne hrel9)
      obtain ⟨he1, he2⟩ := hL10.back (p := p) (K := 10) (by omega)
      have hT9 : Tiny (P + 60) (T + 1580) us9 := ((HT6.out.2.1).setRel ⟨by show (xp ++ _).size ≤ P + 60; rw [ByteArray.size_append]; show xp.size + 2 ≤ P + 60; omega, Nat.zero_le _⟩ hrel9).wide (Nat.le_refl _) (by omega)
      clear hset hL8 hL9 hL10 hb9 hel9 hrel9 t8
      go_wp2
      refine bodyPost_ret (v := .agg #[.slice ad9 us9.length cap9]) ?_ rfl ⟨ad9, cap9, us9, rfl, he1, by omega, hT9, hn9, he2, hrm9⟩
      go_light
      simp [results, Try.results29, go_sem, r9]
    · have hBz : ((z : Int) == 0) = false := by simp; omega
      clear z0
      have r9 := hL8.rc
      have rf9 := hL8.rf
      obtain ⟨he1, he2⟩ := hL8.back (p := p) (K := 10) (by omega)
      clear hL8
      go_wp2
      refine bodyPost_ret (v := .agg #[.slice ad6 us6.length cap6]) ?_ rfl ⟨ad6, cap6, us6, rfl, he1, by omega, HT6.out.2.1.wide (Nat.le_refl _) (by omega), HT6.out.2.2.1, he2, HT6.out.2.2.2⟩
      go_light
      simp [results, Try.results29, go_sem, r9]
theorem l5Spoil_any (g : Nat) (a : Option Addr) (cap : Nat) (zs : List Int) (p : Nat) (ad0 : Option Addr) (cp0 : Nat) (t0 : List En) (w : World) (h : Rd w g a cap zs p) (hp : p ≤ 10000000) (hes : ES w ad0 t0) (hno : NilOk ad0 cp0) (hA : Asc t0) (hT : Tiny 40 20 t0) (hn : t0.length ≤ 100) :
    Calls Try.prog 29 #[.pointer (some ⟨g, 0, none⟩), .agg #[.slice ad0 t0.length cp0]] w (TreeS 100 1600 103 g a cap zs 10 p w) :=
  (l5SpoilB_any 40 20 100 (by omega) (by omega) (by omega) (by omega) (by omega) g a cap zs p ad0 cp0 t0 w h hp hes hno hA hT hn).mono (fun _ _ ⟨ad, cp, ts, h1, h2, h3, h4, h5, h6, _⟩ => ⟨ad, cp, ts, h1, h2, h3, h4, h5, h6⟩)
end Go.Proofs.Ytmejaaegojilcaa

namespace Go.Proofs.Ytmejaaegojilcaa
open Go.RowKit

theorem split_leD : ∀ (l : List UInt8) (x : List UInt8), x ∈ splitS l → x.length ≤ l.length
  | [], x, h => by simp [splitS] at h; subst h; simp
  | c :: cs, x, h => by
    have ih := split_leD cs
    rw [splitS] at h
    split at h
    · rcases List.mem_cons.1 h with h | h
      · subst h; simp
      · have := ih x h; simp; omega
    · cases hs : splitS cs with
      | nil => exact absurd hs (splitS_ne cs)
      | cons q qs =>
        rw [hs] at h ih
        rcases List.mem_cons.1 h with h | h
        · subst h
          have := ih q (by simp)
          simp; omega
        · have := ih x (by simp [h]); simp; omega
theorem part_leD (s x : ByteArray) (h : x ∈ partsB s) : x.size ≤ s.size := by
  unfold partsB at h
  obtain ⟨l, hl, rfl⟩ := List.mem_map.1 h
  have := split_leD _ _ hl
  rw [Lib.size_eq, Lib.size_eq, mkB_list]
  exact this

set_option maxRecDepth 100000 in
set_option maxHeartbeats 4000000 in
theorem l5Path_any (g : Nat) (a : Option Addr) (cap : Nat) (zs : List Int) (p : Nat) (ad : Option Addr) (cp : Nat) (ts : List En) (B : Nat) (w : World) (h : Rd w g a cap zs p) (hp : p ≤ 10000000) (hel : EL B w ad ts) (hB : g < B) (hT : Tiny 100 1600 ts) (hn : ts.length ≤ 103) :
    Calls Try.prog 13 #[.pointer (some ⟨g, 0, none⟩), .agg #[.slice ad ts.length cp]] w fun e w' => ∃ s : ByteArray, e = .returned (.string s) ∧ s.size ≤ 110 ∧ Dr g a cap zs w w' p 12 := by
  have hglt := h.lt
  have hal := below_oneD w (.cells #[.slice ad ts.length cp] 25)
  have c0 : (w.alloc (.cells #[.slice ad ts.length cp] 25)).cell? ⟨w.heap.size, 0, none⟩ = some (.slice ad ts.length cp) := by simp
  have hRa := h.below hal
  have hela := hel.below hal
  have hga : w.grownBy (w.alloc (.cells #[.slice ad ts.length cp] 25)) (some g) := gr_below hal
  by_cases h0 : ts = []
  · subst h0
    have hB0 : ((([] : List En).length : Int) == 0) = true := rfl
    go_enter Try.func13, Try.ntmps13
    go_wp2_with fail
    refine (path_any g a cap zs p _ hRa (by omega)).mono ?_
    rintro e w2 ⟨s, rfl, hs, ⟨p2, hp2, hR2⟩, hg2⟩
    go_wp2
    go_ret
    exact ⟨s, rfl, by omega, ⟨p2, by omega, hR2⟩, gr_trans hga hg2⟩
  have hpos : 0 < ts.length := List.length_pos_iff.2 h0
  have hBl : ((ts.length : Int) == 0) = false := by simp; exact h0
  go_enter Try.func13, Try.ntmps13
  go_wp2_with fail
  refine (pick_any g a cap zs p 4 _ hRa (by omega) (by omega) (by omega)).mono ?_
  rintro e w1 ⟨y, rfl, hy, hg1, hR1⟩
  have hne : some w.heap.size ≠ some g := by simp; omega
  have c1 := hg1.cell (a := ⟨w.heap.size, 0, none⟩) c0 hne
  have hel1 := hela.grown hg1 (fun k _ hk _ e => by cases e; omega)
  have hgw1 := gr_trans hga hg1
  clear hela hel hga hg1 hRa c0 hal h
  obtain ⟨tB, htB⟩ : ∃ tB, tB = w.heap.size := ⟨_, rfl⟩
  rw [← htB] at c1 hne ⊢
  clear htB
  by_cases hy0 : y = 0
  · have hB0 : ((y : Int) == 0) = true := by simp; omega
    clear hy0
    go_wp2_with fail
    refine (path_any g a cap zs (p + 1) _ hR1 (by omega)).mono ?_
    rintro e w2 ⟨s, rfl, hs, ⟨p2, hp2, hR2⟩, hg2⟩
    go_wp2
    go_ret
    exact ⟨s, rfl, by omega, ⟨p2, by omega, hR2⟩, gr_trans hgw1 hg2⟩
  have hBy : ((y : Int) == 0) = false := by simp; omega
  clear hy0
  obtain ⟨gb, rfl, hgb⟩ : ∃ gb, ad = some ⟨gb, 0, none⟩ ∧ B ≤ gb := by
    rcases hel1 with h1 | ⟨gb, h1, h2, _⟩
    · exact absurd h1 h0
    · exact ⟨gb, h1, h2⟩
  have hpk := pick_any g a cap zs (p + 1) ts.length w1.drew (hR1.below (w' := w1.drew) (Below.refl _ _).drew) (by omega) (by omega) (by omega)
  have hcells : ∀ W' k (hk : k < ts.length), w1.drew.grownBy W' (some g) → W'.cell? ⟨gb, k * 3, none⟩ = some (.string ts[k].path) := fun W' k hk hg => by
    rcases hel1 with h1 | ⟨gb', h1, h2, h3, h4, h5⟩
    · exact absurd h1 h0
    · cases h1
      exact hg.cell (a := ⟨gb, k * 3, none⟩) (h5 k hk).1 (by simp; omega)
  have hbox : ∀ W', w1.drew.grownBy W' (some g) → W'.cell? ⟨tB, 0, none⟩ = some (.slice (some ⟨gb, 0, none⟩) ts.length cp) := fun W' hg => hg.cell (a := ⟨tB, 0, none⟩) c1 hne
  go_upto_region 3 with fail
  go_cut [5] (fun v wx => ∃ s : ByteArray, v = .string s ∧ s.size ≤ 100 ∧ Rd wx g a cap zs (p + 1 + 1) ∧ w.grownBy wx (some g))
  case first =>
    go_region_with (go_at_call 15; refine hpk.mono ?_; rintro e w3 ⟨k, rfl, hk, hg3, hR3⟩; have hk' : (k : Int) < ts.length := (by omega); have ck := hcells w3 k hk hg3; have cb := hbox w3 hg3)
    all_goals
      go_wp2_with fail
      go_meet
      case rel => exact ⟨_, rfl, (hT _ (List.getElem_mem hk)).1, hR3, gr_trans hgw1 (gr_trans (gr_below (w' := w1.drew) (Below.refl _ _).drew) hg3)⟩
  case rest =>
    obtain ⟨s, rfl, hs, hR2, hg2⟩ := hcut
    clear hpk hcells hbox hel1 hR1 hgw1 c1
    have hc3 : ¬ 9223372036854775807 < s.size + 3 := by omega
    have hc1 : ¬ 9223372036854775807 < s.size + 1 := by omega
    go_wp2_with fail
    refine (pick_any g a cap zs (p + 1 + 1) 6 wc hR2 (by omega) (by omega) (by omega)).mono ?_
    rintro e w3 ⟨x, rfl, hx, hg3, hR3⟩
    have hgw := gr_trans hg2 hg3
    clear hg2 hg3 hR2
    by_cases q0 : x = 0
    · have hB0 : ((x : Int) == 0) = true := by simp; omega
      clear q0
      go_wp2
      go_ret
      exact ⟨_, rfl, by rw [ByteArray.size_append]; show s.size + 3 ≤ _; omega, ⟨_, by omega, hR3⟩, hgw⟩
    have hB0 : ((x : Int) == 0) = false := by simp; omega
    by_cases q1 : x = 1
    · have hB1 : ((x : Int) == 1) = true := by simp; omega
      clear q0 q1
      have hps := l4Parts_any s (by omega) w3
      go_wp2_with fail
      refine hps.mono ?_
      rintro e w4 ⟨ad4, cp4, rfl, hrow4, hb4⟩
      have hpl : 0 < (partsB s).length := List.length_pos_iff.2 (by unfold partsB; intro e; exact splitS_ne _ (by simpa using e))
      obtain ⟨g4, c4, hv4, _⟩ := hrow4.form hpl
      cases hv4
      have hc4 : w4.cell? ⟨g4, 0, none⟩ = some (.string ((partsB s)[0]'hpl)) := by
        rw [hrow4.cellAt 0 (by omega), List.getElem?_map, List.getElem?_eq_getElem hpl]
        rfl
      have hz4 : ((partsB s)[0]'hpl).size ≤ s.size := part_leD s _ (List.getElem_mem hpl)
      have hpl' : (0 : Int) < (partsB s).length := by omega
      generalize (partsB s)[0]'hpl = s0 at *
      generalize (partsB s).length = n4 at *
      clear hps hrow4
      go_wp2
      go_ret
      exact ⟨s0, rfl, by omega, ⟨_, by omega, hR3.below hb4⟩, gr_trans hgw (gr_below hb4)⟩
    have hB1 : ((x : Int) == 1) = false := by simp; omega
    by_cases q2 : x = 2
    · have hB2 : ((x : Int) == 2) = true := by simp; omega
      have hB3 : ((x : Int) == 3) = false := by simp; omega
      clear q0 q1 q2
      go_wp2
      go_loopw [7] (fun i wr => ∃ i' : Int, i = .int .i64 i' ∧ i' < s.size ∧ -1 ≤ i' ∧ w3 = wr) (fun i _ => (intOf i + 1).toNat)
      case atStart => exact ⟨(s.size : Int) - 1, by congr 1, by omega, by omega, rfl⟩
      case round =>
        obtain ⟨i, rfl, hi1, hi2, rfl⟩ := hrel
        by_cases hpos2 : 0 < i
        · obtain ⟨n, rfl⟩ : ∃ n : Nat, i = n := ⟨i.toNat, by omega⟩
          have hn1 : (n : Int) < s.size := by omega
          have hn2 : n < s.size := by omega
          have hn3 : (0 : Int) ≤ n := by omega
          have hn4 : (n : Int) ≤ s.size := by omega
          obtain ⟨cb, hcb⟩ : ∃ cb : Nat, s[n].toNat = cb := ⟨_, rfl⟩
          by_cases h47 : cb = 47
          · have hB47 : ((cb : Int) == 47) = true := by simp; omega
            clear h47
            go_wp2
            go_ret
            exact ⟨_, rfl, by rw [ByteArray.size_extract]; omega, ⟨_, by omega, hR3⟩, hgw⟩
          · have hB47 : ((cb : Int) == 47) = false := by simp; omega
            clear h47
            go_wp2
            go_roundw
            case rel => exact ⟨(n : Int) - 1, by congr 1, by omega, by omega, trivial⟩
            case measure => simp only [intOf]; omega
        · go_wp2
          go_ret
          exact ⟨s, rfl, by omega, ⟨_, by omega, hR3⟩, hgw⟩
    have hB2 : ((x : Int) == 2) = false := by simp; omega
    by_cases q3 : x = 3
    · have hB3 : ((x : Int) == 3) = true := by simp; omega
      clear q0 q1 q2 q3
      go_wp2
      go_ret
      exact ⟨_, rfl, by rw [ByteArray.size_append]; show s.size + 1 ≤ _; omega, ⟨_, by omega, hR3⟩, hgw⟩
    have hB3 : ((x : Int) == 3) = false := by simp; omega
    clear q0 q1 q2 q3
    go_wp2
    go_ret
    exact ⟨s, rfl, by omega, ⟨_, by omega, hR3⟩, hgw⟩
end Go.Proofs.Ytmejaaegojilcaa

namespace Go.Proofs.Ytmejaaegojilcaa
open Go.RowKit

set_option maxRecDepth 100000 in
set_option maxHeartbeats 4000000 in
theorem l5Any_any (g : Nat) (a : Option Addr) (cap : Nat) (zs : List Int) (p : Nat) (w : World) (h : Rd w g a cap zs p) (hp : p ≤ 1000000) :
    Calls Try.prog 12 #[.pointer (some ⟨g, 0, none⟩)] w (TreeS 100 1600 103 g a cap zs 220 p w) := by
  have hglt := h.lt
  have hal := below_oneD w (.cells #[.slice none 0 0] 25)
  have r0 : (w.alloc (.cells #[.slice none 0 0] 25)).cell? ⟨w.heap.size, 0, none⟩ = some (.slice none 0 0) := by simp
  have rf0 : (w.alloc (.cells #[.slice none 0 0] 25)).frozen? ⟨w.heap.size, 0, none⟩ = false := by simp
  have hdr := l5Draw_any g a cap zs p _ (h.below hal) (by omega)
  have hne : some w.heap.size ≠ some g := by simp; omega
  have hsz : (w.alloc (.cells #[.slice none 0 0] 25)).heap.size = w.heap.size + 1 := by simp
  go_enter Try.func12, Try.ntmps12
  go_wp2_with fail
  refine hdr.mono ?_
  rintro e w2 ⟨ad, cp, ts, rfl, hel, hn, hA, hT, hNil, ⟨p2, hp2, hR2⟩, hg2⟩
  rw [hsz] at hel
  have r2 := hg2.cell (a := ⟨w.heap.size, 0, none⟩) r0 hne
  have rf2 : w2.frozen? ⟨w.heap.size, 0, none⟩ = false := fz_blk (hg2.block w.heap.size (by rw [hsz]; omega) hne) rf0
  have hgw := gr_trans (gr_below (row := some g) hal) hg2
  obtain ⟨rs, hrs⟩ : ∃ rs, rs = w.heap.size := ⟨_, rfl⟩
  rw [← hrs] at r2 rf2 hel hne ⊢
  have hrl : rs < w2.heap.size := World.block_lt_of_cell? w2 ⟨rs, 0, none⟩ r2
  have hgr : g < rs := by omega
  have HO : Keep (rs = w.heap.size) := ⟨hrs⟩
  clear hdr hal r0 rf0 hg2 hsz hrs h
  have hba := below_oneD w2 (.cells #[.slice ad ts.length cp] 25)
  have t3 : (w2.alloc (.cells #[.slice ad ts.length cp] 25)).cell? ⟨w2.heap.size, 0, none⟩ = some (.slice ad ts.length cp) := by simp
  have hpk := pick_any g a cap zs p2 10 _ (hR2.below hba) (by omega) (by omega) (by omega)
  go_wp2_with fail
  refine hpk.mono ?_
  rintro e w4 ⟨x, rfl, hx, hg4, hR4⟩
  have t4 := hg4.cell (a := ⟨w2.heap.size, 0, none⟩) t3 (by simp; omega)
  have r4 := hg4.cell (a := ⟨rs, 0, none⟩) (cell_later hba r2) (by simp; omega)
  have rf4 : w4.frozen? ⟨rs, 0, none⟩ = false := fz_blk (hg4.block rs (by simp; omega) (by simp; omega)) ((hba.frozen (p := ⟨rs, 0, none⟩) hrl).trans rf2)
  have hel4 : EL (rs + 1) w4 ad ts := (hel.below hba).grown hg4 (fun k _ hk _ e => by cases e; omega)
  have hgw4 := gr_trans (gr_trans hgw (gr_below (row := some g) hba)) hg4
  generalize w2.heap.size = tb at *
  clear hpk t3 hba r2 rf2 hel hgw hg4 hR2
  have hback : ∀ (W : World) (ad : Option Addr) (cp : Nat) (us : List En) (p5 : Nat), W.cell? ⟨rs, 0, none⟩ = some (.slice none 0 0) → EL (rs + 1) W ad us → Rd W g a cap zs p5 → w.grownBy W (some g) → p5 ≤ p + 220 → EL w.heap.size (W.setCell ⟨rs, 0, none⟩ (.slice ad us.length cp)) ad us ∧ Dr g a cap zs w (W.setCell ⟨rs, 0, none⟩ (.slice ad us.length cp)) p 220 := fun W ad cp us p5 _ he hR hg hp5 => by
    have hs : W.grownBy (W.setCell ⟨rs, 0, none⟩ (.slice ad us.length cp)) (some rs) := grown_set W rs 0 _
    have ho := HO.out
    exact ⟨(he.grown hs (fun k _ hk _ e => by cases e; omega)).mono (by omega), ⟨p5, hp5, hR.kept hs (fun k e => by cases e; omega)⟩, gr_own hg hs (fun j e => by cases e; omega)⟩
  by_cases x0 : x = 0
  · have hB : ((x : Int) == 0) = true := by simp; omega
    clear x0
    have hsp := l5Spoil_any g a cap zs (p2 + 1) ad cp ts w4 hR4 (by omega) hel4.es hNil hA hT hn
    go_wp2_with fail
    refine hsp.mono ?_
    rintro e w5 ⟨ad5, cp5, us, rfl, hel5, hn5, hT5, hN5, ⟨p5, hp5, hR5⟩, hg5⟩
    have r4l : rs < w4.heap.size := World.block_lt_of_cell? w4 ⟨rs, 0, none⟩ r4
    have r5 := hg5.cell (a := ⟨rs, 0, none⟩) r4 (by simp; omega)
    have rf5 : w5.frozen? ⟨rs, 0, none⟩ = false := fz_blk (hg5.block rs r4l (by simp; omega)) rf4
    obtain ⟨b1, b2⟩ := hback w5 ad5 cp5 us p5 r5 (hel5.mono (by omega)) hR5 (gr_trans hgw4 hg5) (by omega)
    clear hsp hback
    go_wp2
    refine bodyPost_ret (v := .agg #[.slice ad5 us.length cp5]) ?_ rfl ⟨ad5, cp5, us, rfl, b1, hn5, hT5, hN5, b2⟩
    go_light
    simp [results, Try.results12, go_sem, r5]
  · have hB : ((x : Int) == 0) = false := by simp; omega
    clear x0
    obtain ⟨b1, b2⟩ := hback w4 ad cp ts (p2 + 1) r4 hel4 hR4 hgw4 (by omega)
    clear hback
    go_wp2
    refine bodyPost_ret (v := .agg #[.slice ad ts.length cp]) ?_ rfl ⟨ad, cp, ts, rfl, b1, by omega, hT.wide (by omega) (by omega), hNil, b2⟩
    go_light
    simp [results, Try.results12, go_sem, r4]
end Go.Proofs.Ytmejaaegojilcaa

namespace Go.Proofs.Ytmejaaegojilcaa
open Go.RowKit

/-- An entry in a box. -/
structure EBx (b : Nat) (en : En) (W : World) : Prop where
  c0 : W.cell? ⟨b, 0, none⟩ = some (.string en.path)
  c1 : W.cell? ⟨b, 1, none⟩ = some (.string en.text)
  c2 : W.cell? ⟨b, 2, none⟩ = some (.bool en.runs)
  fz : ∀ j, W.frozen? ⟨b, j, none⟩ = false
theorem EBx.lt {b : Nat} {en : En} {W : World} (h : EBx b en W) : b < W.heap.size := World.block_lt_of_cell? W ⟨b, 0, none⟩ h.c0
theorem EBx.grown {b : Nat} {en : En} {W W' : World} {row : Option Nat} (h : EBx b en W) (hg : W.grownBy W' row) (hne : some b ≠ row) : EBx b en W' := by
  have k := hg.block b h.lt hne
  exact ⟨(World.cell?_of_block k).trans h.c0, (World.cell?_of_block k).trans h.c1, (World.cell?_of_block k).trans h.c2, fun j => fz_blk k (h.fz j)⟩
theorem EBx.later {b : Nat} {en : En} {W W' : World} (h : EBx b en W) (hb : Below W.heap.size W W') : EBx b en W' := h.grown (row := none) (gr_below hb) (by simp)
theorem EBx.path {b : Nat} {en : En} {W : World} (h : EBx b en W) (s : ByteArray) : EBx b ⟨s, en.text, en.runs⟩ (W.setCell ⟨b, 0, none⟩ (.string s)) :=
  ⟨World.cell?_setCell_same _ _ _ h.c0, (World.cell?_setCell_other _ _ _ _ (by simp)).trans h.c1, (World.cell?_setCell_other _ _ _ _ (by simp)).trans h.c2, fun j => (World.frozen?_setCell _ _ _ _).trans (h.fz j)⟩
theorem EBx.txt {b : Nat} {en : En} {W : World} (h : EBx b en W) (s : ByteArray) : EBx b ⟨en.path, s, en.runs⟩ (W.setCell ⟨b, 1, none⟩ (.string s)) :=
  ⟨(World.cell?_setCell_other _ _ _ _ (by simp)).trans h.c0, World.cell?_setCell_same _ _ _ h.c1, (World.cell?_setCell_other _ _ _ _ (by simp)).trans h.c2, fun j => (World.frozen?_setCell _ _ _ _).trans (h.fz j)⟩
theorem el_setJ {B g j : Nat} {w : World} {a : Option Addr} {ts : List En} {u : Value} (h : EL B w a ts) (hg : g < B) : EL B (w.setCell ⟨g, j, none⟩ u) a ts :=
  h.grown (row := some g) ⟨rfl, rfl, rfl, by simp, fun k _ hk => Below.heap_setCell _ _ _ _ (fun e => hk (by rw [e]))⟩ (fun k _ hk _ e => by cases e; omega)
theorem code_later {w w' : World} {a : Option Addr} {cap : Nat} {zs : List Int} (h : Code0 w a cap zs) (hb : Below w.heap.size w w') : Code0 w' a cap zs :=
  ⟨by
    rcases h.bytes with h0 | ⟨b, off, h1, h2, h3⟩
    · exact .inl h0
    · exact .inr ⟨b, off, h1, Nat.lt_of_lt_of_le h2 hb.size, fun i hi => cell_later hb (h3 i hi)⟩, h.len, h.cap, h.wf⟩
theorem el_drew {B : Nat} {w : World} {a : Option Addr} {ts : List En} (h : EL B w a ts) : EL B w.drew a ts := h.below (Below.refl _ _).drew
end Go.Proofs.Ytmejaaegojilcaa

namespace Go.Proofs.Ytmejaaegojilcaa
open Go.RowKit

/-- All that is held while the entry is drawn. -/
structure DPt (w : World) (g r2 r3 tb eb : Nat) (a : Option Addr) (cap : Nat) (zs : List Int) (p : Nat) (ad : Option Addr) (cp : Nat) (ts : List En) (en : En) (W : World) : Prop where
  rd : Rd W g a cap zs p
  bw : Below w.heap.size w W
  a0 : W.cell? ⟨r2, 0, none⟩ = some (.slice none 0 0)
  af : W.frozen? ⟨r2, 0, none⟩ = false
  b3 : EBx r3 ⟨⟨#[]⟩, ⟨#[]⟩, false⟩ W
  tc : W.cell? ⟨tb, 0, none⟩ = some (.slice ad ts.length cp)
  el : EL (g + 1) W ad ts
  up : ts = [] ∨ ∃ k, blk ad = some k ∧ k < tb
  bx : EBx eb en W
  ord : w.heap.size ≤ r2 ∧ r2 < r3 ∧ r3 < g ∧ g < tb ∧ tb < eb
theorem DPt.step {w : World} {g r2 r3 tb eb : Nat} {a : Option Addr} {cap : Nat} {zs : List Int} {p p' : Nat} {ad : Option Addr} {cp : Nat} {ts : List En} {en : En} {W W' : World} (h : DPt w g r2 r3 tb eb a cap zs p ad cp ts en W) (hg : W.grownBy W' (some g)) (hR : Rd W' g a cap zs p') : DPt w g r2 r3 tb eb a cap zs p' ad cp ts en W' := by
  have o := h.ord
  have l2 : r2 < W.heap.size := World.block_lt_of_cell? W ⟨r2, 0, none⟩ h.a0
  have lt : tb < W.heap.size := World.block_lt_of_cell? W ⟨tb, 0, none⟩ h.tc
  have k2 := hg.block r2 l2 (by simp; omega)
  have kt := hg.block tb lt (by simp; omega)
  exact ⟨hR, h.bw.grown hg h.bw.size (fun j e => by cases e; omega), (World.cell?_of_block k2).trans h.a0, fz_blk k2 h.af, h.b3.grown hg (by simp; omega), (World.cell?_of_block kt).trans h.tc, h.el.grown hg (fun k _ hk _ e => by cases e; omega), h.up, h.bx.grown hg (by simp; omega), o⟩
theorem DPt.turn {w : World} {g r2 r3 tb eb : Nat} {a : Option Addr} {cap : Nat} {zs : List Int} {p : Nat} {ad : Option Addr} {cp : Nat} {ts : List En} {en en' : En} {W : World} {j : Nat} {u : Value} (h : DPt w g r2 r3 tb eb a cap zs p ad cp ts en W) (he : EBx eb en' (W.setCell ⟨eb, j, none⟩ u)) : DPt w g r2 r3 tb eb a cap zs p ad cp ts en' (W.setCell ⟨eb, j, none⟩ u) := by
  have o := h.ord
  have hg : W.grownBy (W.setCell ⟨eb, j, none⟩ u) (some eb) := grown_set W eb j _
  have l2 : r2 < W.heap.size := World.block_lt_of_cell? W ⟨r2, 0, none⟩ h.a0
  have lt : tb < W.heap.size := World.block_lt_of_cell? W ⟨tb, 0, none⟩ h.tc
  have k2 := hg.block r2 l2 (by simp; omega)
  have kt := hg.block tb lt (by simp; omega)
  refine ⟨h.rd.kept hg (fun k e => by cases e; omega), h.bw.grown hg h.bw.size (fun i e => by cases e; omega), (World.cell?_of_block k2).trans h.a0, fz_blk k2 h.af, h.b3.grown hg (by simp; omega), (World.cell?_of_block kt).trans h.tc, ?_, h.up, he, o⟩
  rcases h.up with h0 | ⟨k0, h1, h2⟩
  · subst h0; exact EL.nil _ _ _
  · exact h.el.grown hg (fun k hk _ _ e => by rw [h1] at hk; cases hk; cases e; omega)

def DrawnP (w : World) (e : Ending) (w' : World) : Prop :=
  ∃ ad cp ts en, e = .returned (.tuple #[.agg #[.slice ad (List.length ts) cp], .agg #[.string (En.path en), .string en.text, .bool en.runs]]) ∧ ES w' ad ts ∧ ts.length ≤ 103 ∧ Tiny 200 1600 ts ∧ Tiny 200 1600 [en] ∧ Below w.heap.size w w'

set_option maxRecDepth 100000 in
set_option maxHeartbeats 8000000 in
theorem drawPut_any (a : Option Addr) (cap : Nat) (zs : List Int) (w : World) (h : Code0 w a cap zs) :
    Calls Try.prog 4 #[.slice a zs.length cap] w (DrawnP w) := by
  have hal : Below w.heap.size w ((w.alloc (.cells #[.slice none 0 0] 25)).alloc (.cells #[.string ⟨#[]⟩, .string ⟨#[]⟩, .bool false] 27)) := ((Below.refl _ _).alloc (Nat.le_refl _) _).alloc (by simp) _
  have a0 : ((w.alloc (.cells #[.slice none 0 0] 25)).alloc (.cells #[.string ⟨#[]⟩, .string ⟨#[]⟩, .bool false] 27)).cell? ⟨w.heap.size, 0, none⟩ = some (.slice none 0 0) := by simp [go_sem]
  have af0 : ((w.alloc (.cells #[.slice none 0 0] 25)).alloc (.cells #[.string ⟨#[]⟩, .string ⟨#[]⟩, .bool false] 27)).frozen? ⟨w.heap.size, 0, none⟩ = false := by simp [go_sem]
  have b0 : EBx (w.heap.size + 1) ⟨⟨#[]⟩, ⟨#[]⟩, false⟩ ((w.alloc (.cells #[.slice none 0 0] 25)).alloc (.cells #[.string ⟨#[]⟩, .string ⟨#[]⟩, .bool false] 27)) := ⟨by simp [go_sem], by simp [go_sem], by simp [go_sem], fun j => by simp [go_sem]⟩
  have hsz : ((w.alloc (.cells #[.slice none 0 0] 25)).alloc (.cells #[.string ⟨#[]⟩, .string ⟨#[]⟩, .bool false] 27)).heap.size = w.heap.size + 1 + 1 := by simp
  have hop := open_any a cap zs _ (code_later h hal)
  go_enter Try.func4, Try.ntmps4
  go_wp2_with fail
  refine hop.mono ?_
  rintro e w1 ⟨rfl, hb1, hs1, zs', hR1⟩
  rw [hsz] at hR1 hs1 hb1
  rw [hsz]
  have hbw1 : Below w.heap.size w w1 := hal.trans (hb1.mono (by omega))
  have hb1' : Below ((w.alloc (.cells #[.slice none 0 0] 25)).alloc (.cells #[.string ⟨#[]⟩, .string ⟨#[]⟩, .bool false] 27)).heap.size ((w.alloc (.cells #[.slice none 0 0] 25)).alloc (.cells #[.string ⟨#[]⟩, .string ⟨#[]⟩, .bool false] 27)) w1 := by rw [hsz]; exact hb1
  have a1 := cell_later hb1' a0
  have af1 : w1.frozen? ⟨w.heap.size, 0, none⟩ = false := (hb1'.frozen (p := ⟨w.heap.size, 0, none⟩) (by rw [hsz]; show w.heap.size < _; omega)).trans af0
  have b1 := b0.later hb1'
  obtain ⟨g, hg⟩ : ∃ g, g = w.heap.size + 1 + 1 := ⟨_, rfl⟩
  obtain ⟨r3, hr3⟩ : ∃ r3, r3 = w.heap.size + 1 := ⟨_, rfl⟩
  obtain ⟨r2, hr2⟩ : ∃ r2, r2 = w.heap.size := ⟨_, rfl⟩
  rw [← hg] at hR1 ⊢
  rw [← hr3] at b1 ⊢
  rw [← hr2] at a1 af1 ⊢
  have HO : Keep (r2 = w.heap.size ∧ r3 = w.heap.size + 1 ∧ g = w.heap.size + 2 ∧ w1.heap.size = w.heap.size + 3) := ⟨by omega⟩
  clear hop hal a0 af0 b0 hsz hb1 hb1' hs1 hg hr2 hr3
  have hany := l5Any_any g a cap zs' 0 w1 hR1 (by omega)
  go_wp2_with fail
  refine hany.mono ?_
  rintro e w2 ⟨ad, cp, ts, rfl, hel, hn, hT, hNil, ⟨p2, hp2, hR2⟩, hg2⟩
  clear hany
  have hba := below_oneD w2 (.cells #[.slice ad ts.length cp] 25)
  have l1 : r2 < w1.heap.size ∧ r3 < w1.heap.size := by have := HO.out; omega
  have k2 := hg2.block r2 l1.1 (by have := HO.out; simp; omega)
  have hs2 := hg2.size
  -- the entry is drawn in worlds where all this holds
  have hel2 : EL (g + 1) w2 ad ts := hel.mono (by have := HO.out; omega)
  have hup : ts = [] ∨ ∃ k, blk ad = some k ∧ k < w2.heap.size := by
    rcases hel with h0 | ⟨k, rfl, _, hk, _⟩
    · exact .inl h0
    · exact .inr ⟨k, rfl, hk⟩
  have hT0 : ∀ (W : World) (en : En) (p : Nat), DPt w g r2 r3 w2.heap.size W.heap.size a cap zs' p ad cp ts en (W.alloc (.cells #[.string en.path, .string en.text, .bool en.runs] 27)) → True := fun _ _ _ _ => trivial
  clear hT0
  have hP := l5Path_any g a cap zs' p2 ad cp ts (g + 1) _ (hR2.below hba) (by omega) (hel2.below hba) (by omega) hT (by omega)
  have t3 : (w2.alloc (.cells #[.slice ad ts.length cp] 25)).cell? ⟨w2.heap.size, 0, none⟩ = some (.slice ad ts.length cp) := by simp
  go_wp2_with fail
  refine hP.mono ?_
  rintro e w4 ⟨sP, rfl, hsP, ⟨p4, hp4, hR4⟩, hg4⟩
  clear hP
  go_wp2_with fail
  refine (text_any g a cap zs' p4 w4 hR4 (by omega)).mono ?_
  rintro e w5 ⟨sT, rfl, hsT, ⟨p5, hp5, hR5⟩, hg5⟩
  go_wp2_with fail
  refine (pick_any g a cap zs' p5 2 w5 hR5 (by omega) (by omega) (by omega)).mono ?_
  rintro e w6 ⟨z, rfl, hz, hg6, hR6⟩
  obtain ⟨bz, hbz⟩ : ∃ bz, ((z : Int) == 0) = bz := ⟨_, rfl⟩
  have hgA : (w2.alloc (.cells #[.slice ad ts.length cp] 25)).grownBy w6 (some g) := gr_trans (gr_trans hg4 hg5) hg6
  have hD : DPt w g r2 r3 w2.heap.size w6.heap.size a cap zs' (p5 + 1) ad cp ts ⟨sP, sT, bz⟩ (w6.alloc (.cells #[.string sP, .string sT, .bool bz] 27)) := by
    have ho := HO.out
    have hbw2 : Below w.heap.size w w2 := hbw1.grown hg2 hbw1.size (fun j e => by cases e; omega)
    have hbw3 := hbw2.trans (hba.mono hbw2.size)
    have hbw6 : Below w.heap.size w w6 := hbw3.grown hgA hbw3.size (fun j e => by cases e; omega)
    have hbe := below_oneD w6 (.cells #[.string sP, .string sT, .bool bz] 27)
    have hsA := hgA.size
    rw [World.size_alloc] at hsA
    have x2 : w2.cell? ⟨r2, 0, none⟩ = some (.slice none 0 0) := (World.cell?_of_block k2).trans a1
    have l2 : r2 < w2.heap.size := World.block_lt_of_cell? w2 ⟨r2, 0, none⟩ x2
    have y2 := hgA.block r2 (by simp; omega) (by simp; omega)
    have e3 := ((b1.grown hg2 (by simp; omega)).later hba).grown hgA (by simp; omega)
    exact ⟨hR6.below hbe, hbw6.trans (hbe.mono hbw6.size), cell_later hbe ((World.cell?_of_block y2).trans (cell_later hba x2)), (hbe.frozen (p := ⟨r2, 0, none⟩) (by show r2 < _; omega)).trans (fz_blk y2 ((hba.frozen (p := ⟨r2, 0, none⟩) l2).trans (fz_blk k2 af1))), e3.later hbe,
      cell_later hbe (hgA.cell (a := ⟨w2.heap.size, 0, none⟩) t3 (by simp; omega)), ((hel2.below hba).grown hgA (fun k _ hk _ e => by cases e; omega)).below hbe, hup, ⟨by simp, by simp, by simp, fun j => by simp⟩, by omega⟩
  have hTe : Tiny 200 1600 [⟨sP, sT, bz⟩] := fun x hx => by rw [List.mem_singleton.1 hx]; exact ⟨by show sP.size ≤ 200; omega, by show sT.size ≤ 1600; omega⟩
  clear hg4 hg5 hg6 hgA hR4 hR5 hR6 hR2 hR1 hel hel2 hup t3 hba k2 hs2 a1 af1 b1 hbw1 hg2 l1
  go_wp2_with fail
  generalize w6.alloc (.cells #[.string sP, .string sT, .bool bz] 27) = W7 at *
  generalize w2.heap.size = tb at *
  generalize w6.heap.size = eb at *
  refine (pick_any g a cap zs' (p5 + 1) 12 W7 hD.rd (by omega) (by omega) (by omega)).mono ?_
  rintro e w8 ⟨x, rfl, hx, hg8, hR8⟩
  have hD8 := hD.step hg8 hR8
  clear hD hg8 hR8
  -- what is handed back
  have hend : ∀ (W : World) (en : En) (p : Nat), DPt w g r2 r3 tb eb a cap zs' p ad cp ts en W → Tiny 200 1600 [en] → True := fun _ _ _ _ _ => trivial
  clear hend
  have hT2 : Tiny 200 1600 ts := hT.wide (by omega) (Nat.le_refl _)
  by_cases q0 : x = 0
  · have hB0 : ((x : Int) == 0) = true := by simp; omega
    clear q0
    have c0 := hD8.bx.c0
    have hsp := spoilS_any g a cap zs' (p5 + 1 + 1) sP w8 hD8.rd (by omega) (by omega)
    go_wp2_with fail
    refine hsp.mono ?_
    rintro e w9 ⟨o, rfl, ho, ⟨p9, hp9, hR9⟩, hg9⟩
    have hD9 := hD8.step hg9 hR9
    have hD10 := hD9.turn (hD9.bx.path o)
    have d0 := hD9.bx.c0
    have df := hD9.bx.fz
    have hTn : Tiny 200 1600 [⟨o, sT, bz⟩] := fun x hx => by rw [List.mem_singleton.1 hx]; exact ⟨by show o.size ≤ 200; omega, by show sT.size ≤ 1600; omega⟩
    clear hsp hD8 hD9 c0 hTe
    go_upto_region 9 with fail
    generalize w9.setCell ⟨eb, 0, none⟩ (.string o) = w10 at *
    clear d0 df
    have o := hD10.ord
    have t1 := hD10.tc
    have c0 := hD10.bx.c0
    have c1 := hD10.bx.c1
    have c2 := hD10.bx.c2
    have a1 := hD10.a0
    have a2 := hD10.af
    have e0 := hD10.b3.c0
    have e1 := hD10.b3.c1
    have e2 := hD10.b3.c2
    have ef := hD10.b3.fz
    have bw := hD10.bw
    have el := hD10.el
    have n1 : ¬ r2 = r3 := by omega
    have n2 : ¬ r3 = r2 := by omega
    have n3 : ¬ r2 = eb := by omega
    have n4 : ¬ eb = r2 := by omega
    have n5 : ¬ r3 = eb := by omega
    have n6 : ¬ eb = r3 := by omega
    have n7 : ¬ r2 = tb := by omega
    have n8 : ¬ tb = r2 := by omega
    have n9 : ¬ r3 = tb := by omega
    have n10 : ¬ tb = r3 := by omega
    have HOR : Keep (w.heap.size ≤ r2 ∧ w.heap.size ≤ r3 ∧ r2 < g + 1 ∧ r3 < g + 1) := ⟨by omega⟩
    clear hD10 o
    go_region
    all_goals (try go_wp2)
    all_goals
      refine bodyPost_ret (v := .tuple #[.agg #[.slice ad ts.length cp], .agg #[.string o, .string sT, .bool bz]]) ?_ rfl ⟨ad, cp, ts, ⟨o, sT, bz⟩, rfl, ?_, hn, hT2, hTn, ?_⟩
      · go_light
        simp [results, Try.results4, go_sem, a1, e0, e1, e2]
      · refine EL.es (B := g + 1) ?_
        repeat (first | ((with_reducible refine el_setJ ?_ ?hq); (case hq => have := HOR.out; omega)) | (with_reducible refine el_drew ?_))
        exact el
      · repeat (first | ((with_reducible refine Below.setCell ?_ ?hq _); (case hq => have := HOR.out; first | exact this.1 | exact this.2.1)) | (with_reducible refine Below.drew ?_))
        exact bw
  have hB0 : ((x : Int) == 0) = false := by simp; omega
  by_cases q1 : x = 1
  · have hB1 : ((x : Int) == 1) = true := by simp; omega
    clear q0 q1
    have c1 := hD8.bx.c1
    go_wp2_with fail
    refine (pick_any g a cap zs' (p5 + 1 + 1) 2 w8 hD8.rd (by omega) (by omega) (by omega)).mono ?_
    rintro e w9 ⟨y, rfl, hy, hg9, hR9⟩
    have hD9 := hD8.step hg9 hR9
    have hm := many_any ⟨#[116]⟩ (1500 + y) w9 (by show 1 * (1500 + y) ≤ _; omega) (by omega) (by show 1 ≤ 1; omega) (by show 1 ≤ _; omega)
    rw [show ((1500 + y : Nat) : Int) = 1500 + (y : Int) by omega] at hm
    go_wp2_with fail
    refine hm.mono ?_
    rintro e w10 ⟨o, rfl, ho, rfl⟩
    have ho2 : o.size ≤ 1501 := by rw [ho]; show 1 * (1500 + y) ≤ _; omega
    have hD10 := hD9.turn (hD9.bx.txt o)
    have d0 := hD9.bx.c1
    have df := hD9.bx.fz
    have hTn : Tiny 200 1600 [⟨sP, o, bz⟩] := fun x hx => by rw [List.mem_singleton.1 hx]; exact ⟨by show sP.size ≤ 200; omega, by show o.size ≤ 1600; omega⟩
    clear hm hD8 hD9 c1 hTe ho
    go_upto_region 9 with fail
    generalize w9.setCell ⟨eb, 1, none⟩ (.string o) = w10 at *
    clear d0 df
    have o := hD10.ord
    have t1 := hD10.tc
    have c0 := hD10.bx.c0
    have c1 := hD10.bx.c1
    have c2 := hD10.bx.c2
    have a1 := hD10.a0
    have a2 := hD10.af
    have e0 := hD10.b3.c0
    have e1 := hD10.b3.c1
    have e2 := hD10.b3.c2
    have ef := hD10.b3.fz
    have bw := hD10.bw
    have el := hD10.el
    have n1 : ¬ r2 = r3 := by omega
    have n2 : ¬ r3 = r2 := by omega
    have n3 : ¬ r2 = eb := by omega
    have n4 : ¬ eb = r2 := by omega
    have n5 : ¬ r3 = eb := by omega
    have n6 : ¬ eb = r3 := by omega
    have n7 : ¬ r2 = tb := by omega
    have n8 : ¬ tb = r2 := by omega
    have n9 : ¬ r3 = tb := by omega
    have n10 : ¬ tb = r3 := by omega
    have HOR : Keep (w.heap.size ≤ r2 ∧ w.heap.size ≤ r3 ∧ r2 < g + 1 ∧ r3 < g + 1) := ⟨by omega⟩
    clear hD10 o
    go_region
    all_goals (try go_wp2)
    all_goals
      refine bodyPost_ret (v := .tuple #[.agg #[.slice ad ts.length cp], .agg #[.string sP, .string o, .bool bz]]) ?_ rfl ⟨ad, cp, ts, ⟨sP, o, bz⟩, rfl, ?_, hn, hT2, hTn, ?_⟩
      · go_light
        simp [results, Try.results4, go_sem, a1, e0, e1, e2]
      · refine EL.es (B := g + 1) ?_
        repeat (first | ((with_reducible refine el_setJ ?_ ?hq); (case hq => have := HOR.out; omega)) | (with_reducible refine el_drew ?_))
        exact el
      · repeat (first | ((with_reducible refine Below.setCell ?_ ?hq _); (case hq => have := HOR.out; first | exact this.1 | exact this.2.1)) | (with_reducible refine Below.drew ?_))
        exact bw
  have hB1 : ((x : Int) == 1) = false := by simp; omega
  clear q0 q1
  have o := hD8.ord
  have t1 := hD8.tc
  have c0 := hD8.bx.c0
  have c1 := hD8.bx.c1
  have c2 := hD8.bx.c2
  have a1 := hD8.a0
  have a2 := hD8.af
  have e0 := hD8.b3.c0
  have e1 := hD8.b3.c1
  have e2 := hD8.b3.c2
  have ef := hD8.b3.fz
  have bw := hD8.bw
  have el := hD8.el
  have n1 : ¬ r2 = r3 := by omega
  have n2 : ¬ r3 = r2 := by omega
  have n3 : ¬ r2 = eb := by omega
  have n4 : ¬ eb = r2 := by omega
  have n5 : ¬ r3 = eb := by omega
  have n6 : ¬ eb = r3 := by omega
  have n7 : ¬ r2 = tb := by omega
  have n8 : ¬ tb = r2 := by omega
  have n9 : ¬ r3 = tb := by omega
  have n10 : ¬ tb = r3 := by omega
  have HOR : Keep (w.heap.size ≤ r2 ∧ w.heap.size ≤ r3 ∧ r2 < g + 1 ∧ r3 < g + 1) := ⟨by omega⟩
  clear hD8 o
  go_upto_region 9 with fail
  go_region
  all_goals (try go_wp2)
  all_goals
    refine bodyPost_ret (v := .tuple #[.agg #[.slice ad ts.length cp], .agg #[.string sP, .string sT, .bool bz]]) ?_ rfl ⟨ad, cp, ts, ⟨sP, sT, bz⟩, rfl, ?_, hn, hT2, hTe, ?_⟩
    · go_light
      simp [results, Try.results4, go_sem, a1, e0, e1, e2]
    · refine EL.es (B := g + 1) ?_
      repeat (first | ((with_reducible refine el_setJ ?_ ?hq); (case hq => have := HOR.out; omega)) | (with_reducible refine el_drew ?_))
      exact el
    · repeat (first | ((with_reducible refine Below.setCell ?_ ?hq _); (case hq => have := HOR.out; first | exact this.1 | exact this.2.1)) | (with_reducible refine Below.drew ?_))
      exact bw
end Go.Proofs.Ytmejaaegojilcaa

namespace Go.Proofs.Ytmejaaegojilcaa
open Go.RowKit

theorem valid_of {us : List En} (hA : Asc us) (hn : us.length ≤ 100) (hok : ∀ x ∈ us, enOk x = true) (hf : ∀ x ∈ us, ∀ y ∈ us, ¬ Begins x.path y.path) : ValidTs us :=
  ⟨hn, fun i hi => ⟨hi, hok _ (List.getElem_mem hi), fun j hj hjl => List.pairwise_iff_getElem.1 hA j i hjl hi (by omega), fun e' he' => hf e' (List.mem_of_mem_take he') _ (List.getElem_mem hi)⟩⟩
theorem begins_irrefl (x : ByteArray) : ¬ Begins x x := fun h => by
  have := begins_less h
  rw [less_irrefl] at this
  cases this
theorem put_valid {ts : List En} {e : En} {us : List En} (hv : ValidTs ts) (he : enOk e = true) (hw : ¬ InWay ts e) (hs : SetRel ts e us) (hn : us.length ≤ 100) : ValidTs us := by
  refine valid_of hs.asc hn (fun x hx => ?_) (fun x hx y hy hb => ?_)
  · rcases (hs.mem x).1 hx with rfl | ⟨h, _⟩
    · exact he
    · exact valid_en hv h
  · rcases (hs.mem x).1 hx with rfl | ⟨h, _⟩
    · rcases (hs.mem y).1 hy with rfl | ⟨h', _⟩
      · exact begins_irrefl _ hb
      · exact hw ⟨y, h', .inr hb⟩
    · rcases (hs.mem y).1 hy with rfl | ⟨h', _⟩
      · exact hw ⟨x, h, .inl hb⟩
      · exact valid_free hv h h' hb
theorem without_valid {us : List En} (hv : ValidTs us) (p : ByteArray) : ValidTs (without us p) := by
  refine valid_of ((valid_asc hv).filter _) (Nat.le_trans (List.length_filter_le _ _) hv.1) (fun x hx => ?_) (fun x hx y hy => ?_)
  · exact valid_en hv ((without_mem x).1 hx).1
  · exact valid_free hv ((without_mem x).1 hx).1 ((without_mem y).1 hy).1
/-- An entry's path tells it. -/
theorem path_tells {us : List En} (hA : Asc us) {x y : En} (hx : x ∈ us) (hy : y ∈ us) (h : x.path = y.path) : x = y := by
  obtain ⟨i, hi, rfl⟩ := List.getElem_of_mem hx
  obtain ⟨j, hj, rfl⟩ := List.getElem_of_mem hy
  rcases Nat.lt_trichotomy i j with h1 | h1 | h1
  · have := List.pairwise_iff_getElem.1 hA i j hi hj h1
    rw [h, less_irrefl] at this
    cases this
  · subst h1; rfl
  · have := List.pairwise_iff_getElem.1 hA j i hj hi h1
    rw [h, less_irrefl] at this
    cases this
/-- What was put in is taken away again: nothing lay there before. -/
theorem back_none {ts us : List En} {e : En} (hA : Asc ts) (hs : SetRel ts e us) (hno : ∀ x ∈ ts, x.path ≠ e.path) : without us e.path = ts := by
  refine asc_unique (hs.asc.filter _) hA (fun x => ?_)
  rw [without_mem, hs.mem]
  constructor
  · rintro ⟨rfl | ⟨h, _⟩, h2⟩
    · exact absurd rfl h2
    · exact h
  · intro h
    exact ⟨.inr ⟨h, hno x h⟩, hno x h⟩
/-- What lay there before is put in again. -/
theorem back_some {ts us zs : List En} {e o : En} (hA : Asc ts) (hs : SetRel ts e us) (ho : o ∈ ts) (hop : o.path = e.path) (hz : SetRel (without us e.path) o zs) : zs = ts := by
  refine asc_unique hz.asc hA (fun x => ?_)
  rw [hz.mem, without_mem, hs.mem]
  constructor
  · rintro (rfl | ⟨⟨rfl | ⟨h, _⟩, h2⟩, _⟩)
    · exact ho
    · exact absurd rfl h2
    · exact h
  · intro h
    by_cases h2 : x.path = e.path
    · exact .inl (path_tells hA h ho (h2.trans hop.symm))
    · exact .inr ⟨⟨.inr ⟨h, h2⟩, h2⟩, fun e1 => h2 (e1.trans hop)⟩
/-- Nothing is in its way. -/
theorem back_free {ts us : List En} {e o : En} (hv : ValidTs ts) (hs : SetRel ts e us) (ho : o ∈ ts) : ¬ InWay (without us e.path) o := by
  rintro ⟨x, hx, hb⟩
  rw [without_mem, hs.mem] at hx
  obtain ⟨rfl | ⟨h, _⟩, h2⟩ := hx
  · exact h2 rfl
  · rcases hb with hb | hb
    · exact valid_free hv h ho hb
    · exact valid_free hv ho h hb
end Go.Proofs.Ytmejaaegojilcaa

namespace Go.Proofs.Ytmejaaegojilcaa
open Go.RowKit

theorem el_setP {B g : Nat} {w : World} {a : Option Addr} {ts : List En} {u : Value} (h : EL B w a ts) (hg : g < B) : EL B (w.setCell ⟨g, 0, none⟩ u) a ts :=
  h.grown (row := some g) ⟨rfl, rfl, rfl, by simp, fun k _ hk => Below.heap_setCell _ _ _ _ (fun e => hk (by rw [e]))⟩ (fun k _ hk _ e => by cases e; omega)
theorem frozen_block {w w' : World} {g j : Nat} (h : w'.heap[g]? = w.heap[g]?) (hf : w.frozen? ⟨g, j, none⟩ = false) : w'.frozen? ⟨g, j, none⟩ = false := by
  unfold World.frozen? at hf ⊢
  simp only at hf ⊢
  rw [h]; exact hf

set_option maxRecDepth 100000 in
set_option maxHeartbeats 4000000 in
theorem implPut_any (a : Option Addr) (cap : Nat) (ts : List En) (en : En) (w : World) (hts : ES w a ts) (hn : ts.length ≤ 1048576) (hz : ∀ e ∈ ts, e.path.size ≤ 1048576 ∧ e.text.size ≤ 1048576) (hp : en.path.size ≤ 1048576) :
    Calls Try.prog 5 #[.agg #[.slice a ts.length cap], .agg #[.string en.path, .string en.text, .bool en.runs]] w fun e w' => PutPost ts en w e w' := by
  have hal : Below w.heap.size w (((w.alloc (.cells #[.slice a ts.length cap] 25)).alloc (.cells #[.string en.path, .string en.text, .bool en.runs] 27)).alloc (.cells #[.slice none 0 0] 25)) := (((Below.refl _ _).alloc (Nat.le_refl _) _).alloc (by simp) _).alloc (by simp; omega) _
  have e0 : (((w.alloc (.cells #[.slice a ts.length cap] 25)).alloc (.cells #[.string en.path, .string en.text, .bool en.runs] 27)).alloc (.cells #[.slice none 0 0] 25)).cell? ⟨w.heap.size + 1, 0, none⟩ = some (.string en.path) := by simp [go_sem]
  have e1 : (((w.alloc (.cells #[.slice a ts.length cap] 25)).alloc (.cells #[.string en.path, .string en.text, .bool en.runs] 27)).alloc (.cells #[.slice none 0 0] 25)).cell? ⟨w.heap.size + 1, 1, none⟩ = some (.string en.text) := by simp [go_sem]
  have e2 : (((w.alloc (.cells #[.slice a ts.length cap] 25)).alloc (.cells #[.string en.path, .string en.text, .bool en.runs] 27)).alloc (.cells #[.slice none 0 0] 25)).cell? ⟨w.heap.size + 1, 2, none⟩ = some (.bool en.runs) := by simp [go_sem]
  have k0 : (((w.alloc (.cells #[.slice a ts.length cap] 25)).alloc (.cells #[.string en.path, .string en.text, .bool en.runs] 27)).alloc (.cells #[.slice none 0 0] 25)).cell? ⟨w.heap.size + 1 + 1, 0, none⟩ = some (.slice none 0 0) := by simp [go_sem]
  have kf : (((w.alloc (.cells #[.slice a ts.length cap] 25)).alloc (.cells #[.string en.path, .string en.text, .bool en.runs] 27)).alloc (.cells #[.slice none 0 0] 25)).frozen? ⟨w.heap.size + 1 + 1, 0, none⟩ = false := by simp [go_sem]
  have ks : w.heap.size + 1 + 1 < (((w.alloc (.cells #[.slice a ts.length cap] 25)).alloc (.cells #[.string en.path, .string en.text, .bool en.runs] 27)).alloc (.cells #[.slice none 0 0] 25)).heap.size := by simp [go_sem]
  go_enter Try.func5, Try.ntmps5
  go_wp2_with fail
  refine (grow_any a cap ts _ (hts.below hal) hn (fun e he => (hz e he).1)).mono ?_
  rintro e w1 ⟨hb1, hpost⟩
  generalize ((w.alloc (.cells #[.slice a ts.length cap] 25)).alloc (.cells #[.string en.path, .string en.text, .bool en.runs] 27)).alloc (.cells #[.slice none 0 0] 25) = w0 at *
  obtain ⟨g, hg⟩ : ∃ g, g = w.heap.size + 1 + 1 := ⟨_, rfl⟩
  obtain ⟨be, hbe⟩ : ∃ be, be = w.heap.size + 1 := ⟨_, rfl⟩
  rw [← hg] at k0 kf ks ⊢
  rw [← hbe] at e0 e1 e2 ⊢
  have hgw : w.heap.size ≤ g := by omega
  have hbg : be < g := by omega
  clear hg hbe
  replace k0 := cell_later hb1 k0
  replace kf : w1.frozen? ⟨g, 0, none⟩ = false := (hb1.frozen (p := ⟨g, 0, none⟩) ks).trans kf
  replace e0 := cell_later hb1 e0
  replace e1 := cell_later hb1 e1
  replace e2 := cell_later hb1 e2
  have ks1 : g < w1.heap.size := Nat.lt_of_lt_of_le ks hb1.size
  have hbw := hal.trans (hb1.mono hal.size)
  clear hb1 hal hts
  rcases hpost with ⟨hv, root, rfl, lo, N, β, μ, φ, hlo, hN, hT, hroot, hS⟩ | ⟨hv, rfl⟩
  · have hglo : g < lo := Nat.lt_of_lt_of_le ks hlo
    clear ks hlo
    go_wp2_with fail
    refine (isEntry_any en (by omega) w1).mono ?_
    rintro e w2 ⟨rfl, hb2⟩
    replace k0 := cell_later hb2 k0
    replace kf : w2.frozen? ⟨g, 0, none⟩ = false := (hb2.frozen (p := ⟨g, 0, none⟩) ks1).trans kf
    replace e0 := cell_later hb2 e0
    replace e1 := cell_later hb2 e1
    replace e2 := cell_later hb2 e2
    have ks2 : g < w2.heap.size := Nat.lt_of_lt_of_le ks1 hb2.size
    have hbw2 := hbw.trans (hb2.mono hbw.size)
    have hT2 := hT.below hb2
    clear hb2 hT hbw ks1
    cases hok : enOk en with
    | false =>
      go_wp2
      refine bodyPost_ret (v := TreeV none ([] : List En).length 0 2) ?_ rfl ⟨[], 2, .inr (.inl ⟨hv, hok, rfl, rfl⟩), ⟨none, 0, rfl, EL.nil _ _ _⟩, hbw2.setCell (p := ⟨g, 0, none⟩) hgw _⟩
      go_light
      simp [results, Try.results5, go_sem, TreeV, k0]
    | true =>
      have hpk : pathOk pathB en.path = true := by simp only [enOk, Bool.and_eq_true] at hok; exact hok.1
      have htx : en.text.size ≤ 1500 := (enOk_parts hok).2.2
      obtain ⟨h6, h126⟩ := parts6 hok
      have HG : Keep (GoodT 100 β (upd φ (partsB en.path) none)) := ⟨(good_of_shape hv hS).strike _⟩
      have HBL : Keep (Blocked β (upd φ (partsB en.path) none) (partsB en.path) ↔ InWay ts en) := ⟨blocked_set hS en⟩
      have HTS : Keep (∀ us, Told (upd (upd φ (partsB en.path) none) (partsB en.path) (some (en.text, en.runs))) [] [] [] us → SetRel ts en us) := ⟨fun us h => told_set hS h⟩
      have HFN : Keep (∀ q, φ q ≠ none → β q ≠ none) := ⟨hS.files_nodes⟩
      have hpos := path_pos hpk
      go_wp2_with fail
      refine (find_any lo N root w2 β μ φ hT2 hroot en.path (by omega)).mono ?_
      rintro e w3 ⟨rfl, hb3⟩
      replace k0 := cell_later hb3 k0
      replace kf : w3.frozen? ⟨g, 0, none⟩ = false := (hb3.frozen (p := ⟨g, 0, none⟩) ks2).trans kf
      replace e0 := cell_later hb3 e0
      replace e1 := cell_later hb3 e1
      replace e2 := cell_later hb3 e2
      have ks3 : g < w3.heap.size := Nat.lt_of_lt_of_le ks2 hb3.size
      have hbw3 := hbw2.trans (hb3.mono hbw2.size)
      have hT3 := hT2.below hb3
      clear hb3 hT2 hbw2 ks2 hS
      -- the old file is struck, if there is one; then on from there
      have hon : ∀ W, TreeM lo N W β μ (upd φ (partsB en.path) none) → W.cell? ⟨g, 0, none⟩ = some (.slice none 0 0) → W.frozen? ⟨g, 0, none⟩ = false → g < W.heap.size → Below w.heap.size w W → W.heap.size ≥ lo →
          Calls Try.prog 21 #[.pointer (some ⟨root, 0, none⟩), .agg #[.string en.path, .string en.text, .bool en.runs]] W fun e w' => ∃ bl : Bool, e = .returned (.bool bl) ∧ (bl = false ↔ InWay ts en) ∧ w'.cell? ⟨g, 0, none⟩ = some (.slice none 0 0) ∧ w'.frozen? ⟨g, 0, none⟩ = false ∧ g < w'.heap.size ∧ Below w.heap.size w w' ∧
            (bl = true → ∃ β' μ', TreeM lo (N + 6) w' β' μ' (upd (upd φ (partsB en.path) none) (partsB en.path) (some (en.text, en.runs))) ∧ β' [] = some root ∧ GoodT 101 β' (upd (upd φ (partsB en.path) none) (partsB en.path) (some (en.text, en.runs)))) := by
        intro W hTW hk0 hkf hks hbW hsz
        refine (lay_any lo N root W β μ _ hTW (fun q hq => HG.out.node q hq) hroot (by omega) en (by omega) hpos).mono ?_
        rintro e w' (⟨rfl, hnb, ⟨β', μ', hT', hgr, hr'⟩, hBT⟩ | ⟨rfl, hbl, _, hBT⟩)
        · have hB := hBT.below hTW hsz
          exact ⟨true, rfl, ⟨fun h => (by cases h), fun h => absurd (HBL.out.2 h) hnb⟩, (hB.cell (p := ⟨g, 0, none⟩) hglo).trans hk0, (hB.frozen (p := ⟨g, 0, none⟩) hglo).trans hkf, Nat.lt_of_lt_of_le hks hB.size, hbW.trans (hB.mono (by omega)),
            fun _ => ⟨β', μ', hT'.mono (by omega), hr'.trans hroot, HG.out.lay hpk htx hnb hgr⟩⟩
        · have hB := hBT.below hTW hsz
          exact ⟨false, rfl, ⟨fun _ => HBL.out.1 hbl, fun _ => rfl⟩, (hB.cell (p := ⟨g, 0, none⟩) hglo).trans hk0, (hB.frozen (p := ⟨g, 0, none⟩) hglo).trans hkf, Nat.lt_of_lt_of_le hks hB.size, hbW.trans (hB.mono (by omega)), fun h => by cases h⟩
      have hlw : lo ≤ w3.heap.size := by
        obtain ⟨h1, h2, _⟩ := hT3.node [] root hroot
        have := (Array.getElem?_eq_some_iff.1 h1).1
        omega
      cases hβ : β (partsB en.path) with
      | none =>
        have hφ : φ (partsB en.path) = none := by
          cases h : φ (partsB en.path) with
          | none => rfl
          | some f => exact absurd hβ (HFN.out _ (by rw [h]; simp))
        have hcall := hon w3 (by rw [upd_none hφ]; exact hT3) k0 kf ks3 hbw3 hlw
        unfold ptrV
        go_wp2_with fail
        refine hcall.mono ?_
        rintro e w5 ⟨bl, rfl, hbl, q0, qf, qs, hb5, htree⟩
        clear hcall hon k0 kf e0 e1 e2
        cases bl with
        | false =>
          have hway := hbl.1 rfl
          clear hbl htree
          go_wp2
          refine bodyPost_ret (v := TreeV none ([] : List En).length 0 3) ?_ rfl ⟨[], 3, .inr (.inr (.inl ⟨hv, hok, hway, rfl, rfl⟩)), ⟨none, 0, rfl, EL.nil _ _ _⟩, hb5.setCell (p := ⟨g, 0, none⟩) hgw _⟩
          go_light
          simp [results, Try.results5, go_sem, TreeV, q0]
        | true =>
          have hfree : ¬ InWay ts en := fun h => by have := hbl.2 h; cases this
          obtain ⟨β', μ', hT5, hr5, hG5⟩ := htree rfl
          have htc := tree_any lo (N + 6) 101 (by omega) (by omega) β' μ' _ hG5 root w5 hT5 hr5
          clear hbl htree hT5 hG5
          go_wp2_with fail
          refine htc.mono ?_
          rintro e w6 ⟨us, ht, hb6, hres⟩
          have hset := HTS.out us ht
          have hb56 := hb5.trans (hb6.mono hb5.size)
          replace q0 := cell_later hb6 q0
          replace qf : w6.frozen? ⟨g, 0, none⟩ = false := (hb6.frozen (p := ⟨g, 0, none⟩) qs).trans qf
          clear htc hb6 ht
          unfold TreeR TreeV at hres
          rcases hres with ⟨h100, ad, cap6, rfl, _⟩ | ⟨h100, ad, cap6, rfl, hel⟩
          · go_wp2
            refine bodyPost_ret (v := TreeV ad ([] : List En).length cap6 4) ?_ rfl ⟨[], 4, .inr (.inr (.inr ⟨hv, hok, hfree, us, hset, .inl ⟨h100, rfl, rfl⟩⟩)), ⟨ad, cap6, rfl, EL.nil _ _ _⟩, hb56.setCell (p := ⟨g, 0, none⟩) hgw _⟩
            go_light
            simp [results, Try.results5, go_sem, TreeV, q0]
          · have hel6 := (el_setP (u := .slice ad us.length cap6) hel qs).mono hb5.size
            clear hel
            go_wp2
            refine bodyPost_ret (v := TreeV ad us.length cap6 0) ?_ rfl ⟨us, 0, .inr (.inr (.inr ⟨hv, hok, hfree, us, hset, .inr ⟨h100, rfl, rfl⟩⟩)), ⟨ad, cap6, rfl, hel6⟩, hb56.setCell (p := ⟨g, 0, none⟩) hgw _⟩
            go_light
            simp [results, Try.results5, go_sem, TreeV, q0]
      | some b =>
        obtain ⟨hob, hlb, _, _⟩ := hT3.node _ b hβ
        obtain ⟨c0, _, cf, c1, c2⟩ := node_cells hob
        have ne1 : be ≠ b := by omega
        have ne2 : g ≠ b := by omega
        have hcall := hon (setN w3 b) (hT3.strike hβ) ((World.cell?_of_block (setN_other ne2)).trans k0) (frozen_block (setN_other ne2) kf) (by unfold setN; simpa using ks3) (setN_below hbw3 (by omega)) (by unfold setN; simpa using hlw)
        have e0' : (setN w3 b).cell? ⟨be, 0, none⟩ = some (.string en.path) := (World.cell?_of_block (setN_other ne1)).trans e0
        have e1' : (setN w3 b).cell? ⟨be, 1, none⟩ = some (.string en.text) := (World.cell?_of_block (setN_other ne1)).trans e1
        have e2' : (setN w3 b).cell? ⟨be, 2, none⟩ = some (.bool en.runs) := (World.cell?_of_block (setN_other ne1)).trans e2
        have ne3 : ¬ b = be := by omega
        clear hob hlb ne1 ne2
        unfold ptrV
        go_wp2_with fail
        refine hcall.mono ?_
        rintro e w5 ⟨bl, rfl, hbl, q0, qf, qs, hb5, htree⟩
        clear hcall hon k0 kf e0 e1 e2 e0' e1' e2' c0 c1 c2 cf
        cases bl with
        | false =>
          have hway := hbl.1 rfl
          clear hbl htree
          go_wp2
          refine bodyPost_ret (v := TreeV none ([] : List En).length 0 3) ?_ rfl ⟨[], 3, .inr (.inr (.inl ⟨hv, hok, hway, rfl, rfl⟩)), ⟨none, 0, rfl, EL.nil _ _ _⟩, hb5.setCell (p := ⟨g, 0, none⟩) hgw _⟩
          go_light
          simp [results, Try.results5, go_sem, TreeV, q0]
        | true =>
          have hfree : ¬ InWay ts en := fun h => by have := hbl.2 h; cases this
          obtain ⟨β', μ', hT5, hr5, hG5⟩ := htree rfl
          have htc := tree_any lo (N + 6) 101 (by omega) (by omega) β' μ' _ hG5 root w5 hT5 hr5
          clear hbl htree hT5 hG5
          go_wp2_with fail
          refine htc.mono ?_
          rintro e w6 ⟨us, ht, hb6, hres⟩
          have hset := HTS.out us ht
          have hb56 := hb5.trans (hb6.mono hb5.size)
          replace q0 := cell_later hb6 q0
          replace qf : w6.frozen? ⟨g, 0, none⟩ = false := (hb6.frozen (p := ⟨g, 0, none⟩) qs).trans qf
          clear htc hb6 ht
          unfold TreeR TreeV at hres
          rcases hres with ⟨h100, ad, cap6, rfl, _⟩ | ⟨h100, ad, cap6, rfl, hel⟩
          · go_wp2
            refine bodyPost_ret (v := TreeV ad ([] : List En).length cap6 4) ?_ rfl ⟨[], 4, .inr (.inr (.inr ⟨hv, hok, hfree, us, hset, .inl ⟨h100, rfl, rfl⟩⟩)), ⟨ad, cap6, rfl, EL.nil _ _ _⟩, hb56.setCell (p := ⟨g, 0, none⟩) hgw _⟩
            go_light
            simp [results, Try.results5, go_sem, TreeV, q0]
          · have hel6 := (el_setP (u := .slice ad us.length cap6) hel qs).mono hb5.size
            clear hel
            go_wp2
            refine bodyPost_ret (v := TreeV ad us.length cap6 0) ?_ rfl ⟨us, 0, .inr (.inr (.inr ⟨hv, hok, hfree, us, hset, .inr ⟨h100, rfl, rfl⟩⟩)), ⟨ad, cap6, rfl, hel6⟩, hb56.setCell (p := ⟨g, 0, none⟩) hgw _⟩
            go_light
            simp [results, Try.results5, go_sem, TreeV, q0]
  · go_wp2
    refine bodyPost_ret (v := TreeV none ([] : List En).length 0 1) ?_ rfl ⟨[], 1, .inl ⟨hv, rfl, rfl⟩, ⟨none, 0, rfl, EL.nil _ _ _⟩, hbw.setCell (p := ⟨g, 0, none⟩) hgw _⟩
    go_light
    simp [results, Try.results5, go_sem, TreeV, k0]
end Go.Proofs.Ytmejaaegojilcaa

namespace Go.Proofs.Ytmejaaegojilcaa
open Go.RowKit

/-- What Get gives. -/
def Got (ts : List En) (p : ByteArray) (o : Option En) : Prop :=
  (ValidTs ts ∧ ∃ e ∈ ts, e.path = p ∧ o = some e) ∨ ((¬ ValidTs ts ∨ ∀ e ∈ ts, e.path ≠ p) ∧ o = none)

def entV : Option En → Value
  | some e => .agg #[.string e.path, .string e.text, .bool e.runs]
  | none => .agg #[.string ⟨#[]⟩, .string ⟨#[]⟩, .bool false]

theorem path_once {ts : List En} (h : ValidTs ts) {e e' : En} (he : e ∈ ts) (he' : e' ∈ ts) (hp : e.path = e'.path) : e = e' := by
  obtain ⟨i, hi, rfl⟩ := List.getElem_of_mem he
  obtain ⟨j, hj, rfl⟩ := List.getElem_of_mem he'
  have key : ∀ i j (hi : i < ts.length) (hj : j < ts.length), ts[i].path = ts[j].path → ¬ j < i := fun i j hi hj hp hlt => by
    have := asc h.2 i hi j hlt hi hj
    rw [hp, less_irrefl] at this
    cases this
  have h1 := key i j hi hj hp
  have h2 := key j i hj hi hp.symm
  obtain rfl : i = j := by omega
  rfl

theorem got_one {ts : List En} {p : ByteArray} {o o' : Option En} (h : Got ts p o) (h' : Got ts p o') : o = o' := by
  rcases h with ⟨hv, e, he, hp, rfl⟩ | ⟨hn, rfl⟩ <;> rcases h' with ⟨hv', e', he', hp', rfl⟩ | ⟨hn', rfl⟩
  · rw [path_once hv he he' (hp.trans hp'.symm)]
  · rcases hn' with hn' | hn'
    · exact absurd hv hn'
    · exact absurd hp (hn' e he)
  · rcases hn with hn | hn
    · exact absurd hv' hn
    · exact absurd hp' (hn e' he')
  · rfl

def GetPost (ts : List En) (p : ByteArray) (w : World) (e : Ending) (w' : World) : Prop :=
  ∃ o, Got ts p o ∧ e = .returned (.tuple #[entV o, .bool o.isSome]) ∧ Below w.heap.size w w'

/-- Three cells of an entry that is written whole. -/
def Ent3 (W : World) (g : Nat) (e : Option En) : Prop :=
  W.cell? ⟨g, 0, none⟩ = some (.string ((e.map (·.path)).getD ⟨#[]⟩)) ∧ W.cell? ⟨g, 1, none⟩ = some (.string ((e.map (·.text)).getD ⟨#[]⟩)) ∧ W.cell? ⟨g, 2, none⟩ = some (.bool ((e.map (·.runs)).getD false)) ∧ ∀ j, W.frozen? ⟨g, j, none⟩ = false

theorem beq_str {a b : ByteArray} : (a.toList == b.toList) = true ↔ a = b := by
  rw [beq_iff_eq, Lib.toList_data, Lib.toList_data]
  exact ⟨fun h => WideShapes.bytes_inj h, fun h => by rw [h]⟩

end Go.Proofs.Ytmejaaegojilcaa

namespace Go.Proofs.Ytmejaaegojilcaa
open Go.RowKit

theorem got_find {ts : List En} {β : Way → Option Nat} {φ : Way → Option (ByteArray × Bool)} (hv : ValidTs ts) (hS : Shape ts β φ) {p t : ByteArray} {r : Bool} (h : φ (partsB p) = some (t, r)) : Got ts p (some ⟨p, t, r⟩) := by
  obtain ⟨e, he, hp⟩ := (hS.files (partsB p)).1 (by rw [h]; simp)
  have h2 := hS.vals e he
  rw [hp, h] at h2
  injection h2 with h2
  injection h2 with h3 h4
  refine .inl ⟨hv, e, he, partsB_inj hp, ?_⟩
  rw [h3, h4, ← partsB_inj hp]
theorem got_none {ts : List En} {β : Way → Option Nat} {φ : Way → Option (ByteArray × Bool)} (hS : Shape ts β φ) {p : ByteArray} (h : φ (partsB p) = none) : Got ts p none := by
  refine .inr ⟨.inr fun e he hp => ?_, rfl⟩
  have := hS.vals e he
  rw [hp, h] at this
  cases this

set_option maxRecDepth 100000 in
set_option maxHeartbeats 4000000 in
theorem implGet_any (a : Option Addr) (cap : Nat) (ts : List En) (p : ByteArray) (w : World) (hts : ES w a ts) (hn : ts.length ≤ 1048576) (hz : ∀ e ∈ ts, e.path.size ≤ 1048576 ∧ e.text.size ≤ 1048576) (hp : p.size ≤ 1048576) :
    Calls Try.prog 8 #[.agg #[.slice a ts.length cap], .string p] w fun e w' => GetPost ts p w e w' := by
  have hal : Below w.heap.size w ((w.alloc (.cells #[.slice a ts.length cap] 25)).alloc (.cells #[.string ⟨#[]⟩, .string ⟨#[]⟩, .bool false] 27)) := ((Below.refl _ _).alloc (Nat.le_refl _) _).alloc (by simp) _
  have k0 : ((w.alloc (.cells #[.slice a ts.length cap] 25)).alloc (.cells #[.string ⟨#[]⟩, .string ⟨#[]⟩, .bool false] 27)).cell? ⟨w.heap.size + 1, 0, none⟩ = some (.string ⟨#[]⟩) := by simp
  have k1 : ((w.alloc (.cells #[.slice a ts.length cap] 25)).alloc (.cells #[.string ⟨#[]⟩, .string ⟨#[]⟩, .bool false] 27)).cell? ⟨w.heap.size + 1, 1, none⟩ = some (.string ⟨#[]⟩) := by simp
  have k2 : ((w.alloc (.cells #[.slice a ts.length cap] 25)).alloc (.cells #[.string ⟨#[]⟩, .string ⟨#[]⟩, .bool false] 27)).cell? ⟨w.heap.size + 1, 2, none⟩ = some (.bool false) := by simp
  have kf : ∀ j, ((w.alloc (.cells #[.slice a ts.length cap] 25)).alloc (.cells #[.string ⟨#[]⟩, .string ⟨#[]⟩, .bool false] 27)).frozen? ⟨w.heap.size + 1, j, none⟩ = false := fun j => by simp
  have ks : w.heap.size + 1 < ((w.alloc (.cells #[.slice a ts.length cap] 25)).alloc (.cells #[.string ⟨#[]⟩, .string ⟨#[]⟩, .bool false] 27)).heap.size := by simp
  go_enter Try.func8, Try.ntmps8
  go_wp2_with fail
  refine (grow_any a cap ts _ (hts.below hal) hn (fun e he => (hz e he).1)).mono ?_
  rintro e w1 ⟨hb1, hpost⟩
  replace k0 := cell_later hb1 k0
  replace k1 := cell_later hb1 k1
  replace k2 := cell_later hb1 k2
  replace kf : ∀ j, w1.frozen? ⟨w.heap.size + 1, j, none⟩ = false := fun j => (hb1.frozen (p := ⟨w.heap.size + 1, j, none⟩) ks).trans (kf j)
  have ks1 : w.heap.size + 1 < w1.heap.size := Nat.lt_of_lt_of_le ks hb1.size
  have hbw := hal.trans (hb1.mono hal.size)
  clear hb1 hal hts
  generalize hg : w.heap.size + 1 = g at *
  have hgw : w.heap.size ≤ g := by omega
  clear hg
  rcases hpost with ⟨hv, root, rfl, lo, N, β, μ, φ, hlo, hN, hT, hroot, hS⟩ | ⟨hv, rfl⟩
  · go_wp2_with fail
    refine (find_any lo N root w1 β μ φ hT hroot p (by omega)).mono ?_
    rintro e w2 ⟨rfl, hb2⟩
    replace k0 := cell_later hb2 k0
    replace k1 := cell_later hb2 k1
    replace k2 := cell_later hb2 k2
    replace kf : ∀ j, w2.frozen? ⟨g, j, none⟩ = false := fun j => (hb2.frozen (p := ⟨g, j, none⟩) ks1).trans (kf j)
    have ks2 : g < w2.heap.size := Nat.lt_of_lt_of_le ks1 hb2.size
    have hbw2 := hbw.trans (hb2.mono hbw.size)
    have hT2 := hT.below hb2
    clear hb2 hT hbw
    cases hβ : β (partsB p) with
    | none =>
      have hφ : φ (partsB p) = none := by
        cases h : φ (partsB p) with
        | none => rfl
        | some f => exact absurd hβ (hS.files_nodes _ (by rw [h]; simp))
      unfold ptrV
      go_wp2
      refine bodyPost_ret (v := .tuple #[entV none, .bool false]) ?_ rfl ⟨none, got_none hS hφ, rfl, ?_⟩
      · go_light
        simp [results, Try.results8, go_sem, entV, k0, k1, k2]
      · exact ((hbw2.setCell (p := ⟨g, 0, none⟩) hgw _).setCell (p := ⟨g, 1, none⟩) hgw _).setCell (p := ⟨g, 2, none⟩) hgw _
    | some b =>
      obtain ⟨hob, _, _, _⟩ := hT2.node _ b hβ
      obtain ⟨c0, _, _, c1, c2⟩ := node_cells hob
      cases hφ : φ (partsB p) with
      | none =>
        rw [hφ] at c0
        unfold ptrV
        go_wp2
        refine bodyPost_ret (v := .tuple #[entV none, .bool false]) ?_ rfl ⟨none, got_none hS hφ, rfl, ?_⟩
        · go_light
          simp [results, Try.results8, go_sem, entV, k0, k1, k2]
        · exact ((hbw2.setCell (p := ⟨g, 0, none⟩) hgw _).setCell (p := ⟨g, 1, none⟩) hgw _).setCell (p := ⟨g, 2, none⟩) hgw _
      | some f =>
        obtain ⟨t, r⟩ := f
        have hgot := got_find hv hS hφ
        have htz : t.size ≤ 1048576 := by
          rcases hgot with ⟨_, e, he, _, h2⟩ | ⟨_, h2⟩
          · injection h2 with h2
            have := (hz e he).2
            rw [← h2] at this
            exact this
          · cases h2
        rw [hφ] at c0 c1 c2
        simp only [Option.map_some, Option.getD_some, Option.isSome_some] at c0 c1 c2
        unfold ptrV
        go_wp2_with fail
        refine (entry_any p t r w2 (by omega) (by omega)).mono ?_
        rintro e w3 ⟨rfl, hb3⟩
        replace k0 := cell_later hb3 k0
        replace k1 := cell_later hb3 k1
        replace k2 := cell_later hb3 k2
        replace kf : ∀ j, w3.frozen? ⟨g, j, none⟩ = false := fun j => (hb3.frozen (p := ⟨g, j, none⟩) ks2).trans (kf j)
        have hbw3 := hbw2.trans (hb3.mono hbw2.size)
        go_wp2
        refine bodyPost_ret (v := .tuple #[entV (some ⟨p, t, r⟩), .bool true]) ?_ rfl ⟨some ⟨p, t, r⟩, hgot, rfl, ?_⟩
        · go_light
          simp [results, Try.results8, go_sem, entV, k0, k1, k2]
        · exact ((hbw3.setCell (p := ⟨g, 0, none⟩) hgw _).setCell (p := ⟨g, 1, none⟩) hgw _).setCell (p := ⟨g, 2, none⟩) hgw _
  · go_wp2
    refine bodyPost_ret (v := .tuple #[entV none, .bool false]) ?_ rfl ⟨none, .inr ⟨.inl hv, rfl⟩, rfl, ?_⟩
    · go_light
      simp [results, Try.results8, go_sem, entV, k0, k1, k2]
    · exact ((hbw.setCell (p := ⟨g, 0, none⟩) hgw _).setCell (p := ⟨g, 1, none⟩) hgw _).setCell (p := ⟨g, 2, none⟩) hgw _
end Go.Proofs.Ytmejaaegojilcaa

namespace Go.Proofs.Ytmejaaegojilcaa
open Go.RowKit

theorem got_mem {us : List En} {x : En} {o : Option En} (hv : ValidTs us) (hx : x ∈ us) (h : Got us x.path o) : o = some x := by
  rcases h with ⟨_, e, he, hp, rfl⟩ | ⟨hn | hn, _⟩
  · rw [path_once hv he hx hp]
  · exact absurd hv hn
  · exact absurd rfl (hn x hx)
theorem tiny_ok {P T : Nat} {ts : List En} (h : Tiny P T ts) (hP : P ≤ 1048576) (hT : T ≤ 1048576) : ∀ e ∈ ts, e.path.size ≤ 1048576 ∧ e.text.size ≤ 1048576 := fun e he => ⟨Nat.le_trans (h e he).1 hP, Nat.le_trans (h e he).2 hT⟩

/-- A read entry: its box and whether it is there. -/
def CutG (us : List En) (p : ByteArray) (W1 : World) (pv cc : Value) (W : World) : Prop :=
  ∃ fb o, pv = .pointer (some ⟨fb, 0, none⟩) ∧ cc = .bool (Option.isSome o) ∧ Got us p o ∧ EBx fb (Option.getD o ⟨⟨#[]⟩, ⟨#[]⟩, false⟩) W ∧ Below W1.heap.size W1 W

def noEn : En := ⟨⟨#[]⟩, ⟨#[]⟩, false⟩
theorem entV_getD (o : Option En) : entV o = .agg #[.string (o.getD noEn).path, .string (o.getD noEn).text, .bool (o.getD noEn).runs] := by cases o <;> rfl
theorem newE {Y X : World} {t : TypeId} (h : Below (Y.alloc (.cells #[.string ⟨#[]⟩, .string ⟨#[]⟩, .bool false] t)).drew.heap.size (Y.alloc (.cells #[.string ⟨#[]⟩, .string ⟨#[]⟩, .bool false] t)).drew X) : EBx Y.heap.size noEn X :=
  EBx.later (W := (Y.alloc (.cells #[.string ⟨#[]⟩, .string ⟨#[]⟩, .bool false] t)).drew) ⟨by simp [noEn], by simp [noEn], by simp [noEn], fun j => by simp⟩ h
theorem cutG_mk {us : List En} {p : ByteArray} {W1 W : World} {o : Option En} {f : En} (hf : f = o.getD noEn) (hg : Got us p o) (hb : Below W1.heap.size W1 W) : CutG us p W1 (.pointer (some ⟨W.heap.size, 0, none⟩)) (.bool o.isSome) (W.alloc (.cells #[.string f.path, .string f.text, .bool f.runs] 27)) :=
  ⟨_, o, rfl, rfl, hg, by rw [show o.getD ⟨⟨#[]⟩, ⟨#[]⟩, false⟩ = f from hf.symm]; exact ⟨by simp, by simp, by simp, fun j => by simp⟩, hb.alloc hb.size _⟩
theorem cutG_mk' {us : List En} {p : ByteArray} {W1 W : World} {o : Option En} {f : En} {fb : Nat} (hf : f = o.getD noEn) (hg : Got us p o) (hb : Below W1.heap.size W1 W) (hn : EBx fb noEn W) (hl : W1.heap.size ≤ fb) : CutG us p W1 (.pointer (some ⟨fb, 0, none⟩)) (.bool o.isSome) (((W.setCell ⟨fb, 0, none⟩ (.string f.path)).setCell ⟨fb, 1, none⟩ (.string f.text)).setCell ⟨fb, 2, none⟩ (.bool f.runs)) := by
  have h1 := hn.path f.path
  have h2 := h1.txt f.text
  refine ⟨fb, o, rfl, rfl, hg, ?_, ((hb.setCell (p := ⟨fb, 0, none⟩) hl _).setCell (p := ⟨fb, 1, none⟩) hl _).setCell (p := ⟨fb, 2, none⟩) hl _⟩
  rw [show o.getD ⟨⟨#[]⟩, ⟨#[]⟩, false⟩ = f from hf.symm]
  exact ⟨(World.cell?_setCell_other _ _ _ _ (by simp)).trans h2.c0, (World.cell?_setCell_other _ _ _ _ (by simp)).trans h2.c1, World.cell?_setCell_same _ _ _ h2.c2, fun j => (World.frozen?_setCell _ _ _ _).trans (h2.fz j)⟩
end Go.Proofs.Ytmejaaegojilcaa

namespace Go.Proofs.Ytmejaaegojilcaa
open Go.RowKit

/-- What Remove gives. -/
def Rem (ts : List En) (p : ByteArray) (us : List En) (c : Int) : Prop :=
  (¬ ValidTs ts ∧ us = [] ∧ c = 1) ∨ (ValidTs ts ∧ (∀ e ∈ ts, e.path ≠ p) ∧ us = [] ∧ c = 4) ∨ (ValidTs ts ∧ (∃ e ∈ ts, e.path = p) ∧ us = without ts p ∧ c = 0)

theorem rem_one {ts : List En} {p : ByteArray} {us us' : List En} {c c' : Int} (h : Rem ts p us c) (h' : Rem ts p us' c') : us = us' ∧ c = c' := by
  rcases h with ⟨h1, rfl, rfl⟩ | ⟨h1, h2, rfl, rfl⟩ | ⟨h1, ⟨e, he, hp⟩, rfl, rfl⟩ <;> rcases h' with ⟨g1, rfl, rfl⟩ | ⟨g1, g2, rfl, rfl⟩ | ⟨g1, ⟨e', he', hp'⟩, rfl, rfl⟩
  · exact ⟨rfl, rfl⟩
  · exact absurd g1 h1
  · exact absurd g1 h1
  · exact absurd h1 g1
  · exact ⟨rfl, rfl⟩
  · exact absurd hp' (h2 e' he')
  · exact absurd h1 g1
  · exact absurd hp (g2 e he)
  · exact ⟨rfl, rfl⟩

def RemPost (ts : List En) (p : ByteArray) (w : World) (e : Ending) (w' : World) : Prop := ∃ us c, Rem ts p us c ∧ TreeR us c w.heap.size e w' ∧ Below w.heap.size w w'

end Go.Proofs.Ytmejaaegojilcaa

namespace Go.Proofs.Ytmejaaegojilcaa
open Go.RowKit

theorem file_in {ts : List En} {β : Way → Option Nat} {φ : Way → Option (ByteArray × Bool)} (hS : Shape ts β φ) {p : ByteArray} : φ (partsB p) ≠ none ↔ ∃ e ∈ ts, e.path = p := by
  rw [hS.files]
  exact ⟨fun ⟨e, he, hp⟩ => ⟨e, he, partsB_inj hp⟩, fun ⟨e, he, hp⟩ => ⟨e, he, by rw [hp]⟩⟩

theorem el_set {B g : Nat} {w : World} {a : Option Addr} {ts : List En} {u : Value} (h : EL B w a ts) (hg : g < B) : EL B (w.setCell ⟨g, 0, none⟩ u) a ts :=
  h.grown (row := some g) ⟨rfl, rfl, rfl, by simp, fun k _ hk => Below.heap_setCell _ _ _ _ (fun e => hk (by rw [e]))⟩ (fun k _ hk _ e => by cases e; omega)

set_option maxRecDepth 100000 in
set_option maxHeartbeats 4000000 in
theorem implRem_any (a : Option Addr) (cap : Nat) (ts : List En) (p : ByteArray) (w : World) (hts : ES w a ts) (hn : ts.length ≤ 1048576) (hz : ∀ e ∈ ts, e.path.size ≤ 1048576 ∧ e.text.size ≤ 1048576) (hp : p.size ≤ 1048576) :
    Calls Try.prog 10 #[.agg #[.slice a ts.length cap], .string p] w fun e w' => RemPost ts p w e w' := by
  have hal : Below w.heap.size w ((w.alloc (.cells #[.slice a ts.length cap] 25)).alloc (.cells #[.slice none 0 0] 25)) := ((Below.refl _ _).alloc (Nat.le_refl _) _).alloc (by simp) _
  have k0 : ((w.alloc (.cells #[.slice a ts.length cap] 25)).alloc (.cells #[.slice none 0 0] 25)).cell? ⟨w.heap.size + 1, 0, none⟩ = some (.slice none 0 0) := by simp
  have kf : ((w.alloc (.cells #[.slice a ts.length cap] 25)).alloc (.cells #[.slice none 0 0] 25)).frozen? ⟨w.heap.size + 1, 0, none⟩ = false := by simp
  have ks : w.heap.size + 1 < ((w.alloc (.cells #[.slice a ts.length cap] 25)).alloc (.cells #[.slice none 0 0] 25)).heap.size := by simp
  go_enter Try.func10, Try.ntmps10
  go_wp2_with fail
  refine (grow_any a cap ts _ (hts.below hal) hn (fun e he => (hz e he).1)).mono ?_
  rintro e w1 ⟨hb1, hpost⟩
  replace k0 := cell_later hb1 k0
  replace kf : w1.frozen? ⟨w.heap.size + 1, 0, none⟩ = false := (hb1.frozen (p := ⟨w.heap.size + 1, 0, none⟩) ks).trans kf
  have ks1 : w.heap.size + 1 < w1.heap.size := Nat.lt_of_lt_of_le ks hb1.size
  have hbw := hal.trans (hb1.mono hal.size)
  clear hb1 hal hts
  generalize hg : w.heap.size + 1 = g at *
  have hgw : w.heap.size ≤ g := by omega
  clear hg
  rcases hpost with ⟨hv, root, rfl, lo, N, β, μ, φ, hlo, hN, hT, hroot, hS⟩ | ⟨hv, rfl⟩
  · have hglo : g < lo := Nat.lt_of_lt_of_le ks hlo
    clear ks hlo
    go_wp2_with fail
    refine (find_any lo N root w1 β μ φ hT hroot p (by omega)).mono ?_
    rintro e w2 ⟨rfl, hb2⟩
    replace k0 := cell_later hb2 k0
    replace kf : w2.frozen? ⟨g, 0, none⟩ = false := (hb2.frozen (p := ⟨g, 0, none⟩) ks1).trans kf
    have ks2 : g < w2.heap.size := Nat.lt_of_lt_of_le ks1 hb2.size
    have hbw2 := hbw.trans (hb2.mono hbw.size)
    have hT2 := hT.below hb2
    clear hb2 hT hbw ks1
    cases hβ : β (partsB p) with
    | none =>
      have hφ : φ (partsB p) = none := by
        cases h : φ (partsB p) with
        | none => rfl
        | some f => exact absurd hβ (hS.files_nodes _ (by rw [h]; simp))
      have hno : ∀ e ∈ ts, e.path ≠ p := fun e he hpe => absurd hφ ((file_in hS).2 ⟨e, he, hpe⟩)
      unfold ptrV
      go_wp2
      refine bodyPost_ret (v := TreeV none ([] : List En).length 0 4) ?_ rfl ⟨[], 4, .inr (.inl ⟨hv, hno, rfl, rfl⟩), ⟨none, 0, rfl, EL.nil _ _ _⟩, hbw2.setCell (p := ⟨g, 0, none⟩) hgw _⟩
      go_light
      simp [results, Try.results10, go_sem, TreeV, k0]
    | some b =>
      obtain ⟨hob, hlb, _, _⟩ := hT2.node _ b hβ
      obtain ⟨c0, _, cf, c1, c2⟩ := node_cells hob
      cases hφ : φ (partsB p) with
      | none =>
        rw [hφ] at c0
        have hno : ∀ e ∈ ts, e.path ≠ p := fun e he hpe => absurd hφ ((file_in hS).2 ⟨e, he, hpe⟩)
        unfold ptrV
        go_wp2
        refine bodyPost_ret (v := TreeV none ([] : List En).length 0 4) ?_ rfl ⟨[], 4, .inr (.inl ⟨hv, hno, rfl, rfl⟩), ⟨none, 0, rfl, EL.nil _ _ _⟩, hbw2.setCell (p := ⟨g, 0, none⟩) hgw _⟩
        go_light
        simp [results, Try.results10, go_sem, TreeV, k0]
      | some f =>
        have hyes : ∃ e ∈ ts, e.path = p := (file_in hS).1 (by rw [hφ]; simp)
        have hG := (good_of_shape hv hS).strike (partsB p)
        have hT3 := hT2.strike hβ
        have hbw3 := setN_below hbw2 (show w.heap.size ≤ b by omega)
        have k0' : (setN w2 b).cell? ⟨g, 0, none⟩ = some (.slice none 0 0) := (World.cell?_of_block (setN_other (show g ≠ b by omega))).trans k0
        have kf' : (setN w2 b).frozen? ⟨g, 0, none⟩ = false := by unfold setN; rw [World.frozen?_setCell, World.frozen?_setCell, World.frozen?_setCell]; exact kf
        have ks3 : g < (setN w2 b).heap.size := by unfold setN; simpa using ks2
        have hcall := tree_any lo N 100 (by omega) (by omega) β μ _ hG root (setN w2 b) hT3 hroot
        rw [hφ] at c0
        have HW : Keep (∀ us, Told (upd φ (partsB p) none) [] [] [] us → us = without ts p) := ⟨fun us h => told_without hv hS h⟩
        have HL : Keep ((without ts p).length ≤ 100) := ⟨Nat.le_trans (List.length_filter_le _ _) hv.1⟩
        clear hS hT2 hT3 hG hob hbw2 hlb
        unfold ptrV
        go_wp2_with fail
        refine hcall.mono ?_
        rintro e w4 ⟨us, ht, hb4, hres⟩
        obtain rfl := HW.out us ht
        rcases hres with ⟨h, _⟩ | ⟨_, ad, cap4, rfl, hel⟩
        · have := HL.out; omega
        replace k0' := cell_later hb4 k0'
        replace kf' : w4.frozen? ⟨g, 0, none⟩ = false := (hb4.frozen (p := ⟨g, 0, none⟩) ks3).trans kf'
        have hbw4 := hbw3.trans (hb4.mono hbw3.size)
        have hel4 := (el_set (u := .slice ad (without ts p).length cap4) hel ks3).mono hbw3.size
        clear hb4 hcall k0 kf c0 c1 c2 cf ht hel
        unfold TreeV
        go_wp2
        refine bodyPost_ret (v := TreeV ad (without ts p).length cap4 0) ?_ rfl ⟨_, 0, .inr (.inr ⟨hv, hyes, rfl, rfl⟩), ⟨ad, cap4, rfl, hel4⟩, hbw4.setCell (p := ⟨g, 0, none⟩) hgw _⟩
        go_light
        simp [results, Try.results10, go_sem, TreeV, k0']
  · go_wp2
    refine bodyPost_ret (v := TreeV none ([] : List En).length 0 1) ?_ rfl ⟨[], 1, .inl ⟨hv, rfl, rfl⟩, ⟨none, 0, rfl, EL.nil _ _ _⟩, hbw.setCell (p := ⟨g, 0, none⟩) hgw _⟩
    go_light
    simp [results, Try.results10, go_sem, TreeV, k0]
end Go.Proofs.Ytmejaaegojilcaa

namespace Go.Proofs.Ytmejaaegojilcaa
open Go.RowKit

set_option maxHeartbeats 1000000 in
theorem implTree_any (a : Option Addr) (cap : Nat) (ts : List En) (w : World) (hts : ES w a ts) (hn : ts.length ≤ 1048576) (hz : ∀ e ∈ ts, e.path.size ≤ 1048576) :
    Calls Try.prog 9 #[.agg #[.slice a ts.length cap]] w fun e w' => ∃ bl : Bool, e = .returned (.bool bl) ∧ (bl = true ↔ ValidTs ts) ∧ Below w.heap.size w w' := by
  have hal : Below w.heap.size w (w.alloc (.cells #[.slice a ts.length cap] 25)) := (Below.refl _ _).alloc (Nat.le_refl _) _
  go_enter Try.func9, Try.ntmps9
  go_wp2_with fail
  refine (grow_any a cap ts _ (hts.below hal) hn hz).mono ?_
  rintro e w1 ⟨hb, ⟨hv, root, rfl, _⟩ | ⟨hv, rfl⟩⟩
  · go_wp2
    go_ret
    exact ⟨true, rfl, ⟨fun _ => hv, fun _ => rfl⟩, hal.trans (hb.mono hal.size)⟩
  · go_wp2
    go_ret
    exact ⟨false, rfl, ⟨fun h => (by cases h), fun h => absurd h hv⟩, hal.trans (hb.mono hal.size)⟩
end Go.Proofs.Ytmejaaegojilcaa

namespace Go.Proofs.Ytmejaaegojilcaa
open Go.RowKit

/-- A tree in a box. -/
structure TBx (b : Nat) (ad : Option Addr) (cp : Nat) (ts : List En) (W : World) : Prop where
  c : W.cell? ⟨b, 0, none⟩ = some (.slice ad ts.length cp)
  es : ES W ad ts
theorem TBx.later {b : Nat} {ad : Option Addr} {cp : Nat} {ts : List En} {W W' : World} (h : TBx b ad cp ts W) (hb : Below W.heap.size W W') : TBx b ad cp ts W' := ⟨cell_later hb h.c, h.es.below hb⟩
theorem TBx.new {ad : Option Addr} {cp : Nat} {ts : List En} {W : World} (h : ES W ad ts) : TBx W.heap.size ad cp ts (W.alloc (.cells #[.slice ad ts.length cp] 25)) := ⟨by simp, h.below (below_oneD _ _)⟩

set_option maxRecDepth 20000 in
set_option maxHeartbeats 2000000 in
theorem wTree_any (a b : Option Addr) (ca cb : Nat) (ts : List En) (w : World) (ha : ES w a ts) (hb : ES w b ts) (hn : ts.length ≤ 1048576) :
    Calls Try.prog 7 #[.agg #[.slice a ts.length ca], .agg #[.slice b ts.length cb]] w fun e w' => e = .returned (.bool true) ∧ Below w.heap.size w w' := by
  have hal : Below w.heap.size w ((w.alloc (.cells #[.slice a ts.length ca] 25)).alloc (.cells #[.slice b ts.length cb] 25)) := ((Below.refl _ _).alloc (Nat.le_refl _) _).alloc (by simp) _
  have m0 : ((w.alloc (.cells #[.slice a ts.length ca] 25)).alloc (.cells #[.slice b ts.length cb] 25)).cell? ⟨w.heap.size, 0, none⟩ = some (.slice a ts.length ca) := by simp [go_sem]
  have n0 : ((w.alloc (.cells #[.slice a ts.length ca] 25)).alloc (.cells #[.slice b ts.length cb] 25)).cell? ⟨w.heap.size + 1, 0, none⟩ = some (.slice b ts.length cb) := by simp [go_sem]
  go_enter Try.func7, Try.ntmps7
  go_wp2
  generalize (w.alloc (.cells #[.slice a ts.length ca] 25)).alloc (.cells #[.slice b ts.length cb] 25) = W0 at *
  go_loopw [5] (fun i wr => ∃ k : Nat, i = .int .i64 k ∧ k ≤ ts.length ∧ Below W0.heap.size W0 wr) (fun i _ => ts.length - (intOf i).toNat)
  case atStart => exact ⟨0, rfl, Nat.zero_le _, Below.refl _ _⟩
  case round =>
    obtain ⟨k, rfl, hk, hB⟩ := hrel
    have M := cell_later hB m0
    have N := cell_later hB n0
    have hBw := hal.trans (hB.mono hal.size)
    by_cases hlt : k < ts.length
    · have hlt' : (k : Int) < ts.length := by omega
      obtain ⟨b1, o1, rfl, h1⟩ := (ha.below hBw).at hlt
      obtain ⟨b2, o2, rfl, h2⟩ := (hb.below hBw).at hlt
      obtain ⟨x0, x1, x2⟩ := h1 k hlt
      obtain ⟨y0, y1, y2⟩ := h2 k hlt
      clear h1 h2
      go_wp2
      go_quiet (fail)
      go_wp2
      go_roundw
      case rel => exact ⟨k + 1, by congr 1, hlt, below_drewN hB _⟩
      case measure => simp only [intOf]; omega
    · obtain rfl : k = ts.length := by omega
      go_wp2
      go_ret
      exact ⟨rfl, hBw⟩
end Go.Proofs.Ytmejaaegojilcaa

namespace Go.Proofs.Ytmejaaegojilcaa
open Go.RowKit

theorem put_none {ts : List En} {e : En} {us : List En} {c : Int} (h : PutR ts e us c) (hc : c ≠ 0) : us = [] := by
  rcases h with ⟨_, rfl, _⟩ | ⟨_, _, rfl, _⟩ | ⟨_, _, _, rfl, _⟩ | ⟨_, _, _, vs, _, ⟨_, rfl, _⟩ | ⟨_, _, rfl⟩⟩
  · rfl
  · rfl
  · rfl
  · rfl
  · exact absurd rfl hc
theorem put_zero {ts : List En} {e : En} {us : List En} (h : PutR ts e us 0) : ValidTs ts ∧ enOk e = true ∧ ¬ InWay ts e ∧ SetRel ts e us ∧ us.length ≤ 100 := by
  rcases h with ⟨_, _, h⟩ | ⟨_, _, _, h⟩ | ⟨_, _, _, _, h⟩ | ⟨h1, h2, h3, vs, h4, ⟨_, _, h⟩ | ⟨h5, rfl, _⟩⟩
  · cases h
  · cases h
  · cases h
  · cases h
  · exact ⟨h1, h2, h3, h4, h5⟩
set_option maxRecDepth 100000 in
set_option maxHeartbeats 16000000 in
theorem trees_walk (a : Option Addr) (cap : Nat) (zs : List Int) (w : World) (hc : Code0 w a cap zs) :
    Calls Try.prog 3 #[.slice a zs.length cap] w fun e w' => e = .returned (.bool true) ∧ Below w.heap.size w w' := by
  by_cases hbig : (1048576 : Int) < zs.length
  · go_enter Try.func3, Try.ntmps3
    go_wp2
    go_ret
    exact ⟨rfl, Below.refl _ _⟩
  go_enter Try.func3, Try.ntmps3
  go_wp2_with fail
  refine (drawPut_any a cap zs w hc).mono ?_
  rintro e w1 ⟨ad, cp, ts, en, rfl, hes, hn, hT, hTe, hb1⟩
  have hen := hTe en (by simp)
  clear hTe
  have ba1 := below_oneD w1 (.cells #[.slice ad ts.length cp] 25)
  have hT1 : TBx w1.heap.size ad cp ts (w1.alloc (.cells #[.slice ad ts.length cp] 25)) := TBx.new hes
  have ba2 := below_oneD (w1.alloc (.cells #[.slice ad ts.length cp] 25)) (.cells #[.string en.path, .string en.text, .bool en.runs] 27)
  have hE2 : EBx (w1.heap.size + 1) en ((w1.alloc (.cells #[.slice ad ts.length cp] 25)).alloc (.cells #[.string en.path, .string en.text, .bool en.runs] 27)) := ⟨by simp [go_sem], by simp [go_sem], by simp [go_sem], fun j => by simp [go_sem]⟩
  have hT2 := hT1.later ba2
  have hbw2 : Below w.heap.size w _ := (hb1.trans (ba1.mono hb1.size)).trans (ba2.mono (hb1.trans (ba1.mono hb1.size)).size)
  clear hT1 ba1 ba2 hb1 hes
  have t0 := hT2.c
  have e0 := hE2.c0
  have e1 := hE2.c1
  have e2 := hE2.c2
  have hput := implPut_any ad cp ts en _ hT2.es (by omega) (tiny_ok hT (by omega) (by omega)) (by omega)
  go_wp2_with fail
  refine hput.mono ?_
  rintro e w3 ⟨us, c, hR, ⟨ad3, cp3, rfl, hel3⟩, hb3⟩
  generalize (w1.alloc (.cells #[.slice ad ts.length cp] 25)).alloc (.cells #[.string en.path, .string en.text, .bool en.runs] 27) = w2 at *
  generalize w1.heap.size + 1 = eb at *
  generalize w1.heap.size = tb at *
  clear hput t0 e0 e1 e2
  unfold TreeV
  have ba3 := below_oneD w3 (.cells #[.slice ad3 us.length cp3] 25)
  have hX3 : TBx w3.heap.size ad3 cp3 us (w3.alloc (.cells #[.slice ad3 us.length cp3] 25)) := TBx.new hel3.es
  have hT3 := (hT2.later hb3).later ba3
  have hE3 := (hE2.later hb3).later ba3
  have hbw3 : Below w.heap.size w (w3.alloc (.cells #[.slice ad3 us.length cp3] 25)) := (hbw2.trans (hb3.mono hbw2.size)).trans (ba3.mono (hbw2.trans (hb3.mono hbw2.size)).size)
  clear hT2 hE2 hbw2 hb3 ba3 hel3
  go_upto_region 5 with fail
  generalize w3.alloc (.cells #[.slice ad3 us.length cp3] 25) = w3a at *
  generalize w3.heap.size = xb at *
  have t0 := hT3.c
  have e0 := hE3.c0
  have e1 := hE3.c1
  have e2 := hE3.c2
  have hput2 := specPut_any ad cp ts en w3a hT3.es (by omega)
  go_wp2_with fail
  refine hput2.mono ?_
  rintro e w4 ⟨us', d, hR', ⟨ad4, cp4, rfl, hel4⟩, hb4⟩
  obtain ⟨rfl, rfl⟩ := put_one hR hR'
  clear hput2 t0 e0 e1 e2 hR'
  unfold TreeV
  have ba4 := below_oneD w4 (.cells #[.slice ad4 us.length cp4] 25)
  have hW4 : TBx w4.heap.size ad4 cp4 us (w4.alloc (.cells #[.slice ad4 us.length cp4] 25)) := TBx.new hel4.es
  have hT4 := (hT3.later hb4).later ba4
  have hE4 := (hE3.later hb4).later ba4
  have hX4 := (hX3.later hb4).later ba4
  have hbw4 : Below w.heap.size w (w4.alloc (.cells #[.slice ad4 us.length cp4] 25)) := (hbw3.trans (hb4.mono hbw3.size)).trans (ba4.mono (hbw3.trans (hb4.mono hbw3.size)).size)
  clear hT3 hE3 hX3 hbw3 hb4 ba4 hel4
  go_upto_region 6 with fail
  generalize w4.alloc (.cells #[.slice ad4 us.length cp4] 25) = w4a at *
  generalize w4.heap.size = wb at *
  have hus := put_few hR
  have x0 := hX4.c
  have y0 := hW4.c
  have hnc : (c != c) = false := by simp
  have hec : (c == c) = true := by simp
  have hwt := wTree_any ad3 ad4 cp3 cp4 us w4a hX4.es hW4.es (by omega)
  go_wp2_with fail
  refine hwt.mono ?_
  rintro e w5 ⟨rfl, hb5⟩
  clear hwt x0 y0 hnc hec hW4
  have hT5 := hT4.later hb5
  have hE5 := hE4.later hb5
  have hX5 := hX4.later hb5
  have hbw5 := hbw4.trans (hb5.mono hbw4.size)
  clear hT4 hE4 hX4 hbw4 hb5
  by_cases hc0 : c ≠ 0
  · have hB : (c != 0) = true := by simp [hc0]
    have hB' : (c == 0) = false := by simp [hc0]
    have hun := put_none hR hc0
    subst hun
    have x0 := hX5.c
    clear hc0 hR
    go_wp2
    go_ret
    exact ⟨rfl, hbw5⟩
  replace hc0 : c = 0 := Decidable.not_not.1 hc0
  have hB : (c != 0) = false := by simp [hc0]
  have hB' : (c == 0) = true := by simp [hc0]
  rw [hc0] at hR
  clear hc0
  obtain ⟨hvT, heok, hfree, hset, hu100⟩ := put_zero hR
  have hvU := put_valid hvT heok hfree hset hu100
  have henU : en ∈ us := (hset.mem en).2 (.inl rfl)
  have hTU : Tiny 200 1600 us := fun x hx => by
    rcases (hset.mem x).1 hx with rfl | ⟨h, _⟩
    · exact hen
    · exact hT x h
  have HP : Keep (ValidTs ts ∧ enOk en = true ∧ ¬ InWay ts en ∧ SetRel ts en us ∧ ValidTs us ∧ en ∈ us ∧ Tiny 200 1600 us ∧ Tiny 200 1600 ts) := ⟨⟨hvT, heok, hfree, hset, hvU, henU, hTU, hT⟩⟩
  clear hR hvT heok hfree hset hvU henU hTU hT
  -- what was put in is read
  have x0 := hX5.c
  have e0 := hE5.c0
  have hget := implGet_any ad3 cp3 us en.path w5 hX5.es (by omega) (tiny_ok HP.out.2.2.2.2.2.2.1 (by omega) (by omega)) (by omega)
  go_wp2_with fail
  refine hget.mono ?_
  rintro e w6 ⟨o, hgot, rfl, hb6⟩
  obtain rfl := got_mem HP.out.2.2.2.2.1 HP.out.2.2.2.2.2.1 hgot
  clear hget hgot x0 e0
  unfold entV
  have ba6 := below_oneD w6 (.cells #[.string en.path, .string en.text, .bool en.runs] 27)
  have hG6 : EBx w6.heap.size en (w6.alloc (.cells #[.string en.path, .string en.text, .bool en.runs] 27)) := ⟨by simp, by simp, by simp, fun j => by simp⟩
  have hT6 := (hT5.later hb6).later ba6
  have hE6 := (hE5.later hb6).later ba6
  have hX6 := (hX5.later hb6).later ba6
  have hbw6 : Below w.heap.size w (w6.alloc (.cells #[.string en.path, .string en.text, .bool en.runs] 27)) := (hbw5.trans (hb6.mono hbw5.size)).trans (ba6.mono (hbw5.trans (hb6.mono hbw5.size)).size)
  clear hT5 hE5 hX5 hbw5 hb6 ba6
  go_upto_region 11 with fail
  generalize w6.alloc (.cells #[.string en.path, .string en.text, .bool en.runs] 27) = w6a at *
  generalize w6.heap.size = gb at *
  have x0 := hX6.c
  have hvt := implTree_any ad3 cp3 us w6a hX6.es (by omega) (fun e he => (tiny_ok HP.out.2.2.2.2.2.2.1 (by omega) (by omega) e he).1)
  go_wp2_with fail
  refine hvt.mono ?_
  rintro e w7 ⟨bl, rfl, hbl, hb7⟩
  obtain rfl : bl = true := hbl.2 HP.out.2.2.2.2.1
  clear hvt hbl x0
  have hT7 := hT6.later hb7
  have hE7 := hE6.later hb7
  have hX7 := hX6.later hb7
  have hG7 := hG6.later hb7
  have hbw7 := hbw6.trans (hb7.mono hbw6.size)
  clear hT6 hE6 hX6 hG6 hbw6 hb7
  have g0 := hG7.c0
  have g1 := hG7.c1
  have g2 := hG7.c2
  have e0 := hE7.c0
  have e1 := hE7.c1
  have e2 := hE7.c2
  go_wp2
  clear g0 g1 g2 e0 e1 e2 hG7
  -- all others are there still
  go_loopw [11] (fun i wr => ∃ k : Nat, i = .int .i64 k ∧ k ≤ ts.length ∧ Below w7.heap.size w7 wr) (fun i _ => ts.length - (intOf i).toNat)
  case atStart => exact ⟨0, rfl, Nat.zero_le _, Below.refl _ _⟩
  case round =>
    obtain ⟨k, rfl, hk, hB7⟩ := hrel
    have hTr := hT7.later hB7
    have hEr := hE7.later hB7
    have hXr := hX7.later hB7
    have hbwr := hbw7.trans (hB7.mono hbw7.size)
    have t0 := hTr.c
    by_cases hlt : k < ts.length
    · have hlt' : (k : Int) < ts.length := by omega
      obtain ⟨b1, o1, hab, hc1⟩ := hTr.es.at hlt
      obtain ⟨x0, x1, x2⟩ := hc1 k hlt
      subst hab
      have xx := hXr.c
      obtain ⟨xp, hxp⟩ : ∃ xp, xp = ts[k].path := ⟨_, rfl⟩
      have HXP : Keep (xp = ts[k].path) := ⟨hxp⟩
      have hxz : xp.size ≤ 200 := by rw [hxp]; exact (HP.out.2.2.2.2.2.2.2 _ (List.getElem_mem hlt)).1
      have x0' := x0
      rw [← hxp] at x0'
      clear hxp hc1
      have hG : ∀ X, Below wr.heap.size wr X → Calls Try.prog 8 #[.agg #[.slice ad3 us.length cp3], .string xp] X fun e w' => GetPost us xp X e w' := fun X hX => implGet_any ad3 cp3 us xp X (hXr.es.below hX) (by omega) (tiny_ok HP.out.2.2.2.2.2.2.1 (by omega) (by omega)) (by omega)
      have q0 : Below wr.heap.size wr wr.drew := (Below.refl _ _).drew
      have qa := (below_oneD wr (.cells #[.string ⟨#[]⟩, .string ⟨#[]⟩, .bool false] 27)).drew
      have kq : ∀ {W W' : World}, Below wr.heap.size wr W → Below W.heap.size W W' → Below wr.heap.size wr W' := fun h h' => h.trans (h'.mono h.size)
      have HX : Keep (wr.cell? ⟨b1, o1 + k * 3, none⟩ = some (.string ts[k].path)) := ⟨x0⟩
      clear x0
      go_upto_region 16 with fail
      go_cut [12, 13] (fun pv cc wx => CutG us xp wr pv cc wx)
      case first =>
        rename_i K1 ha2 J1 K2 ha1 ha0
        clear ha2
        have xxa := fun o => (hXr.later (below_oneD wr o)).c
        have t0a := fun o => (hTr.later (below_oneD wr o)).c
        have x0a : ∀ o, (wr.alloc o).cell? ⟨b1, o1 + k * 3, none⟩ = some (.string xp) := fun o => cell_later (below_oneD wr o) x0'
        go_region_with (go_at_call 8; refine (hG _ ?_).mono ?_; (first | with_reducible exact q0 | with_reducible exact qa); rintro e wG ⟨o, hgot, rfl, hbG⟩; rw [entV_getD]; obtain ⟨f, HF⟩ : ∃ f, Keep (f = o.getD noEn) := ⟨_, ⟨rfl⟩⟩; rw [← HF.out]; (try (with_reducible have N := newE hbG; have n0 := N.c0; have n1 := N.c1; have n2 := N.c2; have nf := N.fz)))
        all_goals
          go_wp2_with fail
          go_meet
          case rel =>
            first
              | exact cutG_mk HF.out hgot (kq q0 hbG)
              | exact cutG_mk' HF.out hgot (kq qa hbG) N (Nat.le_refl _)
      case rest =>
        obtain ⟨fb, o, rfl, rfl, hgot, hF, hB8⟩ := hcut
        clear hG q0 qa kq xx
        have hT8 := hTr.later hB8
        have hE8 := hEr.later hB8
        have t8 := hT8.c
        have e80 := hE8.c0
        have X0 := cell_later hB8 HX.out
        have X1 := cell_later hB8 x1
        have X2 := cell_later hB8 x2
        have hB78 := hB7.trans (hB8.mono hB7.size)
        clear hTr hEr t0 x0' x1 x2
        cases hq : (ts[k].path.toList == en.path.toList) with
        | true =>
          generalize Option.isSome o = bo at *
          clear hF hgot
          go_wp2
          go_quiet (fail)
          go_wp2
          go_roundw
          case rel => exact ⟨k + 1, by congr 1, hlt, below_drewN hB78 _⟩
          case measure => simp only [intOf]; omega
        | false =>
          have hne : ts[k].path ≠ en.path := fun e => by rw [e] at hq; simp at hq
          have hmem : ts[k] ∈ us := (HP.out.2.2.2.1.mem _).2 (.inr ⟨List.getElem_mem hlt, hne⟩)
          rw [HXP.out] at hgot
          obtain rfl := got_mem HP.out.2.2.2.2.1 hmem hgot
          simp only [Option.getD_some, Option.isSome_some] at hF ⊢
          have f0 := hF.c0
          have f1 := hF.c1
          have f2 := hF.c2
          clear hF hgot hmem hne
          go_wp2
          go_quiet (fail)
          go_wp2
          go_roundw
          case rel => exact ⟨k + 1, by congr 1, hlt, below_drewN hB78 _⟩
          case measure => simp only [intOf]; omega
    · obtain rfl : k = ts.length := by omega
      have x0 := hXr.c
      have e0 := hEr.c0
      have hrem := implRem_any ad3 cp3 us en.path wr hXr.es (by omega) (tiny_ok HP.out.2.2.2.2.2.2.1 (by omega) (by omega)) (by omega)
      go_wp2_with fail
      refine hrem.mono ?_
      rintro e w8 ⟨ys, r, hrm, ⟨ad8, cp8, rfl, hel8⟩, hb8⟩
      obtain ⟨rfl, rfl⟩ : ys = without us en.path ∧ r = 0 := by
        rcases hrm with ⟨h1, _⟩ | ⟨_, h1, _⟩ | ⟨_, _, h1, h2⟩
        · exact absurd HP.out.2.2.2.2.1 h1
        · exact absurd rfl (h1 en HP.out.2.2.2.2.2.1)
        · exact ⟨h1, h2⟩
      clear hrem hrm x0 e0 t0
      unfold TreeV
      obtain ⟨ys, hys⟩ : ∃ ys, ys = without us en.path := ⟨_, rfl⟩
      have HY : Keep (ys = without us en.path) := ⟨hys⟩
      rw [← hys] at hel8 ⊢
      clear hys
      have hyl : ys.length ≤ 100 := by rw [HY.out]; exact (without_valid HP.out.2.2.2.2.1 _).1
      have hyT : Tiny 200 1600 ys := fun x hx => by rw [HY.out] at hx; exact HP.out.2.2.2.2.2.2.1 x ((without_mem x).1 hx).1
      have hyV : ValidTs ys := by rw [HY.out]; exact without_valid HP.out.2.2.2.2.1 _
      have HYV : Keep (ValidTs ys ∧ Tiny 200 1600 ys) := ⟨⟨hyV, hyT⟩⟩
      clear hyV hyT
      have ba8 := below_oneD w8 (.cells #[.slice ad8 ys.length cp8] 25)
      have hY8 : TBx w8.heap.size ad8 cp8 ys (w8.alloc (.cells #[.slice ad8 ys.length cp8] 25)) := TBx.new hel8.es
      have hT8 := (hTr.later hb8).later ba8
      have hE8 := (hEr.later hb8).later ba8
      have hbw8 : Below w.heap.size w (w8.alloc (.cells #[.slice ad8 ys.length cp8] 25)) := (hbwr.trans (hb8.mono hbwr.size)).trans (ba8.mono (hbwr.trans (hb8.mono hbwr.size)).size)
      clear hTr hEr hXr hbwr hb8 ba8 hel8
      go_upto_region 20 with fail
      generalize w8.alloc (.cells #[.slice ad8 ys.length cp8] 25) = w8a at *
      generalize w8.heap.size = yb at *
      have y0 := hY8.c
      have e0 := hE8.c0
      have hrem := implRem_any ad8 cp8 ys en.path w8a hY8.es (by omega) (tiny_ok HYV.out.2 (by omega) (by omega)) (by omega)
      go_wp2_with fail
      refine hrem.mono ?_
      rintro e w9 ⟨us9, r9, hrm, ⟨ad9, cp9, rfl, hel9⟩, hb9⟩
      obtain ⟨rfl, rfl⟩ : us9 = [] ∧ r9 = 4 := by
        rcases hrm with ⟨h1, _⟩ | ⟨_, _, h1, h2⟩ | ⟨_, ⟨x, hx, hxp⟩, _⟩
        · exact absurd HYV.out.1 h1
        · exact ⟨h1, h2⟩
        · rw [HY.out] at hx
          exact absurd hxp ((without_mem x).1 hx).2
      clear hrem hrm y0 e0
      unfold TreeV
      have ba9 := below_oneD w9 (.cells #[.slice ad9 ([] : List En).length cp9] 25)
      have hT9 := (hT8.later hb9).later ba9
      have hE9 := (hE8.later hb9).later ba9
      have hY9 := (hY8.later hb9).later ba9
      have hbw9 : Below w.heap.size w (w9.alloc (.cells #[.slice ad9 ([] : List En).length cp9] 25)) := (hbw8.trans (hb9.mono hbw8.size)).trans (ba9.mono (hbw8.trans (hb9.mono hbw8.size)).size)
      clear hT8 hE8 hY8 hbw8 hb9 ba9 hel9
      go_upto_region 21 with fail
      generalize w9.alloc (.cells #[.slice ad9 ([] : List En).length cp9] 25) = w9a at *
      have t0 := hT9.c
      have e0 := hE9.c0
      have hget := implGet_any ad cp ts en.path w9a hT9.es (by omega) (tiny_ok HP.out.2.2.2.2.2.2.2 (by omega) (by omega)) (by omega)
      go_wp2_with fail
      refine hget.mono ?_
      rintro e w10 ⟨o, hgot, rfl, hb10⟩
      rw [entV_getD]
      clear hget e0 t0
      have hT10 := hT9.later hb10
      have hY10 := hY9.later hb10
      have hbw10 := hbw9.trans (hb10.mono hbw9.size)
      clear hT9 hE9 hY9 hbw9 hb10
      cases o with
      | none =>
        have hno : ∀ x ∈ ts, x.path ≠ en.path := by
          rcases hgot with ⟨_, _, _, _, h⟩ | ⟨h | h, _⟩
          · cases h
          · exact absurd HP.out.1 h
          · exact h
        have hyt : ys = ts := by rw [HY.out]; exact back_none (valid_asc HP.out.1) HP.out.2.2.2.1 hno
        simp only [Option.getD_none, Option.isSome_none]
        have ba := below_oneD w10 (.cells #[.string noEn.path, .string noEn.text, .bool noEn.runs] 27)
        have hT11 := hT10.later ba
        have hY11 := hY10.later ba
        have hbw11 := hbw10.trans (ba.mono hbw10.size)
        have t0 := hT11.c
        have y0 := hY11.c
        have hwt := wTree_any ad8 ad cp8 cp ts _ (hyt ▸ hY11.es) hT11.es (by omega)
        have HYT : Keep (ys.length = ts.length) := ⟨by rw [hyt]⟩
        rw [HYT.out] at y0
        clear hyt hno hgot hT10 hY10
        go_wp2_with fail
        refine hwt.mono ?_
        rintro e w12 ⟨rfl, hb12⟩
        go_wp2
        go_ret
        exact ⟨rfl, hbw11.trans (hb12.mono hbw11.size)⟩
      | some old =>
        obtain ⟨hold, HOP⟩ : old ∈ ts ∧ Keep (old.path = en.path) := by
          rcases hgot with ⟨_, x, hx, hp, h⟩ | ⟨_, h⟩
          · cases h; exact ⟨hx, ⟨hp⟩⟩
          · cases h
        simp only [Option.getD_some, Option.isSome_some]
        have ba := below_oneD w10 (.cells #[.string old.path, .string old.text, .bool old.runs] 27)
        have hO11 : EBx w10.heap.size old (w10.alloc (.cells #[.string old.path, .string old.text, .bool old.runs] 27)) := ⟨by simp, by simp, by simp, fun j => by simp⟩
        have hT11 := hT10.later ba
        have hY11 := hY10.later ba
        have hbw11 := hbw10.trans (ba.mono hbw10.size)
        have y0 := hY11.c
        have p0 := hO11.c0
        have p1 := hO11.c1
        have p2 := hO11.c2
        have hput := implPut_any ad8 cp8 ys old _ hY11.es (by omega) (tiny_ok HYV.out.2 (by omega) (by omega)) (by have := (HP.out.2.2.2.2.2.2.2 old hold).1; omega)
        clear hgot hT10 hY10 ba
        go_wp2_with fail
        refine hput.mono ?_
        rintro e w12 ⟨vs, c12, hR12, ⟨ad12, cp12, rfl, hel12⟩, hb12⟩
        obtain ⟨rfl, rfl⟩ : vs = ts ∧ c12 = 0 := by
          rcases hR12 with ⟨h1, _⟩ | ⟨_, h1, _⟩ | ⟨_, _, h1, _⟩ | ⟨_, _, _, us2, h4, h5⟩
          · exact absurd HYV.out.1 h1
          · rw [valid_en HP.out.1 hold] at h1; cases h1
          · rw [HY.out] at h1; exact absurd h1 (back_free HP.out.1 HP.out.2.2.2.1 hold)
          · rw [HY.out] at h4
            have h6 := back_some (valid_asc HP.out.1) HP.out.2.2.2.1 hold HOP.out h4
            subst h6
            rcases h5 with ⟨h7, _⟩ | ⟨_, h8, h9⟩
            · have := HP.out.1.1; omega
            · exact ⟨h8, h9⟩
        clear hput y0 p0 p1 p2 hR12
        unfold TreeV
        have ba2 := below_oneD w12 (.cells #[.slice ad12 vs.length cp12] 25)
        have hZ13 : TBx w12.heap.size ad12 cp12 vs (w12.alloc (.cells #[.slice ad12 vs.length cp12] 25)) := TBx.new hel12.es
        have hT13 := (hT11.later hb12).later ba2
        have hbw13 : Below w.heap.size w (w12.alloc (.cells #[.slice ad12 vs.length cp12] 25)) := (hbw11.trans (hb12.mono hbw11.size)).trans (ba2.mono (hbw11.trans (hb12.mono hbw11.size)).size)
        have z0 := hZ13.c
        have t0 := hT13.c
        have hwt := wTree_any ad12 ad cp12 cp vs _ hZ13.es hT13.es (by omega)
        go_wp2_with fail
        refine hwt.mono ?_
        rintro e w14 ⟨rfl, hb14⟩
        go_wp2
        go_ret
        exact ⟨rfl, hbw13.trans (hb14.mono hbw13.size)⟩
end Go.Proofs.Ytmejaaegojilcaa

namespace Go.Proofs.Ytmejaaegojilcaa.fnTrees
open Go.ChangeShapes Go.WideShapes Go.ChangeAt Go.RowKit
set_option linter.unusedVariables false

theorem own : ownKnob Try.prog.godebug = none := by kernel_rfl
theorem laidOut : laidOutB Try.prog = true := by kernel_rfl

theorem open_code {H : Type} {enc : TypeId × Value → H} {W : World} {a : Option Addr} {len cap : Nat} {d : DataW H} {p : List MemPlace} (h : DataW.Trod enc Try.prog W 0 (fun _ => true) true 22 (.slice a len cap) d p) :
    ∃ zs : List Int, len = zs.length ∧ Code0 W a cap zs := by
  obtain ⟨fuel, hf⟩ := h
  rcases open_ints Try.underlying22 Try.underlying5 (by kernel_rfl) hf with ⟨hcs, _⟩ | ⟨x, l, c, zs, hcs, _, hl, hm, hz, _, hcell, hwz⟩
  · simp [Value.cells] at hcs
    obtain ⟨rfl, rfl, rfl⟩ := hcs
    exact ⟨[], rfl, .inl rfl, Nat.zero_le _, Nat.zero_le _, fun z hz => by simp at hz⟩
  · simp [Value.cells] at hcs
    obtain ⟨rfl, rfl, rfl⟩ := hcs
    have hz' : zs.length = cap := by simpa using hz
    refine ⟨zs.take len, by simp; omega, ?_, by simp; omega, hm, fun z hz => ?_⟩
    · by_cases h0 : len = 0
      · left; simp [h0]
      · right
        obtain ⟨b, off, rfl, hc⟩ := ints_at hcell (by omega)
        refine ⟨b, off, rfl, ?_, fun i hi => ?_⟩
        · have h1 := hc 0 (by omega)
          unfold World.cell? at h1
          cases hh : W.heap[b]? with
          | none => simp [hh] at h1
          | some o => exact (Array.getElem?_eq_some_iff.1 hh).1
        · have hi' : i < zs.length := by simp at hi; omega
          rw [hc i hi']
          simp [List.getD, hi']
    · have := bounds_u8 (hwz z (List.mem_of_mem_take hz))
      omega

set_option maxRecDepth 100000 in
theorem lifted (os : Os) (started : os.Started) (H : Type) (enc : TypeId × Value → H) :
    ReturnsInHanded {} Try.checked os 3 .any (Rows.fnTreesSpec.pre6 enc Try.prog Try.f3 Rows.fnTreesRow.domain false) (Rows.fnTreesSpec.post enc Try.prog Try.f3 false true false false) := by
  refine returnsInHanded_of_change (C := Try.checked) own started (by kernel_rfl) Try.func3
    (ChangeSpec.witness6 (enc := enc) (C := Try.checked) false ⟨#[], #[.slice none 0 0], []⟩ 8 (by kernel_rfl) (by kernel_rfl) (by kernel_rfl) (by kernel_rfl)) ?_
  intro W base args ds gs before hval0 hW hcnd _
  have hval : ∀ (j : Nat) t v, Try.f3.params[j]? = some t → args[j]? = some v → Value.okWide Try.prog W .any base t v := hval0
  have hW' := hW
  obtain ⟨p, q, hA0, hV, rfl, hfz, hnd⟩ := hW
  have hA : DataW.TrodAll enc Try.prog W 0 (fun _ => true) true Try.f3.params.toList args.toList ds p := hA0
  rw [Try.params3] at hA hval
  obtain ⟨v0, vs0, d0, ds0, p0, q0, hargs, rfl, rfl, h0, r0⟩ := trodAll_cons hA
  obtain ⟨rfl, rfl, rfl⟩ := trodAll_nil r0
  obtain rfl : args = #[v0] := by cases args; simp_all
  obtain ⟨rfl, rfl⟩ := trodVars_none hV
  obtain ⟨a0, len0, cap0, rfl⟩ := okWide_slice Try.underlying22 (hval 0 22 v0 rfl rfl)
  have k0 := h0
  have lt0 : ∀ x ∈ p0, x.block < W.heap.size := by obtain ⟨m, hm⟩ := k0; exact DataW.trod_lt m _ _ _ hm
  obtain ⟨zs, rfl, hc⟩ := open_code h0
  clear hA0 hval0
  refine (trees_walk a0 cap0 zs W hc).mono fun e W' ⟨he, bel⟩ => ?_
  subst he
  exact ⟨_, rfl, _, _, _, [], _, [], hW', trodAll_mk1 (shut_bool Try.underlying4 _), (trodAll_cons_mk (Below.trod laidOut (by kernel_rfl) (of_decide_eq_true (by kernel_rfl)) k0 bel lt0) trodAll_mk0), rfl, bel.frame _, fun h => by cases h⟩

theorem over : Rows.fnTreesRow.holds Try.pinned (OpenSpec.ofChange Rows.fnTreesSpec) :=
  OpenClaim.holds_of_wide 3 Try.f3 rfl rfl rfl rfl rfl rfl rfl ⟨rfl, rfl, rfl, rfl, rfl⟩ rfl rfl rfl rfl rfl (by kernel_rfl) Try.func3 (by kernel_rfl)
    (of_decide_eq_true (by kernel_rfl)) (by unfold Func.isWrapper; first | (rw [if_pos (by decide +kernel)]; kernel_rfl) | (rw [if_neg (by decide +kernel)]; exact ⟨rfl, rfl⟩))
    (fun os started H enc _ => lifted os started H enc)

theorem proved : Rows.FnTreesSaid := over
end Go.Proofs.Ytmejaaegojilcaa.fnTrees
