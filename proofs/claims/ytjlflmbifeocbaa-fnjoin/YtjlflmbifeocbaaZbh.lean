/-
  CopyR, DrawSp: laid as one text.
-/
import Derived.Test.YtjlflmbifeocbaaZbd
import Derived.Test.YtjlflmbifeocbaaDrawD5
namespace Go.Proofs.Ytjlflmbifeocbaa
open Go.RowKit

set_option maxRecDepth 20000 in
set_option maxHeartbeats 2000000 in
theorem l5CopyR_any (b : Option Addr) (cb : Nat) (bs : List En) (w : World) (hbs : ES w b bs) (hn : bs.length ≤ 1048576) (hb : (∃ ad, b = some ad) ∨ (b = none ∧ cb = 0)) :
    Calls Try.prog 51 #[.agg #[.slice b bs.length cb]] w fun e w' => ∃ ad cp, e = .returned (.agg #[.slice ad bs.length cp]) ∧ w'.ownsRow w.heap.size 57 3 (.slice ad bs.length cp) bs.length (ecells bs) ∧ (∃ x, ad = some x) ∧ Below w.heap.size w w' := by
  obtain ⟨i0, hi, hz0, hz1, hzb⟩ := info_parts Try.infoEntry
  have hal : Below w.heap.size w (((w.alloc (.cells #[.slice b bs.length cb] 25)).alloc (.cells #[.slice none 0 0] 25)).alloc (.cells #[] 57)) := (((Below.refl _ _).alloc (Nat.le_refl _) _).alloc (by simp) _).alloc (by simp; omega) _
  have k0 : (((w.alloc (.cells #[.slice b bs.length cb] 25)).alloc (.cells #[.slice none 0 0] 25)).alloc (.cells #[] 57)).cell? ⟨w.heap.size + 1, 0, none⟩ = some (.slice none 0 0) := by simp [go_sem]
  have kf : (((w.alloc (.cells #[.slice b bs.length cb] 25)).alloc (.cells #[.slice none 0 0] 25)).alloc (.cells #[] 57)).frozen? ⟨w.heap.size + 1, 0, none⟩ = false := by simp [go_sem]
  have m0 : (((w.alloc (.cells #[.slice b bs.length cb] 25)).alloc (.cells #[.slice none 0 0] 25)).alloc (.cells #[] 57)).cell? ⟨w.heap.size, 0, none⟩ = some (.slice b bs.length cb) := by simp [go_sem]
  have hown0 : (((w.alloc (.cells #[.slice b bs.length cb] 25)).alloc (.cells #[.slice none 0 0] 25)).alloc (.cells #[] 57)).ownsRow (w.heap.size + 2) 57 3 (.slice (some ⟨w.heap.size + 1 + 1, 0, none⟩) 0 0) 0 (ecells []) := by simpa using own_none ((w.alloc (.cells #[.slice b bs.length cb] 25)).alloc (.cells #[.slice none 0 0] 25)) (w.heap.size + 2) (by simp)
  have hsz : w.heap.size + 3 ≤ (((w.alloc (.cells #[.slice b bs.length cb] 25)).alloc (.cells #[.slice none 0 0] 25)).alloc (.cells #[] 57)).heap.size := by simp
  rcases hb with ⟨ad, rfl⟩ | ⟨rfl, rfl⟩
  · have hnews : ∃ ad', ∀ n c, (Value.slice (some ad) bs.length c = .slice (some ad) n c → True) ∧ ad' = ad ∧ ∀ j u, (ecells bs)[j]? = some u → (((w.alloc (.cells #[.slice (some ad) bs.length cb] 25)).alloc (.cells #[.slice none 0 0] 25)).alloc (.cells #[] 57)).cell? (ad.add j) = some u := by
      refine ⟨ad, fun _ _ => ⟨fun _ => trivial, rfl, ?_⟩⟩
      rcases hbs with rfl | ⟨bb, off, h, hc⟩
      · intro j u hu; simp [ecells] at hu
      · cases h
        exact es_news (fun i hi => ⟨cell_later hal (hc i hi).1, cell_later hal (hc i hi).2.1, cell_later hal (hc i hi).2.2⟩)
    obtain ⟨_, h3⟩ := hnews
    obtain ⟨_, _, hnw⟩ := h3 0 0
    clear h3
    have hone := ecells_one bs
    have hlen := ecells_len bs
    go_enter Try.func51, Try.ntmps51
    go_wp2_with (first | (at_builtin; refine wpList_append_own _ rfl _ _ 23 rfl (w.heap.size + 2) 57 i0 _ 3 40 Try.underlying23 hi hz0 hz1 hzb rfl (by decide) (.slice (some ⟨w.heap.size + 1 + 1, 0, none⟩) 0 0) 0 (ecells []) rfl hown0 ad bs.length cb (ecells bs) rfl hlen hnw hone (by unfold maxLen; omega) (by omega) (by omega) ?_; intro v2 w2 hown2 hgrow2 hnn; have k2 := hgrow2.cell (a := ⟨w.heap.size + 1, 0, none⟩) k0 (by simp [Value.ownBlock]); have kf2 : w2.frozen? ⟨w.heap.size + 1, 0, none⟩ = false := frozen_blk (hgrow2.block (w.heap.size + 1) (by simp) (by simp [Value.ownBlock])) kf; obtain ⟨ad2, cp2, rfl⟩ := owns_slice hown2))
    have hb2 := hal.grown hgrow2 hal.size (fun j hj => by cases hj; simp; omega)
    replace hown2 : w2.ownsRow (w.heap.size + 2) 57 3 (.slice ad2 bs.length cp2) bs.length (ecells bs) := by simpa [ecells] using hown2
    have hrow2 : (w2.setCell ⟨w.heap.size + 1, 0, none⟩ (.slice ad2 bs.length cp2)).ownsRow (w.heap.size + 2) 57 3 (.slice ad2 bs.length cp2) bs.length (ecells bs) := hown2.kept (grown_set0 w2 (w.heap.size + 1) 0 (.slice ad2 bs.length cp2)) (Or.inr (fun e => by have := owns_row_ge hown2 e; omega))
    have hrow3 : (w2.setCell ⟨w.heap.size + 1, 0, none⟩ (.slice ad2 bs.length cp2)).ownsRow w.heap.size 57 3 (.slice ad2 bs.length cp2) bs.length (ecells bs) := by
      refine ⟨hrow2.1, ?_⟩
      rcases hrow2.2 with h' | ⟨gq, capq, curq, hv, h1, h2⟩
      · exact .inl h'
      · exact .inr ⟨gq, capq, curq, hv, by omega, h2⟩
    have hsome : ∃ x, ad2 = some x := by
      cases ad2 with
      | some x => exact ⟨x, rfl⟩
      | none =>
        exfalso
        rcases hown2.2 with ⟨h', _⟩ | ⟨gq, capq, curq, hv, _⟩
        · exact absurd (hnn.1 (by rw [Nat.zero_add]; exact h')) (fun h => by cases h.1)
        · cases hv
    refine bodyPost_ret (v := .agg #[.slice ad2 bs.length cp2]) ?_ rfl ⟨ad2, cp2, rfl, hrow3, hsome, hb2.setCell (p := ⟨w.heap.size + 1, 0, none⟩) (by simp) _⟩
    go_light
    simp [results, Try.results51, go_sem, k2]
  · obtain rfl : bs = [] := by
      rcases hbs with h | ⟨bb, off, h, _⟩
      · exact h
      · cases h
    go_enter Try.func51, Try.ntmps51
    go_wp2_with (first | (at_builtin; refine wpList_append_own_none rfl _ _ 23 rfl (w.heap.size + 2) 57 i0 3 Try.underlying23 hi _ _ _ rfl hown0 rfl ?_))
    have hownL : (((w.alloc (.cells #[.slice none 0 0] 25)).alloc (.cells #[.slice (some ⟨w.heap.size + 1 + 1, 0, none⟩) 0 0] 25)).alloc (.cells #[] 57)).ownsRow w.heap.size 57 3 (.slice (some ⟨w.heap.size + 1 + 1, 0, none⟩) 0 0) 0 (ecells []) := by simpa using own_none ((w.alloc (.cells #[.slice none 0 0] 25)).alloc (.cells #[.slice (some ⟨w.heap.size + 1 + 1, 0, none⟩) 0 0] 25)) w.heap.size (by simp; omega)
    refine bodyPost_ret (v := .agg #[.slice (some ⟨w.heap.size + 1 + 1, 0, none⟩) ([] : List En).length 0]) ?_ rfl ⟨_, _, rfl, (by exact hownL), ⟨_, rfl⟩, (((Below.refl _ _).alloc (Nat.le_refl _) _).alloc (by simp) _).alloc (by simp; omega) _⟩
    go_light
    simp [results, Try.results51, go_sem]
end Go.Proofs.Ytjlflmbifeocbaa

namespace Go.Proofs.Ytjlflmbifeocbaa
open Go.RowKit

/-- A tree in a box, beside a reader; its row may lie ahead of the box. -/
structure LD6 (g : Nat) (a : Option Addr) (cap : Nat) (zs : List Int) (w : World) (rs tb : Nat) (ad : Option Addr) (cp : Nat) (ts : List En) (p : Nat) (W : World) : Prop where
  rd : Rd W g a cap zs p
  gr : w.grownBy W (some g)
  rc : W.cell? ⟨rs, 0, none⟩ = some (.slice none 0 0)
  rf : W.frozen? ⟨rs, 0, none⟩ = false
  tc : W.cell? ⟨tb, 0, none⟩ = some (.slice ad ts.length cp)
  tf : W.frozen? ⟨tb, 0, none⟩ = false
  el : EL (rs + 1) W ad ts
  ap : ts = [] ∨ blk ad ≠ some tb
  ord : g < rs ∧ rs < tb ∧ w.heap.size ≤ rs
section
variable {g : Nat} {a : Option Addr} {cap : Nat} {zs : List Int} {w : World} {rs tb : Nat} {ad ad' : Option Addr} {cp cp' : Nat} {ts us : List En} {p p' : Nat} {W W' : World}
theorem LD6.lt (h : LD6 g a cap zs w rs tb ad cp ts p W) : tb < W.heap.size := World.block_lt_of_cell? W ⟨tb, 0, none⟩ h.tc
theorem LD6.ltr (h : LD6 g a cap zs w rs tb ad cp ts p W) : rs < W.heap.size := World.block_lt_of_cell? W ⟨rs, 0, none⟩ h.rc
theorem LD6.step (h : LD6 g a cap zs w rs tb ad cp ts p W) (hg : W.grownBy W' (some g)) (hR : Rd W' g a cap zs p') : LD6 g a cap zs w rs tb ad cp ts p' W' := by
  have o := h.ord
  have b1 := hg.block rs h.ltr (by simp; omega)
  have b2 := hg.block tb h.lt (by simp; omega)
  exact ⟨hR, gr_trans h.gr hg, (World.cell?_of_block b1).trans h.rc, fz_blk b1 h.rf, (World.cell?_of_block b2).trans h.tc, fz_blk b2 h.tf, h.el.grown hg (fun k _ hk _ e => by cases e; omega), h.ap, o⟩
theorem LD6.later (h : LD6 g a cap zs w rs tb ad cp ts p W) (hb : Below W.heap.size W W') : LD6 g a cap zs w rs tb ad cp ts p W' := h.step (gr_below hb) (h.rd.below hb)
theorem LD6.al (h : LD6 g a cap zs w rs tb ad cp ts p W) (o : Obj) : LD6 g a cap zs w rs tb ad cp ts p (W.alloc o) := h.later (below_oneD _ _)
theorem LD6.drew (h : LD6 g a cap zs w rs tb ad cp ts p W) : LD6 g a cap zs w rs tb ad cp ts p W.drew := h.later (Below.refl _ _).drew
theorem LD6.put (h : LD6 g a cap zs w rs tb ad cp ts p W) (he : EL (rs + 1) W ad' us) (hap : us = [] ∨ blk ad' ≠ some tb) : LD6 g a cap zs w rs tb ad' cp' us p (W.setCell ⟨tb, 0, none⟩ (.slice ad' us.length cp')) := by
  have o := h.ord
  have hg : W.grownBy (W.setCell ⟨tb, 0, none⟩ (.slice ad' us.length cp')) (some tb) := grown_set W tb 0 _
  refine ⟨h.rd.kept hg (fun k e => by cases e; omega), gr_own h.gr hg (fun j e => by cases e; omega), ?_, (World.frozen?_setCell _ _ _ _).trans h.rf, World.cell?_setCell_same _ _ _ h.tc, (World.frozen?_setCell _ _ _ _).trans h.tf, ?_, hap, o⟩
  · exact (World.cell?_of_block (Below.heap_setCell _ _ _ _ (by show rs ≠ tb; omega))).trans h.rc
  · rcases hap with h0 | h0
    · exact .inl h0
    · exact he.grown hg (fun k hk _ _ e => h0 (by rw [hk, ← e]))
/-- What l5Set gives is put into the box. -/
theorem LD6.putNew {B : Nat} (h : LD6 g a cap zs w rs tb ad cp ts p W) (he : EL B W ad' us) (hB : tb < B) : LD6 g a cap zs w rs tb ad' cp' us p (W.setCell ⟨tb, 0, none⟩ (.slice ad' us.length cp')) :=
  h.put (he.mono (by have := h.ord; omega)) (by
    rcases he with h0 | ⟨k, rfl, hk, _⟩
    · exact .inl h0
    · exact .inr (fun e => by simp [blk] at e; omega))
theorem EL.setPath {B gb k : Nat} {s : ByteArray} (h : EL B W (some ⟨gb, 0, none⟩) ts) (hk : k < ts.length) : EL B (W.setCell ⟨gb, k * 3, none⟩ (.string s)) (some ⟨gb, 0, none⟩) (ts.set k ⟨s, ts[k].text, ts[k].runs⟩) := by
  rcases h with h | ⟨g', e, h1, h2, h3, h4⟩
  · subst h; simp at hk
  · cases e
    have hne : ∀ i j : Nat, i ≠ j → (⟨gb, i, none⟩ : Addr) ≠ ⟨gb, j, none⟩ := fun i j h e => h (by injection e)
    refine .inr ⟨gb, rfl, h1, by simpa using h2, fun j => (World.frozen?_setCell _ _ _ _).trans (h3 j), fun i hi => ?_⟩
    have hi' : i < ts.length := by simpa using hi
    obtain ⟨c0, c1, c2⟩ := h4 i hi'
    by_cases e : i = k
    · subst e
      rw [List.getElem_set_self]
      exact ⟨World.cell?_setCell_same _ _ _ c0, by rw [World.cell?_setCell_other _ _ _ _ (hne _ _ (by omega))]; exact c1, by rw [World.cell?_setCell_other _ _ _ _ (hne _ _ (by omega))]; exact c2⟩
    · rw [List.getElem_set_ne (fun e' => e e'.symm)]
      exact ⟨by rw [World.cell?_setCell_other _ _ _ _ (hne _ _ (by omega))]; exact c0, by rw [World.cell?_setCell_other _ _ _ _ (hne _ _ (by omega))]; exact c1, by rw [World.cell?_setCell_other _ _ _ _ (hne _ _ (by omega))]; exact c2⟩
theorem EL.setText {B gb k : Nat} {s : ByteArray} (h : EL B W (some ⟨gb, 0, none⟩) ts) (hk : k < ts.length) : EL B (W.setCell ⟨gb, k * 3 + 1, none⟩ (.string s)) (some ⟨gb, 0, none⟩) (ts.set k ⟨ts[k].path, s, ts[k].runs⟩) := by
  rcases h with h | ⟨g', e, h1, h2, h3, h4⟩
  · subst h; simp at hk
  · cases e
    have hne : ∀ i j : Nat, i ≠ j → (⟨gb, i, none⟩ : Addr) ≠ ⟨gb, j, none⟩ := fun i j h e => h (by injection e)
    refine .inr ⟨gb, rfl, h1, by simpa using h2, fun j => (World.frozen?_setCell _ _ _ _).trans (h3 j), fun i hi => ?_⟩
    have hi' : i < ts.length := by simpa using hi
    obtain ⟨c0, c1, c2⟩ := h4 i hi'
    by_cases e : i = k
    · subst e
      rw [List.getElem_set_self]
      exact ⟨by rw [World.cell?_setCell_other _ _ _ _ (hne _ _ (by omega))]; exact c0, World.cell?_setCell_same _ _ _ c1, by rw [World.cell?_setCell_other _ _ _ _ (hne _ _ (by omega))]; exact c2⟩
    · rw [List.getElem_set_ne (fun e' => e e'.symm)]
      exact ⟨by rw [World.cell?_setCell_other _ _ _ _ (hne _ _ (by omega))]; exact c0, by rw [World.cell?_setCell_other _ _ _ _ (hne _ _ (by omega))]; exact c1, by rw [World.cell?_setCell_other _ _ _ _ (hne _ _ (by omega))]; exact c2⟩
/-- A cell of the row has been set. -/
theorem LD6.turn {gb j : Nat} {u : Value} (h : LD6 g a cap zs w rs tb (some ⟨gb, 0, none⟩) cp ts p W) (hne : ts ≠ []) (he : EL (rs + 1) (W.setCell ⟨gb, j, none⟩ u) (some ⟨gb, 0, none⟩) us) (hl : us.length = ts.length) : LD6 g a cap zs w rs tb (some ⟨gb, 0, none⟩) cp us p (W.setCell ⟨gb, j, none⟩ u) := by
  have o := h.ord
  have hgb : rs + 1 ≤ gb := by
    rcases h.el with h0 | ⟨k, e, hk, _⟩
    · exact absurd h0 hne
    · cases e; exact hk
  have hgt : gb ≠ tb := by
    rcases h.ap with h0 | h0
    · exact absurd h0 hne
    · exact fun e => h0 (by simp [blk, e])
  have hg : W.grownBy (W.setCell ⟨gb, j, none⟩ u) (some gb) := grown_set W gb j _
  refine ⟨h.rd.kept hg (fun k e => by cases e; omega), gr_own h.gr hg (fun i e => by cases e; omega), ?_, (World.frozen?_setCell _ _ _ _).trans h.rf, ?_, (World.frozen?_setCell _ _ _ _).trans h.tf, he, .inr (fun e => hgt (by simpa [blk] using e)), o⟩
  · exact (World.cell?_of_block (Below.heap_setCell _ _ _ _ (by show rs ≠ gb; omega))).trans h.rc
  · rw [hl]
    exact (World.cell?_of_block (Below.heap_setCell _ _ _ _ (fun e => hgt e.symm))).trans h.tc
theorem Tiny.set {P T k : Nat} {e : En} (h : Tiny P T ts) (he : e.path.size ≤ P ∧ e.text.size ≤ T) : Tiny P T (ts.set k e) := fun x hx => by
  rcases List.mem_or_eq_of_mem_set hx with h1 | h1
  · exact h x h1
  · subst h1; exact he
theorem Tiny.wide {P T P' T' : Nat} (h : Tiny P T ts) (hP : P ≤ P') (hT : T ≤ T') : Tiny P' T' ts := fun x hx => ⟨Nat.le_trans (h x hx).1 hP, Nat.le_trans (h x hx).2 hT⟩
theorem Tiny.setRel {P T : Nat} {e : En} (h : Tiny P T ts) (he : e.path.size ≤ P ∧ e.text.size ≤ T) (hs : SetRel ts e us) : Tiny P T us := fun x hx => by
  rcases (hs.mem x).1 hx with rfl | ⟨h1, _⟩
  · exact he
  · exact h x h1
theorem setRel_ne {e : En} (hs : SetRel ts e us) : us ≠ [] := fun h => by
  have := (hs.mem e).2 (.inl rfl)
  rw [h] at this
  cases this
end

/-- Some tree that was drawn. -/
def TreeS (P T N : Nat) (g : Nat) (a : Option Addr) (cap : Nat) (zs : List Int) (K p : Nat) (w : World) (e : Ending) (w' : World) : Prop :=
  ∃ ad cp ts, e = .returned (.agg #[.slice ad (List.length ts) cp]) ∧ EL w.heap.size w' ad ts ∧ ts.length ≤ N ∧ Tiny P T ts ∧ NilOk ad cp ∧ Dr g a cap zs w w' p K

theorem LD6.back {g : Nat} {a : Option Addr} {cap : Nat} {zs : List Int} {w : World} {rs tb : Nat} {ad : Option Addr} {cp : Nat} {ts : List En} {p p2 K : Nat} {W : World} (h : LD6 g a cap zs w rs tb ad cp ts p2 W) (hp : p2 ≤ p + K) : EL w.heap.size (W.setCell ⟨rs, 0, none⟩ (.slice ad ts.length cp)) ad ts ∧ Dr g a cap zs w (W.setCell ⟨rs, 0, none⟩ (.slice ad ts.length cp)) p K := by
  have hg : W.grownBy (W.setCell ⟨rs, 0, none⟩ (.slice ad ts.length cp)) (some rs) := grown_set W rs 0 _
  have o := h.ord
  exact ⟨(h.el.grown hg (fun k _ hk _ e => by cases e; omega)).mono (by omega), ⟨p2, hp, h.rd.kept hg (fun k e => by cases e; omega)⟩, gr_own h.gr hg (fun j e => by cases e; omega)⟩
end Go.Proofs.Ytjlflmbifeocbaa
