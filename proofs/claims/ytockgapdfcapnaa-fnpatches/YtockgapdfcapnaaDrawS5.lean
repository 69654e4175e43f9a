/-
  spec.l5Spoil.
-/
import Derived.Test.YtockgapdfcapnaaZbi
namespace Go.Proofs.Ytockgapdfcapnaa
open Go.RowKit

/-- As TreeS, and there is room. -/
def TreeSR (P T N : Nat) (g : Nat) (a : Option Addr) (cap : Nat) (zs : List Int) (K p : Nat) (w : World) (e : Ending) (w' : World) : Prop :=
  ∃ ad cp ts, e = .returned (.agg #[.slice ad (List.length ts) cp]) ∧ EL w.heap.size w' ad ts ∧ ts.length ≤ N ∧ Tiny P T ts ∧ NilOk ad cp ∧ Dr g a cap zs w w' p K ∧ ts.length ≤ cp

/-- What is held once there is an entry. -/
def SpI (P T N : Nat) (g : Nat) (a : Option Addr) (cap : Nat) (zs : List Int) (w : World) (rs tb p : Nat) (W : World) : Prop :=
  ∃ gb cp ts, LD6 g a cap zs w rs tb (some ⟨gb, 0, none⟩) cp ts p W ∧ ts ≠ [] ∧ ts.length ≤ N ∧ Asc ts ∧ Tiny P T ts ∧ W.ownsRow (rs + 1) 72 3 (.slice (some ⟨gb, 0, none⟩) ts.length cp) ts.length (ecells ts)

theorem row_block {W : World} {B : Nat} {e : TypeId} {x : Addr} {n cp : Nat} {xs : List Value} (h : W.ownsRow B e 3 (.slice (some x) n cp) n xs) : ∃ gb, x = ⟨gb, 0, none⟩ ∧ B ≤ gb ∧ gb < W.heap.size := by
  rcases h.2 with ⟨h0, _⟩ | ⟨gb, c, cur, hv, h1, h2, _⟩
  · cases h0
  · cases hv
    exact ⟨gb, rfl, h1, (Array.getElem?_eq_some_iff.1 h2).1⟩

theorem LD6.append {g : Nat} {a : Option Addr} {cap : Nat} {zs : List Int} {w : World} {rs tb gb g3 cp cap3 : Nat} {ts : List En} {e : En} {p : Nat} {X W : World} (h : LD6 g a cap zs w rs tb (some ⟨gb, 0, none⟩) cp ts p X) (hgb : rs + 1 ≤ gb) (hgt : gb ≠ tb) (hg : X.grownBy W (some gb)) (hown : W.ownsRow (rs + 1) 72 3 (.slice (some ⟨g3, 0, none⟩) (ts.length + 1) cap3) (ts.length + 1) (ecells ts ++ ecell e)) (h3 : g3 ≠ tb) :
    LD6 g a cap zs w rs tb (some ⟨g3, 0, none⟩) cap3 (ts ++ [e]) p (W.setCell ⟨tb, 0, none⟩ (.slice (some ⟨g3, 0, none⟩) (ts.length + 1) cap3)) := by
  have o := h.ord
  have b1 := hg.block rs h.ltr (by simp; omega)
  have b2 := hg.block tb h.lt (by simp; omega)
  have hs : W.grownBy (W.setCell ⟨tb, 0, none⟩ (.slice (some ⟨g3, 0, none⟩) (ts.length + 1) cap3)) (some tb) := grown_set W tb 0 _
  have ht : W.cell? ⟨tb, 0, none⟩ = some (.slice (some ⟨gb, 0, none⟩) ts.length cp) := (World.cell?_of_block b2).trans h.tc
  refine ⟨(h.rd.kept hg (fun k e => by cases e; omega)).kept hs (fun k e => by cases e; omega), gr_own (gr_own h.gr hg (fun j e => by cases e; omega)) hs (fun j e => by cases e; omega), ?_, (World.frozen?_setCell _ _ _ _).trans (fz_blk b1 h.rf), ?_, (World.frozen?_setCell _ _ _ _).trans (fz_blk b2 h.tf), ?_, .inr (fun e => h3 (by simpa [blk] using e)), o⟩
  · exact (World.cell?_of_block (Below.heap_setCell _ _ _ _ (by show rs ≠ tb; omega))).trans ((World.cell?_of_block b1).trans h.rc)
  · rw [List.length_append]
    exact World.cell?_setCell_same _ _ _ ht
  · have hrow : W.ownsRow (rs + 1) 72 3 (.slice (some ⟨g3, 0, none⟩) (ts ++ [e]).length cap3) (ts ++ [e]).length (ecells (ts ++ [e])) := by
      rw [ecells_snoc, List.length_append]
      exact hown
    exact (el_of_row hrow).grown hs (fun k hk _ _ e => by cases e; simp [blk] at hk; exact h3 hk)

set_option maxRecDepth 100000 in
set_option maxHeartbeats 20000000 in
theorem l5SpoilB_any (P T N : Nat) (hP1 : 1 ≤ P) (hP : P ≤ 1000) (hTT : T ≤ 100000) (hN1 : 98 ≤ N) (hN : N ≤ 1000) (g : Nat) (a : Option Addr) (cap : Nat) (zs : List Int) (p : Nat) (ad0 : Option Addr) (cp0 : Nat) (t0 : List En) (w : World) (h : Rd w g a cap zs p) (hp : p ≤ 10000000) (hes : ES w ad0 t0) (hno : NilOk ad0 cp0) (hA : Asc t0) (hT : Tiny P T t0) (hn : t0.length ≤ N) :
    Calls Try.prog 33 #[.pointer (some ⟨g, 0, none⟩), .agg #[.slice ad0 t0.length cp0]] w (TreeSR (P + 60) (T + 1580) (N + 3) g a cap zs 10 p w) := by
  obtain ⟨i0, hi, hz0, hz1, hzi⟩ := info_parts Try.infoEntry
  have hglt := h.lt
  have hal : Below w.heap.size w ((w.alloc (.cells #[.slice ad0 t0.length cp0] 32)).alloc (.cells #[.slice none 0 0] 32)) := ((Below.refl _ _).alloc (Nat.le_refl _) _).alloc (by simp) _
  have r0 : ((w.alloc (.cells #[.slice ad0 t0.length cp0] 32)).alloc (.cells #[.slice none 0 0] 32)).cell? ⟨w.heap.size + 1, 0, none⟩ = some (.slice none 0 0) := by simp [go_sem]
  have rf0 : ((w.alloc (.cells #[.slice ad0 t0.length cp0] 32)).alloc (.cells #[.slice none 0 0] 32)).frozen? ⟨w.heap.size + 1, 0, none⟩ = false := by simp [go_sem]
  have hsz : ((w.alloc (.cells #[.slice ad0 t0.length cp0] 32)).alloc (.cells #[.slice none 0 0] 32)).heap.size = w.heap.size + 1 + 1 := by simp
  have hcp := l5CopyR_any ad0 cp0 t0 _ (hes.below hal) (by omega) hno
  go_enter Try.func33, Try.ntmps33
  go_wp2_with fail
  refine hcp.mono ?_
  rintro e w2 ⟨ad, cp, rfl, hrow, ⟨x, rfl⟩, hb2⟩
  clear hcp
  obtain ⟨rs, hrs⟩ : ∃ rs, rs = w.heap.size + 1 := ⟨_, rfl⟩
  rw [hsz, ← hrs] at hrow
  have hb2' := hal.trans (hb2.mono hal.size)
  have r2 := cell_later hb2 r0
  have rf2 : w2.frozen? ⟨w.heap.size + 1, 0, none⟩ = false := (hb2.frozen (p := ⟨w.heap.size + 1, 0, none⟩) (by rw [hsz]; show w.heap.size + 1 < _; omega)).trans rf0
  have hs2 : w.heap.size + 1 + 1 ≤ w2.heap.size := by have := hb2.size; omega
  rw [← hrs] at r2 rf2 ⊢
  obtain ⟨gb, rfl, hgb1, hgb2⟩ := row_block hrow
  have hba := below_oneD w2 (.cells #[.slice (some ⟨gb, 0, none⟩) t0.length cp] 32)
  have hL0 : LD6 g a cap zs w rs w2.heap.size (some ⟨gb, 0, none⟩) cp t0 p (w2.alloc (.cells #[.slice (some ⟨gb, 0, none⟩) t0.length cp] 32)) := by
    refine ⟨(h.below hb2').below hba, gr_trans (gr_below hb2') (gr_below hba), cell_later hba r2, (hba.frozen (p := ⟨rs, 0, none⟩) (by show rs < _; omega)).trans rf2, by simp, by simp, (el_of_row hrow).below hba, .inr (fun e => by simp [blk] at e; omega), by omega⟩
  have hrow3 := owns_below hrow hba
  have HO : Keep (rs = w.heap.size + 1 ∧ rs < w2.heap.size) := ⟨by omega⟩
  clear hrow r2 rf2 r0 rf0 hb2 hb2' hal hes hno hrs hs2 hba hsz hgb1 hgb2
  go_upto_if 15 with fail
  generalize w2.alloc (.cells #[.slice (some ⟨gb, 0, none⟩) t0.length cp] 32) = W3 at *
  generalize w2.heap.size = tb at *
  go_cut [17] (fun _ wx => SpI P T N g a cap zs w rs tb p wx)
  case first =>
    have t1 := hL0.tc
    have t2 := hL0.tf
    by_cases h0 : t0 = []
    · subst h0
      have hB : ((([] : List En).length : Int) == 0) = true := rfl
      have hrn : (W3.alloc (.cells #[.string ⟨#[97]⟩, .string ⟨#[]⟩, .bool false] 72)).ownsRow (rs + 1) 72 3 (.slice (some ⟨W3.heap.size, 0, none⟩) 1 1) 1 (ecells [⟨⟨#[97]⟩, ⟨#[]⟩, false⟩]) :=
        ⟨rfl, .inr ⟨W3.heap.size, 1, _, rfl, by have := hL0.ord; have := hL0.lt; omega, heap_alloc_new _ _, Nat.le_refl _, by unfold maxLen; omega, rfl, rfl⟩⟩
      have t1a := fun o => (hL0.al o).tc
      have t2a := fun o => (hL0.al o).tf
      have hLn := (hL0.al (.cells #[.string ⟨#[97]⟩, .string ⟨#[]⟩, .bool false] 72)).put (ad' := some ⟨W3.heap.size, 0, none⟩) (cp' := 1) (us := [⟨⟨#[97]⟩, ⟨#[]⟩, false⟩]) (el_of_row (cap := 1) hrn) (.inr (fun e => by have := hL0.lt; simp [blk] at e; omega))
      have hrn2 := hrn.kept (grown_set0 _ tb 0 (.slice (some ⟨W3.heap.size, 0, none⟩) 1 1)) (Or.inr (fun e => by have := hL0.lt; simp [Value.ownBlock] at e; omega))
      go_wp2_with fail
      go_meet
      case rel => exact ⟨W3.heap.size, 1, [⟨⟨#[97]⟩, ⟨#[]⟩, false⟩], hLn, by simp, by simp; omega, by simp [Asc], fun x hx => by rw [List.mem_singleton.1 hx]; exact ⟨by show 1 ≤ P; omega, Nat.zero_le _⟩, hrn2⟩
    · have hB : ((t0.length : Int) == 0) = false := by
        have : 0 < t0.length := List.length_pos_iff.2 h0
        simp
        exact h0
      go_wp2_with fail
      go_meet
      case rel => exact ⟨gb, cp, t0, hL0, h0, hn, hA, hT, hrow3⟩
  case rest =>
    clear hL0 hrow3
    obtain ⟨gb, cp, ts, hL, hne, hn, hA, hT, hrow⟩ := hcut
    have hgb : rs + 1 ≤ gb := by obtain ⟨k, e, h1, _⟩ := row_block hrow; cases e; exact h1
    have hgt : gb ≠ tb := by
      rcases hL.ap with h0 | h0
      · exact absurd h0 hne
      · exact fun e => h0 (by simp [blk, e])
    have hpos : 0 < ts.length := List.length_pos_iff.2 hne
    have hgr : g < rs + 1 := by have := hL.ord; omega
    have t0 := hL.tc
    go_wp2_with fail
    refine (pick_any g a cap zs p ts.length wc hL.rd (by omega) (by omega) (by omega)).mono ?_
    rintro e w4 ⟨k, rfl, hk, hg4, hR4⟩
    have hL4 := hL.step hg4 hR4
    have hrow4 := owns_rd hrow hg4 hgr
    clear hL hrow hg4 hR4 t0
    go_wp2_with fail
    refine (pick_any g a cap zs (p + 1) 5 w4 hL4.rd (by omega) (by omega) (by omega)).mono ?_
    rintro e w5 ⟨y, rfl, hy, hg5, hR5⟩
    have hL5 := hL4.step hg5 hR5
    have hrow5 := owns_rd hrow4 hg5 hgr
    have HRM : Keep (ts.length ≤ cp) := ⟨row_room hrow5⟩
    clear hL4 hrow4 hg5 hR5
    have hk' : (k : Int) < ts.length := by omega
    obtain ⟨x0, x1, x2⟩ : w5.cell? ⟨gb, k * 3, none⟩ = some (.string ts[k].path) ∧ w5.cell? ⟨gb, k * 3 + 1, none⟩ = some (.string ts[k].text) ∧ w5.cell? ⟨gb, k * 3 + 2, none⟩ = some (.bool ts[k].runs) := by
      rcases hL5.el with h0 | ⟨g', e, _, _, _, h4⟩
      · exact absurd h0 hne
      · cases e; exact h4 k hk
    have hkT := hT _ (List.getElem_mem hk)
    have t5 := hL5.tc
    by_cases q0 : y = 0
    · have hB0 : ((y : Int) == 0) = true := by simp; omega
      clear q0
      obtain ⟨xp, hxp⟩ : ∃ xp, xp = ts[k].path := ⟨_, rfl⟩
      rw [← hxp] at x0
      have hxz : xp.size ≤ P := by rw [hxp]; exact hkT.1
      clear hxp
      have hsp := spoilS_any g a cap zs (p + 1 + 1) xp w5.drew hL5.drew.rd (by omega) (by omega)
      have HL : Keep (LD6 g a cap zs w rs tb (some ⟨gb, 0, none⟩) cp ts (p + 1 + 1) w5.drew) := ⟨hL5.drew⟩
      have hafter : ∀ (W' : World) (p6 : Nat), w5.drew.grownBy W' (some g) → Rd W' g a cap zs p6 → LD6 g a cap zs w rs tb (some ⟨gb, 0, none⟩) cp ts p6 W' ∧ (∀ j, W'.frozen? ⟨gb, j, none⟩ = false) ∧ W'.cell? ⟨gb, k * 3, none⟩ = some (.string xp) := fun W' p6 hg hR => by
        have h6 := HL.out.step hg hR
        refine ⟨h6, fun j => ?_, hg.cell (a := ⟨gb, k * 3, none⟩) x0 (by simp; omega)⟩
        rcases h6.el with h0 | ⟨g', e, _, _, h3, _⟩
        · exact absurd h0 hne
        · cases e; exact h3 j
      go_upto_region 11 with fail
      go_region_with (go_at_call 66; refine hsp.mono ?_; rintro e w6 ⟨o, rfl, ho, ⟨p6, hp6, hR6⟩, hg6⟩; have hA6 := hafter w6 p6 hg6 hR6; have tc6 := hA6.1.tc; have fz6 := hA6.2.1; have ck6 := hA6.2.2)
      all_goals
        have L7 := hA6.1.turn hne (hA6.1.el.setPath (s := o) hk) (by simp)
        have t7 := L7.tc
        have r7 := L7.rc
        have rf7 := L7.rf
        obtain ⟨b1, b2⟩ := L7.back (p := p) (K := 10) (by omega)
        have hTn : Tiny (P + 60) (T + 1580) (ts.set k ⟨o, ts[k].text, ts[k].runs⟩) := (hT.wide (by omega) (by omega)).set ⟨by show o.size ≤ P + 60; omega, by show ts[k].text.size ≤ T + 1580; omega⟩
        have hln : (ts.set k ⟨o, ts[k].text, ts[k].runs⟩).length = ts.length := by simp
        generalize ts.set k ⟨o, ts[k].text, ts[k].runs⟩ = us at *
        rw [hln] at t7 b1 b2
        have HLN : Keep (us.length = ts.length) := ⟨hln⟩
        clear hln hA6 tc6 fz6 ck6 hsp hafter HL L7 t5
        go_wp2
        refine bodyPost_ret (v := .agg #[.slice (some ⟨gb, 0, none⟩) ts.length cp]) ?_ rfl ⟨some ⟨gb, 0, none⟩, cp, us, by rw [HLN.out], b1, by rw [HLN.out]; omega, hTn, .inl ⟨_, rfl⟩, b2, by rw [HLN.out]; exact HRM.out⟩
        go_light
        simp [results, Try.results33, go_sem, r7]
    have hB0 : ((y : Int) == 0) = false := by simp; omega
    by_cases q1 : y = 1
    · have hB1 : ((y : Int) == 1) = true := by simp; omega
      clear q0 q1
      have HL : Keep (LD6 g a cap zs w rs tb (some ⟨gb, 0, none⟩) cp ts (p + 1 + 1) w5.drew) := ⟨hL5.drew⟩
      have hpk := pick_any g a cap zs (p + 1 + 1) 2 w5.drew hL5.drew.rd (by omega) (by omega) (by omega)
      have hmany : ∀ (z : Nat) (W : World), z < 2 → Calls Try.prog 38 #[.string ⟨#[116]⟩, .int .i64 (1500 + (z : Int))] W fun e w' => ∃ o : ByteArray, e = .returned (.string o) ∧ o.size ≤ 1501 ∧ W = w' := fun z W hz => by
        have := many_any ⟨#[116]⟩ (1500 + z) W (by show 1 * (1500 + z) ≤ _; omega) (by omega) (by show 1 ≤ 1; omega) (by show 1 ≤ _; omega)
        rw [show ((1500 + z : Nat) : Int) = 1500 + (z : Int) by omega] at this
        exact this.mono (fun e w' ⟨o, h1, h2, h3⟩ => ⟨o, h1, by rw [h2]; show 1 * (1500 + z) ≤ _; omega, h3⟩)
      have hafter : ∀ (W' : World) (p6 : Nat), w5.drew.grownBy W' (some g) → Rd W' g a cap zs p6 → LD6 g a cap zs w rs tb (some ⟨gb, 0, none⟩) cp ts p6 W' ∧ (∀ j, W'.frozen? ⟨gb, j, none⟩ = false) ∧ W'.cell? ⟨gb, k * 3 + 1, none⟩ = some (.string ts[k].text) := fun W' p6 hg hR => by
        have h6 := HL.out.step hg hR
        refine ⟨h6, fun j => ?_, hg.cell (a := ⟨gb, k * 3 + 1, none⟩) x1 (by simp; omega)⟩
        rcases h6.el with h0 | ⟨g', e, _, _, h3, _⟩
        · exact absurd h0 hne
        · cases e; exact h3 j
      go_upto_region 13 with fail
      go_region_with (first
        | (go_at_call 25; refine hpk.mono ?_; rintro e w6 ⟨z, rfl, hz, hg6, hR6⟩; obtain ⟨M, hM, hwM⟩ : ∃ M : Int, 1500 + (z : Int) = M ∧ IntKind.i64.wrap (1500 + (z : Int)) = M := ⟨_, rfl, (by rw [IntKind.wrap_i64]; omega)⟩; have hmM : ∀ W, Calls Try.prog 38 #[.string ⟨#[116]⟩, .int .i64 M] W fun e w' => ∃ o : ByteArray, e = .returned (.string o) ∧ o.size ≤ 1501 ∧ W = w' := (fun W => hM ▸ hmany z W hz); clear hM; have hA6 := hafter w6 (p + 1 + 1 + 1) hg6 hR6; have tc6 := hA6.1.tc; have fz6 := hA6.2.1; have ck6 := hA6.2.2)
        | (go_at_call 38; refine (hmM _).mono ?_; rintro e w7 ⟨o, rfl, ho, rfl⟩))
      all_goals
        have L7 := hA6.1.turn hne (hA6.1.el.setText (s := o) hk) (by simp)
        have t7 := L7.tc
        have r7 := L7.rc
        have rf7 := L7.rf
        obtain ⟨b1, b2⟩ := L7.back (p := p) (K := 10) (by omega)
        have hTn : Tiny (P + 60) (T + 1580) (ts.set k ⟨ts[k].path, o, ts[k].runs⟩) := (hT.wide (by omega) (by omega)).set ⟨by show ts[k].path.size ≤ P + 60; omega, by show o.size ≤ T + 1580; omega⟩
        have hln : (ts.set k ⟨ts[k].path, o, ts[k].runs⟩).length = ts.length := by simp
        generalize ts.set k ⟨ts[k].path, o, ts[k].runs⟩ = us at *
        rw [hln] at t7 b1 b2
        have HLN : Keep (us.length = ts.length) := ⟨hln⟩
        clear hln hA6 tc6 fz6 ck6 hpk hmany hafter HL L7 t5
        go_wp2
        refine bodyPost_ret (v := .agg #[.slice (some ⟨gb, 0, none⟩) ts.length cp]) ?_ rfl ⟨some ⟨gb, 0, none⟩, cp, us, by rw [HLN.out], b1, by rw [HLN.out]; omega, hTn, .inl ⟨_, rfl⟩, b2, by rw [HLN.out]; exact HRM.out⟩
        go_light
        simp [results, Try.results33, go_sem, r7]
    have hB1 : ((y : Int) == 1) = false := by simp; omega
    by_cases q2 : y = 2
    · have hB2 : ((y : Int) == 2) = true := by simp; omega
      clear q0 q1 q2
      have hb1 : Below w5.heap.size w5 ((w5.alloc (.cells #[.string ts[k].path, .string ts[k].text, .bool ts[k].runs] 72)).drew) := ((Below.refl _ _).alloc (Nat.le_refl _) _).drew
      have o1a : ∀ o, (w5.alloc o).cell? ⟨tb, 0, none⟩ = some (.slice (some ⟨gb, 0, none⟩) ts.length cp) := fun o => (hL5.al o).tc
      have hLb := hL5.later hb1
      have hrl := hL5.ltr
      have htl := hL5.lt
      go_upto_region 15 with fail
      go_region_law (refine step_append_lies _ rfl _ _ 30 rfl (rs + 1) 72 i0 _ 3 40 Try.underlying30 hi hz0 hz1 hzi rfl (by decide) (.slice (some ⟨gb, 0, none⟩) ts.length cp) ts.length (ecells ts) rfl (by exact owns_below hrow5 hb1) ⟨w5.heap.size, 0, none⟩ 1 1 (ecell ts[k]) rfl rfl (by exact news_3 _ _ _ _ (by simp)) (by exact one_3 _) (by omega) (by unfold maxLen; omega) (by omega) (by simp; omega) (w5.heap.size + 1) (by simp) ?_; intro g3 cap3 w7 hown3 hgrow3 hat3 hlt3; have hb7 := hgrow3.block tb (by exact hLb.lt) (by exact fun e => hgt (by simpa [Value.ownBlock] using e.symm)); have hc3 := (World.cell?_of_block hb7 : w7.cell? ⟨tb, 0, none⟩ = _).trans hLb.tc; have hf3 := fz_blk hb7 hLb.tf)
      all_goals
        have hg3t : g3 ≠ tb := by
          rcases hat3 with h3 | h3
          · intro e; simp [Value.ownBlock] at h3; omega
          · omega
        have L7 := hLb.append (e := ts[k]) hgb hgt hgrow3 hown3 hg3t
        have t7 := L7.tc
        have r7 := L7.rc
        have rf7 := L7.rf
        obtain ⟨b1, b2⟩ := L7.back (p := p) (K := 10) (by omega)
        have hTn : Tiny (P + 60) (T + 1580) (ts ++ [ts[k]]) := fun x hx => by
          rcases List.mem_append.1 hx with h1 | h1
          · exact (hT.wide (by omega) (by omega)) x h1
          · rw [List.mem_singleton.1 h1]; exact (hT.wide (by omega) (by omega)) _ (List.getElem_mem hk)
        have hln : (ts ++ [ts[k]]).length = ts.length + 1 := by simp
        generalize ts ++ [ts[k]] = us at *
        rw [hln] at t7 b1 b2
        have HLN : Keep (us.length = ts.length + 1) := ⟨hln⟩
        have HR3 : Keep (ts.length + 1 ≤ cap3) := ⟨row_room hown3⟩
        clear hln hc3 hf3 hb7 hgrow3 hown3 hat3 hlt3 L7 t5 o1a hLb hb1
        go_wp2
        refine bodyPost_ret (v := .agg #[.slice (some ⟨g3, 0, none⟩) (ts.length + 1) cap3]) ?_ rfl ⟨some ⟨g3, 0, none⟩, cap3, us, by rw [HLN.out], b1, by rw [HLN.out]; omega, hTn, .inl ⟨_, rfl⟩, b2, by rw [HLN.out]; exact HR3.out⟩
        go_light
        simp [results, Try.results33, go_sem, r7]
    have hB2 : ((y : Int) == 2) = false := by simp; omega
    clear hrow5
    by_cases q3 : y = 3
    · have hB3 : ((y : Int) == 3) = true := by simp; omega
      clear q0 q1 q2 q3 t5 x0 x1 x2
      go_wp2_with fail
      refine (pick_any g a cap zs (p + 1 + 1) 2 w5 hL5.rd (by omega) (by omega) (by omega)).mono ?_
      rintro e w6 ⟨z, rfl, hz, hg6, hR6⟩
      have hL6 := hL5.step hg6 hR6
      have HA : Keep (Asc ts ∧ Tiny P T ts ∧ NilOk (some ⟨gb, 0, none⟩) cp ∧ ts.length ≤ cp) := ⟨⟨hA, hT, .inl ⟨_, rfl⟩, HRM.out⟩⟩
      clear hL5 hg6 hR6 hA hT hkT
      go_wp2
      go_loopw [8] (fun i wr => ∃ (j : Nat) (ad : Option Addr) (cp : Nat) (us : List En), i = .int .i64 j ∧ Keep (HasZ j us) ∧ j ≤ 101 ∧ LD6 g a cap zs w rs tb ad cp us (p + 1 + 1 + 1) wr ∧ Keep (Asc us ∧ Tiny (P + 60) T us ∧ NilOk ad cp ∧ us.length ≤ cp) ∧ us.length ≤ N + 3) (fun i _ => 102 - (intOf i).toNat)
      case atStart => exact ⟨0, _, cp, ts, rfl, ⟨fun j hj => by omega⟩, Nat.zero_le _, hL6, ⟨⟨HA.out.1, HA.out.2.1.wide (by omega) (Nat.le_refl _), HA.out.2.2⟩⟩, by omega⟩
      case round =>
        clear hL6 HA
        obtain ⟨j, ad, cp, us, rfl, HZ, hj, hL, HT, hnn⟩ := hrel
        have t1 := hL.tc
        have t2 := hL.tf
        have hkl := HZ.out.count (by omega)
        by_cases hlt : (us.length : Int) < 100 + z
        · have hk99 : j ≤ 100 := by omega
          have hcv := conv_two (97 + (j : Int) / 26) (97 + (j : Int) % 26) wr
          have hLa := hL.al (.cells #[.int .u8 (97 + (j : Int) / 26), .int .u8 (97 + (j : Int) % 26)] 5)
          have hset := l5SetC_any ad cp us ⟨zp j, ⟨#[]⟩, false⟩ _ hLa.el.es (by omega) HT.out.1
          have hc3 : ¬ 9223372036854775807 < 1 + (strOfNums [97 + (j : Int) / 26, 97 + (j : Int) % 26]).size := by rw [strOfNums_size]; simp
          go_wp2_with fail
          refine hset.mono ?_
          rintro e w7 ⟨ad5, cap5, us5, rfl, hrel5, hel5, hb5, hlen5, hrm5⟩
          have hL5 := hLa.later hb5
          have t3 := hL5.tc
          have t4 := hL5.tf
          have hL7 := hL5.putNew (cp' := cap5) hel5 hLa.lt
          have HZ5 : Keep (HasZ (j + 1) us5) := ⟨HZ.out.set rfl hrel5⟩
          have HT5 : Keep (Asc us5 ∧ Tiny (P + 60) T us5 ∧ NilOk ad5 cap5 ∧ us5.length ≤ cap5) := ⟨⟨hrel5.asc, HT.out.2.1.setRel ⟨by rw [zp_size]; omega, Nat.zero_le _⟩ hrel5, NilOk.ne hel5 (setRel_ne hrel5), hrm5⟩⟩
          clear hset hcv hLa hL hL5 t1 t2 hb5 hel5 hrel5 hc3
          go_wp2
          go_roundw
          case rel => exact ⟨j + 1, ad5, cap5, us5, by congr 1, HZ5, by omega, hL7, HT5, by omega⟩
          case measure => simp only [intOf]; omega
        · have t3 := hL.rc
          have t4 := hL.rf
          obtain ⟨he1, he2⟩ := hL.back (p := p) (K := 10) (by omega)
          clear hL
          go_wp2
          refine bodyPost_ret (v := .agg #[.slice ad us.length cp]) ?_ rfl ⟨ad, cp, us, rfl, he1, by omega, HT.out.2.1.wide (by omega) (by omega), HT.out.2.2.1, he2, HT.out.2.2.2⟩
          go_light
          simp [results, Try.results33, go_sem, t3]
    have hB3 : ((y : Int) == 3) = false := by simp; omega
    clear q0 q1 q2 q3 x1 x2
    have hcI : ¬ 9223372036854775807 < ts[k].path.size + 3 := by omega
    have hcJ : ¬ 9223372036854775807 < ts[k].path.size + 2 := by omega
    have hset := l5SetC_any (some ⟨gb, 0, none⟩) cp ts ⟨ts[k].path ++ ⟨#[47, 105, 110]⟩, ⟨#[]⟩, false⟩ w5 hL5.el.es (by omega) hA
    go_wp2_with fail
    refine hset.mono ?_
    rintro e w6 ⟨ad6, cap6, us6, rfl, hrel6, hel6, hb6, hlen6, hrm6⟩
    have hL6 := hL5.later hb6
    have t3 := hL6.tc
    have t4 := hL6.tf
    have hL7 := hL6.putNew (cp' := cap6) hel6 hL5.lt
    have HT6 : Keep (Asc us6 ∧ Tiny (P + 60) T us6 ∧ NilOk ad6 cap6 ∧ us6.length ≤ cap6) := ⟨⟨hrel6.asc, (hT.wide (by omega) (Nat.le_refl _)).setRel ⟨by show (ts[k].path ++ _).size ≤ P + 60; rw [ByteArray.size_append]; show ts[k].path.size + 3 ≤ P + 60; omega, Nat.zero_le _⟩ hrel6, NilOk.ne hel6 (setRel_ne hrel6), hrm6⟩⟩
    have hl6 : us6.length ≤ N + 1 := by omega
    have hkz := hkT.1
    clear hset hL5 hL6 hb6 hel6 hrel6 t5 x0 hlen6
    generalize ts[k].path = xp at *
    have hpk2 := pick_any g a cap zs (p + 1 + 1) 2 _ hL7.rd (by omega) (by omega) (by omega)
    go_wp2_with fail
    refine hpk2.mono ?_
    rintro e w8 ⟨z, rfl, hz, hg8, hR8⟩
    have hL8 := hL7.step hg8 hR8
    clear hL7 hg8 hR8 t3 t4 hpk2
    have t8 := hL8.tc
    by_cases z0 : z = 0
    · have hBz : ((z : Int) == 0) = true := by simp; omega
      clear z0
      have hset := l5SetC_any ad6 cap6 us6 ⟨xp ++ ⟨#[33, 98]⟩, ⟨#[]⟩, false⟩ w8 hL8.el.es (by omega) HT6.out.1
      go_wp2_with fail
      refine hset.mono ?_
      rintro e w9 ⟨ad9, cap9, us9, rfl, hrel9, hel9, hb9, hlen9, hrm9⟩
      have hL9 := hL8.later hb9
      have t3 := hL9.tc
      have t4 := hL9.tf
      have hL10 := hL9.putNew (cp' := cap9) hel9 hL8.lt
      have t9 := hL10.tc
      have r9 := hL10.rc
      have rf9 := hL10.rf
      have hn9 := NilOk.ne (cp := cap9) hel9 (setRel_ne hrel9)
      obtain ⟨he1, he2⟩ := hL10.back (p := p) (K := 10) (by omega)
      have hT9 : Tiny (P + 60) (T + 1580) us9 := ((HT6.out.2.1).setRel ⟨by show (xp ++ _).size ≤ P + 60; rw [ByteArray.size_append]; show xp.size + 2 ≤ P + 60; omega, Nat.zero_le _⟩ hrel9).wide (Nat.le_refl _) (by omega)
      clear hset hL8 hL9 hL10 hb9 hel9 hrel9 t8
      go_wp2
      refine bodyPost_ret (v := .agg #[.slice ad9 us9.length cap9]) ?_ rfl ⟨ad9, cap9, us9, rfl, he1, by omega, hT9, hn9, he2, hrm9⟩
      go_light
      simp [results, Try.results33, go_sem, r9]
    · have hBz : ((z : Int) == 0) = false := by simp; omega
      clear z0
      have r9 := hL8.rc
      have rf9 := hL8.rf
      obtain ⟨he1, he2⟩ := hL8.back (p := p) (K := 10) (by omega)
      clear hL8
      go_wp2
      refine bodyPost_ret (v := .agg #[.slice ad6 us6.length cap6]) ?_ rfl ⟨ad6, cap6, us6, rfl, he1, by omega, HT6.out.2.1.wide (Nat.le_refl _) (by omega), HT6.out.2.2.1, he2, HT6.out.2.2.2⟩
      go_light
      simp [results, Try.results33, go_sem, r9]
theorem l5Spoil_any (g : Nat) (a : Option Addr) (cap : Nat) (zs : List Int) (p : Nat) (ad0 : Option Addr) (cp0 : Nat) (t0 : List En) (w : World) (h : Rd w g a cap zs p) (hp : p ≤ 10000000) (hes : ES w ad0 t0) (hno : NilOk ad0 cp0) (hA : Asc t0) (hT : Tiny 40 20 t0) (hn : t0.length ≤ 100) :
    Calls Try.prog 33 #[.pointer (some ⟨g, 0, none⟩), .agg #[.slice ad0 t0.length cp0]] w (TreeS 100 1600 103 g a cap zs 10 p w) :=
  (l5SpoilB_any 40 20 100 (by omega) (by omega) (by omega) (by omega) (by omega) g a cap zs p ad0 cp0 t0 w h hp hes hno hA hT hn).mono (fun _ _ ⟨ad, cp, ts, h1, h2, h3, h4, h5, h6, _⟩ => ⟨ad, cp, ts, h1, h2, h3, h4, h5, h6⟩)
end Go.Proofs.Ytockgapdfcapnaa
