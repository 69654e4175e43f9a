/-
  impl.Join.
-/
import Derived.Test.YtebgoligoeklbaaJnB
namespace Go.Proofs.Ytebgoligoeklbaa
open Go.RowKit Go.Shelf

attribute [local go_sem] Oper.semAt_some

def JnI (wl : World) (ob : Nat) (pre : List PC) (W : World) : Prop :=
  (∀ x ∈ pre, clJ2 x.2.1 x.2.2 = false) ∧ ∃ Wz v, Wz.heap.size = wl.heap.size + 2 ∧ Below wl.heap.size wl Wz ∧ OutCh ob Wz v (outsJ pre) W
def JnX (w : World) (g h : Nat) (pre : List PC) (W : World) : Prop :=
  (∃ x ∈ pre, clJ2 x.2.1 x.2.2 = true) ∧ Below w.heap.size w W ∧ W.cell? ⟨g, 0, none⟩ = some (.slice none 0 0) ∧ W.cell? ⟨h, 0, none⟩ = some (.bool false)

set_option maxRecDepth 100000 in
set_option maxHeartbeats 40000000 in
theorem implJoin_any (a b : Option Addr) (ca cb : Nat) (ps qs : List Ch) (w : World) (hps : CS w a ps) (hqs : CS w b qs) (hn : ps.length ≤ 1048576) (hnb : qs.length ≤ 1048576) (hca : ps.length ≤ ca) (hcb : qs.length ≤ cb) (hz : ∀ c ∈ ps, c.path.size ≤ 1048576) (hzb : ∀ c ∈ qs, c.path.size ≤ 1048576) :
    Calls Try.prog 8 #[.agg #[.slice a ps.length ca], .agg #[.slice b qs.length cb]] w fun e w' => JoinPost ps qs w e w' := by
  have hal : Below w.heap.size w ((((w.alloc (.cells #[.slice a ps.length ca] 28)).alloc (.cells #[.slice b qs.length cb] 28)).alloc (.cells #[.slice none 0 0] 28)).alloc (.cells #[.bool false] 4)) := ((((Below.refl _ _).alloc (Nat.le_refl _) _).alloc (by simp) _).alloc (by simp; omega) _).alloc (by simp; omega) _
  have m0 : ((((w.alloc (.cells #[.slice a ps.length ca] 28)).alloc (.cells #[.slice b qs.length cb] 28)).alloc (.cells #[.slice none 0 0] 28)).alloc (.cells #[.bool false] 4)).cell? ⟨w.heap.size, 0, none⟩ = some (.slice a ps.length ca) := by simp [go_sem]
  have m1 : ((((w.alloc (.cells #[.slice a ps.length ca] 28)).alloc (.cells #[.slice b qs.length cb] 28)).alloc (.cells #[.slice none 0 0] 28)).alloc (.cells #[.bool false] 4)).cell? ⟨w.heap.size + 1, 0, none⟩ = some (.slice b qs.length cb) := by simp [go_sem]
  have k0 : ((((w.alloc (.cells #[.slice a ps.length ca] 28)).alloc (.cells #[.slice b qs.length cb] 28)).alloc (.cells #[.slice none 0 0] 28)).alloc (.cells #[.bool false] 4)).cell? ⟨w.heap.size + 1 + 1, 0, none⟩ = some (.slice none 0 0) := by simp [go_sem]
  have kf : ((((w.alloc (.cells #[.slice a ps.length ca] 28)).alloc (.cells #[.slice b qs.length cb] 28)).alloc (.cells #[.slice none 0 0] 28)).alloc (.cells #[.bool false] 4)).frozen? ⟨w.heap.size + 1 + 1, 0, none⟩ = false := by simp [go_sem]
  have h0 : ((((w.alloc (.cells #[.slice a ps.length ca] 28)).alloc (.cells #[.slice b qs.length cb] 28)).alloc (.cells #[.slice none 0 0] 28)).alloc (.cells #[.bool false] 4)).cell? ⟨w.heap.size + 1 + 1 + 1, 0, none⟩ = some (.bool false) := by simp [go_sem]
  have hf : ((((w.alloc (.cells #[.slice a ps.length ca] 28)).alloc (.cells #[.slice b qs.length cb] 28)).alloc (.cells #[.slice none 0 0] 28)).alloc (.cells #[.bool false] 4)).frozen? ⟨w.heap.size + 1 + 1 + 1, 0, none⟩ = false := by simp [go_sem]
  have os0 : w.heap.size + 1 + 1 + 1 < ((((w.alloc (.cells #[.slice a ps.length ca] 28)).alloc (.cells #[.slice b qs.length cb] 28)).alloc (.cells #[.slice none 0 0] 28)).alloc (.cells #[.bool false] 4)).heap.size := by simp [go_sem]
  refine (callsIn_wide (n := 5)).1 ?_
  refine callsIn_of_wp_marks Try.func8 rfl trivial ?_ rfl
  simp only [Try.ntmps8, List.size_toArray, List.length_cons, List.length_nil, Nat.reduceAdd, Nat.reduceSub, Array.replicate_succ, Array.replicate_zero, List.push_toArray, List.append_toArray, List.nil_append, List.cons_append]
  gi_wp2_with fail
  refine ⟨trivial, ?_⟩
  refine (callsIn_wide.2 (implPatch_any a ca ps _ (hps.below hal) hn hz)).mono ?_
  rintro e w1 ⟨vb, rfl, hvb, hb1⟩
  replace m0 := cell_later hb1 m0
  replace m1 := cell_later hb1 m1
  replace k0 := cell_later hb1 k0
  replace h0 := cell_later hb1 h0
  replace kf : w1.frozen? ⟨w.heap.size + 1 + 1, 0, none⟩ = false := (hb1.frozen (p := ⟨w.heap.size + 1 + 1, 0, none⟩) (by show w.heap.size + 1 + 1 < _; omega)).trans kf
  replace hf : w1.frozen? ⟨w.heap.size + 1 + 1 + 1, 0, none⟩ = false := (hb1.frozen (p := ⟨w.heap.size + 1 + 1 + 1, 0, none⟩) os0).trans hf
  have os1 : w.heap.size + 1 + 1 + 1 < w1.heap.size := Nat.lt_of_lt_of_le os0 hb1.size
  have hbw := hal.trans (hb1.mono hal.size)
  have HV : Keep (vb = true ↔ ValidP ps) := ⟨hvb⟩
  clear hvb hb1 hal os0
  obtain ⟨ta, hta⟩ : ∃ x, x = w.heap.size := ⟨_, rfl⟩
  obtain ⟨tb, htb⟩ : ∃ x, x = w.heap.size + 1 := ⟨_, rfl⟩
  obtain ⟨g, hg⟩ : ∃ x, x = w.heap.size + 1 + 1 := ⟨_, rfl⟩
  obtain ⟨h, hh⟩ : ∃ x, x = w.heap.size + 1 + 1 + 1 := ⟨_, rfl⟩
  rw [← hh] at h0 hf ⊢
  rw [← hg] at k0 kf ⊢
  rw [← htb] at m1 ⊢
  rw [← hta] at m0 ⊢
  have HS : Keep (ta = w.heap.size ∧ tb = ta + 1 ∧ g = tb + 1 ∧ h = g + 1 ∧ h < w1.heap.size) := ⟨by omega⟩
  have hgh : ¬ g = h := by omega
  have hhg : ¬ h = g := by omega
  clear hta htb hg hh os1
  have HNO : Keep (∀ X : World, Below w.heap.size w X → ¬ (ValidP ps ∧ ValidP qs) → JoinPost ps qs w (.returned (.tuple #[.agg #[.slice none ([] : List Ch).length 0], .bool false])) ((X.setCell ⟨g, 0, none⟩ (.slice none 0 0)).setCell ⟨h, 0, none⟩ (.bool false))) := ⟨fun X hX hnv => ⟨[], false, .inl ⟨hnv, rfl, rfl⟩, ⟨none, 0, rfl, CL.nil _ _ _⟩, (hX.setCell (p := ⟨g, 0, none⟩) (by have := HS.out; show _ ≤ g; omega) _).setCell (p := ⟨h, 0, none⟩) (by have := HS.out; show _ ≤ h; omega) _⟩⟩
  cases vb with
  | false =>
    have hnv : ¬ (ValidP ps ∧ ValidP qs) := fun h => by have := HV.out.2 h.1; cases this
    gi_wp2
    refine ⟨trivial, ?_⟩
    gi_wp2
    refine ⟨.tuple #[.agg #[.slice none ([] : List Ch).length 0], .bool false], ?_, HNO.out _ hbw hnv⟩
    simp [results, Try.f8, go_sem, k0, h0]
  | true =>
    have HVT : Keep (ValidP ps) := ⟨HV.out.1 rfl⟩
    gi_wp2_with fail
    refine ⟨trivial, ?_⟩
    refine (callsIn_wide.2 (implPatch_any b cb qs _ (hqs.below hbw) hnb hzb)).mono ?_
    rintro e w2 ⟨vb, rfl, hvb, hb2⟩
    have HV2 : Keep (vb = true ↔ ValidP qs) := ⟨hvb⟩
    replace m0 := cell_later hb2 m0
    replace m1 := cell_later hb2 m1
    replace k0 := cell_later hb2 k0
    replace h0 := cell_later hb2 h0
    replace kf : w2.frozen? ⟨g, 0, none⟩ = false := (hb2.frozen (p := ⟨g, 0, none⟩) (by have := HS.out; show g < _; omega)).trans kf
    replace hf : w2.frozen? ⟨h, 0, none⟩ = false := (hb2.frozen (p := ⟨h, 0, none⟩) HS.out.2.2.2.2).trans hf
    have HS2 : Keep (ta = w.heap.size ∧ tb = ta + 1 ∧ g = tb + 1 ∧ h = g + 1 ∧ h < w2.heap.size) := ⟨by have := HS.out; have := hb2.size; omega⟩
    replace hbw := hbw.trans (hb2.mono hbw.size)
    clear hvb hb2 HS HV
    cases vb with
    | false =>
      have hnv : ¬ (ValidP ps ∧ ValidP qs) := fun h => by have := HV2.out.2 h.2; cases this
      gi_wp2
      refine ⟨.tuple #[.agg #[.slice none ([] : List Ch).length 0], .bool false], ?_, HNO.out _ hbw hnv⟩
      simp [results, Try.f8, go_sem, k0, h0]
    | true =>
      have HVU : Keep (ValidP qs) := ⟨HV2.out.1 rfl⟩
      have hal2 : Below w2.heap.size w2 (w2.alloc (.cells #[.slice none 0 0] 28)) := (Below.refl _ _).alloc (Nat.le_refl _) _
      replace m0 := cell_later hal2 m0
      replace m1 := cell_later hal2 m1
      have ob0 : (((w2.alloc (.cells #[.slice none 0 0] 28)).alloc (.cells #[.slice a ps.length ca] 26)).alloc (.cells #[.slice b qs.length cb] 26)).cell? ⟨w2.heap.size, 0, none⟩ = some (.slice none 0 0) := by simp [go_sem]
      have of0 : (((w2.alloc (.cells #[.slice none 0 0] 28)).alloc (.cells #[.slice a ps.length ca] 26)).alloc (.cells #[.slice b qs.length cb] 26)).frozen? ⟨w2.heap.size, 0, none⟩ = false := by simp [go_sem]
      have ma : (((w2.alloc (.cells #[.slice none 0 0] 28)).alloc (.cells #[.slice a ps.length ca] 26)).alloc (.cells #[.slice b qs.length cb] 26)).cell? ⟨w2.heap.size + 1, 0, none⟩ = some (.slice a ps.length ca) := by simp [go_sem]
      have mb : (((w2.alloc (.cells #[.slice none 0 0] 28)).alloc (.cells #[.slice a ps.length ca] 26)).alloc (.cells #[.slice b qs.length cb] 26)).cell? ⟨w2.heap.size + 1 + 1, 0, none⟩ = some (.slice b qs.length cb) := by simp [go_sem]
      have wsz : (((w2.alloc (.cells #[.slice none 0 0] 28)).alloc (.cells #[.slice a ps.length ca] 26)).alloc (.cells #[.slice b qs.length cb] 26)).heap.size = w2.heap.size + 3 := by simp [go_sem]
      have hb3 : Below w2.heap.size w2 (((w2.alloc (.cells #[.slice none 0 0] 28)).alloc (.cells #[.slice a ps.length ca] 26)).alloc (.cells #[.slice b qs.length cb] 26)) := (((Below.refl _ _).alloc (Nat.le_refl _) _).alloc (by simp) _).alloc (by simp; omega) _
      gi_wp2_with (refine ⟨trivial, ?_⟩; gi_at_call 24; refine (callsIn_wide.2 (sideC_any a b ps.length qs.length ca cb _)).mono ?_; rintro e w' ⟨rfl, rfl⟩)
      generalize hwl : (((w2.alloc (.cells #[.slice none 0 0] 28)).alloc (.cells #[.slice a ps.length ca] 26)).alloc (.cells #[.slice b qs.length cb] 26)) = wl at *
      clear hwl
      have hbl := hbw.trans (hb3.mono hbw.size)
      have kl := cell_later hb3 k0
      have hl0 := cell_later hb3 h0
      have kfl : wl.frozen? ⟨g, 0, none⟩ = false := (hb3.frozen (p := ⟨g, 0, none⟩) (by have := HS2.out; show g < _; omega)).trans kf
      have hfl : wl.frozen? ⟨h, 0, none⟩ = false := (hb3.frozen (p := ⟨h, 0, none⟩) HS2.out.2.2.2.2).trans hf
      obtain ⟨ob, hob⟩ : ∃ ob, ob = w2.heap.size := ⟨_, rfl⟩
      rw [← hob] at ob0 of0 ma mb wsz HS2 ⊢
      have HL : Keep (ta = w.heap.size ∧ tb = ta + 1 ∧ g = tb + 1 ∧ h = g + 1 ∧ h < ob ∧ wl.heap.size = ob + 3) := ⟨by have := HS2.out; omega⟩
      have hI0 : ∀ o1 o2, JnI wl ob [] ((wl.alloc o1).alloc o2) := fun o1 o2 => by
        have hb : Below wl.heap.size wl ((wl.alloc o1).alloc o2) := ((Below.refl _ _).alloc (Nat.le_refl _) _).alloc (by simp) _
        exact ⟨(fun x hx => by cases hx), _, _, by simp, hb, OutCh.start (cell_later hb ob0) ((hb.frozen (p := ⟨ob, 0, none⟩) (by show ob < _; omega)).trans of0) (by simp; omega)⟩
      clear hb3 hob k0 kf m0 m1 HS2 HV2 hbw hal2 h0 hf
      refine range_iter2 (sideC_iter (ob + 1) (ob + 1 + 1) a b ca cb ps qs hca hcb hn hnb) (enters_of Try.func46 (by kernel_rfl) rfl) (n := 5) (by omega) rfl (fun x => rfl) (JnI wl ob) (JnX w g h)
        (fun pre W ⟨_, Wz, v, hz1, hz2, hst⟩ => ⟨hst.keep (cell_later hz2 ma) (by omega) (by omega), hst.keep (cell_later hz2 mb) (by omega) (by omega), hps.below (hst.below (hbl.trans (hz2.mono hbl.size)) (by have := HL.out; omega)), hqs.below (hst.below (hbl.trans (hz2.mono hbl.size)) (by have := HL.out; omega))⟩)
        (fun pre W W' ⟨hc, Wz, v, hz1, hz2, hst⟩ hb => ⟨hc, Wz, v, hz1, hz2, hst.later hb⟩)
        (fun pre W l o hl ⟨hc, Wz, v, hz1, hz2, hst⟩ => ⟨hc, Wz.putObj l o, v, by simpa using hz1, hz2.grown (row := some l) ⟨rfl, rfl, rfl, by simp, fun k _ hk => World.putObj_heap_other (fun e => hk (by rw [e]))⟩ hz2.size (fun j e => by cases e; omega), hst.putJ o (by omega) (by omega)⟩)
        (fun pre W l o hl ⟨hc, hb, c1, c2⟩ => ⟨hc, hb.grown (row := some l) ⟨rfl, rfl, rfl, by simp, fun k _ hk => World.putObj_heap_other (fun e => hk (by rw [e]))⟩ hb.size (fun j e => by cases e; have := HL.out; omega), (World.cell?_of_block (World.putObj_heap_other (fun e => by have := HL.out; have e2 : g = l := e; omega))).trans c1, (World.cell?_of_block (World.putObj_heap_other (fun e => by have := HL.out; have e2 : h = l := e; omega))).trans c2⟩) hI0
        (fun x B a' W => a' = { tmps := #[.agg #[.slice a ps.length ca], .agg #[.slice b qs.length cb], .pointer (some ⟨ta, 0, none⟩), .pointer (some ⟨tb, 0, none⟩), .pointer (some ⟨g, 0, none⟩), .pointer (some ⟨h, 0, none⟩), .pointer (some ⟨ob, 0, none⟩), .pointer (some ⟨B, 0, none⟩), .pointer (some ⟨B + 1, 0, none⟩), .agg #[.slice a ps.length ca], .bool true, .bool false, .bool false, .agg #[.slice b qs.length cb], .bool true, .bool false, .bool false, undef, .pointer (some ⟨ta, 0, none⟩), .slice a ps.length ca, .pointer (some ⟨tb, 0, none⟩), .slice b qs.length cb, .func (.func 46) #[] #[.pointer (some ⟨ob + 1, 0, none⟩), .pointer (some ⟨ob + 1 + 1, 0, none⟩)], cutCV (x.2.1.getD noCh), cutCV (x.2.2.getD noCh), undef, undef, undef, undef, undef, undef, undef, undef, undef, undef, undef, undef, undef, undef, undef, undef, undef, undef, undef, undef, undef, undef, undef, undef, undef, undef, undef, undef, undef, undef, undef, undef, undef, undef, undef], defers := [] } ∧ CBox B (x.2.1.getD noCh) W ∧ CBox (B + 1) (x.2.2.getD noCh) W)
        (fun x B a' W l o hl ⟨h1, h2, h3⟩ => ⟨h1, h2.put o (by omega), h3.put o (by omega)⟩) ?assign ?body ?done ?stop
      case assign =>
        intro l x W K hK
        unfold yC cutCV
        gi_wp2
        exact hK _ _ (((Below.refl _ _).alloc (Nat.le_refl _) _).alloc (by simp) _) ⟨rfl, ⟨by simp [go_sem], by simp [go_sem], by simp [go_sem], by simp [go_sem], by simp [go_sem], by simp [go_sem], by simp [go_sem], fun j => by simp [go_sem], by simp [go_sem]⟩, ⟨by simp [go_sem], by simp [go_sem], by simp [go_sem], by simp [go_sem], by simp [go_sem], by simp [go_sem], by simp [go_sem], fun j => by simp [go_sem], by simp [go_sem]⟩⟩
      case body =>
        rintro l pre x a' Wb W ⟨hnc, Wz, v, hz1, hz2, hst⟩ ⟨r, hr⟩ hB1 hbW ⟨rfl, hx, hy⟩
        have hul : (outsJ pre).length ≤ 1048576 := by
          have h1 := outsJ_len pre
          have h2 := congrArg List.length hr
          have h3 := mrg_lenJ Ch.path Ch.path (ps.length + qs.length) ps qs
          have h4 := HVT.out.1
          have h5 := HVU.out.1
          simp only [List.length_append] at h2
          unfold mrgC at h2
          omega
        have hmx : x ∈ mrgC ps qs := by rw [hr]; simp
        have hvB : v.ownBlock ≠ some Wb.heap.size := fun e => by have := hst.own_lt e; omega
        have hvB1 : v.ownBlock ≠ some (Wb.heap.size + 1) := fun e => by have := hst.own_lt e; omega
        have st := hst.later hbW
        have HE : Keep (∀ v' w', clJ2 x.2.1 x.2.2 = false → OutCh ob Wz v' (outsJ pre ++ outJ2 x.1 x.2.1 x.2.2) w' → TwoB wl.heap.size W w' ∧ JnI wl ob (pre ++ [x]) w') := ⟨fun v' w' hc h => ⟨⟨(h.grown.block _ (by omega) (fun e => by have := HL.out; cases e; omega)).trans (st.grown.block _ (by omega) (fun e => by have := HL.out; cases e; omega)).symm, (h.grown.block _ (by omega) (fun e => by have := HL.out; cases e; omega)).trans (st.grown.block _ (by omega) (fun e => by have := HL.out; cases e; omega)).symm⟩, (fun y hy => by
            rcases List.mem_append.1 hy with h' | h'
            · exact hnc y h'
            · rw [List.mem_singleton.1 h']; exact hc), Wz, v', hz1, hz2, by rw [outsJ_snoc]; exact h⟩⟩
        have HR : Keep (∀ X, clJ2 x.2.1 x.2.2 = true → OutCh ob Wz v (outsJ pre) X → TwoB wl.heap.size W ((X.setCell ⟨g, 0, none⟩ (.slice none 0 0)).setCell ⟨h, 0, none⟩ (.bool false)) ∧ JnX w g h (pre ++ [x]) ((X.setCell ⟨g, 0, none⟩ (.slice none 0 0)).setCell ⟨h, 0, none⟩ (.bool false))) := ⟨fun X hc st' => by
          have hbk : ∀ k, k ≠ g → k ≠ h → ((X.setCell ⟨g, 0, none⟩ (.slice none 0 0)).setCell ⟨h, 0, none⟩ (.bool false)).heap[k]? = X.heap[k]? := fun k h1 h2 => (Below.heap_setCell _ _ _ _ h2).trans (Below.heap_setCell _ _ _ _ h1)
          have kX := st'.keep (cell_later hz2 kl) (by have := HL.out; omega) (by have := HL.out; omega)
          have hX := st'.keep (cell_later hz2 hl0) (by have := HL.out; omega) (by have := HL.out; omega)
          refine ⟨⟨(hbk _ (by have := HL.out; omega) (by have := HL.out; omega)).trans ((st'.grown.block _ (by omega) (fun e => by have := HL.out; cases e; omega)).trans (st.grown.block _ (by omega) (fun e => by have := HL.out; cases e; omega)).symm), (hbk _ (by have := HL.out; omega) (by have := HL.out; omega)).trans ((st'.grown.block _ (by omega) (fun e => by have := HL.out; cases e; omega)).trans (st.grown.block _ (by omega) (fun e => by have := HL.out; cases e; omega)).symm)⟩, ⟨x, by simp, hc⟩, ?_, ?_, ?_⟩
          · exact ((st'.below (hbl.trans (hz2.mono hbl.size)) (by have := HL.out; omega)).setCell (p := ⟨g, 0, none⟩) (by have := HL.out; show _ ≤ g; omega) _).setCell (p := ⟨h, 0, none⟩) (by have := HL.out; show _ ≤ h; omega) _
          · exact (World.cell?_setCell_other _ _ _ _ (by intro e; exact hhg (congrArg Addr.block e))).trans (World.cell?_setCell_same _ _ _ kX)
          · exact World.cell?_setCell_same _ _ _ ((World.cell?_setCell_other _ _ _ _ (by intro e; exact hgh (congrArg Addr.block e))).trans hX)⟩
        have HK : Keep (∀ X, OutCh ob Wz v (outsJ pre) X → (X.cell? ⟨g, 0, none⟩ = some (.slice none 0 0) ∧ X.cell? ⟨h, 0, none⟩ = some (.bool false)) ∧ X.frozen? ⟨g, 0, none⟩ = false ∧ X.frozen? ⟨h, 0, none⟩ = false) := ⟨fun X st' => ⟨⟨st'.keep (cell_later hz2 kl) (by have := HL.out; omega) (by have := HL.out; omega), st'.keep (cell_later hz2 hl0) (by have := HL.out; omega) (by have := HL.out; omega)⟩, frozen_of (st'.grown.block g (by have := HL.out; omega) (fun e => by have := HL.out; cases e; omega)) ((hz2.frozen (p := ⟨g, 0, none⟩) (by have := HL.out; show g < _; omega)).trans kfl), frozen_of (st'.grown.block h (by have := HL.out; omega) (fun e => by have := HL.out; cases e; omega)) ((hz2.frozen (p := ⟨h, 0, none⟩) (by have := HL.out; show h < _; omega)).trans hfl)⟩⟩
        have HB : Keep (Wz.heap.size ≤ Wb.heap.size) := ⟨hst.grown.size⟩
        clear hst hbW hr hI0 ma mb of0 ob0 kl kfl hl0 hfl hbl hps hqs HNO hB1 wsz
        generalize Wb.heap.size = B at *
        have hBn : ¬ B = B + 1 := by omega
        have hBn2 : ¬ B + 1 = B := by omega
        rcases mrgC_cases HVT.out HVU.out hmx with ⟨d, hd, rfl⟩ | ⟨c, hc, rfl⟩ | ⟨c, hc, d, hd, hcd, rfl⟩
        · obtain ⟨p1, p2, p3, p4⟩ := chOk_parts (validP_ok HVU.out hd)
          have hdp := hzb d hd
          replace hx : CBox B noCh W := hx
          replace hy : CBox (B + 1) d W := hy
          have a0 : W.cell? ⟨B, 0, none⟩ = some (.string ⟨#[]⟩) := hx.c0
          have a1 : W.cell? ⟨B, 1, none⟩ = some (.bool false) := hx.c1
          have a2 : W.cell? ⟨B, 2, none⟩ = some (.string ⟨#[]⟩) := hx.c2
          have a3 : W.cell? ⟨B, 3, none⟩ = some (.bool false) := hx.c3
          have a4 : W.cell? ⟨B, 4, none⟩ = some (.bool false) := hx.c4
          have a5 : W.cell? ⟨B, 5, none⟩ = some (.string ⟨#[]⟩) := hx.c5
          have a6 : W.cell? ⟨B, 6, none⟩ = some (.bool false) := hx.c6
          have b0 := hy.c0
          have b1 := hy.c1
          have b2 := hy.c2
          have b3 := hy.c3
          have b4 := hy.c4
          have b5 := hy.c5
          have b6 := hy.c6
          gi_wp2_with fail
          refine ⟨trivial, ?_⟩
          refine CallsIn.mono (CallsIn.inRound l (callsIn_wide.2 (stay_any d.path d.old _))) ?_
          rintro e W1 ⟨rfl, hb1⟩
          replace hx := hx.later hb1
          replace hy := hy.later hb1
          replace st := st.later hb1
          clear a0 a1 a2 a3 a4 a5 a6 b0 b1 b2 b3 b4 b5 b6 hb1
          have a0 : W1.cell? ⟨B, 0, none⟩ = some (.string ⟨#[]⟩) := hx.c0
          have a1 : W1.cell? ⟨B, 1, none⟩ = some (.bool false) := hx.c1
          have a2 : W1.cell? ⟨B, 2, none⟩ = some (.string ⟨#[]⟩) := hx.c2
          have a3 : W1.cell? ⟨B, 3, none⟩ = some (.bool false) := hx.c3
          have a4 : W1.cell? ⟨B, 4, none⟩ = some (.bool false) := hx.c4
          have a5 : W1.cell? ⟨B, 5, none⟩ = some (.string ⟨#[]⟩) := hx.c5
          have a6 : W1.cell? ⟨B, 6, none⟩ = some (.bool false) := hx.c6
          have fz := hx.fz
          gi_upto_region 9 with fail
          have hx2 : CBox B ⟨d.path, d.old, d.old⟩ (((((((W1.setCell ⟨B, 0, none⟩ (.string d.path)).setCell ⟨B, 1, none⟩ (.bool d.old.there)).setCell ⟨B, 2, none⟩ (.string d.old.text)).setCell ⟨B, 3, none⟩ (.bool d.old.runs)).setCell ⟨B, 4, none⟩ (.bool d.old.there)).setCell ⟨B, 5, none⟩ (.string d.old.text)).setCell ⟨B, 6, none⟩ (.bool d.old.runs)) := hx.set ⟨d.path, d.old, d.old⟩
          have hy2 : CBox (B + 1) d (((((((W1.setCell ⟨B, 0, none⟩ (.string d.path)).setCell ⟨B, 1, none⟩ (.bool d.old.there)).setCell ⟨B, 2, none⟩ (.string d.old.text)).setCell ⟨B, 3, none⟩ (.bool d.old.runs)).setCell ⟨B, 4, none⟩ (.bool d.old.there)).setCell ⟨B, 5, none⟩ (.string d.old.text)).setCell ⟨B, 6, none⟩ (.bool d.old.runs)) := hy.grown (box7_grown (.string d.path) (.bool d.old.there) (.string d.old.text) (.bool d.old.runs) (.bool d.old.there) (.string d.old.text) (.bool d.old.runs)) (by simp)
          have st2 : OutCh ob Wz v (outsJ pre) (((((((W1.setCell ⟨B, 0, none⟩ (.string d.path)).setCell ⟨B, 1, none⟩ (.bool d.old.there)).setCell ⟨B, 2, none⟩ (.string d.old.text)).setCell ⟨B, 3, none⟩ (.bool d.old.runs)).setCell ⟨B, 4, none⟩ (.bool d.old.there)).setCell ⟨B, 5, none⟩ (.string d.old.text)).setCell ⟨B, 6, none⟩ (.bool d.old.runs)) := st.other (box7_grown (.string d.path) (.bool d.old.there) (.string d.old.text) (.bool d.old.runs) (.bool d.old.there) (.string d.old.text) (.bool d.old.runs)) HB.out hvB
          clear a0 a1 a2 a3 a4 a5 a6 fz hx hy st
          generalize (((((((W1.setCell ⟨B, 0, none⟩ (.string d.path)).setCell ⟨B, 1, none⟩ (.bool d.old.there)).setCell ⟨B, 2, none⟩ (.string d.old.text)).setCell ⟨B, 3, none⟩ (.bool d.old.runs)).setCell ⟨B, 4, none⟩ (.bool d.old.there)).setCell ⟨B, 5, none⟩ (.string d.old.text)).setCell ⟨B, 6, none⟩ (.bool d.old.runs)) = X at *
          have a0 := hx2.c0
          have a1 := hx2.c1
          have a2 := hx2.c2
          have a3 := hx2.c3
          have a4 := hx2.c4
          have a5 := hx2.c5
          have a6 := hx2.c6
          have b0 := hy2.c0
          have b1 := hy2.c1
          have b2 := hy2.c2
          have b3 := hy2.c3
          have b4 := hy2.c4
          have b5 := hy2.c5
          have b6 := hy2.c6
          dsimp only at a0 a1 a2 a3 a4 a5 a6
          gi_wp2_with fail
          refine ⟨trivial, ?_⟩
          refine CallsIn.mono (CallsIn.inRound l (callsIn_wide.2 (chg_pair ob Wz v (outsJ pre) d.path d.old d.new X st2 hul hdp (by omega) (by omega)))) ?_
          rintro e W4 ⟨rfl, v', st4⟩
          clear a0 a1 a2 a3 a4 a5 a6 b0 b1 b2 b3 b4 b5 b6 hx2 hy2 st2
          gi_wp2
          exact HE.out _ _ rfl (by unfold chgL at st4; rw [p2] at st4; exact st4)
        · obtain ⟨p1, p2, p3, p4⟩ := chOk_parts (validP_ok HVT.out hc)
          have hdp := hz c hc
          replace hx : CBox B c W := hx
          replace hy : CBox (B + 1) noCh W := hy
          have a0 := hx.c0
          have a1 := hx.c1
          have a2 := hx.c2
          have a3 := hx.c3
          have a4 := hx.c4
          have a5 := hx.c5
          have a6 := hx.c6
          have b0 : W.cell? ⟨B + 1, 0, none⟩ = some (.string ⟨#[]⟩) := hy.c0
          have b1 : W.cell? ⟨B + 1, 1, none⟩ = some (.bool false) := hy.c1
          have b2 : W.cell? ⟨B + 1, 2, none⟩ = some (.string ⟨#[]⟩) := hy.c2
          have b3 : W.cell? ⟨B + 1, 3, none⟩ = some (.bool false) := hy.c3
          have b4 : W.cell? ⟨B + 1, 4, none⟩ = some (.bool false) := hy.c4
          have b5 : W.cell? ⟨B + 1, 5, none⟩ = some (.string ⟨#[]⟩) := hy.c5
          have b6 : W.cell? ⟨B + 1, 6, none⟩ = some (.bool false) := hy.c6
          gi_wp2_with fail
          refine ⟨trivial, ?_⟩
          refine CallsIn.mono (CallsIn.inRound l (callsIn_wide.2 (stay_any c.path c.new _))) ?_
          rintro e W1 ⟨rfl, hb1⟩
          replace hx := hx.later hb1
          replace hy := hy.later hb1
          replace st := st.later hb1
          clear a0 a1 a2 a3 a4 a5 a6 b0 b1 b2 b3 b4 b5 b6 hb1
          have b0 : W1.cell? ⟨B + 1, 0, none⟩ = some (.string ⟨#[]⟩) := hy.c0
          have b1 : W1.cell? ⟨B + 1, 1, none⟩ = some (.bool false) := hy.c1
          have b2 : W1.cell? ⟨B + 1, 2, none⟩ = some (.string ⟨#[]⟩) := hy.c2
          have b3 : W1.cell? ⟨B + 1, 3, none⟩ = some (.bool false) := hy.c3
          have b4 : W1.cell? ⟨B + 1, 4, none⟩ = some (.bool false) := hy.c4
          have b5 : W1.cell? ⟨B + 1, 5, none⟩ = some (.string ⟨#[]⟩) := hy.c5
          have b6 : W1.cell? ⟨B + 1, 6, none⟩ = some (.bool false) := hy.c6
          have fz := hy.fz
          gi_upto_region 11 with fail
          have hy2 : CBox (B + 1) ⟨c.path, c.new, c.new⟩ (((((((W1.setCell ⟨B + 1, 0, none⟩ (.string c.path)).setCell ⟨B + 1, 1, none⟩ (.bool c.new.there)).setCell ⟨B + 1, 2, none⟩ (.string c.new.text)).setCell ⟨B + 1, 3, none⟩ (.bool c.new.runs)).setCell ⟨B + 1, 4, none⟩ (.bool c.new.there)).setCell ⟨B + 1, 5, none⟩ (.string c.new.text)).setCell ⟨B + 1, 6, none⟩ (.bool c.new.runs)) := hy.set ⟨c.path, c.new, c.new⟩
          have hx2 : CBox B c (((((((W1.setCell ⟨B + 1, 0, none⟩ (.string c.path)).setCell ⟨B + 1, 1, none⟩ (.bool c.new.there)).setCell ⟨B + 1, 2, none⟩ (.string c.new.text)).setCell ⟨B + 1, 3, none⟩ (.bool c.new.runs)).setCell ⟨B + 1, 4, none⟩ (.bool c.new.there)).setCell ⟨B + 1, 5, none⟩ (.string c.new.text)).setCell ⟨B + 1, 6, none⟩ (.bool c.new.runs)) := hx.grown (box7_grown (.string c.path) (.bool c.new.there) (.string c.new.text) (.bool c.new.runs) (.bool c.new.there) (.string c.new.text) (.bool c.new.runs)) (by simp)
          have st2 : OutCh ob Wz v (outsJ pre) (((((((W1.setCell ⟨B + 1, 0, none⟩ (.string c.path)).setCell ⟨B + 1, 1, none⟩ (.bool c.new.there)).setCell ⟨B + 1, 2, none⟩ (.string c.new.text)).setCell ⟨B + 1, 3, none⟩ (.bool c.new.runs)).setCell ⟨B + 1, 4, none⟩ (.bool c.new.there)).setCell ⟨B + 1, 5, none⟩ (.string c.new.text)).setCell ⟨B + 1, 6, none⟩ (.bool c.new.runs)) := st.other (box7_grown (.string c.path) (.bool c.new.there) (.string c.new.text) (.bool c.new.runs) (.bool c.new.there) (.string c.new.text) (.bool c.new.runs)) (by have := HB.out; omega) hvB1
          clear b0 b1 b2 b3 b4 b5 b6 fz hx hy st
          generalize (((((((W1.setCell ⟨B + 1, 0, none⟩ (.string c.path)).setCell ⟨B + 1, 1, none⟩ (.bool c.new.there)).setCell ⟨B + 1, 2, none⟩ (.string c.new.text)).setCell ⟨B + 1, 3, none⟩ (.bool c.new.runs)).setCell ⟨B + 1, 4, none⟩ (.bool c.new.there)).setCell ⟨B + 1, 5, none⟩ (.string c.new.text)).setCell ⟨B + 1, 6, none⟩ (.bool c.new.runs)) = X at *
          have a0 := hx2.c0
          have a1 := hx2.c1
          have a2 := hx2.c2
          have a3 := hx2.c3
          have a4 := hx2.c4
          have a5 := hx2.c5
          have a6 := hx2.c6
          have b0 := hy2.c0
          have b1 := hy2.c1
          have b2 := hy2.c2
          have b3 := hy2.c3
          have b4 := hy2.c4
          have b5 := hy2.c5
          have b6 := hy2.c6
          dsimp only at b0 b1 b2 b3 b4 b5 b6
          gi_wp2_with fail
          refine ⟨trivial, ?_⟩
          refine CallsIn.mono (CallsIn.inRound l (callsIn_wide.2 (chg_pair ob Wz v (outsJ pre) c.path c.old c.new X st2 hul hdp (by omega) (by omega)))) ?_
          rintro e W4 ⟨rfl, v', st4⟩
          clear a0 a1 a2 a3 a4 a5 a6 b0 b1 b2 b3 b4 b5 b6 hx2 hy2 st2
          gi_wp2
          exact HE.out _ _ rfl (by unfold chgL at st4; rw [p2] at st4; exact st4)
        · obtain ⟨p1, p2, p3, p4⟩ := chOk_parts (validP_ok HVT.out hc)
          obtain ⟨q1, q2, q3, q4⟩ := chOk_parts (validP_ok HVU.out hd)
          have hdp := hz c hc
          replace hx : CBox B c W := hx
          replace hy : CBox (B + 1) d W := hy
          have a0 := hx.c0
          have a1 := hx.c1
          have a2 := hx.c2
          have a3 := hx.c3
          have a4 := hx.c4
          have a5 := hx.c5
          have a6 := hx.c6
          have b0 := hy.c0
          have b1 := hy.c1
          have b2 := hy.c2
          have b3 := hy.c3
          have b4 := hy.c4
          have b5 := hy.c5
          have b6 := hy.c6
          cases hsm : sameF c.new d.old with
          | true =>
            have HC : Keep (clJ2 (some c) (some d) = false) := ⟨by show (!sameF c.new d.old) = false; rw [hsm]; rfl⟩
            obtain ⟨⟨h1, h2⟩, h3⟩ : (c.new.there = d.old.there ∧ c.new.text.toList = d.old.text.toList) ∧ c.new.runs = d.old.runs := by simpa [sameF] using hsm
            have h4 : c.new.text = d.old.text := WideShapes.bytes_inj (by rw [← Lib.toList_data, ← Lib.toList_data]; exact h2)
            rw [← h1] at b1
            rw [← h4] at b2
            rw [← h3] at b3
            clear hsm h1 h2 h3 h4
            gi_wp2_with fail
            refine ⟨trivial, ?_⟩
            refine CallsIn.mono (CallsIn.inRound l (callsIn_wide.2 (chg_pair ob Wz v (outsJ pre) c.path c.old d.new W st hul hdp (by omega) (by omega)))) ?_
            rintro e W4 ⟨rfl, v', st4⟩
            clear a0 a1 a2 a3 a4 a5 a6 b0 b1 b2 b3 b4 b5 b6 hx hy st
            gi_wp2
            exact HE.out _ _ HC.out st4
          | false =>
            have HC : Keep (clJ2 (some c) (some d) = true) := ⟨by show (!sameF c.new d.old) = true; rw [hsm]; rfl⟩
            obtain ⟨⟨kX, hX⟩, kfX, hfX⟩ := HK.out W st
            by_cases h1 : c.new.there = d.old.there
            · by_cases h2 : c.new.text.toList = d.old.text.toList
              · by_cases h3 : c.new.runs = d.old.runs
                · exfalso
                  rw [Bool.eq_false_iff] at hsm
                  exact hsm (by simp [sameF, h1, h2, h3])
                · gi_wp2
                  exact HR.out W HC.out st
              · gi_wp2
                exact HR.out W HC.out st
            · gi_wp2
              exact HR.out W HC.out st
      case done =>
        rintro W ⟨hnc, Wz, v, hz1, hz2, hst⟩ hK
        rw [outs_join HVT.out HVU.out] at hst
        have HNC : Keep (∀ n ∈ joinNs ps qs, clJ ps qs n = false) := ⟨fun n hn' => hnc (n, fnd Ch.path ps n, fnd Ch.path qs n) (by rw [mrgC_is HVT.out HVU.out]; exact List.mem_map.2 ⟨n, hn', rfl⟩)⟩
        have kW := hst.keep (cell_later hz2 kl) (by have := HL.out; omega) (by have := HL.out; omega)
        have hW := hst.keep (cell_later hz2 hl0) (by have := HL.out; omega) (by have := HL.out; omega)
        have kfW : W.frozen? ⟨g, 0, none⟩ = false := frozen_of (hst.grown.block g (by have := HL.out; omega) (fun e => by have := HL.out; cases e; omega)) ((hz2.frozen (p := ⟨g, 0, none⟩) (by have := HL.out; show g < _; omega)).trans kfl)
        have hfW : W.frozen? ⟨h, 0, none⟩ = false := frozen_of (hst.grown.block h (by have := HL.out; omega) (fun e => by have := HL.out; cases e; omega)) ((hz2.frozen (p := ⟨h, 0, none⟩) (by have := HL.out; show h < _; omega)).trans hfl)
        have oW := hst.cell
        have hbW := hst.below (hbl.trans (hz2.mono hbl.size)) (show w.heap.size ≤ ob by have := HL.out; omega)
        obtain ⟨ad, cap, rfl⟩ := owns_slice hst.row
        have hcl := cl_of_row hst.row
        have HZ : Keep (w.heap.size ≤ g ∧ h = g + 1 ∧ h < wl.heap.size ∧ Wz.heap.size = wl.heap.size + 2) := ⟨by have := HL.out; omega⟩
        clear hst hz2 hI0 hps hqs HNO hnc wsz
        have fin : ∀ (cs : List Ch) (ok : Bool) (ad2 : Option Addr) (cap2 : Nat), JoinRel ps qs cs ok → CL Wz.heap.size W ad2 cs → ∃ W3, W3 = (W.setCell ⟨g, 0, none⟩ (.slice ad2 cs.length cap2)).setCell ⟨h, 0, none⟩ (.bool ok) ∧ W3.heap[wl.heap.size]? = some (.deferred (some [])) ∧ (W3.putObj wl.heap.size (.deferred none)).cell? ⟨g, 0, none⟩ = some (.slice ad2 cs.length cap2) ∧ (W3.putObj wl.heap.size (.deferred none)).cell? ⟨h, 0, none⟩ = some (.bool ok) ∧ JoinPost ps qs w (.returned (.tuple #[.agg #[.slice ad2 cs.length cap2], .bool ok])) (W3.putObj wl.heap.size (.deferred none)) := fun cs ok ad2 cap2 hrel hcs => by
          have hzz := HZ.out
          have hbk : ∀ k, k ≠ g → k ≠ h → ((W.setCell ⟨g, 0, none⟩ (.slice ad2 cs.length cap2)).setCell ⟨h, 0, none⟩ (.bool ok)).heap[k]? = W.heap[k]? := fun k h1 h2 => (Below.heap_setCell _ _ _ _ h2).trans (Below.heap_setCell _ _ _ _ h1)
          have hg1 := hcs.grown (row := some g) (grown_set0 W g 0 (.slice ad2 cs.length cap2)) (fun j _ hj _ e => by cases e; omega)
          have hg2 := hg1.grown (row := some h) (grown_set0 _ h 0 (.bool ok)) (fun j _ hj _ e => by cases e; omega)
          have hbW2 := (hbW.setCell (p := ⟨g, 0, none⟩) hzz.1 (.slice ad2 cs.length cap2)).setCell (p := ⟨h, 0, none⟩) (by show _ ≤ h; omega) (.bool ok)
          have kc : ((W.setCell ⟨g, 0, none⟩ (.slice ad2 cs.length cap2)).setCell ⟨h, 0, none⟩ (.bool ok)).cell? ⟨g, 0, none⟩ = some (.slice ad2 cs.length cap2) := (World.cell?_setCell_other _ _ _ _ (by intro e; exact hhg (congrArg Addr.block e))).trans (World.cell?_setCell_same _ _ _ kW)
          have hc : ((W.setCell ⟨g, 0, none⟩ (.slice ad2 cs.length cap2)).setCell ⟨h, 0, none⟩ (.bool ok)).cell? ⟨h, 0, none⟩ = some (.bool ok) := World.cell?_setCell_same _ _ _ ((World.cell?_setCell_other _ _ _ _ (by intro e; exact hgh (congrArg Addr.block e))).trans hW)
          refine ⟨_, rfl, (hbk _ (by omega) (by omega)).trans hK, ?_⟩
          generalize (W.setCell ⟨g, 0, none⟩ (.slice ad2 cs.length cap2)).setCell ⟨h, 0, none⟩ (.bool ok) = W3 at *
          have hgp : W3.grownBy (W3.putObj wl.heap.size (.deferred none)) (some wl.heap.size) := ⟨rfl, rfl, rfl, by simp, fun k _ hk => World.putObj_heap_other (fun e => hk (by rw [e]))⟩
          exact ⟨(World.cell?_of_block (World.putObj_heap_other (fun e => by have e2 : g = wl.heap.size := e; omega))).trans kc, (World.cell?_of_block (World.putObj_heap_other (fun e => by have e2 : h = wl.heap.size := e; omega))).trans hc, cs, ok, hrel, ⟨ad2, cap2, rfl, (hg2.grown hgp (fun j _ hj _ e => by cases e; omega)).mono (by omega)⟩, hbW2.grown hgp hbW2.size (fun j e => by cases e; omega)⟩
        by_cases hlen : (joinN ps qs (joinNs ps qs)).length ≤ 200
        · have hlen' : ¬ (200 : Int) < (joinN ps qs (joinNs ps qs)).length := by omega
          obtain ⟨W3, hW3, hK3, kc, hc, hpost⟩ := fin (joinN ps qs (joinNs ps qs)) true ad cap (.inr ⟨HVT.out, HVU.out, .inr ⟨HNC.out, .inr ⟨hlen, rfl, rfl⟩⟩⟩) hcl
          have HP : Keep _ := ⟨hpost⟩
          clear fin hcl hbW hpost
          gi_wp2
          rw [← hW3]
          refine ⟨by simp, .inl ⟨_, _, rfl, run_takeDeferred hK3, ?_⟩⟩
          refine ⟨_, ?_, HP.out⟩
          simp [results, Try.f8, go_sem, kc, hc]
        · have hlen' : (200 : Int) < (joinN ps qs (joinNs ps qs)).length := by omega
          obtain ⟨W3, hW3, hK3, kc, hc, hpost⟩ := fin [] false none 0 (.inr ⟨HVT.out, HVU.out, .inr ⟨HNC.out, .inl ⟨by omega, rfl, rfl⟩⟩⟩) (CL.nil _ _ _)
          have HP : Keep _ := ⟨hpost⟩
          replace hW3 : W3 = (W.setCell ⟨g, 0, none⟩ (.slice none 0 0)).setCell ⟨h, 0, none⟩ (.bool false) := hW3
          clear fin hcl hbW hpost
          gi_wp2
          rw [← hW3]
          refine ⟨by simp, .inl ⟨_, _, rfl, run_takeDeferred hK3, ?_⟩⟩
          refine ⟨_, ?_, HP.out⟩
          simp [results, Try.f8, go_sem, kc, hc]
      case stop =>
        rintro pre W hpre ⟨⟨x, hx, hcl⟩, hb, c1, c2⟩ hK
        have hcn : ∃ n ∈ joinNs ps qs, clJ ps qs n = true := by
          have hm := hpre.subset hx
          rw [mrgC_is HVT.out HVU.out] at hm
          obtain ⟨n, hn', rfl⟩ := List.mem_map.1 hm
          exact ⟨n, hn', hcl⟩
        clear wsz
        gi_wp2
        refine ⟨by simp, .inl ⟨_, _, rfl, run_takeDeferred hK, ?_⟩⟩
        have hgp : W.grownBy (W.putObj wl.heap.size (.deferred none)) (some wl.heap.size) := ⟨rfl, rfl, rfl, by simp, fun k _ hk => World.putObj_heap_other (fun e => hk (by rw [e]))⟩
        have kc : (W.putObj wl.heap.size (.deferred none)).cell? ⟨g, 0, none⟩ = some (.slice none 0 0) := (World.cell?_of_block (World.putObj_heap_other (fun e => by have := HL.out; have e2 : g = wl.heap.size := e; omega))).trans c1
        have hc : (W.putObj wl.heap.size (.deferred none)).cell? ⟨h, 0, none⟩ = some (.bool false) := (World.cell?_of_block (World.putObj_heap_other (fun e => by have := HL.out; have e2 : h = wl.heap.size := e; omega))).trans c2
        refine ⟨.tuple #[.agg #[.slice none ([] : List Ch).length 0], .bool false], ?_, [], false, .inr ⟨HVT.out, HVU.out, .inl ⟨hcn, rfl, rfl⟩⟩, ⟨none, 0, rfl, CL.nil _ _ _⟩, hb.grown hgp hb.size (fun j e => by have := HL.out; cases e; omega)⟩
        simp [results, Try.f8, go_sem, kc, hc]
end Go.Proofs.Ytebgoligoeklbaa
