/-
  impl.Apply.
-/
import Derived.Test.YtidkcdppdkfplaaApE
import Derived.Sort.CutIn
import Derived.Test.YtidkcdppdkfplaaApS
namespace Go.Proofs.Ytidkcdppdkfplaa
open Go.RowKit Go.Shelf

attribute [local go_sem] Oper.semAt_some

def ApI (wl : World) (ob : Nat) (pre : List PEC) (W : World) : Prop :=
  (∀ x ∈ pre, badA x.2.1 x.2.2 = false) ∧ ∃ Wz v, Wz.heap.size = wl.heap.size + 2 ∧ Below wl.heap.size wl Wz ∧ OutSt ob Wz v (outsA pre) W
def ApX (w : World) (g h : Nat) (pre : List PEC) (W : World) : Prop :=
  (∃ x ∈ pre, badA x.2.1 x.2.2 = true) ∧ Below w.heap.size w W ∧ W.cell? ⟨g, 0, none⟩ = some (.slice none 0 0) ∧ W.cell? ⟨h, 0, none⟩ = some (.int .i64 2)

set_option maxRecDepth 100000 in
set_option maxHeartbeats 40000000 in
theorem implApply_any (a b : Option Addr) (ca cb : Nat) (ps : List En) (qs : List Ch) (w : World) (hps : ES w a ps) (hqs : CS w b qs) (hn : ps.length ≤ 1048576) (hnb : qs.length ≤ 1048576) (hca : ps.length ≤ ca) (hcb : qs.length ≤ cb) (hz : ∀ c ∈ ps, c.path.size ≤ 1048576) (hzb : ∀ c ∈ qs, c.path.size ≤ 1048576) :
    Calls Try.prog 9 #[.agg #[.slice a ps.length ca], .agg #[.slice b qs.length cb]] w fun e w' => ApplyPost ps qs w e w' := by
  have hal : Below w.heap.size w ((((w.alloc (.cells #[.slice a ps.length ca] 32)).alloc (.cells #[.slice b qs.length cb] 38)).alloc (.cells #[.slice none 0 0] 32)).alloc (.cells #[.int .i64 0] 3)) := ((((Below.refl _ _).alloc (Nat.le_refl _) _).alloc (by simp) _).alloc (by simp; omega) _).alloc (by simp; omega) _
  have m0 : ((((w.alloc (.cells #[.slice a ps.length ca] 32)).alloc (.cells #[.slice b qs.length cb] 38)).alloc (.cells #[.slice none 0 0] 32)).alloc (.cells #[.int .i64 0] 3)).cell? ⟨w.heap.size, 0, none⟩ = some (.slice a ps.length ca) := by simp [go_sem]
  have m1 : ((((w.alloc (.cells #[.slice a ps.length ca] 32)).alloc (.cells #[.slice b qs.length cb] 38)).alloc (.cells #[.slice none 0 0] 32)).alloc (.cells #[.int .i64 0] 3)).cell? ⟨w.heap.size + 1, 0, none⟩ = some (.slice b qs.length cb) := by simp [go_sem]
  have k0 : ((((w.alloc (.cells #[.slice a ps.length ca] 32)).alloc (.cells #[.slice b qs.length cb] 38)).alloc (.cells #[.slice none 0 0] 32)).alloc (.cells #[.int .i64 0] 3)).cell? ⟨w.heap.size + 1 + 1, 0, none⟩ = some (.slice none 0 0) := by simp [go_sem]
  have kf : ((((w.alloc (.cells #[.slice a ps.length ca] 32)).alloc (.cells #[.slice b qs.length cb] 38)).alloc (.cells #[.slice none 0 0] 32)).alloc (.cells #[.int .i64 0] 3)).frozen? ⟨w.heap.size + 1 + 1, 0, none⟩ = false := by simp [go_sem]
  have h0 : ((((w.alloc (.cells #[.slice a ps.length ca] 32)).alloc (.cells #[.slice b qs.length cb] 38)).alloc (.cells #[.slice none 0 0] 32)).alloc (.cells #[.int .i64 0] 3)).cell? ⟨w.heap.size + 1 + 1 + 1, 0, none⟩ = some (.int .i64 0) := by simp [go_sem]
  have hf : ((((w.alloc (.cells #[.slice a ps.length ca] 32)).alloc (.cells #[.slice b qs.length cb] 38)).alloc (.cells #[.slice none 0 0] 32)).alloc (.cells #[.int .i64 0] 3)).frozen? ⟨w.heap.size + 1 + 1 + 1, 0, none⟩ = false := by simp [go_sem]
  have os0 : w.heap.size + 1 + 1 + 1 < ((((w.alloc (.cells #[.slice a ps.length ca] 32)).alloc (.cells #[.slice b qs.length cb] 38)).alloc (.cells #[.slice none 0 0] 32)).alloc (.cells #[.int .i64 0] 3)).heap.size := by simp [go_sem]
  refine (callsIn_wide (n := 5)).1 ?_
  refine callsIn_of_wp_marks Try.func9 rfl trivial ?_ rfl
  simp only [Try.ntmps9, List.size_toArray, List.length_cons, List.length_nil, Nat.reduceAdd, Nat.reduceSub, Array.replicate_succ, Array.replicate_zero, List.push_toArray, List.append_toArray, List.nil_append, List.cons_append]
  gi_wp2_with fail
  refine ⟨trivial, ?_⟩
  refine (callsIn_wide.2 (implTree_any a ca ps _ (hps.below hal) hn hz)).mono ?_
  rintro e w1 ⟨vb, rfl, hvb, hb1⟩
  replace m0 := cell_later hb1 m0
  replace m1 := cell_later hb1 m1
  replace k0 := cell_later hb1 k0
  replace h0 := cell_later hb1 h0
  replace kf : w1.frozen? ⟨w.heap.size + 1 + 1, 0, none⟩ = false := (hb1.frozen (p := ⟨w.heap.size + 1 + 1, 0, none⟩) (by show w.heap.size + 1 + 1 < _; omega)).trans kf
  replace hf : w1.frozen? ⟨w.heap.size + 1 + 1 + 1, 0, none⟩ = false := (hb1.frozen (p := ⟨w.heap.size + 1 + 1 + 1, 0, none⟩) os0).trans hf
  have os1 : w.heap.size + 1 + 1 + 1 < w1.heap.size := Nat.lt_of_lt_of_le os0 hb1.size
  have hbw := hal.trans (hb1.mono hal.size)
  have HV : Keep (vb = true ↔ ValidTs ps) := ⟨hvb⟩
  clear hvb hb1 hal os0
  obtain ⟨ta, hta⟩ : ∃ x, x = w.heap.size := ⟨_, rfl⟩
  obtain ⟨tb, htb⟩ : ∃ x, x = w.heap.size + 1 := ⟨_, rfl⟩
  obtain ⟨g, hg⟩ : ∃ x, x = w.heap.size + 1 + 1 := ⟨_, rfl⟩
  obtain ⟨h, hh⟩ : ∃ x, x = w.heap.size + 1 + 1 + 1 := ⟨_, rfl⟩
  rw [← hh] at h0 hf ⊢
  rw [← hg] at k0 kf ⊢
  rw [← htb] at m1 ⊢
  rw [← hta] at m0 ⊢
  have HS : Keep (ta = w.heap.size ∧ tb = ta + 1 ∧ g = tb + 1 ∧ h = g + 1 ∧ h < w1.heap.size) := ⟨by omega⟩
  have hgh : ¬ g = h := by omega
  have hhg : ¬ h = g := by omega
  clear hta htb hg hh os1
  have HNO : Keep (∀ X : World, Below w.heap.size w X → ¬ (ValidTs ps ∧ ValidP qs) → ApplyPost ps qs w (.returned (TreeV none ([] : List En).length 0 1)) ((X.setCell ⟨g, 0, none⟩ (.slice none 0 0)).setCell ⟨h, 0, none⟩ (.int .i64 1))) := ⟨fun X hX hnv => ⟨[], 1, .inl ⟨hnv, rfl, rfl⟩, ⟨none, 0, rfl, EL.nil _ _ _⟩, (hX.setCell (p := ⟨g, 0, none⟩) (by have := HS.out; show _ ≤ g; omega) _).setCell (p := ⟨h, 0, none⟩) (by have := HS.out; show _ ≤ h; omega) _⟩⟩
  cases vb with
  | false =>
    have hnv : ¬ (ValidTs ps ∧ ValidP qs) := fun h => by have := HV.out.2 h.1; cases this
    gi_wp2
    refine ⟨trivial, ?_⟩
    gi_wp2
    refine ⟨TreeV none ([] : List En).length 0 1, ?_, HNO.out _ hbw hnv⟩
    simp [results, Try.f9, go_sem, TreeV, k0, h0]
  | true =>
    have HVT : Keep (ValidTs ps) := ⟨HV.out.1 rfl⟩
    gi_wp2_with fail
    refine ⟨trivial, ?_⟩
    refine (callsIn_wide.2 (implPatch_any b cb qs _ (hqs.below hbw) hnb hzb)).mono ?_
    rintro e w2 ⟨vb, rfl, hvb, hb2⟩
    have HV2 : Keep (vb = true ↔ ValidP qs) := ⟨hvb⟩
    replace m0 := cell_later hb2 m0
    replace m1 := cell_later hb2 m1
    replace k0 := cell_later hb2 k0
    replace h0 := cell_later hb2 h0
    replace kf : w2.frozen? ⟨g, 0, none⟩ = false := (hb2.frozen (p := ⟨g, 0, none⟩) (by have := HS.out; show g < _; omega)).trans kf
    replace hf : w2.frozen? ⟨h, 0, none⟩ = false := (hb2.frozen (p := ⟨h, 0, none⟩) HS.out.2.2.2.2).trans hf
    have HS2 : Keep (ta = w.heap.size ∧ tb = ta + 1 ∧ g = tb + 1 ∧ h = g + 1 ∧ h < w2.heap.size) := ⟨by have := HS.out; have := hb2.size; omega⟩
    replace hbw := hbw.trans (hb2.mono hbw.size)
    clear hvb hb2 HS HV
    cases vb with
    | false =>
      have hnv : ¬ (ValidTs ps ∧ ValidP qs) := fun h => by have := HV2.out.2 h.2; cases this
      gi_wp2
      refine ⟨TreeV none ([] : List En).length 0 1, ?_, HNO.out _ hbw hnv⟩
      simp [results, Try.f9, go_sem, TreeV, k0, h0]
    | true =>
      have HVU : Keep (ValidP qs) := ⟨HV2.out.1 rfl⟩
      have hal2 : Below w2.heap.size w2 (w2.alloc (.cells #[.slice none 0 0] 32)) := (Below.refl _ _).alloc (Nat.le_refl _) _
      replace m0 := cell_later hal2 m0
      replace m1 := cell_later hal2 m1
      have ob0 : (((w2.alloc (.cells #[.slice none 0 0] 32)).alloc (.cells #[.slice a ps.length ca] 30)).alloc (.cells #[.slice b qs.length cb] 36)).cell? ⟨w2.heap.size, 0, none⟩ = some (.slice none 0 0) := by simp [go_sem]
      have of0 : (((w2.alloc (.cells #[.slice none 0 0] 32)).alloc (.cells #[.slice a ps.length ca] 30)).alloc (.cells #[.slice b qs.length cb] 36)).frozen? ⟨w2.heap.size, 0, none⟩ = false := by simp [go_sem]
      have ma : (((w2.alloc (.cells #[.slice none 0 0] 32)).alloc (.cells #[.slice a ps.length ca] 30)).alloc (.cells #[.slice b qs.length cb] 36)).cell? ⟨w2.heap.size + 1, 0, none⟩ = some (.slice a ps.length ca) := by simp [go_sem]
      have mb : (((w2.alloc (.cells #[.slice none 0 0] 32)).alloc (.cells #[.slice a ps.length ca] 30)).alloc (.cells #[.slice b qs.length cb] 36)).cell? ⟨w2.heap.size + 1 + 1, 0, none⟩ = some (.slice b qs.length cb) := by simp [go_sem]
      have wsz : (((w2.alloc (.cells #[.slice none 0 0] 32)).alloc (.cells #[.slice a ps.length ca] 30)).alloc (.cells #[.slice b qs.length cb] 36)).heap.size = w2.heap.size + 3 := by simp [go_sem]
      have hb3 : Below w2.heap.size w2 (((w2.alloc (.cells #[.slice none 0 0] 32)).alloc (.cells #[.slice a ps.length ca] 30)).alloc (.cells #[.slice b qs.length cb] 36)) := (((Below.refl _ _).alloc (Nat.le_refl _) _).alloc (by simp) _).alloc (by simp; omega) _
      gi_wp2_with (refine ⟨trivial, ?_⟩; gi_at_call 26; refine (callsIn_wide.2 (sideEC_any a b ps.length qs.length ca cb _)).mono ?_; rintro e w' ⟨rfl, rfl⟩)
      generalize hwl : (((w2.alloc (.cells #[.slice none 0 0] 32)).alloc (.cells #[.slice a ps.length ca] 30)).alloc (.cells #[.slice b qs.length cb] 36)) = wl at *
      clear hwl
      have hbl := hbw.trans (hb3.mono hbw.size)
      have kl := cell_later hb3 k0
      have hl0 := cell_later hb3 h0
      have kfl : wl.frozen? ⟨g, 0, none⟩ = false := (hb3.frozen (p := ⟨g, 0, none⟩) (by have := HS2.out; show g < _; omega)).trans kf
      have hfl : wl.frozen? ⟨h, 0, none⟩ = false := (hb3.frozen (p := ⟨h, 0, none⟩) HS2.out.2.2.2.2).trans hf
      obtain ⟨ob, hob⟩ : ∃ ob, ob = w2.heap.size := ⟨_, rfl⟩
      rw [← hob] at ob0 of0 ma mb wsz HS2 ⊢
      have HL : Keep (ta = w.heap.size ∧ tb = ta + 1 ∧ g = tb + 1 ∧ h = g + 1 ∧ h < ob ∧ wl.heap.size = ob + 3) := ⟨by have := HS2.out; omega⟩
      have hI0 : ∀ o1 o2, ApI wl ob [] ((wl.alloc o1).alloc o2) := fun o1 o2 => by
        have hb : Below wl.heap.size wl ((wl.alloc o1).alloc o2) := ((Below.refl _ _).alloc (Nat.le_refl _) _).alloc (by simp) _
        exact ⟨(fun x hx => by cases hx), _, _, by simp, hb, OutSt.start (cell_later hb ob0) ((hb.frozen (p := ⟨ob, 0, none⟩) (by show ob < _; omega)).trans of0) (by simp; omega)⟩
      clear hb3 hob k0 kf m0 m1 HS2 HV2 hbw hal2 h0 hf
      refine range_iter2 (sideEC_iter (ob + 1) (ob + 1 + 1) a b ca cb ps qs hca hcb hn hnb) (enters_of Try.func45 (by kernel_rfl) rfl) (n := 5) (by omega) rfl (fun x => rfl) (ApI wl ob) (ApX w g h)
        (fun pre W ⟨_, Wz, v, hz1, hz2, hst⟩ => ⟨hst.keep (cell_later hz2 ma) (by omega) (by omega), hst.keep (cell_later hz2 mb) (by omega) (by omega), hps.below (hst.below (hbl.trans (hz2.mono hbl.size)) (by have := HL.out; omega)), hqs.below (hst.below (hbl.trans (hz2.mono hbl.size)) (by have := HL.out; omega))⟩)
        (fun pre W W' ⟨hc, Wz, v, hz1, hz2, hst⟩ hb => ⟨hc, Wz, v, hz1, hz2, hst.later hb⟩)
        (fun pre W l o hl ⟨hc, Wz, v, hz1, hz2, hst⟩ => ⟨hc, Wz.putObj l o, v, by simpa using hz1, hz2.grown (row := some l) ⟨rfl, rfl, rfl, by simp, fun k _ hk => World.putObj_heap_other (fun e => hk (by rw [e]))⟩ hz2.size (fun j e => by cases e; omega), hst.putJ o (by omega) (by omega)⟩)
        (fun pre W l o hl ⟨hc, hb, c1, c2⟩ => ⟨hc, hb.grown (row := some l) ⟨rfl, rfl, rfl, by simp, fun k _ hk => World.putObj_heap_other (fun e => hk (by rw [e]))⟩ hb.size (fun j e => by cases e; have := HL.out; omega), (World.cell?_of_block (World.putObj_heap_other (fun e => by have := HL.out; have e2 : g = l := e; omega))).trans c1, (World.cell?_of_block (World.putObj_heap_other (fun e => by have := HL.out; have e2 : h = l := e; omega))).trans c2⟩) hI0
        (fun x B a' W => a' = { tmps := #[.agg #[.slice a ps.length ca], .agg #[.slice b qs.length cb], .pointer (some ⟨ta, 0, none⟩), .pointer (some ⟨tb, 0, none⟩), .pointer (some ⟨g, 0, none⟩), .pointer (some ⟨h, 0, none⟩), .pointer (some ⟨ob, 0, none⟩), .pointer (some ⟨B, 0, none⟩), .pointer (some ⟨B + 1, 0, none⟩), .agg #[.slice a ps.length ca], .bool true, .bool false, .bool false, .agg #[.slice b qs.length cb], .bool true, .bool false, .bool false, undef, .pointer (some ⟨ta, 0, none⟩), .slice a ps.length ca, .pointer (some ⟨tb, 0, none⟩), .slice b qs.length cb, .func (.func 45) #[] #[.pointer (some ⟨ob + 1, 0, none⟩), .pointer (some ⟨ob + 1 + 1, 0, none⟩)], cutEV (x.2.1.getD zeroE), cutCV (x.2.2.getD noCh), undef, undef, undef, undef, undef, undef, undef, undef, undef, undef, undef, undef, undef, undef, undef, undef, undef, undef, undef, undef, undef, undef, undef, undef, undef, undef, undef, undef, undef, undef, undef, undef], defers := [] } ∧ EBox B (x.2.1.getD zeroE) W ∧ CBox (B + 1) (x.2.2.getD noCh) W)
        (fun x B a' W l o hl ⟨h1, h2, h3⟩ => ⟨h1, h2.put o (by omega), h3.put o (by omega)⟩) ?assign ?body ?done ?stop
      case assign =>
        intro l x W K hK
        unfold yEC cutEV cutCV
        gi_wp2
        exact hK _ _ (((Below.refl _ _).alloc (Nat.le_refl _) _).alloc (by simp) _) ⟨rfl, ⟨by simp [go_sem], by simp [go_sem], by simp [go_sem]⟩, ⟨by simp [go_sem], by simp [go_sem], by simp [go_sem], by simp [go_sem], by simp [go_sem], by simp [go_sem], by simp [go_sem], fun j => by simp [go_sem], by simp [go_sem]⟩⟩
      case body =>
        rintro l pre x a' Wb W ⟨hnc, Wz, v, hz1, hz2, hst⟩ ⟨r, hr⟩ hB1 hbW ⟨rfl, hx, hy⟩
        have hul : (outsA pre).length ≤ 1048576 := by
          have h1 := outsA_len pre
          have h2 := congrArg List.length hr
          have h3 := mrg_lenA En.path Ch.path (ps.length + qs.length) ps qs
          have h4 := HVT.out.1
          have h5 := HVU.out.1
          simp only [List.length_append] at h2
          unfold mrgEC at h2
          omega
        have hmx : x ∈ mrgEC ps qs := by rw [hr]; simp
        have hvB1 : v.ownBlock ≠ some (Wb.heap.size + 1) := fun e => by have := hst.own_lt e; omega
        have st := hst.later hbW
        have HE : Keep (∀ v' w', badA x.2.1 x.2.2 = false → OutSt ob Wz v' (outsA pre ++ outA zeroE x.2.1 x.2.2) w' → TwoB wl.heap.size W w' ∧ ApI wl ob (pre ++ [x]) w') := ⟨fun v' w' hc h => ⟨⟨(h.grown.block _ (by omega) (fun e => by have := HL.out; cases e; omega)).trans (st.grown.block _ (by omega) (fun e => by have := HL.out; cases e; omega)).symm, (h.grown.block _ (by omega) (fun e => by have := HL.out; cases e; omega)).trans (st.grown.block _ (by omega) (fun e => by have := HL.out; cases e; omega)).symm⟩, (fun y hy => by
            rcases List.mem_append.1 hy with h' | h'
            · exact hnc y h'
            · rw [List.mem_singleton.1 h']; exact hc), Wz, v', hz1, hz2, by rw [outsA_snoc]; exact h⟩⟩
        have HR : Keep (∀ X, badA x.2.1 x.2.2 = true → OutSt ob Wz v (outsA pre) X → TwoB wl.heap.size W ((X.setCell ⟨g, 0, none⟩ (.slice none 0 0)).setCell ⟨h, 0, none⟩ (.int .i64 2)) ∧ ApX w g h (pre ++ [x]) ((X.setCell ⟨g, 0, none⟩ (.slice none 0 0)).setCell ⟨h, 0, none⟩ (.int .i64 2))) := ⟨fun X hc st' => by
          have hbk : ∀ k, k ≠ g → k ≠ h → ((X.setCell ⟨g, 0, none⟩ (.slice none 0 0)).setCell ⟨h, 0, none⟩ (.int .i64 2)).heap[k]? = X.heap[k]? := fun k h1 h2 => (Below.heap_setCell _ _ _ _ h2).trans (Below.heap_setCell _ _ _ _ h1)
          have kX := st'.keep (cell_later hz2 kl) (by have := HL.out; omega) (by have := HL.out; omega)
          have hX := st'.keep (cell_later hz2 hl0) (by have := HL.out; omega) (by have := HL.out; omega)
          refine ⟨⟨(hbk _ (by have := HL.out; omega) (by have := HL.out; omega)).trans ((st'.grown.block _ (by omega) (fun e => by have := HL.out; cases e; omega)).trans (st.grown.block _ (by omega) (fun e => by have := HL.out; cases e; omega)).symm), (hbk _ (by have := HL.out; omega) (by have := HL.out; omega)).trans ((st'.grown.block _ (by omega) (fun e => by have := HL.out; cases e; omega)).trans (st.grown.block _ (by omega) (fun e => by have := HL.out; cases e; omega)).symm)⟩, ⟨x, by simp, hc⟩, ?_, ?_, ?_⟩
          · exact ((st'.below (hbl.trans (hz2.mono hbl.size)) (by have := HL.out; omega)).setCell (p := ⟨g, 0, none⟩) (by have := HL.out; show _ ≤ g; omega) _).setCell (p := ⟨h, 0, none⟩) (by have := HL.out; show _ ≤ h; omega) _
          · exact (World.cell?_setCell_other _ _ _ _ (by intro e; exact hhg (congrArg Addr.block e))).trans (World.cell?_setCell_same _ _ _ kX)
          · exact World.cell?_setCell_same _ _ _ ((World.cell?_setCell_other _ _ _ _ (by intro e; exact hgh (congrArg Addr.block e))).trans hX)⟩
        have HK : Keep (∀ X, OutSt ob Wz v (outsA pre) X → (X.cell? ⟨g, 0, none⟩ = some (.slice none 0 0) ∧ X.cell? ⟨h, 0, none⟩ = some (.int .i64 0)) ∧ X.frozen? ⟨g, 0, none⟩ = false ∧ X.frozen? ⟨h, 0, none⟩ = false) := ⟨fun X st' => ⟨⟨st'.keep (cell_later hz2 kl) (by have := HL.out; omega) (by have := HL.out; omega), st'.keep (cell_later hz2 hl0) (by have := HL.out; omega) (by have := HL.out; omega)⟩, frozen_of (st'.grown.block g (by have := HL.out; omega) (fun e => by have := HL.out; cases e; omega)) ((hz2.frozen (p := ⟨g, 0, none⟩) (by have := HL.out; show g < _; omega)).trans kfl), frozen_of (st'.grown.block h (by have := HL.out; omega) (fun e => by have := HL.out; cases e; omega)) ((hz2.frozen (p := ⟨h, 0, none⟩) (by have := HL.out; show h < _; omega)).trans hfl)⟩⟩
        have HB : Keep (Wz.heap.size ≤ Wb.heap.size) := ⟨hst.grown.size⟩
        obtain ⟨hF1, hF2, hF3, hF4, hF5⟩ := round_facts HVT.out HVU.out hmx
        have HF1 : Keep (badA x.2.1 x.2.2 = !sameF (fileE (x.2.1.getD zeroE)) (chA x.2.1 x.2.2).old) := ⟨hF1⟩
        have HF2 : Keep (outA zeroE x.2.1 x.2.2 = (if (chA x.2.1 x.2.2).new.there = true then [⟨(chA x.2.1 x.2.2).path, (chA x.2.1 x.2.2).new.text, (chA x.2.1 x.2.2).new.runs⟩] else [])) := ⟨hF2⟩
        have HF5 : Keep ((x.2.2.getD noCh = noCh ∧ chA x.2.1 x.2.2 = ⟨(x.2.1.getD zeroE).path, fileE (x.2.1.getD zeroE), fileE (x.2.1.getD zeroE)⟩) ∨ (x.2.2.getD noCh = chA x.2.1 x.2.2 ∧ ((chA x.2.1 x.2.2).path.toList == ([] : List UInt8)) = false)) := ⟨by
          rcases hF5 with h5 | ⟨d, h5, h6⟩
          · exact .inl ⟨by rw [h5]; rfl, by unfold chA; rw [h5]; rfl⟩
          · exact .inr ⟨by unfold chA; rw [h5]; rfl, by unfold chA; rw [h5]; exact h6⟩⟩
        clear hst hbW hr hI0 ma mb of0 ob0 kl kfl hl0 hfl hbl hps hqs HNO hB1 wsz hmx hF1 hF2 hF5 hnc hz1 hz2
        generalize Wb.heap.size = B at *
        generalize x.2.1.getD zeroE = e at *
        generalize chA x.2.1 x.2.2 = c at *
        generalize x.2.2.getD noCh = c0 at *
        have hBn : ¬ B = B + 1 := by omega
        have hBn2 : ¬ B + 1 = B := by omega
        obtain ⟨nz, hnz⟩ : ∃ nz : Bool, (nz = true ∧ c0 = noCh ∧ c = ⟨e.path, fileE e, fileE e⟩) ∨ (nz = false ∧ c0 = c ∧ (c.path.toList == ([] : List UInt8)) = false) := by
          rcases HF5.out with ⟨h1, h2⟩ | ⟨h1, h2⟩
          · exact ⟨true, .inl ⟨rfl, h1, h2⟩⟩
          · exact ⟨false, .inr ⟨rfl, h1, h2⟩⟩
        have HNZ : Keep _ := ⟨hnz⟩
        clear hnz HF5
        have HX : Keep (EBox B e W) := ⟨hx⟩
        have HY : Keep (CBox (B + 1) c0 W) := ⟨hy⟩
        have HST : Keep (OutSt ob Wz v (outsA pre) W) := ⟨st⟩
        have a0 := hx.c0
        have a1 := hx.c1
        have a2 := hx.c2
        have b0 := hy.c0
        have b1 := hy.c1
        have b2 := hy.c2
        have b3 := hy.c3
        have b4 := hy.c4
        have b5 := hy.c5
        have b6 := hy.c6
        clear hx hy st
        gi_upto_region 7 with fail
        dsimp only
        gi_cut [27] from 28 (fun u wx => u = .bool nz ∧ wx = W)
        case first =>
          rcases HNZ.out with ⟨rfl, rfl, _⟩ | ⟨rfl, rfl, hp0⟩
          · replace b0 : W.cell? ⟨B + 1, 0, none⟩ = some (.string ⟨#[]⟩) := b0
            replace b1 : W.cell? ⟨B + 1, 1, none⟩ = some (.bool false) := b1
            replace b2 : W.cell? ⟨B + 1, 2, none⟩ = some (.string ⟨#[]⟩) := b2
            replace b3 : W.cell? ⟨B + 1, 3, none⟩ = some (.bool false) := b3
            replace b4 : W.cell? ⟨B + 1, 4, none⟩ = some (.bool false) := b4
            replace b5 : W.cell? ⟨B + 1, 5, none⟩ = some (.string ⟨#[]⟩) := b5
            replace b6 : W.cell? ⟨B + 1, 6, none⟩ = some (.bool false) := b6
            gi_wp2
            gi_meet
            case rel => exact ⟨rfl, rfl⟩
          · gi_wp2
            gi_meet
            case rel => exact ⟨rfl, rfl⟩
        case rest =>
          obtain ⟨rfl, rfl⟩ := hcut
          gi_upto_if 27 with fail
          gi_cut [] from 28 (fun wx => EBox B e wx ∧ CBox (B + 1) c wx ∧ OutSt ob Wz v (outsA pre) wx)
          case first =>
            rcases HNZ.out with ⟨rfl, rfl, rfl⟩ | ⟨rfl, rfl, hp0⟩
            · have a2c := a2
              clear a2
              gi_upto_region 8 with fail
              refine wpIn_region_inv0 (by kernel_rfl) (by kernel_rfl) (fun T0 => RX T0 sDs (sTab B e) wc 5 (fun wx => EBox B e wx ∧ CBox (B + 1) ⟨e.path, fileE e, fileE e⟩ wx ∧ OutSt ob Wz v (outsA pre) wx)) ?_ ?_ ?_
              · exact ⟨Sl2.start _, fun _ => (Below.refl _ _).drew, fun h => by rw [getD_repl] at h; cases h⟩
              · intro L a2 w9 hinv hall
                have hE := hinv.fin (hall 5 (by decide))
                have HXX : Keep _ := ⟨hinv.sl.act⟩
                have HEE : Keep _ := ⟨hE⟩
                clear hinv hall hE
                rw [HXX.out]
                simp only [updL, sDs, List.contains_cons, List.contains_nil, Nat.reduceAdd, Nat.reduceBEq, Bool.or_false, cond_false, cond_true, Bool.or_true]
                gi_wp2
                gi_meet
                case rel => exact HEE.out
              · intro L a2 w9 i o hinv hcl hL ho hdep
                have hi6 : i < 6 := (Array.getElem?_eq_some_iff.1 ho).1
                have h5 : i ≠ 5 → L.getD 5 false = false := fun hne => by
                  cases hb : L.getD 5 false with
                  | false => rfl
                  | true =>
                    exfalso
                    have d4 := hcl 5 _ rfl hb ⟨4, .data⟩ (by simp) rfl
                    have d3 := hcl 4 _ rfl d4 ⟨3, .data⟩ (by simp) rfl
                    have d1 := hcl 4 _ rfl d4 ⟨1, .data⟩ (by simp) rfl
                    have d2 := hcl 3 _ rfl d3 ⟨2, .data⟩ (by simp) rfl
                    have d0 := hcl 1 _ rfl d1 ⟨0, .data⟩ (by simp) rfl
                    have hf := getD_ft hL
                    match i, hi6, hne, hf with
                    | 0, _, _, hf => rw [d0] at hf; cases hf
                    | 1, _, _, hf => rw [d1] at hf; cases hf
                    | 2, _, _, hf => rw [d2] at hf; cases hf
                    | 3, _, _, hf => rw [d3] at hf; cases hf
                    | 4, _, _, hf => rw [d4] at hf; cases hf
                    | 5, _, hne, _ => exact hne rfl
                unfold wpOpIn
                rw [ho]
                clear hcl
                match i, hi6, hL, ho, hdep, h5 with
                | 0, _, hL, ho, hdep, h5 =>
                  injection ho with ho; subst ho
                  dsimp only
                  rw [if_pos (by rfl)]
                  refine ⟨fun f _ => trivial, ?_⟩
                  have e7 : a2.tmps[7]?.getD undef = .pointer (some ⟨B, 0, none⟩) := hinv.sl.old (by decide)
                  go_simp
                  exact hinv.step sNd (i := 0) (by decide) (by show 28 < 57; decide) (by omega) (h5 (by omega)) rfl (Below.refl _ _)
                | 1, _, hL, ho, hdep, h5 =>
                  injection ho with ho; subst ho
                  dsimp only
                  rw [if_pos (by rfl)]
                  refine ⟨fun f _ => trivial, ?_⟩
                  have hb9 := hinv.wd (h5 (by omega))
                  have e28 : a2.tmps[28]?.getD undef = .pointer (some ⟨B, 0, none⟩) := hinv.sl.new (i := 0) (by decide) rfl (hdep ⟨0, .data⟩ (by simp) rfl)
                  have z0 := cell_later hb9 a0
                  go_simp
                  exact hinv.step sNd (i := 1) (by decide) (by show 29 < 57; decide) (by omega) (h5 (by omega)) rfl (Below.refl _ _)
                | 2, _, hL, ho, hdep, h5 =>
                  injection ho with ho; subst ho
                  dsimp only
                  rw [if_pos (by rfl)]
                  refine ⟨fun f _ => trivial, ?_⟩
                  have hb9 := hinv.wd (h5 (by omega))
                  have e7 : a2.tmps[7]?.getD undef = .pointer (some ⟨B, 0, none⟩) := hinv.sl.old (by decide)
                  have z0 := cell_later hb9 a0
                  have z1 := cell_later hb9 a1
                  have z2 := cell_later hb9 a2c
                  go_simp
                  exact hinv.step sNd (i := 2) (by decide) (by show 30 < 57; decide) (by omega) (h5 (by omega)) rfl (Below.refl _ _)
                | 3, _, hL, ho, hdep, h5 =>
                  injection ho with ho; subst ho
                  dsimp only
                  rw [if_pos (by rfl)]
                  refine ⟨fun f _ => trivial, ?_⟩
                  have hb9 := hinv.wd (h5 (by omega))
                  have e30 : a2.tmps[30]?.getD undef = .agg #[.string e.path, .string e.text, .bool e.runs] := hinv.sl.new (i := 2) (by decide) rfl (hdep ⟨2, .data⟩ (by simp) rfl)
                  go_simp
                  refine CallsIn.mono (CallsIn.inRound l (callsIn_wide.2 (fileE_any e _))) ?_
                  rintro e' w' ⟨rfl, hb'⟩
                  exact hinv.step sNd (i := 3) (by decide) (by show 31 < 57; decide) (by omega) (h5 (by omega)) rfl hb'
                | 4, _, hL, ho, hdep, h5 =>
                  injection ho with ho; subst ho
                  dsimp only
                  rw [if_pos (by rfl)]
                  refine ⟨fun f _ => trivial, ?_⟩
                  have hb9 := hinv.wd (h5 (by omega))
                  have e29 : a2.tmps[29]?.getD undef = .string e.path := hinv.sl.new (i := 1) (by decide) rfl (hdep ⟨1, .data⟩ (by simp) rfl)
                  have e31 : a2.tmps[31]?.getD undef = .agg #[.bool (fileE e).there, .string (fileE e).text, .bool (fileE e).runs] := hinv.sl.new (i := 3) (by decide) rfl (hdep ⟨3, .data⟩ (by simp) rfl)
                  go_simp
                  refine CallsIn.mono (CallsIn.inRound l (callsIn_wide.2 (stay_any e.path (fileE e) _))) ?_
                  rintro e' w' ⟨rfl, hb'⟩
                  exact hinv.step sNd (i := 4) (by decide) (by show 32 < 57; decide) (by omega) (h5 (by omega)) rfl hb'
                | 5, _, hL, ho, hdep, h5 =>
                  injection ho with ho; subst ho
                  dsimp only
                  rw [if_pos (by rfl)]
                  refine ⟨fun f _ => trivial, ?_⟩
                  have hb9 := hinv.wd (getD_ft hL)
                  have e8 : a2.tmps[8]?.getD undef = .pointer (some ⟨B + 1, 0, none⟩) := hinv.sl.old (by decide)
                  have e32 : a2.tmps[32]?.getD undef = .agg #[.string e.path, .bool (fileE e).there, .string (fileE e).text, .bool (fileE e).runs, .bool (fileE e).there, .string (fileE e).text, .bool (fileE e).runs] := hinv.sl.new (i := 4) (by decide) rfl (hdep ⟨4, .data⟩ (by simp) rfl)
                  have hy9 := HY.out.later hb9
                  have z0 : w9.cell? ⟨B + 1, 0, none⟩ = some (.string ⟨#[]⟩) := hy9.c0
                  have z1 : w9.cell? ⟨B + 1, 1, none⟩ = some (.bool false) := hy9.c1
                  have z2 : w9.cell? ⟨B + 1, 2, none⟩ = some (.string ⟨#[]⟩) := hy9.c2
                  have z3 : w9.cell? ⟨B + 1, 3, none⟩ = some (.bool false) := hy9.c3
                  have z4 : w9.cell? ⟨B + 1, 4, none⟩ = some (.bool false) := hy9.c4
                  have z5 : w9.cell? ⟨B + 1, 5, none⟩ = some (.string ⟨#[]⟩) := hy9.c5
                  have z6 : w9.cell? ⟨B + 1, 6, none⟩ = some (.bool false) := hy9.c6
                  have fz := hy9.fz
                  have hE : EBox B e (((((((w9.setCell ⟨B + 1, 0, none⟩ (.string e.path)).setCell ⟨B + 1, 1, none⟩ (.bool (fileE e).there)).setCell ⟨B + 1, 2, none⟩ (.string (fileE e).text)).setCell ⟨B + 1, 3, none⟩ (.bool (fileE e).runs)).setCell ⟨B + 1, 4, none⟩ (.bool (fileE e).there)).setCell ⟨B + 1, 5, none⟩ (.string (fileE e).text)).setCell ⟨B + 1, 6, none⟩ (.bool (fileE e).runs)) ∧ CBox (B + 1) ⟨e.path, fileE e, fileE e⟩ (((((((w9.setCell ⟨B + 1, 0, none⟩ (.string e.path)).setCell ⟨B + 1, 1, none⟩ (.bool (fileE e).there)).setCell ⟨B + 1, 2, none⟩ (.string (fileE e).text)).setCell ⟨B + 1, 3, none⟩ (.bool (fileE e).runs)).setCell ⟨B + 1, 4, none⟩ (.bool (fileE e).there)).setCell ⟨B + 1, 5, none⟩ (.string (fileE e).text)).setCell ⟨B + 1, 6, none⟩ (.bool (fileE e).runs)) ∧ OutSt ob Wz v (outsA pre) (((((((w9.setCell ⟨B + 1, 0, none⟩ (.string e.path)).setCell ⟨B + 1, 1, none⟩ (.bool (fileE e).there)).setCell ⟨B + 1, 2, none⟩ (.string (fileE e).text)).setCell ⟨B + 1, 3, none⟩ (.bool (fileE e).runs)).setCell ⟨B + 1, 4, none⟩ (.bool (fileE e).there)).setCell ⟨B + 1, 5, none⟩ (.string (fileE e).text)).setCell ⟨B + 1, 6, none⟩ (.bool (fileE e).runs)) := ⟨(HX.out.later hb9).grown (box7_grown (.string e.path) (.bool (fileE e).there) (.string (fileE e).text) (.bool (fileE e).runs) (.bool (fileE e).there) (.string (fileE e).text) (.bool (fileE e).runs)) (by simp), hy9.set ⟨e.path, fileE e, fileE e⟩, (HST.out.later hb9).other (box7_grown (.string e.path) (.bool (fileE e).there) (.string (fileE e).text) (.bool (fileE e).runs) (.bool (fileE e).there) (.string (fileE e).text) (.bool (fileE e).runs)) (by have := HB.out; omega) hvB1⟩
                  have HEE : Keep _ := ⟨hE⟩
                  clear hE hy9
                  go_simp
                  exact hinv.last rfl hL HEE.out
            · gi_wp2
              gi_meet
              case rel => exact ⟨HX.out, HY.out, HST.out⟩
          case rest =>
            obtain ⟨hx, hy, st⟩ := hcut
            clear HX HY HST hvB1 a0 a1 a2 b0 b1 b2 b3 b4 b5 b6 HNZ
            have a0 := hx.c0
            have a1 := hx.c1
            have a2c := hx.c2
            have b0 := hy.c0
            have b1 := hy.c1
            have b2 := hy.c2
            have b3 := hy.c3
            have b4 := hy.c4
            have b5 := hy.c5
            have b6 := hy.c6
            have HX : Keep (EBox B e wc) := ⟨hx⟩
            have HY : Keep (CBox (B + 1) c wc) := ⟨hy⟩
            have HST : Keep (OutSt ob Wz v (outsA pre) wc) := ⟨st⟩
            clear hx hy st
            obtain ⟨nb, hnb⟩ : ∃ nb : Bool, nb = !sameF (fileE e) c.old := ⟨_, rfl⟩
            have HNB : Keep (nb = !sameF (fileE e) c.old) := ⟨hnb⟩
            clear hnb
            gi_upto_region 9 with fail
            refine wpIn_region_inv0 (by kernel_rfl) (by kernel_rfl) (fun T0 => QV T0 fDs (fTab B e c.old nb) wc) ?_ ?_ ?_
            · exact ⟨Sl2.start _, (Below.refl _ _).drew⟩
            · intro L a2 w9 hinv hall
              have hb9 := hinv.wd
              have e37 : a2.tmps.getD 37 undef = .bool nb := hinv.sl.sl 4 (by decide) _ rfl (hall 4 (by decide))
              have HXX : Keep _ := ⟨hinv.sl.act⟩
              clear hinv hall
              rw [HXX.out]
              simp only [updL, fDs, List.contains_cons, List.contains_nil, Nat.reduceAdd, Nat.reduceBEq, Bool.or_false, cond_false, cond_true, Bool.or_true, e37]
              generalize a2.tmps.getD 33 undef = s33
              generalize a2.tmps.getD 34 undef = s34
              generalize a2.tmps.getD 35 undef = s35
              generalize a2.tmps.getD 36 undef = s36
              have HY9 := HY.out.later hb9
              have HST9 := HST.out.later hb9
              clear HXX e37 HX HY HST a0 a1 a2c b0 b1 b2 b3 b4 b5 b6 hb9
              cases nb with
              | true =>
                obtain ⟨⟨kX, hX⟩, kfX, hfX⟩ := HK.out w9 HST9
                have HS9 : Keep _ := ⟨HST9⟩
                clear HST9 HY9
                gi_wp2
                exact HR.out w9 (by rw [HF1.out]; exact HNB.out.symm) HS9.out
              | false =>
                have hbad : badA x.2.1 x.2.2 = false := by rw [HF1.out]; exact HNB.out.symm
                have HBAD : Keep _ := ⟨hbad⟩
                clear hbad HNB HK HR HF1
                have HST : Keep (OutSt ob Wz v (outsA pre) w9) := ⟨HST9⟩
                have oc := HST9.cell
                have b0 := HY9.c0
                have b4 := HY9.c4
                have b5 := HY9.c5
                have b6 := HY9.c6
                clear HST9 HY9
                cases hth : c.new.there with
                | false =>
                  rw [hth] at b4
                  gi_wp2
                  exact HE.out v w9 HBAD.out (by rw [HF2.out, hth]; simpa using HST.out)
                | true =>
                  rw [hth] at b4
                  obtain ⟨i0, hi, hz0, hz1', hzb'⟩ := info_parts Try.infoEntry
                  have HE2 : Keep (∀ v' w', OutSt ob Wz v' (outsA pre ++ [⟨c.path, c.new.text, c.new.runs⟩]) w' → TwoB wl.heap.size _ w' ∧ ApI wl ob (pre ++ [x]) w') := ⟨fun v' w' h' => HE.out v' w' HBAD.out (by rw [HF2.out, hth]; exact h')⟩
                  gi_upto_region 12 with fail
                  refine wpIn_region_inv0 (by kernel_rfl) (by kernel_rfl) (fun T0 => NV T0 ob B Wz w9 v c.path c.new.text c.new.runs (outsA pre)) ?_ ?_ ?_
                  · exact ⟨Sl2.start _, fun _ => (Below.refl _ _).drew, (fun h => by rw [getD_repl] at h; cases h), (fun h => by rw [getD_repl] at h; cases h), (fun h => by rw [getD_repl] at h; cases h)⟩
                  · intro L a2 wx hinv hall
                    obtain ⟨v', h'⟩ := hinv.w3 (hall 10 (by decide))
                    have HXX : Keep _ := ⟨hinv.sl.act⟩
                    have HHH : Keep _ := ⟨h'⟩
                    clear hinv hall h'
                    rw [HXX.out]
                    simp only [updL, nDs, List.contains_cons, List.contains_nil, Nat.reduceAdd, Nat.reduceBEq, Bool.or_false, cond_false, cond_true, Bool.or_true]
                    clear HXX oc b0 b4 b5 b6
                    gi_wp2
                    exact HE2.out _ _ HHH.out
                  · intro L a2 wx i o hinv hcl hL ho hdep
                    have hi11 : i < 11 := (Array.getElem?_eq_some_iff.1 ho).1
                    unfold wpOpIn
                    rw [ho]
                    have q87 : L.getD 8 false = true → L.getD 7 false = true := fun hb => hcl 8 _ rfl hb ⟨7, .data⟩ (by simp) rfl
                    have q108 : L.getD 10 false = true → L.getD 8 false = true := fun hb => hcl 10 _ rfl hb ⟨8, .data⟩ (by simp) rfl
                    have q76 : L.getD 7 false = true → L.getD 6 false = true := fun hb => hcl 7 _ rfl hb ⟨6, .data⟩ (by simp) rfl
                    have q7 : (L.getD 6 true = false ∨ L.getD 3 true = false ∨ L.getD 5 true = false) → L.getD 7 false = false := fun h9 => by
                      cases hb : L.getD 7 false with
                      | false => rfl
                      | true =>
                        exfalso
                        have h6 := q76 hb
                        rcases h9 with h9 | h9 | h9
                        · rw [getD_ft h9] at h6; cases h6
                        · have h := hcl 6 _ rfl h6 ⟨3, .data⟩ (by simp) rfl; rw [getD_ft h9] at h; cases h
                        · have h := hcl 6 _ rfl h6 ⟨5, .data⟩ (by simp) rfl; rw [getD_ft h9] at h; cases h
                    have q8 : (L.getD 1 true = false ∨ L.getD 7 true = false ∨ L.getD 6 true = false) → L.getD 8 false = false := fun h9 => by
                      cases hb : L.getD 8 false with
                      | false => rfl
                      | true =>
                        exfalso
                        rcases h9 with h9 | h9 | h9
                        · have h := hcl 8 _ rfl hb ⟨1, .data⟩ (by simp) rfl; rw [getD_ft h9] at h; cases h
                        · have h := q87 hb; rw [getD_ft h9] at h; cases h
                        · have h := q76 (q87 hb); rw [getD_ft h9] at h; cases h
                    have q10 : (L.getD 8 true = false ∨ L.getD 7 true = false ∨ L.getD 6 true = false) → L.getD 10 false = false := fun h9 => by
                      cases hb : L.getD 10 false with
                      | false => rfl
                      | true =>
                        exfalso
                        rcases h9 with h9 | h9 | h9
                        · have h := q108 hb; rw [getD_ft h9] at h; cases h
                        · have h := q87 (q108 hb); rw [getD_ft h9] at h; cases h
                        · have h := q76 (q87 (q108 hb)); rw [getD_ft h9] at h; cases h
                    clear hcl
                    match i, hi11, hL, ho, hdep with
                        | 0, _, hL, ho, hdep =>
                          injection ho with ho; subst ho
                          dsimp only
                          rw [if_pos (by rfl)]
                          refine ⟨fun f _ => trivial, ?_⟩
                          have e6 : a2.tmps[6]?.getD undef = .pointer (some ⟨ob, 0, none⟩) := hinv.sl.old (by decide)
                          go_simp
                          exact hinv.step (i := 0) rfl (by omega) (by omega) (by omega) rfl (.inl rfl)
                        | 1, _, hL, ho, hdep =>
                          injection ho with ho; subst ho
                          dsimp only
                          rw [if_pos (by rfl)]
                          refine ⟨fun f _ => trivial, ?_⟩
                          have e42 : a2.tmps[42]?.getD undef = .pointer (some ⟨ob, 0, none⟩) := hinv.sl.new (i := 0) (by decide) rfl (hdep ⟨0, .data⟩ (by simp) rfl)
                          have z0 := cell_later (hinv.below (q8 (.inl hL))) oc
                          go_simp
                          exact hinv.step (i := 1) rfl (by omega) (by omega) (by omega) rfl (.inl rfl)
                        | 2, _, hL, ho, hdep =>
                          injection ho with ho; subst ho
                          dsimp only
                          rw [if_pos (by rfl)]
                          refine ⟨fun f _ => trivial, ?_⟩
                          have e8 : a2.tmps[8]?.getD undef = .pointer (some ⟨B + 1, 0, none⟩) := hinv.sl.old (by decide)
                          go_simp
                          exact hinv.step (i := 2) rfl (by omega) (by omega) (by omega) rfl (.inl rfl)
                        | 3, _, hL, ho, hdep =>
                          injection ho with ho; subst ho
                          dsimp only
                          rw [if_pos (by rfl)]
                          refine ⟨fun f _ => trivial, ?_⟩
                          have e44 : a2.tmps[44]?.getD undef = .pointer (some ⟨B + 1, 4, none⟩) := hinv.sl.new (i := 2) (by decide) rfl (hdep ⟨2, .data⟩ (by simp) rfl)
                          have hb := hinv.w0 (q7 (.inr (.inl hL)))
                          have z0 := cell_later hb b4
                          have z1 := cell_later hb b5
                          have z2 := cell_later hb b6
                          go_simp
                          exact hinv.step (i := 3) rfl (by omega) (by omega) (by omega) rfl (.inl rfl)
                        | 4, _, hL, ho, hdep =>
                          injection ho with ho; subst ho
                          dsimp only
                          rw [if_pos (by rfl)]
                          refine ⟨fun f _ => trivial, ?_⟩
                          have e8 : a2.tmps[8]?.getD undef = .pointer (some ⟨B + 1, 0, none⟩) := hinv.sl.old (by decide)
                          go_simp
                          exact hinv.step (i := 4) rfl (by omega) (by omega) (by omega) rfl (.inl rfl)
                        | 5, _, hL, ho, hdep =>
                          injection ho with ho; subst ho
                          dsimp only
                          rw [if_pos (by rfl)]
                          refine ⟨fun f _ => trivial, ?_⟩
                          have e46 : a2.tmps[46]?.getD undef = .pointer (some ⟨B + 1, 0, none⟩) := hinv.sl.new (i := 4) (by decide) rfl (hdep ⟨4, .data⟩ (by simp) rfl)
                          have z0 := cell_later (hinv.w0 (q7 (.inr (.inr hL)))) b0
                          go_simp
                          exact hinv.step (i := 5) rfl (by omega) (by omega) (by omega) rfl (.inl rfl)
                        | 6, _, hL, ho, hdep =>
                          injection ho with ho; subst ho
                          dsimp only
                          rw [if_pos (by rfl)]
                          refine ⟨fun f _ => trivial, ?_⟩
                          have e45 : a2.tmps[45]?.getD undef = .agg #[.bool true, .string c.new.text, .bool c.new.runs] := hinv.sl.new (i := 3) (by decide) rfl (hdep ⟨3, .data⟩ (by simp) rfl)
                          have e47 : a2.tmps[47]?.getD undef = .string c.path := hinv.sl.new (i := 5) (by decide) rfl (hdep ⟨5, .data⟩ (by simp) rfl)
                          go_simp
                          refine CallsIn.mono (CallsIn.inRound l (callsIn_wide.2 (entry_any c.path c.new.text c.new.runs _ (by omega) (by omega)))) ?_
                          rintro e' w' ⟨rfl, hb'⟩
                          exact hinv.step (i := 6) rfl (by omega) (by omega) (by omega) rfl (.inr ⟨hb', q7 (.inl hL), q8 (.inr (.inr hL)), q10 (.inr (.inr hL))⟩)
                        | 7, _, hL, ho, hdep =>
                          injection ho with ho; subst ho
                          dsimp only
                          rw [if_pos (by rfl)]
                          refine ⟨fun f _ => trivial, ?_⟩
                          have e48 : a2.tmps[48]?.getD undef = .agg #[.string c.path, .string c.new.text, .bool c.new.runs] := hinv.sl.new (i := 6) (by decide) rfl (hdep ⟨6, .data⟩ (by simp) rfl)
                          go_simp
                          exact hinv.build rfl (q8 (.inr (.inl hL))) (q10 (.inr (.inl hL))) hL
                        | 8, _, hL, ho, hdep =>
                          injection ho with ho; subst ho
                          dsimp only
                          rw [if_pos (by rfl)]
                          have h7 := hdep ⟨7, .data⟩ (by simp) rfl
                          obtain ⟨y, hby, rfl, ex⟩ := hinv.w1 h7 (getD_ft hL)
                          have ev := hinv.sl.sl 1 (by decide) _ rfl (hdep ⟨1, .data⟩ (by simp) rfl)
                          have hbz : Below w9.heap.size w9 (y.alloc (.cells #[.string c.path, .string c.new.text, .bool c.new.runs] 62)) := hby.alloc hby.size _
                          have hgs := HST.out.grown.size
                          have hys := hby.size
                          obtain ⟨g3, cap3, w7, hr3, hown3, hgrow3, _, _⟩ := run_append_lies (P := Try.prog) (y.alloc (.cells #[.string c.path, .string c.new.text, .bool c.new.runs] 62)) 30 30 Wz.heap.size 62 i0 _ 3 40 Try.underlying30 hi hz0 hz1' hzb' rfl (by decide) v (outsA pre).length (ecells (outsA pre)) (owns_below HST.out.row hbz) ⟨y.heap.size, 0, none⟩ 1 1 (ecell ⟨c.path, c.new.text, c.new.runs⟩) rfl (news_3 y ⟨c.path, c.new.text, c.new.runs⟩ _ _ rfl) (one_3 _) (by omega) (by unfold maxLen; omega) (by omega) (by simp; omega) (y.heap.size + 1) (by simp)
                          exact wpIn_appendR _ _ _ rfl ev ex hr3 (hinv.app rfl h7 (q10 (.inl hL)) hL hbz hown3 hgrow3)
                        | 9, _, hL, ho, hdep =>
                          injection ho with ho; subst ho
                          dsimp only
                          rw [if_pos (by rfl)]
                          refine ⟨fun f _ => trivial, ?_⟩
                          have e6 : a2.tmps[6]?.getD undef = .pointer (some ⟨ob, 0, none⟩) := hinv.sl.old (by decide)
                          go_simp
                          exact hinv.step (i := 9) rfl (by omega) (by omega) (by omega) rfl (.inl rfl)
                        | 10, _, hL, ho, hdep =>
                          injection ho with ho; subst ho
                          dsimp only
                          rw [if_pos (by rfl)]
                          refine ⟨fun f _ => trivial, ?_⟩
                          have h8 := hdep ⟨8, .data⟩ (by simp) rfl
                          obtain ⟨W1, g3, cap3, ex, hbx, hown3, hgrow3⟩ := hinv.w2 h8 (getD_ft hL)
                          have e50 := evalD2 ex
                          have e51 : a2.tmps[51]?.getD undef = .pointer (some ⟨ob, 0, none⟩) := hinv.sl.new (i := 9) (by decide) rfl (hdep ⟨9, .data⟩ (by simp) rfl)
                          obtain ⟨oc3, of3⟩ := HST.out.mid hbx hgrow3
                          go_simp
                          exact hinv.last (q87 h8) h8 hL ⟨_, HST.out.append hbx hgrow3 hown3⟩
            · intro L a2 w9 i o hinv hcl hL ho hdep
              have hi5 : i < 5 := (Array.getElem?_eq_some_iff.1 ho).1
              unfold wpOpIn
              rw [ho]
              clear hcl
              match i, hi5, hL, ho, hdep with
                | 0, _, hL, ho, hdep =>
                  injection ho with ho; subst ho
                  dsimp only
                  rw [if_pos (by rfl)]
                  refine ⟨fun f _ => trivial, ?_⟩
                  have e7 : a2.tmps[7]?.getD undef = .pointer (some ⟨B, 0, none⟩) := hinv.sl.old (by decide)
                  have z0 := cell_later hinv.wd a0
                  have z1 := cell_later hinv.wd a1
                  have z2 := cell_later hinv.wd a2c
                  go_simp
                  exact hinv.step fNd (i := 0) (by decide) (by show 33 < 57; decide) rfl (Below.refl _ _)
                | 1, _, hL, ho, hdep =>
                  injection ho with ho; subst ho
                  dsimp only
                  rw [if_pos (by rfl)]
                  refine ⟨fun f _ => trivial, ?_⟩
                  have e33 : a2.tmps[33]?.getD undef = .agg #[.string e.path, .string e.text, .bool e.runs] := hinv.sl.new (i := 0) (by decide) rfl (hdep ⟨0, .data⟩ (by simp) rfl)
                  go_simp
                  refine CallsIn.mono (CallsIn.inRound l (callsIn_wide.2 (fileE_any e _))) ?_
                  rintro e' w' ⟨rfl, hb'⟩
                  exact hinv.step fNd (i := 1) (by decide) (by show 34 < 57; decide) rfl hb'
                | 2, _, hL, ho, hdep =>
                  injection ho with ho; subst ho
                  dsimp only
                  rw [if_pos (by rfl)]
                  refine ⟨fun f _ => trivial, ?_⟩
                  have e8 : a2.tmps[8]?.getD undef = .pointer (some ⟨B + 1, 0, none⟩) := hinv.sl.old (by decide)
                  go_simp
                  exact hinv.step fNd (i := 2) (by decide) (by show 35 < 57; decide) rfl (Below.refl _ _)
                | 3, _, hL, ho, hdep =>
                  injection ho with ho; subst ho
                  dsimp only
                  rw [if_pos (by rfl)]
                  refine ⟨fun f _ => trivial, ?_⟩
                  have e35 : a2.tmps[35]?.getD undef = .pointer (some ⟨B + 1, 1, none⟩) := hinv.sl.new (i := 2) (by decide) rfl (hdep ⟨2, .data⟩ (by simp) rfl)
                  have z0 := cell_later hinv.wd b1
                  have z1 := cell_later hinv.wd b2
                  have z2 := cell_later hinv.wd b3
                  go_simp
                  exact hinv.step fNd (i := 3) (by decide) (by show 36 < 57; decide) rfl (Below.refl _ _)
                | 4, _, hL, ho, hdep =>
                  injection ho with ho; subst ho
                  dsimp only
                  rw [if_pos (by rfl)]
                  refine ⟨fun f _ => trivial, ?_⟩
                  have e34 : a2.tmps[34]?.getD undef = .agg #[.bool (fileE e).there, .string (fileE e).text, .bool (fileE e).runs] := hinv.sl.new (i := 1) (by decide) rfl (hdep ⟨1, .data⟩ (by simp) rfl)
                  have e36 : a2.tmps[36]?.getD undef = .agg #[.bool c.old.there, .string c.old.text, .bool c.old.runs] := hinv.sl.new (i := 3) (by decide) rfl (hdep ⟨3, .data⟩ (by simp) rfl)
                  have hfin := fun v (hv : v = Value.bool nb) => hinv.step fNd (i := 4) (v := v) (by decide) (by show 37 < 57; decide) (by rw [hv]; rfl) (Below.refl _ _)
                  clear hinv a0 a1 a2c b0 b1 b2 b3 b4 b5 b6
                  generalize fileE e = f at *
                  generalize c.old = fo at *
                  obtain ⟨f1, f2, f3⟩ := f
                  obtain ⟨g1, g2, g3⟩ := fo
                  dsimp only at e34 e36
                  by_cases q1 : f1 = g1
                  · by_cases q2 : f2.toList = g2.toList
                    · by_cases q3 : f3 = g3
                      · have q4 : f2 = g2 := WideShapes.bytes_inj (by rw [← Lib.toList_data, ← Lib.toList_data]; exact q2)
                        subst q1 q3 q4
                        go_simp
                        exact hfin _ (by rw [HNB.out, sameF_self]; rfl)
                      · go_simp
                        exact hfin _ (by rw [HNB.out]; simp [sameF, q3])
                    · go_simp
                      exact hfin _ (by rw [HNB.out]; simp [sameF, q2])
                  · go_simp
                    exact hfin _ (by rw [HNB.out]; simp [sameF, q1])
      case done =>
        rintro W ⟨hnc, Wz, v, hz1, hz2, hst⟩ hK
        have hAR := outs_app HVT.out HVU.out
        have hlen : (outsA (mrgEC ps qs)).length ≤ 1048576 := by
          have h1 := outsA_len (mrgEC ps qs)
          have h2 : (mrgEC ps qs).length ≤ ps.length + qs.length := mrg_lenA En.path Ch.path (ps.length + qs.length) ps qs
          have h3 := HVT.out.1
          have h4 := HVU.out.1
          omega
        have HNB : Keep (∀ x ∈ qs, sameF (atL ps x.path) x.old = true) := ⟨fun x hx => by
          cases hb : sameF (atL ps x.path) x.old with
          | true => rfl
          | false =>
            obtain ⟨y, hy, hyb⟩ := (bad_iff HVT.out HVU.out).2 ⟨x, hx, hb⟩
            rw [hnc y hy] at hyb
            cases hyb⟩
        have hzu : ∀ e ∈ outsA (mrgEC ps qs), e.path.size ≤ 1048576 := fun e he => by
          rcases (hAR.mem e).1 he with ⟨c, hc, _, rfl⟩ | ⟨h1, _⟩
          · exact hzb c hc
          · exact hz e h1
        have kW := hst.keep (cell_later hz2 kl) (by have := HL.out; omega) (by have := HL.out; omega)
        have hW := hst.keep (cell_later hz2 hl0) (by have := HL.out; omega) (by have := HL.out; omega)
        have kfW : W.frozen? ⟨g, 0, none⟩ = false := frozen_of (hst.grown.block g (by have := HL.out; omega) (fun e => by have := HL.out; cases e; omega)) ((hz2.frozen (p := ⟨g, 0, none⟩) (by have := HL.out; show g < _; omega)).trans kfl)
        have hfW : W.frozen? ⟨h, 0, none⟩ = false := frozen_of (hst.grown.block h (by have := HL.out; omega) (fun e => by have := HL.out; cases e; omega)) ((hz2.frozen (p := ⟨h, 0, none⟩) (by have := HL.out; show h < _; omega)).trans hfl)
        have oW := hst.cell
        have hbW := hst.below (hbl.trans (hz2.mono hbl.size)) (show w.heap.size ≤ ob by have := HL.out; omega)
        obtain ⟨ad, cap, rfl⟩ := owns_slice hst.row
        have hcl := el_of_row hst.row
        have HZ : Keep (w.heap.size ≤ g ∧ h = g + 1 ∧ h < wl.heap.size ∧ Wz.heap.size = wl.heap.size + 2 ∧ Wz.heap.size ≤ W.heap.size) := ⟨by have := HL.out; have := hst.grown.size; omega⟩
        clear hst hz2 hI0 hps hqs HNO hnc wsz
        generalize outsA (mrgEC ps qs) = us at *
        have hvt := implTree_any ad cap us W hcl.es hlen hzu
        gi_wp2_with fail
        refine ⟨trivial, ?_⟩
        refine (callsIn_wide.2 hvt).mono ?_
        rintro e W5 ⟨vb, rfl, hvb, hb5⟩
        have HVB : Keep (vb = true ↔ ValidTs us) := ⟨hvb⟩
        replace kW := cell_later hb5 kW
        replace hW := cell_later hb5 hW
        replace oW := cell_later hb5 oW
        have hgl : h < W.heap.size := by have := HZ.out; omega
        replace kfW : W5.frozen? ⟨g, 0, none⟩ = false := (hb5.frozen (p := ⟨g, 0, none⟩) (by have := HZ.out; show g < _; omega)).trans kfW
        replace hfW : W5.frozen? ⟨h, 0, none⟩ = false := (hb5.frozen (p := ⟨h, 0, none⟩) hgl).trans hfW
        replace hcl := hcl.below hb5
        replace hbW := hbW.trans (hb5.mono hbW.size)
        replace hK := (hb5.block wl.heap.size (by have := HZ.out; omega)).trans hK
        have fin : ∀ (vs : List En) (c : Int) (ad2 : Option Addr) (cap2 : Nat), ApplyRel ps qs vs c → EL Wz.heap.size W5 ad2 vs → ∃ W3, W3 = (W5.setCell ⟨g, 0, none⟩ (.slice ad2 vs.length cap2)).setCell ⟨h, 0, none⟩ (.int .i64 c) ∧ W3.heap[wl.heap.size]? = some (.deferred (some [])) ∧ (W3.putObj wl.heap.size (.deferred none)).cell? ⟨g, 0, none⟩ = some (.slice ad2 vs.length cap2) ∧ (W3.putObj wl.heap.size (.deferred none)).cell? ⟨h, 0, none⟩ = some (.int .i64 c) ∧ ApplyPost ps qs w (.returned (TreeV ad2 vs.length cap2 c)) (W3.putObj wl.heap.size (.deferred none)) := fun vs c ad2 cap2 hrel hcs => by
          have hzz := HZ.out
          have hbk : ∀ k, k ≠ g → k ≠ h → ((W5.setCell ⟨g, 0, none⟩ (.slice ad2 vs.length cap2)).setCell ⟨h, 0, none⟩ (.int .i64 c)).heap[k]? = W5.heap[k]? := fun k h1 h2 => (Below.heap_setCell _ _ _ _ h2).trans (Below.heap_setCell _ _ _ _ h1)
          have hg1 := hcs.grown (row := some g) (grown_set0 W5 g 0 (.slice ad2 vs.length cap2)) (fun j _ hj _ e => by cases e; omega)
          have hg2 := hg1.grown (row := some h) (grown_set0 _ h 0 (.int .i64 c)) (fun j _ hj _ e => by cases e; omega)
          have hbW2 := (hbW.setCell (p := ⟨g, 0, none⟩) hzz.1 (.slice ad2 vs.length cap2)).setCell (p := ⟨h, 0, none⟩) (by show _ ≤ h; omega) (.int .i64 c)
          have kc : ((W5.setCell ⟨g, 0, none⟩ (.slice ad2 vs.length cap2)).setCell ⟨h, 0, none⟩ (.int .i64 c)).cell? ⟨g, 0, none⟩ = some (.slice ad2 vs.length cap2) := (World.cell?_setCell_other _ _ _ _ (by intro e; exact hhg (congrArg Addr.block e))).trans (World.cell?_setCell_same _ _ _ kW)
          have hc : ((W5.setCell ⟨g, 0, none⟩ (.slice ad2 vs.length cap2)).setCell ⟨h, 0, none⟩ (.int .i64 c)).cell? ⟨h, 0, none⟩ = some (.int .i64 c) := World.cell?_setCell_same _ _ _ ((World.cell?_setCell_other _ _ _ _ (by intro e; exact hgh (congrArg Addr.block e))).trans hW)
          refine ⟨_, rfl, (hbk _ (by omega) (by omega)).trans hK, ?_⟩
          generalize (W5.setCell ⟨g, 0, none⟩ (.slice ad2 vs.length cap2)).setCell ⟨h, 0, none⟩ (.int .i64 c) = W3 at *
          have hgp : W3.grownBy (W3.putObj wl.heap.size (.deferred none)) (some wl.heap.size) := ⟨rfl, rfl, rfl, by simp, fun k _ hk => World.putObj_heap_other (fun e => hk (by rw [e]))⟩
          exact ⟨(World.cell?_of_block (World.putObj_heap_other (fun e => by have e2 : g = wl.heap.size := e; omega))).trans kc, (World.cell?_of_block (World.putObj_heap_other (fun e => by have e2 : h = wl.heap.size := e; omega))).trans hc, vs, c, hrel, ⟨ad2, cap2, rfl, (hg2.grown hgp (fun j _ hj _ e => by cases e; omega)).mono (by omega)⟩, hbW2.grown hgp hbW2.size (fun j e => by cases e; omega)⟩
        cases vb with
        | true =>
          have hvv := HVB.out.1 rfl
          obtain ⟨W3, hW3, hK3, kc, hc, hpost⟩ := fin us 0 ad cap (.inr ⟨HVT.out, HVU.out, .inr ⟨HNB.out, us, hAR, .inr ⟨hvv, rfl, rfl⟩⟩⟩) hcl
          have HP : Keep _ := ⟨hpost⟩
          clear fin hcl hbW hpost hvt hAR hzu hvb
          gi_wp2
          rw [← hW3]
          refine ⟨by simp, .inl ⟨_, _, rfl, run_takeDeferred hK3, ?_⟩⟩
          refine ⟨_, ?_, HP.out⟩
          simp [results, Try.f9, go_sem, TreeV, kc, hc]
        | false =>
          have hvv : ¬ ValidTs us := fun h => by have := HVB.out.2 h; cases this
          obtain ⟨W3, hW3, hK3, kc, hc, hpost⟩ := fin [] 3 none 0 (.inr ⟨HVT.out, HVU.out, .inr ⟨HNB.out, us, hAR, .inl ⟨hvv, rfl, rfl⟩⟩⟩) (EL.nil _ _ _)
          have HP : Keep _ := ⟨hpost⟩
          replace hW3 : W3 = (W5.setCell ⟨g, 0, none⟩ (.slice none 0 0)).setCell ⟨h, 0, none⟩ (.int .i64 3) := hW3
          clear fin hcl hbW hpost hvt hAR hzu hvb
          gi_wp2
          rw [← hW3]
          refine ⟨by simp, .inl ⟨_, _, rfl, run_takeDeferred hK3, ?_⟩⟩
          refine ⟨_, ?_, HP.out⟩
          simp [results, Try.f9, go_sem, TreeV, kc, hc]
      case stop =>
        rintro pre W hpre ⟨⟨x, hx, hcl⟩, hb, c1, c2⟩ hK
        have hcn : ∃ c ∈ qs, sameF (atL ps c.path) c.old = false := (bad_iff HVT.out HVU.out).1 ⟨x, hpre.subset hx, hcl⟩
        clear wsz
        gi_wp2
        refine ⟨by simp, .inl ⟨_, _, rfl, run_takeDeferred hK, ?_⟩⟩
        have hgp : W.grownBy (W.putObj wl.heap.size (.deferred none)) (some wl.heap.size) := ⟨rfl, rfl, rfl, by simp, fun k _ hk => World.putObj_heap_other (fun e => hk (by rw [e]))⟩
        have kc : (W.putObj wl.heap.size (.deferred none)).cell? ⟨g, 0, none⟩ = some (.slice none 0 0) := (World.cell?_of_block (World.putObj_heap_other (fun e => by have := HL.out; have e2 : g = wl.heap.size := e; omega))).trans c1
        have hc : (W.putObj wl.heap.size (.deferred none)).cell? ⟨h, 0, none⟩ = some (.int .i64 2) := (World.cell?_of_block (World.putObj_heap_other (fun e => by have := HL.out; have e2 : h = wl.heap.size := e; omega))).trans c2
        refine ⟨TreeV none ([] : List En).length 0 2, ?_, [], 2, .inr ⟨HVT.out, HVU.out, .inl ⟨hcn, rfl, rfl⟩⟩, ⟨none, 0, rfl, EL.nil _ _ _⟩, hb.grown hgp hb.size (fun j e => by have := HL.out; cases e; omega)⟩
        simp [results, Try.f9, go_sem, TreeV, kc, hc]
end Go.Proofs.Ytidkcdppdkfplaa
