/-
  AppI, RegX, DecT2, DrawMs, RegY, DrawQs, NameS, PathS, DiffS, DrawQr, RegZ, TinC, DrawJs, DrawQd, DrawPs, CopyC, DrawPv, DrawPw, DrawSl, UndoP, PjP, JnT, DrawAp, LyN, ApRN, ApN, DrawJn, WCd, ChgS, JoinR, JoinS, JnA, LawJn, ExactJnL: laid as one text.
-/
import Derived.Test.YtjlflmbifeocbaaJlA
import Derived.Sort.CutIn
import Derived.Test.YtjlflmbifeocbaaDecT
import Derived.Test.YtjlflmbifeocbaaSplitP
import Derived.Test.YtjlflmbifeocbaaDrawTr
import Derived.Test.YtjlflmbifeocbaaChOut
import Derived.Test.YtjlflmbifeocbaaStrsB
import Derived.Test.YtjlflmbifeocbaaBase
import Derived.Test.YtjlflmbifeocbaaEntL
import Derived.Test.YtjlflmbifeocbaaPatP
import Derived.Test.YtjlflmbifeocbaaSpecTree
import Derived.Deep.RegionLaw
import Derived.Deep.CutRange
import Derived.Test.YtjlflmbifeocbaaNear
import Derived.Maps.AppendAt
import Derived.Deep.Slices
import Derived.Test.YtjlflmbifeocbaaCopyT
import Derived.Test.YtjlflmbifeocbaaDrawD5
import Derived.Test.YtjlflmbifeocbaaDrawS5
import Derived.Test.YtjlflmbifeocbaaCopyR
import Derived.Test.YtjlflmbifeocbaaDrawPth
import Derived.Deep.AppendLies
import Derived.ProofKit
import Derived.OpenShut
import Derived.ShutString
import Derived.ChangeOld
import Derived.Below
import Derived.SliceStrings
import Derived.ChangeSlices
namespace Go.Proofs.Ytjlflmbifeocbaa
open Go.RowKit Go.Shelf

attribute [local go_sem] Oper.semAt_some

def ApI (wl : World) (ob : Nat) (pre : List PEC) (W : World) : Prop :=
  (∀ x ∈ pre, badA x.2.1 x.2.2 = false) ∧ ∃ Wz v, Wz.heap.size = wl.heap.size + 2 ∧ Below wl.heap.size wl Wz ∧ OutSt ob Wz v (outsA pre) W
def ApX (w : World) (g h : Nat) (pre : List PEC) (W : World) : Prop :=
  (∃ x ∈ pre, badA x.2.1 x.2.2 = true) ∧ Below w.heap.size w W ∧ W.cell? ⟨g, 0, none⟩ = some (.slice none 0 0) ∧ W.cell? ⟨h, 0, none⟩ = some (.int .i64 2)

/-- What Apply gives, its room besides. -/
def ApplyPostC (ts : List En) (cs : List Ch) (w : World) (e : Ending) (w' : World) : Prop :=
  ∃ us c, ApplyRel ts cs us c ∧ (∃ ad cap, e = .returned (TreeV ad us.length cap c) ∧ EL w.heap.size w' ad us ∧ us.length ≤ cap) ∧ Below w.heap.size w w'

set_option maxRecDepth 100000 in
set_option maxHeartbeats 40000000 in
theorem implApplyC_any (a b : Option Addr) (ca cb : Nat) (ps : List En) (qs : List Ch) (w : World) (hps : ES w a ps) (hqs : CS w b qs) (hn : ps.length ≤ 1048576) (hnb : qs.length ≤ 1048576) (hca : ps.length ≤ ca) (hcb : qs.length ≤ cb) (hz : ∀ c ∈ ps, c.path.size ≤ 1048576) (hzb : ∀ c ∈ qs, c.path.size ≤ 1048576) :
    Calls Try.prog 10 #[.agg #[.slice a ps.length ca], .agg #[.slice b qs.length cb]] w fun e w' => ApplyPostC ps qs w e w' := by
  have hal : Below w.heap.size w ((((w.alloc (.cells #[.slice a ps.length ca] 25)).alloc (.cells #[.slice b qs.length cb] 30)).alloc (.cells #[.slice none 0 0] 25)).alloc (.cells #[.int .i64 0] 3)) := ((((Below.refl _ _).alloc (Nat.le_refl _) _).alloc (by simp) _).alloc (by simp; omega) _).alloc (by simp; omega) _
  have m0 : ((((w.alloc (.cells #[.slice a ps.length ca] 25)).alloc (.cells #[.slice b qs.length cb] 30)).alloc (.cells #[.slice none 0 0] 25)).alloc (.cells #[.int .i64 0] 3)).cell? ⟨w.heap.size, 0, none⟩ = some (.slice a ps.length ca) := by simp [go_sem]
  have m1 : ((((w.alloc (.cells #[.slice a ps.length ca] 25)).alloc (.cells #[.slice b qs.length cb] 30)).alloc (.cells #[.slice none 0 0] 25)).alloc (.cells #[.int .i64 0] 3)).cell? ⟨w.heap.size + 1, 0, none⟩ = some (.slice b qs.length cb) := by simp [go_sem]
  have k0 : ((((w.alloc (.cells #[.slice a ps.length ca] 25)).alloc (.cells #[.slice b qs.length cb] 30)).alloc (.cells #[.slice none 0 0] 25)).alloc (.cells #[.int .i64 0] 3)).cell? ⟨w.heap.size + 1 + 1, 0, none⟩ = some (.slice none 0 0) := by simp [go_sem]
  have kf : ((((w.alloc (.cells #[.slice a ps.length ca] 25)).alloc (.cells #[.slice b qs.length cb] 30)).alloc (.cells #[.slice none 0 0] 25)).alloc (.cells #[.int .i64 0] 3)).frozen? ⟨w.heap.size + 1 + 1, 0, none⟩ = false := by simp [go_sem]
  have h0 : ((((w.alloc (.cells #[.slice a ps.length ca] 25)).alloc (.cells #[.slice b qs.length cb] 30)).alloc (.cells #[.slice none 0 0] 25)).alloc (.cells #[.int .i64 0] 3)).cell? ⟨w.heap.size + 1 + 1 + 1, 0, none⟩ = some (.int .i64 0) := by simp [go_sem]
  have hf : ((((w.alloc (.cells #[.slice a ps.length ca] 25)).alloc (.cells #[.slice b qs.length cb] 30)).alloc (.cells #[.slice none 0 0] 25)).alloc (.cells #[.int .i64 0] 3)).frozen? ⟨w.heap.size + 1 + 1 + 1, 0, none⟩ = false := by simp [go_sem]
  have os0 : w.heap.size + 1 + 1 + 1 < ((((w.alloc (.cells #[.slice a ps.length ca] 25)).alloc (.cells #[.slice b qs.length cb] 30)).alloc (.cells #[.slice none 0 0] 25)).alloc (.cells #[.int .i64 0] 3)).heap.size := by simp [go_sem]
  refine (callsIn_wide (n := 5)).1 ?_
  refine callsIn_of_wp_marks Try.func10 rfl trivial ?_ rfl
  simp only [Try.ntmps10, List.size_toArray, List.length_cons, List.length_nil, Nat.reduceAdd, Nat.reduceSub, Array.replicate_succ, Array.replicate_zero, List.push_toArray, List.append_toArray, List.nil_append, List.cons_append]
  gi_wp2_with fail
  refine ⟨trivial, ?_⟩
  refine (callsIn_wide.2 (implTree_any a ca ps _ (hps.below hal) hn hz)).mono ?_
  rintro e w1 ⟨vb, rfl, hvb, hb1⟩
  replace m0 := cell_later hb1 m0
  replace m1 := cell_later hb1 m1
  replace k0 := cell_later hb1 k0
  replace h0 := cell_later hb1 h0
  replace kf : w1.frozen? ⟨w.heap.size + 1 + 1, 0, none⟩ = false := (hb1.frozen (p := ⟨w.heap.size + 1 + 1, 0, none⟩) (by show w.heap.size + 1 + 1 < _; omega)).trans kf
  replace hf : w1.frozen? ⟨w.heap.size + 1 + 1 + 1, 0, none⟩ = false := (hb1.frozen (p := ⟨w.heap.size + 1 + 1 + 1, 0, none⟩) os0).trans hf
  have os1 : w.heap.size + 1 + 1 + 1 < w1.heap.size := Nat.lt_of_lt_of_le os0 hb1.size
  have hbw := hal.trans (hb1.mono hal.size)
  have HV : Keep (vb = true ↔ ValidTs ps) := ⟨hvb⟩
  clear hvb hb1 hal os0
  obtain ⟨ta, hta⟩ : ∃ x, x = w.heap.size := ⟨_, rfl⟩
  obtain ⟨tb, htb⟩ : ∃ x, x = w.heap.size + 1 := ⟨_, rfl⟩
  obtain ⟨g, hg⟩ : ∃ x, x = w.heap.size + 1 + 1 := ⟨_, rfl⟩
  obtain ⟨h, hh⟩ : ∃ x, x = w.heap.size + 1 + 1 + 1 := ⟨_, rfl⟩
  rw [← hh] at h0 hf ⊢
  rw [← hg] at k0 kf ⊢
  rw [← htb] at m1 ⊢
  rw [← hta] at m0 ⊢
  have HS : Keep (ta = w.heap.size ∧ tb = ta + 1 ∧ g = tb + 1 ∧ h = g + 1 ∧ h < w1.heap.size) := ⟨by omega⟩
  have hgh : ¬ g = h := by omega
  have hhg : ¬ h = g := by omega
  clear hta htb hg hh os1
  have HNO : Keep (∀ X : World, Below w.heap.size w X → ¬ (ValidTs ps ∧ ValidP qs) → ApplyPostC ps qs w (.returned (TreeV none ([] : List En).length 0 1)) ((X.setCell ⟨g, 0, none⟩ (.slice none 0 0)).setCell ⟨h, 0, none⟩ (.int .i64 1))) := ⟨fun X hX hnv => ⟨[], 1, .inl ⟨hnv, rfl, rfl⟩, ⟨none, 0, rfl, EL.nil _ _ _, Nat.le_refl _⟩, (hX.setCell (p := ⟨g, 0, none⟩) (by have := HS.out; show _ ≤ g; omega) _).setCell (p := ⟨h, 0, none⟩) (by have := HS.out; show _ ≤ h; omega) _⟩⟩
  cases vb with
  | false =>
    have hnv : ¬ (ValidTs ps ∧ ValidP qs) := fun h => by have := HV.out.2 h.1; cases this
    gi_wp2
    refine ⟨trivial, ?_⟩
    gi_wp2
    refine ⟨TreeV none ([] : List En).length 0 1, ?_, HNO.out _ hbw hnv⟩
    simp [results, Try.f10, go_sem, TreeV, k0, h0]
  | true =>
    have HVT : Keep (ValidTs ps) := ⟨HV.out.1 rfl⟩
    gi_wp2_with fail
    refine ⟨trivial, ?_⟩
    refine (callsIn_wide.2 (implPatch_any b cb qs _ (hqs.below hbw) hnb hzb)).mono ?_
    rintro e w2 ⟨vb, rfl, hvb, hb2⟩
    have HV2 : Keep (vb = true ↔ ValidP qs) := ⟨hvb⟩
    replace m0 := cell_later hb2 m0
    replace m1 := cell_later hb2 m1
    replace k0 := cell_later hb2 k0
    replace h0 := cell_later hb2 h0
    replace kf : w2.frozen? ⟨g, 0, none⟩ = false := (hb2.frozen (p := ⟨g, 0, none⟩) (by have := HS.out; show g < _; omega)).trans kf
    replace hf : w2.frozen? ⟨h, 0, none⟩ = false := (hb2.frozen (p := ⟨h, 0, none⟩) HS.out.2.2.2.2).trans hf
    have HS2 : Keep (ta = w.heap.size ∧ tb = ta + 1 ∧ g = tb + 1 ∧ h = g + 1 ∧ h < w2.heap.size) := ⟨by have := HS.out; have := hb2.size; omega⟩
    replace hbw := hbw.trans (hb2.mono hbw.size)
    clear hvb hb2 HS HV
    cases vb with
    | false =>
      have hnv : ¬ (ValidTs ps ∧ ValidP qs) := fun h => by have := HV2.out.2 h.2; cases this
      gi_wp2
      refine ⟨TreeV none ([] : List En).length 0 1, ?_, HNO.out _ hbw hnv⟩
      simp [results, Try.f10, go_sem, TreeV, k0, h0]
    | true =>
      have HVU : Keep (ValidP qs) := ⟨HV2.out.1 rfl⟩
      have hal2 : Below w2.heap.size w2 (w2.alloc (.cells #[.slice none 0 0] 25)) := (Below.refl _ _).alloc (Nat.le_refl _) _
      replace m0 := cell_later hal2 m0
      replace m1 := cell_later hal2 m1
      have ob0 : (((w2.alloc (.cells #[.slice none 0 0] 25)).alloc (.cells #[.slice a ps.length ca] 23)).alloc (.cells #[.slice b qs.length cb] 28)).cell? ⟨w2.heap.size, 0, none⟩ = some (.slice none 0 0) := by simp [go_sem]
      have of0 : (((w2.alloc (.cells #[.slice none 0 0] 25)).alloc (.cells #[.slice a ps.length ca] 23)).alloc (.cells #[.slice b qs.length cb] 28)).frozen? ⟨w2.heap.size, 0, none⟩ = false := by simp [go_sem]
      have ma : (((w2.alloc (.cells #[.slice none 0 0] 25)).alloc (.cells #[.slice a ps.length ca] 23)).alloc (.cells #[.slice b qs.length cb] 28)).cell? ⟨w2.heap.size + 1, 0, none⟩ = some (.slice a ps.length ca) := by simp [go_sem]
      have mb : (((w2.alloc (.cells #[.slice none 0 0] 25)).alloc (.cells #[.slice a ps.length ca] 23)).alloc (.cells #[.slice b qs.length cb] 28)).cell? ⟨w2.heap.size + 1 + 1, 0, none⟩ = some (.slice b qs.length cb) := by simp [go_sem]
      have wsz : (((w2.alloc (.cells #[.slice none 0 0] 25)).alloc (.cells #[.slice a ps.length ca] 23)).alloc (.cells #[.slice b qs.length cb] 28)).heap.size = w2.heap.size + 3 := by simp [go_sem]
      have hb3 : Below w2.heap.size w2 (((w2.alloc (.cells #[.slice none 0 0] 25)).alloc (.cells #[.slice a ps.length ca] 23)).alloc (.cells #[.slice b qs.length cb] 28)) := (((Below.refl _ _).alloc (Nat.le_refl _) _).alloc (by simp) _).alloc (by simp; omega) _
      gi_wp2_with (refine ⟨trivial, ?_⟩; gi_at_call 38; refine (callsIn_wide.2 (sideEC_any a b ps.length qs.length ca cb _)).mono ?_; rintro e w' ⟨rfl, rfl⟩)
      generalize hwl : (((w2.alloc (.cells #[.slice none 0 0] 25)).alloc (.cells #[.slice a ps.length ca] 23)).alloc (.cells #[.slice b qs.length cb] 28)) = wl at *
      clear hwl
      have hbl := hbw.trans (hb3.mono hbw.size)
      have kl := cell_later hb3 k0
      have hl0 := cell_later hb3 h0
      have kfl : wl.frozen? ⟨g, 0, none⟩ = false := (hb3.frozen (p := ⟨g, 0, none⟩) (by have := HS2.out; show g < _; omega)).trans kf
      have hfl : wl.frozen? ⟨h, 0, none⟩ = false := (hb3.frozen (p := ⟨h, 0, none⟩) HS2.out.2.2.2.2).trans hf
      obtain ⟨ob, hob⟩ : ∃ ob, ob = w2.heap.size := ⟨_, rfl⟩
      rw [← hob] at ob0 of0 ma mb wsz HS2 ⊢
      have HL : Keep (ta = w.heap.size ∧ tb = ta + 1 ∧ g = tb + 1 ∧ h = g + 1 ∧ h < ob ∧ wl.heap.size = ob + 3) := ⟨by have := HS2.out; omega⟩
      have hI0 : ∀ o1 o2, ApI wl ob [] ((wl.alloc o1).alloc o2) := fun o1 o2 => by
        have hb : Below wl.heap.size wl ((wl.alloc o1).alloc o2) := ((Below.refl _ _).alloc (Nat.le_refl _) _).alloc (by simp) _
        exact ⟨(fun x hx => by cases hx), _, _, by simp, hb, OutSt.start (cell_later hb ob0) ((hb.frozen (p := ⟨ob, 0, none⟩) (by show ob < _; omega)).trans of0) (by simp; omega)⟩
      clear hb3 hob k0 kf m0 m1 HS2 HV2 hbw hal2 h0 hf
      refine range_iter2 (sideEC_iter (ob + 1) (ob + 1 + 1) a b ca cb ps qs hca hcb hn hnb) (enters_of Try.func61 (by kernel_rfl) rfl) (n := 5) (by omega) rfl (fun x => rfl) (ApI wl ob) (ApX w g h)
        (fun pre W ⟨_, Wz, v, hz1, hz2, hst⟩ => ⟨hst.keep (cell_later hz2 ma) (by omega) (by omega), hst.keep (cell_later hz2 mb) (by omega) (by omega), hps.below (hst.below (hbl.trans (hz2.mono hbl.size)) (by have := HL.out; omega)), hqs.below (hst.below (hbl.trans (hz2.mono hbl.size)) (by have := HL.out; omega))⟩)
        (fun pre W W' ⟨hc, Wz, v, hz1, hz2, hst⟩ hb => ⟨hc, Wz, v, hz1, hz2, hst.later hb⟩)
        (fun pre W l o hl ⟨hc, Wz, v, hz1, hz2, hst⟩ => ⟨hc, Wz.putObj l o, v, by simpa using hz1, hz2.grown (row := some l) ⟨rfl, rfl, rfl, by simp, fun k _ hk => World.putObj_heap_other (fun e => hk (by rw [e]))⟩ hz2.size (fun j e => by cases e; omega), hst.putJ o (by omega) (by omega)⟩)
        (fun pre W l o hl ⟨hc, hb, c1, c2⟩ => ⟨hc, hb.grown (row := some l) ⟨rfl, rfl, rfl, by simp, fun k _ hk => World.putObj_heap_other (fun e => hk (by rw [e]))⟩ hb.size (fun j e => by cases e; have := HL.out; omega), (World.cell?_of_block (World.putObj_heap_other (fun e => by have := HL.out; have e2 : g = l := e; omega))).trans c1, (World.cell?_of_block (World.putObj_heap_other (fun e => by have := HL.out; have e2 : h = l := e; omega))).trans c2⟩) hI0
        (fun x B a' W => a' = { tmps := #[.agg #[.slice a ps.length ca], .agg #[.slice b qs.length cb], .pointer (some ⟨ta, 0, none⟩), .pointer (some ⟨tb, 0, none⟩), .pointer (some ⟨g, 0, none⟩), .pointer (some ⟨h, 0, none⟩), .pointer (some ⟨ob, 0, none⟩), .pointer (some ⟨B, 0, none⟩), .pointer (some ⟨B + 1, 0, none⟩), .agg #[.slice a ps.length ca], .bool true, .bool false, .bool false, .agg #[.slice b qs.length cb], .bool true, .bool false, .bool false, undef, .pointer (some ⟨ta, 0, none⟩), .slice a ps.length ca, .pointer (some ⟨tb, 0, none⟩), .slice b qs.length cb, .func (.func 61) #[] #[.pointer (some ⟨ob + 1, 0, none⟩), .pointer (some ⟨ob + 1 + 1, 0, none⟩)], cutEV (x.2.1.getD zeroE), cutCV (x.2.2.getD noCh), undef, undef, undef, undef, undef, undef, undef, undef, undef, undef, undef, undef, undef, undef, undef, undef, undef, undef, undef, undef, undef, undef, undef, undef, undef, undef, undef, undef, undef, undef, undef, undef], defers := [] } ∧ EBox B (x.2.1.getD zeroE) W ∧ CBox (B + 1) (x.2.2.getD noCh) W)
        (fun x B a' W l o hl ⟨h1, h2, h3⟩ => ⟨h1, h2.put o (by omega), h3.put o (by omega)⟩) ?assign ?body ?done ?stop
      case assign =>
        intro l x W K hK
        unfold yEC cutEV cutCV
        gi_wp2
        exact hK _ _ (((Below.refl _ _).alloc (Nat.le_refl _) _).alloc (by simp) _) ⟨rfl, ⟨by simp [go_sem], by simp [go_sem], by simp [go_sem]⟩, ⟨by simp [go_sem], by simp [go_sem], by simp [go_sem], by simp [go_sem], by simp [go_sem], by simp [go_sem], by simp [go_sem], fun j => by simp [go_sem], by simp [go_sem]⟩⟩
      case body =>
        rintro l pre x a' Wb W ⟨hnc, Wz, v, hz1, hz2, hst⟩ ⟨r, hr⟩ hB1 hbW ⟨rfl, hx, hy⟩
        have hul : (outsA pre).length ≤ 1048576 := by
          have h1 := outsA_len pre
          have h2 := congrArg List.length hr
          have h3 := mrg_lenA En.path Ch.path (ps.length + qs.length) ps qs
          have h4 := HVT.out.1
          have h5 := HVU.out.1
          simp only [List.length_append] at h2
          unfold mrgEC at h2
          omega
        have hmx : x ∈ mrgEC ps qs := by rw [hr]; simp
        have hvB1 : v.ownBlock ≠ some (Wb.heap.size + 1) := fun e => by have := hst.own_lt e; omega
        have st := hst.later hbW
        have HE : Keep (∀ v' w', badA x.2.1 x.2.2 = false → OutSt ob Wz v' (outsA pre ++ outA zeroE x.2.1 x.2.2) w' → TwoB wl.heap.size W w' ∧ ApI wl ob (pre ++ [x]) w') := ⟨fun v' w' hc h => ⟨⟨(h.grown.block _ (by omega) (fun e => by have := HL.out; cases e; omega)).trans (st.grown.block _ (by omega) (fun e => by have := HL.out; cases e; omega)).symm, (h.grown.block _ (by omega) (fun e => by have := HL.out; cases e; omega)).trans (st.grown.block _ (by omega) (fun e => by have := HL.out; cases e; omega)).symm⟩, (fun y hy => by
            rcases List.mem_append.1 hy with h' | h'
            · exact hnc y h'
            · rw [List.mem_singleton.1 h']; exact hc), Wz, v', hz1, hz2, by rw [outsA_snoc]; exact h⟩⟩
        have HR : Keep (∀ X, badA x.2.1 x.2.2 = true → OutSt ob Wz v (outsA pre) X → TwoB wl.heap.size W ((X.setCell ⟨g, 0, none⟩ (.slice none 0 0)).setCell ⟨h, 0, none⟩ (.int .i64 2)) ∧ ApX w g h (pre ++ [x]) ((X.setCell ⟨g, 0, none⟩ (.slice none 0 0)).setCell ⟨h, 0, none⟩ (.int .i64 2))) := ⟨fun X hc st' => by
          have hbk : ∀ k, k ≠ g → k ≠ h → ((X.setCell ⟨g, 0, none⟩ (.slice none 0 0)).setCell ⟨h, 0, none⟩ (.int .i64 2)).heap[k]? = X.heap[k]? := fun k h1 h2 => (Below.heap_setCell _ _ _ _ h2).trans (Below.heap_setCell _ _ _ _ h1)
          have kX := st'.keep (cell_later hz2 kl) (by have := HL.out; omega) (by have := HL.out; omega)
          have hX := st'.keep (cell_later hz2 hl0) (by have := HL.out; omega) (by have := HL.out; omega)
          refine ⟨⟨(hbk _ (by have := HL.out; omega) (by have := HL.out; omega)).trans ((st'.grown.block _ (by omega) (fun e => by have := HL.out; cases e; omega)).trans (st.grown.block _ (by omega) (fun e => by have := HL.out; cases e; omega)).symm), (hbk _ (by have := HL.out; omega) (by have := HL.out; omega)).trans ((st'.grown.block _ (by omega) (fun e => by have := HL.out; cases e; omega)).trans (st.grown.block _ (by omega) (fun e => by have := HL.out; cases e; omega)).symm)⟩, ⟨x, by simp, hc⟩, ?_, ?_, ?_⟩
          · exact ((st'.below (hbl.trans (hz2.mono hbl.size)) (by have := HL.out; omega)).setCell (p := ⟨g, 0, none⟩) (by have := HL.out; show _ ≤ g; omega) _).setCell (p := ⟨h, 0, none⟩) (by have := HL.out; show _ ≤ h; omega) _
          · exact (World.cell?_setCell_other _ _ _ _ (by intro e; exact hhg (congrArg Addr.block e))).trans (World.cell?_setCell_same _ _ _ kX)
          · exact World.cell?_setCell_same _ _ _ ((World.cell?_setCell_other _ _ _ _ (by intro e; exact hgh (congrArg Addr.block e))).trans hX)⟩
        have HK : Keep (∀ X, OutSt ob Wz v (outsA pre) X → (X.cell? ⟨g, 0, none⟩ = some (.slice none 0 0) ∧ X.cell? ⟨h, 0, none⟩ = some (.int .i64 0)) ∧ X.frozen? ⟨g, 0, none⟩ = false ∧ X.frozen? ⟨h, 0, none⟩ = false) := ⟨fun X st' => ⟨⟨st'.keep (cell_later hz2 kl) (by have := HL.out; omega) (by have := HL.out; omega), st'.keep (cell_later hz2 hl0) (by have := HL.out; omega) (by have := HL.out; omega)⟩, frozen_of (st'.grown.block g (by have := HL.out; omega) (fun e => by have := HL.out; cases e; omega)) ((hz2.frozen (p := ⟨g, 0, none⟩) (by have := HL.out; show g < _; omega)).trans kfl), frozen_of (st'.grown.block h (by have := HL.out; omega) (fun e => by have := HL.out; cases e; omega)) ((hz2.frozen (p := ⟨h, 0, none⟩) (by have := HL.out; show h < _; omega)).trans hfl)⟩⟩
        have HB : Keep (Wz.heap.size ≤ Wb.heap.size) := ⟨hst.grown.size⟩
        obtain ⟨hF1, hF2, hF3, hF4, hF5⟩ := round_facts HVT.out HVU.out hmx
        have HF1 : Keep (badA x.2.1 x.2.2 = !sameF (fileE (x.2.1.getD zeroE)) (chA x.2.1 x.2.2).old) := ⟨hF1⟩
        have HF2 : Keep (outA zeroE x.2.1 x.2.2 = (if (chA x.2.1 x.2.2).new.there = true then [⟨(chA x.2.1 x.2.2).path, (chA x.2.1 x.2.2).new.text, (chA x.2.1 x.2.2).new.runs⟩] else [])) := ⟨hF2⟩
        have HF5 : Keep ((x.2.2.getD noCh = noCh ∧ chA x.2.1 x.2.2 = ⟨(x.2.1.getD zeroE).path, fileE (x.2.1.getD zeroE), fileE (x.2.1.getD zeroE)⟩) ∨ (x.2.2.getD noCh = chA x.2.1 x.2.2 ∧ ((chA x.2.1 x.2.2).path.toList == ([] : List UInt8)) = false)) := ⟨by
          rcases hF5 with h5 | ⟨d, h5, h6⟩
          · exact .inl ⟨by rw [h5]; rfl, by unfold chA; rw [h5]; rfl⟩
          · exact .inr ⟨by unfold chA; rw [h5]; rfl, by unfold chA; rw [h5]; exact h6⟩⟩
        clear hst hbW hr hI0 ma mb of0 ob0 kl kfl hl0 hfl hbl hps hqs HNO hB1 wsz hmx hF1 hF2 hF5 hnc hz1 hz2
        generalize Wb.heap.size = B at *
        generalize x.2.1.getD zeroE = e at *
        generalize chA x.2.1 x.2.2 = c at *
        generalize x.2.2.getD noCh = c0 at *
        have hBn : ¬ B = B + 1 := by omega
        have hBn2 : ¬ B + 1 = B := by omega
        obtain ⟨nz, hnz⟩ : ∃ nz : Bool, (nz = true ∧ c0 = noCh ∧ c = ⟨e.path, fileE e, fileE e⟩) ∨ (nz = false ∧ c0 = c ∧ (c.path.toList == ([] : List UInt8)) = false) := by
          rcases HF5.out with ⟨h1, h2⟩ | ⟨h1, h2⟩
          · exact ⟨true, .inl ⟨rfl, h1, h2⟩⟩
          · exact ⟨false, .inr ⟨rfl, h1, h2⟩⟩
        have HNZ : Keep _ := ⟨hnz⟩
        clear hnz HF5
        have HX : Keep (EBox B e W) := ⟨hx⟩
        have HY : Keep (CBox (B + 1) c0 W) := ⟨hy⟩
        have HST : Keep (OutSt ob Wz v (outsA pre) W) := ⟨st⟩
        have a0 := hx.c0
        have a1 := hx.c1
        have a2 := hx.c2
        have b0 := hy.c0
        have b1 := hy.c1
        have b2 := hy.c2
        have b3 := hy.c3
        have b4 := hy.c4
        have b5 := hy.c5
        have b6 := hy.c6
        clear hx hy st
        gi_upto_region 7 with fail
        dsimp only
        gi_cut [27] from 28 (fun u wx => u = .bool nz ∧ wx = W)
        case first =>
          rcases HNZ.out with ⟨rfl, rfl, _⟩ | ⟨rfl, rfl, hp0⟩
          · replace b0 : W.cell? ⟨B + 1, 0, none⟩ = some (.string ⟨#[]⟩) := b0
            replace b1 : W.cell? ⟨B + 1, 1, none⟩ = some (.bool false) := b1
            replace b2 : W.cell? ⟨B + 1, 2, none⟩ = some (.string ⟨#[]⟩) := b2
            replace b3 : W.cell? ⟨B + 1, 3, none⟩ = some (.bool false) := b3
            replace b4 : W.cell? ⟨B + 1, 4, none⟩ = some (.bool false) := b4
            replace b5 : W.cell? ⟨B + 1, 5, none⟩ = some (.string ⟨#[]⟩) := b5
            replace b6 : W.cell? ⟨B + 1, 6, none⟩ = some (.bool false) := b6
            gi_wp2
            gi_meet
            case rel => exact ⟨rfl, rfl⟩
          · gi_wp2
            gi_meet
            case rel => exact ⟨rfl, rfl⟩
        case rest =>
          obtain ⟨rfl, rfl⟩ := hcut
          gi_upto_if 27 with fail
          gi_cut [] from 28 (fun wx => EBox B e wx ∧ CBox (B + 1) c wx ∧ OutSt ob Wz v (outsA pre) wx)
          case first =>
            rcases HNZ.out with ⟨rfl, rfl, rfl⟩ | ⟨rfl, rfl, hp0⟩
            · have a2c := a2
              clear a2
              gi_upto_region 8 with fail
              refine wpIn_region_inv0 (by kernel_rfl) (by kernel_rfl) (fun T0 => RX T0 sDs (sTab B e) wc 5 (fun wx => EBox B e wx ∧ CBox (B + 1) ⟨e.path, fileE e, fileE e⟩ wx ∧ OutSt ob Wz v (outsA pre) wx)) ?_ ?_ ?_
              · exact ⟨Sl2.start _, fun _ => (Below.refl _ _).drew, fun h => by rw [getD_repl] at h; cases h⟩
              · intro L a2 w9 hinv hall
                have hE := hinv.fin (hall 5 (by decide))
                have HXX : Keep _ := ⟨hinv.sl.act⟩
                have HEE : Keep _ := ⟨hE⟩
                clear hinv hall hE
                rw [HXX.out]
                simp only [updL, sDs, List.contains_cons, List.contains_nil, Nat.reduceAdd, Nat.reduceBEq, Bool.or_false, cond_false, cond_true, Bool.or_true]
                gi_wp2
                gi_meet
                case rel => exact HEE.out
              · intro L a2 w9 i o hinv hcl hL ho hdep
                have hi6 : i < 6 := (Array.getElem?_eq_some_iff.1 ho).1
                have h5 : i ≠ 5 → L.getD 5 false = false := fun hne => by
                  cases hb : L.getD 5 false with
                  | false => rfl
                  | true =>
                    exfalso
                    have d4 := hcl 5 _ rfl hb ⟨4, .data⟩ (by simp) rfl
                    have d3 := hcl 4 _ rfl d4 ⟨3, .data⟩ (by simp) rfl
                    have d1 := hcl 4 _ rfl d4 ⟨1, .data⟩ (by simp) rfl
                    have d2 := hcl 3 _ rfl d3 ⟨2, .data⟩ (by simp) rfl
                    have d0 := hcl 1 _ rfl d1 ⟨0, .data⟩ (by simp) rfl
                    have hf := getD_ft hL
                    match i, hi6, hne, hf with
                    | 0, _, _, hf => rw [d0] at hf; cases hf
                    | 1, _, _, hf => rw [d1] at hf; cases hf
                    | 2, _, _, hf => rw [d2] at hf; cases hf
                    | 3, _, _, hf => rw [d3] at hf; cases hf
                    | 4, _, _, hf => rw [d4] at hf; cases hf
                    | 5, _, hne, _ => exact hne rfl
                unfold wpOpIn
                rw [ho]
                clear hcl
                match i, hi6, hL, ho, hdep, h5 with
                | 0, _, hL, ho, hdep, h5 =>
                  injection ho with ho; subst ho
                  dsimp only
                  rw [if_pos (by rfl)]
                  refine ⟨fun f _ => trivial, ?_⟩
                  have e7 : a2.tmps[7]?.getD undef = .pointer (some ⟨B, 0, none⟩) := hinv.sl.old (by decide)
                  go_simp
                  exact hinv.step sNd (i := 0) (by decide) (by show 28 < 57; decide) (by omega) (h5 (by omega)) rfl (Below.refl _ _)
                | 1, _, hL, ho, hdep, h5 =>
                  injection ho with ho; subst ho
                  dsimp only
                  rw [if_pos (by rfl)]
                  refine ⟨fun f _ => trivial, ?_⟩
                  have hb9 := hinv.wd (h5 (by omega))
                  have e28 : a2.tmps[28]?.getD undef = .pointer (some ⟨B, 0, none⟩) := hinv.sl.new (i := 0) (by decide) rfl (hdep ⟨0, .data⟩ (by simp) rfl)
                  have z0 := cell_later hb9 a0
                  go_simp
                  exact hinv.step sNd (i := 1) (by decide) (by show 29 < 57; decide) (by omega) (h5 (by omega)) rfl (Below.refl _ _)
                | 2, _, hL, ho, hdep, h5 =>
                  injection ho with ho; subst ho
                  dsimp only
                  rw [if_pos (by rfl)]
                  refine ⟨fun f _ => trivial, ?_⟩
                  have hb9 := hinv.wd (h5 (by omega))
                  have e7 : a2.tmps[7]?.getD undef = .pointer (some ⟨B, 0, none⟩) := hinv.sl.old (by decide)
                  have z0 := cell_later hb9 a0
                  have z1 := cell_later hb9 a1
                  have z2 := cell_later hb9 a2c
                  go_simp
                  exact hinv.step sNd (i := 2) (by decide) (by show 30 < 57; decide) (by omega) (h5 (by omega)) rfl (Below.refl _ _)
                | 3, _, hL, ho, hdep, h5 =>
                  injection ho with ho; subst ho
                  dsimp only
                  rw [if_pos (by rfl)]
                  refine ⟨fun f _ => trivial, ?_⟩
                  have hb9 := hinv.wd (h5 (by omega))
                  have e30 : a2.tmps[30]?.getD undef = .agg #[.string e.path, .string e.text, .bool e.runs] := hinv.sl.new (i := 2) (by decide) rfl (hdep ⟨2, .data⟩ (by simp) rfl)
                  go_simp
                  refine CallsIn.mono (CallsIn.inRound l (callsIn_wide.2 (fileE_any e _))) ?_
                  rintro e' w' ⟨rfl, hb'⟩
                  exact hinv.step sNd (i := 3) (by decide) (by show 31 < 57; decide) (by omega) (h5 (by omega)) rfl hb'
                | 4, _, hL, ho, hdep, h5 =>
                  injection ho with ho; subst ho
                  dsimp only
                  rw [if_pos (by rfl)]
                  refine ⟨fun f _ => trivial, ?_⟩
                  have hb9 := hinv.wd (h5 (by omega))
                  have e29 : a2.tmps[29]?.getD undef = .string e.path := hinv.sl.new (i := 1) (by decide) rfl (hdep ⟨1, .data⟩ (by simp) rfl)
                  have e31 : a2.tmps[31]?.getD undef = .agg #[.bool (fileE e).there, .string (fileE e).text, .bool (fileE e).runs] := hinv.sl.new (i := 3) (by decide) rfl (hdep ⟨3, .data⟩ (by simp) rfl)
                  go_simp
                  refine CallsIn.mono (CallsIn.inRound l (callsIn_wide.2 (stay_any e.path (fileE e) _))) ?_
                  rintro e' w' ⟨rfl, hb'⟩
                  exact hinv.step sNd (i := 4) (by decide) (by show 32 < 57; decide) (by omega) (h5 (by omega)) rfl hb'
                | 5, _, hL, ho, hdep, h5 =>
                  injection ho with ho; subst ho
                  dsimp only
                  rw [if_pos (by rfl)]
                  refine ⟨fun f _ => trivial, ?_⟩
                  have hb9 := hinv.wd (getD_ft hL)
                  have e8 : a2.tmps[8]?.getD undef = .pointer (some ⟨B + 1, 0, none⟩) := hinv.sl.old (by decide)
                  have e32 : a2.tmps[32]?.getD undef = .agg #[.string e.path, .bool (fileE e).there, .string (fileE e).text, .bool (fileE e).runs, .bool (fileE e).there, .string (fileE e).text, .bool (fileE e).runs] := hinv.sl.new (i := 4) (by decide) rfl (hdep ⟨4, .data⟩ (by simp) rfl)
                  have hy9 := HY.out.later hb9
                  have z0 : w9.cell? ⟨B + 1, 0, none⟩ = some (.string ⟨#[]⟩) := hy9.c0
                  have z1 : w9.cell? ⟨B + 1, 1, none⟩ = some (.bool false) := hy9.c1
                  have z2 : w9.cell? ⟨B + 1, 2, none⟩ = some (.string ⟨#[]⟩) := hy9.c2
                  have z3 : w9.cell? ⟨B + 1, 3, none⟩ = some (.bool false) := hy9.c3
                  have z4 : w9.cell? ⟨B + 1, 4, none⟩ = some (.bool false) := hy9.c4
                  have z5 : w9.cell? ⟨B + 1, 5, none⟩ = some (.string ⟨#[]⟩) := hy9.c5
                  have z6 : w9.cell? ⟨B + 1, 6, none⟩ = some (.bool false) := hy9.c6
                  have fz := hy9.fz
                  have hE : EBox B e (((((((w9.setCell ⟨B + 1, 0, none⟩ (.string e.path)).setCell ⟨B + 1, 1, none⟩ (.bool (fileE e).there)).setCell ⟨B + 1, 2, none⟩ (.string (fileE e).text)).setCell ⟨B + 1, 3, none⟩ (.bool (fileE e).runs)).setCell ⟨B + 1, 4, none⟩ (.bool (fileE e).there)).setCell ⟨B + 1, 5, none⟩ (.string (fileE e).text)).setCell ⟨B + 1, 6, none⟩ (.bool (fileE e).runs)) ∧ CBox (B + 1) ⟨e.path, fileE e, fileE e⟩ (((((((w9.setCell ⟨B + 1, 0, none⟩ (.string e.path)).setCell ⟨B + 1, 1, none⟩ (.bool (fileE e).there)).setCell ⟨B + 1, 2, none⟩ (.string (fileE e).text)).setCell ⟨B + 1, 3, none⟩ (.bool (fileE e).runs)).setCell ⟨B + 1, 4, none⟩ (.bool (fileE e).there)).setCell ⟨B + 1, 5, none⟩ (.string (fileE e).text)).setCell ⟨B + 1, 6, none⟩ (.bool (fileE e).runs)) ∧ OutSt ob Wz v (outsA pre) (((((((w9.setCell ⟨B + 1, 0, none⟩ (.string e.path)).setCell ⟨B + 1, 1, none⟩ (.bool (fileE e).there)).setCell ⟨B + 1, 2, none⟩ (.string (fileE e).text)).setCell ⟨B + 1, 3, none⟩ (.bool (fileE e).runs)).setCell ⟨B + 1, 4, none⟩ (.bool (fileE e).there)).setCell ⟨B + 1, 5, none⟩ (.string (fileE e).text)).setCell ⟨B + 1, 6, none⟩ (.bool (fileE e).runs)) := ⟨(HX.out.later hb9).grown (box7_grown (.string e.path) (.bool (fileE e).there) (.string (fileE e).text) (.bool (fileE e).runs) (.bool (fileE e).there) (.string (fileE e).text) (.bool (fileE e).runs)) (by simp), hy9.set ⟨e.path, fileE e, fileE e⟩, (HST.out.later hb9).other (box7_grown (.string e.path) (.bool (fileE e).there) (.string (fileE e).text) (.bool (fileE e).runs) (.bool (fileE e).there) (.string (fileE e).text) (.bool (fileE e).runs)) (by have := HB.out; omega) hvB1⟩
                  have HEE : Keep _ := ⟨hE⟩
                  clear hE hy9
                  go_simp
                  exact hinv.last rfl hL HEE.out
            · gi_wp2
              gi_meet
              case rel => exact ⟨HX.out, HY.out, HST.out⟩
          case rest =>
            obtain ⟨hx, hy, st⟩ := hcut
            clear HX HY HST hvB1 a0 a1 a2 b0 b1 b2 b3 b4 b5 b6 HNZ
            have a0 := hx.c0
            have a1 := hx.c1
            have a2c := hx.c2
            have b0 := hy.c0
            have b1 := hy.c1
            have b2 := hy.c2
            have b3 := hy.c3
            have b4 := hy.c4
            have b5 := hy.c5
            have b6 := hy.c6
            have HX : Keep (EBox B e wc) := ⟨hx⟩
            have HY : Keep (CBox (B + 1) c wc) := ⟨hy⟩
            have HST : Keep (OutSt ob Wz v (outsA pre) wc) := ⟨st⟩
            clear hx hy st
            obtain ⟨nb, hnb⟩ : ∃ nb : Bool, nb = !sameF (fileE e) c.old := ⟨_, rfl⟩
            have HNB : Keep (nb = !sameF (fileE e) c.old) := ⟨hnb⟩
            clear hnb
            gi_upto_region 9 with fail
            refine wpIn_region_inv0 (by kernel_rfl) (by kernel_rfl) (fun T0 => QV T0 fDs (fTab B e c.old nb) wc) ?_ ?_ ?_
            · exact ⟨Sl2.start _, (Below.refl _ _).drew⟩
            · intro L a2 w9 hinv hall
              have hb9 := hinv.wd
              have e37 : a2.tmps.getD 37 undef = .bool nb := hinv.sl.sl 4 (by decide) _ rfl (hall 4 (by decide))
              have HXX : Keep _ := ⟨hinv.sl.act⟩
              clear hinv hall
              rw [HXX.out]
              simp only [updL, fDs, List.contains_cons, List.contains_nil, Nat.reduceAdd, Nat.reduceBEq, Bool.or_false, cond_false, cond_true, Bool.or_true, e37]
              generalize a2.tmps.getD 33 undef = s33
              generalize a2.tmps.getD 34 undef = s34
              generalize a2.tmps.getD 35 undef = s35
              generalize a2.tmps.getD 36 undef = s36
              have HY9 := HY.out.later hb9
              have HST9 := HST.out.later hb9
              clear HXX e37 HX HY HST a0 a1 a2c b0 b1 b2 b3 b4 b5 b6 hb9
              cases nb with
              | true =>
                obtain ⟨⟨kX, hX⟩, kfX, hfX⟩ := HK.out w9 HST9
                have HS9 : Keep _ := ⟨HST9⟩
                clear HST9 HY9
                gi_wp2
                exact HR.out w9 (by rw [HF1.out]; exact HNB.out.symm) HS9.out
              | false =>
                have hbad : badA x.2.1 x.2.2 = false := by rw [HF1.out]; exact HNB.out.symm
                have HBAD : Keep _ := ⟨hbad⟩
                clear hbad HNB HK HR HF1
                have HST : Keep (OutSt ob Wz v (outsA pre) w9) := ⟨HST9⟩
                have oc := HST9.cell
                have b0 := HY9.c0
                have b4 := HY9.c4
                have b5 := HY9.c5
                have b6 := HY9.c6
                clear HST9 HY9
                cases hth : c.new.there with
                | false =>
                  rw [hth] at b4
                  gi_wp2
                  exact HE.out v w9 HBAD.out (by rw [HF2.out, hth]; simpa using HST.out)
                | true =>
                  rw [hth] at b4
                  obtain ⟨i0, hi, hz0, hz1', hzb'⟩ := info_parts Try.infoEntry
                  have HE2 : Keep (∀ v' w', OutSt ob Wz v' (outsA pre ++ [⟨c.path, c.new.text, c.new.runs⟩]) w' → TwoB wl.heap.size _ w' ∧ ApI wl ob (pre ++ [x]) w') := ⟨fun v' w' h' => HE.out v' w' HBAD.out (by rw [HF2.out, hth]; exact h')⟩
                  gi_upto_region 12 with fail
                  refine wpIn_region_inv0 (by kernel_rfl) (by kernel_rfl) (fun T0 => NV T0 ob B Wz w9 v c.path c.new.text c.new.runs (outsA pre)) ?_ ?_ ?_
                  · exact ⟨Sl2.start _, fun _ => (Below.refl _ _).drew, (fun h => by rw [getD_repl] at h; cases h), (fun h => by rw [getD_repl] at h; cases h), (fun h => by rw [getD_repl] at h; cases h)⟩
                  · intro L a2 wx hinv hall
                    obtain ⟨v', h'⟩ := hinv.w3 (hall 10 (by decide))
                    have HXX : Keep _ := ⟨hinv.sl.act⟩
                    have HHH : Keep _ := ⟨h'⟩
                    clear hinv hall h'
                    rw [HXX.out]
                    simp only [updL, nDs, List.contains_cons, List.contains_nil, Nat.reduceAdd, Nat.reduceBEq, Bool.or_false, cond_false, cond_true, Bool.or_true]
                    clear HXX oc b0 b4 b5 b6
                    gi_wp2
                    exact HE2.out _ _ HHH.out
                  · intro L a2 wx i o hinv hcl hL ho hdep
                    have hi11 : i < 11 := (Array.getElem?_eq_some_iff.1 ho).1
                    unfold wpOpIn
                    rw [ho]
                    have q87 : L.getD 8 false = true → L.getD 7 false = true := fun hb => hcl 8 _ rfl hb ⟨7, .data⟩ (by simp) rfl
                    have q108 : L.getD 10 false = true → L.getD 8 false = true := fun hb => hcl 10 _ rfl hb ⟨8, .data⟩ (by simp) rfl
                    have q76 : L.getD 7 false = true → L.getD 6 false = true := fun hb => hcl 7 _ rfl hb ⟨6, .data⟩ (by simp) rfl
                    have q7 : (L.getD 6 true = false ∨ L.getD 3 true = false ∨ L.getD 5 true = false) → L.getD 7 false = false := fun h9 => by
                      cases hb : L.getD 7 false with
                      | false => rfl
                      | true =>
                        exfalso
                        have h6 := q76 hb
                        rcases h9 with h9 | h9 | h9
                        · rw [getD_ft h9] at h6; cases h6
                        · have h := hcl 6 _ rfl h6 ⟨3, .data⟩ (by simp) rfl; rw [getD_ft h9] at h; cases h
                        · have h := hcl 6 _ rfl h6 ⟨5, .data⟩ (by simp) rfl; rw [getD_ft h9] at h; cases h
                    have q8 : (L.getD 1 true = false ∨ L.getD 7 true = false ∨ L.getD 6 true = false) → L.getD 8 false = false := fun h9 => by
                      cases hb : L.getD 8 false with
                      | false => rfl
                      | true =>
                        exfalso
                        rcases h9 with h9 | h9 | h9
                        · have h := hcl 8 _ rfl hb ⟨1, .data⟩ (by simp) rfl; rw [getD_ft h9] at h; cases h
                        · have h := q87 hb; rw [getD_ft h9] at h; cases h
                        · have h := q76 (q87 hb); rw [getD_ft h9] at h; cases h
                    have q10 : (L.getD 8 true = false ∨ L.getD 7 true = false ∨ L.getD 6 true = false) → L.getD 10 false = false := fun h9 => by
                      cases hb : L.getD 10 false with
                      | false => rfl
                      | true =>
                        exfalso
                        rcases h9 with h9 | h9 | h9
                        · have h := q108 hb; rw [getD_ft h9] at h; cases h
                        · have h := q87 (q108 hb); rw [getD_ft h9] at h; cases h
                        · have h := q76 (q87 (q108 hb)); rw [getD_ft h9] at h; cases h
                    clear hcl
                    match i, hi11, hL, ho, hdep with
                        | 0, _, hL, ho, hdep =>
                          injection ho with ho; subst ho
                          dsimp only
                          rw [if_pos (by rfl)]
                          refine ⟨fun f _ => trivial, ?_⟩
                          have e6 : a2.tmps[6]?.getD undef = .pointer (some ⟨ob, 0, none⟩) := hinv.sl.old (by decide)
                          go_simp
                          exact hinv.step (i := 0) rfl (by omega) (by omega) (by omega) rfl (.inl rfl)
                        | 1, _, hL, ho, hdep =>
                          injection ho with ho; subst ho
                          dsimp only
                          rw [if_pos (by rfl)]
                          refine ⟨fun f _ => trivial, ?_⟩
                          have e42 : a2.tmps[42]?.getD undef = .pointer (some ⟨ob, 0, none⟩) := hinv.sl.new (i := 0) (by decide) rfl (hdep ⟨0, .data⟩ (by simp) rfl)
                          have z0 := cell_later (hinv.below (q8 (.inl hL))) oc
                          go_simp
                          exact hinv.step (i := 1) rfl (by omega) (by omega) (by omega) rfl (.inl rfl)
                        | 2, _, hL, ho, hdep =>
                          injection ho with ho; subst ho
                          dsimp only
                          rw [if_pos (by rfl)]
                          refine ⟨fun f _ => trivial, ?_⟩
                          have e8 : a2.tmps[8]?.getD undef = .pointer (some ⟨B + 1, 0, none⟩) := hinv.sl.old (by decide)
                          go_simp
                          exact hinv.step (i := 2) rfl (by omega) (by omega) (by omega) rfl (.inl rfl)
                        | 3, _, hL, ho, hdep =>
                          injection ho with ho; subst ho
                          dsimp only
                          rw [if_pos (by rfl)]
                          refine ⟨fun f _ => trivial, ?_⟩
                          have e44 : a2.tmps[44]?.getD undef = .pointer (some ⟨B + 1, 4, none⟩) := hinv.sl.new (i := 2) (by decide) rfl (hdep ⟨2, .data⟩ (by simp) rfl)
                          have hb := hinv.w0 (q7 (.inr (.inl hL)))
                          have z0 := cell_later hb b4
                          have z1 := cell_later hb b5
                          have z2 := cell_later hb b6
                          go_simp
                          exact hinv.step (i := 3) rfl (by omega) (by omega) (by omega) rfl (.inl rfl)
                        | 4, _, hL, ho, hdep =>
                          injection ho with ho; subst ho
                          dsimp only
                          rw [if_pos (by rfl)]
                          refine ⟨fun f _ => trivial, ?_⟩
                          have e8 : a2.tmps[8]?.getD undef = .pointer (some ⟨B + 1, 0, none⟩) := hinv.sl.old (by decide)
                          go_simp
                          exact hinv.step (i := 4) rfl (by omega) (by omega) (by omega) rfl (.inl rfl)
                        | 5, _, hL, ho, hdep =>
                          injection ho with ho; subst ho
                          dsimp only
                          rw [if_pos (by rfl)]
                          refine ⟨fun f _ => trivial, ?_⟩
                          have e46 : a2.tmps[46]?.getD undef = .pointer (some ⟨B + 1, 0, none⟩) := hinv.sl.new (i := 4) (by decide) rfl (hdep ⟨4, .data⟩ (by simp) rfl)
                          have z0 := cell_later (hinv.w0 (q7 (.inr (.inr hL)))) b0
                          go_simp
                          exact hinv.step (i := 5) rfl (by omega) (by omega) (by omega) rfl (.inl rfl)
                        | 6, _, hL, ho, hdep =>
                          injection ho with ho; subst ho
                          dsimp only
                          rw [if_pos (by rfl)]
                          refine ⟨fun f _ => trivial, ?_⟩
                          have e45 : a2.tmps[45]?.getD undef = .agg #[.bool true, .string c.new.text, .bool c.new.runs] := hinv.sl.new (i := 3) (by decide) rfl (hdep ⟨3, .data⟩ (by simp) rfl)
                          have e47 : a2.tmps[47]?.getD undef = .string c.path := hinv.sl.new (i := 5) (by decide) rfl (hdep ⟨5, .data⟩ (by simp) rfl)
                          go_simp
                          refine CallsIn.mono (CallsIn.inRound l (callsIn_wide.2 (entry_any c.path c.new.text c.new.runs _ (by omega) (by omega)))) ?_
                          rintro e' w' ⟨rfl, hb'⟩
                          exact hinv.step (i := 6) rfl (by omega) (by omega) (by omega) rfl (.inr ⟨hb', q7 (.inl hL), q8 (.inr (.inr hL)), q10 (.inr (.inr hL))⟩)
                        | 7, _, hL, ho, hdep =>
                          injection ho with ho; subst ho
                          dsimp only
                          rw [if_pos (by rfl)]
                          refine ⟨fun f _ => trivial, ?_⟩
                          have e48 : a2.tmps[48]?.getD undef = .agg #[.string c.path, .string c.new.text, .bool c.new.runs] := hinv.sl.new (i := 6) (by decide) rfl (hdep ⟨6, .data⟩ (by simp) rfl)
                          go_simp
                          exact hinv.build rfl (q8 (.inr (.inl hL))) (q10 (.inr (.inl hL))) hL
                        | 8, _, hL, ho, hdep =>
                          injection ho with ho; subst ho
                          dsimp only
                          rw [if_pos (by rfl)]
                          have h7 := hdep ⟨7, .data⟩ (by simp) rfl
                          obtain ⟨y, hby, rfl, ex⟩ := hinv.w1 h7 (getD_ft hL)
                          have ev := hinv.sl.sl 1 (by decide) _ rfl (hdep ⟨1, .data⟩ (by simp) rfl)
                          have hbz : Below w9.heap.size w9 (y.alloc (.cells #[.string c.path, .string c.new.text, .bool c.new.runs] 57)) := hby.alloc hby.size _
                          have hgs := HST.out.grown.size
                          have hys := hby.size
                          obtain ⟨g3, cap3, w7, hr3, hown3, hgrow3, _, _⟩ := run_append_lies (P := Try.prog) (y.alloc (.cells #[.string c.path, .string c.new.text, .bool c.new.runs] 57)) 23 23 Wz.heap.size 57 i0 _ 3 40 Try.underlying23 hi hz0 hz1' hzb' rfl (by decide) v (outsA pre).length (ecells (outsA pre)) (owns_below HST.out.row hbz) ⟨y.heap.size, 0, none⟩ 1 1 (ecell ⟨c.path, c.new.text, c.new.runs⟩) rfl (news_3 y ⟨c.path, c.new.text, c.new.runs⟩ _ _ rfl) (one_3 _) (by omega) (by unfold maxLen; omega) (by omega) (by simp; omega) (y.heap.size + 1) (by simp)
                          exact wpIn_appendR _ _ _ rfl ev ex hr3 (hinv.app rfl h7 (q10 (.inl hL)) hL hbz hown3 hgrow3)
                        | 9, _, hL, ho, hdep =>
                          injection ho with ho; subst ho
                          dsimp only
                          rw [if_pos (by rfl)]
                          refine ⟨fun f _ => trivial, ?_⟩
                          have e6 : a2.tmps[6]?.getD undef = .pointer (some ⟨ob, 0, none⟩) := hinv.sl.old (by decide)
                          go_simp
                          exact hinv.step (i := 9) rfl (by omega) (by omega) (by omega) rfl (.inl rfl)
                        | 10, _, hL, ho, hdep =>
                          injection ho with ho; subst ho
                          dsimp only
                          rw [if_pos (by rfl)]
                          refine ⟨fun f _ => trivial, ?_⟩
                          have h8 := hdep ⟨8, .data⟩ (by simp) rfl
                          obtain ⟨W1, g3, cap3, ex, hbx, hown3, hgrow3⟩ := hinv.w2 h8 (getD_ft hL)
                          have e50 := evalD2 ex
                          have e51 : a2.tmps[51]?.getD undef = .pointer (some ⟨ob, 0, none⟩) := hinv.sl.new (i := 9) (by decide) rfl (hdep ⟨9, .data⟩ (by simp) rfl)
                          obtain ⟨oc3, of3⟩ := HST.out.mid hbx hgrow3
                          go_simp
                          exact hinv.last (q87 h8) h8 hL ⟨_, HST.out.append hbx hgrow3 hown3⟩
            · intro L a2 w9 i o hinv hcl hL ho hdep
              have hi5 : i < 5 := (Array.getElem?_eq_some_iff.1 ho).1
              unfold wpOpIn
              rw [ho]
              clear hcl
              match i, hi5, hL, ho, hdep with
                | 0, _, hL, ho, hdep =>
                  injection ho with ho; subst ho
                  dsimp only
                  rw [if_pos (by rfl)]
                  refine ⟨fun f _ => trivial, ?_⟩
                  have e7 : a2.tmps[7]?.getD undef = .pointer (some ⟨B, 0, none⟩) := hinv.sl.old (by decide)
                  have z0 := cell_later hinv.wd a0
                  have z1 := cell_later hinv.wd a1
                  have z2 := cell_later hinv.wd a2c
                  go_simp
                  exact hinv.step fNd (i := 0) (by decide) (by show 33 < 57; decide) rfl (Below.refl _ _)
                | 1, _, hL, ho, hdep =>
                  injection ho with ho; subst ho
                  dsimp only
                  rw [if_pos (by rfl)]
                  refine ⟨fun f _ => trivial, ?_⟩
                  have e33 : a2.tmps[33]?.getD undef = .agg #[.string e.path, .string e.text, .bool e.runs] := hinv.sl.new (i := 0) (by decide) rfl (hdep ⟨0, .data⟩ (by simp) rfl)
                  go_simp
                  refine CallsIn.mono (CallsIn.inRound l (callsIn_wide.2 (fileE_any e _))) ?_
                  rintro e' w' ⟨rfl, hb'⟩
                  exact hinv.step fNd (i := 1) (by decide) (by show 34 < 57; decide) rfl hb'
                | 2, _, hL, ho, hdep =>
                  injection ho with ho; subst ho
                  dsimp only
                  rw [if_pos (by rfl)]
                  refine ⟨fun f _ => trivial, ?_⟩
                  have e8 : a2.tmps[8]?.getD undef = .pointer (some ⟨B + 1, 0, none⟩) := hinv.sl.old (by decide)
                  go_simp
                  exact hinv.step fNd (i := 2) (by decide) (by show 35 < 57; decide) rfl (Below.refl _ _)
                | 3, _, hL, ho, hdep =>
                  injection ho with ho; subst ho
                  dsimp only
                  rw [if_pos (by rfl)]
                  refine ⟨fun f _ => trivial, ?_⟩
                  have e35 : a2.tmps[35]?.getD undef = .pointer (some ⟨B + 1, 1, none⟩) := hinv.sl.new (i := 2) (by decide) rfl (hdep ⟨2, .data⟩ (by simp) rfl)
                  have z0 := cell_later hinv.wd b1
                  have z1 := cell_later hinv.wd b2
                  have z2 := cell_later hinv.wd b3
                  go_simp
                  exact hinv.step fNd (i := 3) (by decide) (by show 36 < 57; decide) rfl (Below.refl _ _)
                | 4, _, hL, ho, hdep =>
                  injection ho with ho; subst ho
                  dsimp only
                  rw [if_pos (by rfl)]
                  refine ⟨fun f _ => trivial, ?_⟩
                  have e34 : a2.tmps[34]?.getD undef = .agg #[.bool (fileE e).there, .string (fileE e).text, .bool (fileE e).runs] := hinv.sl.new (i := 1) (by decide) rfl (hdep ⟨1, .data⟩ (by simp) rfl)
                  have e36 : a2.tmps[36]?.getD undef = .agg #[.bool c.old.there, .string c.old.text, .bool c.old.runs] := hinv.sl.new (i := 3) (by decide) rfl (hdep ⟨3, .data⟩ (by simp) rfl)
                  have hfin := fun v (hv : v = Value.bool nb) => hinv.step fNd (i := 4) (v := v) (by decide) (by show 37 < 57; decide) (by rw [hv]; rfl) (Below.refl _ _)
                  clear hinv a0 a1 a2c b0 b1 b2 b3 b4 b5 b6
                  generalize fileE e = f at *
                  generalize c.old = fo at *
                  obtain ⟨f1, f2, f3⟩ := f
                  obtain ⟨g1, g2, g3⟩ := fo
                  dsimp only at e34 e36
                  by_cases q1 : f1 = g1
                  · by_cases q2 : f2.toList = g2.toList
                    · by_cases q3 : f3 = g3
                      · have q4 : f2 = g2 := WideShapes.bytes_inj (by rw [← Lib.toList_data, ← Lib.toList_data]; exact q2)
                        subst q1 q3 q4
                        go_simp
                        exact hfin _ (by rw [HNB.out, sameF_self]; rfl)
                      · go_simp
                        exact hfin _ (by rw [HNB.out]; simp [sameF, q3])
                    · go_simp
                      exact hfin _ (by rw [HNB.out]; simp [sameF, q2])
                  · go_simp
                    exact hfin _ (by rw [HNB.out]; simp [sameF, q1])
      case done =>
        rintro W ⟨hnc, Wz, v, hz1, hz2, hst⟩ hK
        have hAR := outs_app HVT.out HVU.out
        have hlen : (outsA (mrgEC ps qs)).length ≤ 1048576 := by
          have h1 := outsA_len (mrgEC ps qs)
          have h2 : (mrgEC ps qs).length ≤ ps.length + qs.length := mrg_lenA En.path Ch.path (ps.length + qs.length) ps qs
          have h3 := HVT.out.1
          have h4 := HVU.out.1
          omega
        have HNB : Keep (∀ x ∈ qs, sameF (atL ps x.path) x.old = true) := ⟨fun x hx => by
          cases hb : sameF (atL ps x.path) x.old with
          | true => rfl
          | false =>
            obtain ⟨y, hy, hyb⟩ := (bad_iff HVT.out HVU.out).2 ⟨x, hx, hb⟩
            rw [hnc y hy] at hyb
            cases hyb⟩
        have hzu : ∀ e ∈ outsA (mrgEC ps qs), e.path.size ≤ 1048576 := fun e he => by
          rcases (hAR.mem e).1 he with ⟨c, hc, _, rfl⟩ | ⟨h1, _⟩
          · exact hzb c hc
          · exact hz e h1
        have kW := hst.keep (cell_later hz2 kl) (by have := HL.out; omega) (by have := HL.out; omega)
        have hW := hst.keep (cell_later hz2 hl0) (by have := HL.out; omega) (by have := HL.out; omega)
        have kfW : W.frozen? ⟨g, 0, none⟩ = false := frozen_of (hst.grown.block g (by have := HL.out; omega) (fun e => by have := HL.out; cases e; omega)) ((hz2.frozen (p := ⟨g, 0, none⟩) (by have := HL.out; show g < _; omega)).trans kfl)
        have hfW : W.frozen? ⟨h, 0, none⟩ = false := frozen_of (hst.grown.block h (by have := HL.out; omega) (fun e => by have := HL.out; cases e; omega)) ((hz2.frozen (p := ⟨h, 0, none⟩) (by have := HL.out; show h < _; omega)).trans hfl)
        have oW := hst.cell
        have hbW := hst.below (hbl.trans (hz2.mono hbl.size)) (show w.heap.size ≤ ob by have := HL.out; omega)
        obtain ⟨ad, cap, rfl⟩ := owns_slice hst.row
        have hrm := row_roomO hst.row
        have hcl := el_of_row hst.row
        have HZ : Keep (w.heap.size ≤ g ∧ h = g + 1 ∧ h < wl.heap.size ∧ Wz.heap.size = wl.heap.size + 2 ∧ Wz.heap.size ≤ W.heap.size) := ⟨by have := HL.out; have := hst.grown.size; omega⟩
        clear hst hz2 hI0 hps hqs HNO hnc wsz
        generalize outsA (mrgEC ps qs) = us at *
        have hvt := implTree_any ad cap us W hcl.es hlen hzu
        gi_wp2_with fail
        refine ⟨trivial, ?_⟩
        refine (callsIn_wide.2 hvt).mono ?_
        rintro e W5 ⟨vb, rfl, hvb, hb5⟩
        have HVB : Keep (vb = true ↔ ValidTs us) := ⟨hvb⟩
        replace kW := cell_later hb5 kW
        replace hW := cell_later hb5 hW
        replace oW := cell_later hb5 oW
        have hgl : h < W.heap.size := by have := HZ.out; omega
        replace kfW : W5.frozen? ⟨g, 0, none⟩ = false := (hb5.frozen (p := ⟨g, 0, none⟩) (by have := HZ.out; show g < _; omega)).trans kfW
        replace hfW : W5.frozen? ⟨h, 0, none⟩ = false := (hb5.frozen (p := ⟨h, 0, none⟩) hgl).trans hfW
        replace hcl := hcl.below hb5
        replace hbW := hbW.trans (hb5.mono hbW.size)
        replace hK := (hb5.block wl.heap.size (by have := HZ.out; omega)).trans hK
        have fin : ∀ (vs : List En) (c : Int) (ad2 : Option Addr) (cap2 : Nat), ApplyRel ps qs vs c → EL Wz.heap.size W5 ad2 vs → vs.length ≤ cap2 → ∃ W3, W3 = (W5.setCell ⟨g, 0, none⟩ (.slice ad2 vs.length cap2)).setCell ⟨h, 0, none⟩ (.int .i64 c) ∧ W3.heap[wl.heap.size]? = some (.deferred (some [])) ∧ (W3.putObj wl.heap.size (.deferred none)).cell? ⟨g, 0, none⟩ = some (.slice ad2 vs.length cap2) ∧ (W3.putObj wl.heap.size (.deferred none)).cell? ⟨h, 0, none⟩ = some (.int .i64 c) ∧ ApplyPostC ps qs w (.returned (TreeV ad2 vs.length cap2 c)) (W3.putObj wl.heap.size (.deferred none)) := fun vs c ad2 cap2 hrel hcs hrm2 => by
          have hzz := HZ.out
          have hbk : ∀ k, k ≠ g → k ≠ h → ((W5.setCell ⟨g, 0, none⟩ (.slice ad2 vs.length cap2)).setCell ⟨h, 0, none⟩ (.int .i64 c)).heap[k]? = W5.heap[k]? := fun k h1 h2 => (Below.heap_setCell _ _ _ _ h2).trans (Below.heap_setCell _ _ _ _ h1)
          have hg1 := hcs.grown (row := some g) (grown_set0 W5 g 0 (.slice ad2 vs.length cap2)) (fun j _ hj _ e => by cases e; omega)
          have hg2 := hg1.grown (row := some h) (grown_set0 _ h 0 (.int .i64 c)) (fun j _ hj _ e => by cases e; omega)
          have hbW2 := (hbW.setCell (p := ⟨g, 0, none⟩) hzz.1 (.slice ad2 vs.length cap2)).setCell (p := ⟨h, 0, none⟩) (by show _ ≤ h; omega) (.int .i64 c)
          have kc : ((W5.setCell ⟨g, 0, none⟩ (.slice ad2 vs.length cap2)).setCell ⟨h, 0, none⟩ (.int .i64 c)).cell? ⟨g, 0, none⟩ = some (.slice ad2 vs.length cap2) := (World.cell?_setCell_other _ _ _ _ (by intro e; exact hhg (congrArg Addr.block e))).trans (World.cell?_setCell_same _ _ _ kW)
          have hc : ((W5.setCell ⟨g, 0, none⟩ (.slice ad2 vs.length cap2)).setCell ⟨h, 0, none⟩ (.int .i64 c)).cell? ⟨h, 0, none⟩ = some (.int .i64 c) := World.cell?_setCell_same _ _ _ ((World.cell?_setCell_other _ _ _ _ (by intro e; exact hgh (congrArg Addr.block e))).trans hW)
          refine ⟨_, rfl, (hbk _ (by omega) (by omega)).trans hK, ?_⟩
          generalize (W5.setCell ⟨g, 0, none⟩ (.slice ad2 vs.length cap2)).setCell ⟨h, 0, none⟩ (.int .i64 c) = W3 at *
          have hgp : W3.grownBy (W3.putObj wl.heap.size (.deferred none)) (some wl.heap.size) := ⟨rfl, rfl, rfl, by simp, fun k _ hk => World.putObj_heap_other (fun e => hk (by rw [e]))⟩
          exact ⟨(World.cell?_of_block (World.putObj_heap_other (fun e => by have e2 : g = wl.heap.size := e; omega))).trans kc, (World.cell?_of_block (World.putObj_heap_other (fun e => by have e2 : h = wl.heap.size := e; omega))).trans hc, vs, c, hrel, ⟨ad2, cap2, rfl, (hg2.grown hgp (fun j _ hj _ e => by cases e; omega)).mono (by omega), hrm2⟩, hbW2.grown hgp hbW2.size (fun j e => by cases e; omega)⟩
        cases vb with
        | true =>
          have hvv := HVB.out.1 rfl
          obtain ⟨W3, hW3, hK3, kc, hc, hpost⟩ := fin us 0 ad cap (.inr ⟨HVT.out, HVU.out, .inr ⟨HNB.out, us, hAR, .inr ⟨hvv, rfl, rfl⟩⟩⟩) hcl hrm
          have HP : Keep _ := ⟨hpost⟩
          clear fin hcl hbW hpost hvt hAR hzu hvb hrm
          gi_wp2
          rw [← hW3]
          refine ⟨by simp, .inl ⟨_, _, rfl, run_takeDeferred hK3, ?_⟩⟩
          refine ⟨_, ?_, HP.out⟩
          simp [results, Try.f10, go_sem, TreeV, kc, hc]
        | false =>
          have hvv : ¬ ValidTs us := fun h => by have := HVB.out.2 h; cases this
          obtain ⟨W3, hW3, hK3, kc, hc, hpost⟩ := fin [] 3 none 0 (.inr ⟨HVT.out, HVU.out, .inr ⟨HNB.out, us, hAR, .inl ⟨hvv, rfl, rfl⟩⟩⟩) (EL.nil _ _ _) (Nat.le_refl _)
          have HP : Keep _ := ⟨hpost⟩
          replace hW3 : W3 = (W5.setCell ⟨g, 0, none⟩ (.slice none 0 0)).setCell ⟨h, 0, none⟩ (.int .i64 3) := hW3
          clear fin hcl hbW hpost hvt hAR hzu hvb hrm
          gi_wp2
          rw [← hW3]
          refine ⟨by simp, .inl ⟨_, _, rfl, run_takeDeferred hK3, ?_⟩⟩
          refine ⟨_, ?_, HP.out⟩
          simp [results, Try.f10, go_sem, TreeV, kc, hc]
      case stop =>
        rintro pre W hpre ⟨⟨x, hx, hcl⟩, hb, c1, c2⟩ hK
        have hcn : ∃ c ∈ qs, sameF (atL ps c.path) c.old = false := (bad_iff HVT.out HVU.out).1 ⟨x, hpre.subset hx, hcl⟩
        clear wsz
        gi_wp2
        refine ⟨by simp, .inl ⟨_, _, rfl, run_takeDeferred hK, ?_⟩⟩
        have hgp : W.grownBy (W.putObj wl.heap.size (.deferred none)) (some wl.heap.size) := ⟨rfl, rfl, rfl, by simp, fun k _ hk => World.putObj_heap_other (fun e => hk (by rw [e]))⟩
        have kc : (W.putObj wl.heap.size (.deferred none)).cell? ⟨g, 0, none⟩ = some (.slice none 0 0) := (World.cell?_of_block (World.putObj_heap_other (fun e => by have := HL.out; have e2 : g = wl.heap.size := e; omega))).trans c1
        have hc : (W.putObj wl.heap.size (.deferred none)).cell? ⟨h, 0, none⟩ = some (.int .i64 2) := (World.cell?_of_block (World.putObj_heap_other (fun e => by have := HL.out; have e2 : h = wl.heap.size := e; omega))).trans c2
        refine ⟨TreeV none ([] : List En).length 0 2, ?_, [], 2, .inr ⟨HVT.out, HVU.out, .inl ⟨hcn, rfl, rfl⟩⟩, ⟨none, 0, rfl, EL.nil _ _ _, Nat.le_refl _⟩, hb.grown hgp hb.size (fun j e => by have := HL.out; cases e; omega)⟩
        simp [results, Try.f10, go_sem, TreeV, kc, hc]
theorem implApply_any (a b : Option Addr) (ca cb : Nat) (ps : List En) (qs : List Ch) (w : World) (hps : ES w a ps) (hqs : CS w b qs) (hn : ps.length ≤ 1048576) (hnb : qs.length ≤ 1048576) (hca : ps.length ≤ ca) (hcb : qs.length ≤ cb) (hz : ∀ c ∈ ps, c.path.size ≤ 1048576) (hzb : ∀ c ∈ qs, c.path.size ≤ 1048576) :
    Calls Try.prog 10 #[.agg #[.slice a ps.length ca], .agg #[.slice b qs.length cb]] w fun e w' => ApplyPost ps qs w e w' :=
  (implApplyC_any a b ca cb ps qs w hps hqs hn hnb hca hcb hz hzb).mono (fun _ _ ⟨us, c, h1, ⟨ad, cap, h2, h3, _⟩, h4⟩ => ⟨us, c, h1, ⟨ad, cap, h2, h3⟩, h4⟩)
end Go.Proofs.Ytjlflmbifeocbaa

namespace Go.Proofs.Ytjlflmbifeocbaa
open Go.RowKit

theorem eval_put_same {a : Act} {d : Nat} {v : Value} (hd : d < a.tmps.size) : (a.put (some d) v).eval (.tmp d) = v := by
  show ((a.tmps.setIfInBounds d v).getD d undef) = v
  rw [Array.getD_eq_getD_getElem?, Array.getElem?_setIfInBounds_self_of_lt hd]
  rfl
theorem nodup_ne {ds : List Nat} (nd : ds.Nodup) {i j : Nat} (hi : i < ds.length) (hj : j < ds.length) (h : j ≠ i) : ds[j] ≠ ds[i] := fun e => by
  rcases Nat.lt_trichotomy j i with h1 | h1 | h1
  · exact List.pairwise_iff_getElem.1 nd j i hj hi h1 e
  · exact h h1
  · exact List.pairwise_iff_getElem.1 nd i j hi hj h1 e.symm
theorem getD_of_set {L : Array Bool} {i j : Nat} (h : (L.setIfInBounds i true).getD j false = true) (hne : j ≠ i) : L.getD j false = true := by
  rwa [getD_set_ne false (fun e => hne e.symm)] at h

structure EV0 (T0 : Array Value) (ds : List Nat) (tab : Nat → Option Value) (ex : Nat → Value → World → Prop) (W : World) (L : Array Bool) (a : Act) (w : World) : Prop where
  sl : Sl2 T0 ds tab L a
  wd : Below W.heap.size W w
  ex : ∀ i (h : i < ds.length), L.getD i false = true → ex i (a.eval (.tmp ds[i])) w
theorem EV0.step {T0 : Array Value} {ds : List Nat} {tab : Nat → Option Value} {ex : Nat → Value → World → Prop} {W : World} {L : Array Bool} {a : Act} {w w' : World} (h : EV0 T0 ds tab ex W L a w) (nd : ds.Nodup) (hst : ∀ i v w w', Below w.heap.size w w' → ex i v w → ex i v w') {i : Nat} {v : Value} (hi : i < ds.length) (hd : ds[i] < T0.size) (ht : ∀ u, tab i = some u → u = v) (he : ex i v w') (hb : Below w.heap.size w w') : EV0 T0 ds tab ex W (L.setIfInBounds i true) (a.put (some ds[i]) v) w' := by
  refine ⟨h.sl.put nd hi hd ht, h.wd.trans (hb.mono h.wd.size), fun j hj hL => ?_⟩
  by_cases e : j = i
  · subst e
    rw [eval_put_same (by rw [h.sl.sz]; exact hd)]
    exact he
  · rw [Act.eval_put (fun d hd' => by cases hd'; intro e'; injection e' with e'; exact nodup_ne nd hi hj e e')]
    exact hst j _ _ _ hb (h.ex j hj (getD_of_set hL e))

structure EVS (T0 : Array Value) (ds : List Nat) (tab : Nat → Option Value) (ex : Nat → Value → World → Prop) (W : World) (m : Nat) (E : World → Prop) (L : Array Bool) (a : Act) (w : World) : Prop where
  sl : Sl2 T0 ds tab L a
  wd : L.getD m false = false → Below W.heap.size W w
  ex : L.getD m false = false → ∀ i (h : i < ds.length), L.getD i false = true → ex i (a.eval (.tmp ds[i])) w
  fin : L.getD m false = true → E w
theorem EVS.step {T0 : Array Value} {ds : List Nat} {tab : Nat → Option Value} {ex : Nat → Value → World → Prop} {W : World} {m : Nat} {E : World → Prop} {L : Array Bool} {a : Act} {w w' : World} (h : EVS T0 ds tab ex W m E L a w) (nd : ds.Nodup) (hst : ∀ i v w w', Below w.heap.size w w' → ex i v w → ex i v w') {i : Nat} {v : Value} (hi : i < ds.length) (hd : ds[i] < T0.size) (hm : i ≠ m) (h0 : L.getD m false = false) (ht : ∀ u, tab i = some u → u = v) (he : ex i v w') (hb : Below w.heap.size w w') : EVS T0 ds tab ex W m E (L.setIfInBounds i true) (a.put (some ds[i]) v) w' := by
  have g : (L.setIfInBounds i true).getD m false = false := by rw [getD_set_ne false hm]; exact h0
  refine ⟨h.sl.put nd hi hd ht, fun _ => (h.wd h0).trans (hb.mono (h.wd h0).size), fun _ j hj hL => ?_, fun h1 => by rw [g] at h1; cases h1⟩
  by_cases e : j = i
  · subst e
    rw [eval_put_same (by rw [h.sl.sz]; exact hd)]
    exact he
  · rw [Act.eval_put (fun d hd' => by cases hd'; intro e'; injection e' with e'; exact nodup_ne nd hi hj e e')]
    exact hst j _ _ _ hb (h.ex h0 j hj (getD_of_set hL e))
theorem EVS.last {T0 : Array Value} {ds : List Nat} {tab : Nat → Option Value} {ex : Nat → Value → World → Prop} {W : World} {m : Nat} {E : World → Prop} {L : Array Bool} {a : Act} {w w' : World} (h : EVS T0 ds tab ex W m E L a w) (ht : tab m = none) (hL : L.getD m true = false) (hE : E w') : EVS T0 ds tab ex W m E (L.setIfInBounds m true) a w' := by
  have g : (L.setIfInBounds m true).getD m false = true := by
    have h1 := getD_false hL
    have h2 : m < L.size := by simpa using (List.getElem?_eq_some_iff.1 h1).1
    rw [Array.getD_eq_getD_getElem?, Array.getElem?_setIfInBounds_self_of_lt h2]
    rfl
  exact ⟨h.sl.skip ht, (fun h1 => by rw [g] at h1; cases h1), (fun h1 => by rw [g] at h1; cases h1), fun _ => hE⟩

/-- As EVS, with what stands of the world ('I') and how it goes on ('Rl') left open. -/
structure EVG (T0 : Array Value) (ds : List Nat) (tab : Nat → Option Value) (ex : Nat → Value → World → Prop) (I : Array Bool → World → Prop) (m : Nat) (E : World → Prop) (L : Array Bool) (a : Act) (w : World) : Prop where
  sl : Sl2 T0 ds tab L a
  wd : L.getD m false = false → I L w
  ex : L.getD m false = false → ∀ i (h : i < ds.length), L.getD i false = true → ex i (a.eval (.tmp ds[i])) w
  fin : L.getD m false = true → E w
theorem EVG.step {T0 : Array Value} {ds : List Nat} {tab : Nat → Option Value} {ex : Nat → Value → World → Prop} {I : Array Bool → World → Prop} {m : Nat} {E : World → Prop} {L : Array Bool} {a : Act} {w w' : World} (h : EVG T0 ds tab ex I m E L a w) (nd : ds.Nodup) (hst : ∀ i v, ex i v w → ex i v w') {i : Nat} {v : Value} (hi : i < ds.length) (hd : ds[i] < T0.size) (hm : i ≠ m) (h0 : L.getD m false = false) (ht : ∀ u, tab i = some u → u = v) (he : ex i v w') (hI : I (L.setIfInBounds i true) w') : EVG T0 ds tab ex I m E (L.setIfInBounds i true) (a.put (some ds[i]) v) w' := by
  have g : (L.setIfInBounds i true).getD m false = false := by rw [getD_set_ne false hm]; exact h0
  refine ⟨h.sl.put nd hi hd ht, fun _ => hI, fun _ j hj hL => ?_, fun h1 => by rw [g] at h1; cases h1⟩
  by_cases e : j = i
  · subst e
    rw [eval_put_same (by rw [h.sl.sz]; exact hd)]
    exact he
  · rw [Act.eval_put (fun d hd' => by cases hd'; intro e'; injection e' with e'; exact nodup_ne nd hi hj e e')]
    exact hst j _ (h.ex h0 j hj (getD_of_set hL e))
theorem EVG.last {T0 : Array Value} {ds : List Nat} {tab : Nat → Option Value} {ex : Nat → Value → World → Prop} {I : Array Bool → World → Prop} {m : Nat} {E : World → Prop} {L : Array Bool} {a : Act} {w w' : World} (h : EVG T0 ds tab ex I m E L a w) (ht : tab m = none) (hL : L.getD m true = false) (hE : E w') : EVG T0 ds tab ex I m E (L.setIfInBounds m true) a w' := by
  have g : (L.setIfInBounds m true).getD m false = true := by
    have h1 := getD_false hL
    have h2 : m < L.size := by simpa using (List.getElem?_eq_some_iff.1 h1).1
    rw [Array.getD_eq_getD_getElem?, Array.getElem?_setIfInBounds_self_of_lt h2]
    rfl
  exact ⟨h.sl.skip ht, (fun h1 => by rw [g] at h1; cases h1), (fun h1 => by rw [g] at h1; cases h1), fun _ => hE⟩
end Go.Proofs.Ytjlflmbifeocbaa

namespace Go.Proofs.Ytjlflmbifeocbaa
open Go.RowKit

def tTab (n q r : Nat) : Nat → Option Value
  | 0 => some (.int .i64 n)
  | 1 => some (.int .i64 (q : Int))
  | 3 => some (.int .i64 n)
  | 4 => some (.int .i64 (r : Int))
  | 5 => some (.int .i64 (48 + (r : Int)))
  | 6 => some (.int .u8 (48 + (r : Int)))
  | 8 => some (.string (strOfNums [48 + (r : Int)]))
  | _ => none
def tEx (r : Nat) : Nat → Value → World → Prop
  | 2 => fun v _ => ∃ s : ByteArray, v = .string s ∧ s.size = 1
  | 7 => fun v w => ∃ b, v = .slice (some ⟨b, 0, none⟩) 1 1 ∧ w.cell? ⟨b, 0, none⟩ = some (.int .u8 (48 + (r : Int)))
  | 9 => fun v _ => ∃ s : ByteArray, v = .string s ∧ s.size ≤ 2
  | 10 => fun v _ => ∃ s : ByteArray, v = .string s ∧ s.size ≤ 2
  | _ => fun _ _ => True
theorem tSt (r : Nat) : ∀ i v w w', Below w.heap.size w w' → tEx r i v w → tEx r i v w' := fun i v w w' hb h => by
  match i, h with
  | 2, h => exact h
  | 7, ⟨b, h1, h2⟩ => exact ⟨b, h1, cell_later hb h2⟩
  | 9, h => exact h
  | 10, h => exact h
  | 0, h | 1, h | 3, h | 4, h | 5, h | 6, h | 8, h => exact h
  | (_ + 11), h => exact h
def tDs : List Nat := [10, 11, 12, 13, 14, 15, 16, 17, 18, 19, 2]
theorem tNd : tDs.Nodup := by decide
theorem conv_at (x : Int) (w : World) (b : Nat) (h : w.cell? ⟨b, 0, none⟩ = some (.int .u8 x)) : (convert 22 9 (.slice (some ⟨b, 0, none⟩) 1 1)).run Try.prog w = .ok (.string (strOfNums [x])) w := by
  refine run_convert_bytes_arg _ 22 5 Try.underlying22 Try.underlying5 _ 0 1 1 [x] rfl ?_ 9 Try.underlying9
  intro i hi
  obtain rfl : i = 0 := by omega
  simpa using h

set_option maxRecDepth 100000 in
set_option maxHeartbeats 4000000 in
theorem dec2_any (n : Nat) (w : World) (hn : n < 100) :
    Calls Try.prog 27 #[.int .i64 (n : Int)] w fun e w' => ∃ s : ByteArray, e = .returned (.string s) ∧ s.size ≤ 2 ∧ Below w.heap.size w w' := by
  by_cases h10 : n < 10
  · refine (dec_any n w h10).mono ?_
    rintro e w' ⟨s, h1, h2, h3⟩
    exact ⟨s, h1, by omega, h3⟩
  · have hn' : ¬ (n : Int) < 10 := by omega
    obtain ⟨q, hq⟩ : ∃ q : Nat, (n : Int) / 10 = q := ⟨n / 10, by omega⟩
    obtain ⟨r, hr⟩ : ∃ r : Nat, (n : Int) % 10 = r := ⟨n % 10, by omega⟩
    have hq9 : q < 10 := by omega
    have hr9 : r < 10 := by omega
    have hd := fun W => dec_any q W hq9
    have w1 : IntKind.i64.wrap (q : Int) = q := by rw [IntKind.wrap_i64] <;> omega
    have w2 : IntKind.i64.wrap (48 + (r : Int)) = 48 + r := by rw [IntKind.wrap_i64] <;> omega
    have w3 : IntKind.u8.wrap (48 + (r : Int)) = 48 + r := by first | (rw [IntKind.wrap_u8] <;> omega) | (simp [IntKind.wrap]; omega) | (unfold IntKind.wrap; simp; omega)
    have hr2 : (n : Int).tmod 10 = r := by rw [← hr]; exact Int.tmod_eq_emod_of_nonneg (by omega)
    have hq2 : (n : Int).tdiv 10 = q := by rw [← hq]; exact Int.tdiv_eq_ediv_of_nonneg (by omega)
    go_enter Try.func27, Try.ntmps27
    go_upto_region 3 with fail
    refine (wpIn_wide (n := 0)).1 ?_
    refine wpIn_region_inv0 (by kernel_rfl) (by kernel_rfl) (fun T0 => EV0 T0 tDs (tTab n q r) (tEx r) w) ?_ ?_ ?_
    · exact ⟨Sl2.start _, (Below.refl _ _).drew, fun i _ hL => by rw [getD_repl] at hL; cases hL⟩
    · intro L a2 w9 hinv hall
      obtain ⟨s, hs1, hs2⟩ : ∃ s : ByteArray, a2.eval (.tmp 2) = .string s ∧ s.size ≤ 2 := hinv.ex 10 (by decide) (hall 10 (by decide))
      have e2 : a2.tmps.getD 2 undef = .string s := hs1
      have HXX : Keep _ := ⟨hinv.sl.act⟩
      have hb9 := hinv.wd
      clear hinv hall
      rw [HXX.out]
      simp only [updL, tDs, List.contains_cons, List.contains_nil, Nat.reduceAdd, Nat.reduceBEq, Bool.or_false, cond_false, cond_true, Bool.or_true, e2]
      go_wp2
      go_ret
      exact ⟨s, rfl, hs2, hb9⟩
    · intro L a2 w9 i o hinv hcl hL ho hdep
      have hi11 : i < 11 := (Array.getElem?_eq_some_iff.1 ho).1
      unfold wpOpIn
      rw [ho]
      clear hcl
      match i, hi11, hL, ho, hdep with
      | 0, _, hL, ho, hdep =>
        injection ho with ho; subst ho
        dsimp only
        rw [if_pos (by rfl)]
        refine ⟨fun f _ => trivial, ?_⟩
        have e0 : a2.tmps[0]?.getD undef = .int .i64 (n : Int) := hinv.sl.old (by decide)
        go_simp
        exact hinv.step tNd (tSt r) (i := 0) (by decide) (by show 10 < 20; decide) (fun u hu => by cases hu; rfl) trivial (Below.refl _ _)
      | 1, _, hL, ho, hdep =>
        injection ho with ho; subst ho
        dsimp only
        rw [if_pos (by rfl)]
        refine ⟨fun f _ => trivial, ?_⟩
        have e10 : a2.tmps[10]?.getD undef = .int .i64 (n : Int) := hinv.sl.new (i := 0) (by decide) rfl (hdep ⟨0, .data⟩ (by simp) rfl)
        go_simp
        exact hinv.step tNd (tSt r) (i := 1) (by decide) (by show 11 < 20; decide) (fun u hu => by cases hu; rfl) trivial (Below.refl _ _)
      | 2, _, hL, ho, hdep =>
        injection ho with ho; subst ho
        dsimp only
        rw [if_pos (by rfl)]
        refine ⟨fun f _ => trivial, ?_⟩
        have e11 : a2.tmps[11]?.getD undef = .int .i64 (q : Int) := hinv.sl.new (i := 1) (by decide) rfl (hdep ⟨1, .data⟩ (by simp) rfl)
        go_simp
        refine ⟨rfl, CallsIn.mono (callsIn_wide.2 (hd _)) ?_⟩
        rintro e' w' ⟨s, rfl, hs, hb'⟩
        exact hinv.step tNd (tSt r) (i := 2) (by decide) (by show 12 < 20; decide) (fun u hu => by cases hu) ⟨s, rfl, hs⟩ hb'
      | 3, _, hL, ho, hdep =>
        injection ho with ho; subst ho
        dsimp only
        rw [if_pos (by rfl)]
        refine ⟨fun f _ => trivial, ?_⟩
        have e0 : a2.tmps[0]?.getD undef = .int .i64 (n : Int) := hinv.sl.old (by decide)
        go_simp
        exact hinv.step tNd (tSt r) (i := 3) (by decide) (by show 13 < 20; decide) (fun u hu => by cases hu; rfl) trivial (Below.refl _ _)
      | 4, _, hL, ho, hdep =>
        injection ho with ho; subst ho
        dsimp only
        rw [if_pos (by rfl)]
        refine ⟨fun f _ => trivial, ?_⟩
        have e13 : a2.tmps[13]?.getD undef = .int .i64 (n : Int) := hinv.sl.new (i := 3) (by decide) rfl (hdep ⟨3, .data⟩ (by simp) rfl)
        go_simp
        exact hinv.step tNd (tSt r) (i := 4) (by decide) (by show 14 < 20; decide) (fun u hu => by cases hu; rfl) trivial (Below.refl _ _)
      | 5, _, hL, ho, hdep =>
        injection ho with ho; subst ho
        dsimp only
        rw [if_pos (by rfl)]
        refine ⟨fun f _ => trivial, ?_⟩
        have e14 : a2.tmps[14]?.getD undef = .int .i64 (r : Int) := hinv.sl.new (i := 4) (by decide) rfl (hdep ⟨4, .data⟩ (by simp) rfl)
        go_simp
        exact hinv.step tNd (tSt r) (i := 5) (by decide) (by show 15 < 20; decide) (fun u hu => by cases hu; rfl) trivial (Below.refl _ _)
      | 6, _, hL, ho, hdep =>
        injection ho with ho; subst ho
        dsimp only
        rw [if_pos (by rfl)]
        refine ⟨fun f _ => trivial, ?_⟩
        have e15 : a2.tmps[15]?.getD undef = .int .i64 (48 + (r : Int)) := hinv.sl.new (i := 5) (by decide) rfl (hdep ⟨5, .data⟩ (by simp) rfl)
        go_simp
        exact hinv.step tNd (tSt r) (i := 6) (by decide) (by show 16 < 20; decide) (fun u hu => by cases hu; rfl) trivial (Below.refl _ _)
      | 7, _, hL, ho, hdep =>
        injection ho with ho; subst ho
        dsimp only
        rw [if_pos (by rfl)]
        refine ⟨fun f _ => trivial, ?_⟩
        have e16 : a2.tmps[16]?.getD undef = .int .u8 (48 + (r : Int)) := hinv.sl.new (i := 6) (by decide) rfl (hdep ⟨6, .data⟩ (by simp) rfl)
        go_simp
        exact hinv.step tNd (tSt r) (i := 7) (by decide) (by show 17 < 20; decide) (fun u hu => by cases hu) ⟨w9.heap.size, rfl, by simp⟩ ((Below.refl _ _).alloc (Nat.le_refl _) _)
      | 8, _, hL, ho, hdep =>
        injection ho with ho; subst ho
        dsimp only
        rw [if_pos (by rfl)]
        refine ⟨fun f _ => trivial, ?_⟩
        obtain ⟨b7, h71, h72⟩ := hinv.ex 7 (by decide) (hdep ⟨7, .data⟩ (by simp) rfl)
        have e17 : a2.tmps[17]?.getD undef = .slice (some ⟨b7, 0, none⟩) 1 1 := evalD2 h71
        have hcv := conv_at _ w9 b7 h72
        go_simp
        exact hinv.step tNd (tSt r) (i := 8) (by decide) (by show 18 < 20; decide) (fun u hu => by cases hu; rfl) trivial (Below.refl _ _)
      | 9, _, hL, ho, hdep =>
        injection ho with ho; subst ho
        dsimp only
        rw [if_pos (by rfl)]
        refine ⟨fun f _ => trivial, ?_⟩
        obtain ⟨s, h21, h22⟩ := hinv.ex 2 (by decide) (hdep ⟨2, .data⟩ (by simp) rfl)
        have e12 : a2.tmps[12]?.getD undef = .string s := evalD2 h21
        have e18 : a2.tmps[18]?.getD undef = .string (strOfNums [48 + (r : Int)]) := hinv.sl.new (i := 8) (by decide) rfl (hdep ⟨8, .data⟩ (by simp) rfl)
        have hc3 : ¬ 9223372036854775807 < s.size + (strOfNums [48 + (r : Int)]).size := by rw [h22, strOfNums_size]; simp
        go_simp
        exact hinv.step tNd (tSt r) (i := 9) (by decide) (by show 19 < 20; decide) (fun u hu => by cases hu) ⟨_, rfl, by rw [ByteArray.size_append, h22]; first | omega | (rw [strOfNums_size]; simp)⟩ (Below.refl _ _)
      | 10, _, hL, ho, hdep =>
        injection ho with ho; subst ho
        dsimp only
        rw [if_pos (by rfl)]
        refine ⟨fun f _ => trivial, ?_⟩
        obtain ⟨s, h91, h92⟩ := hinv.ex 9 (by decide) (hdep ⟨9, .data⟩ (by simp) rfl)
        have e19 : a2.tmps[19]?.getD undef = .string s := evalD2 h91
        go_simp
        exact hinv.step tNd (tSt r) (i := 10) (by decide) (by show 2 < 20; decide) (fun u hu => by cases hu) ⟨s, rfl, h92⟩ (Below.refl _ _)
end Go.Proofs.Ytjlflmbifeocbaa

namespace Go.Proofs.Ytjlflmbifeocbaa
open Go.RowKit

/-- A tree: where its entries lie, their room. -/
structure Tr where
  ad : Option Addr
  cp : Nat
  ts : List En
def Tr.v (t : Tr) : Value := .slice t.ad t.ts.length t.cp
/-- A tree in a box b; its entries lie in no block of F. -/
structure TX (F : List Nat) (b : Nat) (t : Tr) (W : World) : Prop where
  c : W.cell? ⟨b, 0, none⟩ = some (.slice t.ad t.ts.length t.cp)
  f : W.frozen? ⟨b, 0, none⟩ = false
  el : EL 0 W t.ad t.ts
  ne : t.ts = [] ∨ ∀ k ∈ F, blk t.ad ≠ some k
  rm : t.ts.length ≤ t.cp
section
variable {F : List Nat} {b k : Nat} {t u : Tr} {W W' : World}
theorem TX.lt (h : TX F b t W) : b < W.heap.size := World.block_lt_of_cell? W ⟨b, 0, none⟩ h.c
theorem TX.later (h : TX F b t W) (hb : Below W.heap.size W W') : TX F b t W' :=
  ⟨cell_later hb h.c, (hb.frozen (p := ⟨b, 0, none⟩) h.lt).trans h.f, h.el.below hb, h.ne, h.rm⟩
theorem TX.grown (h : TX F b t W) (hg : W.grownBy W' (some k)) (hk : k ∈ F) (hb : b ≠ k) : TX F b t W' := by
  have hh := hg.block b h.lt (fun e => hb (by cases e; rfl))
  refine ⟨(World.cell?_of_block hh).trans h.c, frozen_of hh h.f, ?_, h.ne, h.rm⟩
  rcases h.ne with h0 | h0
  · rw [h0]; exact EL.nil _ _ _
  · exact h.el.grown hg (fun j hj _ _ e => by cases e; exact h0 k hk hj)
theorem TX.put (h : TX F b t W) (hb : b ∈ F) (he : EL 0 W u.ad u.ts) (hn : u.ts = [] ∨ ∀ k ∈ F, blk u.ad ≠ some k) (hr : u.ts.length ≤ u.cp) : TX F b u (W.setCell ⟨b, 0, none⟩ (.slice u.ad u.ts.length u.cp)) := by
  refine ⟨World.cell?_setCell_same _ _ _ h.c, (World.frozen?_setCell _ _ _ _).trans h.f, ?_, hn, hr⟩
  rcases hn with h0 | h0
  · rw [h0]; exact EL.nil _ _ _
  · exact he.grown (grown_set0 W b 0 _) (fun j hj _ _ e => by cases e; exact h0 b hb hj)
end
theorem EL.off {B : Nat} {W : World} {ad : Option Addr} {us : List En} {F : List Nat} (h : EL B W ad us) (hF : ∀ k ∈ F, k < B) : us = [] ∨ ∀ k ∈ F, blk ad ≠ some k := by
  rcases h with h | ⟨g, e, h1, _⟩
  · exact .inl h
  · refine .inr fun k hk e' => ?_
    rw [e] at e'
    have e2 : g = k := by simpa [blk] using e'
    have := hF k hk
    omega

theorem EL.btw {B : Nat} {W : World} {ad : Option Addr} {us : List En} (h : EL B W ad us) : us = [] ∨ ∃ k, blk ad = some k ∧ B ≤ k ∧ k < W.heap.size := by
  rcases h with h | ⟨g, e, h1, h2, _⟩
  · exact .inl h
  · exact .inr ⟨g, by rw [e]; rfl, h1, h2⟩
theorem TX.wide {F F' : List Nat} {b : Nat} {t : Tr} {W : World} (h : TX F b t W) {lo hi : Nat} (hn : t.ts = [] ∨ ∃ k, blk t.ad = some k ∧ lo ≤ k ∧ k < hi) (hF : ∀ k ∈ F', k < lo ∨ hi ≤ k) : TX F' b t W := ⟨h.c, h.f, h.el, by
  rcases hn with h0 | ⟨j, h1, h2, h3⟩
  · exact .inl h0
  · refine .inr fun k hk e => ?_
    rw [h1] at e
    cases e
    have := hF j hk
    omega, h.rm⟩
theorem TX.new {g : Nat} {t : Tr} {B : Nat} {W : World} (h : EL B W t.ad t.ts) (hB : g < B) (hr : t.ts.length ≤ t.cp) : TX [g] W.heap.size t (W.alloc (.cells #[.slice t.ad t.ts.length t.cp] 25)) := by
  have hba := below_oneD W (.cells #[.slice t.ad t.ts.length t.cp] 25)
  exact ⟨by simp, by simp, (h.mono (Nat.zero_le _)).below hba, h.off (fun k hk => by rw [List.mem_singleton.1 hk]; exact hB), hr⟩

def mF (r2 r3 r4 g b6 b7 b8 : Nat) : List Nat := [r2, r3, r4, g, b6, b7, b8]
structure M3 (w : World) (g r2 r3 r4 b6 b7 b8 : Nat) (a : Option Addr) (cap : Nat) (zs : List Int) (p : Nat) (t6 t7 t8 : Tr) (W : World) : Prop where
  rd : Rd W g a cap zs p
  bw : Below w.heap.size w W
  x6 : TX (mF r2 r3 r4 g b6 b7 b8) b6 t6 W
  x7 : TX (mF r2 r3 r4 g b6 b7 b8) b7 t7 W
  x8 : TX (mF r2 r3 r4 g b6 b7 b8) b8 t8 W
  c2 : W.cell? ⟨r2, 0, none⟩ = some (.slice none 0 0)
  f2 : W.frozen? ⟨r2, 0, none⟩ = false
  c3 : W.cell? ⟨r3, 0, none⟩ = some (.slice none 0 0)
  f3 : W.frozen? ⟨r3, 0, none⟩ = false
  c4 : W.cell? ⟨r4, 0, none⟩ = some (.slice none 0 0)
  f4 : W.frozen? ⟨r4, 0, none⟩ = false
  ord : w.heap.size ≤ r2 ∧ r2 < r3 ∧ r3 < r4 ∧ r4 < g ∧ g < b6 ∧ b6 < b7 ∧ b7 < b8
section
variable {w : World} {g r2 r3 r4 b6 b7 b8 : Nat} {a : Option Addr} {cap : Nat} {zs : List Int} {p p' : Nat} {t6 t7 t8 u : Tr} {W W' : World}
theorem M3.step (h : M3 w g r2 r3 r4 b6 b7 b8 a cap zs p t6 t7 t8 W) (hg : W.grownBy W' (some g)) (hR : Rd W' g a cap zs p') : M3 w g r2 r3 r4 b6 b7 b8 a cap zs p' t6 t7 t8 W' := by
  have o := h.ord
  have k2 := hg.block r2 (World.block_lt_of_cell? W ⟨r2, 0, none⟩ h.c2) (by simp; omega)
  have k3 := hg.block r3 (World.block_lt_of_cell? W ⟨r3, 0, none⟩ h.c3) (by simp; omega)
  have k4 := hg.block r4 (World.block_lt_of_cell? W ⟨r4, 0, none⟩ h.c4) (by simp; omega)
  exact ⟨hR, h.bw.grown hg h.bw.size (fun j e => by cases e; omega), h.x6.grown hg (by simp [mF]) (by omega), h.x7.grown hg (by simp [mF]) (by omega), h.x8.grown hg (by simp [mF]) (by omega), (World.cell?_of_block k2).trans h.c2, frozen_of k2 h.f2, (World.cell?_of_block k3).trans h.c3, frozen_of k3 h.f3, (World.cell?_of_block k4).trans h.c4, frozen_of k4 h.f4, o⟩
theorem M3.later (h : M3 w g r2 r3 r4 b6 b7 b8 a cap zs p t6 t7 t8 W) (hb : Below W.heap.size W W') : M3 w g r2 r3 r4 b6 b7 b8 a cap zs p t6 t7 t8 W' := h.step (gr_below hb) (h.rd.below hb)
theorem M3.rest (h : M3 w g r2 r3 r4 b6 b7 b8 a cap zs p t6 t7 t8 W) {k : Nat} (v : Value) (hk : k = b6 ∨ k = b7 ∨ k = b8) : Rd (W.setCell ⟨k, 0, none⟩ v) g a cap zs p ∧ Below w.heap.size w (W.setCell ⟨k, 0, none⟩ v) ∧ ((W.setCell ⟨k, 0, none⟩ v).cell? ⟨r2, 0, none⟩ = some (.slice none 0 0) ∧ (W.setCell ⟨k, 0, none⟩ v).frozen? ⟨r2, 0, none⟩ = false) ∧ ((W.setCell ⟨k, 0, none⟩ v).cell? ⟨r3, 0, none⟩ = some (.slice none 0 0) ∧ (W.setCell ⟨k, 0, none⟩ v).frozen? ⟨r3, 0, none⟩ = false) ∧ (W.setCell ⟨k, 0, none⟩ v).cell? ⟨r4, 0, none⟩ = some (.slice none 0 0) ∧ (W.setCell ⟨k, 0, none⟩ v).frozen? ⟨r4, 0, none⟩ = false := by
  have o := h.ord
  have hg : W.grownBy (W.setCell ⟨k, 0, none⟩ v) (some k) := grown_set0 W k 0 v
  have k2 := hg.block r2 (World.block_lt_of_cell? W ⟨r2, 0, none⟩ h.c2) (by simp; omega)
  have k3 := hg.block r3 (World.block_lt_of_cell? W ⟨r3, 0, none⟩ h.c3) (by simp; omega)
  have k4 := hg.block r4 (World.block_lt_of_cell? W ⟨r4, 0, none⟩ h.c4) (by simp; omega)
  exact ⟨h.rd.kept hg (fun j e => by cases e; omega), h.bw.setCell (p := ⟨k, 0, none⟩) (by show _ ≤ k; omega) _, ⟨(World.cell?_of_block k2).trans h.c2, frozen_of k2 h.f2⟩, ⟨(World.cell?_of_block k3).trans h.c3, frozen_of k3 h.f3⟩, (World.cell?_of_block k4).trans h.c4, frozen_of k4 h.f4⟩
theorem M3.all (h : M3 w g r2 r3 r4 b6 b7 b8 a cap zs p t6 t7 t8 W) : ∀ k ∈ mF r2 r3 r4 g b6 b7 b8, k < b8 + 1 := fun k hk => by
  have o := h.ord
  simp only [mF, List.mem_cons, List.not_mem_nil, or_false] at hk
  omega
theorem M3.put6 (h : M3 w g r2 r3 r4 b6 b7 b8 a cap zs p t6 t7 t8 W) (he : EL (b8 + 1) W u.ad u.ts) (hr : u.ts.length ≤ u.cp) : M3 w g r2 r3 r4 b6 b7 b8 a cap zs p u t7 t8 (W.setCell ⟨b6, 0, none⟩ (.slice u.ad u.ts.length u.cp)) := by
  obtain ⟨h1, h2, ⟨h3, h4⟩, ⟨h5, h6⟩, h7, h8⟩ := h.rest (.slice u.ad u.ts.length u.cp) (.inl rfl)
  have o := h.ord
  exact ⟨h1, h2, h.x6.put (by simp [mF]) (he.mono (Nat.zero_le _)) (he.off h.all) hr, h.x7.grown (grown_set0 _ _ _ _) (by simp [mF]) (by omega), h.x8.grown (grown_set0 _ _ _ _) (by simp [mF]) (by omega), h3, h4, h5, h6, h7, h8, o⟩
theorem M3.put7 (h : M3 w g r2 r3 r4 b6 b7 b8 a cap zs p t6 t7 t8 W) (he : EL (b8 + 1) W u.ad u.ts) (hr : u.ts.length ≤ u.cp) : M3 w g r2 r3 r4 b6 b7 b8 a cap zs p t6 u t8 (W.setCell ⟨b7, 0, none⟩ (.slice u.ad u.ts.length u.cp)) := by
  obtain ⟨h1, h2, ⟨h3, h4⟩, ⟨h5, h6⟩, h7, h8⟩ := h.rest (.slice u.ad u.ts.length u.cp) (.inr (.inl rfl))
  have o := h.ord
  exact ⟨h1, h2, h.x6.grown (grown_set0 _ _ _ _) (by simp [mF]) (by omega), h.x7.put (by simp [mF]) (he.mono (Nat.zero_le _)) (he.off h.all) hr, h.x8.grown (grown_set0 _ _ _ _) (by simp [mF]) (by omega), h3, h4, h5, h6, h7, h8, o⟩
theorem M3.put8 (h : M3 w g r2 r3 r4 b6 b7 b8 a cap zs p t6 t7 t8 W) (he : EL (b8 + 1) W u.ad u.ts) (hr : u.ts.length ≤ u.cp) : M3 w g r2 r3 r4 b6 b7 b8 a cap zs p t6 t7 u (W.setCell ⟨b8, 0, none⟩ (.slice u.ad u.ts.length u.cp)) := by
  obtain ⟨h1, h2, ⟨h3, h4⟩, ⟨h5, h6⟩, h7, h8⟩ := h.rest (.slice u.ad u.ts.length u.cp) (.inr (.inr rfl))
  have o := h.ord
  exact ⟨h1, h2, h.x6.grown (grown_set0 _ _ _ _) (by simp [mF]) (by omega), h.x7.grown (grown_set0 _ _ _ _) (by simp [mF]) (by omega), h.x8.put (by simp [mF]) (he.mono (Nat.zero_le _)) (he.off h.all) hr, h3, h4, h5, h6, h7, h8, o⟩
end
/-- What is handed back, or nothing yet. -/
def rcV (b : Bool) (t : Tr) : Value := bif b then .slice t.ad t.ts.length t.cp else .slice none 0 0
def zTab (t6 t7 t8 : Tr) : Nat → Option Value
  | 0 => some (.agg #[.slice t6.ad t6.ts.length t6.cp])
  | 1 => some (.agg #[.slice t7.ad t7.ts.length t7.cp])
  | 2 => some (.agg #[.slice t8.ad t8.ts.length t8.cp])
  | _ => none
def zDs : List Nat := [87, 88, 89, 1000, 1001, 1002]
theorem zNd : zDs.Nodup := by decide
structure RV3 (w : World) (g r2 r3 r4 b6 b7 b8 : Nat) (t6 t7 t8 : Tr) (T0 : Array Value) (L : Array Bool) (a : Act) (W : World) : Prop where
  sl : Sl2 T0 zDs (zTab t6 t7 t8) L a
  bw : Below w.heap.size w W
  x6 : TX (mF r2 r3 r4 g b6 b7 b8) b6 t6 W
  x7 : TX (mF r2 r3 r4 g b6 b7 b8) b7 t7 W
  x8 : TX (mF r2 r3 r4 g b6 b7 b8) b8 t8 W
  c2 : W.cell? ⟨r2, 0, none⟩ = some (rcV (L.getD 3 false) t6)
  f2 : W.frozen? ⟨r2, 0, none⟩ = false
  c3 : W.cell? ⟨r3, 0, none⟩ = some (rcV (L.getD 4 false) t7)
  f3 : W.frozen? ⟨r3, 0, none⟩ = false
  c4 : W.cell? ⟨r4, 0, none⟩ = some (rcV (L.getD 5 false) t8)
  f4 : W.frozen? ⟨r4, 0, none⟩ = false
section
variable {w : World} {g r2 r3 r4 b6 b7 b8 : Nat} {t6 t7 t8 : Tr} {T0 : Array Value} {L : Array Bool} {a : Act} {W : World}
theorem RV3.step (h : RV3 w g r2 r3 r4 b6 b7 b8 t6 t7 t8 T0 L a W) {i : Nat} {v : Value} (hi : i < 3) (hd : 87 + i < T0.size) (ht : zTab t6 t7 t8 i = some v) : RV3 w g r2 r3 r4 b6 b7 b8 t6 t7 t8 T0 (L.setIfInBounds i true) (a.put (some (87 + i)) v) W := by
  have hlen : i < zDs.length := by show i < 6; omega
  have hds : zDs[i] = 87 + i := by
    match i, hi with
    | 0, _ | 1, _ | 2, _ => rfl
  have hsl := h.sl.put zNd hlen (by rw [hds]; exact hd) (v := v) (fun u' hu => by rw [ht] at hu; cases hu; rfl)
  rw [hds] at hsl
  refine ⟨hsl, h.bw, h.x6, h.x7, h.x8, ?_, h.f2, ?_, h.f3, ?_, h.f4⟩
  · rw [getD_set_ne false (by omega)]; exact h.c2
  · rw [getD_set_ne false (by omega)]; exact h.c3
  · rw [getD_set_ne false (by omega)]; exact h.c4
theorem RV3.st2 (h : RV3 w g r2 r3 r4 b6 b7 b8 t6 t7 t8 T0 L a W) (o : r2 < r3 ∧ r3 < r4 ∧ r4 < g ∧ g < b6 ∧ b6 < b7 ∧ b7 < b8 ∧ w.heap.size ≤ r2) (hL : L.getD 3 true = false) : RV3 w g r2 r3 r4 b6 b7 b8 t6 t7 t8 T0 (L.setIfInBounds 3 true) a (W.setCell ⟨r2, 0, none⟩ (.slice t6.ad t6.ts.length t6.cp)) := by
  have hg : W.grownBy (W.setCell ⟨r2, 0, none⟩ (.slice t6.ad t6.ts.length t6.cp)) (some r2) := grown_set0 W r2 0 _
  have gi : (L.setIfInBounds 3 true).getD 3 false = true := by
    have h1 := getD_false hL
    have h2 : 3 < L.size := by simpa using (List.getElem?_eq_some_iff.1 h1).1
    rw [Array.getD_eq_getD_getElem?, Array.getElem?_setIfInBounds_self_of_lt h2]
    rfl
  refine ⟨h.sl.skip rfl, h.bw.setCell (p := ⟨r2, 0, none⟩) (by show _ ≤ r2; omega) _, h.x6.grown hg (by simp [mF]) (by omega), h.x7.grown hg (by simp [mF]) (by omega), h.x8.grown hg (by simp [mF]) (by omega), ?_, (World.frozen?_setCell _ _ _ _).trans h.f2, ?_, (World.frozen?_setCell _ _ _ _).trans h.f3, ?_, (World.frozen?_setCell _ _ _ _).trans h.f4⟩
  · rw [gi]
    exact World.cell?_setCell_same _ _ _ h.c2
  · rw [getD_set_ne false (by omega)]
    exact (World.cell?_setCell_other _ _ _ _ (by intro e; have e2 := congrArg Addr.block e; have e3 : r2 = r3 := e2; omega)).trans h.c3
  · rw [getD_set_ne false (by omega)]
    exact (World.cell?_setCell_other _ _ _ _ (by intro e; have e2 := congrArg Addr.block e; have e3 : r2 = r4 := e2; omega)).trans h.c4
theorem RV3.st3 (h : RV3 w g r2 r3 r4 b6 b7 b8 t6 t7 t8 T0 L a W) (o : r2 < r3 ∧ r3 < r4 ∧ r4 < g ∧ g < b6 ∧ b6 < b7 ∧ b7 < b8 ∧ w.heap.size ≤ r2) (hL : L.getD 4 true = false) : RV3 w g r2 r3 r4 b6 b7 b8 t6 t7 t8 T0 (L.setIfInBounds 4 true) a (W.setCell ⟨r3, 0, none⟩ (.slice t7.ad t7.ts.length t7.cp)) := by
  have hg : W.grownBy (W.setCell ⟨r3, 0, none⟩ (.slice t7.ad t7.ts.length t7.cp)) (some r3) := grown_set0 W r3 0 _
  have gi : (L.setIfInBounds 4 true).getD 4 false = true := by
    have h1 := getD_false hL
    have h2 : 4 < L.size := by simpa using (List.getElem?_eq_some_iff.1 h1).1
    rw [Array.getD_eq_getD_getElem?, Array.getElem?_setIfInBounds_self_of_lt h2]
    rfl
  refine ⟨h.sl.skip rfl, h.bw.setCell (p := ⟨r3, 0, none⟩) (by show _ ≤ r3; omega) _, h.x6.grown hg (by simp [mF]) (by omega), h.x7.grown hg (by simp [mF]) (by omega), h.x8.grown hg (by simp [mF]) (by omega), ?_, (World.frozen?_setCell _ _ _ _).trans h.f2, ?_, (World.frozen?_setCell _ _ _ _).trans h.f3, ?_, (World.frozen?_setCell _ _ _ _).trans h.f4⟩
  · rw [getD_set_ne false (by omega)]
    exact (World.cell?_setCell_other _ _ _ _ (by intro e; have e2 := congrArg Addr.block e; have e3 : r3 = r2 := e2; omega)).trans h.c2
  · rw [gi]
    exact World.cell?_setCell_same _ _ _ h.c3
  · rw [getD_set_ne false (by omega)]
    exact (World.cell?_setCell_other _ _ _ _ (by intro e; have e2 := congrArg Addr.block e; have e3 : r3 = r4 := e2; omega)).trans h.c4
theorem RV3.st4 (h : RV3 w g r2 r3 r4 b6 b7 b8 t6 t7 t8 T0 L a W) (o : r2 < r3 ∧ r3 < r4 ∧ r4 < g ∧ g < b6 ∧ b6 < b7 ∧ b7 < b8 ∧ w.heap.size ≤ r2) (hL : L.getD 5 true = false) : RV3 w g r2 r3 r4 b6 b7 b8 t6 t7 t8 T0 (L.setIfInBounds 5 true) a (W.setCell ⟨r4, 0, none⟩ (.slice t8.ad t8.ts.length t8.cp)) := by
  have hg : W.grownBy (W.setCell ⟨r4, 0, none⟩ (.slice t8.ad t8.ts.length t8.cp)) (some r4) := grown_set0 W r4 0 _
  have gi : (L.setIfInBounds 5 true).getD 5 false = true := by
    have h1 := getD_false hL
    have h2 : 5 < L.size := by simpa using (List.getElem?_eq_some_iff.1 h1).1
    rw [Array.getD_eq_getD_getElem?, Array.getElem?_setIfInBounds_self_of_lt h2]
    rfl
  refine ⟨h.sl.skip rfl, h.bw.setCell (p := ⟨r4, 0, none⟩) (by show _ ≤ r4; omega) _, h.x6.grown hg (by simp [mF]) (by omega), h.x7.grown hg (by simp [mF]) (by omega), h.x8.grown hg (by simp [mF]) (by omega), ?_, (World.frozen?_setCell _ _ _ _).trans h.f2, ?_, (World.frozen?_setCell _ _ _ _).trans h.f3, ?_, (World.frozen?_setCell _ _ _ _).trans h.f4⟩
  · rw [getD_set_ne false (by omega)]
    exact (World.cell?_setCell_other _ _ _ _ (by intro e; have e2 := congrArg Addr.block e; have e3 : r4 = r2 := e2; omega)).trans h.c2
  · rw [getD_set_ne false (by omega)]
    exact (World.cell?_setCell_other _ _ _ _ (by intro e; have e2 := congrArg Addr.block e; have e3 : r4 = r3 := e2; omega)).trans h.c3
  · rw [gi]
    exact World.cell?_setCell_same _ _ _ h.c4
end
/-- What is known of a drawn tree. -/
def TQ (t : Tr) : Prop := t.ts.length ≤ 300 ∧ Tiny 1000 20000 t.ts
def DrawnM (w : World) (e : Ending) (w' : World) : Prop :=
  ∃ t6 t7 t8 : Tr, e = .returned (.tuple #[.agg #[.slice t6.ad t6.ts.length t6.cp], .agg #[.slice t7.ad t7.ts.length t7.cp], .agg #[.slice t8.ad t8.ts.length t8.cp]]) ∧ ES w' t6.ad t6.ts ∧ ES w' t7.ad t7.ts ∧ ES w' t8.ad t8.ts ∧ TQ t6 ∧ TQ t7 ∧ TQ t8 ∧ t6.ts.length ≤ t6.cp ∧ t7.ts.length ≤ t7.cp ∧ t8.ts.length ≤ t8.cp ∧ Below w.heap.size w w'
theorem Tiny.layRel {P T : Nat} {ts us : List En} {p : ByteArray} {f : Fl} (h : Tiny P T ts) (he : p.size ≤ P ∧ f.text.size ≤ T) (hs : LayRel ts p f us) : Tiny P T us := fun x hx => by
  rcases (hs.mem x).1 hx with ⟨_, rfl⟩ | ⟨h1, _⟩
  · exact he
  · exact h x h1
end Go.Proofs.Ytjlflmbifeocbaa

namespace Go.Proofs.Ytjlflmbifeocbaa
open Go.RowKit

structure EVF (T0 : Array Value) (ds : List Nat) (tab : Nat → Option Value) (ex : Nat → Value → World → Prop) (I : Array Bool → World → Prop) (L : Array Bool) (a : Act) (w : World) : Prop where
  sl : Sl2 T0 ds tab L a
  wd : I L w
  ex : ∀ i (h : i < ds.length), L.getD i false = true → ex i (a.eval (.tmp ds[i])) w
theorem EVF.step {T0 : Array Value} {ds : List Nat} {tab : Nat → Option Value} {ex : Nat → Value → World → Prop} {I : Array Bool → World → Prop} {L : Array Bool} {a : Act} {w w' : World} (h : EVF T0 ds tab ex I L a w) (nd : ds.Nodup) (hst : ∀ i v, ex i v w → ex i v w') {i : Nat} {v : Value} (hi : i < ds.length) (hd : ds[i] < T0.size) (ht : ∀ u, tab i = some u → u = v) (he : ex i v w') (hI : I (L.setIfInBounds i true) w') : EVF T0 ds tab ex I (L.setIfInBounds i true) (a.put (some ds[i]) v) w' := by
  refine ⟨h.sl.put nd hi hd ht, hI, fun j hj hL => ?_⟩
  by_cases e : j = i
  · subst e
    rw [eval_put_same (by rw [h.sl.sz]; exact hd)]
    exact he
  · rw [Act.eval_put (fun d hd' => by cases hd'; intro e'; injection e' with e'; exact nodup_ne nd hi hj e e')]
    exact hst j _ (h.ex j hj (getD_of_set hL e))
/-- An operation that gives nothing (a store). -/
theorem EVF.skip {T0 : Array Value} {ds : List Nat} {tab : Nat → Option Value} {ex : Nat → Value → World → Prop} {I : Array Bool → World → Prop} {L : Array Bool} {a : Act} {w w' : World} (h : EVF T0 ds tab ex I L a w) (hst : ∀ i v, ex i v w → ex i v w') {i : Nat} (ht : tab i = none) (he : ∀ v, ex i v w') (hI : I (L.setIfInBounds i true) w') : EVF T0 ds tab ex I (L.setIfInBounds i true) a w' := by
  refine ⟨h.sl.skip ht, hI, fun j hj hL => ?_⟩
  by_cases e : j = i
  · subst e; exact he _
  · exact hst j _ (h.ex j hj (getD_of_set hL e))
end Go.Proofs.Ytjlflmbifeocbaa

namespace Go.Proofs.Ytjlflmbifeocbaa
open Go.RowKit

structure Q6 (w : World) (g r2 r3 b4 : Nat) (a : Option Addr) (cap : Nat) (zs : List Int) (p : Nat) (t : Tr) (u2 u3 : Value) (W : World) : Prop where
  rd : Rd W g a cap zs p
  gr : w.grownBy W (some g)
  x4 : TX [g, r2, r3, b4] b4 t W
  lo : EL w.heap.size W t.ad t.ts
  c2 : W.cell? ⟨r2, 0, none⟩ = some u2
  f2 : W.frozen? ⟨r2, 0, none⟩ = false
  c3 : W.cell? ⟨r3, 0, none⟩ = some u3
  f3 : W.frozen? ⟨r3, 0, none⟩ = false
  ord : g < w.heap.size ∧ w.heap.size ≤ r2 ∧ r2 < r3 ∧ r3 < b4
section
variable {w : World} {g r2 r3 b4 : Nat} {a : Option Addr} {cap : Nat} {zs : List Int} {p p' : Nat} {t : Tr} {u2 u3 : Value} {W W' : World}
theorem TX.lo_on {F : List Nat} {b k : Nat} {t : Tr} {B : Nat} (h : TX F b t W) (hl : EL B W t.ad t.ts) (hg : W.grownBy W' (some k)) (hk : k ∈ F) : EL B W' t.ad t.ts := by
  rcases h.ne with h0 | h0
  · rw [h0]; exact EL.nil _ _ _
  · exact hl.grown hg (fun j hj _ _ e => by cases e; exact h0 k hk hj)
theorem Q6.step (h : Q6 w g r2 r3 b4 a cap zs p t u2 u3 W) (hg : W.grownBy W' (some g)) (hR : Rd W' g a cap zs p') : Q6 w g r2 r3 b4 a cap zs p' t u2 u3 W' := by
  have o := h.ord
  have k2 := hg.block r2 (World.block_lt_of_cell? W ⟨r2, 0, none⟩ h.c2) (by simp; omega)
  have k3 := hg.block r3 (World.block_lt_of_cell? W ⟨r3, 0, none⟩ h.c3) (by simp; omega)
  exact ⟨hR, gr_trans h.gr hg, h.x4.grown hg (by simp) (by omega), h.x4.lo_on h.lo hg (by simp), (World.cell?_of_block k2).trans h.c2, frozen_of k2 h.f2, (World.cell?_of_block k3).trans h.c3, frozen_of k3 h.f3, o⟩
theorem Q6.later (h : Q6 w g r2 r3 b4 a cap zs p t u2 u3 W) (hb : Below W.heap.size W W') : Q6 w g r2 r3 b4 a cap zs p t u2 u3 W' := h.step (gr_below hb) (h.rd.below hb)
theorem Q6.set2 (h : Q6 w g r2 r3 b4 a cap zs p t u2 u3 W) (v : Value) : Q6 w g r2 r3 b4 a cap zs p t v u3 (W.setCell ⟨r2, 0, none⟩ v) := by
  have o := h.ord
  have hg : W.grownBy (W.setCell ⟨r2, 0, none⟩ v) (some r2) := grown_set0 W r2 0 v
  have k3 := hg.block r3 (World.block_lt_of_cell? W ⟨r3, 0, none⟩ h.c3) (by simp; omega)
  exact ⟨h.rd.kept hg (fun j e => by cases e; omega), gr_own h.gr hg (fun j e => by cases e; omega), h.x4.grown hg (by simp) (by omega), h.x4.lo_on h.lo hg (by simp), World.cell?_setCell_same _ _ _ h.c2, (World.frozen?_setCell _ _ _ _).trans h.f2, (World.cell?_of_block k3).trans h.c3, frozen_of k3 h.f3, o⟩
theorem Q6.set3 (h : Q6 w g r2 r3 b4 a cap zs p t u2 u3 W) (v : Value) : Q6 w g r2 r3 b4 a cap zs p t u2 v (W.setCell ⟨r3, 0, none⟩ v) := by
  have o := h.ord
  have hg : W.grownBy (W.setCell ⟨r3, 0, none⟩ v) (some r3) := grown_set0 W r3 0 v
  have k2 := hg.block r2 (World.block_lt_of_cell? W ⟨r2, 0, none⟩ h.c2) (by simp; omega)
  exact ⟨h.rd.kept hg (fun j e => by cases e; omega), gr_own h.gr hg (fun j e => by cases e; omega), h.x4.grown hg (by simp) (by omega), h.x4.lo_on h.lo hg (by simp), (World.cell?_of_block k2).trans h.c2, frozen_of k2 h.f2, World.cell?_setCell_same _ _ _ h.c3, (World.frozen?_setCell _ _ _ _).trans h.f3, o⟩
end
end Go.Proofs.Ytjlflmbifeocbaa

namespace Go.Proofs.Ytjlflmbifeocbaa
open Go.RowKit

theorem ss_of_rowM {w : World} {base : Nat} {ad : Option Addr} {cp : Nat} {ss : List ByteArray} (h : w.ownsRow base 9 1 (.slice ad ss.length cp) ss.length (ss.map .string)) : SS w ad ss := by
  by_cases h0 : ss = []
  · exact .inl h0
  · right
    obtain ⟨g, c, hv, _⟩ := h.form (List.length_pos_iff.2 h0)
    cases hv
    exact ⟨g, 0, rfl, fun i hi => by rw [Nat.zero_add, h.cellAt i (by simpa using hi), List.getElem?_map, List.getElem?_eq_getElem hi]; rfl⟩
def NamesPost (us : List ByteArray) (w : World) (e : Ending) (w' : World) : Prop :=
  ∃ ad cp, e = .returned (.slice ad us.length cp) ∧ w'.ownsRow w.heap.size 9 1 (.slice ad us.length cp) us.length (us.map .string) ∧ Below w.heap.size w w'
/-- A row of names in the making. -/
structure NmR (w : World) (v : Value) (us : List ByteArray) (W : World) : Prop where
  row : W.ownsRow w.heap.size 9 1 v us.length (us.map .string)
  bw : Below w.heap.size w W
theorem NmR.app {w : World} {v v' : Value} {us : List ByteArray} {W W' : World} {x : ByteArray} {o : Obj} (h : NmR w v us W) (hg : (W.alloc o).grownBy W' v.ownBlock) (ho : W'.ownsRow w.heap.size 9 1 v' (us.length + 1) (us.map .string ++ [.string x])) : NmR w v' (us ++ [x]) W' :=
  ⟨by rw [List.length_append, List.map_append]; exact ho, (h.bw.alloc h.bw.size _).grown hg (by have := h.bw.size; simp; omega) (owns_base h.row)⟩

set_option maxRecDepth 100000 in
set_option maxHeartbeats 4000000 in
theorem l6Name_any (a : Option Addr) (cap : Nat) (ls : List ByteArray) (s : ByteArray) (w : World) (hss : SS w a ls) (hn : ls.length ≤ 1048576) :
    Calls Try.prog 47 #[.slice a ls.length cap, .string s] w (NamesPost (nameL ls s) w) := by
  obtain ⟨i0, hi, hz0, hz1, hz2⟩ := info_parts Try.infoStr
  have hnil : NmR w (.slice (some ⟨w.heap.size, 0, none⟩) 0 0) [] (w.alloc (.cells #[] 9)) := ⟨⟨by simp, .inr ⟨w.heap.size, 0, #[], rfl, Nat.le_refl _, heap_alloc_new w _, Nat.le_refl _, by unfold maxLen; omega, rfl, by simp⟩⟩, (Below.refl _ _).alloc (Nat.le_refl _) _⟩
  go_enter Try.func47, Try.ntmps47
  go_wp2
  go_loopw [5, 6, 7] (fun v dn i wr => ∃ k : Nat, i = .int .i64 k ∧ k ≤ ls.length ∧ dn = .bool (foldN s (ls.take k)).2 ∧ NmR w v (foldN s (ls.take k)).1 wr) (fun _ _ i _ => ls.length - (intOf i).toNat)
  case atStart => exact ⟨0, rfl, Nat.zero_le _, rfl, hnil⟩
  case round =>
    obtain ⟨k, rfl, hk, rfl, hR⟩ := hrel
    have hfl := (foldN_len s ls k hk).2
    have hbs := hR.bw.size
    by_cases hlt : k < ls.length
    · have hlt' : (k : Int) < ls.length := by omega
      obtain ⟨b, off, rfl, hcl⟩ := (hss.below hR.bw).at hlt
      have hck := hcl k hlt
      have HN : Keep (foldN s (ls.take (k + 1)) = stepN s (foldN s (ls.take k)) ls[k]) := ⟨foldN_take hlt⟩
      have hbm : ∀ W, Below w.heap.size w W → W.cell? ⟨b, off + k, none⟩ = some (.string ls[k]) := fun W hW => by
        obtain ⟨b2, off2, e2, h2⟩ := (hss.below hW).at hlt
        cases e2
        exact h2 k hlt
      clear hcl
      generalize hx : ls[k] = x at *
      clear hx
      generalize foldN s (ls.take k) = r at *
      obtain ⟨us, dn⟩ := r
      dsimp only at hR hfl HN ⊢
      cases dn with
      | true =>
        by_cases hxs : x = s
        · have hne : (x.toList != s.toList) = false := by rw [hxs]; simp
          have heq : (x.toList == s.toList) = true := by rw [hxs]; simp
          have HF : Keep (foldN s (ls.take (k + 1)) = (us, true)) := ⟨by rw [HN.out]; unfold stepN; rw [if_pos rfl, if_neg (by rw [hne]; simp)]⟩
          clear hxs
          go_wp2
          go_roundw
          case rel => exact ⟨k + 1, by congr 1, by omega, by rw [HF.out], by rw [HF.out]; exact hR⟩
          case measure => simp only [intOf]; omega
        · have hne : (x.toList != s.toList) = true := ne_toList.2 hxs
          have heq : (x.toList == s.toList) = false := by simpa using hne
          have HF : Keep (foldN s (ls.take (k + 1)) = (us ++ [x], true)) := ⟨by rw [HN.out]; unfold stepN; rw [if_pos rfl, if_pos hne]⟩
          clear hxs
          go_wp2_with (first | (at_builtin; refine wpList_append_own _ rfl _ _ 69 rfl w.heap.size 9 i0 _ 1 16 Try.underlying69 hi hz0 hz1 hz2 rfl (by decide) _ _ _ rfl (hR.row.alloc _) ⟨wr.heap.size, 0, none⟩ 1 1 [.string x] rfl rfl (cell_one_new _ _ _) (by simp [Value.oneCell']) (by unfold maxLen; omega) (by omega) (by have := hR.bw.size; simp; omega) ?_; intro v2 w2 ho2 hg2 _; have hR2 := hR.app (x := x) hg2 ho2))
          go_roundw
          case rel => exact ⟨k + 1, by congr 1, by omega, by rw [HF.out], by rw [HF.out]; exact hR2⟩
          case measure => simp only [intOf]; omega
      | false =>
        by_cases hl : Op.bytesLess x.toList s.toList = true
        · have hxs : x ≠ s := less_ne hl
          have hne : (x.toList != s.toList) = true := ne_toList.2 hxs
          have heq : (x.toList == s.toList) = false := by simpa using hne
          have hgl : Op.bytesLess s.toList x.toList = false := by
            cases hq : Op.bytesLess s.toList x.toList with
            | false => rfl
            | true => have := less_trans hl hq; rw [less_irrefl] at this; cases this
          have HF : Keep (foldN s (ls.take (k + 1)) = (us ++ [x], false)) := ⟨by rw [HN.out]; unfold stepN; rw [if_neg (by simp), if_pos hl]⟩
          clear hxs
          go_wp2_with (first | (at_builtin; refine wpList_append_own _ rfl _ _ 69 rfl w.heap.size 9 i0 _ 1 16 Try.underlying69 hi hz0 hz1 hz2 rfl (by decide) _ _ _ rfl (hR.row.alloc _) ⟨wr.heap.size, 0, none⟩ 1 1 [.string x] rfl rfl (cell_one_new _ _ _) (by simp [Value.oneCell']) (by unfold maxLen; omega) (by omega) (by have := hR.bw.size; simp; omega) ?_; intro v2 w2 ho2 hg2 _; have hR2 := hR.app (x := x) hg2 ho2))
          go_roundw
          case rel => exact ⟨k + 1, by congr 1, by omega, by rw [HF.out], by rw [HF.out]; exact hR2⟩
          case measure => simp only [intOf]; omega
        · replace hl : Op.bytesLess x.toList s.toList = false := by simpa using hl
          by_cases hxs : x = s
          · have hne : (x.toList != s.toList) = false := by rw [hxs]; simp
            have heq : (x.toList == s.toList) = true := by rw [hxs]; simp
            have HF : Keep (foldN s (ls.take (k + 1)) = (us ++ [s], true)) := ⟨by rw [HN.out]; unfold stepN; rw [if_neg (by simp), if_neg (by rw [hl]; simp), if_neg (by rw [hne]; simp)]⟩
            clear hxs
            go_wp2_with (first | (at_builtin; refine wpList_append_own _ rfl _ _ 69 rfl w.heap.size 9 i0 _ 1 16 Try.underlying69 hi hz0 hz1 hz2 rfl (by decide) _ _ _ rfl (hR.row.alloc _) ⟨wr.heap.size, 0, none⟩ 1 1 [.string s] rfl rfl (cell_one_new _ _ _) (by simp [Value.oneCell']) (by unfold maxLen; omega) (by omega) (by have := hR.bw.size; simp; omega) ?_; intro v2 w2 ho2 hg2 _; have hR2 := hR.app (x := s) hg2 ho2; have ck2 := hbm w2 hR2.bw; have hl2 : (us ++ [s]).length ≤ 1048579 := (by simp; omega)))
            go_roundw
            case rel => exact ⟨k + 1, by congr 1, by omega, by rw [HF.out], by rw [HF.out]; exact hR2⟩
            case measure => simp only [intOf]; omega
          · have hne : (x.toList != s.toList) = true := ne_toList.2 hxs
            have heq : (x.toList == s.toList) = false := by simpa using hne
            have hgl := less_of hl hxs
            have HF : Keep (foldN s (ls.take (k + 1)) = (us ++ [s] ++ [x], true)) := ⟨by rw [HN.out]; unfold stepN; rw [if_neg (by simp), if_neg (by rw [hl]; simp), if_pos hne]⟩
            have hul : us.length ≤ 1048578 := by omega
            clear hxs
            go_wp2_with (first | (at_builtin; refine wpList_append_own _ rfl _ _ 69 rfl w.heap.size 9 i0 _ 1 16 Try.underlying69 hi hz0 hz1 hz2 rfl (by decide) _ _ _ rfl (hR2.row.alloc _) ⟨w2.heap.size, 0, none⟩ 1 1 [.string x] rfl rfl (cell_one_new _ _ _) (by simp [Value.oneCell']) (by unfold maxLen; omega) (by omega) (by have := hR2.bw.size; simp; omega) ?_; intro v3 w3 ho3 hg3 _; have hR3 := hR2.app (x := x) hg3 ho3) | (at_builtin; refine wpList_append_own _ rfl _ _ 69 rfl w.heap.size 9 i0 _ 1 16 Try.underlying69 hi hz0 hz1 hz2 rfl (by decide) _ _ _ rfl (hR.row.alloc _) ⟨wr.heap.size, 0, none⟩ 1 1 [.string s] rfl rfl (cell_one_new _ _ _) (by simp [Value.oneCell']) (by unfold maxLen; omega) (by omega) (by have := hR.bw.size; simp; omega) ?_; intro v2 w2 ho2 hg2 _; have hR2 := hR.app (x := s) hg2 ho2; have ck2 := hbm w2 hR2.bw; have hl2 : (us ++ [s]).length ≤ 1048579 := (by simp; omega)))
            go_roundw
            case rel => exact ⟨k + 1, by congr 1, by omega, by rw [HF.out], by rw [HF.out]; exact hR3⟩
            case measure => simp only [intOf]; omega
    · obtain rfl : k = ls.length := by omega
      rw [List.take_length] at hR hfl
      have HNL : Keep (nameL ls s = if (foldN s ls).2 = true then (foldN s ls).1 else (foldN s ls).1 ++ [s]) := ⟨rfl⟩
      rw [List.take_length]
      generalize foldN s ls = r at *
      obtain ⟨us, dn⟩ := r
      dsimp only at hR hfl HNL ⊢
      cases dn with
      | true =>
        rw [if_pos rfl] at HNL
        obtain ⟨ad, cp, rfl⟩ := owns_slice hR.row
        go_wp2
        go_ret
        rw [HNL.out]
        exact ⟨ad, cp, rfl, hR.row, hR.bw⟩
      | false =>
        rw [if_neg (by simp)] at HNL
        go_wp2_with (first | (at_builtin; refine wpList_append_own _ rfl _ _ 69 rfl w.heap.size 9 i0 _ 1 16 Try.underlying69 hi hz0 hz1 hz2 rfl (by decide) _ _ _ rfl (hR.row.alloc _) ⟨wr.heap.size, 0, none⟩ 1 1 [.string s] rfl rfl (cell_one_new _ _ _) (by simp [Value.oneCell']) (by unfold maxLen; omega) (by omega) (by have := hR.bw.size; simp; omega) ?_; intro v2 w2 ho2 hg2 _; have hR2 := hR.app (x := s) hg2 ho2))
        obtain ⟨ad, cp, rfl⟩ := owns_slice hR2.row
        go_ret
        rw [HNL.out]
        exact ⟨ad, cp, rfl, hR2.row, hR2.bw⟩
end Go.Proofs.Ytjlflmbifeocbaa

namespace Go.Proofs.Ytjlflmbifeocbaa
open Go.RowKit

def addP (l : List ByteArray) (ts : List En) : List ByteArray := (ts.map fun e => e.path).foldl nameL l
def pathsL (tss : List (List En)) : List ByteArray := tss.foldl addP []
theorem addP_take {l : List ByteArray} {ts : List En} {j : Nat} (hj : j < ts.length) : addP l (ts.take (j + 1)) = nameL (addP l (ts.take j)) ts[j].path := by
  unfold addP
  rw [List.take_succ_eq_append_getElem hj, List.map_append, List.foldl_append]
  rfl
theorem addP_len (l : List ByteArray) (ts : List En) : ∀ j, j ≤ ts.length → (addP l (ts.take j)).length ≤ l.length + j
  | 0, _ => by simp [addP]
  | j + 1, hj => by
    have h := addP_len l ts j (by omega)
    rw [addP_take (by omega)]
    have := nameL_len (addP l (ts.take j)) ts[j].path
    omega
theorem pathsL_take {tss : List (List En)} {k : Nat} (hk : k < tss.length) : pathsL (tss.take (k + 1)) = addP (pathsL (tss.take k)) tss[k] := by
  unfold pathsL
  rw [List.take_succ_eq_append_getElem hk, List.foldl_append]
  rfl
theorem addP_asc {l : List ByteArray} (hl : AscN l) : ∀ ts : List En, AscN (addP l ts) ∧ ∀ y, y ∈ addP l ts ↔ y ∈ l ∨ ∃ e ∈ ts, e.path = y := fun ts => by
  have key : ∀ j, j ≤ ts.length → AscN (addP l (ts.take j)) ∧ ∀ y, y ∈ addP l (ts.take j) ↔ y ∈ l ∨ ∃ e ∈ ts.take j, e.path = y := by
    intro j
    induction j with
    | zero => intro _; exact ⟨by simpa [addP] using hl, fun y => by simp [addP]⟩
    | succ j ih =>
      intro hj
      obtain ⟨h1, h2⟩ := ih (by omega)
      obtain ⟨h3, h4⟩ := nameL_asc (s := ts[j].path) h1
      rw [addP_take (by omega)]
      refine ⟨h3, fun y => ?_⟩
      rw [h4, h2, List.take_succ_eq_append_getElem (by omega)]
      constructor
      · rintro ((h | ⟨e, he, h⟩) | h)
        · exact .inl h
        · exact .inr ⟨e, List.mem_append.2 (.inl he), h⟩
        · exact .inr ⟨ts[j], List.mem_append.2 (.inr (by simp)), h.symm⟩
      · rintro (h | ⟨e, he, h⟩)
        · exact .inl (.inl h)
        · rcases List.mem_append.1 he with h5 | h5
          · exact .inl (.inr ⟨e, h5, h⟩)
          · rw [List.mem_singleton.1 h5] at h; exact .inr h.symm
  have h := key ts.length (Nat.le_refl _)
  rw [List.take_length] at h
  exact h

/-- Trees in a row of boxes. -/
def TsAt (w : World) (b off : Nat) (xs : List (Option Addr × Nat × List En)) : Prop :=
  ∀ i (h : i < xs.length), w.cell? ⟨b, off + i, none⟩ = some (.slice xs[i].1 xs[i].2.2.length xs[i].2.1) ∧ ES w xs[i].1 xs[i].2.2
theorem TsAt.below {w w' : World} {b off : Nat} {xs : List (Option Addr × Nat × List En)} (h : TsAt w b off xs) (hb : Below w.heap.size w w') : TsAt w' b off xs := fun i hi => ⟨cell_later hb (h i hi).1, (h i hi).2.below hb⟩
def tss (xs : List (Option Addr × Nat × List En)) : List (List En) := xs.map fun x => x.2.2

set_option maxRecDepth 100000 in
set_option maxHeartbeats 4000000 in
theorem l6Paths_any (b off cap : Nat) (xs : List (Option Addr × Nat × List En)) (w : World) (h : TsAt w b off xs) (hx : xs.length ≤ 10) (hn : ∀ x ∈ xs, x.2.2.length ≤ 1000) :
    Calls Try.prog 34 #[.slice (some ⟨b, off, none⟩) xs.length cap] w (NamesPost (pathsL (tss xs)) w) := by
  have hnil : NmR w (.slice (some ⟨w.heap.size, 0, none⟩) 0 0) [] (w.alloc (.cells #[] 9)) := ⟨⟨by simp, .inr ⟨w.heap.size, 0, #[], rfl, Nat.le_refl _, heap_alloc_new w _, Nat.le_refl _, by unfold maxLen; omega, rfl, by simp⟩⟩, (Below.refl _ _).alloc (Nat.le_refl _) _⟩
  have htl : (tss xs).length = xs.length := by simp [tss]
  go_enter Try.func34, Try.ntmps34
  go_wp2
  go_loopw [3, 4] (fun v i wr => ∃ k : Nat, i = .int .i64 k ∧ k ≤ xs.length ∧ NmR w v (pathsL ((tss xs).take k)) wr ∧ (pathsL ((tss xs).take k)).length ≤ 1000 * k) (fun _ i _ => xs.length - (intOf i).toNat)
  case atStart => exact ⟨0, rfl, Nat.zero_le _, hnil, Nat.zero_le _⟩
  case round =>
    obtain ⟨k, rfl, hk, hR, hle⟩ := hrel
    by_cases hlt : k < xs.length
    · have hlt' : (k : Int) < xs.length := by omega
      have HP : Keep (pathsL ((tss xs).take (k + 1)) = addP (pathsL ((tss xs).take k)) xs[k].2.2) := ⟨by rw [pathsL_take (by omega)]; congr 1; simp [tss]⟩
      have HT := fun W (hW : Below w.heap.size w W) => (h.below hW) k hlt
      have hnk := hn _ (List.getElem_mem hlt)
      generalize xs[k] = x at *
      obtain ⟨ad, cp, ts⟩ := x
      dsimp only at HP HT hnk
      generalize pathsL ((tss xs).take k) = acc at *
      have HHT : Keep (∀ W, Below w.heap.size w W → W.cell? ⟨b, off + k, none⟩ = some (.slice ad ts.length cp) ∧ ES W ad ts) := ⟨HT⟩
      have HX : Keep (TsAt w b off xs ∧ ∀ x ∈ xs, x.2.2.length ≤ 1000) := ⟨⟨h, hn⟩⟩
      clear HT hnil
      go_wp2
      go_loopw [3, 5] (fun v j wq => ∃ m : Nat, j = .int .i64 m ∧ m ≤ ts.length ∧ NmR w v (addP acc (ts.take m)) wq) (fun _ j _ => ts.length - (intOf j).toNat)
      case atStart => exact ⟨0, rfl, Nat.zero_le _, by simpa [addP] using hR⟩
      case round =>
        clear hR
        obtain ⟨m, rfl, hm, hR⟩ := hrel
        obtain ⟨hc, hE⟩ := HHT.out _ hR.bw
        have hal := addP_len acc ts m hm
        by_cases hml : m < ts.length
        · have hml' : (m : Int) < ts.length := by omega
          obtain ⟨b1, o1, rfl, hc1⟩ := hE.at hml
          obtain ⟨x0, _, _⟩ := hc1 m hml
          have HA : Keep (addP acc (ts.take (m + 1)) = nameL (addP acc (ts.take m)) ts[m].path) := ⟨addP_take hml⟩
          obtain ⟨ad2, cp2, rfl⟩ := owns_slice hR.row
          have hnm := l6Name_any ad2 cp2 (addP acc (ts.take m)) ts[m].path wr (ss_of_rowM hR.row) (by omega)
          generalize addP acc (ts.take m) = ls at *
          generalize ts[m].path = s at *
          clear hc1 hE
          go_wp2_with fail
          refine hnm.mono ?_
          rintro e w2 ⟨ad3, cp3, rfl, hrow, hb2⟩
          have hR2 : NmR w (.slice ad3 (nameL ls s).length cp3) (nameL ls s) w2 := ⟨by
            refine ⟨hrow.1, ?_⟩
            rcases hrow.2 with h' | ⟨g, cap', cur, hv, k1, k2⟩
            · exact .inl h'
            · exact .inr ⟨g, cap', cur, hv, Nat.le_trans hR.bw.size k1, k2⟩, hR.bw.trans (hb2.mono hR.bw.size)⟩
          clear hnm hrow hb2
          go_wp2
          go_roundw
          case rel => exact ⟨m + 1, by congr 1, by omega, by rw [HA.out]; exact hR2⟩
          case measure => simp only [intOf]; omega
        · obtain rfl : m = ts.length := by omega
          rw [List.take_length] at hR hal
          go_wp2
          go_roundw
          case rel => exact ⟨k + 1, by congr 1, by omega, by rw [HP.out]; exact hR, by rw [HP.out]; omega⟩
          case measure => simp only [intOf]; omega
    · obtain rfl : k = xs.length := by omega
      rw [List.take_of_length_le (by omega)] at hR
      obtain ⟨ad, cp, rfl⟩ := owns_slice hR.row
      go_wp2
      go_ret
      exact ⟨ad, cp, rfl, hR.row, hR.bw⟩
end Go.Proofs.Ytjlflmbifeocbaa

namespace Go.Proofs.Ytjlflmbifeocbaa
open Go.RowKit

def diffC (ts us : List En) (p : ByteArray) : Ch := ⟨p, atL ts p, atL us p⟩
def diffN (ts us : List En) (ns : List ByteArray) : List Ch := ns.flatMap fun p => if sameF (atL ts p) (atL us p) = true then [] else [diffC ts us p]
def diffL (ts us : List En) : List Ch := diffN ts us (pathsL [ts, us])
theorem diffN_take {ts us : List En} {ns : List ByteArray} {k : Nat} (hk : k < ns.length) : diffN ts us (ns.take (k + 1)) = diffN ts us (ns.take k) ++ (if sameF (atL ts ns[k]) (atL us ns[k]) = true then [] else [diffC ts us ns[k]]) := by
  unfold diffN
  rw [List.take_succ_eq_append_getElem hk, List.flatMap_append]
  simp
theorem diffN_len (ts us : List En) : ∀ ns : List ByteArray, (diffN ts us ns).length ≤ ns.length
  | [] => Nat.le_refl _
  | p :: ns => by
    have h := diffN_len ts us ns
    unfold diffN at h ⊢
    rw [List.flatMap_cons, List.length_append, List.length_cons]
    have h1 : (if sameF (atL ts p) (atL us p) = true then ([] : List Ch) else [diffC ts us p]).length ≤ 1 := by
      split
      · exact Nat.zero_le _
      · exact Nat.le_refl _
    omega
def DiffRel (ts us : List En) (cs : List Ch) : Prop := (ValidTs ts ∧ ValidTs us ∧ cs = diffL ts us) ∨ (¬ (ValidTs ts ∧ ValidTs us) ∧ cs = [])
def DiffPost (ts us : List En) (w : World) (e : Ending) (w' : World) : Prop :=
  ∃ cs, DiffRel ts us cs ∧ (∃ ad cap, e = .returned (.agg #[.slice ad cs.length cap]) ∧ CL w.heap.size w' ad cs) ∧ Below w.heap.size w w'

/-- What Diff gives, its room besides. -/
def DiffPostC (ts us : List En) (w : World) (e : Ending) (w' : World) : Prop :=
  ∃ cs, DiffRel ts us cs ∧ (∃ ad cap, e = .returned (.agg #[.slice ad cs.length cap]) ∧ CL w.heap.size w' ad cs ∧ cs.length ≤ cap) ∧ Below w.heap.size w w'

/-- A file in a box. -/
structure FBx (b : Nat) (f : Fl) (W : World) : Prop where
  c0 : W.cell? ⟨b, 0, none⟩ = some (.bool f.there)
  c1 : W.cell? ⟨b, 1, none⟩ = some (.string f.text)
  c2 : W.cell? ⟨b, 2, none⟩ = some (.bool f.runs)
  fz : ∀ j, W.frozen? ⟨b, j, none⟩ = false
theorem FBx.lt {b : Nat} {f : Fl} {W : World} (h : FBx b f W) : b < W.heap.size := World.block_lt_of_cell? W ⟨b, 0, none⟩ h.c0
theorem FBx.later {b : Nat} {f : Fl} {W W' : World} (h : FBx b f W) (hb : Below W.heap.size W W') : FBx b f W' :=
  ⟨cell_later hb h.c0, cell_later hb h.c1, cell_later hb h.c2, fun j => (hb.frozen (p := ⟨b, j, none⟩) h.lt).trans (h.fz j)⟩
def CutF (f : Fl) (W1 : World) (pv : Value) (W : World) : Prop := ∃ fb, pv = .pointer (some ⟨fb, 0, none⟩) ∧ FBx fb f W ∧ W1.heap.size ≤ fb ∧ Below W1.heap.size W1 W
theorem newF {Y X : World} {t : TypeId} (h : Below (Y.alloc (.cells #[.bool false, .string ⟨#[]⟩, .bool false] t)).drew.heap.size (Y.alloc (.cells #[.bool false, .string ⟨#[]⟩, .bool false] t)).drew X) : FBx Y.heap.size noFl X :=
  FBx.later (W := (Y.alloc (.cells #[.bool false, .string ⟨#[]⟩, .bool false] t)).drew) ⟨by simp [noFl], by simp [noFl], by simp [noFl], fun j => by simp⟩ h
theorem cutF_mk {W1 W : World} {f : Fl} (hb : Below W1.heap.size W1 W) : CutF f W1 (.pointer (some ⟨W.heap.size, 0, none⟩)) (W.alloc (.cells #[.bool f.there, .string f.text, .bool f.runs] 54)) :=
  ⟨_, rfl, ⟨by simp, by simp, by simp, fun j => by simp⟩, hb.size, hb.alloc hb.size _⟩
theorem cutF_mk' {W1 W : World} {f : Fl} {fb : Nat} (hb : Below W1.heap.size W1 W) (hn : FBx fb noFl W) (hl : W1.heap.size ≤ fb) : CutF f W1 (.pointer (some ⟨fb, 0, none⟩)) (((W.setCell ⟨fb, 0, none⟩ (.bool f.there)).setCell ⟨fb, 1, none⟩ (.string f.text)).setCell ⟨fb, 2, none⟩ (.bool f.runs)) := by
  have h0 : (W.setCell ⟨fb, 0, none⟩ (.bool f.there)).cell? ⟨fb, 0, none⟩ = some (.bool f.there) := World.cell?_setCell_same _ _ _ hn.c0
  have h1 : ((W.setCell ⟨fb, 0, none⟩ (.bool f.there)).setCell ⟨fb, 1, none⟩ (.string f.text)).cell? ⟨fb, 1, none⟩ = some (.string f.text) := World.cell?_setCell_same _ _ _ ((World.cell?_setCell_other _ _ _ _ (by simp)).trans hn.c1)
  have h2 : ((W.setCell ⟨fb, 0, none⟩ (.bool f.there)).setCell ⟨fb, 1, none⟩ (.string f.text)).cell? ⟨fb, 2, none⟩ = some (.bool noFl.runs) := (World.cell?_setCell_other _ _ _ _ (by simp)).trans ((World.cell?_setCell_other _ _ _ _ (by simp)).trans hn.c2)
  refine ⟨fb, rfl, ⟨?_, (World.cell?_setCell_other _ _ _ _ (by simp)).trans h1, World.cell?_setCell_same _ _ _ h2, fun j => (World.frozen?_setCell _ _ _ _).trans ((World.frozen?_setCell _ _ _ _).trans ((World.frozen?_setCell _ _ _ _).trans (hn.fz j)))⟩, hl, ((hb.setCell (p := ⟨fb, 0, none⟩) hl _).setCell (p := ⟨fb, 1, none⟩) hl _).setCell (p := ⟨fb, 2, none⟩) hl _⟩
  exact (World.cell?_setCell_other _ _ _ _ (by simp)).trans ((World.cell?_setCell_other _ _ _ _ (by simp)).trans h0)

set_option maxRecDepth 100000 in
set_option maxHeartbeats 16000000 in
theorem specDiffC_any (a b : Option Addr) (ca cb : Nat) (ts us : List En) (w : World) (hts : ES w a ts) (hus : ES w b us) (hn : ts.length ≤ 1048576) (hnb : us.length ≤ 1048576) :
    Calls Try.prog 8 #[.agg #[.slice a ts.length ca], .agg #[.slice b us.length cb]] w fun e w' => DiffPostC ts us w e w' := by
  obtain ⟨i0, hi, hz0, hz1, hzb⟩ := info_parts Try.infoChange
  have hal : Below w.heap.size w ((((w.alloc (.cells #[.slice a ts.length ca] 25)).alloc (.cells #[.slice b us.length cb] 25)).alloc (.cells #[.slice none 0 0] 30)).alloc (.cells #[.slice none 0 0] 30)) := ((((Below.refl _ _).alloc (Nat.le_refl _) _).alloc (by simp) _).alloc (by simp; omega) _).alloc (by simp; omega) _
  have m0 : ((((w.alloc (.cells #[.slice a ts.length ca] 25)).alloc (.cells #[.slice b us.length cb] 25)).alloc (.cells #[.slice none 0 0] 30)).alloc (.cells #[.slice none 0 0] 30)).cell? ⟨w.heap.size, 0, none⟩ = some (.slice a ts.length ca) := by simp [go_sem]
  have m1 : ((((w.alloc (.cells #[.slice a ts.length ca] 25)).alloc (.cells #[.slice b us.length cb] 25)).alloc (.cells #[.slice none 0 0] 30)).alloc (.cells #[.slice none 0 0] 30)).cell? ⟨w.heap.size + 1, 0, none⟩ = some (.slice b us.length cb) := by simp [go_sem]
  have k0 : ((((w.alloc (.cells #[.slice a ts.length ca] 25)).alloc (.cells #[.slice b us.length cb] 25)).alloc (.cells #[.slice none 0 0] 30)).alloc (.cells #[.slice none 0 0] 30)).cell? ⟨w.heap.size + 1 + 1, 0, none⟩ = some (.slice none 0 0) := by simp [go_sem]
  have kf : ((((w.alloc (.cells #[.slice a ts.length ca] 25)).alloc (.cells #[.slice b us.length cb] 25)).alloc (.cells #[.slice none 0 0] 30)).alloc (.cells #[.slice none 0 0] 30)).frozen? ⟨w.heap.size + 1 + 1, 0, none⟩ = false := by simp [go_sem]
  have o0 : ((((w.alloc (.cells #[.slice a ts.length ca] 25)).alloc (.cells #[.slice b us.length cb] 25)).alloc (.cells #[.slice none 0 0] 30)).alloc (.cells #[.slice none 0 0] 30)).cell? ⟨w.heap.size + 1 + 1 + 1, 0, none⟩ = some (.slice none 0 0) := by simp [go_sem]
  have of0 : ((((w.alloc (.cells #[.slice a ts.length ca] 25)).alloc (.cells #[.slice b us.length cb] 25)).alloc (.cells #[.slice none 0 0] 30)).alloc (.cells #[.slice none 0 0] 30)).frozen? ⟨w.heap.size + 1 + 1 + 1, 0, none⟩ = false := by simp [go_sem]
  have os0 : w.heap.size + 1 + 1 + 1 < ((((w.alloc (.cells #[.slice a ts.length ca] 25)).alloc (.cells #[.slice b us.length cb] 25)).alloc (.cells #[.slice none 0 0] 30)).alloc (.cells #[.slice none 0 0] 30)).heap.size := by simp [go_sem]
  go_enter Try.func8, Try.ntmps8
  go_upto_region 2 with fail
  generalize (((w.alloc (.cells #[.slice a ts.length ca] 25)).alloc (.cells #[.slice b us.length cb] 25)).alloc (.cells #[.slice none 0 0] 30)).alloc (.cells #[.slice none 0 0] 30) = W at *
  obtain ⟨ob, hob⟩ : ∃ ob, ob = w.heap.size + 1 + 1 + 1 := ⟨_, rfl⟩
  obtain ⟨g, hg⟩ : ∃ g, g = w.heap.size + 1 + 1 := ⟨_, rfl⟩
  obtain ⟨tb, htb⟩ : ∃ tb, tb = w.heap.size + 1 := ⟨_, rfl⟩
  obtain ⟨ta, hta⟩ : ∃ ta, ta = w.heap.size := ⟨_, rfl⟩
  rw [← hob] at o0 of0 os0 ⊢
  rw [← hg] at k0 kf ⊢
  rw [← htb] at m1 ⊢
  rw [← hta] at m0 ⊢
  have HS : Keep (ta = w.heap.size ∧ tb = w.heap.size + 1 ∧ g = w.heap.size + 2 ∧ ob = w.heap.size + 3) := ⟨by omega⟩
  clear hob hg htb hta
  -- whether both are valid
  go_cut [18] (fun v wx => ∃ nb : Bool, v = .bool nb ∧ Keep (nb = false ↔ ValidTs ts ∧ ValidTs us) ∧ Below W.heap.size W wx)
  case first =>
    go_wp2_with fail
    refine (specTree_any a ca ts W (hts.below hal) hn).mono ?_
    rintro e w1 ⟨va, rfl, hva, hb1⟩
    have m1' := cell_later hb1 m1
    cases va with
    | false =>
      have HV : Keep ((true = false) ↔ ValidTs ts ∧ ValidTs us) := ⟨⟨fun h => (by cases h), fun h => (by have := hva.2 h.1; cases this)⟩⟩
      clear hva
      go_wp2_with fail
      go_meet
      case rel => exact ⟨true, rfl, HV, hb1⟩
    | true =>
      have HV : Keep (ValidTs ts) := ⟨hva.1 rfl⟩
      clear hva
      go_wp2_with fail
      refine (specTree_any b cb us w1 ((hus.below hal).below hb1) hnb).mono ?_
      rintro e w2 ⟨vb, rfl, hvb, hb2⟩
      have HV2 : Keep ((!vb) = false ↔ ValidTs ts ∧ ValidTs us) := ⟨⟨fun h => ⟨HV.out, hvb.1 (by simpa using h)⟩, fun h => by rw [hvb.2 h.2]; rfl⟩⟩
      clear hvb
      go_wp2_with fail
      go_meet
      case rel => exact ⟨_, rfl, HV2, hb1.trans (hb2.mono hb1.size)⟩
  case rest =>
    obtain ⟨nb, rfl, HV, hb1⟩ := hcut
    replace m0 := cell_later hb1 m0
    replace m1 := cell_later hb1 m1
    replace k0 := cell_later hb1 k0
    replace o0 := cell_later hb1 o0
    have hWs : g < W.heap.size := by have := HS.out; omega
    replace kf : wc.frozen? ⟨g, 0, none⟩ = false := (hb1.frozen (p := ⟨g, 0, none⟩) hWs).trans kf
    replace of0 : wc.frozen? ⟨ob, 0, none⟩ = false := (hb1.frozen (p := ⟨ob, 0, none⟩) os0).trans of0
    have os1 : ob < wc.heap.size := Nat.lt_of_lt_of_le os0 hb1.size
    have hbw := hal.trans (hb1.mono hal.size)
    have hE1 := hts.below hbw
    have hE2 := hus.below hbw
    clear hb1 hal os0 hWs
    cases nb with
    | true =>
      have hnv : ¬ (ValidTs ts ∧ ValidTs us) := fun h => by have := HV.out.2 h; cases this
      go_wp2
      refine bodyPost_ret (v := .agg #[.slice none ([] : List Ch).length 0]) ?_ rfl ⟨[], .inr ⟨hnv, rfl⟩, ⟨none, 0, rfl, CL.nil _ _ _, Nat.le_refl _⟩, hbw.setCell (p := ⟨g, 0, none⟩) (by have := HS.out; show _ ≤ g; omega) _⟩
      go_light
      simp [results, Try.results8, go_sem, k0]
    | false =>
      have hv := HV.out.1 rfl
      have ht100 : ts.length ≤ 100 := hv.1.1
      have hu100 : us.length ≤ 100 := hv.2.1
      have hba := (Below.refl wc.heap.size wc).alloc (Nat.le_refl _) (.cells #[.slice a ts.length ca, .slice b us.length cb] 25)
      have hTs : TsAt (wc.alloc (.cells #[.slice a ts.length ca, .slice b us.length cb] 25)) wc.heap.size 0 [(a, ca, ts), (b, cb, us)] := fun i hi => by
        match i, hi with
        | 0, _ => exact ⟨by simp, hE1.below hba⟩
        | 1, _ => exact ⟨by simp, hE2.below hba⟩
      have hpl := l6Paths_any wc.heap.size 0 2 [(a, ca, ts), (b, cb, us)] _ hTs (by simp) (fun x hx => by
        rcases List.mem_cons.1 hx with rfl | hx
        · show ts.length ≤ _; omega
        · rw [List.mem_singleton.1 hx]; show us.length ≤ _; omega)
      have hlen : (pathsL [ts, us]).length ≤ 200 := by
        have h1 := addP_len [] ts ts.length (Nat.le_refl _)
        have h2 := addP_len (addP [] ts) us us.length (Nat.le_refl _)
        rw [List.take_length] at h1 h2
        show (addP (addP [] ts) us).length ≤ 200
        simp at h1
        omega
      obtain ⟨ns, hns⟩ : ∃ ns, ns = pathsL [ts, us] := ⟨_, rfl⟩
      have HNS : Keep (ns = pathsL [ts, us]) := ⟨hns⟩
      rw [← hns] at hlen
      have hpl2 : Calls Try.prog 34 #[.slice (some ⟨wc.heap.size, 0, none⟩) 2 2] (wc.alloc (.cells #[.slice a ts.length ca, .slice b us.length cb] 25)) (NamesPost ns (wc.alloc (.cells #[.slice a ts.length ca, .slice b us.length cb] 25))) := by rw [hns]; exact hpl
      clear hns hpl hTs
      go_wp2_with fail
      refine hpl2.mono ?_
      rintro e W0 ⟨an, cn, rfl, hrow, hb2⟩
      have hb3 := hba.trans (hb2.mono hba.size)
      have hbw2 := hbw.trans (hb3.mono hbw.size)
      obtain ⟨ng, HNG⟩ : ∃ ng, Keep (∀ k (h : k < ns.length), an = some ⟨ng, 0, none⟩ ∧ W0.cell? ⟨ng, k, none⟩ = some (.string ns[k])) := by
        by_cases h0 : ns = []
        · exact ⟨0, ⟨fun k hk => by rw [h0] at hk; simp at hk⟩⟩
        · obtain ⟨ng, c, hv2, _⟩ := hrow.form (List.length_pos_iff.2 h0)
          cases hv2
          exact ⟨ng, ⟨fun k hk => ⟨rfl, by rw [hrow.cellAt k (by simpa using hk), List.getElem?_map, List.getElem?_eq_getElem hk]; rfl⟩⟩⟩
      replace m0 := cell_later hb3 m0
      replace m1 := cell_later hb3 m1
      replace k0 := cell_later hb3 k0
      replace kf : W0.frozen? ⟨g, 0, none⟩ = false := (hb3.frozen (p := ⟨g, 0, none⟩) (by have := HS.out; show g < _; omega)).trans kf
      have hst0 := OutCh.start (cell_later hb3 o0) ((hb3.frozen (p := ⟨ob, 0, none⟩) os1).trans of0) (Nat.lt_of_lt_of_le os1 hb3.size)
      have HZ : Keep (ob < W0.heap.size ∧ ∀ k (h : k < ns.length), ng < W0.heap.size ∧ ng ≠ ob) := ⟨⟨Nat.lt_of_lt_of_le os1 hb3.size, fun k hk => by
        have h1 := World.block_lt_of_cell? W0 ⟨ng, k, none⟩ (HNG.out k hk).2
        refine ⟨h1, ?_⟩
        obtain ⟨g9, c9, hv9, hlo9, _⟩ := hrow.form (by omega)
        obtain ⟨rfl, _⟩ := HNG.out k hk
        cases hv9
        have h2 : wc.heap.size + 1 ≤ ng := by simpa using hlo9
        omega⟩⟩
      clear o0 of0 os1 hb2 hb3 hba hE1 hE2 hrow hbw hpl2
      go_wp2
      go_loopw [7] (fun i wr => ∃ (k : Nat) (v : Value), i = .int .i64 k ∧ k ≤ ns.length ∧ OutCh ob W0 v (diffN ts us (ns.take k)) wr) (fun i _ => ns.length - (intOf i).toNat)
      case atStart => exact ⟨0, _, rfl, Nat.zero_le _, hst0⟩
      case round =>
        clear hst0
        obtain ⟨k, v, rfl, hk, hst⟩ := hrel
        have hbr := hst.below hbw2 (by have := HS.out; omega)
        by_cases hlt : k < ns.length
        · have hlt' : (k : Int) < ns.length := by omega
          have hz := HZ.out.2 k hlt
          obtain ⟨rfl, hnk⟩ := HNG.out k hlt
          have HTk : Keep (diffN ts us (ns.take (k + 1)) = diffN ts us (ns.take k) ++ (if sameF (atL ts ns[k]) (atL us ns[k]) = true then [] else [diffC ts us ns[k]])) := ⟨diffN_take hlt⟩
          have hdl : (diffN ts us (ns.take k)).length ≤ 200 := by have := diffN_len ts us (ns.take k); simp at this; omega
          have t1 := hst.keep m0 (by have := HS.out; have := HZ.out.1; omega) (by have := HS.out; omega)
          have t2 := hst.keep m1 (by have := HS.out; have := HZ.out.1; omega) (by have := HS.out; omega)
          have nk := hst.keep hnk hz.1 hz.2
          generalize diffN ts us (ns.take k) = cs at *
          obtain ⟨s, hs⟩ : ∃ s, s = ns[k] := ⟨_, rfl⟩
          rw [← hs] at nk HTk
          unfold diffC at HTk
          obtain ⟨f1, hf1⟩ : ∃ f1, f1 = atL ts s := ⟨_, rfl⟩
          obtain ⟨f2, hf2⟩ : ∃ f2, f2 = atL us s := ⟨_, rfl⟩
          have HA1 : Keep (∀ X, Below wr.heap.size wr X → Calls Try.prog 35 #[.agg #[.slice a ts.length ca], .string s] X fun e w' => e = .returned (.agg #[.bool f1.there, .string f1.text, .bool f1.runs]) ∧ Below X.heap.size X w') := ⟨fun X hX => by rw [hf1]; exact l6At_any a ca ts s X ((hts.below hbr).below hX) (by omega)⟩
          have HA2 : Keep (∀ X, Below wr.heap.size wr X → Calls Try.prog 35 #[.agg #[.slice b us.length cb], .string s] X fun e w' => e = .returned (.agg #[.bool f2.there, .string f2.text, .bool f2.runs]) ∧ Below X.heap.size X w') := ⟨fun X hX => by rw [hf2]; exact l6At_any b cb us s X ((hus.below hbr).below hX) (by omega)⟩
          rw [← hf1, ← hf2] at HTk
          clear hs hf1 hf2 hnk hz
          have kq : ∀ {W W' : World}, Below wr.heap.size wr W → Below W.heap.size W W' → Below wr.heap.size wr W' := fun h h' => h.trans (h'.mono h.size)
          have q0 : Below wr.heap.size wr wr.drew := (Below.refl _ _).drew
          have qa := ((Below.refl wr.heap.size wr).alloc (Nat.le_refl _) (.cells #[.bool false, .string ⟨#[]⟩, .bool false] 54)).drew
          go_upto_region 8 with fail
          go_cut [8] from 24 to 56 (fun pv wx => CutF f1 wr pv wx)
          case first =>
            have t1a : ∀ o, (wr.alloc o).cell? ⟨ta, 0, none⟩ = some (.slice a ts.length ca) := fun o => cell_later ((Below.refl _ _).alloc (Nat.le_refl _) o) t1
            have nka : ∀ o, (wr.alloc o).cell? ⟨ng, k, none⟩ = some (.string s) := fun o => cell_later ((Below.refl _ _).alloc (Nat.le_refl _) o) nk
            go_region_with (go_at_call 35; refine (HA1.out _ ?_).mono ?_; (first | with_reducible exact q0 | with_reducible exact qa); rintro e wG ⟨rfl, hbG⟩; (try (with_reducible have N := newF hbG; have n0 := N.c0; have n1 := N.c1; have n2 := N.c2; have nf := N.fz)))
            all_goals
              go_wp2_with fail
              go_meet
              case rel =>
                first
                  | exact cutF_mk (kq q0 hbG)
                  | exact cutF_mk' (kq qa hbG) N (Nat.le_refl _)
          case rest =>
            obtain ⟨fb, rfl, hF, hfb, hB1⟩ := hcut
            clear q0 qa
            generalize hwd : wc = wd at *
            clear hwd
            have t2w := cell_later hB1 t2
            have nkw := cell_later hB1 nk
            have q0 : Below wr.heap.size wr wd.drew := hB1.drew
            have qa := (hB1.alloc hB1.size (.cells #[.bool false, .string ⟨#[]⟩, .bool false] 54)).drew
            have q1 : Below wd.heap.size wd wd.drew := (Below.refl _ _).drew
            have q2 := ((Below.refl wd.heap.size wd).alloc (Nat.le_refl _) (.cells #[.bool false, .string ⟨#[]⟩, .bool false] 54)).drew
            go_upto_region 9 with fail
            go_cut [9] from 24 to 56 (fun pv wx => CutF f2 wd pv wx)
            case first =>
              have t2a : ∀ o, (wd.alloc o).cell? ⟨tb, 0, none⟩ = some (.slice b us.length cb) := fun o => cell_later ((Below.refl _ _).alloc (Nat.le_refl _) o) t2w
              have nka : ∀ o, (wd.alloc o).cell? ⟨ng, k, none⟩ = some (.string s) := fun o => cell_later ((Below.refl _ _).alloc (Nat.le_refl _) o) nkw
              go_region_with (go_at_call 35; refine (HA2.out _ ?_).mono ?_; (first | with_reducible exact q0 | with_reducible exact qa); rintro e wG ⟨rfl, hbG⟩; (try (with_reducible have N := newF hbG; have n0 := N.c0; have n1 := N.c1; have n2 := N.c2; have nf := N.fz)))
              all_goals
                go_wp2_with fail
                go_meet
                case rel =>
                  first
                    | exact cutF_mk (q1.trans (hbG.mono q1.size))
                    | exact cutF_mk' (q2.trans (hbG.mono q2.size)) N (Nat.le_refl _)
            case rest =>
              obtain ⟨gb, rfl, hG, hgb, hB2⟩ := hcut
              have hF2 := hF.later hB2
              have hB3 : Below wr.heap.size wr wc := kq hB1 hB2
              have hst2 := hst.later hB3
              have nk2 := cell_later hB3 nk
              clear t1 t2 t2w nk nkw q0 qa q1 q2 hF hB1 hB2 HA1 HA2 kq hbr hst
              obtain ⟨x1, x2, x3⟩ := f1
              obtain ⟨y1, y2, y3⟩ := f2
              obtain ⟨p0, p1, p2, _⟩ := hF2
              obtain ⟨g0, g1, g2, _⟩ := hG
              dsimp only at p0 p1 p2 g0 g1 g2
              cases hsm : sameF ⟨x1, x2, x3⟩ ⟨y1, y2, y3⟩ with
              | true =>
                have HT2 : Keep (diffN ts us (ns.take (k + 1)) = cs) := ⟨by rw [HTk.out, if_pos hsm, List.append_nil]⟩
                obtain ⟨⟨rfl, h2⟩, rfl⟩ : (x1 = y1 ∧ x2.toList = y2.toList) ∧ x3 = y3 := by simpa [sameF] using hsm
                obtain rfl : x2 = y2 := WideShapes.bytes_inj (by rw [← Lib.toList_data, ← Lib.toList_data]; exact h2)
                clear hsm h2 HTk
                go_wp2
                go_roundw
                case rel => exact ⟨k + 1, v, by congr 1, hlt, by rw [HT2.out]; exact hst2⟩
                case measure => simp only [intOf]; omega
              | false =>
                have HT2 : Keep (diffN ts us (ns.take (k + 1)) = cs ++ [⟨s, ⟨x1, x2, x3⟩, ⟨y1, y2, y3⟩⟩]) := ⟨by rw [HTk.out, if_neg (by rw [hsm]; simp)]⟩
                clear HTk
                go_upto_region 10 with fail
                go_cut [44] from 24 to 56 (fun x wx => x = .bool true ∧ wc = wx)
                case first =>
                  by_cases h1 : x1 = y1
                  · by_cases h2 : x2.toList = y2.toList
                    · by_cases h3 : x3 = y3
                      · exfalso
                        rw [Bool.eq_false_iff] at hsm
                        exact hsm (by simp [sameF, h1, h2, h3])
                      · go_wp2_with fail
                        go_meet
                        case rel => exact ⟨rfl, rfl⟩
                    · go_wp2_with fail
                      go_meet
                      case rel => exact ⟨rfl, rfl⟩
                  · go_wp2_with fail
                    go_meet
                    case rel => exact ⟨rfl, rfl⟩
                case rest =>
                  obtain ⟨rfl, rfl⟩ := hcut
                  clear hsm
                  obtain ⟨ad9, cp9, rfl⟩ := owns_slice hst2.row
                  have hb1 : Below wc.heap.size wc (wc.alloc (.cells #[.string s, .bool x1, .string x2, .bool x3, .bool y1, .string y2, .bool y3] 68)).drew := ((Below.refl _ _).alloc (Nat.le_refl _) _).drew
                  have o1 := hst2.cell
                  have o1a : ∀ o, (wc.alloc o).cell? ⟨ob, 0, none⟩ = some (.slice ad9 cs.length cp9) := fun o => cell_later ((Below.refl _ _).alloc (Nat.le_refl _) o) o1
                  have HST : Keep (OutCh ob W0 (.slice ad9 cs.length cp9) cs wc) := ⟨hst2⟩
                  have hgs := hst2.grown.size
                  clear hst2
                  go_upto_region 11 with fail
                  go_region_law (refine step_append_lies _ rfl _ _ 28 rfl W0.heap.size 68 i0 _ 7 80 Try.underlying28 hi hz0 hz1 hzb rfl (by decide) (.slice ad9 cs.length cp9) cs.length (ccells cs) rfl (by exact owns_below HST.out.row hb1) ⟨wc.heap.size, 0, none⟩ 1 1 (chL ⟨s, ⟨x1, x2, x3⟩, ⟨y1, y2, y3⟩⟩) rfl rfl (by exact news_7 wc ⟨s, ⟨x1, x2, x3⟩, ⟨y1, y2, y3⟩⟩ _ _ rfl) (by exact one_7 _) (by omega) (by unfold maxLen; omega) (by omega) (by simp; omega) (wc.heap.size + 1) (by simp) ?_; intro g3 cap3 w7 hown3 hgrow3 hat3 hlt3; have hm3 := HST.out.mid hb1 hgrow3; have oc3 := hm3.1; have of3 := hm3.2)
                  all_goals
                    have hst3 := HST.out.append hb1 hgrow3 hown3
                    clear hm3 oc3 of3 hgrow3 hown3 hat3 hlt3 o1 o1a p0 p1 p2 g0 g1 g2 nk2 HST
                    go_wp2
                    go_roundw
                    case rel => exact ⟨k + 1, _, by congr 1, hlt, by rw [HT2.out]; exact hst3⟩
                    case measure => simp only [intOf]; omega
        · obtain rfl : k = ns.length := by omega
          rw [List.take_length] at hst
          have r2 := hst.keep k0 (by have := HS.out; have := HZ.out.1; omega) (by have := HS.out; omega)
          have rf2 : wr.frozen? ⟨g, 0, none⟩ = false := frozen_of (hst.grown.block g (by have := HS.out; have := HZ.out.1; omega) (fun e => by have := HS.out; cases e; omega)) kf
          obtain ⟨ad, cap2, rfl⟩ := owns_slice hst.row
          have HRM : Keep ((diffN ts us ns).length ≤ cap2) := ⟨row_roomO hst.row⟩
          have o2 := hst.cell
          have hcl := cl_of_row hst.row
          have hcl2 : CL w.heap.size (wr.setCell ⟨g, 0, none⟩ (.slice ad (diffN ts us ns).length cap2)) ad (diffN ts us ns) := (hcl.grown (row := some g) (grown_set0 wr g 0 (.slice ad (diffN ts us ns).length cap2)) (fun j _ hj _ e => by have := HS.out; have := HZ.out.1; cases e; omega)).mono (show w.heap.size ≤ W0.heap.size by have := HS.out; have := HZ.out.1; omega)
          have HB : Keep (Below w.heap.size w (wr.setCell ⟨g, 0, none⟩ (.slice ad (diffN ts us ns).length cap2))) := ⟨hbr.setCell (p := ⟨g, 0, none⟩) (by have := HS.out; show _ ≤ g; omega) _⟩
          have HCL : Keep (CL w.heap.size (wr.setCell ⟨g, 0, none⟩ (.slice ad (diffN ts us ns).length cap2)) ad (diffN ts us ns)) := ⟨hcl2⟩
          have HR : Keep (DiffRel ts us (diffN ts us ns)) := ⟨.inl ⟨hv.1, hv.2, by rw [HNS.out]; rfl⟩⟩
          clear hcl hcl2 hst hbr
          generalize diffN ts us ns = cs at *
          go_wp2
          refine bodyPost_ret (v := .agg #[.slice ad cs.length cap2]) ?_ rfl ⟨cs, HR.out, ⟨ad, cap2, rfl, HCL.out, HRM.out⟩, HB.out⟩
          go_light
          simp [results, Try.results8, go_sem, r2]
theorem specDiff_any (a b : Option Addr) (ca cb : Nat) (ts us : List En) (w : World) (hts : ES w a ts) (hus : ES w b us) (hn : ts.length ≤ 1048576) (hnb : us.length ≤ 1048576) :
    Calls Try.prog 8 #[.agg #[.slice a ts.length ca], .agg #[.slice b us.length cb]] w fun e w' => DiffPost ts us w e w' :=
  (specDiffC_any a b ca cb ts us w hts hus hn hnb).mono (fun _ _ ⟨cs, h1, ⟨ad, cap, h2, h3, _⟩, h4⟩ => ⟨cs, h1, ⟨ad, cap, h2, h3⟩, h4⟩)
end Go.Proofs.Ytjlflmbifeocbaa

namespace Go.Proofs.Ytjlflmbifeocbaa
open Go.RowKit

def treF (lo : Nat) (v : Value) (w : World) : Prop := ∃ ad cap us, v = .agg #[.slice ad (List.length us) cap] ∧ EL lo w ad us ∧ us.length ≤ 103 ∧ Tiny 100 1620 us
def patQ (ts : List En) (lo : Nat) (ad : Option Addr) (cap : Nat) (cs : List Ch) (w : World) : Prop := CL lo w ad cs ∧ cs.length ≤ cap ∧ ∃ us, DiffRel ts us cs ∧ us.length ≤ 103 ∧ Tiny 100 1620 us
def patF (ts : List En) (lo : Nat) (v : Value) (w : World) : Prop := ∃ ad cap cs, v = .agg #[.slice ad (List.length cs) cap] ∧ patQ ts lo ad cap cs w
theorem treF.on {lo k : Nat} {v : Value} {w w' : World} (h : treF lo v w) (hg : w.grownBy w' (some k)) (hk : k < lo) : treF lo v w' := by
  obtain ⟨ad, cap, us, h1, h2, h3⟩ := h
  exact ⟨ad, cap, us, h1, h2.grown hg (fun j _ hj _ e => by cases e; omega), h3⟩
theorem patQ.on {ts : List En} {lo k : Nat} {ad : Option Addr} {cap : Nat} {cs : List Ch} {w w' : World} (h : patQ ts lo ad cap cs w) (hg : w.grownBy w' (some k)) (hk : k < lo) : patQ ts lo ad cap cs w' :=
  ⟨h.1.grown hg (fun j _ hj _ e => by cases e; omega), h.2⟩
theorem patF.on {ts : List En} {lo k : Nat} {v : Value} {w w' : World} (h : patF ts lo v w) (hg : w.grownBy w' (some k)) (hk : k < lo) : patF ts lo v w' := by
  obtain ⟨ad, cap, cs, h1, h2⟩ := h
  exact ⟨ad, cap, cs, h1, h2.on hg hk⟩
/-- What stands: the reader (one call turns it: mc), what is handed back (s2, s3). -/
def IQ (mc s2 s3 P0 : Nat) (w : World) (g r2 r3 b4 : Nat) (a : Option Addr) (cap : Nat) (zs : List Int) (t : Tr) (L : Array Bool) (W : World) : Prop :=
  ∃ p u3, (p ≤ P0 ∨ (L.getD mc false = true ∧ p ≤ P0 + 200)) ∧ Q6 w g r2 r3 b4 a cap zs p t (rcV (L.getD s2 false) t) u3 W ∧ ((L.getD s3 false = false ∧ u3 = .slice none 0 0) ∨ (L.getD s3 false = true ∧ ∃ ad cp cs, u3 = .slice ad (List.length cs) cp ∧ patQ t.ts (b4 + 1) ad cp cs W))
section
variable {mc s2 s3 P0 : Nat} {w : World} {g r2 r3 b4 : Nat} {a : Option Addr} {cap : Nat} {zs : List Int} {t : Tr} {L : Array Bool} {W W' : World} {i : Nat}
theorem IQ.keep (h : IQ mc s2 s3 P0 w g r2 r3 b4 a cap zs t L W) (h1 : i ≠ mc) (h2 : i ≠ s2) (h3 : i ≠ s3) (hb : Below W.heap.size W W') : IQ mc s2 s3 P0 w g r2 r3 b4 a cap zs t (L.setIfInBounds i true) W' := by
  obtain ⟨p, u3, hp, hq, hu⟩ := h
  have o := hq.ord
  refine ⟨p, u3, ?_, ?_, ?_⟩
  · rw [getD_set_ne false h1]; exact hp
  · rw [getD_set_ne false h2]; exact hq.later hb
  · rw [getD_set_ne false h3]
    rcases hu with hu | ⟨h4, ad, cp, cs, h5, h6⟩
    · exact .inl hu
    · exact .inr ⟨h4, ad, cp, cs, h5, h6.on (k := g) (gr_below hb) (by omega)⟩
theorem IQ.draw (h : IQ mc s2 s3 P0 w g r2 r3 b4 a cap zs t L W) (h2 : mc ≠ s2) (h3 : mc ≠ s3) (hL : L.getD mc true = false) : ∃ p, p ≤ P0 ∧ Rd W g a cap zs p ∧ ∀ (W' : World) (p' : Nat), p' ≤ P0 + 200 → W.grownBy W' (some g) → Rd W' g a cap zs p' → IQ mc s2 s3 P0 w g r2 r3 b4 a cap zs t (L.setIfInBounds mc true) W' := by
  obtain ⟨p, u3, hp, hq, hu⟩ := h
  have o := hq.ord
  have g1 : (L.setIfInBounds mc true).getD mc false = true := by
    have h1 := getD_false hL
    have h2 : mc < L.size := by simpa using (List.getElem?_eq_some_iff.1 h1).1
    rw [Array.getD_eq_getD_getElem?, Array.getElem?_setIfInBounds_self_of_lt h2]
    rfl
  refine ⟨p, ?_, hq.rd, fun W' p' hp' hg hR => ⟨p', u3, .inr ⟨g1, hp'⟩, ?_, ?_⟩⟩
  · rcases hp with hp | ⟨hp, _⟩
    · exact hp
    · rw [getD_ft hL] at hp; cases hp
  · rw [getD_set_ne false h2]; exact hq.step hg hR
  · rw [getD_set_ne false h3]
    rcases hu with hu | ⟨h4, ad, cp, cs, h5, h6⟩
    · exact .inl hu
    · exact .inr ⟨h4, ad, cp, cs, h5, h6.on hg (by omega)⟩
theorem IQ.st2 (h : IQ mc s2 s3 P0 w g r2 r3 b4 a cap zs t L W) (h1 : s2 ≠ mc) (h3 : s2 ≠ s3) (hL : L.getD s2 true = false) : IQ mc s2 s3 P0 w g r2 r3 b4 a cap zs t (L.setIfInBounds s2 true) (W.setCell ⟨r2, 0, none⟩ (.slice t.ad t.ts.length t.cp)) := by
  obtain ⟨p, u3, hp, hq, hu⟩ := h
  have o := hq.ord
  have g1 : (L.setIfInBounds s2 true).getD s2 false = true := by
    have h1 := getD_false hL
    have h2 : s2 < L.size := by simpa using (List.getElem?_eq_some_iff.1 h1).1
    rw [Array.getD_eq_getD_getElem?, Array.getElem?_setIfInBounds_self_of_lt h2]
    rfl
  refine ⟨p, u3, ?_, ?_, ?_⟩
  · rw [getD_set_ne false h1]; exact hp
  · rw [g1]; exact hq.set2 _
  · rw [getD_set_ne false h3]
    rcases hu with hu | ⟨h4, ad, cp, cs, h5, h6⟩
    · exact .inl hu
    · exact .inr ⟨h4, ad, cp, cs, h5, h6.on (grown_set0 W r2 0 _) (by omega)⟩
theorem IQ.st3 (h : IQ mc s2 s3 P0 w g r2 r3 b4 a cap zs t L W) (h1 : s3 ≠ mc) (h2 : s3 ≠ s2) (hL : L.getD s3 true = false) {ad : Option Addr} {cp : Nat} {cs : List Ch} (hc : patQ t.ts (b4 + 1) ad cp cs W) : IQ mc s2 s3 P0 w g r2 r3 b4 a cap zs t (L.setIfInBounds s3 true) (W.setCell ⟨r3, 0, none⟩ (.slice ad cs.length cp)) := by
  obtain ⟨p, u3, hp, hq, hu⟩ := h
  have o := hq.ord
  have g1 : (L.setIfInBounds s3 true).getD s3 false = true := by
    have h1 := getD_false hL
    have h2 : s3 < L.size := by simpa using (List.getElem?_eq_some_iff.1 h1).1
    rw [Array.getD_eq_getD_getElem?, Array.getElem?_setIfInBounds_self_of_lt h2]
    rfl
  refine ⟨p, _, ?_, ?_, .inr ⟨g1, ad, cp, cs, rfl, hc.on (grown_set0 W r3 0 _) (by omega)⟩⟩
  · rw [getD_set_ne false h1]; exact hp
  · rw [getD_set_ne false h2]; exact hq.set3 _
theorem IQ.ox (h : IQ mc s2 s3 P0 w g r2 r3 b4 a cap zs t L W) : TX [g, r2, r3, b4] b4 t W ∧ (W.cell? ⟨r2, 0, none⟩ = some (rcV (L.getD s2 false) t) ∧ W.frozen? ⟨r2, 0, none⟩ = false) ∧ (L.getD s3 false = false → W.cell? ⟨r3, 0, none⟩ = some (.slice none 0 0)) ∧ W.frozen? ⟨r3, 0, none⟩ = false ∧ b4 + 1 ≤ W.heap.size := by
  obtain ⟨p, u3, hp, hq, hu⟩ := h
  refine ⟨hq.x4, ⟨hq.c2, hq.f2⟩, fun h0 => ?_, hq.f3, hq.x4.lt⟩
  rcases hu with ⟨_, rfl⟩ | ⟨h4, _⟩
  · exact hq.c3
  · rw [h0] at h4; cases h4
end
/-- What l6Draw gives. -/
def Drawn6 (g : Nat) (a : Option Addr) (cap : Nat) (zs : List Int) (K p : Nat) (w : World) (e : Ending) (w' : World) : Prop :=
  ∃ (t : Tr) (adp : Option Addr) (cpp : Nat) (cs : List Ch), e = .returned (.tuple #[.agg #[.slice t.ad t.ts.length t.cp], .agg #[.slice adp cs.length cpp]]) ∧ EL w.heap.size w' t.ad t.ts ∧ t.ts.length ≤ t.cp ∧ t.ts.length ≤ 100 ∧ Asc t.ts ∧ Tiny 40 20 t.ts ∧ NilOk t.ad t.cp ∧ patQ t.ts w.heap.size adp cpp cs w' ∧ Dr g a cap zs w w' p K
theorem IQ.fin {mc s2 s3 P0 p0 : Nat} {w : World} {g r2 r3 b4 : Nat} {a : Option Addr} {cap : Nat} {zs : List Int} {t : Tr} {L : Array Bool} {W : World} (h : IQ mc s2 s3 P0 w g r2 r3 b4 a cap zs t L W) (h2 : L.getD s2 false = true) (h3 : L.getD s3 false = true) (hP : P0 ≤ p0 + 300) (hn : t.ts.length ≤ 100) (hA : Asc t.ts) (hT : Tiny 40 20 t.ts) (hN : NilOk t.ad t.cp) :
    ∃ (adp : Option Addr) (cpp : Nat) (cs : List Ch), W.cell? ⟨r2, 0, none⟩ = some (.slice t.ad t.ts.length t.cp) ∧ W.cell? ⟨r3, 0, none⟩ = some (.slice adp (List.length cs) cpp) ∧ Drawn6 g a cap zs 500 p0 w (.returned (.tuple #[.agg #[.slice t.ad t.ts.length t.cp], .agg #[.slice adp cs.length cpp]])) W := by
  obtain ⟨p, u3, hp, hq, hu⟩ := h
  have o := hq.ord
  rcases hu with ⟨h0, _⟩ | ⟨_, adp, cpp, cs, rfl, hc⟩
  · rw [h3] at h0; cases h0
  · have c2 := hq.c2
    rw [h2] at c2
    exact ⟨adp, cpp, cs, c2, hq.c3, t, adp, cpp, cs, rfl, hq.lo, hq.x4.rm, hn, hA, hT, hN, ⟨hc.1.mono (by omega), hc.2⟩, ⟨p, by rcases hp with hp | ⟨_, hp⟩ <;> omega, hq.rd⟩, hq.gr⟩
end Go.Proofs.Ytjlflmbifeocbaa

namespace Go.Proofs.Ytjlflmbifeocbaa
open Go.RowKit

theorem getD_set_true {L : Array Bool} {i : Nat} (hL : L.getD i true = false) : (L.setIfInBounds i true).getD i false = true := by
  have h1 := getD_false hL
  have h2 : i < L.size := by simpa using (List.getElem?_eq_some_iff.1 h1).1
  rw [Array.getD_eq_getD_getElem?, Array.getElem?_setIfInBounds_self_of_lt h2]
  rfl
structure EVL (T0 : Array Value) (ds : List Nat) (tab : Nat → Option Value) (ex : Nat → Value → Array Bool → World → Prop) (I : Array Bool → World → Prop) (L : Array Bool) (a : Act) (w : World) : Prop where
  sl : Sl2 T0 ds tab L a
  wd : I L w
  ex : ∀ i (h : i < ds.length), L.getD i false = true → ex i (a.eval (.tmp ds[i])) L w
theorem EVL.step {T0 : Array Value} {ds : List Nat} {tab : Nat → Option Value} {ex : Nat → Value → Array Bool → World → Prop} {I : Array Bool → World → Prop} {L : Array Bool} {a : Act} {w w' : World} (h : EVL T0 ds tab ex I L a w) (nd : ds.Nodup) {i : Nat} {v : Value} (hst : ∀ j v, j ≠ i → ex j v L w → ex j v (L.setIfInBounds i true) w') (hi : i < ds.length) (hd : ds[i] < T0.size) (ht : ∀ u, tab i = some u → u = v) (he : ex i v (L.setIfInBounds i true) w') (hI : I (L.setIfInBounds i true) w') : EVL T0 ds tab ex I (L.setIfInBounds i true) (a.put (some ds[i]) v) w' := by
  refine ⟨h.sl.put nd hi hd ht, hI, fun j hj hL => ?_⟩
  by_cases e : j = i
  · subst e
    rw [eval_put_same (by rw [h.sl.sz]; exact hd)]
    exact he
  · rw [Act.eval_put (fun d hd' => by cases hd'; intro e'; injection e' with e'; exact nodup_ne nd hi hj e e')]
    exact hst j _ e (h.ex j hj (getD_of_set hL e))
theorem EVL.skip {T0 : Array Value} {ds : List Nat} {tab : Nat → Option Value} {ex : Nat → Value → Array Bool → World → Prop} {I : Array Bool → World → Prop} {L : Array Bool} {a : Act} {w w' : World} (h : EVL T0 ds tab ex I L a w) {i : Nat} (hst : ∀ j v, j ≠ i → ex j v L w → ex j v (L.setIfInBounds i true) w') (ht : tab i = none) (he : ∀ v, ex i v (L.setIfInBounds i true) w') (hI : I (L.setIfInBounds i true) w') : EVL T0 ds tab ex I (L.setIfInBounds i true) a w' := by
  refine ⟨h.sl.skip ht, hI, fun j hj hL => ?_⟩
  by_cases e : j = i
  · subst e; exact he _
  · exact hst j _ e (h.ex j hj (getD_of_set hL e))
/-- An append, at a step of a region outside of rounds. -/
theorem wpIn_appendZ {n : Nat} {P : Program} {o : Oper} {a : Act} {w w' : World} {K : Act → World → Prop} {Q : Exit → Act → World → Prop} (s x : Operand) (t : TypeId) (ho : o.op = .call { callee := .builtin .append, args := #[s, x], argTypes := #[t, t] }) {v u v' : Value} (hs : a.eval s = v) (hx : a.eval x = u)
    (hr : (Builtin.append_ #[t, t] o.type #[v, u]).run P w = .ok v' w') (hK : K (a.put o.dst v') w') : o.wpIn Fence.wide n P a w K Q := by
  refine ⟨fun f _ => trivial, ?_⟩
  show Oper.uponIn Fence.wide n P o a K Q ((execOp a.eval o).run P w)
  unfold execOp
  simp only [ho, resolve, invoke, builtin, Sem.run_bind, Sem.run_pure, Result.andThen_ok, List.map_toArray, List.map_cons, List.map_nil, hs, hx, hr]
  exact hK
end Go.Proofs.Ytjlflmbifeocbaa

namespace Go.Proofs.Ytjlflmbifeocbaa
open Go.RowKit

def TinyC (P T : Nat) (cs : List Ch) : Prop := ∀ c ∈ cs, c.path.size ≤ P ∧ c.old.text.size ≤ T ∧ c.new.text.size ≤ T
theorem TinyC.wide {P T P' T' : Nat} {cs : List Ch} (h : TinyC P T cs) (hP : P ≤ P') (hT : T ≤ T') : TinyC P' T' cs := fun c hc => ⟨Nat.le_trans (h c hc).1 hP, Nat.le_trans (h c hc).2.1 hT, Nat.le_trans (h c hc).2.2 hT⟩
theorem TinyC.set {P T k : Nat} {cs : List Ch} {c : Ch} (h : TinyC P T cs) (hc : c.path.size ≤ P ∧ c.old.text.size ≤ T ∧ c.new.text.size ≤ T) : TinyC P T (cs.set k c) := fun x hx => by
  rcases List.mem_or_eq_of_mem_set hx with h1 | h1
  · exact h x h1
  · subst h1; exact hc
theorem TinyC.snoc {P T : Nat} {cs : List Ch} {c : Ch} (h : TinyC P T cs) (hc : c.path.size ≤ P ∧ c.old.text.size ≤ T ∧ c.new.text.size ≤ T) : TinyC P T (cs ++ [c]) := fun x hx => by
  rcases List.mem_append.1 hx with h1 | h1
  · exact h x h1
  · rw [List.mem_singleton.1 h1]; exact hc
theorem TinyC.erase {P T k : Nat} {cs : List Ch} (h : TinyC P T cs) : TinyC P T (cs.take k ++ cs.drop (k + 1)) := fun x hx => by
  rcases List.mem_append.1 hx with h1 | h1
  · exact h x (List.mem_of_mem_take h1)
  · exact h x (List.mem_of_mem_drop h1)
end Go.Proofs.Ytjlflmbifeocbaa

namespace Go.Proofs.Ytjlflmbifeocbaa
open Go.RowKit

/-- A patch: where its changes lie, their room. -/
structure Pt where
  ad : Option Addr
  cp : Nat
  cs : List Ch
/-- A tree in a box b; what it holds lies from lo on, below hi. -/
structure TB (lo hi b : Nat) (t : Tr) (W : World) : Prop where
  c : W.cell? ⟨b, 0, none⟩ = some (.slice t.ad t.ts.length t.cp)
  f : W.frozen? ⟨b, 0, none⟩ = false
  el : EL lo W t.ad t.ts
  up : t.ts = [] ∨ ∃ k, blk t.ad = some k ∧ k < hi
  rm : t.ts.length ≤ t.cp
  nl : NilOk t.ad t.cp
section
variable {lo hi b k : Nat} {t u : Tr} {W W' : World}
theorem TB.lt (h : TB lo hi b t W) : b < W.heap.size := World.block_lt_of_cell? W ⟨b, 0, none⟩ h.c
theorem TB.grown (h : TB lo hi b t W) (hg : W.grownBy W' (some k)) (hk : k < lo ∨ hi ≤ k) (hb : b ≠ k) : TB lo hi b t W' := by
  have hh := hg.block b h.lt (fun e => hb (by cases e; rfl))
  refine ⟨(World.cell?_of_block hh).trans h.c, frozen_of hh h.f, ?_, h.up, h.rm, h.nl⟩
  rcases h.up with h0 | ⟨j, h1, h2⟩
  · rw [h0]; exact EL.nil _ _ _
  · exact h.el.grown hg (fun i hi hj _ e => by rw [h1] at hi; cases hi; cases e; omega)
theorem TB.later (h : TB lo hi b t W) (hb : Below W.heap.size W W') : TB lo hi b t W' :=
  ⟨cell_later hb h.c, (hb.frozen (p := ⟨b, 0, none⟩) h.lt).trans h.f, h.el.below hb, h.up, h.rm, h.nl⟩
theorem TB.upOf {B : Nat} (h : EL B W t.ad t.ts) : t.ts = [] ∨ ∃ k, blk t.ad = some k ∧ k < W.heap.size := by
  rcases h with h | ⟨g, e, _, h2, _⟩
  · exact .inl h
  · exact .inr ⟨g, by rw [e]; rfl, h2⟩
theorem TB.new {B : Nat} (h : EL B W t.ad t.ts) (hr : t.ts.length ≤ t.cp) (hn : NilOk t.ad t.cp) : TB B W.heap.size W.heap.size t (W.alloc (.cells #[.slice t.ad t.ts.length t.cp] 25)) :=
  ⟨by simp, by simp, h.below (below_oneD _ _), TB.upOf h, hr, hn⟩
/-- Another is put into the box. -/
theorem TB.put {lo' hi' : Nat} (h : TB lo hi b t W) (he : EL lo' W u.ad u.ts) (hu : u.ts = [] ∨ ∃ k, blk u.ad = some k ∧ k < hi') (hr : u.ts.length ≤ u.cp) (hn : NilOk u.ad u.cp) (hb : b < lo' ∨ hi' ≤ b) : TB lo' hi' b u (W.setCell ⟨b, 0, none⟩ (.slice u.ad u.ts.length u.cp)) := by
  refine ⟨World.cell?_setCell_same _ _ _ h.c, (World.frozen?_setCell _ _ _ _).trans h.f, ?_, hu, hr, hn⟩
  rcases hu with h0 | ⟨j, h1, h2⟩
  · rw [h0]; exact EL.nil _ _ _
  · exact he.grown (grown_set0 W b 0 _) (fun i hi hj _ e => by rw [h1] at hi; cases hi; cases e; omega)
end
/-- A tree, its room unknown, in a box b; what it holds lies from lo on, below hi. -/
structure VB (lo hi b : Nat) (t : Tr) (W : World) : Prop where
  c : W.cell? ⟨b, 0, none⟩ = some (.slice t.ad t.ts.length t.cp)
  f : W.frozen? ⟨b, 0, none⟩ = false
  el : EL lo W t.ad t.ts
  up : t.ts = [] ∨ ∃ k, blk t.ad = some k ∧ k < hi
  nl : NilOk t.ad t.cp
section
variable {lo hi b k : Nat} {t u : Tr} {W W' : World}
theorem VB.lt (h : VB lo hi b t W) : b < W.heap.size := World.block_lt_of_cell? W ⟨b, 0, none⟩ h.c
theorem VB.grown (h : VB lo hi b t W) (hg : W.grownBy W' (some k)) (hk : k < lo ∨ hi ≤ k) (hb : b ≠ k) : VB lo hi b t W' := by
  have hh := hg.block b h.lt (fun e => hb (by cases e; rfl))
  refine ⟨(World.cell?_of_block hh).trans h.c, frozen_of hh h.f, ?_, h.up, h.nl⟩
  rcases h.up with h0 | ⟨j, h1, h2⟩
  · rw [h0]; exact EL.nil _ _ _
  · exact h.el.grown hg (fun i hi hj _ e => by rw [h1] at hi; cases hi; cases e; omega)
theorem VB.later (h : VB lo hi b t W) (hb : Below W.heap.size W W') : VB lo hi b t W' :=
  ⟨cell_later hb h.c, (hb.frozen (p := ⟨b, 0, none⟩) h.lt).trans h.f, h.el.below hb, h.up, h.nl⟩
theorem VB.upOf {B : Nat} (h : EL B W t.ad t.ts) : t.ts = [] ∨ ∃ k, blk t.ad = some k ∧ k < W.heap.size := by
  rcases h with h | ⟨g, e, _, h2, _⟩
  · exact .inl h
  · exact .inr ⟨g, by rw [e]; rfl, h2⟩
theorem VB.new {B : Nat} (h : EL B W t.ad t.ts) (hn : NilOk t.ad t.cp) : VB B W.heap.size W.heap.size t (W.alloc (.cells #[.slice t.ad t.ts.length t.cp] 25)) :=
  ⟨by simp, by simp, h.below (below_oneD _ _), VB.upOf h, hn⟩
/-- Another is put into the box. -/
theorem VB.put {lo' hi' : Nat} (h : VB lo hi b t W) (he : EL lo' W u.ad u.ts) (hu : u.ts = [] ∨ ∃ k, blk u.ad = some k ∧ k < hi') (hn : NilOk u.ad u.cp) (hb : b < lo' ∨ hi' ≤ b) : VB lo' hi' b u (W.setCell ⟨b, 0, none⟩ (.slice u.ad u.ts.length u.cp)) := by
  refine ⟨World.cell?_setCell_same _ _ _ h.c, (World.frozen?_setCell _ _ _ _).trans h.f, ?_, hu, hn⟩
  rcases hu with h0 | ⟨j, h1, h2⟩
  · rw [h0]; exact EL.nil _ _ _
  · exact he.grown (grown_set0 W b 0 _) (fun i hi hj _ e => by rw [h1] at hi; cases hi; cases e; omega)
end
theorem TB.vb {lo hi b : Nat} {t : Tr} {W : World} (h : TB lo hi b t W) : VB lo hi b t W := ⟨h.c, h.f, h.el, h.up, h.nl⟩
/-- A patch in a box b; what it holds lies from lo on, below hi. -/
structure PB (lo hi b : Nat) (t : Pt) (W : World) : Prop where
  c : W.cell? ⟨b, 0, none⟩ = some (.slice t.ad t.cs.length t.cp)
  f : W.frozen? ⟨b, 0, none⟩ = false
  el : CL lo W t.ad t.cs
  up : t.cs = [] ∨ ∃ k, blk t.ad = some k ∧ k < hi
  rm : t.cs.length ≤ t.cp
section
variable {lo hi b k : Nat} {t u : Pt} {W W' : World}
theorem PB.lt (h : PB lo hi b t W) : b < W.heap.size := World.block_lt_of_cell? W ⟨b, 0, none⟩ h.c
theorem PB.grown (h : PB lo hi b t W) (hg : W.grownBy W' (some k)) (hk : k < lo ∨ hi ≤ k) (hb : b ≠ k) : PB lo hi b t W' := by
  have hh := hg.block b h.lt (fun e => hb (by cases e; rfl))
  refine ⟨(World.cell?_of_block hh).trans h.c, frozen_of hh h.f, ?_, h.up, h.rm⟩
  rcases h.up with h0 | ⟨j, h1, h2⟩
  · rw [h0]; exact CL.nil _ _ _
  · exact h.el.grown hg (fun i hi hj _ e => by rw [h1] at hi; cases hi; cases e; omega)
theorem PB.later (h : PB lo hi b t W) (hb : Below W.heap.size W W') : PB lo hi b t W' :=
  ⟨cell_later hb h.c, (hb.frozen (p := ⟨b, 0, none⟩) h.lt).trans h.f, h.el.below hb, h.up, h.rm⟩
theorem PB.upOf {B : Nat} (h : CL B W t.ad t.cs) : t.cs = [] ∨ ∃ k, blk t.ad = some k ∧ k < W.heap.size := by
  rcases h with h | ⟨g, e, _, h2, _⟩
  · exact .inl h
  · exact .inr ⟨g, by rw [e]; rfl, h2⟩
theorem PB.new {B : Nat} (h : CL B W t.ad t.cs) (hr : t.cs.length ≤ t.cp) : PB B W.heap.size W.heap.size t (W.alloc (.cells #[.slice t.ad t.cs.length t.cp] 30)) :=
  ⟨by simp, by simp, h.below (below_oneD _ _), PB.upOf h, hr⟩
/-- Another is put into the box. -/
theorem PB.put {lo' hi' : Nat} (h : PB lo hi b t W) (he : CL lo' W u.ad u.cs) (hu : u.cs = [] ∨ ∃ k, blk u.ad = some k ∧ k < hi') (hr : u.cs.length ≤ u.cp) (hb : b < lo' ∨ hi' ≤ b) : PB lo' hi' b u (W.setCell ⟨b, 0, none⟩ (.slice u.ad u.cs.length u.cp)) := by
  refine ⟨World.cell?_setCell_same _ _ _ h.c, (World.frozen?_setCell _ _ _ _).trans h.f, ?_, hu, hr⟩
  rcases hu with h0 | ⟨j, h1, h2⟩
  · rw [h0]; exact CL.nil _ _ _
  · exact he.grown (grown_set0 W b 0 _) (fun i hi hj _ e => by rw [h1] at hi; cases hi; cases e; omega)
end
/-- A reader and two boxes for what is handed back. -/
structure RB (w : World) (g r2 r3 : Nat) (a : Option Addr) (cap : Nat) (zs : List Int) (p : Nat) (u2 u3 : Value) (W : World) : Prop where
  rd : Rd W g a cap zs p
  bw : Below w.heap.size w W
  c2 : W.cell? ⟨r2, 0, none⟩ = some u2
  f2 : W.frozen? ⟨r2, 0, none⟩ = false
  c3 : W.cell? ⟨r3, 0, none⟩ = some u3
  f3 : W.frozen? ⟨r3, 0, none⟩ = false
  ord : w.heap.size ≤ r2 ∧ r2 < r3 ∧ r3 < g
section
variable {w : World} {g r2 r3 k : Nat} {a : Option Addr} {cap : Nat} {zs : List Int} {p p' : Nat} {u2 u3 : Value} {W W' : World}
theorem RB.step (h : RB w g r2 r3 a cap zs p u2 u3 W) (hg : W.grownBy W' (some g)) (hR : Rd W' g a cap zs p') : RB w g r2 r3 a cap zs p' u2 u3 W' := by
  have o := h.ord
  have k2 := hg.block r2 (World.block_lt_of_cell? W ⟨r2, 0, none⟩ h.c2) (by simp; omega)
  have k3 := hg.block r3 (World.block_lt_of_cell? W ⟨r3, 0, none⟩ h.c3) (by simp; omega)
  exact ⟨hR, h.bw.grown hg h.bw.size (fun j e => by cases e; omega), (World.cell?_of_block k2).trans h.c2, frozen_of k2 h.f2, (World.cell?_of_block k3).trans h.c3, frozen_of k3 h.f3, o⟩
theorem RB.later (h : RB w g r2 r3 a cap zs p u2 u3 W) (hb : Below W.heap.size W W') : RB w g r2 r3 a cap zs p u2 u3 W' := h.step (gr_below hb) (h.rd.below hb)
theorem RB.box (h : RB w g r2 r3 a cap zs p u2 u3 W) (v : Value) (hk : g < k) : RB w g r2 r3 a cap zs p u2 u3 (W.setCell ⟨k, 0, none⟩ v) := by
  have o := h.ord
  have hg : W.grownBy (W.setCell ⟨k, 0, none⟩ v) (some k) := grown_set0 W k 0 v
  have k2 := hg.block r2 (World.block_lt_of_cell? W ⟨r2, 0, none⟩ h.c2) (by simp; omega)
  have k3 := hg.block r3 (World.block_lt_of_cell? W ⟨r3, 0, none⟩ h.c3) (by simp; omega)
  exact ⟨h.rd.kept hg (fun j e => by cases e; omega), h.bw.setCell (p := ⟨k, 0, none⟩) (by show _ ≤ k; omega) _, (World.cell?_of_block k2).trans h.c2, frozen_of k2 h.f2, (World.cell?_of_block k3).trans h.c3, frozen_of k3 h.f3, o⟩
/-- The same with no reader. -/
structure RC (w : World) (r2 r3 : Nat) (u2 u3 : Value) (W : World) : Prop where
  bw : Below w.heap.size w W
  c2 : W.cell? ⟨r2, 0, none⟩ = some u2
  f2 : W.frozen? ⟨r2, 0, none⟩ = false
  c3 : W.cell? ⟨r3, 0, none⟩ = some u3
  f3 : W.frozen? ⟨r3, 0, none⟩ = false
  ord : w.heap.size ≤ r2 ∧ r2 < r3
theorem RB.rc (h : RB w g r2 r3 a cap zs p u2 u3 W) : RC w r2 r3 u2 u3 W := ⟨h.bw, h.c2, h.f2, h.c3, h.f3, h.ord.1, h.ord.2.1⟩
theorem RC.later (h : RC w r2 r3 u2 u3 W) (hb : Below W.heap.size W W') : RC w r2 r3 u2 u3 W' := ⟨h.bw.trans (hb.mono h.bw.size), cell_later hb h.c2, (hb.frozen (p := ⟨r2, 0, none⟩) (World.block_lt_of_cell? W ⟨r2, 0, none⟩ h.c2)).trans h.f2, cell_later hb h.c3, (hb.frozen (p := ⟨r3, 0, none⟩) (World.block_lt_of_cell? W ⟨r3, 0, none⟩ h.c3)).trans h.f3, h.ord⟩
theorem RC.set2 (h : RC w r2 r3 u2 u3 W) (v : Value) : RC w r2 r3 v u3 (W.setCell ⟨r2, 0, none⟩ v) := by
  have o := h.ord
  have hg : W.grownBy (W.setCell ⟨r2, 0, none⟩ v) (some r2) := grown_set0 W r2 0 v
  have k3 := hg.block r3 (World.block_lt_of_cell? W ⟨r3, 0, none⟩ h.c3) (by simp; omega)
  exact ⟨h.bw.setCell (p := ⟨r2, 0, none⟩) (by show _ ≤ r2; omega) _, World.cell?_setCell_same _ _ _ h.c2, (World.frozen?_setCell _ _ _ _).trans h.f2, (World.cell?_of_block k3).trans h.c3, frozen_of k3 h.f3, o⟩
theorem RC.set3 (h : RC w r2 r3 u2 u3 W) (v : Value) : RC w r2 r3 u2 v (W.setCell ⟨r3, 0, none⟩ v) := by
  have o := h.ord
  have hg : W.grownBy (W.setCell ⟨r3, 0, none⟩ v) (some r3) := grown_set0 W r3 0 v
  have k2 := hg.block r2 (World.block_lt_of_cell? W ⟨r2, 0, none⟩ h.c2) (by simp; omega)
  exact ⟨h.bw.setCell (p := ⟨r3, 0, none⟩) (by show _ ≤ r3; omega) _, (World.cell?_of_block k2).trans h.c2, frozen_of k2 h.f2, World.cell?_setCell_same _ _ _ h.c3, (World.frozen?_setCell _ _ _ _).trans h.f3, o⟩
end
def pkV (b : Bool) (v : Value) : Value := bif b then v else .slice none 0 0
/-- Where the last region stands: what is handed back, or nothing yet; the two boxes it is read from. -/
structure IZ (w : World) (r2 r3 : Nat) (v2 v3 : Value) (A : World → Prop) (L : Array Bool) (W : World) : Prop where
  rb : RC w r2 r3 (pkV (L.getD 2 false) v2) (pkV (L.getD 3 false) v3) W
  ab : A W
section
variable {w : World} {r2 r3 : Nat} {v2 v3 : Value} {A : World → Prop} {L : Array Bool} {W : World}
theorem IZ.keep {i : Nat} (h : IZ w r2 r3 v2 v3 A L W) (h2 : i ≠ 2) (h3 : i ≠ 3) : IZ w r2 r3 v2 v3 A (L.setIfInBounds i true) W :=
  ⟨by rw [getD_set_ne false h2, getD_set_ne false h3]; exact h.rb, h.ab⟩
theorem IZ.st2 (h : IZ w r2 r3 v2 v3 A L W) (hL : L.getD 2 true = false) (hA : ∀ W v, A W → A (W.setCell ⟨r2, 0, none⟩ v)) : IZ w r2 r3 v2 v3 A (L.setIfInBounds 2 true) (W.setCell ⟨r2, 0, none⟩ v2) :=
  ⟨by rw [getD_set_true hL, getD_set_ne false (by omega)]; exact h.rb.set2 v2, hA W _ h.ab⟩
theorem IZ.st3 (h : IZ w r2 r3 v2 v3 A L W) (hL : L.getD 3 true = false) (hA : ∀ W v, A W → A (W.setCell ⟨r3, 0, none⟩ v)) : IZ w r2 r3 v2 v3 A (L.setIfInBounds 3 true) (W.setCell ⟨r3, 0, none⟩ v3) :=
  ⟨by rw [getD_set_true hL, getD_set_ne false (by omega)]; exact h.rb.set3 v3, hA W _ h.ab⟩
end
def zTab2 (vA vB : Value) : Nat → Option Value
  | 0 => some vA
  | 1 => some vB
  | _ => none
/-- What is known of a patch that is drawn. -/
def PQ (q : Pt) : Prop := q.cs.length ≤ 310 ∧ TinyC 1100 10000 q.cs
end Go.Proofs.Ytjlflmbifeocbaa

namespace Go.Proofs.Ytjlflmbifeocbaa
open Go.RowKit

def nTabQ (t : Tr) (g k : Nat) : Nat → Option Value
  | 0 => some (.agg #[.slice t.ad t.ts.length t.cp])
  | 1 => some (.agg #[.slice t.ad t.ts.length t.cp])
  | 2 => some (.pointer (some ⟨g, 0, none⟩))
  | 3 => bif k == 4 then some (.agg #[.slice t.ad t.ts.length t.cp]) else none
  | _ => none
def nExQ (ts : List En) (lo k : Nat) (i : Nat) (v : Value) (w : World) : Prop := (i + 1 = k → treF lo v w) ∧ (i = k → patF ts lo v w)
theorem nStQ {ts : List En} {lo k j : Nat} {w w' : World} (hg : w.grownBy w' (some j)) (hj : j < lo) : ∀ i v, nExQ ts lo k i v w → nExQ ts lo k i v w' := fun _ _ h => ⟨fun e => (h.1 e).on hg hj, fun e => (h.2 e).on hg hj⟩
def dsA : List Nat := [10, 11, 12, 13, 14, 1000, 1001]
theorem ndA : dsA.Nodup := by decide
def dsB : List Nat := [15, 16, 17, 18, 19, 20, 1000, 1001]
theorem ndB : dsB.Nodup := by decide

set_option maxRecDepth 100000 in
set_option maxHeartbeats 8000000 in
theorem l6Draw_any (g : Nat) (a : Option Addr) (cap : Nat) (zs : List Int) (p : Nat) (w : World) (h : Rd w g a cap zs p) (hp : p ≤ 1000000) :
    Calls Try.prog 43 #[.pointer (some ⟨g, 0, none⟩)] w (Drawn6 g a cap zs 500 p w) := by
  have hglt := h.lt
  have hal : Below w.heap.size w ((w.alloc (.cells #[.slice none 0 0] 25)).alloc (.cells #[.slice none 0 0] 30)) := ((Below.refl _ _).alloc (Nat.le_refl _) _).alloc (by simp) _
  have a0 : ((w.alloc (.cells #[.slice none 0 0] 25)).alloc (.cells #[.slice none 0 0] 30)).cell? ⟨w.heap.size, 0, none⟩ = some (.slice none 0 0) := by simp [go_sem]
  have af0 : ((w.alloc (.cells #[.slice none 0 0] 25)).alloc (.cells #[.slice none 0 0] 30)).frozen? ⟨w.heap.size, 0, none⟩ = false := by simp [go_sem]
  have b0 : ((w.alloc (.cells #[.slice none 0 0] 25)).alloc (.cells #[.slice none 0 0] 30)).cell? ⟨w.heap.size + 1, 0, none⟩ = some (.slice none 0 0) := by simp [go_sem]
  have bf0 : ((w.alloc (.cells #[.slice none 0 0] 25)).alloc (.cells #[.slice none 0 0] 30)).frozen? ⟨w.heap.size + 1, 0, none⟩ = false := by simp [go_sem]
  have hsz : ((w.alloc (.cells #[.slice none 0 0] 25)).alloc (.cells #[.slice none 0 0] 30)).heap.size = w.heap.size + 1 + 1 := by simp
  have hdr := l5DrawC_any g a cap zs p _ (h.below hal) (by omega)
  go_enter Try.func43, Try.ntmps43
  go_wp2_with fail
  refine hdr.mono ?_
  rintro e w1 ⟨ad, cp, ts, rfl, hel, hn, hA, hT, hNil, ⟨⟨p1, hp1, hR1⟩, hg1⟩, hrm⟩
  have T4 := TX.new (g := g) (t := ⟨ad, cp, ts⟩) hel (by rw [hsz]; omega) hrm
  have hbt := hel.btw
  have hba := below_oneD w1 (.cells #[.slice ad ts.length cp] 25)
  have hs1 := hg1.size
  have hQ : Q6 w g w.heap.size (w.heap.size + 1) w1.heap.size a cap zs p1 ⟨ad, cp, ts⟩ (.slice none 0 0) (.slice none 0 0) (w1.alloc (.cells #[.slice ad ts.length cp] 25)) := by
    have k2 := hg1.block w.heap.size (by omega) (by simp; omega)
    have k3 := hg1.block (w.heap.size + 1) (by omega) (by simp; omega)
    refine ⟨hR1.below hba, gr_trans (gr_trans (gr_below hal) hg1) (gr_below hba), T4.wide hbt ?_, (hel.mono (by omega)).below hba, cell_later hba ((World.cell?_of_block k2).trans a0), (hba.frozen (p := ⟨w.heap.size, 0, none⟩) (by show w.heap.size < _; omega)).trans (frozen_of k2 af0), cell_later hba ((World.cell?_of_block k3).trans b0), (hba.frozen (p := ⟨w.heap.size + 1, 0, none⟩) (by show w.heap.size + 1 < _; omega)).trans (frozen_of k3 bf0), by omega⟩
    intro k hk
    simp only [List.mem_cons, List.not_mem_nil, or_false] at hk
    omega
  have HT : Keep (Asc ts ∧ Tiny 40 20 ts ∧ NilOk ad cp) := ⟨⟨hA, hT, hNil⟩⟩
  clear hdr hel hg1 hR1 hA hT hNil T4 hbt hba a0 af0 b0 bf0 hal hsz
  go_upto_region 2 with fail
  generalize w1.alloc (.cells #[.slice ad ts.length cp] 25) = w2 at *
  generalize w1.heap.size = b4 at *
  obtain ⟨r3, hr3⟩ : ∃ r3, r3 = w.heap.size + 1 := ⟨_, rfl⟩
  obtain ⟨r2, hr2⟩ : ∃ r2, r2 = w.heap.size := ⟨_, rfl⟩
  have hQ' : Q6 w g r2 r3 b4 a cap zs p1 ⟨ad, cp, ts⟩ (.slice none 0 0) (.slice none 0 0) w2 := by rw [hr2, hr3]; exact hQ
  rw [← hr3]
  rw [← hr2]
  clear hQ hr2 hr3 hs1
  go_wp2_with fail
  refine (pick_any g a cap zs p1 3 w2 hQ'.rd (by omega) (by omega) (by omega)).mono ?_
  rintro e w3 ⟨y, rfl, hy, hg3, hR3⟩
  have hQ3 := hQ'.step hg3 hR3
  clear hQ' hg3 hR3
  have HG : Keep (g < b4 + 1 ∧ r2 < b4 + 1 ∧ r3 < b4 + 1) := ⟨by have := hQ3.ord; omega⟩
  have HQ : Keep (Q6 w g r2 r3 b4 a cap zs (p1 + 1) ⟨ad, cp, ts⟩ (.slice none 0 0) (.slice none 0 0) w3.drew) := ⟨hQ3.later (Below.refl _ _).drew⟩
  clear hQ3
  by_cases y0 : y = 0
  · have hB : ((y : Int) == 0) = true := by simp; omega
    clear y0
    go_upto_region 3 with fail
    refine (wpIn_wide (n := 0)).1 ?_
    refine wpIn_region_inv0 (by kernel_rfl) (by kernel_rfl) (fun T0 => EVF T0 dsA (nTabQ ⟨ad, cp, ts⟩ g 3) (nExQ ts (b4 + 1) 4) (IQ 3 5 6 (p1 + 1) w g r2 r3 b4 a cap zs ⟨ad, cp, ts⟩)) ?_ ?_ ?_
    · exact ⟨Sl2.start _, ⟨p1 + 1, _, .inl (Nat.le_refl _), by rw [getD_repl]; exact HQ.out, .inl ⟨getD_repl _ _, rfl⟩⟩, fun i _ hL => by rw [getD_repl] at hL; cases hL⟩
    · intro L a2 w9 hinv hall
      obtain ⟨adp, cpp, cs, z2, z3, hF⟩ := hinv.wd.fin (p0 := p) (hall 5 (by decide)) (hall 6 (by decide)) (by omega) hn HT.out.1 HT.out.2.1 HT.out.2.2
      have HXX : Keep _ := ⟨hinv.sl.act⟩
      have HF : Keep _ := ⟨hF⟩
      clear hinv hall hF
      rw [HXX.out]
      simp only [updL, dsA, List.contains_cons, List.contains_nil, Nat.reduceAdd, Nat.reduceBEq, Bool.or_false, cond_false, cond_true, Bool.or_true]
      go_wp2
      refine bodyPost_ret (v := .tuple #[.agg #[.slice ad ts.length cp], .agg #[.slice adp cs.length cpp]]) ?_ rfl HF.out
      go_light
      simp [results, Try.results43, go_sem, z2, z3]
    · intro L a2 w9 i o hinv hcl hL ho hdep
      have hin : i < 7 := (Array.getElem?_eq_some_iff.1 ho).1
      unfold wpOpIn
      rw [ho]
      clear hcl
      match i, hin, hL, ho, hdep with
      | 0, _, hL, ho, hdep =>
        injection ho with ho; subst ho
        dsimp only
        rw [if_pos (by rfl)]
        refine ⟨fun f _ => trivial, ?_⟩
        have e4 : a2.tmps[4]?.getD undef = .pointer (some ⟨b4, 0, none⟩) := hinv.sl.old (by decide)
        have z0 := hinv.wd.ox.1.c
        dsimp only at z0
        go_simp
        exact hinv.step ndA (nStQ (j := g) (gr_below (Below.refl _ _)) HG.out.1) (i := 0) (by decide) (by show 10 < 21; decide) (fun u hu => by cases hu; rfl) ⟨fun e => by omega, fun e => by omega⟩ (hinv.wd.keep (by omega) (by omega) (by omega) (Below.refl _ _))
      | 1, _, hL, ho, hdep =>
        injection ho with ho; subst ho
        dsimp only
        rw [if_pos (by rfl)]
        refine ⟨fun f _ => trivial, ?_⟩
        have e4 : a2.tmps[4]?.getD undef = .pointer (some ⟨b4, 0, none⟩) := hinv.sl.old (by decide)
        have z0 := hinv.wd.ox.1.c
        dsimp only at z0
        go_simp
        exact hinv.step ndA (nStQ (j := g) (gr_below (Below.refl _ _)) HG.out.1) (i := 1) (by decide) (by show 11 < 21; decide) (fun u hu => by cases hu; rfl) ⟨fun e => by omega, fun e => by omega⟩ (hinv.wd.keep (by omega) (by omega) (by omega) (Below.refl _ _))
      | 2, _, hL, ho, hdep =>
        injection ho with ho; subst ho
        dsimp only
        rw [if_pos (by rfl)]
        refine ⟨fun f _ => trivial, ?_⟩
        have e0 : a2.tmps[0]?.getD undef = .pointer (some ⟨g, 0, none⟩) := hinv.sl.old (by decide)
        go_simp
        exact hinv.step ndA (nStQ (j := g) (gr_below (Below.refl _ _)) HG.out.1) (i := 2) (by decide) (by show 12 < 21; decide) (fun u hu => by cases hu; rfl) ⟨fun e => by omega, fun e => by omega⟩ (hinv.wd.keep (by omega) (by omega) (by omega) (Below.refl _ _))
      | 3, _, hL, ho, hdep =>
        injection ho with ho; subst ho
        dsimp only
        rw [if_pos (by rfl)]
        refine ⟨fun f _ => trivial, ?_⟩
        have e12 : a2.tmps[12]?.getD undef = .pointer (some ⟨g, 0, none⟩) := hinv.sl.new (i := 2) (by decide) rfl (hdep ⟨2, .data⟩ (by simp) rfl)
        obtain ⟨p9, hp9, hR9, hnx⟩ := hinv.wd.draw (by omega) (by omega) hL
        have hb9 := hinv.wd.ox.2.2.2.2
        go_simp
        refine ⟨rfl, CallsIn.mono (callsIn_wide.2 (l5DrawC_any g a cap zs p9 w9 hR9 (by omega))) ?_⟩
        rintro e' w' ⟨ad', cp', us, rfl, hel', hn', hA', hT', hNil', ⟨⟨p', hp', hR'⟩, hg'⟩, hrm'⟩
        exact hinv.step ndA (nStQ (j := g) hg' HG.out.1) (i := 3) (by decide) (by show 13 < 21; decide) (fun u hu => by cases hu) ⟨fun _ => ⟨ad', cp', us, rfl, hel'.mono hb9, by omega, hT'.wide (by omega) (by omega)⟩, fun e => by omega⟩ (hnx w' p' (by omega) hg' hR')
      | 4, _, hL, ho, hdep =>
        injection ho with ho; subst ho
        dsimp only
        rw [if_pos (by rfl)]
        refine ⟨fun f _ => trivial, ?_⟩
        have e11 : a2.tmps[11]?.getD undef = .agg #[.slice ad ts.length cp] := hinv.sl.new (i := 1) (by decide) rfl (hdep ⟨1, .data⟩ (by simp) rfl)
        obtain ⟨ad', cp', us, h31, h32, h33, h34⟩ := (hinv.ex 3 (by decide) (hdep ⟨3, .data⟩ (by simp) rfl)).1 rfl
        have e13 : a2.tmps[13]?.getD undef = .agg #[.slice ad' us.length cp'] := evalD2 h31
        have hx := hinv.wd.ox.1.el.es
        have hb9 := hinv.wd.ox.2.2.2.2
        go_simp
        refine ⟨rfl, CallsIn.mono (callsIn_wide.2 (specDiffC_any ad ad' cp cp' ts us w9 hx h32.es (by omega) (by omega))) ?_⟩
        rintro e' w' ⟨cs, hD, ⟨adc, cpc, rfl, hcl', hr'⟩, hb'⟩
        exact hinv.step ndA (nStQ (j := g) (gr_below hb') HG.out.1) (i := 4) (by decide) (by show 14 < 21; decide) (fun u hu => by cases hu) ⟨fun e => by omega, fun _ => ⟨adc, cpc, cs, rfl, hcl'.mono hb9, hr', us, hD, h33, h34⟩⟩ (hinv.wd.keep (by omega) (by omega) (by omega) hb')
      | 5, _, hL, ho, hdep =>
        injection ho with ho; subst ho
        dsimp only
        rw [if_pos (by rfl)]
        refine ⟨fun f _ => trivial, ?_⟩
        have e2 : a2.tmps[2]?.getD undef = .pointer (some ⟨r2, 0, none⟩) := hinv.sl.old (by decide)
        have e10 : a2.tmps[10]?.getD undef = .agg #[.slice ad ts.length cp] := hinv.sl.new (i := 0) (by decide) rfl (hdep ⟨0, .data⟩ (by simp) rfl)
        have z0 := hinv.wd.ox.2.1.1
        have z1 := hinv.wd.ox.2.1.2
        go_simp
        exact hinv.skip (nStQ (j := r2) (grown_set0 w9 r2 0 _) HG.out.2.1) (i := 5) rfl (fun v => ⟨fun e => by omega, fun e => by omega⟩) (hinv.wd.st2 (by omega) (by omega) hL)
      | 6, _, hL, ho, hdep =>
        injection ho with ho; subst ho
        dsimp only
        rw [if_pos (by rfl)]
        refine ⟨fun f _ => trivial, ?_⟩
        have e3 : a2.tmps[3]?.getD undef = .pointer (some ⟨r3, 0, none⟩) := hinv.sl.old (by decide)
        obtain ⟨adc, cpc, cs, h41, h42⟩ := (hinv.ex 4 (by decide) (hdep ⟨4, .data⟩ (by simp) rfl)).2 rfl
        have e14 : a2.tmps[14]?.getD undef = .agg #[.slice adc cs.length cpc] := evalD2 h41
        have z0 := hinv.wd.ox.2.2.1 (getD_ft hL)
        have z1 := hinv.wd.ox.2.2.2.1
        go_simp
        exact hinv.skip (nStQ (j := r3) (grown_set0 w9 r3 0 _) HG.out.2.2) (i := 6) rfl (fun v => ⟨fun e => by omega, fun e => by omega⟩) (hinv.wd.st3 (by omega) (by omega) hL h42)
  · have hB : ((y : Int) == 0) = false := by simp; omega
    clear y0
    go_upto_region 4 with fail
    refine (wpIn_wide (n := 0)).1 ?_
    refine wpIn_region_inv0 (by kernel_rfl) (by kernel_rfl) (fun T0 => EVF T0 dsB (nTabQ ⟨ad, cp, ts⟩ g 4) (nExQ ts (b4 + 1) 5) (IQ 4 6 7 (p1 + 1) w g r2 r3 b4 a cap zs ⟨ad, cp, ts⟩)) ?_ ?_ ?_
    · exact ⟨Sl2.start _, ⟨p1 + 1, _, .inl (Nat.le_refl _), by rw [getD_repl]; exact HQ.out, .inl ⟨getD_repl _ _, rfl⟩⟩, fun i _ hL => by rw [getD_repl] at hL; cases hL⟩
    · intro L a2 w9 hinv hall
      obtain ⟨adp, cpp, cs, z2, z3, hF⟩ := hinv.wd.fin (p0 := p) (hall 6 (by decide)) (hall 7 (by decide)) (by omega) hn HT.out.1 HT.out.2.1 HT.out.2.2
      have HXX : Keep _ := ⟨hinv.sl.act⟩
      have HF : Keep _ := ⟨hF⟩
      clear hinv hall hF
      rw [HXX.out]
      simp only [updL, dsB, List.contains_cons, List.contains_nil, Nat.reduceAdd, Nat.reduceBEq, Bool.or_false, cond_false, cond_true, Bool.or_true]
      go_wp2
      refine bodyPost_ret (v := .tuple #[.agg #[.slice ad ts.length cp], .agg #[.slice adp cs.length cpp]]) ?_ rfl HF.out
      go_light
      simp [results, Try.results43, go_sem, z2, z3]
    · intro L a2 w9 i o hinv hcl hL ho hdep
      have hin : i < 8 := (Array.getElem?_eq_some_iff.1 ho).1
      unfold wpOpIn
      rw [ho]
      clear hcl
      match i, hin, hL, ho, hdep with
      | 0, _, hL, ho, hdep =>
        injection ho with ho; subst ho
        dsimp only
        rw [if_pos (by rfl)]
        refine ⟨fun f _ => trivial, ?_⟩
        have e4 : a2.tmps[4]?.getD undef = .pointer (some ⟨b4, 0, none⟩) := hinv.sl.old (by decide)
        have z0 := hinv.wd.ox.1.c
        dsimp only at z0
        go_simp
        exact hinv.step ndB (nStQ (j := g) (gr_below (Below.refl _ _)) HG.out.1) (i := 0) (by decide) (by show 15 < 21; decide) (fun u hu => by cases hu; rfl) ⟨fun e => by omega, fun e => by omega⟩ (hinv.wd.keep (by omega) (by omega) (by omega) (Below.refl _ _))
      | 1, _, hL, ho, hdep =>
        injection ho with ho; subst ho
        dsimp only
        rw [if_pos (by rfl)]
        refine ⟨fun f _ => trivial, ?_⟩
        have e4 : a2.tmps[4]?.getD undef = .pointer (some ⟨b4, 0, none⟩) := hinv.sl.old (by decide)
        have z0 := hinv.wd.ox.1.c
        dsimp only at z0
        go_simp
        exact hinv.step ndB (nStQ (j := g) (gr_below (Below.refl _ _)) HG.out.1) (i := 1) (by decide) (by show 16 < 21; decide) (fun u hu => by cases hu; rfl) ⟨fun e => by omega, fun e => by omega⟩ (hinv.wd.keep (by omega) (by omega) (by omega) (Below.refl _ _))
      | 2, _, hL, ho, hdep =>
        injection ho with ho; subst ho
        dsimp only
        rw [if_pos (by rfl)]
        refine ⟨fun f _ => trivial, ?_⟩
        have e0 : a2.tmps[0]?.getD undef = .pointer (some ⟨g, 0, none⟩) := hinv.sl.old (by decide)
        go_simp
        exact hinv.step ndB (nStQ (j := g) (gr_below (Below.refl _ _)) HG.out.1) (i := 2) (by decide) (by show 17 < 21; decide) (fun u hu => by cases hu; rfl) ⟨fun e => by omega, fun e => by omega⟩ (hinv.wd.keep (by omega) (by omega) (by omega) (Below.refl _ _))
      | 3, _, hL, ho, hdep =>
        injection ho with ho; subst ho
        dsimp only
        rw [if_pos (by rfl)]
        refine ⟨fun f _ => trivial, ?_⟩
        have e4 : a2.tmps[4]?.getD undef = .pointer (some ⟨b4, 0, none⟩) := hinv.sl.old (by decide)
        have z0 := hinv.wd.ox.1.c
        dsimp only at z0
        go_simp
        exact hinv.step ndB (nStQ (j := g) (gr_below (Below.refl _ _)) HG.out.1) (i := 3) (by decide) (by show 18 < 21; decide) (fun u hu => by cases hu; rfl) ⟨fun e => by omega, fun e => by omega⟩ (hinv.wd.keep (by omega) (by omega) (by omega) (Below.refl _ _))
      | 4, _, hL, ho, hdep =>
        injection ho with ho; subst ho
        dsimp only
        rw [if_pos (by rfl)]
        refine ⟨fun f _ => trivial, ?_⟩
        have e17 : a2.tmps[17]?.getD undef = .pointer (some ⟨g, 0, none⟩) := hinv.sl.new (i := 2) (by decide) rfl (hdep ⟨2, .data⟩ (by simp) rfl)
        have e18 : a2.tmps[18]?.getD undef = .agg #[.slice ad ts.length cp] := hinv.sl.new (i := 3) (by decide) rfl (hdep ⟨3, .data⟩ (by simp) rfl)
        obtain ⟨p9, hp9, hR9, hnx⟩ := hinv.wd.draw (by omega) (by omega) hL
        have hb9 := hinv.wd.ox.2.2.2.2
        have hx := hinv.wd.ox.1.el.es
        go_simp
        refine ⟨rfl, CallsIn.mono (callsIn_wide.2 (l5NearA_any g a cap zs p9 ad cp ts w9 hR9 (by omega) hx HT.out.2.2 (HT.out.2.1.wide (by omega) (by omega)) (by omega))) ?_⟩
        rintro e' w' ⟨ad', cp', us, rfl, hel', hn', hT', hNil', ⟨⟨p', hp', hR'⟩, hg'⟩, hA', hrm'⟩
        exact hinv.step ndB (nStQ (j := g) hg' HG.out.1) (i := 4) (by decide) (by show 19 < 21; decide) (fun u hu => by cases hu) ⟨fun _ => ⟨ad', cp', us, rfl, hel'.mono hb9, hn', hT'⟩, fun e => by omega⟩ (hnx w' p' (by omega) hg' hR')
      | 5, _, hL, ho, hdep =>
        injection ho with ho; subst ho
        dsimp only
        rw [if_pos (by rfl)]
        refine ⟨fun f _ => trivial, ?_⟩
        have e16 : a2.tmps[16]?.getD undef = .agg #[.slice ad ts.length cp] := hinv.sl.new (i := 1) (by decide) rfl (hdep ⟨1, .data⟩ (by simp) rfl)
        obtain ⟨ad', cp', us, h31, h32, h33, h34⟩ := (hinv.ex 4 (by decide) (hdep ⟨4, .data⟩ (by simp) rfl)).1 rfl
        have e19 : a2.tmps[19]?.getD undef = .agg #[.slice ad' us.length cp'] := evalD2 h31
        have hx := hinv.wd.ox.1.el.es
        have hb9 := hinv.wd.ox.2.2.2.2
        go_simp
        refine ⟨rfl, CallsIn.mono (callsIn_wide.2 (specDiffC_any ad ad' cp cp' ts us w9 hx h32.es (by omega) (by omega))) ?_⟩
        rintro e' w' ⟨cs, hD, ⟨adc, cpc, rfl, hcl', hr'⟩, hb'⟩
        exact hinv.step ndB (nStQ (j := g) (gr_below hb') HG.out.1) (i := 5) (by decide) (by show 20 < 21; decide) (fun u hu => by cases hu) ⟨fun e => by omega, fun _ => ⟨adc, cpc, cs, rfl, hcl'.mono hb9, hr', us, hD, h33, h34⟩⟩ (hinv.wd.keep (by omega) (by omega) (by omega) hb')
      | 6, _, hL, ho, hdep =>
        injection ho with ho; subst ho
        dsimp only
        rw [if_pos (by rfl)]
        refine ⟨fun f _ => trivial, ?_⟩
        have e2 : a2.tmps[2]?.getD undef = .pointer (some ⟨r2, 0, none⟩) := hinv.sl.old (by decide)
        have e15 : a2.tmps[15]?.getD undef = .agg #[.slice ad ts.length cp] := hinv.sl.new (i := 0) (by decide) rfl (hdep ⟨0, .data⟩ (by simp) rfl)
        have z0 := hinv.wd.ox.2.1.1
        have z1 := hinv.wd.ox.2.1.2
        go_simp
        exact hinv.skip (nStQ (j := r2) (grown_set0 w9 r2 0 _) HG.out.2.1) (i := 6) rfl (fun v => ⟨fun e => by omega, fun e => by omega⟩) (hinv.wd.st2 (by omega) (by omega) hL)
      | 7, _, hL, ho, hdep =>
        injection ho with ho; subst ho
        dsimp only
        rw [if_pos (by rfl)]
        refine ⟨fun f _ => trivial, ?_⟩
        have e3 : a2.tmps[3]?.getD undef = .pointer (some ⟨r3, 0, none⟩) := hinv.sl.old (by decide)
        obtain ⟨adc, cpc, cs, h41, h42⟩ := (hinv.ex 5 (by decide) (hdep ⟨5, .data⟩ (by simp) rfl)).2 rfl
        have e20 : a2.tmps[20]?.getD undef = .agg #[.slice adc cs.length cpc] := evalD2 h41
        have z0 := hinv.wd.ox.2.2.1 (getD_ft hL)
        have z1 := hinv.wd.ox.2.2.2.1
        go_simp
        exact hinv.skip (nStQ (j := r3) (grown_set0 w9 r3 0 _) HG.out.2.2) (i := 7) rfl (fun v => ⟨fun e => by omega, fun e => by omega⟩) (hinv.wd.st3 (by omega) (by omega) hL h42)
end Go.Proofs.Ytjlflmbifeocbaa

namespace Go.Proofs.Ytjlflmbifeocbaa
open Go.RowKit

structure LS6 (g : Nat) (a : Option Addr) (cap : Nat) (zs : List Int) (w : World) (rs tb : Nat) (ad : Option Addr) (cp : Nat) (cs : List Ch) (p : Nat) (W : World) : Prop where
  rd : Rd W g a cap zs p
  gr : w.grownBy W (some g)
  rc : W.cell? ⟨rs, 0, none⟩ = some (.slice none 0 0)
  rf : W.frozen? ⟨rs, 0, none⟩ = false
  tc : W.cell? ⟨tb, 0, none⟩ = some (.slice ad cs.length cp)
  tf : W.frozen? ⟨tb, 0, none⟩ = false
  row : W.ownsRow (rs + 1) 68 7 (.slice ad cs.length cp) cs.length (ccells cs)
  ap : blk ad ≠ some tb
  ord : g < w.heap.size ∧ w.heap.size ≤ rs ∧ rs < tb
section
variable {g : Nat} {a : Option Addr} {cap : Nat} {zs : List Int} {w : World} {rs tb : Nat} {ad ad' : Option Addr} {cp cp' : Nat} {cs ds : List Ch} {p p' : Nat} {W W' : World}
theorem LS6.lt (h : LS6 g a cap zs w rs tb ad cp cs p W) : tb < W.heap.size := World.block_lt_of_cell? W ⟨tb, 0, none⟩ h.tc
theorem LS6.ltr (h : LS6 g a cap zs w rs tb ad cp cs p W) : rs < W.heap.size := World.block_lt_of_cell? W ⟨rs, 0, none⟩ h.rc
theorem LS6.step (h : LS6 g a cap zs w rs tb ad cp cs p W) (hg : W.grownBy W' (some g)) (hR : Rd W' g a cap zs p') : LS6 g a cap zs w rs tb ad cp cs p' W' := by
  have o := h.ord
  have k2 := hg.block rs h.ltr (by simp; omega)
  have k3 := hg.block tb h.lt (by simp; omega)
  exact ⟨hR, gr_trans h.gr hg, (World.cell?_of_block k2).trans h.rc, fz_blk k2 h.rf, (World.cell?_of_block k3).trans h.tc, fz_blk k3 h.tf, h.row.kept hg (Or.inr (fun e => by have := owns_row_ge h.row e; omega)), h.ap, o⟩
theorem LS6.later (h : LS6 g a cap zs w rs tb ad cp cs p W) (hb : Below W.heap.size W W') : LS6 g a cap zs w rs tb ad cp cs p W' := h.step (gr_below hb) (h.rd.below hb)
/-- Another list is put into the box. -/
theorem LS6.put (h : LS6 g a cap zs w rs tb ad cp cs p W) (hr : W.ownsRow (rs + 1) 68 7 (.slice ad' ds.length cp') ds.length (ccells ds)) (hap : blk ad' ≠ some tb) : LS6 g a cap zs w rs tb ad' cp' ds p (W.setCell ⟨tb, 0, none⟩ (.slice ad' ds.length cp')) := by
  have o := h.ord
  have hg : W.grownBy (W.setCell ⟨tb, 0, none⟩ (.slice ad' ds.length cp')) (some tb) := grown_set0 W tb 0 _
  have k2 := hg.block rs h.ltr (by simp; omega)
  refine ⟨h.rd.kept hg (fun k e => by cases e; omega), gr_own h.gr hg (fun j e => by cases e; omega), (World.cell?_of_block k2).trans h.rc, fz_blk k2 h.rf, World.cell?_setCell_same _ _ _ h.tc, (World.frozen?_setCell _ _ _ _).trans h.tf, hr.kept hg (Or.inr (fun e => hap ?_)), hap, o⟩
  cases ad' with
  | none => simp [Value.ownBlock] at e
  | some x => simpa [Value.ownBlock, blk] using e
theorem LS6.cl (h : LS6 g a cap zs w rs tb ad cp cs p W) : CL (rs + 1) W ad cs := cl_of_row h.row
end
end Go.Proofs.Ytjlflmbifeocbaa

namespace Go.Proofs.Ytjlflmbifeocbaa
open Go.RowKit

theorem ccells_size (us : List Ch) : (ccells us).length = us.length * 7 := by
  induction us with
  | nil => rfl
  | cons x us ih =>
    have h : ccells (x :: us) = chL x ++ ccells us := by simp [ccells]
    rw [h, List.length_append, ih]
    show 7 + us.length * 7 = (us.length + 1) * 7
    omega
theorem ccells_all1 (us : List Ch) : ∀ u ∈ ccells us, u.oneCell' = true := fun u hu => by
  unfold ccells at hu
  obtain ⟨c, _, h⟩ := List.mem_flatMap.1 hu
  exact one_7 c u h
theorem ccells_nth (us : List Ch) : ∀ i (h : i < us.length) j, j < 7 → (ccells us)[i * 7 + j]? = (chL us[i])[j]? := by
  induction us with
  | nil => intro i h; simp at h
  | cons x us ih =>
    intro i h j hj
    have hc : ccells (x :: us) = chL x ++ ccells us := by simp [ccells]
    rw [hc]
    cases i with
    | zero =>
      rw [List.getElem?_append_left (by show 0 * 7 + j < 7; omega)]
      simp
    | succ i =>
      rw [List.getElem?_append_right (by show 7 ≤ (i + 1) * 7 + j; omega)]
      rw [show (i + 1) * 7 + j - (chL x).length = i * 7 + j by show (i + 1) * 7 + j - 7 = _; omega]
      rw [ih i (by simpa using h) j hj]
      simp
theorem cs_news {w : World} {b off : Nat} {cs : List Ch} (h : ∀ i (h : i < cs.length), ChAt w b (off + i * 7) cs[i]) :
    ∀ j u, (ccells cs)[j]? = some u → w.cell? ((⟨b, off, none⟩ : Addr).add j) = some u := fun j u hu => by
  have hl := (List.getElem?_eq_some_iff.1 hu).1
  rw [ccells_size] at hl
  have hi : j / 7 < cs.length := by omega
  obtain ⟨h0, h1, h2, h3, h4, h5, h6⟩ := h _ hi
  have e := ccells_nth cs (j / 7) hi (j % 7) (by omega)
  rw [show j / 7 * 7 + j % 7 = j by omega, hu] at e
  rw [Go.WideShapes.add_plain]
  have hj : off + j = off + j / 7 * 7 + j % 7 := by omega
  rw [hj]
  have hr : j % 7 = 0 ∨ j % 7 = 1 ∨ j % 7 = 2 ∨ j % 7 = 3 ∨ j % 7 = 4 ∨ j % 7 = 5 ∨ j % 7 = 6 := by omega
  rcases hr with hr | hr | hr | hr | hr | hr | hr <;> rw [hr] at e ⊢
  · rw [Nat.add_zero, h0]; exact e.symm
  · rw [h1]; exact e.symm
  · rw [h2]; exact e.symm
  · rw [h3]; exact e.symm
  · rw [h4]; exact e.symm
  · rw [h5]; exact e.symm
  · rw [h6]; exact e.symm
end Go.Proofs.Ytjlflmbifeocbaa

namespace Go.Proofs.Ytjlflmbifeocbaa
open Go.RowKit

def seven (X : World) (gb o : Nat) (d : Ch) : World :=
  (((((((X.setCell ⟨gb, o, none⟩ (.string d.path)).setCell ⟨gb, o + 1, none⟩ (.bool d.old.there)).setCell ⟨gb, o + 2, none⟩ (.string d.old.text)).setCell ⟨gb, o + 3, none⟩ (.bool d.old.runs)).setCell ⟨gb, o + 4, none⟩ (.bool d.new.there)).setCell ⟨gb, o + 5, none⟩ (.string d.new.text)).setCell ⟨gb, o + 6, none⟩ (.bool d.new.runs))
theorem seven_grown (X : World) (gb o : Nat) (d : Ch) : X.grownBy (seven X gb o d) (some gb) :=
  have h : ∀ (Y : World) (j : Nat) (v : Value), Y.grownBy (Y.setCell ⟨gb, j, none⟩ v) (some gb) := fun Y j v => ⟨rfl, rfl, rfl, by simp, fun k _ hk => Below.heap_setCell _ _ _ _ (fun e => hk (by rw [e]))⟩
  have t : ∀ {A B C : World}, A.grownBy B (some gb) → B.grownBy C (some gb) → A.grownBy C (some gb) := fun a b => ⟨b.os.trans a.os, b.tape.trans a.tape, b.output.trans a.output, Nat.le_trans a.size b.size, fun k hk hne => (b.block k (Nat.lt_of_lt_of_le hk a.size) hne).trans (a.block k hk hne)⟩
  t (t (t (t (t (t (h _ _ _) (h _ _ _)) (h _ _ _)) (h _ _ _)) (h _ _ _)) (h _ _ _)) (h _ _ _)
theorem gr_set3 (X : World) (b : Nat) (u v x : Value) : X.grownBy (((X.setCell ⟨b, 1, none⟩ u).setCell ⟨b, 2, none⟩ v).setCell ⟨b, 3, none⟩ x) (some b) :=
  have h : ∀ (Y : World) (j : Nat) (v : Value), Y.grownBy (Y.setCell ⟨b, j, none⟩ v) (some b) := fun Y j v => ⟨rfl, rfl, rfl, by simp, fun k _ hk => Below.heap_setCell _ _ _ _ (fun e => hk (by rw [e]))⟩
  have t : ∀ {A B C : World}, A.grownBy B (some b) → B.grownBy C (some b) → A.grownBy C (some b) := fun a b => ⟨b.os.trans a.os, b.tape.trans a.tape, b.output.trans a.output, Nat.le_trans a.size b.size, fun k hk hne => (b.block k (Nat.lt_of_lt_of_le hk a.size) hne).trans (a.block k hk hne)⟩
  t (t (h _ _ _) (h _ _ _)) (h _ _ _)
theorem seven_size (X : World) (gb o : Nat) (d : Ch) : (seven X gb o d).heap.size = X.heap.size := by simp [seven]
theorem seven_fz (X : World) (gb o : Nat) (d : Ch) (p : Addr) : (seven X gb o d).frozen? p = X.frozen? p := by
  unfold seven
  rw [World.frozen?_setCell, World.frozen?_setCell, World.frozen?_setCell, World.frozen?_setCell, World.frozen?_setCell, World.frozen?_setCell, World.frozen?_setCell]
theorem seven_other (X : World) (gb o j : Nat) (d : Ch) (h : j < o ∨ o + 6 < j) : (seven X gb o d).cell? ⟨gb, j, none⟩ = X.cell? ⟨gb, j, none⟩ := by
  have hne : ∀ k, k ≤ 6 → (⟨gb, o + k, none⟩ : Addr) ≠ ⟨gb, j, none⟩ := fun k hk e => by injection e with _ e; omega
  have h0 : (⟨gb, o, none⟩ : Addr) ≠ ⟨gb, j, none⟩ := hne 0 (by omega)
  unfold seven
  rw [World.cell?_setCell_other _ _ _ _ (hne 6 (by omega)), World.cell?_setCell_other _ _ _ _ (hne 5 (by omega)), World.cell?_setCell_other _ _ _ _ (hne 4 (by omega)), World.cell?_setCell_other _ _ _ _ (hne 3 (by omega)), World.cell?_setCell_other _ _ _ _ (hne 2 (by omega)), World.cell?_setCell_other _ _ _ _ (hne 1 (by omega)), World.cell?_setCell_other _ _ _ _ h0]
theorem seven_at {X : World} {gb o : Nat} {c : Ch} (d : Ch) (h : ChAt X gb o c) : ChAt (seven X gb o d) gb o d := by
  obtain ⟨h0, h1, h2, h3, h4, h5, h6⟩ := h
  have q : ∀ {Y : World} {i j : Nat} {v u : Value}, i ≠ j → Y.cell? ⟨gb, j, none⟩ = some u → (Y.setCell ⟨gb, i, none⟩ v).cell? ⟨gb, j, none⟩ = some u := fun hn hc => (World.cell?_setCell_other _ _ _ _ (fun e => hn (by injection e))).trans hc
  exact ⟨(q (by omega) (q (by omega) (q (by omega) (q (by omega) (q (by omega) (q (by omega) (World.cell?_setCell_same _ _ _ h0))))))), (q (by omega) (q (by omega) (q (by omega) (q (by omega) (q (by omega) (World.cell?_setCell_same _ _ _ (q (by omega) h1))))))), (q (by omega) (q (by omega) (q (by omega) (q (by omega) (World.cell?_setCell_same _ _ _ (q (by omega) (q (by omega) h2))))))), (q (by omega) (q (by omega) (q (by omega) (World.cell?_setCell_same _ _ _ (q (by omega) (q (by omega) (q (by omega) h3))))))), (q (by omega) (q (by omega) (World.cell?_setCell_same _ _ _ (q (by omega) (q (by omega) (q (by omega) (q (by omega) h4))))))), (q (by omega) (World.cell?_setCell_same _ _ _ (q (by omega) (q (by omega) (q (by omega) (q (by omega) (q (by omega) h5))))))), (World.cell?_setCell_same _ _ _ (q (by omega) (q (by omega) (q (by omega) (q (by omega) (q (by omega) (q (by omega) h6)))))))⟩
theorem cl_seven {B gb k : Nat} {W : World} {ds : List Ch} (d : Ch) (h : CL B W (some ⟨gb, 0, none⟩) ds) (hk : k < ds.length) : CL B (seven W gb (k * 7) d) (some ⟨gb, 0, none⟩) (ds.set k d) := by
  rcases h with h | ⟨g', e, h1, h2, h3, h4⟩
  · subst h; simp at hk
  · cases e
    refine .inr ⟨gb, rfl, h1, by rw [seven_size]; exact h2, fun j => (seven_fz _ _ _ _ _).trans (h3 j), fun i hi => ?_⟩
    have hi' : i < ds.length := by simpa using hi
    by_cases e : i = k
    · subst e
      rw [List.getElem_set_self]
      exact seven_at d (h4 i hi')
    · rw [List.getElem_set_ne (fun h => e h.symm)]
      obtain ⟨c0, c1, c2, c3, c4, c5, c6⟩ := h4 i hi'
      exact ⟨(seven_other _ _ _ _ _ (by omega)).trans c0, (seven_other _ _ _ _ _ (by omega)).trans c1, (seven_other _ _ _ _ _ (by omega)).trans c2, (seven_other _ _ _ _ _ (by omega)).trans c3, (seven_other _ _ _ _ _ (by omega)).trans c4, (seven_other _ _ _ _ _ (by omega)).trans c5, (seven_other _ _ _ _ _ (by omega)).trans c6⟩
section
variable {g : Nat} {a : Option Addr} {cap : Nat} {zs : List Int} {w : World} {rs tb xb gb k K p0 : Nat} {ad ad' : Option Addr} {cp cp' : Nat} {cs ds : List Ch} {p p' : Nat} {W W' : World}
theorem LS6.gbk (h : LS6 g a cap zs w rs tb (some ⟨gb, 0, none⟩) cp cs p W) (hne : cs ≠ []) : rs < gb ∧ gb < W.heap.size ∧ gb ≠ tb := by
  rcases h.cl with h0 | ⟨g', e, h1, h2, h3⟩
  · exact absurd h0 hne
  · cases e; exact ⟨h1, h2, fun e => h.ap (by simp [blk, e])⟩
/-- Another box is written. -/
theorem LS6.other (h : LS6 g a cap zs w rs tb ad cp cs p W) (hg : W.grownBy W' (some xb)) (h1 : tb < xb) (h2 : blk ad ≠ some xb) : LS6 g a cap zs w rs tb ad cp cs p W' := by
  have o := h.ord
  have k2 := hg.block rs h.ltr (by simp; omega)
  have k3 := hg.block tb h.lt (by simp; omega)
  refine ⟨h.rd.kept hg (fun k e => by cases e; omega), gr_own h.gr hg (fun j e => by cases e; omega), (World.cell?_of_block k2).trans h.rc, fz_blk k2 h.rf, (World.cell?_of_block k3).trans h.tc, fz_blk k3 h.tf, h.row.kept hg (Or.inr (fun e => h2 ?_)), h.ap, o⟩
  cases ad with
  | none => simp [Value.ownBlock] at e
  | some x => simpa [Value.ownBlock, blk] using e
theorem LS6.room (h : LS6 g a cap zs w rs tb ad cp cs p W) : cs.length ≤ cp := row_room h.row
/-- The end: the list is laid into the box of what is handed back. -/
theorem LS6.back (h : LS6 g a cap zs w rs tb ad cp cs p W) (hp : p ≤ p0 + K) : CL w.heap.size (W.setCell ⟨rs, 0, none⟩ (.slice ad cs.length cp)) ad cs ∧ Dr g a cap zs w (W.setCell ⟨rs, 0, none⟩ (.slice ad cs.length cp)) p0 K := by
  have hg : W.grownBy (W.setCell ⟨rs, 0, none⟩ (.slice ad cs.length cp)) (some rs) := grown_set0 W rs 0 _
  have o := h.ord
  exact ⟨(h.cl.grown hg (fun k _ hk _ e => by cases e; omega)).mono (by omega), ⟨p, hp, h.rd.kept hg (fun k e => by cases e; omega)⟩, gr_own h.gr hg (fun j e => by cases e; omega)⟩
/-- The list is turned at one place. -/
theorem LS6.turn (h : LS6 g a cap zs w rs tb (some ⟨gb, 0, none⟩) cp ds p W) (hk : k < ds.length) (d : Ch) (hp : p ≤ p0 + K) :
    (seven W gb (k * 7) d).cell? ⟨tb, 0, none⟩ = some (.slice (some ⟨gb, 0, none⟩) ds.length cp) ∧ (seven W gb (k * 7) d).cell? ⟨rs, 0, none⟩ = some (.slice none 0 0) ∧ (seven W gb (k * 7) d).frozen? ⟨rs, 0, none⟩ = false ∧
    CL w.heap.size ((seven W gb (k * 7) d).setCell ⟨rs, 0, none⟩ (.slice (some ⟨gb, 0, none⟩) ds.length cp)) (some ⟨gb, 0, none⟩) (ds.set k d) ∧ Dr g a cap zs w ((seven W gb (k * 7) d).setCell ⟨rs, 0, none⟩ (.slice (some ⟨gb, 0, none⟩) ds.length cp)) p0 K := by
  have hne : ds ≠ [] := fun e => by subst e; simp at hk
  obtain ⟨q1, q2, q3⟩ := h.gbk hne
  have o := h.ord
  have hG := seven_grown W gb (k * 7) d
  have hCL := cl_seven d h.cl hk
  generalize seven W gb (k * 7) d = S at *
  have hg : S.grownBy (S.setCell ⟨rs, 0, none⟩ (.slice (some ⟨gb, 0, none⟩) ds.length cp)) (some rs) := grown_set0 _ rs 0 _
  have k2 := hG.block rs h.ltr (by simp; omega)
  have k3 := hG.block tb h.lt (by simp; omega)
  exact ⟨(World.cell?_of_block k3).trans h.tc, (World.cell?_of_block k2).trans h.rc, fz_blk k2 h.rf, (hCL.grown hg (fun k _ hk _ e => by cases e; omega)).mono (by omega), ⟨p, hp, (h.rd.kept hG (fun k e => by cases e; omega)).kept hg (fun k e => by cases e; omega)⟩, gr_own (gr_own h.gr hG (fun j e => by cases e; omega)) hg (fun j e => by cases e; omega)⟩
end
section
variable {b : Nat} {c : Ch} {W : World}
theorem CBox.sPath (h : CBox b c W) (s : ByteArray) : CBox b ⟨s, c.old, c.new⟩ (W.setCell ⟨b, 0, none⟩ (.string s)) :=
  ⟨World.cell?_setCell_same _ _ _ (h.c0), (World.cell?_setCell_other _ _ _ _ (by simp)).trans (h.c1), (World.cell?_setCell_other _ _ _ _ (by simp)).trans (h.c2), (World.cell?_setCell_other _ _ _ _ (by simp)).trans (h.c3), (World.cell?_setCell_other _ _ _ _ (by simp)).trans (h.c4), (World.cell?_setCell_other _ _ _ _ (by simp)).trans (h.c5), (World.cell?_setCell_other _ _ _ _ (by simp)).trans (h.c6), fun j => (World.frozen?_setCell _ _ _ _).trans (h.fz j), by simpa using h.lt⟩
theorem CBox.sOld (h : CBox b c W) : CBox b ⟨c.path, c.new, c.new⟩ (((W.setCell ⟨b, 1, none⟩ (.bool c.new.there)).setCell ⟨b, 2, none⟩ (.string c.new.text)).setCell ⟨b, 3, none⟩ (.bool c.new.runs)) :=
  ⟨(World.cell?_setCell_other _ _ _ _ (by simp)).trans ((World.cell?_setCell_other _ _ _ _ (by simp)).trans ((World.cell?_setCell_other _ _ _ _ (by simp)).trans (h.c0))), (World.cell?_setCell_other _ _ _ _ (by simp)).trans ((World.cell?_setCell_other _ _ _ _ (by simp)).trans (World.cell?_setCell_same _ _ _ (h.c1))), (World.cell?_setCell_other _ _ _ _ (by simp)).trans (World.cell?_setCell_same _ _ _ ((World.cell?_setCell_other _ _ _ _ (by simp)).trans (h.c2))), World.cell?_setCell_same _ _ _ ((World.cell?_setCell_other _ _ _ _ (by simp)).trans ((World.cell?_setCell_other _ _ _ _ (by simp)).trans (h.c3))), (World.cell?_setCell_other _ _ _ _ (by simp)).trans ((World.cell?_setCell_other _ _ _ _ (by simp)).trans ((World.cell?_setCell_other _ _ _ _ (by simp)).trans (h.c4))), (World.cell?_setCell_other _ _ _ _ (by simp)).trans ((World.cell?_setCell_other _ _ _ _ (by simp)).trans ((World.cell?_setCell_other _ _ _ _ (by simp)).trans (h.c5))), (World.cell?_setCell_other _ _ _ _ (by simp)).trans ((World.cell?_setCell_other _ _ _ _ (by simp)).trans ((World.cell?_setCell_other _ _ _ _ (by simp)).trans (h.c6))), fun j => (World.frozen?_setCell _ _ _ _).trans ((World.frozen?_setCell _ _ _ _).trans ((World.frozen?_setCell _ _ _ _).trans (h.fz j))), by simpa using h.lt⟩
theorem CBox.sThere (h : CBox b c W) (q : Bool) : CBox b ⟨c.path, ⟨q, c.old.text, c.old.runs⟩, c.new⟩ (W.setCell ⟨b, 1, none⟩ (.bool q)) :=
  ⟨(World.cell?_setCell_other _ _ _ _ (by simp)).trans (h.c0), World.cell?_setCell_same _ _ _ (h.c1), (World.cell?_setCell_other _ _ _ _ (by simp)).trans (h.c2), (World.cell?_setCell_other _ _ _ _ (by simp)).trans (h.c3), (World.cell?_setCell_other _ _ _ _ (by simp)).trans (h.c4), (World.cell?_setCell_other _ _ _ _ (by simp)).trans (h.c5), (World.cell?_setCell_other _ _ _ _ (by simp)).trans (h.c6), fun j => (World.frozen?_setCell _ _ _ _).trans (h.fz j), by simpa using h.lt⟩
theorem CBox.sNew (h : CBox b c W) (s : ByteArray) : CBox b ⟨c.path, c.old, ⟨c.new.there, s, c.new.runs⟩⟩ (W.setCell ⟨b, 5, none⟩ (.string s)) :=
  ⟨(World.cell?_setCell_other _ _ _ _ (by simp)).trans (h.c0), (World.cell?_setCell_other _ _ _ _ (by simp)).trans (h.c1), (World.cell?_setCell_other _ _ _ _ (by simp)).trans (h.c2), (World.cell?_setCell_other _ _ _ _ (by simp)).trans (h.c3), (World.cell?_setCell_other _ _ _ _ (by simp)).trans (h.c4), World.cell?_setCell_same _ _ _ (h.c5), (World.cell?_setCell_other _ _ _ _ (by simp)).trans (h.c6), fun j => (World.frozen?_setCell _ _ _ _).trans (h.fz j), by simpa using h.lt⟩
theorem CBox.sText (h : CBox b c W) (s : ByteArray) : CBox b ⟨c.path, ⟨c.old.there, s, c.old.runs⟩, c.new⟩ (W.setCell ⟨b, 2, none⟩ (.string s)) :=
  ⟨(World.cell?_setCell_other _ _ _ _ (by simp)).trans (h.c0), (World.cell?_setCell_other _ _ _ _ (by simp)).trans (h.c1), World.cell?_setCell_same _ _ _ (h.c2), (World.cell?_setCell_other _ _ _ _ (by simp)).trans (h.c3), (World.cell?_setCell_other _ _ _ _ (by simp)).trans (h.c4), (World.cell?_setCell_other _ _ _ _ (by simp)).trans (h.c5), (World.cell?_setCell_other _ _ _ _ (by simp)).trans (h.c6), fun j => (World.frozen?_setCell _ _ _ _).trans (h.fz j), by simpa using h.lt⟩
end
end Go.Proofs.Ytjlflmbifeocbaa

namespace Go.Proofs.Ytjlflmbifeocbaa
open Go.RowKit

theorem own_noneC (w : World) (B : Nat) (hB : B ≤ w.heap.size) : (w.alloc (.cells #[] 68)).ownsRow B 68 7 (.slice (some ⟨w.heap.size, 0, none⟩) 0 0) 0 (ccells []) :=
  ⟨by simp [ccells], .inr ⟨w.heap.size, 0, #[], rfl, hB, heap_alloc_new w _, Nat.le_refl _, by unfold maxLen; omega, rfl, by simp [ccells]⟩⟩
theorem run_append_nothing {P : Program} {w : World} (base : Nat) (t ty e : TypeId) (i : TypeInfo) (size : Nat) (ht : P.underlying t = some (.slice e)) (hi : P.info? e = some i)
    (v : Value) (n c : Nat) (xs : List Value) (hown : w.ownsRow base e size v n xs) :
    (Builtin.append_ #[t, t] ty #[v, .slice none 0 c]).run P w = .ok v w := by
  rcases hown.2 with ⟨rfl, rfl⟩ | ⟨g, cap, cur, rfl, _, _, hnc, _⟩
  · simp [Builtin.append_, run_underlying ht, sizeOf, typeInfo, hi, Builtin.lenOf, Builtin.firstCells]
  · simp [Builtin.append_, run_underlying ht, sizeOf, typeInfo, hi, Builtin.lenOf, Builtin.firstCells, hnc, storeCells]
theorem wpList_append_nothing {P : Program} {w : World} {ops : Array Oper} {rest : List Oper} {o : Oper} {a : Act} {Q : Exit → Act → World → Prop} (hgd : o.guard = none) (s x : Operand) (t : TypeId)
    (ho : o.op = .call { callee := .builtin .append, args := #[s, x], argTypes := #[t, t] })
    (base : Nat) (e : TypeId) (i : TypeInfo) (size : Nat) (ht : P.underlying t = some (.slice e)) (hi : P.info? e = some i)
    (v : Value) (n c : Nat) (xs : List Value) (hs : a.eval s = v) (hown : w.ownsRow base e size v n xs) (hx : a.eval x = .slice none 0 c)
    (h : wpList P ops Q rest (a.put o.dst v) w) : wpList P ops Q (o :: rest) a w := by
  refine wpList_plain hgd fun K hK => ?_
  have hrun := run_append_nothing (P := P) (w := w) base t o.type e i size ht hi v n c xs hown
  unfold Oper.wp
  simp [execOp, ho, resolve, invoke, builtin, hs, hx, hrun, Result.andThen]
  exact hK _ _ h
section
variable {g : Nat} {a : Option Addr} {cap : Nat} {zs : List Int} {w : World} {rs tb : Nat} {ad ad' : Option Addr} {cp cp' : Nat} {ds : List Ch} {p p' : Nat} {W W' : World} {H0 gb : Nat} {v : Value} {xs : List Ch}
theorem LS6.row2 {row : Option Nat} (h : LS6 g a cap zs w rs tb ad cp ds p W) (hg : W.grownBy W' row) (hr : ∀ j, row = some j → tb < j ∧ blk ad ≠ some j) : LS6 g a cap zs w rs tb ad cp ds p W' := by
  cases row with
  | some j => exact h.other hg (hr j rfl).1 (hr j rfl).2
  | none => exact h.step (p' := p) ⟨hg.os, hg.tape, hg.output, hg.size, fun k hk _ => hg.block k hk (by simp)⟩ (h.rd.kept hg (fun k e => by cases e))
structure MkC (H0 g : Nat) (a : Option Addr) (cap : Nat) (zs : List Int) (w : World) (rs tb gb cp : Nat) (ds : List Ch) (p : Nat) (v : Value) (xs : List Ch) (W : World) : Prop where
  ld : LS6 g a cap zs w rs tb (some ⟨gb, 0, none⟩) cp ds p W
  own : W.ownsRow (rs + 1) 68 7 v xs.length (ccells xs)
  new : ∀ j, v.ownBlock = some j → H0 ≤ j
  old : gb < H0 ∧ tb < H0
  sz : H0 ≤ W.heap.size
theorem MkC.start (h : LS6 g a cap zs w rs tb (some ⟨gb, 0, none⟩) cp ds p W) (ho : gb < H0 ∧ tb < H0) (hs : H0 ≤ W.heap.size) : MkC H0 g a cap zs w rs tb gb cp ds p (.slice (some ⟨W.heap.size, 0, none⟩) 0 0) [] (W.alloc (.cells #[] 68)) :=
  ⟨h.later (below_oneD W _), own_noneC W (rs + 1) h.ltr, fun j e => by simp [Value.ownBlock] at e; omega, ho, Nat.le_trans hs (by simp)⟩
theorem MkC.app (i0 : TypeInfo) (z : Value) (hi : Try.prog.info? 68 = some i0) (hz : i0.zero = some z) (hsz : i0.size = 7) (hby : i0.bytes = 80) (hzs : z.cells.size = 7) (h : MkC H0 g a cap zs w rs tb gb cp ds p v xs W) (ad2 : Addr) (c : Nat) (us : List Ch) (hnews : ∀ j u, (ccells us)[j]? = some u → W.cell? (ad2.add j) = some u) (hl : xs.length + us.length ≤ 1000) (ty : TypeId) :
    ∃ v' W', (Builtin.append_ #[28, 28] ty #[v, .slice (some ad2) us.length c]).run Try.prog W = .ok v' W' ∧ (∃ ad3 cp3, v' = .slice ad3 (xs ++ us).length cp3 ∧ MkC H0 g a cap zs w rs tb gb cp ds p (.slice ad3 (xs ++ us).length cp3) (xs ++ us) W') := by
  obtain ⟨v', W', hr, ho, hg, _, hat⟩ := run_append_own_at (P := Try.prog) W (rs + 1) 28 ty 68 i0 z 7 80 Try.underlying28 hi hz hsz hby hzs (by decide) v xs.length (ccells xs) h.own ad2 us.length c (ccells us) (ccells_size us) hnews (ccells_all1 us) (by unfold maxLen; omega) (by omega) (by have := h.ld.ltr; omega)
  have ho2 : W'.ownsRow (rs + 1) 68 7 v' (xs ++ us).length (ccells (xs ++ us)) := by
    rw [List.length_append, show ccells (xs ++ us) = ccells xs ++ ccells us by simp [ccells]]
    exact ho
  obtain ⟨ad3, cp3, rfl⟩ := owns_slice ho2
  have o := h.old
  refine ⟨_, W', hr, ad3, cp3, rfl, h.ld.row2 hg (fun j e => by have := h.new j e; exact ⟨by omega, fun e2 => by simp [blk] at e2; omega⟩), ho2, fun j e => ?_, o, Nat.le_trans h.sz hg.size⟩
  rcases hat with h2 | h2
  · exact h.new j (by rw [← h2]; exact e)
  · rw [h2] at e; cases e; exact h.sz
theorem MkC.store {ad3 : Option Addr} {cp3 : Nat} (h : MkC H0 g a cap zs w rs tb gb cp ds p (.slice ad3 xs.length cp3) xs W) : LS6 g a cap zs w rs tb ad3 cp3 xs p (W.setCell ⟨tb, 0, none⟩ (.slice ad3 xs.length cp3)) := by
  refine h.ld.put h.own ?_
  cases ad3 with
  | none => intro e; simp [blk] at e
  | some x =>
    intro e
    have := h.new tb (by simpa [Value.ownBlock, blk] using e)
    have := h.old
    omega
theorem cl_news {B gb : Nat} (h : CL B W (some ⟨gb, 0, none⟩) ds) (k m : Nat) : ∀ j u, (ccells ((ds.drop k).take m))[j]? = some u → W.cell? ((⟨gb, k * 7, none⟩ : Addr).add j) = some u := by
  refine cs_news (fun i hi => ?_)
  have hi2 : k + i < ds.length := by simp at hi; omega
  rcases h with h | ⟨g', e, _, _, _, h4⟩
  · subst h; simp at hi2
  · cases e
    have h5 := h4 (k + i) hi2
    rw [List.getElem_take, List.getElem_drop, show k * 7 + i * 7 = (k + i) * 7 by omega]
    exact h5
end
set_option maxRecDepth 100000 in
theorem cutC_lo (gb cp n k : Nat) (hk : k ≤ cp) (hc : 0 < cp) (w1 : World) : (Instr.sliceAt 28 (.slice (some ⟨gb, 0, none⟩) n cp) none (some (.int .i64 (k : Int))) none).run Try.prog w1 = .ok (.slice (some ⟨gb, 0, none⟩) k cp) w1 := by
  rw [run_sliceAt_slice w1 _ _ _ _ _ Try.underlying28, run_slice_h w1 _ _ _ _ Try.underlying28 .i64 (k : Int) (by omega) (by omega)]
  have hz : (sizeOf (Try.prog.elem 28)).run Try.prog w1 = .ok 7 w1 := by kernel_rfl
  rw [hz, show (k : Int).toNat = k by omega]
  show Result.ok (sliced (some ⟨gb, 0, none⟩) 0 k cp 7) w1 = _
  unfold sliced
  rw [if_neg (by omega)]
  rfl
set_option maxRecDepth 100000 in
theorem cutC_hi (gb cp : Nat) (ds : List Ch) (k : Nat) (hk : k < ds.length) (hc : ds.length ≤ cp) : ∃ adB nB cB, Keep (nB = (ds.drop (k + 1)).length) ∧ (∀ w1, (Instr.sliceAt 28 (.slice (some ⟨gb, 0, none⟩) ds.length cp) (some (.int .i64 ((k : Int) + 1))) none none).run Try.prog w1 = .ok (.slice (some adB) nB cB) w1) ∧ ∀ (B : Nat) (W : World), CL B W (some ⟨gb, 0, none⟩) ds → ∀ j u, (ccells (ds.drop (k + 1)))[j]? = some u → W.cell? (adB.add j) = some u := by
  have hrun : ∀ w1, (Instr.sliceAt 28 (.slice (some ⟨gb, 0, none⟩) ds.length cp) (some (.int .i64 ((k : Int) + 1))) none none).run Try.prog w1 = .ok (sliced (some ⟨gb, 0, none⟩) (k + 1) ds.length cp 7) w1 := fun w1 => by
    rw [run_sliceAt_slice w1 _ _ _ _ _ Try.underlying28, run_slice_l w1 _ _ _ _ Try.underlying28 .i64 ((k : Int) + 1) (by omega) (by omega)]
    have hz : (sizeOf (Try.prog.elem 28)).run Try.prog w1 = .ok 7 w1 := by kernel_rfl
    rw [hz, show ((k : Int) + 1).toNat = k + 1 by omega]
    rfl
  by_cases hcp : cp = k + 1
  · refine ⟨⟨gb, 0, none⟩, ds.length - (k + 1), cp - (k + 1), ⟨by rw [List.length_drop]⟩, fun w1 => ?_, fun B W _ j u hu => ?_⟩
    · rw [hrun w1]
      unfold sliced
      rw [if_pos hcp]
    · have hn : ds.drop (k + 1) = [] := List.drop_of_length_le (by omega)
      rw [hn] at hu
      simp [ccells] at hu
  · refine ⟨⟨gb, (k + 1) * 7, none⟩, ds.length - (k + 1), cp - (k + 1), ⟨by rw [List.length_drop]⟩, fun w1 => ?_, fun B W hE j u hu => ?_⟩
    · rw [hrun w1]
      unfold sliced
      rw [if_neg hcp]
      simp [Addr.add]
    · refine cl_news hE (k + 1) ds.length j u ?_
      rw [List.take_of_length_le (by rw [List.length_drop]; omega)]
      exact hu
/-- What is known of the slots of the region that takes the change out. -/
def exT (M : Value → List Ch → World → Prop) (k : Nat) (ds : List Ch) (i : Nat) (v : Value) (L : Array Bool) (W : World) : Prop :=
  (i = 0 → L.getD 5 false = false → M v [] W) ∧
  (i = 5 → L.getD 0 false = true ∧ (L.getD 11 false = false → ∃ ad3 cp3, v = .slice ad3 (ds.take k).length cp3 ∧ M v (ds.take k) W)) ∧
  (i = 11 → L.getD 0 false = true ∧ L.getD 5 false = true ∧ (L.getD 13 false = false → ∃ ad3 cp3, v = .slice ad3 (ds.take k ++ ds.drop (k + 1)).length cp3 ∧ M v (ds.take k ++ ds.drop (k + 1)) W))
def IT (A B : World → Prop) (L : Array Bool) (W : World) : Prop := (L.getD 13 false = false → A W) ∧ (L.getD 13 false = true → B W)
section
variable {M : Value → List Ch → World → Prop} {k : Nat} {ds : List Ch} {L : Array Bool} {W W' : World} {A B : World → Prop}
theorem exT_pure {i : Nat} (h0 : i ≠ 0) (h5 : i ≠ 5) (h11 : i ≠ 11) (h13 : i ≠ 13) : ∀ j v, j ≠ i → exT M k ds j v L W → exT M k ds j v (L.setIfInBounds i true) W := fun j v _ h => by
  unfold exT at h ⊢
  rw [getD_set_ne false h0, getD_set_ne false h5, getD_set_ne false h11, getD_set_ne false h13]
  exact h
theorem exT_no {i : Nat} {v : Value} (h0 : i ≠ 0) (h5 : i ≠ 5) (h11 : i ≠ 11) : exT M k ds i v L W := ⟨fun e => absurd e h0, fun e => absurd e h5, fun e => absurd e h11⟩
theorem tf_no {b : Bool} {P : Prop} (h1 : b = false) (h2 : b = true) : P := absurd (h1.symm.trans h2) (by decide)
theorem exT_0 (hL : L.getD 0 true = false) : ∀ j v, j ≠ 0 → exT M k ds j v L W → exT M k ds j v (L.setIfInBounds 0 true) W' := fun _ _ hj h =>
  ⟨fun e => absurd e hj, fun e => tf_no (getD_ft hL) (h.2.1 e).1, fun e => tf_no (getD_ft hL) (h.2.2 e).1⟩
theorem exT_5 (hL : L.getD 5 true = false) : ∀ j v, j ≠ 5 → exT M k ds j v L W → exT M k ds j v (L.setIfInBounds 5 true) W' := fun _ _ hj h =>
  ⟨fun _ e2 => tf_no e2 (getD_set_true hL), fun e => absurd e hj, fun e => tf_no (getD_ft hL) (h.2.2 e).2.1⟩
theorem exT_11 (hL : L.getD 11 true = false) (h5 : L.getD 5 false = true) : ∀ j v, j ≠ 11 → exT M k ds j v L W → exT M k ds j v (L.setIfInBounds 11 true) W' := fun _ _ hj h =>
  ⟨fun _ e2 => tf_no ((getD_set_ne false (by omega)).symm.trans e2) h5, fun e => ⟨(getD_set_ne false (by omega)).trans (h.2.1 e).1, fun e2 => tf_no e2 (getD_set_true hL)⟩, fun e => absurd e hj⟩
theorem exT_13 (hL : L.getD 13 true = false) (h5 : L.getD 5 false = true) (h11 : L.getD 11 false = true) : ∀ j v, j ≠ 13 → exT M k ds j v L W → exT M k ds j v (L.setIfInBounds 13 true) W' := fun _ _ _ h =>
  ⟨fun _ e2 => tf_no ((getD_set_ne false (by omega)).symm.trans e2) h5, fun e => ⟨(getD_set_ne false (by omega)).trans (h.2.1 e).1, fun e2 => tf_no ((getD_set_ne false (by omega)).symm.trans e2) h11⟩, fun e => ⟨(getD_set_ne false (by omega)).trans (h.2.2 e).1, (getD_set_ne false (by omega)).trans (h.2.2 e).2.1, fun e2 => tf_no e2 (getD_set_true hL)⟩⟩
theorem IT.on {i : Nat} (h : IT A B L W) (hi : i ≠ 13) (h0 : L.getD 13 false = false) (hA : A W → A W') : IT A B (L.setIfInBounds i true) W' := by
  refine ⟨fun _ => hA (h.1 h0), fun e => ?_⟩
  rw [getD_set_ne false hi, h0] at e
  cases e
theorem IT.pure {i : Nat} (h : IT A B L W) (hi : i ≠ 13) : IT A B (L.setIfInBounds i true) W := by
  unfold IT at h ⊢
  rw [getD_set_ne false hi]
  exact h
theorem IT.last (hL : L.getD 13 true = false) (hB : B W) : IT A B (L.setIfInBounds 13 true) W := ⟨fun e => tf_no e (getD_set_true hL), fun _ => hB⟩
end
section
variable {g : Nat} {a : Option Addr} {cap : Nat} {zs : List Int} {w : World} {rs tb : Nat} {cp cap3 : Nat} {ds : List Ch} {p : Nat} {X W : World} {gb g3 : Nat} {d : Ch}
/-- One change is put behind. -/
theorem LS6.app (h : LS6 g a cap zs w rs tb (some ⟨gb, 0, none⟩) cp ds p X) (hg : X.grownBy W (Value.ownBlock (.slice (some ⟨gb, 0, none⟩) ds.length cp))) (hown : W.ownsRow (rs + 1) 68 7 (.slice (some ⟨g3, 0, none⟩) (ds.length + 1) cap3) (ds.length + 1) (ccells ds ++ chL d)) (h3 : g3 = gb ∨ tb < g3) :
    W.cell? ⟨tb, 0, none⟩ = some (.slice (some ⟨gb, 0, none⟩) ds.length cp) ∧ W.frozen? ⟨tb, 0, none⟩ = false ∧ LS6 g a cap zs w rs tb (some ⟨g3, 0, none⟩) cap3 (ds ++ [d]) p (W.setCell ⟨tb, 0, none⟩ (.slice (some ⟨g3, 0, none⟩) (ds.length + 1) cap3)) := by
  have o := h.ord
  have hgt : gb ≠ tb := fun e => h.ap (by simp [blk, e])
  have hge : rs + 1 ≤ gb := owns_row_ge h.row (j := gb) (by simp [Value.ownBlock])
  replace hg : X.grownBy W (some gb) := by simpa [Value.ownBlock] using hg
  have b1 := hg.block rs h.ltr (by simp; omega)
  have b2 := hg.block tb h.lt (by simp; omega)
  have hs : W.grownBy (W.setCell ⟨tb, 0, none⟩ (.slice (some ⟨g3, 0, none⟩) (ds.length + 1) cap3)) (some tb) := grown_set0 W tb 0 _
  have h3' : g3 ≠ tb := by omega
  have hrow : W.ownsRow (rs + 1) 68 7 (.slice (some ⟨g3, 0, none⟩) (ds ++ [d]).length cap3) (ds ++ [d]).length (ccells (ds ++ [d])) := by
    rw [ccells_snoc, List.length_append]
    exact hown
  have b1' : (W.setCell ⟨tb, 0, none⟩ (.slice (some ⟨g3, 0, none⟩) (ds.length + 1) cap3)).heap[rs]? = X.heap[rs]? := (hs.block rs (Nat.lt_of_lt_of_le h.ltr hg.size) (by simp; omega)).trans b1
  refine ⟨(World.cell?_of_block b2).trans h.tc, fz_blk b2 h.tf, (h.rd.kept hg (fun k e => by cases e; omega)).kept hs (fun k e => by cases e; omega), gr_own (gr_own h.gr hg (fun j e => by cases e; omega)) hs (fun j e => by cases e; omega), (World.cell?_of_block b1').trans h.rc, fz_blk b1' h.rf, ?_, (World.frozen?_setCell _ _ _ _).trans (fz_blk b2 h.tf), hrow.kept hs (Or.inr (fun e => h3' (by simpa [Value.ownBlock] using e))), fun e => h3' (by simpa [blk] using e), o⟩
  rw [List.length_append]
  exact World.cell?_setCell_same _ _ _ ((World.cell?_of_block b2).trans h.tc)
end
end Go.Proofs.Ytjlflmbifeocbaa

namespace Go.Proofs.Ytjlflmbifeocbaa
open Go.RowKit

def PatS6 (g : Nat) (a : Option Addr) (cap : Nat) (zs : List Int) (K p : Nat) (w : World) (e : Ending) (w' : World) : Prop :=
  ∃ ad cp ds, e = .returned (.agg #[.slice ad (List.length ds) cp]) ∧ CL w.heap.size w' ad ds ∧ ds.length ≤ cp ∧ ds.length ≤ 310 ∧ TinyC 1100 10000 ds ∧ Dr g a cap zs w w' p K

def dsT : List Nat := [111, 112, 113, 114, 115, 116, 117, 118, 119, 120, 121, 122, 123, 1000]
theorem ndT : dsT.Nodup := by decide
def tabT (tb gb cp n k : Nat) (adB : Addr) (nB cB : Nat) : Nat → Option Value
  | 1 => some (.pointer (some ⟨tb, 0, none⟩))
  | 2 => some (.slice (some ⟨gb, 0, none⟩) n cp)
  | 3 => some (.int .i64 k)
  | 4 => some (.slice (some ⟨gb, 0, none⟩) k cp)
  | 6 => some (.pointer (some ⟨tb, 0, none⟩))
  | 7 => some (.slice (some ⟨gb, 0, none⟩) n cp)
  | 8 => some (.int .i64 k)
  | 9 => some (.int .i64 ((k : Int) + 1))
  | 10 => some (.slice (some adB) nB cB)
  | 12 => some (.pointer (some ⟨tb, 0, none⟩))
  | _ => none

set_option maxRecDepth 100000 in
set_option maxHeartbeats 8000000 in
theorem l6Spoil_any (g : Nat) (a : Option Addr) (cap : Nat) (zs : List Int) (p : Nat) (adp : Option Addr) (cpp : Nat) (cs : List Ch) (w : World) (h : Rd w g a cap zs p) (hp : p ≤ 1000000) (hcs : CS w adp cs) (hT : TinyC 1000 5000 cs) (hn : cs.length ≤ 300) :
    Calls Try.prog 45 #[.pointer (some ⟨g, 0, none⟩), .agg #[.slice adp cs.length cpp]] w (PatS6 g a cap zs 20 p w) := by
  obtain ⟨i0, hi, hz0, hz1, hzb⟩ := info_parts Try.infoChange
  have hglt := h.lt
  have hal : Below w.heap.size w (((w.alloc (.cells #[.slice adp cs.length cpp] 30)).alloc (.cells #[.slice none 0 0] 30)).alloc (.cells #[] 68)) := (((Below.refl _ _).alloc (Nat.le_refl _) _).alloc (by simp) _).alloc (by simp; omega) _
  have k0 : (((w.alloc (.cells #[.slice adp cs.length cpp] 30)).alloc (.cells #[.slice none 0 0] 30)).alloc (.cells #[] 68)).cell? ⟨w.heap.size + 1, 0, none⟩ = some (.slice none 0 0) := by simp [go_sem]
  have kf : (((w.alloc (.cells #[.slice adp cs.length cpp] 30)).alloc (.cells #[.slice none 0 0] 30)).alloc (.cells #[] 68)).frozen? ⟨w.heap.size + 1, 0, none⟩ = false := by simp [go_sem]
  have m0 : (((w.alloc (.cells #[.slice adp cs.length cpp] 30)).alloc (.cells #[.slice none 0 0] 30)).alloc (.cells #[] 68)).cell? ⟨w.heap.size, 0, none⟩ = some (.slice adp cs.length cpp) := by simp [go_sem]
  have hown0 : (((w.alloc (.cells #[.slice adp cs.length cpp] 30)).alloc (.cells #[.slice none 0 0] 30)).alloc (.cells #[] 68)).ownsRow (w.heap.size + 2) 68 7 (.slice (some ⟨w.heap.size + 1 + 1, 0, none⟩) 0 0) 0 (ccells []) := by simpa using own_noneC ((w.alloc (.cells #[.slice adp cs.length cpp] 30)).alloc (.cells #[.slice none 0 0] 30)) (w.heap.size + 2) (by simp)
  have hsz : (((w.alloc (.cells #[.slice adp cs.length cpp] 30)).alloc (.cells #[.slice none 0 0] 30)).alloc (.cells #[] 68)).heap.size = w.heap.size + 1 + 1 + 1 := by simp
  have hone := ccells_all1 cs
  have hlen := ccells_size cs
  go_enter Try.func45, Try.ntmps45
  go_upto_region 1 with fail
  go_cut [5] (fun pv wx => ∃ b5 ad cp, pv = .pointer (some ⟨b5, 0, none⟩) ∧ LS6 g a cap zs w (w.heap.size + 1) b5 ad cp cs p wx)
  case first =>
    have hfin : ∀ (w2 : World) (ad2 : Option Addr) (cp2 : Nat), Below w.heap.size w w2 → w.heap.size + 1 + 1 ≤ w2.heap.size → w2.cell? ⟨w.heap.size + 1, 0, none⟩ = some (.slice none 0 0) → w2.frozen? ⟨w.heap.size + 1, 0, none⟩ = false → w2.ownsRow (w.heap.size + 2) 68 7 (.slice ad2 cs.length cp2) cs.length (ccells cs) → (∀ k, blk ad2 = some k → k < w2.heap.size) → ∃ b5 ad cp, Value.pointer (some ⟨w2.heap.size, 0, none⟩) = .pointer (some ⟨b5, 0, none⟩) ∧ LS6 g a cap zs w (w.heap.size + 1) b5 ad cp cs p (w2.alloc (.cells #[.slice ad2 cs.length cp2] 30)) := fun w2 ad2 cp2 hb2 hs2 c2 f2 hr2 hk2 => by
      have hba := below_oneD w2 (.cells #[.slice ad2 cs.length cp2] 30)
      exact ⟨w2.heap.size, ad2, cp2, rfl, ⟨(h.below hb2).below hba, gr_trans (gr_below hb2) (gr_below hba), cell_later hba c2, (hba.frozen (p := ⟨w.heap.size + 1, 0, none⟩) (by show w.heap.size + 1 < _; omega)).trans f2, by simp, by simp, owns_below hr2 hba, fun e => by have := hk2 _ e; omega, by omega⟩⟩
    cases adp with
    | some x =>
      have hnw : ∀ j u, (ccells cs)[j]? = some u → (((w.alloc (.cells #[.slice (some x) cs.length cpp] 30)).alloc (.cells #[.slice none 0 0] 30)).alloc (.cells #[] 68)).cell? (x.add j) = some u := by
        rcases hcs with rfl | ⟨bb, off, hx, hc⟩
        · intro j u hu; simp [ccells] at hu
        · cases hx
          exact cs_news (fun i hi => (hc i hi).later hal)
      go_wp2_with (first | (at_builtin; refine wpList_append_own _ rfl _ _ 28 rfl (w.heap.size + 2) 68 i0 _ 7 80 Try.underlying28 hi hz0 hz1 hzb rfl (by decide) (.slice (some ⟨w.heap.size + 1 + 1, 0, none⟩) 0 0) 0 (ccells []) rfl hown0 x cs.length cpp (ccells cs) rfl hlen hnw hone (by unfold maxLen; omega) (by omega) (by omega) ?_; intro v2 w2 hown2 hgrow2 hnn; obtain ⟨ad2, cp2, rfl⟩ := owns_slice hown2))
      have hb2 := hal.grown hgrow2 hal.size (fun j hj => by cases hj; simp; omega)
      have hs2 := hgrow2.size
      rw [hsz] at hs2
      have k2 := hgrow2.cell (a := ⟨w.heap.size + 1, 0, none⟩) k0 (by simp [Value.ownBlock])
      have kf2 : w2.frozen? ⟨w.heap.size + 1, 0, none⟩ = false := frozen_of (hgrow2.block (w.heap.size + 1) (by simp) (by simp [Value.ownBlock])) kf
      replace hown2 : w2.ownsRow (w.heap.size + 2) 68 7 (.slice ad2 cs.length cp2) cs.length (ccells cs) := by simpa [ccells] using hown2
      have hk2 : ∀ k, blk ad2 = some k → k < w2.heap.size := fun k hk => by
        rcases hown2.2 with ⟨h', _⟩ | ⟨gq, capq, curq, hv, _, h2, _⟩
        · injection h' with h1 _ _; subst h1; simp [blk] at hk
        · cases hv; simp [blk] at hk; subst hk; exact (Array.getElem?_eq_some_iff.1 h2).1
      have HF : Keep _ := ⟨hfin w2 ad2 cp2 hb2 (by omega) k2 kf2 hown2 hk2⟩
      clear hfin hnw hown0 hown2 hgrow2 hnn hb2 k2 kf2 hk2 k0 kf m0 hal
      go_wp2_with fail
      go_meet
      case rel => exact HF.out
    | none =>
      obtain rfl : cs = [] := by
        rcases hcs with h | ⟨bb, off, h, _⟩
        · exact h
        · cases h
      go_wp2_with (first | (at_builtin; refine wpList_append_nothing rfl _ _ 28 rfl (w.heap.size + 2) 68 i0 7 Try.underlying28 hi _ _ cpp _ rfl hown0 rfl ?_))
      have HF : Keep _ := ⟨hfin _ _ _ hal (by rw [hsz]; omega) k0 kf hown0 (fun k hk => by simp [blk] at hk; rw [hsz]; omega)⟩
      clear hfin hown0 k0 kf m0 hal
      go_meet
      case rel => first | exact HF.out | simpa using HF.out
  case rest =>
    obtain ⟨b5, ad, cp, rfl, hL⟩ := hcut
    obtain ⟨rs, hrs⟩ : ∃ rs, rs = w.heap.size + 1 := ⟨_, rfl⟩
    rw [← hrs] at hL ⊢
    clear hal k0 kf m0 hown0 hsz hone hlen hrs hcs
    have t0 := hL.tc
    go_upto_if 18 with fail
    clear t0
    go_cut [21] (fun _ wx => ∃ ad cp ds, LS6 g a cap zs w rs b5 ad cp ds p wx ∧ ds ≠ [] ∧ ds.length ≤ 300 ∧ TinyC 1000 5000 ds)
    case first =>
      have t1 := hL.tc
      have t2 := hL.tf
      by_cases h0 : cs = []
      · subst h0
        have hB : ((([] : List Ch).length : Int) == 0) = true := rfl
        have hba := below_oneD wc (.cells #[.string ⟨#[97]⟩, .bool false, .string ⟨#[]⟩, .bool false, .bool true, .string ⟨#[]⟩, .bool false] 68)
        have hLa := hL.later hba
        have hrn : (wc.alloc (.cells #[.string ⟨#[97]⟩, .bool false, .string ⟨#[]⟩, .bool false, .bool true, .string ⟨#[]⟩, .bool false] 68)).ownsRow (rs + 1) 68 7 (.slice (some ⟨wc.heap.size, 0, none⟩) ([(⟨⟨#[97]⟩, ⟨false, ⟨#[]⟩, false⟩, ⟨true, ⟨#[]⟩, false⟩⟩ : Ch)]).length 1) ([(⟨⟨#[97]⟩, ⟨false, ⟨#[]⟩, false⟩, ⟨true, ⟨#[]⟩, false⟩⟩ : Ch)]).length (ccells [⟨⟨#[97]⟩, ⟨false, ⟨#[]⟩, false⟩, ⟨true, ⟨#[]⟩, false⟩⟩]) :=
          ⟨rfl, .inr ⟨wc.heap.size, 1, _, rfl, by have := hL.lt; have := hL.ord; omega, heap_alloc_new _ _, Nat.le_refl _, by unfold maxLen; omega, rfl, rfl⟩⟩
        have HM : Keep _ := ⟨hLa.put hrn (fun e => by have := hL.lt; simp [blk] at e; omega)⟩
        have t1a := hLa.tc
        have t2a := hLa.tf
        clear hrn hLa hba hL
        go_wp2_with fail
        go_meet
        case rel => exact ⟨_, _, _, HM.out, by simp, by simp, fun c hc => by rw [List.mem_singleton.1 hc]; exact ⟨by show 1 ≤ 1000; omega, Nat.zero_le _, Nat.zero_le _⟩⟩
      · have hB : ((cs.length : Int) == 0) = false := by simp; exact h0
        have HM : Keep _ := ⟨hL⟩
        clear hL
        go_wp2_with fail
        go_meet
        case rel => exact ⟨_, _, _, HM.out, h0, hn, hT⟩
    case rest =>
      clear hL hT hn
      obtain ⟨ad, cp, ds, hL, hne, hn, hT⟩ := hcut
      have hpos : 0 < ds.length := List.length_pos_iff.2 hne
      have t0 := hL.tc
      go_wp2_with fail
      refine (pick_any g a cap zs p ds.length wc hL.rd (by omega) (by omega) (by omega)).mono ?_
      rintro e w4 ⟨k, rfl, hk, hg4, hR4⟩
      have hL4 := hL.step hg4 hR4
      clear hL hg4 hR4 t0
      obtain ⟨gb, rfl, hgb, hc⟩ : ∃ gb, ad = some ⟨gb, 0, none⟩ ∧ (rs + 1 ≤ gb ∧ gb < w4.heap.size) ∧ ChAt w4 gb (k * 7) ds[k] := by
        rcases hL4.cl with h0 | ⟨gb, e, h1, h2, h3⟩
        · exact absurd h0 hne
        · exact ⟨gb, e, ⟨h1, h2⟩, h3.2 k hk⟩
      obtain ⟨x0, x1, x2, x3, x4, x5, x6⟩ := hc
      have hkT := hT _ (List.getElem_mem hk)
      have hk' : (k : Int) < ds.length := by omega
      have t4 := hL4.tc
      have hba := below_oneD w4 (.cells #[.string ds[k].path, .bool ds[k].old.there, .string ds[k].old.text, .bool ds[k].old.runs, .bool ds[k].new.there, .string ds[k].new.text, .bool ds[k].new.runs] 68)
      have hL5 := hL4.later hba
      have hX : CBox w4.heap.size ds[k] (w4.alloc (.cells #[.string ds[k].path, .bool ds[k].old.there, .string ds[k].old.text, .bool ds[k].old.runs, .bool ds[k].new.there, .string ds[k].new.text, .bool ds[k].new.runs] 68)) := ⟨by simp, by simp, by simp, by simp, by simp, by simp, by simp, fun j => by simp, by simp⟩
      have HO : Keep (b5 < w4.heap.size ∧ gb < w4.heap.size ∧ rs < b5) := ⟨by have := hL4.lt; have := hL4.ord; omega⟩
      clear hba hL4
      go_upto_region 6 with fail
      generalize w4.alloc (.cells #[.string ds[k].path, .bool ds[k].old.there, .string ds[k].old.text, .bool ds[k].old.runs, .bool ds[k].new.there, .string ds[k].new.text, .bool ds[k].new.runs] 68) = w5 at *
      generalize w4.heap.size = xb at *
      go_wp2_with fail
      refine (pick_any g a cap zs (p + 1) 8 w5 hL5.rd (by omega) (by omega) (by omega)).mono ?_
      rintro e w6 ⟨y, rfl, hy, hg6, hR6⟩
      have hL6 := hL5.step hg6 hR6
      have hX6 := hX.grown hg6 (fun e => by have := HO.out; have := hL5.ord; cases e; omega)
      clear hL5 hg6 hR6 hX x0 x1 x2 x3 x4 x5 x6 t4
      have HGB : Keep _ := ⟨hL6.gbk hne⟩
      have HRM : Keep (ds.length ≤ cp) := ⟨hL6.room⟩
      by_cases q0 : y = 0
      · have hB0 : ((y : Int) == 0) = true := by simp; omega
        clear q0
        have z0 := hX6.c0
        have zf := hX6.fz
        have hxz := hkT.1
        go_wp2_with fail
        refine (spoilS_any g a cap zs (p + 1 + 1) ds[k].path w6 hL6.rd (by omega) (by omega)).mono ?_
        rintro e w7 ⟨o, rfl, ho, ⟨p7, hp7, hR7⟩, hg7⟩
        have hL7 := hL6.step hg7 hR7
        have hX7 := hX6.grown hg7 (fun e => by have := HO.out; have := hL6.ord; cases e; omega)
        have HX8 : Keep _ := ⟨hX7.sPath o⟩
        have HL8 : Keep _ := ⟨hL7.other (grown_set0 w7 xb 0 (.string o)) (by have := HO.out; omega) (by have := HO.out; simp [blk]; omega)⟩
        have z0' := hX7.c0
        have zf' := hX7.fz
        have hdz : o.size ≤ 1100 ∧ ds[k].old.text.size ≤ 10000 ∧ ds[k].new.text.size ≤ 10000 := by have := hkT; omega
        clear hL6 hX6 hL7 hX7 z0 zf hg7 hR7
        go_upto_region 30 with fail
        obtain ⟨W8, hW8⟩ : ∃ W8, W8 = w7.setCell ⟨xb, 0, none⟩ (.string o) := ⟨_, rfl⟩
        rw [← hW8]
        have hX8 := HX8.out
        have hL8 := HL8.out
        rw [← hW8] at hX8 hL8
        clear HX8 HL8 z0' zf' hW8
        change (⟨o, ds[k].old, ds[k].new⟩ : Ch).path.size ≤ 1100 ∧ (⟨o, ds[k].old, ds[k].new⟩ : Ch).old.text.size ≤ 10000 ∧ (⟨o, ds[k].old, ds[k].new⟩ : Ch).new.text.size ≤ 10000 at hdz
        obtain ⟨d, hd⟩ : ∃ d : Ch, d = ⟨o, ds[k].old, ds[k].new⟩ := ⟨_, rfl⟩
        rw [← hd] at hX8 hdz
        clear hd
        have z0 := hX8.c0
        have z1 := hX8.c1
        have z2 := hX8.c2
        have z3 := hX8.c3
        have z4 := hX8.c4
        have z5 := hX8.c5
        have z6 := hX8.c6
        have t8 := hL8.tc
        obtain ⟨fz8, u0, u1, u2, u3, u4, u5, u6⟩ : (∀ j, W8.frozen? ⟨gb, j, none⟩ = false) ∧ ChAt W8 gb (k * 7) ds[k] := by
          rcases hL8.cl with h0 | ⟨g', e, _, _, h3, h4⟩
          · exact absurd h0 hne
          · cases e; exact ⟨h3, h4 k hk⟩
        have HT := hL8.turn (k := k) hk d (p0 := p) (K := 20) (by omega)
        unfold seven at HT
        obtain ⟨t9, r9, rf9, b1, b2⟩ := HT
        have hTn : TinyC 1100 10000 (ds.set k d) := (hT.wide (by omega) (by omega)).set hdz
        have HLN : Keep ((ds.set k d).length = ds.length) := ⟨by simp⟩
        have HB : Keep _ := ⟨b1⟩
        have HC : Keep _ := ⟨b2⟩
        clear hL8 hX8 b1 b2 hT hkT
        generalize ds.set k d = us at *
        go_wp2
        refine bodyPost_ret (v := .agg #[.slice (some ⟨gb, 0, none⟩) ds.length cp]) ?_ rfl ⟨some ⟨gb, 0, none⟩, cp, us, by rw [HLN.out], HB.out, by rw [HLN.out]; exact HRM.out, by rw [HLN.out]; omega, hTn, HC.out⟩
        go_light
        simp [results, Try.results45, go_sem, r9]
      have hB0 : ((y : Int) == 0) = false := by simp; omega
      by_cases q1 : y = 1
      · have hB1 : ((y : Int) == 1) = true := by simp; omega
        clear q0 q1
        have z1 := hX6.c1
        have z2 := hX6.c2
        have z3 := hX6.c3
        have z4 := hX6.c4
        have z5 := hX6.c5
        have z6 := hX6.c6
        have zf := hX6.fz
        have HX8 : Keep _ := ⟨hX6.sOld⟩
        have HL8 : Keep (LS6 g a cap zs w rs b5 (some ⟨gb, 0, none⟩) cp ds (p + 1 + 1) (((w6.setCell ⟨xb, 1, none⟩ (.bool ds[k].new.there)).setCell ⟨xb, 2, none⟩ (.string ds[k].new.text)).setCell ⟨xb, 3, none⟩ (.bool ds[k].new.runs))) := ⟨hL6.other (xb := xb) (gr_set3 w6 xb _ _ _) (by have := HO.out; omega) (by have := HO.out; simp [blk]; omega)⟩
        have hdz : ds[k].path.size ≤ 1100 ∧ ds[k].new.text.size ≤ 10000 ∧ ds[k].new.text.size ≤ 10000 := by have := hkT; omega
        clear hL6 hX6
        go_upto_region 30 with fail
        obtain ⟨W8, hW8⟩ : ∃ W8, W8 = ((w6.setCell ⟨xb, 1, none⟩ (.bool ds[k].new.there)).setCell ⟨xb, 2, none⟩ (.string ds[k].new.text)).setCell ⟨xb, 3, none⟩ (.bool ds[k].new.runs) := ⟨_, rfl⟩
        rw [← hW8]
        have hX8 := HX8.out
        have hL8 := HL8.out
        rw [← hW8] at hX8 hL8
        clear HX8 HL8 zf hW8 z1 z2 z3 z4 z5 z6
        change (⟨ds[k].path, ds[k].new, ds[k].new⟩ : Ch).path.size ≤ 1100 ∧ (⟨ds[k].path, ds[k].new, ds[k].new⟩ : Ch).old.text.size ≤ 10000 ∧ (⟨ds[k].path, ds[k].new, ds[k].new⟩ : Ch).new.text.size ≤ 10000 at hdz
        obtain ⟨d, hd⟩ : ∃ d : Ch, d = ⟨ds[k].path, ds[k].new, ds[k].new⟩ := ⟨_, rfl⟩
        rw [← hd] at hX8 hdz
        clear hd
        have z0 := hX8.c0
        have z1 := hX8.c1
        have z2 := hX8.c2
        have z3 := hX8.c3
        have z4 := hX8.c4
        have z5 := hX8.c5
        have z6 := hX8.c6
        have t8 := hL8.tc
        obtain ⟨fz8, u0, u1, u2, u3, u4, u5, u6⟩ : (∀ j, W8.frozen? ⟨gb, j, none⟩ = false) ∧ ChAt W8 gb (k * 7) ds[k] := by
          rcases hL8.cl with h0 | ⟨g', e, _, _, h3, h4⟩
          · exact absurd h0 hne
          · cases e; exact ⟨h3, h4 k hk⟩
        have HT := hL8.turn (k := k) hk d (p0 := p) (K := 20) (by omega)
        unfold seven at HT
        obtain ⟨t9, r9, rf9, b1, b2⟩ := HT
        have hTn : TinyC 1100 10000 (ds.set k d) := (hT.wide (by omega) (by omega)).set hdz
        have HLN : Keep ((ds.set k d).length = ds.length) := ⟨by simp⟩
        have HB : Keep _ := ⟨b1⟩
        have HC : Keep _ := ⟨b2⟩
        clear hL8 hX8 b1 b2 hT hkT
        generalize ds.set k d = us at *
        go_wp2
        refine bodyPost_ret (v := .agg #[.slice (some ⟨gb, 0, none⟩) ds.length cp]) ?_ rfl ⟨some ⟨gb, 0, none⟩, cp, us, by rw [HLN.out], HB.out, by rw [HLN.out]; exact HRM.out, by rw [HLN.out]; omega, hTn, HC.out⟩
        go_light
        simp [results, Try.results45, go_sem, r9]
      have hB1 : ((y : Int) == 1) = false := by simp; omega
      by_cases q2 : y = 2
      · have hB2 : ((y : Int) == 2) = true := by simp; omega
        clear q0 q1 q2
        have z1 := hX6.c1
        have zf := hX6.fz
        have HX8 : Keep _ := ⟨hX6.sThere (!ds[k].old.there)⟩
        have HL8 : Keep (LS6 g a cap zs w rs b5 (some ⟨gb, 0, none⟩) cp ds (p + 1 + 1) (w6.setCell ⟨xb, 1, none⟩ (.bool (!ds[k].old.there)))) := ⟨hL6.other (xb := xb) (grown_set0 w6 xb 1 _) (by have := HO.out; omega) (by have := HO.out; simp [blk]; omega)⟩
        have hdz : ds[k].path.size ≤ 1100 ∧ ds[k].old.text.size ≤ 10000 ∧ ds[k].new.text.size ≤ 10000 := by have := hkT; omega
        clear hL6 hX6
        go_upto_region 30 with fail
        obtain ⟨W8, hW8⟩ : ∃ W8, W8 = w6.setCell ⟨xb, 1, none⟩ (.bool (!ds[k].old.there)) := ⟨_, rfl⟩
        rw [← hW8]
        have hX8 := HX8.out
        have hL8 := HL8.out
        rw [← hW8] at hX8 hL8
        clear HX8 HL8 zf hW8 z1
        change (⟨ds[k].path, ⟨!ds[k].old.there, ds[k].old.text, ds[k].old.runs⟩, ds[k].new⟩ : Ch).path.size ≤ 1100 ∧ (⟨ds[k].path, ⟨!ds[k].old.there, ds[k].old.text, ds[k].old.runs⟩, ds[k].new⟩ : Ch).old.text.size ≤ 10000 ∧ (⟨ds[k].path, ⟨!ds[k].old.there, ds[k].old.text, ds[k].old.runs⟩, ds[k].new⟩ : Ch).new.text.size ≤ 10000 at hdz
        obtain ⟨d, hd⟩ : ∃ d : Ch, d = ⟨ds[k].path, ⟨!ds[k].old.there, ds[k].old.text, ds[k].old.runs⟩, ds[k].new⟩ := ⟨_, rfl⟩
        rw [← hd] at hX8 hdz
        clear hd
        have z0 := hX8.c0
        have z1 := hX8.c1
        have z2 := hX8.c2
        have z3 := hX8.c3
        have z4 := hX8.c4
        have z5 := hX8.c5
        have z6 := hX8.c6
        have t8 := hL8.tc
        obtain ⟨fz8, u0, u1, u2, u3, u4, u5, u6⟩ : (∀ j, W8.frozen? ⟨gb, j, none⟩ = false) ∧ ChAt W8 gb (k * 7) ds[k] := by
          rcases hL8.cl with h0 | ⟨g', e, _, _, h3, h4⟩
          · exact absurd h0 hne
          · cases e; exact ⟨h3, h4 k hk⟩
        have HT := hL8.turn (k := k) hk d (p0 := p) (K := 20) (by omega)
        unfold seven at HT
        obtain ⟨t9, r9, rf9, b1, b2⟩ := HT
        have hTn : TinyC 1100 10000 (ds.set k d) := (hT.wide (by omega) (by omega)).set hdz
        have HLN : Keep ((ds.set k d).length = ds.length) := ⟨by simp⟩
        have HB : Keep _ := ⟨b1⟩
        have HC : Keep _ := ⟨b2⟩
        clear hL8 hX8 b1 b2 hT hkT
        generalize ds.set k d = us at *
        go_wp2
        refine bodyPost_ret (v := .agg #[.slice (some ⟨gb, 0, none⟩) ds.length cp]) ?_ rfl ⟨some ⟨gb, 0, none⟩, cp, us, by rw [HLN.out], HB.out, by rw [HLN.out]; exact HRM.out, by rw [HLN.out]; omega, hTn, HC.out⟩
        go_light
        simp [results, Try.results45, go_sem, r9]
      have hB2 : ((y : Int) == 2) = false := by simp; omega
      by_cases q3 : y = 3
      · have hB3 : ((y : Int) == 3) = true := by simp; omega
        clear q0 q1 q2 q3
        have hmany : ∀ (z : Nat) (W : World), z < 2 → Calls Try.prog 28 #[.string ⟨#[116]⟩, .int .i64 (1500 + (z : Int))] W fun e w' => ∃ o : ByteArray, e = .returned (.string o) ∧ o.size ≤ 1501 ∧ W = w' := fun z W hz => by
          have := many_any ⟨#[116]⟩ (1500 + z) W (by show 1 * (1500 + z) ≤ _; omega) (by omega) (by show 1 ≤ 1; omega) (by show 1 ≤ _; omega)
          rw [show ((1500 + z : Nat) : Int) = 1500 + (z : Int) by omega] at this
          exact this.mono (fun e w' ⟨o, h1, h2, h3⟩ => ⟨o, h1, by rw [h2]; show 1 * (1500 + z) ≤ _; omega, h3⟩)
        go_wp2_with fail
        refine (pick_any g a cap zs (p + 1 + 1) 2 w6 hL6.rd (by omega) (by omega) (by omega)).mono ?_
        rintro e w7 ⟨z, rfl, hz, hg7, hR7⟩
        have hL7 := hL6.step hg7 hR7
        have hX7 := hX6.grown hg7 (fun e => by have := HO.out; have := hL6.ord; cases e; omega)
        clear hL6 hX6 hg7 hR7
        obtain ⟨M, hM, hwM⟩ : ∃ M : Int, 1500 + (z : Int) = M ∧ IntKind.i64.wrap (1500 + (z : Int)) = M := ⟨_, rfl, (by rw [IntKind.wrap_i64]; omega)⟩
        have hmM := hM ▸ hmany z w7 hz
        clear hM hmany
        go_wp2_with fail
        refine hmM.mono ?_
        rintro e w7' ⟨o, rfl, ho, rfl⟩
        have z5 := hX7.c5
        have zf := hX7.fz
        have HX8 : Keep _ := ⟨hX7.sNew o⟩
        have HL8 : Keep _ := ⟨hL7.other (grown_set0 w7 xb 5 (.string o)) (by have := HO.out; omega) (by have := HO.out; simp [blk]; omega)⟩
        have hdz : ds[k].path.size ≤ 1100 ∧ ds[k].old.text.size ≤ 10000 ∧ o.size ≤ 10000 := by have := hkT; omega
        clear hL7 hX7 hmM
        go_upto_region 30 with fail
        obtain ⟨W8, hW8⟩ : ∃ W8, W8 = w7.setCell ⟨xb, 5, none⟩ (.string o) := ⟨_, rfl⟩
        rw [← hW8]
        have hX8 := HX8.out
        have hL8 := HL8.out
        rw [← hW8] at hX8 hL8
        clear HX8 HL8 z5 zf hW8
        change (⟨ds[k].path, ds[k].old, ⟨ds[k].new.there, o, ds[k].new.runs⟩⟩ : Ch).path.size ≤ 1100 ∧ (⟨ds[k].path, ds[k].old, ⟨ds[k].new.there, o, ds[k].new.runs⟩⟩ : Ch).old.text.size ≤ 10000 ∧ (⟨ds[k].path, ds[k].old, ⟨ds[k].new.there, o, ds[k].new.runs⟩⟩ : Ch).new.text.size ≤ 10000 at hdz
        obtain ⟨d, hd⟩ : ∃ d : Ch, d = ⟨ds[k].path, ds[k].old, ⟨ds[k].new.there, o, ds[k].new.runs⟩⟩ := ⟨_, rfl⟩
        rw [← hd] at hX8 hdz
        clear hd
        have z0 := hX8.c0
        have z1 := hX8.c1
        have z2 := hX8.c2
        have z3 := hX8.c3
        have z4 := hX8.c4
        have z5 := hX8.c5
        have z6 := hX8.c6
        have t8 := hL8.tc
        obtain ⟨fz8, u0, u1, u2, u3, u4, u5, u6⟩ : (∀ j, W8.frozen? ⟨gb, j, none⟩ = false) ∧ ChAt W8 gb (k * 7) ds[k] := by
          rcases hL8.cl with h0 | ⟨g', e, _, _, h3, h4⟩
          · exact absurd h0 hne
          · cases e; exact ⟨h3, h4 k hk⟩
        have HT := hL8.turn (k := k) hk d (p0 := p) (K := 20) (by omega)
        unfold seven at HT
        obtain ⟨t9, r9, rf9, b1, b2⟩ := HT
        have hTn : TinyC 1100 10000 (ds.set k d) := (hT.wide (by omega) (by omega)).set hdz
        have HLN : Keep ((ds.set k d).length = ds.length) := ⟨by simp⟩
        have HB : Keep _ := ⟨b1⟩
        have HC : Keep _ := ⟨b2⟩
        clear hL8 hX8 b1 b2 hT hkT
        generalize ds.set k d = us at *
        go_wp2
        refine bodyPost_ret (v := .agg #[.slice (some ⟨gb, 0, none⟩) ds.length cp]) ?_ rfl ⟨some ⟨gb, 0, none⟩, cp, us, by rw [HLN.out], HB.out, by rw [HLN.out]; exact HRM.out, by rw [HLN.out]; omega, hTn, HC.out⟩
        go_light
        simp [results, Try.results45, go_sem, r9]
      have hB3 : ((y : Int) == 3) = false := by simp; omega
      by_cases q4 : y = 4
      · have hB4 : ((y : Int) == 4) = true := by simp; omega
        clear q0 q1 q2 q3 q4
        have z2 := hX6.c2
        have zf := hX6.fz
        have hcI : ¬ 9223372036854775807 < ds[k].old.text.size + 5 := by have := hkT; omega
        have HX8 : Keep _ := ⟨hX6.sText (ds[k].old.text ++ ⟨#[111, 116, 104, 101, 114]⟩)⟩
        have HL8 : Keep (LS6 g a cap zs w rs b5 (some ⟨gb, 0, none⟩) cp ds (p + 1 + 1) (w6.setCell ⟨xb, 2, none⟩ (.string (ds[k].old.text ++ ⟨#[111, 116, 104, 101, 114]⟩)))) := ⟨hL6.other (xb := xb) (grown_set0 w6 xb 2 _) (by have := HO.out; omega) (by have := HO.out; simp [blk]; omega)⟩
        have hdz : ds[k].path.size ≤ 1100 ∧ (ds[k].old.text ++ ⟨#[111, 116, 104, 101, 114]⟩).size ≤ 10000 ∧ ds[k].new.text.size ≤ 10000 := by have := hkT; rw [ByteArray.size_append]; show _ ∧ _ + 5 ≤ _ ∧ _; omega
        clear hL6 hX6
        go_upto_region 30 with fail
        obtain ⟨W8, hW8⟩ : ∃ W8, W8 = w6.setCell ⟨xb, 2, none⟩ (.string (ds[k].old.text ++ ⟨#[111, 116, 104, 101, 114]⟩)) := ⟨_, rfl⟩
        rw [← hW8]
        have hX8 := HX8.out
        have hL8 := HL8.out
        rw [← hW8] at hX8 hL8
        clear HX8 HL8 zf hW8 z2
        change (⟨ds[k].path, ⟨ds[k].old.there, ds[k].old.text ++ ⟨#[111, 116, 104, 101, 114]⟩, ds[k].old.runs⟩, ds[k].new⟩ : Ch).path.size ≤ 1100 ∧ (⟨ds[k].path, ⟨ds[k].old.there, ds[k].old.text ++ ⟨#[111, 116, 104, 101, 114]⟩, ds[k].old.runs⟩, ds[k].new⟩ : Ch).old.text.size ≤ 10000 ∧ (⟨ds[k].path, ⟨ds[k].old.there, ds[k].old.text ++ ⟨#[111, 116, 104, 101, 114]⟩, ds[k].old.runs⟩, ds[k].new⟩ : Ch).new.text.size ≤ 10000 at hdz
        obtain ⟨d, hd⟩ : ∃ d : Ch, d = ⟨ds[k].path, ⟨ds[k].old.there, ds[k].old.text ++ ⟨#[111, 116, 104, 101, 114]⟩, ds[k].old.runs⟩, ds[k].new⟩ := ⟨_, rfl⟩
        rw [← hd] at hX8 hdz
        clear hd
        have z0 := hX8.c0
        have z1 := hX8.c1
        have z2 := hX8.c2
        have z3 := hX8.c3
        have z4 := hX8.c4
        have z5 := hX8.c5
        have z6 := hX8.c6
        have t8 := hL8.tc
        obtain ⟨fz8, u0, u1, u2, u3, u4, u5, u6⟩ : (∀ j, W8.frozen? ⟨gb, j, none⟩ = false) ∧ ChAt W8 gb (k * 7) ds[k] := by
          rcases hL8.cl with h0 | ⟨g', e, _, _, h3, h4⟩
          · exact absurd h0 hne
          · cases e; exact ⟨h3, h4 k hk⟩
        have HT := hL8.turn (k := k) hk d (p0 := p) (K := 20) (by omega)
        unfold seven at HT
        obtain ⟨t9, r9, rf9, b1, b2⟩ := HT
        have hTn : TinyC 1100 10000 (ds.set k d) := (hT.wide (by omega) (by omega)).set hdz
        have HLN : Keep ((ds.set k d).length = ds.length) := ⟨by simp⟩
        have HB : Keep _ := ⟨b1⟩
        have HC : Keep _ := ⟨b2⟩
        clear hL8 hX8 b1 b2 hT hkT
        generalize ds.set k d = us at *
        go_wp2
        refine bodyPost_ret (v := .agg #[.slice (some ⟨gb, 0, none⟩) ds.length cp]) ?_ rfl ⟨some ⟨gb, 0, none⟩, cp, us, by rw [HLN.out], HB.out, by rw [HLN.out]; exact HRM.out, by rw [HLN.out]; omega, hTn, HC.out⟩
        go_light
        simp [results, Try.results45, go_sem, r9]
      have hB4 : ((y : Int) == 4) = false := by simp; omega
      by_cases q5 : y = 5
      · have hB5 : ((y : Int) == 5) = true := by simp; omega
        clear q0 q1 q2 q3 q4 q5
        have z0 := hX6.c0
        have z1 := hX6.c1
        have z2 := hX6.c2
        have z3 := hX6.c3
        have z4 := hX6.c4
        have z5 := hX6.c5
        have z6 := hX6.c6
        have t6 := hL6.tc
        have hba := below_oneD w6 (.cells #[.string ds[k].path, .bool ds[k].old.there, .string ds[k].old.text, .bool ds[k].old.runs, .bool ds[k].new.there, .string ds[k].new.text, .bool ds[k].new.runs] 68)
        have hLa := hL6.later hba
        have hlt6 := hL6.lt
        have hrl := hL6.ltr
        have t6a : ∀ o, (w6.alloc o).cell? ⟨b5, 0, none⟩ = some (.slice (some ⟨gb, 0, none⟩) ds.length cp) := fun o => cell_later (below_oneD w6 o) t6
        go_wp2_with (first | (at_builtin; refine wpList_append_lies _ rfl _ _ 28 rfl (rs + 1) 68 i0 _ 7 80 Try.underlying28 hi hz0 hz1 hzb rfl (by decide) (.slice (some ⟨gb, 0, none⟩) ds.length cp) ds.length (ccells ds) rfl hLa.row ⟨w6.heap.size, 0, none⟩ 1 1 (chL ds[k]) rfl rfl (news_7 w6 ds[k] _ _ rfl) (one_7 _) (by omega) (by unfold maxLen; omega) (by omega) (by simp; omega) (w6.heap.size + 1) (by simp) ?_; intro g3 cap3 w7 hown3 hgrow3 hat3 hlt3; obtain ⟨hc3, hf3, hL7⟩ := hLa.app (d := ds[k]) hgrow3 hown3 (by rcases hat3 with h3 | h3 <;> first | (left; simpa [Value.ownBlock] using h3) | (left; simpa [Value.ownBlock] using h3.symm) | (right; omega)); have t9 := hL7.tc; rw [show (ds ++ [ds[k]]).length = ds.length + 1 by simp] at t9; have r9 := hL7.rc; have rf9 := hL7.rf))
        obtain ⟨b1, b2⟩ := hL7.back (p0 := p) (K := 20) (by omega)
        have hR9 := hL7.room
        have HLN : (ds ++ [ds[k]]).length = ds.length + 1 := by simp
        rw [HLN] at b1 b2
        refine bodyPost_ret (v := .agg #[.slice (some ⟨g3, 0, none⟩) (ds.length + 1) cap3]) ?_ rfl ⟨some ⟨g3, 0, none⟩, cap3, ds ++ [ds[k]], by rw [HLN], b1, hR9, by rw [HLN]; omega, (hT.wide (by omega) (by omega)).snoc (by have := hkT; omega), b2⟩
        go_light
        simp [results, Try.results45, go_sem, r9]
      have hB5 : ((y : Int) == 5) = false := by simp; omega
      by_cases q6 : y = 6
      · have hB6 : ((y : Int) == 6) = true := by simp; omega
        clear q0 q1 q2 q3 q4 q5 q6
        obtain ⟨adB, nB, cB, HnB, hcutB, hnewB⟩ := cutC_hi gb cp ds k hk HRM.out
        have HcutB : Keep _ := ⟨hcutB⟩
        have HcutA : Keep _ := ⟨cutC_lo gb cp ds.length k (by have := HRM.out; omega) (by have := HRM.out; omega)⟩
        have HnewB : Keep _ := ⟨hnewB⟩
        have HH : Keep (gb < w6.heap.size ∧ b5 < w6.heap.size) := ⟨⟨HGB.out.2.1, hL6.lt⟩⟩
        have HLd : Keep (LS6 g a cap zs w rs b5 (some ⟨gb, 0, none⟩) cp ds (p + 1 + 1) w6.drew) := ⟨hL6.later (Below.refl _ _).drew⟩
        have HTd : Keep (TinyC 1100 10000 (ds.take k ++ ds.drop (k + 1)) ∧ (ds.take k ++ ds.drop (k + 1)).length ≤ 310) := ⟨⟨(hT.wide (by omega) (by omega)).erase, by simp; omega⟩⟩
        have HTK : Keep ((ds.take k).length = k) := ⟨by simp; omega⟩
        have hb5 : (b5 : Nat) < w6.heap.size := hL6.lt
        clear hcutB hnewB hL6 hX6 hT hkT
        go_upto_region 28 with fail
        refine (wpIn_wide (n := 0)).1 ?_
        refine wpIn_region_inv0 (by kernel_rfl) (by kernel_rfl) (fun T0 => EVL T0 dsT (tabT b5 gb cp ds.length k adB nB cB) (exT (MkC w6.heap.size g a cap zs w rs b5 gb cp ds (p + 1 + 1)) k ds) (IT (fun W => LS6 g a cap zs w rs b5 (some ⟨gb, 0, none⟩) cp ds (p + 1 + 1) W ∧ w6.heap.size ≤ W.heap.size) (fun W => ∃ ad3 cp3, LS6 g a cap zs w rs b5 ad3 cp3 (ds.take k ++ ds.drop (k + 1)) (p + 1 + 1) W))) ?_ ?_ ?_
        · exact ⟨Sl2.start _, ⟨fun _ => ⟨HLd.out, Nat.le_refl _⟩, fun e => by rw [getD_repl] at e; cases e⟩, fun i _ hL => by rw [getD_repl] at hL; cases hL⟩
        · intro L a2 w9 hinv hall
          obtain ⟨ad3, cp3, hL9⟩ := hinv.wd.2 (hall 13 (by decide))
          have HXX : Keep _ := ⟨hinv.sl.act⟩
          clear hinv hall
          rw [HXX.out]
          simp only [updL, dsT, List.contains_cons, List.contains_nil, Nat.reduceAdd, Nat.reduceBEq, Bool.or_false, cond_false, cond_true, Bool.or_true]
          have t9 := hL9.tc
          have r9 := hL9.rc
          have rf9 := hL9.rf
          obtain ⟨b1, b2⟩ := hL9.back (p0 := p) (K := 20) (by omega)
          have HB : Keep _ := ⟨b1⟩
          have HC : Keep _ := ⟨b2⟩
          have HR9 : Keep _ := ⟨hL9.room⟩
          have HTN : Keep (TinyC 1100 10000 (ds.take k ++ ds.drop (k + 1)) ∧ ((ds.take k ++ ds.drop (k + 1))).length ≤ 310) := ⟨HTd.out⟩
          clear hL9 b1 b2 HTd HLd
          generalize ds.take k ++ ds.drop (k + 1) = us at *
          go_wp2
          refine bodyPost_ret (v := .agg #[.slice ad3 us.length cp3]) ?_ rfl ⟨ad3, cp3, us, rfl, HB.out, HR9.out, HTN.out.2, HTN.out.1, HC.out⟩
          go_light
          simp [results, Try.results45, go_sem, r9]
        · intro L a2 w9 i o hinv hcl hL ho hdep
          have hin : i < 14 := (Array.getElem?_eq_some_iff.1 ho).1
          unfold wpOpIn
          rw [ho]
          have q13 : ∀ i, i < 13 → L.getD i true = false → L.getD 13 false = false := fun i hi h9 => by
            cases hb : L.getD 13 false with
            | false => rfl
            | true =>
              exfalso
              have h := fun e he hb' => hcl 13 _ rfl hb e he hb'
              match i, hi, h9 with
              | 0, _, h9 => have h := h ⟨0, .phase⟩ (by simp) rfl; rw [getD_ft h9] at h; cases h
              | 1, _, h9 => have h := h ⟨1, .phase⟩ (by simp) rfl; rw [getD_ft h9] at h; cases h
              | 2, _, h9 => have h := h ⟨2, .phase⟩ (by simp) rfl; rw [getD_ft h9] at h; cases h
              | 3, _, h9 => have h := h ⟨3, .phase⟩ (by simp) rfl; rw [getD_ft h9] at h; cases h
              | 4, _, h9 => have h := h ⟨4, .phase⟩ (by simp) rfl; rw [getD_ft h9] at h; cases h
              | 5, _, h9 => have h := h ⟨5, .phase⟩ (by simp) rfl; rw [getD_ft h9] at h; cases h
              | 6, _, h9 => have h := h ⟨6, .phase⟩ (by simp) rfl; rw [getD_ft h9] at h; cases h
              | 7, _, h9 => have h := h ⟨7, .phase⟩ (by simp) rfl; rw [getD_ft h9] at h; cases h
              | 8, _, h9 => have h := h ⟨8, .phase⟩ (by simp) rfl; rw [getD_ft h9] at h; cases h
              | 9, _, h9 => have h := h ⟨9, .phase⟩ (by simp) rfl; rw [getD_ft h9] at h; cases h
              | 10, _, h9 => have h := h ⟨10, .phase⟩ (by simp) rfl; rw [getD_ft h9] at h; cases h
              | 11, _, h9 => have h := h ⟨11, .data⟩ (by simp) rfl; rw [getD_ft h9] at h; cases h
              | 12, _, h9 => have h := h ⟨12, .data⟩ (by simp) rfl; rw [getD_ft h9] at h; cases h
          clear hcl
          match i, hin, hL, ho, hdep with
          | 0, _, hL, ho, hdep =>
            injection ho with ho; subst ho
            dsimp only
            rw [if_pos (by rfl)]
            refine ⟨fun f _ => trivial, ?_⟩
            obtain ⟨hA9, hS9⟩ := hinv.wd.1 (q13 0 (by omega) hL)
            go_simp
            exact hinv.step ndT (exT_0 hL) (i := 0) (by decide) (by show 111 < 131; decide) (fun u hu => by cases hu) ⟨fun _ _ => MkC.start hA9 HH.out hS9, fun e => by omega, fun e => by omega⟩ (hinv.wd.on (by omega) (q13 0 (by omega) hL) (fun h => ⟨h.1.later (below_oneD _ _), Nat.le_trans h.2 (by simp)⟩))
          | 1, _, hL, ho, hdep =>
            injection ho with ho; subst ho
            dsimp only
            rw [if_pos (by rfl)]
            refine ⟨fun f _ => trivial, ?_⟩
            have e5 : a2.tmps[5]?.getD undef = .pointer (some ⟨b5, 0, none⟩) := hinv.sl.old (by decide)
            go_simp
            exact hinv.step ndT (exT_pure (by omega) (by omega) (by omega) (by omega)) (i := 1) (by decide) (by show 112 < 131; decide) (fun u hu => by cases hu; rfl) (exT_no (by omega) (by omega) (by omega)) (hinv.wd.pure (by omega))
          | 2, _, hL, ho, hdep =>
            injection ho with ho; subst ho
            dsimp only
            rw [if_pos (by rfl)]
            refine ⟨fun f _ => trivial, ?_⟩
            have e112 : a2.tmps[112]?.getD undef = .pointer (some ⟨b5, 0, none⟩) := hinv.sl.new (i := 1) (by decide) rfl (hdep ⟨1, .data⟩ (by simp) rfl)
            have z0 := (hinv.wd.1 (q13 2 (by omega) hL)).1.tc
            go_simp
            exact hinv.step ndT (exT_pure (by omega) (by omega) (by omega) (by omega)) (i := 2) (by decide) (by show 113 < 131; decide) (fun u hu => by cases hu; rfl) (exT_no (by omega) (by omega) (by omega)) (hinv.wd.pure (by omega))
          | 3, _, hL, ho, hdep =>
            injection ho with ho; subst ho
            dsimp only
            rw [if_pos (by rfl)]
            refine ⟨fun f _ => trivial, ?_⟩
            have e6 : a2.tmps[6]?.getD undef = .int .i64 k := hinv.sl.old (by decide)
            go_simp
            exact hinv.step ndT (exT_pure (by omega) (by omega) (by omega) (by omega)) (i := 3) (by decide) (by show 114 < 131; decide) (fun u hu => by cases hu; rfl) (exT_no (by omega) (by omega) (by omega)) (hinv.wd.pure (by omega))
          | 4, _, hL, ho, hdep =>
            injection ho with ho; subst ho
            dsimp only
            rw [if_pos (by rfl)]
            refine ⟨fun f _ => trivial, ?_⟩
            have e113 : a2.tmps[113]?.getD undef = .slice (some ⟨gb, 0, none⟩) ds.length cp := hinv.sl.new (i := 2) (by decide) rfl (hdep ⟨2, .data⟩ (by simp) rfl)
            have e114 : a2.tmps[114]?.getD undef = .int .i64 k := hinv.sl.new (i := 3) (by decide) rfl (hdep ⟨3, .data⟩ (by simp) rfl)
            have hcA := HcutA.out w9
            go_simp
            exact hinv.step ndT (exT_pure (by omega) (by omega) (by omega) (by omega)) (i := 4) (by decide) (by show 115 < 131; decide) (fun u hu => by cases hu; rfl) (exT_no (by omega) (by omega) (by omega)) (hinv.wd.pure (by omega))
          | 5, _, hL, ho, hdep =>
            injection ho with ho; subst ho
            dsimp only
            rw [if_pos (by rfl)]
            have hx0 := (hinv.ex 0 (by decide) (hdep ⟨0, .data⟩ (by simp) rfl)).1 rfl (getD_ft hL)
            have ev := hinv.sl.sl 4 (by decide) _ rfl (hdep ⟨4, .data⟩ (by simp) rfl)
            have hn9 : ∀ j u, (ccells (ds.take k))[j]? = some u → w9.cell? ((⟨gb, 0, none⟩ : Addr).add j) = some u := by have := cl_news hx0.ld.cl 0 k; simpa using this
            obtain ⟨v', W', hr3, ad3, cp3, rfl, hM⟩ := hx0.app i0 _ hi hz0 hz1 hzb rfl ⟨gb, 0, none⟩ cp (ds.take k) hn9 (by simp; omega) 28
            rw [HTK.out] at hr3
            refine wpIn_appendZ _ _ _ rfl rfl ev hr3 ?_
            exact hinv.step ndT (exT_5 hL) (i := 5) (by decide) (by show 116 < 131; decide) (fun u hu => by cases hu) ⟨fun e => by omega, fun _ => ⟨by rw [getD_set_ne false (by omega)]; exact hdep ⟨0, .data⟩ (by simp) rfl, fun _ => ⟨ad3, cp3, rfl, hM⟩⟩, fun e => by omega⟩ (hinv.wd.on (by omega) (q13 5 (by omega) hL) (fun _ => ⟨hM.ld, hM.sz⟩))
          | 6, _, hL, ho, hdep =>
            injection ho with ho; subst ho
            dsimp only
            rw [if_pos (by rfl)]
            refine ⟨fun f _ => trivial, ?_⟩
            have e5 : a2.tmps[5]?.getD undef = .pointer (some ⟨b5, 0, none⟩) := hinv.sl.old (by decide)
            go_simp
            exact hinv.step ndT (exT_pure (by omega) (by omega) (by omega) (by omega)) (i := 6) (by decide) (by show 117 < 131; decide) (fun u hu => by cases hu; rfl) (exT_no (by omega) (by omega) (by omega)) (hinv.wd.pure (by omega))
          | 7, _, hL, ho, hdep =>
            injection ho with ho; subst ho
            dsimp only
            rw [if_pos (by rfl)]
            refine ⟨fun f _ => trivial, ?_⟩
            have e117 : a2.tmps[117]?.getD undef = .pointer (some ⟨b5, 0, none⟩) := hinv.sl.new (i := 6) (by decide) rfl (hdep ⟨6, .data⟩ (by simp) rfl)
            have z0 := (hinv.wd.1 (q13 7 (by omega) hL)).1.tc
            go_simp
            exact hinv.step ndT (exT_pure (by omega) (by omega) (by omega) (by omega)) (i := 7) (by decide) (by show 118 < 131; decide) (fun u hu => by cases hu; rfl) (exT_no (by omega) (by omega) (by omega)) (hinv.wd.pure (by omega))
          | 8, _, hL, ho, hdep =>
            injection ho with ho; subst ho
            dsimp only
            rw [if_pos (by rfl)]
            refine ⟨fun f _ => trivial, ?_⟩
            have e6 : a2.tmps[6]?.getD undef = .int .i64 k := hinv.sl.old (by decide)
            go_simp
            exact hinv.step ndT (exT_pure (by omega) (by omega) (by omega) (by omega)) (i := 8) (by decide) (by show 119 < 131; decide) (fun u hu => by cases hu; rfl) (exT_no (by omega) (by omega) (by omega)) (hinv.wd.pure (by omega))
          | 9, _, hL, ho, hdep =>
            injection ho with ho; subst ho
            dsimp only
            rw [if_pos (by rfl)]
            refine ⟨fun f _ => trivial, ?_⟩
            have e119 : a2.tmps[119]?.getD undef = .int .i64 k := hinv.sl.new (i := 8) (by decide) rfl (hdep ⟨8, .data⟩ (by simp) rfl)
            have hw9 : IntKind.i64.wrap ((k : Int) + 1) = (k : Int) + 1 := by rw [IntKind.wrap_i64]; omega
            go_simp
            exact hinv.step ndT (exT_pure (by omega) (by omega) (by omega) (by omega)) (i := 9) (by decide) (by show 120 < 131; decide) (fun u hu => by cases hu; rfl) (exT_no (by omega) (by omega) (by omega)) (hinv.wd.pure (by omega))
          | 10, _, hL, ho, hdep =>
            injection ho with ho; subst ho
            dsimp only
            rw [if_pos (by rfl)]
            refine ⟨fun f _ => trivial, ?_⟩
            have e118 : a2.tmps[118]?.getD undef = .slice (some ⟨gb, 0, none⟩) ds.length cp := hinv.sl.new (i := 7) (by decide) rfl (hdep ⟨7, .data⟩ (by simp) rfl)
            have e120 : a2.tmps[120]?.getD undef = .int .i64 ((k : Int) + 1) := hinv.sl.new (i := 9) (by decide) rfl (hdep ⟨9, .data⟩ (by simp) rfl)
            have hcB := HcutB.out w9
            go_simp
            exact hinv.step ndT (exT_pure (by omega) (by omega) (by omega) (by omega)) (i := 10) (by decide) (by show 121 < 131; decide) (fun u hu => by cases hu; rfl) (exT_no (by omega) (by omega) (by omega)) (hinv.wd.pure (by omega))
          | 11, _, hL, ho, hdep =>
            injection ho with ho; subst ho
            dsimp only
            rw [if_pos (by rfl)]
            have h5 := hdep ⟨5, .data⟩ (by simp) rfl
            obtain ⟨ad3, cp3, ev0, hx0⟩ := ((hinv.ex 5 (by decide) h5).2.1 rfl).2 (getD_ft hL)
            have ev := hinv.sl.sl 10 (by decide) _ rfl (hdep ⟨10, .data⟩ (by simp) rfl)
            rw [ev0] at hx0
            obtain ⟨v', W', hr3, ad4, cp4, rfl, hM⟩ := hx0.app i0 _ hi hz0 hz1 hzb rfl adB cB (ds.drop (k + 1)) (HnewB.out _ _ hx0.ld.cl) (by simp; omega) 28
            rw [← HnB.out] at hr3
            refine wpIn_appendZ _ _ _ rfl ev0 ev hr3 ?_
            exact hinv.step ndT (exT_11 hL h5) (i := 11) (by decide) (by show 122 < 131; decide) (fun u hu => by cases hu) ⟨fun e => by omega, fun e => by omega, fun _ => ⟨by rw [getD_set_ne false (by omega)]; exact ((hinv.ex 5 (by decide) h5).2.1 rfl).1, by rw [getD_set_ne false (by omega)]; exact h5, fun _ => ⟨ad4, cp4, rfl, hM⟩⟩⟩ (hinv.wd.on (by omega) (q13 11 (by omega) hL) (fun _ => ⟨hM.ld, hM.sz⟩))
          | 12, _, hL, ho, hdep =>
            injection ho with ho; subst ho
            dsimp only
            rw [if_pos (by rfl)]
            refine ⟨fun f _ => trivial, ?_⟩
            have e5 : a2.tmps[5]?.getD undef = .pointer (some ⟨b5, 0, none⟩) := hinv.sl.old (by decide)
            go_simp
            exact hinv.step ndT (exT_pure (by omega) (by omega) (by omega) (by omega)) (i := 12) (by decide) (by show 123 < 131; decide) (fun u hu => by cases hu; rfl) (exT_no (by omega) (by omega) (by omega)) (hinv.wd.pure (by omega))
          | 13, _, hL, ho, hdep =>
            injection ho with ho; subst ho
            dsimp only
            rw [if_pos (by rfl)]
            refine ⟨fun f _ => trivial, ?_⟩
            have h11 := hdep ⟨11, .data⟩ (by simp) rfl
            have h5 := ((hinv.ex 11 (by decide) h11).2.2 rfl).2.1
            obtain ⟨ad4, cp4, ev0, hM⟩ := ((hinv.ex 11 (by decide) h11).2.2 rfl).2.2 (getD_ft hL)
            rw [ev0] at hM
            have e122 : a2.tmps[122]?.getD undef = .slice ad4 (ds.take k ++ ds.drop (k + 1)).length cp4 := evalD2 ev0
            generalize ds.take k ++ ds.drop (k + 1) = us9 at *
            have e123 : a2.tmps[123]?.getD undef = .pointer (some ⟨b5, 0, none⟩) := hinv.sl.new (i := 12) (by decide) rfl (hdep ⟨12, .data⟩ (by simp) rfl)
            have z0 := hM.ld.tc
            have z1 := hM.ld.tf
            have hfin := hM.store
            go_simp
            exact hinv.skip (exT_13 hL h5 h11) (i := 13) rfl (fun v => exT_no (by omega) (by omega) (by omega)) (IT.last hL ⟨ad4, cp4, hfin⟩)
      have hB6 : ((y : Int) == 6) = false := by simp; omega
      clear q0 q1 q2 q3 q4 q5 q6
      have hown0 := own_noneC w6 (rs + 1) hL6.ltr
      have hba := below_oneD w6 (.cells #[] 68)
      have hLa := hL6.later hba
      have t6 := hLa.tc
      have tf6 := hLa.tf
      have hL7 := hLa.put (ds := []) (ad' := some ⟨w6.heap.size, 0, none⟩) (cp' := 0) hown0 (fun e => by have := hL6.lt; simp [blk] at e; omega)
      have hrd7 := hL7.rd
      clear hown0 hba hLa hL6 hX6
      go_wp2_with fail
      simp only [List.length_nil] at hL7 hrd7
      refine (pick_any g a cap zs (p + 1 + 1) 2 _ hrd7 (by omega) (by omega) (by omega)).mono ?_
      rintro e w8 ⟨z, rfl, hz, hg8, hR8⟩
      have hL8 := hL7.step hg8 hR8
      clear hL7 hg8 hR8 t6 tf6 hrd7
      have hwz : IntKind.i64.wrap (200 + (z : Int)) = 200 + (z : Int) := by rw [IntKind.wrap_i64]; omega
      go_wp2
      go_loopw [9] (fun i wr => ∃ (gb cp : Nat) (us : List Ch), i = .int .i64 us.length ∧ us.length ≤ 201 ∧ LS6 g a cap zs w rs b5 (some ⟨gb, 0, none⟩) cp us (p + 1 + 1 + 1) wr ∧ Keep (TinyC 1100 10000 us)) (fun i _ => 202 - (intOf i).toNat)
      case atStart => exact ⟨_, 0, [], rfl, Nat.zero_le _, hL8, ⟨fun c hc => by simp at hc⟩⟩
      case round =>
        clear hL8
        obtain ⟨gb, cp, us, rfl, hj, hL, HT⟩ := hrel
        have t1 := hL.tc
        have t2 := hL.tf
        by_cases hlt : (us.length : Int) < 200 + z
        · have hj2 : us.length ≤ 200 := by omega
          have hcv := conv_two (97 + (us.length : Int) / 26) (97 + (us.length : Int) % 26) wr
          have hb1 := below_oneD wr (.cells #[.int .u8 (97 + (us.length : Int) / 26), .int .u8 (97 + (us.length : Int) % 26)] 5)
          have hLa := hL.later hb1
          have t1a := hLa.tc
          have t2a := hLa.tf
          have hc3 : ¬ 9223372036854775807 < 1 + (strOfNums [97 + (us.length : Int) / 26, 97 + (us.length : Int) % 26]).size := by rw [strOfNums_size]; simp
          obtain ⟨d, hd⟩ : ∃ d : Ch, d = ⟨zp us.length, ⟨false, ⟨#[]⟩, false⟩, ⟨true, ⟨#[]⟩, false⟩⟩ := ⟨_, rfl⟩
          have hb2 := below_oneD (wr.alloc (.cells #[.int .u8 (97 + (us.length : Int) / 26), .int .u8 (97 + (us.length : Int) % 26)] 5)) (.cells #[.string (zp us.length), .bool false, .string ⟨#[]⟩, .bool false, .bool true, .string ⟨#[]⟩, .bool false] 68)
          have hLb := hLa.later hb2
          have hsa : (wr.alloc (.cells #[.int .u8 (97 + (us.length : Int) / 26), .int .u8 (97 + (us.length : Int) % 26)] 5)).heap.size = wr.heap.size + 1 := by simp
          have hlt6 := hLa.lt
          have hrl := hLa.ltr
          have hzs : (zp us.length).size = 3 := zp_size us.length
          obtain ⟨zz, hzz⟩ : ∃ zz, zz = zp us.length := ⟨_, rfl⟩
          have hzz' : ⟨#[122]⟩ ++ strOfNums [97 + (us.length : Int) / 26, 97 + (us.length : Int) % 26] = zz := hzz.symm
          rw [← hzz] at hb2 hLb hzs
          clear hzz hd d
          go_wp2_with (first | (at_builtin; refine wpList_append_lies _ rfl _ _ 28 rfl (rs + 1) 68 i0 _ 7 80 Try.underlying28 hi hz0 hz1 hzb rfl (by decide) (.slice (some ⟨gb, 0, none⟩) us.length cp) us.length (ccells us) rfl hLb.row ⟨wr.heap.size + 1, 0, none⟩ 1 1 (chL ⟨zz, ⟨false, ⟨#[]⟩, false⟩, ⟨true, ⟨#[]⟩, false⟩⟩) rfl rfl (news_7 _ ⟨zz, ⟨false, ⟨#[]⟩, false⟩, ⟨true, ⟨#[]⟩, false⟩⟩ _ _ hsa) (one_7 _) (by omega) (by unfold maxLen; omega) (by omega) (by simp; omega) (wr.heap.size + 1 + 1) (by simp) ?_; intro g3 cap3 w7 hown3 hgrow3 hat3 hlt3; obtain ⟨hc3, hf3, hL7⟩ := hLb.app (d := ⟨zz, ⟨false, ⟨#[]⟩, false⟩, ⟨true, ⟨#[]⟩, false⟩⟩) hgrow3 hown3 (by rcases hat3 with h3 | h3 <;> first | (left; simpa [Value.ownBlock] using h3) | (left; simpa [Value.ownBlock] using h3.symm) | (right; omega))))
          go_roundw
          case rel => exact ⟨g3, cap3, us ++ [⟨zz, ⟨false, ⟨#[]⟩, false⟩, ⟨true, ⟨#[]⟩, false⟩⟩], by congr 1; simp, by simp; omega, hL7, ⟨HT.out.snoc ⟨by show zz.size ≤ 1100; omega, Nat.zero_le _, Nat.zero_le _⟩⟩⟩
          case measure => simp only [intOf]; omega
        · have r9 := hL.rc
          have rf9 := hL.rf
          obtain ⟨b1, b2⟩ := hL.back (p0 := p) (K := 20) (by omega)
          have hR9 := hL.room
          clear hL
          go_wp2
          refine bodyPost_ret (v := .agg #[.slice (some ⟨gb, 0, none⟩) us.length cp]) ?_ rfl ⟨some ⟨gb, 0, none⟩, cp, us, rfl, b1, hR9, by omega, HT.out, b2⟩
          go_light
          simp [results, Try.results45, go_sem, r9]
end Go.Proofs.Ytjlflmbifeocbaa

namespace Go.Proofs.Ytjlflmbifeocbaa
open Go.RowKit

def UndoRel (cs us : List Ch) : Prop := (ValidP cs ∧ us = cs.map flipC) ∨ (¬ ValidP cs ∧ us = [])
theorem undo_one {cs us us' : List Ch} (h : UndoRel cs us) (h' : UndoRel cs us') : us' = us := by
  rcases h with ⟨h, rfl⟩ | ⟨h, rfl⟩ <;> rcases h' with ⟨h', rfl⟩ | ⟨h', rfl⟩ <;> first | rfl | exact absurd h h' | exact absurd h' h
theorem undo_few {cs us : List Ch} (h : UndoRel cs us) : us.length ≤ cs.length := by
  rcases h with ⟨_, rfl⟩ | ⟨_, rfl⟩ <;> simp
def UndoPost (cs : List Ch) (w : World) (e : Ending) (w' : World) : Prop :=
  ∃ us, UndoRel cs us ∧ (∃ ad cap, e = .returned (.agg #[.slice ad us.length cap]) ∧ CL w.heap.size w' ad us) ∧ Below w.heap.size w w'
theorem flips_take {cs : List Ch} {k : Nat} (hk : k < cs.length) : (cs.take (k + 1)).map flipC = (cs.take k).map flipC ++ [flipC cs[k]] := by
  rw [List.take_succ_eq_append_getElem hk, List.map_append]; rfl

end Go.Proofs.Ytjlflmbifeocbaa

namespace Go.Proofs.Ytjlflmbifeocbaa
open Go.RowKit

theorem sameF_iff {f g : Fl} : sameF f g = true ↔ f = g := by
  obtain ⟨f1, f2, f3⟩ := f
  obtain ⟨g1, g2, g3⟩ := g
  simp only [sameF, Bool.and_eq_true, beq_iff_eq, Fl.mk.injEq]
  constructor
  · rintro ⟨⟨rfl, h⟩, rfl⟩
    exact ⟨rfl, WideShapes.bytes_inj (by rw [← Lib.toList_data, ← Lib.toList_data]; exact h), rfl⟩
  · rintro ⟨rfl, rfl, rfl⟩; exact ⟨⟨rfl, rfl⟩, rfl⟩
theorem sameF_not {f g : Fl} : sameF f g = false ↔ f ≠ g := by
  rw [← Bool.not_eq_true, sameF_iff]
theorem at_mem {ts : List En} (h : Asc ts) {e : En} (he : e ∈ ts) : atL ts e.path = ⟨true, e.text, e.runs⟩ := by
  unfold atL
  cases hf : ts.find? (fun x => x.path.toList == e.path.toList) with
  | none =>
    rw [List.find?_eq_none] at hf
    exact absurd (eqb_iff.2 rfl) (hf e he)
  | some x =>
    have h1 : x ∈ ts := List.mem_of_find?_eq_some hf
    have h2 : x.path = e.path := eqb_iff.1 (by have h0 := List.find?_some hf; exact h0)
    have h3 : x = e := by
      obtain ⟨i, hi, rfl⟩ := List.getElem_of_mem h1
      obtain ⟨j, hj, rfl⟩ := List.getElem_of_mem he
      rcases Nat.lt_trichotomy i j with h' | h' | h'
      · exact absurd h2 (less_ne (List.pairwise_iff_getElem.1 h i j hi hj h'))
      · subst h'; rfl
      · exact absurd h2.symm (less_ne (List.pairwise_iff_getElem.1 h j i hj hi h'))
    rw [h3]
theorem at_cases (ts : List En) (p : ByteArray) : (atL ts p = noFl ∧ ∀ e ∈ ts, e.path ≠ p) ∨ ∃ e ∈ ts, e.path = p ∧ atL ts p = ⟨true, e.text, e.runs⟩ := by
  unfold atL
  cases hf : ts.find? (fun x => x.path.toList == p.toList) with
  | none =>
    rw [List.find?_eq_none] at hf
    exact .inl ⟨rfl, fun e he e' => hf e he (eqb_iff.2 e')⟩
  | some x => exact .inr ⟨x, List.mem_of_find?_eq_some hf, eqb_iff.1 (by have h0 := List.find?_some hf; exact h0), rfl⟩
theorem at_there {ts : List En} {p : ByteArray} (h : (atL ts p).there = true) : (⟨p, (atL ts p).text, (atL ts p).runs⟩ : En) ∈ ts := by
  rcases at_cases ts p with ⟨h1, _⟩ | ⟨e, h1, rfl, h2⟩
  · rw [h1] at h; cases h
  · rw [h2]; exact h1

/-- The paths at which two trees are not alike, of a list. -/
def diffNs (ts us : List En) (ns : List ByteArray) : List ByteArray := ns.filter fun p => !sameF (atL ts p) (atL us p)
theorem diffN_eq (ts us : List En) : ∀ ns : List ByteArray, diffN ts us ns = (diffNs ts us ns).map (diffC ts us)
  | [] => rfl
  | p :: ns => by
    have ih := diffN_eq ts us ns
    unfold diffN diffNs at ih ⊢
    rw [List.flatMap_cons, List.filter_cons, ih]
    cases sameF (atL ts p) (atL us p) <;> simp
theorem diffNs_unique {ts us : List En} {ns ms : List ByteArray} (h1 : AscN ns) (h2 : AscN ms) (h : ∀ p, sameF (atL ts p) (atL us p) = false → (p ∈ ns ↔ p ∈ ms)) : diffN ts us ns = diffN ts us ms := by
  rw [diffN_eq, diffN_eq]
  congr 1
  refine ascN_unique (List.Pairwise.filter _ h1) (List.Pairwise.filter _ h2) fun p => ?_
  unfold diffNs
  simp only [List.mem_filter, Bool.not_eq_true']
  exact ⟨fun ⟨h3, h4⟩ => ⟨(h p h4).1 h3, h4⟩, fun ⟨h3, h4⟩ => ⟨(h p h4).2 h3, h4⟩⟩
theorem paths_mem (ts us : List En) : AscN (pathsL [ts, us]) ∧ ∀ p, p ∈ pathsL [ts, us] ↔ (∃ e ∈ ts, e.path = p) ∨ ∃ e ∈ us, e.path = p := by
  have h1 := addP_asc (l := []) List.Pairwise.nil ts
  have h2 := addP_asc h1.1 us
  refine ⟨h2.1, fun p => ?_⟩
  show p ∈ addP (addP [] ts) us ↔ _
  rw [h2.2, h1.2]
  simp
theorem paths_differ {ts us : List En} {p : ByteArray} (h : sameF (atL ts p) (atL us p) = false) : (∃ e ∈ ts, e.path = p) ∨ ∃ e ∈ us, e.path = p := by
  rcases at_cases ts p with ⟨h1, _⟩ | ⟨e, h1, h2, _⟩
  · rcases at_cases us p with ⟨h3, _⟩ | ⟨e, h3, h4, _⟩
    · rw [h1, h3, sameF_iff.2 rfl] at h; cases h
    · exact .inr ⟨e, h3, h4⟩
  · exact .inl ⟨e, h1, h2⟩
theorem diff_mem {ts us : List En} (c : Ch) : c ∈ diffL ts us ↔ ∃ p, sameF (atL ts p) (atL us p) = false ∧ c = diffC ts us p := by
  unfold diffL
  rw [diffN_eq]
  unfold diffNs
  simp only [List.mem_map, List.mem_filter, Bool.not_eq_true']
  constructor
  · rintro ⟨p, ⟨_, h⟩, rfl⟩; exact ⟨p, h, rfl⟩
  · rintro ⟨p, h, rfl⟩; exact ⟨p, ⟨((paths_mem ts us).2 p).2 (paths_differ h), h⟩, rfl⟩
theorem diff_asc (ts us : List En) : AscK Ch.path (diffL ts us) := by
  unfold diffL
  rw [diffN_eq]
  exact List.Pairwise.map _ (fun _ _ h => h) (List.Pairwise.filter _ (paths_mem ts us).1)
theorem diff_len {ts us : List En} (h1 : ts.length ≤ 100) (h2 : us.length ≤ 100) : (diffL ts us).length ≤ 200 := by
  have h3 := diffN_len ts us (pathsL [ts, us])
  have h4 := addP_len [] ts ts.length (Nat.le_refl _)
  have h5 := addP_len (addP [] ts) us us.length (Nat.le_refl _)
  rw [List.take_length] at h4 h5
  have h6 : pathsL [ts, us] = addP (addP [] ts) us := rfl
  unfold diffL
  rw [h6] at h3 ⊢
  simp only [List.length_nil] at h4
  omega
theorem validP_mk {cs : List Ch} (h1 : cs.length ≤ 200) (h2 : ∀ c ∈ cs, chOk c = true) (h3 : AscK Ch.path cs) : ValidP cs :=
  ⟨h1, fun i hi => ⟨hi, h2 _ (List.getElem_mem hi), fun j hj hj' => List.pairwise_iff_getElem.1 h3 j i hj' hi (by omega)⟩⟩
theorem at_ok {ts : List En} (h : ValidTs ts) (p : ByteArray) : flOk (atL ts p) = true := by
  rcases at_cases ts p with ⟨h1, _⟩ | ⟨e, h1, _, h2⟩
  · rw [h1]
    have h2 : (⟨#[]⟩ : ByteArray).size ≤ 1500 := Nat.zero_le _
    simp [flOk, noFl, h2]
  · rw [h2]
    have h3 := valid_enF h h1
    simp only [enOk, Bool.and_eq_true, decide_eq_true_eq] at h3
    simp [flOk, h3.2]
theorem diff_valid {ts us : List En} (ht : ValidTs ts) (hu : ValidTs us) : ValidP (diffL ts us) := by
  refine validP_mk (diff_len ht.1 hu.1) (fun c hc => ?_) (diff_asc ts us)
  obtain ⟨p, h, rfl⟩ := (diff_mem c).1 hc
  have hp : pathOk pathB p = true := by
    rcases paths_differ h with ⟨e, he, rfl⟩ | ⟨e, he, rfl⟩
    · have h3 := valid_enF ht he
      simp only [enOk, Bool.and_eq_true] at h3
      exact h3.1
    · have h3 := valid_enF hu he
      simp only [enOk, Bool.and_eq_true] at h3
      exact h3.1
  simp only [chOk, diffC, Bool.and_eq_true, Bool.not_eq_true']
  exact ⟨⟨⟨hp, at_ok ht p⟩, at_ok hu p⟩, h⟩
theorem diff_app {ts us : List En} (ht : Asc ts) (hu : Asc us) : AppRel ts (diffL ts us) us := by
  refine ⟨hu, fun e => ?_⟩
  constructor
  · intro he
    have h1 := at_mem hu he
    cases hs : sameF (atL ts e.path) (atL us e.path) with
    | false => exact .inl ⟨diffC ts us e.path, (diff_mem _).2 ⟨_, hs, rfl⟩, by show (atL us e.path).there = true; rw [h1], by show e = ⟨e.path, (atL us e.path).text, (atL us e.path).runs⟩; rw [h1]⟩
    | true =>
      have h2 := sameF_iff.1 hs
      rw [h1] at h2
      have h3 := at_there (ts := ts) (p := e.path) (by rw [h2])
      rw [h2] at h3
      refine .inr ⟨h3, fun c hc e' => ?_⟩
      obtain ⟨p, h4, rfl⟩ := (diff_mem c).1 hc
      have e2 : p = e.path := e'
      rw [e2, hs] at h4
      cases h4
  · rintro (⟨c, hc, h1, rfl⟩ | ⟨h1, h2⟩)
    · obtain ⟨p, h4, rfl⟩ := (diff_mem c).1 hc
      exact at_there h1
    · have h3 := at_mem ht h1
      cases hs : sameF (atL ts e.path) (atL us e.path) with
      | false => exact absurd rfl (h2 _ ((diff_mem _).2 ⟨e.path, hs, rfl⟩))
      | true =>
        have h4 := sameF_iff.1 hs
        rw [h3] at h4
        have h5 := at_there (ts := us) (p := e.path) (by rw [← h4])
        rw [← h4] at h5
        exact h5
theorem diff_apply {ts us : List En} (ht : ValidTs ts) (hu : ValidTs us) : ApplyRel ts (diffL ts us) us 0 :=
  .inr ⟨ht, diff_valid ht hu, .inr ⟨fun x hx => by
    obtain ⟨p, _, rfl⟩ := (diff_mem x).1 hx
    exact sameF_iff.2 rfl, us, diff_app (valid_asc ht) (valid_asc hu), .inr ⟨hu, rfl, rfl⟩⟩⟩
theorem diff_self (ts : List En) : diffL ts ts = [] := by
  rw [List.eq_nil_iff_forall_not_mem]
  intro c hc
  obtain ⟨p, h, _⟩ := (diff_mem c).1 hc
  rw [sameF_iff.2 rfl] at h
  cases h
theorem flip_flip (cs : List Ch) : (cs.map flipC).map flipC = cs := by
  rw [List.map_map]
  conv => rhs; rw [← List.map_id cs]
  rfl
theorem diff_flip (ts us : List En) : (diffL ts us).map flipC = diffL us ts := by
  have h1 : diffN us ts (pathsL [us, ts]) = diffN us ts (pathsL [ts, us]) := diffNs_unique (paths_mem us ts).1 (paths_mem ts us).1 (fun p _ => by rw [(paths_mem us ts).2, (paths_mem ts us).2]; exact ⟨fun h => h.elim .inr .inl, fun h => h.elim .inr .inl⟩)
  unfold diffL
  rw [h1, diffN_eq, diffN_eq, List.map_map]
  have h2 : ∀ p, sameF (atL ts p) (atL us p) = sameF (atL us p) (atL ts p) := fun p => by
    rw [Bool.eq_iff_iff, sameF_iff, sameF_iff]
    exact ⟨fun h => h.symm, fun h => h.symm⟩
  unfold diffNs
  simp only [h2]
  rfl
theorem undo_diff {ts us : List En} (ht : ValidTs ts) (hu : ValidTs us) {cs : List Ch} (h : UndoRel (diffL ts us) cs) : cs = diffL us ts := by
  rcases h with ⟨_, rfl⟩ | ⟨h, _⟩
  · exact diff_flip ts us
  · exact absurd (diff_valid ht hu) h
theorem fnd_diff (ts us : List En) (n : ByteArray) : fnd Ch.path (diffL ts us) n = if sameF (atL ts n) (atL us n) = true then none else some (diffC ts us n) := by
  cases hf : fnd Ch.path (diffL ts us) n with
  | none =>
    split
    · rfl
    · rename_i h
      unfold fnd at hf
      rw [List.find?_eq_none] at hf
      exact absurd (eqb_iff.2 rfl) (hf _ ((diff_mem _).2 ⟨n, by simpa using h, rfl⟩))
  | some c =>
    obtain ⟨h1, h2⟩ := fnd_some hf
    obtain ⟨p, h3, rfl⟩ := (diff_mem c).1 h1
    have e2 : p = n := h2
    subst e2
    rw [h3]
    rfl
theorem join_diff {ts us vs : List En} : (∀ n, clJ (diffL ts us) (diffL us vs) n = false) ∧ joinN (diffL ts us) (diffL us vs) (joinNs (diffL ts us) (diffL us vs)) = diffL ts vs := by
  have hout : ∀ n ∈ joinNs (diffL ts us) (diffL us vs), outJ (diffL ts us) (diffL us vs) n = if sameF (atL ts n) (atL vs n) = true then [] else [diffC ts vs n] := by
    intro n hn
    unfold outJ
    rw [fnd_diff, fnd_diff]
    cases h1 : sameF (atL ts n) (atL us n) with
    | true =>
      have e1 := sameF_iff.1 h1
      cases h2 : sameF (atL us n) (atL vs n) with
      | true =>
        exfalso
        rcases ((joinNs_mem _ _).2 n).1 hn with ⟨c, hc, rfl⟩ | ⟨c, hc, rfl⟩
        · obtain ⟨p, h3, rfl⟩ := (diff_mem c).1 hc
          have h4 : sameF (atL ts p) (atL us p) = true := h1
          rw [h3] at h4; cases h4
        · obtain ⟨p, h3, rfl⟩ := (diff_mem c).1 hc
          have h4 : sameF (atL us p) (atL vs p) = true := h2
          rw [h3] at h4; cases h4
      | false =>
        rw [e1, h2]
        simp [outJ2, diffC, e1]
    | false =>
      cases h2 : sameF (atL us n) (atL vs n) with
      | true =>
        have e2 := sameF_iff.1 h2
        rw [← e2, h1]
        simp [outJ2, diffC, e2]
      | false =>
        simp only [Bool.false_eq_true, if_false, outJ2, diffC]
  refine ⟨fun n => ?_, ?_⟩
  · unfold clJ
    rw [fnd_diff, fnd_diff]
    split
    · rfl
    · split
      · rfl
      · show (!sameF (atL us n) (atL us n)) = false
        rw [sameF_iff.2 rfl]; rfl
  · have h1 : joinN (diffL ts us) (diffL us vs) (joinNs (diffL ts us) (diffL us vs)) = diffN ts vs (joinNs (diffL ts us) (diffL us vs)) := by
      unfold joinN diffN
      rw [List.flatMap_def, List.flatMap_def, List.map_congr_left hout]
    rw [h1]
    refine diffNs_unique (joinNs_mem _ _).1 (paths_mem ts vs).1 fun p hp => ?_
    constructor
    · exact fun _ => ((paths_mem ts vs).2 p).2 (paths_differ hp)
    · intro _
      rw [(joinNs_mem _ _).2]
      cases h1 : sameF (atL ts p) (atL us p) with
      | false => exact .inl ⟨diffC ts us p, (diff_mem _).2 ⟨p, h1, rfl⟩, rfl⟩
      | true =>
        refine .inr ⟨diffC us vs p, (diff_mem _).2 ⟨p, ?_, rfl⟩, rfl⟩
        rw [← sameF_iff.1 h1]
        exact hp
theorem join_diffs {ts us vs : List En} (ht : ValidTs ts) (hu : ValidTs us) (hv : ValidTs vs) : JoinRel (diffL ts us) (diffL us vs) (diffL ts vs) true :=
  .inr ⟨diff_valid ht hu, diff_valid hu hv, .inr ⟨fun n _ => join_diff.1 n, .inr ⟨by rw [join_diff.2]; exact diff_len ht.1 hv.1, join_diff.2.symm, rfl⟩⟩⟩
end Go.Proofs.Ytjlflmbifeocbaa

namespace Go.Proofs.Ytjlflmbifeocbaa
open Go.RowKit

theorem atL_tiny {P T : Nat} {ts : List En} (h : Tiny P T ts) (p : ByteArray) : (atL ts p).text.size ≤ T := by
  unfold atL
  split
  · rename_i e he
    exact (h e (List.mem_of_find?_eq_some he)).2
  · exact Nat.zero_le _
theorem diff_tiny {P T : Nat} {ts us : List En} {cs : List Ch} (h : DiffRel ts us cs) (ht : Tiny P T ts) (hu : Tiny P T us) : TinyC P T cs ∧ cs.length ≤ 200 := by
  rcases h with ⟨h3, h4, rfl⟩ | ⟨_, rfl⟩
  · refine ⟨fun c hc => ?_, by have := diff_len h3.1 h4.1; omega⟩
    obtain ⟨p, h5, rfl⟩ := (diff_mem c).1 hc
    refine ⟨?_, atL_tiny ht p, atL_tiny hu p⟩
    rcases paths_differ h5 with ⟨e, he, rfl⟩ | ⟨e, he, rfl⟩
    · exact (ht e he).1
    · exact (hu e he).1
  · exact ⟨fun c hc => (by cases hc), by simp⟩
theorem valid_text {ts : List En} (h : ValidTs ts) : ∀ e ∈ ts, e.text.size ≤ 1500 := fun e he => by
  obtain ⟨i, hi, rfl⟩ := List.mem_iff_getElem.1 he
  obtain ⟨_, h1, _⟩ := h.2 i hi
  simp [enOk] at h1
  exact h1.2
theorem apply_tiny {P T : Nat} {ts us : List En} {cs : List Ch} {c : Int} (h : ApplyRel ts cs us c) (ht : Tiny P T ts) (hc : TinyC P T cs) : Tiny P 1500 us ∧ us.length ≤ 100 := by
  rcases h with ⟨_, rfl, _⟩ | ⟨_, _, ⟨_, rfl, _⟩ | ⟨_, vs, hA, ⟨_, rfl, _⟩ | ⟨hv, rfl, _⟩⟩⟩
  · exact ⟨fun e he => (by cases he), by simp⟩
  · exact ⟨fun e he => (by cases he), by simp⟩
  · exact ⟨fun e he => (by cases he), by simp⟩
  · refine ⟨fun e he => ⟨?_, valid_text hv e he⟩, hv.1⟩
    rcases (hA.mem e).1 he with ⟨x, hx, _, rfl⟩ | ⟨h1, _⟩
    · exact (hc x hx).1
    · exact (ht e h1).1
end Go.Proofs.Ytjlflmbifeocbaa

namespace Go.Proofs.Ytjlflmbifeocbaa
open Go.RowKit

theorem code_laterJ {w w' : World} {a : Option Addr} {cap : Nat} {zs : List Int} (h : Code0 w a cap zs) (hb : Below w.heap.size w w') : Code0 w' a cap zs :=
  ⟨by
    rcases h.bytes with h0 | ⟨b, off, h1, h2, h3⟩
    · exact .inl h0
    · exact .inr ⟨b, off, h1, Nat.lt_of_lt_of_le h2 hb.size, fun i hi => cell_later hb (h3 i hi)⟩, h.len, h.cap, h.wf⟩
theorem draw6_pat {ts : List En} {lo : Nat} {ad : Option Addr} {cap : Nat} {cs : List Ch} {w : World} (h : patQ ts lo ad cap cs w) (hT : Tiny 40 20 ts) : TinyC 100 1620 cs ∧ cs.length ≤ 200 := by
  obtain ⟨_, _, us, h3, _, h5⟩ := h
  exact diff_tiny h3 (hT.wide (by omega) (by omega)) h5
/-- What DrawApply gives. -/
def DrawnA (w : World) (e : Ending) (w' : World) : Prop :=
  ∃ (t : Tr) (q : Pt), e = .returned (.tuple #[.agg #[.slice t.ad t.ts.length t.cp], .agg #[.slice q.ad q.cs.length q.cp]]) ∧ ES w' t.ad t.ts ∧ CS w' q.ad q.cs ∧ TQ t ∧ NilOk t.ad t.cp ∧ t.ts.length ≤ t.cp ∧ q.cs.length ≤ q.cp ∧ Below w.heap.size w w'
def dsAp : List Nat := [46, 47, 1000, 1001]
theorem ndAp : dsAp.Nodup := by decide

set_option maxRecDepth 100000 in
set_option maxHeartbeats 8000000 in
theorem drawApply_any (a : Option Addr) (cap : Nat) (zs : List Int) (w : World) (h : Code0 w a cap zs) :
    Calls Try.prog 16 #[.slice a zs.length cap] w (DrawnA w) := by
  have hal : Below w.heap.size w ((w.alloc (.cells #[.slice none 0 0] 25)).alloc (.cells #[.slice none 0 0] 30)) := ((Below.refl _ _).alloc (Nat.le_refl _) _).alloc (by simp) _
  have a0 : ((w.alloc (.cells #[.slice none 0 0] 25)).alloc (.cells #[.slice none 0 0] 30)).cell? ⟨w.heap.size, 0, none⟩ = some (.slice none 0 0) ∧ ((w.alloc (.cells #[.slice none 0 0] 25)).alloc (.cells #[.slice none 0 0] 30)).frozen? ⟨w.heap.size, 0, none⟩ = false := by simp [go_sem]
  have b0 : ((w.alloc (.cells #[.slice none 0 0] 25)).alloc (.cells #[.slice none 0 0] 30)).cell? ⟨w.heap.size + 1, 0, none⟩ = some (.slice none 0 0) ∧ ((w.alloc (.cells #[.slice none 0 0] 25)).alloc (.cells #[.slice none 0 0] 30)).frozen? ⟨w.heap.size + 1, 0, none⟩ = false := by simp [go_sem]
  have hsz : ((w.alloc (.cells #[.slice none 0 0] 25)).alloc (.cells #[.slice none 0 0] 30)).heap.size = w.heap.size + 1 + 1 := by simp
  have hop := open_any a cap zs _ (code_laterJ h hal)
  go_enter Try.func16, Try.ntmps16
  go_wp2_with fail
  refine hop.mono ?_
  rintro e w1 ⟨rfl, hb1, hs1, zs', hR1⟩
  rw [hsz] at hR1 hs1 ⊢
  have hRB : RB w (w.heap.size + 1 + 1) w.heap.size (w.heap.size + 1) a cap zs' 0 (.slice none 0 0) (.slice none 0 0) w1 :=
    ⟨hR1, hal.trans (hb1.mono hal.size), cell_later hb1 a0.1, (hb1.frozen (p := ⟨w.heap.size, 0, none⟩) (World.block_lt_of_cell? _ ⟨w.heap.size, 0, none⟩ a0.1)).trans a0.2, cell_later hb1 b0.1, (hb1.frozen (p := ⟨w.heap.size + 1, 0, none⟩) (World.block_lt_of_cell? _ ⟨w.heap.size + 1, 0, none⟩ b0.1)).trans b0.2, by omega⟩
  obtain ⟨g, hg⟩ : ∃ g, g = w.heap.size + 1 + 1 := ⟨_, rfl⟩
  obtain ⟨r3, hr3⟩ : ∃ r3, r3 = w.heap.size + 1 := ⟨_, rfl⟩
  obtain ⟨r2, hr2⟩ : ∃ r2, r2 = w.heap.size := ⟨_, rfl⟩
  have hRB' : RB w g r2 r3 a cap zs' 0 (.slice none 0 0) (.slice none 0 0) w1 := by rw [hg, hr2, hr3]; exact hRB
  rw [← hg, ← hr3, ← hr2]
  have hgw : g < w1.heap.size := hRB'.rd.lt
  clear hRB hop hal a0 b0 hsz hb1 hs1 hR1 hg hr2 hr3
  have hdr := l6Draw_any g a cap zs' 0 w1 hRB'.rd (by omega)
  go_wp2_with fail
  refine hdr.mono ?_
  rintro e w2 ⟨t5, adp, cpp, cs, rfl, hel, hrm, hn, hA, hT, hNil, hpq, ⟨⟨p2, hp2, hR2⟩, hg2⟩⟩
  have hRB2 := hRB'.step hg2 hR2
  have hb5 := below_oneD w2 (.cells #[.slice t5.ad t5.ts.length t5.cp] 25)
  have hb6 := below_oneD (w2.alloc (.cells #[.slice t5.ad t5.ts.length t5.cp] 25)) (.cells #[.slice adp cs.length cpp] 30)
  have hX5 := (TB.new (t := t5) hel hrm hNil).later hb6
  have hX6 : PB w1.heap.size w2.heap.size (w2.heap.size + 1) ⟨adp, cpp, cs⟩ ((w2.alloc (.cells #[.slice t5.ad t5.ts.length t5.cp] 25)).alloc (.cells #[.slice adp cs.length cpp] 30)) := ⟨by simp, by simp, (hpq.1.below hb5).below hb6, PB.upOf (t := ⟨adp, cpp, cs⟩) hpq.1, hpq.2.1⟩
  have hsp := draw6_pat hpq hT
  have hRB3 := (hRB2.later hb5).later hb6
  have hs2 := hg2.size
  have HA : Keep (Asc t5.ts ∧ Tiny 40 20 t5.ts ∧ t5.ts.length ≤ 100) := ⟨⟨hA, hT, hn⟩⟩
  have HP : Keep (TinyC 100 1620 cs ∧ cs.length ≤ 200) := ⟨hsp⟩
  clear hdr hel hg2 hR2 hA hT hpq hsp hRB' hRB2 hb5 hb6 hNil hrm hn
  go_upto_region 3 with fail
  generalize hW3 : (w2.alloc (.cells #[.slice t5.ad t5.ts.length t5.cp] 25)).alloc (.cells #[.slice adp cs.length cpp] 30) = W3 at *
  obtain ⟨b6, hb6⟩ : ∃ b6, b6 = w2.heap.size + 1 := ⟨_, rfl⟩
  rw [← hb6] at hX6 ⊢
  generalize hb5 : w2.heap.size = b5 at *
  generalize hlo : w1.heap.size = lo at *
  have HO : Keep (r3 < g ∧ r2 < r3 ∧ g < lo ∧ lo ≤ b5 ∧ b6 = b5 + 1 ∧ p2 ≤ 500 ∧ w.heap.size ≤ r2) := ⟨by have := hRB3.ord; omega⟩
  clear hW3 hb6 hb5 hlo hs2 hgw hp2
  go_cut [16] (fun v wx => ∃ y : Nat, v = .int .i64 y ∧ y < 6 ∧ RB w g r2 r3 a cap zs' (p2 + 1) (.slice none 0 0) (.slice none 0 0) wx ∧ TB lo b5 b5 t5 wx ∧ PB lo b5 b6 ⟨adp, cpp, cs⟩ wx)
  case first =>
    go_wp2_with fail
    refine (pick_any g a cap zs' p2 6 W3 hRB3.rd (by omega) (by omega) (by have := HO.out; omega)).mono ?_
    rintro e w4 ⟨y, rfl, hy, hg4, hR4⟩
    have HR : Keep _ := ⟨hRB3.step hg4 hR4⟩
    have HT5 : Keep _ := ⟨hX5.grown hg4 (by have := HO.out; omega) (by have := HO.out; omega)⟩
    have HP6 : Keep _ := ⟨hX6.grown hg4 (by have := HO.out; omega) (by have := HO.out; omega)⟩
    clear hg4 hR4 hRB3 hX5 hX6
    go_wp2_with fail
    go_meet
    case rel => exact ⟨y, rfl, hy, HR.out, HT5.out, HP6.out⟩
  case rest =>
    clear hRB3 hX5 hX6
    obtain ⟨y, rfl, hy, hRB, hX5, hX6⟩ := hcut
    rename_i K1 hk1 K2 hk2
    refine hk2 _ _ ?_
    go_cut [17] (fun _ wx => ∃ (px lo5 hi5 lo6 hi6 : Nat) (t : Tr) (q : Pt), RB w g r2 r3 a cap zs' px (.slice none 0 0) (.slice none 0 0) wx ∧ TB lo5 hi5 b5 t wx ∧ PB lo6 hi6 b6 q wx ∧ TQ t ∧ g < lo5 ∧ g < lo6)
    case first =>
      have HQ5 : Keep (TQ t5) := ⟨⟨by have := HA.out; omega, HA.out.2.1.wide (by omega) (by omega)⟩⟩
      have hgl : b6 < wc.heap.size := hX6.lt
      by_cases y0 : y = 0
      · have hB0 : ((y : Int) == 0) = true := by simp; omega
        clear y0
        have z0 := hX6.c
        have z1 := hX6.f
        dsimp only at z0
        go_wp2_with fail
        refine (l6Spoil_any g a cap zs' (p2 + 1) adp cpp cs wc hRB.rd (by have := HO.out; omega) hX6.el.cs (HP.out.1.wide (by omega) (by omega)) (by have := HP.out; omega)).mono ?_
        rintro e w5 ⟨ad, cp, ds, rfl, hcl, hrm, hl, hTd, ⟨⟨p5, hp5, hR5⟩, hg5⟩⟩
        have hRB5 := hRB.step hg5 hR5
        have h55 := hX5.grown hg5 (by have := HO.out; omega) (by have := HO.out; omega)
        have h65 := hX6.grown hg5 (by have := HO.out; omega) (by have := HO.out; omega)
        have hup : (⟨ad, cp, ds⟩ : Pt).cs = [] ∨ ∃ k, blk (⟨ad, cp, ds⟩ : Pt).ad = some k ∧ k < w5.heap.size := PB.upOf (t := ⟨ad, cp, ds⟩) hcl
        have HF : Keep _ := ⟨(⟨hRB5.box (k := b6) (.slice ad ds.length cp) (by have := HO.out; omega), h55.grown (grown_set0 w5 b6 0 (.slice ad ds.length cp)) (by have := HO.out; omega) (by have := HO.out; omega), h65.put (u := ⟨ad, cp, ds⟩) hcl hup hrm (by omega)⟩ : _ ∧ _ ∧ _)⟩
        have z3 := h65.c
        have z4 := h65.f
        dsimp only at z3
        have HSZ : Keep (g < wc.heap.size ∧ g < lo) := ⟨by have := HO.out; omega⟩
        clear z0 z1 h55 h65 hRB5 hX5 hX6 hRB hcl hup hg5 hR5
        go_wp2_with fail
        go_meet
        case rel => exact ⟨p5, _, _, _, _, t5, ⟨ad, cp, ds⟩, HF.out.1, HF.out.2.1, HF.out.2.2, HQ5.out, HSZ.out.2, HSZ.out.1⟩
      have hB0 : ((y : Int) == 0) = false := by simp; omega
      by_cases y1 : y = 1
      · have hB1 : ((y : Int) == 1) = true := by simp; omega
        clear y0 y1
        have z0 := hX5.c
        have z1 := hX5.f
        go_wp2_with fail
        refine (l5NearA_any g a cap zs' (p2 + 1) t5.ad t5.cp t5.ts wc hRB.rd (by have := HO.out; omega) hX5.el.es hX5.nl (HA.out.2.1.wide (by omega) (by omega)) (by have := HA.out; omega)).mono ?_
        rintro e w5 ⟨ad, cp, us, rfl, hel', hn', hT', hNil', ⟨⟨p5, hp5, hR5⟩, hg5⟩, _, hrm'⟩
        have hRB5 := hRB.step hg5 hR5
        have h55 := hX5.grown hg5 (by have := HO.out; omega) (by have := HO.out; omega)
        have h65 := hX6.grown hg5 (by have := HO.out; omega) (by have := HO.out; omega)
        have hup : (⟨ad, cp, us⟩ : Tr).ts = [] ∨ ∃ k, blk (⟨ad, cp, us⟩ : Tr).ad = some k ∧ k < w5.heap.size := TB.upOf (t := ⟨ad, cp, us⟩) hel'
        have HF : Keep _ := ⟨(⟨hRB5.box (k := b5) (.slice ad us.length cp) (by have := HO.out; omega), h55.put (u := ⟨ad, cp, us⟩) hel' hup hrm' hNil' (by have := HO.out; omega), h65.grown (grown_set0 w5 b5 0 (.slice ad us.length cp)) (by have := HO.out; omega) (by have := HO.out; omega)⟩ : _ ∧ _ ∧ _)⟩
        have z3 := h55.c
        have z4 := h55.f
        have HSZ : Keep (g < wc.heap.size ∧ g < lo) := ⟨by have := HO.out; omega⟩
        have HQ : Keep (TQ ⟨ad, cp, us⟩) := ⟨⟨by show us.length ≤ 300; omega, hT'.wide (by omega) (by omega)⟩⟩
        clear z0 z1 h55 h65 hRB5 hX5 hX6 hRB hel' hup hg5 hR5
        go_wp2_with fail
        go_meet
        case rel => exact ⟨p5, _, _, _, _, ⟨ad, cp, us⟩, ⟨adp, cpp, cs⟩, HF.out.1, HF.out.2.1, HF.out.2.2, HQ.out, HSZ.out.1, HSZ.out.2⟩
      have hB1 : ((y : Int) == 1) = false := by simp; omega
      by_cases y2 : y = 2
      · have hB2 : ((y : Int) == 2) = true := by simp; omega
        clear y0 y1 y2
        have z0 := hX6.c
        have z1 := hX6.f
        dsimp only at z0
        by_cases h0 : (0 : Int) < cs.length
        · have z2 := hX5.c
          have z3 := hX5.f
          go_wp2_with fail
          refine (l5SetC_any t5.ad t5.cp t5.ts ⟨⟨#[99]⟩, ⟨#[]⟩, false⟩ wc hX5.el.es (by have := HA.out; omega) HA.out.1).mono ?_
          rintro e w5 ⟨ad, cp, us, rfl, hrel, hel', hbl, hlen', hrm'⟩
          have hne := NilOk.ne (cp := cp) hel' (setRel_ne hrel)
          have h55 := hX5.later hbl
          have h65 := hX6.later hbl
          have hRB5 := hRB.later hbl
          have hup : (⟨ad, cp, us⟩ : Tr).ts = [] ∨ ∃ k, blk (⟨ad, cp, us⟩ : Tr).ad = some k ∧ k < w5.heap.size := TB.upOf (t := ⟨ad, cp, us⟩) hel'
          have hQ : TQ ⟨ad, cp, us⟩ := ⟨by show us.length ≤ 300; have := HA.out; omega, ((HA.out.2.1.wide (Nat.le_refl _) (Nat.le_refl _)).setRel ⟨by show 1 ≤ 40; omega, Nat.zero_le _⟩ hrel).wide (by omega) (by omega)⟩
          have g5 := h55.put (u := ⟨ad, cp, us⟩) hel' hup hrm' hne (by have := HO.out; omega)
          have g6 := h65.grown (grown_set0 w5 b5 0 (.slice ad us.length cp)) (by have := HO.out; omega) (by have := HO.out; omega)
          have gR := hRB5.box (k := b5) (.slice ad us.length cp) (by have := HO.out; omega)
          have z5 := h55.c
          have z6 := h55.f
          have hsz5 := hbl.size
          clear h55 h65 hRB5 hX5 hX6 hRB hel' hup hbl z0 z1 z2 z3
          dsimp only at g5 g6
          go_upto_region 11 with fail
          have HS6 : Keep ((w5.setCell ⟨b5, 0, none⟩ (.slice ad us.length cp)).heap.size = w5.heap.size) := ⟨by simp⟩
          generalize w5.setCell ⟨b5, 0, none⟩ (.slice ad us.length cp) = w6 at *
          have hb7 := below_oneD w6 (.cells #[.string ⟨#[99, 47, 120]⟩, .bool false, .string ⟨#[]⟩, .bool false, .bool true, .string ⟨#[]⟩, .bool false] 68)
          have hb8 := below_oneD (w6.alloc (.cells #[.string ⟨#[99, 47, 120]⟩, .bool false, .string ⟨#[]⟩, .bool false, .bool true, .string ⟨#[]⟩, .bool false] 68)) (.cells #[.string ⟨#[99, 47, 120]⟩, .bool false, .string ⟨#[]⟩, .bool false, .bool true, .string ⟨#[]⟩, .bool false] 68)
          have k5 := (g5.later hb7).later hb8
          have k6 := (g6.later hb7).later hb8
          have kR := (gR.later hb7).later hb8
          have hcl : CL (w6.heap.size + 1) ((w6.alloc (.cells #[.string ⟨#[99, 47, 120]⟩, .bool false, .string ⟨#[]⟩, .bool false, .bool true, .string ⟨#[]⟩, .bool false] 68)).alloc (.cells #[.string ⟨#[99, 47, 120]⟩, .bool false, .string ⟨#[]⟩, .bool false, .bool true, .string ⟨#[]⟩, .bool false] 68)) (some ⟨w6.heap.size + 1, 0, none⟩) [⟨⟨#[99, 47, 120]⟩, ⟨false, ⟨#[]⟩, false⟩, ⟨true, ⟨#[]⟩, false⟩⟩] := .inr ⟨w6.heap.size + 1, rfl, Nat.le_refl _, by simp, fun j => by simp, fun i hi => by
            obtain rfl : i = 0 := by simpa using hi
            exact ⟨by simp, by simp, by simp, by simp, by simp, by simp, by simp⟩⟩
          have hupq := PB.upOf (t := ⟨some ⟨w6.heap.size + 1, 0, none⟩, 1, [⟨⟨#[99, 47, 120]⟩, ⟨false, ⟨#[]⟩, false⟩, ⟨true, ⟨#[]⟩, false⟩⟩]⟩) hcl
          have HF : Keep _ := ⟨(⟨kR.box (k := b6) (.slice (some ⟨w6.heap.size + 1, 0, none⟩) 1 1) (by have := HO.out; omega), k5.grown (grown_set0 ((w6.alloc (.cells #[.string ⟨#[99, 47, 120]⟩, .bool false, .string ⟨#[]⟩, .bool false, .bool true, .string ⟨#[]⟩, .bool false] 68)).alloc (.cells #[.string ⟨#[99, 47, 120]⟩, .bool false, .string ⟨#[]⟩, .bool false, .bool true, .string ⟨#[]⟩, .bool false] 68)) b6 0 (.slice (some ⟨w6.heap.size + 1, 0, none⟩) 1 1)) (by have := HO.out; omega) (by have := HO.out; omega), k6.put (u := ⟨some ⟨w6.heap.size + 1, 0, none⟩, 1, [⟨⟨#[99, 47, 120]⟩, ⟨false, ⟨#[]⟩, false⟩, ⟨true, ⟨#[]⟩, false⟩⟩]⟩) hcl hupq (Nat.le_refl _) (by have := g6.lt; omega)⟩ : _ ∧ _ ∧ _)⟩
          have z7 := k6.c
          have z8 := k6.f
          dsimp only at z7
          have HSZ : Keep (g < wc.heap.size ∧ g < w6.heap.size + 1) := ⟨by have := HO.out; have := HS6.out; omega⟩
          clear k5 k6 kR g5 g6 gR hcl hupq hb7 hb8
          go_wp2_with fail
          go_meet
          case rel => exact ⟨_, _, _, _, _, ⟨ad, cp, us⟩, ⟨some ⟨w6.heap.size + 1, 0, none⟩, 1, [⟨⟨#[99, 47, 120]⟩, ⟨false, ⟨#[]⟩, false⟩, ⟨true, ⟨#[]⟩, false⟩⟩]⟩, HF.out.1, HF.out.2.1, HF.out.2.2, hQ, HSZ.out.1, HSZ.out.2⟩
        · have HF : Keep _ := ⟨(⟨hRB, hX5, hX6⟩ : _ ∧ _ ∧ _)⟩
          clear hRB hX5 hX6
          go_wp2_with fail
          go_meet
          case rel => exact ⟨_, _, _, _, _, t5, ⟨adp, cpp, cs⟩, HF.out.1, HF.out.2.1, HF.out.2.2, HQ5.out, by have := HO.out; omega, by have := HO.out; omega⟩
      have hB2 : ((y : Int) == 2) = false := by simp; omega
      by_cases y3 : y = 3
      · have hB3 : ((y : Int) == 3) = true := by simp; omega
        clear y0 y1 y2 y3
        have z0 := hX5.c
        have z1 := hX5.f
        go_wp2_with fail
        refine (l5SpoilB_any 40 20 100 (by omega) (by omega) (by omega) (by omega) (by omega) g a cap zs' (p2 + 1) t5.ad t5.cp t5.ts wc hRB.rd (by have := HO.out; omega) hX5.el.es hX5.nl HA.out.1 HA.out.2.1 HA.out.2.2).mono ?_
        rintro e w5 ⟨ad, cp, us, rfl, hel', hn', hT', hNil', ⟨⟨p5, hp5, hR5⟩, hg5⟩, hrm'⟩
        have hRB5 := hRB.step hg5 hR5
        have h55 := hX5.grown hg5 (by have := HO.out; omega) (by have := HO.out; omega)
        have h65 := hX6.grown hg5 (by have := HO.out; omega) (by have := HO.out; omega)
        have hup : (⟨ad, cp, us⟩ : Tr).ts = [] ∨ ∃ k, blk (⟨ad, cp, us⟩ : Tr).ad = some k ∧ k < w5.heap.size := TB.upOf (t := ⟨ad, cp, us⟩) hel'
        have HF : Keep _ := ⟨(⟨hRB5.box (k := b5) (.slice ad us.length cp) (by have := HO.out; omega), h55.put (u := ⟨ad, cp, us⟩) hel' hup hrm' hNil' (by have := HO.out; omega), h65.grown (grown_set0 w5 b5 0 (.slice ad us.length cp)) (by have := HO.out; omega) (by have := HO.out; omega)⟩ : _ ∧ _ ∧ _)⟩
        have z3 := h55.c
        have z4 := h55.f
        have HSZ : Keep (g < wc.heap.size ∧ g < lo) := ⟨by have := HO.out; omega⟩
        have HQ : Keep (TQ ⟨ad, cp, us⟩) := ⟨⟨by show us.length ≤ 300; omega, hT'.wide (by omega) (by omega)⟩⟩
        clear z0 z1 h55 h65 hRB5 hX5 hX6 hRB hel' hup hg5 hR5
        go_wp2_with fail
        go_meet
        case rel => exact ⟨p5, _, _, _, _, ⟨ad, cp, us⟩, ⟨adp, cpp, cs⟩, HF.out.1, HF.out.2.1, HF.out.2.2, HQ.out, HSZ.out.1, HSZ.out.2⟩
      have hB3 : ((y : Int) == 3) = false := by simp; omega
      have HF : Keep _ := ⟨(⟨hRB, hX5, hX6⟩ : _ ∧ _ ∧ _)⟩
      clear hRB hX5 hX6 y0 y1 y2 y3
      go_wp2_with fail
      go_meet
      case rel => exact ⟨_, _, _, _, _, t5, ⟨adp, cpp, cs⟩, HF.out.1, HF.out.2.1, HF.out.2.2, HQ5.out, by have := HO.out; omega, by have := HO.out; omega⟩
    case rest =>
      clear hRB hX5 hX6
      obtain ⟨px, lo5, hi5, lo6, hi6, t, q, hRB, hX5, hX6, hQ, hg5, hg6⟩ := hcut
      have hbd : Below wc.heap.size wc wc.drew := (Below.refl _ _).drew
      have HZ : Keep (∀ n : Nat, IZ w r2 r3 (.slice t.ad t.ts.length t.cp) (.slice q.ad q.cs.length q.cp) (fun W => TB lo5 hi5 b5 t W ∧ PB lo6 hi6 b6 q W) (Array.replicate n false) wc.drew) := ⟨fun n => ⟨by rw [getD_repl, getD_repl]; exact hRB.rc.later hbd, hX5.later hbd, hX6.later hbd⟩⟩
      clear hRB hX5 hX6 hbd
      go_upto_region 15 with fail
      refine (wpIn_wide (n := 0)).1 ?_
      refine wpIn_region_inv0 (by kernel_rfl) (by kernel_rfl) (fun T0 => EVF T0 dsAp (zTab2 (.agg #[.slice t.ad t.ts.length t.cp]) (.agg #[.slice q.ad q.cs.length q.cp])) (fun _ _ _ => True) (IZ w r2 r3 (.slice t.ad t.ts.length t.cp) (.slice q.ad q.cs.length q.cp) (fun W => TB lo5 hi5 b5 t W ∧ PB lo6 hi6 b6 q W))) ?_ ?_ ?_
      · exact ⟨Sl2.start _, HZ.out _, fun _ _ _ => trivial⟩
      · intro L a2 w9 hinv hall
        have hZ := hinv.wd
        have hz2 := hall 2 (by decide)
        have hz3 := hall 3 (by decide)
        have HXX : Keep _ := ⟨hinv.sl.act⟩
        have c2 := hZ.rb.c2
        have c3 := hZ.rb.c3
        rw [hz2] at c2
        rw [hz3] at c3
        replace c2 : w9.cell? ⟨r2, 0, none⟩ = some (.slice t.ad t.ts.length t.cp) := c2
        replace c3 : w9.cell? ⟨r3, 0, none⟩ = some (.slice q.ad q.cs.length q.cp) := c3
        have HZZ : Keep _ := ⟨hZ⟩
        clear hinv hall hZ hz2 hz3 HZ
        rw [HXX.out]
        simp only [updL, dsAp, List.contains_cons, List.contains_nil, Nat.reduceAdd, Nat.reduceBEq, Bool.or_false, cond_false, cond_true, Bool.or_true]
        go_wp2
        refine bodyPost_ret (v := .tuple #[.agg #[.slice t.ad t.ts.length t.cp], .agg #[.slice q.ad q.cs.length q.cp]]) ?_ rfl ⟨t, q, rfl, HZZ.out.ab.1.el.es, HZZ.out.ab.2.el.cs, hQ, HZZ.out.ab.1.nl, HZZ.out.ab.1.rm, HZZ.out.ab.2.rm, HZZ.out.rb.bw⟩
        go_light
        simp [results, Try.results16, go_sem, c2, c3]
      · intro L a2 w9 i o hinv hcl hL ho hdep
        have hin : i < 4 := (Array.getElem?_eq_some_iff.1 ho).1
        unfold wpOpIn
        rw [ho]
        clear hcl HZ
        match i, hin, hL, ho, hdep with
        | 0, _, hL, ho, hdep =>
          injection ho with ho; subst ho
          dsimp only
          rw [if_pos (by rfl)]
          refine ⟨fun f _ => trivial, ?_⟩
          have e0 : a2.tmps[5]?.getD undef = .pointer (some ⟨b5, 0, none⟩) := hinv.sl.old (by decide)
          have z0 : w9.cell? ⟨b5, 0, none⟩ = some (.slice t.ad t.ts.length t.cp) := hinv.wd.ab.1.c
          go_simp
          exact hinv.step ndAp (fun _ _ _ => trivial) (i := 0) (by decide) (by show 46 < 48; decide) (fun u hu => by cases hu; rfl) trivial (hinv.wd.keep (by omega) (by omega))
        | 1, _, hL, ho, hdep =>
          injection ho with ho; subst ho
          dsimp only
          rw [if_pos (by rfl)]
          refine ⟨fun f _ => trivial, ?_⟩
          have e0 : a2.tmps[6]?.getD undef = .pointer (some ⟨b6, 0, none⟩) := hinv.sl.old (by decide)
          have z0 : w9.cell? ⟨b6, 0, none⟩ = some (.slice q.ad q.cs.length q.cp) := hinv.wd.ab.2.c
          go_simp
          exact hinv.step ndAp (fun _ _ _ => trivial) (i := 1) (by decide) (by show 47 < 48; decide) (fun u hu => by cases hu; rfl) trivial (hinv.wd.keep (by omega) (by omega))
        | 2, _, hL, ho, hdep =>
          injection ho with ho; subst ho
          dsimp only
          rw [if_pos (by rfl)]
          refine ⟨fun f _ => trivial, ?_⟩
          have e2 : a2.tmps[2]?.getD undef = .pointer (some ⟨r2, 0, none⟩) := hinv.sl.old (by decide)
          have e9 : a2.tmps[46]?.getD undef = .agg #[.slice t.ad t.ts.length t.cp] := hinv.sl.new (i := 0) (by decide) rfl (hdep ⟨0, .data⟩ (by simp) rfl)
          have z0 := hinv.wd.rb.c2
          have z1 := hinv.wd.rb.f2
          go_simp
          exact hinv.skip (fun _ _ _ => trivial) (i := 2) rfl (fun _ => trivial) (hinv.wd.st2 hL (fun W v hh => ⟨hh.1.grown (grown_set0 W r2 0 v) (by have := HO.out; omega) (by have := HO.out; omega), hh.2.grown (grown_set0 W r2 0 v) (by have := HO.out; omega) (by have := HO.out; omega)⟩))
        | 3, _, hL, ho, hdep =>
          injection ho with ho; subst ho
          dsimp only
          rw [if_pos (by rfl)]
          refine ⟨fun f _ => trivial, ?_⟩
          have e2 : a2.tmps[3]?.getD undef = .pointer (some ⟨r3, 0, none⟩) := hinv.sl.old (by decide)
          have e9 : a2.tmps[47]?.getD undef = .agg #[.slice q.ad q.cs.length q.cp] := hinv.sl.new (i := 1) (by decide) rfl (hdep ⟨1, .data⟩ (by simp) rfl)
          have z0 := hinv.wd.rb.c3
          have z1 := hinv.wd.rb.f3
          go_simp
          exact hinv.skip (fun _ _ _ => trivial) (i := 3) rfl (fun _ => trivial) (hinv.wd.st3 hL (fun W v hh => ⟨hh.1.grown (grown_set0 W r3 0 v) (by have := HO.out; omega) (by have := HO.out; omega), hh.2.grown (grown_set0 W r3 0 v) (by have := HO.out; omega) (by have := HO.out; omega)⟩))
end Go.Proofs.Ytjlflmbifeocbaa

namespace Go.Proofs.Ytjlflmbifeocbaa
open Go.RowKit

theorem nil_row {W : World} {B z : Nat} {e : TypeId} {ad : Option Addr} {n cp : Nat} {xs : List Value} (h : W.ownsRow B e z (.slice ad n cp) n xs) : NilOk ad cp := by
  rcases h.2 with ⟨h0, _⟩ | ⟨_, _, _, h0, _⟩
  · injection h0 with h1 h2 h3
    exact .inr ⟨h1, h3⟩
  · injection h0 with h1
    exact .inl ⟨_, h1⟩
def LayPost6N (ts : List En) (p : ByteArray) (f : Fl) (w : World) (e : Ending) (w' : World) : Prop :=
  ∃ ad cap us, e = .returned (.agg #[.slice ad us.length cap]) ∧ LayRel ts p f us ∧ EL w.heap.size w' ad us ∧ Below w.heap.size w w' ∧ us.length ≤ ts.length + 1 ∧ NilOk ad cap

set_option maxRecDepth 100000 in
set_option maxHeartbeats 8000000 in
theorem l6LayN_any (a : Option Addr) (cap : Nat) (ts : List En) (p : ByteArray) (f : Fl) (w : World) (hts : ES w a ts) (hn : ts.length ≤ 1000000) (hA : Asc ts) :
    Calls Try.prog 24 #[.agg #[.slice a ts.length cap], .string p, .agg #[.bool f.there, .string f.text, .bool f.runs]] w fun e w' => LayPost6N ts p f w e w' := by
  obtain ⟨i0, hi, hz0, hz1, hz2⟩ := info_parts Try.infoEntry
  have hal : Below w.heap.size w ((((w.alloc (.cells #[.slice a ts.length cap] 25)).alloc (.cells #[.bool f.there, .string f.text, .bool f.runs] 54)).alloc (.cells #[.slice none 0 0] 25)).alloc (.cells #[.slice none 0 0] 25)) := ((((Below.refl _ _).alloc (Nat.le_refl _) _).alloc (by simp) _).alloc (by simp; omega) _).alloc (by simp; omega) _
  have m0 : ((((w.alloc (.cells #[.slice a ts.length cap] 25)).alloc (.cells #[.bool f.there, .string f.text, .bool f.runs] 54)).alloc (.cells #[.slice none 0 0] 25)).alloc (.cells #[.slice none 0 0] 25)).cell? ⟨w.heap.size, 0, none⟩ = some (.slice a ts.length cap) := by simp [go_sem]
  have f0 : ((((w.alloc (.cells #[.slice a ts.length cap] 25)).alloc (.cells #[.bool f.there, .string f.text, .bool f.runs] 54)).alloc (.cells #[.slice none 0 0] 25)).alloc (.cells #[.slice none 0 0] 25)).cell? ⟨w.heap.size + 1, 0, none⟩ = some (.bool f.there) := by simp [go_sem]
  have f1 : ((((w.alloc (.cells #[.slice a ts.length cap] 25)).alloc (.cells #[.bool f.there, .string f.text, .bool f.runs] 54)).alloc (.cells #[.slice none 0 0] 25)).alloc (.cells #[.slice none 0 0] 25)).cell? ⟨w.heap.size + 1, 1, none⟩ = some (.string f.text) := by simp [go_sem]
  have f2 : ((((w.alloc (.cells #[.slice a ts.length cap] 25)).alloc (.cells #[.bool f.there, .string f.text, .bool f.runs] 54)).alloc (.cells #[.slice none 0 0] 25)).alloc (.cells #[.slice none 0 0] 25)).cell? ⟨w.heap.size + 1, 2, none⟩ = some (.bool f.runs) := by simp [go_sem]
  have k0 : ((((w.alloc (.cells #[.slice a ts.length cap] 25)).alloc (.cells #[.bool f.there, .string f.text, .bool f.runs] 54)).alloc (.cells #[.slice none 0 0] 25)).alloc (.cells #[.slice none 0 0] 25)).cell? ⟨w.heap.size + 1 + 1, 0, none⟩ = some (.slice none 0 0) := by simp [go_sem]
  have kf : ((((w.alloc (.cells #[.slice a ts.length cap] 25)).alloc (.cells #[.bool f.there, .string f.text, .bool f.runs] 54)).alloc (.cells #[.slice none 0 0] 25)).alloc (.cells #[.slice none 0 0] 25)).frozen? ⟨w.heap.size + 1 + 1, 0, none⟩ = false := by simp [go_sem]
  have o0 : ((((w.alloc (.cells #[.slice a ts.length cap] 25)).alloc (.cells #[.bool f.there, .string f.text, .bool f.runs] 54)).alloc (.cells #[.slice none 0 0] 25)).alloc (.cells #[.slice none 0 0] 25)).cell? ⟨w.heap.size + 1 + 1 + 1, 0, none⟩ = some (.slice none 0 0) := by simp [go_sem]
  have of0 : ((((w.alloc (.cells #[.slice a ts.length cap] 25)).alloc (.cells #[.bool f.there, .string f.text, .bool f.runs] 54)).alloc (.cells #[.slice none 0 0] 25)).alloc (.cells #[.slice none 0 0] 25)).frozen? ⟨w.heap.size + 1 + 1 + 1, 0, none⟩ = false := by simp [go_sem]
  have os0 : w.heap.size + 1 + 1 + 1 < ((((w.alloc (.cells #[.slice a ts.length cap] 25)).alloc (.cells #[.bool f.there, .string f.text, .bool f.runs] 54)).alloc (.cells #[.slice none 0 0] 25)).alloc (.cells #[.slice none 0 0] 25)).heap.size := by simp [go_sem]
  go_enter Try.func24, Try.ntmps24
  go_wp2
  generalize (((w.alloc (.cells #[.slice a ts.length cap] 25)).alloc (.cells #[.bool f.there, .string f.text, .bool f.runs] 54)).alloc (.cells #[.slice none 0 0] 25)).alloc (.cells #[.slice none 0 0] 25) = W at *
  obtain ⟨ob, hob⟩ : ∃ ob, ob = w.heap.size + 1 + 1 + 1 := ⟨_, rfl⟩
  obtain ⟨g, hg⟩ : ∃ g, g = w.heap.size + 1 + 1 := ⟨_, rfl⟩
  obtain ⟨fb, hfb⟩ : ∃ fb, fb = w.heap.size + 1 := ⟨_, rfl⟩
  obtain ⟨ta, hta⟩ : ∃ ta, ta = w.heap.size := ⟨_, rfl⟩
  rw [← hob] at o0 of0 os0 ⊢
  rw [← hg] at k0 kf ⊢
  rw [← hfb] at f0 f1 f2 ⊢
  rw [← hta] at m0 ⊢
  have HS : Keep (ta = w.heap.size ∧ fb = w.heap.size + 1 ∧ g = w.heap.size + 2 ∧ ob = w.heap.size + 3 ∧ ob < W.heap.size) := ⟨by omega⟩
  have hst0 := OutSt.start o0 of0 os0
  clear hob hg hfb hta o0 of0 os0
  go_loopw [8] (fun i wr => ∃ (k : Nat) (v : Value), i = .int .i64 k ∧ k ≤ ts.length ∧ OutSt ob W v (offP (ts.take k) p) wr) (fun i _ => ts.length - (intOf i).toNat)
  case atStart => exact ⟨0, _, rfl, Nat.zero_le _, hst0⟩
  case round =>
    clear hst0
    obtain ⟨k, v, rfl, hk, hst⟩ := hrel
    have hbr := hst.below hal (by have := HS.out; omega)
    have mr := hst.keep m0 (by have := HS.out; omega) (by have := HS.out; omega)
    by_cases hlt : k < ts.length
    · have hlt' : (k : Int) < ts.length := by omega
      obtain ⟨b, off, rfl, hc⟩ := (hts.below hbr).at hlt
      obtain ⟨x0, x1, x2⟩ := hc k hlt
      have hwt := offP_take (p := p) hlt
      cases hq : (ts[k].path.toList == p.toList) with
      | true =>
        rw [hq] at hwt
        simp only [if_true] at hwt
        have HW : Keep (offP (ts.take (k + 1)) p = offP (ts.take k) p) := ⟨hwt⟩
        have hq2 : (ts[k].path.toList != p.toList) = false := by simpa using hq
        clear hwt hc
        go_wp2
        go_roundw
        case rel => exact ⟨k + 1, v, by congr 1, hlt, by rw [HW.out]; exact hst⟩
        case measure => simp only [intOf]; omega
      | false =>
        rw [hq] at hwt
        simp only [Bool.false_eq_true, if_false] at hwt
        have HW : Keep (offP (ts.take (k + 1)) p = offP (ts.take k) p ++ [ts[k]]) := ⟨hwt⟩
        have hq2 : (ts[k].path.toList != p.toList) = true := by simpa using hq
        have hlen : (offP (ts.take k) p).length ≤ 1048576 := Nat.le_trans offP_len (by simp; omega)
        clear hwt hc
        generalize offP (ts.take k) p = us at *
        have hb1 : Below wr.heap.size wr (wr.alloc (.cells #[.string ts[k].path, .string ts[k].text, .bool ts[k].runs] 57)).drew := ((Below.refl _ _).alloc (Nat.le_refl _) _).drew
        have o1 := hst.cell
        have o1a : ∀ o, (wr.alloc o).cell? ⟨ob, 0, none⟩ = some v := fun o => cell_later ((Below.refl _ _).alloc (Nat.le_refl _) o) o1
        have HST : Keep (OutSt ob W v us wr) := ⟨hst⟩
        have hgs := hst.grown.size
        clear hst hbr
        go_wp2_with fail
        go_region_law (refine step_append_lies _ rfl _ _ 23 rfl W.heap.size 57 i0 _ 3 40 Try.underlying23 hi hz0 hz1 hz2 rfl (by decide) v us.length (ecells us) rfl (by exact owns_below HST.out.row hb1) ⟨wr.heap.size, 0, none⟩ 1 1 (ecell ts[k]) rfl rfl (by exact news_3 _ _ _ _ (by simp)) (by exact one_3 _) (by omega) (by unfold maxLen; omega) (by omega) (by simp; omega) (wr.heap.size + 1) (by simp) ?_; intro g2 cap2 w2 hown2 hgrow2 hat2 hlt2; have hm3 := HST.out.mid hb1 hgrow2; have oc3 := hm3.1; have of3 := hm3.2)
        all_goals
          have hst3 := HST.out.append hb1 hgrow2 hown2
          clear hm3 oc3 of3 hgrow2 hown2 hat2 hlt2 o1 o1a x0 x1 x2 mr HST
          go_wp2
          go_roundw
          case rel => exact ⟨k + 1, _, by congr 1, hlt, by rw [HW.out]; exact hst3⟩
          case measure => simp only [intOf]; omega
    · obtain rfl : k = ts.length := by omega
      rw [List.take_length] at hst
      have k2 := hst.keep k0 (by have := HS.out; omega) (by have := HS.out; omega)
      have g0 := hst.keep f0 (by have := HS.out; omega) (by have := HS.out; omega)
      have g1 := hst.keep f1 (by have := HS.out; omega) (by have := HS.out; omega)
      have g2 := hst.keep f2 (by have := HS.out; omega) (by have := HS.out; omega)
      have kf2 : wr.frozen? ⟨g, 0, none⟩ = false := frozen_of (hst.grown.block g (by have := HS.out; omega) (fun e => by have := HS.out; cases e; omega)) kf
      obtain ⟨ad, cap2, rfl⟩ := owns_slice hst.row
      have o2 := hst.cell
      have of2 := hst.fz
      have hel := el_of_row hst.row
      have hgo : ¬ g = ob := by have := HS.out; omega
      have hog : ¬ ob = g := by have := HS.out; omega
      cases ht : f.there with
      | false =>
        rw [ht] at g0
        have HB : Keep (LayPost6N ts p f w (.returned (.agg #[.slice ad (offP ts p).length cap2])) (wr.setCell ⟨g, 0, none⟩ (.slice ad (offP ts p).length cap2))) := ⟨⟨ad, cap2, offP ts p, rfl, by unfold LayRel; rw [if_neg (by rw [ht]; simp)], (hel.grown (row := some g) (grown_set0 wr g 0 _) (fun j _ hj _ e => by have := HS.out; cases e; omega)).mono (show w.heap.size ≤ W.heap.size by have := HS.out; omega), hbr.setCell (p := ⟨g, 0, none⟩) (by have := HS.out; show _ ≤ g; omega) _, Nat.le_trans offP_len (by omega), nil_row hst.row⟩⟩
        clear hel hst hbr
        generalize offP ts p = us at *
        go_wp2
        refine bodyPost_ret (v := .agg #[.slice ad us.length cap2]) ?_ rfl HB.out
        go_light
        simp [results, Try.results24, go_sem, k2]
      | true =>
        rw [ht] at g0
        have hset := l5SetC_any ad cap2 (offP ts p) ⟨p, f.text, f.runs⟩ wr hel.es (Nat.le_trans offP_len (by omega)) (offP_asc hA)
        have hol : (offP ts p).length ≤ ts.length := offP_len
        have HST : Keep (OutSt ob W (.slice ad (offP ts p).length cap2) (offP ts p) wr) := ⟨hst⟩
        clear hel hst
        go_wp2_with fail
        refine hset.mono ?_
        rintro e w3 ⟨ad3, cap3, us, rfl, hrel, hel3, hb3, hus, _⟩
        replace k2 := cell_later hb3 k2
        replace o2 := cell_later hb3 o2
        replace kf2 : w3.frozen? ⟨g, 0, none⟩ = false := (hb3.frozen (p := ⟨g, 0, none⟩) (World.block_lt_of_cell? wr ⟨g, 0, none⟩ (HST.out.keep k0 (by have := HS.out; omega) (by have := HS.out; omega)))).trans kf2
        replace of2 : w3.frozen? ⟨ob, 0, none⟩ = false := (hb3.frozen (p := ⟨ob, 0, none⟩) HST.out.size).trans of2
        have hgw := HST.out.grown.size
        have h31 := hel3.grown (row := some ob) (grown_set0 w3 ob 0 (.slice ad3 us.length cap3)) (fun j _ hj _ e => by have := HS.out; cases e; omega)
        have h32 := h31.grown (row := some g) (grown_set0 _ g 0 (.slice ad3 us.length cap3)) (fun j _ hj _ e => by have := HS.out; cases e; omega)
        have hb4 := ((hbr.trans (hb3.mono hbr.size)).setCell (p := ⟨ob, 0, none⟩) (by have := HS.out; show _ ≤ ob; omega) (.slice ad3 us.length cap3)).setCell (p := ⟨g, 0, none⟩) (by have := HS.out; show _ ≤ g; omega) (.slice ad3 us.length cap3)
        have HB : Keep (LayPost6N ts p f w (.returned (.agg #[.slice ad3 us.length cap3])) ((w3.setCell ⟨ob, 0, none⟩ (.slice ad3 us.length cap3)).setCell ⟨g, 0, none⟩ (.slice ad3 us.length cap3))) := ⟨⟨ad3, cap3, us, rfl, by unfold LayRel; rw [if_pos ht]; exact hrel, h32.mono (show w.heap.size ≤ wr.heap.size by have := HS.out; omega), hb4, by omega, NilOk.ne hel3 (fun h => by have := (hrel.mem ⟨p, f.text, f.runs⟩).2 (.inl rfl); rw [h] at this; cases this)⟩⟩
        clear hel3 h31 h32 hb4 hb3 hset hbr HST
        go_wp2
        refine bodyPost_ret (v := .agg #[.slice ad3 us.length cap3]) ?_ rfl HB.out
        go_light
        simp [results, Try.results24, go_sem, k2]
end Go.Proofs.Ytjlflmbifeocbaa

namespace Go.Proofs.Ytjlflmbifeocbaa
open Go.RowKit

structure YN (T0 : Array Value) (X : World) (P C K : Value) (tb b1 o : Nat) (us : List En) (s : ByteArray) (f : Fl) (E : World → Prop) (L : Array Bool) (a : Act) (w : World) : Prop where
  sl : Sl2 T0 yDs (yTab P C K tb b1 o s f) L a
  w0 : L.getD 13 false = false → w = X.drew
  w1 : L.getD 13 false = true → L.getD 14 false = false → ∃ ad cap vs, a.eval (.tmp 63) = .agg #[.slice ad vs.length cap] ∧ LayRel us s f vs ∧ EL X.heap.size w ad vs ∧ Below X.heap.size X w ∧ (vs.length ≤ us.length + 1 ∧ NilOk ad cap)
  w3 : L.getD 14 false = true → E w

theorem YN.step {T0 : Array Value} {X : World} {P C K : Value} {tb b1 o : Nat} {us : List En} {s : ByteArray} {f : Fl} {E : World → Prop} {L : Array Bool} {a : Act} {w : World} (h : YN T0 X P C K tb b1 o us s f E L a w) {i : Nat} {u : Value} (hT : T0.size = 69) (hi : i < 13) (ht : yTab P C K tb b1 o s f i = some u) :
    YN T0 X P C K tb b1 o us s f E (L.setIfInBounds i true) (a.put (some (50 + i)) u) w := by
  have hlen : i < yDs.length := by show i < 15; omega
  have hds : yDs[i] = 50 + i := by
    match i, hi with
    | 0, _ | 1, _ | 2, _ | 3, _ | 4, _ | 5, _ | 6, _ | 7, _ | 8, _ | 9, _ | 10, _ | 11, _ | 12, _ => rfl
  have hsl := h.sl.put yNd hlen (by rw [hds, hT]; omega) (v := u) (fun u' hu => by rw [ht] at hu; cases hu; rfl)
  rw [hds] at hsl
  have ev : ∀ k, k ≠ 50 + i → (a.put (some (50 + i)) u).eval (.tmp k) = a.eval (.tmp k) := fun k hk => Act.eval_put (fun d hd' => by cases hd'; intro e'; injection e' with e'; exact hk e')
  refine ⟨hsl, fun h1 => ?_, fun h1 h2 => ?_, fun h1 => ?_⟩
  · rw [getD_set_ne false (by omega)] at h1; exact h.w0 h1
  · rw [getD_set_ne false (by omega)] at h1; rw [getD_set_ne false (by omega)] at h2
    obtain ⟨ad, cap, vs, e1, e2⟩ := h.w1 h1 h2
    exact ⟨ad, cap, vs, by rw [ev 63 (by omega)]; exact e1, e2⟩
  · rw [getD_set_ne false (by omega)] at h1; exact h.w3 h1
theorem YN.call {T0 : Array Value} {X : World} {P C K : Value} {tb b1 o : Nat} {us : List En} {s : ByteArray} {f : Fl} {E : World → Prop} {L : Array Bool} {a : Act} {w w' : World} (h : YN T0 X P C K tb b1 o us s f E L a w) (hT : T0.size = 69) (hL : L.getD 13 true = false) (h14 : L.getD 14 false = false) {ad : Option Addr} {cap : Nat} {vs : List En}
    (e2 : LayRel us s f vs) (e3 : EL X.heap.size w' ad vs) (e4 : Below X.heap.size X w') (e5 : (vs.length ≤ us.length + 1 ∧ NilOk ad cap)) :
    YN T0 X P C K tb b1 o us s f E (L.setIfInBounds 13 true) (a.put (some 63) (.agg #[.slice ad vs.length cap])) w' := by
  have g13 : (L.setIfInBounds 13 true).getD 13 false = true := by
    have h1 := getD_false hL
    have h2 : 13 < L.size := by simpa using (List.getElem?_eq_some_iff.1 h1).1
    rw [Array.getD_eq_getD_getElem?, Array.getElem?_setIfInBounds_self_of_lt h2]
    rfl
  refine ⟨h.sl.put (i := 13) yNd (by decide) (show 63 < _ by rw [hT]; omega) (fun u hu => by cases hu), fun h1 => ?_, fun _ _ => ⟨ad, cap, vs, ?_, e2, e3, e4, e5⟩, fun h1 => ?_⟩
  · rw [g13] at h1; cases h1
  · show ((a.tmps.setIfInBounds 63 _).getD 63 undef) = _
    rw [Array.getD_eq_getD_getElem?, Array.getElem?_setIfInBounds_self_of_lt (by rw [h.sl.sz, hT]; omega)]
    rfl
  · rw [getD_set_ne false (by omega), h14] at h1; cases h1
theorem YN.last {T0 : Array Value} {X : World} {P C K : Value} {tb b1 o : Nat} {us : List En} {s : ByteArray} {f : Fl} {E : World → Prop} {L : Array Bool} {a : Act} {w w' : World} (h : YN T0 X P C K tb b1 o us s f E L a w) (h13 : L.getD 13 false = true) (hL : L.getD 14 true = false) (hE : E w') :
    YN T0 X P C K tb b1 o us s f E (L.setIfInBounds 14 true) a w' := by
  have g14 : (L.setIfInBounds 14 true).getD 14 false = true := by
    have h1 := getD_false hL
    have h2 : 14 < L.size := by simpa using (List.getElem?_eq_some_iff.1 h1).1
    rw [Array.getD_eq_getD_getElem?, Array.getElem?_setIfInBounds_self_of_lt h2]
    rfl
  refine ⟨h.sl.skip rfl, fun h1 => ?_, fun _ h2 => ?_, fun _ => hE⟩
  · rw [getD_set_ne false (by omega), h13] at h1; cases h1
  · rw [g14] at h2; cases h2
end Go.Proofs.Ytjlflmbifeocbaa

namespace Go.Proofs.Ytjlflmbifeocbaa
open Go.RowKit

def ApplyPostN (ts : List En) (cs : List Ch) (w : World) (e : Ending) (w' : World) : Prop :=
  ∃ us c, ApplyRel ts cs us c ∧ (∃ ad cap, e = .returned (TreeV ad us.length cap c) ∧ EL w.heap.size w' ad us ∧ NilOk ad cap) ∧ Below w.heap.size w w'
set_option maxRecDepth 100000 in
set_option maxHeartbeats 8000000 in
theorem specApplyN_any (a b : Option Addr) (ca cb : Nat) (ts : List En) (cs : List Ch) (w : World) (hts : ES w a ts) (hcs : CS w b cs) (hn : ts.length ≤ 1048576) (hnb : cs.length ≤ 1048576) (hca : (∃ ad, a = some ad) ∨ (a = none ∧ ca = 0)) :
    Calls Try.prog 44 #[.agg #[.slice a ts.length ca], .agg #[.slice b cs.length cb]] w fun e w' => ApplyPostN ts cs w e w' := by
  have hal : Below w.heap.size w (((w.alloc (.cells #[.slice a ts.length ca] 25)).alloc (.cells #[.slice b cs.length cb] 30)).alloc (.cells #[.slice none 0 0] 25)) := (((Below.refl _ _).alloc (Nat.le_refl _) _).alloc (by simp) _).alloc (by simp; omega) _
  have m0 : (((w.alloc (.cells #[.slice a ts.length ca] 25)).alloc (.cells #[.slice b cs.length cb] 30)).alloc (.cells #[.slice none 0 0] 25)).cell? ⟨w.heap.size, 0, none⟩ = some (.slice a ts.length ca) := by simp [go_sem]
  have m1 : (((w.alloc (.cells #[.slice a ts.length ca] 25)).alloc (.cells #[.slice b cs.length cb] 30)).alloc (.cells #[.slice none 0 0] 25)).cell? ⟨w.heap.size + 1, 0, none⟩ = some (.slice b cs.length cb) := by simp [go_sem]
  have k0 : (((w.alloc (.cells #[.slice a ts.length ca] 25)).alloc (.cells #[.slice b cs.length cb] 30)).alloc (.cells #[.slice none 0 0] 25)).cell? ⟨w.heap.size + 1 + 1, 0, none⟩ = some (.slice none 0 0) := by simp [go_sem]
  have kf : (((w.alloc (.cells #[.slice a ts.length ca] 25)).alloc (.cells #[.slice b cs.length cb] 30)).alloc (.cells #[.slice none 0 0] 25)).frozen? ⟨w.heap.size + 1 + 1, 0, none⟩ = false := by simp [go_sem]
  have os0 : w.heap.size + 1 + 1 < (((w.alloc (.cells #[.slice a ts.length ca] 25)).alloc (.cells #[.slice b cs.length cb] 30)).alloc (.cells #[.slice none 0 0] 25)).heap.size := by simp [go_sem]
  go_enter Try.func44, Try.ntmps44
  go_upto_region 1 with fail
  generalize ((w.alloc (.cells #[.slice a ts.length ca] 25)).alloc (.cells #[.slice b cs.length cb] 30)).alloc (.cells #[.slice none 0 0] 25) = W at *
  obtain ⟨g, hg⟩ : ∃ g, g = w.heap.size + 1 + 1 := ⟨_, rfl⟩
  obtain ⟨tb, htb⟩ : ∃ tb, tb = w.heap.size + 1 := ⟨_, rfl⟩
  obtain ⟨ta, hta⟩ : ∃ ta, ta = w.heap.size := ⟨_, rfl⟩
  rw [← hg] at k0 kf os0 ⊢
  rw [← htb] at m1 ⊢
  rw [← hta] at m0 ⊢
  have HS : Keep (ta = w.heap.size ∧ tb = w.heap.size + 1 ∧ g = w.heap.size + 2) := ⟨by omega⟩
  clear hg htb hta
  go_cut [16] (fun v wx => ∃ nb : Bool, v = .bool nb ∧ Keep (nb = false ↔ ValidTs ts ∧ ValidP cs) ∧ Below W.heap.size W wx)
  case first =>
    go_wp2_with fail
    refine (specTree_any a ca ts W (hts.below hal) hn).mono ?_
    rintro e w1 ⟨va, rfl, hva, hb1⟩
    have m1' := cell_later hb1 m1
    cases va with
    | false =>
      have HV : Keep ((true = false) ↔ ValidTs ts ∧ ValidP cs) := ⟨⟨fun h => (by cases h), fun h => (by have := hva.2 h.1; cases this)⟩⟩
      clear hva
      go_wp2_with fail
      go_meet
      case rel => exact ⟨true, rfl, HV, hb1⟩
    | true =>
      have HV : Keep (ValidTs ts) := ⟨hva.1 rfl⟩
      clear hva
      go_wp2_with fail
      refine (specPatch_any b cb cs w1 ((hcs.below hal).below hb1) hnb).mono ?_
      rintro e w2 ⟨vb, rfl, hvb, hb2⟩
      have HV2 : Keep ((!vb) = false ↔ ValidTs ts ∧ ValidP cs) := ⟨⟨fun h => ⟨HV.out, hvb.1 (by simpa using h)⟩, fun h => by rw [hvb.2 h.2]; rfl⟩⟩
      clear hvb
      go_wp2_with fail
      go_meet
      case rel => exact ⟨_, rfl, HV2, hb1.trans (hb2.mono hb1.size)⟩
  case rest =>
    obtain ⟨nb, rfl, HV, hb1⟩ := hcut
    replace m0 := cell_later hb1 m0
    replace m1 := cell_later hb1 m1
    replace k0 := cell_later hb1 k0
    replace kf : wc.frozen? ⟨g, 0, none⟩ = false := (hb1.frozen (p := ⟨g, 0, none⟩) os0).trans kf
    have os1 : g < wc.heap.size := Nat.lt_of_lt_of_le os0 hb1.size
    have hbw := hal.trans (hb1.mono hal.size)
    clear hb1 hal os0
    cases nb with
    | true =>
      have hnv : ¬ (ValidTs ts ∧ ValidP cs) := fun h => by have := HV.out.2 h; cases this
      go_wp2
      refine bodyPost_ret (v := TreeV none ([] : List En).length 0 1) ?_ rfl ⟨[], 1, .inl ⟨hnv, rfl, rfl⟩, ⟨none, 0, rfl, EL.nil _ _ _, .inr ⟨rfl, rfl⟩⟩, hbw.setCell (p := ⟨g, 0, none⟩) (by have := HS.out; show _ ≤ g; omega) _⟩
      go_light
      simp [results, Try.results44, go_sem, TreeV, k0]
    | false =>
      have hv := HV.out.1 rfl
      have HS1 : Keep (g < wc.heap.size) := ⟨os1⟩
      clear os1
      go_wp2
      go_loopw [6] (fun i wr => ∃ k : Nat, i = .int .i64 k ∧ k ≤ cs.length ∧ Below wc.heap.size wc wr ∧ Keep (∀ x ∈ cs.take k, sameF (atL ts x.path) x.old = true)) (fun i _ => cs.length - (intOf i).toNat)
      case atStart => exact ⟨0, rfl, Nat.zero_le _, Below.refl _ _, ⟨fun x hx => by simp at hx⟩⟩
      case round =>
        obtain ⟨k, rfl, hk, hbk, HSM⟩ := hrel
        have t0 := cell_later hbk m0
        have t1 := cell_later hbk m1
        have hbx := hbw.trans (hbk.mono hbw.size)
        by_cases hlt : k < cs.length
        · have hlt' : (k : Int) < cs.length := by omega
          obtain ⟨b1, o1, rfl, hc1⟩ := (hcs.below hbx).at hlt
          obtain ⟨x0, x1, x2, x3, x4, x5, x6⟩ := hc1 k hlt
          have ct0 : ∀ z : Later wr, z.world.cell? ⟨ta, 0, none⟩ = some (.slice a ts.length ca) := fun z => cell_later z.kept t0
          have ct1 : ∀ z : Later wr, z.world.cell? ⟨tb, 0, none⟩ = some (.slice (some ⟨b1, o1, none⟩) cs.length cb) := fun z => cell_later z.kept t1
          have cx0 : ∀ z : Later wr, z.world.cell? ⟨b1, o1 + k * 7, none⟩ = some (.string cs[k].path) := fun z => cell_later z.kept x0
          have cx1 : ∀ z : Later wr, z.world.cell? ⟨b1, o1 + k * 7 + 1, none⟩ = some (.bool cs[k].old.there) := fun z => cell_later z.kept x1
          have cx2 : ∀ z : Later wr, z.world.cell? ⟨b1, o1 + k * 7 + 2, none⟩ = some (.string cs[k].old.text) := fun z => cell_later z.kept x2
          have cx3 : ∀ z : Later wr, z.world.cell? ⟨b1, o1 + k * 7 + 3, none⟩ = some (.bool cs[k].old.runs) := fun z => cell_later z.kept x3
          have kr := cell_later hbk k0
          have kfr : wr.frozen? ⟨g, 0, none⟩ = false := (hbk.frozen (p := ⟨g, 0, none⟩) HS1.out).trans kf
          have HG : Keep (g < wr.heap.size) := ⟨Nat.lt_of_lt_of_le HS1.out hbk.size⟩
          obtain ⟨f1, hf1⟩ : ∃ f1, f1 = atL ts cs[k].path := ⟨_, rfl⟩
          have HA1 : Keep (∀ z : Later wr, Calls Try.prog 35 #[.agg #[.slice a ts.length ca], .string cs[k].path] z.world fun e w'' => e = .returned (.agg #[.bool f1.there, .string f1.text, .bool f1.runs]) ∧ ∃ q : Later wr, w'' = q.world) := ⟨fun z => by rw [hf1]; exact Later.call z (l6At_any a ca ts cs[k].path z.world ((hts.below hbx).below z.kept) hn)⟩
          have HT : Keep (cs.take (k + 1) = cs.take k ++ [cs[k]]) := ⟨List.take_succ_eq_append_getElem hlt⟩
          clear hc1 x0 x1 x2 x3 x4 x5 x6
          cases hsm : sameF f1 cs[k].old with
          | true =>
            have HN2 : Keep (∀ x ∈ cs.take (k + 1), sameF (atL ts x.path) x.old = true) := ⟨fun x hx => by
              rw [HT.out] at hx
              rcases List.mem_append.1 hx with h' | h'
              · exact HSM.out x h'
              · rw [List.mem_singleton.1 h', ← hf1]; exact hsm⟩
            obtain ⟨⟨h1, h2⟩, h3⟩ : (f1.there = cs[k].old.there ∧ f1.text.toList = cs[k].old.text.toList) ∧ f1.runs = cs[k].old.runs := by simpa [sameF] using hsm
            have h4 : f1.text = cs[k].old.text := WideShapes.bytes_inj (by rw [← Lib.toList_data, ← Lib.toList_data]; exact h2)
            rw [← h1] at cx1
            rw [← h4] at cx2
            rw [← h3] at cx3
            clear hsm h1 h2 h3 h4 hf1
            go_upto_region 6 with fail
            (haveI := later_any; refine wp_region_later (by kernel_rfl) (by kernel_rfl) ?_; (repeat (go_big_quiet_step (first | (go_at_call 35; exact HA1.out _)))); refine wpQuiet_nil ?_; intro _ hwq; obtain ⟨xq, hwq2⟩ := hwq; subst hwq2)
            have hbq := hbk.trans (xq.kept.mono hbk.size)
            clear ct0 ct1 cx0 cx1 cx2 cx3 HA1 t0 t1 hbk hbx kr kfr
            go_wp2
            go_roundw
            case rel => exact ⟨k + 1, by congr 1, hlt, hbq, HN2⟩
            case measure => simp only [intOf]; omega
          | false =>
            have HBad : Keep (∀ X, Below wr.heap.size wr X → ApplyPostN ts cs w (.returned (TreeV none ([] : List En).length 0 2)) (X.setCell ⟨g, 0, none⟩ (.slice none 0 0))) := ⟨fun X hX => ⟨[], 2, .inr ⟨hv.1, hv.2, .inl ⟨⟨cs[k], List.getElem_mem hlt, by rw [← hf1]; exact hsm⟩, rfl, rfl⟩⟩, ⟨none, 0, rfl, EL.nil _ _ _, .inr ⟨rfl, rfl⟩⟩, (hbx.trans (hX.mono hbx.size)).setCell (p := ⟨g, 0, none⟩) (by have := HS.out; show _ ≤ g; omega) _⟩⟩
            clear hf1
            by_cases h1 : f1.there = cs[k].old.there
            · by_cases h2 : f1.text.toList = cs[k].old.text.toList
              · by_cases h3 : f1.runs = cs[k].old.runs
                · exfalso
                  rw [Bool.eq_false_iff] at hsm
                  exact hsm (by simp [sameF, h1, h2, h3])
                · clear hsm
                  go_upto_region 6 with fail
                  (haveI := later_any; refine wp_region_later (by kernel_rfl) (by kernel_rfl) ?_; (repeat (go_big_quiet_step (first | (go_at_call 35; exact HA1.out _)))); refine wpQuiet_nil ?_; intro _ hwq; obtain ⟨xq, hwq2⟩ := hwq; subst hwq2)
                  have kq := cell_later xq.kept kr
                  have kfq : xq.world.frozen? ⟨g, 0, none⟩ = false := (xq.kept.frozen (p := ⟨g, 0, none⟩) HG.out).trans kfr
                  have HB : Keep (ApplyPostN ts cs w (.returned (TreeV none ([] : List En).length 0 2)) (xq.world.setCell ⟨g, 0, none⟩ (.slice none 0 0))) := ⟨HBad.out xq.world xq.kept⟩
                  go_wp2
                  refine bodyPost_ret (v := TreeV none ([] : List En).length 0 2) ?_ rfl HB.out
                  go_light
                  simp [results, Try.results44, go_sem, TreeV, kq]
              · clear hsm
                go_upto_region 6 with fail
                (haveI := later_any; refine wp_region_later (by kernel_rfl) (by kernel_rfl) ?_; (repeat (go_big_quiet_step (first | (go_at_call 35; exact HA1.out _)))); refine wpQuiet_nil ?_; intro _ hwq; obtain ⟨xq, hwq2⟩ := hwq; subst hwq2)
                have kq := cell_later xq.kept kr
                have kfq : xq.world.frozen? ⟨g, 0, none⟩ = false := (xq.kept.frozen (p := ⟨g, 0, none⟩) HG.out).trans kfr
                have HB : Keep (ApplyPostN ts cs w (.returned (TreeV none ([] : List En).length 0 2)) (xq.world.setCell ⟨g, 0, none⟩ (.slice none 0 0))) := ⟨HBad.out xq.world xq.kept⟩
                go_wp2
                refine bodyPost_ret (v := TreeV none ([] : List En).length 0 2) ?_ rfl HB.out
                go_light
                simp [results, Try.results44, go_sem, TreeV, kq]
            · clear hsm
              go_upto_region 6 with fail
              (haveI := later_any; refine wp_region_later (by kernel_rfl) (by kernel_rfl) ?_; (repeat (go_big_quiet_step (first | (go_at_call 35; exact HA1.out _)))); refine wpQuiet_nil ?_; intro _ hwq; obtain ⟨xq, hwq2⟩ := hwq; subst hwq2)
              have kq := cell_later xq.kept kr
              have kfq : xq.world.frozen? ⟨g, 0, none⟩ = false := (xq.kept.frozen (p := ⟨g, 0, none⟩) HG.out).trans kfr
              have HB : Keep (ApplyPostN ts cs w (.returned (TreeV none ([] : List En).length 0 2)) (xq.world.setCell ⟨g, 0, none⟩ (.slice none 0 0))) := ⟨HBad.out xq.world xq.kept⟩
              go_wp2
              refine bodyPost_ret (v := TreeV none ([] : List En).length 0 2) ?_ rfl HB.out
              go_light
              simp [results, Try.results44, go_sem, TreeV, kq]
        · obtain rfl : k = cs.length := by omega
          rw [List.take_length] at HSM
          have kr := cell_later hbk k0
          have kfr : wr.frozen? ⟨g, 0, none⟩ = false := (hbk.frozen (p := ⟨g, 0, none⟩) HS1.out).trans kf
          have HG : Keep (g < wr.heap.size) := ⟨Nat.lt_of_lt_of_le HS1.out hbk.size⟩
          have hcp := l5CopyR_any a ca ts wr (hts.below hbx) hn hca
          go_wp2_with fail
          refine hcp.mono ?_
          rintro e w2 ⟨ad2, cap2, rfl, hrow2, hsome2, hb2⟩
          have hel2 := el_of_row hrow2
          have HN2 : Keep (NilOk ad2 cap2) := ⟨.inl hsome2⟩
          clear hrow2 hsome2
          have hb3 : Below w2.heap.size w2 (w2.alloc (.cells #[.slice ad2 ts.length cap2] 25)) := (Below.refl _ _).alloc (Nat.le_refl _) _
          have o0 : (w2.alloc (.cells #[.slice ad2 ts.length cap2] 25)).cell? ⟨w2.heap.size, 0, none⟩ = some (.slice ad2 ts.length cap2) := by simp
          have of0 : (w2.alloc (.cells #[.slice ad2 ts.length cap2] 25)).frozen? ⟨w2.heap.size, 0, none⟩ = false := by simp
          have os0 : w2.heap.size < (w2.alloc (.cells #[.slice ad2 ts.length cap2] 25)).heap.size := by simp
          have hap := hel2.apart (ob := w2.heap.size) (.inr (Nat.le_refl _))
          obtain ⟨B0, hB0⟩ : ∃ B0, B0 = wr.heap.size := ⟨_, rfl⟩
          have hel3 : EL B0 (w2.alloc (.cells #[.slice ad2 ts.length cap2] 25)) ad2 ts := by rw [hB0]; exact hel2.below hb3
          have HB0 : Keep (g < B0 ∧ w.heap.size ≤ B0 ∧ B0 ≤ w2.heap.size) := ⟨by have := HG.out; have := hbx.size; have := hb2.size; omega⟩
          clear hB0
          have hbx2 := hbx.trans (hb2.mono hbx.size)
          have m1q := cell_later hb2 t1
          have k0q := cell_later hb2 kr
          have kfq : w2.frozen? ⟨g, 0, none⟩ = false := (hb2.frozen (p := ⟨g, 0, none⟩) HG.out).trans kfr
          have HG2 : Keep (g < w2.heap.size ∧ w.heap.size ≤ g) := ⟨⟨Nat.lt_of_lt_of_le HG.out hb2.size, by have := HS.out; omega⟩⟩
          have hA0 : AppRel ts (cs.take 0) ts := AppRel.start (valid_asc hv.1)
          have ht100 := hv.1.1
          have hc200 := hv.2.1
          have hCK := ap_asc hv.2
          clear hel2 hb2 hcp kr kfr HG t0 t1 hbk hbx
          go_wp2
          generalize w2.alloc (.cells #[.slice ad2 ts.length cap2] 25) = W2 at *
          obtain ⟨ob, hob⟩ : ∃ ob, ob = w2.heap.size := ⟨_, rfl⟩
          rw [← hob] at o0 of0 os0 hap ⊢
          have HOB : Keep (ob = w2.heap.size ∧ ob < W2.heap.size) := ⟨⟨hob, os0⟩⟩
          clear hob os0
          go_loopw [8] (fun i wq => ∃ (k : Nat) (ad : Option Addr) (cp : Nat) (us : List En), i = .int .i64 k ∧ k ≤ cs.length ∧ wq.cell? ⟨ob, 0, none⟩ = some (.slice ad us.length cp) ∧ wq.frozen? ⟨ob, 0, none⟩ = false ∧ EL B0 wq ad us ∧ (us = [] ∨ blk ad ≠ some ob) ∧ Below w2.heap.size w2 wq ∧ AppRel ts (cs.take k) us ∧ us.length ≤ ts.length + k ∧ ob < wq.heap.size ∧ Keep (NilOk ad cp)) (fun i _ => cs.length - (intOf i).toNat)
          case atStart => exact ⟨0, ad2, cap2, ts, rfl, Nat.zero_le _, o0, of0, hel3, hap, hb3, hA0, Nat.le_refl _, HOB.out.2, HN2⟩
          case round =>
            clear o0 of0 hap hel3 hb3 hA0
            obtain ⟨k, ad, cp, us, rfl, hk, o0, of0, hel, hap, hbq, hAR, hul, hobq, HNN⟩ := hrel
            have t1 := cell_later hbq m1q
            have hbx3 := hbx2.trans (hbq.mono hbx2.size)
            by_cases hlt : k < cs.length
            · have hlt' : (k : Int) < cs.length := by omega
              obtain ⟨b1, o1, rfl, hc1⟩ := (hcs.below hbx3).at hlt
              obtain ⟨x0, _, _, _, x4, x5, x6⟩ := hc1 k hlt
              have hly := l6LayN_any ad cp us cs[k].path cs[k].new wr.drew (hel.es.below ((Below.refl _ _).drew)) (by omega) hAR.asc
              have HE : Keep (∀ (ad3 : Option Addr) (cp3 : Nat) (vs : List En) (X : World), LayRel us cs[k].path cs[k].new vs → EL wr.heap.size X ad3 vs → Below wr.heap.size wr X → (vs.length ≤ us.length + 1 ∧ NilOk ad3 cp3) → (X.setCell ⟨ob, 0, none⟩ (.slice ad3 vs.length cp3)).cell? ⟨ob, 0, none⟩ = some (.slice ad3 vs.length cp3) ∧ (X.setCell ⟨ob, 0, none⟩ (.slice ad3 vs.length cp3)).frozen? ⟨ob, 0, none⟩ = false ∧ EL B0 (X.setCell ⟨ob, 0, none⟩ (.slice ad3 vs.length cp3)) ad3 vs ∧ (vs = [] ∨ blk ad3 ≠ some ob) ∧ Below w2.heap.size w2 (X.setCell ⟨ob, 0, none⟩ (.slice ad3 vs.length cp3)) ∧ AppRel ts (cs.take (k + 1)) vs ∧ vs.length ≤ ts.length + (k + 1) ∧ ob < (X.setCell ⟨ob, 0, none⟩ (.slice ad3 vs.length cp3)).heap.size ∧ Keep (NilOk ad3 cp3)) := ⟨fun ad3 cp3 vs X h1 h2 h3 h4 => by
                have h41 := h4.1
                have hap3 := h2.apart (ob := ob) (.inl hobq)
                refine ⟨World.cell?_setCell_same _ _ _ (cell_later h3 o0), (World.frozen?_setCell _ _ _ _).trans ((h3.frozen (p := ⟨ob, 0, none⟩) hobq).trans of0), (h2.box hap3).mono (Nat.le_trans HB0.out.2.2 hbq.size), hap3, (hbq.trans (h3.mono hbq.size)).setCell (p := ⟨ob, 0, none⟩) (by have := HOB.out; show _ ≤ ob; omega) _, hAR.step hlt hCK h1, by omega, by have := h3.size; simp; omega, ⟨h4.2⟩⟩⟩
              go_upto_region 12 with fail
              refine (wpIn_wide (n := 0)).1 ?_
              refine wpIn_region_inv0 (by kernel_rfl) (by kernel_rfl) (fun T0 => YN T0 wr (.agg #[.slice ad us.length cp]) (.slice (some ⟨b1, o1, none⟩) cs.length cb) (.int .i64 k) tb b1 (o1 + k * 7) us cs[k].path cs[k].new (fun X => ∃ (ad3 : Option Addr) (cp3 : Nat) (vs : List En), X.cell? ⟨ob, 0, none⟩ = some (.slice ad3 vs.length cp3) ∧ X.frozen? ⟨ob, 0, none⟩ = false ∧ EL B0 X ad3 vs ∧ (vs = [] ∨ blk ad3 ≠ some ob) ∧ Below w2.heap.size w2 X ∧ AppRel ts (cs.take (k + 1)) vs ∧ vs.length ≤ ts.length + (k + 1) ∧ ob < X.heap.size ∧ Keep (NilOk ad3 cp3))) ?_ ?_ ?_
              · exact ⟨Sl2.start _, fun _ => rfl, (fun h => by rw [getD_repl] at h; cases h), (fun h => by rw [getD_repl] at h; cases h)⟩
              · intro L a2 w9 hinv hall
                obtain ⟨ad3, cp3, vs, y1, y2, y3, y4, y5, y6, y7, y8, y9⟩ := hinv.w3 (hall 14 (by decide))
                have HX : Keep _ := ⟨hinv.sl.act⟩
                clear hinv hall HE hly x0 x4 x5 x6 t1 o0 of0
                rw [HX.out]
                simp only [updL, yDs, List.contains_cons, List.contains_nil, Nat.reduceAdd, Nat.reduceBEq, Bool.or_false, cond_false, cond_true, Bool.or_true]
                go_wp2
                go_roundw
                case rel => exact ⟨k + 1, ad3, cp3, vs, by congr 1, hlt, y1, y2, y3, y4, y5, y6, y7, y8, y9⟩
                case measure => simp only [intOf]; omega
              · intro L a2 w9 i o hinv hcl hL ho hdep
                have hi15 : i < 15 := (Array.getElem?_eq_some_iff.1 ho).1
                unfold wpOpIn
                rw [ho]
                have q13 : i < 13 → L.getD 13 false = false := fun hi => by
                  cases hb : L.getD 13 false with
                  | false => rfl
                  | true =>
                    exfalso
                    have d0 := hcl 13 _ rfl hb ⟨0, .data⟩ (by simp) rfl
                    have d6 := hcl 13 _ rfl hb ⟨6, .data⟩ (by simp) rfl
                    have d12 := hcl 13 _ rfl hb ⟨12, .data⟩ (by simp) rfl
                    have d5 := hcl 6 _ rfl d6 ⟨5, .data⟩ (by simp) rfl
                    have d4 := hcl 5 _ rfl d5 ⟨4, .data⟩ (by simp) rfl
                    have d3 := hcl 4 _ rfl d4 ⟨3, .data⟩ (by simp) rfl
                    have d2 := hcl 4 _ rfl d4 ⟨2, .data⟩ (by simp) rfl
                    have d1 := hcl 2 _ rfl d2 ⟨1, .data⟩ (by simp) rfl
                    have d11 := hcl 12 _ rfl d12 ⟨11, .data⟩ (by simp) rfl
                    have d10 := hcl 11 _ rfl d11 ⟨10, .data⟩ (by simp) rfl
                    have d9 := hcl 10 _ rfl d10 ⟨9, .data⟩ (by simp) rfl
                    have d8 := hcl 10 _ rfl d10 ⟨8, .data⟩ (by simp) rfl
                    have d7 := hcl 8 _ rfl d8 ⟨7, .data⟩ (by simp) rfl
                    have hf := getD_ft hL
                    match i, hi, hf with
                    | 0, _, hf => rw [d0] at hf; cases hf
                    | 1, _, hf => rw [d1] at hf; cases hf
                    | 2, _, hf => rw [d2] at hf; cases hf
                    | 3, _, hf => rw [d3] at hf; cases hf
                    | 4, _, hf => rw [d4] at hf; cases hf
                    | 5, _, hf => rw [d5] at hf; cases hf
                    | 6, _, hf => rw [d6] at hf; cases hf
                    | 7, _, hf => rw [d7] at hf; cases hf
                    | 8, _, hf => rw [d8] at hf; cases hf
                    | 9, _, hf => rw [d9] at hf; cases hf
                    | 10, _, hf => rw [d10] at hf; cases hf
                    | 11, _, hf => rw [d11] at hf; cases hf
                    | 12, _, hf => rw [d12] at hf; cases hf
                have q14 : L.getD 13 true = false → L.getD 14 false = false := fun h9 => by
                  cases hb : L.getD 14 false with
                  | false => rfl
                  | true => exfalso; have h := hcl 14 _ rfl hb ⟨13, .data⟩ (by simp) rfl; rw [getD_ft h9] at h; cases h
                clear hcl
                match i, hi15, hL, ho, hdep, q13 with
                | 0, _, hL, ho, hdep, q13 =>
                  injection ho with ho; subst ho
                  dsimp only
                  rw [if_pos (by rfl)]
                  refine ⟨fun f _ => trivial, ?_⟩
                  obtain rfl := hinv.w0 (q13 (by omega))
                  have e7 : a2.tmps[7]?.getD undef = .pointer (some ⟨ob, 0, none⟩) := hinv.sl.old (by decide)
                  go_simp
                  exact hinv.step (i := 0) rfl (by omega) rfl
                | 1, _, hL, ho, hdep, q13 =>
                  injection ho with ho; subst ho
                  dsimp only
                  rw [if_pos (by rfl)]
                  refine ⟨fun f _ => trivial, ?_⟩
                  obtain rfl := hinv.w0 (q13 (by omega))
                  have e3 : a2.tmps[3]?.getD undef = .pointer (some ⟨tb, 0, none⟩) := hinv.sl.old (by decide)
                  go_simp
                  exact hinv.step (i := 1) rfl (by omega) rfl
                | 2, _, hL, ho, hdep, q13 =>
                  injection ho with ho; subst ho
                  dsimp only
                  rw [if_pos (by rfl)]
                  refine ⟨fun f _ => trivial, ?_⟩
                  obtain rfl := hinv.w0 (q13 (by omega))
                  have e51 : a2.tmps[51]?.getD undef = .pointer (some ⟨tb, 0, none⟩) := hinv.sl.new (i := 1) (by decide) rfl (hdep ⟨1, .data⟩ (by simp) rfl)
                  go_simp
                  exact hinv.step (i := 2) rfl (by omega) rfl
                | 3, _, hL, ho, hdep, q13 =>
                  injection ho with ho; subst ho
                  dsimp only
                  rw [if_pos (by rfl)]
                  refine ⟨fun f _ => trivial, ?_⟩
                  obtain rfl := hinv.w0 (q13 (by omega))
                  have e8 : a2.tmps[8]?.getD undef = .int .i64 k := hinv.sl.old (by decide)
                  go_simp
                  exact hinv.step (i := 3) rfl (by omega) rfl
                | 4, _, hL, ho, hdep, q13 =>
                  injection ho with ho; subst ho
                  dsimp only
                  rw [if_pos (by rfl)]
                  refine ⟨fun f _ => trivial, ?_⟩
                  obtain rfl := hinv.w0 (q13 (by omega))
                  have e52 : a2.tmps[52]?.getD undef = .slice (some ⟨b1, o1, none⟩) cs.length cb := hinv.sl.new (i := 2) (by decide) rfl (hdep ⟨2, .data⟩ (by simp) rfl)
                  have e53 : a2.tmps[53]?.getD undef = .int .i64 k := hinv.sl.new (i := 3) (by decide) rfl (hdep ⟨3, .data⟩ (by simp) rfl)
                  go_simp
                  exact hinv.step (i := 4) rfl (by omega) rfl
                | 5, _, hL, ho, hdep, q13 =>
                  injection ho with ho; subst ho
                  dsimp only
                  rw [if_pos (by rfl)]
                  refine ⟨fun f _ => trivial, ?_⟩
                  obtain rfl := hinv.w0 (q13 (by omega))
                  have e54 : a2.tmps[54]?.getD undef = .pointer (some ⟨b1, o1 + k * 7, none⟩) := hinv.sl.new (i := 4) (by decide) rfl (hdep ⟨4, .data⟩ (by simp) rfl)
                  go_simp
                  exact hinv.step (i := 5) rfl (by omega) rfl
                | 6, _, hL, ho, hdep, q13 =>
                  injection ho with ho; subst ho
                  dsimp only
                  rw [if_pos (by rfl)]
                  refine ⟨fun f _ => trivial, ?_⟩
                  obtain rfl := hinv.w0 (q13 (by omega))
                  have e55 : a2.tmps[55]?.getD undef = .pointer (some ⟨b1, o1 + k * 7, none⟩) := hinv.sl.new (i := 5) (by decide) rfl (hdep ⟨5, .data⟩ (by simp) rfl)
                  go_simp
                  exact hinv.step (i := 6) rfl (by omega) rfl
                | 7, _, hL, ho, hdep, q13 =>
                  injection ho with ho; subst ho
                  dsimp only
                  rw [if_pos (by rfl)]
                  refine ⟨fun f _ => trivial, ?_⟩
                  obtain rfl := hinv.w0 (q13 (by omega))
                  have e3 : a2.tmps[3]?.getD undef = .pointer (some ⟨tb, 0, none⟩) := hinv.sl.old (by decide)
                  go_simp
                  exact hinv.step (i := 7) rfl (by omega) rfl
                | 8, _, hL, ho, hdep, q13 =>
                  injection ho with ho; subst ho
                  dsimp only
                  rw [if_pos (by rfl)]
                  refine ⟨fun f _ => trivial, ?_⟩
                  obtain rfl := hinv.w0 (q13 (by omega))
                  have e57 : a2.tmps[57]?.getD undef = .pointer (some ⟨tb, 0, none⟩) := hinv.sl.new (i := 7) (by decide) rfl (hdep ⟨7, .data⟩ (by simp) rfl)
                  go_simp
                  exact hinv.step (i := 8) rfl (by omega) rfl
                | 9, _, hL, ho, hdep, q13 =>
                  injection ho with ho; subst ho
                  dsimp only
                  rw [if_pos (by rfl)]
                  refine ⟨fun f _ => trivial, ?_⟩
                  obtain rfl := hinv.w0 (q13 (by omega))
                  have e8 : a2.tmps[8]?.getD undef = .int .i64 k := hinv.sl.old (by decide)
                  go_simp
                  exact hinv.step (i := 9) rfl (by omega) rfl
                | 10, _, hL, ho, hdep, q13 =>
                  injection ho with ho; subst ho
                  dsimp only
                  rw [if_pos (by rfl)]
                  refine ⟨fun f _ => trivial, ?_⟩
                  obtain rfl := hinv.w0 (q13 (by omega))
                  have e58 : a2.tmps[58]?.getD undef = .slice (some ⟨b1, o1, none⟩) cs.length cb := hinv.sl.new (i := 8) (by decide) rfl (hdep ⟨8, .data⟩ (by simp) rfl)
                  have e59 : a2.tmps[59]?.getD undef = .int .i64 k := hinv.sl.new (i := 9) (by decide) rfl (hdep ⟨9, .data⟩ (by simp) rfl)
                  go_simp
                  exact hinv.step (i := 10) rfl (by omega) rfl
                | 11, _, hL, ho, hdep, q13 =>
                  injection ho with ho; subst ho
                  dsimp only
                  rw [if_pos (by rfl)]
                  refine ⟨fun f _ => trivial, ?_⟩
                  obtain rfl := hinv.w0 (q13 (by omega))
                  have e60 : a2.tmps[60]?.getD undef = .pointer (some ⟨b1, o1 + k * 7, none⟩) := hinv.sl.new (i := 10) (by decide) rfl (hdep ⟨10, .data⟩ (by simp) rfl)
                  go_simp
                  exact hinv.step (i := 11) rfl (by omega) rfl
                | 12, _, hL, ho, hdep, q13 =>
                  injection ho with ho; subst ho
                  dsimp only
                  rw [if_pos (by rfl)]
                  refine ⟨fun f _ => trivial, ?_⟩
                  obtain rfl := hinv.w0 (q13 (by omega))
                  have e61 : a2.tmps[61]?.getD undef = .pointer (some ⟨b1, o1 + k * 7 + 4, none⟩) := hinv.sl.new (i := 11) (by decide) rfl (hdep ⟨11, .data⟩ (by simp) rfl)
                  go_simp
                  exact hinv.step (i := 12) rfl (by omega) rfl
                | 13, _, hL, ho, hdep, q13 =>
                  injection ho with ho; subst ho
                  dsimp only
                  rw [if_pos (by rfl)]
                  refine ⟨fun f _ => trivial, ?_⟩
                  obtain rfl := hinv.w0 (getD_ft hL)
                  have e50 : a2.tmps[50]?.getD undef = .agg #[.slice ad us.length cp] := hinv.sl.new (i := 0) (by decide) rfl (hdep ⟨0, .data⟩ (by simp) rfl)
                  have e56 : a2.tmps[56]?.getD undef = .string cs[k].path := hinv.sl.new (i := 6) (by decide) rfl (hdep ⟨6, .data⟩ (by simp) rfl)
                  have e62 : a2.tmps[62]?.getD undef = .agg #[.bool cs[k].new.there, .string cs[k].new.text, .bool cs[k].new.runs] := hinv.sl.new (i := 12) (by decide) rfl (hdep ⟨12, .data⟩ (by simp) rfl)
                  go_simp
                  refine ⟨rfl, CallsIn.mono (callsIn_wide.2 hly) ?_⟩
                  rintro e w' ⟨ad3, cp3, vs, rfl, h1, h2, h3, h4⟩
                  exact hinv.call rfl hL (q14 hL) h1 h2 ((Below.refl wr.heap.size wr).drew.trans (h3.mono (Nat.le_refl _))) h4
                | 14, _, hL, ho, hdep, q13 =>
                  injection ho with ho; subst ho
                  dsimp only
                  rw [if_pos (by rfl)]
                  refine ⟨fun f _ => trivial, ?_⟩
                  obtain ⟨ad3, cp3, vs, ex, h1, h2, h3, h4⟩ := hinv.w1 (hdep ⟨13, .data⟩ (by simp) rfl) (getD_ft hL)
                  have e63 := evalD2 ex
                  have e7 : a2.tmps[7]?.getD undef = .pointer (some ⟨ob, 0, none⟩) := hinv.sl.old (by decide)
                  have oc := cell_later h3 o0
                  have ofc : w9.frozen? ⟨ob, 0, none⟩ = false := (h3.frozen (p := ⟨ob, 0, none⟩) hobq).trans of0
                  go_simp
                  exact hinv.last (hdep ⟨13, .data⟩ (by simp) rfl) hL ⟨ad3, cp3, vs, HE.out ad3 cp3 vs w9 h1 h2 h3 h4⟩
            · obtain rfl : k = cs.length := by omega
              rw [List.take_length] at hAR
              have r2 := cell_later hbq k0q
              have rf2 : wr.frozen? ⟨g, 0, none⟩ = false := (hbq.frozen (p := ⟨g, 0, none⟩) HG2.out.1).trans kfq
              have hgl : g < wr.heap.size := Nat.lt_of_lt_of_le HG2.out.1 hbq.size
              have hst := specTree_any ad cp us wr hel.es (by omega)
              go_wp2_with fail
              refine hst.mono ?_
              rintro e w5 ⟨vb, rfl, hvb, hb5⟩
              have HVB : Keep (vb = true ↔ ValidTs us) := ⟨hvb⟩
              replace r2 := cell_later hb5 r2
              replace o0 := cell_later hb5 o0
              replace rf2 : w5.frozen? ⟨g, 0, none⟩ = false := (hb5.frozen (p := ⟨g, 0, none⟩) hgl).trans rf2
              have hbx5 := hbx3.trans (hb5.mono hbx3.size)
              have hap5 := hel.apart (ob := g) (.inl HB0.out.1)
              have hel5 := hel.below hb5
              cases vb with
              | false =>
                have hnv : ¬ ValidTs us := fun h => by have := HVB.out.2 h; cases this
                have HB : Keep (ApplyPostN ts cs w (.returned (TreeV none ([] : List En).length 0 3)) (w5.setCell ⟨g, 0, none⟩ (.slice none 0 0))) := ⟨⟨[], 3, .inr ⟨hv.1, hv.2, .inr ⟨HSM.out, us, hAR, .inl ⟨hnv, rfl, rfl⟩⟩⟩, ⟨none, 0, rfl, EL.nil _ _ _, .inr ⟨rfl, rfl⟩⟩, hbx5.setCell (p := ⟨g, 0, none⟩) HG2.out.2 _⟩⟩
                clear hst hvb hel hel5 hAR hap hap5
                go_wp2
                refine bodyPost_ret (v := TreeV none ([] : List En).length 0 3) ?_ rfl HB.out
                go_light
                simp [results, Try.results44, go_sem, TreeV, r2]
              | true =>
                have hvv := HVB.out.1 rfl
                have HB : Keep (ApplyPostN ts cs w (.returned (TreeV ad us.length cp 0)) (w5.setCell ⟨g, 0, none⟩ (.slice ad us.length cp))) := ⟨⟨us, 0, .inr ⟨hv.1, hv.2, .inr ⟨HSM.out, us, hAR, .inr ⟨hvv, rfl, rfl⟩⟩⟩, ⟨ad, cp, rfl, (hel5.box hap5).mono HB0.out.2.1, HNN.out⟩, hbx5.setCell (p := ⟨g, 0, none⟩) HG2.out.2 _⟩⟩
                clear hst hvb hel hel5 hAR hap hap5
                go_wp2
                refine bodyPost_ret (v := TreeV ad us.length cp 0) ?_ rfl HB.out
                go_light
                simp [results, Try.results44, go_sem, TreeV, r2]
end Go.Proofs.Ytjlflmbifeocbaa

namespace Go.Proofs.Ytjlflmbifeocbaa
open Go.RowKit

/-- What DrawJoin gives. -/
def DrawnJ (w : World) (e : Ending) (w' : World) : Prop :=
  ∃ p q : Pt, e = .returned (.tuple #[.agg #[.slice p.ad p.cs.length p.cp], .agg #[.slice q.ad q.cs.length q.cp]]) ∧ CS w' p.ad p.cs ∧ CS w' q.ad q.cs ∧ PQ p ∧ PQ q ∧ p.cs.length ≤ p.cp ∧ q.cs.length ≤ q.cp ∧ Below w.heap.size w w'
def dsJn : List Nat := [53, 54, 1000, 1001]
theorem ndJn : dsJn.Nodup := by decide

set_option maxRecDepth 100000 in
set_option maxHeartbeats 8000000 in
theorem drawJoin_any (a : Option Addr) (cap : Nat) (zs : List Int) (w : World) (h : Code0 w a cap zs) :
    Calls Try.prog 15 #[.slice a zs.length cap] w (DrawnJ w) := by
  have hal : Below w.heap.size w ((w.alloc (.cells #[.slice none 0 0] 30)).alloc (.cells #[.slice none 0 0] 30)) := ((Below.refl _ _).alloc (Nat.le_refl _) _).alloc (by simp) _
  have a0 : ((w.alloc (.cells #[.slice none 0 0] 30)).alloc (.cells #[.slice none 0 0] 30)).cell? ⟨w.heap.size, 0, none⟩ = some (.slice none 0 0) ∧ ((w.alloc (.cells #[.slice none 0 0] 30)).alloc (.cells #[.slice none 0 0] 30)).frozen? ⟨w.heap.size, 0, none⟩ = false := by simp [go_sem]
  have b0 : ((w.alloc (.cells #[.slice none 0 0] 30)).alloc (.cells #[.slice none 0 0] 30)).cell? ⟨w.heap.size + 1, 0, none⟩ = some (.slice none 0 0) ∧ ((w.alloc (.cells #[.slice none 0 0] 30)).alloc (.cells #[.slice none 0 0] 30)).frozen? ⟨w.heap.size + 1, 0, none⟩ = false := by simp [go_sem]
  have hsz : ((w.alloc (.cells #[.slice none 0 0] 30)).alloc (.cells #[.slice none 0 0] 30)).heap.size = w.heap.size + 1 + 1 := by simp
  have hop := open_any a cap zs _ (code_laterJ h hal)
  go_enter Try.func15, Try.ntmps15
  go_wp2_with fail
  refine hop.mono ?_
  rintro e w1 ⟨rfl, hb1, hs1, zs', hR1⟩
  rw [hsz] at hR1 hs1 ⊢
  have hRB : RB w (w.heap.size + 1 + 1) w.heap.size (w.heap.size + 1) a cap zs' 0 (.slice none 0 0) (.slice none 0 0) w1 :=
    ⟨hR1, hal.trans (hb1.mono hal.size), cell_later hb1 a0.1, (hb1.frozen (p := ⟨w.heap.size, 0, none⟩) (World.block_lt_of_cell? _ ⟨w.heap.size, 0, none⟩ a0.1)).trans a0.2, cell_later hb1 b0.1, (hb1.frozen (p := ⟨w.heap.size + 1, 0, none⟩) (World.block_lt_of_cell? _ ⟨w.heap.size + 1, 0, none⟩ b0.1)).trans b0.2, by omega⟩
  obtain ⟨g, hg⟩ : ∃ g, g = w.heap.size + 1 + 1 := ⟨_, rfl⟩
  obtain ⟨r3, hr3⟩ : ∃ r3, r3 = w.heap.size + 1 := ⟨_, rfl⟩
  obtain ⟨r2, hr2⟩ : ∃ r2, r2 = w.heap.size := ⟨_, rfl⟩
  have hRB' : RB w g r2 r3 a cap zs' 0 (.slice none 0 0) (.slice none 0 0) w1 := by rw [hg, hr2, hr3]; exact hRB
  rw [← hg, ← hr3, ← hr2]
  have hgw : g < w1.heap.size := hRB'.rd.lt
  clear hRB hop hal a0 b0 hsz hb1 hs1 hR1 hg hr2 hr3
  have hdr := l6Draw_any g a cap zs' 0 w1 hRB'.rd (by omega)
  go_wp2_with fail
  refine hdr.mono ?_
  rintro e w2 ⟨t5, adp, cpp, cs, rfl, hel, hrm, hn, hA, hT, hNil, hpq, ⟨⟨p2, hp2, hR2⟩, hg2⟩⟩
  have hRB2 := hRB'.step hg2 hR2
  have hb5 := below_oneD w2 (.cells #[.slice t5.ad t5.ts.length t5.cp] 25)
  have hb6 := below_oneD (w2.alloc (.cells #[.slice t5.ad t5.ts.length t5.cp] 25)) (.cells #[.slice adp cs.length cpp] 30)
  have hX5 := (TB.new (t := t5) hel hrm hNil).later hb6
  have hX6 : PB w1.heap.size w2.heap.size (w2.heap.size + 1) ⟨adp, cpp, cs⟩ ((w2.alloc (.cells #[.slice t5.ad t5.ts.length t5.cp] 25)).alloc (.cells #[.slice adp cs.length cpp] 30)) := ⟨by simp, by simp, (hpq.1.below hb5).below hb6, PB.upOf (t := ⟨adp, cpp, cs⟩) hpq.1, hpq.2.1⟩
  have hsp := draw6_pat hpq hT
  have hRB3 := (hRB2.later hb5).later hb6
  have hs2 := hg2.size
  have HA : Keep (Asc t5.ts ∧ Tiny 40 20 t5.ts ∧ t5.ts.length ≤ 100) := ⟨⟨hA, hT, hn⟩⟩
  have HP : Keep (TinyC 100 1620 cs ∧ cs.length ≤ 200) := ⟨hsp⟩
  clear hdr hel hg2 hR2 hA hT hpq hsp hRB' hRB2 hb5 hb6 hNil hrm hn
  go_upto_region 3 with fail
  generalize hW3 : (w2.alloc (.cells #[.slice t5.ad t5.ts.length t5.cp] 25)).alloc (.cells #[.slice adp cs.length cpp] 30) = W3 at *
  obtain ⟨b6, hb6⟩ : ∃ b6, b6 = w2.heap.size + 1 := ⟨_, rfl⟩
  rw [← hb6] at hX6 ⊢
  generalize hb5 : w2.heap.size = b5 at *
  generalize hlo : w1.heap.size = lo at *
  have HO : Keep (r3 < g ∧ r2 < r3 ∧ g < lo ∧ lo ≤ b5 ∧ b6 = b5 + 1 ∧ p2 ≤ 500 ∧ w.heap.size ≤ r2) := ⟨by have := hRB3.ord; omega⟩
  clear hW3 hb6 hb5 hlo hs2 hgw hp2
  have c5 := hX5.c
  have c6 := hX6.c
  dsimp only at c6
  go_wp2_with fail
  refine (specApplyN_any t5.ad adp t5.cp cpp t5.ts cs W3 hX5.el.es hX6.el.cs (by have := HA.out; omega) (by have := HP.out; omega) hX5.nl).mono ?_
  rintro e w4 ⟨us7, cc7, hAR, ⟨ad7, cp7, rfl, hel7, hNil7⟩, hbl4⟩
  unfold TreeV
  have hAT := apply_tiny (P := 100) (T := 1620) hAR (HA.out.2.1.wide (by omega) (by omega)) HP.out.1
  have hb7 := below_oneD w4 (.cells #[.slice ad7 us7.length cp7] 25)
  have k7 := VB.new (t := ⟨ad7, cp7, us7⟩) hel7 hNil7
  have k5 := (hX5.later hbl4).later hb7
  have k6 := (hX6.later hbl4).later hb7
  have kR := (hRB3.later hbl4).later hb7
  have hs4 := hbl4.size
  have hl6 := hX6.lt
  have HA7 : Keep (Tiny 100 1500 us7 ∧ us7.length ≤ 100) := ⟨hAT⟩
  clear hX5 hX6 hRB3 hel7 hNil7 hbl4 hAR hAT hb7 c5 c6
  go_upto_region 4 with fail
  have HSa : Keep ((w4.alloc (.cells #[.slice ad7 us7.length cp7] 25)).heap.size = w4.heap.size + 1) := ⟨by simp⟩
  generalize w4.alloc (.cells #[.slice ad7 us7.length cp7] 25) = w5 at *
  generalize hb7 : w4.heap.size = b7 at *
  generalize hlo7 : W3.heap.size = lo7 at *
  have HO2 : Keep (b6 < lo7 ∧ lo7 ≤ b7 ∧ w5.heap.size = b7 + 1) := ⟨by have := HO.out; have := HSa.out; omega⟩
  clear HSa hb7 hlo7 hs4 hl6
  have c7 := k7.c
  dsimp only at c7
  go_wp2_with fail
  refine (l5NearA_any g a cap zs' p2 ad7 cp7 us7 w5 kR.rd (by have := HO.out; omega) k7.el.es k7.nl (HA7.out.1.wide (by omega) (by omega)) (by have := HA7.out; omega)).mono ?_
  rintro e w6 ⟨ad9, cp9, us9, rfl, hel9, hn9, hT9, hNil9, ⟨⟨p6, hp6, hR6⟩, hg6⟩, _, _⟩
  have hb9 := below_oneD w6 (.cells #[.slice ad9 us9.length cp9] 25)
  have j9 := VB.new (t := ⟨ad9, cp9, us9⟩) hel9 hNil9
  have hs6 := hg6.size
  have j7 := (k7.grown hg6 (by have := HO.out; have := HO2.out; omega) (by have := HO.out; have := HO2.out; omega)).later hb9
  have j5 := (k5.grown hg6 (by have := HO.out; omega) (by have := HO.out; omega)).later hb9
  have j6 := (k6.grown hg6 (by have := HO.out; omega) (by have := HO.out; omega)).later hb9
  have jR := (kR.step hg6 hR6).later hb9
  have HA9 : Keep (Tiny 100 1620 us9 ∧ us9.length ≤ 103) := ⟨⟨hT9, hn9⟩⟩
  clear k7 k5 k6 kR hel9 hNil9 hT9 hn9 hb9 hg6 hR6 c7
  go_upto_region 5 with fail
  have HSa : Keep ((w6.alloc (.cells #[.slice ad9 us9.length cp9] 25)).heap.size = w6.heap.size + 1) := ⟨by simp⟩
  generalize w6.alloc (.cells #[.slice ad9 us9.length cp9] 25) = w7 at *
  generalize hb9 : w6.heap.size = b9 at *
  generalize hlo9 : w5.heap.size = lo9 at *
  have HO3 : Keep (b6 < lo7 ∧ lo7 ≤ b7 ∧ lo9 = b7 + 1 ∧ lo9 ≤ b9 ∧ w7.heap.size = b9 + 1 ∧ p6 ≤ 600) := ⟨by have := HO.out; have := HO2.out; have := HSa.out; omega⟩
  clear HSa HO2 hb9 hlo9 hs6 hp6
  go_wp2_with fail
  refine (pick_any g a cap zs' p6 4 w7 jR.rd (by omega) (by omega) (by have := HO3.out; omega)).mono ?_
  rintro e w8 ⟨y4, rfl, hy4, hg8, hR8⟩
  have m5 := j5.grown hg8 (by have := HO.out; omega) (by have := HO.out; omega)
  have m6 := j6.grown hg8 (by have := HO.out; omega) (by have := HO.out; omega)
  have m7 := j7.grown hg8 (by have := HO.out; have := HO3.out; omega) (by have := HO.out; have := HO3.out; omega)
  have m9 := j9.grown hg8 (by have := HO.out; have := HO3.out; omega) (by have := HO.out; have := HO3.out; omega)
  have mR := jR.step hg8 hR8
  clear j5 j6 j7 j9 jR hg8 hR8
  go_upto_if 29 with fail
  go_cut [30] (fun _ wx => ∃ (lo' hi' : Nat) (t9 : Tr), RB w g r2 r3 a cap zs' (p6 + 1) (.slice none 0 0) (.slice none 0 0) wx ∧ PB lo b5 b6 ⟨adp, cpp, cs⟩ wx ∧ VB lo7 b7 b7 ⟨ad7, cp7, us7⟩ wx ∧ VB lo' hi' b9 t9 wx ∧ Keep (Tiny 100 1620 t9.ts ∧ t9.ts.length ≤ 103))
  case first =>
    by_cases y0 : y4 = 0
    · have hB : ((y4 : Int) == 0) = true := by simp; omega
      have z0 := m5.c
      have z1 := m9.c
      have z2 := m9.f
      dsimp only at z1
      have HF : Keep _ := ⟨(⟨mR.box (k := b9) (.slice t5.ad t5.ts.length t5.cp) (by have := HO.out; have := HO3.out; omega), m6.grown (grown_set0 w8 b9 0 (.slice t5.ad t5.ts.length t5.cp)) (by have := HO.out; have := HO3.out; omega) (by have := HO.out; have := HO3.out; omega), m7.grown (grown_set0 w8 b9 0 (.slice t5.ad t5.ts.length t5.cp)) (by have := HO.out; have := HO3.out; omega) (by have := HO.out; have := HO3.out; omega), m9.put (u := t5) m5.el m5.up m5.nl (by have := HO.out; have := HO3.out; omega)⟩ : _ ∧ _ ∧ _ ∧ _)⟩
      clear m5 m6 m7 m9 mR
      go_wp2_with fail
      go_meet
      case rel => exact ⟨_, _, t5, HF.out.1, HF.out.2.1, HF.out.2.2.1, HF.out.2.2.2, ⟨⟨HA.out.2.1.wide (by omega) (by omega), by have := HA.out; omega⟩⟩⟩
    · have hB : ((y4 : Int) == 0) = false := by simp; omega
      have HF : Keep _ := ⟨(⟨mR, m6, m7, m9⟩ : _ ∧ _ ∧ _ ∧ _)⟩
      clear m5 m6 m7 m9 mR
      go_wp2_with fail
      go_meet
      case rel => exact ⟨_, _, ⟨ad9, cp9, us9⟩, HF.out.1, HF.out.2.1, HF.out.2.2.1, HF.out.2.2.2, HA9⟩
  case rest =>
    clear m5 m6 m7 m9 mR
    obtain ⟨lo', hi', t9, mR, m6, m7, m9, HT9⟩ := hcut
    have z7 := m7.c
    have z9 := m9.c
    dsimp only at z7
    go_wp2_with fail
    refine (specDiffC_any ad7 t9.ad cp7 t9.cp us7 t9.ts wc m7.el.es m9.el.es (by have := HA7.out; omega) (by have := HT9.out; omega)).mono ?_
    rintro e w10 ⟨qs, hD, ⟨adq, cpq, rfl, hclq, hrq⟩, hbq⟩
    have hqt := diff_tiny hD (HA7.out.1.wide (Nat.le_refl 100) (show 1500 ≤ 1620 by omega)) HT9.out.1
    have hb10 := below_oneD w10 (.cells #[.slice adq qs.length cpq] 30)
    have n10 := PB.new (t := ⟨adq, cpq, qs⟩) hclq hrq
    have n6 := (m6.later hbq).later hb10
    have nR := (mR.later hbq).later hb10
    have hsq := hbq.size
    have hl9 := m9.lt
    have HQ : Keep (TinyC 100 1620 qs ∧ qs.length ≤ 200) := ⟨hqt⟩
    clear m6 m7 m9 mR hclq hrq hbq hb10 hD hqt z7 z9
    go_upto_region 8 with fail
    generalize w10.alloc (.cells #[.slice adq qs.length cpq] 30) = w11 at *
    generalize hb10 : w10.heap.size = b10 at *
    generalize hloq : wc.heap.size = loq at *
    have HO4 : Keep (b6 < b9 ∧ b9 < loq ∧ loq ≤ b10 ∧ p6 ≤ 600) := ⟨by have := HO3.out; omega⟩
    clear hb10 hloq hsq hl9 HO3 HT9 HA7 HA9
    go_cut [35] (fun v wx => ∃ y : Nat, v = .int .i64 y ∧ y < 8 ∧ RB w g r2 r3 a cap zs' (p6 + 1 + 1) (.slice none 0 0) (.slice none 0 0) wx ∧ PB lo b5 b6 ⟨adp, cpp, cs⟩ wx ∧ PB loq b10 b10 ⟨adq, cpq, qs⟩ wx)
    case first =>
      go_wp2_with fail
      refine (pick_any g a cap zs' (p6 + 1) 8 w11 nR.rd (by omega) (by omega) (by have := HO4.out; omega)).mono ?_
      rintro e w12 ⟨y, rfl, hy, hg12, hR12⟩
      have HR : Keep _ := ⟨nR.step hg12 hR12⟩
      have HP6 : Keep _ := ⟨n6.grown hg12 (by have := HO.out; omega) (by have := HO.out; omega)⟩
      have HP10 : Keep _ := ⟨n10.grown hg12 (by have := HO.out; have := HO4.out; omega) (by have := HO.out; have := HO4.out; omega)⟩
      clear hg12 hR12 nR n6 n10
      go_wp2_with fail
      go_meet
      case rel => exact ⟨y, rfl, hy, HR.out, HP6.out, HP10.out⟩
    case rest =>
      clear nR n6 n10
      obtain ⟨y, rfl, hy, nR, n6, n10⟩ := hcut
      rename_i K1 hk1 K2 hk2
      refine hk2 _ _ ?_
      go_cut [36] (fun _ wx => ∃ (px l6 h6 l10 h10 : Nat) (p q : Pt), RB w g r2 r3 a cap zs' px (.slice none 0 0) (.slice none 0 0) wx ∧ PB l6 h6 b6 p wx ∧ PB l10 h10 b10 q wx ∧ PQ p ∧ PQ q ∧ g < l6 ∧ g < l10)
      case first =>
        have HQp : Keep (PQ ⟨adp, cpp, cs⟩) := ⟨⟨by show cs.length ≤ 310; have := HP.out; omega, HP.out.1.wide (by omega) (by omega)⟩⟩
        have HQq : Keep (PQ ⟨adq, cpq, qs⟩) := ⟨⟨by show qs.length ≤ 310; have := HQ.out; omega, HQ.out.1.wide (by omega) (by omega)⟩⟩
        have hgl : b10 < wc.heap.size := n10.lt
        by_cases y0 : y = 0
        · have hB0 : ((y : Int) == 0) = true := by simp; omega
          clear y0
          have z0 := n10.c
          have z1 := n10.f
          dsimp only at z0
          go_wp2_with fail
          refine (l6Spoil_any g a cap zs' (p6 + 1 + 1) adq cpq qs wc nR.rd (by have := HO4.out; omega) n10.el.cs (HQ.out.1.wide (by omega) (by omega)) (by have := HQ.out; omega)).mono ?_
          rintro e w5 ⟨ad, cp, ds, rfl, hcl, hrm, hl, hTd, ⟨⟨p5, hp5, hR5⟩, hg5⟩⟩
          have hRB5 := nR.step hg5 hR5
          have h1 := n10.grown hg5 (by have := HO.out; have := HO4.out; omega) (by have := HO.out; have := HO4.out; omega)
          have h2 := n6.grown hg5 (by have := HO.out; have := HO4.out; omega) (by have := HO.out; have := HO4.out; omega)
          have hup : (⟨ad, cp, ds⟩ : Pt).cs = [] ∨ ∃ k, blk (⟨ad, cp, ds⟩ : Pt).ad = some k ∧ k < w5.heap.size := PB.upOf (t := ⟨ad, cp, ds⟩) hcl
          have HF : Keep _ := ⟨(⟨hRB5.box (k := b10) (.slice ad ds.length cp) (by have := HO.out; have := HO4.out; omega), h1.put (u := ⟨ad, cp, ds⟩) hcl hup hrm (by have := HO.out; have := HO4.out; omega), h2.grown (grown_set0 w5 b10 0 (.slice ad ds.length cp)) (by have := HO.out; have := HO4.out; omega) (by have := HO.out; have := HO4.out; omega)⟩ : _ ∧ _ ∧ _)⟩
          have z3 := h1.c
          have z4 := h1.f
          dsimp only at z3
          have HN : Keep (PQ ⟨ad, cp, ds⟩) := ⟨⟨hl, hTd⟩⟩
          have HSZ : Keep (g < wc.heap.size ∧ g < lo ∧ g < loq) := ⟨by have := HO.out; have := HO4.out; omega⟩
          clear z0 z1 h1 h2 hRB5 n6 n10 nR hcl hup hg5 hR5
          go_wp2_with fail
          go_meet
          case rel => exact ⟨p5, _, _, _, _, ⟨adp, cpp, cs⟩, ⟨ad, cp, ds⟩, HF.out.1, HF.out.2.2, HF.out.2.1, HQp.out, HN.out, HSZ.out.2.1, HSZ.out.1⟩
        have hB0 : ((y : Int) == 0) = false := by simp; omega
        by_cases y1 : y = 1
        · have hB1 : ((y : Int) == 1) = true := by simp; omega
          clear y0 y1
          have z0 := n6.c
          have z1 := n6.f
          dsimp only at z0
          go_wp2_with fail
          refine (l6Spoil_any g a cap zs' (p6 + 1 + 1) adp cpp cs wc nR.rd (by have := HO4.out; omega) n6.el.cs (HP.out.1.wide (by omega) (by omega)) (by have := HP.out; omega)).mono ?_
          rintro e w5 ⟨ad, cp, ds, rfl, hcl, hrm, hl, hTd, ⟨⟨p5, hp5, hR5⟩, hg5⟩⟩
          have hRB5 := nR.step hg5 hR5
          have h1 := n6.grown hg5 (by have := HO.out; have := HO4.out; omega) (by have := HO.out; have := HO4.out; omega)
          have h2 := n10.grown hg5 (by have := HO.out; have := HO4.out; omega) (by have := HO.out; have := HO4.out; omega)
          have hup : (⟨ad, cp, ds⟩ : Pt).cs = [] ∨ ∃ k, blk (⟨ad, cp, ds⟩ : Pt).ad = some k ∧ k < w5.heap.size := PB.upOf (t := ⟨ad, cp, ds⟩) hcl
          have HF : Keep _ := ⟨(⟨hRB5.box (k := b6) (.slice ad ds.length cp) (by have := HO.out; have := HO4.out; omega), h1.put (u := ⟨ad, cp, ds⟩) hcl hup hrm (by have := HO.out; have := HO4.out; omega), h2.grown (grown_set0 w5 b6 0 (.slice ad ds.length cp)) (by have := HO.out; have := HO4.out; omega) (by have := HO.out; have := HO4.out; omega)⟩ : _ ∧ _ ∧ _)⟩
          have z3 := h1.c
          have z4 := h1.f
          dsimp only at z3
          have HN : Keep (PQ ⟨ad, cp, ds⟩) := ⟨⟨hl, hTd⟩⟩
          have HSZ : Keep (g < wc.heap.size ∧ g < lo ∧ g < loq) := ⟨by have := HO.out; have := HO4.out; omega⟩
          clear z0 z1 h1 h2 hRB5 n6 n10 nR hcl hup hg5 hR5
          go_wp2_with fail
          go_meet
          case rel => exact ⟨p5, _, _, _, _, ⟨ad, cp, ds⟩, ⟨adq, cpq, qs⟩, HF.out.1, HF.out.2.1, HF.out.2.2, HN.out, HQq.out, HSZ.out.1, HSZ.out.2.2⟩
        have hB1 : ((y : Int) == 1) = false := by simp; omega
        by_cases y2 : y = 2
        · have hB2 : ((y : Int) == 2) = true := by simp; omega
          clear y0 y1 y2
          go_wp2_with fail
          refine (l6Draw_any g a cap zs' (p6 + 1 + 1) wc nR.rd (by have := HO4.out; omega)).mono ?_
          rintro e w5 ⟨t', ad, cp, ds, rfl, _, _, _, _, hTt, _, hpq, ⟨⟨p5, hp5, hR5⟩, hg5⟩⟩
          have hcl := hpq.1
          have hrm := hpq.2.1
          have hsp := draw6_pat hpq hTt
          have hl : ds.length ≤ 310 := by omega
          have hTd : TinyC 1100 10000 ds := hsp.1.wide (by omega) (by omega)
          clear hpq hsp hTt
          have hRB5 := nR.step hg5 hR5
          have h1 := n10.grown hg5 (by have := HO.out; have := HO4.out; omega) (by have := HO.out; have := HO4.out; omega)
          have h2 := n6.grown hg5 (by have := HO.out; have := HO4.out; omega) (by have := HO.out; have := HO4.out; omega)
          have hup : (⟨ad, cp, ds⟩ : Pt).cs = [] ∨ ∃ k, blk (⟨ad, cp, ds⟩ : Pt).ad = some k ∧ k < w5.heap.size := PB.upOf (t := ⟨ad, cp, ds⟩) hcl
          have HF : Keep _ := ⟨(⟨hRB5.box (k := b10) (.slice ad ds.length cp) (by have := HO.out; have := HO4.out; omega), h1.put (u := ⟨ad, cp, ds⟩) hcl hup hrm (by have := HO.out; have := HO4.out; omega), h2.grown (grown_set0 w5 b10 0 (.slice ad ds.length cp)) (by have := HO.out; have := HO4.out; omega) (by have := HO.out; have := HO4.out; omega)⟩ : _ ∧ _ ∧ _)⟩
          have z3 := h1.c
          have z4 := h1.f
          dsimp only at z3
          have HN : Keep (PQ ⟨ad, cp, ds⟩) := ⟨⟨hl, hTd⟩⟩
          have HSZ : Keep (g < wc.heap.size ∧ g < lo ∧ g < loq) := ⟨by have := HO.out; have := HO4.out; omega⟩
          clear h1 h2 hRB5 n6 n10 nR hcl hup hg5 hR5
          go_wp2_with fail
          go_meet
          case rel => exact ⟨p5, _, _, _, _, ⟨adp, cpp, cs⟩, ⟨ad, cp, ds⟩, HF.out.1, HF.out.2.2, HF.out.2.1, HQp.out, HN.out, HSZ.out.2.1, HSZ.out.1⟩
        have hB2 : ((y : Int) == 2) = false := by simp; omega
        have HF : Keep _ := ⟨(⟨nR, n6, n10⟩ : _ ∧ _ ∧ _)⟩
        clear nR n6 n10 y0 y1 y2
        go_wp2_with fail
        go_meet
        case rel => exact ⟨_, _, _, _, _, ⟨adp, cpp, cs⟩, ⟨adq, cpq, qs⟩, HF.out.1, HF.out.2.1, HF.out.2.2, HQp.out, HQq.out, by have := HO.out; omega, by have := HO.out; have := HO4.out; omega⟩
      case rest =>
        clear nR n6 n10
        obtain ⟨px, l6, h6, l10, h10, p, q, nR, n6, n10, hQp, hQq, hg6, hg10⟩ := hcut
        have hbd : Below wc.heap.size wc wc.drew := (Below.refl _ _).drew
        have HZ : Keep (∀ n : Nat, IZ w r2 r3 (.slice p.ad p.cs.length p.cp) (.slice q.ad q.cs.length q.cp) (fun W => PB l6 h6 b6 p W ∧ PB l10 h10 b10 q W) (Array.replicate n false) wc.drew) := ⟨fun n => ⟨by rw [getD_repl, getD_repl]; exact nR.rc.later hbd, n6.later hbd, n10.later hbd⟩⟩
        clear nR n6 n10 hbd
        go_upto_region 15 with fail
        refine (wpIn_wide (n := 0)).1 ?_
        refine wpIn_region_inv0 (by kernel_rfl) (by kernel_rfl) (fun T0 => EVF T0 dsJn (zTab2 (.agg #[.slice p.ad p.cs.length p.cp]) (.agg #[.slice q.ad q.cs.length q.cp])) (fun _ _ _ => True) (IZ w r2 r3 (.slice p.ad p.cs.length p.cp) (.slice q.ad q.cs.length q.cp) (fun W => PB l6 h6 b6 p W ∧ PB l10 h10 b10 q W))) ?_ ?_ ?_
        · exact ⟨Sl2.start _, HZ.out _, fun _ _ _ => trivial⟩
        · intro L a2 w9 hinv hall
          have hZ := hinv.wd
          have hz2 := hall 2 (by decide)
          have hz3 := hall 3 (by decide)
          have HXX : Keep _ := ⟨hinv.sl.act⟩
          have c2 := hZ.rb.c2
          have c3 := hZ.rb.c3
          rw [hz2] at c2
          rw [hz3] at c3
          replace c2 : w9.cell? ⟨r2, 0, none⟩ = some (.slice p.ad p.cs.length p.cp) := c2
          replace c3 : w9.cell? ⟨r3, 0, none⟩ = some (.slice q.ad q.cs.length q.cp) := c3
          have HZZ : Keep _ := ⟨hZ⟩
          clear hinv hall hZ hz2 hz3 HZ
          rw [HXX.out]
          simp only [updL, dsJn, List.contains_cons, List.contains_nil, Nat.reduceAdd, Nat.reduceBEq, Bool.or_false, cond_false, cond_true, Bool.or_true]
          go_wp2
          refine bodyPost_ret (v := .tuple #[.agg #[.slice p.ad p.cs.length p.cp], .agg #[.slice q.ad q.cs.length q.cp]]) ?_ rfl ⟨p, q, rfl, HZZ.out.ab.1.el.cs, HZZ.out.ab.2.el.cs, hQp, hQq, HZZ.out.ab.1.rm, HZZ.out.ab.2.rm, HZZ.out.rb.bw⟩
          go_light
          simp [results, Try.results15, go_sem, c2, c3]
        · intro L a2 w9 i o hinv hcl hL ho hdep
          have hin : i < 4 := (Array.getElem?_eq_some_iff.1 ho).1
          unfold wpOpIn
          rw [ho]
          clear hcl HZ
          match i, hin, hL, ho, hdep with
          | 0, _, hL, ho, hdep =>
            injection ho with ho; subst ho
            dsimp only
            rw [if_pos (by rfl)]
            refine ⟨fun f _ => trivial, ?_⟩
            have e0 : a2.tmps[6]?.getD undef = .pointer (some ⟨b6, 0, none⟩) := hinv.sl.old (by decide)
            have z0 : w9.cell? ⟨b6, 0, none⟩ = some (.slice p.ad p.cs.length p.cp) := hinv.wd.ab.1.c
            go_simp
            exact hinv.step ndJn (fun _ _ _ => trivial) (i := 0) (by decide) (by show 53 < 55; decide) (fun u hu => by cases hu; rfl) trivial (hinv.wd.keep (by omega) (by omega))
          | 1, _, hL, ho, hdep =>
            injection ho with ho; subst ho
            dsimp only
            rw [if_pos (by rfl)]
            refine ⟨fun f _ => trivial, ?_⟩
            have e0 : a2.tmps[10]?.getD undef = .pointer (some ⟨b10, 0, none⟩) := hinv.sl.old (by decide)
            have z0 : w9.cell? ⟨b10, 0, none⟩ = some (.slice q.ad q.cs.length q.cp) := hinv.wd.ab.2.c
            go_simp
            exact hinv.step ndJn (fun _ _ _ => trivial) (i := 1) (by decide) (by show 54 < 55; decide) (fun u hu => by cases hu; rfl) trivial (hinv.wd.keep (by omega) (by omega))
          | 2, _, hL, ho, hdep =>
            injection ho with ho; subst ho
            dsimp only
            rw [if_pos (by rfl)]
            refine ⟨fun f _ => trivial, ?_⟩
            have e2 : a2.tmps[2]?.getD undef = .pointer (some ⟨r2, 0, none⟩) := hinv.sl.old (by decide)
            have e9 : a2.tmps[53]?.getD undef = .agg #[.slice p.ad p.cs.length p.cp] := hinv.sl.new (i := 0) (by decide) rfl (hdep ⟨0, .data⟩ (by simp) rfl)
            have z0 := hinv.wd.rb.c2
            have z1 := hinv.wd.rb.f2
            go_simp
            exact hinv.skip (fun _ _ _ => trivial) (i := 2) rfl (fun _ => trivial) (hinv.wd.st2 hL (fun W v hh => ⟨hh.1.grown (grown_set0 W r2 0 v) (by have := HO.out; have := HO4.out; omega) (by have := HO.out; have := HO4.out; omega), hh.2.grown (grown_set0 W r2 0 v) (by have := HO.out; have := HO4.out; omega) (by have := HO.out; have := HO4.out; omega)⟩))
          | 3, _, hL, ho, hdep =>
            injection ho with ho; subst ho
            dsimp only
            rw [if_pos (by rfl)]
            refine ⟨fun f _ => trivial, ?_⟩
            have e2 : a2.tmps[3]?.getD undef = .pointer (some ⟨r3, 0, none⟩) := hinv.sl.old (by decide)
            have e9 : a2.tmps[54]?.getD undef = .agg #[.slice q.ad q.cs.length q.cp] := hinv.sl.new (i := 1) (by decide) rfl (hdep ⟨1, .data⟩ (by simp) rfl)
            have z0 := hinv.wd.rb.c3
            have z1 := hinv.wd.rb.f3
            go_simp
            exact hinv.skip (fun _ _ _ => trivial) (i := 3) rfl (fun _ => trivial) (hinv.wd.st3 hL (fun W v hh => ⟨hh.1.grown (grown_set0 W r3 0 v) (by have := HO.out; have := HO4.out; omega) (by have := HO.out; have := HO4.out; omega), hh.2.grown (grown_set0 W r3 0 v) (by have := HO.out; have := HO4.out; omega) (by have := HO.out; have := HO4.out; omega)⟩))
end Go.Proofs.Ytjlflmbifeocbaa

namespace Go.Proofs.Ytjlflmbifeocbaa
open Go.RowKit

set_option maxRecDepth 100000 in
set_option maxHeartbeats 4000000 in
theorem wCode_any (a b : Option Addr) (ca cb : Nat) (ts : List En) (cs : List Ch) (w : World) (hts : ES w a ts) (hcs : CS w b cs) (hn : ts.length ≤ 1048576) (hnb : cs.length ≤ 1048576) (hca : (∃ ad, a = some ad) ∨ (a = none ∧ ca = 0)) :
    Calls Try.prog 18 #[.agg #[.slice a ts.length ca], .agg #[.slice b cs.length cb]] w fun e w' => ∃ us c, ApplyRel ts cs us c ∧ e = .returned (.int .i64 c) ∧ Below w.heap.size w w' := by
  have hal : Below w.heap.size w ((w.alloc (.cells #[.slice a ts.length ca] 25)).alloc (.cells #[.slice b cs.length cb] 30)) := ((Below.refl _ _).alloc (Nat.le_refl _) _).alloc (by simp) _
  have hm := specApply_any a b ca cb ts cs _ (hts.below hal) (hcs.below hal) hn hnb hca
  go_enter Try.func18, Try.ntmps18
  go_wp2_with fail
  refine hm.mono ?_
  rintro e w1 ⟨us, c, hR, ⟨ad, cap, rfl, hel⟩, hb1⟩
  have hbw : Below w.heap.size w (w1.alloc (.cells #[.slice ad us.length cap] 25)) := (hal.trans (hb1.mono hal.size)).trans ((below_oneD _ _).mono (hal.trans (hb1.mono hal.size)).size)
  have HR : Keep (ApplyRel ts cs us c) := ⟨hR⟩
  clear hm hel hb1 hR hal
  unfold TreeV
  go_wp2
  go_ret
  exact ⟨us, c, HR.out, rfl, hbw⟩
end Go.Proofs.Ytjlflmbifeocbaa

namespace Go.Proofs.Ytjlflmbifeocbaa
open Go.RowKit

theorem fnd_hit {α : Type} {pa : α → ByteArray} {ts : List α} {p : ByteArray} {k : Nat} (hk : k < ts.length) (hno : ∀ x ∈ ts.take k, ((pa x).toList == p.toList) = false) (h : ((pa ts[k]).toList == p.toList) = true) : fnd pa ts p = some ts[k] := by
  unfold fnd
  rw [List.find?_eq_some_iff_append]
  refine ⟨h, ts.take k, ts.drop (k + 1), ?_, fun a ha => by rw [hno a ha]; rfl⟩
  conv => lhs; rw [← List.take_append_drop k ts]
  rw [List.drop_eq_getElem_cons hk]
theorem fnd_miss {α : Type} {pa : α → ByteArray} {ts : List α} {p : ByteArray} (hno : ∀ x ∈ ts, ((pa x).toList == p.toList) = false) : fnd pa ts p = none := by
  unfold fnd
  rw [List.find?_eq_none]
  intro x hx
  rw [hno x hx]; simp

set_option maxRecDepth 100000 in
set_option maxHeartbeats 4000000 in
theorem l6Change_any (a : Option Addr) (cap : Nat) (cs : List Ch) (p : ByteArray) (w : World) (hcs : CS w a cs) (hn : cs.length ≤ 1048576) :
    Calls Try.prog 48 #[.agg #[.slice a cs.length cap], .string p] w fun e w' => e = .returned (.tuple #[cutCV ((fnd Ch.path cs p).getD noCh), .bool (fnd Ch.path cs p).isSome]) ∧ Below w.heap.size w w' := by
  have hal : Below w.heap.size w ((w.alloc (.cells #[.slice a cs.length cap] 30)).alloc (.cells #[.string ⟨#[]⟩, .bool false, .string ⟨#[]⟩, .bool false, .bool false, .string ⟨#[]⟩, .bool false] 68)) := ((Below.refl _ _).alloc (Nat.le_refl _) _).alloc (by simp) _
  have t0 : ((w.alloc (.cells #[.slice a cs.length cap] 30)).alloc (.cells #[.string ⟨#[]⟩, .bool false, .string ⟨#[]⟩, .bool false, .bool false, .string ⟨#[]⟩, .bool false] 68)).cell? ⟨w.heap.size, 0, none⟩ = some (.slice a cs.length cap) := by simp [go_sem]
  have r0 : ((w.alloc (.cells #[.slice a cs.length cap] 30)).alloc (.cells #[.string ⟨#[]⟩, .bool false, .string ⟨#[]⟩, .bool false, .bool false, .string ⟨#[]⟩, .bool false] 68)).cell? ⟨w.heap.size + 1, 0, none⟩ = some (.string ⟨#[]⟩) := by simp [go_sem]
  have r1 : ((w.alloc (.cells #[.slice a cs.length cap] 30)).alloc (.cells #[.string ⟨#[]⟩, .bool false, .string ⟨#[]⟩, .bool false, .bool false, .string ⟨#[]⟩, .bool false] 68)).cell? ⟨w.heap.size + 1, 1, none⟩ = some (.bool false) := by simp [go_sem]
  have r2 : ((w.alloc (.cells #[.slice a cs.length cap] 30)).alloc (.cells #[.string ⟨#[]⟩, .bool false, .string ⟨#[]⟩, .bool false, .bool false, .string ⟨#[]⟩, .bool false] 68)).cell? ⟨w.heap.size + 1, 2, none⟩ = some (.string ⟨#[]⟩) := by simp [go_sem]
  have r3 : ((w.alloc (.cells #[.slice a cs.length cap] 30)).alloc (.cells #[.string ⟨#[]⟩, .bool false, .string ⟨#[]⟩, .bool false, .bool false, .string ⟨#[]⟩, .bool false] 68)).cell? ⟨w.heap.size + 1, 3, none⟩ = some (.bool false) := by simp [go_sem]
  have r4 : ((w.alloc (.cells #[.slice a cs.length cap] 30)).alloc (.cells #[.string ⟨#[]⟩, .bool false, .string ⟨#[]⟩, .bool false, .bool false, .string ⟨#[]⟩, .bool false] 68)).cell? ⟨w.heap.size + 1, 4, none⟩ = some (.bool false) := by simp [go_sem]
  have r5 : ((w.alloc (.cells #[.slice a cs.length cap] 30)).alloc (.cells #[.string ⟨#[]⟩, .bool false, .string ⟨#[]⟩, .bool false, .bool false, .string ⟨#[]⟩, .bool false] 68)).cell? ⟨w.heap.size + 1, 5, none⟩ = some (.string ⟨#[]⟩) := by simp [go_sem]
  have r6 : ((w.alloc (.cells #[.slice a cs.length cap] 30)).alloc (.cells #[.string ⟨#[]⟩, .bool false, .string ⟨#[]⟩, .bool false, .bool false, .string ⟨#[]⟩, .bool false] 68)).cell? ⟨w.heap.size + 1, 6, none⟩ = some (.bool false) := by simp [go_sem]
  have rf : ∀ j, ((w.alloc (.cells #[.slice a cs.length cap] 30)).alloc (.cells #[.string ⟨#[]⟩, .bool false, .string ⟨#[]⟩, .bool false, .bool false, .string ⟨#[]⟩, .bool false] 68)).frozen? ⟨w.heap.size + 1, j, none⟩ = false := fun j => by simp [go_sem]
  have hE := hcs.below hal
  go_enter Try.func48, Try.ntmps48
  go_wp2_with fail
  generalize (w.alloc (.cells #[.slice a cs.length cap] 30)).alloc (.cells #[.string ⟨#[]⟩, .bool false, .string ⟨#[]⟩, .bool false, .bool false, .string ⟨#[]⟩, .bool false] 68) = W at *
  obtain ⟨rb, hrb⟩ : ∃ rb, rb = w.heap.size + 1 := ⟨_, rfl⟩
  obtain ⟨tb, htb⟩ : ∃ tb, tb = w.heap.size := ⟨_, rfl⟩
  rw [← hrb] at r0 r1 r2 r3 r4 r5 r6 rf ⊢
  rw [← htb] at t0 ⊢
  have HO : Keep (w.heap.size ≤ rb) := ⟨by omega⟩
  have nt : ¬ tb = rb := by omega
  have nt2 : ¬ rb = tb := by omega
  clear hrb htb hcs
  go_loopw [6] (fun i wr => ∃ k : Nat, i = .int .i64 k ∧ k ≤ cs.length ∧ Keep (∀ x ∈ cs.take k, (x.path.toList == p.toList) = false) ∧ W = wr) (fun i _ => cs.length - (intOf i).toNat)
  case atStart => exact ⟨0, rfl, Nat.zero_le _, ⟨fun x hx => by simp at hx⟩, rfl⟩
  case round =>
    obtain ⟨k, rfl, hk, HNO, rfl⟩ := hrel
    by_cases hlt : k < cs.length
    · have hlt' : (k : Int) < cs.length := by omega
      obtain ⟨b, off, rfl, hc⟩ := hE.at hlt
      obtain ⟨x0, x1, x2, x3, x4, x5, x6⟩ := hc k hlt
      clear hc hE
      cases hq : (cs[k].path.toList == p.toList) with
      | true =>
        have HA : Keep (fnd Ch.path cs p = some cs[k]) := ⟨fnd_hit hlt HNO.out hq⟩
        have hbe := box7_below (.string cs[k].path) (.bool cs[k].old.there) (.string cs[k].old.text) (.bool cs[k].old.runs) (.bool cs[k].new.there) (.string cs[k].new.text) (.bool cs[k].new.runs) hal HO.out
        obtain ⟨z0, z1, z2, z3, z4, z5, z6⟩ := box7_set (.string cs[k].path) (.bool cs[k].old.there) (.string cs[k].old.text) (.bool cs[k].old.runs) (.bool cs[k].new.there) (.string cs[k].new.text) (.bool cs[k].new.runs) r0 r1 r2 r3 r4 r5 r6
        have HB : Keep _ := ⟨hbe⟩
        have HZZ : Keep _ := ⟨And.intro z0 (And.intro z1 (And.intro z2 (And.intro z3 (And.intro z4 (And.intro z5 z6)))))⟩
        clear z0 z1 z2 z3 z4 z5 z6 hbe hal
        go_wp2
        refine bodyPost_ret (v := .tuple #[cutCV cs[k], .bool true]) ?_ rfl ⟨by rw [HA.out]; rfl, HB.out⟩
        obtain ⟨z0, z1, z2, z3, z4, z5, z6⟩ := HZZ.out
        go_light
        simp [results, Try.results48, go_sem, cutCV, z0, z1, z2, z3, z4, z5, z6]
      | false =>
        have HN2 : Keep (∀ x ∈ cs.take (k + 1), (x.path.toList == p.toList) = false) := ⟨fun x hx => by
          rw [List.take_succ_eq_append_getElem hlt] at hx
          rcases List.mem_append.1 hx with h | h
          · exact HNO.out x h
          · rw [List.mem_singleton.1 h]; exact hq⟩
        go_wp2
        go_roundw
        case rel => exact ⟨k + 1, by congr 1, hlt, HN2, trivial⟩
        case measure => simp only [intOf]; omega
    · obtain rfl : k = cs.length := by omega
      have HA : Keep (fnd Ch.path cs p = none) := ⟨fnd_miss (by have := HNO.out; rw [List.take_length] at this; exact this)⟩
      have hbe := box7_below (.string ⟨#[]⟩) (.bool false) (.string ⟨#[]⟩) (.bool false) (.bool false) (.string ⟨#[]⟩) (.bool false) hal HO.out
      obtain ⟨z0, z1, z2, z3, z4, z5, z6⟩ := box7_set (.string ⟨#[]⟩) (.bool false) (.string ⟨#[]⟩) (.bool false) (.bool false) (.string ⟨#[]⟩) (.bool false) r0 r1 r2 r3 r4 r5 r6
      have HB : Keep _ := ⟨hbe⟩
      have HZZ : Keep _ := ⟨And.intro z0 (And.intro z1 (And.intro z2 (And.intro z3 (And.intro z4 (And.intro z5 z6)))))⟩
      clear z0 z1 z2 z3 z4 z5 z6 hbe hal
      go_wp2
      refine bodyPost_ret (v := .tuple #[cutCV noCh, .bool false]) ?_ rfl ⟨by rw [HA.out]; rfl, HB.out⟩
      obtain ⟨z0, z1, z2, z3, z4, z5, z6⟩ := HZZ.out
      go_light
      simp [results, Try.results48, go_sem, cutCV, noCh, z0, z1, z2, z3, z4, z5, z6]
end Go.Proofs.Ytjlflmbifeocbaa

namespace Go.Proofs.Ytjlflmbifeocbaa
open Go.RowKit

def xTab (P N K D : Value) (s : ByteArray) (c : Ch) (bb : Bool) : Nat → Option Value
  | 0 => some P
  | 1 => some N
  | 2 => some K
  | 3 => some D
  | 4 => some (.string s)
  | 5 => some (.tuple #[.agg #[.string c.path, .bool c.old.there, .string c.old.text, .bool c.old.runs, .bool c.new.there, .string c.new.text, .bool c.new.runs], .bool bb])
  | 6 => some (.tuple #[.agg #[.string c.path, .bool c.old.there, .string c.old.text, .bool c.old.runs, .bool c.new.there, .string c.new.text, .bool c.new.runs], .bool bb])
  | 7 => some (.agg #[.string c.path, .bool c.old.there, .string c.old.text, .bool c.old.runs, .bool c.new.there, .string c.new.text, .bool c.new.runs])
  | 8 => some (.bool bb)
  | 11 => some (.bool bb)
  | _ => none

structure XV (T0 : Array Value) (ds : List Nat) (wr : World) (P N K D : Value) (s : ByteArray) (c : Ch) (bb : Bool) (p : Nat) (L : Array Bool) (a : Act) (w : World) : Prop where
  sl : Sl2 T0 ds (xTab P N K D s c bb) L a
  wd : Below wr.heap.size wr w
  bx : L.getD 9 false = true → ∃ fb, a.eval (.tmp p) = .pointer (some ⟨fb, 0, none⟩) ∧ wr.heap.size ≤ fb ∧ CBox fb (if L.getD 10 false = true then c else noCh) w

theorem XV.step {T0 : Array Value} {ds : List Nat} {wr : World} {P N K D : Value} {s : ByteArray} {c : Ch} {bb : Bool} {p : Nat} {L : Array Bool} {a : Act} {w w' : World} (h : XV T0 ds wr P N K D s c bb p L a w) (nd : ds.Nodup) {i : Nat} {v : Value} (hi : i < ds.length) (hd : ds[i] < T0.size) (h9 : i ≠ 9) (h10 : i ≠ 10) (hp : ds[i] ≠ p) (ht : xTab P N K D s c bb i = some v) (hb : Below w.heap.size w w') :
    XV T0 ds wr P N K D s c bb p (L.setIfInBounds i true) (a.put (some ds[i]) v) w' := by
  refine ⟨h.sl.put nd hi hd (fun u hu => by rw [ht] at hu; cases hu; rfl), h.wd.trans (hb.mono h.wd.size), fun hL => ?_⟩
  rw [getD_set_ne false h9] at hL
  obtain ⟨fb, e1, e2, e3⟩ := h.bx hL
  refine ⟨fb, ?_, e2, ?_⟩
  · rw [Act.eval_put (fun d hd' => by cases hd'; intro e'; injection e' with e'; exact hp e'.symm)]
    exact e1
  · rw [getD_set_ne false h10]
    exact e3.later hb
theorem XV.box {T0 : Array Value} {ds : List Nat} {wr : World} {P N K D : Value} {s : ByteArray} {c : Ch} {bb : Bool} {L : Array Bool} {a : Act} {w : World} {t : TypeId} (hi : 9 < ds.length) (h : XV T0 ds wr P N K D s c bb ds[9] L a w) (nd : ds.Nodup) (hd : ds[9] < T0.size) (h10 : L.getD 10 false = false) :
    XV T0 ds wr P N K D s c bb ds[9] (L.setIfInBounds 9 true) (a.put (some ds[9]) (.pointer (some ⟨w.heap.size, 0, none⟩))) (w.alloc (.cells #[.string ⟨#[]⟩, .bool false, .string ⟨#[]⟩, .bool false, .bool false, .string ⟨#[]⟩, .bool false] t)) := by
  refine ⟨h.sl.put nd hi hd (fun u hu => by cases hu), h.wd.alloc h.wd.size _, fun _ => ⟨w.heap.size, ?_, h.wd.size, ?_⟩⟩
  · show ((a.tmps.setIfInBounds ds[9] _).getD ds[9] undef) = _
    rw [Array.getD_eq_getD_getElem?, Array.getElem?_setIfInBounds_self_of_lt (by rw [h.sl.sz]; exact hd)]
    rfl
  · rw [getD_set_ne false (by omega), h10]
    exact ⟨by simp [noCh], by simp [noCh], by simp [noCh], by simp [noCh], by simp [noCh], by simp [noCh], by simp [noCh], fun j => by simp, by simp⟩
theorem XV.store {T0 : Array Value} {ds : List Nat} {wr : World} {P N K D : Value} {s : ByteArray} {c : Ch} {bb : Bool} {p fb : Nat} {L : Array Bool} {a : Act} {w : World} (h : XV T0 ds wr P N K D s c bb p L a w) (e1 : a.eval (.tmp p) = .pointer (some ⟨fb, 0, none⟩)) (e2 : wr.heap.size ≤ fb) (e3 : CBox fb noCh w) (hL : L.getD 10 true = false) :
    XV T0 ds wr P N K D s c bb p (L.setIfInBounds 10 true) a (((((((w.setCell ⟨fb, 0, none⟩ (.string c.path)).setCell ⟨fb, 1, none⟩ (.bool c.old.there)).setCell ⟨fb, 2, none⟩ (.string c.old.text)).setCell ⟨fb, 3, none⟩ (.bool c.old.runs)).setCell ⟨fb, 4, none⟩ (.bool c.new.there)).setCell ⟨fb, 5, none⟩ (.string c.new.text)).setCell ⟨fb, 6, none⟩ (.bool c.new.runs)) := by
  refine ⟨h.sl.skip rfl, box7_below _ _ _ _ _ _ _ h.wd e2, fun _ => ⟨fb, e1, e2, ?_⟩⟩
  have g10 : (L.setIfInBounds 10 true).getD 10 false = true := by
    have h1 := getD_false hL
    have h2 : 10 < L.size := by simpa using (List.getElem?_eq_some_iff.1 h1).1
    rw [Array.getD_eq_getD_getElem?, Array.getElem?_setIfInBounds_self_of_lt h2]
    rfl
  rw [g10]
  exact e3.set c

/-- An append, at a step of a region (RegV) outside of rounds. -/
theorem wpIn_append {n : Nat} {P : Program} {o : Oper} {a : Act} {w w' : World} {K : Act → World → Prop} {Q : Exit → Act → World → Prop} (s x : Operand) (t : TypeId) (ho : o.op = .call { callee := .builtin .append, args := #[s, x], argTypes := #[t, t] }) {v u v' : Value} (hs : a.eval s = v) (hx : a.eval x = u)
    (hr : (Builtin.append_ #[t, t] o.type #[v, u]).run P w = .ok v' w') (hK : K (a.put o.dst v') w') : o.wpIn Fence.wide n P a w K Q := by
  refine ⟨fun f _ => trivial, ?_⟩
  show Oper.uponIn Fence.wide n P o a K Q ((execOp a.eval o).run P w)
  unfold execOp
  simp only [ho, resolve, invoke, builtin, Sem.run_bind, Sem.run_pure, Result.andThen_ok, List.map_toArray, List.map_cons, List.map_nil, hs, hx, hr]
  exact hK

def aTab (ob fb gb : Nat) (v N K D : Value) (s : ByteArray) (f g : Fl) : Nat → Option Value
  | 0 => some (.pointer (some ⟨ob, 0, none⟩))
  | 1 => some v
  | 2 => some N
  | 3 => some K
  | 4 => some D
  | 5 => some (.string s)
  | 6 => some (.pointer (some ⟨fb, 1, none⟩))
  | 7 => some (.agg #[.bool f.there, .string f.text, .bool f.runs])
  | 8 => some (.pointer (some ⟨gb, 4, none⟩))
  | 9 => some (.agg #[.bool g.there, .string g.text, .bool g.runs])
  | 10 => some (.agg #[.string s, .bool f.there, .string f.text, .bool f.runs, .bool g.there, .string g.text, .bool g.runs])
  | 13 => some (.pointer (some ⟨ob, 0, none⟩))
  | _ => none
def aDs : List Nat := [107, 108, 109, 110, 111, 112, 113, 114, 115, 116, 117, 118, 119, 120, 1000]

/-- Where the region stands that puts a change behind a list. -/
structure AV (T0 : Array Value) (ob fb gb : Nat) (W0 X : World) (v N K D : Value) (s : ByteArray) (f g : Fl) (cs : List Ch) (L : Array Bool) (a : Act) (w : World) : Prop where
  sl : Sl2 T0 aDs (aTab ob fb gb v N K D s f g) L a
  w0 : L.getD 11 false = false → w = X.drew
  w1 : L.getD 11 false = true → L.getD 12 false = false → w = X.drew.alloc (.cells #[.string s, .bool f.there, .string f.text, .bool f.runs, .bool g.there, .string g.text, .bool g.runs] 68) ∧ a.eval (.tmp 118) = .slice (some ⟨X.heap.size, 0, none⟩) 1 1
  w2 : L.getD 12 false = true → L.getD 14 false = false → ∃ g2 cap, a.eval (.tmp 119) = .slice (some ⟨g2, 0, none⟩) (cs.length + 1) cap ∧ w.ownsRow W0.heap.size 68 7 (.slice (some ⟨g2, 0, none⟩) (cs.length + 1) cap) (cs.length + 1) (ccells cs ++ chL ⟨s, f, g⟩) ∧ (X.drew.alloc (.cells #[.string s, .bool f.there, .string f.text, .bool f.runs, .bool g.there, .string g.text, .bool g.runs] 68)).grownBy w v.ownBlock
  w3 : L.getD 14 false = true → ∃ v', OutCh ob W0 v' (cs ++ [⟨s, f, g⟩]) w

theorem aNd : aDs.Nodup := by decide
theorem AV.step {T0 : Array Value} {ob fb gb : Nat} {W0 X : World} {v N K D : Value} {s : ByteArray} {f g : Fl} {cs : List Ch} {L : Array Bool} {a : Act} {w : World} (h : AV T0 ob fb gb W0 X v N K D s f g cs L a w) {i : Nat} {u : Value} (hT : T0.size = 127) (hi : i < 14) (h11 : i ≠ 11) (h12 : i ≠ 12) (ht : aTab ob fb gb v N K D s f g i = some u) :
    AV T0 ob fb gb W0 X v N K D s f g cs (L.setIfInBounds i true) (a.put (some (107 + i)) u) w := by
  have hlen : i < aDs.length := by show i < 15; omega
  have hds : aDs[i] = 107 + i := by
    match i, hi with
    | 0, _ | 1, _ | 2, _ | 3, _ | 4, _ | 5, _ | 6, _ | 7, _ | 8, _ | 9, _ | 10, _ | 11, _ | 12, _ | 13, _ => rfl
  have hsl := h.sl.put aNd hlen (by rw [hds, hT]; omega) (v := u) (fun u' hu => by rw [ht] at hu; cases hu; rfl)
  rw [hds] at hsl
  have ev : ∀ k, k ≠ 107 + i → (a.put (some (107 + i)) u).eval (.tmp k) = a.eval (.tmp k) := fun k hk => Act.eval_put (fun d hd' => by cases hd'; intro e'; injection e' with e'; exact hk e')
  refine ⟨hsl, fun h1 => ?_, fun h1 h2 => ?_, fun h1 h2 => ?_, fun h1 => ?_⟩
  · rw [getD_set_ne false h11] at h1; exact h.w0 h1
  · rw [getD_set_ne false h11] at h1; rw [getD_set_ne false h12] at h2
    rw [ev 118 (by omega)]
    exact h.w1 h1 h2
  · rw [getD_set_ne false h12] at h1; rw [getD_set_ne false (by omega)] at h2
    obtain ⟨g2, cap, e1, e2, e3⟩ := h.w2 h1 h2
    exact ⟨g2, cap, by rw [ev 119 (by omega)]; exact e1, e2, e3⟩
  · rw [getD_set_ne false (by omega)] at h1; exact h.w3 h1
theorem AV.build {T0 : Array Value} {ob fb gb : Nat} {W0 X : World} {v N K D : Value} {s : ByteArray} {f g : Fl} {cs : List Ch} {L : Array Bool} {a : Act} (h : AV T0 ob fb gb W0 X v N K D s f g cs L a X.drew) (hT : T0.size = 127) (h12 : L.getD 12 false = false) (h14 : L.getD 14 false = false) (hL : L.getD 11 true = false) :
    AV T0 ob fb gb W0 X v N K D s f g cs (L.setIfInBounds 11 true) (a.put (some 118) (.slice (some ⟨X.heap.size, 0, none⟩) 1 1)) (X.drew.alloc (.cells #[.string s, .bool f.there, .string f.text, .bool f.runs, .bool g.there, .string g.text, .bool g.runs] 68)) := by
  have g11 : (L.setIfInBounds 11 true).getD 11 false = true := by
    have h1 := getD_false hL
    have h2 : 11 < L.size := by simpa using (List.getElem?_eq_some_iff.1 h1).1
    rw [Array.getD_eq_getD_getElem?, Array.getElem?_setIfInBounds_self_of_lt h2]
    rfl
  refine ⟨h.sl.put (i := 11) aNd (by decide) (show 118 < _ by rw [hT]; omega) (fun u hu => by cases hu), fun h1 => ?_, fun _ _ => ⟨rfl, ?_⟩, fun h1 _ => ?_, fun h1 => ?_⟩
  · rw [g11] at h1; cases h1
  · show ((a.tmps.setIfInBounds 118 _).getD 118 undef) = _
    rw [Array.getD_eq_getD_getElem?, Array.getElem?_setIfInBounds_self_of_lt (by rw [h.sl.sz, hT]; omega)]
    rfl
  · rw [getD_set_ne false (by omega), h12] at h1; cases h1
  · rw [getD_set_ne false (by omega), h14] at h1; cases h1
theorem AV.app {T0 : Array Value} {ob fb gb : Nat} {W0 X : World} {v N K D : Value} {s : ByteArray} {f g : Fl} {cs : List Ch} {L : Array Bool} {a : Act} {w w' : World} (h : AV T0 ob fb gb W0 X v N K D s f g cs L a w) (hT : T0.size = 127) (h11 : L.getD 11 false = true) (h14 : L.getD 14 false = false) (hL : L.getD 12 true = false) {g2 cap : Nat}
    (e2 : w'.ownsRow W0.heap.size 68 7 (.slice (some ⟨g2, 0, none⟩) (cs.length + 1) cap) (cs.length + 1) (ccells cs ++ chL ⟨s, f, g⟩)) (e3 : (X.drew.alloc (.cells #[.string s, .bool f.there, .string f.text, .bool f.runs, .bool g.there, .string g.text, .bool g.runs] 68)).grownBy w' v.ownBlock) :
    AV T0 ob fb gb W0 X v N K D s f g cs (L.setIfInBounds 12 true) (a.put (some 119) (.slice (some ⟨g2, 0, none⟩) (cs.length + 1) cap)) w' := by
  have g12 : (L.setIfInBounds 12 true).getD 12 false = true := by
    have h1 := getD_false hL
    have h2 : 12 < L.size := by simpa using (List.getElem?_eq_some_iff.1 h1).1
    rw [Array.getD_eq_getD_getElem?, Array.getElem?_setIfInBounds_self_of_lt h2]
    rfl
  refine ⟨h.sl.put (i := 12) aNd (by decide) (show 119 < _ by rw [hT]; omega) (fun u hu => by cases hu), fun h1 => ?_, fun _ h2 => ?_, fun _ _ => ⟨g2, cap, ?_, e2, e3⟩, fun h1 => ?_⟩
  · rw [getD_set_ne false (by omega), h11] at h1; cases h1
  · rw [g12] at h2; cases h2
  · show ((a.tmps.setIfInBounds 119 _).getD 119 undef) = _
    rw [Array.getD_eq_getD_getElem?, Array.getElem?_setIfInBounds_self_of_lt (by rw [h.sl.sz, hT]; omega)]
    rfl
  · rw [getD_set_ne false (by omega), h14] at h1; cases h1
theorem AV.last {T0 : Array Value} {ob fb gb : Nat} {W0 X : World} {v N K D : Value} {s : ByteArray} {f g : Fl} {cs : List Ch} {L : Array Bool} {a : Act} {w w' : World} (h : AV T0 ob fb gb W0 X v N K D s f g cs L a w) (h11 : L.getD 11 false = true) (h12 : L.getD 12 false = true) (hL : L.getD 14 true = false) (hE : ∃ v', OutCh ob W0 v' (cs ++ [⟨s, f, g⟩]) w') :
    AV T0 ob fb gb W0 X v N K D s f g cs (L.setIfInBounds 14 true) a w' := by
  have g14 : (L.setIfInBounds 14 true).getD 14 false = true := by
    have h1 := getD_false hL
    have h2 : 14 < L.size := by simpa using (List.getElem?_eq_some_iff.1 h1).1
    rw [Array.getD_eq_getD_getElem?, Array.getElem?_setIfInBounds_self_of_lt h2]
    rfl
  refine ⟨h.sl.skip rfl, fun h1 => ?_, fun _ h2 => ?_, fun _ h2 => ?_, fun _ => hE⟩
  · rw [getD_set_ne false (by omega), h11] at h1; cases h1
  · rw [getD_set_ne false (by omega), h12] at h2; cases h2
  · rw [g14] at h2; cases h2
end Go.Proofs.Ytjlflmbifeocbaa

namespace Go.Proofs.Ytjlflmbifeocbaa
open Go.RowKit

/-- Behind a call that gives a change, and whether there is one. -/
def CutX (c : Ch) (bb : Bool) (W1 : World) (pv bv : Value) (W : World) : Prop := ∃ fb, pv = .pointer (some ⟨fb, 0, none⟩) ∧ bv = .bool bb ∧ CBox fb c W ∧ W1.heap.size ≤ fb ∧ Below W1.heap.size W1 W
theorem newX {Y X : World} {t : TypeId} (h : Below (Y.alloc (.cells #[.string ⟨#[]⟩, .bool false, .string ⟨#[]⟩, .bool false, .bool false, .string ⟨#[]⟩, .bool false] t)).drew.heap.size (Y.alloc (.cells #[.string ⟨#[]⟩, .bool false, .string ⟨#[]⟩, .bool false, .bool false, .string ⟨#[]⟩, .bool false] t)).drew X) : CBox Y.heap.size noCh X :=
  CBox.later (W := (Y.alloc (.cells #[.string ⟨#[]⟩, .bool false, .string ⟨#[]⟩, .bool false, .bool false, .string ⟨#[]⟩, .bool false] t)).drew) ⟨by simp [noCh], by simp [noCh], by simp [noCh], by simp [noCh], by simp [noCh], by simp [noCh], by simp [noCh], fun j => by simp, by simp⟩ h
theorem cutX_mk {W1 W : World} {c : Ch} {bb : Bool} (hb : Below W1.heap.size W1 W) : CutX c bb W1 (.pointer (some ⟨W.heap.size, 0, none⟩)) (.bool bb) (W.alloc (.cells #[.string c.path, .bool c.old.there, .string c.old.text, .bool c.old.runs, .bool c.new.there, .string c.new.text, .bool c.new.runs] 68)) :=
  ⟨_, rfl, rfl, ⟨by simp, by simp, by simp, by simp, by simp, by simp, by simp, fun j => by simp, by simp⟩, hb.size, hb.alloc hb.size _⟩
theorem cutX_mk' {W1 W : World} {c : Ch} {bb : Bool} {fb : Nat} (hb : Below W1.heap.size W1 W) (hn : CBox fb noCh W) (hl : W1.heap.size ≤ fb) : CutX c bb W1 (.pointer (some ⟨fb, 0, none⟩)) (.bool bb) (((((((W.setCell ⟨fb, 0, none⟩ (.string c.path)).setCell ⟨fb, 1, none⟩ (.bool c.old.there)).setCell ⟨fb, 2, none⟩ (.string c.old.text)).setCell ⟨fb, 3, none⟩ (.bool c.old.runs)).setCell ⟨fb, 4, none⟩ (.bool c.new.there)).setCell ⟨fb, 5, none⟩ (.string c.new.text)).setCell ⟨fb, 6, none⟩ (.bool c.new.runs)) :=
  ⟨fb, rfl, rfl, hn.set c, hl, box7_below _ _ _ _ _ _ _ hb hl⟩

set_option maxRecDepth 100000 in
set_option maxHeartbeats 16000000 in
theorem specJoin_any (a b : Option Addr) (ca cb : Nat) (ps qs : List Ch) (w : World) (hps : CS w a ps) (hqs : CS w b qs) (hn : ps.length ≤ 1048576) (hnb : qs.length ≤ 1048576) :
    Calls Try.prog 17 #[.agg #[.slice a ps.length ca], .agg #[.slice b qs.length cb]] w fun e w' => JoinPost ps qs w e w' := by
  obtain ⟨i0, hi, hz0, hz1, hzb⟩ := info_parts Try.infoChange
  have hal : Below w.heap.size w (((w.alloc (.cells #[.slice a ps.length ca] 30)).alloc (.cells #[.slice b qs.length cb] 30)).alloc (.cells #[.slice none 0 0] 30)) := (((Below.refl _ _).alloc (Nat.le_refl _) _).alloc (by simp) _).alloc (by simp; omega) _
  have m0 : (((w.alloc (.cells #[.slice a ps.length ca] 30)).alloc (.cells #[.slice b qs.length cb] 30)).alloc (.cells #[.slice none 0 0] 30)).cell? ⟨w.heap.size, 0, none⟩ = some (.slice a ps.length ca) := by simp [go_sem]
  have m1 : (((w.alloc (.cells #[.slice a ps.length ca] 30)).alloc (.cells #[.slice b qs.length cb] 30)).alloc (.cells #[.slice none 0 0] 30)).cell? ⟨w.heap.size + 1, 0, none⟩ = some (.slice b qs.length cb) := by simp [go_sem]
  have k0 : (((w.alloc (.cells #[.slice a ps.length ca] 30)).alloc (.cells #[.slice b qs.length cb] 30)).alloc (.cells #[.slice none 0 0] 30)).cell? ⟨w.heap.size + 1 + 1, 0, none⟩ = some (.slice none 0 0) := by simp [go_sem]
  have kf : (((w.alloc (.cells #[.slice a ps.length ca] 30)).alloc (.cells #[.slice b qs.length cb] 30)).alloc (.cells #[.slice none 0 0] 30)).frozen? ⟨w.heap.size + 1 + 1, 0, none⟩ = false := by simp [go_sem]
  have os0 : w.heap.size + 1 + 1 < (((w.alloc (.cells #[.slice a ps.length ca] 30)).alloc (.cells #[.slice b qs.length cb] 30)).alloc (.cells #[.slice none 0 0] 30)).heap.size := by simp [go_sem]
  go_enter Try.func17, Try.ntmps17
  go_upto_region 1 with fail
  generalize ((w.alloc (.cells #[.slice a ps.length ca] 30)).alloc (.cells #[.slice b qs.length cb] 30)).alloc (.cells #[.slice none 0 0] 30) = W at *
  obtain ⟨g, hg⟩ : ∃ g, g = w.heap.size + 1 + 1 := ⟨_, rfl⟩
  obtain ⟨tb, htb⟩ : ∃ tb, tb = w.heap.size + 1 := ⟨_, rfl⟩
  obtain ⟨ta, hta⟩ : ∃ ta, ta = w.heap.size := ⟨_, rfl⟩
  rw [← hg] at k0 kf os0 ⊢
  rw [← htb] at m1 ⊢
  rw [← hta] at m0 ⊢
  have HS : Keep (ta = w.heap.size ∧ tb = w.heap.size + 1 ∧ g = w.heap.size + 2) := ⟨by omega⟩
  clear hg htb hta
  go_cut [22] (fun v wx => ∃ nb : Bool, v = .bool nb ∧ Keep (nb = false ↔ ValidP ps ∧ ValidP qs) ∧ Below W.heap.size W wx)
  case first =>
    go_wp2_with fail
    refine (specPatch_any a ca ps W (hps.below hal) hn).mono ?_
    rintro e w1 ⟨va, rfl, hva, hb1⟩
    have m1' := cell_later hb1 m1
    cases va with
    | false =>
      have HV : Keep ((true = false) ↔ ValidP ps ∧ ValidP qs) := ⟨⟨fun h => (by cases h), fun h => (by have := hva.2 h.1; cases this)⟩⟩
      clear hva
      go_wp2_with fail
      go_meet
      case rel => exact ⟨true, rfl, HV, hb1⟩
    | true =>
      have HV : Keep (ValidP ps) := ⟨hva.1 rfl⟩
      clear hva
      go_wp2_with fail
      refine (specPatch_any b cb qs w1 ((hqs.below hal).below hb1) hnb).mono ?_
      rintro e w2 ⟨vb, rfl, hvb, hb2⟩
      have HV2 : Keep ((!vb) = false ↔ ValidP ps ∧ ValidP qs) := ⟨⟨fun h => ⟨HV.out, hvb.1 (by simpa using h)⟩, fun h => by rw [hvb.2 h.2]; rfl⟩⟩
      clear hvb
      go_wp2_with fail
      go_meet
      case rel => exact ⟨_, rfl, HV2, hb1.trans (hb2.mono hb1.size)⟩
  case rest =>
    obtain ⟨nb, rfl, HV, hb1⟩ := hcut
    replace m0 := cell_later hb1 m0
    replace m1 := cell_later hb1 m1
    replace k0 := cell_later hb1 k0
    replace kf : wc.frozen? ⟨g, 0, none⟩ = false := (hb1.frozen (p := ⟨g, 0, none⟩) os0).trans kf
    have os1 : g < wc.heap.size := Nat.lt_of_lt_of_le os0 hb1.size
    have hbw := hal.trans (hb1.mono hal.size)
    clear hb1 hal os0
    cases nb with
    | true =>
      have hnv : ¬ (ValidP ps ∧ ValidP qs) := fun h => by have := HV.out.2 h; cases this
      go_wp2
      refine bodyPost_ret (v := .tuple #[.agg #[.slice none ([] : List Ch).length 0], .bool false]) ?_ rfl ⟨[], false, .inl ⟨hnv, rfl, rfl⟩, ⟨none, 0, rfl, CL.nil _ _ _⟩, hbw.setCell (p := ⟨g, 0, none⟩) (by have := HS.out; show _ ≤ g; omega) _⟩
      go_light
      simp [results, Try.results17, go_sem, k0]
    | false =>
      have hv := HV.out.1 rfl
      have hp200 : ps.length ≤ 200 := hv.1.1
      have hq200 : qs.length ≤ 200 := hv.2.1
      have HS1 : Keep (g < wc.heap.size) := ⟨os1⟩
      have hnil : NmR wc (.slice (some ⟨wc.heap.size, 0, none⟩) 0 0) [] (wc.alloc (.cells #[] 9)) := ⟨⟨by simp, .inr ⟨wc.heap.size, 0, #[], rfl, Nat.le_refl _, heap_alloc_new wc _, Nat.le_refl _, by unfold maxLen; omega, rfl, by simp⟩⟩, (Below.refl _ _).alloc (Nat.le_refl _) _⟩
      have HN : Keep (∀ n ∈ joinNs ps qs, True) := ⟨fun _ _ => trivial⟩
      clear HN os1
      go_wp2
      go_loopw [6, 7] (fun v i wr => ∃ k : Nat, i = .int .i64 k ∧ k ≤ ps.length ∧ NmR wc v (addG [] ((ps.map Ch.path).take k)) wr) (fun _ i _ => ps.length - (intOf i).toNat)
      case atStart => exact ⟨0, rfl, Nat.zero_le _, by simpa [addG] using hnil⟩
      case round =>
        clear hnil
        obtain ⟨k, rfl, hk, hR⟩ := hrel
        have t1 := cell_later hR.bw m0
        have hal := addG_len [] (ps.map Ch.path) k (by simpa using hk)
        simp only [List.length_nil, Nat.zero_add] at hal
        by_cases hml : k < ps.length
        · have hml' : (k : Int) < ps.length := by omega
          obtain ⟨b1, o1, rfl, hc1⟩ := ((hps.below hbw).below hR.bw).at hml
          obtain ⟨x0, _⟩ := hc1 k hml
          have HA : Keep (addG [] ((ps.map Ch.path).take (k + 1)) = nameL (addG [] ((ps.map Ch.path).take k)) ps[k].path) := ⟨by rw [addG_take (by simpa using hml)]; simp⟩
          obtain ⟨ad2, cp2, rfl⟩ := owns_slice hR.row
          have hnm := l6Name_any ad2 cp2 (addG [] ((ps.map Ch.path).take k)) ps[k].path wr (ss_of_rowM hR.row) (by omega)
          generalize addG [] ((ps.map Ch.path).take k) = ls at *
          generalize ps[k].path = s at *
          clear hc1
          go_wp2_with fail
          refine hnm.mono ?_
          rintro e w2 ⟨ad3, cp3, rfl, hrow, hb2⟩
          have hR2 : NmR wc (.slice ad3 (nameL ls s).length cp3) (nameL ls s) w2 := ⟨by
            refine ⟨hrow.1, ?_⟩
            rcases hrow.2 with h' | ⟨g, cap', cur, hv, k1, k2⟩
            · exact .inl h'
            · exact .inr ⟨g, cap', cur, hv, Nat.le_trans hR.bw.size k1, k2⟩, hR.bw.trans (hb2.mono hR.bw.size)⟩
          clear hnm hrow hb2
          go_wp2
          go_roundw
          case rel => exact ⟨k + 1, by congr 1, by omega, by rw [HA.out]; exact hR2⟩
          case measure => simp only [intOf]; omega
        · obtain rfl : k = ps.length := by omega
          rw [List.take_of_length_le (by simp)] at hR hal
          have HL1 : Keep ((addG [] (ps.map Ch.path)).length ≤ 200) := ⟨by omega⟩
          have HJN : Keep (joinNs ps qs = addG (addG [] (ps.map Ch.path)) (qs.map Ch.path)) := ⟨rfl⟩
          clear hal
          generalize addG [] (ps.map Ch.path) = l1 at *
          go_wp2
          clear t1
          go_loopw [6, 8] (fun v i wq => ∃ k : Nat, i = .int .i64 k ∧ k ≤ qs.length ∧ NmR wc v (addG l1 ((qs.map Ch.path).take k)) wq) (fun _ i _ => qs.length - (intOf i).toNat)
          case atStart => exact ⟨0, rfl, Nat.zero_le _, by simpa [addG] using hR⟩
          case round =>
            clear hR
            obtain ⟨k, rfl, hk, hR⟩ := hrel
            have t1 := cell_later hR.bw m1
            have hal := addG_len l1 (qs.map Ch.path) k (by simpa using hk)
            have hl1 := HL1.out
            by_cases hml : k < qs.length
            · have hml' : (k : Int) < qs.length := by omega
              obtain ⟨b1, o1, rfl, hc1⟩ := ((hqs.below hbw).below hR.bw).at hml
              obtain ⟨x0, _⟩ := hc1 k hml
              have HA : Keep (addG l1 ((qs.map Ch.path).take (k + 1)) = nameL (addG l1 ((qs.map Ch.path).take k)) qs[k].path) := ⟨by rw [addG_take (by simpa using hml)]; simp⟩
              obtain ⟨ad2, cp2, rfl⟩ := owns_slice hR.row
              have hnm := l6Name_any ad2 cp2 (addG l1 ((qs.map Ch.path).take k)) qs[k].path wr (ss_of_rowM hR.row) (by omega)
              generalize addG l1 ((qs.map Ch.path).take k) = ls at *
              generalize qs[k].path = s at *
              clear hc1
              go_wp2_with fail
              refine hnm.mono ?_
              rintro e w2 ⟨ad3, cp3, rfl, hrow, hb2⟩
              have hR2 : NmR wc (.slice ad3 (nameL ls s).length cp3) (nameL ls s) w2 := ⟨by
                refine ⟨hrow.1, ?_⟩
                rcases hrow.2 with h' | ⟨g, cap', cur, hv, k1, k2⟩
                · exact .inl h'
                · exact .inr ⟨g, cap', cur, hv, Nat.le_trans hR.bw.size k1, k2⟩, hR.bw.trans (hb2.mono hR.bw.size)⟩
              clear hnm hrow hb2
              go_wp2
              go_roundw
              case rel => exact ⟨k + 1, by congr 1, by omega, by rw [HA.out]; exact hR2⟩
              case measure => simp only [intOf]; omega
            · obtain rfl : k = qs.length := by omega
              rw [List.take_of_length_le (by simp)] at hR
              rw [← HJN.out] at hR
              have hlen : (joinNs ps qs).length ≤ 400 := by have := joinNs_len ps qs; omega
              obtain ⟨an, cn, rfl⟩ := owns_slice hR.row
              obtain ⟨ns, hns⟩ : ∃ ns, ns = joinNs ps qs := ⟨_, rfl⟩
              have HNS : Keep (ns = joinNs ps qs) := ⟨hns⟩
              rw [← hns] at hR hlen ⊢
              have hrow := hR.row
              obtain ⟨ng, HNG⟩ : ∃ ng, Keep (∀ k (h : k < ns.length), an = some ⟨ng, 0, none⟩ ∧ wr.cell? ⟨ng, k, none⟩ = some (.string ns[k])) := by
                by_cases h0 : ns = []
                · exact ⟨0, ⟨fun k hk => by rw [h0] at hk; simp at hk⟩⟩
                · obtain ⟨ng, c, hv2, _⟩ := hrow.form (List.length_pos_iff.2 h0)
                  cases hv2
                  exact ⟨ng, ⟨fun k hk => ⟨rfl, by rw [hrow.cellAt k (by simpa using hk), List.getElem?_map, List.getElem?_eq_getElem hk]; rfl⟩⟩⟩
              have hb3 : Below wr.heap.size wr (wr.alloc (.cells #[.slice none 0 0] 30)) := (Below.refl _ _).alloc (Nat.le_refl _) _
              have hbw2 := (hbw.trans (hR.bw.mono hbw.size)).trans (hb3.mono (hbw.trans (hR.bw.mono hbw.size)).size)
              have hbx := hR.bw.trans (hb3.mono hR.bw.size)
              have o0 : (wr.alloc (.cells #[.slice none 0 0] 30)).cell? ⟨wr.heap.size, 0, none⟩ = some (.slice none 0 0) := by simp
              have of0 : (wr.alloc (.cells #[.slice none 0 0] 30)).frozen? ⟨wr.heap.size, 0, none⟩ = false := by simp
              have os2 : wr.heap.size < (wr.alloc (.cells #[.slice none 0 0] 30)).heap.size := by simp
              have hst0 := OutCh.start o0 of0 os2
              have HNK : Keep (∀ k (h : k < ns.length), an = some ⟨ng, 0, none⟩ ∧ (wr.alloc (.cells #[.slice none 0 0] 30)).cell? ⟨ng, k, none⟩ = some (.string ns[k]) ∧ ng < wr.heap.size) := ⟨fun k hk => ⟨(HNG.out k hk).1, cell_later hb3 (HNG.out k hk).2, World.block_lt_of_cell? wr ⟨ng, k, none⟩ (HNG.out k hk).2⟩⟩
              have HZ : Keep (g < wr.heap.size ∧ wr.heap.size < (wr.alloc (.cells #[.slice none 0 0] 30)).heap.size) := ⟨⟨Nat.lt_of_lt_of_le HS1.out hR.bw.size, os2⟩⟩
              replace m0 := cell_later hbx m0
              replace m1 := cell_later hbx m1
              replace k0 := cell_later hbx k0
              replace kf : (wr.alloc (.cells #[.slice none 0 0] 30)).frozen? ⟨g, 0, none⟩ = false := (hbx.frozen (p := ⟨g, 0, none⟩) HS1.out).trans kf
              go_wp2
              clear hal t1 hl1 HJN HL1 hrow hR HNG hns o0 of0 os2 hb3 hbx
              generalize wr.alloc (.cells #[.slice none 0 0] 30) = W0 at *
              obtain ⟨ob, hob⟩ : ∃ ob, ob = wr.heap.size := ⟨_, rfl⟩
              rw [← hob] at hst0 HZ HNK ⊢
              clear hob
              go_loopw [10] (fun i wr => ∃ (k : Nat) (v : Value), i = .int .i64 k ∧ k ≤ ns.length ∧ OutCh ob W0 v (joinN ps qs (ns.take k)) wr ∧ Keep (∀ n ∈ ns.take k, clJ ps qs n = false)) (fun i _ => ns.length - (intOf i).toNat)
              case atStart => exact ⟨0, _, rfl, Nat.zero_le _, hst0, ⟨fun n hn => by simp at hn⟩⟩
              case round =>
                clear hst0
                obtain ⟨k, v, rfl, hk, hst, HNC⟩ := hrel
                have hbr := hst.below hbw2 (by have := HS.out; have := HZ.out; omega)
                by_cases hlt : k < ns.length
                · have hlt' : (k : Int) < ns.length := by omega
                  obtain ⟨rfl, hnk, hng⟩ := HNK.out k hlt
                  have HTk : Keep (joinN ps qs (ns.take (k + 1)) = joinN ps qs (ns.take k) ++ outJ ps qs ns[k]) := ⟨joinN_take hlt⟩
                  have hdl : (joinN ps qs (ns.take k)).length ≤ 400 := by have := joinN_len ps qs (ns.take k); simp at this; omega
                  have t1 := hst.keep m0 (by have := HS.out; have := HZ.out; omega) (by have := HS.out; have := HZ.out; omega)
                  have t2 := hst.keep m1 (by have := HS.out; have := HZ.out; omega) (by have := HS.out; have := HZ.out; omega)
                  have nk := hst.keep hnk (by have := HZ.out; omega) (by omega)
                  have HNC2 : Keep (clJ ps qs ns[k] = false → ∀ n ∈ ns.take (k + 1), clJ ps qs n = false) := ⟨fun hc n hn => by
                    rw [List.take_succ_eq_append_getElem hlt] at hn
                    rcases List.mem_append.1 hn with h' | h'
                    · exact HNC.out n h'
                    · rw [List.mem_singleton.1 h']; exact hc⟩
                  have HEX : Keep (clJ ps qs ns[k] = true → ∃ n ∈ joinNs ps qs, clJ ps qs n = true) := ⟨fun hc => ⟨ns[k], by rw [← HNS.out]; exact List.getElem_mem hlt, hc⟩⟩
                  have HMEM : Keep ((∃ x ∈ ps, Ch.path x = ns[k]) ∨ ∃ y ∈ qs, Ch.path y = ns[k]) := ⟨((joinNs_mem ps qs).2 ns[k]).1 (by rw [← HNS.out]; exact List.getElem_mem hlt)⟩
                  generalize joinN ps qs (ns.take k) = cs at *
                  obtain ⟨s, hs⟩ : ∃ s, s = ns[k] := ⟨_, rfl⟩
                  rw [← hs] at nk HTk HNC2 HEX HMEM
                  have HO : Keep (outJ ps qs s = outJ2 s (fnd Ch.path ps s) (fnd Ch.path qs s) ∧ clJ ps qs s = clJ2 (fnd Ch.path ps s) (fnd Ch.path qs s)) := ⟨⟨rfl, rfl⟩⟩
                  obtain ⟨c, hc⟩ : ∃ c, c = (fnd Ch.path ps s).getD noCh := ⟨_, rfl⟩
                  obtain ⟨d, hd⟩ : ∃ d, d = (fnd Ch.path qs s).getD noCh := ⟨_, rfl⟩
                  obtain ⟨bc, hbc⟩ : ∃ x, x = (fnd Ch.path ps s).isSome := ⟨_, rfl⟩
                  obtain ⟨bd, hbd⟩ : ∃ x, x = (fnd Ch.path qs s).isSome := ⟨_, rfl⟩
                  have HCD : Keep ((bc = true → fnd Ch.path ps s = some c) ∧ (bc = false → fnd Ch.path ps s = none) ∧ (bd = true → fnd Ch.path qs s = some d) ∧ (bd = false → fnd Ch.path qs s = none)) := ⟨by
                    rw [hc, hd, hbc, hbd]
                    refine ⟨fun h => ?_, fun h => by simpa using h, fun h => ?_, fun h => by simpa using h⟩
                    · obtain ⟨x, hx⟩ := Option.isSome_iff_exists.1 h; rw [hx]; rfl
                    · obtain ⟨x, hx⟩ := Option.isSome_iff_exists.1 h; rw [hx]; rfl⟩
                  have HA1 : Keep (∀ X, Below wr.heap.size wr X → Calls Try.prog 48 #[.agg #[.slice a ps.length ca], .string s] X fun e w' => e = .returned (.tuple #[.agg #[.string c.path, .bool c.old.there, .string c.old.text, .bool c.old.runs, .bool c.new.there, .string c.new.text, .bool c.new.runs], .bool bc]) ∧ Below X.heap.size X w') := ⟨fun X hX => by rw [hc, hbc]; exact l6Change_any a ca ps s X ((hps.below hbr).below hX) (by omega)⟩
                  have HA2 : Keep (∀ X, Below wr.heap.size wr X → Calls Try.prog 48 #[.agg #[.slice b qs.length cb], .string s] X fun e w' => e = .returned (.tuple #[.agg #[.string d.path, .bool d.old.there, .string d.old.text, .bool d.old.runs, .bool d.new.there, .string d.new.text, .bool d.new.runs], .bool bd]) ∧ Below X.heap.size X w') := ⟨fun X hX => by rw [hd, hbd]; exact l6Change_any b cb qs s X ((hqs.below hbr).below hX) (by omega)⟩
                  clear hs hc hd hbc hbd hnk
                  have kq : ∀ {W W' : World}, Below wr.heap.size wr W → Below W.heap.size W W' → Below wr.heap.size wr W' := fun h h' => h.trans (h'.mono h.size)
                  have q0 : Below wr.heap.size wr wr.drew := (Below.refl _ _).drew
                  have qa := ((Below.refl wr.heap.size wr).alloc (Nat.le_refl _) (.cells #[.string ⟨#[]⟩, .bool false, .string ⟨#[]⟩, .bool false, .bool false, .string ⟨#[]⟩, .bool false] 68)).drew
                  go_upto_region 16 with fail
                  go_cut [11, 12] from 56 to 120 (fun pv bv wx => CutX c bc wr pv bv wx)
                  case first =>
                    refine (wpIn_wide (n := 0)).1 ?_
                    refine wpIn_region_inv0 (by kernel_rfl) (by kernel_rfl) (fun T0 => XV T0 [63, 64, 65, 66, 67, 68, 62, 69, 70, 11, 1000, 12] wr (.agg #[.slice a ps.length ca]) (.slice (some ⟨ng, 0, none⟩) ns.length cn) (.int .i64 k) (.pointer (some ⟨ng, k, none⟩)) s c bc 11) ?_ ?_ ?_
                    · exact ⟨Sl2.start _, (Below.refl _ _).drew, (fun h => by rw [getD_repl] at h; cases h)⟩
                    · intro L a2 w9 hinv hall
                      obtain ⟨fb, f1, f2, f3⟩ := hinv.bx (hall 9 (by decide))
                      rw [if_pos (hall 10 (by decide))] at f3
                      have f4 : a2.eval (.tmp 12) = .bool bc := hinv.sl.sl 11 (by decide) _ rfl (hall 11 (by decide))
                      have HX : Keep _ := ⟨hinv.sl.act⟩
                      have f5 := hinv.wd
                      clear hinv hall
                      rw [HX.out]
                      go_wp2_with fail
                      go_meet
                      case rel => exact ⟨fb, evalD2 f1, evalD2 f4, f3, f2, f5⟩
                    · intro L a2 w9 i o hinv hcl hL ho hdep
                      have hi12 : i < 12 := (Array.getElem?_eq_some_iff.1 ho).1
                      have nd := (by decide : ([63, 64, 65, 66, 67, 68, 62, 69, 70, 11, 1000, 12] : List Nat).Nodup)
                      unfold wpOpIn
                      rw [ho]
                      have c1 := cell_later hinv.wd t1
                      have c2 := cell_later hinv.wd nk
                      have HC5 := HA1.out w9 hinv.wd
                      have hc10 : L.getD 9 true = false → L.getD 10 false = false := fun h9 => by
                        cases hb : L.getD 10 false with
                        | false => rfl
                        | true =>
                          have h := hcl 10 _ rfl hb ⟨9, .data⟩ (by simp) rfl
                          rw [getD_ft h9] at h
                          cases h
                      clear hcl
                      match i, hi12, hL, ho, hdep with
                      | 0, _, hL, ho, hdep =>
                        injection ho with ho; subst ho
                        dsimp only
                        rw [if_pos (by rfl)]
                        refine ⟨fun f _ => trivial, ?_⟩
                        have e2 : a2.tmps[2]?.getD undef = .pointer (some ⟨ta, 0, none⟩) := hinv.sl.old (by decide)
                        go_simp
                        exact hinv.step nd (i := 0) (by decide) (show 63 < 127 by omega) (by decide) (by decide) (by decide) rfl (Below.refl _ _)
                      | 1, _, hL, ho, hdep =>
                        injection ho with ho; subst ho
                        dsimp only
                        rw [if_pos (by rfl)]
                        refine ⟨fun f _ => trivial, ?_⟩
                        have e6 : a2.tmps[6]?.getD undef = .slice (some ⟨ng, 0, none⟩) ns.length cn := hinv.sl.old (by decide)
                        go_simp
                        exact hinv.step nd (i := 1) (by decide) (show 64 < 127 by omega) (by decide) (by decide) (by decide) rfl (Below.refl _ _)
                      | 2, _, hL, ho, hdep =>
                        injection ho with ho; subst ho
                        dsimp only
                        rw [if_pos (by rfl)]
                        refine ⟨fun f _ => trivial, ?_⟩
                        have e10 : a2.tmps[10]?.getD undef = .int .i64 k := hinv.sl.old (by decide)
                        go_simp
                        exact hinv.step nd (i := 2) (by decide) (show 65 < 127 by omega) (by decide) (by decide) (by decide) rfl (Below.refl _ _)
                      | 3, _, hL, ho, hdep =>
                        injection ho with ho; subst ho
                        dsimp only
                        rw [if_pos (by rfl)]
                        refine ⟨fun f _ => trivial, ?_⟩
                        have ea : a2.tmps[64]?.getD undef = .slice (some ⟨ng, 0, none⟩) ns.length cn := hinv.sl.new (i := 1) (by decide) rfl (hdep ⟨1, .data⟩ (by simp) rfl)
                        have eb : a2.tmps[65]?.getD undef = .int .i64 k := hinv.sl.new (i := 2) (by decide) rfl (hdep ⟨2, .data⟩ (by simp) rfl)
                        go_simp
                        exact hinv.step nd (i := 3) (by decide) (show 66 < 127 by omega) (by decide) (by decide) (by decide) rfl (Below.refl _ _)
                      | 4, _, hL, ho, hdep =>
                        injection ho with ho; subst ho
                        dsimp only
                        rw [if_pos (by rfl)]
                        refine ⟨fun f _ => trivial, ?_⟩
                        have ea : a2.tmps[66]?.getD undef = .pointer (some ⟨ng, k, none⟩) := hinv.sl.new (i := 3) (by decide) rfl (hdep ⟨3, .data⟩ (by simp) rfl)
                        go_simp
                        exact hinv.step nd (i := 4) (by decide) (show 67 < 127 by omega) (by decide) (by decide) (by decide) rfl (Below.refl _ _)
                      | 5, _, hL, ho, hdep =>
                        injection ho with ho; subst ho
                        dsimp only
                        rw [if_pos (by rfl)]
                        refine ⟨fun f _ => trivial, ?_⟩
                        have ea : a2.tmps[63]?.getD undef = .agg #[.slice a ps.length ca] := hinv.sl.new (i := 0) (by decide) rfl (hdep ⟨0, .data⟩ (by simp) rfl)
                        have eb : a2.tmps[67]?.getD undef = .string s := hinv.sl.new (i := 4) (by decide) rfl (hdep ⟨4, .data⟩ (by simp) rfl)
                        go_simp
                        refine ⟨rfl, CallsIn.mono (callsIn_wide.2 HC5) ?_⟩
                        rintro e w' ⟨rfl, hb'⟩
                        exact hinv.step nd (i := 5) (by decide) (show 68 < 127 by omega) (by decide) (by decide) (by decide) rfl hb'
                      | 6, _, hL, ho, hdep =>
                        injection ho with ho; subst ho
                        dsimp only
                        rw [if_pos (by rfl)]
                        refine ⟨fun f _ => trivial, ?_⟩
                        have ea := hinv.sl.new (i := 5) (by decide) rfl (hdep ⟨5, .data⟩ (by simp) rfl)
                        dsimp only [List.getElem_cons_zero, List.getElem_cons_succ] at ea
                        go_simp
                        exact hinv.step nd (i := 6) (by decide) (show 62 < 127 by omega) (by decide) (by decide) (by decide) rfl (Below.refl _ _)
                      | 7, _, hL, ho, hdep =>
                        injection ho with ho; subst ho
                        dsimp only
                        rw [if_pos (by rfl)]
                        refine ⟨fun f _ => trivial, ?_⟩
                        have ea := hinv.sl.new (i := 6) (by decide) rfl (hdep ⟨6, .data⟩ (by simp) rfl)
                        dsimp only [List.getElem_cons_zero, List.getElem_cons_succ] at ea
                        go_simp
                        exact hinv.step nd (i := 7) (by decide) (show 69 < 127 by omega) (by decide) (by decide) (by decide) rfl (Below.refl _ _)
                      | 8, _, hL, ho, hdep =>
                        injection ho with ho; subst ho
                        dsimp only
                        rw [if_pos (by rfl)]
                        refine ⟨fun f _ => trivial, ?_⟩
                        have ea := hinv.sl.new (i := 6) (by decide) rfl (hdep ⟨6, .data⟩ (by simp) rfl)
                        dsimp only [List.getElem_cons_zero, List.getElem_cons_succ] at ea
                        go_simp
                        exact hinv.step nd (i := 8) (by decide) (show 70 < 127 by omega) (by decide) (by decide) (by decide) rfl (Below.refl _ _)
                      | 9, _, hL, ho, hdep =>
                        injection ho with ho; subst ho
                        dsimp only
                        rw [if_pos (by rfl)]
                        refine ⟨fun f _ => trivial, ?_⟩
                        go_simp
                        exact XV.box (by decide) hinv nd (show 11 < 127 by omega) (hc10 hL)
                      | 10, _, hL, ho, hdep =>
                        injection ho with ho; subst ho
                        dsimp only
                        rw [if_pos (by rfl)]
                        refine ⟨fun f _ => trivial, ?_⟩
                        obtain ⟨fb, f1, f2, f3⟩ := hinv.bx (hdep ⟨9, .data⟩ (by simp) rfl)
                        rw [if_neg (by rw [getD_ft hL]; simp)] at f3
                        have ea : a2.tmps[11]?.getD undef = .pointer (some ⟨fb, 0, none⟩) := evalD2 f1
                        have eb := hinv.sl.new (i := 7) (by decide) rfl (hdep ⟨7, .data⟩ (by simp) rfl)
                        dsimp only [List.getElem_cons_zero, List.getElem_cons_succ] at eb
                        have n0 := f3.c0
                        have n1 := f3.c1
                        have n2 := f3.c2
                        have n3 := f3.c3
                        have n4 := f3.c4
                        have n5 := f3.c5
                        have n6 := f3.c6
                        have nf := f3.fz
                        go_simp
                        exact hinv.store f1 f2 f3 hL
                      | 11, _, hL, ho, hdep =>
                        injection ho with ho; subst ho
                        dsimp only
                        rw [if_pos (by rfl)]
                        refine ⟨fun f _ => trivial, ?_⟩
                        have ea := hinv.sl.new (i := 8) (by decide) rfl (hdep ⟨8, .data⟩ (by simp) rfl)
                        dsimp only [List.getElem_cons_zero, List.getElem_cons_succ] at ea
                        go_simp
                        exact hinv.step nd (i := 11) (by decide) (show 12 < 127 by omega) (by decide) (by decide) (by decide) rfl (Below.refl _ _)
                  case rest =>
                    obtain ⟨fb, rfl, rfl, hF, hfb, hB1⟩ := hcut
                    clear q0 qa
                    generalize hwd : wc = wd at *
                    clear hwd
                    have t2w := cell_later hB1 t2
                    have nkw := cell_later hB1 nk
                    have q0 : Below wr.heap.size wr wd.drew := hB1.drew
                    have qa := (hB1.alloc hB1.size (.cells #[.string ⟨#[]⟩, .bool false, .string ⟨#[]⟩, .bool false, .bool false, .string ⟨#[]⟩, .bool false] 68)).drew
                    have q1 : Below wd.heap.size wd wd.drew := (Below.refl _ _).drew
                    have q2 := ((Below.refl wd.heap.size wd).alloc (Nat.le_refl _) (.cells #[.string ⟨#[]⟩, .bool false, .string ⟨#[]⟩, .bool false, .bool false, .string ⟨#[]⟩, .bool false] 68)).drew
                    go_upto_region 17 with fail
                    go_cut [13, 14] from 56 to 120 (fun pv bv wx => CutX d bd wd pv bv wx)
                    case first =>
                      refine (wpIn_wide (n := 0)).1 ?_
                      refine wpIn_region_inv0 (by kernel_rfl) (by kernel_rfl) (fun T0 => XV T0 [72, 73, 74, 75, 76, 77, 71, 78, 79, 13, 1000, 14] wd (.agg #[.slice b qs.length cb]) (.slice (some ⟨ng, 0, none⟩) ns.length cn) (.int .i64 k) (.pointer (some ⟨ng, k, none⟩)) s d bd 13) ?_ ?_ ?_
                      · exact ⟨Sl2.start _, (Below.refl _ _).drew, (fun h => by rw [getD_repl] at h; cases h)⟩
                      · intro L a2 w9 hinv hall
                        obtain ⟨fb, f1, f2, f3⟩ := hinv.bx (hall 9 (by decide))
                        rw [if_pos (hall 10 (by decide))] at f3
                        have f4 : a2.eval (.tmp 14) = .bool bd := hinv.sl.sl 11 (by decide) _ rfl (hall 11 (by decide))
                        have HX : Keep _ := ⟨hinv.sl.act⟩
                        have f5 := hinv.wd
                        clear hinv hall
                        rw [HX.out]
                        go_wp2_with fail
                        go_meet
                        case rel => exact ⟨fb, evalD2 f1, evalD2 f4, f3, f2, f5⟩
                      · intro L a2 w9 i o hinv hcl hL ho hdep
                        have hi12 : i < 12 := (Array.getElem?_eq_some_iff.1 ho).1
                        have nd := (by decide : ([72, 73, 74, 75, 76, 77, 71, 78, 79, 13, 1000, 14] : List Nat).Nodup)
                        unfold wpOpIn
                        rw [ho]
                        have c1 := cell_later hinv.wd t2w
                        have c2 := cell_later hinv.wd nkw
                        have HC5 := HA2.out w9 (kq hB1 hinv.wd)
                        have hc10 : L.getD 9 true = false → L.getD 10 false = false := fun h9 => by
                          cases hb : L.getD 10 false with
                          | false => rfl
                          | true =>
                            have h := hcl 10 _ rfl hb ⟨9, .data⟩ (by simp) rfl
                            rw [getD_ft h9] at h
                            cases h
                        clear hcl
                        match i, hi12, hL, ho, hdep with
                        | 0, _, hL, ho, hdep =>
                          injection ho with ho; subst ho
                          dsimp only
                          rw [if_pos (by rfl)]
                          refine ⟨fun f _ => trivial, ?_⟩
                          have e2 : a2.tmps[3]?.getD undef = .pointer (some ⟨tb, 0, none⟩) := hinv.sl.old (by decide)
                          go_simp
                          exact hinv.step nd (i := 0) (by decide) (show 72 < 127 by omega) (by decide) (by decide) (by decide) rfl (Below.refl _ _)
                        | 1, _, hL, ho, hdep =>
                          injection ho with ho; subst ho
                          dsimp only
                          rw [if_pos (by rfl)]
                          refine ⟨fun f _ => trivial, ?_⟩
                          have e6 : a2.tmps[6]?.getD undef = .slice (some ⟨ng, 0, none⟩) ns.length cn := hinv.sl.old (by decide)
                          go_simp
                          exact hinv.step nd (i := 1) (by decide) (show 73 < 127 by omega) (by decide) (by decide) (by decide) rfl (Below.refl _ _)
                        | 2, _, hL, ho, hdep =>
                          injection ho with ho; subst ho
                          dsimp only
                          rw [if_pos (by rfl)]
                          refine ⟨fun f _ => trivial, ?_⟩
                          have e10 : a2.tmps[10]?.getD undef = .int .i64 k := hinv.sl.old (by decide)
                          go_simp
                          exact hinv.step nd (i := 2) (by decide) (show 74 < 127 by omega) (by decide) (by decide) (by decide) rfl (Below.refl _ _)
                        | 3, _, hL, ho, hdep =>
                          injection ho with ho; subst ho
                          dsimp only
                          rw [if_pos (by rfl)]
                          refine ⟨fun f _ => trivial, ?_⟩
                          have ea : a2.tmps[73]?.getD undef = .slice (some ⟨ng, 0, none⟩) ns.length cn := hinv.sl.new (i := 1) (by decide) rfl (hdep ⟨1, .data⟩ (by simp) rfl)
                          have eb : a2.tmps[74]?.getD undef = .int .i64 k := hinv.sl.new (i := 2) (by decide) rfl (hdep ⟨2, .data⟩ (by simp) rfl)
                          go_simp
                          exact hinv.step nd (i := 3) (by decide) (show 75 < 127 by omega) (by decide) (by decide) (by decide) rfl (Below.refl _ _)
                        | 4, _, hL, ho, hdep =>
                          injection ho with ho; subst ho
                          dsimp only
                          rw [if_pos (by rfl)]
                          refine ⟨fun f _ => trivial, ?_⟩
                          have ea : a2.tmps[75]?.getD undef = .pointer (some ⟨ng, k, none⟩) := hinv.sl.new (i := 3) (by decide) rfl (hdep ⟨3, .data⟩ (by simp) rfl)
                          go_simp
                          exact hinv.step nd (i := 4) (by decide) (show 76 < 127 by omega) (by decide) (by decide) (by decide) rfl (Below.refl _ _)
                        | 5, _, hL, ho, hdep =>
                          injection ho with ho; subst ho
                          dsimp only
                          rw [if_pos (by rfl)]
                          refine ⟨fun f _ => trivial, ?_⟩
                          have ea : a2.tmps[72]?.getD undef = .agg #[.slice b qs.length cb] := hinv.sl.new (i := 0) (by decide) rfl (hdep ⟨0, .data⟩ (by simp) rfl)
                          have eb : a2.tmps[76]?.getD undef = .string s := hinv.sl.new (i := 4) (by decide) rfl (hdep ⟨4, .data⟩ (by simp) rfl)
                          go_simp
                          refine ⟨rfl, CallsIn.mono (callsIn_wide.2 HC5) ?_⟩
                          rintro e w' ⟨rfl, hb'⟩
                          exact hinv.step nd (i := 5) (by decide) (show 77 < 127 by omega) (by decide) (by decide) (by decide) rfl hb'
                        | 6, _, hL, ho, hdep =>
                          injection ho with ho; subst ho
                          dsimp only
                          rw [if_pos (by rfl)]
                          refine ⟨fun f _ => trivial, ?_⟩
                          have ea := hinv.sl.new (i := 5) (by decide) rfl (hdep ⟨5, .data⟩ (by simp) rfl)
                          dsimp only [List.getElem_cons_zero, List.getElem_cons_succ] at ea
                          go_simp
                          exact hinv.step nd (i := 6) (by decide) (show 71 < 127 by omega) (by decide) (by decide) (by decide) rfl (Below.refl _ _)
                        | 7, _, hL, ho, hdep =>
                          injection ho with ho; subst ho
                          dsimp only
                          rw [if_pos (by rfl)]
                          refine ⟨fun f _ => trivial, ?_⟩
                          have ea := hinv.sl.new (i := 6) (by decide) rfl (hdep ⟨6, .data⟩ (by simp) rfl)
                          dsimp only [List.getElem_cons_zero, List.getElem_cons_succ] at ea
                          go_simp
                          exact hinv.step nd (i := 7) (by decide) (show 78 < 127 by omega) (by decide) (by decide) (by decide) rfl (Below.refl _ _)
                        | 8, _, hL, ho, hdep =>
                          injection ho with ho; subst ho
                          dsimp only
                          rw [if_pos (by rfl)]
                          refine ⟨fun f _ => trivial, ?_⟩
                          have ea := hinv.sl.new (i := 6) (by decide) rfl (hdep ⟨6, .data⟩ (by simp) rfl)
                          dsimp only [List.getElem_cons_zero, List.getElem_cons_succ] at ea
                          go_simp
                          exact hinv.step nd (i := 8) (by decide) (show 79 < 127 by omega) (by decide) (by decide) (by decide) rfl (Below.refl _ _)
                        | 9, _, hL, ho, hdep =>
                          injection ho with ho; subst ho
                          dsimp only
                          rw [if_pos (by rfl)]
                          refine ⟨fun f _ => trivial, ?_⟩
                          go_simp
                          exact XV.box (by decide) hinv nd (show 13 < 127 by omega) (hc10 hL)
                        | 10, _, hL, ho, hdep =>
                          injection ho with ho; subst ho
                          dsimp only
                          rw [if_pos (by rfl)]
                          refine ⟨fun f _ => trivial, ?_⟩
                          obtain ⟨fb, f1, f2, f3⟩ := hinv.bx (hdep ⟨9, .data⟩ (by simp) rfl)
                          rw [if_neg (by rw [getD_ft hL]; simp)] at f3
                          have ea : a2.tmps[13]?.getD undef = .pointer (some ⟨fb, 0, none⟩) := evalD2 f1
                          have eb := hinv.sl.new (i := 7) (by decide) rfl (hdep ⟨7, .data⟩ (by simp) rfl)
                          dsimp only [List.getElem_cons_zero, List.getElem_cons_succ] at eb
                          have n0 := f3.c0
                          have n1 := f3.c1
                          have n2 := f3.c2
                          have n3 := f3.c3
                          have n4 := f3.c4
                          have n5 := f3.c5
                          have n6 := f3.c6
                          have nf := f3.fz
                          go_simp
                          exact hinv.store f1 f2 f3 hL
                        | 11, _, hL, ho, hdep =>
                          injection ho with ho; subst ho
                          dsimp only
                          rw [if_pos (by rfl)]
                          refine ⟨fun f _ => trivial, ?_⟩
                          have ea := hinv.sl.new (i := 8) (by decide) rfl (hdep ⟨8, .data⟩ (by simp) rfl)
                          dsimp only [List.getElem_cons_zero, List.getElem_cons_succ] at ea
                          go_simp
                          exact hinv.step nd (i := 11) (by decide) (show 14 < 127 by omega) (by decide) (by decide) (by decide) rfl (Below.refl _ _)
                    case rest =>
                      obtain ⟨gb, rfl, rfl, hG, hgb, hB2⟩ := hcut
                      have hF2 := hF.later hB2
                      have hB3 : Below wr.heap.size wr wc := kq hB1 hB2
                      have hst2 := hst.later hB3
                      have nk2 := cell_later hB3 nk
                      have k2 := hst2.keep k0 (by have := HS.out; have := HZ.out; omega) (by have := HS.out; have := HZ.out; omega)
                      have kf2 : wc.frozen? ⟨g, 0, none⟩ = false := frozen_of (hst2.grown.block g (by have := HS.out; have := HZ.out; omega) (fun e => by have := HS.out; have := HZ.out; cases e; omega)) kf
                      have hbX := hst2.below hbw2 (by have := HS.out; have := HZ.out; omega)
                      clear t1 t2 t2w nk nkw q0 qa q1 q2 hF hB1 hB2 HA1 HA2 kq hbr hst hfb hgb hB3
                      generalize hX : wc = X at *
                      clear hX
                      have x0 := hF2.c0
                      have x1 := hF2.c1
                      have x2 := hF2.c2
                      have x3 := hF2.c3
                      have x4 := hF2.c4
                      have x5 := hF2.c5
                      have x6 := hF2.c6
                      have y0 := hG.c0
                      have y1 := hG.c1
                      have y2 := hG.c2
                      have y3 := hG.c3
                      have y4 := hG.c4
                      have y5 := hG.c5
                      have y6 := hG.c6
                      clear hF2 hG
                      cases bc with
                      | false =>
                        have hn1 := HCD.out.2.1 rfl
                        cases bd with
                        | false =>
                          exfalso
                          have hn2 := HCD.out.2.2.2 rfl
                          rcases HMEM.out with ⟨z, hz, hzs⟩ | ⟨z, hz, hzs⟩
                          · unfold fnd at hn1
                            rw [List.find?_eq_none] at hn1
                            exact hn1 z hz (eqb_iff.2 hzs)
                          · unfold fnd at hn2
                            rw [List.find?_eq_none] at hn2
                            exact hn2 z hz (eqb_iff.2 hzs)
                        | true =>
                          have hn2 := HCD.out.2.2.1 rfl
                          have HO2 : Keep (outJ ps qs s = [d]) := ⟨by rw [HO.out.1, hn1, hn2]; rfl⟩
                          have HN3 : Keep (∀ n ∈ ns.take (k + 1), clJ ps qs n = false) := ⟨HNC2.out (by rw [HO.out.2, hn1]; rfl)⟩
                          clear hn1 hn2 HCD
                          have hb2 : Below X.heap.size X (X.alloc (.cells #[.string d.path, .bool d.old.there, .string d.old.text, .bool d.old.runs, .bool d.new.there, .string d.new.text, .bool d.new.runs] 68)) := (Below.refl _ _).alloc (Nat.le_refl _) _
                          have o2 := hst2.cell
                          have o2a : ∀ o, (X.alloc o).cell? ⟨ob, 0, none⟩ = some v := fun o => cell_later ((Below.refl _ _).alloc (Nat.le_refl _) o) o2
                          go_wp2_with (first | (at_builtin; refine wpList_append_lies _ rfl _ _ 28 rfl W0.heap.size 68 i0 _ 7 80 Try.underlying28 hi hz0 hz1 hzb rfl (by decide) v cs.length (ccells cs) rfl (hst2.row.alloc _) ⟨X.heap.size, 0, none⟩ 1 1 (chL d) rfl rfl (news_7 X d _ _ rfl) (one_7 _) (by omega) (by unfold maxLen; omega) (by omega) (by have := hst2.grown.size; simp; omega) (X.heap.size + 1) (by simp) ?_; intro g2 cap2 w2 hown2 hgrow2 hat2 hlt2; obtain ⟨hc2, hf2⟩ := hst2.mid hb2 hgrow2))
                          have hst3 := hst2.append hb2 hgrow2 hown2
                          clear hc2 hf2 hb2 hgrow2 hown2 hat2 hlt2 o2 o2a x0 x1 x2 x3 x4 x5 x6 y0 y1 y2 y3 y4 y5 y6 hst2 nk2
                          go_roundw
                          case rel => exact ⟨k + 1, _, by congr 1, hlt, by rw [HTk.out, HO2.out]; exact hst3, HN3⟩
                          case measure => simp only [intOf]; omega
                      | true =>
                        have hn1 := HCD.out.1 rfl
                        cases bd with
                        | false =>
                          have hn2 := HCD.out.2.2.2 rfl
                          have HO2 : Keep (outJ ps qs s = [c]) := ⟨by rw [HO.out.1, hn1, hn2]; rfl⟩
                          have HN3 : Keep (∀ n ∈ ns.take (k + 1), clJ ps qs n = false) := ⟨HNC2.out (by rw [HO.out.2, hn1, hn2]; rfl)⟩
                          clear hn1 hn2 HCD
                          have hb2 : Below X.heap.size X (X.alloc (.cells #[.string c.path, .bool c.old.there, .string c.old.text, .bool c.old.runs, .bool c.new.there, .string c.new.text, .bool c.new.runs] 68)) := (Below.refl _ _).alloc (Nat.le_refl _) _
                          have o2 := hst2.cell
                          have o2a : ∀ o, (X.alloc o).cell? ⟨ob, 0, none⟩ = some v := fun o => cell_later ((Below.refl _ _).alloc (Nat.le_refl _) o) o2
                          go_wp2_with (first | (at_builtin; refine wpList_append_lies _ rfl _ _ 28 rfl W0.heap.size 68 i0 _ 7 80 Try.underlying28 hi hz0 hz1 hzb rfl (by decide) v cs.length (ccells cs) rfl (hst2.row.alloc _) ⟨X.heap.size, 0, none⟩ 1 1 (chL c) rfl rfl (news_7 X c _ _ rfl) (one_7 _) (by omega) (by unfold maxLen; omega) (by omega) (by have := hst2.grown.size; simp; omega) (X.heap.size + 1) (by simp) ?_; intro g2 cap2 w2 hown2 hgrow2 hat2 hlt2; obtain ⟨hc2, hf2⟩ := hst2.mid hb2 hgrow2))
                          have hst3 := hst2.append hb2 hgrow2 hown2
                          clear hc2 hf2 hb2 hgrow2 hown2 hat2 hlt2 o2 o2a x0 x1 x2 x3 x4 x5 x6 y0 y1 y2 y3 y4 y5 y6 hst2 nk2
                          go_roundw
                          case rel => exact ⟨k + 1, _, by congr 1, hlt, by rw [HTk.out, HO2.out]; exact hst3, HN3⟩
                          case measure => simp only [intOf]; omega
                        | true =>
                          have hn2 := HCD.out.2.2.1 rfl
                          have HCL : Keep (clJ ps qs s = !sameF c.new d.old) := ⟨by rw [HO.out.2, hn1, hn2]; rfl⟩
                          have HO1 : Keep (outJ ps qs s = if sameF c.old d.new = true then [] else [⟨s, c.old, d.new⟩]) := ⟨by rw [HO.out.1, hn1, hn2]; rfl⟩
                          clear hn1 hn2 HCD
                          cases hsm : sameF c.new d.old with
                          | false =>
                            have HB9 : Keep (JoinPost ps qs w (.returned (.tuple #[.agg #[.slice none ([] : List Ch).length 0], .bool false])) (X.setCell ⟨g, 0, none⟩ (.slice none 0 0))) := ⟨⟨[], false, .inr ⟨hv.1, hv.2, .inl ⟨HEX.out (by rw [HCL.out, hsm]; rfl), rfl, rfl⟩⟩, ⟨none, 0, rfl, CL.nil _ _ _⟩, hbX.setCell (p := ⟨g, 0, none⟩) (by have := HS.out; show _ ≤ g; omega) _⟩⟩
                            by_cases h1 : c.new.there = d.old.there
                            · by_cases h2 : c.new.text.toList = d.old.text.toList
                              · by_cases h3 : c.new.runs = d.old.runs
                                · exfalso
                                  rw [Bool.eq_false_iff] at hsm
                                  exact hsm (by simp [sameF, h1, h2, h3])
                                · go_wp2
                                  refine bodyPost_ret (v := .tuple #[.agg #[.slice none ([] : List Ch).length 0], .bool false]) ?_ rfl HB9.out
                                  go_light
                                  simp [results, Try.results17, go_sem, k2]
                              · go_wp2
                                refine bodyPost_ret (v := .tuple #[.agg #[.slice none ([] : List Ch).length 0], .bool false]) ?_ rfl HB9.out
                                go_light
                                simp [results, Try.results17, go_sem, k2]
                            · go_wp2
                              refine bodyPost_ret (v := .tuple #[.agg #[.slice none ([] : List Ch).length 0], .bool false]) ?_ rfl HB9.out
                              go_light
                              simp [results, Try.results17, go_sem, k2]
                          | true =>
                            have HN3 : Keep (∀ n ∈ ns.take (k + 1), clJ ps qs n = false) := ⟨HNC2.out (by rw [HCL.out, hsm]; rfl)⟩
                            obtain ⟨⟨h1, h2⟩, h3⟩ : (c.new.there = d.old.there ∧ c.new.text.toList = d.old.text.toList) ∧ c.new.runs = d.old.runs := by simpa [sameF] using hsm
                            have h4 : c.new.text = d.old.text := WideShapes.bytes_inj (by rw [← Lib.toList_data, ← Lib.toList_data]; exact h2)
                            rw [← h1] at y1
                            rw [← h4] at y2
                            rw [← h3] at y3
                            clear hsm h1 h2 h3 h4
                            go_upto_region 24 with fail
                            cases hs2 : sameF c.old d.new with
                            | true =>
                              have HO2 : Keep (outJ ps qs s = []) := ⟨by rw [HO1.out, if_pos hs2]⟩
                              obtain ⟨⟨h1, h2⟩, h3⟩ : (c.old.there = d.new.there ∧ c.old.text.toList = d.new.text.toList) ∧ c.old.runs = d.new.runs := by simpa [sameF] using hs2
                              have h4 : c.old.text = d.new.text := WideShapes.bytes_inj (by rw [← Lib.toList_data, ← Lib.toList_data]; exact h2)
                              rw [← h1] at y4
                              rw [← h4] at y5
                              rw [← h3] at y6
                              clear hs2 h1 h2 h3 h4
                              go_wp2
                              go_roundw
                              case rel => exact ⟨k + 1, v, by congr 1, hlt, by rw [HTk.out, HO2.out, List.append_nil]; exact hst2, HN3⟩
                              case measure => simp only [intOf]; omega
                            | false =>
                              have HO2 : Keep (outJ ps qs s = [⟨s, c.old, d.new⟩]) := ⟨by rw [HO1.out, if_neg (by rw [hs2]; simp)]⟩
                              go_cut [106] from 56 to 120 (fun x wx => x = .bool true ∧ X = wx)
                              case first =>
                                by_cases h1 : c.old.there = d.new.there
                                · by_cases h2 : c.old.text.toList = d.new.text.toList
                                  · by_cases h3 : c.old.runs = d.new.runs
                                    · exfalso
                                      rw [Bool.eq_false_iff] at hs2
                                      exact hs2 (by simp [sameF, h1, h2, h3])
                                    · go_wp2_with fail
                                      go_meet
                                      case rel => exact ⟨rfl, rfl⟩
                                  · go_wp2_with fail
                                    go_meet
                                    case rel => exact ⟨rfl, rfl⟩
                                · go_wp2_with fail
                                  go_meet
                                  case rel => exact ⟨rfl, rfl⟩
                              case rest =>
                                obtain ⟨rfl, rfl⟩ := hcut
                                clear hs2
                                obtain ⟨ad9, cp9, rfl⟩ := owns_slice hst2.row
                                have hb1' : Below X.heap.size X (X.drew.alloc (.cells #[.string s, .bool c.old.there, .string c.old.text, .bool c.old.runs, .bool d.new.there, .string d.new.text, .bool d.new.runs] 68)) := (Below.refl X.heap.size X).drew.alloc (Nat.le_refl _) _
                                have o1 := hst2.cell
                                have o1a : ∀ o, (X.drew.alloc o).cell? ⟨ob, 0, none⟩ = some (.slice ad9 cs.length cp9) := fun o => cell_later ((Below.refl X.heap.size X).drew.alloc (Nat.le_refl _) o) o1
                                have o1b : ∀ o, (X.alloc o).cell? ⟨ob, 0, none⟩ = some (.slice ad9 cs.length cp9) := fun o => cell_later ((Below.refl _ _).alloc (Nat.le_refl _) o) o1
                                have HST : Keep (OutCh ob W0 (.slice ad9 cs.length cp9) cs X) := ⟨hst2⟩
                                have hgs := hst2.grown.size
                                clear hst2
                                go_upto_region 25 with fail
                                refine (wpIn_wide (n := 0)).1 ?_
                                refine wpIn_region_inv0 (by kernel_rfl) (by kernel_rfl) (fun T0 => AV T0 ob fb gb W0 X (.slice ad9 cs.length cp9) (.slice (some ⟨ng, 0, none⟩) ns.length cn) (.int .i64 k) (.pointer (some ⟨ng, k, none⟩)) s c.old d.new cs) ?_ ?_ ?_
                                · exact ⟨Sl2.start _, fun _ => rfl, (fun h => by rw [getD_repl] at h; cases h), (fun h => by rw [getD_repl] at h; cases h), (fun h => by rw [getD_repl] at h; cases h)⟩
                                · intro L a2 w9 hinv hall
                                  have hE := hinv.w3 (hall 14 (by decide))
                                  have HX : Keep _ := ⟨hinv.sl.act⟩
                                  clear hinv hall
                                  obtain ⟨v', hst3⟩ := hE
                                  clear o1 o1a o1b x0 x1 x2 x3 x4 x5 x6 y0 y1 y2 y3 y4 y5 y6 nk2 HST
                                  rw [HX.out]
                                  simp only [updL, aDs, List.contains_cons, List.contains_nil, Nat.reduceAdd, Nat.reduceBEq, Bool.or_false, cond_false, cond_true, Bool.or_true]
                                  go_wp2
                                  go_roundw
                                  case rel => exact ⟨k + 1, _, by congr 1, hlt, by rw [HTk.out, HO2.out]; exact hst3, HN3⟩
                                  case measure => simp only [intOf]; omega
                                · intro L a2 w9 i o hinv hcl hL ho hdep
                                  have hi15 : i < 15 := (Array.getElem?_eq_some_iff.1 ho).1
                                  unfold wpOpIn
                                  rw [ho]
                                  have q14 : L.getD 12 true = false → L.getD 14 false = false := fun h9 => by
                                    cases hb : L.getD 14 false with
                                    | false => rfl
                                    | true => exfalso; have h := hcl 14 _ rfl hb ⟨12, .data⟩ (by simp) rfl; rw [getD_ft h9] at h; cases h
                                  have q12 : (L.getD 11 true = false ∨ L.getD 1 true = false) → L.getD 12 false = false := fun h9 => by
                                    cases hb : L.getD 12 false with
                                    | false => rfl
                                    | true =>
                                      exfalso
                                      rcases h9 with h9 | h9
                                      · have h := hcl 12 _ rfl hb ⟨11, .data⟩ (by simp) rfl; rw [getD_ft h9] at h; cases h
                                      · have h := hcl 12 _ rfl hb ⟨1, .data⟩ (by simp) rfl; rw [getD_ft h9] at h; cases h
                                  have q11 : (L.getD 5 true = false ∨ L.getD 7 true = false ∨ L.getD 9 true = false) → L.getD 11 false = false := fun h9 => by
                                    cases hb : L.getD 11 false with
                                    | false => rfl
                                    | true =>
                                      exfalso
                                      have h10 := hcl 11 _ rfl hb ⟨10, .data⟩ (by simp) rfl
                                      rcases h9 with h9 | h9 | h9
                                      · have h := hcl 10 _ rfl h10 ⟨5, .data⟩ (by simp) rfl; rw [getD_ft h9] at h; cases h
                                      · have h := hcl 10 _ rfl h10 ⟨7, .data⟩ (by simp) rfl; rw [getD_ft h9] at h; cases h
                                      · have h := hcl 10 _ rfl h10 ⟨9, .data⟩ (by simp) rfl; rw [getD_ft h9] at h; cases h
                                  have q411 : L.getD 14 true = false → L.getD 12 false = true → L.getD 11 false = true := fun _ hb => hcl 12 _ rfl hb ⟨11, .data⟩ (by simp) rfl
                                  have q1414 : L.getD 11 true = false → L.getD 14 false = false := fun h9 => by
                                    cases hb : L.getD 14 false with
                                    | false => rfl
                                    | true => exfalso; have h := hcl 12 _ rfl (hcl 14 _ rfl hb ⟨12, .data⟩ (by simp) rfl) ⟨11, .data⟩ (by simp) rfl; rw [getD_ft h9] at h; cases h
                                  clear hcl
                                  match i, hi15, hL, ho, hdep with
                                  | 0, _, hL, ho, hdep =>
                                    injection ho with ho; subst ho
                                    dsimp only
                                    rw [if_pos (by rfl)]
                                    refine ⟨fun f _ => trivial, ?_⟩
                                    have e9 : a2.tmps[9]?.getD undef = .pointer (some ⟨ob, 0, none⟩) := hinv.sl.old (by decide)
                                    go_simp
                                    exact hinv.step (i := 0) rfl (by omega) (by omega) (by omega) rfl
                                  | 1, _, hL, ho, hdep =>
                                    injection ho with ho; subst ho
                                    dsimp only
                                    rw [if_pos (by rfl)]
                                    refine ⟨fun f _ => trivial, ?_⟩
                                    have e107 : a2.tmps[107]?.getD undef = .pointer (some ⟨ob, 0, none⟩) := hinv.sl.new (i := 0) (by decide) rfl (hdep ⟨0, .data⟩ (by simp) rfl)
                                    have h12 := q12 (.inr hL)
                                    cases h11 : L.getD 11 false with
                                    | false =>
                                      obtain rfl := hinv.w0 h11
                                      go_simp
                                      exact hinv.step (i := 1) rfl (by omega) (by omega) (by omega) rfl
                                    | true =>
                                      obtain ⟨rfl, _⟩ := hinv.w1 h11 h12
                                      go_simp
                                      exact hinv.step (i := 1) rfl (by omega) (by omega) (by omega) rfl
                                  | 2, _, hL, ho, hdep =>
                                    injection ho with ho; subst ho
                                    dsimp only
                                    rw [if_pos (by rfl)]
                                    refine ⟨fun f _ => trivial, ?_⟩
                                    have e6 : a2.tmps[6]?.getD undef = .slice (some ⟨ng, 0, none⟩) ns.length cn := hinv.sl.old (by decide)
                                    go_simp
                                    exact hinv.step (i := 2) rfl (by omega) (by omega) (by omega) rfl
                                  | 3, _, hL, ho, hdep =>
                                    injection ho with ho; subst ho
                                    dsimp only
                                    rw [if_pos (by rfl)]
                                    refine ⟨fun f _ => trivial, ?_⟩
                                    have e10 : a2.tmps[10]?.getD undef = .int .i64 k := hinv.sl.old (by decide)
                                    go_simp
                                    exact hinv.step (i := 3) rfl (by omega) (by omega) (by omega) rfl
                                  | 4, _, hL, ho, hdep =>
                                    injection ho with ho; subst ho
                                    dsimp only
                                    rw [if_pos (by rfl)]
                                    refine ⟨fun f _ => trivial, ?_⟩
                                    have e109 : a2.tmps[109]?.getD undef = .slice (some ⟨ng, 0, none⟩) ns.length cn := hinv.sl.new (i := 2) (by decide) rfl (hdep ⟨2, .data⟩ (by simp) rfl)
                                    have e110 : a2.tmps[110]?.getD undef = .int .i64 k := hinv.sl.new (i := 3) (by decide) rfl (hdep ⟨3, .data⟩ (by simp) rfl)
                                    go_simp
                                    exact hinv.step (i := 4) rfl (by omega) (by omega) (by omega) rfl
                                  | 5, _, hL, ho, hdep =>
                                    injection ho with ho; subst ho
                                    dsimp only
                                    rw [if_pos (by rfl)]
                                    refine ⟨fun f _ => trivial, ?_⟩
                                    have e111 : a2.tmps[111]?.getD undef = .pointer (some ⟨ng, k, none⟩) := hinv.sl.new (i := 4) (by decide) rfl (hdep ⟨4, .data⟩ (by simp) rfl)
                                    obtain rfl := hinv.w0 (q11 (.inl hL))
                                    go_simp
                                    exact hinv.step (i := 5) rfl (by omega) (by omega) (by omega) rfl
                                  | 6, _, hL, ho, hdep =>
                                    injection ho with ho; subst ho
                                    dsimp only
                                    rw [if_pos (by rfl)]
                                    refine ⟨fun f _ => trivial, ?_⟩
                                    have e11 : a2.tmps[11]?.getD undef = .pointer (some ⟨fb, 0, none⟩) := hinv.sl.old (by decide)
                                    go_simp
                                    exact hinv.step (i := 6) rfl (by omega) (by omega) (by omega) rfl
                                  | 7, _, hL, ho, hdep =>
                                    injection ho with ho; subst ho
                                    dsimp only
                                    rw [if_pos (by rfl)]
                                    refine ⟨fun f _ => trivial, ?_⟩
                                    have e113 : a2.tmps[113]?.getD undef = .pointer (some ⟨fb, 1, none⟩) := hinv.sl.new (i := 6) (by decide) rfl (hdep ⟨6, .data⟩ (by simp) rfl)
                                    obtain rfl := hinv.w0 (q11 (.inr (.inl hL)))
                                    go_simp
                                    exact hinv.step (i := 7) rfl (by omega) (by omega) (by omega) rfl
                                  | 8, _, hL, ho, hdep =>
                                    injection ho with ho; subst ho
                                    dsimp only
                                    rw [if_pos (by rfl)]
                                    refine ⟨fun f _ => trivial, ?_⟩
                                    have e13 : a2.tmps[13]?.getD undef = .pointer (some ⟨gb, 0, none⟩) := hinv.sl.old (by decide)
                                    go_simp
                                    exact hinv.step (i := 8) rfl (by omega) (by omega) (by omega) rfl
                                  | 9, _, hL, ho, hdep =>
                                    injection ho with ho; subst ho
                                    dsimp only
                                    rw [if_pos (by rfl)]
                                    refine ⟨fun f _ => trivial, ?_⟩
                                    have e115 : a2.tmps[115]?.getD undef = .pointer (some ⟨gb, 4, none⟩) := hinv.sl.new (i := 8) (by decide) rfl (hdep ⟨8, .data⟩ (by simp) rfl)
                                    obtain rfl := hinv.w0 (q11 (.inr (.inr hL)))
                                    go_simp
                                    exact hinv.step (i := 9) rfl (by omega) (by omega) (by omega) rfl
                                  | 10, _, hL, ho, hdep =>
                                    injection ho with ho; subst ho
                                    dsimp only
                                    rw [if_pos (by rfl)]
                                    refine ⟨fun f _ => trivial, ?_⟩
                                    have e112 : a2.tmps[112]?.getD undef = .string s := hinv.sl.new (i := 5) (by decide) rfl (hdep ⟨5, .data⟩ (by simp) rfl)
                                    have e114 : a2.tmps[114]?.getD undef = .agg #[.bool c.old.there, .string c.old.text, .bool c.old.runs] := hinv.sl.new (i := 7) (by decide) rfl (hdep ⟨7, .data⟩ (by simp) rfl)
                                    have e116 : a2.tmps[116]?.getD undef = .agg #[.bool d.new.there, .string d.new.text, .bool d.new.runs] := hinv.sl.new (i := 9) (by decide) rfl (hdep ⟨9, .data⟩ (by simp) rfl)
                                    go_simp
                                    exact hinv.step (i := 10) rfl (by omega) (by omega) (by omega) rfl
                                  | 11, _, hL, ho, hdep =>
                                    injection ho with ho; subst ho
                                    dsimp only
                                    rw [if_pos (by rfl)]
                                    refine ⟨fun f _ => trivial, ?_⟩
                                    have e117 : a2.tmps[117]?.getD undef = .agg #[.string s, .bool c.old.there, .string c.old.text, .bool c.old.runs, .bool d.new.there, .string d.new.text, .bool d.new.runs] := hinv.sl.new (i := 10) (by decide) rfl (hdep ⟨10, .data⟩ (by simp) rfl)
                                    obtain rfl := hinv.w0 (getD_ft hL)
                                    go_simp
                                    exact hinv.build rfl (q12 (.inl hL)) (q1414 hL) hL
                                  | 12, _, hL, ho, hdep =>
                                    injection ho with ho; subst ho
                                    dsimp only
                                    rw [if_pos (by rfl)]
                                    have h11 := hdep ⟨11, .data⟩ (by simp) rfl
                                    obtain ⟨hw, ex⟩ := hinv.w1 h11 (getD_ft hL)
                                    have ev := hinv.sl.sl 1 (by decide) _ rfl (hdep ⟨1, .data⟩ (by simp) rfl)
                                    obtain ⟨g3, cap3, w7, hr3, hown3, hgrow3, _, _⟩ := run_append_lies (P := Try.prog) (X.drew.alloc (.cells #[.string s, .bool c.old.there, .string c.old.text, .bool c.old.runs, .bool d.new.there, .string d.new.text, .bool d.new.runs] 68)) 28 28 W0.heap.size 68 i0 _ 7 80 Try.underlying28 hi hz0 hz1 hzb rfl (by decide) (.slice ad9 cs.length cp9) cs.length (ccells cs) (owns_below HST.out.row hb1') ⟨X.heap.size, 0, none⟩ 1 1 (chL ⟨s, c.old, d.new⟩) rfl (news_7 X.drew ⟨s, c.old, d.new⟩ _ _ rfl) (one_7 _) (by omega) (by unfold maxLen; omega) (by omega) (by simp; omega) (X.heap.size + 1) (by simp)
                                    subst hw
                                    exact wpIn_append _ _ _ rfl ev ex hr3 (hinv.app rfl h11 (q14 hL) hL hown3 hgrow3)
                                  | 13, _, hL, ho, hdep =>
                                    injection ho with ho; subst ho
                                    dsimp only
                                    rw [if_pos (by rfl)]
                                    refine ⟨fun f _ => trivial, ?_⟩
                                    have e9 : a2.tmps[9]?.getD undef = .pointer (some ⟨ob, 0, none⟩) := hinv.sl.old (by decide)
                                    go_simp
                                    exact hinv.step (i := 13) rfl (by omega) (by omega) (by omega) rfl
                                  | 14, _, hL, ho, hdep =>
                                    injection ho with ho; subst ho
                                    dsimp only
                                    rw [if_pos (by rfl)]
                                    refine ⟨fun f _ => trivial, ?_⟩
                                    have h12 := hdep ⟨12, .data⟩ (by simp) rfl
                                    obtain ⟨g3, cap3, ex, hown3, hgrow3⟩ := hinv.w2 h12 (getD_ft hL)
                                    have e119 := evalD2 ex
                                    have e120 : a2.tmps[120]?.getD undef = .pointer (some ⟨ob, 0, none⟩) := hinv.sl.new (i := 13) (by decide) rfl (hdep ⟨13, .data⟩ (by simp) rfl)
                                    obtain ⟨oc3, of3⟩ := HST.out.mid hb1' hgrow3
                                    go_simp
                                    exact hinv.last (q411 hL h12) h12 hL ⟨_, HST.out.append hb1' hgrow3 hown3⟩
                · obtain rfl : k = ns.length := by omega
                  rw [List.take_length] at hst HNC
                  have r2 := hst.keep k0 (by have := HS.out; have := HZ.out; omega) (by have := HS.out; have := HZ.out; omega)
                  have rf2 : wr.frozen? ⟨g, 0, none⟩ = false := frozen_of (hst.grown.block g (by have := HS.out; have := HZ.out; omega) (fun e => by have := HS.out; have := HZ.out; cases e; omega)) kf
                  obtain ⟨ad, cap2, rfl⟩ := owns_slice hst.row
                  have o2 := hst.cell
                  have hcl := cl_of_row hst.row
                  rw [HNS.out] at HNC hst hcl o2 ⊢
                  have HNC3 : Keep (∀ n ∈ joinNs ps qs, clJ ps qs n = false) := ⟨HNC.out⟩
                  by_cases hle : (joinN ps qs (joinNs ps qs)).length ≤ 200
                  · have hle' : ¬ (200 : Int) < (joinN ps qs (joinNs ps qs)).length := by omega
                    have HB : Keep (JoinPost ps qs w (.returned (.tuple #[.agg #[.slice ad (joinN ps qs (joinNs ps qs)).length cap2], .bool true])) (wr.setCell ⟨g, 0, none⟩ (.slice ad (joinN ps qs (joinNs ps qs)).length cap2))) := ⟨⟨_, true, .inr ⟨hv.1, hv.2, .inr ⟨HNC3.out, .inr ⟨hle, rfl, rfl⟩⟩⟩, ⟨ad, cap2, rfl, (hcl.grown (row := some g) (grown_set0 wr g 0 _) (fun j _ hj _ e => by have := HS.out; have := HZ.out; cases e; omega)).mono (show w.heap.size ≤ W0.heap.size by have := HS.out; have := HZ.out; omega)⟩, hbr.setCell (p := ⟨g, 0, none⟩) (by have := HS.out; show _ ≤ g; omega) _⟩⟩
                    clear hcl hst hbr HNC
                    generalize joinN ps qs (joinNs ps qs) = cs at *
                    go_wp2
                    refine bodyPost_ret (v := .tuple #[.agg #[.slice ad cs.length cap2], .bool true]) ?_ rfl HB.out
                    go_light
                    simp [results, Try.results17, go_sem, r2]
                  · have hle' : (200 : Int) < (joinN ps qs (joinNs ps qs)).length := by omega
                    have HB : Keep (JoinPost ps qs w (.returned (.tuple #[.agg #[.slice none ([] : List Ch).length 0], .bool false])) (wr.setCell ⟨g, 0, none⟩ (.slice none 0 0))) := ⟨⟨[], false, .inr ⟨hv.1, hv.2, .inr ⟨HNC3.out, .inl ⟨by omega, rfl, rfl⟩⟩⟩, ⟨none, 0, rfl, CL.nil _ _ _⟩, hbr.setCell (p := ⟨g, 0, none⟩) (by have := HS.out; show _ ≤ g; omega) _⟩⟩
                    clear hcl hst hbr HNC
                    generalize joinN ps qs (joinNs ps qs) = cs at *
                    go_wp2
                    refine bodyPost_ret (v := .tuple #[.agg #[.slice none ([] : List Ch).length 0], .bool false]) ?_ rfl HB.out
                    go_light
                    simp [results, Try.results17, go_sem, r2]
end Go.Proofs.Ytjlflmbifeocbaa

namespace Go.Proofs.Ytjlflmbifeocbaa
open Go.RowKit

theorem fnd_asc {p : List Ch} (hA : AscK Ch.path p) {c : Ch} (hc : c ∈ p) : fnd Ch.path p c.path = some c := by
  cases h : fnd Ch.path p c.path with
  | none =>
    unfold fnd at h
    rw [List.find?_eq_none] at h
    exact absurd (eqb_iff.2 rfl) (h c hc)
  | some d =>
    obtain ⟨hd1, hd2⟩ := fnd_some h
    obtain ⟨i, hi, rfl⟩ := List.getElem_of_mem hd1
    obtain ⟨j, hj, rfl⟩ := List.getElem_of_mem hc
    rcases Nat.lt_trichotomy i j with h' | h' | h'
    · exact absurd hd2 (less_ne (List.pairwise_iff_getElem.1 hA i j hi hj h'))
    · subst h'; rfl
    · exact absurd hd2.symm (less_ne (List.pairwise_iff_getElem.1 hA j i hj hi h'))
theorem fnd_noC {p : List Ch} {n : ByteArray} (h : fnd Ch.path p n = none) : ∀ c ∈ p, c.path ≠ n := fun c hc e => by
  unfold fnd at h
  rw [List.find?_eq_none] at h
  exact h c hc (eqb_iff.2 e)
theorem vp_ok {p : List Ch} (h : ValidP p) {c : Ch} (hc : c ∈ p) : chOk c = true := by
  obtain ⟨i, hi, rfl⟩ := List.getElem_of_mem hc
  obtain ⟨_, h1, _⟩ := h.2 i hi
  exact h1
theorem fl_off {f : Fl} (h : flOk f = true) (h0 : f.there = false) : f = noFl := by
  obtain ⟨f1, f2, f3⟩ := f
  simp only [flOk, Bool.and_eq_true, Bool.or_eq_true, decide_eq_true_eq, Bool.not_eq_true'] at h
  have h1 : f1 = false := h0
  subst h1
  rcases h.2 with h2 | ⟨h2, h3⟩
  · cases h2
  · have h4 : f2 = ⟨#[]⟩ := WideShapes.bytes_inj (by rw [← Lib.toList_data, List.isEmpty_iff.1 h2])
    have h5 : f3 = false := h3
    subst h4 h5
    rfl
/-- What lies under a path behind a patch. -/
theorem app_at {t : List En} {p : List Ch} {x : List En} (ht : Asc t) (hp : ValidP p) (h : AppRel t p x) (n : ByteArray) : atL x n = ((fnd Ch.path p n).map Ch.new).getD (atL t n) := by
  have hA := vp_asc hp
  cases hf : fnd Ch.path p n with
  | some c =>
    obtain ⟨hc, rfl⟩ := fnd_some hf
    show atL x c.path = c.new
    cases hth : c.new.there with
    | true =>
      have h1 : (⟨c.path, c.new.text, c.new.runs⟩ : En) ∈ x := (h.mem _).2 (.inl ⟨c, hc, hth, rfl⟩)
      have h2 := at_mem h.asc h1
      have h3 : atL x c.path = ⟨true, c.new.text, c.new.runs⟩ := h2
      rw [h3, ← hth]
    | false =>
      have h4 := vp_ok hp hc
      simp only [chOk, Bool.and_eq_true] at h4
      rw [fl_off h4.1.2 hth]
      rcases at_cases x c.path with ⟨h1, _⟩ | ⟨e, h1, h2, _⟩
      · exact h1
      · exfalso
        rcases (h.mem e).1 h1 with ⟨c', hc', h5, rfl⟩ | ⟨_, h5⟩
        · have h6 := fnd_asc hA hc'
          have h7 : c'.path = c.path := h2
          rw [h7, hf] at h6
          cases h6
          rw [hth] at h5
          cases h5
        · exact h5 c hc h2.symm
  | none =>
    show atL x n = atL t n
    have hno := fnd_noC hf
    rcases at_cases x n with ⟨h1, h2⟩ | ⟨e, h1, rfl, h3⟩
    · rcases at_cases t n with ⟨h4, _⟩ | ⟨e, h4, rfl, _⟩
      · rw [h1, h4]
      · exact absurd rfl (h2 e ((h.mem e).2 (.inr ⟨h4, fun c hc => hno c hc⟩)))
    · rcases (h.mem e).1 h1 with ⟨c, hc, _, rfl⟩ | ⟨h4, _⟩
      · exact absurd rfl (hno c hc)
      · rw [h3, at_mem ht h4]
/-- Joined they are the patch between the ends. -/
theorem join_two {t x y : List En} {p q j : List Ch} (h1 : ApplyRel t p x 0) (h2 : ApplyRel x q y 0) (hj : JoinRel p q j true) : ValidTs t ∧ ValidTs y ∧ j = diffL t y := by
  rcases h1 with ⟨_, _, h⟩ | ⟨vt, vp, ⟨_, _, h⟩ | ⟨op, x', ax, ⟨_, _, h⟩ | ⟨vx, rfl, _⟩⟩⟩
  · cases h
  · cases h
  · cases h
  rcases h2 with ⟨_, _, h⟩ | ⟨_, vq, ⟨_, _, h⟩ | ⟨oq, y', ay, ⟨_, _, h⟩ | ⟨vy, rfl, _⟩⟩⟩
  · cases h
  · cases h
  · cases h
  refine ⟨vt, vy, ?_⟩
  rcases hj with ⟨_, _, h⟩ | ⟨_, _, ⟨_, _, h⟩ | ⟨_, ⟨_, _, h⟩ | ⟨_, rfl, _⟩⟩⟩
  · cases h
  · cases h
  · cases h
  have tx := app_at (valid_asc vt) vp ax
  have ty := app_at (valid_asc vx) vq ay
  have hout : ∀ n ∈ joinNs p q, outJ p q n = if sameF (atL t n) (atL y n) = true then [] else [diffC t y n] := by
    intro n hn
    have e1 := tx n
    have e2 := ty n
    unfold outJ
    cases hp : fnd Ch.path p n with
    | none =>
      rw [hp] at e1
      have e1' : atL x n = atL t n := e1
      cases hq : fnd Ch.path q n with
      | none =>
        exfalso
        rcases ((joinNs_mem p q).2 n).1 hn with ⟨c, hc, e⟩ | ⟨c, hc, e⟩
        · exact fnd_noC hp c hc e
        · exact fnd_noC hq c hc e
      | some d =>
        rw [hq] at e2
        have e2' : atL y n = d.new := e2
        obtain ⟨hd, rfl⟩ := fnd_some hq
        have h3 := sameF_iff.1 (oq d hd)
        have h4 := vp_ok vq hd
        simp only [chOk, Bool.and_eq_true, Bool.not_eq_true'] at h4
        have h5 : d.old = atL t d.path := by rw [← h3, e1']
        rw [e2', ← h5, h4.2]
        show [d] = [(⟨d.path, atL t d.path, atL y d.path⟩ : Ch)]
        rw [e2', ← h5]
    | some c =>
      rw [hp] at e1
      have e1' : atL x n = c.new := e1
      obtain ⟨hc, rfl⟩ := fnd_some hp
      have h3 := sameF_iff.1 (op c hc)
      cases hq : fnd Ch.path q c.path with
      | none =>
        rw [hq] at e2
        have e2' : atL y c.path = atL x c.path := e2
        have h4 := vp_ok vp hc
        simp only [chOk, Bool.and_eq_true, Bool.not_eq_true'] at h4
        rw [e2', e1', h3, h4.2]
        show [c] = [(⟨c.path, atL t c.path, atL y c.path⟩ : Ch)]
        rw [e2', e1', h3]
      | some d =>
        rw [hq] at e2
        have e2' : atL y c.path = d.new := e2
        rw [e2', h3]
        show (if sameF c.old d.new = true then [] else [(⟨c.path, c.old, d.new⟩ : Ch)]) = if sameF c.old d.new = true then [] else [(⟨c.path, atL t c.path, atL y c.path⟩ : Ch)]
        rw [e2', h3]
  have h1 : joinN p q (joinNs p q) = diffN t y (joinNs p q) := by
    unfold joinN diffN
    rw [List.flatMap_def, List.flatMap_def, List.map_congr_left hout]
  rw [h1]
  refine diffNs_unique (joinNs_mem _ _).1 (paths_mem t y).1 fun n hn => ?_
  constructor
  · exact fun _ => ((paths_mem t y).2 n).2 (paths_differ hn)
  · intro _
    rw [(joinNs_mem p q).2]
    cases hp : fnd Ch.path p n with
    | some c => exact .inl ⟨c, (fnd_some hp).1, (fnd_some hp).2⟩
    | none =>
      cases hq : fnd Ch.path q n with
      | some d => exact .inr ⟨d, (fnd_some hq).1, (fnd_some hq).2⟩
      | none =>
        exfalso
        have e1 := tx n
        have e2 := ty n
        rw [hp] at e1
        rw [hq] at e2
        have e3 : atL y n = atL t n := e2.trans e1
        rw [e3, sameF_iff.2 rfl] at hn
        cases hn
theorem join_apply {t x y : List En} {p q j : List Ch} (h1 : ApplyRel t p x 0) (h2 : ApplyRel x q y 0) (hj : JoinRel p q j true) : ApplyRel t j y 0 := by
  obtain ⟨vt, vy, rfl⟩ := join_two h1 h2 hj
  exact diff_apply vt vy
end Go.Proofs.Ytjlflmbifeocbaa

namespace Go.Proofs.Ytjlflmbifeocbaa
open Go.RowKit

/-- A patch in a box. -/
structure PBj (b : Nat) (ad : Option Addr) (cp : Nat) (cs : List Ch) (W : World) : Prop where
  c : W.cell? ⟨b, 0, none⟩ = some (.slice ad cs.length cp)
  cs : CS W ad cs
theorem PBj.later {b : Nat} {ad : Option Addr} {cp : Nat} {cs : List Ch} {W W' : World} (h : PBj b ad cp cs W) (hb : Below W.heap.size W W') : PBj b ad cp cs W' := ⟨cell_later hb h.c, h.cs.below hb⟩
theorem PBj.new {ad : Option Addr} {cp : Nat} {cs : List Ch} {W : World} (h : CS W ad cs) : PBj W.heap.size ad cp cs (W.alloc (.cells #[.slice ad cs.length cp] 30)) := ⟨by simp, h.below (below_oneD _ _)⟩
theorem kqJ {w A B : World} (h : Below w.heap.size w A) (h2 : Below A.heap.size A B) : Below w.heap.size w B := h.trans (h2.mono h.size)
theorem join_fewN {p q js : List Ch} {ok : Bool} {N : Nat} (h : JoinRel p q js ok) (hp : ∀ c ∈ p, c.path.size ≤ N) (hq : ∀ c ∈ q, c.path.size ≤ N) : js.length ≤ 200 ∧ ∀ c ∈ js, c.path.size ≤ N := by
  have hno : ([] : List Ch).length ≤ 200 ∧ ∀ c ∈ ([] : List Ch), c.path.size ≤ N := ⟨Nat.zero_le _, fun c hc => (by cases hc)⟩
  rcases h with ⟨_, rfl, _⟩ | ⟨_, _, ⟨_, rfl, _⟩ | ⟨_, ⟨_, rfl, _⟩ | ⟨h1, rfl, _⟩⟩⟩
  · exact hno
  · exact hno
  · exact hno
  · refine ⟨h1, fun c hc => ?_⟩
    unfold joinN at hc
    obtain ⟨n, hn, hc⟩ := List.mem_flatMap.1 hc
    have hnN : n.size ≤ N := by
      rcases ((joinNs_mem p q).2 n).1 hn with ⟨x, hx, rfl⟩ | ⟨x, hx, rfl⟩
      · exact hp x hx
      · exact hq x hx
    unfold outJ outJ2 at hc
    split at hc
    · rename_i hy
      cases hf : fnd Ch.path q n with
      | none =>
        rw [hf] at hc
        rw [List.mem_singleton.1 hc]
        exact Nat.zero_le _
      | some y =>
        rw [hf] at hc
        rw [List.mem_singleton.1 hc]
        exact hq y (List.mem_of_find?_eq_some hf)
    · rename_i x hx hy
      rw [List.mem_singleton.1 hc]
      exact hp x (List.mem_of_find?_eq_some hx)
    · split at hc
      · cases hc
      · rw [List.mem_singleton.1 hc]
        exact hnN

set_option maxRecDepth 100000 in
set_option maxHeartbeats 16000000 in
theorem join_walk (a : Option Addr) (cap : Nat) (zs : List Int) (w : World) (hc : Code0 w a cap zs) :
    Calls Try.prog 4 #[.slice a zs.length cap] w fun e w' => e = .returned (.bool true) ∧ Below w.heap.size w w' := by
  by_cases hbig : (1048576 : Int) < zs.length
  · go_enter Try.func4, Try.ntmps4
    go_wp2
    go_ret
    exact ⟨rfl, Below.refl _ _⟩
  go_enter Try.func4, Try.ntmps4
  go_wp2_with fail
  refine (drawJoin_any a cap zs w hc).mono ?_
  rintro e w1 ⟨⟨adp, cpp, ps⟩, ⟨adq, cpq, qs⟩, rfl, hcp, hcq, qp, qq, rmp, rmq, hb1⟩
  dsimp only at hcp hcq rmp rmq ⊢
  have ba1 : Below w1.heap.size w1 ((w1.alloc (.cells #[.slice adp ps.length cpp] 30)).alloc (.cells #[.slice adq qs.length cpq] 30)) := (below_oneD _ _).trans ((below_oneD _ _).mono (by simp))
  have P3 : PBj w1.heap.size adp cpp ps ((w1.alloc (.cells #[.slice adp ps.length cpp] 30)).alloc (.cells #[.slice adq qs.length cpq] 30)) := ⟨by simp [go_sem], hcp.below ba1⟩
  have P4 : PBj (w1.heap.size + 1) adq cpq qs ((w1.alloc (.cells #[.slice adp ps.length cpp] 30)).alloc (.cells #[.slice adq qs.length cpq] 30)) := ⟨by simp [go_sem], hcq.below ba1⟩
  have hbw : Below w.heap.size w ((w1.alloc (.cells #[.slice adp ps.length cpp] 30)).alloc (.cells #[.slice adq qs.length cpq] 30)) := kqJ hb1 ba1
  have hlp : ps.length ≤ 310 := qp.1
  have hlq : qs.length ≤ 310 := qq.1
  have HZ : Keep (TinyC 1100 10000 ps ∧ TinyC 1100 10000 qs) := ⟨⟨qp.2, qq.2⟩⟩
  clear hcp hcq qp qq hb1 ba1
  go_upto_region 4 with fail
  generalize (w1.alloc (.cells #[.slice adp ps.length cpp] 30)).alloc (.cells #[.slice adq qs.length cpq] 30) = w2 at *
  generalize w1.heap.size + 1 = b4 at *
  generalize w1.heap.size = b3 at *
  go_wp2_with fail
  refine (drawApply_any a cap zs w2 (code_laterJ hc hbw)).mono ?_
  rintro e w3 ⟨⟨adt, cpt, ts⟩, ⟨ad6, cp6, cs6⟩, rfl, het, hc6, qt, hNil, rmt, _, hb3⟩
  dsimp only at het hc6 hNil rmt ⊢
  have ba3 : Below w3.heap.size w3 ((w3.alloc (.cells #[.slice adt ts.length cpt] 25)).alloc (.cells #[.slice ad6 cs6.length cp6] 30)) := (below_oneD _ _).trans ((below_oneD _ _).mono (by simp))
  have X5 : TBx w3.heap.size adt cpt ts ((w3.alloc (.cells #[.slice adt ts.length cpt] 25)).alloc (.cells #[.slice ad6 cs6.length cp6] 30)) := ⟨by simp [go_sem], het.below ba3⟩
  replace P3 := (P3.later hb3).later ba3
  replace P4 := (P4.later hb3).later ba3
  replace hbw := kqJ (kqJ hbw hb3) ba3
  have hlt : ts.length ≤ 300 := qt.1
  have HT : Keep (Tiny 1000 20000 ts) := ⟨qt.2⟩
  have HN : Keep (NilOk adt cpt) := ⟨hNil⟩
  clear het hc6 qt hNil hb3 ba3
  go_upto_region 5 with fail
  generalize (w3.alloc (.cells #[.slice adt ts.length cpt] 25)).alloc (.cells #[.slice ad6 cs6.length cp6] 30) = w4 at *
  generalize w3.heap.size + 1 = b6 at *
  generalize w3.heap.size = b5 at *
  have x3 := P3.c
  have x4 := P4.c
  have hm := implJoinC_any adp adq cpp cpq ps qs w4 P3.cs P4.cs (by omega) (by omega) rmp rmq (fun c hc => by have := (HZ.out.1 c hc).1; omega) (fun c hc => by have := (HZ.out.2 c hc).1; omega)
  go_wp2_with fail
  refine hm.mono ?_
  rintro e w5 ⟨js, ok, hJ, ⟨adj, cpj, rfl, hclj, hrj⟩, hb⟩
  have ba := below_oneD w5 (.cells #[.slice adj js.length cpj] 30)
  have P7 : PBj w5.heap.size adj cpj js (w5.alloc (.cells #[.slice adj js.length cpj] 30)) := PBj.new hclj.cs
  replace P3 := (P3.later hb).later ba
  replace P4 := (P4.later hb).later ba
  replace X5 := (X5.later hb).later ba
  replace hbw := kqJ (kqJ hbw hb) ba
  have hfj := (join_fewN (N := 1100) hJ (fun c hc => (HZ.out.1 c hc).1) (fun c hc => (HZ.out.2 c hc).1)).1
  have HJ : Keep (JoinRel ps qs js ok ∧ ∀ c ∈ js, c.path.size ≤ 1100) := ⟨⟨hJ, (join_fewN (N := 1100) hJ (fun c hc => (HZ.out.1 c hc).1) (fun c hc => (HZ.out.2 c hc).1)).2⟩⟩
  clear hm x3 x4 hclj hb ba hJ
  go_upto_region 6 with fail
  generalize w5.alloc (.cells #[.slice adj js.length cpj] 30) = w6 at *
  generalize w5.heap.size = b7 at *
  have x3 := P3.c
  have x4 := P4.c
  have hm := specJoin_any adp adq cpp cpq ps qs w6 P3.cs P4.cs (by omega) (by omega)
  go_wp2_with fail
  refine hm.mono ?_
  rintro e w7 ⟨js', ok', hJ', ⟨adk, cpk, rfl, hclk⟩, hb⟩
  obtain ⟨rfl, rfl⟩ := join_one HJ.out.1 hJ'
  have ba := below_oneD w7 (.cells #[.slice adk js.length cpk] 30)
  have P9 : PBj w7.heap.size adk cpk js (w7.alloc (.cells #[.slice adk js.length cpk] 30)) := PBj.new hclk.cs
  replace P3 := (P3.later hb).later ba
  replace P4 := (P4.later hb).later ba
  replace X5 := (X5.later hb).later ba
  replace P7 := (P7.later hb).later ba
  replace hbw := kqJ (kqJ hbw hb) ba
  clear hm x3 x4 hclk hb ba hJ'
  go_upto_region 7 with fail
  generalize w7.alloc (.cells #[.slice adk js.length cpk] 30) = w8 at *
  generalize w7.heap.size = b9 at *
  have x7 := P7.c
  have x9 := P9.c
  have hm := wPatch_any adj adk cpj cpk js w8 P7.cs P9.cs (by omega)
  have hok : (ok != ok) = false := by simp
  go_wp2_with fail
  refine hm.mono ?_
  rintro e w9 ⟨rfl, hb⟩
  replace P3 := P3.later hb
  replace P4 := P4.later hb
  replace X5 := X5.later hb
  replace P7 := P7.later hb
  replace hbw := kqJ hbw hb
  clear hm x7 x9 P9 hb hok
  go_upto_region 9 with fail
  have x5 := X5.c
  have x3 := P3.c
  have hm := implApplyC_any adt adp cpt cpp ts ps w9 X5.es P3.cs (by omega) (by omega) rmt rmp (fun c hc => by have := (HT.out c hc).1; omega) (fun c hc => by have := (HZ.out.1 c hc).1; omega)
  go_wp2_with fail
  refine hm.mono ?_
  rintro e w10 ⟨xs, c, hA1, ⟨adx, cpx, rfl, helx, hrx⟩, hb⟩
  unfold TreeV
  have ba := below_oneD w10 (.cells #[.slice adx xs.length cpx] 25)
  have X11 : TBx w10.heap.size adx cpx xs (w10.alloc (.cells #[.slice adx xs.length cpx] 25)) := ⟨by simp, helx.es.below ba⟩
  replace P3 := (P3.later hb).later ba
  replace P4 := (P4.later hb).later ba
  replace X5 := (X5.later hb).later ba
  replace P7 := (P7.later hb).later ba
  replace hbw := kqJ (kqJ hbw hb) ba
  have hat := apply_tiny (P := 1100) (T := 20000) hA1 (HT.out.wide (by omega) (by omega)) (HZ.out.1.wide (by omega) (by omega))
  have hlx := hat.2
  have HA1 : Keep (ApplyRel ts ps xs c ∧ Tiny 1100 1500 xs) := ⟨⟨hA1, hat.1⟩⟩
  clear hm x5 x3 helx hb ba hA1 hat
  go_upto_region 10 with fail
  generalize w10.alloc (.cells #[.slice adx xs.length cpx] 25) = w11 at *
  generalize w10.heap.size = b11 at *
  have x11 := X11.c
  have x4 := P4.c
  have hm := implApplyC_any adx adq cpx cpq xs qs w11 X11.es P4.cs (by omega) (by omega) hrx rmq (fun c hc => by have := (HA1.out.2 c hc).1; omega) (fun c hc => by have := (HZ.out.2 c hc).1; omega)
  go_wp2_with fail
  refine hm.mono ?_
  rintro e w12 ⟨ys, d, hA2, ⟨ady, cpy, rfl, hely, hry⟩, hb⟩
  unfold TreeV
  have ba := below_oneD w12 (.cells #[.slice ady ys.length cpy] 25)
  have X13 : TBx w12.heap.size ady cpy ys (w12.alloc (.cells #[.slice ady ys.length cpy] 25)) := ⟨by simp, hely.es.below ba⟩
  replace P3 := (P3.later hb).later ba
  replace X5 := (X5.later hb).later ba
  replace P7 := (P7.later hb).later ba
  replace hbw := kqJ (kqJ hbw hb) ba
  have hly := (apply_tiny (P := 1100) (T := 20000) hA2 (HA1.out.2.wide (by omega) (by omega)) (HZ.out.2.wide (by omega) (by omega))).2
  have HA2 : Keep (ApplyRel xs qs ys d) := ⟨hA2⟩
  clear hm x11 x4 hely hb ba hA2 P4 X11
  go_upto_region 11 with fail
  generalize w12.alloc (.cells #[.slice ady ys.length cpy] 25) = w13 at *
  generalize w12.heap.size = b13 at *
  have x5 := X5.c
  have x3 := P3.c
  by_cases c0 : c = 0
  · by_cases d0 : d = 0
    · subst c0
      subst d0
      have x7 := P7.c
      have hm := implApplyC_any adt adj cpt cpj ts js w13 X5.es P7.cs (by omega) (by omega) rmt hrj (fun c hc => by have := (HT.out c hc).1; omega) (fun c hc => by have := HJ.out.2 c hc; omega)
      go_wp2_with fail
      refine hm.mono ?_
      rintro e w14 ⟨vs, c', hA3, ⟨adz, cpz, rfl, helz, _⟩, hb⟩
      unfold TreeV
      have ba := below_oneD w14 (.cells #[.slice adz vs.length cpz] 25)
      have X15 : TBx w14.heap.size adz cpz vs (w14.alloc (.cells #[.slice adz vs.length cpz] 25)) := ⟨by simp, helz.es.below ba⟩
      replace X13 := (X13.later hb).later ba
      replace hbw := kqJ (kqJ hbw hb) ba
      have HA3 : Keep (ApplyRel ts js vs c') := ⟨hA3⟩
      clear hm x5 x3 x7 helz hb ba hA3 P3 X5 P7
      go_upto_region 14 with fail
      generalize w14.alloc (.cells #[.slice adz vs.length cpz] 25) = w15 at *
      generalize w14.heap.size = b15 at *
      cases ok with
      | false =>
        go_wp2
        go_ret
        exact ⟨rfl, hbw⟩
      | true =>
        obtain ⟨rfl, rfl⟩ := apply_one (join_apply HA1.out.1 HA2.out HJ.out.1) HA3.out
        have x15 := X15.c
        have x13 := X13.c
        have hm := wTree_any adz ady cpz cpy ys w15 X15.es X13.es (by omega)
        go_wp2_with fail
        refine hm.mono ?_
        rintro e w16 ⟨rfl, hb⟩
        replace hbw := kqJ hbw hb
        clear hm hb x15 x13
        go_wp2
        go_ret
        exact ⟨rfl, hbw⟩
    · subst c0
      have hd1 : (d == 0) = false := by simpa using d0
      have hd2 : (d != 0) = true := by simpa using d0
      have hm := wCode_any adt adp cpt cpp ts ps w13 X5.es P3.cs (by omega) (by omega) HN.out
      go_wp2_with fail
      refine hm.mono ?_
      rintro e w14 ⟨us', c', hA', rfl, hb⟩
      obtain ⟨_, rfl⟩ := apply_one HA1.out.1 hA'
      replace hbw := kqJ hbw hb
      clear hm hb hA'
      go_wp2
      go_ret
      exact ⟨by simp, hbw⟩
  · have hc1 : (c == 0) = false := by simpa using c0
    have hc2 : (c != 0) = true := by simpa using c0
    have hm := wCode_any adt adp cpt cpp ts ps w13 X5.es P3.cs (by omega) (by omega) HN.out
    go_wp2_with fail
    refine hm.mono ?_
    rintro e w14 ⟨us', c', hA', rfl, hb⟩
    obtain ⟨_, rfl⟩ := apply_one HA1.out.1 hA'
    replace hbw := kqJ hbw hb
    clear hm hb hA'
    go_wp2
    go_ret
    exact ⟨by simp, hbw⟩
end Go.Proofs.Ytjlflmbifeocbaa

namespace Go.Proofs.Ytjlflmbifeocbaa.fnJoin
open Go.ChangeShapes Go.WideShapes Go.ChangeAt Go.RowKit
set_option linter.unusedVariables false

theorem own : ownKnob Try.prog.godebug = none := by kernel_rfl
theorem laidOut : laidOutB Try.prog = true := by kernel_rfl

theorem open_code {H : Type} {enc : TypeId × Value → H} {W : World} {a : Option Addr} {len cap : Nat} {d : DataW H} {p : List MemPlace} (h : DataW.Trod enc Try.prog W 0 (fun _ => true) true 22 (.slice a len cap) d p) :
    ∃ zs : List Int, len = zs.length ∧ Code0 W a cap zs := by
  obtain ⟨fuel, hf⟩ := h
  rcases open_ints Try.underlying22 Try.underlying5 (by kernel_rfl) hf with ⟨hcs, _⟩ | ⟨x, l, c, zs, hcs, _, hl, hm, hz, _, hcell, hwz⟩
  · simp [Value.cells] at hcs
    obtain ⟨rfl, rfl, rfl⟩ := hcs
    exact ⟨[], rfl, .inl rfl, Nat.zero_le _, Nat.zero_le _, fun z hz => by simp at hz⟩
  · simp [Value.cells] at hcs
    obtain ⟨rfl, rfl, rfl⟩ := hcs
    have hz' : zs.length = cap := by simpa using hz
    refine ⟨zs.take len, by simp; omega, ?_, by simp; omega, hm, fun z hz => ?_⟩
    · by_cases h0 : len = 0
      · left; simp [h0]
      · right
        obtain ⟨b, off, rfl, hc⟩ := ints_at hcell (by omega)
        refine ⟨b, off, rfl, ?_, fun i hi => ?_⟩
        · have h1 := hc 0 (by omega)
          unfold World.cell? at h1
          cases hh : W.heap[b]? with
          | none => simp [hh] at h1
          | some o => exact (Array.getElem?_eq_some_iff.1 hh).1
        · have hi' : i < zs.length := by simp at hi; omega
          rw [hc i hi']
          simp [List.getD, hi']
    · have := bounds_u8 (hwz z (List.mem_of_mem_take hz))
      omega

set_option maxRecDepth 100000 in
theorem lifted (os : Os) (started : os.Started) (H : Type) (enc : TypeId × Value → H) :
    ReturnsInHanded {} Try.checked os 4 .any (Rows.fnJoinSpec.pre6 enc Try.prog Try.f4 Rows.fnJoinRow.domain false) (Rows.fnJoinSpec.post enc Try.prog Try.f4 false true false false) := by
  refine returnsInHanded_of_change (C := Try.checked) own started (by kernel_rfl) Try.func4
    (ChangeSpec.witness6 (enc := enc) (C := Try.checked) false ⟨#[], #[.slice none 0 0], []⟩ 8 (by kernel_rfl) (by kernel_rfl) (by kernel_rfl) (by kernel_rfl)) ?_
  intro W base args ds gs before hval0 hW hcnd _
  have hval : ∀ (j : Nat) t v, Try.f4.params[j]? = some t → args[j]? = some v → Value.okWide Try.prog W .any base t v := hval0
  have hW' := hW
  obtain ⟨p, q, hA0, hV, rfl, hfz, hnd⟩ := hW
  have hA : DataW.TrodAll enc Try.prog W 0 (fun _ => true) true Try.f4.params.toList args.toList ds p := hA0
  rw [Try.params4] at hA hval
  obtain ⟨v0, vs0, d0, ds0, p0, q0, hargs, rfl, rfl, h0, r0⟩ := trodAll_cons hA
  obtain ⟨rfl, rfl, rfl⟩ := trodAll_nil r0
  obtain rfl : args = #[v0] := by cases args; simp_all
  obtain ⟨rfl, rfl⟩ := trodVars_none hV
  obtain ⟨a0, len0, cap0, rfl⟩ := okWide_slice Try.underlying22 (hval 0 22 v0 rfl rfl)
  have k0 := h0
  have lt0 : ∀ x ∈ p0, x.block < W.heap.size := by obtain ⟨m, hm⟩ := k0; exact DataW.trod_lt m _ _ _ hm
  obtain ⟨zs, rfl, hc⟩ := open_code h0
  clear hA0 hval0
  refine (join_walk a0 cap0 zs W hc).mono fun e W' ⟨he, bel⟩ => ?_
  subst he
  exact ⟨_, rfl, _, _, _, [], _, [], hW', trodAll_mk1 (shut_bool Try.underlying4 _), (trodAll_cons_mk (Below.trod laidOut (by kernel_rfl) (of_decide_eq_true (by kernel_rfl)) k0 bel lt0) trodAll_mk0), rfl, bel.frame _, fun h => by cases h⟩

theorem over : Rows.fnJoinRow.holds Try.pinned (OpenSpec.ofChange Rows.fnJoinSpec) :=
  OpenClaim.holds_of_wide 4 Try.f4 rfl rfl rfl rfl rfl rfl rfl ⟨rfl, rfl, rfl, rfl, rfl⟩ rfl rfl rfl rfl rfl (by kernel_rfl) Try.func4 (by kernel_rfl)
    (of_decide_eq_true (by kernel_rfl)) (by unfold Func.isWrapper; first | (rw [if_pos (by decide +kernel)]; kernel_rfl) | (rw [if_neg (by decide +kernel)]; exact ⟨rfl, rfl⟩))
    (fun os started H enc _ => lifted os started H enc)

theorem proved : Rows.FnJoinSaid := over
end Go.Proofs.Ytjlflmbifeocbaa.fnJoin
