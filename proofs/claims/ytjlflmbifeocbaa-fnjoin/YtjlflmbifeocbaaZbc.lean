/-
  JoinI, PthE, FrontEC, CutE, SideEC, RegV, RegW, FileE, AtS, FilP, AppP, EBx, ImplTree: laid as one text.
-/
import Derived.Test.YtjlflmbifeocbaaRowR
import Derived.Test.YtjlflmbifeocbaaZbb
import Derived.Test.YtjlflmbifeocbaaEntL
import Derived.Test.YtjlflmbifeocbaaSplitP
import Derived.Test.YtjlflmbifeocbaaLaterQ
import Derived.Test.YtjlflmbifeocbaaMrgP
import Derived.Test.YtjlflmbifeocbaaPthC
import Derived.Deep.RegionWith
import Derived.Below
import Derived.RangeFuncNested
import Derived.RangeFuncBound
import Derived.RangeFuncCalls
import Derived.RangeFuncLeaves
import Derived.Shelf.Abstract
import Derived.Shelf.RegionOpen
import Derived.WalkKit
import Derived.OwnWalkIn
import Derived.TacticsInMore
import Derived.LoopNIn
import Derived.LoopIn
import Derived.Sort.CutIn
import Derived.Test.YtjlflmbifeocbaaZba
import Derived.OrdersIn
import Derived.Test.YtjlflmbifeocbaaChangesB
import Derived.Test.YtjlflmbifeocbaaTreeU
import Derived.Test.YtjlflmbifeocbaaSetP
import Derived.Test.YtjlflmbifeocbaaOutL
namespace Go.Proofs.Ytjlflmbifeocbaa
open Go.RowKit Go.Shelf

attribute [local go_sem] Oper.semAt_some

def JnI (wl : World) (ob : Nat) (pre : List PC) (W : World) : Prop :=
  (∀ x ∈ pre, clJ2 x.2.1 x.2.2 = false) ∧ ∃ Wz v, Wz.heap.size = wl.heap.size + 2 ∧ Below wl.heap.size wl Wz ∧ OutCh ob Wz v (outsJ pre) W
def JnX (w : World) (g h : Nat) (pre : List PC) (W : World) : Prop :=
  (∃ x ∈ pre, clJ2 x.2.1 x.2.2 = true) ∧ Below w.heap.size w W ∧ W.cell? ⟨g, 0, none⟩ = some (.slice none 0 0) ∧ W.cell? ⟨h, 0, none⟩ = some (.bool false)

/-- What Join gives, its room besides. -/
def JoinPostC (p q : List Ch) (w : World) (e : Ending) (w' : World) : Prop :=
  ∃ cs ok, JoinRel p q cs ok ∧ (∃ ad cap, e = .returned (.tuple #[.agg #[.slice ad cs.length cap], .bool ok]) ∧ CL w.heap.size w' ad cs ∧ cs.length ≤ cap) ∧ Below w.heap.size w w'

set_option maxRecDepth 100000 in
set_option maxHeartbeats 40000000 in
theorem implJoinC_any (a b : Option Addr) (ca cb : Nat) (ps qs : List Ch) (w : World) (hps : CS w a ps) (hqs : CS w b qs) (hn : ps.length ≤ 1048576) (hnb : qs.length ≤ 1048576) (hca : ps.length ≤ ca) (hcb : qs.length ≤ cb) (hz : ∀ c ∈ ps, c.path.size ≤ 1048576) (hzb : ∀ c ∈ qs, c.path.size ≤ 1048576) :
    Calls Try.prog 13 #[.agg #[.slice a ps.length ca], .agg #[.slice b qs.length cb]] w fun e w' => JoinPostC ps qs w e w' := by
  have hal : Below w.heap.size w ((((w.alloc (.cells #[.slice a ps.length ca] 30)).alloc (.cells #[.slice b qs.length cb] 30)).alloc (.cells #[.slice none 0 0] 30)).alloc (.cells #[.bool false] 4)) := ((((Below.refl _ _).alloc (Nat.le_refl _) _).alloc (by simp) _).alloc (by simp; omega) _).alloc (by simp; omega) _
  have m0 : ((((w.alloc (.cells #[.slice a ps.length ca] 30)).alloc (.cells #[.slice b qs.length cb] 30)).alloc (.cells #[.slice none 0 0] 30)).alloc (.cells #[.bool false] 4)).cell? ⟨w.heap.size, 0, none⟩ = some (.slice a ps.length ca) := by simp [go_sem]
  have m1 : ((((w.alloc (.cells #[.slice a ps.length ca] 30)).alloc (.cells #[.slice b qs.length cb] 30)).alloc (.cells #[.slice none 0 0] 30)).alloc (.cells #[.bool false] 4)).cell? ⟨w.heap.size + 1, 0, none⟩ = some (.slice b qs.length cb) := by simp [go_sem]
  have k0 : ((((w.alloc (.cells #[.slice a ps.length ca] 30)).alloc (.cells #[.slice b qs.length cb] 30)).alloc (.cells #[.slice none 0 0] 30)).alloc (.cells #[.bool false] 4)).cell? ⟨w.heap.size + 1 + 1, 0, none⟩ = some (.slice none 0 0) := by simp [go_sem]
  have kf : ((((w.alloc (.cells #[.slice a ps.length ca] 30)).alloc (.cells #[.slice b qs.length cb] 30)).alloc (.cells #[.slice none 0 0] 30)).alloc (.cells #[.bool false] 4)).frozen? ⟨w.heap.size + 1 + 1, 0, none⟩ = false := by simp [go_sem]
  have h0 : ((((w.alloc (.cells #[.slice a ps.length ca] 30)).alloc (.cells #[.slice b qs.length cb] 30)).alloc (.cells #[.slice none 0 0] 30)).alloc (.cells #[.bool false] 4)).cell? ⟨w.heap.size + 1 + 1 + 1, 0, none⟩ = some (.bool false) := by simp [go_sem]
  have hf : ((((w.alloc (.cells #[.slice a ps.length ca] 30)).alloc (.cells #[.slice b qs.length cb] 30)).alloc (.cells #[.slice none 0 0] 30)).alloc (.cells #[.bool false] 4)).frozen? ⟨w.heap.size + 1 + 1 + 1, 0, none⟩ = false := by simp [go_sem]
  have os0 : w.heap.size + 1 + 1 + 1 < ((((w.alloc (.cells #[.slice a ps.length ca] 30)).alloc (.cells #[.slice b qs.length cb] 30)).alloc (.cells #[.slice none 0 0] 30)).alloc (.cells #[.bool false] 4)).heap.size := by simp [go_sem]
  refine (callsIn_wide (n := 5)).1 ?_
  refine callsIn_of_wp_marks Try.func13 rfl trivial ?_ rfl
  simp only [Try.ntmps13, List.size_toArray, List.length_cons, List.length_nil, Nat.reduceAdd, Nat.reduceSub, Array.replicate_succ, Array.replicate_zero, List.push_toArray, List.append_toArray, List.nil_append, List.cons_append]
  gi_wp2_with fail
  refine ⟨trivial, ?_⟩
  refine (callsIn_wide.2 (implPatch_any a ca ps _ (hps.below hal) hn hz)).mono ?_
  rintro e w1 ⟨vb, rfl, hvb, hb1⟩
  replace m0 := cell_later hb1 m0
  replace m1 := cell_later hb1 m1
  replace k0 := cell_later hb1 k0
  replace h0 := cell_later hb1 h0
  replace kf : w1.frozen? ⟨w.heap.size + 1 + 1, 0, none⟩ = false := (hb1.frozen (p := ⟨w.heap.size + 1 + 1, 0, none⟩) (by show w.heap.size + 1 + 1 < _; omega)).trans kf
  replace hf : w1.frozen? ⟨w.heap.size + 1 + 1 + 1, 0, none⟩ = false := (hb1.frozen (p := ⟨w.heap.size + 1 + 1 + 1, 0, none⟩) os0).trans hf
  have os1 : w.heap.size + 1 + 1 + 1 < w1.heap.size := Nat.lt_of_lt_of_le os0 hb1.size
  have hbw := hal.trans (hb1.mono hal.size)
  have HV : Keep (vb = true ↔ ValidP ps) := ⟨hvb⟩
  clear hvb hb1 hal os0
  obtain ⟨ta, hta⟩ : ∃ x, x = w.heap.size := ⟨_, rfl⟩
  obtain ⟨tb, htb⟩ : ∃ x, x = w.heap.size + 1 := ⟨_, rfl⟩
  obtain ⟨g, hg⟩ : ∃ x, x = w.heap.size + 1 + 1 := ⟨_, rfl⟩
  obtain ⟨h, hh⟩ : ∃ x, x = w.heap.size + 1 + 1 + 1 := ⟨_, rfl⟩
  rw [← hh] at h0 hf ⊢
  rw [← hg] at k0 kf ⊢
  rw [← htb] at m1 ⊢
  rw [← hta] at m0 ⊢
  have HS : Keep (ta = w.heap.size ∧ tb = ta + 1 ∧ g = tb + 1 ∧ h = g + 1 ∧ h < w1.heap.size) := ⟨by omega⟩
  have hgh : ¬ g = h := by omega
  have hhg : ¬ h = g := by omega
  clear hta htb hg hh os1
  have HNO : Keep (∀ X : World, Below w.heap.size w X → ¬ (ValidP ps ∧ ValidP qs) → JoinPostC ps qs w (.returned (.tuple #[.agg #[.slice none ([] : List Ch).length 0], .bool false])) ((X.setCell ⟨g, 0, none⟩ (.slice none 0 0)).setCell ⟨h, 0, none⟩ (.bool false))) := ⟨fun X hX hnv => ⟨[], false, .inl ⟨hnv, rfl, rfl⟩, ⟨none, 0, rfl, CL.nil _ _ _, Nat.le_refl _⟩, (hX.setCell (p := ⟨g, 0, none⟩) (by have := HS.out; show _ ≤ g; omega) _).setCell (p := ⟨h, 0, none⟩) (by have := HS.out; show _ ≤ h; omega) _⟩⟩
  cases vb with
  | false =>
    have hnv : ¬ (ValidP ps ∧ ValidP qs) := fun h => by have := HV.out.2 h.1; cases this
    gi_wp2
    refine ⟨trivial, ?_⟩
    gi_wp2
    refine ⟨.tuple #[.agg #[.slice none ([] : List Ch).length 0], .bool false], ?_, HNO.out _ hbw hnv⟩
    simp [results, Try.f13, go_sem, k0, h0]
  | true =>
    have HVT : Keep (ValidP ps) := ⟨HV.out.1 rfl⟩
    gi_wp2_with fail
    refine ⟨trivial, ?_⟩
    refine (callsIn_wide.2 (implPatch_any b cb qs _ (hqs.below hbw) hnb hzb)).mono ?_
    rintro e w2 ⟨vb, rfl, hvb, hb2⟩
    have HV2 : Keep (vb = true ↔ ValidP qs) := ⟨hvb⟩
    replace m0 := cell_later hb2 m0
    replace m1 := cell_later hb2 m1
    replace k0 := cell_later hb2 k0
    replace h0 := cell_later hb2 h0
    replace kf : w2.frozen? ⟨g, 0, none⟩ = false := (hb2.frozen (p := ⟨g, 0, none⟩) (by have := HS.out; show g < _; omega)).trans kf
    replace hf : w2.frozen? ⟨h, 0, none⟩ = false := (hb2.frozen (p := ⟨h, 0, none⟩) HS.out.2.2.2.2).trans hf
    have HS2 : Keep (ta = w.heap.size ∧ tb = ta + 1 ∧ g = tb + 1 ∧ h = g + 1 ∧ h < w2.heap.size) := ⟨by have := HS.out; have := hb2.size; omega⟩
    replace hbw := hbw.trans (hb2.mono hbw.size)
    clear hvb hb2 HS HV
    cases vb with
    | false =>
      have hnv : ¬ (ValidP ps ∧ ValidP qs) := fun h => by have := HV2.out.2 h.2; cases this
      gi_wp2
      refine ⟨.tuple #[.agg #[.slice none ([] : List Ch).length 0], .bool false], ?_, HNO.out _ hbw hnv⟩
      simp [results, Try.f13, go_sem, k0, h0]
    | true =>
      have HVU : Keep (ValidP qs) := ⟨HV2.out.1 rfl⟩
      have hal2 : Below w2.heap.size w2 (w2.alloc (.cells #[.slice none 0 0] 30)) := (Below.refl _ _).alloc (Nat.le_refl _) _
      replace m0 := cell_later hal2 m0
      replace m1 := cell_later hal2 m1
      have ob0 : (((w2.alloc (.cells #[.slice none 0 0] 30)).alloc (.cells #[.slice a ps.length ca] 28)).alloc (.cells #[.slice b qs.length cb] 28)).cell? ⟨w2.heap.size, 0, none⟩ = some (.slice none 0 0) := by simp [go_sem]
      have of0 : (((w2.alloc (.cells #[.slice none 0 0] 30)).alloc (.cells #[.slice a ps.length ca] 28)).alloc (.cells #[.slice b qs.length cb] 28)).frozen? ⟨w2.heap.size, 0, none⟩ = false := by simp [go_sem]
      have ma : (((w2.alloc (.cells #[.slice none 0 0] 30)).alloc (.cells #[.slice a ps.length ca] 28)).alloc (.cells #[.slice b qs.length cb] 28)).cell? ⟨w2.heap.size + 1, 0, none⟩ = some (.slice a ps.length ca) := by simp [go_sem]
      have mb : (((w2.alloc (.cells #[.slice none 0 0] 30)).alloc (.cells #[.slice a ps.length ca] 28)).alloc (.cells #[.slice b qs.length cb] 28)).cell? ⟨w2.heap.size + 1 + 1, 0, none⟩ = some (.slice b qs.length cb) := by simp [go_sem]
      have wsz : (((w2.alloc (.cells #[.slice none 0 0] 30)).alloc (.cells #[.slice a ps.length ca] 28)).alloc (.cells #[.slice b qs.length cb] 28)).heap.size = w2.heap.size + 3 := by simp [go_sem]
      have hb3 : Below w2.heap.size w2 (((w2.alloc (.cells #[.slice none 0 0] 30)).alloc (.cells #[.slice a ps.length ca] 28)).alloc (.cells #[.slice b qs.length cb] 28)) := (((Below.refl _ _).alloc (Nat.le_refl _) _).alloc (by simp) _).alloc (by simp; omega) _
      gi_wp2_with (refine ⟨trivial, ?_⟩; gi_at_call 41; refine (callsIn_wide.2 (sideC_any a b ps.length qs.length ca cb _)).mono ?_; rintro e w' ⟨rfl, rfl⟩)
      generalize hwl : (((w2.alloc (.cells #[.slice none 0 0] 30)).alloc (.cells #[.slice a ps.length ca] 28)).alloc (.cells #[.slice b qs.length cb] 28)) = wl at *
      clear hwl
      have hbl := hbw.trans (hb3.mono hbw.size)
      have kl := cell_later hb3 k0
      have hl0 := cell_later hb3 h0
      have kfl : wl.frozen? ⟨g, 0, none⟩ = false := (hb3.frozen (p := ⟨g, 0, none⟩) (by have := HS2.out; show g < _; omega)).trans kf
      have hfl : wl.frozen? ⟨h, 0, none⟩ = false := (hb3.frozen (p := ⟨h, 0, none⟩) HS2.out.2.2.2.2).trans hf
      obtain ⟨ob, hob⟩ : ∃ ob, ob = w2.heap.size := ⟨_, rfl⟩
      rw [← hob] at ob0 of0 ma mb wsz HS2 ⊢
      have HL : Keep (ta = w.heap.size ∧ tb = ta + 1 ∧ g = tb + 1 ∧ h = g + 1 ∧ h < ob ∧ wl.heap.size = ob + 3) := ⟨by have := HS2.out; omega⟩
      have hI0 : ∀ o1 o2, JnI wl ob [] ((wl.alloc o1).alloc o2) := fun o1 o2 => by
        have hb : Below wl.heap.size wl ((wl.alloc o1).alloc o2) := ((Below.refl _ _).alloc (Nat.le_refl _) _).alloc (by simp) _
        exact ⟨(fun x hx => by cases hx), _, _, by simp, hb, OutCh.start (cell_later hb ob0) ((hb.frozen (p := ⟨ob, 0, none⟩) (by show ob < _; omega)).trans of0) (by simp; omega)⟩
      clear hb3 hob k0 kf m0 m1 HS2 HV2 hbw hal2 h0 hf
      refine range_iter2 (sideC_iter (ob + 1) (ob + 1 + 1) a b ca cb ps qs hca hcb hn hnb) (enters_of Try.func63 (by kernel_rfl) rfl) (n := 5) (by omega) rfl (fun x => rfl) (JnI wl ob) (JnX w g h)
        (fun pre W ⟨_, Wz, v, hz1, hz2, hst⟩ => ⟨hst.keep (cell_later hz2 ma) (by omega) (by omega), hst.keep (cell_later hz2 mb) (by omega) (by omega), hps.below (hst.below (hbl.trans (hz2.mono hbl.size)) (by have := HL.out; omega)), hqs.below (hst.below (hbl.trans (hz2.mono hbl.size)) (by have := HL.out; omega))⟩)
        (fun pre W W' ⟨hc, Wz, v, hz1, hz2, hst⟩ hb => ⟨hc, Wz, v, hz1, hz2, hst.later hb⟩)
        (fun pre W l o hl ⟨hc, Wz, v, hz1, hz2, hst⟩ => ⟨hc, Wz.putObj l o, v, by simpa using hz1, hz2.grown (row := some l) ⟨rfl, rfl, rfl, by simp, fun k _ hk => World.putObj_heap_other (fun e => hk (by rw [e]))⟩ hz2.size (fun j e => by cases e; omega), hst.putJ o (by omega) (by omega)⟩)
        (fun pre W l o hl ⟨hc, hb, c1, c2⟩ => ⟨hc, hb.grown (row := some l) ⟨rfl, rfl, rfl, by simp, fun k _ hk => World.putObj_heap_other (fun e => hk (by rw [e]))⟩ hb.size (fun j e => by cases e; have := HL.out; omega), (World.cell?_of_block (World.putObj_heap_other (fun e => by have := HL.out; have e2 : g = l := e; omega))).trans c1, (World.cell?_of_block (World.putObj_heap_other (fun e => by have := HL.out; have e2 : h = l := e; omega))).trans c2⟩) hI0
        (fun x B a' W => a' = { tmps := #[.agg #[.slice a ps.length ca], .agg #[.slice b qs.length cb], .pointer (some ⟨ta, 0, none⟩), .pointer (some ⟨tb, 0, none⟩), .pointer (some ⟨g, 0, none⟩), .pointer (some ⟨h, 0, none⟩), .pointer (some ⟨ob, 0, none⟩), .pointer (some ⟨B, 0, none⟩), .pointer (some ⟨B + 1, 0, none⟩), .agg #[.slice a ps.length ca], .bool true, .bool false, .bool false, .agg #[.slice b qs.length cb], .bool true, .bool false, .bool false, undef, .pointer (some ⟨ta, 0, none⟩), .slice a ps.length ca, .pointer (some ⟨tb, 0, none⟩), .slice b qs.length cb, .func (.func 63) #[] #[.pointer (some ⟨ob + 1, 0, none⟩), .pointer (some ⟨ob + 1 + 1, 0, none⟩)], cutCV (x.2.1.getD noCh), cutCV (x.2.2.getD noCh), undef, undef, undef, undef, undef, undef, undef, undef, undef, undef, undef, undef, undef, undef, undef, undef, undef, undef, undef, undef, undef, undef, undef, undef, undef, undef, undef, undef, undef, undef, undef, undef, undef, undef, undef], defers := [] } ∧ CBox B (x.2.1.getD noCh) W ∧ CBox (B + 1) (x.2.2.getD noCh) W)
        (fun x B a' W l o hl ⟨h1, h2, h3⟩ => ⟨h1, h2.put o (by omega), h3.put o (by omega)⟩) ?assign ?body ?done ?stop
      case assign =>
        intro l x W K hK
        unfold yC cutCV
        gi_wp2
        exact hK _ _ (((Below.refl _ _).alloc (Nat.le_refl _) _).alloc (by simp) _) ⟨rfl, ⟨by simp [go_sem], by simp [go_sem], by simp [go_sem], by simp [go_sem], by simp [go_sem], by simp [go_sem], by simp [go_sem], fun j => by simp [go_sem], by simp [go_sem]⟩, ⟨by simp [go_sem], by simp [go_sem], by simp [go_sem], by simp [go_sem], by simp [go_sem], by simp [go_sem], by simp [go_sem], fun j => by simp [go_sem], by simp [go_sem]⟩⟩
      case body =>
        rintro l pre x a' Wb W ⟨hnc, Wz, v, hz1, hz2, hst⟩ ⟨r, hr⟩ hB1 hbW ⟨rfl, hx, hy⟩
        have hul : (outsJ pre).length ≤ 1048576 := by
          have h1 := outsJ_len pre
          have h2 := congrArg List.length hr
          have h3 := mrg_lenJ Ch.path Ch.path (ps.length + qs.length) ps qs
          have h4 := HVT.out.1
          have h5 := HVU.out.1
          simp only [List.length_append] at h2
          unfold mrgC at h2
          omega
        have hmx : x ∈ mrgC ps qs := by rw [hr]; simp
        have hvB : v.ownBlock ≠ some Wb.heap.size := fun e => by have := hst.own_lt e; omega
        have hvB1 : v.ownBlock ≠ some (Wb.heap.size + 1) := fun e => by have := hst.own_lt e; omega
        have st := hst.later hbW
        have HE : Keep (∀ v' w', clJ2 x.2.1 x.2.2 = false → OutCh ob Wz v' (outsJ pre ++ outJ2 x.1 x.2.1 x.2.2) w' → TwoB wl.heap.size W w' ∧ JnI wl ob (pre ++ [x]) w') := ⟨fun v' w' hc h => ⟨⟨(h.grown.block _ (by omega) (fun e => by have := HL.out; cases e; omega)).trans (st.grown.block _ (by omega) (fun e => by have := HL.out; cases e; omega)).symm, (h.grown.block _ (by omega) (fun e => by have := HL.out; cases e; omega)).trans (st.grown.block _ (by omega) (fun e => by have := HL.out; cases e; omega)).symm⟩, (fun y hy => by
            rcases List.mem_append.1 hy with h' | h'
            · exact hnc y h'
            · rw [List.mem_singleton.1 h']; exact hc), Wz, v', hz1, hz2, by rw [outsJ_snoc]; exact h⟩⟩
        have HR : Keep (∀ X, clJ2 x.2.1 x.2.2 = true → OutCh ob Wz v (outsJ pre) X → TwoB wl.heap.size W ((X.setCell ⟨g, 0, none⟩ (.slice none 0 0)).setCell ⟨h, 0, none⟩ (.bool false)) ∧ JnX w g h (pre ++ [x]) ((X.setCell ⟨g, 0, none⟩ (.slice none 0 0)).setCell ⟨h, 0, none⟩ (.bool false))) := ⟨fun X hc st' => by
          have hbk : ∀ k, k ≠ g → k ≠ h → ((X.setCell ⟨g, 0, none⟩ (.slice none 0 0)).setCell ⟨h, 0, none⟩ (.bool false)).heap[k]? = X.heap[k]? := fun k h1 h2 => (Below.heap_setCell _ _ _ _ h2).trans (Below.heap_setCell _ _ _ _ h1)
          have kX := st'.keep (cell_later hz2 kl) (by have := HL.out; omega) (by have := HL.out; omega)
          have hX := st'.keep (cell_later hz2 hl0) (by have := HL.out; omega) (by have := HL.out; omega)
          refine ⟨⟨(hbk _ (by have := HL.out; omega) (by have := HL.out; omega)).trans ((st'.grown.block _ (by omega) (fun e => by have := HL.out; cases e; omega)).trans (st.grown.block _ (by omega) (fun e => by have := HL.out; cases e; omega)).symm), (hbk _ (by have := HL.out; omega) (by have := HL.out; omega)).trans ((st'.grown.block _ (by omega) (fun e => by have := HL.out; cases e; omega)).trans (st.grown.block _ (by omega) (fun e => by have := HL.out; cases e; omega)).symm)⟩, ⟨x, by simp, hc⟩, ?_, ?_, ?_⟩
          · exact ((st'.below (hbl.trans (hz2.mono hbl.size)) (by have := HL.out; omega)).setCell (p := ⟨g, 0, none⟩) (by have := HL.out; show _ ≤ g; omega) _).setCell (p := ⟨h, 0, none⟩) (by have := HL.out; show _ ≤ h; omega) _
          · exact (World.cell?_setCell_other _ _ _ _ (by intro e; exact hhg (congrArg Addr.block e))).trans (World.cell?_setCell_same _ _ _ kX)
          · exact World.cell?_setCell_same _ _ _ ((World.cell?_setCell_other _ _ _ _ (by intro e; exact hgh (congrArg Addr.block e))).trans hX)⟩
        have HK : Keep (∀ X, OutCh ob Wz v (outsJ pre) X → (X.cell? ⟨g, 0, none⟩ = some (.slice none 0 0) ∧ X.cell? ⟨h, 0, none⟩ = some (.bool false)) ∧ X.frozen? ⟨g, 0, none⟩ = false ∧ X.frozen? ⟨h, 0, none⟩ = false) := ⟨fun X st' => ⟨⟨st'.keep (cell_later hz2 kl) (by have := HL.out; omega) (by have := HL.out; omega), st'.keep (cell_later hz2 hl0) (by have := HL.out; omega) (by have := HL.out; omega)⟩, frozen_of (st'.grown.block g (by have := HL.out; omega) (fun e => by have := HL.out; cases e; omega)) ((hz2.frozen (p := ⟨g, 0, none⟩) (by have := HL.out; show g < _; omega)).trans kfl), frozen_of (st'.grown.block h (by have := HL.out; omega) (fun e => by have := HL.out; cases e; omega)) ((hz2.frozen (p := ⟨h, 0, none⟩) (by have := HL.out; show h < _; omega)).trans hfl)⟩⟩
        have HB : Keep (Wz.heap.size ≤ Wb.heap.size) := ⟨hst.grown.size⟩
        clear hst hbW hr hI0 ma mb of0 ob0 kl kfl hl0 hfl hbl hps hqs HNO hB1 wsz
        generalize Wb.heap.size = B at *
        have hBn : ¬ B = B + 1 := by omega
        have hBn2 : ¬ B + 1 = B := by omega
        rcases mrgC_cases HVT.out HVU.out hmx with ⟨d, hd, rfl⟩ | ⟨c, hc, rfl⟩ | ⟨c, hc, d, hd, hcd, rfl⟩
        · obtain ⟨p1, p2, p3, p4⟩ := chOk_parts (validP_ok HVU.out hd)
          have hdp := hzb d hd
          replace hx : CBox B noCh W := hx
          replace hy : CBox (B + 1) d W := hy
          have a0 : W.cell? ⟨B, 0, none⟩ = some (.string ⟨#[]⟩) := hx.c0
          have a1 : W.cell? ⟨B, 1, none⟩ = some (.bool false) := hx.c1
          have a2 : W.cell? ⟨B, 2, none⟩ = some (.string ⟨#[]⟩) := hx.c2
          have a3 : W.cell? ⟨B, 3, none⟩ = some (.bool false) := hx.c3
          have a4 : W.cell? ⟨B, 4, none⟩ = some (.bool false) := hx.c4
          have a5 : W.cell? ⟨B, 5, none⟩ = some (.string ⟨#[]⟩) := hx.c5
          have a6 : W.cell? ⟨B, 6, none⟩ = some (.bool false) := hx.c6
          have b0 := hy.c0
          have b1 := hy.c1
          have b2 := hy.c2
          have b3 := hy.c3
          have b4 := hy.c4
          have b5 := hy.c5
          have b6 := hy.c6
          gi_wp2_with fail
          refine ⟨trivial, ?_⟩
          refine CallsIn.mono (CallsIn.inRound l (callsIn_wide.2 (stay_any d.path d.old _))) ?_
          rintro e W1 ⟨rfl, hb1⟩
          replace hx := hx.later hb1
          replace hy := hy.later hb1
          replace st := st.later hb1
          clear a0 a1 a2 a3 a4 a5 a6 b0 b1 b2 b3 b4 b5 b6 hb1
          have a0 : W1.cell? ⟨B, 0, none⟩ = some (.string ⟨#[]⟩) := hx.c0
          have a1 : W1.cell? ⟨B, 1, none⟩ = some (.bool false) := hx.c1
          have a2 : W1.cell? ⟨B, 2, none⟩ = some (.string ⟨#[]⟩) := hx.c2
          have a3 : W1.cell? ⟨B, 3, none⟩ = some (.bool false) := hx.c3
          have a4 : W1.cell? ⟨B, 4, none⟩ = some (.bool false) := hx.c4
          have a5 : W1.cell? ⟨B, 5, none⟩ = some (.string ⟨#[]⟩) := hx.c5
          have a6 : W1.cell? ⟨B, 6, none⟩ = some (.bool false) := hx.c6
          have fz := hx.fz
          gi_upto_region 9 with fail
          have hx2 : CBox B ⟨d.path, d.old, d.old⟩ (((((((W1.setCell ⟨B, 0, none⟩ (.string d.path)).setCell ⟨B, 1, none⟩ (.bool d.old.there)).setCell ⟨B, 2, none⟩ (.string d.old.text)).setCell ⟨B, 3, none⟩ (.bool d.old.runs)).setCell ⟨B, 4, none⟩ (.bool d.old.there)).setCell ⟨B, 5, none⟩ (.string d.old.text)).setCell ⟨B, 6, none⟩ (.bool d.old.runs)) := hx.set ⟨d.path, d.old, d.old⟩
          have hy2 : CBox (B + 1) d (((((((W1.setCell ⟨B, 0, none⟩ (.string d.path)).setCell ⟨B, 1, none⟩ (.bool d.old.there)).setCell ⟨B, 2, none⟩ (.string d.old.text)).setCell ⟨B, 3, none⟩ (.bool d.old.runs)).setCell ⟨B, 4, none⟩ (.bool d.old.there)).setCell ⟨B, 5, none⟩ (.string d.old.text)).setCell ⟨B, 6, none⟩ (.bool d.old.runs)) := hy.grown (box7_grown (.string d.path) (.bool d.old.there) (.string d.old.text) (.bool d.old.runs) (.bool d.old.there) (.string d.old.text) (.bool d.old.runs)) (by simp)
          have st2 : OutCh ob Wz v (outsJ pre) (((((((W1.setCell ⟨B, 0, none⟩ (.string d.path)).setCell ⟨B, 1, none⟩ (.bool d.old.there)).setCell ⟨B, 2, none⟩ (.string d.old.text)).setCell ⟨B, 3, none⟩ (.bool d.old.runs)).setCell ⟨B, 4, none⟩ (.bool d.old.there)).setCell ⟨B, 5, none⟩ (.string d.old.text)).setCell ⟨B, 6, none⟩ (.bool d.old.runs)) := st.other (box7_grown (.string d.path) (.bool d.old.there) (.string d.old.text) (.bool d.old.runs) (.bool d.old.there) (.string d.old.text) (.bool d.old.runs)) HB.out hvB
          clear a0 a1 a2 a3 a4 a5 a6 fz hx hy st
          generalize (((((((W1.setCell ⟨B, 0, none⟩ (.string d.path)).setCell ⟨B, 1, none⟩ (.bool d.old.there)).setCell ⟨B, 2, none⟩ (.string d.old.text)).setCell ⟨B, 3, none⟩ (.bool d.old.runs)).setCell ⟨B, 4, none⟩ (.bool d.old.there)).setCell ⟨B, 5, none⟩ (.string d.old.text)).setCell ⟨B, 6, none⟩ (.bool d.old.runs)) = X at *
          have a0 := hx2.c0
          have a1 := hx2.c1
          have a2 := hx2.c2
          have a3 := hx2.c3
          have a4 := hx2.c4
          have a5 := hx2.c5
          have a6 := hx2.c6
          have b0 := hy2.c0
          have b1 := hy2.c1
          have b2 := hy2.c2
          have b3 := hy2.c3
          have b4 := hy2.c4
          have b5 := hy2.c5
          have b6 := hy2.c6
          dsimp only at a0 a1 a2 a3 a4 a5 a6
          gi_wp2_with fail
          refine ⟨trivial, ?_⟩
          refine CallsIn.mono (CallsIn.inRound l (callsIn_wide.2 (chg_pair ob Wz v (outsJ pre) d.path d.old d.new X st2 hul hdp (by omega) (by omega)))) ?_
          rintro e W4 ⟨rfl, v', st4⟩
          clear a0 a1 a2 a3 a4 a5 a6 b0 b1 b2 b3 b4 b5 b6 hx2 hy2 st2
          gi_wp2
          exact HE.out _ _ rfl (by unfold chgL at st4; rw [p2] at st4; exact st4)
        · obtain ⟨p1, p2, p3, p4⟩ := chOk_parts (validP_ok HVT.out hc)
          have hdp := hz c hc
          replace hx : CBox B c W := hx
          replace hy : CBox (B + 1) noCh W := hy
          have a0 := hx.c0
          have a1 := hx.c1
          have a2 := hx.c2
          have a3 := hx.c3
          have a4 := hx.c4
          have a5 := hx.c5
          have a6 := hx.c6
          have b0 : W.cell? ⟨B + 1, 0, none⟩ = some (.string ⟨#[]⟩) := hy.c0
          have b1 : W.cell? ⟨B + 1, 1, none⟩ = some (.bool false) := hy.c1
          have b2 : W.cell? ⟨B + 1, 2, none⟩ = some (.string ⟨#[]⟩) := hy.c2
          have b3 : W.cell? ⟨B + 1, 3, none⟩ = some (.bool false) := hy.c3
          have b4 : W.cell? ⟨B + 1, 4, none⟩ = some (.bool false) := hy.c4
          have b5 : W.cell? ⟨B + 1, 5, none⟩ = some (.string ⟨#[]⟩) := hy.c5
          have b6 : W.cell? ⟨B + 1, 6, none⟩ = some (.bool false) := hy.c6
          gi_wp2_with fail
          refine ⟨trivial, ?_⟩
          refine CallsIn.mono (CallsIn.inRound l (callsIn_wide.2 (stay_any c.path c.new _))) ?_
          rintro e W1 ⟨rfl, hb1⟩
          replace hx := hx.later hb1
          replace hy := hy.later hb1
          replace st := st.later hb1
          clear a0 a1 a2 a3 a4 a5 a6 b0 b1 b2 b3 b4 b5 b6 hb1
          have b0 : W1.cell? ⟨B + 1, 0, none⟩ = some (.string ⟨#[]⟩) := hy.c0
          have b1 : W1.cell? ⟨B + 1, 1, none⟩ = some (.bool false) := hy.c1
          have b2 : W1.cell? ⟨B + 1, 2, none⟩ = some (.string ⟨#[]⟩) := hy.c2
          have b3 : W1.cell? ⟨B + 1, 3, none⟩ = some (.bool false) := hy.c3
          have b4 : W1.cell? ⟨B + 1, 4, none⟩ = some (.bool false) := hy.c4
          have b5 : W1.cell? ⟨B + 1, 5, none⟩ = some (.string ⟨#[]⟩) := hy.c5
          have b6 : W1.cell? ⟨B + 1, 6, none⟩ = some (.bool false) := hy.c6
          have fz := hy.fz
          gi_upto_region 11 with fail
          have hy2 : CBox (B + 1) ⟨c.path, c.new, c.new⟩ (((((((W1.setCell ⟨B + 1, 0, none⟩ (.string c.path)).setCell ⟨B + 1, 1, none⟩ (.bool c.new.there)).setCell ⟨B + 1, 2, none⟩ (.string c.new.text)).setCell ⟨B + 1, 3, none⟩ (.bool c.new.runs)).setCell ⟨B + 1, 4, none⟩ (.bool c.new.there)).setCell ⟨B + 1, 5, none⟩ (.string c.new.text)).setCell ⟨B + 1, 6, none⟩ (.bool c.new.runs)) := hy.set ⟨c.path, c.new, c.new⟩
          have hx2 : CBox B c (((((((W1.setCell ⟨B + 1, 0, none⟩ (.string c.path)).setCell ⟨B + 1, 1, none⟩ (.bool c.new.there)).setCell ⟨B + 1, 2, none⟩ (.string c.new.text)).setCell ⟨B + 1, 3, none⟩ (.bool c.new.runs)).setCell ⟨B + 1, 4, none⟩ (.bool c.new.there)).setCell ⟨B + 1, 5, none⟩ (.string c.new.text)).setCell ⟨B + 1, 6, none⟩ (.bool c.new.runs)) := hx.grown (box7_grown (.string c.path) (.bool c.new.there) (.string c.new.text) (.bool c.new.runs) (.bool c.new.there) (.string c.new.text) (.bool c.new.runs)) (by simp)
          have st2 : OutCh ob Wz v (outsJ pre) (((((((W1.setCell ⟨B + 1, 0, none⟩ (.string c.path)).setCell ⟨B + 1, 1, none⟩ (.bool c.new.there)).setCell ⟨B + 1, 2, none⟩ (.string c.new.text)).setCell ⟨B + 1, 3, none⟩ (.bool c.new.runs)).setCell ⟨B + 1, 4, none⟩ (.bool c.new.there)).setCell ⟨B + 1, 5, none⟩ (.string c.new.text)).setCell ⟨B + 1, 6, none⟩ (.bool c.new.runs)) := st.other (box7_grown (.string c.path) (.bool c.new.there) (.string c.new.text) (.bool c.new.runs) (.bool c.new.there) (.string c.new.text) (.bool c.new.runs)) (by have := HB.out; omega) hvB1
          clear b0 b1 b2 b3 b4 b5 b6 fz hx hy st
          generalize (((((((W1.setCell ⟨B + 1, 0, none⟩ (.string c.path)).setCell ⟨B + 1, 1, none⟩ (.bool c.new.there)).setCell ⟨B + 1, 2, none⟩ (.string c.new.text)).setCell ⟨B + 1, 3, none⟩ (.bool c.new.runs)).setCell ⟨B + 1, 4, none⟩ (.bool c.new.there)).setCell ⟨B + 1, 5, none⟩ (.string c.new.text)).setCell ⟨B + 1, 6, none⟩ (.bool c.new.runs)) = X at *
          have a0 := hx2.c0
          have a1 := hx2.c1
          have a2 := hx2.c2
          have a3 := hx2.c3
          have a4 := hx2.c4
          have a5 := hx2.c5
          have a6 := hx2.c6
          have b0 := hy2.c0
          have b1 := hy2.c1
          have b2 := hy2.c2
          have b3 := hy2.c3
          have b4 := hy2.c4
          have b5 := hy2.c5
          have b6 := hy2.c6
          dsimp only at b0 b1 b2 b3 b4 b5 b6
          gi_wp2_with fail
          refine ⟨trivial, ?_⟩
          refine CallsIn.mono (CallsIn.inRound l (callsIn_wide.2 (chg_pair ob Wz v (outsJ pre) c.path c.old c.new X st2 hul hdp (by omega) (by omega)))) ?_
          rintro e W4 ⟨rfl, v', st4⟩
          clear a0 a1 a2 a3 a4 a5 a6 b0 b1 b2 b3 b4 b5 b6 hx2 hy2 st2
          gi_wp2
          exact HE.out _ _ rfl (by unfold chgL at st4; rw [p2] at st4; exact st4)
        · obtain ⟨p1, p2, p3, p4⟩ := chOk_parts (validP_ok HVT.out hc)
          obtain ⟨q1, q2, q3, q4⟩ := chOk_parts (validP_ok HVU.out hd)
          have hdp := hz c hc
          replace hx : CBox B c W := hx
          replace hy : CBox (B + 1) d W := hy
          have a0 := hx.c0
          have a1 := hx.c1
          have a2 := hx.c2
          have a3 := hx.c3
          have a4 := hx.c4
          have a5 := hx.c5
          have a6 := hx.c6
          have b0 := hy.c0
          have b1 := hy.c1
          have b2 := hy.c2
          have b3 := hy.c3
          have b4 := hy.c4
          have b5 := hy.c5
          have b6 := hy.c6
          cases hsm : sameF c.new d.old with
          | true =>
            have HC : Keep (clJ2 (some c) (some d) = false) := ⟨by show (!sameF c.new d.old) = false; rw [hsm]; rfl⟩
            obtain ⟨⟨h1, h2⟩, h3⟩ : (c.new.there = d.old.there ∧ c.new.text.toList = d.old.text.toList) ∧ c.new.runs = d.old.runs := by simpa [sameF] using hsm
            have h4 : c.new.text = d.old.text := WideShapes.bytes_inj (by rw [← Lib.toList_data, ← Lib.toList_data]; exact h2)
            rw [← h1] at b1
            rw [← h4] at b2
            rw [← h3] at b3
            clear hsm h1 h2 h3 h4
            gi_wp2_with fail
            refine ⟨trivial, ?_⟩
            refine CallsIn.mono (CallsIn.inRound l (callsIn_wide.2 (chg_pair ob Wz v (outsJ pre) c.path c.old d.new W st hul hdp (by omega) (by omega)))) ?_
            rintro e W4 ⟨rfl, v', st4⟩
            clear a0 a1 a2 a3 a4 a5 a6 b0 b1 b2 b3 b4 b5 b6 hx hy st
            gi_wp2
            exact HE.out _ _ HC.out st4
          | false =>
            have HC : Keep (clJ2 (some c) (some d) = true) := ⟨by show (!sameF c.new d.old) = true; rw [hsm]; rfl⟩
            obtain ⟨⟨kX, hX⟩, kfX, hfX⟩ := HK.out W st
            by_cases h1 : c.new.there = d.old.there
            · by_cases h2 : c.new.text.toList = d.old.text.toList
              · by_cases h3 : c.new.runs = d.old.runs
                · exfalso
                  rw [Bool.eq_false_iff] at hsm
                  exact hsm (by simp [sameF, h1, h2, h3])
                · gi_wp2
                  exact HR.out W HC.out st
              · gi_wp2
                exact HR.out W HC.out st
            · gi_wp2
              exact HR.out W HC.out st
      case done =>
        rintro W ⟨hnc, Wz, v, hz1, hz2, hst⟩ hK
        rw [outs_join HVT.out HVU.out] at hst
        have HNC : Keep (∀ n ∈ joinNs ps qs, clJ ps qs n = false) := ⟨fun n hn' => hnc (n, fnd Ch.path ps n, fnd Ch.path qs n) (by rw [mrgC_is HVT.out HVU.out]; exact List.mem_map.2 ⟨n, hn', rfl⟩)⟩
        have kW := hst.keep (cell_later hz2 kl) (by have := HL.out; omega) (by have := HL.out; omega)
        have hW := hst.keep (cell_later hz2 hl0) (by have := HL.out; omega) (by have := HL.out; omega)
        have kfW : W.frozen? ⟨g, 0, none⟩ = false := frozen_of (hst.grown.block g (by have := HL.out; omega) (fun e => by have := HL.out; cases e; omega)) ((hz2.frozen (p := ⟨g, 0, none⟩) (by have := HL.out; show g < _; omega)).trans kfl)
        have hfW : W.frozen? ⟨h, 0, none⟩ = false := frozen_of (hst.grown.block h (by have := HL.out; omega) (fun e => by have := HL.out; cases e; omega)) ((hz2.frozen (p := ⟨h, 0, none⟩) (by have := HL.out; show h < _; omega)).trans hfl)
        have oW := hst.cell
        have hbW := hst.below (hbl.trans (hz2.mono hbl.size)) (show w.heap.size ≤ ob by have := HL.out; omega)
        obtain ⟨ad, cap, rfl⟩ := owns_slice hst.row
        have hrm := row_roomO hst.row
        have hcl := cl_of_row hst.row
        have HZ : Keep (w.heap.size ≤ g ∧ h = g + 1 ∧ h < wl.heap.size ∧ Wz.heap.size = wl.heap.size + 2) := ⟨by have := HL.out; omega⟩
        clear hst hz2 hI0 hps hqs HNO hnc wsz
        have fin : ∀ (cs : List Ch) (ok : Bool) (ad2 : Option Addr) (cap2 : Nat), JoinRel ps qs cs ok → CL Wz.heap.size W ad2 cs → cs.length ≤ cap2 → ∃ W3, W3 = (W.setCell ⟨g, 0, none⟩ (.slice ad2 cs.length cap2)).setCell ⟨h, 0, none⟩ (.bool ok) ∧ W3.heap[wl.heap.size]? = some (.deferred (some [])) ∧ (W3.putObj wl.heap.size (.deferred none)).cell? ⟨g, 0, none⟩ = some (.slice ad2 cs.length cap2) ∧ (W3.putObj wl.heap.size (.deferred none)).cell? ⟨h, 0, none⟩ = some (.bool ok) ∧ JoinPostC ps qs w (.returned (.tuple #[.agg #[.slice ad2 cs.length cap2], .bool ok])) (W3.putObj wl.heap.size (.deferred none)) := fun cs ok ad2 cap2 hrel hcs hrm2 => by
          have hzz := HZ.out
          have hbk : ∀ k, k ≠ g → k ≠ h → ((W.setCell ⟨g, 0, none⟩ (.slice ad2 cs.length cap2)).setCell ⟨h, 0, none⟩ (.bool ok)).heap[k]? = W.heap[k]? := fun k h1 h2 => (Below.heap_setCell _ _ _ _ h2).trans (Below.heap_setCell _ _ _ _ h1)
          have hg1 := hcs.grown (row := some g) (grown_set0 W g 0 (.slice ad2 cs.length cap2)) (fun j _ hj _ e => by cases e; omega)
          have hg2 := hg1.grown (row := some h) (grown_set0 _ h 0 (.bool ok)) (fun j _ hj _ e => by cases e; omega)
          have hbW2 := (hbW.setCell (p := ⟨g, 0, none⟩) hzz.1 (.slice ad2 cs.length cap2)).setCell (p := ⟨h, 0, none⟩) (by show _ ≤ h; omega) (.bool ok)
          have kc : ((W.setCell ⟨g, 0, none⟩ (.slice ad2 cs.length cap2)).setCell ⟨h, 0, none⟩ (.bool ok)).cell? ⟨g, 0, none⟩ = some (.slice ad2 cs.length cap2) := (World.cell?_setCell_other _ _ _ _ (by intro e; exact hhg (congrArg Addr.block e))).trans (World.cell?_setCell_same _ _ _ kW)
          have hc : ((W.setCell ⟨g, 0, none⟩ (.slice ad2 cs.length cap2)).setCell ⟨h, 0, none⟩ (.bool ok)).cell? ⟨h, 0, none⟩ = some (.bool ok) := World.cell?_setCell_same _ _ _ ((World.cell?_setCell_other _ _ _ _ (by intro e; exact hgh (congrArg Addr.block e))).trans hW)
          refine ⟨_, rfl, (hbk _ (by omega) (by omega)).trans hK, ?_⟩
          generalize (W.setCell ⟨g, 0, none⟩ (.slice ad2 cs.length cap2)).setCell ⟨h, 0, none⟩ (.bool ok) = W3 at *
          have hgp : W3.grownBy (W3.putObj wl.heap.size (.deferred none)) (some wl.heap.size) := ⟨rfl, rfl, rfl, by simp, fun k _ hk => World.putObj_heap_other (fun e => hk (by rw [e]))⟩
          exact ⟨(World.cell?_of_block (World.putObj_heap_other (fun e => by have e2 : g = wl.heap.size := e; omega))).trans kc, (World.cell?_of_block (World.putObj_heap_other (fun e => by have e2 : h = wl.heap.size := e; omega))).trans hc, cs, ok, hrel, ⟨ad2, cap2, rfl, (hg2.grown hgp (fun j _ hj _ e => by cases e; omega)).mono (by omega), hrm2⟩, hbW2.grown hgp hbW2.size (fun j e => by cases e; omega)⟩
        by_cases hlen : (joinN ps qs (joinNs ps qs)).length ≤ 200
        · have hlen' : ¬ (200 : Int) < (joinN ps qs (joinNs ps qs)).length := by omega
          obtain ⟨W3, hW3, hK3, kc, hc, hpost⟩ := fin (joinN ps qs (joinNs ps qs)) true ad cap (.inr ⟨HVT.out, HVU.out, .inr ⟨HNC.out, .inr ⟨hlen, rfl, rfl⟩⟩⟩) hcl hrm
          have HP : Keep _ := ⟨hpost⟩
          clear fin hcl hbW hpost hrm
          gi_wp2
          rw [← hW3]
          refine ⟨by simp, .inl ⟨_, _, rfl, run_takeDeferred hK3, ?_⟩⟩
          refine ⟨_, ?_, HP.out⟩
          simp [results, Try.f13, go_sem, kc, hc]
        · have hlen' : (200 : Int) < (joinN ps qs (joinNs ps qs)).length := by omega
          obtain ⟨W3, hW3, hK3, kc, hc, hpost⟩ := fin [] false none 0 (.inr ⟨HVT.out, HVU.out, .inr ⟨HNC.out, .inl ⟨by omega, rfl, rfl⟩⟩⟩) (CL.nil _ _ _) (Nat.le_refl _)
          have HP : Keep _ := ⟨hpost⟩
          replace hW3 : W3 = (W.setCell ⟨g, 0, none⟩ (.slice none 0 0)).setCell ⟨h, 0, none⟩ (.bool false) := hW3
          clear fin hcl hbW hpost hrm
          gi_wp2
          rw [← hW3]
          refine ⟨by simp, .inl ⟨_, _, rfl, run_takeDeferred hK3, ?_⟩⟩
          refine ⟨_, ?_, HP.out⟩
          simp [results, Try.f13, go_sem, kc, hc]
      case stop =>
        rintro pre W hpre ⟨⟨x, hx, hcl⟩, hb, c1, c2⟩ hK
        have hcn : ∃ n ∈ joinNs ps qs, clJ ps qs n = true := by
          have hm := hpre.subset hx
          rw [mrgC_is HVT.out HVU.out] at hm
          obtain ⟨n, hn', rfl⟩ := List.mem_map.1 hm
          exact ⟨n, hn', hcl⟩
        clear wsz
        gi_wp2
        refine ⟨by simp, .inl ⟨_, _, rfl, run_takeDeferred hK, ?_⟩⟩
        have hgp : W.grownBy (W.putObj wl.heap.size (.deferred none)) (some wl.heap.size) := ⟨rfl, rfl, rfl, by simp, fun k _ hk => World.putObj_heap_other (fun e => hk (by rw [e]))⟩
        have kc : (W.putObj wl.heap.size (.deferred none)).cell? ⟨g, 0, none⟩ = some (.slice none 0 0) := (World.cell?_of_block (World.putObj_heap_other (fun e => by have := HL.out; have e2 : g = wl.heap.size := e; omega))).trans c1
        have hc : (W.putObj wl.heap.size (.deferred none)).cell? ⟨h, 0, none⟩ = some (.bool false) := (World.cell?_of_block (World.putObj_heap_other (fun e => by have := HL.out; have e2 : h = wl.heap.size := e; omega))).trans c2
        refine ⟨.tuple #[.agg #[.slice none ([] : List Ch).length 0], .bool false], ?_, [], false, .inr ⟨HVT.out, HVU.out, .inl ⟨hcn, rfl, rfl⟩⟩, ⟨none, 0, rfl, CL.nil _ _ _, Nat.le_refl _⟩, hb.grown hgp hb.size (fun j e => by have := HL.out; cases e; omega)⟩
        simp [results, Try.f13, go_sem, kc, hc]
theorem implJoin_any (a b : Option Addr) (ca cb : Nat) (ps qs : List Ch) (w : World) (hps : CS w a ps) (hqs : CS w b qs) (hn : ps.length ≤ 1048576) (hnb : qs.length ≤ 1048576) (hca : ps.length ≤ ca) (hcb : qs.length ≤ cb) (hz : ∀ c ∈ ps, c.path.size ≤ 1048576) (hzb : ∀ c ∈ qs, c.path.size ≤ 1048576) :
    Calls Try.prog 13 #[.agg #[.slice a ps.length ca], .agg #[.slice b qs.length cb]] w fun e w' => JoinPost ps qs w e w' :=
  (implJoinC_any a b ca cb ps qs w hps hqs hn hnb hca hcb hz hzb).mono (fun _ _ ⟨cs, ok, h1, ⟨ad, cap, h2, h3, _⟩, h4⟩ => ⟨cs, ok, h1, ⟨ad, cap, h2, h3⟩, h4⟩)
end Go.Proofs.Ytjlflmbifeocbaa

namespace Go.Proofs.Ytjlflmbifeocbaa
open Go.RowKit

set_option maxRecDepth 100000 in
theorem mp_e (x : Value) (w : World) : (method 245 57 x "loop.example/kilntree/impl.path").run Try.prog w = .ok (109, x) w := by kernel_rfl
set_option maxRecDepth 100000 in
theorem cp_e (x : Value) (w : World) : (callFunc 109 #[x]).run Try.prog w = .ok (.enter 109 #[x]) w := by kernel_rfl

theorem pathE_any (e : En) (w : World) : Calls Try.prog 109 #[.agg #[.string e.path, .string e.text, .bool e.runs]] w fun r w' => r = .returned (.string e.path) ∧ Below w.heap.size w w' := by
  go_enter Try.func109, Try.ntmps109
  go_wp2
  go_ret
  exact ⟨rfl, (Below.refl _ _).alloc (Nat.le_refl _) _⟩
end Go.Proofs.Ytjlflmbifeocbaa

namespace Go.Proofs.Ytjlflmbifeocbaa
open Go.RowKit

set_option maxRecDepth 100000 in
set_option maxHeartbeats 4000000 in
theorem frontsEC_any (a b : Option Addr) (ca cb : Nat) (ts : List En) (us : List Ch) (w : World) (hts : ES w a ts) (hus : CS w b us) :
    Calls Try.prog 62 #[.slice a ts.length ca, .slice b us.length cb] w fun e w' => e = .returned (.int .i64 (frontG En.path Ch.path ts us)) ∧ Below w.heap.size w w' := by
  cases ts with
  | nil =>
    go_enter Try.func62, Try.ntmps62
    go_wp2
    go_ret
    exact ⟨rfl, Below.refl _ _⟩
  | cons x ts =>
    obtain ⟨b1, o1, rfl, hc1⟩ := hts.at (k := 0) (by simp)
    obtain ⟨x0, x1, x2⟩ := hc1 0 (by simp)
    simp only [List.getElem_cons_zero, Nat.zero_mul, Nat.add_zero] at x0 x1 x2
    have hl1 : (((x :: ts).length : Int) == 0) = false := by simp; omega
    have hl1' : (0 : Int) < (x :: ts).length := by rw [List.length_cons]; omega
    clear hc1 hts
    cases us with
    | nil =>
      generalize (x :: ts).length = n1 at *
      go_enter Try.func62, Try.ntmps62
      go_wp2
      go_ret
      exact ⟨rfl, Below.refl _ _⟩
    | cons y us =>
      obtain ⟨b2, o2, rfl, hc2⟩ := hus.at (k := 0) (by simp)
      obtain ⟨y0, y1, y2, y3, y4, y5, y6⟩ := hc2 0 (by simp)
      simp only [List.getElem_cons_zero, Nat.zero_mul, Nat.add_zero] at y0 y1 y2 y3 y4 y5 y6
      have hl2 : (((y :: us).length : Int) == 0) = false := by simp; omega
      have hl2' : (0 : Int) < (y :: us).length := by rw [List.length_cons]; omega
      clear hc2 hus
      generalize (x :: ts).length = n1 at *
      generalize (y :: us).length = n2 at *
      have cx0 : ∀ z : Later w, z.world.cell? ⟨b1, o1, none⟩ = some (.string x.path) := fun z => cell_later z.kept x0
      have cx1 : ∀ z : Later w, z.world.cell? ⟨b1, o1 + 1, none⟩ = some (.string x.text) := fun z => cell_later z.kept x1
      have cx2 : ∀ z : Later w, z.world.cell? ⟨b1, o1 + 2, none⟩ = some (.bool x.runs) := fun z => cell_later z.kept x2
      have cy0 : ∀ z : Later w, z.world.cell? ⟨b2, o2, none⟩ = some (.string y.path) := fun z => cell_later z.kept y0
      have cy1 : ∀ z : Later w, z.world.cell? ⟨b2, o2 + 1, none⟩ = some (.bool y.old.there) := fun z => cell_later z.kept y1
      have cy2 : ∀ z : Later w, z.world.cell? ⟨b2, o2 + 2, none⟩ = some (.string y.old.text) := fun z => cell_later z.kept y2
      have cy3 : ∀ z : Later w, z.world.cell? ⟨b2, o2 + 3, none⟩ = some (.bool y.old.runs) := fun z => cell_later z.kept y3
      have cy4 : ∀ z : Later w, z.world.cell? ⟨b2, o2 + 4, none⟩ = some (.bool y.new.there) := fun z => cell_later z.kept y4
      have cy5 : ∀ z : Later w, z.world.cell? ⟨b2, o2 + 5, none⟩ = some (.string y.new.text) := fun z => cell_later z.kept y5
      have cy6 : ∀ z : Later w, z.world.cell? ⟨b2, o2 + 6, none⟩ = some (.bool y.new.runs) := fun z => cell_later z.kept y6
      have HC1 : Keep (∀ z : Later w, Calls Try.prog 109 #[.agg #[.string x.path, .string x.text, .bool x.runs]] z.world fun e w'' => e = .returned (.string x.path) ∧ ∃ q : Later w, w'' = q.world) := ⟨fun z => Later.call z (pathE_any x _)⟩
      have HC2 : Keep (∀ z : Later w, Calls Try.prog 111 #[.agg #[.string y.path, .bool y.old.there, .string y.old.text, .bool y.old.runs, .bool y.new.there, .string y.new.text, .bool y.new.runs]] z.world fun e w'' => e = .returned (.string y.path) ∧ ∃ q : Later w, w'' = q.world) := ⟨fun z => Later.call z (pathC_any y _)⟩
      have HC3 : Keep (∀ z : Later w, Calls Try.prog 71 #[.string x.path, .string y.path] z.world fun e w'' => e = .returned (.int .i64 (Lib.compareBytes x.path.data.toList y.path.data.toList)) ∧ ∃ q : Later w, w'' = q.world) := ⟨fun z => Later.call z ((compare_any x.path y.path z.world).mono (fun e w' h => ⟨h.1, by rw [h.2]; exact Below.refl _ _⟩))⟩
      have HCM : Keep (frontG En.path Ch.path (x :: ts) (y :: us) = Lib.compareBytes x.path.data.toList y.path.data.toList) := ⟨rfl⟩
      clear x0 x1 x2 y0 y1 y2 y3 y4 y5 y6
      have hmp := mp_e
      have hcp := cp_e
      have hmp2 := mp_c
      have hcp2 := cp_c
      go_enter Try.func62, Try.ntmps62
      go_upto_region 5 with fail
      (haveI := later_any; refine wp_region_later (by kernel_rfl) (by kernel_rfl) ?_; (repeat (go_big_quiet_step (first | (go_at_call_of 109 ([Value.agg #[.string x.path, .string x.text, .bool x.runs]] : List Value); exact HC1.out _) | (go_at_call_of 111 ([Value.agg #[.string y.path, .bool y.old.there, .string y.old.text, .bool y.old.runs, .bool y.new.there, .string y.new.text, .bool y.new.runs]] : List Value); exact HC2.out _) | (go_at_call 71; exact HC3.out _)))); refine wpQuiet_nil ?_; intro _ hwq; obtain ⟨xq, hwq2⟩ := hwq; subst hwq2)
      go_wp2
      go_ret
      exact ⟨by rw [HCM.out]; rfl, xq.kept⟩
end Go.Proofs.Ytjlflmbifeocbaa

namespace Go.Proofs.Ytjlflmbifeocbaa
open Go.RowKit

/-- The entry that is nothing. -/
def zeroE : En := ⟨⟨#[]⟩, ⟨#[]⟩, false⟩
def cutEV (e : En) : Value := .agg #[.string e.path, .string e.text, .bool e.runs]

set_option maxRecDepth 100000 in
theorem cutEn (a : Option Addr) (cp : Nat) (ts : List En) (k : Nat) (hk : k ≤ ts.length) (hc : ts.length ≤ cp) : ∃ ad' c', (∀ w1, (Instr.sliceAt 23 (.slice a ts.length cp) (some (.int .i64 (k : Int))) none none).run Try.prog w1 = .ok (.slice ad' (ts.drop k).length c') w1) ∧ ∀ W, ES W a ts → ES W ad' (ts.drop k) := by
  have hrun : ∀ w1, (Instr.sliceAt 23 (.slice a ts.length cp) (some (.int .i64 (k : Int))) none none).run Try.prog w1 = .ok (sliced a k ts.length cp 3) w1 := fun w1 => by
    rw [run_sliceAt_slice w1 _ _ _ _ _ Try.underlying23, run_slice_l w1 _ _ _ _ Try.underlying23 .i64 (k : Int) (by omega) (by omega)]
    have hz : (sizeOf (Try.prog.elem 23)).run Try.prog w1 = .ok 3 w1 := by kernel_rfl
    rw [hz, show (k : Int).toNat = k by omega]
    rfl
  refine ⟨if cp = k then a else a.map (·.add (k * 3)), cp - k, fun w1 => by rw [hrun w1, List.length_drop]; rfl, fun W hE => ?_⟩
  rcases hE with h | ⟨b, off, rfl, hcl⟩
  · subst h; exact .inl (by simp)
  · by_cases hl : k = ts.length
    · subst hl; exact .inl (by simp)
    · rw [if_neg (by omega)]
      refine .inr ⟨b, off + k * 3, by rw [Option.map_some, WideShapes.add_plain], fun i hi => ?_⟩
      rw [List.length_drop] at hi
      obtain ⟨c0, c1, c2⟩ := hcl (k + i) (by omega)
      rw [List.getElem_drop]
      rw [show off + k * 3 + i * 3 = off + (k + i) * 3 by omega]
      exact ⟨c0, c1, c2⟩

theorem ES.cells {w : World} {b off : Nat} {ts : List En} (h : ES w (some ⟨b, off, none⟩) ts) {k : Nat} (hk : k < ts.length) :
    w.cell? ⟨b, off + k * 3, none⟩ = some (.string ts[k].path) ∧ w.cell? ⟨b, off + k * 3 + 1, none⟩ = some (.string ts[k].text) ∧ w.cell? ⟨b, off + k * 3 + 2, none⟩ = some (.bool ts[k].runs) := by
  obtain ⟨b', o', ha, hc⟩ := h.at hk
  simp only [Option.some.injEq, Addr.mk.injEq, and_true] at ha
  obtain ⟨rfl, rfl⟩ := ha
  exact hc k hk

theorem box3_set {X : World} {g : Nat} {u0 u1 u2 : Value} (v0 v1 v2 : Value) (h0 : X.cell? ⟨g, 0, none⟩ = some u0) (h1 : X.cell? ⟨g, 1, none⟩ = some u1) (h2 : X.cell? ⟨g, 2, none⟩ = some u2) :
    (((X.setCell ⟨g, 0, none⟩ v0).setCell ⟨g, 1, none⟩ v1).setCell ⟨g, 2, none⟩ v2).cell? ⟨g, 0, none⟩ = some v0 ∧ (((X.setCell ⟨g, 0, none⟩ v0).setCell ⟨g, 1, none⟩ v1).setCell ⟨g, 2, none⟩ v2).cell? ⟨g, 1, none⟩ = some v1 ∧ (((X.setCell ⟨g, 0, none⟩ v0).setCell ⟨g, 1, none⟩ v1).setCell ⟨g, 2, none⟩ v2).cell? ⟨g, 2, none⟩ = some v2 := by
  refine ⟨?_, ?_, ?_⟩
  · rw [World.cell?_setCell_other _ _ _ _ (by simp), World.cell?_setCell_other _ _ _ _ (by simp)]; exact World.cell?_setCell_same _ _ _ h0
  · rw [World.cell?_setCell_other _ _ _ _ (by simp)]; exact World.cell?_setCell_same _ _ _ ((World.cell?_setCell_other _ _ _ _ (by simp)).trans h1)
  · exact World.cell?_setCell_same _ _ _ ((World.cell?_setCell_other _ _ _ _ (by simp)).trans ((World.cell?_setCell_other _ _ _ _ (by simp)).trans h2))
theorem box3_other {X : World} {g h j : Nat} (v0 v1 v2 : Value) (hn : ¬ g = h) : (((X.setCell ⟨g, 0, none⟩ v0).setCell ⟨g, 1, none⟩ v1).setCell ⟨g, 2, none⟩ v2).cell? ⟨h, j, none⟩ = X.cell? ⟨h, j, none⟩ := by
  have hne : ∀ k, (⟨g, k, none⟩ : Addr) ≠ ⟨h, j, none⟩ := fun k e => hn (congrArg Addr.block e)
  rw [World.cell?_setCell_other _ _ _ _ (hne _), World.cell?_setCell_other _ _ _ _ (hne _), World.cell?_setCell_other _ _ _ _ (hne _)]
theorem box3_below {w X : World} {g : Nat} (v0 v1 v2 : Value) (hX : Below w.heap.size w X) (hg : w.heap.size ≤ g) : Below w.heap.size w (((X.setCell ⟨g, 0, none⟩ v0).setCell ⟨g, 1, none⟩ v1).setCell ⟨g, 2, none⟩ v2) :=
  (((hX.setCell (p := ⟨g, 0, none⟩) hg _).setCell (p := ⟨g, 1, none⟩) hg _).setCell (p := ⟨g, 2, none⟩) hg _)
theorem box3_fz {X : World} {g : Nat} {p : Addr} (v0 v1 v2 : Value) : (((X.setCell ⟨g, 0, none⟩ v0).setCell ⟨g, 1, none⟩ v1).setCell ⟨g, 2, none⟩ v2).frozen? p = X.frozen? p := by
  rw [World.frozen?_setCell, World.frozen?_setCell, World.frozen?_setCell]
end Go.Proofs.Ytjlflmbifeocbaa

namespace Go.Proofs.Ytjlflmbifeocbaa
open Go.RowKit Go.Shelf

attribute [local go_sem] Oper.semAt_some

abbrev PEC : Type := ByteArray × Option En × Option Ch
def yEC (x : PEC) : Array Value := #[cutEV (x.2.1.getD zeroE), cutCV (x.2.2.getD noCh)]

theorem two_boxesEC {w A X : World} {t t2 : TypeId} (hA : A = (w.alloc (.cells #[.string ⟨#[]⟩, .string ⟨#[]⟩, .bool false] t)).alloc (.cells #[.string ⟨#[]⟩, .bool false, .string ⟨#[]⟩, .bool false, .bool false, .string ⟨#[]⟩, .bool false] t2)) (hb : Below A.heap.size A X) :
    (X.cell? ⟨w.heap.size, 0, none⟩ = some (.string ⟨#[]⟩) ∧ X.cell? ⟨w.heap.size, 1, none⟩ = some (.string ⟨#[]⟩) ∧ X.cell? ⟨w.heap.size, 2, none⟩ = some (.bool false)) ∧ (X.cell? ⟨w.heap.size + 1, 0, none⟩ = some (.string ⟨#[]⟩) ∧ X.cell? ⟨w.heap.size + 1, 1, none⟩ = some (.bool false) ∧ X.cell? ⟨w.heap.size + 1, 2, none⟩ = some (.string ⟨#[]⟩) ∧ X.cell? ⟨w.heap.size + 1, 3, none⟩ = some (.bool false) ∧ X.cell? ⟨w.heap.size + 1, 4, none⟩ = some (.bool false) ∧ X.cell? ⟨w.heap.size + 1, 5, none⟩ = some (.string ⟨#[]⟩) ∧ X.cell? ⟨w.heap.size + 1, 6, none⟩ = some (.bool false)) ∧ (∀ j, X.frozen? ⟨w.heap.size, j, none⟩ = false) ∧ ∀ j, X.frozen? ⟨w.heap.size + 1, j, none⟩ = false := by
  have hl : w.heap.size + 1 < A.heap.size := by rw [hA]; simp
  refine ⟨⟨cell_later hb (by rw [hA]; simp [go_sem]), cell_later hb (by rw [hA]; simp [go_sem]), cell_later hb (by rw [hA]; simp [go_sem])⟩, ⟨cell_later hb (by rw [hA]; simp [go_sem]), cell_later hb (by rw [hA]; simp [go_sem]), cell_later hb (by rw [hA]; simp [go_sem]), cell_later hb (by rw [hA]; simp [go_sem]), cell_later hb (by rw [hA]; simp [go_sem]), cell_later hb (by rw [hA]; simp [go_sem]), cell_later hb (by rw [hA]; simp [go_sem])⟩, fun j => ?_, fun j => ?_⟩
  · exact (hb.frozen (p := ⟨w.heap.size, j, none⟩) (by show w.heap.size < _; omega)).trans (by rw [hA]; simp [go_sem])
  · exact (hb.frozen (p := ⟨w.heap.size + 1, j, none⟩) (by show w.heap.size + 1 < _; omega)).trans (by rw [hA]; simp [go_sem])

def sideMemEC (Ba Bb : Nat) (a b : Option Addr) (ca cb : Nat) (ts : List En) (us : List Ch) (W : World) : Prop :=
  W.cell? ⟨Ba, 0, none⟩ = some (.slice a ts.length ca) ∧ W.cell? ⟨Bb, 0, none⟩ = some (.slice b us.length cb) ∧ ES W a ts ∧ CS W b us

def mrgEC (ts : List En) (us : List Ch) : List PEC := mrg En.path Ch.path (ts.length + us.length) ts us

set_option maxRecDepth 100000 in
set_option maxHeartbeats 8000000 in
theorem sideEC1_in (n l Ba Bb : Nat) (a b : Option Addr) (ca cb : Nat) (ts : List En) (us : List Ch) (hca : ts.length ≤ ca) (hcb : us.length ≤ cb) (hnt : ts.length ≤ 1048576) (hnu : us.length ≤ 1048576)
    (J Jx : List PEC → World → Prop) (W : World)
    (hM : ∀ pre W1, J pre W1 → sideMemEC Ba Bb a b ca cb ts us W1)
    (hJ : ∀ pre W1 W2, J pre W1 → Below W1.heap.size W1 W2 → J pre W2)
    (hY : ∀ pre x W1, J pre W1 → (∃ r, mrgEC ts us = (pre ++ [x]) ++ r) → YieldAt Fence.wide (n - 1) Try.prog l (yEC x) W1 fun e W' =>
      (e = .returned (.bool true) ∧ J (pre ++ [x]) W') ∨ (e = .returned (.bool false) ∧ Jx (pre ++ [x]) W'))
    (h0 : J [] W) :
    CallsIn Fence.wide n Try.prog 61 #[.func (.yield l) #[] #[], .pointer (some ⟨Ba, 0, none⟩), .pointer (some ⟨Bb, 0, none⟩)] W fun e W' => (∃ v, e = .returned v) ∧
      (J (mrgEC ts us) W' ∨ (∃ pre, pre <+: mrgEC ts us ∧ Jx pre W')) := by
  refine callsIn_of_wp Try.func61 rfl trivial ?_ rfl
  simp only [Try.ntmps61, List.size_toArray, List.length_cons, List.length_nil, Nat.reduceAdd, Nat.reduceSub, Array.replicate_succ, Array.replicate_zero, List.push_toArray, List.append_toArray, List.nil_append, List.cons_append]
  gi_wp2
  gi_loopw [4, 5] (fun i j wr => ∃ (p q f : Nat) (pre : List PEC), i = .int .i64 p ∧ j = .int .i64 q ∧ p ≤ ts.length ∧ q ≤ us.length ∧ (ts.length - p) + (us.length - q) ≤ f ∧ mrgEC ts us = pre ++ mrg En.path Ch.path f (ts.drop p) (us.drop q) ∧ J pre wr)
    (fun i j _ => (ts.length - (intOf i).toNat) + (us.length - (intOf j).toNat))
  case atStart => exact ⟨0, 0, ts.length + us.length, [], rfl, rfl, Nat.zero_le _, Nat.zero_le _, by omega, by simp [mrgEC], h0⟩
  case round =>
    obtain ⟨p, q, f, pre, rfl, rfl, hp, hq, hf, hm, hJs⟩ := hrel
    obtain ⟨m1, m2, e1, e2⟩ := hM pre wr hJs
    by_cases hend : p = ts.length ∧ q = us.length
    · obtain ⟨rfl, rfl⟩ := hend
      have hE : mrgEC ts us = pre := by
        rw [hm]
        cases f with
        | zero => simp [mrg]
        | succ f => simp [mrg]
      gi_wp2
      go_end0
      exact ⟨⟨_, rfl⟩, .inl (by rw [hE]; exact hJs)⟩
    · obtain ⟨ad1, c1, hs1, hes1⟩ := cutEn a ca ts p hp hca
      obtain ⟨ad2, c2, hs2, hes2⟩ := cutC b cb us q hq hcb
      have hal : Below wr.heap.size wr ((wr.alloc (.cells #[.string ⟨#[]⟩, .string ⟨#[]⟩, .bool false] 57)).alloc (.cells #[.string ⟨#[]⟩, .bool false, .string ⟨#[]⟩, .bool false, .bool false, .string ⟨#[]⟩, .bool false] 68)) := ((Below.refl _ _).alloc (Nat.le_refl _) _).alloc (by simp) _
      obtain ⟨A, hA⟩ : ∃ A, A = (wr.alloc (.cells #[.string ⟨#[]⟩, .string ⟨#[]⟩, .bool false] 57)).alloc (.cells #[.string ⟨#[]⟩, .bool false, .string ⟨#[]⟩, .bool false, .bool false, .string ⟨#[]⟩, .bool false] 68) := ⟨_, rfl⟩
      rw [← hA] at hal
      have cm1 : ∀ z : Later A, z.world.cell? ⟨Ba, 0, none⟩ = some (.slice a ts.length ca) := fun z => cell_later z.kept (cell_later hal m1)
      have cm2 : ∀ z : Later A, z.world.cell? ⟨Bb, 0, none⟩ = some (.slice b us.length cb) := fun z => cell_later z.kept (cell_later hal m2)
      have HF : Keep (∀ z : Later A, Calls Try.prog 62 #[.slice ad1 (ts.drop p).length c1, .slice ad2 (us.drop q).length c2] z.world fun e w'' => e = .returned (.int .i64 (frontG En.path Ch.path (ts.drop p) (us.drop q))) ∧ ∃ y : Later A, w'' = y.world) := ⟨fun z => Later.call z (frontsEC_any ad1 ad2 c1 c2 (ts.drop p) (us.drop q) z.world (hes1 _ ((e1.below hal).below z.kept)) (hes2 _ ((e2.below hal).below z.kept)))⟩
      generalize hda : (ts.drop p).length = na at hs1 HF
      generalize hdb : (us.drop q).length = nb at hs2 HF
      obtain ⟨f, rfl⟩ : ∃ f', f = f' + 1 := ⟨f - 1, by omega⟩
      have hnn : ¬ (ts.drop p = [] ∧ us.drop q = []) := fun h => hend ⟨by have := congrArg List.length h.1; simp at this; omega, by have := congrArg List.length h.2; simp at this; omega⟩
      generalize ho : frontG En.path Ch.path (ts.drop p) (us.drop q) = o at HF
      rcases Int.lt_trichotomy o 0 with hlt | heq | hgt
      · obtain ⟨x, tr, hd, hmr⟩ := frontG_lt (f := f) (by rw [ho]; exact hlt)
        obtain ⟨hpl, rfl, rfl⟩ := drop_cons hd
        rw [hmr] at hm
        rw [List.append_cons] at hm
        obtain ⟨b1, o1, rfl, hc1⟩ := e1.at hpl
        have hpl' : (p : Int) < ts.length := by omega
        have ho1 : o ≤ 0 := by omega
        have ho2 : ¬ 0 ≤ o := by omega
        clear hc1 hd hmr hnn ho hend hlt
        gi_wp2
        rw [← hA]
        refine wpIn_wide.2 ?_
        (haveI := later_any; refine wp_region_later (by kernel_rfl) (by kernel_rfl) ?_; (repeat (go_big_quiet_step (first | (go_at_call 62; exact HF.out _)))); refine wpQuiet_nil ?_; intro _ hwq; obtain ⟨xq, hwq2⟩ := hwq; subst hwq2)
        have hX := hal.trans (xq.kept.mono hal.size)
        obtain ⟨⟨b60, b61, b62⟩, ⟨b70, b71, b72, b73, b74, b75, b76⟩, f6, f7⟩ := two_boxesEC hA xq.kept
        have HE1 : Keep (ES wr (some ⟨b1, o1, none⟩) ts) := ⟨e1⟩
        have HE2 : Keep (CS wr b us) := ⟨e2⟩
        have HM1 : Keep (wr.cell? ⟨Ba, 0, none⟩ = some (.slice (some ⟨b1, o1, none⟩) ts.length ca)) := ⟨m1⟩
        have HM2 : Keep (wr.cell? ⟨Bb, 0, none⟩ = some (.slice b us.length cb)) := ⟨m2⟩
        clear hs1 hs2 hes1 hes2 HF cm1 cm2 e1 e2 m1 m2 hA hal
        generalize xq.world = X at *
        clear xq
        obtain ⟨g6, hg6⟩ : ∃ g, g = wr.heap.size := ⟨_, rfl⟩
        obtain ⟨g7, hg7⟩ : ∃ g, g = wr.heap.size + 1 := ⟨_, rfl⟩
        rw [← hg7] at b70 b71 b72 b73 b74 b75 b76 f7 ⊢
        rw [← hg6] at b60 b61 b62 f6 ⊢
        have hn67 : ¬ g6 = g7 := by omega
        have HG : Keep (wr.heap.size ≤ g6 ∧ wr.heap.size ≤ g7) := ⟨by omega⟩
        clear hg6 hg7
        have q1 := cell_later hX HM1.out
        obtain ⟨x0, x1, x2⟩ := (HE1.out.below hX).cells hpl
        gi_upto_region 8 with fail
        replace hX := box3_below (.string ts[p].path) (.string ts[p].text) (.bool ts[p].runs) hX HG.out.1
        obtain ⟨z0, z1, z2⟩ := box3_set (.string ts[p].path) (.string ts[p].text) (.bool ts[p].runs) b60 b61 b62
        replace b70 := (box3_other (.string ts[p].path) (.string ts[p].text) (.bool ts[p].runs) hn67).trans b70
        replace b71 := (box3_other (.string ts[p].path) (.string ts[p].text) (.bool ts[p].runs) hn67).trans b71
        replace b72 := (box3_other (.string ts[p].path) (.string ts[p].text) (.bool ts[p].runs) hn67).trans b72
        replace b73 := (box3_other (.string ts[p].path) (.string ts[p].text) (.bool ts[p].runs) hn67).trans b73
        replace b74 := (box3_other (.string ts[p].path) (.string ts[p].text) (.bool ts[p].runs) hn67).trans b74
        replace b75 := (box3_other (.string ts[p].path) (.string ts[p].text) (.bool ts[p].runs) hn67).trans b75
        replace b76 := (box3_other (.string ts[p].path) (.string ts[p].text) (.bool ts[p].runs) hn67).trans b76
        replace f7 : ∀ j, (((X.setCell ⟨g6, 0, none⟩ (.string ts[p].path)).setCell ⟨g6, 1, none⟩ (.string ts[p].text)).setCell ⟨g6, 2, none⟩ (.bool ts[p].runs)).frozen? ⟨g7, j, none⟩ = false := fun j => (box3_fz (.string ts[p].path) (.string ts[p].text) (.bool ts[p].runs)).trans (f7 j)
        clear b60 b61 b62 x0 x1 x2 q1 f6
        generalize (((X.setCell ⟨g6, 0, none⟩ (.string ts[p].path)).setCell ⟨g6, 1, none⟩ (.string ts[p].text)).setCell ⟨g6, 2, none⟩ (.bool ts[p].runs)) = X2 at *
        clear X
        have hY3 : YieldAt Fence.wide (n - 1) Try.prog l #[.agg #[.string ts[p].path, .string ts[p].text, .bool ts[p].runs], .agg #[.string ⟨#[]⟩, .bool false, .string ⟨#[]⟩, .bool false, .bool false, .string ⟨#[]⟩, .bool false]] X2 (fun e W' => (e = .returned (.bool true) ∧ J (pre ++ [(ts[p].path, some ts[p], none)]) W') ∨ (e = .returned (.bool false) ∧ Jx (pre ++ [(ts[p].path, some ts[p], none)]) W')) := hY pre (ts[p].path, some ts[p], none) _ (hJ pre wr _ hJs hX) ⟨_, hm⟩
        obtain ⟨fn, tmps, assign, body, hy, hR⟩ := hY3
        have HM : Keep (mrgEC ts us = pre ++ [(ts[p].path, some ts[p], none)] ++ mrg En.path Ch.path f (ts.drop (p + 1)) (us.drop (q))) := ⟨hm⟩
        clear hY hJ hM hm hJs hX
        gi_wp2
        refine ⟨fun h => Bool.noConfusion h, hR.mono ?_⟩
        rintro e W3 (⟨rfl, hJ3⟩ | ⟨rfl, hJx3⟩)
        · gi_wp2
          go_roundw
          case rel => exact ⟨p + 1, q, f, pre ++ [(ts[p].path, some ts[p], none)], by congr 1, by congr 1, by omega, by omega, by omega, HM.out, hJ3⟩
          case measure => simp only [intOf]; omega
        · gi_wp2
          refine bodyPost_ret (results_none rfl _ _ _) rfl ?_
          exact ⟨⟨_, rfl⟩, .inr ⟨pre ++ [(ts[p].path, some ts[p], none)], ⟨_, HM.out.symm⟩, hJx3⟩⟩
      · obtain ⟨x, tr, y, ur, hd, hd2, hmr⟩ := frontG_eq (f := f) (by rw [ho]; exact heq)
        obtain ⟨hpl, rfl, rfl⟩ := drop_cons hd
        obtain ⟨hql, rfl, rfl⟩ := drop_cons hd2
        rw [hmr] at hm
        rw [List.append_cons] at hm
        obtain ⟨b1, o1, rfl, hc1⟩ := e1.at hpl
        obtain ⟨b2, o2, rfl, hc2⟩ := e2.at hql
        have hpl' : (p : Int) < ts.length := by omega
        have hql' : (q : Int) < us.length := by omega
        subst heq
        clear hc1 hc2 hd hd2 hmr hnn ho hend
        gi_wp2
        rw [← hA]
        refine wpIn_wide.2 ?_
        (haveI := later_any; refine wp_region_later (by kernel_rfl) (by kernel_rfl) ?_; (repeat (go_big_quiet_step (first | (go_at_call 62; exact HF.out _)))); refine wpQuiet_nil ?_; intro _ hwq; obtain ⟨xq, hwq2⟩ := hwq; subst hwq2)
        have hX := hal.trans (xq.kept.mono hal.size)
        obtain ⟨⟨b60, b61, b62⟩, ⟨b70, b71, b72, b73, b74, b75, b76⟩, f6, f7⟩ := two_boxesEC hA xq.kept
        have HE1 : Keep (ES wr (some ⟨b1, o1, none⟩) ts) := ⟨e1⟩
        have HE2 : Keep (CS wr (some ⟨b2, o2, none⟩) us) := ⟨e2⟩
        have HM1 : Keep (wr.cell? ⟨Ba, 0, none⟩ = some (.slice (some ⟨b1, o1, none⟩) ts.length ca)) := ⟨m1⟩
        have HM2 : Keep (wr.cell? ⟨Bb, 0, none⟩ = some (.slice (some ⟨b2, o2, none⟩) us.length cb)) := ⟨m2⟩
        clear hs1 hs2 hes1 hes2 HF cm1 cm2 e1 e2 m1 m2 hA hal
        generalize xq.world = X at *
        clear xq
        obtain ⟨g6, hg6⟩ : ∃ g, g = wr.heap.size := ⟨_, rfl⟩
        obtain ⟨g7, hg7⟩ : ∃ g, g = wr.heap.size + 1 := ⟨_, rfl⟩
        rw [← hg7] at b70 b71 b72 b73 b74 b75 b76 f7 ⊢
        rw [← hg6] at b60 b61 b62 f6 ⊢
        have hn67 : ¬ g6 = g7 := by omega
        have HG : Keep (wr.heap.size ≤ g6 ∧ wr.heap.size ≤ g7) := ⟨by omega⟩
        clear hg6 hg7
        have q1 := cell_later hX HM1.out
        obtain ⟨x0, x1, x2⟩ := (HE1.out.below hX).cells hpl
        gi_upto_region 8 with fail
        replace hX := box3_below (.string ts[p].path) (.string ts[p].text) (.bool ts[p].runs) hX HG.out.1
        obtain ⟨z0, z1, z2⟩ := box3_set (.string ts[p].path) (.string ts[p].text) (.bool ts[p].runs) b60 b61 b62
        replace b70 := (box3_other (.string ts[p].path) (.string ts[p].text) (.bool ts[p].runs) hn67).trans b70
        replace b71 := (box3_other (.string ts[p].path) (.string ts[p].text) (.bool ts[p].runs) hn67).trans b71
        replace b72 := (box3_other (.string ts[p].path) (.string ts[p].text) (.bool ts[p].runs) hn67).trans b72
        replace b73 := (box3_other (.string ts[p].path) (.string ts[p].text) (.bool ts[p].runs) hn67).trans b73
        replace b74 := (box3_other (.string ts[p].path) (.string ts[p].text) (.bool ts[p].runs) hn67).trans b74
        replace b75 := (box3_other (.string ts[p].path) (.string ts[p].text) (.bool ts[p].runs) hn67).trans b75
        replace b76 := (box3_other (.string ts[p].path) (.string ts[p].text) (.bool ts[p].runs) hn67).trans b76
        replace f7 : ∀ j, (((X.setCell ⟨g6, 0, none⟩ (.string ts[p].path)).setCell ⟨g6, 1, none⟩ (.string ts[p].text)).setCell ⟨g6, 2, none⟩ (.bool ts[p].runs)).frozen? ⟨g7, j, none⟩ = false := fun j => (box3_fz (.string ts[p].path) (.string ts[p].text) (.bool ts[p].runs)).trans (f7 j)
        clear b60 b61 b62 x0 x1 x2 q1 f6
        generalize (((X.setCell ⟨g6, 0, none⟩ (.string ts[p].path)).setCell ⟨g6, 1, none⟩ (.string ts[p].text)).setCell ⟨g6, 2, none⟩ (.bool ts[p].runs)) = X2 at *
        clear X
        have q2 := cell_later hX HM2.out
        obtain ⟨y0, y1, y2, y3, y4, y5, y6⟩ := (HE2.out.below hX).cells hql
        gi_upto_region 11 with fail
        replace hX := box7_below (.string us[q].path) (.bool us[q].old.there) (.string us[q].old.text) (.bool us[q].old.runs) (.bool us[q].new.there) (.string us[q].new.text) (.bool us[q].new.runs) hX HG.out.2
        obtain ⟨v0, v1, v2, v3, v4, v5, v6⟩ := box7_set (.string us[q].path) (.bool us[q].old.there) (.string us[q].old.text) (.bool us[q].old.runs) (.bool us[q].new.there) (.string us[q].new.text) (.bool us[q].new.runs) b70 b71 b72 b73 b74 b75 b76
        have hn76 : ¬ g7 = g6 := fun e => hn67 e.symm
        replace z0 := (box7_other (.string us[q].path) (.bool us[q].old.there) (.string us[q].old.text) (.bool us[q].old.runs) (.bool us[q].new.there) (.string us[q].new.text) (.bool us[q].new.runs) hn76).trans z0
        replace z1 := (box7_other (.string us[q].path) (.bool us[q].old.there) (.string us[q].old.text) (.bool us[q].old.runs) (.bool us[q].new.there) (.string us[q].new.text) (.bool us[q].new.runs) hn76).trans z1
        replace z2 := (box7_other (.string us[q].path) (.bool us[q].old.there) (.string us[q].old.text) (.bool us[q].old.runs) (.bool us[q].new.there) (.string us[q].new.text) (.bool us[q].new.runs) hn76).trans z2
        clear b70 b71 b72 b73 b74 b75 b76 y0 y1 y2 y3 y4 y5 y6 q2 f7
        generalize (((((((X2.setCell ⟨g7, 0, none⟩ (.string us[q].path)).setCell ⟨g7, 1, none⟩ (.bool us[q].old.there)).setCell ⟨g7, 2, none⟩ (.string us[q].old.text)).setCell ⟨g7, 3, none⟩ (.bool us[q].old.runs)).setCell ⟨g7, 4, none⟩ (.bool us[q].new.there)).setCell ⟨g7, 5, none⟩ (.string us[q].new.text)).setCell ⟨g7, 6, none⟩ (.bool us[q].new.runs)) = X3 at *
        have hY3 : YieldAt Fence.wide (n - 1) Try.prog l #[.agg #[.string ts[p].path, .string ts[p].text, .bool ts[p].runs], .agg #[.string us[q].path, .bool us[q].old.there, .string us[q].old.text, .bool us[q].old.runs, .bool us[q].new.there, .string us[q].new.text, .bool us[q].new.runs]] X3 (fun e W' => (e = .returned (.bool true) ∧ J (pre ++ [(ts[p].path, some ts[p], some us[q])]) W') ∨ (e = .returned (.bool false) ∧ Jx (pre ++ [(ts[p].path, some ts[p], some us[q])]) W')) := hY pre (ts[p].path, some ts[p], some us[q]) _ (hJ pre wr _ hJs hX) ⟨_, hm⟩
        obtain ⟨fn, tmps, assign, body, hy, hR⟩ := hY3
        have HM : Keep (mrgEC ts us = pre ++ [(ts[p].path, some ts[p], some us[q])] ++ mrg En.path Ch.path f (ts.drop (p + 1)) (us.drop (q + 1))) := ⟨hm⟩
        clear hY hJ hM hm hJs hX
        gi_wp2
        refine ⟨fun h => Bool.noConfusion h, hR.mono ?_⟩
        rintro e W3 (⟨rfl, hJ3⟩ | ⟨rfl, hJx3⟩)
        · gi_wp2
          go_roundw
          case rel => exact ⟨p + 1, q + 1, f, pre ++ [(ts[p].path, some ts[p], some us[q])], by congr 1, by congr 1, by omega, by omega, by omega, HM.out, hJ3⟩
          case measure => simp only [intOf]; omega
        · gi_wp2
          refine bodyPost_ret (results_none rfl _ _ _) rfl ?_
          exact ⟨⟨_, rfl⟩, .inr ⟨pre ++ [(ts[p].path, some ts[p], some us[q])], ⟨_, HM.out.symm⟩, hJx3⟩⟩
      · obtain ⟨y, ur, hd, hmr⟩ := frontG_gt (f := f) (by rw [ho]; exact hgt) hnn
        obtain ⟨hql, rfl, rfl⟩ := drop_cons hd
        rw [hmr] at hm
        rw [List.append_cons] at hm
        obtain ⟨b2, o2, rfl, hc2⟩ := e2.at hql
        have hql' : (q : Int) < us.length := by omega
        have ho1 : ¬ o ≤ 0 := by omega
        have ho2 : 0 ≤ o := by omega
        clear hc2 hd hmr hnn ho hend hgt
        by_cases hpl : p < ts.length
        · have hpl' : (p : Int) < ts.length := by omega
          gi_wp2
          rw [← hA]
          refine wpIn_wide.2 ?_
          (haveI := later_any; refine wp_region_later (by kernel_rfl) (by kernel_rfl) ?_; (repeat (go_big_quiet_step (first | (go_at_call 62; exact HF.out _)))); refine wpQuiet_nil ?_; intro _ hwq; obtain ⟨xq, hwq2⟩ := hwq; subst hwq2)
          have hX := hal.trans (xq.kept.mono hal.size)
          obtain ⟨⟨b60, b61, b62⟩, ⟨b70, b71, b72, b73, b74, b75, b76⟩, f6, f7⟩ := two_boxesEC hA xq.kept
          have HE1 : Keep (ES wr a ts) := ⟨e1⟩
          have HE2 : Keep (CS wr (some ⟨b2, o2, none⟩) us) := ⟨e2⟩
          have HM1 : Keep (wr.cell? ⟨Ba, 0, none⟩ = some (.slice a ts.length ca)) := ⟨m1⟩
          have HM2 : Keep (wr.cell? ⟨Bb, 0, none⟩ = some (.slice (some ⟨b2, o2, none⟩) us.length cb)) := ⟨m2⟩
          clear hs1 hs2 hes1 hes2 HF cm1 cm2 e1 e2 m1 m2 hA hal
          generalize xq.world = X at *
          clear xq
          obtain ⟨g6, hg6⟩ : ∃ g, g = wr.heap.size := ⟨_, rfl⟩
          obtain ⟨g7, hg7⟩ : ∃ g, g = wr.heap.size + 1 := ⟨_, rfl⟩
          rw [← hg7] at b70 b71 b72 b73 b74 b75 b76 f7 ⊢
          rw [← hg6] at b60 b61 b62 f6 ⊢
          have hn67 : ¬ g6 = g7 := by omega
          have HG : Keep (wr.heap.size ≤ g6 ∧ wr.heap.size ≤ g7) := ⟨by omega⟩
          clear hg6 hg7
          have q2 := cell_later hX HM2.out
          obtain ⟨y0, y1, y2, y3, y4, y5, y6⟩ := (HE2.out.below hX).cells hql
          gi_upto_region 11 with fail
          replace hX := box7_below (.string us[q].path) (.bool us[q].old.there) (.string us[q].old.text) (.bool us[q].old.runs) (.bool us[q].new.there) (.string us[q].new.text) (.bool us[q].new.runs) hX HG.out.2
          obtain ⟨v0, v1, v2, v3, v4, v5, v6⟩ := box7_set (.string us[q].path) (.bool us[q].old.there) (.string us[q].old.text) (.bool us[q].old.runs) (.bool us[q].new.there) (.string us[q].new.text) (.bool us[q].new.runs) b70 b71 b72 b73 b74 b75 b76
          have hn76 : ¬ g7 = g6 := fun e => hn67 e.symm
          replace b60 := (box7_other (.string us[q].path) (.bool us[q].old.there) (.string us[q].old.text) (.bool us[q].old.runs) (.bool us[q].new.there) (.string us[q].new.text) (.bool us[q].new.runs) hn76).trans b60
          replace b61 := (box7_other (.string us[q].path) (.bool us[q].old.there) (.string us[q].old.text) (.bool us[q].old.runs) (.bool us[q].new.there) (.string us[q].new.text) (.bool us[q].new.runs) hn76).trans b61
          replace b62 := (box7_other (.string us[q].path) (.bool us[q].old.there) (.string us[q].old.text) (.bool us[q].old.runs) (.bool us[q].new.there) (.string us[q].new.text) (.bool us[q].new.runs) hn76).trans b62
          clear b70 b71 b72 b73 b74 b75 b76 y0 y1 y2 y3 y4 y5 y6 q2 f7
          generalize (((((((X.setCell ⟨g7, 0, none⟩ (.string us[q].path)).setCell ⟨g7, 1, none⟩ (.bool us[q].old.there)).setCell ⟨g7, 2, none⟩ (.string us[q].old.text)).setCell ⟨g7, 3, none⟩ (.bool us[q].old.runs)).setCell ⟨g7, 4, none⟩ (.bool us[q].new.there)).setCell ⟨g7, 5, none⟩ (.string us[q].new.text)).setCell ⟨g7, 6, none⟩ (.bool us[q].new.runs)) = X3 at *
          have hY3 : YieldAt Fence.wide (n - 1) Try.prog l #[.agg #[.string ⟨#[]⟩, .string ⟨#[]⟩, .bool false], .agg #[.string us[q].path, .bool us[q].old.there, .string us[q].old.text, .bool us[q].old.runs, .bool us[q].new.there, .string us[q].new.text, .bool us[q].new.runs]] X3 (fun e W' => (e = .returned (.bool true) ∧ J (pre ++ [(us[q].path, none, some us[q])]) W') ∨ (e = .returned (.bool false) ∧ Jx (pre ++ [(us[q].path, none, some us[q])]) W')) := hY pre (us[q].path, none, some us[q]) _ (hJ pre wr _ hJs hX) ⟨_, hm⟩
          obtain ⟨fn, tmps, assign, body, hy, hR⟩ := hY3
          have HM : Keep (mrgEC ts us = pre ++ [(us[q].path, none, some us[q])] ++ mrg En.path Ch.path f (ts.drop (p)) (us.drop (q + 1))) := ⟨hm⟩
          clear hY hJ hM hm hJs hX
          gi_wp2
          refine ⟨fun h => Bool.noConfusion h, hR.mono ?_⟩
          rintro e W3 (⟨rfl, hJ3⟩ | ⟨rfl, hJx3⟩)
          · gi_wp2
            go_roundw
            case rel => exact ⟨p, q + 1, f, pre ++ [(us[q].path, none, some us[q])], by congr 1, by congr 1, by omega, by omega, by omega, HM.out, hJ3⟩
            case measure => simp only [intOf]; omega
          · gi_wp2
            refine bodyPost_ret (results_none rfl _ _ _) rfl ?_
            exact ⟨⟨_, rfl⟩, .inr ⟨pre ++ [(us[q].path, none, some us[q])], ⟨_, HM.out.symm⟩, hJx3⟩⟩
        · have hpl' : ¬ (p : Int) < ts.length := by omega
          gi_wp2
          rw [← hA]
          refine wpIn_wide.2 ?_
          (haveI := later_any; refine wp_region_later (by kernel_rfl) (by kernel_rfl) ?_; (repeat (go_big_quiet_step (first | (go_at_call 62; exact HF.out _)))); refine wpQuiet_nil ?_; intro _ hwq; obtain ⟨xq, hwq2⟩ := hwq; subst hwq2)
          have hX := hal.trans (xq.kept.mono hal.size)
          obtain ⟨⟨b60, b61, b62⟩, ⟨b70, b71, b72, b73, b74, b75, b76⟩, f6, f7⟩ := two_boxesEC hA xq.kept
          have HE1 : Keep (ES wr a ts) := ⟨e1⟩
          have HE2 : Keep (CS wr (some ⟨b2, o2, none⟩) us) := ⟨e2⟩
          have HM1 : Keep (wr.cell? ⟨Ba, 0, none⟩ = some (.slice a ts.length ca)) := ⟨m1⟩
          have HM2 : Keep (wr.cell? ⟨Bb, 0, none⟩ = some (.slice (some ⟨b2, o2, none⟩) us.length cb)) := ⟨m2⟩
          clear hs1 hs2 hes1 hes2 HF cm1 cm2 e1 e2 m1 m2 hA hal
          generalize xq.world = X at *
          clear xq
          obtain ⟨g6, hg6⟩ : ∃ g, g = wr.heap.size := ⟨_, rfl⟩
          obtain ⟨g7, hg7⟩ : ∃ g, g = wr.heap.size + 1 := ⟨_, rfl⟩
          rw [← hg7] at b70 b71 b72 b73 b74 b75 b76 f7 ⊢
          rw [← hg6] at b60 b61 b62 f6 ⊢
          have hn67 : ¬ g6 = g7 := by omega
          have HG : Keep (wr.heap.size ≤ g6 ∧ wr.heap.size ≤ g7) := ⟨by omega⟩
          clear hg6 hg7
          have q2 := cell_later hX HM2.out
          obtain ⟨y0, y1, y2, y3, y4, y5, y6⟩ := (HE2.out.below hX).cells hql
          gi_upto_region 11 with fail
          replace hX := box7_below (.string us[q].path) (.bool us[q].old.there) (.string us[q].old.text) (.bool us[q].old.runs) (.bool us[q].new.there) (.string us[q].new.text) (.bool us[q].new.runs) hX HG.out.2
          obtain ⟨v0, v1, v2, v3, v4, v5, v6⟩ := box7_set (.string us[q].path) (.bool us[q].old.there) (.string us[q].old.text) (.bool us[q].old.runs) (.bool us[q].new.there) (.string us[q].new.text) (.bool us[q].new.runs) b70 b71 b72 b73 b74 b75 b76
          have hn76 : ¬ g7 = g6 := fun e => hn67 e.symm
          replace b60 := (box7_other (.string us[q].path) (.bool us[q].old.there) (.string us[q].old.text) (.bool us[q].old.runs) (.bool us[q].new.there) (.string us[q].new.text) (.bool us[q].new.runs) hn76).trans b60
          replace b61 := (box7_other (.string us[q].path) (.bool us[q].old.there) (.string us[q].old.text) (.bool us[q].old.runs) (.bool us[q].new.there) (.string us[q].new.text) (.bool us[q].new.runs) hn76).trans b61
          replace b62 := (box7_other (.string us[q].path) (.bool us[q].old.there) (.string us[q].old.text) (.bool us[q].old.runs) (.bool us[q].new.there) (.string us[q].new.text) (.bool us[q].new.runs) hn76).trans b62
          clear b70 b71 b72 b73 b74 b75 b76 y0 y1 y2 y3 y4 y5 y6 q2 f7
          generalize (((((((X.setCell ⟨g7, 0, none⟩ (.string us[q].path)).setCell ⟨g7, 1, none⟩ (.bool us[q].old.there)).setCell ⟨g7, 2, none⟩ (.string us[q].old.text)).setCell ⟨g7, 3, none⟩ (.bool us[q].old.runs)).setCell ⟨g7, 4, none⟩ (.bool us[q].new.there)).setCell ⟨g7, 5, none⟩ (.string us[q].new.text)).setCell ⟨g7, 6, none⟩ (.bool us[q].new.runs)) = X3 at *
          have hY3 : YieldAt Fence.wide (n - 1) Try.prog l #[.agg #[.string ⟨#[]⟩, .string ⟨#[]⟩, .bool false], .agg #[.string us[q].path, .bool us[q].old.there, .string us[q].old.text, .bool us[q].old.runs, .bool us[q].new.there, .string us[q].new.text, .bool us[q].new.runs]] X3 (fun e W' => (e = .returned (.bool true) ∧ J (pre ++ [(us[q].path, none, some us[q])]) W') ∨ (e = .returned (.bool false) ∧ Jx (pre ++ [(us[q].path, none, some us[q])]) W')) := hY pre (us[q].path, none, some us[q]) _ (hJ pre wr _ hJs hX) ⟨_, hm⟩
          obtain ⟨fn, tmps, assign, body, hy, hR⟩ := hY3
          have HM : Keep (mrgEC ts us = pre ++ [(us[q].path, none, some us[q])] ++ mrg En.path Ch.path f (ts.drop (p)) (us.drop (q + 1))) := ⟨hm⟩
          clear hY hJ hM hm hJs hX
          gi_wp2
          refine ⟨fun h => Bool.noConfusion h, hR.mono ?_⟩
          rintro e W3 (⟨rfl, hJ3⟩ | ⟨rfl, hJx3⟩)
          · gi_wp2
            go_roundw
            case rel => exact ⟨p, q + 1, f, pre ++ [(us[q].path, none, some us[q])], by congr 1, by congr 1, by omega, by omega, by omega, HM.out, hJ3⟩
            case measure => simp only [intOf]; omega
          · gi_wp2
            refine bodyPost_ret (results_none rfl _ _ _) rfl ?_
            exact ⟨⟨_, rfl⟩, .inr ⟨pre ++ [(us[q].path, none, some us[q])], ⟨_, HM.out.symm⟩, hJx3⟩⟩

set_option maxHeartbeats 400000 in
theorem sideEC_any (a b : Option Addr) (n m ca cb : Nat) (w : World) :
    Calls Try.prog 38 #[.slice a n ca, .slice b m cb] w fun e w' => e = .returned (.func (.func 61) #[] #[.pointer (some ⟨w.heap.size, 0, none⟩), .pointer (some ⟨w.heap.size + 1, 0, none⟩)]) ∧ w' = (w.alloc (.cells #[.slice a n ca] 23)).alloc (.cells #[.slice b m cb] 28) := by
  go_enter Try.func38, Try.ntmps38
  go_wp2
  go_ret
  exact ⟨by simp, rfl⟩
end Go.Proofs.Ytjlflmbifeocbaa

namespace Go.Proofs.Ytjlflmbifeocbaa
open Go.RowKit

theorem count_set : ∀ (l : List Bool) (i : Nat), l[i]? = some false → (l.set i true).count false + 1 = l.count false
  | [], i, h => by simp at h
  | b :: l, 0, h => by
    simp at h
    subst h
    simp
  | b :: l, i + 1, h => by
    have ih := count_set l i (by simpa using h)
    simp only [List.set_cons_succ, List.count_cons]
    omega

theorem getD_false {L : Array Bool} {i : Nat} (h : L.getD i true = false) : L.toList[i]? = some false := by
  rw [Array.getElem?_toList]
  cases hx : L[i]? with
  | none => rw [Array.getD_eq_getD_getElem?, hx] at h; simp at h
  | some b => rw [Array.getD_eq_getD_getElem?, hx] at h; simp at h; rw [h]

theorem wpAnyIn_inv {F : Fence} {n : Nat} {P : Program} {md : Region.Mode} {ops : Array Oper} {Q : Exit → Act → World → Prop} (Inv : Array Bool → Act → World → Prop)
    (hd : ∀ L a w, Inv L a w → Region.ready md ops L = [] → Q .normal a w)
    (hs : ∀ L a w i, Inv L a w → i ∈ Region.ready md ops L → wpOpIn F n P ops Q i (Inv (L.setIfInBounds i true)) a w) :
    ∀ (fuel : Nat) (L : Array Bool) (a : Act) (w : World), L.toList.count false ≤ fuel → Inv L a w → wpAnyIn F n P md ops Q fuel L a w
  | 0, L, a, w, hc, hi => by
    have hr : Region.ready md ops L = [] := by
      cases hr : Region.ready md ops L with
      | nil => rfl
      | cons i r =>
        exfalso
        have hm : i ∈ Region.ready md ops L := by rw [hr]; simp
        have h1 := getD_false (mem_ready.1 hm).1
        have h2 := count_set _ _ h1
        omega
    exact ⟨hr, hd L a w hi hr⟩
  | fuel + 1, L, a, w, hc, hi => ⟨hd L a w hi, fun i hi' => wpOpIn_mono (fun a' w' h => wpAnyIn_inv Inv hd hs fuel _ a' w' (by
      have h1 := count_set _ _ (getD_false (mem_ready.1 hi').1)
      rw [Array.toList_setIfInBounds]
      omega) h) (hs L a w i hi hi')⟩

theorem getD_repl (n j : Nat) : (Array.replicate n false).getD j false = false := by
  rw [Array.getD_eq_getD_getElem?, Array.getElem?_replicate]
  split <;> rfl
theorem getD_ft {L : Array Bool} {i : Nat} (h : L.getD i true = false) : L.getD i false = false := by
  rw [Array.getD_eq_getD_getElem?] at h ⊢
  cases hx : L[i]? with
  | none => rw [hx] at h; simp at h
  | some b => rw [hx] at h; simpa using h
theorem getD_tt {L : Array Bool} {i : Nat} (hi : i < L.size) (h : L.getD i true = true) : L.getD i false = true := by
  rw [Array.getD_eq_getD_getElem?, Array.getElem?_eq_getElem hi] at h ⊢
  simpa using h

/-- What a done operation waited for is done. -/
def ClosedB (ops : Array Oper) (L : Array Bool) : Prop := ∀ i o, ops[i]? = some o → L.getD i false = true → ∀ e ∈ o.after, Region.binds .any e = true → L.getD e.on false = true
def lexAll (ops : Array Oper) : Bool := (List.range ops.size).all fun i => match ops[i]? with
  | some o => o.after.all fun e => decide (e.on < i)
  | none => true

theorem wpIn_region_inv {F : Fence} {n : Nat} {P : Program} {id : Nat} {ops : Array Oper} {Q : Exit → Act → World → Prop} {a : Act} {w : World} (hm : P.follows .mixedOrders = true) (hlex : lexAll ops = true) (Inv : Array Bool → Act → World → Prop)
    (h0 : Inv (Array.replicate ops.size false) a w.drew)
    (hd : ∀ L a w, Inv L a w → (∀ i, i < ops.size → L.getD i false = true) → Q .normal a w)
    (hs : ∀ L a w i o, Inv L a w → ClosedB ops L → L.getD i true = false → ops[i]? = some o → (∀ e ∈ o.after, Region.binds .any e = true → L.getD e.on false = true) → wpOpIn F n P ops Q i (Inv (L.setIfInBounds i true)) a w) :
    (Code.region id ops true).wpIn F n P Q a w := by
  have hc0 : ClosedB ops (Array.replicate ops.size false) := fun i o _ h => by rw [getD_repl] at h; cases h
  refine wpIn_region_any hm (wpAnyIn_inv (fun L a w => Inv L a w ∧ ClosedB ops L ∧ L.size = ops.size) ?_ ?_ ops.size _ a _ (by simp) ⟨h0, hc0, by simp⟩)
  · rintro L a w ⟨hi, hc, hz⟩ hr
    refine hd L a w hi ?_
    have key : ∀ n i, i < n → i < ops.size → L.getD i false = true := by
      intro n
      induction n with
      | zero => intro i h; omega
      | succ n ih =>
        intro i h hlt
        refine getD_tt (by omega) ?_
        cases hb : L.getD i true with
        | true => rfl
        | false =>
          exfalso
          have : i ∈ Region.ready .any ops L := mem_ready.2 ⟨hb, ops[i], Array.getElem?_eq_getElem hlt, fun e he _ => by
            have hle : e.on < i := by
              have h1 := List.all_eq_true.1 hlex i (by simpa using hlt)
              rw [Array.getElem?_eq_getElem hlt] at h1
              simp only [Array.all_eq_true_iff_forall_mem, decide_eq_true_eq] at h1
              exact h1 e he
            exact ih e.on (by omega) (by omega)⟩
          rw [hr] at this
          cases this
    exact fun i hi => key (i + 1) i (by omega) hi
  · rintro L a w i ⟨hi, hc, hz⟩ hr
    obtain ⟨h1, o, h2, h3⟩ := mem_ready.1 hr
    refine wpOpIn_mono (fun a' w' h => ⟨h, fun j o' ho' hj e he hb => ?_, by simpa using hz⟩) (hs L a w i o hi hc h1 h2 h3)
    by_cases e' : j = i
    · subst e'
      rw [h2] at ho'
      cases ho'
      exact getD_set_true (h3 e he hb)
    · rw [getD_set_ne false (fun x => e' x.symm)] at hj
      exact getD_set_true (hc j o' ho' hj e he hb)

/-- What lies in the slots: those ahead of the region, and those of the operations that are done. -/
structure Sl (N d0 : Nat) (base tab : Nat → Option Value) (L : Array Bool) (a : Act) : Prop where
  sz : a.tmps.size = N
  bs : ∀ k v, base k = some v → k < d0 ∧ a.eval (.tmp k) = v
  sl : ∀ j v, tab j = some v → L.getD j false = true → a.eval (.tmp (d0 + j)) = v
theorem Sl.put {N d0 : Nat} {base tab : Nat → Option Value} {L : Array Bool} {a : Act} (h : Sl N d0 base tab L a) {i : Nat} {v : Value} (hi : d0 + i < N) (ht : ∀ u, tab i = some u → u = v) : Sl N d0 base tab (L.setIfInBounds i true) (a.put (some (d0 + i)) v) := by
  refine ⟨by simp [Act.put, h.sz], fun k u hk => ?_, fun j u hj hL => ?_⟩
  · obtain ⟨h1, h2⟩ := h.bs k u hk
    refine ⟨h1, ?_⟩
    rw [Act.eval_put (fun d hd => by cases hd; intro e; injection e with e; have e2 : k = d0 + i := e; omega)]
    exact h2
  · by_cases e : j = i
    · subst e
      rw [ht u hj]
      show ((a.tmps.setIfInBounds (d0 + j) v).getD (d0 + j) undef) = v
      rw [Array.getD_eq_getD_getElem?, Array.getElem?_setIfInBounds_self_of_lt (by rw [h.sz]; exact hi)]
      rfl
    · rw [getD_set_ne false (fun e' => e e'.symm)] at hL
      rw [Act.eval_put (fun d hd => by cases hd; intro e'; injection e' with e'; have e2 : d0 + j = d0 + i := e'; omega)]
      exact h.sl j u hj hL
end Go.Proofs.Ytjlflmbifeocbaa

namespace Go.Proofs.Ytjlflmbifeocbaa
open Go.RowKit

/-- The slots ds.i hold what the done operations gave; all others are as they were. -/
structure Sl2 (T0 : Array Value) (ds : List Nat) (tab : Nat → Option Value) (L : Array Bool) (a : Act) : Prop where
  sz : a.tmps.size = T0.size
  df : a.defers = []
  fr : ∀ k, k ∉ ds → a.tmps[k]? = T0[k]?
  sl : ∀ i (h : i < ds.length) v, tab i = some v → L.getD i false = true → a.eval (.tmp ds[i]) = v
theorem Sl2.put {T0 : Array Value} {ds : List Nat} {tab : Nat → Option Value} {L : Array Bool} {a : Act} (h : Sl2 T0 ds tab L a) (nd : ds.Nodup) {i : Nat} {v : Value} (hi : i < ds.length) (hd : ds[i] < T0.size) (ht : ∀ u, tab i = some u → u = v) : Sl2 T0 ds tab (L.setIfInBounds i true) (a.put (some ds[i]) v) := by
  refine ⟨by simp [Act.put, h.sz], h.df, fun k hk => ?_, fun j hj u hu hL => ?_⟩
  · have hne : ds[i] ≠ k := fun e => hk (e ▸ List.getElem_mem hi)
    show (a.tmps.setIfInBounds ds[i] v)[k]? = _
    rw [Array.getElem?_setIfInBounds_ne hne]
    exact h.fr k hk
  · by_cases e : j = i
    · subst e
      rw [ht u hu]
      show ((a.tmps.setIfInBounds ds[j] v).getD ds[j] undef) = v
      rw [Array.getD_eq_getD_getElem?, Array.getElem?_setIfInBounds_self_of_lt (by rw [h.sz]; exact hd)]
      rfl
    · rw [getD_set_ne false (fun e' => e e'.symm)] at hL
      rw [Act.eval_put (fun d hd' => by
        cases hd'
        intro e'
        injection e' with e'
        have e2 : ds[j] = ds[i] := e'
        rcases Nat.lt_trichotomy j i with h1 | h1 | h1
        · exact List.pairwise_iff_getElem.1 nd j i hj hi h1 e2
        · exact e h1
        · exact List.pairwise_iff_getElem.1 nd i j hi hj h1 e2.symm)]
      exact h.sl j hj u hu hL
theorem Sl2.skip {T0 : Array Value} {ds : List Nat} {tab : Nat → Option Value} {L : Array Bool} {a : Act} (h : Sl2 T0 ds tab L a) {i : Nat} (ht : tab i = none) : Sl2 T0 ds tab (L.setIfInBounds i true) a :=
  ⟨h.sz, h.df, h.fr, fun j hj u hu hL => by
    by_cases e : j = i
    · subst e; rw [ht] at hu; cases hu
    · rw [getD_set_ne false (fun e' => e e'.symm)] at hL
      exact h.sl j hj u hu hL⟩
theorem Sl2.start {T0 : Array Value} {ds : List Nat} {tab : Nat → Option Value} (n : Nat) : Sl2 T0 ds tab (Array.replicate n false) { tmps := T0, defers := [] } :=
  ⟨rfl, rfl, fun _ _ => rfl, fun i _ v _ hL => by rw [getD_repl] at hL; cases hL⟩
theorem Sl2.old {T0 : Array Value} {ds : List Nat} {tab : Nat → Option Value} {L : Array Bool} {a : Act} (h : Sl2 T0 ds tab L a) {k : Nat} (hk : ds.contains k = false) : a.tmps[k]?.getD undef = T0[k]?.getD undef := by
  rw [h.fr k (fun hm => by rw [List.contains_iff_mem.2 hm] at hk; cases hk)]
theorem Sl2.new {T0 : Array Value} {ds : List Nat} {tab : Nat → Option Value} {L : Array Bool} {a : Act} (h : Sl2 T0 ds tab L a) {i : Nat} {v : Value} (hi : i < ds.length) (ht : tab i = some v) (hL : L.getD i false = true) : a.tmps[ds[i]]?.getD undef = v := by
  rw [← Array.getD_eq_getD_getElem?]
  exact h.sl i hi v ht hL

/-- The frame behind the region, written out. -/
def updL (ds : List Nat) (u : Nat → Value) : Nat → List Value → List Value
  | _, [] => []
  | k, e :: l => (bif ds.contains k then u k else e) :: updL ds u (k + 1) l
theorem updL_len (ds : List Nat) (u : Nat → Value) : ∀ (l : List Value) (k : Nat), (updL ds u k l).length = l.length
  | [], _ => rfl
  | _ :: l, k => by simp [updL, updL_len ds u l (k + 1)]
theorem updL_at (ds : List Nat) (u : Nat → Value) : ∀ (l : List Value) (k i : Nat), (updL ds u k l)[i]? = (l[i]?).map fun e => bif ds.contains (k + i) then u (k + i) else e
  | [], _, i => by simp [updL]
  | e :: l, k, 0 => by simp [updL]
  | e :: l, k, i + 1 => by
    simp only [updL, List.getElem?_cons_succ]
    rw [updL_at ds u l (k + 1) i]
    rw [show k + 1 + i = k + (i + 1) by omega]
theorem Sl2.act {l : List Value} {ds : List Nat} {tab : Nat → Option Value} {L : Array Bool} {a : Act} (h : Sl2 l.toArray ds tab L a) : a = { tmps := (updL ds (fun k => a.tmps.getD k undef) 0 l).toArray, defers := [] } := by
  obtain ⟨t, d⟩ := a
  have hd : d = [] := h.df
  subst hd
  congr 1
  refine Array.ext' ?_
  refine List.ext_getElem? fun i => ?_
  rw [updL_at, Nat.zero_add]
  have hsz : t.size = l.length := by simpa using h.sz
  by_cases hi : i < l.length
  · rw [List.getElem?_eq_getElem hi]
    have hit : i < t.size := by omega
    cases hc : ds.contains i with
    | true =>
      simp only [Option.map_some, cond_true]
      rw [Array.getElem?_toList, Array.getElem?_eq_getElem hit]
      congr 1
      rw [Array.getD_eq_getD_getElem?, Array.getElem?_eq_getElem hit]
      rfl
    | false =>
      simp only [Option.map_some, cond_false]
      have h1 := h.fr i (fun hm => by rw [List.contains_iff_mem.2 hm] at hc; cases hc)
      have h2 : t[i]? = l.toArray[i]? := h1
      rw [Array.getElem?_toList, h2]
      simp [hi]
  · have h1 : t.toList[i]? = none := by rw [Array.getElem?_toList]; exact Array.getElem?_eq_none (by omega)
    rw [h1, List.getElem?_eq_none (by omega)]
    rfl
theorem evalD2 {a : Act} {k : Nat} {v : Value} (h : a.eval (.tmp k) = v) : a.tmps[k]?.getD undef = v := by
  rw [← Array.getD_eq_getD_getElem?]; exact h
/-- As lexAll, of the edges that bind. -/
def lexB2 (ops : Array Oper) : Bool := (List.range ops.size).all fun i => match ops[i]? with
  | some o => o.after.all fun e => !Region.binds .any e || decide (e.on < i)
  | none => true
theorem wpIn_region_inv0 {F : Fence} {n : Nat} {P : Program} {id : Nat} {ops : Array Oper} {Q : Exit → Act → World → Prop} {T0 : Array Value} {w : World} (hm : P.follows .mixedOrders = true) (hlex : lexB2 ops = true) (Inv : Array Value → Array Bool → Act → World → Prop)
    (h0 : Inv T0 (Array.replicate ops.size false) { tmps := T0, defers := [] } w.drew)
    (hd : ∀ L a w, Inv T0 L a w → (∀ i, i < ops.size → L.getD i false = true) → Q .normal a w)
    (hs : ∀ L a w i o, Inv T0 L a w → ClosedB ops L → L.getD i true = false → ops[i]? = some o → (∀ e ∈ o.after, Region.binds .any e = true → L.getD e.on false = true) → wpOpIn F n P ops Q i (Inv T0 (L.setIfInBounds i true)) a w) :
    (Code.region id ops true).wpIn F n P Q { tmps := T0, defers := [] } w := by
  have hc0 : ClosedB ops (Array.replicate ops.size false) := fun i o _ h => by rw [getD_repl] at h; cases h
  refine wpIn_region_any hm (wpAnyIn_inv (fun L a w => Inv T0 L a w ∧ ClosedB ops L ∧ L.size = ops.size) ?_ ?_ ops.size _ _ _ (by simp) ⟨h0, hc0, by simp⟩)
  · rintro L a w ⟨hi, hc, hz⟩ hr
    refine hd L a w hi ?_
    have key : ∀ n i, i < n → i < ops.size → L.getD i false = true := by
      intro n
      induction n with
      | zero => intro i h; omega
      | succ n ih =>
        intro i h hlt
        refine getD_tt (by omega) ?_
        cases hb : L.getD i true with
        | true => rfl
        | false =>
          exfalso
          have : i ∈ Region.ready .any ops L := mem_ready.2 ⟨hb, ops[i], Array.getElem?_eq_getElem hlt, fun e he hbd => by
            have hle : e.on < i := by
              have h1 := List.all_eq_true.1 hlex i (by simpa using hlt)
              rw [Array.getElem?_eq_getElem hlt] at h1
              simp only [Array.all_eq_true_iff_forall_mem, Bool.or_eq_true, Bool.not_eq_true', decide_eq_true_eq] at h1
              rcases h1 e he with h2 | h2
              · rw [hbd] at h2; cases h2
              · exact h2
            exact ih e.on (by omega) (by omega)⟩
          rw [hr] at this
          cases this
    exact fun i hi => key (i + 1) i (by omega) hi
  · rintro L a w i ⟨hi, hc, hz⟩ hr
    obtain ⟨h1, o, h2, h3⟩ := mem_ready.1 hr
    refine wpOpIn_mono (fun a' w' h => ⟨h, fun j o' ho' hj e he hb => ?_, by simpa using hz⟩) (hs L a w i o hi hc h1 h2 h3)
    by_cases e' : j = i
    · subst e'
      rw [h2] at ho'
      cases ho'
      exact getD_set_true (h3 e he hb)
    · rw [getD_set_ne false (fun x => e' x.symm)] at hj
      exact getD_set_true (hc j o' ho' hj e he hb)
end Go.Proofs.Ytjlflmbifeocbaa

namespace Go.Proofs.Ytjlflmbifeocbaa
open Go.RowKit

def isZ (e : En) : Bool := (e.path.toList == ([] : List UInt8)) && (e.text.toList == ([] : List UInt8)) && !e.runs
def fileE (e : En) : Fl := ⟨!isZ e, e.text, e.runs⟩

set_option maxRecDepth 100000 in
set_option maxHeartbeats 4000000 in
theorem fileE_any (e : En) (w : World) : Calls Try.prog 33 #[.agg #[.string e.path, .string e.text, .bool e.runs]] w fun r w' => r = .returned (.agg #[.bool (fileE e).there, .string (fileE e).text, .bool (fileE e).runs]) ∧ Below w.heap.size w w' := by
  obtain ⟨p, t, r⟩ := e
  have hbw : Below w.heap.size w ((w.alloc (.cells #[.string p, .string t, .bool r] 57)).alloc (.cells #[.bool false, .string ⟨#[]⟩, .bool false] 54)) := ((Below.refl _ _).alloc (Nat.le_refl _) _).alloc (by simp) _
  have c0 : ((w.alloc (.cells #[.string p, .string t, .bool r] 57)).alloc (.cells #[.bool false, .string ⟨#[]⟩, .bool false] 54)).cell? ⟨w.heap.size, 0, none⟩ = some (.string p) := by simp [go_sem]
  have c1 : ((w.alloc (.cells #[.string p, .string t, .bool r] 57)).alloc (.cells #[.bool false, .string ⟨#[]⟩, .bool false] 54)).cell? ⟨w.heap.size, 1, none⟩ = some (.string t) := by simp [go_sem]
  have c2 : ((w.alloc (.cells #[.string p, .string t, .bool r] 57)).alloc (.cells #[.bool false, .string ⟨#[]⟩, .bool false] 54)).cell? ⟨w.heap.size, 2, none⟩ = some (.bool r) := by simp [go_sem]
  have r0 : ((w.alloc (.cells #[.string p, .string t, .bool r] 57)).alloc (.cells #[.bool false, .string ⟨#[]⟩, .bool false] 54)).cell? ⟨w.heap.size + 1, 0, none⟩ = some (.bool false) := by simp [go_sem]
  have r1 : ((w.alloc (.cells #[.string p, .string t, .bool r] 57)).alloc (.cells #[.bool false, .string ⟨#[]⟩, .bool false] 54)).cell? ⟨w.heap.size + 1, 1, none⟩ = some (.string ⟨#[]⟩) := by simp [go_sem]
  have r2 : ((w.alloc (.cells #[.string p, .string t, .bool r] 57)).alloc (.cells #[.bool false, .string ⟨#[]⟩, .bool false] 54)).cell? ⟨w.heap.size + 1, 2, none⟩ = some (.bool false) := by simp [go_sem]
  have rf : ∀ j, ((w.alloc (.cells #[.string p, .string t, .bool r] 57)).alloc (.cells #[.bool false, .string ⟨#[]⟩, .bool false] 54)).frozen? ⟨w.heap.size + 1, j, none⟩ = false := fun j => by simp [go_sem]
  go_enter Try.func33, Try.ntmps33
  go_upto_region 1 with fail
  generalize (w.alloc (.cells #[.string p, .string t, .bool r] 57)).alloc (.cells #[.bool false, .string ⟨#[]⟩, .bool false] 54) = W at *
  have HL : Keep (w.heap.size ≤ w.heap.size + 1) := ⟨by omega⟩
  obtain ⟨rb, hrb⟩ : ∃ rb, rb = w.heap.size + 1 := ⟨_, rfl⟩
  obtain ⟨tb, htb⟩ : ∃ tb, tb = w.heap.size := ⟨_, rfl⟩
  rw [← hrb] at r0 r1 r2 rf ⊢
  rw [← htb] at c0 c1 c2 ⊢
  have HO : Keep (w.heap.size ≤ rb) := ⟨by omega⟩
  have nt : ¬ tb = rb := by omega
  have nt2 : ¬ rb = tb := by omega
  clear hrb htb HL
  have hemp : ∀ z : ByteArray, z.toList = [] → z = ⟨#[]⟩ := fun z h => WideShapes.bytes_inj (by rw [← Lib.toList_data, h])
  cases hz : isZ ⟨p, t, r⟩ with
  | true =>
    obtain ⟨⟨h1, h2⟩, h3⟩ : (p.toList = [] ∧ t.toList = []) ∧ r = false := by simpa [isZ] using hz
    obtain rfl := hemp p h1
    obtain rfl := hemp t h2
    subst h3
    have HZ : Keep (fileE ⟨⟨#[]⟩, ⟨#[]⟩, false⟩ = ⟨false, ⟨#[]⟩, false⟩) := ⟨by unfold fileE; rw [hz]; rfl⟩
    clear h1 h2 hz hemp
    go_region
    all_goals (try go_wp2)
    all_goals
      refine bodyPost_ret (v := .agg #[.bool false, .string ⟨#[]⟩, .bool false]) ?_ rfl ⟨by rw [HZ.out], ?_⟩
      · go_light
        simp [results, Try.results33, go_sem, r0, r1, r2]
      · repeat (first | ((with_reducible refine Below.setCell ?_ ?hq2 _); (case hq2 => exact HO.out)) | (with_reducible refine Below.drew ?_))
        exact hbw

  | false =>
    have HZ : Keep (fileE ⟨p, t, r⟩ = ⟨true, t, r⟩) := ⟨by unfold fileE; rw [hz]; rfl⟩
    by_cases h1 : p.toList = []
    · obtain rfl := hemp p h1
      by_cases h2 : t.toList = []
      · obtain rfl := hemp t h2
        cases r with
        | false =>
          exfalso
          rw [Bool.eq_false_iff] at hz
          exact hz (by simp [isZ, h1])
        | true =>
          clear hz h1 h2 hemp
          go_region
          all_goals (try go_wp2)
          all_goals
            refine bodyPost_ret (v := .agg #[.bool true, .string ⟨#[]⟩, .bool true]) ?_ rfl ⟨by rw [HZ.out], ?_⟩
            · go_light
              simp [results, Try.results33, go_sem, r0, r1, r2]
            · repeat (first | ((with_reducible refine Below.setCell ?_ ?hq2 _); (case hq2 => exact HO.out)) | (with_reducible refine Below.drew ?_))
              exact hbw

      · have ht : (t.toList == ([] : List UInt8)) = false := by simpa using h2
        clear hz h1 h2 hemp
        go_region
        all_goals (try go_wp2)
        all_goals
          refine bodyPost_ret (v := .agg #[.bool true, .string t, .bool r]) ?_ rfl ⟨by rw [HZ.out], ?_⟩
          · go_light
            simp [results, Try.results33, go_sem, r0, r1, r2]
          · repeat (first | ((with_reducible refine Below.setCell ?_ ?hq2 _); (case hq2 => exact HO.out)) | (with_reducible refine Below.drew ?_))
            exact hbw

    · have hp : (p.toList == ([] : List UInt8)) = false := by simpa using h1
      clear hz h1 hemp
      go_region
      all_goals (try go_wp2)
      all_goals
        refine bodyPost_ret (v := .agg #[.bool true, .string t, .bool r]) ?_ rfl ⟨by rw [HZ.out], ?_⟩
        · go_light
          simp [results, Try.results33, go_sem, r0, r1, r2]
        · repeat (first | ((with_reducible refine Below.setCell ?_ ?hq2 _); (case hq2 => exact HO.out)) | (with_reducible refine Below.drew ?_))
          exact hbw
end Go.Proofs.Ytjlflmbifeocbaa

namespace Go.Proofs.Ytjlflmbifeocbaa
open Go.RowKit

def noFl : Fl := ⟨false, ⟨#[]⟩, false⟩
def atL (ts : List En) (p : ByteArray) : Fl := match ts.find? (fun e => e.path.toList == p.toList) with
  | some e => ⟨true, e.text, e.runs⟩
  | none => noFl
theorem atL_hit {ts : List En} {p : ByteArray} {k : Nat} (hk : k < ts.length) (hno : ∀ x ∈ ts.take k, (x.path.toList == p.toList) = false) (h : (ts[k].path.toList == p.toList) = true) : atL ts p = ⟨true, ts[k].text, ts[k].runs⟩ := by
  have h1 : ts.find? (fun e => e.path.toList == p.toList) = some ts[k] := by
    rw [List.find?_eq_some_iff_append]
    refine ⟨h, ts.take k, ts.drop (k + 1), ?_, fun a ha => by rw [hno a ha]; rfl⟩
    conv => lhs; rw [← List.take_append_drop k ts]
    rw [List.drop_eq_getElem_cons hk]
  unfold atL
  rw [h1]
theorem atL_none {ts : List En} {p : ByteArray} (hno : ∀ x ∈ ts, (x.path.toList == p.toList) = false) : atL ts p = noFl := by
  have h1 : ts.find? (fun e => e.path.toList == p.toList) = none := by
    rw [List.find?_eq_none]
    intro x hx
    rw [hno x hx]; simp
  unfold atL
  rw [h1]

set_option maxRecDepth 100000 in
set_option maxHeartbeats 4000000 in
theorem l6At_any (a : Option Addr) (cap : Nat) (ts : List En) (p : ByteArray) (w : World) (hts : ES w a ts) (hn : ts.length ≤ 1048576) :
    Calls Try.prog 35 #[.agg #[.slice a ts.length cap], .string p] w fun e w' => e = .returned (flV (atL ts p)) ∧ Below w.heap.size w w' := by
  have hal : Below w.heap.size w ((w.alloc (.cells #[.slice a ts.length cap] 25)).alloc (.cells #[.bool false, .string ⟨#[]⟩, .bool false] 54)) := ((Below.refl _ _).alloc (Nat.le_refl _) _).alloc (by simp) _
  have t0 : ((w.alloc (.cells #[.slice a ts.length cap] 25)).alloc (.cells #[.bool false, .string ⟨#[]⟩, .bool false] 54)).cell? ⟨w.heap.size, 0, none⟩ = some (.slice a ts.length cap) := by simp [go_sem]
  have r0 : ((w.alloc (.cells #[.slice a ts.length cap] 25)).alloc (.cells #[.bool false, .string ⟨#[]⟩, .bool false] 54)).cell? ⟨w.heap.size + 1, 0, none⟩ = some (.bool false) := by simp [go_sem]
  have r1 : ((w.alloc (.cells #[.slice a ts.length cap] 25)).alloc (.cells #[.bool false, .string ⟨#[]⟩, .bool false] 54)).cell? ⟨w.heap.size + 1, 1, none⟩ = some (.string ⟨#[]⟩) := by simp [go_sem]
  have r2 : ((w.alloc (.cells #[.slice a ts.length cap] 25)).alloc (.cells #[.bool false, .string ⟨#[]⟩, .bool false] 54)).cell? ⟨w.heap.size + 1, 2, none⟩ = some (.bool false) := by simp [go_sem]
  have rf : ∀ j, ((w.alloc (.cells #[.slice a ts.length cap] 25)).alloc (.cells #[.bool false, .string ⟨#[]⟩, .bool false] 54)).frozen? ⟨w.heap.size + 1, j, none⟩ = false := fun j => by simp [go_sem]
  have hE := hts.below hal
  go_enter Try.func35, Try.ntmps35
  go_wp2_with fail
  generalize (w.alloc (.cells #[.slice a ts.length cap] 25)).alloc (.cells #[.bool false, .string ⟨#[]⟩, .bool false] 54) = W at *
  obtain ⟨rb, hrb⟩ : ∃ rb, rb = w.heap.size + 1 := ⟨_, rfl⟩
  obtain ⟨tb, htb⟩ : ∃ tb, tb = w.heap.size := ⟨_, rfl⟩
  rw [← hrb] at r0 r1 r2 rf ⊢
  rw [← htb] at t0 ⊢
  have HO : Keep (w.heap.size ≤ rb ∧ tb ≠ rb) := ⟨by omega⟩
  have nt : ¬ tb = rb := by omega
  have nt2 : ¬ rb = tb := by omega
  clear hrb htb hts
  go_loopw [5] (fun i wr => ∃ k : Nat, i = .int .i64 k ∧ k ≤ ts.length ∧ Keep (∀ x ∈ ts.take k, (x.path.toList == p.toList) = false) ∧ W = wr) (fun i _ => ts.length - (intOf i).toNat)
  case atStart => exact ⟨0, rfl, Nat.zero_le _, ⟨fun x hx => by simp at hx⟩, rfl⟩
  case round =>
    obtain ⟨k, rfl, hk, HNO, rfl⟩ := hrel
    by_cases hlt : k < ts.length
    · have hlt' : (k : Int) < ts.length := by omega
      obtain ⟨b, off, rfl, hc⟩ := hE.at hlt
      obtain ⟨x0, x1, x2⟩ := hc k hlt
      clear hc
      cases hq : (ts[k].path.toList == p.toList) with
      | true =>
        have HA : Keep (atL ts p = ⟨true, ts[k].text, ts[k].runs⟩) := ⟨atL_hit hlt HNO.out hq⟩
        have hbe : Below w.heap.size w W := hal
        go_upto_region 5 with fail
        go_region
        all_goals (try go_wp2)
        all_goals
          refine bodyPost_ret (v := flV ⟨true, ts[k].text, ts[k].runs⟩) ?_ rfl ⟨by rw [HA.out], ?_⟩
          · go_light
            simp [results, Try.results35, go_sem, flV, r0, r1, r2]
          · repeat (first | ((with_reducible refine Below.setCell ?_ ?hq2 _); (case hq2 => exact HO.out.1)) | (with_reducible refine Below.drew ?_))
            exact hbe
      | false =>
        have HN2 : Keep (∀ x ∈ ts.take (k + 1), (x.path.toList == p.toList) = false) := ⟨fun x hx => by
          rw [List.take_succ_eq_append_getElem hlt] at hx
          rcases List.mem_append.1 hx with h | h
          · exact HNO.out x h
          · rw [List.mem_singleton.1 h]; exact hq⟩
        go_wp2
        go_roundw
        case rel => exact ⟨k + 1, by congr 1, hlt, HN2, trivial⟩
        case measure => simp only [intOf]; omega
    · obtain rfl : k = ts.length := by omega
      have HA : Keep (atL ts p = noFl) := ⟨atL_none (by have := HNO.out; rw [List.take_length] at this; exact this)⟩
      go_wp2
      refine bodyPost_ret (v := flV noFl) ?_ rfl ⟨by rw [HA.out], ?_⟩
      · go_light
        simp [results, Try.results35, go_sem, flV, noFl, r0, r1, r2]
      · repeat (first | ((with_reducible refine Below.setCell ?_ ?hq2 _); (case hq2 => exact HO.out.1)) | (with_reducible refine Below.drew ?_))
        exact hal
end Go.Proofs.Ytjlflmbifeocbaa

namespace Go.Proofs.Ytjlflmbifeocbaa
open Go.RowKit

theorem path_ne0 {s : ByteArray} (h : pathOk pathB s = true) : (s.toList == ([] : List UInt8)) = false := by
  rw [Bool.eq_false_iff]
  intro e
  have e1 : s = ⟨#[]⟩ := WideShapes.bytes_inj (by rw [← Lib.toList_data, (by simpa using e : s.toList = [])])
  subst e1
  revert h
  decide
theorem valid_enF {ts : List En} (h : ValidTs ts) {e : En} (he : e ∈ ts) : enOk e = true := by
  obtain ⟨i, hi, rfl⟩ := List.getElem_of_mem he
  obtain ⟨_, h1, _⟩ := h.2 i hi
  exact h1
theorem valid_path {ts : List En} (h : ValidTs ts) {e : En} (he : e ∈ ts) : (e.path.toList == ([] : List UInt8)) = false := by
  have h1 := valid_enF h he
  simp only [enOk, Bool.and_eq_true] at h1
  exact path_ne0 h1.1
theorem fileE_zero : fileE zeroE = noFl := by
  unfold fileE zeroE noFl
  have : isZ ⟨⟨#[]⟩, ⟨#[]⟩, false⟩ = true := by simp [isZ]
  rw [this]
  rfl
theorem fileE_some {e : En} (h : (e.path.toList == ([] : List UInt8)) = false) : fileE e = ⟨true, e.text, e.runs⟩ := by
  unfold fileE isZ
  rw [h]
  rfl
theorem fileE_at {ts : List En} (h : ValidTs ts) (p : ByteArray) : fileE ((fnd En.path ts p).getD zeroE) = atL ts p := by
  unfold atL
  show _ = match fnd En.path ts p with | some e => (⟨true, e.text, e.runs⟩ : Fl) | none => noFl
  cases hf : fnd En.path ts p with
  | none => exact fileE_zero
  | some e => exact fileE_some (valid_path h (fnd_some hf).1)
end Go.Proofs.Ytjlflmbifeocbaa

namespace Go.Proofs.Ytjlflmbifeocbaa
open Go.RowKit

/-- The entries that lie under other paths. -/
def offP (ts : List En) (p : ByteArray) : List En := ts.filter fun e => !(e.path.toList == p.toList)
theorem offP_mem {ts : List En} {p : ByteArray} (e : En) : e ∈ offP ts p ↔ e ∈ ts ∧ e.path ≠ p := by
  unfold offP
  rw [List.mem_filter, Bool.not_eq_true']
  refine and_congr Iff.rfl ?_
  exact neb_iff
theorem offP_asc {ts : List En} {p : ByteArray} (h : Asc ts) : Asc (offP ts p) := List.Pairwise.filter _ h
theorem offP_take {ts : List En} {p : ByteArray} {k : Nat} (hk : k < ts.length) : offP (ts.take (k + 1)) p = if ts[k].path.toList == p.toList then offP (ts.take k) p else offP (ts.take k) p ++ [ts[k]] := by
  rw [List.take_succ_eq_append_getElem hk]
  unfold offP
  rw [List.filter_append]
  cases h : ts[k].path.toList == p.toList <;> simp [h]
theorem offP_len {ts : List En} {p : ByteArray} : (offP ts p).length ≤ ts.length := List.length_filter_le _ _

/-- What l6Lay makes. -/
def LayRel (ts : List En) (p : ByteArray) (f : Fl) (us : List En) : Prop :=
  if f.there = true then SetRel (offP ts p) ⟨p, f.text, f.runs⟩ us else us = offP ts p
theorem LayRel.asc {ts : List En} {p : ByteArray} {f : Fl} {us : List En} (hA : Asc ts) (h : LayRel ts p f us) : Asc us := by
  unfold LayRel at h
  split at h
  · exact h.asc
  · rw [h]; exact offP_asc hA
theorem LayRel.mem {ts : List En} {p : ByteArray} {f : Fl} {us : List En} (h : LayRel ts p f us) (e : En) : e ∈ us ↔ (f.there = true ∧ e = ⟨p, f.text, f.runs⟩) ∨ (e ∈ ts ∧ e.path ≠ p) := by
  unfold LayRel at h
  split at h
  · rename_i ht
    rw [h.mem, offP_mem]
    constructor
    · rintro (rfl | ⟨⟨h1, h2⟩, _⟩)
      · exact .inl ⟨ht, rfl⟩
      · exact .inr ⟨h1, h2⟩
    · rintro (⟨_, rfl⟩ | ⟨h1, h2⟩)
      · exact .inl rfl
      · exact .inr ⟨⟨h1, h2⟩, h2⟩
  · rename_i ht
    rw [h, offP_mem]
    constructor
    · exact .inr
    · rintro (⟨h1, _⟩ | h1)
      · exact absurd h1 ht
      · exact h1

/-- A list with all changes laid. -/
structure AppRel (ts : List En) (cs : List Ch) (us : List En) : Prop where
  asc : Asc us
  mem : ∀ e, e ∈ us ↔ (∃ c ∈ cs, c.new.there = true ∧ e = ⟨c.path, c.new.text, c.new.runs⟩) ∨ (e ∈ ts ∧ ∀ c ∈ cs, c.path ≠ e.path)
theorem AppRel.one {ts : List En} {cs : List Ch} {us us' : List En} (h : AppRel ts cs us) (h' : AppRel ts cs us') : us = us' :=
  asc_unique h.asc h'.asc (fun e => by rw [h.mem, h'.mem])
theorem AppRel.start {ts : List En} (h : Asc ts) : AppRel ts [] ts := ⟨h, fun e => by simp⟩
theorem AppRel.step {ts : List En} {cs : List Ch} {us us' : List En} {k : Nat} (hk : k < cs.length) (hC : AscK Ch.path cs) (h : AppRel ts (cs.take k) us) (hl : LayRel us cs[k].path cs[k].new us') : AppRel ts (cs.take (k + 1)) us' := by
  refine ⟨hl.asc h.asc, fun e => ?_⟩
  have hlt : ∀ c ∈ cs.take k, c.path ≠ cs[k].path := fun c hc => by
    obtain ⟨i, hi, rfl⟩ := List.getElem_of_mem hc
    rw [List.getElem_take]
    have hi2 : i < k := by simp at hi; omega
    exact less_ne (List.pairwise_iff_getElem.1 hC i k (by omega) hk hi2)
  have htk : ∀ c, c ∈ cs.take (k + 1) ↔ c ∈ cs.take k ∨ c = cs[k] := fun c => by
    rw [List.take_succ_eq_append_getElem hk, List.mem_append, List.mem_singleton]
  rw [hl.mem, h.mem]
  constructor
  · rintro (⟨h1, rfl⟩ | ⟨⟨c, hc, h1, rfl⟩ | ⟨h1, h2⟩, h3⟩)
    · exact .inl ⟨cs[k], (htk _).2 (.inr rfl), h1, rfl⟩
    · exact .inl ⟨c, (htk _).2 (.inl hc), h1, rfl⟩
    · refine .inr ⟨h1, fun c hc => ?_⟩
      rcases (htk c).1 hc with h4 | h4
      · exact h2 c h4
      · rw [h4]; exact fun e' => h3 e'.symm
  · rintro (⟨c, hc, h1, rfl⟩ | ⟨h1, h2⟩)
    · rcases (htk c).1 hc with h4 | h4
      · exact .inr ⟨.inl ⟨c, h4, h1, rfl⟩, hlt c h4⟩
      · subst h4; exact .inl ⟨h1, rfl⟩
    · exact .inr ⟨.inr ⟨h1, fun c hc => h2 c ((htk c).2 (.inl hc))⟩, fun e' => h2 cs[k] ((htk _).2 (.inr rfl)) e'.symm⟩

/-- What one round of impl's loop puts behind. -/
def outA (z : En) : Option En → Option Ch → List En
  | e, none => [e.getD z]
  | _, some c => if c.new.there = true then [⟨c.path, c.new.text, c.new.runs⟩] else []
theorem outA_some (z : En) (e : Option En) (c : Ch) : outA z e (some c) = if c.new.there = true then [⟨c.path, c.new.text, c.new.runs⟩] else [] := by cases e <;> rfl
theorem outA_none (z : En) (e : Option En) : outA z e none = [e.getD z] := by cases e <;> rfl
theorem app_rows {ts : List En} {cs : List Ch} {ns : List ByteArray} (z : En) (hN : AscN ns) (hm : ∀ p, p ∈ ns ↔ (∃ x ∈ ts, En.path x = p) ∨ ∃ y ∈ cs, Ch.path y = p) (hA : Asc ts) (hC : AscK Ch.path cs) :
    AppRel ts cs (ns.flatMap fun p => outA z (fnd En.path ts p) (fnd Ch.path cs p)) := by
  have hpath : ∀ p ∈ ns, ∀ e ∈ outA z (fnd En.path ts p) (fnd Ch.path cs p), e.path = p := fun p hp e he => by
    cases hc : fnd Ch.path cs p with
    | some c =>
      rw [hc, outA_some] at he
      split at he
      · rw [List.mem_singleton.1 he]; exact (fnd_some hc).2
      · cases he
    | none =>
      rw [hc, outA_none] at he
      have he2 : e = (fnd En.path ts p).getD z := List.mem_singleton.1 he
      cases ht : fnd En.path ts p with
      | some x => rw [ht] at he2; rw [he2]; exact (fnd_some ht).2
      | none =>
        exfalso
        rcases (hm p).1 hp with ⟨x, hx, hxp⟩ | ⟨x, hx, hxp⟩
        · unfold fnd at ht
          rw [List.find?_eq_none] at ht
          exact ht x hx (eqb_iff.2 hxp)
        · unfold fnd at hc
          rw [List.find?_eq_none] at hc
          exact hc x hx (eqb_iff.2 hxp)
  have hone : ∀ p, (outA z (fnd En.path ts p) (fnd Ch.path cs p)).length ≤ 1 := fun p => by
    cases fnd Ch.path cs p with
    | none => rw [outA_none]; simp
    | some c => rw [outA_some]; split <;> simp
  have uniqT : ∀ {x y : En}, x ∈ ts → y ∈ ts → x.path = y.path → x = y := fun {x y} hx hy hxy => by
    obtain ⟨i, hi, rfl⟩ := List.getElem_of_mem hx
    obtain ⟨j, hj, rfl⟩ := List.getElem_of_mem hy
    rcases Nat.lt_trichotomy i j with h | h | h
    · exact absurd hxy (less_ne (List.pairwise_iff_getElem.1 hA i j hi hj h))
    · subst h; rfl
    · exact absurd hxy.symm (less_ne (List.pairwise_iff_getElem.1 hA j i hj hi h))
  have uniqC : ∀ {x y : Ch}, x ∈ cs → y ∈ cs → x.path = y.path → x = y := fun {x y} hx hy hxy => by
    obtain ⟨i, hi, rfl⟩ := List.getElem_of_mem hx
    obtain ⟨j, hj, rfl⟩ := List.getElem_of_mem hy
    rcases Nat.lt_trichotomy i j with h | h | h
    · exact absurd hxy (less_ne (List.pairwise_iff_getElem.1 hC i j hi hj h))
    · subst h; rfl
    · exact absurd hxy.symm (less_ne (List.pairwise_iff_getElem.1 hC j i hj hi h))
  refine ⟨?_, fun e => ?_⟩
  · have key : ∀ l : List ByteArray, AscN l → (∀ p ∈ l, p ∈ ns) → Asc (l.flatMap fun p => outA z (fnd En.path ts p) (fnd Ch.path cs p)) := by
      intro l
      induction l with
      | nil => intro _ _; exact List.Pairwise.nil
      | cons p l ih =>
        intro hl hs
        obtain ⟨h1, h2⟩ := List.pairwise_cons.1 hl
        rw [List.flatMap_cons]
        refine List.pairwise_append.2 ⟨?_, ih h2 (fun q hq => hs q (by simp [hq])), fun x hx y hy => ?_⟩
        · have h3 := hone p
          generalize outA z (fnd En.path ts p) (fnd Ch.path cs p) = m at h3
          match m, h3 with
          | [], _ => exact List.Pairwise.nil
          | [x], _ => exact List.pairwise_singleton _ _
        · obtain ⟨q, hq, hy2⟩ := List.mem_flatMap.1 hy
          rw [hpath p (hs p (by simp)) x hx, hpath q (hs q (by simp [hq])) y hy2]
          exact h1 q hq
    exact key ns hN (fun p hp => hp)
  · constructor
    · intro he
      obtain ⟨p, hp, he2⟩ := List.mem_flatMap.1 he
      cases hc : fnd Ch.path cs p with
      | some c =>
        rw [hc, outA_some] at he2
        split at he2
        · rename_i hth
          exact .inl ⟨c, (fnd_some hc).1, hth, List.mem_singleton.1 he2⟩
        · cases he2
      | none =>
        have hpe := hpath p hp e he2
        rw [hc, outA_none] at he2
        have he3 : e = (fnd En.path ts p).getD z := List.mem_singleton.1 he2
        cases ht : fnd En.path ts p with
        | some x =>
          rw [ht] at he3
          have he4 : e = x := he3
          subst he4
          refine .inr ⟨(fnd_some ht).1, fun c hcc e' => ?_⟩
          unfold fnd at hc
          rw [List.find?_eq_none] at hc
          exact hc c hcc (eqb_iff.2 (by rw [e', hpe]))
        | none =>
          exfalso
          rcases (hm p).1 hp with ⟨x, hx, hxp⟩ | ⟨x, hx, hxp⟩
          · unfold fnd at ht
            rw [List.find?_eq_none] at ht
            exact ht x hx (eqb_iff.2 hxp)
          · unfold fnd at hc
            rw [List.find?_eq_none] at hc
            exact hc x hx (eqb_iff.2 hxp)
    · rintro (⟨c, hc, hth, rfl⟩ | ⟨he, hno⟩)
      · refine List.mem_flatMap.2 ⟨c.path, (hm _).2 (.inr ⟨c, hc, rfl⟩), ?_⟩
        have hf : fnd Ch.path cs c.path = some c := by
          cases h : fnd Ch.path cs c.path with
          | none =>
            unfold fnd at h
            rw [List.find?_eq_none] at h
            exact absurd (eqb_iff.2 rfl) (h c hc)
          | some d => rw [uniqC (fnd_some h).1 hc (fnd_some h).2]
        rw [hf, outA_some, if_pos hth]
        simp
      · refine List.mem_flatMap.2 ⟨e.path, (hm _).2 (.inl ⟨e, he, rfl⟩), ?_⟩
        have hf : fnd En.path ts e.path = some e := by
          cases h : fnd En.path ts e.path with
          | none =>
            unfold fnd at h
            rw [List.find?_eq_none] at h
            exact absurd (eqb_iff.2 rfl) (h e he)
          | some d => rw [uniqT (fnd_some h).1 he (fnd_some h).2]
        have hg : fnd Ch.path cs e.path = none := fnd_none (fun c hc => hno c hc)
        rw [hf, hg, outA_none]
        simp
end Go.Proofs.Ytjlflmbifeocbaa

namespace Go.Proofs.Ytjlflmbifeocbaa
open Go.RowKit

structure EBox (b : Nat) (e : En) (W : World) : Prop where
  c0 : W.cell? ⟨b, 0, none⟩ = some (.string e.path)
  c1 : W.cell? ⟨b, 1, none⟩ = some (.string e.text)
  c2 : W.cell? ⟨b, 2, none⟩ = some (.bool e.runs)

theorem EBox.put {b l : Nat} {e : En} {W : World} (h : EBox b e W) (o : Obj) (hl : l ≠ b) : EBox b e (W.putObj l o) := by
  have hb : (W.putObj l o).heap[b]? = W.heap[b]? := World.putObj_heap_other (fun e => hl e.symm)
  exact ⟨(World.cell?_of_block hb).trans h.c0, (World.cell?_of_block hb).trans h.c1, (World.cell?_of_block hb).trans h.c2⟩
theorem EBox.later {b : Nat} {e : En} {W W' : World} (h : EBox b e W) (hb : Below W.heap.size W W') : EBox b e W' := ⟨cell_later hb h.c0, cell_later hb h.c1, cell_later hb h.c2⟩
end Go.Proofs.Ytjlflmbifeocbaa

namespace Go.Proofs.Ytjlflmbifeocbaa
open Go.RowKit

set_option maxHeartbeats 1000000 in
theorem implTree_any (a : Option Addr) (cap : Nat) (ts : List En) (w : World) (hts : ES w a ts) (hn : ts.length ≤ 1048576) (hz : ∀ e ∈ ts, e.path.size ≤ 1048576) :
    Calls Try.prog 29 #[.agg #[.slice a ts.length cap]] w fun e w' => ∃ bl : Bool, e = .returned (.bool bl) ∧ (bl = true ↔ ValidTs ts) ∧ Below w.heap.size w w' := by
  have hal : Below w.heap.size w (w.alloc (.cells #[.slice a ts.length cap] 25)) := (Below.refl _ _).alloc (Nat.le_refl _) _
  go_enter Try.func29, Try.ntmps29
  go_wp2_with fail
  refine (grow_any a cap ts _ (hts.below hal) hn hz).mono ?_
  rintro e w1 ⟨hb, ⟨hv, root, rfl, _⟩ | ⟨hv, rfl⟩⟩
  · go_wp2
    go_ret
    exact ⟨true, rfl, ⟨fun _ => hv, fun _ => rfl⟩, hal.trans (hb.mono hal.size)⟩
  · go_wp2
    go_ret
    exact ⟨false, rfl, ⟨fun h => (by cases h), fun h => absurd h hv⟩, hal.trans (hb.mono hal.size)⟩
end Go.Proofs.Ytjlflmbifeocbaa
