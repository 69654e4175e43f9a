/-
  ChgN, DiffI, AppR, AppI: laid as one text.
-/
import Derived.Test.YtockgapdfcapnaaZbf
import Derived.Test.YtockgapdfcapnaaPatP
import Derived.Test.YtockgapdfcapnaaRowR
import Derived.Test.YtockgapdfcapnaaZba
import Derived.Test.YtockgapdfcapnaaZbb
import Derived.Test.YtockgapdfcapnaaChgI
import Derived.Test.YtockgapdfcapnaaZbc
import Derived.Deep.AppendLies
import Derived.Sort.CutIn
import Derived.Test.YtockgapdfcapnaaZbd
namespace Go.Proofs.Ytockgapdfcapnaa
open Go.RowKit

set_option maxRecDepth 20000 in
set_option maxHeartbeats 1000000 in
theorem change_none (h : Nat) (p : ByteArray) (f g : Fl) (w : World) (hs : sameF f g = true) :
    Calls Try.prog 41 #[.pointer (some ⟨h, 0, none⟩), .string p, flV f, flV g] w fun e w' => e = .returned (.tuple #[]) ∧ Below w.heap.size w w' := by
  unfold flV
  have hal : Below w.heap.size w ((w.alloc (.cells #[.bool f.there, .string f.text, .bool f.runs] 69)).alloc (.cells #[.bool g.there, .string g.text, .bool g.runs] 69)) := ((Below.refl _ _).alloc (Nat.le_refl _) _).alloc (by simp) _
  obtain ⟨h1, h2, h3⟩ : f.there = g.there ∧ f.text.toList = g.text.toList ∧ f.runs = g.runs := by simpa [sameF, and_assoc] using hs
  rw [h1, h3] at hal
  go_enter Try.func41, Try.ntmps41
  go_wp2
  refine bodyPost_end (v := .tuple #[]) ?_ rfl ⟨rfl, hal⟩
  go_light
  simp [results, Try.results41, go_sem]
end Go.Proofs.Ytockgapdfcapnaa

namespace Go.Proofs.Ytockgapdfcapnaa
open Go.RowKit Go.Shelf

attribute [local go_sem] Oper.semAt_some

theorem sideE_iter (Ba Bb : Nat) (a b : Option Addr) (ca cb : Nat) (ts us : List En) (hca : ts.length ≤ ca) (hcb : us.length ≤ cb) (hnt : ts.length ≤ 1048576) (hnu : us.length ≤ 1048576) :
    Iter 68 #[.pointer (some ⟨Ba, 0, none⟩), .pointer (some ⟨Bb, 0, none⟩)] yE (mrgE ts us) (sideMemE Ba Bb a b ca cb ts us) :=
  fun n l J Jx W hM hJ hY h0 => sideE1_in n l Ba Bb a b ca cb ts us hca hcb hnt hnu J Jx W hM hJ hY h0

theorem OutCh.put {h l : Nat} {W0 W : World} {v : Value} {us : List Ch} (s : OutCh h W0 v us W) (o : Obj) (hl : l < W0.heap.size) (hne : l ≠ h) : OutCh h (W0.putObj l o) v us (W.putObj l o) := by
  have hb : ∀ (X : World) (k : Nat), k ≠ l → (X.putObj l o).heap[k]? = X.heap[k]? := fun X k hk => World.putObj_heap_other hk
  have hh := hb W h (fun e => hne e.symm)
  have hg : W.grownBy (W.putObj l o) (some l) := ⟨rfl, rfl, rfl, by simp, fun k _ hk => hb W k (fun e => hk (by rw [e]))⟩
  have hlW := Nat.lt_of_lt_of_le hl s.grown.size
  refine ⟨(World.cell?_of_block hh).trans s.cell, frozen_of hh s.fz, ?_, ⟨s.grown.os, s.grown.tape, s.grown.output, by simpa using s.grown.size, fun k hk hkh => ?_⟩, by simpa using s.lt⟩
  · have h1 := s.row.kept hg (Or.inr (fun e => by have := owns_row_ge s.row e; omega))
    simpa using h1
  · have hk' : k < W0.heap.size := by simpa using hk
    by_cases e : k = l
    · subst e
      rw [World.putObj_heap_same hlW, World.putObj_heap_same hl]
    · rw [hb W k e, hb W0 k e]
      exact s.grown.block k hk' hkh

def DfI (wl : World) (ob : Nat) (pre : List PE) (W : World) : Prop :=
  ∃ Wz v, Wz.heap.size = wl.heap.size + 2 ∧ Below wl.heap.size wl Wz ∧ OutCh ob Wz v (outsE pre) W

theorem chg_out (ob : Nat) (Wz : World) (v : Value) (us : List Ch) (x y : En) (w : World) (hst : OutCh ob Wz v us w) (hul : us.length ≤ 1048576) (hp : (orP x y).size ≤ 1048576) (hx : (fileE x).text.size ≤ 1048576) (hy : (fileE y).text.size ≤ 1048576) :
    Calls Try.prog 41 #[.pointer (some ⟨ob, 0, none⟩), .string (orP x y), flV (fileE x), flV (fileE y)] w fun e w' => e = .returned (.tuple #[]) ∧ ∃ v', OutCh ob Wz v' (us ++ outC x y) w' := by
  unfold outC
  cases hs : sameF (fileE x) (fileE y) with
  | true =>
    refine (change_none ob (orP x y) (fileE x) (fileE y) w hs).mono ?_
    rintro e w' ⟨rfl, hb⟩
    exact ⟨rfl, v, by simpa using hst.later hb⟩
  | false =>
    refine (change_any ob Wz v us ⟨orP x y, fileE x, fileE y⟩ w hst hul hs (by show (orP x y).size ≤ _; omega) (by show (fileE x).text.size ≤ _; omega) (by show (fileE y).text.size ≤ _; omega)).mono ?_
    rintro e w' ⟨rfl, ad, cap, h⟩
    exact ⟨rfl, _, by simpa using h⟩

theorem mrgE_is {ts us : List En} (ht : ValidTs ts) (hu : ValidTs us) : mrgE ts us = (pathsL [ts, us]).map fun p => (p, fnd En.path ts p, fnd En.path us p) := by
  have h1 := addP_asc (l := []) List.Pairwise.nil ts
  have h2 := addP_asc h1.1 us
  have hmem : ∀ p, p ∈ pathsL [ts, us] ↔ (∃ x ∈ ts, En.path x = p) ∨ ∃ y ∈ us, En.path y = p := fun p => by
    show p ∈ addP (addP [] ts) us ↔ _
    rw [h2.2, h1.2]
    simp
  exact mrg_eq En.path En.path (ts.length + us.length) ts us (pathsL [ts, us]) (Nat.le_refl _) (valid_asc ht) (valid_asc hu) h2.1 hmem
theorem mrg_len {α β : Type} (pa : α → ByteArray) (pb : β → ByteArray) : ∀ (n : Nat) (ts : List α) (us : List β), (mrg pa pb n ts us).length ≤ n
  | 0, _, _ => by simp [mrg]
  | n + 1, [], [] => by simp [mrg]
  | n + 1, [], y :: us => by have := mrg_len pa pb n [] us; simp only [mrg, List.length_cons]; omega
  | n + 1, x :: ts, [] => by have := mrg_len pa pb n ts []; simp only [mrg, List.length_cons]; omega
  | n + 1, x :: ts, y :: us => by
    have h1 := mrg_len pa pb n ts (y :: us)
    have h2 := mrg_len pa pb n (x :: ts) us
    have h3 := mrg_len pa pb n ts us
    simp only [mrg]
    split
    · simp only [List.length_cons]; omega
    · split
      · simp only [List.length_cons]; omega
      · simp only [List.length_cons]; omega
theorem outsE_len (pre : List PE) : (outsE pre).length ≤ pre.length := by
  induction pre with
  | nil => simp [outsE]
  | cons x pre ih =>
    have h1 : outsE (x :: pre) = outC (x.2.1.getD zeroE) (x.2.2.getD zeroE) ++ outsE pre := by simp [outsE]
    have h2 : (outC (x.2.1.getD zeroE) (x.2.2.getD zeroE)).length ≤ 1 := by unfold outC; split <;> simp
    rw [h1, List.length_append, List.length_cons]
    omega
theorem getD_ok {ts : List En} (h : ValidTs ts) (hz : ∀ e ∈ ts, e.path.size ≤ 1048576) (p : ByteArray) : ((fnd En.path ts p).getD zeroE).path.size ≤ 1048576 ∧ (fileE ((fnd En.path ts p).getD zeroE)).text.size ≤ 1048576 := by
  cases hf : fnd En.path ts p with
  | none => exact ⟨by simp [zeroE, ByteArray.size], by simp [zeroE, fileE, ByteArray.size]⟩
  | some e =>
    have he := (fnd_some hf).1
    have h1 := valid_enF h he
    simp only [enOk, Bool.and_eq_true, decide_eq_true_eq] at h1
    exact ⟨hz e he, by show e.text.size ≤ _; omega⟩

def dfBase (ob B : Nat) : Nat → Option Value
  | 5 => some (.pointer (some ⟨ob, 0, none⟩))
  | 6 => some (.pointer (some ⟨B, 0, none⟩))
  | 7 => some (.pointer (some ⟨B + 1, 0, none⟩))
  | _ => none
def dfTab (B : Nat) (X Y : En) : Nat → Option Value
  | 0 => some (.pointer (some ⟨B, 0, none⟩))
  | 1 => some (.string X.path)
  | 2 => some (.pointer (some ⟨B + 1, 0, none⟩))
  | 3 => some (.string Y.path)
  | 5 => some (.string (orP X Y))
  | 6 => some (.agg #[.string X.path, .string X.text, .bool X.runs])
  | 7 => some (.agg #[.bool (fileE X).there, .string (fileE X).text, .bool (fileE X).runs])
  | 8 => some (.agg #[.string Y.path, .string Y.text, .bool Y.runs])
  | 9 => some (.agg #[.bool (fileE Y).there, .string (fileE Y).text, .bool (fileE Y).runs])
  | _ => none
/-- Where the round's region stands. -/
structure DfV (W : World) (B ob : Nat) (X Y : En) (E : World → Prop) (L : Array Bool) (a : Act) (w : World) : Prop where
  sl : Sl 36 24 (dfBase ob B) (dfTab B X Y) L a
  wd : L.getD 10 false = false → ∃ z : Later W, w = z.world
  sc : L.getD 4 false = true → L.getD 10 false = false → ∃ b, a.eval (.tmp 28) = .slice (some ⟨b, 0, none⟩) 2 2 ∧ w.cell? ⟨b, 0, none⟩ = some (.string X.path) ∧ w.cell? ⟨b, 1, none⟩ = some (.string Y.path)
  fin : L.getD 10 false = true → E w

theorem evalD {a : Act} {k : Nat} {v : Value} (h : a.eval (.tmp k) = v) : a.tmps[k]?.getD undef = v := by
  rw [← Array.getD_eq_getD_getElem?]; exact h

theorem DfV.step {W : World} {B ob : Nat} {X Y : En} {E : World → Prop} {L : Array Bool} {a : Act} {z z' : Later W} (h : DfV W B ob X Y E L a z.world) {i : Nat} {v : Value} (hi : i < 10) (hi4 : i ≠ 4) (h10 : L.getD 10 false = false) (ht : dfTab B X Y i = some v) (hb : Below z.world.heap.size z.world z'.world) :
    DfV W B ob X Y E (L.setIfInBounds i true) (a.put (some (24 + i)) v) z'.world := by
  have g10 : (L.setIfInBounds i true).getD 10 false = false := by rw [getD_set_ne false (by omega)]; exact h10
  refine ⟨h.sl.put (by omega) (fun u hu => by rw [ht] at hu; cases hu; rfl), fun _ => ⟨z', rfl⟩, fun h4 _ => ?_, fun h => by rw [g10] at h; cases h⟩
  rw [getD_set_ne false (by omega)] at h4
  obtain ⟨b, h1, h2, h3⟩ := h.sc h4 h10
  exact ⟨b, by rw [Act.eval_put (fun d hd => by cases hd; intro e'; injection e' with e'; have e2 : 28 = 24 + i := e'; omega)]; exact h1, cell_later hb h2, cell_later hb h3⟩
theorem DfV.build {W : World} {B ob : Nat} {X Y : En} {E : World → Prop} {L : Array Bool} {a : Act} {z : Later W} {t : TypeId} (h : DfV W B ob X Y E L a z.world) (h10 : L.getD 10 false = false) :
    DfV W B ob X Y E (L.setIfInBounds 4 true) (a.put (some 28) (.slice (some ⟨z.world.heap.size, 0, none⟩) 2 2)) (z.world.alloc (.cells #[.string X.path, .string Y.path] t)) := by
  have g10 : (L.setIfInBounds 4 true).getD 10 false = false := by rw [getD_set_ne false (by omega)]; exact h10
  refine ⟨h.sl.put (i := 4) (by omega) (fun u hu => by cases hu), fun _ => ⟨⟨_, z.kept.alloc z.kept.size _⟩, rfl⟩, fun h4 _ => ⟨z.world.heap.size, ?_, by simp, by simp⟩, fun h => by rw [g10] at h; cases h⟩
  show ((a.tmps.setIfInBounds 28 _).getD 28 undef) = _
  rw [Array.getD_eq_getD_getElem?, Array.getElem?_setIfInBounds_self_of_lt (by rw [h.sl.sz]; omega)]
  rfl
theorem DfV.last {W : World} {B ob : Nat} {X Y : En} {E : World → Prop} {L : Array Bool} {a : Act} {w w' : World} {v : Value} (h : DfV W B ob X Y E L a w) (hE : E w') (hL : L.getD 10 true = false) :
    DfV W B ob X Y E (L.setIfInBounds 10 true) (a.put (some 34) v) w' := by
  have g10 : (L.setIfInBounds 10 true).getD 10 false = true := by
    have h1 := getD_false hL
    have h2 : 10 < L.size := by simpa using (List.getElem?_eq_some_iff.1 h1).1
    rw [Array.getD_eq_getD_getElem?, Array.getElem?_setIfInBounds_self_of_lt h2]
    rfl
  exact ⟨h.sl.put (i := 10) (by omega) (fun u hu => by cases hu), (fun h => by rw [g10] at h; cases h), (fun _ h => by rw [g10] at h; cases h), fun _ => hE⟩

set_option maxRecDepth 100000 in
set_option maxHeartbeats 40000000 in
theorem implDiffC_any (a b : Option Addr) (ca cb : Nat) (ts us : List En) (w : World) (hts : ES w a ts) (hus : ES w b us) (hn : ts.length ≤ 1048576) (hnb : us.length ≤ 1048576) (hca : ts.length ≤ ca) (hcb : us.length ≤ cb) (hz : ∀ e ∈ ts, e.path.size ≤ 1048576) (hzb : ∀ e ∈ us, e.path.size ≤ 1048576) :
    Calls Try.prog 11 #[.agg #[.slice a ts.length ca], .agg #[.slice b us.length cb]] w fun e w' => DiffPostC ts us w e w' := by
  have hal : Below w.heap.size w (((w.alloc (.cells #[.slice a ts.length ca] 32)).alloc (.cells #[.slice b us.length cb] 32)).alloc (.cells #[.slice none 0 0] 37)) := (((Below.refl _ _).alloc (Nat.le_refl _) _).alloc (by simp) _).alloc (by simp; omega) _
  have m0 : (((w.alloc (.cells #[.slice a ts.length ca] 32)).alloc (.cells #[.slice b us.length cb] 32)).alloc (.cells #[.slice none 0 0] 37)).cell? ⟨w.heap.size, 0, none⟩ = some (.slice a ts.length ca) := by simp [go_sem]
  have m1 : (((w.alloc (.cells #[.slice a ts.length ca] 32)).alloc (.cells #[.slice b us.length cb] 32)).alloc (.cells #[.slice none 0 0] 37)).cell? ⟨w.heap.size + 1, 0, none⟩ = some (.slice b us.length cb) := by simp [go_sem]
  have k0 : (((w.alloc (.cells #[.slice a ts.length ca] 32)).alloc (.cells #[.slice b us.length cb] 32)).alloc (.cells #[.slice none 0 0] 37)).cell? ⟨w.heap.size + 1 + 1, 0, none⟩ = some (.slice none 0 0) := by simp [go_sem]
  have kf : (((w.alloc (.cells #[.slice a ts.length ca] 32)).alloc (.cells #[.slice b us.length cb] 32)).alloc (.cells #[.slice none 0 0] 37)).frozen? ⟨w.heap.size + 1 + 1, 0, none⟩ = false := by simp [go_sem]
  have os0 : w.heap.size + 1 + 1 < (((w.alloc (.cells #[.slice a ts.length ca] 32)).alloc (.cells #[.slice b us.length cb] 32)).alloc (.cells #[.slice none 0 0] 37)).heap.size := by simp [go_sem]
  refine (callsIn_wide (n := 5)).1 ?_
  refine callsIn_of_wp_marks Try.func11 rfl trivial ?_ rfl
  simp only [Try.ntmps11, List.size_toArray, List.length_cons, List.length_nil, Nat.reduceAdd, Nat.reduceSub, Array.replicate_succ, Array.replicate_zero, List.push_toArray, List.append_toArray, List.nil_append, List.cons_append]
  gi_wp2_with fail
  refine ⟨trivial, ?_⟩
  refine (callsIn_wide.2 (implTree_any a ca ts _ (hts.below hal) hn hz)).mono ?_
  rintro e w1 ⟨vb, rfl, hvb, hb1⟩
  replace m0 := cell_later hb1 m0
  replace m1 := cell_later hb1 m1
  replace k0 := cell_later hb1 k0
  replace kf : w1.frozen? ⟨w.heap.size + 1 + 1, 0, none⟩ = false := (hb1.frozen (p := ⟨w.heap.size + 1 + 1, 0, none⟩) os0).trans kf
  have os1 : w.heap.size + 1 + 1 < w1.heap.size := Nat.lt_of_lt_of_le os0 hb1.size
  have hbw := hal.trans (hb1.mono hal.size)
  have HV : Keep (vb = true ↔ ValidTs ts) := ⟨hvb⟩
  clear hvb hb1 hal os0
  obtain ⟨ta, hta⟩ : ∃ x, x = w.heap.size := ⟨_, rfl⟩
  obtain ⟨tb, htb⟩ : ∃ x, x = w.heap.size + 1 := ⟨_, rfl⟩
  obtain ⟨g, hg⟩ : ∃ x, x = w.heap.size + 1 + 1 := ⟨_, rfl⟩
  rw [← hg] at k0 kf ⊢
  rw [← htb] at m1 ⊢
  rw [← hta] at m0 ⊢
  have HS : Keep (ta = w.heap.size ∧ tb = ta + 1 ∧ g = tb + 1 ∧ g < w1.heap.size) := ⟨by omega⟩
  clear hta htb hg os1
  have HNO : Keep (∀ X : World, Below w.heap.size w X → ¬ (ValidTs ts ∧ ValidTs us) → X.cell? ⟨g, 0, none⟩ = some (.slice none 0 0) → DiffPostC ts us w (.returned (.agg #[.slice none ([] : List Ch).length 0])) (X.setCell ⟨g, 0, none⟩ (.slice none 0 0))) := ⟨fun X hX hnv hc => ⟨[], .inr ⟨hnv, rfl⟩, ⟨none, 0, rfl, CL.nil _ _ _, Nat.le_refl _⟩, hX.setCell (p := ⟨g, 0, none⟩) (by have := HS.out; show _ ≤ g; omega) _⟩⟩
  cases vb with
  | false =>
    have hnv : ¬ (ValidTs ts ∧ ValidTs us) := fun h => by have := HV.out.2 h.1; cases this
    gi_wp2
    refine ⟨trivial, ?_⟩
    gi_wp2
    refine ⟨.agg #[.slice none ([] : List Ch).length 0], ?_, HNO.out _ hbw hnv k0⟩
    simp [results, Try.f11, go_sem, k0]
  | true =>
    have HVT : Keep (ValidTs ts) := ⟨HV.out.1 rfl⟩
    gi_wp2_with fail
    refine ⟨trivial, ?_⟩
    refine (callsIn_wide.2 (implTree_any b cb us _ (hus.below hbw) hnb hzb)).mono ?_
    rintro e w2 ⟨vb, rfl, hvb, hb2⟩
    have HV2 : Keep (vb = true ↔ ValidTs us) := ⟨hvb⟩
    replace m0 := cell_later hb2 m0
    replace m1 := cell_later hb2 m1
    replace k0 := cell_later hb2 k0
    replace kf : w2.frozen? ⟨g, 0, none⟩ = false := (hb2.frozen (p := ⟨g, 0, none⟩) HS.out.2.2.2).trans kf
    have HS2 : Keep (ta = w.heap.size ∧ tb = ta + 1 ∧ g = tb + 1 ∧ g < w2.heap.size) := ⟨by have := HS.out; have := hb2.size; omega⟩
    replace hbw := hbw.trans (hb2.mono hbw.size)
    clear hvb hb2 HS HV
    cases vb with
    | false =>
      have hnv : ¬ (ValidTs ts ∧ ValidTs us) := fun h => by have := HV2.out.2 h.2; cases this
      gi_wp2
      refine ⟨.agg #[.slice none ([] : List Ch).length 0], ?_, HNO.out _ hbw hnv k0⟩
      simp [results, Try.f11, go_sem, k0]
    | true =>
      have HVU : Keep (ValidTs us) := ⟨HV2.out.1 rfl⟩
      have hal2 : Below w2.heap.size w2 (w2.alloc (.cells #[.slice none 0 0] 37)) := (Below.refl _ _).alloc (Nat.le_refl _) _
      replace m0 := cell_later hal2 m0
      replace m1 := cell_later hal2 m1
      have ob0 : (((w2.alloc (.cells #[.slice none 0 0] 37)).alloc (.cells #[.slice a ts.length ca] 30)).alloc (.cells #[.slice b us.length cb] 30)).cell? ⟨w2.heap.size, 0, none⟩ = some (.slice none 0 0) := by simp [go_sem]
      have of0 : (((w2.alloc (.cells #[.slice none 0 0] 37)).alloc (.cells #[.slice a ts.length ca] 30)).alloc (.cells #[.slice b us.length cb] 30)).frozen? ⟨w2.heap.size, 0, none⟩ = false := by simp [go_sem]
      have ma : (((w2.alloc (.cells #[.slice none 0 0] 37)).alloc (.cells #[.slice a ts.length ca] 30)).alloc (.cells #[.slice b us.length cb] 30)).cell? ⟨w2.heap.size + 1, 0, none⟩ = some (.slice a ts.length ca) := by simp [go_sem]
      have mb : (((w2.alloc (.cells #[.slice none 0 0] 37)).alloc (.cells #[.slice a ts.length ca] 30)).alloc (.cells #[.slice b us.length cb] 30)).cell? ⟨w2.heap.size + 1 + 1, 0, none⟩ = some (.slice b us.length cb) := by simp [go_sem]
      have wsz : (((w2.alloc (.cells #[.slice none 0 0] 37)).alloc (.cells #[.slice a ts.length ca] 30)).alloc (.cells #[.slice b us.length cb] 30)).heap.size = w2.heap.size + 3 := by simp [go_sem]
      have hb3 : Below w2.heap.size w2 (((w2.alloc (.cells #[.slice none 0 0] 37)).alloc (.cells #[.slice a ts.length ca] 30)).alloc (.cells #[.slice b us.length cb] 30)) := (((Below.refl _ _).alloc (Nat.le_refl _) _).alloc (by simp) _).alloc (by simp; omega) _
      gi_wp2_with (refine ⟨trivial, ?_⟩; gi_at_call 40; refine (callsIn_wide.2 (sideE_any a b ts.length us.length ca cb _)).mono ?_; rintro e w' ⟨rfl, rfl⟩)
      generalize hwl : (((w2.alloc (.cells #[.slice none 0 0] 37)).alloc (.cells #[.slice a ts.length ca] 30)).alloc (.cells #[.slice b us.length cb] 30)) = wl at *
      clear hwl
      have hbl := hbw.trans (hb3.mono hbw.size)
      have kl := cell_later hb3 k0
      have kfl : wl.frozen? ⟨g, 0, none⟩ = false := (hb3.frozen (p := ⟨g, 0, none⟩) HS2.out.2.2.2).trans kf
      obtain ⟨ob, hob⟩ : ∃ ob, ob = w2.heap.size := ⟨_, rfl⟩
      rw [← hob] at ob0 of0 ma mb wsz HS2 ⊢
      have HL : Keep (ta = w.heap.size ∧ tb = ta + 1 ∧ g = tb + 1 ∧ g < ob ∧ wl.heap.size = ob + 3) := ⟨by have := HS2.out; omega⟩
      have hI0 : ∀ o1 o2, DfI wl ob [] ((wl.alloc o1).alloc o2) := fun o1 o2 => by
        have hb : Below wl.heap.size wl ((wl.alloc o1).alloc o2) := ((Below.refl _ _).alloc (Nat.le_refl _) _).alloc (by simp) _
        exact ⟨_, _, by simp, hb, OutCh.start (cell_later hb ob0) ((hb.frozen (p := ⟨ob, 0, none⟩) (by show ob < _; omega)).trans of0) (by simp; omega)⟩
      clear hb3 hob k0 kf m0 m1 HS2 HV2 hbw hal2
      refine range_iter (sideE_iter (ob + 1) (ob + 1 + 1) a b ca cb ts us hca hcb hn hnb) (enters_of Try.func68 (by kernel_rfl) rfl) (n := 5) (by omega) rfl (fun x => rfl) (DfI wl ob) (fun _ _ => False)
        (fun pre W ⟨Wz, v, hz1, hz2, hst⟩ => ⟨hst.keep (cell_later hz2 ma) (by omega) (by omega), hst.keep (cell_later hz2 mb) (by omega) (by omega), hts.below (hst.below (hbl.trans (hz2.mono hbl.size)) (by have := HL.out; omega)), hus.below (hst.below (hbl.trans (hz2.mono hbl.size)) (by have := HL.out; omega))⟩)
        (fun pre W W' ⟨Wz, v, hz1, hz2, hst⟩ hb => ⟨Wz, v, hz1, hz2, hst.later hb⟩)
        (fun pre W l o hl ⟨Wz, v, hz1, hz2, hst⟩ => ⟨Wz.putObj l o, v, by simpa using hz1, hz2.grown (row := some l) ⟨rfl, rfl, rfl, by simp, fun k _ hk => World.putObj_heap_other (fun e => hk (by rw [e]))⟩ hz2.size (fun j e => by cases e; omega), hst.put o (by omega) (by omega)⟩)
        (fun _ _ _ _ _ h => h.elim) hI0
        (fun x B a' W => a' = { tmps := #[.agg #[.slice a ts.length ca], .agg #[.slice b us.length cb], .pointer (some ⟨ta, 0, none⟩), .pointer (some ⟨tb, 0, none⟩), .pointer (some ⟨g, 0, none⟩), .pointer (some ⟨ob, 0, none⟩), .pointer (some ⟨B, 0, none⟩), .pointer (some ⟨B + 1, 0, none⟩), .agg #[.slice a ts.length ca], .bool true, .bool false, .bool false, .agg #[.slice b us.length cb], .bool true, .bool false, .bool false, undef, .pointer (some ⟨ta, 0, none⟩), .slice a ts.length ca, .pointer (some ⟨tb, 0, none⟩), .slice b us.length cb, .func (.func 68) #[] #[.pointer (some ⟨ob + 1, 0, none⟩), .pointer (some ⟨ob + 1 + 1, 0, none⟩)], cutEV (x.2.1.getD zeroE), cutEV (x.2.2.getD zeroE), undef, undef, undef, undef, undef, undef, undef, undef, undef, undef, undef, undef], defers := [] } ∧ EBox B (x.2.1.getD zeroE) W ∧ EBox (B + 1) (x.2.2.getD zeroE) W)
        (fun x B a' W l o hl ⟨h1, h2, h3⟩ => ⟨h1, h2.put o (by omega), h3.put o (by omega)⟩) ?assign ?body ?done ?stop
      case assign =>
        intro l x W K hK
        unfold yE cutEV
        gi_wp2
        exact hK _ _ (((Below.refl _ _).alloc (Nat.le_refl _) _).alloc (by simp) _) ⟨rfl, ⟨by simp [go_sem], by simp [go_sem], by simp [go_sem]⟩, ⟨by simp [go_sem], by simp [go_sem], by simp [go_sem]⟩⟩
      case body =>
        rintro l pre x a' B W ⟨Wz, v, hz1, hz2, hst⟩ ⟨r, hr⟩ hB1 hB2 ⟨rfl, hx, hy⟩
        have hul : (outsE pre).length ≤ 1048576 := by
          have h1 := outsE_len pre
          have h2 := congrArg List.length hr
          have h3 := mrg_len En.path En.path (ts.length + us.length) ts us
          have h4 := HVT.out.1
          have h5 := HVU.out.1
          simp only [List.length_append] at h2
          unfold mrgE at h2
          omega
        obtain ⟨q, hq1, hq2⟩ : ∃ q, x.2.1 = fnd En.path ts q ∧ x.2.2 = fnd En.path us q := by
          have hm : x ∈ mrgE ts us := by rw [hr]; simp
          rw [mrgE_is HVT.out HVU.out] at hm
          obtain ⟨q, _, rfl⟩ := List.mem_map.1 hm
          exact ⟨q, rfl, rfl⟩
        have hzx := getD_ok HVT.out hz q
        have hzy := getD_ok HVU.out hzb q
        rw [← hq1] at hzx
        rw [← hq2] at hzy
        clear hq1 hq2 q
        have HT : Keep (outsE (pre ++ [x]) = outsE pre ++ outC (x.2.1.getD zeroE) (x.2.2.getD zeroE)) := ⟨outsE_snoc pre x⟩
        generalize x.2.1.getD zeroE = X at *
        generalize x.2.2.getD zeroE = Y at *
        have hor : (orP X Y).size ≤ 1048576 := by unfold orP; split; exact hzy.1; exact hzx.1
        have HCh : Keep (∀ (k : Nat) (z : Later W), CallsIn (Fence.wide.inRound l) k Try.prog 41 #[.pointer (some ⟨ob, 0, none⟩), .string (orP X Y), .agg #[.bool (fileE X).there, .string (fileE X).text, .bool (fileE X).runs], .agg #[.bool (fileE Y).there, .string (fileE Y).text, .bool (fileE Y).runs]] z.world fun e w' => e = .returned (.tuple #[]) ∧ ∃ v', OutCh ob Wz v' (outsE pre ++ outC X Y) w') := ⟨fun k z => CallsIn.inRound l (callsIn_wide.2 (chg_out ob Wz v (outsE pre) X Y z.world (hst.later z.kept) hul hor hzx.2 hzy.2))⟩
        have HFX : Keep (∀ (k : Nat) (z : Later W), CallsIn (Fence.wide.inRound l) k Try.prog 43 #[.agg #[.string X.path, .string X.text, .bool X.runs]] z.world fun e w' => e = .returned (.agg #[.bool (fileE X).there, .string (fileE X).text, .bool (fileE X).runs]) ∧ ∃ y : Later W, w' = y.world ∧ Below z.world.heap.size z.world y.world) := ⟨fun k z => CallsIn.inRound l (callsIn_wide.2 ((fileE_any X z.world).mono (fun e w' h => ⟨h.1, ⟨w', z.kept.trans (h.2.mono z.kept.size)⟩, rfl, h.2⟩)))⟩
        have HFY : Keep (∀ (k : Nat) (z : Later W), CallsIn (Fence.wide.inRound l) k Try.prog 43 #[.agg #[.string Y.path, .string Y.text, .bool Y.runs]] z.world fun e w' => e = .returned (.agg #[.bool (fileE Y).there, .string (fileE Y).text, .bool (fileE Y).runs]) ∧ ∃ y : Later W, w' = y.world ∧ Below z.world.heap.size z.world y.world) := ⟨fun k z => CallsIn.inRound l (callsIn_wide.2 ((fileE_any Y z.world).mono (fun e w' h => ⟨h.1, ⟨w', z.kept.trans (h.2.mono z.kept.size)⟩, rfl, h.2⟩)))⟩
        have HOr : Keep (∀ (k : Nat) (z : Later W) (b : Nat), z.world.cell? ⟨b, 0, none⟩ = some (.string X.path) → z.world.cell? ⟨b, 1, none⟩ = some (.string Y.path) → CallsIn (Fence.wide.inRound l) k Try.prog 42 #[.slice (some ⟨b, 0, none⟩) 2 2] z.world fun e w' => e = .returned (.string (orP X Y)) ∧ ∃ y : Later W, w' = y.world ∧ Below z.world.heap.size z.world y.world) := ⟨fun k z b h1 h2 => CallsIn.inRound l (callsIn_wide.2 ((orS_any b 0 X.path Y.path _ h1 h2).mono (fun e w' h => ⟨h.1, z, h.2, Below.refl _ _⟩)))⟩
        have HE : Keep (∀ v' w', OutCh ob Wz v' (outsE pre ++ outC X Y) w' → TwoB wl.heap.size W w' ∧ DfI wl ob (pre ++ [x]) w') := ⟨fun v' w' h => ⟨⟨(h.grown.block _ (by omega) (fun e => by have := HL.out; cases e; omega)).trans (hst.grown.block _ (by omega) (fun e => by have := HL.out; cases e; omega)).symm, (h.grown.block _ (by omega) (fun e => by have := HL.out; cases e; omega)).trans (hst.grown.block _ (by omega) (fun e => by have := HL.out; cases e; omega)).symm⟩, Wz, v', hz1, hz2, by rw [HT.out]; exact h⟩⟩
        have xz0 := fun z : Later W => (hx.later z.kept).c0
        have xz1 := fun z : Later W => (hx.later z.kept).c1
        have xz2 := fun z : Later W => (hx.later z.kept).c2
        have yz0 := fun z : Later W => (hy.later z.kept).c0
        have yz1 := fun z : Later W => (hy.later z.kept).c1
        have yz2 := fun z : Later W => (hy.later z.kept).c2
        clear hx hy hst hr hul hzx hzy hor HT hI0 ma mb of0 ob0 kl kfl hbl hts hus hz hzb HNO
        gi_wp2
        refine wpIn_region_inv (by kernel_rfl) (by kernel_rfl) (DfV W B ob X Y (fun w' => ∃ v', OutCh ob Wz v' (outsE pre ++ outC X Y) w')) ?_ ?_ ?_
        · refine ⟨⟨rfl, fun k v hk => ?_, fun j v _ hL => ?_⟩, fun _ => ⟨⟨W.drew, (Below.refl _ _).drew⟩, rfl⟩, fun h => ?_, fun h => ?_⟩
          · match k, hk with
            | 5, hk => cases hk; exact ⟨by omega, rfl⟩
            | 6, hk => cases hk; exact ⟨by omega, rfl⟩
            | 7, hk => cases hk; exact ⟨by omega, rfl⟩
          · exfalso; rw [getD_repl] at hL; cases hL
          · exfalso; rw [getD_repl] at h; cases h
          · exfalso; rw [getD_repl] at h; cases h
        · intro L a2 w2 hinv hall
          obtain ⟨v', h'⟩ := hinv.fin (hall 10 (by decide))
          exact HE.out _ _ h'
        · intro L a2 w2 i o hinv hcl hL ho hdep
          have hlt : i < 11 := (Array.getElem?_eq_some_iff.1 ho).1
          have h10 : i ≠ 10 → L.getD 10 false = false := fun hne => by
            cases hb : L.getD 10 false with
            | false => rfl
            | true =>
              exfalso
              have d5 := hcl 10 _ rfl hb ⟨5, .data⟩ (by simp) rfl
              have d7 := hcl 10 _ rfl hb ⟨7, .data⟩ (by simp) rfl
              have d9 := hcl 10 _ rfl hb ⟨9, .data⟩ (by simp) rfl
              have d4 := hcl 5 _ rfl d5 ⟨4, .data⟩ (by simp) rfl
              have d6 := hcl 7 _ rfl d7 ⟨6, .data⟩ (by simp) rfl
              have d8 := hcl 9 _ rfl d9 ⟨8, .data⟩ (by simp) rfl
              have d1 := hcl 4 _ rfl d4 ⟨1, .data⟩ (by simp) rfl
              have d3 := hcl 4 _ rfl d4 ⟨3, .data⟩ (by simp) rfl
              have d0 := hcl 1 _ rfl d1 ⟨0, .data⟩ (by simp) rfl
              have d2 := hcl 3 _ rfl d3 ⟨2, .data⟩ (by simp) rfl
              have hf := getD_ft hL
              match i, hlt, hne, hf with
              | 0, _, _, hf => rw [d0] at hf; cases hf
              | 1, _, _, hf => rw [d1] at hf; cases hf
              | 2, _, _, hf => rw [d2] at hf; cases hf
              | 3, _, _, hf => rw [d3] at hf; cases hf
              | 4, _, _, hf => rw [d4] at hf; cases hf
              | 5, _, _, hf => rw [d5] at hf; cases hf
              | 6, _, _, hf => rw [d6] at hf; cases hf
              | 7, _, _, hf => rw [d7] at hf; cases hf
              | 8, _, _, hf => rw [d8] at hf; cases hf
              | 9, _, _, hf => rw [d9] at hf; cases hf
              | 10, _, hne, _ => exact hne rfl
          have e5 := evalD (hinv.sl.bs 5 _ rfl).2
          have e6 := evalD (hinv.sl.bs 6 _ rfl).2
          have e7 := evalD (hinv.sl.bs 7 _ rfl).2
          unfold wpOpIn
          rw [ho]
          clear hcl
          match i, hlt, hL, ho, hdep, h10 with
          | 0, _, hL, ho, hdep, h10 =>
            injection ho with ho; subst ho
            dsimp only
            rw [if_pos (by rfl)]
            refine ⟨fun f _ => trivial, ?_⟩
            obtain ⟨z, rfl⟩ := hinv.wd (h10 (by omega))
            go_simp
            exact hinv.step (i := 0) (z' := z) (by omega) (by omega) (h10 (by omega)) rfl (Below.refl _ _)
          | 1, _, hL, ho, hdep, h10 =>
            injection ho with ho; subst ho
            dsimp only
            rw [if_pos (by rfl)]
            refine ⟨fun f _ => trivial, ?_⟩
            obtain ⟨z, rfl⟩ := hinv.wd (h10 (by omega))
            have e24 := evalD (hinv.sl.sl 0 _ rfl (hdep ⟨0, .data⟩ (by simp) rfl))
            go_simp
            exact hinv.step (i := 1) (z' := z) (by omega) (by omega) (h10 (by omega)) rfl (Below.refl _ _)
          | 2, _, hL, ho, hdep, h10 =>
            injection ho with ho; subst ho
            dsimp only
            rw [if_pos (by rfl)]
            refine ⟨fun f _ => trivial, ?_⟩
            obtain ⟨z, rfl⟩ := hinv.wd (h10 (by omega))
            go_simp
            exact hinv.step (i := 2) (z' := z) (by omega) (by omega) (h10 (by omega)) rfl (Below.refl _ _)
          | 3, _, hL, ho, hdep, h10 =>
            injection ho with ho; subst ho
            dsimp only
            rw [if_pos (by rfl)]
            refine ⟨fun f _ => trivial, ?_⟩
            obtain ⟨z, rfl⟩ := hinv.wd (h10 (by omega))
            have e26 := evalD (hinv.sl.sl 2 _ rfl (hdep ⟨2, .data⟩ (by simp) rfl))
            go_simp
            exact hinv.step (i := 3) (z' := z) (by omega) (by omega) (h10 (by omega)) rfl (Below.refl _ _)
          | 4, _, hL, ho, hdep, h10 =>
            injection ho with ho; subst ho
            dsimp only
            rw [if_pos (by rfl)]
            refine ⟨fun f _ => trivial, ?_⟩
            obtain ⟨z, rfl⟩ := hinv.wd (h10 (by omega))
            have e25 := evalD (hinv.sl.sl 1 _ rfl (hdep ⟨1, .data⟩ (by simp) rfl))
            have e27 := evalD (hinv.sl.sl 3 _ rfl (hdep ⟨3, .data⟩ (by simp) rfl))
            go_simp
            exact hinv.build (h10 (by omega))
          | 5, _, hL, ho, hdep, h10 =>
            injection ho with ho; subst ho
            dsimp only
            rw [if_pos (by rfl)]
            refine ⟨fun f _ => trivial, ?_⟩
            obtain ⟨z, rfl⟩ := hinv.wd (h10 (by omega))
            obtain ⟨b5, h5, c50, c51⟩ := hinv.sc (hdep ⟨4, .data⟩ (by simp) rfl) (h10 (by omega))
            have e28 := evalD h5
            go_simp
            refine CallsIn.mono (HOr.out _ z b5 c50 c51) ?_
            rintro e w' ⟨rfl, y, rfl, hb'⟩
            exact hinv.step (i := 5) (z' := y) (by omega) (by omega) (h10 (by omega)) rfl hb'
          | 6, _, hL, ho, hdep, h10 =>
            injection ho with ho; subst ho
            dsimp only
            rw [if_pos (by rfl)]
            refine ⟨fun f _ => trivial, ?_⟩
            obtain ⟨z, rfl⟩ := hinv.wd (h10 (by omega))
            go_simp
            exact hinv.step (i := 6) (z' := z) (by omega) (by omega) (h10 (by omega)) rfl (Below.refl _ _)
          | 7, _, hL, ho, hdep, h10 =>
            injection ho with ho; subst ho
            dsimp only
            rw [if_pos (by rfl)]
            refine ⟨fun f _ => trivial, ?_⟩
            obtain ⟨z, rfl⟩ := hinv.wd (h10 (by omega))
            have e30 := evalD (hinv.sl.sl 6 _ rfl (hdep ⟨6, .data⟩ (by simp) rfl))
            go_simp
            refine CallsIn.mono (HFX.out _ z) ?_
            rintro e w' ⟨rfl, y, rfl, hb'⟩
            exact hinv.step (i := 7) (z' := y) (by omega) (by omega) (h10 (by omega)) rfl hb'
          | 8, _, hL, ho, hdep, h10 =>
            injection ho with ho; subst ho
            dsimp only
            rw [if_pos (by rfl)]
            refine ⟨fun f _ => trivial, ?_⟩
            obtain ⟨z, rfl⟩ := hinv.wd (h10 (by omega))
            go_simp
            exact hinv.step (i := 8) (z' := z) (by omega) (by omega) (h10 (by omega)) rfl (Below.refl _ _)
          | 9, _, hL, ho, hdep, h10 =>
            injection ho with ho; subst ho
            dsimp only
            rw [if_pos (by rfl)]
            refine ⟨fun f _ => trivial, ?_⟩
            obtain ⟨z, rfl⟩ := hinv.wd (h10 (by omega))
            have e32 := evalD (hinv.sl.sl 8 _ rfl (hdep ⟨8, .data⟩ (by simp) rfl))
            go_simp
            refine CallsIn.mono (HFY.out _ z) ?_
            rintro e w' ⟨rfl, y, rfl, hb'⟩
            exact hinv.step (i := 9) (z' := y) (by omega) (by omega) (h10 (by omega)) rfl hb'
          | 10, _, hL, ho, hdep, h10 =>
            injection ho with ho; subst ho
            dsimp only
            rw [if_pos (by rfl)]
            refine ⟨fun f _ => trivial, ?_⟩
            have e29 := evalD (hinv.sl.sl 5 _ rfl (hdep ⟨5, .data⟩ (by simp) rfl))
            have e31 := evalD (hinv.sl.sl 7 _ rfl (hdep ⟨7, .data⟩ (by simp) rfl))
            have e33 := evalD (hinv.sl.sl 9 _ rfl (hdep ⟨9, .data⟩ (by simp) rfl))
            obtain ⟨z, rfl⟩ := hinv.wd (getD_ft hL)
            go_simp
            refine CallsIn.mono (HCh.out _ z) ?_
            rintro e w' ⟨rfl, v', hst'⟩
            exact hinv.last ⟨v', hst'⟩ hL
      case done =>
        rintro W ⟨Wz, v, hz1, hz2, hst⟩ hK
        rw [outs_diff HVT.out HVU.out] at hst
        have kW := hst.keep (cell_later hz2 kl) (by have := HL.out; omega) (by have := HL.out; omega)
        have kfW : W.frozen? ⟨g, 0, none⟩ = false := frozen_of (hst.grown.block g (by have := HL.out; omega) (fun e => by have := HL.out; cases e; omega)) ((hz2.frozen (p := ⟨g, 0, none⟩) (by have := HL.out; show g < _; omega)).trans kfl)
        have oW := hst.cell
        have hbW := hst.below (hbl.trans (hz2.mono hbl.size)) (show w.heap.size ≤ ob by have := HL.out; omega)
        obtain ⟨ad, cap, rfl⟩ := owns_slice hst.row
        have HRM : Keep ((diffL ts us).length ≤ cap) := ⟨row_roomO hst.row⟩
        have hcl := cl_of_row hst.row
        have HGW : Keep (g < W.heap.size) := ⟨World.block_lt_of_cell? W ⟨g, 0, none⟩ kW⟩
        have HZ : Keep (w.heap.size ≤ g ∧ g < wl.heap.size ∧ Wz.heap.size = wl.heap.size + 2) := ⟨by have := HL.out; omega⟩
        clear hst hz2 hI0 hts hus
        gi_wp2
        have hcl2 := hcl.grown (row := some g) (grown_set0 W g 0 (.slice ad (diffL ts us).length cap)) (fun j _ hj _ e => by have := HZ.out; cases e; omega)
        have hbW2 := hbW.setCell (p := ⟨g, 0, none⟩) HZ.out.1 (.slice ad (diffL ts us).length cap)
        have hK2 : (W.setCell ⟨g, 0, none⟩ (.slice ad (diffL ts us).length cap)).heap[wl.heap.size]? = some (.deferred (some [])) := (Below.heap_setCell _ _ _ _ (fun e => by have := HZ.out; have e2 : wl.heap.size = g := e; omega)).trans hK
        have kW2 : (W.setCell ⟨g, 0, none⟩ (.slice ad (diffL ts us).length cap)).cell? ⟨g, 0, none⟩ = some (.slice ad (diffL ts us).length cap) := World.cell?_setCell_same _ _ _ kW
        generalize W.setCell ⟨g, 0, none⟩ (.slice ad (diffL ts us).length cap) = W3 at *
        refine ⟨by simp, .inl ⟨_, _, rfl, run_takeDeferred hK2, ?_⟩⟩
        have hgp : W3.grownBy (W3.putObj wl.heap.size (.deferred none)) (some wl.heap.size) := ⟨rfl, rfl, rfl, by simp, fun k _ hk => World.putObj_heap_other (fun e => hk (by rw [e]))⟩
        have kW3 : (W3.putObj wl.heap.size (.deferred none)).cell? ⟨g, 0, none⟩ = some (.slice ad (diffL ts us).length cap) := (World.cell?_of_block (World.putObj_heap_other (fun e => by have := HZ.out; have e2 : g = wl.heap.size := e; omega))).trans kW2
        refine ⟨.agg #[.slice ad (diffL ts us).length cap], ?_, diffL ts us, .inl ⟨HVT.out, HVU.out, rfl⟩, ⟨ad, cap, rfl, (hcl2.grown hgp (fun j _ hj _ e => by have := HZ.out; cases e; omega)).mono (by have := HZ.out; omega), HRM.out⟩, hbW2.grown hgp hbW2.size (fun j e => by have := HZ.out; cases e; omega)⟩
        simp [results, Try.f11, go_sem, kW3]
      case stop => exact fun _ _ _ h => h.elim
theorem implDiff_any (a b : Option Addr) (ca cb : Nat) (ts us : List En) (w : World) (hts : ES w a ts) (hus : ES w b us) (hn : ts.length ≤ 1048576) (hnb : us.length ≤ 1048576) (hca : ts.length ≤ ca) (hcb : us.length ≤ cb) (hz : ∀ e ∈ ts, e.path.size ≤ 1048576) (hzb : ∀ e ∈ us, e.path.size ≤ 1048576) :
    Calls Try.prog 11 #[.agg #[.slice a ts.length ca], .agg #[.slice b us.length cb]] w fun e w' => DiffPost ts us w e w' :=
  (implDiffC_any a b ca cb ts us w hts hus hn hnb hca hcb hz hzb).mono (fun _ _ ⟨cs, h1, ⟨ad, cap, h2, h3, _⟩, h4⟩ => ⟨cs, h1, ⟨ad, cap, h2, h3⟩, h4⟩)
end Go.Proofs.Ytockgapdfcapnaa

namespace Go.Proofs.Ytockgapdfcapnaa
open Go.RowKit

theorem getD_put {L : Array Bool} {m : Nat} (hL : L.getD m true = false) : (L.setIfInBounds m true).getD m false = true := by
  have h1 := getD_false hL
  have h2 : m < L.size := by simpa using (List.getElem?_eq_some_iff.1 h1).1
  rw [Array.getD_eq_getD_getElem?, Array.getElem?_setIfInBounds_self_of_lt h2]
  rfl

/-- A region whose own operations only read. -/
structure QV (T0 : Array Value) (ds : List Nat) (tab : Nat → Option Value) (W : World) (L : Array Bool) (a : Act) (w : World) : Prop where
  sl : Sl2 T0 ds tab L a
  wd : Below W.heap.size W w
theorem QV.step {T0 : Array Value} {ds : List Nat} {tab : Nat → Option Value} {W : World} {L : Array Bool} {a : Act} {w w' : World} (h : QV T0 ds tab W L a w) (nd : ds.Nodup) {i : Nat} {v : Value} (hi : i < ds.length) (hd : ds[i] < T0.size) (ht : tab i = some v) (hb : Below w.heap.size w w') : QV T0 ds tab W (L.setIfInBounds i true) (a.put (some ds[i]) v) w' :=
  ⟨h.sl.put nd hi hd (fun u hu => by rw [ht] at hu; cases hu; rfl), h.wd.trans (hb.mono h.wd.size)⟩

/-- A region whose last operation (m) alone writes. -/
structure RX (T0 : Array Value) (ds : List Nat) (tab : Nat → Option Value) (W : World) (m : Nat) (E : World → Prop) (L : Array Bool) (a : Act) (w : World) : Prop where
  sl : Sl2 T0 ds tab L a
  wd : L.getD m false = false → Below W.heap.size W w
  fin : L.getD m false = true → E w
theorem RX.step {T0 : Array Value} {ds : List Nat} {tab : Nat → Option Value} {W : World} {m : Nat} {E : World → Prop} {L : Array Bool} {a : Act} {w w' : World} (h : RX T0 ds tab W m E L a w) (nd : ds.Nodup) {i : Nat} {v : Value} (hi : i < ds.length) (hd : ds[i] < T0.size) (hm : i ≠ m) (h0 : L.getD m false = false) (ht : tab i = some v) (hb : Below w.heap.size w w') : RX T0 ds tab W m E (L.setIfInBounds i true) (a.put (some ds[i]) v) w' := by
  have g : (L.setIfInBounds i true).getD m false = false := by rw [getD_set_ne false hm]; exact h0
  exact ⟨h.sl.put nd hi hd (fun u hu => by rw [ht] at hu; cases hu; rfl), fun _ => (h.wd h0).trans (hb.mono (h.wd h0).size), fun h1 => by rw [g] at h1; cases h1⟩
theorem RX.last {T0 : Array Value} {ds : List Nat} {tab : Nat → Option Value} {W : World} {m : Nat} {E : World → Prop} {L : Array Bool} {a : Act} {w w' : World} (h : RX T0 ds tab W m E L a w) (ht : tab m = none) (hL : L.getD m true = false) (hE : E w') : RX T0 ds tab W m E (L.setIfInBounds m true) a w' := by
  have g := getD_put hL
  exact ⟨h.sl.skip ht, (fun h1 => by rw [g] at h1; cases h1), fun _ => hE⟩

/-- The region that makes the round's change, the one that holds the files against each other. -/
def sTab (B : Nat) (e : En) : Nat → Option Value
  | 0 => some (.pointer (some ⟨B, 0, none⟩))
  | 1 => some (.string e.path)
  | 2 => some (.agg #[.string e.path, .string e.text, .bool e.runs])
  | 3 => some (.agg #[.bool (fileE e).there, .string (fileE e).text, .bool (fileE e).runs])
  | 4 => some (.agg #[.string e.path, .bool (fileE e).there, .string (fileE e).text, .bool (fileE e).runs, .bool (fileE e).there, .string (fileE e).text, .bool (fileE e).runs])
  | _ => none
def sDs : List Nat := [28, 29, 30, 31, 32, 1000]
theorem sNd : sDs.Nodup := by decide
def fTab (B : Nat) (e : En) (f : Fl) (nb : Bool) : Nat → Option Value
  | 0 => some (.agg #[.string e.path, .string e.text, .bool e.runs])
  | 1 => some (.agg #[.bool (fileE e).there, .string (fileE e).text, .bool (fileE e).runs])
  | 2 => some (.pointer (some ⟨B + 1, 1, none⟩))
  | 3 => some (.agg #[.bool f.there, .string f.text, .bool f.runs])
  | 4 => some (.bool nb)
  | _ => none
def fDs : List Nat := [33, 34, 35, 36, 37]
theorem fNd : fDs.Nodup := by decide

/-- The region that puts an entry behind. -/
def nTab (ob B : Nat) (v : Value) (p t : ByteArray) (r : Bool) : Nat → Option Value
  | 0 => some (.pointer (some ⟨ob, 0, none⟩))
  | 1 => some v
  | 2 => some (.pointer (some ⟨B + 1, 4, none⟩))
  | 3 => some (.agg #[.bool true, .string t, .bool r])
  | 4 => some (.pointer (some ⟨B + 1, 0, none⟩))
  | 5 => some (.string p)
  | 6 => some (.agg #[.string p, .string t, .bool r])
  | 9 => some (.pointer (some ⟨ob, 0, none⟩))
  | _ => none
def nDs : List Nat := [42, 43, 44, 45, 46, 47, 48, 49, 50, 51, 1000]
theorem nNd : nDs.Nodup := by decide
structure NV (T0 : Array Value) (ob B : Nat) (Wz X : World) (v : Value) (p t : ByteArray) (r : Bool) (us : List En) (L : Array Bool) (a : Act) (w : World) : Prop where
  sl : Sl2 T0 nDs (nTab ob B v p t r) L a
  w0 : L.getD 7 false = false → Below X.heap.size X w
  w1 : L.getD 7 false = true → L.getD 8 false = false → ∃ y : World, Below X.heap.size X y ∧ w = y.alloc (.cells #[.string p, .string t, .bool r] 72) ∧ a.eval (.tmp 49) = .slice (some ⟨y.heap.size, 0, none⟩) 1 1
  w2 : L.getD 8 false = true → L.getD 10 false = false → ∃ (W1 : World) (g2 cap : Nat), a.eval (.tmp 50) = .slice (some ⟨g2, 0, none⟩) (us.length + 1) cap ∧ Below X.heap.size X W1 ∧ w.ownsRow Wz.heap.size 72 3 (.slice (some ⟨g2, 0, none⟩) (us.length + 1) cap) (us.length + 1) (ecells us ++ ecell ⟨p, t, r⟩) ∧ W1.grownBy w v.ownBlock
  w3 : L.getD 10 false = true → ∃ v', OutSt ob Wz v' (us ++ [⟨p, t, r⟩]) w
theorem NV.below {T0 : Array Value} {ob B : Nat} {Wz X : World} {v : Value} {p t : ByteArray} {r : Bool} {us : List En} {L : Array Bool} {a : Act} {w : World} (h : NV T0 ob B Wz X v p t r us L a w) (h8 : L.getD 8 false = false) : Below X.heap.size X w := by
  cases h7 : L.getD 7 false with
  | false => exact h.w0 h7
  | true =>
    obtain ⟨y, hy, rfl, _⟩ := h.w1 h7 h8
    exact hy.alloc hy.size _
theorem NV.step {T0 : Array Value} {ob B : Nat} {Wz X : World} {v : Value} {p t : ByteArray} {r : Bool} {us : List En} {L : Array Bool} {a : Act} {w w' : World} (h : NV T0 ob B Wz X v p t r us L a w) {i : Nat} {u : Value} (hT : T0.size = 57) (hi : i < 10) (h7 : i ≠ 7) (h8 : i ≠ 8) (ht : nTab ob B v p t r i = some u)
    (hw : w' = w ∨ (Below w.heap.size w w' ∧ L.getD 7 false = false ∧ L.getD 8 false = false ∧ L.getD 10 false = false)) :
    NV T0 ob B Wz X v p t r us (L.setIfInBounds i true) (a.put (some (42 + i)) u) w' := by
  have hlen : i < nDs.length := by show i < 11; omega
  have hds : nDs[i] = 42 + i := by
    match i, hi with
    | 0, _ | 1, _ | 2, _ | 3, _ | 4, _ | 5, _ | 6, _ | 7, _ | 8, _ | 9, _ => rfl
  have hsl := h.sl.put nNd hlen (by rw [hds, hT]; omega) (v := u) (fun u' hu => by rw [ht] at hu; cases hu; rfl)
  rw [hds] at hsl
  have ev : ∀ k, k ≠ 42 + i → (a.put (some (42 + i)) u).eval (.tmp k) = a.eval (.tmp k) := fun k hk => Act.eval_put (fun d hd' => by cases hd'; intro e'; injection e' with e'; exact hk e')
  refine ⟨hsl, fun h1 => ?_, fun h1 h2 => ?_, fun h1 h2 => ?_, fun h1 => ?_⟩
  · rw [getD_set_ne false h7] at h1
    rcases hw with rfl | ⟨hb, _⟩
    · exact h.w0 h1
    · exact (h.w0 h1).trans (hb.mono (h.w0 h1).size)
  · rw [getD_set_ne false h7] at h1; rw [getD_set_ne false h8] at h2
    rcases hw with rfl | ⟨_, h3, _⟩
    · rw [ev 49 (by omega)]; exact h.w1 h1 h2
    · rw [h3] at h1; cases h1
  · rw [getD_set_ne false h8] at h1; rw [getD_set_ne false (by omega)] at h2
    rcases hw with rfl | ⟨_, _, h3, _⟩
    · rw [ev 50 (by omega)]; exact h.w2 h1 h2
    · rw [h3] at h1; cases h1
  · rw [getD_set_ne false (by omega)] at h1
    rcases hw with rfl | ⟨_, _, _, h3⟩
    · exact h.w3 h1
    · rw [h3] at h1; cases h1
theorem NV.build {T0 : Array Value} {ob B : Nat} {Wz X : World} {v : Value} {p t : ByteArray} {r : Bool} {us : List En} {L : Array Bool} {a : Act} {w : World} (h : NV T0 ob B Wz X v p t r us L a w) (hT : T0.size = 57) (h8 : L.getD 8 false = false) (h10 : L.getD 10 false = false) (hL : L.getD 7 true = false) :
    NV T0 ob B Wz X v p t r us (L.setIfInBounds 7 true) (a.put (some 49) (.slice (some ⟨w.heap.size, 0, none⟩) 1 1)) (w.alloc (.cells #[.string p, .string t, .bool r] 72)) := by
  have g := getD_put hL
  refine ⟨h.sl.put (i := 7) nNd (by decide) (show 49 < _ by rw [hT]; omega) (fun u hu => by cases hu), fun h1 => ?_, fun _ _ => ⟨w, h.w0 (getD_ft hL), rfl, ?_⟩, fun h1 _ => ?_, fun h1 => ?_⟩
  · rw [g] at h1; cases h1
  · show ((a.tmps.setIfInBounds 49 _).getD 49 undef) = _
    rw [Array.getD_eq_getD_getElem?, Array.getElem?_setIfInBounds_self_of_lt (by rw [h.sl.sz, hT]; omega)]
    rfl
  · rw [getD_set_ne false (by omega), h8] at h1; cases h1
  · rw [getD_set_ne false (by omega), h10] at h1; cases h1
theorem NV.app {T0 : Array Value} {ob B : Nat} {Wz X W1 : World} {v : Value} {p t : ByteArray} {r : Bool} {us : List En} {L : Array Bool} {a : Act} {w w' : World} (h : NV T0 ob B Wz X v p t r us L a w) (hT : T0.size = 57) (h7 : L.getD 7 false = true) (h10 : L.getD 10 false = false) (hL : L.getD 8 true = false) {g2 cap : Nat} (hX : Below X.heap.size X W1)
    (e2 : w'.ownsRow Wz.heap.size 72 3 (.slice (some ⟨g2, 0, none⟩) (us.length + 1) cap) (us.length + 1) (ecells us ++ ecell ⟨p, t, r⟩)) (e3 : W1.grownBy w' v.ownBlock) :
    NV T0 ob B Wz X v p t r us (L.setIfInBounds 8 true) (a.put (some 50) (.slice (some ⟨g2, 0, none⟩) (us.length + 1) cap)) w' := by
  have g := getD_put hL
  refine ⟨h.sl.put (i := 8) nNd (by decide) (show 50 < _ by rw [hT]; omega) (fun u hu => by cases hu), fun h1 => ?_, fun _ h2 => ?_, fun _ _ => ⟨W1, g2, cap, ?_, hX, e2, e3⟩, fun h1 => ?_⟩
  · rw [getD_set_ne false (by omega), h7] at h1; cases h1
  · rw [g] at h2; cases h2
  · show ((a.tmps.setIfInBounds 50 _).getD 50 undef) = _
    rw [Array.getD_eq_getD_getElem?, Array.getElem?_setIfInBounds_self_of_lt (by rw [h.sl.sz, hT]; omega)]
    rfl
  · rw [getD_set_ne false (by omega), h10] at h1; cases h1
theorem NV.last {T0 : Array Value} {ob B : Nat} {Wz X : World} {v : Value} {p t : ByteArray} {r : Bool} {us : List En} {L : Array Bool} {a : Act} {w w' : World} (h : NV T0 ob B Wz X v p t r us L a w) (h7 : L.getD 7 false = true) (h8 : L.getD 8 false = true) (hL : L.getD 10 true = false) (hE : ∃ v', OutSt ob Wz v' (us ++ [⟨p, t, r⟩]) w') :
    NV T0 ob B Wz X v p t r us (L.setIfInBounds 10 true) a w' := by
  have g := getD_put hL
  refine ⟨h.sl.skip rfl, fun h1 => ?_, fun _ h2 => ?_, fun _ h2 => ?_, fun _ => hE⟩
  · rw [getD_set_ne false (by omega), h7] at h1; cases h1
  · rw [getD_set_ne false (by omega), h8] at h2; cases h2
  · rw [g] at h2; cases h2
/-- An append, at a step of a region (RegV) in a round. -/
theorem wpIn_appendR {l n : Nat} {P : Program} {o : Oper} {a : Act} {w w' : World} {K : Act → World → Prop} {Q : Exit → Act → World → Prop} (s x : Operand) (t : TypeId) (ho : o.op = .call { callee := .builtin .append, args := #[s, x], argTypes := #[t, t] }) {v u v' : Value} (hs : a.eval s = v) (hx : a.eval x = u)
    (hr : (Builtin.append_ #[t, t] o.type #[v, u]).run P w = .ok v' w') (hK : K (a.put o.dst v') w') : o.wpIn (Fence.wide.inRound l) n P a w K Q := by
  refine ⟨fun f _ => trivial, ?_⟩
  show Oper.uponIn (Fence.wide.inRound l) n P o a K Q ((Oper.semAt (some l) a.eval o).run P w)
  rw [Oper.semAt_some l a.eval o (fun c e => by rw [ho] at e; cases e)]
  unfold execOp
  simp only [ho, resolve, invoke, builtin, Sem.run_bind, Sem.run_pure, Result.andThen_ok, List.map_toArray, List.map_cons, List.map_nil, hs, hx, hr]
  exact hK

theorem EBox.grown {b : Nat} {e : En} {W W' : World} {row : Option Nat} (h : EBox b e W) (hg : W.grownBy W' row) (hr : row ≠ some b) : EBox b e W' := by
  have hb := hg.block b (World.block_lt_of_cell? W ⟨b, 0, none⟩ h.c0) (fun e => hr e.symm)
  exact ⟨(World.cell?_of_block hb).trans h.c0, (World.cell?_of_block hb).trans h.c1, (World.cell?_of_block hb).trans h.c2⟩

/-- The change that a round goes by. -/
def chA (e : Option En) (c : Option Ch) : Ch := c.getD ⟨(e.getD zeroE).path, fileE (e.getD zeroE), fileE (e.getD zeroE)⟩
theorem sameF_self (f : Fl) : sameF f f = true := by simp [sameF]
theorem round_facts {ts : List En} {cs : List Ch} (ht : ValidTs ts) (hc : ValidP cs) {x : PEC} (hx : x ∈ mrgEC ts cs) :
    badA x.2.1 x.2.2 = !sameF (fileE (x.2.1.getD zeroE)) (chA x.2.1 x.2.2).old ∧
    outA zeroE x.2.1 x.2.2 = (if (chA x.2.1 x.2.2).new.there = true then [⟨(chA x.2.1 x.2.2).path, (chA x.2.1 x.2.2).new.text, (chA x.2.1 x.2.2).new.runs⟩] else []) ∧
    (chA x.2.1 x.2.2).path.size ≤ 1048576 ∧ (chA x.2.1 x.2.2).new.text.size ≤ 1048576 ∧
    (x.2.2 = none ∨ ∃ d, x.2.2 = some d ∧ (d.path.toList == ([] : List UInt8)) = false) := by
  have hsz : ∀ {s : ByteArray}, pathOk pathB s = true → s.size ≤ 1048576 := fun h => by have := pathOk_size h; omega
  have hd : ∀ d ∈ cs, (d.path.toList == ([] : List UInt8)) = false ∧ d.path.size ≤ 1048576 ∧ d.new.text.size ≤ 1048576 := fun d h => by
    obtain ⟨i, hi, rfl⟩ := List.getElem_of_mem h
    obtain ⟨_, h1, _⟩ := hc.2 i hi
    simp only [chOk, flOk, Bool.and_eq_true, decide_eq_true_eq, Bool.not_eq_true'] at h1
    obtain ⟨⟨⟨h1, h2, _⟩, h3, _⟩, h4⟩ := h1
    exact ⟨path_ne0 h1, hsz h1, by omega⟩
  rcases mrgEC_cases ht hc hx with ⟨d, h1, rfl, _⟩ | ⟨e, h1, rfl⟩ | ⟨e, h1, d, h2, h3, rfl⟩
  · exact ⟨rfl, outA_some _ _ _, (hd d h1).2.1, (hd d h1).2.2, .inr ⟨d, rfl, (hd d h1).1⟩⟩
  · have h2 := valid_enF ht h1
    simp only [enOk, Bool.and_eq_true, decide_eq_true_eq] at h2
    have h3 := fileE_some (valid_path ht h1)
    refine ⟨?_, ?_, hsz h2.1, ?_, .inl rfl⟩
    · show false = !sameF (fileE e) (fileE e)
      rw [sameF_self]; rfl
    · rw [outA_none]
      show [e] = if (fileE e).there = true then [⟨e.path, (fileE e).text, (fileE e).runs⟩] else []
      rw [h3]; rfl
    · show (fileE e).text.size ≤ _
      rw [h3]; show e.text.size ≤ _; omega
  · exact ⟨rfl, outA_some _ _ _, (hd d h2).2.1, (hd d h2).2.2, .inr ⟨d, rfl, (hd d h2).1⟩⟩
end Go.Proofs.Ytockgapdfcapnaa

namespace Go.Proofs.Ytockgapdfcapnaa
open Go.RowKit Go.Shelf

attribute [local go_sem] Oper.semAt_some

def ApI (wl : World) (ob : Nat) (pre : List PEC) (W : World) : Prop :=
  (∀ x ∈ pre, badA x.2.1 x.2.2 = false) ∧ ∃ Wz v, Wz.heap.size = wl.heap.size + 2 ∧ Below wl.heap.size wl Wz ∧ OutSt ob Wz v (outsA pre) W
def ApX (w : World) (g h : Nat) (pre : List PEC) (W : World) : Prop :=
  (∃ x ∈ pre, badA x.2.1 x.2.2 = true) ∧ Below w.heap.size w W ∧ W.cell? ⟨g, 0, none⟩ = some (.slice none 0 0) ∧ W.cell? ⟨h, 0, none⟩ = some (.int .i64 2)

/-- What Apply gives, its room besides. -/
def ApplyPostC (ts : List En) (cs : List Ch) (w : World) (e : Ending) (w' : World) : Prop :=
  ∃ us c, ApplyRel ts cs us c ∧ (∃ ad cap, e = .returned (TreeV ad us.length cap c) ∧ EL w.heap.size w' ad us ∧ us.length ≤ cap) ∧ Below w.heap.size w w'

set_option maxRecDepth 100000 in
set_option maxHeartbeats 40000000 in
theorem implApplyC_any (a b : Option Addr) (ca cb : Nat) (ps : List En) (qs : List Ch) (w : World) (hps : ES w a ps) (hqs : CS w b qs) (hn : ps.length ≤ 1048576) (hnb : qs.length ≤ 1048576) (hca : ps.length ≤ ca) (hcb : qs.length ≤ cb) (hz : ∀ c ∈ ps, c.path.size ≤ 1048576) (hzb : ∀ c ∈ qs, c.path.size ≤ 1048576) :
    Calls Try.prog 15 #[.agg #[.slice a ps.length ca], .agg #[.slice b qs.length cb]] w fun e w' => ApplyPostC ps qs w e w' := by
  have hal : Below w.heap.size w ((((w.alloc (.cells #[.slice a ps.length ca] 32)).alloc (.cells #[.slice b qs.length cb] 37)).alloc (.cells #[.slice none 0 0] 32)).alloc (.cells #[.int .i64 0] 3)) := ((((Below.refl _ _).alloc (Nat.le_refl _) _).alloc (by simp) _).alloc (by simp; omega) _).alloc (by simp; omega) _
  have m0 : ((((w.alloc (.cells #[.slice a ps.length ca] 32)).alloc (.cells #[.slice b qs.length cb] 37)).alloc (.cells #[.slice none 0 0] 32)).alloc (.cells #[.int .i64 0] 3)).cell? ⟨w.heap.size, 0, none⟩ = some (.slice a ps.length ca) := by simp [go_sem]
  have m1 : ((((w.alloc (.cells #[.slice a ps.length ca] 32)).alloc (.cells #[.slice b qs.length cb] 37)).alloc (.cells #[.slice none 0 0] 32)).alloc (.cells #[.int .i64 0] 3)).cell? ⟨w.heap.size + 1, 0, none⟩ = some (.slice b qs.length cb) := by simp [go_sem]
  have k0 : ((((w.alloc (.cells #[.slice a ps.length ca] 32)).alloc (.cells #[.slice b qs.length cb] 37)).alloc (.cells #[.slice none 0 0] 32)).alloc (.cells #[.int .i64 0] 3)).cell? ⟨w.heap.size + 1 + 1, 0, none⟩ = some (.slice none 0 0) := by simp [go_sem]
  have kf : ((((w.alloc (.cells #[.slice a ps.length ca] 32)).alloc (.cells #[.slice b qs.length cb] 37)).alloc (.cells #[.slice none 0 0] 32)).alloc (.cells #[.int .i64 0] 3)).frozen? ⟨w.heap.size + 1 + 1, 0, none⟩ = false := by simp [go_sem]
  have h0 : ((((w.alloc (.cells #[.slice a ps.length ca] 32)).alloc (.cells #[.slice b qs.length cb] 37)).alloc (.cells #[.slice none 0 0] 32)).alloc (.cells #[.int .i64 0] 3)).cell? ⟨w.heap.size + 1 + 1 + 1, 0, none⟩ = some (.int .i64 0) := by simp [go_sem]
  have hf : ((((w.alloc (.cells #[.slice a ps.length ca] 32)).alloc (.cells #[.slice b qs.length cb] 37)).alloc (.cells #[.slice none 0 0] 32)).alloc (.cells #[.int .i64 0] 3)).frozen? ⟨w.heap.size + 1 + 1 + 1, 0, none⟩ = false := by simp [go_sem]
  have os0 : w.heap.size + 1 + 1 + 1 < ((((w.alloc (.cells #[.slice a ps.length ca] 32)).alloc (.cells #[.slice b qs.length cb] 37)).alloc (.cells #[.slice none 0 0] 32)).alloc (.cells #[.int .i64 0] 3)).heap.size := by simp [go_sem]
  refine (callsIn_wide (n := 5)).1 ?_
  refine callsIn_of_wp_marks Try.func15 rfl trivial ?_ rfl
  simp only [Try.ntmps15, List.size_toArray, List.length_cons, List.length_nil, Nat.reduceAdd, Nat.reduceSub, Array.replicate_succ, Array.replicate_zero, List.push_toArray, List.append_toArray, List.nil_append, List.cons_append]
  gi_wp2_with fail
  refine ⟨trivial, ?_⟩
  refine (callsIn_wide.2 (implTree_any a ca ps _ (hps.below hal) hn hz)).mono ?_
  rintro e w1 ⟨vb, rfl, hvb, hb1⟩
  replace m0 := cell_later hb1 m0
  replace m1 := cell_later hb1 m1
  replace k0 := cell_later hb1 k0
  replace h0 := cell_later hb1 h0
  replace kf : w1.frozen? ⟨w.heap.size + 1 + 1, 0, none⟩ = false := (hb1.frozen (p := ⟨w.heap.size + 1 + 1, 0, none⟩) (by show w.heap.size + 1 + 1 < _; omega)).trans kf
  replace hf : w1.frozen? ⟨w.heap.size + 1 + 1 + 1, 0, none⟩ = false := (hb1.frozen (p := ⟨w.heap.size + 1 + 1 + 1, 0, none⟩) os0).trans hf
  have os1 : w.heap.size + 1 + 1 + 1 < w1.heap.size := Nat.lt_of_lt_of_le os0 hb1.size
  have hbw := hal.trans (hb1.mono hal.size)
  have HV : Keep (vb = true ↔ ValidTs ps) := ⟨hvb⟩
  clear hvb hb1 hal os0
  obtain ⟨ta, hta⟩ : ∃ x, x = w.heap.size := ⟨_, rfl⟩
  obtain ⟨tb, htb⟩ : ∃ x, x = w.heap.size + 1 := ⟨_, rfl⟩
  obtain ⟨g, hg⟩ : ∃ x, x = w.heap.size + 1 + 1 := ⟨_, rfl⟩
  obtain ⟨h, hh⟩ : ∃ x, x = w.heap.size + 1 + 1 + 1 := ⟨_, rfl⟩
  rw [← hh] at h0 hf ⊢
  rw [← hg] at k0 kf ⊢
  rw [← htb] at m1 ⊢
  rw [← hta] at m0 ⊢
  have HS : Keep (ta = w.heap.size ∧ tb = ta + 1 ∧ g = tb + 1 ∧ h = g + 1 ∧ h < w1.heap.size) := ⟨by omega⟩
  have hgh : ¬ g = h := by omega
  have hhg : ¬ h = g := by omega
  clear hta htb hg hh os1
  have HNO : Keep (∀ X : World, Below w.heap.size w X → ¬ (ValidTs ps ∧ ValidP qs) → ApplyPostC ps qs w (.returned (TreeV none ([] : List En).length 0 1)) ((X.setCell ⟨g, 0, none⟩ (.slice none 0 0)).setCell ⟨h, 0, none⟩ (.int .i64 1))) := ⟨fun X hX hnv => ⟨[], 1, .inl ⟨hnv, rfl, rfl⟩, ⟨none, 0, rfl, EL.nil _ _ _, Nat.le_refl _⟩, (hX.setCell (p := ⟨g, 0, none⟩) (by have := HS.out; show _ ≤ g; omega) _).setCell (p := ⟨h, 0, none⟩) (by have := HS.out; show _ ≤ h; omega) _⟩⟩
  cases vb with
  | false =>
    have hnv : ¬ (ValidTs ps ∧ ValidP qs) := fun h => by have := HV.out.2 h.1; cases this
    gi_wp2
    refine ⟨trivial, ?_⟩
    gi_wp2
    refine ⟨TreeV none ([] : List En).length 0 1, ?_, HNO.out _ hbw hnv⟩
    simp [results, Try.f15, go_sem, TreeV, k0, h0]
  | true =>
    have HVT : Keep (ValidTs ps) := ⟨HV.out.1 rfl⟩
    gi_wp2_with fail
    refine ⟨trivial, ?_⟩
    refine (callsIn_wide.2 (implPatch_any b cb qs _ (hqs.below hbw) hnb hzb)).mono ?_
    rintro e w2 ⟨vb, rfl, hvb, hb2⟩
    have HV2 : Keep (vb = true ↔ ValidP qs) := ⟨hvb⟩
    replace m0 := cell_later hb2 m0
    replace m1 := cell_later hb2 m1
    replace k0 := cell_later hb2 k0
    replace h0 := cell_later hb2 h0
    replace kf : w2.frozen? ⟨g, 0, none⟩ = false := (hb2.frozen (p := ⟨g, 0, none⟩) (by have := HS.out; show g < _; omega)).trans kf
    replace hf : w2.frozen? ⟨h, 0, none⟩ = false := (hb2.frozen (p := ⟨h, 0, none⟩) HS.out.2.2.2.2).trans hf
    have HS2 : Keep (ta = w.heap.size ∧ tb = ta + 1 ∧ g = tb + 1 ∧ h = g + 1 ∧ h < w2.heap.size) := ⟨by have := HS.out; have := hb2.size; omega⟩
    replace hbw := hbw.trans (hb2.mono hbw.size)
    clear hvb hb2 HS HV
    cases vb with
    | false =>
      have hnv : ¬ (ValidTs ps ∧ ValidP qs) := fun h => by have := HV2.out.2 h.2; cases this
      gi_wp2
      refine ⟨TreeV none ([] : List En).length 0 1, ?_, HNO.out _ hbw hnv⟩
      simp [results, Try.f15, go_sem, TreeV, k0, h0]
    | true =>
      have HVU : Keep (ValidP qs) := ⟨HV2.out.1 rfl⟩
      have hal2 : Below w2.heap.size w2 (w2.alloc (.cells #[.slice none 0 0] 32)) := (Below.refl _ _).alloc (Nat.le_refl _) _
      replace m0 := cell_later hal2 m0
      replace m1 := cell_later hal2 m1
      have ob0 : (((w2.alloc (.cells #[.slice none 0 0] 32)).alloc (.cells #[.slice a ps.length ca] 30)).alloc (.cells #[.slice b qs.length cb] 35)).cell? ⟨w2.heap.size, 0, none⟩ = some (.slice none 0 0) := by simp [go_sem]
      have of0 : (((w2.alloc (.cells #[.slice none 0 0] 32)).alloc (.cells #[.slice a ps.length ca] 30)).alloc (.cells #[.slice b qs.length cb] 35)).frozen? ⟨w2.heap.size, 0, none⟩ = false := by simp [go_sem]
      have ma : (((w2.alloc (.cells #[.slice none 0 0] 32)).alloc (.cells #[.slice a ps.length ca] 30)).alloc (.cells #[.slice b qs.length cb] 35)).cell? ⟨w2.heap.size + 1, 0, none⟩ = some (.slice a ps.length ca) := by simp [go_sem]
      have mb : (((w2.alloc (.cells #[.slice none 0 0] 32)).alloc (.cells #[.slice a ps.length ca] 30)).alloc (.cells #[.slice b qs.length cb] 35)).cell? ⟨w2.heap.size + 1 + 1, 0, none⟩ = some (.slice b qs.length cb) := by simp [go_sem]
      have wsz : (((w2.alloc (.cells #[.slice none 0 0] 32)).alloc (.cells #[.slice a ps.length ca] 30)).alloc (.cells #[.slice b qs.length cb] 35)).heap.size = w2.heap.size + 3 := by simp [go_sem]
      have hb3 : Below w2.heap.size w2 (((w2.alloc (.cells #[.slice none 0 0] 32)).alloc (.cells #[.slice a ps.length ca] 30)).alloc (.cells #[.slice b qs.length cb] 35)) := (((Below.refl _ _).alloc (Nat.le_refl _) _).alloc (by simp) _).alloc (by simp; omega) _
      gi_wp2_with (refine ⟨trivial, ?_⟩; gi_at_call 48; refine (callsIn_wide.2 (sideEC_any a b ps.length qs.length ca cb _)).mono ?_; rintro e w' ⟨rfl, rfl⟩)
      generalize hwl : (((w2.alloc (.cells #[.slice none 0 0] 32)).alloc (.cells #[.slice a ps.length ca] 30)).alloc (.cells #[.slice b qs.length cb] 35)) = wl at *
      clear hwl
      have hbl := hbw.trans (hb3.mono hbw.size)
      have kl := cell_later hb3 k0
      have hl0 := cell_later hb3 h0
      have kfl : wl.frozen? ⟨g, 0, none⟩ = false := (hb3.frozen (p := ⟨g, 0, none⟩) (by have := HS2.out; show g < _; omega)).trans kf
      have hfl : wl.frozen? ⟨h, 0, none⟩ = false := (hb3.frozen (p := ⟨h, 0, none⟩) HS2.out.2.2.2.2).trans hf
      obtain ⟨ob, hob⟩ : ∃ ob, ob = w2.heap.size := ⟨_, rfl⟩
      rw [← hob] at ob0 of0 ma mb wsz HS2 ⊢
      have HL : Keep (ta = w.heap.size ∧ tb = ta + 1 ∧ g = tb + 1 ∧ h = g + 1 ∧ h < ob ∧ wl.heap.size = ob + 3) := ⟨by have := HS2.out; omega⟩
      have hI0 : ∀ o1 o2, ApI wl ob [] ((wl.alloc o1).alloc o2) := fun o1 o2 => by
        have hb : Below wl.heap.size wl ((wl.alloc o1).alloc o2) := ((Below.refl _ _).alloc (Nat.le_refl _) _).alloc (by simp) _
        exact ⟨(fun x hx => by cases hx), _, _, by simp, hb, OutSt.start (cell_later hb ob0) ((hb.frozen (p := ⟨ob, 0, none⟩) (by show ob < _; omega)).trans of0) (by simp; omega)⟩
      clear hb3 hob k0 kf m0 m1 HS2 HV2 hbw hal2 h0 hf
      refine range_iter2 (sideEC_iter (ob + 1) (ob + 1 + 1) a b ca cb ps qs hca hcb hn hnb) (enters_of Try.func72 (by kernel_rfl) rfl) (n := 5) (by omega) rfl (fun x => rfl) (ApI wl ob) (ApX w g h)
        (fun pre W ⟨_, Wz, v, hz1, hz2, hst⟩ => ⟨hst.keep (cell_later hz2 ma) (by omega) (by omega), hst.keep (cell_later hz2 mb) (by omega) (by omega), hps.below (hst.below (hbl.trans (hz2.mono hbl.size)) (by have := HL.out; omega)), hqs.below (hst.below (hbl.trans (hz2.mono hbl.size)) (by have := HL.out; omega))⟩)
        (fun pre W W' ⟨hc, Wz, v, hz1, hz2, hst⟩ hb => ⟨hc, Wz, v, hz1, hz2, hst.later hb⟩)
        (fun pre W l o hl ⟨hc, Wz, v, hz1, hz2, hst⟩ => ⟨hc, Wz.putObj l o, v, by simpa using hz1, hz2.grown (row := some l) ⟨rfl, rfl, rfl, by simp, fun k _ hk => World.putObj_heap_other (fun e => hk (by rw [e]))⟩ hz2.size (fun j e => by cases e; omega), hst.putJ o (by omega) (by omega)⟩)
        (fun pre W l o hl ⟨hc, hb, c1, c2⟩ => ⟨hc, hb.grown (row := some l) ⟨rfl, rfl, rfl, by simp, fun k _ hk => World.putObj_heap_other (fun e => hk (by rw [e]))⟩ hb.size (fun j e => by cases e; have := HL.out; omega), (World.cell?_of_block (World.putObj_heap_other (fun e => by have := HL.out; have e2 : g = l := e; omega))).trans c1, (World.cell?_of_block (World.putObj_heap_other (fun e => by have := HL.out; have e2 : h = l := e; omega))).trans c2⟩) hI0
        (fun x B a' W => a' = { tmps := #[.agg #[.slice a ps.length ca], .agg #[.slice b qs.length cb], .pointer (some ⟨ta, 0, none⟩), .pointer (some ⟨tb, 0, none⟩), .pointer (some ⟨g, 0, none⟩), .pointer (some ⟨h, 0, none⟩), .pointer (some ⟨ob, 0, none⟩), .pointer (some ⟨B, 0, none⟩), .pointer (some ⟨B + 1, 0, none⟩), .agg #[.slice a ps.length ca], .bool true, .bool false, .bool false, .agg #[.slice b qs.length cb], .bool true, .bool false, .bool false, undef, .pointer (some ⟨ta, 0, none⟩), .slice a ps.length ca, .pointer (some ⟨tb, 0, none⟩), .slice b qs.length cb, .func (.func 72) #[] #[.pointer (some ⟨ob + 1, 0, none⟩), .pointer (some ⟨ob + 1 + 1, 0, none⟩)], cutEV (x.2.1.getD zeroE), cutCV (x.2.2.getD noCh), undef, undef, undef, undef, undef, undef, undef, undef, undef, undef, undef, undef, undef, undef, undef, undef, undef, undef, undef, undef, undef, undef, undef, undef, undef, undef, undef, undef, undef, undef, undef, undef], defers := [] } ∧ EBox B (x.2.1.getD zeroE) W ∧ CBox (B + 1) (x.2.2.getD noCh) W)
        (fun x B a' W l o hl ⟨h1, h2, h3⟩ => ⟨h1, h2.put o (by omega), h3.put o (by omega)⟩) ?assign ?body ?done ?stop
      case assign =>
        intro l x W K hK
        unfold yEC cutEV cutCV
        gi_wp2
        exact hK _ _ (((Below.refl _ _).alloc (Nat.le_refl _) _).alloc (by simp) _) ⟨rfl, ⟨by simp [go_sem], by simp [go_sem], by simp [go_sem]⟩, ⟨by simp [go_sem], by simp [go_sem], by simp [go_sem], by simp [go_sem], by simp [go_sem], by simp [go_sem], by simp [go_sem], fun j => by simp [go_sem], by simp [go_sem]⟩⟩
      case body =>
        rintro l pre x a' Wb W ⟨hnc, Wz, v, hz1, hz2, hst⟩ ⟨r, hr⟩ hB1 hbW ⟨rfl, hx, hy⟩
        have hul : (outsA pre).length ≤ 1048576 := by
          have h1 := outsA_len pre
          have h2 := congrArg List.length hr
          have h3 := mrg_lenA En.path Ch.path (ps.length + qs.length) ps qs
          have h4 := HVT.out.1
          have h5 := HVU.out.1
          simp only [List.length_append] at h2
          unfold mrgEC at h2
          omega
        have hmx : x ∈ mrgEC ps qs := by rw [hr]; simp
        have hvB1 : v.ownBlock ≠ some (Wb.heap.size + 1) := fun e => by have := hst.own_lt e; omega
        have st := hst.later hbW
        have HE : Keep (∀ v' w', badA x.2.1 x.2.2 = false → OutSt ob Wz v' (outsA pre ++ outA zeroE x.2.1 x.2.2) w' → TwoB wl.heap.size W w' ∧ ApI wl ob (pre ++ [x]) w') := ⟨fun v' w' hc h => ⟨⟨(h.grown.block _ (by omega) (fun e => by have := HL.out; cases e; omega)).trans (st.grown.block _ (by omega) (fun e => by have := HL.out; cases e; omega)).symm, (h.grown.block _ (by omega) (fun e => by have := HL.out; cases e; omega)).trans (st.grown.block _ (by omega) (fun e => by have := HL.out; cases e; omega)).symm⟩, (fun y hy => by
            rcases List.mem_append.1 hy with h' | h'
            · exact hnc y h'
            · rw [List.mem_singleton.1 h']; exact hc), Wz, v', hz1, hz2, by rw [outsA_snoc]; exact h⟩⟩
        have HR : Keep (∀ X, badA x.2.1 x.2.2 = true → OutSt ob Wz v (outsA pre) X → TwoB wl.heap.size W ((X.setCell ⟨g, 0, none⟩ (.slice none 0 0)).setCell ⟨h, 0, none⟩ (.int .i64 2)) ∧ ApX w g h (pre ++ [x]) ((X.setCell ⟨g, 0, none⟩ (.slice none 0 0)).setCell ⟨h, 0, none⟩ (.int .i64 2))) := ⟨fun X hc st' => by
          have hbk : ∀ k, k ≠ g → k ≠ h → ((X.setCell ⟨g, 0, none⟩ (.slice none 0 0)).setCell ⟨h, 0, none⟩ (.int .i64 2)).heap[k]? = X.heap[k]? := fun k h1 h2 => (Below.heap_setCell _ _ _ _ h2).trans (Below.heap_setCell _ _ _ _ h1)
          have kX := st'.keep (cell_later hz2 kl) (by have := HL.out; omega) (by have := HL.out; omega)
          have hX := st'.keep (cell_later hz2 hl0) (by have := HL.out; omega) (by have := HL.out; omega)
          refine ⟨⟨(hbk _ (by have := HL.out; omega) (by have := HL.out; omega)).trans ((st'.grown.block _ (by omega) (fun e => by have := HL.out; cases e; omega)).trans (st.grown.block _ (by omega) (fun e => by have := HL.out; cases e; omega)).symm), (hbk _ (by have := HL.out; omega) (by have := HL.out; omega)).trans ((st'.grown.block _ (by omega) (fun e => by have := HL.out; cases e; omega)).trans (st.grown.block _ (by omega) (fun e => by have := HL.out; cases e; omega)).symm)⟩, ⟨x, by simp, hc⟩, ?_, ?_, ?_⟩
          · exact ((st'.below (hbl.trans (hz2.mono hbl.size)) (by have := HL.out; omega)).setCell (p := ⟨g, 0, none⟩) (by have := HL.out; show _ ≤ g; omega) _).setCell (p := ⟨h, 0, none⟩) (by have := HL.out; show _ ≤ h; omega) _
          · exact (World.cell?_setCell_other _ _ _ _ (by intro e; exact hhg (congrArg Addr.block e))).trans (World.cell?_setCell_same _ _ _ kX)
          · exact World.cell?_setCell_same _ _ _ ((World.cell?_setCell_other _ _ _ _ (by intro e; exact hgh (congrArg Addr.block e))).trans hX)⟩
        have HK : Keep (∀ X, OutSt ob Wz v (outsA pre) X → (X.cell? ⟨g, 0, none⟩ = some (.slice none 0 0) ∧ X.cell? ⟨h, 0, none⟩ = some (.int .i64 0)) ∧ X.frozen? ⟨g, 0, none⟩ = false ∧ X.frozen? ⟨h, 0, none⟩ = false) := ⟨fun X st' => ⟨⟨st'.keep (cell_later hz2 kl) (by have := HL.out; omega) (by have := HL.out; omega), st'.keep (cell_later hz2 hl0) (by have := HL.out; omega) (by have := HL.out; omega)⟩, frozen_of (st'.grown.block g (by have := HL.out; omega) (fun e => by have := HL.out; cases e; omega)) ((hz2.frozen (p := ⟨g, 0, none⟩) (by have := HL.out; show g < _; omega)).trans kfl), frozen_of (st'.grown.block h (by have := HL.out; omega) (fun e => by have := HL.out; cases e; omega)) ((hz2.frozen (p := ⟨h, 0, none⟩) (by have := HL.out; show h < _; omega)).trans hfl)⟩⟩
        have HB : Keep (Wz.heap.size ≤ Wb.heap.size) := ⟨hst.grown.size⟩
        obtain ⟨hF1, hF2, hF3, hF4, hF5⟩ := round_facts HVT.out HVU.out hmx
        have HF1 : Keep (badA x.2.1 x.2.2 = !sameF (fileE (x.2.1.getD zeroE)) (chA x.2.1 x.2.2).old) := ⟨hF1⟩
        have HF2 : Keep (outA zeroE x.2.1 x.2.2 = (if (chA x.2.1 x.2.2).new.there = true then [⟨(chA x.2.1 x.2.2).path, (chA x.2.1 x.2.2).new.text, (chA x.2.1 x.2.2).new.runs⟩] else [])) := ⟨hF2⟩
        have HF5 : Keep ((x.2.2.getD noCh = noCh ∧ chA x.2.1 x.2.2 = ⟨(x.2.1.getD zeroE).path, fileE (x.2.1.getD zeroE), fileE (x.2.1.getD zeroE)⟩) ∨ (x.2.2.getD noCh = chA x.2.1 x.2.2 ∧ ((chA x.2.1 x.2.2).path.toList == ([] : List UInt8)) = false)) := ⟨by
          rcases hF5 with h5 | ⟨d, h5, h6⟩
          · exact .inl ⟨by rw [h5]; rfl, by unfold chA; rw [h5]; rfl⟩
          · exact .inr ⟨by unfold chA; rw [h5]; rfl, by unfold chA; rw [h5]; exact h6⟩⟩
        clear hst hbW hr hI0 ma mb of0 ob0 kl kfl hl0 hfl hbl hps hqs HNO hB1 wsz hmx hF1 hF2 hF5 hnc hz1 hz2
        generalize Wb.heap.size = B at *
        generalize x.2.1.getD zeroE = e at *
        generalize chA x.2.1 x.2.2 = c at *
        generalize x.2.2.getD noCh = c0 at *
        have hBn : ¬ B = B + 1 := by omega
        have hBn2 : ¬ B + 1 = B := by omega
        obtain ⟨nz, hnz⟩ : ∃ nz : Bool, (nz = true ∧ c0 = noCh ∧ c = ⟨e.path, fileE e, fileE e⟩) ∨ (nz = false ∧ c0 = c ∧ (c.path.toList == ([] : List UInt8)) = false) := by
          rcases HF5.out with ⟨h1, h2⟩ | ⟨h1, h2⟩
          · exact ⟨true, .inl ⟨rfl, h1, h2⟩⟩
          · exact ⟨false, .inr ⟨rfl, h1, h2⟩⟩
        have HNZ : Keep _ := ⟨hnz⟩
        clear hnz HF5
        have HX : Keep (EBox B e W) := ⟨hx⟩
        have HY : Keep (CBox (B + 1) c0 W) := ⟨hy⟩
        have HST : Keep (OutSt ob Wz v (outsA pre) W) := ⟨st⟩
        have a0 := hx.c0
        have a1 := hx.c1
        have a2 := hx.c2
        have b0 := hy.c0
        have b1 := hy.c1
        have b2 := hy.c2
        have b3 := hy.c3
        have b4 := hy.c4
        have b5 := hy.c5
        have b6 := hy.c6
        clear hx hy st
        gi_upto_region 7 with fail
        dsimp only
        gi_cut [27] from 28 (fun u wx => u = .bool nz ∧ wx = W)
        case first =>
          rcases HNZ.out with ⟨rfl, rfl, _⟩ | ⟨rfl, rfl, hp0⟩
          · replace b0 : W.cell? ⟨B + 1, 0, none⟩ = some (.string ⟨#[]⟩) := b0
            replace b1 : W.cell? ⟨B + 1, 1, none⟩ = some (.bool false) := b1
            replace b2 : W.cell? ⟨B + 1, 2, none⟩ = some (.string ⟨#[]⟩) := b2
            replace b3 : W.cell? ⟨B + 1, 3, none⟩ = some (.bool false) := b3
            replace b4 : W.cell? ⟨B + 1, 4, none⟩ = some (.bool false) := b4
            replace b5 : W.cell? ⟨B + 1, 5, none⟩ = some (.string ⟨#[]⟩) := b5
            replace b6 : W.cell? ⟨B + 1, 6, none⟩ = some (.bool false) := b6
            gi_wp2
            gi_meet
            case rel => exact ⟨rfl, rfl⟩
          · gi_wp2
            gi_meet
            case rel => exact ⟨rfl, rfl⟩
        case rest =>
          obtain ⟨rfl, rfl⟩ := hcut
          gi_upto_if 27 with fail
          gi_cut [] from 28 (fun wx => EBox B e wx ∧ CBox (B + 1) c wx ∧ OutSt ob Wz v (outsA pre) wx)
          case first =>
            rcases HNZ.out with ⟨rfl, rfl, rfl⟩ | ⟨rfl, rfl, hp0⟩
            · have a2c := a2
              clear a2
              gi_upto_region 8 with fail
              refine wpIn_region_inv0 (by kernel_rfl) (by kernel_rfl) (fun T0 => RX T0 sDs (sTab B e) wc 5 (fun wx => EBox B e wx ∧ CBox (B + 1) ⟨e.path, fileE e, fileE e⟩ wx ∧ OutSt ob Wz v (outsA pre) wx)) ?_ ?_ ?_
              · exact ⟨Sl2.start _, fun _ => (Below.refl _ _).drew, fun h => by rw [getD_repl] at h; cases h⟩
              · intro L a2 w9 hinv hall
                have hE := hinv.fin (hall 5 (by decide))
                have HXX : Keep _ := ⟨hinv.sl.act⟩
                have HEE : Keep _ := ⟨hE⟩
                clear hinv hall hE
                rw [HXX.out]
                simp only [updL, sDs, List.contains_cons, List.contains_nil, Nat.reduceAdd, Nat.reduceBEq, Bool.or_false, cond_false, cond_true, Bool.or_true]
                gi_wp2
                gi_meet
                case rel => exact HEE.out
              · intro L a2 w9 i o hinv hcl hL ho hdep
                have hi6 : i < 6 := (Array.getElem?_eq_some_iff.1 ho).1
                have h5 : i ≠ 5 → L.getD 5 false = false := fun hne => by
                  cases hb : L.getD 5 false with
                  | false => rfl
                  | true =>
                    exfalso
                    have d4 := hcl 5 _ rfl hb ⟨4, .data⟩ (by simp) rfl
                    have d3 := hcl 4 _ rfl d4 ⟨3, .data⟩ (by simp) rfl
                    have d1 := hcl 4 _ rfl d4 ⟨1, .data⟩ (by simp) rfl
                    have d2 := hcl 3 _ rfl d3 ⟨2, .data⟩ (by simp) rfl
                    have d0 := hcl 1 _ rfl d1 ⟨0, .data⟩ (by simp) rfl
                    have hf := getD_ft hL
                    match i, hi6, hne, hf with
                    | 0, _, _, hf => rw [d0] at hf; cases hf
                    | 1, _, _, hf => rw [d1] at hf; cases hf
                    | 2, _, _, hf => rw [d2] at hf; cases hf
                    | 3, _, _, hf => rw [d3] at hf; cases hf
                    | 4, _, _, hf => rw [d4] at hf; cases hf
                    | 5, _, hne, _ => exact hne rfl
                unfold wpOpIn
                rw [ho]
                clear hcl
                match i, hi6, hL, ho, hdep, h5 with
                | 0, _, hL, ho, hdep, h5 =>
                  injection ho with ho; subst ho
                  dsimp only
                  rw [if_pos (by rfl)]
                  refine ⟨fun f _ => trivial, ?_⟩
                  have e7 : a2.tmps[7]?.getD undef = .pointer (some ⟨B, 0, none⟩) := hinv.sl.old (by decide)
                  go_simp
                  exact hinv.step sNd (i := 0) (by decide) (by show 28 < 57; decide) (by omega) (h5 (by omega)) rfl (Below.refl _ _)
                | 1, _, hL, ho, hdep, h5 =>
                  injection ho with ho; subst ho
                  dsimp only
                  rw [if_pos (by rfl)]
                  refine ⟨fun f _ => trivial, ?_⟩
                  have hb9 := hinv.wd (h5 (by omega))
                  have e28 : a2.tmps[28]?.getD undef = .pointer (some ⟨B, 0, none⟩) := hinv.sl.new (i := 0) (by decide) rfl (hdep ⟨0, .data⟩ (by simp) rfl)
                  have z0 := cell_later hb9 a0
                  go_simp
                  exact hinv.step sNd (i := 1) (by decide) (by show 29 < 57; decide) (by omega) (h5 (by omega)) rfl (Below.refl _ _)
                | 2, _, hL, ho, hdep, h5 =>
                  injection ho with ho; subst ho
                  dsimp only
                  rw [if_pos (by rfl)]
                  refine ⟨fun f _ => trivial, ?_⟩
                  have hb9 := hinv.wd (h5 (by omega))
                  have e7 : a2.tmps[7]?.getD undef = .pointer (some ⟨B, 0, none⟩) := hinv.sl.old (by decide)
                  have z0 := cell_later hb9 a0
                  have z1 := cell_later hb9 a1
                  have z2 := cell_later hb9 a2c
                  go_simp
                  exact hinv.step sNd (i := 2) (by decide) (by show 30 < 57; decide) (by omega) (h5 (by omega)) rfl (Below.refl _ _)
                | 3, _, hL, ho, hdep, h5 =>
                  injection ho with ho; subst ho
                  dsimp only
                  rw [if_pos (by rfl)]
                  refine ⟨fun f _ => trivial, ?_⟩
                  have hb9 := hinv.wd (h5 (by omega))
                  have e30 : a2.tmps[30]?.getD undef = .agg #[.string e.path, .string e.text, .bool e.runs] := hinv.sl.new (i := 2) (by decide) rfl (hdep ⟨2, .data⟩ (by simp) rfl)
                  go_simp
                  refine CallsIn.mono (CallsIn.inRound l (callsIn_wide.2 (fileE_any e _))) ?_
                  rintro e' w' ⟨rfl, hb'⟩
                  exact hinv.step sNd (i := 3) (by decide) (by show 31 < 57; decide) (by omega) (h5 (by omega)) rfl hb'
                | 4, _, hL, ho, hdep, h5 =>
                  injection ho with ho; subst ho
                  dsimp only
                  rw [if_pos (by rfl)]
                  refine ⟨fun f _ => trivial, ?_⟩
                  have hb9 := hinv.wd (h5 (by omega))
                  have e29 : a2.tmps[29]?.getD undef = .string e.path := hinv.sl.new (i := 1) (by decide) rfl (hdep ⟨1, .data⟩ (by simp) rfl)
                  have e31 : a2.tmps[31]?.getD undef = .agg #[.bool (fileE e).there, .string (fileE e).text, .bool (fileE e).runs] := hinv.sl.new (i := 3) (by decide) rfl (hdep ⟨3, .data⟩ (by simp) rfl)
                  go_simp
                  refine CallsIn.mono (CallsIn.inRound l (callsIn_wide.2 (stay_any e.path (fileE e) _))) ?_
                  rintro e' w' ⟨rfl, hb'⟩
                  exact hinv.step sNd (i := 4) (by decide) (by show 32 < 57; decide) (by omega) (h5 (by omega)) rfl hb'
                | 5, _, hL, ho, hdep, h5 =>
                  injection ho with ho; subst ho
                  dsimp only
                  rw [if_pos (by rfl)]
                  refine ⟨fun f _ => trivial, ?_⟩
                  have hb9 := hinv.wd (getD_ft hL)
                  have e8 : a2.tmps[8]?.getD undef = .pointer (some ⟨B + 1, 0, none⟩) := hinv.sl.old (by decide)
                  have e32 : a2.tmps[32]?.getD undef = .agg #[.string e.path, .bool (fileE e).there, .string (fileE e).text, .bool (fileE e).runs, .bool (fileE e).there, .string (fileE e).text, .bool (fileE e).runs] := hinv.sl.new (i := 4) (by decide) rfl (hdep ⟨4, .data⟩ (by simp) rfl)
                  have hy9 := HY.out.later hb9
                  have z0 : w9.cell? ⟨B + 1, 0, none⟩ = some (.string ⟨#[]⟩) := hy9.c0
                  have z1 : w9.cell? ⟨B + 1, 1, none⟩ = some (.bool false) := hy9.c1
                  have z2 : w9.cell? ⟨B + 1, 2, none⟩ = some (.string ⟨#[]⟩) := hy9.c2
                  have z3 : w9.cell? ⟨B + 1, 3, none⟩ = some (.bool false) := hy9.c3
                  have z4 : w9.cell? ⟨B + 1, 4, none⟩ = some (.bool false) := hy9.c4
                  have z5 : w9.cell? ⟨B + 1, 5, none⟩ = some (.string ⟨#[]⟩) := hy9.c5
                  have z6 : w9.cell? ⟨B + 1, 6, none⟩ = some (.bool false) := hy9.c6
                  have fz := hy9.fz
                  have hE : EBox B e (((((((w9.setCell ⟨B + 1, 0, none⟩ (.string e.path)).setCell ⟨B + 1, 1, none⟩ (.bool (fileE e).there)).setCell ⟨B + 1, 2, none⟩ (.string (fileE e).text)).setCell ⟨B + 1, 3, none⟩ (.bool (fileE e).runs)).setCell ⟨B + 1, 4, none⟩ (.bool (fileE e).there)).setCell ⟨B + 1, 5, none⟩ (.string (fileE e).text)).setCell ⟨B + 1, 6, none⟩ (.bool (fileE e).runs)) ∧ CBox (B + 1) ⟨e.path, fileE e, fileE e⟩ (((((((w9.setCell ⟨B + 1, 0, none⟩ (.string e.path)).setCell ⟨B + 1, 1, none⟩ (.bool (fileE e).there)).setCell ⟨B + 1, 2, none⟩ (.string (fileE e).text)).setCell ⟨B + 1, 3, none⟩ (.bool (fileE e).runs)).setCell ⟨B + 1, 4, none⟩ (.bool (fileE e).there)).setCell ⟨B + 1, 5, none⟩ (.string (fileE e).text)).setCell ⟨B + 1, 6, none⟩ (.bool (fileE e).runs)) ∧ OutSt ob Wz v (outsA pre) (((((((w9.setCell ⟨B + 1, 0, none⟩ (.string e.path)).setCell ⟨B + 1, 1, none⟩ (.bool (fileE e).there)).setCell ⟨B + 1, 2, none⟩ (.string (fileE e).text)).setCell ⟨B + 1, 3, none⟩ (.bool (fileE e).runs)).setCell ⟨B + 1, 4, none⟩ (.bool (fileE e).there)).setCell ⟨B + 1, 5, none⟩ (.string (fileE e).text)).setCell ⟨B + 1, 6, none⟩ (.bool (fileE e).runs)) := ⟨(HX.out.later hb9).grown (box7_grown (.string e.path) (.bool (fileE e).there) (.string (fileE e).text) (.bool (fileE e).runs) (.bool (fileE e).there) (.string (fileE e).text) (.bool (fileE e).runs)) (by simp), hy9.set ⟨e.path, fileE e, fileE e⟩, (HST.out.later hb9).other (box7_grown (.string e.path) (.bool (fileE e).there) (.string (fileE e).text) (.bool (fileE e).runs) (.bool (fileE e).there) (.string (fileE e).text) (.bool (fileE e).runs)) (by have := HB.out; omega) hvB1⟩
                  have HEE : Keep _ := ⟨hE⟩
                  clear hE hy9
                  go_simp
                  exact hinv.last rfl hL HEE.out
            · gi_wp2
              gi_meet
              case rel => exact ⟨HX.out, HY.out, HST.out⟩
          case rest =>
            obtain ⟨hx, hy, st⟩ := hcut
            clear HX HY HST hvB1 a0 a1 a2 b0 b1 b2 b3 b4 b5 b6 HNZ
            have a0 := hx.c0
            have a1 := hx.c1
            have a2c := hx.c2
            have b0 := hy.c0
            have b1 := hy.c1
            have b2 := hy.c2
            have b3 := hy.c3
            have b4 := hy.c4
            have b5 := hy.c5
            have b6 := hy.c6
            have HX : Keep (EBox B e wc) := ⟨hx⟩
            have HY : Keep (CBox (B + 1) c wc) := ⟨hy⟩
            have HST : Keep (OutSt ob Wz v (outsA pre) wc) := ⟨st⟩
            clear hx hy st
            obtain ⟨nb, hnb⟩ : ∃ nb : Bool, nb = !sameF (fileE e) c.old := ⟨_, rfl⟩
            have HNB : Keep (nb = !sameF (fileE e) c.old) := ⟨hnb⟩
            clear hnb
            gi_upto_region 9 with fail
            refine wpIn_region_inv0 (by kernel_rfl) (by kernel_rfl) (fun T0 => QV T0 fDs (fTab B e c.old nb) wc) ?_ ?_ ?_
            · exact ⟨Sl2.start _, (Below.refl _ _).drew⟩
            · intro L a2 w9 hinv hall
              have hb9 := hinv.wd
              have e37 : a2.tmps.getD 37 undef = .bool nb := hinv.sl.sl 4 (by decide) _ rfl (hall 4 (by decide))
              have HXX : Keep _ := ⟨hinv.sl.act⟩
              clear hinv hall
              rw [HXX.out]
              simp only [updL, fDs, List.contains_cons, List.contains_nil, Nat.reduceAdd, Nat.reduceBEq, Bool.or_false, cond_false, cond_true, Bool.or_true, e37]
              generalize a2.tmps.getD 33 undef = s33
              generalize a2.tmps.getD 34 undef = s34
              generalize a2.tmps.getD 35 undef = s35
              generalize a2.tmps.getD 36 undef = s36
              have HY9 := HY.out.later hb9
              have HST9 := HST.out.later hb9
              clear HXX e37 HX HY HST a0 a1 a2c b0 b1 b2 b3 b4 b5 b6 hb9
              cases nb with
              | true =>
                obtain ⟨⟨kX, hX⟩, kfX, hfX⟩ := HK.out w9 HST9
                have HS9 : Keep _ := ⟨HST9⟩
                clear HST9 HY9
                gi_wp2
                exact HR.out w9 (by rw [HF1.out]; exact HNB.out.symm) HS9.out
              | false =>
                have hbad : badA x.2.1 x.2.2 = false := by rw [HF1.out]; exact HNB.out.symm
                have HBAD : Keep _ := ⟨hbad⟩
                clear hbad HNB HK HR HF1
                have HST : Keep (OutSt ob Wz v (outsA pre) w9) := ⟨HST9⟩
                have oc := HST9.cell
                have b0 := HY9.c0
                have b4 := HY9.c4
                have b5 := HY9.c5
                have b6 := HY9.c6
                clear HST9 HY9
                cases hth : c.new.there with
                | false =>
                  rw [hth] at b4
                  gi_wp2
                  exact HE.out v w9 HBAD.out (by rw [HF2.out, hth]; simpa using HST.out)
                | true =>
                  rw [hth] at b4
                  obtain ⟨i0, hi, hz0, hz1', hzb'⟩ := info_parts Try.infoEntry
                  have HE2 : Keep (∀ v' w', OutSt ob Wz v' (outsA pre ++ [⟨c.path, c.new.text, c.new.runs⟩]) w' → TwoB wl.heap.size _ w' ∧ ApI wl ob (pre ++ [x]) w') := ⟨fun v' w' h' => HE.out v' w' HBAD.out (by rw [HF2.out, hth]; exact h')⟩
                  gi_upto_region 12 with fail
                  refine wpIn_region_inv0 (by kernel_rfl) (by kernel_rfl) (fun T0 => NV T0 ob B Wz w9 v c.path c.new.text c.new.runs (outsA pre)) ?_ ?_ ?_
                  · exact ⟨Sl2.start _, fun _ => (Below.refl _ _).drew, (fun h => by rw [getD_repl] at h; cases h), (fun h => by rw [getD_repl] at h; cases h), (fun h => by rw [getD_repl] at h; cases h)⟩
                  · intro L a2 wx hinv hall
                    obtain ⟨v', h'⟩ := hinv.w3 (hall 10 (by decide))
                    have HXX : Keep _ := ⟨hinv.sl.act⟩
                    have HHH : Keep _ := ⟨h'⟩
                    clear hinv hall h'
                    rw [HXX.out]
                    simp only [updL, nDs, List.contains_cons, List.contains_nil, Nat.reduceAdd, Nat.reduceBEq, Bool.or_false, cond_false, cond_true, Bool.or_true]
                    clear HXX oc b0 b4 b5 b6
                    gi_wp2
                    exact HE2.out _ _ HHH.out
                  · intro L a2 wx i o hinv hcl hL ho hdep
                    have hi11 : i < 11 := (Array.getElem?_eq_some_iff.1 ho).1
                    unfold wpOpIn
                    rw [ho]
                    have q87 : L.getD 8 false = true → L.getD 7 false = true := fun hb => hcl 8 _ rfl hb ⟨7, .data⟩ (by simp) rfl
                    have q108 : L.getD 10 false = true → L.getD 8 false = true := fun hb => hcl 10 _ rfl hb ⟨8, .data⟩ (by simp) rfl
                    have q76 : L.getD 7 false = true → L.getD 6 false = true := fun hb => hcl 7 _ rfl hb ⟨6, .data⟩ (by simp) rfl
                    have q7 : (L.getD 6 true = false ∨ L.getD 3 true = false ∨ L.getD 5 true = false) → L.getD 7 false = false := fun h9 => by
                      cases hb : L.getD 7 false with
                      | false => rfl
                      | true =>
                        exfalso
                        have h6 := q76 hb
                        rcases h9 with h9 | h9 | h9
                        · rw [getD_ft h9] at h6; cases h6
                        · have h := hcl 6 _ rfl h6 ⟨3, .data⟩ (by simp) rfl; rw [getD_ft h9] at h; cases h
                        · have h := hcl 6 _ rfl h6 ⟨5, .data⟩ (by simp) rfl; rw [getD_ft h9] at h; cases h
                    have q8 : (L.getD 1 true = false ∨ L.getD 7 true = false ∨ L.getD 6 true = false) → L.getD 8 false = false := fun h9 => by
                      cases hb : L.getD 8 false with
                      | false => rfl
                      | true =>
                        exfalso
                        rcases h9 with h9 | h9 | h9
                        · have h := hcl 8 _ rfl hb ⟨1, .data⟩ (by simp) rfl; rw [getD_ft h9] at h; cases h
                        · have h := q87 hb; rw [getD_ft h9] at h; cases h
                        · have h := q76 (q87 hb); rw [getD_ft h9] at h; cases h
                    have q10 : (L.getD 8 true = false ∨ L.getD 7 true = false ∨ L.getD 6 true = false) → L.getD 10 false = false := fun h9 => by
                      cases hb : L.getD 10 false with
                      | false => rfl
                      | true =>
                        exfalso
                        rcases h9 with h9 | h9 | h9
                        · have h := q108 hb; rw [getD_ft h9] at h; cases h
                        · have h := q87 (q108 hb); rw [getD_ft h9] at h; cases h
                        · have h := q76 (q87 (q108 hb)); rw [getD_ft h9] at h; cases h
                    clear hcl
                    match i, hi11, hL, ho, hdep with
                        | 0, _, hL, ho, hdep =>
                          injection ho with ho; subst ho
                          dsimp only
                          rw [if_pos (by rfl)]
                          refine ⟨fun f _ => trivial, ?_⟩
                          have e6 : a2.tmps[6]?.getD undef = .pointer (some ⟨ob, 0, none⟩) := hinv.sl.old (by decide)
                          go_simp
                          exact hinv.step (i := 0) rfl (by omega) (by omega) (by omega) rfl (.inl rfl)
                        | 1, _, hL, ho, hdep =>
                          injection ho with ho; subst ho
                          dsimp only
                          rw [if_pos (by rfl)]
                          refine ⟨fun f _ => trivial, ?_⟩
                          have e42 : a2.tmps[42]?.getD undef = .pointer (some ⟨ob, 0, none⟩) := hinv.sl.new (i := 0) (by decide) rfl (hdep ⟨0, .data⟩ (by simp) rfl)
                          have z0 := cell_later (hinv.below (q8 (.inl hL))) oc
                          go_simp
                          exact hinv.step (i := 1) rfl (by omega) (by omega) (by omega) rfl (.inl rfl)
                        | 2, _, hL, ho, hdep =>
                          injection ho with ho; subst ho
                          dsimp only
                          rw [if_pos (by rfl)]
                          refine ⟨fun f _ => trivial, ?_⟩
                          have e8 : a2.tmps[8]?.getD undef = .pointer (some ⟨B + 1, 0, none⟩) := hinv.sl.old (by decide)
                          go_simp
                          exact hinv.step (i := 2) rfl (by omega) (by omega) (by omega) rfl (.inl rfl)
                        | 3, _, hL, ho, hdep =>
                          injection ho with ho; subst ho
                          dsimp only
                          rw [if_pos (by rfl)]
                          refine ⟨fun f _ => trivial, ?_⟩
                          have e44 : a2.tmps[44]?.getD undef = .pointer (some ⟨B + 1, 4, none⟩) := hinv.sl.new (i := 2) (by decide) rfl (hdep ⟨2, .data⟩ (by simp) rfl)
                          have hb := hinv.w0 (q7 (.inr (.inl hL)))
                          have z0 := cell_later hb b4
                          have z1 := cell_later hb b5
                          have z2 := cell_later hb b6
                          go_simp
                          exact hinv.step (i := 3) rfl (by omega) (by omega) (by omega) rfl (.inl rfl)
                        | 4, _, hL, ho, hdep =>
                          injection ho with ho; subst ho
                          dsimp only
                          rw [if_pos (by rfl)]
                          refine ⟨fun f _ => trivial, ?_⟩
                          have e8 : a2.tmps[8]?.getD undef = .pointer (some ⟨B + 1, 0, none⟩) := hinv.sl.old (by decide)
                          go_simp
                          exact hinv.step (i := 4) rfl (by omega) (by omega) (by omega) rfl (.inl rfl)
                        | 5, _, hL, ho, hdep =>
                          injection ho with ho; subst ho
                          dsimp only
                          rw [if_pos (by rfl)]
                          refine ⟨fun f _ => trivial, ?_⟩
                          have e46 : a2.tmps[46]?.getD undef = .pointer (some ⟨B + 1, 0, none⟩) := hinv.sl.new (i := 4) (by decide) rfl (hdep ⟨4, .data⟩ (by simp) rfl)
                          have z0 := cell_later (hinv.w0 (q7 (.inr (.inr hL)))) b0
                          go_simp
                          exact hinv.step (i := 5) rfl (by omega) (by omega) (by omega) rfl (.inl rfl)
                        | 6, _, hL, ho, hdep =>
                          injection ho with ho; subst ho
                          dsimp only
                          rw [if_pos (by rfl)]
                          refine ⟨fun f _ => trivial, ?_⟩
                          have e45 : a2.tmps[45]?.getD undef = .agg #[.bool true, .string c.new.text, .bool c.new.runs] := hinv.sl.new (i := 3) (by decide) rfl (hdep ⟨3, .data⟩ (by simp) rfl)
                          have e47 : a2.tmps[47]?.getD undef = .string c.path := hinv.sl.new (i := 5) (by decide) rfl (hdep ⟨5, .data⟩ (by simp) rfl)
                          go_simp
                          refine CallsIn.mono (CallsIn.inRound l (callsIn_wide.2 (entry_any c.path c.new.text c.new.runs _ (by omega) (by omega)))) ?_
                          rintro e' w' ⟨rfl, hb'⟩
                          exact hinv.step (i := 6) rfl (by omega) (by omega) (by omega) rfl (.inr ⟨hb', q7 (.inl hL), q8 (.inr (.inr hL)), q10 (.inr (.inr hL))⟩)
                        | 7, _, hL, ho, hdep =>
                          injection ho with ho; subst ho
                          dsimp only
                          rw [if_pos (by rfl)]
                          refine ⟨fun f _ => trivial, ?_⟩
                          have e48 : a2.tmps[48]?.getD undef = .agg #[.string c.path, .string c.new.text, .bool c.new.runs] := hinv.sl.new (i := 6) (by decide) rfl (hdep ⟨6, .data⟩ (by simp) rfl)
                          go_simp
                          exact hinv.build rfl (q8 (.inr (.inl hL))) (q10 (.inr (.inl hL))) hL
                        | 8, _, hL, ho, hdep =>
                          injection ho with ho; subst ho
                          dsimp only
                          rw [if_pos (by rfl)]
                          have h7 := hdep ⟨7, .data⟩ (by simp) rfl
                          obtain ⟨y, hby, rfl, ex⟩ := hinv.w1 h7 (getD_ft hL)
                          have ev := hinv.sl.sl 1 (by decide) _ rfl (hdep ⟨1, .data⟩ (by simp) rfl)
                          have hbz : Below w9.heap.size w9 (y.alloc (.cells #[.string c.path, .string c.new.text, .bool c.new.runs] 72)) := hby.alloc hby.size _
                          have hgs := HST.out.grown.size
                          have hys := hby.size
                          obtain ⟨g3, cap3, w7, hr3, hown3, hgrow3, _, _⟩ := run_append_lies (P := Try.prog) (y.alloc (.cells #[.string c.path, .string c.new.text, .bool c.new.runs] 72)) 30 30 Wz.heap.size 72 i0 _ 3 40 Try.underlying30 hi hz0 hz1' hzb' rfl (by decide) v (outsA pre).length (ecells (outsA pre)) (owns_below HST.out.row hbz) ⟨y.heap.size, 0, none⟩ 1 1 (ecell ⟨c.path, c.new.text, c.new.runs⟩) rfl (news_3 y ⟨c.path, c.new.text, c.new.runs⟩ _ _ rfl) (one_3 _) (by omega) (by unfold maxLen; omega) (by omega) (by simp; omega) (y.heap.size + 1) (by simp)
                          exact wpIn_appendR _ _ _ rfl ev ex hr3 (hinv.app rfl h7 (q10 (.inl hL)) hL hbz hown3 hgrow3)
                        | 9, _, hL, ho, hdep =>
                          injection ho with ho; subst ho
                          dsimp only
                          rw [if_pos (by rfl)]
                          refine ⟨fun f _ => trivial, ?_⟩
                          have e6 : a2.tmps[6]?.getD undef = .pointer (some ⟨ob, 0, none⟩) := hinv.sl.old (by decide)
                          go_simp
                          exact hinv.step (i := 9) rfl (by omega) (by omega) (by omega) rfl (.inl rfl)
                        | 10, _, hL, ho, hdep =>
                          injection ho with ho; subst ho
                          dsimp only
                          rw [if_pos (by rfl)]
                          refine ⟨fun f _ => trivial, ?_⟩
                          have h8 := hdep ⟨8, .data⟩ (by simp) rfl
                          obtain ⟨W1, g3, cap3, ex, hbx, hown3, hgrow3⟩ := hinv.w2 h8 (getD_ft hL)
                          have e50 := evalD2 ex
                          have e51 : a2.tmps[51]?.getD undef = .pointer (some ⟨ob, 0, none⟩) := hinv.sl.new (i := 9) (by decide) rfl (hdep ⟨9, .data⟩ (by simp) rfl)
                          obtain ⟨oc3, of3⟩ := HST.out.mid hbx hgrow3
                          go_simp
                          exact hinv.last (q87 h8) h8 hL ⟨_, HST.out.append hbx hgrow3 hown3⟩
            · intro L a2 w9 i o hinv hcl hL ho hdep
              have hi5 : i < 5 := (Array.getElem?_eq_some_iff.1 ho).1
              unfold wpOpIn
              rw [ho]
              clear hcl
              match i, hi5, hL, ho, hdep with
                | 0, _, hL, ho, hdep =>
                  injection ho with ho; subst ho
                  dsimp only
                  rw [if_pos (by rfl)]
                  refine ⟨fun f _ => trivial, ?_⟩
                  have e7 : a2.tmps[7]?.getD undef = .pointer (some ⟨B, 0, none⟩) := hinv.sl.old (by decide)
                  have z0 := cell_later hinv.wd a0
                  have z1 := cell_later hinv.wd a1
                  have z2 := cell_later hinv.wd a2c
                  go_simp
                  exact hinv.step fNd (i := 0) (by decide) (by show 33 < 57; decide) rfl (Below.refl _ _)
                | 1, _, hL, ho, hdep =>
                  injection ho with ho; subst ho
                  dsimp only
                  rw [if_pos (by rfl)]
                  refine ⟨fun f _ => trivial, ?_⟩
                  have e33 : a2.tmps[33]?.getD undef = .agg #[.string e.path, .string e.text, .bool e.runs] := hinv.sl.new (i := 0) (by decide) rfl (hdep ⟨0, .data⟩ (by simp) rfl)
                  go_simp
                  refine CallsIn.mono (CallsIn.inRound l (callsIn_wide.2 (fileE_any e _))) ?_
                  rintro e' w' ⟨rfl, hb'⟩
                  exact hinv.step fNd (i := 1) (by decide) (by show 34 < 57; decide) rfl hb'
                | 2, _, hL, ho, hdep =>
                  injection ho with ho; subst ho
                  dsimp only
                  rw [if_pos (by rfl)]
                  refine ⟨fun f _ => trivial, ?_⟩
                  have e8 : a2.tmps[8]?.getD undef = .pointer (some ⟨B + 1, 0, none⟩) := hinv.sl.old (by decide)
                  go_simp
                  exact hinv.step fNd (i := 2) (by decide) (by show 35 < 57; decide) rfl (Below.refl _ _)
                | 3, _, hL, ho, hdep =>
                  injection ho with ho; subst ho
                  dsimp only
                  rw [if_pos (by rfl)]
                  refine ⟨fun f _ => trivial, ?_⟩
                  have e35 : a2.tmps[35]?.getD undef = .pointer (some ⟨B + 1, 1, none⟩) := hinv.sl.new (i := 2) (by decide) rfl (hdep ⟨2, .data⟩ (by simp) rfl)
                  have z0 := cell_later hinv.wd b1
                  have z1 := cell_later hinv.wd b2
                  have z2 := cell_later hinv.wd b3
                  go_simp
                  exact hinv.step fNd (i := 3) (by decide) (by show 36 < 57; decide) rfl (Below.refl _ _)
                | 4, _, hL, ho, hdep =>
                  injection ho with ho; subst ho
                  dsimp only
                  rw [if_pos (by rfl)]
                  refine ⟨fun f _ => trivial, ?_⟩
                  have e34 : a2.tmps[34]?.getD undef = .agg #[.bool (fileE e).there, .string (fileE e).text, .bool (fileE e).runs] := hinv.sl.new (i := 1) (by decide) rfl (hdep ⟨1, .data⟩ (by simp) rfl)
                  have e36 : a2.tmps[36]?.getD undef = .agg #[.bool c.old.there, .string c.old.text, .bool c.old.runs] := hinv.sl.new (i := 3) (by decide) rfl (hdep ⟨3, .data⟩ (by simp) rfl)
                  have hfin := fun v (hv : v = Value.bool nb) => hinv.step fNd (i := 4) (v := v) (by decide) (by show 37 < 57; decide) (by rw [hv]; rfl) (Below.refl _ _)
                  clear hinv a0 a1 a2c b0 b1 b2 b3 b4 b5 b6
                  generalize fileE e = f at *
                  generalize c.old = fo at *
                  obtain ⟨f1, f2, f3⟩ := f
                  obtain ⟨g1, g2, g3⟩ := fo
                  dsimp only at e34 e36
                  by_cases q1 : f1 = g1
                  · by_cases q2 : f2.toList = g2.toList
                    · by_cases q3 : f3 = g3
                      · have q4 : f2 = g2 := WideShapes.bytes_inj (by rw [← Lib.toList_data, ← Lib.toList_data]; exact q2)
                        subst q1 q3 q4
                        go_simp
                        exact hfin _ (by rw [HNB.out, sameF_self]; rfl)
                      · go_simp
                        exact hfin _ (by rw [HNB.out]; simp [sameF, q3])
                    · go_simp
                      exact hfin _ (by rw [HNB.out]; simp [sameF, q2])
                  · go_simp
                    exact hfin _ (by rw [HNB.out]; simp [sameF, q1])
      case done =>
        rintro W ⟨hnc, Wz, v, hz1, hz2, hst⟩ hK
        have hAR := outs_app HVT.out HVU.out
        have hlen : (outsA (mrgEC ps qs)).length ≤ 1048576 := by
          have h1 := outsA_len (mrgEC ps qs)
          have h2 : (mrgEC ps qs).length ≤ ps.length + qs.length := mrg_lenA En.path Ch.path (ps.length + qs.length) ps qs
          have h3 := HVT.out.1
          have h4 := HVU.out.1
          omega
        have HNB : Keep (∀ x ∈ qs, sameF (atL ps x.path) x.old = true) := ⟨fun x hx => by
          cases hb : sameF (atL ps x.path) x.old with
          | true => rfl
          | false =>
            obtain ⟨y, hy, hyb⟩ := (bad_iff HVT.out HVU.out).2 ⟨x, hx, hb⟩
            rw [hnc y hy] at hyb
            cases hyb⟩
        have hzu : ∀ e ∈ outsA (mrgEC ps qs), e.path.size ≤ 1048576 := fun e he => by
          rcases (hAR.mem e).1 he with ⟨c, hc, _, rfl⟩ | ⟨h1, _⟩
          · exact hzb c hc
          · exact hz e h1
        have kW := hst.keep (cell_later hz2 kl) (by have := HL.out; omega) (by have := HL.out; omega)
        have hW := hst.keep (cell_later hz2 hl0) (by have := HL.out; omega) (by have := HL.out; omega)
        have kfW : W.frozen? ⟨g, 0, none⟩ = false := frozen_of (hst.grown.block g (by have := HL.out; omega) (fun e => by have := HL.out; cases e; omega)) ((hz2.frozen (p := ⟨g, 0, none⟩) (by have := HL.out; show g < _; omega)).trans kfl)
        have hfW : W.frozen? ⟨h, 0, none⟩ = false := frozen_of (hst.grown.block h (by have := HL.out; omega) (fun e => by have := HL.out; cases e; omega)) ((hz2.frozen (p := ⟨h, 0, none⟩) (by have := HL.out; show h < _; omega)).trans hfl)
        have oW := hst.cell
        have hbW := hst.below (hbl.trans (hz2.mono hbl.size)) (show w.heap.size ≤ ob by have := HL.out; omega)
        obtain ⟨ad, cap, rfl⟩ := owns_slice hst.row
        have hrm := row_roomO hst.row
        have hcl := el_of_row hst.row
        have HZ : Keep (w.heap.size ≤ g ∧ h = g + 1 ∧ h < wl.heap.size ∧ Wz.heap.size = wl.heap.size + 2 ∧ Wz.heap.size ≤ W.heap.size) := ⟨by have := HL.out; have := hst.grown.size; omega⟩
        clear hst hz2 hI0 hps hqs HNO hnc wsz
        generalize outsA (mrgEC ps qs) = us at *
        have hvt := implTree_any ad cap us W hcl.es hlen hzu
        gi_wp2_with fail
        refine ⟨trivial, ?_⟩
        refine (callsIn_wide.2 hvt).mono ?_
        rintro e W5 ⟨vb, rfl, hvb, hb5⟩
        have HVB : Keep (vb = true ↔ ValidTs us) := ⟨hvb⟩
        replace kW := cell_later hb5 kW
        replace hW := cell_later hb5 hW
        replace oW := cell_later hb5 oW
        have hgl : h < W.heap.size := by have := HZ.out; omega
        replace kfW : W5.frozen? ⟨g, 0, none⟩ = false := (hb5.frozen (p := ⟨g, 0, none⟩) (by have := HZ.out; show g < _; omega)).trans kfW
        replace hfW : W5.frozen? ⟨h, 0, none⟩ = false := (hb5.frozen (p := ⟨h, 0, none⟩) hgl).trans hfW
        replace hcl := hcl.below hb5
        replace hbW := hbW.trans (hb5.mono hbW.size)
        replace hK := (hb5.block wl.heap.size (by have := HZ.out; omega)).trans hK
        have fin : ∀ (vs : List En) (c : Int) (ad2 : Option Addr) (cap2 : Nat), ApplyRel ps qs vs c → EL Wz.heap.size W5 ad2 vs → vs.length ≤ cap2 → ∃ W3, W3 = (W5.setCell ⟨g, 0, none⟩ (.slice ad2 vs.length cap2)).setCell ⟨h, 0, none⟩ (.int .i64 c) ∧ W3.heap[wl.heap.size]? = some (.deferred (some [])) ∧ (W3.putObj wl.heap.size (.deferred none)).cell? ⟨g, 0, none⟩ = some (.slice ad2 vs.length cap2) ∧ (W3.putObj wl.heap.size (.deferred none)).cell? ⟨h, 0, none⟩ = some (.int .i64 c) ∧ ApplyPostC ps qs w (.returned (TreeV ad2 vs.length cap2 c)) (W3.putObj wl.heap.size (.deferred none)) := fun vs c ad2 cap2 hrel hcs hrm2 => by
          have hzz := HZ.out
          have hbk : ∀ k, k ≠ g → k ≠ h → ((W5.setCell ⟨g, 0, none⟩ (.slice ad2 vs.length cap2)).setCell ⟨h, 0, none⟩ (.int .i64 c)).heap[k]? = W5.heap[k]? := fun k h1 h2 => (Below.heap_setCell _ _ _ _ h2).trans (Below.heap_setCell _ _ _ _ h1)
          have hg1 := hcs.grown (row := some g) (grown_set0 W5 g 0 (.slice ad2 vs.length cap2)) (fun j _ hj _ e => by cases e; omega)
          have hg2 := hg1.grown (row := some h) (grown_set0 _ h 0 (.int .i64 c)) (fun j _ hj _ e => by cases e; omega)
          have hbW2 := (hbW.setCell (p := ⟨g, 0, none⟩) hzz.1 (.slice ad2 vs.length cap2)).setCell (p := ⟨h, 0, none⟩) (by show _ ≤ h; omega) (.int .i64 c)
          have kc : ((W5.setCell ⟨g, 0, none⟩ (.slice ad2 vs.length cap2)).setCell ⟨h, 0, none⟩ (.int .i64 c)).cell? ⟨g, 0, none⟩ = some (.slice ad2 vs.length cap2) := (World.cell?_setCell_other _ _ _ _ (by intro e; exact hhg (congrArg Addr.block e))).trans (World.cell?_setCell_same _ _ _ kW)
          have hc : ((W5.setCell ⟨g, 0, none⟩ (.slice ad2 vs.length cap2)).setCell ⟨h, 0, none⟩ (.int .i64 c)).cell? ⟨h, 0, none⟩ = some (.int .i64 c) := World.cell?_setCell_same _ _ _ ((World.cell?_setCell_other _ _ _ _ (by intro e; exact hgh (congrArg Addr.block e))).trans hW)
          refine ⟨_, rfl, (hbk _ (by omega) (by omega)).trans hK, ?_⟩
          generalize (W5.setCell ⟨g, 0, none⟩ (.slice ad2 vs.length cap2)).setCell ⟨h, 0, none⟩ (.int .i64 c) = W3 at *
          have hgp : W3.grownBy (W3.putObj wl.heap.size (.deferred none)) (some wl.heap.size) := ⟨rfl, rfl, rfl, by simp, fun k _ hk => World.putObj_heap_other (fun e => hk (by rw [e]))⟩
          exact ⟨(World.cell?_of_block (World.putObj_heap_other (fun e => by have e2 : g = wl.heap.size := e; omega))).trans kc, (World.cell?_of_block (World.putObj_heap_other (fun e => by have e2 : h = wl.heap.size := e; omega))).trans hc, vs, c, hrel, ⟨ad2, cap2, rfl, (hg2.grown hgp (fun j _ hj _ e => by cases e; omega)).mono (by omega), hrm2⟩, hbW2.grown hgp hbW2.size (fun j e => by cases e; omega)⟩
        cases vb with
        | true =>
          have hvv := HVB.out.1 rfl
          obtain ⟨W3, hW3, hK3, kc, hc, hpost⟩ := fin us 0 ad cap (.inr ⟨HVT.out, HVU.out, .inr ⟨HNB.out, us, hAR, .inr ⟨hvv, rfl, rfl⟩⟩⟩) hcl hrm
          have HP : Keep _ := ⟨hpost⟩
          clear fin hcl hbW hpost hvt hAR hzu hvb hrm
          gi_wp2
          rw [← hW3]
          refine ⟨by simp, .inl ⟨_, _, rfl, run_takeDeferred hK3, ?_⟩⟩
          refine ⟨_, ?_, HP.out⟩
          simp [results, Try.f15, go_sem, TreeV, kc, hc]
        | false =>
          have hvv : ¬ ValidTs us := fun h => by have := HVB.out.2 h; cases this
          obtain ⟨W3, hW3, hK3, kc, hc, hpost⟩ := fin [] 3 none 0 (.inr ⟨HVT.out, HVU.out, .inr ⟨HNB.out, us, hAR, .inl ⟨hvv, rfl, rfl⟩⟩⟩) (EL.nil _ _ _) (Nat.le_refl _)
          have HP : Keep _ := ⟨hpost⟩
          replace hW3 : W3 = (W5.setCell ⟨g, 0, none⟩ (.slice none 0 0)).setCell ⟨h, 0, none⟩ (.int .i64 3) := hW3
          clear fin hcl hbW hpost hvt hAR hzu hvb hrm
          gi_wp2
          rw [← hW3]
          refine ⟨by simp, .inl ⟨_, _, rfl, run_takeDeferred hK3, ?_⟩⟩
          refine ⟨_, ?_, HP.out⟩
          simp [results, Try.f15, go_sem, TreeV, kc, hc]
      case stop =>
        rintro pre W hpre ⟨⟨x, hx, hcl⟩, hb, c1, c2⟩ hK
        have hcn : ∃ c ∈ qs, sameF (atL ps c.path) c.old = false := (bad_iff HVT.out HVU.out).1 ⟨x, hpre.subset hx, hcl⟩
        clear wsz
        gi_wp2
        refine ⟨by simp, .inl ⟨_, _, rfl, run_takeDeferred hK, ?_⟩⟩
        have hgp : W.grownBy (W.putObj wl.heap.size (.deferred none)) (some wl.heap.size) := ⟨rfl, rfl, rfl, by simp, fun k _ hk => World.putObj_heap_other (fun e => hk (by rw [e]))⟩
        have kc : (W.putObj wl.heap.size (.deferred none)).cell? ⟨g, 0, none⟩ = some (.slice none 0 0) := (World.cell?_of_block (World.putObj_heap_other (fun e => by have := HL.out; have e2 : g = wl.heap.size := e; omega))).trans c1
        have hc : (W.putObj wl.heap.size (.deferred none)).cell? ⟨h, 0, none⟩ = some (.int .i64 2) := (World.cell?_of_block (World.putObj_heap_other (fun e => by have := HL.out; have e2 : h = wl.heap.size := e; omega))).trans c2
        refine ⟨TreeV none ([] : List En).length 0 2, ?_, [], 2, .inr ⟨HVT.out, HVU.out, .inl ⟨hcn, rfl, rfl⟩⟩, ⟨none, 0, rfl, EL.nil _ _ _, Nat.le_refl _⟩, hb.grown hgp hb.size (fun j e => by have := HL.out; cases e; omega)⟩
        simp [results, Try.f15, go_sem, TreeV, kc, hc]
theorem implApply_any (a b : Option Addr) (ca cb : Nat) (ps : List En) (qs : List Ch) (w : World) (hps : ES w a ps) (hqs : CS w b qs) (hn : ps.length ≤ 1048576) (hnb : qs.length ≤ 1048576) (hca : ps.length ≤ ca) (hcb : qs.length ≤ cb) (hz : ∀ c ∈ ps, c.path.size ≤ 1048576) (hzb : ∀ c ∈ qs, c.path.size ≤ 1048576) :
    Calls Try.prog 15 #[.agg #[.slice a ps.length ca], .agg #[.slice b qs.length cb]] w fun e w' => ApplyPost ps qs w e w' :=
  (implApplyC_any a b ca cb ps qs w hps hqs hn hnb hca hcb hz hzb).mono (fun _ _ ⟨us, c, h1, ⟨ad, cap, h2, h3, _⟩, h4⟩ => ⟨us, c, h1, ⟨ad, cap, h2, h3⟩, h4⟩)
end Go.Proofs.Ytockgapdfcapnaa
