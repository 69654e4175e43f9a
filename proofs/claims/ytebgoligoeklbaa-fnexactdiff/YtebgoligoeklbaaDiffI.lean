/-
  impl.Diff.
-/
import Derived.Test.YtebgoligoeklbaaDiffP
import Derived.Test.YtebgoligoeklbaaRangeI
import Derived.Test.YtebgoligoeklbaaDfF
import Derived.Test.YtebgoligoeklbaaRegV
import Derived.Test.YtebgoligoeklbaaChgI
import Derived.Test.YtebgoligoeklbaaChgN
import Derived.Test.YtebgoligoeklbaaImplTree
namespace Go.Proofs.Ytebgoligoeklbaa
open Go.RowKit Go.Shelf

attribute [local go_sem] Oper.semAt_some

theorem sideE_iter (Ba Bb : Nat) (a b : Option Addr) (ca cb : Nat) (ts us : List En) (hca : ts.length ≤ ca) (hcb : us.length ≤ cb) (hnt : ts.length ≤ 1048576) (hnu : us.length ≤ 1048576) :
    Iter 56 #[.pointer (some ⟨Ba, 0, none⟩), .pointer (some ⟨Bb, 0, none⟩)] yE (mrgE ts us) (sideMemE Ba Bb a b ca cb ts us) :=
  fun n l J Jx W hM hJ hY h0 => sideE1_in n l Ba Bb a b ca cb ts us hca hcb hnt hnu J Jx W hM hJ hY h0

theorem OutCh.put {h l : Nat} {W0 W : World} {v : Value} {us : List Ch} (s : OutCh h W0 v us W) (o : Obj) (hl : l < W0.heap.size) (hne : l ≠ h) : OutCh h (W0.putObj l o) v us (W.putObj l o) := by
  have hb : ∀ (X : World) (k : Nat), k ≠ l → (X.putObj l o).heap[k]? = X.heap[k]? := fun X k hk => World.putObj_heap_other hk
  have hh := hb W h (fun e => hne e.symm)
  have hg : W.grownBy (W.putObj l o) (some l) := ⟨rfl, rfl, rfl, by simp, fun k _ hk => hb W k (fun e => hk (by rw [e]))⟩
  have hlW := Nat.lt_of_lt_of_le hl s.grown.size
  refine ⟨(World.cell?_of_block hh).trans s.cell, frozen_of hh s.fz, ?_, ⟨s.grown.os, s.grown.tape, s.grown.output, by simpa using s.grown.size, fun k hk hkh => ?_⟩, by simpa using s.lt⟩
  · have h1 := s.row.kept hg (Or.inr (fun e => by have := owns_row_ge s.row e; omega))
    simpa using h1
  · have hk' : k < W0.heap.size := by simpa using hk
    by_cases e : k = l
    · subst e
      rw [World.putObj_heap_same hlW, World.putObj_heap_same hl]
    · rw [hb W k e, hb W0 k e]
      exact s.grown.block k hk' hkh

structure EBox (b : Nat) (e : En) (W : World) : Prop where
  c0 : W.cell? ⟨b, 0, none⟩ = some (.string e.path)
  c1 : W.cell? ⟨b, 1, none⟩ = some (.string e.text)
  c2 : W.cell? ⟨b, 2, none⟩ = some (.bool e.runs)

theorem EBox.put {b l : Nat} {e : En} {W : World} (h : EBox b e W) (o : Obj) (hl : l ≠ b) : EBox b e (W.putObj l o) := by
  have hb : (W.putObj l o).heap[b]? = W.heap[b]? := World.putObj_heap_other (fun e => hl e.symm)
  exact ⟨(World.cell?_of_block hb).trans h.c0, (World.cell?_of_block hb).trans h.c1, (World.cell?_of_block hb).trans h.c2⟩
theorem EBox.later {b : Nat} {e : En} {W W' : World} (h : EBox b e W) (hb : Below W.heap.size W W') : EBox b e W' := ⟨cell_later hb h.c0, cell_later hb h.c1, cell_later hb h.c2⟩

def DfI (wl : World) (ob : Nat) (pre : List PE) (W : World) : Prop :=
  ∃ Wz v, Wz.heap.size = wl.heap.size + 2 ∧ Below wl.heap.size wl Wz ∧ OutCh ob Wz v (outsE pre) W

theorem chg_out (ob : Nat) (Wz : World) (v : Value) (us : List Ch) (x y : En) (w : World) (hst : OutCh ob Wz v us w) (hul : us.length ≤ 1048576) (hp : (orP x y).size ≤ 1048576) (hx : (fileE x).text.size ≤ 1048576) (hy : (fileE y).text.size ≤ 1048576) :
    Calls Try.prog 26 #[.pointer (some ⟨ob, 0, none⟩), .string (orP x y), flV (fileE x), flV (fileE y)] w fun e w' => e = .returned (.tuple #[]) ∧ ∃ v', OutCh ob Wz v' (us ++ outC x y) w' := by
  unfold outC
  cases hs : sameF (fileE x) (fileE y) with
  | true =>
    refine (change_none ob (orP x y) (fileE x) (fileE y) w hs).mono ?_
    rintro e w' ⟨rfl, hb⟩
    exact ⟨rfl, v, by simpa using hst.later hb⟩
  | false =>
    refine (change_any ob Wz v us ⟨orP x y, fileE x, fileE y⟩ w hst hul hs (by show (orP x y).size ≤ _; omega) (by show (fileE x).text.size ≤ _; omega) (by show (fileE y).text.size ≤ _; omega)).mono ?_
    rintro e w' ⟨rfl, ad, cap, h⟩
    exact ⟨rfl, _, by simpa using h⟩

theorem mrgE_is {ts us : List En} (ht : ValidTs ts) (hu : ValidTs us) : mrgE ts us = (pathsL [ts, us]).map fun p => (p, fnd En.path ts p, fnd En.path us p) := by
  have h1 := addP_asc (l := []) List.Pairwise.nil ts
  have h2 := addP_asc h1.1 us
  have hmem : ∀ p, p ∈ pathsL [ts, us] ↔ (∃ x ∈ ts, En.path x = p) ∨ ∃ y ∈ us, En.path y = p := fun p => by
    show p ∈ addP (addP [] ts) us ↔ _
    rw [h2.2, h1.2]
    simp
  exact mrg_eq En.path En.path (ts.length + us.length) ts us (pathsL [ts, us]) (Nat.le_refl _) (valid_asc ht) (valid_asc hu) h2.1 hmem
theorem mrg_len {α β : Type} (pa : α → ByteArray) (pb : β → ByteArray) : ∀ (n : Nat) (ts : List α) (us : List β), (mrg pa pb n ts us).length ≤ n
  | 0, _, _ => by simp [mrg]
  | n + 1, [], [] => by simp [mrg]
  | n + 1, [], y :: us => by have := mrg_len pa pb n [] us; simp only [mrg, List.length_cons]; omega
  | n + 1, x :: ts, [] => by have := mrg_len pa pb n ts []; simp only [mrg, List.length_cons]; omega
  | n + 1, x :: ts, y :: us => by
    have h1 := mrg_len pa pb n ts (y :: us)
    have h2 := mrg_len pa pb n (x :: ts) us
    have h3 := mrg_len pa pb n ts us
    simp only [mrg]
    split
    · simp only [List.length_cons]; omega
    · split
      · simp only [List.length_cons]; omega
      · simp only [List.length_cons]; omega
theorem outsE_len (pre : List PE) : (outsE pre).length ≤ pre.length := by
  induction pre with
  | nil => simp [outsE]
  | cons x pre ih =>
    have h1 : outsE (x :: pre) = outC (x.2.1.getD zeroE) (x.2.2.getD zeroE) ++ outsE pre := by simp [outsE]
    have h2 : (outC (x.2.1.getD zeroE) (x.2.2.getD zeroE)).length ≤ 1 := by unfold outC; split <;> simp
    rw [h1, List.length_append, List.length_cons]
    omega
theorem getD_ok {ts : List En} (h : ValidTs ts) (hz : ∀ e ∈ ts, e.path.size ≤ 1048576) (p : ByteArray) : ((fnd En.path ts p).getD zeroE).path.size ≤ 1048576 ∧ (fileE ((fnd En.path ts p).getD zeroE)).text.size ≤ 1048576 := by
  cases hf : fnd En.path ts p with
  | none => exact ⟨by simp [zeroE, ByteArray.size], by simp [zeroE, fileE, ByteArray.size]⟩
  | some e =>
    have he := (fnd_some hf).1
    have h1 := valid_en h he
    simp only [enOk, Bool.and_eq_true, decide_eq_true_eq] at h1
    exact ⟨hz e he, by show e.text.size ≤ _; omega⟩

def dfBase (ob B : Nat) : Nat → Option Value
  | 5 => some (.pointer (some ⟨ob, 0, none⟩))
  | 6 => some (.pointer (some ⟨B, 0, none⟩))
  | 7 => some (.pointer (some ⟨B + 1, 0, none⟩))
  | _ => none
def dfTab (B : Nat) (X Y : En) : Nat → Option Value
  | 0 => some (.pointer (some ⟨B, 0, none⟩))
  | 1 => some (.string X.path)
  | 2 => some (.pointer (some ⟨B + 1, 0, none⟩))
  | 3 => some (.string Y.path)
  | 5 => some (.string (orP X Y))
  | 6 => some (.agg #[.string X.path, .string X.text, .bool X.runs])
  | 7 => some (.agg #[.bool (fileE X).there, .string (fileE X).text, .bool (fileE X).runs])
  | 8 => some (.agg #[.string Y.path, .string Y.text, .bool Y.runs])
  | 9 => some (.agg #[.bool (fileE Y).there, .string (fileE Y).text, .bool (fileE Y).runs])
  | _ => none
/-- Where the round's region stands. -/
structure DfV (W : World) (B ob : Nat) (X Y : En) (E : World → Prop) (L : Array Bool) (a : Act) (w : World) : Prop where
  sl : Sl 36 24 (dfBase ob B) (dfTab B X Y) L a
  wd : L.getD 10 false = false → ∃ z : Later W, w = z.world
  sc : L.getD 4 false = true → L.getD 10 false = false → ∃ b, a.eval (.tmp 28) = .slice (some ⟨b, 0, none⟩) 2 2 ∧ w.cell? ⟨b, 0, none⟩ = some (.string X.path) ∧ w.cell? ⟨b, 1, none⟩ = some (.string Y.path)
  fin : L.getD 10 false = true → E w

theorem evalD {a : Act} {k : Nat} {v : Value} (h : a.eval (.tmp k) = v) : a.tmps[k]?.getD undef = v := by
  rw [← Array.getD_eq_getD_getElem?]; exact h

theorem DfV.step {W : World} {B ob : Nat} {X Y : En} {E : World → Prop} {L : Array Bool} {a : Act} {z z' : Later W} (h : DfV W B ob X Y E L a z.world) {i : Nat} {v : Value} (hi : i < 10) (hi4 : i ≠ 4) (h10 : L.getD 10 false = false) (ht : dfTab B X Y i = some v) (hb : Below z.world.heap.size z.world z'.world) :
    DfV W B ob X Y E (L.setIfInBounds i true) (a.put (some (24 + i)) v) z'.world := by
  have g10 : (L.setIfInBounds i true).getD 10 false = false := by rw [getD_set_ne false (by omega)]; exact h10
  refine ⟨h.sl.put (by omega) (fun u hu => by rw [ht] at hu; cases hu; rfl), fun _ => ⟨z', rfl⟩, fun h4 _ => ?_, fun h => by rw [g10] at h; cases h⟩
  rw [getD_set_ne false (by omega)] at h4
  obtain ⟨b, h1, h2, h3⟩ := h.sc h4 h10
  exact ⟨b, by rw [Act.eval_put (fun d hd => by cases hd; intro e'; injection e' with e'; have e2 : 28 = 24 + i := e'; omega)]; exact h1, cell_later hb h2, cell_later hb h3⟩
theorem DfV.build {W : World} {B ob : Nat} {X Y : En} {E : World → Prop} {L : Array Bool} {a : Act} {z : Later W} {t : TypeId} (h : DfV W B ob X Y E L a z.world) (h10 : L.getD 10 false = false) :
    DfV W B ob X Y E (L.setIfInBounds 4 true) (a.put (some 28) (.slice (some ⟨z.world.heap.size, 0, none⟩) 2 2)) (z.world.alloc (.cells #[.string X.path, .string Y.path] t)) := by
  have g10 : (L.setIfInBounds 4 true).getD 10 false = false := by rw [getD_set_ne false (by omega)]; exact h10
  refine ⟨h.sl.put (i := 4) (by omega) (fun u hu => by cases hu), fun _ => ⟨⟨_, z.kept.alloc z.kept.size _⟩, rfl⟩, fun h4 _ => ⟨z.world.heap.size, ?_, by simp, by simp⟩, fun h => by rw [g10] at h; cases h⟩
  show ((a.tmps.setIfInBounds 28 _).getD 28 undef) = _
  rw [Array.getD_eq_getD_getElem?, Array.getElem?_setIfInBounds_self_of_lt (by rw [h.sl.sz]; omega)]
  rfl
theorem DfV.last {W : World} {B ob : Nat} {X Y : En} {E : World → Prop} {L : Array Bool} {a : Act} {w w' : World} {v : Value} (h : DfV W B ob X Y E L a w) (hE : E w') (hL : L.getD 10 true = false) :
    DfV W B ob X Y E (L.setIfInBounds 10 true) (a.put (some 34) v) w' := by
  have g10 : (L.setIfInBounds 10 true).getD 10 false = true := by
    have h1 := getD_false hL
    have h2 : 10 < L.size := by simpa using (List.getElem?_eq_some_iff.1 h1).1
    rw [Array.getD_eq_getD_getElem?, Array.getElem?_setIfInBounds_self_of_lt h2]
    rfl
  exact ⟨h.sl.put (i := 10) (by omega) (fun u hu => by cases hu), (fun h => by rw [g10] at h; cases h), (fun _ h => by rw [g10] at h; cases h), fun _ => hE⟩

set_option maxRecDepth 100000 in
set_option maxHeartbeats 40000000 in
theorem implDiff_any (a b : Option Addr) (ca cb : Nat) (ts us : List En) (w : World) (hts : ES w a ts) (hus : ES w b us) (hn : ts.length ≤ 1048576) (hnb : us.length ≤ 1048576) (hca : ts.length ≤ ca) (hcb : us.length ≤ cb) (hz : ∀ e ∈ ts, e.path.size ≤ 1048576) (hzb : ∀ e ∈ us, e.path.size ≤ 1048576) :
    Calls Try.prog 15 #[.agg #[.slice a ts.length ca], .agg #[.slice b us.length cb]] w fun e w' => DiffPost ts us w e w' := by
  have hal : Below w.heap.size w (((w.alloc (.cells #[.slice a ts.length ca] 42)).alloc (.cells #[.slice b us.length cb] 42)).alloc (.cells #[.slice none 0 0] 28)) := (((Below.refl _ _).alloc (Nat.le_refl _) _).alloc (by simp) _).alloc (by simp; omega) _
  have m0 : (((w.alloc (.cells #[.slice a ts.length ca] 42)).alloc (.cells #[.slice b us.length cb] 42)).alloc (.cells #[.slice none 0 0] 28)).cell? ⟨w.heap.size, 0, none⟩ = some (.slice a ts.length ca) := by simp [go_sem]
  have m1 : (((w.alloc (.cells #[.slice a ts.length ca] 42)).alloc (.cells #[.slice b us.length cb] 42)).alloc (.cells #[.slice none 0 0] 28)).cell? ⟨w.heap.size + 1, 0, none⟩ = some (.slice b us.length cb) := by simp [go_sem]
  have k0 : (((w.alloc (.cells #[.slice a ts.length ca] 42)).alloc (.cells #[.slice b us.length cb] 42)).alloc (.cells #[.slice none 0 0] 28)).cell? ⟨w.heap.size + 1 + 1, 0, none⟩ = some (.slice none 0 0) := by simp [go_sem]
  have kf : (((w.alloc (.cells #[.slice a ts.length ca] 42)).alloc (.cells #[.slice b us.length cb] 42)).alloc (.cells #[.slice none 0 0] 28)).frozen? ⟨w.heap.size + 1 + 1, 0, none⟩ = false := by simp [go_sem]
  have os0 : w.heap.size + 1 + 1 < (((w.alloc (.cells #[.slice a ts.length ca] 42)).alloc (.cells #[.slice b us.length cb] 42)).alloc (.cells #[.slice none 0 0] 28)).heap.size := by simp [go_sem]
  refine (callsIn_wide (n := 5)).1 ?_
  refine callsIn_of_wp_marks Try.func15 rfl trivial ?_ rfl
  simp only [Try.ntmps15, List.size_toArray, List.length_cons, List.length_nil, Nat.reduceAdd, Nat.reduceSub, Array.replicate_succ, Array.replicate_zero, List.push_toArray, List.append_toArray, List.nil_append, List.cons_append]
  gi_wp2_with fail
  refine ⟨trivial, ?_⟩
  refine (callsIn_wide.2 (implTree_any a ca ts _ (hts.below hal) hn hz)).mono ?_
  rintro e w1 ⟨vb, rfl, hvb, hb1⟩
  replace m0 := cell_later hb1 m0
  replace m1 := cell_later hb1 m1
  replace k0 := cell_later hb1 k0
  replace kf : w1.frozen? ⟨w.heap.size + 1 + 1, 0, none⟩ = false := (hb1.frozen (p := ⟨w.heap.size + 1 + 1, 0, none⟩) os0).trans kf
  have os1 : w.heap.size + 1 + 1 < w1.heap.size := Nat.lt_of_lt_of_le os0 hb1.size
  have hbw := hal.trans (hb1.mono hal.size)
  have HV : Keep (vb = true ↔ ValidTs ts) := ⟨hvb⟩
  clear hvb hb1 hal os0
  obtain ⟨ta, hta⟩ : ∃ x, x = w.heap.size := ⟨_, rfl⟩
  obtain ⟨tb, htb⟩ : ∃ x, x = w.heap.size + 1 := ⟨_, rfl⟩
  obtain ⟨g, hg⟩ : ∃ x, x = w.heap.size + 1 + 1 := ⟨_, rfl⟩
  rw [← hg] at k0 kf ⊢
  rw [← htb] at m1 ⊢
  rw [← hta] at m0 ⊢
  have HS : Keep (ta = w.heap.size ∧ tb = ta + 1 ∧ g = tb + 1 ∧ g < w1.heap.size) := ⟨by omega⟩
  clear hta htb hg os1
  have HNO : Keep (∀ X : World, Below w.heap.size w X → ¬ (ValidTs ts ∧ ValidTs us) → X.cell? ⟨g, 0, none⟩ = some (.slice none 0 0) → DiffPost ts us w (.returned (.agg #[.slice none ([] : List Ch).length 0])) (X.setCell ⟨g, 0, none⟩ (.slice none 0 0))) := ⟨fun X hX hnv hc => ⟨[], .inr ⟨hnv, rfl⟩, ⟨none, 0, rfl, CL.nil _ _ _⟩, hX.setCell (p := ⟨g, 0, none⟩) (by have := HS.out; show _ ≤ g; omega) _⟩⟩
  cases vb with
  | false =>
    have hnv : ¬ (ValidTs ts ∧ ValidTs us) := fun h => by have := HV.out.2 h.1; cases this
    gi_wp2
    refine ⟨trivial, ?_⟩
    gi_wp2
    refine ⟨.agg #[.slice none ([] : List Ch).length 0], ?_, HNO.out _ hbw hnv k0⟩
    simp [results, Try.f15, go_sem, k0]
  | true =>
    have HVT : Keep (ValidTs ts) := ⟨HV.out.1 rfl⟩
    gi_wp2_with fail
    refine ⟨trivial, ?_⟩
    refine (callsIn_wide.2 (implTree_any b cb us _ (hus.below hbw) hnb hzb)).mono ?_
    rintro e w2 ⟨vb, rfl, hvb, hb2⟩
    have HV2 : Keep (vb = true ↔ ValidTs us) := ⟨hvb⟩
    replace m0 := cell_later hb2 m0
    replace m1 := cell_later hb2 m1
    replace k0 := cell_later hb2 k0
    replace kf : w2.frozen? ⟨g, 0, none⟩ = false := (hb2.frozen (p := ⟨g, 0, none⟩) HS.out.2.2.2).trans kf
    have HS2 : Keep (ta = w.heap.size ∧ tb = ta + 1 ∧ g = tb + 1 ∧ g < w2.heap.size) := ⟨by have := HS.out; have := hb2.size; omega⟩
    replace hbw := hbw.trans (hb2.mono hbw.size)
    clear hvb hb2 HS HV
    cases vb with
    | false =>
      have hnv : ¬ (ValidTs ts ∧ ValidTs us) := fun h => by have := HV2.out.2 h.2; cases this
      gi_wp2
      refine ⟨.agg #[.slice none ([] : List Ch).length 0], ?_, HNO.out _ hbw hnv k0⟩
      simp [results, Try.f15, go_sem, k0]
    | true =>
      have HVU : Keep (ValidTs us) := ⟨HV2.out.1 rfl⟩
      have hal2 : Below w2.heap.size w2 (w2.alloc (.cells #[.slice none 0 0] 28)) := (Below.refl _ _).alloc (Nat.le_refl _) _
      replace m0 := cell_later hal2 m0
      replace m1 := cell_later hal2 m1
      have ob0 : (((w2.alloc (.cells #[.slice none 0 0] 28)).alloc (.cells #[.slice a ts.length ca] 40)).alloc (.cells #[.slice b us.length cb] 40)).cell? ⟨w2.heap.size, 0, none⟩ = some (.slice none 0 0) := by simp [go_sem]
      have of0 : (((w2.alloc (.cells #[.slice none 0 0] 28)).alloc (.cells #[.slice a ts.length ca] 40)).alloc (.cells #[.slice b us.length cb] 40)).frozen? ⟨w2.heap.size, 0, none⟩ = false := by simp [go_sem]
      have ma : (((w2.alloc (.cells #[.slice none 0 0] 28)).alloc (.cells #[.slice a ts.length ca] 40)).alloc (.cells #[.slice b us.length cb] 40)).cell? ⟨w2.heap.size + 1, 0, none⟩ = some (.slice a ts.length ca) := by simp [go_sem]
      have mb : (((w2.alloc (.cells #[.slice none 0 0] 28)).alloc (.cells #[.slice a ts.length ca] 40)).alloc (.cells #[.slice b us.length cb] 40)).cell? ⟨w2.heap.size + 1 + 1, 0, none⟩ = some (.slice b us.length cb) := by simp [go_sem]
      have wsz : (((w2.alloc (.cells #[.slice none 0 0] 28)).alloc (.cells #[.slice a ts.length ca] 40)).alloc (.cells #[.slice b us.length cb] 40)).heap.size = w2.heap.size + 3 := by simp [go_sem]
      have hb3 : Below w2.heap.size w2 (((w2.alloc (.cells #[.slice none 0 0] 28)).alloc (.cells #[.slice a ts.length ca] 40)).alloc (.cells #[.slice b us.length cb] 40)) := (((Below.refl _ _).alloc (Nat.le_refl _) _).alloc (by simp) _).alloc (by simp; omega) _
      gi_wp2_with (refine ⟨trivial, ?_⟩; gi_at_call 36; refine (callsIn_wide.2 (sideE_any a b ts.length us.length ca cb _)).mono ?_; rintro e w' ⟨rfl, rfl⟩)
      generalize hwl : (((w2.alloc (.cells #[.slice none 0 0] 28)).alloc (.cells #[.slice a ts.length ca] 40)).alloc (.cells #[.slice b us.length cb] 40)) = wl at *
      clear hwl
      have hbl := hbw.trans (hb3.mono hbw.size)
      have kl := cell_later hb3 k0
      have kfl : wl.frozen? ⟨g, 0, none⟩ = false := (hb3.frozen (p := ⟨g, 0, none⟩) HS2.out.2.2.2).trans kf
      obtain ⟨ob, hob⟩ : ∃ ob, ob = w2.heap.size := ⟨_, rfl⟩
      rw [← hob] at ob0 of0 ma mb wsz HS2 ⊢
      have HL : Keep (ta = w.heap.size ∧ tb = ta + 1 ∧ g = tb + 1 ∧ g < ob ∧ wl.heap.size = ob + 3) := ⟨by have := HS2.out; omega⟩
      have hI0 : ∀ o1 o2, DfI wl ob [] ((wl.alloc o1).alloc o2) := fun o1 o2 => by
        have hb : Below wl.heap.size wl ((wl.alloc o1).alloc o2) := ((Below.refl _ _).alloc (Nat.le_refl _) _).alloc (by simp) _
        exact ⟨_, _, by simp, hb, OutCh.start (cell_later hb ob0) ((hb.frozen (p := ⟨ob, 0, none⟩) (by show ob < _; omega)).trans of0) (by simp; omega)⟩
      clear hb3 hob k0 kf m0 m1 HS2 HV2 hbw hal2
      refine range_iter (sideE_iter (ob + 1) (ob + 1 + 1) a b ca cb ts us hca hcb hn hnb) (enters_of Try.func56 (by kernel_rfl) rfl) (n := 5) (by omega) rfl (fun x => rfl) (DfI wl ob) (fun _ _ => False)
        (fun pre W ⟨Wz, v, hz1, hz2, hst⟩ => ⟨hst.keep (cell_later hz2 ma) (by omega) (by omega), hst.keep (cell_later hz2 mb) (by omega) (by omega), hts.below (hst.below (hbl.trans (hz2.mono hbl.size)) (by have := HL.out; omega)), hus.below (hst.below (hbl.trans (hz2.mono hbl.size)) (by have := HL.out; omega))⟩)
        (fun pre W W' ⟨Wz, v, hz1, hz2, hst⟩ hb => ⟨Wz, v, hz1, hz2, hst.later hb⟩)
        (fun pre W l o hl ⟨Wz, v, hz1, hz2, hst⟩ => ⟨Wz.putObj l o, v, by simpa using hz1, hz2.grown (row := some l) ⟨rfl, rfl, rfl, by simp, fun k _ hk => World.putObj_heap_other (fun e => hk (by rw [e]))⟩ hz2.size (fun j e => by cases e; omega), hst.put o (by omega) (by omega)⟩)
        (fun _ _ _ _ _ h => h.elim) hI0
        (fun x B a' W => a' = { tmps := #[.agg #[.slice a ts.length ca], .agg #[.slice b us.length cb], .pointer (some ⟨ta, 0, none⟩), .pointer (some ⟨tb, 0, none⟩), .pointer (some ⟨g, 0, none⟩), .pointer (some ⟨ob, 0, none⟩), .pointer (some ⟨B, 0, none⟩), .pointer (some ⟨B + 1, 0, none⟩), .agg #[.slice a ts.length ca], .bool true, .bool false, .bool false, .agg #[.slice b us.length cb], .bool true, .bool false, .bool false, undef, .pointer (some ⟨ta, 0, none⟩), .slice a ts.length ca, .pointer (some ⟨tb, 0, none⟩), .slice b us.length cb, .func (.func 56) #[] #[.pointer (some ⟨ob + 1, 0, none⟩), .pointer (some ⟨ob + 1 + 1, 0, none⟩)], cutEV (x.2.1.getD zeroE), cutEV (x.2.2.getD zeroE), undef, undef, undef, undef, undef, undef, undef, undef, undef, undef, undef, undef], defers := [] } ∧ EBox B (x.2.1.getD zeroE) W ∧ EBox (B + 1) (x.2.2.getD zeroE) W)
        (fun x B a' W l o hl ⟨h1, h2, h3⟩ => ⟨h1, h2.put o (by omega), h3.put o (by omega)⟩) ?assign ?body ?done ?stop
      case assign =>
        intro l x W K hK
        unfold yE cutEV
        gi_wp2
        exact hK _ _ (((Below.refl _ _).alloc (Nat.le_refl _) _).alloc (by simp) _) ⟨rfl, ⟨by simp [go_sem], by simp [go_sem], by simp [go_sem]⟩, ⟨by simp [go_sem], by simp [go_sem], by simp [go_sem]⟩⟩
      case body =>
        rintro l pre x a' B W ⟨Wz, v, hz1, hz2, hst⟩ ⟨r, hr⟩ hB1 hB2 ⟨rfl, hx, hy⟩
        have hul : (outsE pre).length ≤ 1048576 := by
          have h1 := outsE_len pre
          have h2 := congrArg List.length hr
          have h3 := mrg_len En.path En.path (ts.length + us.length) ts us
          have h4 := HVT.out.1
          have h5 := HVU.out.1
          simp only [List.length_append] at h2
          unfold mrgE at h2
          omega
        obtain ⟨q, hq1, hq2⟩ : ∃ q, x.2.1 = fnd En.path ts q ∧ x.2.2 = fnd En.path us q := by
          have hm : x ∈ mrgE ts us := by rw [hr]; simp
          rw [mrgE_is HVT.out HVU.out] at hm
          obtain ⟨q, _, rfl⟩ := List.mem_map.1 hm
          exact ⟨q, rfl, rfl⟩
        have hzx := getD_ok HVT.out hz q
        have hzy := getD_ok HVU.out hzb q
        rw [← hq1] at hzx
        rw [← hq2] at hzy
        clear hq1 hq2 q
        have HT : Keep (outsE (pre ++ [x]) = outsE pre ++ outC (x.2.1.getD zeroE) (x.2.2.getD zeroE)) := ⟨outsE_snoc pre x⟩
        generalize x.2.1.getD zeroE = X at *
        generalize x.2.2.getD zeroE = Y at *
        have hor : (orP X Y).size ≤ 1048576 := by unfold orP; split; exact hzy.1; exact hzx.1
        have HCh : Keep (∀ (k : Nat) (z : Later W), CallsIn (Fence.wide.inRound l) k Try.prog 26 #[.pointer (some ⟨ob, 0, none⟩), .string (orP X Y), .agg #[.bool (fileE X).there, .string (fileE X).text, .bool (fileE X).runs], .agg #[.bool (fileE Y).there, .string (fileE Y).text, .bool (fileE Y).runs]] z.world fun e w' => e = .returned (.tuple #[]) ∧ ∃ v', OutCh ob Wz v' (outsE pre ++ outC X Y) w') := ⟨fun k z => CallsIn.inRound l (callsIn_wide.2 (chg_out ob Wz v (outsE pre) X Y z.world (hst.later z.kept) hul hor hzx.2 hzy.2))⟩
        have HFX : Keep (∀ (k : Nat) (z : Later W), CallsIn (Fence.wide.inRound l) k Try.prog 38 #[.agg #[.string X.path, .string X.text, .bool X.runs]] z.world fun e w' => e = .returned (.agg #[.bool (fileE X).there, .string (fileE X).text, .bool (fileE X).runs]) ∧ ∃ y : Later W, w' = y.world ∧ Below z.world.heap.size z.world y.world) := ⟨fun k z => CallsIn.inRound l (callsIn_wide.2 ((fileE_any X z.world).mono (fun e w' h => ⟨h.1, ⟨w', z.kept.trans (h.2.mono z.kept.size)⟩, rfl, h.2⟩)))⟩
        have HFY : Keep (∀ (k : Nat) (z : Later W), CallsIn (Fence.wide.inRound l) k Try.prog 38 #[.agg #[.string Y.path, .string Y.text, .bool Y.runs]] z.world fun e w' => e = .returned (.agg #[.bool (fileE Y).there, .string (fileE Y).text, .bool (fileE Y).runs]) ∧ ∃ y : Later W, w' = y.world ∧ Below z.world.heap.size z.world y.world) := ⟨fun k z => CallsIn.inRound l (callsIn_wide.2 ((fileE_any Y z.world).mono (fun e w' h => ⟨h.1, ⟨w', z.kept.trans (h.2.mono z.kept.size)⟩, rfl, h.2⟩)))⟩
        have HOr : Keep (∀ (k : Nat) (z : Later W) (b : Nat), z.world.cell? ⟨b, 0, none⟩ = some (.string X.path) → z.world.cell? ⟨b, 1, none⟩ = some (.string Y.path) → CallsIn (Fence.wide.inRound l) k Try.prog 37 #[.slice (some ⟨b, 0, none⟩) 2 2] z.world fun e w' => e = .returned (.string (orP X Y)) ∧ ∃ y : Later W, w' = y.world ∧ Below z.world.heap.size z.world y.world) := ⟨fun k z b h1 h2 => CallsIn.inRound l (callsIn_wide.2 ((orS_any b 0 X.path Y.path _ h1 h2).mono (fun e w' h => ⟨h.1, z, h.2, Below.refl _ _⟩)))⟩
        have HE : Keep (∀ v' w', OutCh ob Wz v' (outsE pre ++ outC X Y) w' → TwoB wl.heap.size W w' ∧ DfI wl ob (pre ++ [x]) w') := ⟨fun v' w' h => ⟨⟨(h.grown.block _ (by omega) (fun e => by have := HL.out; cases e; omega)).trans (hst.grown.block _ (by omega) (fun e => by have := HL.out; cases e; omega)).symm, (h.grown.block _ (by omega) (fun e => by have := HL.out; cases e; omega)).trans (hst.grown.block _ (by omega) (fun e => by have := HL.out; cases e; omega)).symm⟩, Wz, v', hz1, hz2, by rw [HT.out]; exact h⟩⟩
        have xz0 := fun z : Later W => (hx.later z.kept).c0
        have xz1 := fun z : Later W => (hx.later z.kept).c1
        have xz2 := fun z : Later W => (hx.later z.kept).c2
        have yz0 := fun z : Later W => (hy.later z.kept).c0
        have yz1 := fun z : Later W => (hy.later z.kept).c1
        have yz2 := fun z : Later W => (hy.later z.kept).c2
        clear hx hy hst hr hul hzx hzy hor HT hI0 ma mb of0 ob0 kl kfl hbl hts hus hz hzb HNO
        gi_wp2
        refine wpIn_region_inv (by kernel_rfl) (by kernel_rfl) (DfV W B ob X Y (fun w' => ∃ v', OutCh ob Wz v' (outsE pre ++ outC X Y) w')) ?_ ?_ ?_
        · refine ⟨⟨rfl, fun k v hk => ?_, fun j v _ hL => ?_⟩, fun _ => ⟨⟨W.drew, (Below.refl _ _).drew⟩, rfl⟩, fun h => ?_, fun h => ?_⟩
          · match k, hk with
            | 5, hk => cases hk; exact ⟨by omega, rfl⟩
            | 6, hk => cases hk; exact ⟨by omega, rfl⟩
            | 7, hk => cases hk; exact ⟨by omega, rfl⟩
          · exfalso; rw [getD_repl] at hL; cases hL
          · exfalso; rw [getD_repl] at h; cases h
          · exfalso; rw [getD_repl] at h; cases h
        · intro L a2 w2 hinv hall
          obtain ⟨v', h'⟩ := hinv.fin (hall 10 (by decide))
          exact HE.out _ _ h'
        · intro L a2 w2 i o hinv hcl hL ho hdep
          have hlt : i < 11 := (Array.getElem?_eq_some_iff.1 ho).1
          have h10 : i ≠ 10 → L.getD 10 false = false := fun hne => by
            cases hb : L.getD 10 false with
            | false => rfl
            | true =>
              exfalso
              have d5 := hcl 10 _ rfl hb ⟨5, .data⟩ (by simp) rfl
              have d7 := hcl 10 _ rfl hb ⟨7, .data⟩ (by simp) rfl
              have d9 := hcl 10 _ rfl hb ⟨9, .data⟩ (by simp) rfl
              have d4 := hcl 5 _ rfl d5 ⟨4, .data⟩ (by simp) rfl
              have d6 := hcl 7 _ rfl d7 ⟨6, .data⟩ (by simp) rfl
              have d8 := hcl 9 _ rfl d9 ⟨8, .data⟩ (by simp) rfl
              have d1 := hcl 4 _ rfl d4 ⟨1, .data⟩ (by simp) rfl
              have d3 := hcl 4 _ rfl d4 ⟨3, .data⟩ (by simp) rfl
              have d0 := hcl 1 _ rfl d1 ⟨0, .data⟩ (by simp) rfl
              have d2 := hcl 3 _ rfl d3 ⟨2, .data⟩ (by simp) rfl
              have hf := getD_ft hL
              match i, hlt, hne, hf with
              | 0, _, _, hf => rw [d0] at hf; cases hf
              | 1, _, _, hf => rw [d1] at hf; cases hf
              | 2, _, _, hf => rw [d2] at hf; cases hf
              | 3, _, _, hf => rw [d3] at hf; cases hf
              | 4, _, _, hf => rw [d4] at hf; cases hf
              | 5, _, _, hf => rw [d5] at hf; cases hf
              | 6, _, _, hf => rw [d6] at hf; cases hf
              | 7, _, _, hf => rw [d7] at hf; cases hf
              | 8, _, _, hf => rw [d8] at hf; cases hf
              | 9, _, _, hf => rw [d9] at hf; cases hf
              | 10, _, hne, _ => exact hne rfl
          have e5 := evalD (hinv.sl.bs 5 _ rfl).2
          have e6 := evalD (hinv.sl.bs 6 _ rfl).2
          have e7 := evalD (hinv.sl.bs 7 _ rfl).2
          unfold wpOpIn
          rw [ho]
          clear hcl
          match i, hlt, hL, ho, hdep, h10 with
          | 0, _, hL, ho, hdep, h10 =>
            injection ho with ho; subst ho
            dsimp only
            rw [if_pos (by rfl)]
            refine ⟨fun f _ => trivial, ?_⟩
            obtain ⟨z, rfl⟩ := hinv.wd (h10 (by omega))
            go_simp
            exact hinv.step (i := 0) (z' := z) (by omega) (by omega) (h10 (by omega)) rfl (Below.refl _ _)
          | 1, _, hL, ho, hdep, h10 =>
            injection ho with ho; subst ho
            dsimp only
            rw [if_pos (by rfl)]
            refine ⟨fun f _ => trivial, ?_⟩
            obtain ⟨z, rfl⟩ := hinv.wd (h10 (by omega))
            have e24 := evalD (hinv.sl.sl 0 _ rfl (hdep ⟨0, .data⟩ (by simp) rfl))
            go_simp
            exact hinv.step (i := 1) (z' := z) (by omega) (by omega) (h10 (by omega)) rfl (Below.refl _ _)
          | 2, _, hL, ho, hdep, h10 =>
            injection ho with ho; subst ho
            dsimp only
            rw [if_pos (by rfl)]
            refine ⟨fun f _ => trivial, ?_⟩
            obtain ⟨z, rfl⟩ := hinv.wd (h10 (by omega))
            go_simp
            exact hinv.step (i := 2) (z' := z) (by omega) (by omega) (h10 (by omega)) rfl (Below.refl _ _)
          | 3, _, hL, ho, hdep, h10 =>
            injection ho with ho; subst ho
            dsimp only
            rw [if_pos (by rfl)]
            refine ⟨fun f _ => trivial, ?_⟩
            obtain ⟨z, rfl⟩ := hinv.wd (h10 (by omega))
            have e26 := evalD (hinv.sl.sl 2 _ rfl (hdep ⟨2, .data⟩ (by simp) rfl))
            go_simp
            exact hinv.step (i := 3) (z' := z) (by omega) (by omega) (h10 (by omega)) rfl (Below.refl _ _)
          | 4, _, hL, ho, hdep, h10 =>
            injection ho with ho; subst ho
            dsimp only
            rw [if_pos (by rfl)]
            refine ⟨fun f _ => trivial, ?_⟩
            obtain ⟨z, rfl⟩ := hinv.wd (h10 (by omega))
            have e25 := evalD (hinv.sl.sl 1 _ rfl (hdep ⟨1, .data⟩ (by simp) rfl))
            have e27 := evalD (hinv.sl.sl 3 _ rfl (hdep ⟨3, .data⟩ (by simp) rfl))
            go_simp
            exact hinv.build (h10 (by omega))
          | 5, _, hL, ho, hdep, h10 =>
            injection ho with ho; subst ho
            dsimp only
            rw [if_pos (by rfl)]
            refine ⟨fun f _ => trivial, ?_⟩
            obtain ⟨z, rfl⟩ := hinv.wd (h10 (by omega))
            obtain ⟨b5, h5, c50, c51⟩ := hinv.sc (hdep ⟨4, .data⟩ (by simp) rfl) (h10 (by omega))
            have e28 := evalD h5
            go_simp
            refine CallsIn.mono (HOr.out _ z b5 c50 c51) ?_
            rintro e w' ⟨rfl, y, rfl, hb'⟩
            exact hinv.step (i := 5) (z' := y) (by omega) (by omega) (h10 (by omega)) rfl hb'
          | 6, _, hL, ho, hdep, h10 =>
            injection ho with ho; subst ho
            dsimp only
            rw [if_pos (by rfl)]
            refine ⟨fun f _ => trivial, ?_⟩
            obtain ⟨z, rfl⟩ := hinv.wd (h10 (by omega))
            go_simp
            exact hinv.step (i := 6) (z' := z) (by omega) (by omega) (h10 (by omega)) rfl (Below.refl _ _)
          | 7, _, hL, ho, hdep, h10 =>
            injection ho with ho; subst ho
            dsimp only
            rw [if_pos (by rfl)]
            refine ⟨fun f _ => trivial, ?_⟩
            obtain ⟨z, rfl⟩ := hinv.wd (h10 (by omega))
            have e30 := evalD (hinv.sl.sl 6 _ rfl (hdep ⟨6, .data⟩ (by simp) rfl))
            go_simp
            refine CallsIn.mono (HFX.out _ z) ?_
            rintro e w' ⟨rfl, y, rfl, hb'⟩
            exact hinv.step (i := 7) (z' := y) (by omega) (by omega) (h10 (by omega)) rfl hb'
          | 8, _, hL, ho, hdep, h10 =>
            injection ho with ho; subst ho
            dsimp only
            rw [if_pos (by rfl)]
            refine ⟨fun f _ => trivial, ?_⟩
            obtain ⟨z, rfl⟩ := hinv.wd (h10 (by omega))
            go_simp
            exact hinv.step (i := 8) (z' := z) (by omega) (by omega) (h10 (by omega)) rfl (Below.refl _ _)
          | 9, _, hL, ho, hdep, h10 =>
            injection ho with ho; subst ho
            dsimp only
            rw [if_pos (by rfl)]
            refine ⟨fun f _ => trivial, ?_⟩
            obtain ⟨z, rfl⟩ := hinv.wd (h10 (by omega))
            have e32 := evalD (hinv.sl.sl 8 _ rfl (hdep ⟨8, .data⟩ (by simp) rfl))
            go_simp
            refine CallsIn.mono (HFY.out _ z) ?_
            rintro e w' ⟨rfl, y, rfl, hb'⟩
            exact hinv.step (i := 9) (z' := y) (by omega) (by omega) (h10 (by omega)) rfl hb'
          | 10, _, hL, ho, hdep, h10 =>
            injection ho with ho; subst ho
            dsimp only
            rw [if_pos (by rfl)]
            refine ⟨fun f _ => trivial, ?_⟩
            have e29 := evalD (hinv.sl.sl 5 _ rfl (hdep ⟨5, .data⟩ (by simp) rfl))
            have e31 := evalD (hinv.sl.sl 7 _ rfl (hdep ⟨7, .data⟩ (by simp) rfl))
            have e33 := evalD (hinv.sl.sl 9 _ rfl (hdep ⟨9, .data⟩ (by simp) rfl))
            obtain ⟨z, rfl⟩ := hinv.wd (getD_ft hL)
            go_simp
            refine CallsIn.mono (HCh.out _ z) ?_
            rintro e w' ⟨rfl, v', hst'⟩
            exact hinv.last ⟨v', hst'⟩ hL
      case done =>
        rintro W ⟨Wz, v, hz1, hz2, hst⟩ hK
        rw [outs_diff HVT.out HVU.out] at hst
        have kW := hst.keep (cell_later hz2 kl) (by have := HL.out; omega) (by have := HL.out; omega)
        have kfW : W.frozen? ⟨g, 0, none⟩ = false := frozen_of (hst.grown.block g (by have := HL.out; omega) (fun e => by have := HL.out; cases e; omega)) ((hz2.frozen (p := ⟨g, 0, none⟩) (by have := HL.out; show g < _; omega)).trans kfl)
        have oW := hst.cell
        have hbW := hst.below (hbl.trans (hz2.mono hbl.size)) (show w.heap.size ≤ ob by have := HL.out; omega)
        obtain ⟨ad, cap, rfl⟩ := owns_slice hst.row
        have hcl := cl_of_row hst.row
        have HGW : Keep (g < W.heap.size) := ⟨World.block_lt_of_cell? W ⟨g, 0, none⟩ kW⟩
        have HZ : Keep (w.heap.size ≤ g ∧ g < wl.heap.size ∧ Wz.heap.size = wl.heap.size + 2) := ⟨by have := HL.out; omega⟩
        clear hst hz2 hI0 hts hus
        gi_wp2
        have hcl2 := hcl.grown (row := some g) (grown_set0 W g 0 (.slice ad (diffL ts us).length cap)) (fun j _ hj _ e => by have := HZ.out; cases e; omega)
        have hbW2 := hbW.setCell (p := ⟨g, 0, none⟩) HZ.out.1 (.slice ad (diffL ts us).length cap)
        have hK2 : (W.setCell ⟨g, 0, none⟩ (.slice ad (diffL ts us).length cap)).heap[wl.heap.size]? = some (.deferred (some [])) := (Below.heap_setCell _ _ _ _ (fun e => by have := HZ.out; have e2 : wl.heap.size = g := e; omega)).trans hK
        have kW2 : (W.setCell ⟨g, 0, none⟩ (.slice ad (diffL ts us).length cap)).cell? ⟨g, 0, none⟩ = some (.slice ad (diffL ts us).length cap) := World.cell?_setCell_same _ _ _ kW
        generalize W.setCell ⟨g, 0, none⟩ (.slice ad (diffL ts us).length cap) = W3 at *
        refine ⟨by simp, .inl ⟨_, _, rfl, run_takeDeferred hK2, ?_⟩⟩
        have hgp : W3.grownBy (W3.putObj wl.heap.size (.deferred none)) (some wl.heap.size) := ⟨rfl, rfl, rfl, by simp, fun k _ hk => World.putObj_heap_other (fun e => hk (by rw [e]))⟩
        have kW3 : (W3.putObj wl.heap.size (.deferred none)).cell? ⟨g, 0, none⟩ = some (.slice ad (diffL ts us).length cap) := (World.cell?_of_block (World.putObj_heap_other (fun e => by have := HZ.out; have e2 : g = wl.heap.size := e; omega))).trans kW2
        refine ⟨.agg #[.slice ad (diffL ts us).length cap], ?_, diffL ts us, .inl ⟨HVT.out, HVU.out, rfl⟩, ⟨ad, cap, rfl, (hcl2.grown hgp (fun j _ hj _ e => by have := HZ.out; cases e; omega)).mono (by have := HZ.out; omega)⟩, hbW2.grown hgp hbW2.size (fun j e => by have := HZ.out; cases e; omega)⟩
        simp [results, Try.f15, go_sem, kW3]
      case stop => exact fun _ _ _ h => h.elim
end Go.Proofs.Ytebgoligoeklbaa
