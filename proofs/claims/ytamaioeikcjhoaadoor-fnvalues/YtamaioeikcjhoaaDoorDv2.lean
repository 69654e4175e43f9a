/-
  Values that are drawn: spec.l2Deep, spec.l2Wide.
-/
import Derived.Test.YtamaioeikcjhoaaDoorDvP
namespace Go.Proofs.YtamaioeikcjhoaaDoor
open Go.RowKit

/-- A value in its box, atoms of the call's own, the result's box. -/
structure VB (W wr : World) (rb vb : Nat) (v : Value) (ys : List At) : Prop where
  c : wr.cell? ⟨vb, 0, none⟩ = some v
  f : wr.frozen? ⟨vb, 0, none⟩ = false
  r : wr.cell? ⟨rb, 0, none⟩ = some (.slice none 0 0)
  rf : wr.frozen? ⟨rb, 0, none⟩ = false
  row : wr.ownsRow W.heap.size 66 4 v ys.length (acells ys)
  nv : v.ownBlock ≠ some vb
  nr : v.ownBlock ≠ some rb
  ne : rb ≠ vb
  bel : Below W.heap.size W wr
  gv : W.heap.size ≤ vb
  gr : W.heap.size ≤ rb
theorem VB.below {W wr w1 : World} {rb vb : Nat} {v : Value} {ys : List At} (h : VB W wr rb vb v ys) (hb : Below wr.heap.size wr w1) : VB W w1 rb vb v ys :=
  ⟨cell_later hb h.c, (hb.frozen (p := ⟨vb, 0, none⟩) (lt_of_cellR h.c)).trans h.f, cell_later hb h.r, (hb.frozen (p := ⟨rb, 0, none⟩) (lt_of_cellR h.r)).trans h.rf, owns_below h.row hb, h.nv, h.nr, h.ne, h.bel.trans (hb.mono h.bel.size), h.gv, h.gr⟩
/-- What stands behind an append, ahead of the store. -/
theorem VB.mid {W w1 w3 : World} {rb vb : Nat} {v : Value} {ys : List At} (h : VB W w1 rb vb v ys) (hg : w1.grownBy w3 v.ownBlock) : w3.cell? ⟨vb, 0, none⟩ = some v ∧ w3.frozen? ⟨vb, 0, none⟩ = false :=
  ⟨(hg.cell_far ⟨vb, 0, none⟩ (lt_of_cellR h.c) (fun e => h.nv e.symm)).trans h.c, (hg.frozen_far ⟨vb, 0, none⟩ (lt_of_cellR h.c) (fun e => h.nv e.symm)).trans h.f⟩
theorem VB.app {W w1 w3 : World} {rb vb g3 n3 cap3 : Nat} {v : Value} {ys us : List At} (h : VB W w1 rb vb v ys) (hg : w1.grownBy w3 v.ownBlock) (hn : n3 = (ys ++ us).length) (hown : w3.ownsRow W.heap.size 66 4 (.slice (some ⟨g3, 0, none⟩) n3 cap3) n3 (acells ys ++ acells us)) (hat : v.ownBlock = some g3 ∨ g3 = w1.heap.size) : VB W (w3.setCell ⟨vb, 0, none⟩ (.slice (some ⟨g3, 0, none⟩) n3 cap3)) rb vb (.slice (some ⟨g3, 0, none⟩) n3 cap3) (ys ++ us) := by
  have hvl : vb < w1.heap.size := lt_of_cellR h.c
  have hrl : rb < w1.heap.size := lt_of_cellR h.r
  obtain ⟨m1, m2⟩ := h.mid hg
  have m3 : w3.cell? ⟨rb, 0, none⟩ = some (.slice none 0 0) := (hg.cell_far ⟨rb, 0, none⟩ hrl (fun e => h.nr e.symm)).trans h.r
  have m4 : w3.frozen? ⟨rb, 0, none⟩ = false := (hg.frozen_far ⟨rb, 0, none⟩ hrl (fun e => h.nr e.symm)).trans h.rf
  have hgv : g3 ≠ vb := fun e => by
    rcases hat with h' | h'
    · exact h.nv (by rw [h', e])
    · omega
  have hgr : g3 ≠ rb := fun e => by
    rcases hat with h' | h'
    · exact h.nr (by rw [h', e])
    · omega
  have hnv : (Value.slice (some ⟨g3, 0, none⟩) n3 cap3).ownBlock ≠ some vb := fun e => hgv (by simpa [Value.ownBlock] using e)
  have hnr : (Value.slice (some ⟨g3, 0, none⟩) n3 cap3).ownBlock ≠ some rb := fun e => hgr (by simpa [Value.ownBlock] using e)
  refine ⟨World.cell?_setCell_same _ _ _ m1, (World.frozen?_setCell _ _ _ _).trans m2, (World.cell?_setCell_other _ _ _ _ (by intro e; injection e with e; exact h.ne e.symm)).trans m3, (World.frozen?_setCell _ _ _ _).trans m4, ?_, hnv, hnr, h.ne, ?_, h.gv, h.gr⟩
  · rw [← hn, acells_append]
    exact hown.kept (dk_set _ _ _ _) (Or.inr hnv)
  · exact (h.bel.grown hg h.bel.size (fun j e => owns_base h.row j e)).setCell (p := ⟨vb, 0, none⟩) h.gv _
def VOwn (W : World) (L N M : Nat) (e : Ending) (w' : World) : Prop :=
  ∃ (gs cs : Nat) (ts : List At), e = .returned (.agg #[.slice (some ⟨gs, 0, none⟩) ts.length cs]) ∧ w'.ownsRow W.heap.size 66 4 (.slice (some ⟨gs, 0, none⟩) ts.length cs) ts.length (acells ts) ∧ L ≤ ts.length ∧ AOk N M ts ∧ Below W.heap.size W w'
theorem VB.done {W wr : World} {rb vb gs n cs L N M : Nat} {ys : List At} (h : VB W wr rb vb (.slice (some ⟨gs, 0, none⟩) n cs) ys) (hn : n = ys.length) (hpos : L ≤ ys.length) (hk : AOk N M ys) : VOwn W L N M (.returned (.agg #[.slice (some ⟨gs, 0, none⟩) n cs])) (wr.setCell ⟨rb, 0, none⟩ (.slice (some ⟨gs, 0, none⟩) n cs)) := by
  subst hn
  exact ⟨gs, cs, ys, rfl, h.row.kept (dk_set _ _ _ _) (Or.inr h.nr), hpos, hk, h.bel.setCell (p := ⟨rb, 0, none⟩) h.gr _⟩

set_option maxRecDepth 20000 in
set_option maxHeartbeats 2000000 in
theorem deep_any (n : Nat) (hn : n ≤ 100) (W : World) :
    Calls Tryd.prog 40 #[.int .i64 n] W fun e w' => VOwn W 1 (n + 1) 0 e w' := by
  obtain ⟨i0, hi, hz0, hz1, hzb⟩ := info_parts Tryd.infoAtom
  go_enter Tryd.func40, Tryd.ntmps40
  have hb1 : Below W.heap.size W (W.alloc (.cells #[.slice none 0 0] 24)) := (Below.refl _ _).alloc (Nat.le_refl _) _
  have hV0 : VB W (((W.alloc (.cells #[.slice none 0 0] 24)).alloc (.cells #[.int .i64 1, .int .i64 0, .string ⟨#[]⟩, .int .i64 0] 66)).alloc (.cells #[.slice (some ⟨W.heap.size + 1, 0, none⟩) 1 1] 24)) W.heap.size (W.heap.size + 1 + 1) (.slice (some ⟨W.heap.size + 1, 0, none⟩) 1 1) [⟨1, 0, ⟨#[]⟩, 0⟩] := by
    have ho := own_oneA (W.alloc (.cells #[.slice none 0 0] 24)) W.heap.size (by simp) ⟨1, 0, ⟨#[]⟩, 0⟩
    rw [show (W.alloc (.cells #[.slice none 0 0] 24)).heap.size = W.heap.size + 1 by simp] at ho
    exact ⟨by simp [go_sem], by simp [go_sem], by simp [go_sem], by simp [go_sem], owns_below ho ((Below.refl _ _).alloc (Nat.le_refl _) _), by simp [Value.ownBlock], by simp [Value.ownBlock], by omega, (hb1.alloc (by simp) _).alloc (by simp; omega) _, by omega, Nat.le_refl _⟩
  have hA0 : AOk 1 0 [⟨1, 0, ⟨#[]⟩, 0⟩] := AOk.one (a := ⟨1, 0, ⟨#[]⟩, 0⟩) okN
  go_upto_region 2 with fail
  clear hb1
  generalize ((W.alloc (.cells #[.slice none 0 0] 24)).alloc (.cells #[.int .i64 1, .int .i64 0, .string ⟨#[]⟩, .int .i64 0] 66)).alloc (.cells #[.slice (some ⟨W.heap.size + 1, 0, none⟩) 1 1] 24) = w0 at *
  generalize W.heap.size + 1 + 1 = vb at *
  generalize W.heap.size + 1 = g0 at *
  have HVR : RKeep (VB W w0 W.heap.size vb (.slice (some ⟨g0, 0, none⟩) 1 1) [⟨1, 0, ⟨#[]⟩, 0⟩]) := ⟨hV0⟩
  clear hV0
  obtain ⟨rb, hrb⟩ : ∃ rb, W.heap.size = rb := ⟨_, rfl⟩
  have HR : RKeep (W.heap.size = rb) := ⟨hrb⟩
  rw [hrb]
  clear hrb
  go_wp2
  go_loopw [4] (fun i wr => ∃ (m gs cp : Nat) (ys : List At), m ≤ n ∧ i = .int .i64 m ∧ VB W wr rb vb (.slice (some ⟨gs, 0, none⟩) ys.length cp) ys ∧ RKeep (AOk (m + 1) 0 ys ∧ 0 < ys.length)) (fun i _ => n - (intOf i).toNat)
  case atStart =>
    have := HVR.out
    rw [HR.out] at this
    exact ⟨0, g0, 1, [⟨1, 0, ⟨#[]⟩, 0⟩], Nat.zero_le _, rfl, this, ⟨hA0, by simp⟩⟩
  case round =>
    clear HVR
    obtain ⟨m, gs, cp, ys, hm, rfl, hV, HA⟩ := hrel
    have hyl : ys.length ≤ 102 := by have h1 := HA.out.1.1; omega
    have c := hV.c
    by_cases hlt : m < n
    · have hlt1 : (m : Int) < n := by omega
      have hbA : Below wr.heap.size wr (wr.alloc (.cells #[.int .i64 4, .int .i64 0, .string ⟨#[]⟩, .int .i64 1] 66)) := (Below.refl _ _).alloc (Nat.le_refl _) _
      have hV1 := hV.below hbA
      have hrow := hV1.row
      have hWs : W.heap.size ≤ wr.heap.size := hV.bel.size
      have hnw := news_4 wr ⟨4, 0, ⟨#[]⟩, 1⟩ 66 wr.heap.size rfl
      have hone := one_4 ⟨4, 0, ⟨#[]⟩, 1⟩
      have HN : RKeep (AOk (m + 1 + 1) 0 (ys ++ [⟨4, 0, ⟨#[]⟩, 1⟩]) ∧ 0 < (ys ++ [(⟨4, 0, ⟨#[]⟩, 1⟩ : At)]).length) := ⟨HA.out.1.append (AOk.one (a := ⟨4, 0, ⟨#[]⟩, 1⟩) okN), by simp⟩
      have HW : RKeep (∀ g3 cap3 w3, (wr.alloc (.cells #[.int .i64 4, .int .i64 0, .string ⟨#[]⟩, .int .i64 1] 66)).grownBy w3 (Value.slice (some ⟨gs, 0, none⟩) ys.length cp).ownBlock → w3.ownsRow W.heap.size 66 4 (.slice (some ⟨g3, 0, none⟩) (ys.length + 1) cap3) (ys.length + 1) (acells ys ++ At.cells ⟨4, 0, ⟨#[]⟩, 1⟩) → ((Value.slice (some ⟨gs, 0, none⟩) ys.length cp).ownBlock = some g3 ∨ g3 = (wr.alloc (.cells #[.int .i64 4, .int .i64 0, .string ⟨#[]⟩, .int .i64 1] 66)).heap.size) → VB W (w3.setCell ⟨vb, 0, none⟩ (.slice (some ⟨g3, 0, none⟩) (ys.length + 1) cap3)) rb vb (.slice (some ⟨g3, 0, none⟩) (ys.length + 1) cap3) (ys ++ [⟨4, 0, ⟨#[]⟩, 1⟩]) ∧ w3.cell? ⟨vb, 0, none⟩ = some (.slice (some ⟨gs, 0, none⟩) ys.length cp) ∧ w3.frozen? ⟨vb, 0, none⟩ = false) := ⟨fun g3 cap3 w3 hg3 ho3 ha3 => ⟨hV1.app hg3 (by simp) (by simpa [acells] using ho3) ha3, hV1.mid hg3⟩⟩
      clear hV hV1 HA hbA
      go_wp2_with (first | (at_builtin; refine wpList_append_lies _ rfl _ _ 22 rfl W.heap.size 66 i0 _ 4 40 Tryd.underlying22 hi hz0 hz1 hzb rfl (by decide) (.slice (some ⟨gs, 0, none⟩) ys.length cp) ys.length (acells ys) rfl hrow ⟨wr.heap.size, 0, none⟩ 1 1 (At.cells ⟨4, 0, ⟨#[]⟩, 1⟩) rfl rfl (by exact hnw) hone (by omega) (by unfold maxLen; omega) (by omega) (by simp; omega) _ rfl ?_; intro g3 cap3 w3 hown3 hgrow3 hat3 hlt3; obtain ⟨hF, hc3, hf3⟩ := HW.out g3 cap3 w3 hgrow3 hown3 hat3))
      have HF := RKeep.mk hF
      clear HW hrow hown3 hgrow3 hat3 hlt3 hnw hone hc3 hf3 hF c
      go_roundw
      case rel => exact ⟨m + 1, g3, cap3, _, by omega, by go_num, by simpa using HF.out, HN⟩
      case measure => simp [intOf]; omega
    · obtain rfl : n = m := by omega
      have r := hV.r
      have rf := hV.rf
      have HP : RKeep (VOwn W 1 (n + 1) 0 (.returned (.agg #[.slice (some ⟨gs, 0, none⟩) ys.length cp])) (wr.setCell ⟨rb, 0, none⟩ (.slice (some ⟨gs, 0, none⟩) ys.length cp))) := ⟨hV.done rfl HA.out.2 HA.out.1⟩
      have k0 : (wr.setCell ⟨rb, 0, none⟩ (.slice (some ⟨gs, 0, none⟩) ys.length cp)).cell? ⟨rb, 0, none⟩ = some (.slice (some ⟨gs, 0, none⟩) ys.length cp) := World.cell?_setCell_same _ _ _ r
      clear hV HA
      go_wp2
      refine bodyPost_ret (v := .agg #[.slice (some ⟨gs, 0, none⟩) ys.length cp]) ?_ rfl HP.out
      go_light
      simp [results, Tryd.results40, go_sem, k0]
end Go.Proofs.YtamaioeikcjhoaaDoor
