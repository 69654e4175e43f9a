/-
  Values that are drawn: spec.l2Wide.
-/
import Derived.Test.YtamaioeikcjhoaaDoorDv2
namespace Go.Proofs.YtamaioeikcjhoaaDoor
open Go.RowKit

set_option maxRecDepth 20000 in
set_option maxHeartbeats 2000000 in
theorem wide_any (n : Nat) (t : ByteArray) (hn : n ≤ 1000) (W : World) :
    Calls Tryd.prog 41 #[.int .i64 n, .string t] W fun e w' => VOwn W (n + 1) (n + 1) (n * t.size) e w' := by
  obtain ⟨i0, hi, hz0, hz1, hzb⟩ := info_parts Tryd.infoAtom
  go_enter Tryd.func41, Tryd.ntmps41
  have hb1 : Below W.heap.size W (W.alloc (.cells #[.slice none 0 0] 24)) := (Below.refl _ _).alloc (Nat.le_refl _) _
  have hV0 : VB W ((W.alloc (.cells #[.slice none 0 0] 24)).alloc (.cells #[.slice none 0 0] 24)) W.heap.size (W.heap.size + 1) (.slice none 0 0) [] :=
    ⟨by simp [go_sem], by simp [go_sem], by simp [go_sem], by simp [go_sem], World.ownsRow_nil _ _ _ _, by simp [Value.ownBlock], by simp [Value.ownBlock], by omega, hb1.alloc (by simp) _, by omega, Nat.le_refl _⟩
  go_upto_region 2 with fail
  clear hb1
  generalize (W.alloc (.cells #[.slice none 0 0] 24)).alloc (.cells #[.slice none 0 0] 24) = w0 at *
  generalize W.heap.size + 1 = vb at *
  have HVR : RKeep (VB W w0 W.heap.size vb (.slice none 0 0) []) := ⟨hV0⟩
  clear hV0
  obtain ⟨rb, hrb⟩ : ∃ rb, W.heap.size = rb := ⟨_, rfl⟩
  have HR : RKeep (W.heap.size = rb) := ⟨hrb⟩
  rw [hrb]
  clear hrb
  go_wp2
  go_loopw [6] (fun i wr => ∃ (m cp : Nat) (ad : Option Addr) (ys : List At), m ≤ n ∧ i = .int .i64 m ∧ VB W wr rb vb (.slice ad ys.length cp) ys ∧ RKeep (AOk m (m * t.size) ys ∧ m ≤ ys.length)) (fun i _ => n - (intOf i).toNat)
  case atStart =>
    have := HVR.out
    rw [HR.out] at this
    exact ⟨0, 0, none, [], Nat.zero_le _, rfl, this, ⟨AOk.nil _ _, Nat.le_refl _⟩⟩
  case round =>
    clear HVR
    obtain ⟨m, cp, ad, ys, hm, rfl, hV, HA⟩ := hrel
    have hyl : ys.length ≤ 1000 := by have h1 := HA.out.1.1; omega
    have c := hV.c
    have hWs : W.heap.size ≤ wr.heap.size := hV.bel.size
    by_cases hlt : m < n
    · have hlt1 : (m : Int) < n := by omega
      have hbA : Below wr.heap.size wr (wr.alloc (.cells #[.int .i64 3, .int .i64 0, .string t, .int .i64 0] 66)) := (Below.refl _ _).alloc (Nat.le_refl _) _
      have hV1 := hV.below hbA
      have hrow := hV1.row
      have hnw := news_4 wr (textA t) 66 wr.heap.size rfl
      have hone := one_4 (textA t)
      have HN : RKeep (AOk (m + 1) ((m + 1) * t.size) (ys ++ [textA t]) ∧ m + 1 ≤ (ys ++ [textA t]).length) := ⟨(HA.out.1.append (AOk.one (a := textA t) okN)).mono (Nat.le_refl _) (by rw [Nat.succ_mul]; exact Nat.le_refl _), by have := HA.out.2; simp; omega⟩
      have HW : RKeep (∀ g3 cap3 w3, (wr.alloc (.cells #[.int .i64 3, .int .i64 0, .string t, .int .i64 0] 66)).grownBy w3 (Value.slice ad ys.length cp).ownBlock → w3.ownsRow W.heap.size 66 4 (.slice (some ⟨g3, 0, none⟩) (ys.length + 1) cap3) (ys.length + 1) (acells ys ++ (textA t).cells) → ((Value.slice ad ys.length cp).ownBlock = some g3 ∨ g3 = (wr.alloc (.cells #[.int .i64 3, .int .i64 0, .string t, .int .i64 0] 66)).heap.size) → VB W (w3.setCell ⟨vb, 0, none⟩ (.slice (some ⟨g3, 0, none⟩) (ys.length + 1) cap3)) rb vb (.slice (some ⟨g3, 0, none⟩) (ys.length + 1) cap3) (ys ++ [textA t]) ∧ w3.cell? ⟨vb, 0, none⟩ = some (.slice ad ys.length cp) ∧ w3.frozen? ⟨vb, 0, none⟩ = false) := ⟨fun g3 cap3 w3 hg3 ho3 ha3 => ⟨hV1.app hg3 (by simp) (by simpa [acells] using ho3) ha3, hV1.mid hg3⟩⟩
      clear hV hV1 HA hbA
      go_wp2_with (first | (at_builtin; refine wpList_append_lies _ rfl _ _ 22 rfl W.heap.size 66 i0 _ 4 40 Tryd.underlying22 hi hz0 hz1 hzb rfl (by decide) (.slice ad ys.length cp) ys.length (acells ys) rfl hrow ⟨wr.heap.size, 0, none⟩ 1 1 (textA t).cells rfl rfl (by exact hnw) hone (by omega) (by unfold maxLen; omega) (by omega) (by simp; omega) _ rfl ?_; intro g3 cap3 w3 hown3 hgrow3 hat3 hlt3; obtain ⟨hF, hc3, hf3⟩ := HW.out g3 cap3 w3 hgrow3 hown3 hat3))
      have HF := RKeep.mk hF
      clear HW hrow hown3 hgrow3 hat3 hlt3 hnw hone hc3 hf3 hF c
      go_roundw
      case rel => exact ⟨m + 1, cap3, some ⟨g3, 0, none⟩, ys ++ [textA t], by omega, by go_num, by simpa using HF.out, HN⟩
      case measure => simp [intOf]; omega
    · obtain rfl : n = m := by omega
      have hbA : Below wr.heap.size wr (wr.alloc (.cells #[.int .i64 4, .int .i64 0, .string ⟨#[]⟩, .int .i64 n] 66)) := (Below.refl _ _).alloc (Nat.le_refl _) _
      have hV1 := hV.below hbA
      have hrow := hV1.row
      have hnw := news_4 wr (listA n) 66 wr.heap.size rfl
      have hone := one_4 (listA n)
      have HN : RKeep (AOk (n + 1) (n * t.size) (ys ++ [listA n]) ∧ n + 1 ≤ (ys ++ [listA n]).length) := ⟨(HA.out.1.append (AOk.one (a := listA n) okN)).mono (Nat.le_refl _) (Nat.le_refl _), by have := HA.out.2; simp; omega⟩
      have HW : RKeep (∀ g3 cap3 w3, (wr.alloc (.cells #[.int .i64 4, .int .i64 0, .string ⟨#[]⟩, .int .i64 n] 66)).grownBy w3 (Value.slice ad ys.length cp).ownBlock → w3.ownsRow W.heap.size 66 4 (.slice (some ⟨g3, 0, none⟩) (ys.length + 1) cap3) (ys.length + 1) (acells ys ++ (listA n).cells) → ((Value.slice ad ys.length cp).ownBlock = some g3 ∨ g3 = (wr.alloc (.cells #[.int .i64 4, .int .i64 0, .string ⟨#[]⟩, .int .i64 n] 66)).heap.size) → VB W (w3.setCell ⟨vb, 0, none⟩ (.slice (some ⟨g3, 0, none⟩) (ys.length + 1) cap3)) rb vb (.slice (some ⟨g3, 0, none⟩) (ys.length + 1) cap3) (ys ++ [listA n]) ∧ w3.cell? ⟨vb, 0, none⟩ = some (.slice ad ys.length cp) ∧ w3.frozen? ⟨vb, 0, none⟩ = false) := ⟨fun g3 cap3 w3 hg3 ho3 ha3 => ⟨hV1.app hg3 (by simp) (by simpa [acells] using ho3) ha3, hV1.mid hg3⟩⟩
      clear hV hV1 HA hbA
      go_upto_region 7 with (first | (at_builtin; refine wpList_append_lies _ rfl _ _ 22 rfl W.heap.size 66 i0 _ 4 40 Tryd.underlying22 hi hz0 hz1 hzb rfl (by decide) (.slice ad ys.length cp) ys.length (acells ys) rfl hrow ⟨wr.heap.size, 0, none⟩ 1 1 (listA n).cells rfl rfl (by exact hnw) hone (by omega) (by unfold maxLen; omega) (by omega) (by simp; omega) _ rfl ?_; intro g3 cap3 w3 hown3 hgrow3 hat3 hlt3; obtain ⟨hF, hc3, hf3⟩ := HW.out g3 cap3 w3 hgrow3 hown3 hat3))
      clear HW hrow hown3 hgrow3 hat3 hlt3 hnw hone hc3 hf3 c
      generalize w3.setCell ⟨vb, 0, none⟩ (.slice (some ⟨g3, 0, none⟩) (ys.length + 1) cap3) = w4 at *
      have c := hF.c
      have r := hF.r
      have rf := hF.rf
      have HP : RKeep (VOwn W (n + 1) (n + 1) (n * t.size) (.returned (.agg #[.slice (some ⟨g3, 0, none⟩) (ys.length + 1) cap3])) (w4.setCell ⟨rb, 0, none⟩ (.slice (some ⟨g3, 0, none⟩) (ys.length + 1) cap3))) := ⟨hF.done (by simp) HN.out.2 HN.out.1⟩
      have k0 : (w4.setCell ⟨rb, 0, none⟩ (.slice (some ⟨g3, 0, none⟩) (ys.length + 1) cap3)).cell? ⟨rb, 0, none⟩ = some (.slice (some ⟨g3, 0, none⟩) (ys.length + 1) cap3) := World.cell?_setCell_same _ _ _ r
      clear hF HN
      go_wp2
      refine bodyPost_ret (v := .agg #[.slice (some ⟨g3, 0, none⟩) (ys.length + 1) cap3]) ?_ rfl HP.out
      go_light
      simp [results, Tryd.results41, go_sem, k0]
end Go.Proofs.YtamaioeikcjhoaaDoor
