/-
  impl.Common.
-/
import Derived.Test.YtobgfogafkeieaaLeastI
namespace Go.Proofs.Ytobgfogafkeieaa
open Go.RowKit

/-- Which lines are equal. -/
def eqL (ss tt : List ByteArray) (i j : Nat) : Bool := decide (ss[i]? = tt[j]?)
theorem eqL_iff {ss tt : List ByteArray} {i j : Nat} (hi : i < ss.length) (hj : j < tt.length) : eqL ss tt i j = true ↔ ss[i] = tt[j] := by
  unfold eqL
  rw [List.getElem?_eq_getElem hi, List.getElem?_eq_getElem hj]
  simp

/-- What Common gives. -/
def CommT (ss tt : List ByteArray) (ps : List (Nat × Nat)) : Prop :=
  (ss.length ≤ 1500 ∧ tt.length ≤ 1500 ∧ Comm ss.length tt.length (eqL ss tt) 0 0 ps) ∨ ((1500 < ss.length ∨ 1500 < tt.length) ∧ ps = [])
theorem exists_commT (ss tt : List ByteArray) : ∃ ps, CommT ss tt ps := by
  by_cases h : ss.length ≤ 1500 ∧ tt.length ≤ 1500
  · obtain ⟨ps, hp⟩ := exists_comm (m := ss.length) (n := tt.length) (eqL ss tt) _ 0 0 rfl (Nat.zero_le _) (Nat.zero_le _)
    exact ⟨ps, .inl ⟨h.1, h.2, hp⟩⟩
  · exact ⟨[], .inr ⟨by omega, rfl⟩⟩
theorem CommT.len {ss tt : List ByteArray} {ps : List (Nat × Nat)} (h : CommT ss tt ps) : ps.length ≤ 1500 := by
  rcases h with ⟨h1, h2, h3⟩ | ⟨_, rfl⟩
  · rw [h3.len]
    have := lcs_le1 ss.length tt.length (eqL ss tt) 0 0
    omega
  · simp

theorem blk_lt {w : World} {b o : Nat} {v : Value} (h : w.cell? ⟨b, o, none⟩ = some v) : b < w.heap.size := by
  rcases Nat.lt_or_ge b w.heap.size with h' | h'
  · exact h'
  · simp [World.cell?, Array.getElem?_eq_none h'] at h
theorem SS.blk {w : World} {a : Option Addr} {ss : List ByteArray} (h : SS w a ss) : ∀ ad, a = some ad → 0 < ss.length → ad.block < w.heap.size := by
  rintro ad rfl h0
  obtain ⟨b, off, e, hc⟩ := h.at h0
  cases e
  exact blk_lt (hc 0 h0)
theorem SS.grown {w w' : World} {a : Option Addr} {ss : List ByteArray} {row : Option Nat} (h : SS w a ss) (hg : w.grownBy w' row) (hne : ∀ ad, a = some ad → 0 < ss.length → some ad.block ≠ row) : SS w' a ss := by
  rcases h with h | ⟨b, off, rfl, hc⟩
  · exact .inl h
  · refine .inr ⟨b, off, rfl, fun i hi => ?_⟩
    exact (hg.cell_far ⟨b, off + i, none⟩ (blk_lt (hc i hi)) (hne ⟨b, off, none⟩ rfl (by omega))).trans (hc i hi)

set_option maxRecDepth 20000 in
set_option maxHeartbeats 4000000 in
theorem implCommon_any (a1 a2 : Option Addr) (c1 c2 : Nat) (ss tt : List ByteArray) (ps : List (Nat × Nat)) (w : World) (h1 : SS w a1 ss) (h2 : SS w a2 tt) (hp : CommT ss tt ps)
    (hs : ∀ s ∈ ss, s.size ≤ 1099511627776) (ht : ∀ s ∈ tt, s.size ≤ 1099511627776) :
    Calls Try.prog 16 #[.slice a1 ss.length c1, .slice a2 tt.length c2] w fun e w' => PairsPost ps w e w' := by
  rcases hp with ⟨hm, hn, hc⟩ | ⟨hbig, rfl⟩
  · have e1 : decide ((1500 : Int) < ss.length) = false := by simp; omega
    have e2 : decide ((1500 : Int) < tt.length) = false := by simp; omega
    have hmm := @run_makeMap Try.prog
    go_enter Try.func16, Try.ntmps16
    go_wp2_with fail
    clear hmm
    have hM0 : (w.alloc (.map #[] 0)).ownsMap Try.prog 9 (plainElem Try.prog 3) w.heap.size 0 (.map [] : DataW Unit) := World.ownsMap_made _ _ _ _
    have hb0 : Below w.heap.size w (w.alloc (.map #[] 0)) := (Below.refl _ _).alloc (Nat.le_refl _) _
    refine (numberLines_any w.heap.size [] _ a1 c1 ss _ (by simp) (h1.below hb0) (fun ad e h => ⟨by have := h1.blk ad e h; omega, by have := h1.blk ad e h; simp; omega⟩) hm (by simp) hs hM0 keyD_nil).mono ?_
    rintro e w1 ⟨k1, D1, xs, ad1, cp1, rfl, _, hk1, hN1, hM1, hK1, hr1, hg1⟩
    have hb1 : Below w.heap.size w w1 := hb0.grown hg1 (by simp) (fun k e => by cases e; exact Nat.le_refl _)
    have hz1 : w.heap.size + 1 ≤ w1.heap.size := by have := hg1.size; simpa using this
    go_wp2_with fail
    refine (numberLines_any w.heap.size k1 D1 a2 c2 tt w1 (by omega) (h2.below hb1) (fun ad e h => ⟨by have := h2.blk ad e h; omega, by have := h2.blk ad e h; omega⟩) hn (by simp at hk1; omega) ht hM1 hK1).mono ?_
    rintro e w2 ⟨k2, D2, ys, ad2, cp2, rfl, hpre, hk2, hN2, hM2, hK2, hr2, hg2⟩
    have hb2 : Below w.heap.size w w2 := hb1.grown hg2 (by omega) (fun k e => by cases e; exact Nat.le_refl _)
    have hr1' := hr1.kept hg2 (.inr (fun e => by have := owns_base hr1 _ e; rw [World.size_alloc] at this; omega))
    have hN1' := hN1.mono hpre
    have hxl : xs.length = ss.length := hN1.1
    have hyl : ys.length = tt.length := hN2.1
    have i1 : IS w2 ad1 xs := is_of_row hxl hr1'
    have i2 : IS w2 ad2 ys := is_of_row hyl hr2
    have hE : ∀ i j (hi : i < xs.length) (hj : j < ys.length), eqL ss tt i j = true ↔ xs[i] = ys[j] := fun i j hi hj => by
      rw [eqL_iff (by omega) (by omega)]
      exact (Numbered.same hK2.nodup hN1' hN2 (by omega) (by omega) hi hj).symm
    have hme := measure_any ad1 ad2 cp1 cp2 xs ys (eqL ss tt) w2 i1 i2 (by omega) (by omega) hE
    rw [hxl, hyl] at hme
    go_wp2_with fail
    refine hme.mono ?_
    rintro e w3 ⟨g, hg, rfl, hT, hb3⟩
    have hle := leastPairs_any ad1 ad2 cp1 cp2 xs ys (eqL ss tt) g ps w3 (i1.below hb3) (i2.below hb3) (by omega) (by omega) hE (by rw [hxl, hyl]; exact hT) (by rw [hxl, hyl]; exact hc)
    rw [hxl, hyl] at hle
    go_wp2_with fail
    refine hle.mono ?_
    rintro e w4 ⟨ad, cp, rfl, hr4, hb4⟩
    go_wp2
    go_ret
    exact ⟨ad, cp, rfl, owns_low2 hr4 (Nat.le_trans hb2.size hb3.size), (hb2.trans (hb3.mono hb2.size)).trans (hb4.mono (Nat.le_trans hb2.size hb3.size))⟩
  · by_cases e1 : 1500 < ss.length
    · have e1' : decide ((1500 : Int) < ss.length) = true := by simp; omega
      go_enter Try.func16, Try.ntmps16
      go_wp2
      go_ret
      exact ⟨none, 0, rfl, World.ownsRow_nil _ _ _ _, Below.refl _ _⟩
    · have e1' : decide ((1500 : Int) < ss.length) = false := by simp; omega
      have e2' : decide ((1500 : Int) < tt.length) = true := by simp; omega
      go_enter Try.func16, Try.ntmps16
      go_wp2
      go_ret
      exact ⟨none, 0, rfl, World.ownsRow_nil _ _ _ _, Below.refl _ _⟩
end Go.Proofs.Ytobgfogafkeieaa
