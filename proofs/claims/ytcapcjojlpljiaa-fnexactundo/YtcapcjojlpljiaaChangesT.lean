/-
  The laws' toChange, toChangeS, toPatch.
-/
import Derived.Test.YtcapcjojlpljiaaChangesM
import Derived.Test.YtcapcjojlpljiaaEntries
namespace Go.Proofs.Ytcapcjojlpljiaa
open Go.RowKit

theorem setE_block {w : World} {g o k : Nat} {v0 v1 v2 : Value} (h : k ≠ g) : (setE w g o v0 v1 v2).heap[k]? = w.heap[k]? := by
  unfold setE
  rw [Below.heap_setCell _ _ _ _ (show k ≠ g from h), Below.heap_setCell _ _ _ _ (show k ≠ g from h), Below.heap_setCell _ _ _ _ (show k ≠ g from h)]
set_option maxRecDepth 20000 in
set_option maxHeartbeats 4000000 in
theorem toChange_any (c : Ch) (w : World) :
    Calls Try.prog 51 #[chV c] w fun e w' => e = .returned (chV c) ∧ Below w.heap.size w w' := by
  unfold chV
  have hal : Below w.heap.size w (((w.alloc (.cells #[.string c.path, .bool c.old.there, .string c.old.text, .bool c.old.runs, .bool c.new.there, .string c.new.text, .bool c.new.runs] 87)).alloc (.cells #[.string ⟨#[]⟩, .bool false, .string ⟨#[]⟩, .bool false, .bool false, .string ⟨#[]⟩, .bool false] 64)).alloc (.cells #[.string c.path, .bool false, .string ⟨#[]⟩, .bool false, .bool false, .string ⟨#[]⟩, .bool false] 64)) := (((Below.refl _ _).alloc (Nat.le_refl _) _).alloc (by simp) _).alloc (by simp; omega) _
  have cb : ChAt (((w.alloc (.cells #[.string c.path, .bool c.old.there, .string c.old.text, .bool c.old.runs, .bool c.new.there, .string c.new.text, .bool c.new.runs] 87)).alloc (.cells #[.string ⟨#[]⟩, .bool false, .string ⟨#[]⟩, .bool false, .bool false, .string ⟨#[]⟩, .bool false] 64)).alloc (.cells #[.string c.path, .bool false, .string ⟨#[]⟩, .bool false, .bool false, .string ⟨#[]⟩, .bool false] 64)) w.heap.size 0 c := by simp [ChAt, go_sem]
  have cr : ChAt (((w.alloc (.cells #[.string c.path, .bool c.old.there, .string c.old.text, .bool c.old.runs, .bool c.new.there, .string c.new.text, .bool c.new.runs] 87)).alloc (.cells #[.string ⟨#[]⟩, .bool false, .string ⟨#[]⟩, .bool false, .bool false, .string ⟨#[]⟩, .bool false] 64)).alloc (.cells #[.string c.path, .bool false, .string ⟨#[]⟩, .bool false, .bool false, .string ⟨#[]⟩, .bool false] 64)) (w.heap.size + 1) 0 zeroC := by simp [ChAt, zeroC, go_sem]
  have co : ChAt (((w.alloc (.cells #[.string c.path, .bool c.old.there, .string c.old.text, .bool c.old.runs, .bool c.new.there, .string c.new.text, .bool c.new.runs] 87)).alloc (.cells #[.string ⟨#[]⟩, .bool false, .string ⟨#[]⟩, .bool false, .bool false, .string ⟨#[]⟩, .bool false] 64)).alloc (.cells #[.string c.path, .bool false, .string ⟨#[]⟩, .bool false, .bool false, .string ⟨#[]⟩, .bool false] 64)) (w.heap.size + 1 + 1) 0 ⟨c.path, zeroC.old, zeroC.new⟩ := by simp [ChAt, zeroC, go_sem]
  have rf : ∀ j, (((w.alloc (.cells #[.string c.path, .bool c.old.there, .string c.old.text, .bool c.old.runs, .bool c.new.there, .string c.new.text, .bool c.new.runs] 87)).alloc (.cells #[.string ⟨#[]⟩, .bool false, .string ⟨#[]⟩, .bool false, .bool false, .string ⟨#[]⟩, .bool false] 64)).alloc (.cells #[.string c.path, .bool false, .string ⟨#[]⟩, .bool false, .bool false, .string ⟨#[]⟩, .bool false] 64)).frozen? ⟨w.heap.size + 1, j, none⟩ = false := fun j => by simp [go_sem]
  have of : ∀ j, (((w.alloc (.cells #[.string c.path, .bool c.old.there, .string c.old.text, .bool c.old.runs, .bool c.new.there, .string c.new.text, .bool c.new.runs] 87)).alloc (.cells #[.string ⟨#[]⟩, .bool false, .string ⟨#[]⟩, .bool false, .bool false, .string ⟨#[]⟩, .bool false] 64)).alloc (.cells #[.string c.path, .bool false, .string ⟨#[]⟩, .bool false, .bool false, .string ⟨#[]⟩, .bool false] 64)).frozen? ⟨w.heap.size + 1 + 1, j, none⟩ = false := fun j => by simp [go_sem]
  have hz : w.heap.size + 1 + 1 < (((w.alloc (.cells #[.string c.path, .bool c.old.there, .string c.old.text, .bool c.old.runs, .bool c.new.there, .string c.new.text, .bool c.new.runs] 87)).alloc (.cells #[.string ⟨#[]⟩, .bool false, .string ⟨#[]⟩, .bool false, .bool false, .string ⟨#[]⟩, .bool false] 64)).alloc (.cells #[.string c.path, .bool false, .string ⟨#[]⟩, .bool false, .bool false, .string ⟨#[]⟩, .bool false] 64)).heap.size := by simp [go_sem]
  go_enter Try.func51, Try.ntmps51
  go_wp2_with fail
  refine (toFile_any c.old _).mono ?_
  rintro e w1 ⟨rfl, hb1⟩
  generalize ((w.alloc (.cells #[.string c.path, .bool c.old.there, .string c.old.text, .bool c.old.runs, .bool c.new.there, .string c.new.text, .bool c.new.runs] 87)).alloc (.cells #[.string ⟨#[]⟩, .bool false, .string ⟨#[]⟩, .bool false, .bool false, .string ⟨#[]⟩, .bool false] 64)).alloc (.cells #[.string c.path, .bool false, .string ⟨#[]⟩, .bool false, .bool false, .string ⟨#[]⟩, .bool false] 64) = w0 at *
  obtain ⟨bo, hbo⟩ : ∃ bo, bo = w.heap.size + 1 + 1 := ⟨_, rfl⟩
  obtain ⟨br, hbr⟩ : ∃ br, br = w.heap.size + 1 := ⟨_, rfl⟩
  obtain ⟨bb, hbb⟩ : ∃ bb, bb = w.heap.size := ⟨_, rfl⟩
  rw [← hbo] at co of hz ⊢
  rw [← hbr] at cr rf ⊢
  rw [← hbb] at cb ⊢
  have ne1 : ¬ bo = br := by omega
  have ne2 : ¬ bo = bb := by omega
  have ne3 : ¬ br = bo := by omega
  have ne4 : ¬ bb = bo := by omega
  have hwr : w.heap.size ≤ br := by omega
  have hwo : w.heap.size ≤ bo := by omega
  have hbro : br < bo := by omega
  clear hbo hbr hbb
  have hbw := hal.trans (hb1.mono hal.size)
  have hz1 : bo < w1.heap.size := Nat.lt_of_lt_of_le hz hb1.size
  replace rf : ∀ j, w1.frozen? ⟨br, j, none⟩ = false := fun j => (hb1.frozen (p := ⟨br, j, none⟩) (by show br < _; omega)).trans (rf j)
  replace of : ∀ j, w1.frozen? ⟨bo, j, none⟩ = false := fun j => (hb1.frozen (p := ⟨bo, j, none⟩) hz).trans (of j)
  replace cb := cb.later hb1
  replace cr := cr.later hb1
  replace co := co.later hb1
  clear hal hb1 hz
  obtain ⟨c0, c1, c2, c3, c4, c5, c6⟩ := cb
  obtain ⟨o0, o1, o2, o3, o4, o5, o6⟩ := co
  simp only [Nat.zero_add] at c0 c1 c2 c3 c4 c5 c6 o0 o1 o2 o3 o4 o5 o6
  go_wp2_with fail
  refine (toFile_any c.new _).mono ?_
  rintro e w2 ⟨rfl, hb2⟩
  have hset := setE_hit (v0 := .bool c.old.there) (v1 := .string c.old.text) (v2 := .bool c.old.runs) o1 o2 o3
  have p0 : (setE w1 bo 1 (.bool c.old.there) (.string c.old.text) (.bool c.old.runs)).cell? ⟨bo, 0, none⟩ = some (.string c.path) := (setE_other (by omega)).trans o0
  have p4 := (setE_other (w := w1) (g := bo) (o := 1) (p := 4) (v0 := .bool c.old.there) (v1 := .string c.old.text) (v2 := .bool c.old.runs) (by omega)).trans o4
  have p5 := (setE_other (w := w1) (g := bo) (o := 1) (p := 5) (v0 := .bool c.old.there) (v1 := .string c.old.text) (v2 := .bool c.old.runs) (by omega)).trans o5
  have p6 := (setE_other (w := w1) (g := bo) (o := 1) (p := 6) (v0 := .bool c.old.there) (v1 := .string c.old.text) (v2 := .bool c.old.runs) (by omega)).trans o6
  have cr1 := cr.block (setE_block (w := w1) (g := bo) (o := 1) (v0 := .bool c.old.there) (v1 := .string c.old.text) (v2 := .bool c.old.runs) (show br ≠ bo from ne3))
  have hbw1 : Below w.heap.size w (setE w1 bo 1 (.bool c.old.there) (.string c.old.text) (.bool c.old.runs)) := setE_below hbw hwo
  change Below (setE w1 bo 1 (.bool c.old.there) (.string c.old.text) (.bool c.old.runs)).heap.size (setE w1 bo 1 (.bool c.old.there) (.string c.old.text) (.bool c.old.runs)) w2 at hb2
  have hsz : w1.heap.size ≤ (setE w1 bo 1 (.bool c.old.there) (.string c.old.text) (.bool c.old.runs)).heap.size := by unfold setE; simp
  have q0 := cell_later hb2 p0
  have q1 := cell_later hb2 hset.1
  have q2 := cell_later hb2 hset.2.1
  have q3 := cell_later hb2 hset.2.2
  have q4 := cell_later hb2 p4
  have q5 := cell_later hb2 p5
  have q6 := cell_later hb2 p6
  obtain ⟨r0, r1, r2, r3, r4, r5, r6⟩ := cr1.later hb2
  simp only [Nat.zero_add, zeroC] at r0 r1 r2 r3 r4 r5 r6
  have of2 : ∀ j, w2.frozen? ⟨bo, j, none⟩ = false := fun j => (hb2.frozen (p := ⟨bo, j, none⟩) (Nat.lt_of_lt_of_le hz1 hsz)).trans ((setE_frozen _).trans (of j))
  have rf2 : ∀ j, w2.frozen? ⟨br, j, none⟩ = false := fun j => (hb2.frozen (p := ⟨br, j, none⟩) (by show br < _; omega)).trans ((setE_frozen _).trans (rf j))
  have hbw2 := hbw1.trans (hb2.mono hbw1.size)
  clear c0 c1 c2 c3 c4 c5 c6 o0 o1 o2 o3 o4 o5 o6 of rf cr p0 p4 p5 p6 hset cr1 hb2 hbw hbw1 hz1 hsz
  go_wp2
  refine bodyPost_ret (v := chV c) ?_ rfl ⟨rfl, ?_⟩
  · go_light
    simp [results, Try.results51, go_sem, chV, r0, r1, r2, r3, r4, r5, r6]
  · exact (((((((((hbw2.setCell hwo _).setCell hwo _).setCell hwo _).setCell hwr _).setCell hwr _).setCell hwr _).setCell hwr _).setCell hwr _).setCell hwr _).setCell hwr _

set_option maxRecDepth 20000 in
set_option maxHeartbeats 4000000 in
theorem toChangeS_any (a : Option Addr) (cap : Nat) (cs : List Ch) (w : World) (hss : CS w a cs) (hn : cs.length ≤ 1048576) :
    Calls Try.prog 33 #[.slice a cs.length cap] w fun e w' => e = .returned (.slice (some ⟨w.heap.size, 0, none⟩) cs.length cs.length) ∧ CS w' (some ⟨w.heap.size, 0, none⟩) cs ∧ Below w.heap.size w w' ∧ (∀ j, w'.frozen? ⟨w.heap.size, j, none⟩ = false) ∧ w.heap.size < w'.heap.size := by
  obtain ⟨i0, hi, hz0, hz1, hz2⟩ := info_parts Try.infoChange
  go_enter Try.func33, Try.ntmps33
  go_wp2_with (at_make; refine wpList_make_full _ rfl _ _ 38 rfl w.heap.size 64 i0 _ 7 Try.underlying38 hi hz0 hz1 .i64 .i64 _ _ cs.length rfl rfl rfl rfl (by rw [hz2]; omega) (by unfold maxLen; omega) (Nat.le_refl _) ?_; intro w1 hown1 hgrow1)
  go_loopw [4] (fun i wr => ∃ k : Nat, k ≤ cs.length ∧ i = .int .i64 k ∧ (∀ j, j < cs.length * 7 → ∃ u, wr.cell? ⟨w.heap.size, j, none⟩ = some u) ∧ (∀ j, wr.frozen? ⟨w.heap.size, j, none⟩ = false) ∧ (∀ i (h : i < cs.length), i < k → ChAt wr w.heap.size (0 + i * 7) cs[i]) ∧ Below w.heap.size w wr ∧ w.heap.size < wr.heap.size) (fun i _ => cs.length - (intOf i).toNat)
  case atStart =>
    refine ⟨0, Nat.zero_le _, rfl, fun j hj => ?_, fun j => hown1.frozenAt j, fun i h hi => absurd hi (by omega), (Below.refl _ _).grown hgrow1 (Nat.le_refl _) (fun k hk => by cases hk), ?_⟩
    · rw [hown1.cellAt j hj]
      exact ⟨_, List.getElem?_eq_getElem (by rw [hown1.1]; exact hj)⟩
    · rcases hown1.2 with ⟨h, _⟩ | ⟨g, c, cur, h, _, hg, _⟩
      · simp at h
      · simp at h
        obtain ⟨rfl, _⟩ := h
        exact (Array.getElem?_eq_some_iff.1 hg).1
  case round =>
    obtain ⟨k, hk, rfl, hsome, hfr, hdone, hb, hsz⟩ := hrel
    clear hown1 hgrow1
    by_cases hlt : k < cs.length
    · obtain ⟨b, off, rfl, hc⟩ := (hss.below hb).at hlt
      obtain ⟨c0, c1, c2, c3, c4, c5, c6⟩ := hc k hlt
      clear hc
      have hcall := toChange_any cs[k] wr
      unfold chV at hcall
      go_wp2_with fail
      refine hcall.mono ?_
      rintro e w2 ⟨rfl, hb2⟩
      obtain ⟨u0, e0⟩ := hsome (k * 7) (by omega)
      obtain ⟨u1, e1⟩ := hsome (k * 7 + 1) (by omega)
      obtain ⟨u2, e2⟩ := hsome (k * 7 + 2) (by omega)
      obtain ⟨u3, e3⟩ := hsome (k * 7 + 3) (by omega)
      obtain ⟨u4, e4⟩ := hsome (k * 7 + 4) (by omega)
      obtain ⟨u5, e5⟩ := hsome (k * 7 + 5) (by omega)
      obtain ⟨u6, e6⟩ := hsome (k * 7 + 6) (by omega)
      replace e0 := cell_later hb2 e0
      replace e1 := cell_later hb2 e1
      replace e2 := cell_later hb2 e2
      replace e3 := cell_later hb2 e3
      replace e4 := cell_later hb2 e4
      replace e5 := cell_later hb2 e5
      replace e6 := cell_later hb2 e6
      have f : ∀ j, w2.frozen? ⟨w.heap.size, j, none⟩ = false := fun j => by rw [hb2.frozen (p := ⟨w.heap.size, j, none⟩) hsz]; exact hfr j
      have HS : Hid (∀ j, j < cs.length * 7 → ∃ u, w2.cell? ⟨w.heap.size, j, none⟩ = some u) := fun j hj => (hsome j hj).imp fun u hu => cell_later hb2 hu
      have HD : Hid (∀ i (h : i < cs.length), i < k → ChAt w2 w.heap.size (0 + i * 7) cs[i]) := fun i h hi => (hdone i h hi).later hb2
      have HB : Hid (Below w.heap.size w w2) := hb.trans (hb2.mono hb.size)
      have HZ : Hid (w.heap.size < w2.heap.size) := Nat.lt_of_lt_of_le hsz hb2.size
      clear hsome hdone c0 c1 c2 c3 c4 c5 c6 hfr hcall hb hb2 hsz
      go_wp2
      go_roundw
      case rel =>
        have key : ∃ k', k' ≤ cs.length ∧ Value.int .i64 ((k : Int) + 1) = .int .i64 ((k' : Nat) : Int) ∧ (∀ j, j < cs.length * 7 → ∃ u, (setL w2 w.heap.size (k * 7) (chL cs[k])).cell? ⟨w.heap.size, j, none⟩ = some u) ∧ (∀ j, (setL w2 w.heap.size (k * 7) (chL cs[k])).frozen? ⟨w.heap.size, j, none⟩ = false) ∧ (∀ i (h : i < cs.length), i < k' → ChAt (setL w2 w.heap.size (k * 7) (chL cs[k])) w.heap.size (0 + i * 7) cs[i]) ∧ Below w.heap.size w (setL w2 w.heap.size (k * 7) (chL cs[k])) ∧ w.heap.size < (setL w2 w.heap.size (k * 7) (chL cs[k])).heap.size := by
          have hit : ChAt (setL w2 w.heap.size (k * 7) (chL cs[k])) w.heap.size (k * 7) cs[k] := setL_ch (fun j hj => HS.out _ (by omega))
          refine ⟨k + 1, by omega, by congr 1, fun j hj => ?_, fun j => (setL_frozen _ _ _ _ _).trans (f j), fun i hi hik => ?_, setL_below (Nat.le_refl _) _ _ _ HB.out, by rw [setL_size]; exact HZ.out⟩
          · by_cases hjk : j < k * 7 ∨ k * 7 + 7 ≤ j
            · obtain ⟨u, hu⟩ := HS.out j hj
              exact ⟨u, (setL_other _ _ _ (by have : (chL cs[k]).length = 7 := rfl; omega)).trans hu⟩
            · obtain ⟨g0, g1, g2, g3, g4, g5, g6⟩ := hit
              rcases (show j = k * 7 ∨ j = k * 7 + 1 ∨ j = k * 7 + 2 ∨ j = k * 7 + 3 ∨ j = k * 7 + 4 ∨ j = k * 7 + 5 ∨ j = k * 7 + 6 by omega) with rfl | rfl | rfl | rfl | rfl | rfl | rfl
              · exact ⟨_, g0⟩
              · exact ⟨_, g1⟩
              · exact ⟨_, g2⟩
              · exact ⟨_, g3⟩
              · exact ⟨_, g4⟩
              · exact ⟨_, g5⟩
              · exact ⟨_, g6⟩
          · by_cases hx : i = k
            · subst hx
              rw [Nat.zero_add]
              exact hit
            · exact setL_keep (HD.out i hi (by omega)) (by omega)
        exact key
      case measure => simp [intOf]; omega
    · obtain rfl : k = cs.length := by omega
      go_wp2
      go_ret
      exact ⟨rfl, .inr ⟨_, 0, rfl, fun i hi => hdone i hi hi⟩, hb, hfr, hsz⟩

set_option maxRecDepth 20000 in
set_option maxHeartbeats 1000000 in
theorem toPatch_any (a : Option Addr) (cap : Nat) (cs : List Ch) (w : World) (hss : CS w a cs) (hn : cs.length ≤ 1048576) :
    Calls Try.prog 14 #[.agg #[.slice a cs.length cap]] w fun e w' => ∃ g, e = .returned (.agg #[.slice (some ⟨g, 0, none⟩) cs.length cs.length]) ∧ CS w' (some ⟨g, 0, none⟩) cs ∧ Below w.heap.size w w' ∧ w.heap.size ≤ g ∧ (∀ j, w'.frozen? ⟨g, j, none⟩ = false) ∧ g < w'.heap.size := by
  go_enter Try.func14, Try.ntmps14
  go_wp2_with fail
  refine (toChangeS_any a cap cs _ (hss.below ((((Below.refl _ _).alloc (Nat.le_refl _) _).alloc (by simp) _).alloc (by simp; omega) _)) hn).mono ?_
  rintro e w1 ⟨rfl, hs1, hb1, hf1, hl1⟩
  have hz := hb1.size
  have HF : Hid (∀ j, w1.frozen? ⟨w.heap.size + 1 + 1 + 1, j, none⟩ = false) := fun j => by have := hf1 j; simpa using this
  have HLt : Hid (w.heap.size + 1 + 1 + 1 < w1.heap.size) := by have := hl1; simp at this; exact this
  clear hf1 hl1
  have d2 := hb1.cell (p := ⟨w.heap.size + 1 + 1, 0, none⟩) (by simp)
  have d1 := hb1.cell (p := ⟨w.heap.size + 1, 0, none⟩) (by simp)
  have f2 := hb1.frozen (p := ⟨w.heap.size + 1 + 1, 0, none⟩) (by simp)
  have f1 := hb1.frozen (p := ⟨w.heap.size + 1, 0, none⟩) (by simp)
  simp [go_sem] at d1 d2 f1 f2 hz
  have hb0 : Below w.heap.size w w1 := ((((Below.refl _ _).alloc (Nat.le_refl _) _).alloc (by simp) _).alloc (by simp; omega) _).trans (hb1.mono (by simp; omega))
  go_wp2
  refine bodyPost_ret (v := .agg #[.slice (some ⟨w.heap.size + 1 + 1 + 1, 0, none⟩) cs.length cs.length]) ?_ rfl ⟨w.heap.size + 1 + 1 + 1, rfl, ?_, ?_, by omega, fun j => ?_, ?_⟩
  · go_light
    simp [results, Try.results14, go_sem, d1]
  · simp at hs1
    rcases hs1 with h | ⟨b, off, ha, hc⟩
    · exact .inl h
    · simp at ha
      obtain ⟨rfl, rfl⟩ := ha
      exact .inr ⟨_, 0, rfl, fun i hi => ((hc i hi).block (Below.heap_setCell _ _ _ _ (by simp; try omega))).block (Below.heap_setCell _ _ _ _ (by simp; try omega))⟩
  · exact (hb0.setCell (by simp; omega) _).setCell (by simp) _
  · rw [World.frozen?_setCell, World.frozen?_setCell]; exact HF.out j
  · simp; exact HLt.out
end Go.Proofs.Ytcapcjojlpljiaa
