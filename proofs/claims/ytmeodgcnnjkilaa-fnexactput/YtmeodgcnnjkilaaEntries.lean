/-
  The laws' helpers over trees: szTree, toTree, eqTree.
-/
import Derived.Test.YtmeodgcnnjkilaaEntB
namespace Go.Proofs.Ytmeodgcnnjkilaa
open Go.RowKit

set_option maxRecDepth 20000 in
set_option maxHeartbeats 1000000 in
theorem szEntry_any (a : En) (L : Int) (w : World) (hL : 0 ≤ L ∧ L ≤ 1048576) (hm : a.path.size ≤ maxLen ∧ a.text.size ≤ maxLen) :
    Calls Try.prog 8 #[.agg #[.string a.path, .string a.text, .bool a.runs], .int .i64 L] w fun e w' => e = .returned (.int .i64 (if L - (a.path.size + a.text.size) < 0 then -1 else L - (a.path.size + a.text.size))) ∧ Below w.heap.size w w' := by
  unfold maxLen at hm
  obtain ⟨hm1, hm2⟩ := hm
  by_cases h1 : L - a.path.size < 0
  · rw [if_pos (by omega)]
    go_enter Try.func8, Try.ntmps8
    go_wp2
    go_ret
    exact ⟨rfl, (Below.refl _ _).alloc (Nat.le_refl _) _⟩
  by_cases h : L - a.path.size - a.text.size < 0
  · rw [if_pos (by omega)]
    go_enter Try.func8, Try.ntmps8
    go_wp2
    go_ret
    exact ⟨rfl, (Below.refl _ _).alloc (Nat.le_refl _) _⟩
  · rw [if_neg (by omega), show L - ((a.path.size : Int) + a.text.size) = L - a.path.size - a.text.size by omega]
    go_enter Try.func8, Try.ntmps8
    go_wp2
    go_ret
    exact ⟨rfl, (Below.refl _ _).alloc (Nat.le_refl _) _⟩

set_option maxRecDepth 20000 in
set_option maxHeartbeats 1000000 in
theorem szEntryS_any (a : Option Addr) (cap : Nat) (ts : List En) (w : World) (hss : ES w a ts) (hn : ts.length ≤ maxLen) (hm : ∀ s ∈ ts, s.path.size ≤ maxLen ∧ s.text.size ≤ maxLen) :
    Calls Try.prog 26 #[.slice a ts.length cap, .int .i64 1048576] w fun e w' => ∃ r : Int, e = .returned (.int .i64 r) ∧ Below w.heap.size w w' ∧ ((r = -1) ∨ (0 ≤ r ∧ ts.length + totalE ts ≤ 1048576)) := by
  unfold maxLen at hn
  by_cases h0 : (1048576 : Int) - ts.length < 0
  · go_enter Try.func26, Try.ntmps26
    go_wp2
    go_ret
    exact ⟨-1, rfl, Below.refl _ _, .inl rfl⟩
  · go_enter Try.func26, Try.ntmps26
    go_wp2
    go_loopw [1, 5] (fun l i wr => ∃ k : Nat, k ≤ ts.length ∧ i = .int .i64 k ∧ l = .int .i64 ((1048576 : Int) - ts.length - totalE (ts.take k)) ∧ ts.length + totalE (ts.take k) ≤ 1048576 ∧ Below w.heap.size w wr) (fun _ i _ => ts.length - (intOf i).toNat)
    case atStart => exact ⟨0, Nat.zero_le _, rfl, by simp [totalE], by simp [totalE]; omega, Below.refl _ _⟩
    case round =>
      obtain ⟨k, hk, rfl, rfl, hle, hb⟩ := hrel
      by_cases hlt : k < ts.length
      · obtain ⟨b, off, rfl, hc⟩ := (hss.below hb).at hlt
        obtain ⟨c0, c1, c2⟩ := hc k hlt
        have HT : Hid (totalE (ts.take (k + 1)) = totalE (ts.take k) + (ts[k].path.size + ts[k].text.size)) := totalE_take ts k hlt
        have hsz := hm ts[k] (List.getElem_mem hlt)
        generalize totalE (ts.take k) = t at *
        clear hc
        go_wp2_with fail
        refine (szEntry_any ts[k] _ _ (by omega) hsz).mono ?_
        rintro e w1 ⟨rfl, hb1⟩
        by_cases hneg : (1048576 : Int) - ts.length - t - (ts[k].path.size + ts[k].text.size) < 0
        · rw [if_pos hneg]
          go_wp2
          go_ret
          exact ⟨-1, rfl, hb.trans (hb1.mono hb.size), .inl rfl⟩
        · rw [if_neg hneg]
          go_wp2
          go_roundw
          case rel => exact ⟨k + 1, by omega, by go_num, by rw [HT.out]; go_num, by rw [HT.out]; omega, hb.trans (hb1.mono hb.size)⟩
          case measure => simp [intOf]; omega
      · obtain rfl : k = ts.length := by omega
        go_wp2
        go_ret
        rw [List.take_length] at *
        exact ⟨_, rfl, hb, .inr ⟨by omega, hle⟩⟩

set_option maxRecDepth 20000 in
set_option maxHeartbeats 1000000 in
theorem szTree_any (a : Option Addr) (cap : Nat) (ts : List En) (w : World) (hss : ES w a ts) (hn : ts.length ≤ maxLen) (hm : ∀ s ∈ ts, s.path.size ≤ maxLen ∧ s.text.size ≤ maxLen) :
    Calls Try.prog 7 #[.agg #[.slice a ts.length cap], .int .i64 1048576] w fun e w' => ∃ r : Int, e = .returned (.int .i64 r) ∧ Below w.heap.size w w' ∧ ((r = -1) ∨ (0 ≤ r ∧ ts.length + totalE ts ≤ 1048576)) := by
  go_enter Try.func7, Try.ntmps7
  go_wp2_with fail
  refine (szEntryS_any a cap ts _ (hss.below ((Below.refl _ _).alloc (Nat.le_refl _) _)) hn hm).mono ?_
  rintro e w1 ⟨r, rfl, hb, hr⟩
  have hb0 : Below w.heap.size w w1 := ((Below.refl _ _).alloc (Nat.le_refl _) _).trans (hb.mono (by simp))
  rcases hr with rfl | ⟨h0, h1⟩
  · go_wp2
    go_ret
    exact ⟨-1, rfl, hb0, .inl rfl⟩
  · go_wp2
    go_ret
    exact ⟨r, rfl, hb0, .inr ⟨h0, h1⟩⟩

set_option maxRecDepth 20000 in
set_option maxHeartbeats 1000000 in
theorem toEntry_any (a : En) (w : World) :
    Calls Try.prog 11 #[.agg #[.string a.path, .string a.text, .bool a.runs]] w fun e w' => e = .returned (.agg #[.string a.path, .string a.text, .bool a.runs]) ∧ Below w.heap.size w w' := by
  go_enter Try.func11, Try.ntmps11
  go_wp2
  refine bodyPost_ret (v := .agg #[.string a.path, .string a.text, .bool a.runs]) ?_ rfl ⟨rfl, ?_⟩
  · go_light
    simp [results, Try.results11, go_sem]
  · exact (((Below.refl _ _).alloc (Nat.le_refl _) _).alloc (by simp) _).alloc (by simp; omega) _

set_option maxRecDepth 20000 in
set_option maxHeartbeats 1000000 in
theorem toEntryS_any (a : Option Addr) (cap : Nat) (ts : List En) (w : World) (hss : ES w a ts) (hn : ts.length ≤ 1048576) :
    Calls Try.prog 31 #[.slice a ts.length cap] w fun e w' => e = .returned (.slice (some ⟨w.heap.size, 0, none⟩) ts.length ts.length) ∧ ES w' (some ⟨w.heap.size, 0, none⟩) ts ∧ Below w.heap.size w w' ∧ (∀ j, w'.frozen? ⟨w.heap.size, j, none⟩ = false) ∧ w.heap.size < w'.heap.size := by
  obtain ⟨i0, hi, hz0, hz1, hz2⟩ := info_parts Try.infoEntry
  go_enter Try.func31, Try.ntmps31
  go_wp2_with (at_make; refine wpList_make_full _ rfl _ _ 29 rfl w.heap.size 35 i0 _ 3 Try.underlying29 hi hz0 hz1 .i64 .i64 _ _ ts.length rfl rfl rfl rfl (by rw [hz2]; omega) (by unfold maxLen; omega) (Nat.le_refl _) ?_; intro w1 hown1 hgrow1)
  go_loopw [4] (fun i wr => ∃ k : Nat, k ≤ ts.length ∧ i = .int .i64 k ∧ (∀ j, j < ts.length * 3 → ∃ u, wr.cell? ⟨w.heap.size, j, none⟩ = some u) ∧ (∀ j, wr.frozen? ⟨w.heap.size, j, none⟩ = false) ∧ (∀ i (h : i < ts.length), i < k → wr.cell? ⟨w.heap.size, 0 + i * 3, none⟩ = some (.string ts[i].path) ∧ wr.cell? ⟨w.heap.size, 0 + i * 3 + 1, none⟩ = some (.string ts[i].text) ∧ wr.cell? ⟨w.heap.size, 0 + i * 3 + 2, none⟩ = some (.bool ts[i].runs)) ∧ Below w.heap.size w wr ∧ w.heap.size < wr.heap.size) (fun i _ => ts.length - (intOf i).toNat)
  case atStart =>
    refine ⟨0, Nat.zero_le _, rfl, fun j hj => ?_, fun j => hown1.frozenAt j, fun i h hi => absurd hi (by omega), (Below.refl _ _).grown hgrow1 (Nat.le_refl _) (fun k hk => by cases hk), ?_⟩
    · rw [hown1.cellAt j hj]
      exact ⟨_, List.getElem?_eq_getElem (by rw [hown1.1]; exact hj)⟩
    · rcases hown1.2 with ⟨h, _⟩ | ⟨g, c, cur, h, _, hg, _⟩
      · simp at h
      · simp at h
        obtain ⟨rfl, _⟩ := h
        exact (Array.getElem?_eq_some_iff.1 hg).1
  case round =>
    obtain ⟨k, hk, rfl, hsome, hfr, hdone, hb, hsz⟩ := hrel
    clear hown1 hgrow1
    by_cases hlt : k < ts.length
    · obtain ⟨b, off, rfl, hc⟩ := (hss.below hb).at hlt
      obtain ⟨c0, c1, c2⟩ := hc k hlt
      clear hc
      go_wp2_with fail
      refine (toEntry_any ts[k] _).mono ?_
      rintro e w2 ⟨rfl, hb2⟩
      obtain ⟨u0, e0⟩ := hsome (k * 3) (by omega)
      obtain ⟨u1, e1⟩ := hsome (k * 3 + 1) (by omega)
      obtain ⟨u2, e2⟩ := hsome (k * 3 + 2) (by omega)
      have e0 := cell_later hb2 e0
      have e1 := cell_later hb2 e1
      have e2 := cell_later hb2 e2
      have f : ∀ j, w2.frozen? ⟨w.heap.size, j, none⟩ = false := fun j => by rw [hb2.frozen (p := ⟨w.heap.size, j, none⟩) hsz]; exact hfr j
      have HS : Hid (∀ j, j < ts.length * 3 → ∃ u, w2.cell? ⟨w.heap.size, j, none⟩ = some u) := fun j hj => (hsome j hj).imp fun u hu => cell_later hb2 hu
      have HD : Hid (∀ i (h : i < ts.length), i < k → w2.cell? ⟨w.heap.size, 0 + i * 3, none⟩ = some (.string ts[i].path) ∧ w2.cell? ⟨w.heap.size, 0 + i * 3 + 1, none⟩ = some (.string ts[i].text) ∧ w2.cell? ⟨w.heap.size, 0 + i * 3 + 2, none⟩ = some (.bool ts[i].runs)) := fun i h hi => ⟨cell_later hb2 (hdone i h hi).1, cell_later hb2 (hdone i h hi).2.1, cell_later hb2 (hdone i h hi).2.2⟩
      clear hsome hdone c0 c1 c2 hfr
      go_wp2
      have hit := setE_hit (v0 := .string ts[k].path) (v1 := .string ts[k].text) (v2 := .bool ts[k].runs) e0 e1 e2
      go_roundw
      case rel =>
        refine ⟨k + 1, by omega, by go_num, ?_, ?_, ?_, setE_below (hb.trans (hb2.mono hb.size)) (Nat.le_refl _), ?_⟩
        · intro j hj
          by_cases hjk : j < k * 3 ∨ k * 3 + 3 ≤ j
          · obtain ⟨u, hu⟩ := HS.out j hj
            exact ⟨u, (setE_other hjk).trans hu⟩
          · rcases (show j = k * 3 ∨ j = k * 3 + 1 ∨ j = k * 3 + 2 by omega) with rfl | rfl | rfl
            · exact ⟨_, hit.1⟩
            · exact ⟨_, hit.2.1⟩
            · exact ⟨_, hit.2.2⟩
        · intro j; exact (setE_frozen _).trans (f j)
        · intro i hi hik
          by_cases hx : i = k
          · subst hx
            simp only [Nat.zero_add]
            exact hit
          · obtain ⟨d0, d1, d2⟩ := HD.out i hi (by omega)
            exact ⟨(setE_other (by omega)).trans d0, (setE_other (by omega)).trans d1, (setE_other (by omega)).trans d2⟩
        · have := hb2.size
          simp [World.setCell]
          omega
      case measure => simp [intOf]; omega
    · obtain rfl : k = ts.length := by omega
      go_wp2
      go_ret
      exact ⟨rfl, .inr ⟨_, 0, rfl, fun i hi => hdone i hi hi⟩, hb, hfr, hsz⟩

set_option maxRecDepth 20000 in
set_option maxHeartbeats 1000000 in
theorem toTree_any (a : Option Addr) (cap : Nat) (ts : List En) (w : World) (hss : ES w a ts) (hn : ts.length ≤ 1048576) :
    Calls Try.prog 10 #[.agg #[.slice a ts.length cap]] w fun e w' => ∃ g, e = .returned (.agg #[.slice (some ⟨g, 0, none⟩) ts.length ts.length]) ∧ ES w' (some ⟨g, 0, none⟩) ts ∧ Below w.heap.size w w' ∧ w.heap.size ≤ g ∧ (∀ j, w'.frozen? ⟨g, j, none⟩ = false) ∧ g < w'.heap.size := by
  go_enter Try.func10, Try.ntmps10
  go_wp2_with fail
  refine (toEntryS_any a cap ts _ (hss.below ((((Below.refl _ _).alloc (Nat.le_refl _) _).alloc (by simp) _).alloc (by simp; omega) _)) hn).mono ?_
  rintro e w1 ⟨rfl, hs1, hb1, hf1, hl1⟩
  have hz := hb1.size
  have HF : Hid (∀ j, w1.frozen? ⟨w.heap.size + 1 + 1 + 1, j, none⟩ = false) := fun j => by have := hf1 j; simpa using this
  have HLt : Hid (w.heap.size + 1 + 1 + 1 < w1.heap.size) := by have := hl1; simp at this; exact this
  clear hf1 hl1
  have d2 := hb1.cell (p := ⟨w.heap.size + 1 + 1, 0, none⟩) (by simp)
  have d1 := hb1.cell (p := ⟨w.heap.size + 1, 0, none⟩) (by simp)
  have f2 := hb1.frozen (p := ⟨w.heap.size + 1 + 1, 0, none⟩) (by simp)
  have f1 := hb1.frozen (p := ⟨w.heap.size + 1, 0, none⟩) (by simp)
  simp [go_sem] at d1 d2 f1 f2 hz
  have hb0 : Below w.heap.size w w1 := ((((Below.refl _ _).alloc (Nat.le_refl _) _).alloc (by simp) _).alloc (by simp; omega) _).trans (hb1.mono (by simp; omega))
  go_wp2
  refine bodyPost_ret (v := .agg #[.slice (some ⟨w.heap.size + 1 + 1 + 1, 0, none⟩) ts.length ts.length]) ?_ rfl ⟨w.heap.size + 1 + 1 + 1, rfl, ?_, ?_, by omega, fun j => ?_, ?_⟩
  · go_light
    simp [results, Try.results10, go_sem, d1]
  · simp at hs1
    exact hs1.set_other (by simp) |>.set_other (by simp)
  · exact (hb0.setCell (by simp; omega) _).setCell (by simp) _
  · rw [World.frozen?_setCell, World.frozen?_setCell]; exact HF.out j
  · simp; exact HLt.out

set_option maxRecDepth 20000 in
set_option maxHeartbeats 1000000 in
theorem eqEntry_any (a : En) (w : World) :
    Calls Try.prog 52 #[.agg #[.string a.path, .string a.text, .bool a.runs], .agg #[.string a.path, .string a.text, .bool a.runs]] w fun e w' => e = .returned (.bool true) ∧ Below w.heap.size w w' := by
  go_enter Try.func52, Try.ntmps52
  go_wp2
  go_ret
  exact ⟨rfl, ((Below.refl _ _).alloc (Nat.le_refl _) _).alloc (by simp) _⟩

set_option maxRecDepth 20000 in
set_option maxHeartbeats 1000000 in
theorem eqEntryS_any (a a' : Option Addr) (cap cap' : Nat) (ts : List En) (w : World) (hss : ES w a ts) (hss' : ES w a' ts) (hn : ts.length ≤ 1048576) :
    Calls Try.prog 37 #[.slice a ts.length cap, .slice a' ts.length cap'] w fun e w' => e = .returned (.bool true) ∧ Below w.heap.size w w' := by
  go_enter Try.func37, Try.ntmps37
  go_wp2
  go_loopw [5] (fun i wr => ∃ k : Nat, k ≤ ts.length ∧ i = .int .i64 k ∧ Below w.heap.size w wr) (fun i _ => ts.length - (intOf i).toNat)
  case atStart => exact ⟨0, Nat.zero_le _, rfl, Below.refl _ _⟩
  case round =>
    obtain ⟨k, hk, rfl, hb⟩ := hrel
    by_cases hlt : k < ts.length
    · obtain ⟨b, off, rfl, hc⟩ := (hss.below hb).at hlt
      obtain ⟨b', off', rfl, hc'⟩ := (hss'.below hb).at hlt
      obtain ⟨c0, c1, c2⟩ := hc k hlt
      obtain ⟨d0, d1, d2⟩ := hc' k hlt
      clear hc hc'
      go_wp2
      go_region_with (go_at_call 52; refine (eqEntry_any ts[k] _).mono ?_; rintro e w2 ⟨rfl, hb2⟩)
      all_goals go_wp2
      all_goals go_roundw
      all_goals first | exact ⟨k + 1, by omega, by go_num, hb.drew.trans (hb2.mono hb.size)⟩ | (simp [intOf]; omega)
    · obtain rfl : k = ts.length := by omega
      go_wp2
      go_ret
      exact ⟨rfl, hb⟩

set_option maxRecDepth 20000 in
set_option maxHeartbeats 1000000 in
theorem eqTree_any (a a' : Option Addr) (cap cap' : Nat) (ts : List En) (w : World) (hss : ES w a ts) (hss' : ES w a' ts) (hn : ts.length ≤ 1048576) :
    Calls Try.prog 13 #[.agg #[.slice a ts.length cap], .agg #[.slice a' ts.length cap']] w fun e w' => e = .returned (.bool true) ∧ Below w.heap.size w w' := by
  have hb0 : ∀ o1 o2, Below w.heap.size w ((w.alloc o1).alloc o2) := fun o1 o2 => ((Below.refl _ _).alloc (Nat.le_refl _) _).alloc (by simp) _
  go_enter Try.func13, Try.ntmps13
  go_wp2_with fail
  refine (eqEntryS_any a a' cap cap' ts _ (hss.below (hb0 _ _)) (hss'.below (hb0 _ _)) hn).mono ?_
  rintro e w1 ⟨rfl, hb1⟩
  go_wp2
  go_ret
  exact ⟨rfl, (hb0 _ _).trans (hb1.mono (hb0 _ _).size)⟩
end Go.Proofs.Ytmeodgcnnjkilaa
