/-
  The laws' helpers over patches: szPatch, toPatch, eqPatch.
-/
import Derived.Test.YtcapcjojlpljiaaChangesL
import Derived.Deep.RegionHeld3
namespace Go.Proofs.Ytcapcjojlpljiaa
open Go.RowKit

set_option maxRecDepth 20000 in
set_option maxHeartbeats 1000000 in
theorem szChangeS_any (a : Option Addr) (cap : Nat) (cs : List Ch) (w : World) (hss : CS w a cs) (hn : cs.length ≤ maxLen) (hm : ∀ s ∈ cs, chMax s) :
    Calls Try.prog 31 #[.slice a cs.length cap, .int .i64 1048576] w fun e w' => ∃ r : Int, e = .returned (.int .i64 r) ∧ Below w.heap.size w w' ∧ ((r = -1) ∨ (0 ≤ r ∧ cs.length + totalC cs ≤ 1048576)) := by
  unfold maxLen at hn
  by_cases h0 : (1048576 : Int) - cs.length < 0
  · go_enter Try.func31, Try.ntmps31
    go_wp2
    go_ret
    exact ⟨-1, rfl, Below.refl _ _, .inl rfl⟩
  · go_enter Try.func31, Try.ntmps31
    go_wp2
    go_loopw [1, 5] (fun l i wr => ∃ k : Nat, k ≤ cs.length ∧ i = .int .i64 k ∧ l = .int .i64 ((1048576 : Int) - cs.length - totalC (cs.take k)) ∧ cs.length + totalC (cs.take k) ≤ 1048576 ∧ Below w.heap.size w wr) (fun _ i _ => cs.length - (intOf i).toNat)
    case atStart => exact ⟨0, Nat.zero_le _, rfl, by simp [totalC], by simp [totalC]; omega, Below.refl _ _⟩
    case round =>
      obtain ⟨k, hk, rfl, rfl, hle, hb⟩ := hrel
      by_cases hlt : k < cs.length
      · obtain ⟨b, off, rfl, hc⟩ := (hss.below hb).at hlt
        obtain ⟨c0, c1, c2, c3, c4, c5, c6⟩ := hc k hlt
        have HT : Hid (totalC (cs.take (k + 1)) = totalC (cs.take k) + sizeC cs[k]) := totalC_take cs k hlt
        have hsz := hm cs[k] (List.getElem_mem hlt)
        generalize totalC (cs.take k) = t at *
        clear hc
        have hcall := szChange_any cs[k] ((1048576 : Int) - cs.length - t) wr (by omega) hsz
        unfold chV at hcall
        go_wp2_with fail
        refine hcall.mono ?_
        rintro e w1 ⟨rfl, hb1⟩
        by_cases hneg : (1048576 : Int) - cs.length - t - sizeC cs[k] < 0
        · rw [if_pos hneg]
          clear hcall
          go_wp2
          go_ret
          exact ⟨-1, rfl, hb.trans (hb1.mono hb.size), .inl rfl⟩
        · rw [if_neg hneg]
          clear hcall
          go_wp2
          go_roundw
          case rel => exact ⟨k + 1, by omega, by go_num, by rw [HT.out]; go_num, by rw [HT.out]; omega, hb.trans (hb1.mono hb.size)⟩
          case measure => simp [intOf]; omega
      · obtain rfl : k = cs.length := by omega
        go_wp2
        go_ret
        rw [List.take_length] at *
        exact ⟨_, rfl, hb, .inr ⟨by omega, hle⟩⟩

set_option maxRecDepth 20000 in
set_option maxHeartbeats 1000000 in
theorem szPatch_any (a : Option Addr) (cap : Nat) (cs : List Ch) (w : World) (hss : CS w a cs) (hn : cs.length ≤ maxLen) (hm : ∀ s ∈ cs, chMax s) :
    Calls Try.prog 12 #[.agg #[.slice a cs.length cap], .int .i64 1048576] w fun e w' => ∃ r : Int, e = .returned (.int .i64 r) ∧ Below w.heap.size w w' ∧ ((r = -1) ∨ (0 ≤ r ∧ cs.length + totalC cs ≤ 1048576)) := by
  go_enter Try.func12, Try.ntmps12
  go_wp2_with fail
  refine (szChangeS_any a cap cs _ (hss.below ((Below.refl _ _).alloc (Nat.le_refl _) _)) hn hm).mono ?_
  rintro e w1 ⟨r, rfl, hb, hr⟩
  have hb0 : Below w.heap.size w w1 := ((Below.refl _ _).alloc (Nat.le_refl _) _).trans (hb.mono (by simp))
  rcases hr with rfl | ⟨h0, h1⟩
  · go_wp2
    go_ret
    exact ⟨-1, rfl, hb0, .inl rfl⟩
  · go_wp2
    go_ret
    exact ⟨r, rfl, hb0, .inr ⟨h0, h1⟩⟩

set_option maxRecDepth 20000 in
set_option maxHeartbeats 1000000 in
theorem eqChange_any (c : Ch) (w : World) :
    Calls Try.prog 54 #[chV c, chV c] w fun e w' => e = .returned (.bool true) ∧ Below w.heap.size w w' := by
  unfold chV
  have hal : Below w.heap.size w ((w.alloc (.cells #[.string c.path, .bool c.old.there, .string c.old.text, .bool c.old.runs, .bool c.new.there, .string c.new.text, .bool c.new.runs] 64)).alloc (.cells #[.string c.path, .bool c.old.there, .string c.old.text, .bool c.old.runs, .bool c.new.there, .string c.new.text, .bool c.new.runs] 64)) := ((Below.refl _ _).alloc (Nat.le_refl _) _).alloc (by simp) _
  have hc : ChAt ((w.alloc (.cells #[.string c.path, .bool c.old.there, .string c.old.text, .bool c.old.runs, .bool c.new.there, .string c.new.text, .bool c.new.runs] 64)).alloc (.cells #[.string c.path, .bool c.old.there, .string c.old.text, .bool c.old.runs, .bool c.new.there, .string c.new.text, .bool c.new.runs] 64)) w.heap.size 0 c := by simp [ChAt]
  have hd : ChAt ((w.alloc (.cells #[.string c.path, .bool c.old.there, .string c.old.text, .bool c.old.runs, .bool c.new.there, .string c.new.text, .bool c.new.runs] 64)).alloc (.cells #[.string c.path, .bool c.old.there, .string c.old.text, .bool c.old.runs, .bool c.new.there, .string c.new.text, .bool c.new.runs] 64)) (w.heap.size + 1) 0 c := by simp [ChAt]
  go_enter Try.func54, Try.ntmps54
  go_wp2_with fail
  refine (eqFile_any c.old _).mono ?_
  rintro e w1 ⟨rfl, hb1⟩
  have hbw := hal.trans (hb1.mono hal.size)
  obtain ⟨c0, c1, c2, c3, c4, c5, c6⟩ := hc.later hb1
  obtain ⟨d0, d1, d2, d3, d4, d5, d6⟩ := hd.later hb1
  simp only [Nat.zero_add] at c0 c1 c2 c3 c4 c5 c6 d0 d1 d2 d3 d4 d5 d6
  clear hc hd
  go_wp2_with fail
  refine (eqFile_any c.new _).mono ?_
  rintro e w2 ⟨rfl, hb2⟩
  have hbw2 := hbw.trans (hb2.mono hbw.size)
  go_wp2
  go_ret
  exact ⟨rfl, hbw2⟩

set_option maxRecDepth 20000 in
set_option maxHeartbeats 2000000 in
theorem eqChangeS_any (a a' : Option Addr) (cap cap' : Nat) (cs : List Ch) (w : World) (hss : CS w a cs) (hss' : CS w a' cs) (hn : cs.length ≤ 1048576) :
    Calls Try.prog 35 #[.slice a cs.length cap, .slice a' cs.length cap'] w fun e w' => e = .returned (.bool true) ∧ Below w.heap.size w w' := by
  go_enter Try.func35, Try.ntmps35
  go_wp2
  go_loopw [5] (fun i wr => ∃ k : Nat, k ≤ cs.length ∧ i = .int .i64 k ∧ Below w.heap.size w wr) (fun i _ => cs.length - (intOf i).toNat)
  case atStart => exact ⟨0, Nat.zero_le _, rfl, Below.refl _ _⟩
  case round =>
    obtain ⟨k, hk, rfl, hb⟩ := hrel
    by_cases hlt : k < cs.length
    · obtain ⟨b, off, rfl, hc⟩ := (hss.below hb).at hlt
      obtain ⟨b', off', rfl, hc'⟩ := (hss'.below hb).at hlt
      obtain ⟨c0, c1, c2, c3, c4, c5, c6⟩ := hc k hlt
      obtain ⟨d0, d1, d2, d3, d4, d5, d6⟩ := hc' k hlt
      clear hc hc'
      have hcall := eqChange_any cs[k]
      unfold chV at hcall
      go_wp2
      go_region_with (go_at_call 54; refine (hcall _).mono ?_; rintro e w2 ⟨rfl, hb2⟩)
      all_goals clear hcall
      all_goals go_wp2
      all_goals go_roundw
      all_goals first | exact ⟨k + 1, by omega, by go_num, hb.drew.trans (hb2.mono hb.size)⟩ | (simp [intOf]; omega)
    · obtain rfl : k = cs.length := by omega
      go_wp2
      go_ret
      exact ⟨rfl, hb⟩

set_option maxRecDepth 20000 in
set_option maxHeartbeats 1000000 in
theorem eqPatch_any (a a' : Option Addr) (cap cap' : Nat) (cs : List Ch) (w : World) (hss : CS w a cs) (hss' : CS w a' cs) (hn : cs.length ≤ 1048576) :
    Calls Try.prog 16 #[.agg #[.slice a cs.length cap], .agg #[.slice a' cs.length cap']] w fun e w' => e = .returned (.bool true) ∧ Below w.heap.size w w' := by
  have hb0 : ∀ o1 o2, Below w.heap.size w ((w.alloc o1).alloc o2) := fun o1 o2 => ((Below.refl _ _).alloc (Nat.le_refl _) _).alloc (by simp) _
  go_enter Try.func16, Try.ntmps16
  go_wp2_with fail
  refine (eqChangeS_any a a' cap cap' cs _ (hss.below (hb0 _ _)) (hss'.below (hb0 _ _)) hn).mono ?_
  rintro e w1 ⟨rfl, hb1⟩
  go_wp2
  go_ret
  exact ⟨rfl, (hb0 _ _).trans (hb1.mono (hb0 _ _).size)⟩
end Go.Proofs.Ytcapcjojlpljiaa
