/-
  Slices of changes ('CS w a cs'), and the laws' helpers over patches: szPatch, toPatch, eqPatch.
-/
import Derived.Test.YtcapcjojlpljiaaChangesB
import Derived.WalkKit
import Derived.WalkSpells
import Derived.WalkLawsBesides
import Derived.Deep.Light
import Derived.Deep.QuietTactic
import Derived.BigQuiet
import Derived.Deep.RegionWith
namespace Go.Proofs.Ytcapcjojlpljiaa
open Go.RowKit

set_option maxRecDepth 20000 in
set_option maxHeartbeats 1000000 in
theorem szFile_any (f : Fl) (L : Int) (w : World) (hL : 0 ≤ L ∧ L ≤ 1048576) (hm : f.text.size ≤ maxLen) :
    Calls Try.prog 64 #[.agg #[.bool f.there, .string f.text, .bool f.runs], .int .i64 L] w fun e w' => e = .returned (.int .i64 (if L - f.text.size < 0 then -1 else L - f.text.size)) ∧ Below w.heap.size w w' := by
  unfold maxLen at hm
  by_cases h1 : L - f.text.size < 0
  · rw [if_pos h1]
    go_enter Try.func64, Try.ntmps64
    go_wp2
    go_ret
    exact ⟨rfl, (Below.refl _ _).alloc (Nat.le_refl _) _⟩
  · rw [if_neg h1]
    go_enter Try.func64, Try.ntmps64
    go_wp2
    go_ret
    exact ⟨rfl, (Below.refl _ _).alloc (Nat.le_refl _) _⟩

set_option maxRecDepth 20000 in
set_option maxHeartbeats 1000000 in
theorem szChange_any (c : Ch) (L : Int) (w : World) (hL : 0 ≤ L ∧ L ≤ 1048576) (hm : chMax c) :
    Calls Try.prog 50 #[chV c, .int .i64 L] w fun e w' => e = .returned (.int .i64 (if L - sizeC c < 0 then -1 else L - sizeC c)) ∧ Below w.heap.size w w' := by
  obtain ⟨hm1, hm2, hm3⟩ := hm
  have hm1' := hm1
  unfold maxLen at hm1
  unfold chV sizeC
  have hal : Below w.heap.size w (w.alloc (.cells #[.string c.path, .bool c.old.there, .string c.old.text, .bool c.old.runs, .bool c.new.there, .string c.new.text, .bool c.new.runs] 87)) := (Below.refl _ _).alloc (Nat.le_refl _) _
  have hc : ChAt (w.alloc (.cells #[.string c.path, .bool c.old.there, .string c.old.text, .bool c.old.runs, .bool c.new.there, .string c.new.text, .bool c.new.runs] 87)) w.heap.size 0 c := by simp [ChAt]
  by_cases h1 : L - c.path.size < 0
  · rw [if_pos (by omega)]
    go_enter Try.func50, Try.ntmps50
    go_wp2
    go_ret
    exact ⟨rfl, hal⟩
  by_cases h2 : L - c.path.size - c.old.text.size < 0
  · rw [if_pos (by omega)]
    go_enter Try.func50, Try.ntmps50
    go_wp2_with fail
    refine (szFile_any c.old _ _ (by omega) hm2).mono ?_
    rintro e w1 ⟨rfl, hb1⟩
    have hbw := hal.trans (hb1.mono hal.size)
    obtain ⟨d0, d1, d2, d3, d4, d5, d6⟩ := hc.later hb1
    simp only [Nat.zero_add] at d0 d1 d2 d3 d4 d5 d6
    clear hc
    rw [if_pos (by omega)]
    go_wp2
    go_ret
    exact ⟨rfl, hbw⟩
  by_cases h3 : L - c.path.size - c.old.text.size - c.new.text.size < 0
  · rw [if_pos (by omega)]
    go_enter Try.func50, Try.ntmps50
    go_wp2_with fail
    refine (szFile_any c.old _ _ (by omega) hm2).mono ?_
    rintro e w1 ⟨rfl, hb1⟩
    have hbw := hal.trans (hb1.mono hal.size)
    obtain ⟨d0, d1, d2, d3, d4, d5, d6⟩ := hc.later hb1
    simp only [Nat.zero_add] at d0 d1 d2 d3 d4 d5 d6
    clear hc
    rw [if_neg (by omega)]
    go_wp2_with fail
    refine (szFile_any c.new _ _ (by omega) hm3).mono ?_
    rintro e w2 ⟨rfl, hb2⟩
    have hbw2 := hbw.trans (hb2.mono hbw.size)
    rw [if_pos (by omega)]
    go_wp2
    go_ret
    exact ⟨rfl, hbw2⟩
  · rw [if_neg (by omega), show L - ((c.path.size + c.old.text.size + c.new.text.size : Nat) : Int) = L - c.path.size - c.old.text.size - c.new.text.size by omega]
    go_enter Try.func50, Try.ntmps50
    go_wp2_with fail
    refine (szFile_any c.old _ _ (by omega) hm2).mono ?_
    rintro e w1 ⟨rfl, hb1⟩
    have hbw := hal.trans (hb1.mono hal.size)
    obtain ⟨d0, d1, d2, d3, d4, d5, d6⟩ := hc.later hb1
    simp only [Nat.zero_add] at d0 d1 d2 d3 d4 d5 d6
    clear hc
    rw [if_neg (by omega)]
    go_wp2_with fail
    refine (szFile_any c.new _ _ (by omega) hm3).mono ?_
    rintro e w2 ⟨rfl, hb2⟩
    have hbw2 := hbw.trans (hb2.mono hbw.size)
    rw [if_neg (by omega)]
    go_wp2
    go_ret
    exact ⟨rfl, hbw2⟩

set_option maxRecDepth 20000 in
set_option maxHeartbeats 1000000 in
theorem toFile_any (f : Fl) (w : World) :
    Calls Try.prog 65 #[.agg #[.bool f.there, .string f.text, .bool f.runs]] w fun e w' => e = .returned (.agg #[.bool f.there, .string f.text, .bool f.runs]) ∧ Below w.heap.size w w' := by
  go_enter Try.func65, Try.ntmps65
  go_wp2
  refine bodyPost_ret (v := .agg #[.bool f.there, .string f.text, .bool f.runs]) ?_ rfl ⟨rfl, ?_⟩
  · go_light
    simp [results, Try.results65, go_sem]
  · exact (((Below.refl _ _).alloc (Nat.le_refl _) _).alloc (by simp) _).alloc (by simp; omega) _

set_option maxRecDepth 20000 in
set_option maxHeartbeats 1000000 in
theorem eqFile_any (f : Fl) (w : World) :
    Calls Try.prog 68 #[.agg #[.bool f.there, .string f.text, .bool f.runs], .agg #[.bool f.there, .string f.text, .bool f.runs]] w fun e w' => e = .returned (.bool true) ∧ Below w.heap.size w w' := by
  go_enter Try.func68, Try.ntmps68
  go_wp2
  go_ret
  exact ⟨rfl, ((Below.refl _ _).alloc (Nat.le_refl _) _).alloc (by simp) _⟩
end Go.Proofs.Ytcapcjojlpljiaa
