/-
  impl's isChange, ValidPatch; spec's l6FileOk.
-/
import Derived.Test.YtcapcjojlpljiaaPatP
namespace Go.Proofs.Ytcapcjojlpljiaa
open Go.RowKit

set_option maxRecDepth 20000 in
set_option maxHeartbeats 1000000 in
theorem l6FileOk_any (f : Fl) (w : World) :
    Calls Try.prog 32 #[.agg #[.bool f.there, .string f.text, .bool f.runs]] w fun e w' => e = .returned (.bool (flOk f)) ∧ Below w.heap.size w w' := by
  have hal : Below w.heap.size w (w.alloc (.cells #[.bool f.there, .string f.text, .bool f.runs] 62)) := (Below.refl _ _).alloc (Nat.le_refl _) _
  by_cases hs : (f.text.size : Int) ≤ 1500
  · have hs' : f.text.size ≤ 1500 := by omega
    cases ht : f.there with
    | true =>
      rw [ht] at hal
      go_enter Try.func32, Try.ntmps32
      go_wp2
      go_ret
      exact ⟨by simp [flOk, ht, hs'], hal⟩
    | false =>
      rw [ht] at hal
      cases he : f.text.toList.isEmpty with
      | true =>
        have he' : f.text.toList = [] := by simpa using he
        go_enter Try.func32, Try.ntmps32
        go_wp2
        go_ret
        exact ⟨by simp [flOk, ht, hs', he'], hal⟩
      | false =>
        have he' : ¬ f.text.toList = [] := by simpa using he
        go_enter Try.func32, Try.ntmps32
        go_wp2
        go_ret
        exact ⟨by simp [flOk, ht, hs', he'], hal⟩
  · have hs' : ¬ f.text.size ≤ 1500 := by omega
    go_enter Try.func32, Try.ntmps32
    go_wp2
    go_ret
    exact ⟨by simp [flOk, hs'], hal⟩

set_option maxRecDepth 20000 in
set_option maxHeartbeats 4000000 in
theorem isChange_any (c : Ch) (w : World) (hs : c.path.size ≤ 1099511627776) :
    Calls Try.prog 34 #[chV c] w fun e w' => e = .returned (.bool (chOk c)) ∧ Below w.heap.size w w' := by
  unfold chV
  have hal : Below w.heap.size w (w.alloc (.cells #[.string c.path, .bool c.old.there, .string c.old.text, .bool c.old.runs, .bool c.new.there, .string c.new.text, .bool c.new.runs] 64)) := (Below.refl _ _).alloc (Nat.le_refl _) _
  have hc : ChAt (w.alloc (.cells #[.string c.path, .bool c.old.there, .string c.old.text, .bool c.old.runs, .bool c.new.there, .string c.new.text, .bool c.new.runs] 64)) w.heap.size 0 c := by simp [ChAt]
  go_enter Try.func34, Try.ntmps34
  go_wp2_with fail
  refine (implPath_any c.path hs _).mono ?_
  rintro e w1 ⟨rfl, hb1⟩
  have hbw := hal.trans (hb1.mono hal.size)
  replace hc := hc.later hb1
  obtain ⟨d0, d1, d2, d3, d4, d5, d6⟩ := hc
  have HC : Keep (ChAt w1 w.heap.size 0 c) := ⟨⟨d0, d1, d2, d3, d4, d5, d6⟩⟩
  simp only [Nat.zero_add] at d0 d1 d2 d3 d4 d5 d6
  cases hp : pathOk pathB c.path with
  | false =>
    go_wp2
    go_ret
    exact ⟨by simp [chOk, hp], hbw⟩
  | true =>
    go_wp2_with fail
    refine (isFile_any c.old _).mono ?_
    rintro e w2 ⟨rfl, hb2⟩
    have hbw2 := hbw.trans (hb2.mono hbw.size)
    clear d0 d1 d2 d3 d4 d5 d6
    obtain ⟨d0, d1, d2, d3, d4, d5, d6⟩ := HC.out.later hb2
    have HC2 : Keep (ChAt w2 w.heap.size 0 c) := ⟨⟨d0, d1, d2, d3, d4, d5, d6⟩⟩
    simp only [Nat.zero_add] at d0 d1 d2 d3 d4 d5 d6
    cases ho : flOk c.old with
    | false =>
      go_wp2
      go_ret
      exact ⟨by simp [chOk, hp, ho], hbw2⟩
    | true =>
      go_wp2_with fail
      refine (isFile_any c.new _).mono ?_
      rintro e w3 ⟨rfl, hb3⟩
      have hbw3 := hbw2.trans (hb3.mono hbw2.size)
      clear d0 d1 d2 d3 d4 d5 d6
      obtain ⟨d0, d1, d2, d3, d4, d5, d6⟩ := HC2.out.later hb3
      simp only [Nat.zero_add] at d0 d1 d2 d3 d4 d5 d6
      cases hnw : flOk c.new with
      | false =>
        go_wp2
        go_ret
        exact ⟨by simp [chOk, hp, ho, hnw], hbw3⟩
      | true =>
        by_cases h1 : c.old.there = c.new.there
        · by_cases h2 : c.old.text.toList = c.new.text.toList
          · by_cases h3 : c.old.runs = c.new.runs
            · go_wp2
              go_ret
              exact ⟨by simp [chOk, hp, ho, hnw, sameF, h1, h2, h3], hbw3⟩
            · go_wp2
              go_ret
              exact ⟨by simp [chOk, hp, ho, hnw, sameF, h1, h2, h3], hbw3⟩
          · go_wp2
            go_ret
            exact ⟨by simp [chOk, hp, ho, hnw, sameF, h1, h2], hbw3⟩
        · go_wp2
          go_ret
          exact ⟨by simp [chOk, hp, ho, hnw, sameF, h1], hbw3⟩
end Go.Proofs.Ytcapcjojlpljiaa
