/-
  impl.ValidPatch.
-/
import Derived.Test.YtcapcjojlpljiaaPatI
import Derived.Test.YtcapcjojlpljiaaGrow
namespace Go.Proofs.Ytcapcjojlpljiaa
open Go.RowKit

def lastB (cs : List Ch) : Nat → ByteArray
  | 0 => ⟨#[]⟩
  | k + 1 => (cs[k]?.map (·.path)).getD ⟨#[]⟩
theorem lastB_succ {cs : List Ch} {k : Nat} (h : k < cs.length) : lastB cs (k + 1) = cs[k].path := by simp [lastB, List.getElem?_eq_getElem h]

def VpPost (cs : List Ch) (w : World) (e : Ending) (w' : World) : Prop := ∃ vb : Bool, e = .returned (.bool vb) ∧ (vb = true ↔ ValidP cs) ∧ Below w.heap.size w w'
theorem VpPost.no {cs : List Ch} {w w' : World} (h : ¬ ValidP cs) (hb : Below w.heap.size w w') : VpPost cs w (.returned (.bool false)) w' := ⟨false, rfl, ⟨fun e => (by cases e), fun e => absurd e h⟩, hb⟩

/-- What is not behind the last one is not valid there. -/
theorem le_bad {cs : List Ch} {k : Nat} (hk : k < cs.length) (h : Op.bytesLess (lastB cs k).toList cs[k].path.toList = false) : ¬ ValidP cs := by
  intro hv
  obtain ⟨_, h1, h2⟩ := hv.2 k hk
  cases k with
  | zero =>
    simp only [chOk, Bool.and_eq_true] at h1
    have hp := path_pos h1.1.1.1
    have hl : cs[0].path.toList ≠ [] := by
      rw [Lib.toList_data]
      have : cs[0].path.data.toList.length = cs[0].path.size := (Lib.size_eq cs[0].path).symm
      intro e
      rw [e] at this
      simp at this
      omega
    have : Op.bytesLess (lastB cs 0).toList cs[0].path.toList = true := by
      have e0 : (lastB cs 0).toList = [] := by simp [lastB, Lib.toList_data]
      rw [e0]
      cases hx : cs[0].path.toList with
      | nil => exact absurd hx hl
      | cons a l => rfl
    rw [h] at this
    cases this
  | succ j =>
    have := h2 j rfl (by omega)
    rw [lastB_succ (by omega)] at h
    rw [h] at this
    cases this
theorem le_good {cs : List Ch} {k : Nat} (hk : k < cs.length) (h : Op.bytesLess (lastB cs k).toList cs[k].path.toList = true) (hc : chOk cs[k] = true) : POk cs k := by
  refine ⟨hk, hc, fun j hj hjl => ?_⟩
  subst hj
  rw [lastB_succ hjl] at h
  exact h

set_option maxRecDepth 100000 in
set_option maxHeartbeats 4000000 in
theorem implPatch_any (a : Option Addr) (cap : Nat) (cs : List Ch) (w : World) (hcs : CS w a cs) (hn : cs.length ≤ 1048576) (hz : ∀ c ∈ cs, c.path.size ≤ 1048576) :
    Calls Try.prog 15 #[.agg #[.slice a cs.length cap]] w fun e w' => VpPost cs w e w' := by
  have hal : Below w.heap.size w (w.alloc (.cells #[.slice a cs.length cap] 40)) := (Below.refl _ _).alloc (Nat.le_refl _) _
  by_cases h200 : (200 : Int) < cs.length
  · go_enter Try.func15, Try.ntmps15
    go_wp2
    go_ret
    exact VpPost.no (fun h => by have := h.1; omega) hal
  go_enter Try.func15, Try.ntmps15
  go_wp2
  go_loopw [3, 13] (fun l i wr => ∃ k : Nat, l = .string (lastB cs k) ∧ i = .int .i64 k ∧ k ≤ cs.length ∧ Keep (∀ j, j < k → POk cs j) ∧ Below w.heap.size w wr) (fun _ i _ => cs.length - (intOf i).toNat)
  case atStart => exact ⟨0, rfl, rfl, Nat.zero_le _, ⟨fun j hj => by omega⟩, hal⟩
  case round =>
    obtain ⟨k, rfl, rfl, hk, hok, hb⟩ := hrel
    by_cases hlt : k < cs.length
    · have hlt' : (k : Int) < cs.length := by omega
      obtain ⟨b, off, rfl, hc⟩ := (hcs.below hb).at hlt
      obtain ⟨c0, c1, c2, c3, c4, c5, c6⟩ := hc k hlt
      clear hc
      have htot := less_total (lastB cs k).toList cs[k].path.toList
      have HBAD : Keep (Op.bytesLess (lastB cs k).toList cs[k].path.toList = false → ¬ ValidP cs) := ⟨le_bad hlt⟩
      have HGOOD : Keep (Op.bytesLess (lastB cs k).toList cs[k].path.toList = true → chOk cs[k] = true → POk cs k) := ⟨le_good hlt⟩
      have HL : Keep (lastB cs (k + 1) = cs[k].path) := ⟨lastB_succ hlt⟩
      have hals : Below wr.heap.size wr (wr.alloc (.cells #[.string cs[k].path, .bool cs[k].old.there, .string cs[k].old.text, .bool cs[k].old.runs, .bool cs[k].new.there, .string cs[k].new.text, .bool cs[k].new.runs] 64)) := (Below.refl _ _).alloc (Nat.le_refl _) _
      have x0 : (wr.alloc (.cells #[.string cs[k].path, .bool cs[k].old.there, .string cs[k].old.text, .bool cs[k].old.runs, .bool cs[k].new.there, .string cs[k].new.text, .bool cs[k].new.runs] 64)).cell? ⟨wr.heap.size, 0, none⟩ = some (.string cs[k].path) := by simp
      have hbx := hb.trans (hals.mono hb.size)
      have hzk := hz cs[k] (List.getElem_mem hlt)
      cases hl : Op.bytesLess (lastB cs k).toList cs[k].path.toList with
      | false =>
        rw [hl] at htot
        have hle := htot.symm
        simp only [Bool.not_false] at hle
        have hbad := HBAD.out hl
        clear htot
        go_wp2
        go_ret
        exact VpPost.no hbad hbx
      | true =>
        rw [hl] at htot
        have hle := htot.symm
        simp only [Bool.not_true] at hle
        clear htot
        have hcall := isChange_any cs[k] (wr.alloc (.cells #[.string cs[k].path, .bool cs[k].old.there, .string cs[k].old.text, .bool cs[k].old.runs, .bool cs[k].new.there, .string cs[k].new.text, .bool cs[k].new.runs] 64)) (by omega)
        unfold chV at hcall
        go_wp2_with fail
        refine hcall.mono ?_
        rintro e w2 ⟨rfl, hb2⟩
        have hbw2 := hbx.trans (hb2.mono hbx.size)
        have x2 := cell_later hb2 x0
        clear hcall
        cases hck : chOk cs[k] with
        | false =>
          have hbad : ¬ ValidP cs := fun hv => by
            obtain ⟨_, h1, _⟩ := hv.2 k hlt
            rw [hck] at h1
            cases h1
          go_wp2
          go_ret
          exact VpPost.no hbad hbw2
        | true =>
          have HP : Keep (∀ j, j < k + 1 → POk cs j) := ⟨fun j hj => by
            by_cases e : j = k
            · subst e; exact HGOOD.out hl hck
            · exact hok.out j (by omega)⟩
          go_wp2
          go_roundw
          case rel => exact ⟨k + 1, by rw [HL.out], by congr 1, hlt, HP, hbw2⟩
          case measure => simp only [intOf]; omega
    · obtain rfl : k = cs.length := by omega
      go_wp2
      go_ret
      exact ⟨true, rfl, ⟨fun _ => ⟨by omega, hok.out⟩, fun _ => rfl⟩, hb⟩
end Go.Proofs.Ytcapcjojlpljiaa
