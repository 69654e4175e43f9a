/-
  The laws' marks: laws.markStringS, over MarkB (where trees are marked too).
-/
import Derived.Test.YtmeodgcnnjkilaaMarkB
import Derived.Test.YtmeodgcnnjkilaaStrsB
namespace Go.Proofs.Ytmeodgcnnjkilaa
open Go.RowKit

def mixed (k : Nat) (ss : List ByteArray) (j : Nat) : List Value := (List.range ss.length).map fun i => if i < j then .string (mkS (k + i)) else .string (ss.getD i ⟨#[]⟩)
theorem mixed_zero (k : Nat) (ss : List ByteArray) : mixed k ss 0 = ss.map .string := by
  apply List.ext_getElem
  · simp [mixed]
  · intro i h1 h2
    simp [mixed] at h1 ⊢
    simp [h1]
theorem mixed_set (k : Nat) (ss : List ByteArray) (j : Nat) : (mixed k ss j).set j (.string (mkS (k + j))) = mixed k ss (j + 1) := by
  apply List.ext_getElem
  · simp [mixed]
  · intro i h1 h2
    simp only [mixed, List.length_map, List.length_range, List.length_set] at h1 h2
    simp only [mixed, List.getElem_set, List.getElem_map, List.getElem_range]
    by_cases hij : j = i
    · subst hij; simp
    · rw [if_neg hij]
      by_cases hlt : i < j
      · rw [if_pos hlt, if_pos (by omega)]
      · rw [if_neg hlt, if_neg (by omega)]
def marks (k n : Nat) : List ByteArray := (List.range n).map fun i => mkS (k + i)
theorem marks_len (k n : Nat) : (marks k n).length = n := by simp [marks]
theorem mixed_all (k : Nat) (ss : List ByteArray) : mixed k ss ss.length = (marks k ss.length).map .string := by
  apply List.ext_getElem
  · simp [mixed, marks]
  · intro i h1 h2
    simp [mixed] at h1
    simp [mixed, marks, h1]

def MarkPost (w : World) (B : Nat) (v : Value) (n k : Nat) (e : Ending) (w' : World) : Prop :=
  e = .returned (.int .i64 ((k + n : Nat) : Int)) ∧ w'.ownsRow B 9 1 v n ((marks k n).map .string) ∧ w.grownBy w' v.ownBlock

set_option maxRecDepth 20000 in
set_option maxHeartbeats 1000000 in
theorem markS_any (v : Value) (ss : List ByteArray) (k B : Nat) (w : World) (hown : w.ownsRow B 9 1 v ss.length (ss.map .string)) (h0 : 0 < k) (hk : k + ss.length ≤ 1099511627776) :
    Calls Try.prog 25 #[v, .int .i64 k] w fun e w' => MarkPost w B v ss.length k e w' := by
  obtain ⟨ad, cap, hv⟩ := owns_slice hown
  have hsome : 0 < ss.length → ∃ g, ad = some ⟨g, 0, none⟩ := fun hpos => by
    rcases hown.2 with ⟨_, h⟩ | ⟨g, c, cur, hv', _⟩
    · omega
    · rw [hv] at hv'; cases hv'; exact ⟨g, rfl⟩
  have HV : Hid (v = .slice ad ss.length cap) := hv
  rw [hv]
  rw [hv] at hown
  clear hv
  go_enter Try.func25, Try.ntmps25
  go_wp2
  go_loopw [1, 5] (fun q i wr => ∃ j : Nat, j ≤ ss.length ∧ i = .int .i64 j ∧ q = .int .i64 ((k + j : Nat) : Int) ∧ wr.ownsRow B 9 1 (.slice ad ss.length cap) ss.length (mixed k ss j) ∧ w.grownBy wr (Value.slice ad ss.length cap).ownBlock) (fun _ i _ => ss.length - (intOf i).toNat)
  case atStart => exact ⟨0, Nat.zero_le _, rfl, rfl, by rw [mixed_zero]; exact hown, ⟨rfl, rfl, rfl, Nat.le_refl _, fun _ _ _ => rfl⟩⟩
  case round =>
    obtain ⟨j, hj, rfl, rfl, hownr, hg⟩ := hrel
    by_cases hlt : j < ss.length
    · obtain ⟨g, rfl⟩ := hsome (by omega)
      go_wp2_with fail
      refine (markText_any (k + j) wr (by omega) (by omega)).mono ?_
      rintro e w1 ⟨rfl, hb1⟩
      have hown1 := owns_below hownr hb1
      have hfz := hown1.frozenAt j
      have hcw := hown1.cellAt j (by omega)
      have hcw' : ∃ u, w1.cell? ⟨g, j, none⟩ = some u := by
        rw [hcw]; exact ⟨_, List.getElem?_eq_getElem (by rw [hown1.1]; omega)⟩
      obtain ⟨u, hu⟩ := hcw'
      have hst := hown1.stored j (.string (mkS (k + j)))
      rw [mixed_set k ss j] at hst
      have hg1 : w.grownBy w1 (Value.slice (some ⟨g, 0, none⟩) ss.length cap).ownBlock := grown_trans hg (grown_below hb1)
      clear hcw hownr hown
      go_wp2
      go_roundw
      case rel => exact ⟨j + 1, by omega, by go_num, by go_num, hst.1, grown_trans hg1 (grown_setM w1 g j _)⟩
      case measure => simp [intOf]; omega
    · obtain rfl : j = ss.length := by omega
      go_wp2
      go_ret
      refine ⟨rfl, ?_, hg⟩
      rw [← mixed_all]
      exact hownr

end Go.Proofs.Ytmeodgcnnjkilaa
