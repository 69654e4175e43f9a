/-
  The laws' helpers laws.szStringS, laws.toStringS, laws.eqStringS.
-/
import Derived.Test.YtmeodgcnnjkilaaStrsB
import Derived.WalkKit
import Derived.WalkSpells
import Derived.WalkLawsBesides
import Derived.Deep.Light
namespace Go.Proofs.Ytmeodgcnnjkilaa
open Go.RowKit

set_option maxHeartbeats 1000000 in
theorem sz_any (a : Option Addr) (cap : Nat) (ss : List ByteArray) (L : Nat) (w : World) (hss : SS w a ss) (hn : ss.length ≤ maxLen) (hL : L ≤ 1048576) (hm : ∀ s ∈ ss, s.size ≤ maxLen) :
    Calls Try.prog 20 #[.slice a ss.length cap, .int .i64 L] w fun e w' => ∃ r : Int, e = .returned (.int .i64 r) ∧ w = w' ∧ (r < 0 ∨ (r = L - ss.length - total ss ∧ ss.length + total ss ≤ L)) := by
  unfold maxLen at hn
  by_cases h0 : (L : Int) - ss.length < 0
  · go_enter Try.func20, Try.ntmps20
    go_wp2
    go_ret
    exact ⟨-1, rfl, rfl, .inl (by omega)⟩
  · go_enter Try.func20, Try.ntmps20
    go_wp2
    go_loop [1, 5] (fun l i => ∃ k : Nat, k ≤ ss.length ∧ i = .int .i64 k ∧ l = .int .i64 ((L : Int) - ss.length - total (ss.take k)) ∧ ss.length + total (ss.take k) ≤ L) (fun _ i => ss.length - (intOf i).toNat)
    case atStart => exact ⟨0, Nat.zero_le _, rfl, by simp [total], by simp [total]; omega⟩
    case round =>
      obtain ⟨k, hk, rfl, rfl, hle⟩ := hrel
      by_cases hlt : k < ss.length
      · obtain ⟨b, off, rfl, hc⟩ := hss.at hlt
        have hck := hc k hlt
        have HT : Hid (total (ss.take (k + 1)) = total (ss.take k) + ss[k].size) := total_take ss k hlt
        have hsz := hm ss[k] (List.getElem_mem hlt)
        unfold maxLen at hsz
        generalize total (ss.take k) = t at *
        clear hc
        by_cases hneg : (L : Int) - ss.length - t - ss[k].size < 0
        · go_wp2
          go_ret
          exact ⟨-1, rfl, rfl, .inl (by omega)⟩
        · go_wp2
          go_round
          case rel => exact ⟨k + 1, by omega, by go_num, by rw [HT.out]; go_num, by rw [HT.out]; omega⟩
          case measure => simp [intOf]; omega
      · obtain rfl : k = ss.length := by omega
        go_wp2
        go_ret
        rw [List.take_length] at *
        exact ⟨_, rfl, rfl, .inr ⟨rfl, hle⟩⟩

def filled (ss : List ByteArray) (k : Nat) : List Value := (ss.take k).map .string ++ List.replicate (ss.length - k) (.string ⟨#[]⟩)
theorem filled_set (ss : List ByteArray) (k : Nat) (h : k < ss.length) : (filled ss k).set k (.string ss[k]) = filled ss (k + 1) := by
  unfold filled
  have hl : ((ss.take k).map Value.string).length = k := by simp; omega
  rw [List.set_append_right _ _ (by omega), hl, Nat.sub_self, show ss.length - k = (ss.length - (k + 1)) + 1 by omega, List.replicate_succ, List.set_cons_zero]
  rw [List.take_succ_eq_append_getElem h, List.map_append, List.append_assoc]
  rfl
theorem filled_all (ss : List ByteArray) : filled ss ss.length = ss.map .string := by simp [filled]

set_option maxHeartbeats 1000000 in
theorem to_any (a : Option Addr) (cap : Nat) (ss : List ByteArray) (w : World) (hss : SS w a ss) (hn : ss.length ≤ 1048576) :
    Calls Try.prog 22 #[.slice a ss.length cap] w fun e w' => e = .returned (.slice (some ⟨w.heap.size, 0, none⟩) ss.length ss.length) ∧ w'.ownsRow w.heap.size 9 1 (.slice (some ⟨w.heap.size, 0, none⟩) ss.length ss.length) ss.length (ss.map .string) ∧ Below w.heap.size w w' := by
  obtain ⟨i0, hi, hz0, hz1, hz2⟩ := info_parts Try.infoStr
  go_enter Try.func22, Try.ntmps22
  go_wp2_with (at_make; refine wpList_make_full _ rfl _ _ 44 rfl w.heap.size 9 i0 _ 1 Try.underlying44 hi hz0 hz1 .i64 .i64 _ _ ss.length rfl rfl rfl rfl (by rw [hz2]; omega) (by unfold maxLen; omega) (Nat.le_refl _) ?_; intro w1 hown1 hgrow1)
  go_loopw [4] (fun i wr => ∃ k : Nat, k ≤ ss.length ∧ i = .int .i64 k ∧ wr.ownsRow w.heap.size 9 1 (.slice (some ⟨w.heap.size, 0, none⟩) ss.length ss.length) ss.length (filled ss k) ∧ Below w.heap.size w wr) (fun i _ => ss.length - (intOf i).toNat)
  case atStart =>
    refine ⟨0, Nat.zero_le _, rfl, ?_, (Below.refl _ _).grown hgrow1 (Nat.le_refl _) (fun k hk => by cases hk)⟩
    have e : (madeCells (Value.string ⟨#[]⟩).cells (ss.length * 1)).toList = filled ss 0 := by
      rw [Nat.mul_one]
      exact (toList_madeCells_one _ _).trans (by simp [filled])
    rw [← e]
    exact hown1
  case round =>
    obtain ⟨k, hk, rfl, hown, hb⟩ := hrel
    by_cases hlt : k < ss.length
    · obtain ⟨b, off, rfl, hc⟩ := (hss.below hb).at hlt
      have hck := hc k hlt
      have hfz := hown.frozenAt k
      have hcw := hown.cellAt k (by omega)
      have hcw' : ∃ u, wr.cell? ⟨w.heap.size, k, none⟩ = some u := by
        rw [hcw]; exact ⟨_, List.getElem?_eq_getElem (by rw [hown.1]; omega)⟩
      obtain ⟨u, hu⟩ := hcw'
      have hst := hown.stored k (.string ss[k])
      rw [filled_set ss k hlt] at hst
      clear hcw hc hown1 hgrow1
      go_wp2
      go_roundw
      case rel => exact ⟨k + 1, by omega, by go_num, hst.1, hb.setCell (Nat.le_refl _) _⟩
      case measure => simp [intOf]; omega
    · obtain rfl : k = ss.length := by omega
      go_wp2
      go_ret
      rw [filled_all] at hown
      exact ⟨rfl, hown, hb⟩

set_option maxHeartbeats 1000000 in
theorem eq_any (a a' : Option Addr) (cap cap' : Nat) (ss : List ByteArray) (w : World) (hss : SS w a ss) (hss' : SS w a' ss) (hn : ss.length ≤ 1048576) :
    Calls Try.prog 24 #[.slice a ss.length cap, .slice a' ss.length cap'] w fun e w' => e = .returned (.bool true) ∧ Below w.heap.size w w' := by
  go_enter Try.func24, Try.ntmps24
  go_wp2
  go_loopw [5] (fun i wr => ∃ k : Nat, k ≤ ss.length ∧ i = .int .i64 k ∧ Below w.heap.size w wr) (fun i _ => ss.length - (intOf i).toNat)
  case atStart => exact ⟨0, Nat.zero_le _, rfl, Below.refl _ _⟩
  case round =>
    obtain ⟨k, hk, rfl, hb⟩ := hrel
    by_cases hlt : k < ss.length
    · obtain ⟨b, off, rfl, hc⟩ := (hss.below hb).at hlt
      obtain ⟨b', off', rfl, hc'⟩ := (hss'.below hb).at hlt
      have hck := hc k hlt
      have hck' := hc' k hlt
      clear hc hc'
      go_wp2
      go_region
      all_goals (try go_wp2)
      go_roundw
      case rel => exact ⟨k + 1, by omega, by go_num, hb.drew⟩
      case measure => simp [intOf]; omega
    · obtain rfl : k = ss.length := by omega
      go_wp2
      go_ret
      exact ⟨rfl, hb⟩

end Go.Proofs.Ytmeodgcnnjkilaa
