/-
  What the law of Feed leans on: rows and blocks that stay; markDecoder, heldDecoder.
-/
import Derived.Test.YtdlbmjmhlcaalaaFeedSpec
import Derived.Test.YtdlbmjmhlcaalaaMark
import Derived.Test.YtdlbmjmhlcaalaaDecOpen
namespace Go.Proofs.Ytdlbmjmhlcaalaa
open Go.RowKit

theorem ss_of_row {w : World} {base : Nat} {ad : Option Addr} {cp : Nat} {ss : List ByteArray} (h : w.ownsRow base 9 1 (.slice ad ss.length cp) ss.length (ss.map .string)) : SS w ad ss := by
  rcases h.2 with ⟨_, h0⟩ | ⟨g, c, cur, hv, _⟩
  · exact .inl (List.eq_nil_of_length_eq_zero h0)
  · cases hv
    exact ss_of_own h
theorem Fed.drew {W : World} {bf : Nat} {n : Int} {rest : ByteArray} {sl : Value} {bad : Bool} (h : Fed W bf n rest sl bad) : Fed W.drew bf n rest sl bad := h.later (Below.refl _ _).drew
theorem owns_grown {w w' : World} {base : Nat} {e : TypeId} {size : Nat} {v : Value} {n : Nat} {xs : List Value} {row : Option Nat} (h : w.ownsRow base e size v n xs) (hg : w.grownBy w' row) (hne : ∀ k, v.ownBlock = some k → some k ≠ row) : w'.ownsRow base e size v n xs := by
  refine ⟨h.1, ?_⟩
  rcases h.2 with h' | ⟨g, cap, cur, hv, h1, h2, h3⟩
  · exact .inl h'
  · refine .inr ⟨g, cap, cur, hv, h1, ?_, h3⟩
    rw [hg.block g (Array.getElem?_eq_some_iff.1 h2).1 (hne g (by rw [hv]; rfl))]; exact h2

set_option maxRecDepth 20000 in
set_option maxHeartbeats 1000000 in
theorem markDec_any (m : Int) (rest : ByteArray) (bad : Bool) (ad : Option Addr) (cp : Nat) (ss : List ByteArray) (B : Nat) (w : World) (hown : w.ownsRow B 9 1 (.slice ad ss.length cp) ss.length (ss.map .string)) (hn : ss.length ≤ 1048576) :
    Calls Try.prog 19 #[decV m rest (.slice ad ss.length cp) bad, .int .i64 1] w fun e w' => MarkPost w B (.slice ad ss.length cp) ss.length 1 e w' := by
  unfold decV
  go_enter Try.func19, Try.ntmps19
  go_wp2_with fail
  refine (markS_any (.slice ad ss.length cp) ss 1 B _ (hown.alloc _) (by omega) (by omega)).mono ?_
  rintro e w1 ⟨rfl, hown1, hg1⟩
  go_wp2
  go_ret
  refine ⟨rfl, hown1, ⟨hg1.os, hg1.tape, hg1.output, ?_, fun k hk hne => ?_⟩⟩
  · have := hg1.size; simp at this; omega
  · exact (hg1.block k (by simp; omega) hne).trans (heap_alloc_old w _ hk)

set_option maxRecDepth 20000 in
set_option maxHeartbeats 1000000 in
theorem heldDec_any (m : Int) (rest : ByteArray) (bad : Bool) (ad : Option Addr) (cp n : Nat) (w : World) (hss : SS w ad (marks 1 n)) (hn : n ≤ 1048576) :
    Calls Try.prog 20 #[decV m rest (.slice ad n cp) bad, .int .i64 1] w fun e w' => e = .returned (.int .i64 ((1 + n : Nat) : Int)) ∧ Below w.heap.size w w' := by
  unfold decV
  have hb0 : Below w.heap.size w (w.alloc (.cells #[.int .i64 m, .string rest, .slice ad n cp, .bool bad] 32)) := (Below.refl _ _).alloc (Nat.le_refl _) _
  go_enter Try.func20, Try.ntmps20
  go_wp2_with fail
  refine (heldS_any ad cp n 1 _ (hss.below hb0) (by omega) (by omega)).mono ?_
  rintro e w1 ⟨rfl, hb1⟩
  have hd : ¬ ((1 + n : Nat) : Int) < 0 := by omega
  go_wp2
  go_ret
  exact ⟨rfl, hb0.trans (hb1.mono hb0.size)⟩
end Go.Proofs.Ytdlbmjmhlcaalaa
