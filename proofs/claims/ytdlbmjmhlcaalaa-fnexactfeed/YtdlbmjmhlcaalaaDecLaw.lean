/-
  The laws' helpers of decoders: laws.szDecoder, laws.toDecoder, laws.eqDecoder.
-/
import Derived.Test.YtdlbmjmhlcaalaaSpecDec
import Derived.Test.YtdlbmjmhlcaalaaStrs
namespace Go.Proofs.Ytdlbmjmhlcaalaa
open Go.RowKit

set_option maxRecDepth 20000 in
set_option maxHeartbeats 1000000 in
theorem szDec_any (m : Int) (rest : ByteArray) (a : Option Addr) (cap : Nat) (ss : List ByteArray) (bad : Bool) (w : World) (hss : SS w a ss) (hn : ss.length ≤ maxLen) (hm : ∀ s ∈ ss, s.size ≤ maxLen) (hr : rest.size ≤ maxLen) :
    Calls Try.prog 12 #[decV m rest (.slice a ss.length cap) bad, .int .i64 1048576] w fun e w' => ∃ r : Int, e = .returned (.int .i64 r) ∧ Below w.heap.size w w' ∧ (r < 0 ∨ (0 ≤ r ∧ rest.size + ss.length + total ss ≤ 1048576)) := by
  unfold decV
  unfold maxLen at hr
  have hb0 : Below w.heap.size w (w.alloc (.cells #[.int .i64 m, .string rest, .slice a ss.length cap, .bool bad] 29)) := (Below.refl _ _).alloc (Nat.le_refl _) _
  by_cases h0 : (1048576 : Int) - rest.size < 0
  · go_enter Try.func12, Try.ntmps12
    go_wp2
    go_ret
    exact ⟨-1, rfl, hb0, .inl (by omega)⟩
  · have e : (1048576 : Int) - rest.size = ((1048576 - rest.size : Nat) : Int) := by omega
    go_enter Try.func12, Try.ntmps12
    go_wp2_with fail
    refine (sz_any a cap ss (1048576 - rest.size) _ (hss.below hb0) hn (by omega) hm).mono ?_
    rintro e2 w1 ⟨r, rfl, rfl, hr2⟩
    rcases hr2 with hr2 | ⟨hr2, hle⟩
    · go_wp2
      go_ret
      exact ⟨-1, rfl, hb0, .inl (by omega)⟩
    · have hr3 : ¬ r < 0 := by omega
      have HL : Hid (rest.size + ss.length + total ss ≤ 1048576) := by
        have : rest.size + ss.length + total ss ≤ 1048576 := by omega
        exact this
      clear hr2 hle
      go_wp2
      go_ret
      exact ⟨r, rfl, hb0, .inr ⟨by omega, HL.out⟩⟩

/-- The row of strings that toDecoder makes, somewhere at or behind base. -/
def DecPost (w : World) (m : Int) (rest : ByteArray) (ss : List ByteArray) (bad : Bool) (e : Ending) (w' : World) : Prop :=
  ∃ g, e = .returned (decV m rest (.slice (some ⟨g, 0, none⟩) ss.length ss.length) bad) ∧ w'.ownsRow w.heap.size 9 1 (.slice (some ⟨g, 0, none⟩) ss.length ss.length) ss.length (ss.map .string) ∧ Below w.heap.size w w'

set_option maxRecDepth 20000 in
set_option maxHeartbeats 1000000 in
theorem toDec_any (m : Int) (rest : ByteArray) (a : Option Addr) (cap : Nat) (ss : List ByteArray) (bad : Bool) (w : World) (hss : SS w a ss) (hn : ss.length ≤ 1048576) :
    Calls Try.prog 14 #[decV m rest (.slice a ss.length cap) bad] w fun e w' => DecPost w m rest ss bad e w' := by
  unfold decV
  go_enter Try.func14, Try.ntmps14
  go_wp2_with fail
  have hbA : Below w.heap.size w (((w.alloc (.cells #[.int .i64 m, .string rest, .slice a ss.length cap, .bool bad] 29)).alloc (.cells #[.int .i64 0, .string ⟨#[]⟩, .slice none 0 0, .bool false] 32)).alloc (.cells #[.int .i64 m, .string rest, .slice none 0 0, .bool false] 32)) := (((Below.refl _ _).alloc (Nat.le_refl _) _).alloc (by simp) _).alloc (by simp; omega) _
  refine (to_any a cap ss _ (hss.below hbA) hn).mono ?_
  rintro e w1 ⟨rfl, hs1, hb1⟩
  have hz := hb1.size
  have d03 := hb1.cell (p := ⟨w.heap.size, 3, none⟩) (by simp; omega)
  have d10 := hb1.cell (p := ⟨w.heap.size + 1, 0, none⟩) (by simp)
  have d11 := hb1.cell (p := ⟨w.heap.size + 1, 1, none⟩) (by simp)
  have d12 := hb1.cell (p := ⟨w.heap.size + 1, 2, none⟩) (by simp)
  have d13 := hb1.cell (p := ⟨w.heap.size + 1, 3, none⟩) (by simp)
  have d20 := hb1.cell (p := ⟨w.heap.size + 1 + 1, 0, none⟩) (by simp)
  have d21 := hb1.cell (p := ⟨w.heap.size + 1 + 1, 1, none⟩) (by simp)
  have d22 := hb1.cell (p := ⟨w.heap.size + 1 + 1, 2, none⟩) (by simp)
  have d23 := hb1.cell (p := ⟨w.heap.size + 1 + 1, 3, none⟩) (by simp)
  have f1 : ∀ j, w1.frozen? ⟨w.heap.size + 1, j, none⟩ = false := fun j => by rw [hb1.frozen (p := ⟨w.heap.size + 1, j, none⟩) (by simp)]; simp [go_sem]
  have f2 : ∀ j, w1.frozen? ⟨w.heap.size + 1 + 1, j, none⟩ = false := fun j => by rw [hb1.frozen (p := ⟨w.heap.size + 1 + 1, j, none⟩) (by simp)]; simp [go_sem]
  simp [go_sem] at d03 d10 d11 d12 d13 d20 d21 d22 d23 hz
  have hb0 : Below w.heap.size w w1 := hbA.trans (hb1.mono hbA.size)
  go_wp2
  refine bodyPost_ret (v := decV m rest (.slice (some ⟨w.heap.size + 1 + 1 + 1, 0, none⟩) ss.length ss.length) bad) ?_ rfl ⟨w.heap.size + 1 + 1 + 1, rfl, ?_, ?_⟩
  · go_light
    simp [results, Try.results14, go_sem, d10, d11, d12, d13, decV]
  · have hs2 := owns_mono hs1 (b := w.heap.size) (by simp; omega)
    simp at hs2
    have n1 : some (w.heap.size + 1) ≠ (Value.slice (some ⟨w.heap.size + 1 + 1 + 1, 0, none⟩) ss.length ss.length).ownBlock := by simp [Value.ownBlock]
    have n2 : some (w.heap.size + 1 + 1) ≠ (Value.slice (some ⟨w.heap.size + 1 + 1 + 1, 0, none⟩) ss.length ss.length).ownBlock := by simp [Value.ownBlock]
    exact owns_set (owns_set (owns_set (owns_set (owns_set (owns_set hs2 n2) n2) n1) n1) n1) n1
  · exact (((((hb0.setCell (by simp; omega) _).setCell (by simp; omega) _).setCell (by simp) _).setCell (by simp) _).setCell (by simp) _).setCell (by simp) _

set_option maxRecDepth 20000 in
set_option maxHeartbeats 1000000 in
theorem eqDec_any (m : Int) (rest : ByteArray) (a a' : Option Addr) (cap cap' : Nat) (ss : List ByteArray) (bad : Bool) (w : World) (hss : SS w a ss) (hss' : SS w a' ss) (hn : ss.length ≤ 1048576) :
    Calls Try.prog 16 #[decV m rest (.slice a ss.length cap) bad, decV m rest (.slice a' ss.length cap') bad] w fun e w' => e = .returned (.bool true) ∧ Below w.heap.size w w' := by
  unfold decV
  have hbA : Below w.heap.size w ((w.alloc (.cells #[.int .i64 m, .string rest, .slice a ss.length cap, .bool bad] 32)).alloc (.cells #[.int .i64 m, .string rest, .slice a' ss.length cap', .bool bad] 32)) := ((Below.refl _ _).alloc (Nat.le_refl _) _).alloc (by simp) _
  go_enter Try.func16, Try.ntmps16
  go_wp2_with fail
  refine (eq_any a a' cap cap' ss _ (hss.below hbA) (hss'.below hbA) hn).mono ?_
  rintro e w1 ⟨rfl, hb1⟩
  have d03 := hb1.cell (p := ⟨w.heap.size, 3, none⟩) (by simp; omega)
  have d13 := hb1.cell (p := ⟨w.heap.size + 1, 3, none⟩) (by simp)
  simp [go_sem] at d03 d13
  go_wp2
  go_ret
  exact ⟨rfl, hbA.trans (hb1.mono hbA.size)⟩
end Go.Proofs.Ytdlbmjmhlcaalaa
