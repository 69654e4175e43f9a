/-
  The laws' marks: laws.markText; what grows.
-/
import Derived.Test.YtmeodgcnnjkilaaBase
import Derived.Deep.RegionHeld3
import Derived.Lib.AppendStr
import Derived.WalkKit
import Derived.WalkSpells
import Derived.WalkLawsBesides
import Derived.Deep.Light
namespace Go.Proofs.Ytmeodgcnnjkilaa
open Go.RowKit

theorem conv_oneM (x : Int) (w : World) : (convert 87 9 (.slice (some ⟨w.heap.size, 0, none⟩) 1 1)).run Try.prog (w.alloc (.cells #[.int .u8 x] 5)) = .ok (.string (strOfNums [x])) (w.alloc (.cells #[.int .u8 x] 5)) := by
  refine run_convert_bytes_arg _ 87 5 Try.underlying87 Try.underlying5 _ 0 1 1 [x] rfl ?_ 9 Try.underlying9
  intro i hi
  obtain rfl : i = 0 := by omega
  simp

def dgF : Nat → Nat → ByteArray → ByteArray
  | 0, _, out => out
  | f + 1, k, out => if k = 0 then out else dgF f (k / 10) (strOfNums [((48 + k % 10 : Nat) : Int)] ++ out)
theorem dgF_on : ∀ (f g k : Nat) (out : ByteArray), k ≤ f → k ≤ g → dgF f k out = dgF g k out
  | 0, 0, _, _, _, _ => rfl
  | 0, g + 1, k, out, h, _ => by rw [dgF, dgF, if_pos (by omega)]
  | f + 1, 0, k, out, _, h => by rw [dgF, dgF, if_pos (by omega)]
  | f + 1, g + 1, k, out, h1, h2 => by
    rw [dgF, dgF]
    split
    · rfl
    · exact dgF_on f g (k / 10) _ (by omega) (by omega)
def dg (k : Nat) (out : ByteArray) : ByteArray := dgF k k out
theorem dg_zero (out : ByteArray) : dg 0 out = out := rfl
theorem dg_pos {k : Nat} (h : 0 < k) (out : ByteArray) : dg k out = dg (k / 10) (strOfNums [((48 + k % 10 : Nat) : Int)] ++ out) := by
  obtain ⟨m, rfl⟩ : ∃ m, k = m + 1 := ⟨k - 1, by omega⟩
  rw [dg, dgF, if_neg (by omega)]
  exact dgF_on m _ _ _ (by omega) (Nat.le_refl _)
def mkS (k : Nat) : ByteArray := ⟨#[109]⟩ ++ dg k ⟨#[]⟩

set_option maxHeartbeats 1000000 in
theorem markText_any (k : Nat) (w : World) (h0 : 0 < k) (hk : k ≤ 1099511627776) :
    Calls Try.prog 47 #[.int .i64 k] w fun e w' => e = .returned (.string (mkS k)) ∧ Below w.heap.size w w' := by
  have hd : ¬ (k : Int) ≤ 0 := by omega
  go_enter Try.func47, Try.ntmps47
  go_wp2
  go_loopw [0, 3] (fun q o wr => ∃ (q' : Nat) (out : ByteArray), q = .int .i64 q' ∧ o = .string out ∧ out.size + q' ≤ k ∧ dg q' out = dg k ⟨#[]⟩ ∧ Below w.heap.size w wr) (fun q _ _ => (intOf q).toNat)
  case atStart => exact ⟨k, ⟨#[]⟩, rfl, rfl, Nat.le_of_eq (Nat.zero_add k), rfl, Below.refl _ _⟩
  case round =>
    obtain ⟨q, out, rfl, rfl, hle, he, hb⟩ := hrel
    have HE : Hid (dg q out = dg k ⟨#[]⟩) := he
    clear he
    by_cases hq : 0 < q
    · have hq' : (0 : Int) < q := by omega
      have hcv := conv_oneM (48 + (q : Int) % 10)
      have hsz : ¬ 9223372036854775807 < (strOfNums [48 + (q : Int) % 10]).size + out.size := by
        rw [strOfNums_size]; simp; omega
      have HS : Hid ((strOfNums [48 + (q : Int) % 10]).size = 1) := by
        have : (strOfNums [48 + (q : Int) % 10]).size = 1 := by rw [strOfNums_size]; rfl
        exact this
      go_wp2
      go_roundw
      case rel =>
        refine ⟨q / 10, _, by go_num, rfl, ?_, ?_, hb.alloc hb.size _⟩
        · rw [ByteArray.size_append, HS.out]; omega
        · rw [← HE.out, dg_pos hq]
          congr 1
      case measure => simp [intOf]; omega
    · obtain rfl : q = 0 := by omega
      have hsz : ¬ 9223372036854775807 < (⟨#[109]⟩ : ByteArray).size + out.size := by
        have : (⟨#[109]⟩ : ByteArray).size = 1 := rfl
        omega
      have HF : Hid (out = dg k ⟨#[]⟩) := by
        have : out = dg k ⟨#[]⟩ := by rw [← HE.out, dg_zero]
        exact this
      go_wp2
      go_ret
      refine ⟨?_, hb⟩
      unfold mkS
      rw [← HF.out]
      rfl

theorem grown_below {w w' : World} {row : Option Nat} (h : Below w.heap.size w w') : w.grownBy w' row := ⟨h.os, h.tape, h.output, h.size, fun k hk _ => h.block k hk⟩
theorem grown_trans {w w1 w2 : World} {row : Option Nat} (h : w.grownBy w1 row) (k : w1.grownBy w2 row) : w.grownBy w2 row :=
  ⟨k.os.trans h.os, k.tape.trans h.tape, k.output.trans h.output, Nat.le_trans h.size k.size, fun i hi hne => (k.block i (Nat.lt_of_lt_of_le hi h.size) hne).trans (h.block i hi hne)⟩
theorem grown_setM (w : World) (g i : Nat) (u : Value) : w.grownBy (w.setCell ⟨g, i, none⟩ u) (some g) :=
  ⟨rfl, rfl, rfl, by simp, fun k _ hne => Below.heap_setCell w _ u k fun e => hne (by rw [e])⟩

end Go.Proofs.Ytmeodgcnnjkilaa
