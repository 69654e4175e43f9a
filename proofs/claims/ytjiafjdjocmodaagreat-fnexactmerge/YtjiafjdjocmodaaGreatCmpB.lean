/-
  strings.Compare.
-/
import Derived.Test.YtjiafjdjocmodaaGreatRows
import Derived.WalkKit
import Derived.WalkSpells
import Derived.Lib.Bytealg
import Derived.Laws.Externs
import Derived.Laws.Strings3
namespace Go.Proofs.YtjiafjdjocmodaaGreat
open Go.RowKit Go.Lib

theorem compare_neg : ∀ {a b : List UInt8}, Lib.compareBytes a b < 0 ↔ Op.bytesLess a b = true
  | [], [] => by simp [Lib.compareBytes, Op.bytesLess]
  | [], _ :: _ => by simp [Lib.compareBytes, Op.bytesLess]
  | _ :: _, [] => by simp [Lib.compareBytes, Op.bytesLess]
  | x :: a, y :: b => by
    have ih := compare_neg (a := a) (b := b)
    by_cases h : x < y
    · simp [Lib.compareBytes, Op.bytesLess, h]
    · by_cases h2 : y < x
      · have hne : ¬ x = y := fun e => by subst e; exact h h2
        simp [Lib.compareBytes, Op.bytesLess, h, h2, hne]
      · have he : x = y := by
          rw [UInt8.lt_iff_toNat_lt] at h h2
          exact UInt8.toNat_inj.1 (by omega)
        subst he
        simp [Lib.compareBytes, Op.bytesLess, h, ih]

end Go.Proofs.YtjiafjdjocmodaaGreat
