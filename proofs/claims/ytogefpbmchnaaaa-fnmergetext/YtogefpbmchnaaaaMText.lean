/-
  MergeText, both sides, at every argument.
-/
import Derived.Test.YtogefpbmchnaaaaMergeI
namespace Go.Proofs.Ytogefpbmchnaaaa
open Go.RowKit

/-- What merging three texts gives, and both sides give it. -/
def MText (sb sa sc : ByteArray) (o : Option (List UInt8)) : Prop :=
  (sb.size ≤ 1500 ∧ sa.size ≤ 1500 ∧ sc.size ≤ 1500 ∧ ∃ pa pb, CommT (linesB sb) (linesB sa) pa ∧ CommT (linesB sb) (linesB sc) pb ∧ o = mergeL (linesB sb) (linesB sa) (linesB sc) pa pb) ∨ ((1500 < sb.size ∨ 1500 < sa.size ∨ 1500 < sc.size) ∧ o = none)
theorem exists_mtext (sb sa sc : ByteArray) : ∃ o, MText sb sa sc o := by
  by_cases h : sb.size ≤ 1500 ∧ sa.size ≤ 1500 ∧ sc.size ≤ 1500
  · obtain ⟨pa, ha⟩ := exists_commT (linesB sb) (linesB sa)
    obtain ⟨pb, hb⟩ := exists_commT (linesB sb) (linesB sc)
    exact ⟨_, .inl ⟨h.1, h.2.1, h.2.2, pa, pb, ha, hb, rfl⟩⟩
  · exact ⟨none, .inr ⟨by omega, rfl⟩⟩

set_option maxHeartbeats 2000000 in
theorem implMText_any (sb sa sc : ByteArray) (o : Option (List UInt8)) (w : World) (h : MText sb sa sc o) :
    Calls Try.prog 6 #[.string sb, .string sa, .string sc] w fun e w' => e = .returned (mrgV o) ∧ Below w.heap.size w w' := by
  rcases h with ⟨h1, h2, h3, pa, pb, ha, hb, rfl⟩ | ⟨hbig, rfl⟩
  · exact implMerge_small sb sa sc pa pb w h1 h2 h3 ha hb
  · by_cases h1 : 1500 < sb.size
    · have e1 : decide ((1500 : Int) < sb.size) = true := by simp; omega
      go_enter Try.func6, Try.ntmps6
      go_wp2
      go_ret2
      exact ⟨rfl, Below.refl _ _⟩
    · have e1 : decide ((1500 : Int) < sb.size) = false := by simp; omega
      by_cases h2 : 1500 < sa.size
      · have e2 : decide ((1500 : Int) < sa.size) = true := by simp; omega
        go_enter Try.func6, Try.ntmps6
        go_wp2
        go_ret2
        exact ⟨rfl, Below.refl _ _⟩
      · have e2 : decide ((1500 : Int) < sa.size) = false := by simp; omega
        have e3 : decide ((1500 : Int) < sc.size) = true := by simp; omega
        go_enter Try.func6, Try.ntmps6
        go_wp2
        go_ret2
        exact ⟨rfl, Below.refl _ _⟩

set_option maxHeartbeats 2000000 in
theorem specMText_any (sb sa sc : ByteArray) (o : Option (List UInt8)) (w : World) (h : MText sb sa sc o) :
    Calls Try.prog 5 #[.string sb, .string sa, .string sc] w fun e w' => e = .returned (mrgV o) ∧ Below w.heap.size w w' := by
  rcases h with ⟨h1, h2, h3, pa, pb, ha, hb, rfl⟩ | ⟨hbig, rfl⟩
  · exact specMerge_small sb sa sc pa pb w h1 h2 h3 ha hb
  · by_cases h1 : 1500 < sb.size
    · have e1 : decide ((1500 : Int) < sb.size) = true := by simp; omega
      go_enter Try.func5, Try.ntmps5
      go_wp2
      go_ret2
      exact ⟨rfl, Below.refl _ _⟩
    · have e1 : decide ((1500 : Int) < sb.size) = false := by simp; omega
      by_cases h2 : 1500 < sa.size
      · have e2 : decide ((1500 : Int) < sa.size) = true := by simp; omega
        go_enter Try.func5, Try.ntmps5
        go_wp2
        go_ret2
        exact ⟨rfl, Below.refl _ _⟩
      · have e2 : decide ((1500 : Int) < sa.size) = false := by simp; omega
        have e3 : decide ((1500 : Int) < sc.size) = true := by simp; omega
        go_enter Try.func5, Try.ntmps5
        go_wp2
        go_ret2
        exact ⟨rfl, Below.refl _ _⟩

theorem mrgV_tuple (o : Option (List UInt8)) : ∃ s b, mrgV o = .tuple #[.string s, .bool b] := by
  cases o with
  | none => exact ⟨_, _, rfl⟩
  | some s => exact ⟨_, _, rfl⟩
end Go.Proofs.Ytogefpbmchnaaaa
