/-
  What impl.Diff makes of two lists side by side, plain.
-/
import Derived.Test.YtebgoligoeklbaaSideE
import Derived.Test.YtebgoligoeklbaaDfF
import Derived.Test.YtebgoligoeklbaaDiffS
namespace Go.Proofs.Ytebgoligoeklbaa
open Go.RowKit

/-- What one round of the loop puts behind. -/
def orP (x y : En) : ByteArray := if (x.path.toList == ([] : List UInt8)) = true then y.path else x.path
def outC (x y : En) : List Ch := if sameF (fileE x) (fileE y) = true then [] else [⟨orP x y, fileE x, fileE y⟩]
def outsE (pre : List PE) : List Ch := pre.flatMap fun x => outC (x.2.1.getD zeroE) (x.2.2.getD zeroE)
theorem outsE_snoc (pre : List PE) (x : PE) : outsE (pre ++ [x]) = outsE pre ++ outC (x.2.1.getD zeroE) (x.2.2.getD zeroE) := by simp [outsE]

theorem path_ne0 {s : ByteArray} (h : pathOk pathB s = true) : (s.toList == ([] : List UInt8)) = false := by
  rw [Bool.eq_false_iff]
  intro e
  have e1 : s = ⟨#[]⟩ := WideShapes.bytes_inj (by rw [← Lib.toList_data, (by simpa using e : s.toList = [])])
  subst e1
  revert h
  decide
theorem valid_en {ts : List En} (h : ValidTs ts) {e : En} (he : e ∈ ts) : enOk e = true := by
  obtain ⟨i, hi, rfl⟩ := List.getElem_of_mem he
  obtain ⟨_, h1, _⟩ := h.2 i hi
  exact h1
theorem valid_path {ts : List En} (h : ValidTs ts) {e : En} (he : e ∈ ts) : (e.path.toList == ([] : List UInt8)) = false := by
  have h1 := valid_en h he
  simp only [enOk, Bool.and_eq_true] at h1
  exact path_ne0 h1.1
theorem fileE_zero : fileE zeroE = noFl := by
  unfold fileE zeroE noFl
  have : isZ ⟨⟨#[]⟩, ⟨#[]⟩, false⟩ = true := by simp [isZ]
  rw [this]
  rfl
theorem fileE_some {e : En} (h : (e.path.toList == ([] : List UInt8)) = false) : fileE e = ⟨true, e.text, e.runs⟩ := by
  unfold fileE isZ
  rw [h]
  rfl
theorem fileE_at {ts : List En} (h : ValidTs ts) (p : ByteArray) : fileE ((fnd En.path ts p).getD zeroE) = atL ts p := by
  unfold atL
  show _ = match fnd En.path ts p with | some e => (⟨true, e.text, e.runs⟩ : Fl) | none => noFl
  cases hf : fnd En.path ts p with
  | none => exact fileE_zero
  | some e => exact fileE_some (valid_path h (fnd_some hf).1)
theorem orP_at {ts us : List En} (h : ValidTs ts) {p : ByteArray} (hp : (∃ x ∈ ts, En.path x = p) ∨ ∃ y ∈ us, En.path y = p) : orP ((fnd En.path ts p).getD zeroE) ((fnd En.path us p).getD zeroE) = p := by
  unfold orP
  cases hf : fnd En.path ts p with
  | some e =>
    obtain ⟨h1, h2⟩ := fnd_some hf
    show (if (e.path.toList == ([] : List UInt8)) = true then _ else e.path) = p
    rw [valid_path h h1]
    exact h2
  | none =>
    have hz : (zeroE.path.toList == ([] : List UInt8)) = true := by simp [zeroE]
    show (if (zeroE.path.toList == ([] : List UInt8)) = true then ((fnd En.path us p).getD zeroE).path else _) = p
    rw [if_pos hz]
    cases hg : fnd En.path us p with
    | some e => exact (fnd_some hg).2
    | none =>
      exfalso
      rcases hp with ⟨x, hx, hxp⟩ | ⟨x, hx, hxp⟩
      · unfold fnd at hf
        rw [List.find?_eq_none] at hf
        exact hf x hx (eqb_iff.2 hxp)
      · unfold fnd at hg
        rw [List.find?_eq_none] at hg
        exact hg x hx (eqb_iff.2 hxp)

theorem outs_diff {ts us : List En} (ht : ValidTs ts) (hu : ValidTs us) : outsE (mrgE ts us) = diffL ts us := by
  have h1 := addP_asc (l := []) List.Pairwise.nil ts
  have h2 := addP_asc h1.1 us
  have hmem : ∀ p, p ∈ pathsL [ts, us] ↔ (∃ x ∈ ts, En.path x = p) ∨ ∃ y ∈ us, En.path y = p := fun p => by
    show p ∈ addP (addP [] ts) us ↔ _
    rw [h2.2, h1.2]
    simp
  have hM := mrg_eq En.path En.path (ts.length + us.length) ts us (pathsL [ts, us]) (Nat.le_refl _) (valid_asc ht) (valid_asc hu) h2.1 hmem
  unfold mrgE
  rw [hM]
  unfold outsE diffL diffN
  rw [List.flatMap_map, List.flatMap_def, List.flatMap_def]
  congr 1
  refine List.map_congr_left fun p hp => ?_
  show outC ((fnd En.path ts p).getD zeroE) ((fnd En.path us p).getD zeroE) = _
  unfold outC diffC
  rw [fileE_at ht, fileE_at hu, orP_at ht ((hmem p).1 hp)]
end Go.Proofs.Ytebgoligoeklbaa
