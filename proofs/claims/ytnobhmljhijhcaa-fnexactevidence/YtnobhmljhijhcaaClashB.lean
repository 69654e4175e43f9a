/-
  Both Clashes give one answer.
-/
import Derived.Test.YtnobhmljhijhcaaImplClash
namespace Go.Proofs.Ytnobhmljhijhcaa
open Go.RowKit

/-- Both Clashes give one answer. -/
theorem clash_both (ss : List ByteArray) (m : Int) (hm : ∀ s ∈ ss, s.size ≤ 2097152) :
    ∃ x y b, ((b = true → x ≠ y ∧ sumI x.data.toList m = sumI y.data.toList m) ∧ x.size ≤ maxLen ∧ y.size ≤ maxLen) ∧ (∀ a cap w, SS w a ss → Calls Try.prog 16 #[.slice a ss.length cap, .int .i64 m] w fun e w' => ∃ x' y' b', e = .returned (.tuple #[.string x', .string y', .bool b']) ∧ x' = x ∧ y' = y ∧ b' = b ∧ Below w.heap.size w w') ∧
      (∀ a' cap' w, SS w a' ss → Calls Try.prog 18 #[.slice a' ss.length cap', .int .i64 m] w fun e w' => ∃ x' y' b', e = .returned (.tuple #[.string x', .string y', .bool b']) ∧ x' = x ∧ y' = y ∧ b' = b ∧ Below w.heap.size w w') := by
  by_cases h : isW m = false ∨ 3000 < ss.length
  · refine ⟨⟨#[]⟩, ⟨#[]⟩, false, ⟨fun h => (by cases h), Nat.zero_le _, Nat.zero_le _⟩, fun a cap w _ => (specClash_no a cap ss.length m w h).mono ?_, fun a' cap' w _ => (implClash_no a' cap' ss.length m w h).mono ?_⟩
    · rintro e w' ⟨rfl, hb⟩; exact ⟨_, _, _, rfl, rfl, rfl, rfl, hb⟩
    · rintro e w' ⟨rfl, hb⟩; exact ⟨_, _, _, rfl, rfl, rfl, rfl, hb⟩
  · have hw : isW m = true := by
      cases hx : isW m
      · exact absurd (.inl hx) h
      · rfl
    obtain ⟨n, rfl, h1, h8⟩ := isW_nat hw
    have h3 : ss.length ≤ 3000 := Nat.le_of_not_lt fun hx => h (.inr hx)
    by_cases hex : ∃ x y b, ClashR (fun s => sumStr s.data.toList n) ss x y b
    · obtain ⟨x, y, b, hr⟩ := hex
      have hinfo : (b = true → x ≠ y ∧ sumI x.data.toList n = sumI y.data.toList n) ∧ x.size ≤ maxLen ∧ y.size ≤ maxLen := by
        rcases hr with ⟨rfl, rfl, rfl, _⟩ | ⟨rfl, i, j, hj, hij, rfl, rfl, hk, hne, _⟩
        · exact ⟨fun h => (by cases h), Nat.zero_le _, Nat.zero_le _⟩
        · refine ⟨fun _ => ⟨hne, ?_⟩, Nat.le_trans (hm _ (List.getElem_mem _)) (by unfold maxLen; omega), Nat.le_trans (hm _ (List.getElem_mem _)) (by unfold maxLen; omega)⟩
          simp only [sumI, hw, if_true, Int.toNat_natCast]
          exact hk
      refine ⟨x, y, b, hinfo, fun a cap w hs => (specClash_any a cap ss n w hs h3 h1 h8 (fun s hs => Nat.le_trans (hm s hs) (by unfold maxLen; omega))).mono ?_, fun a' cap' w hs => (implClash_any a' cap' ss n w hs h3 h1 h8 (fun s hs => Nat.le_trans (hm s hs) (by omega))).mono ?_⟩
      · rintro e w' ⟨x', y', b', rfl, hr', hb⟩
        obtain ⟨e1, e2, e3⟩ := ClashR.one _ _ hr' hr
        exact ⟨_, _, _, rfl, e1, e2, e3, hb⟩
      · rintro e w' ⟨x', y', b', rfl, hr', hb⟩
        obtain ⟨e1, e2, e3⟩ := ClashR.one _ _ hr' hr
        exact ⟨_, _, _, rfl, e1, e2, e3, hb⟩
    · refine ⟨⟨#[]⟩, ⟨#[]⟩, false, ⟨fun h => (by cases h), Nat.zero_le _, Nat.zero_le _⟩, fun a cap w hs => (specClash_any a cap ss n w hs h3 h1 h8 (fun s hs => Nat.le_trans (hm s hs) (by unfold maxLen; omega))).mono ?_, fun a' cap' w hs => (implClash_any a' cap' ss n w hs h3 h1 h8 (fun s hs => Nat.le_trans (hm s hs) (by omega))).mono ?_⟩
      · rintro e w' ⟨x', y', b', rfl, hr', hb⟩
        exact absurd ⟨_, _, _, hr'⟩ hex
      · rintro e w' ⟨x', y', b', rfl, hr', hb⟩
        exact absurd ⟨_, _, _, hr'⟩ hex

end Go.Proofs.Ytnobhmljhijhcaa
