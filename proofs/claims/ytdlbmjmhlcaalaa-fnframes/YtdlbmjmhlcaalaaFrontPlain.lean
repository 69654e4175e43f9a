/-
  The short number at the front, held against shortL.
-/
import Derived.Test.YtdlbmjmhlcaalaaFramePlain
namespace Go.Proofs.Ytdlbmjmhlcaalaa
open Go.RowKit

theorem ext1 (s : ByteArray) (h : 0 + 1 ≤ s.size) : s.extract 0 1 = ⟨[UInt8.ofNat (bt s 0)].toArray⟩ := by
  have h1 : (s.extract 0 1).size = 1 := by rw [ByteArray.size_extract]; omega
  apply ByteArray.ext
  apply Array.ext
  · exact h1
  · intro i hi hi2
    obtain rfl : i = 0 := by simp at hi2; omega
    have e : (s.extract 0 1)[0]'(by omega) = s[0] := ByteArray.getElem_extract (by omega)
    refine Eq.trans (b := s[0]) e ?_
    rw [bt_at (by omega)]
    simp
theorem ext2 (s : ByteArray) (h : 2 ≤ s.size) : s.extract 0 2 = ⟨[UInt8.ofNat (bt s 0), UInt8.ofNat (bt s 1)].toArray⟩ := by
  have h1 : (s.extract 0 2).size = 2 := by rw [ByteArray.size_extract]; omega
  apply ByteArray.ext
  apply Array.ext
  · exact h1
  · intro i hi hi2
    have hi3 : i < 2 := by simpa using hi2
    match i, hi3 with
    | 0, _ =>
      have e : (s.extract 0 2)[0]'(by omega) = s[0] := ByteArray.getElem_extract (by omega)
      refine Eq.trans (b := s[0]) e ?_
      rw [bt_at (by omega)]
      simp
    | 1, _ =>
      have e : (s.extract 0 2)[1]'(by omega) = s[0 + 1] := ByteArray.getElem_extract (by omega)
      refine Eq.trans (b := s[1]) (e.trans (by rfl)) ?_
      rw [show [UInt8.ofNat (bt s 0), UInt8.ofNat (bt s 1)].toArray[1]'hi2 = UInt8.ofNat (bt s 1) from rfl, bt_at (by omega)]
      simp

/-- What the number and its bytes say of the header. -/
def Head (s : ByteArray) (K M : Nat) : Prop :=
  (¬ (1 ≤ M ∧ M ≤ 1000) → hdr s = some (0, 0)) ∧ (¬ (⟨(shortL M).toArray⟩ : ByteArray) = s.extract 0 K → hdr s = some (0, 0)) ∧
  (1 ≤ M → M ≤ 1000 → (⟨(shortL M).toArray⟩ : ByteArray) = s.extract 0 K → hdr s = some (K, M))

theorem head1 (s : ByteArray) (h : 0 < s.size) (hb : bt s 0 < 128) : Head s 1 (bt s 0) := by
  have hs : (⟨(shortL (bt s 0)).toArray⟩ : ByteArray) = s.extract 0 1 := by rw [ext1 s h, shortL_small hb]
  refine ⟨fun hM => ?_, fun hne => absurd hs hne, fun h1 _ _ => ?_⟩
  · unfold hdr; rw [if_neg (by omega), if_pos hb, if_pos (by omega)]
  · unfold hdr; rw [if_neg (by omega), if_pos hb, if_neg (by omega)]
theorem head2 (s : ByteArray) (h : 1 < s.size) (h0 : 128 ≤ bt s 0) (hb : bt s 1 < 128) : Head s 2 (bt s 0 % 128 + bt s 1 * 128) := by
  have hlt := bt_lt s 0
  refine ⟨fun hM => ?_, fun hne => ?_, fun h1 h2 he => ?_⟩
  · unfold hdr; rw [if_neg (by omega), if_neg (by omega), if_neg (by omega), if_pos (by omega)]
  · by_cases hz : bt s 1 = 0
    · unfold hdr; rw [if_neg (by omega), if_neg (by omega), if_neg (by omega), if_pos (.inl hz)]
    · refine absurd ?_ hne
      rw [ext2 s h, shortL_big (by omega), shortL_small (by omega)]
      congr 3
      · congr 1; omega
      · congr 1; congr 1; omega
  · by_cases hz : bt s 1 = 0
    · have e := congrArg ByteArray.size he
      rw [shortL_small (by omega), ByteArray.size_extract] at e
      have : (⟨[UInt8.ofNat (bt s 0 % 128 + bt s 1 * 128)].toArray⟩ : ByteArray).size = 1 := rfl
      omega
    · unfold hdr; rw [if_neg (by omega), if_neg (by omega), if_neg (by omega), if_neg (by omega)]

def frontV : Front → Value
  | none => .tuple #[.int .i64 0, .string ⟨#[]⟩, .int .i64 0]
  | some none => .tuple #[.int .i64 2, .string ⟨#[]⟩, .int .i64 0]
  | some (some (p, k)) => .tuple #[.int .i64 1, .string p, .int .i64 k]
end Go.Proofs.Ytdlbmjmhlcaalaa
