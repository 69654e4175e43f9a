/-
  Frames, plainly: what stands at the front of some bytes, and what feeding takes of them. No program is named here.
-/
import Derived.Test.YtdlbmjmhlcaalaaEncPlain
namespace Go.Proofs.Ytdlbmjmhlcaalaa
open Go.RowKit

/-- What stands at the front: nothing yet (none), no frame (some none), a whole one: its payload, its length. -/
abbrev Front := Option (Option (ByteArray × Nat))
theorem Front.three {motive : Front → Prop} (x : Front) (more : motive none) (bad : motive (some none)) (whole : ∀ p k, motive (some (some (p, k)))) : motive x :=
  match x with
  | none => more
  | some none => bad
  | some (some (p, k)) => whole p k

def bt (s : ByteArray) (i : Nat) : Nat := if h : i < s.size then s[i].toNat else 0
theorem bt_at {s : ByteArray} {i : Nat} (h : i < s.size) : bt s i = s[i].toNat := by simp [bt, h]
theorem bt_lt (s : ByteArray) (i : Nat) : bt s i < 256 := by
  unfold bt; split
  · exact s[i].toNat_lt
  · omega

/-- The short number at the front: `none` when more must come, else how many bytes it has and what it is (0, 0 when it is none). -/
def hdr (s : ByteArray) : Option (Nat × Nat) :=
  if s.size = 0 then none
  else if bt s 0 < 128 then (if bt s 0 = 0 then some (0, 0) else some (1, bt s 0))
  else if s.size = 1 then none
  else if bt s 1 = 0 ∨ 1000 < bt s 0 % 128 + bt s 1 % 128 * 128 ∨ 128 ≤ bt s 1 then some (0, 0) else some (2, bt s 0 % 128 + bt s 1 * 128)

def body (s : ByteArray) (n k m : Nat) : Front :=
  if s.size < k + m + n then none
  else if sumStr (s.extract k (k + m)).data.toList n = s.extract (k + m) (k + m + n) then some (some (s.extract k (k + m), k + m + n)) else some none
def front (s : ByteArray) (n : Nat) : Front :=
  match hdr s with
  | none => none
  | some (0, _) => some none
  | some (k + 1, m) => body s n (k + 1) m

/-- Of some bytes, with room for some frames: the payloads, what is left, whether it is bad. -/
def feedP (n : Nat) : Nat → ByteArray → List ByteArray × ByteArray × Bool
  | 0, s => match front s n with
    | none => ([], s, false)
    | some none => ([], ⟨#[]⟩, true)
    | some (some (_, _)) => ([], ⟨#[]⟩, true)
  | room + 1, s => match front s n with
    | none => ([], s, false)
    | some none => ([], ⟨#[]⟩, true)
    | some (some (p, k)) => let x := feedP n room (s.extract k s.size); (p :: x.1, x.2.1, x.2.2)

theorem feedP_more {n room : Nat} {s : ByteArray} (h : front s n = none) : feedP n room s = ([], s, false) := by
  cases room <;> (rw [feedP]; rw [h])
theorem feedP_bad {n room : Nat} {s : ByteArray} (h : front s n = some none) : feedP n room s = ([], ⟨#[]⟩, true) := by
  cases room <;> (rw [feedP]; rw [h])
theorem feedP_full {n : Nat} {s p : ByteArray} {k : Nat} (h : front s n = some (some (p, k))) : feedP n 0 s = ([], ⟨#[]⟩, true) := by
  rw [feedP]; rw [h]
theorem feedP_take {n room : Nat} {s p : ByteArray} {k : Nat} (h : front s n = some (some (p, k))) : feedP n (room + 1) s = (p :: (feedP n room (s.extract k s.size)).1, (feedP n room (s.extract k s.size)).2.1, (feedP n room (s.extract k s.size)).2.2) := by
  rw [feedP]; rw [h]

theorem hdr_facts {s : ByteArray} {k m : Nat} (h : hdr s = some (k + 1, m)) : k + 1 ≤ 2 ∧ k + 1 ≤ s.size ∧ 1 ≤ m ∧ m ≤ 1000 := by
  unfold hdr at h
  split at h
  · cases h
  · split at h
    · split at h
      · cases h
      · cases h; omega
    · split at h
      · cases h
      · split at h
        · cases h
        · cases h; omega
theorem front_hdr {s : ByteArray} {n k m : Nat} (h : hdr s = some (k + 1, m)) : front s n = body s n (k + 1) m := by
  unfold front; rw [h]
theorem front_none {s : ByteArray} {n : Nat} (h : hdr s = none) : front s n = none := by
  unfold front; rw [h]
theorem front_zero {s : ByteArray} {n m : Nat} (h : hdr s = some (0, m)) : front s n = some none := by
  unfold front; rw [h]
theorem whole_facts {s p : ByteArray} {n k : Nat} (h : front s n = some (some (p, k))) : k ≤ s.size ∧ 1 ≤ k ∧ 1 ≤ p.size ∧ p.size ≤ 1000 := by
  unfold front at h
  split at h
  · cases h
  · cases h
  · rename_i k' m heq
    obtain ⟨h1, h2, h3, h4⟩ := hdr_facts heq
    unfold body at h
    split at h
    · cases h
    · split at h
      · cases h
        rw [ByteArray.size_extract]
        omega
      · cases h

theorem feedP_room (n : Nat) : ∀ (room : Nat) (s : ByteArray), (feedP n room s).1.length ≤ room
  | 0, s => by
    cases h : front s n using Front.three with
    | more => rw [feedP_more h]; simp
    | bad => rw [feedP_bad h]; simp
    | whole p k => rw [feedP_full h]; simp
  | room + 1, s => by
    cases h : front s n using Front.three with
    | more => rw [feedP_more h]; simp
    | bad => rw [feedP_bad h]; simp
    | whole p k =>
      rw [feedP_take h]
      have := feedP_room n room (s.extract k s.size)
      simp only [List.length_cons]
      omega
theorem feedP_rest (n : Nat) : ∀ (room : Nat) (s : ByteArray), (feedP n room s).2.1.size ≤ s.size
  | 0, s => by
    cases h : front s n using Front.three with
    | more => rw [feedP_more h]; exact Nat.le_refl _
    | bad => rw [feedP_bad h]; exact Nat.zero_le _
    | whole p k => rw [feedP_full h]; exact Nat.zero_le _
  | room + 1, s => by
    cases h : front s n using Front.three with
    | more => rw [feedP_more h]; exact Nat.le_refl _
    | bad => rw [feedP_bad h]; exact Nat.zero_le _
    | whole p k =>
      rw [feedP_take h]
      have := feedP_rest n room (s.extract k s.size)
      rw [ByteArray.size_extract] at this
      simp only
      omega
end Go.Proofs.Ytdlbmjmhlcaalaa
