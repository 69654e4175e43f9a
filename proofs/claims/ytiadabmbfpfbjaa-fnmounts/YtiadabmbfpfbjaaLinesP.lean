/-
  A text cut behind each newline: plain.
-/
import Derived.Test.YtiadabmbfpfbjaaRows
import Derived.WalkKit
import Derived.Lib.CutLaws
import Derived.Lib.IndexLaws
namespace Go.Proofs.Ytiadabmbfpfbjaa
open Go.RowKit Go.Lib

/-- A fact that the walk does not read. -/
structure LKeep (p : Prop) : Prop where
  out : p

def linesL : List UInt8 → List (List UInt8)
  | [] => []
  | c :: cs => if c = 10 then [c] :: linesL cs else match linesL cs with
    | [] => [[c]]
    | p :: ps => (c :: p) :: ps

theorem linesL_nil {l : List UInt8} (h : linesL l = []) : l = [] := by
  cases l with
  | nil => rfl
  | cons c cs =>
    unfold linesL at h
    split at h
    · simp at h
    · split at h <;> simp at h

theorem linesL_none : ∀ (l : List UInt8), l ≠ [] → (∀ k : Nat, l[k]? ≠ some 10) → linesL l = [l]
  | [], h, _ => absurd rfl h
  | c :: cs, _, h => by
    have hc : c ≠ 10 := fun e => h 0 (by simp [e])
    rw [linesL, if_neg hc]
    cases cs with
    | nil => rfl
    | cons d ds =>
      rw [linesL_none (d :: ds) (by simp) (fun k => by have := h (k + 1); simpa using this)]

theorem linesL_at : ∀ (l : List UInt8) (o : Nat), l[o]? = some 10 → (∀ k, k < o → l[k]? ≠ some 10) → linesL l = l.take (o + 1) :: linesL (l.drop (o + 1))
  | [], o, h, _ => by simp at h
  | c :: cs, 0, h, _ => by
    have hc : c = 10 := by simpa using h
    rw [linesL, if_pos hc]
    simp
  | c :: cs, o + 1, h, hk => by
    have hc : c ≠ 10 := fun e => hk 0 (by omega) (by simp [e])
    have ih := linesL_at cs o (by simpa using h) (fun k hlt => by have := hk (k + 1) (by omega); simpa using this)
    rw [linesL]
    rw [if_neg hc, ih]
    simp

theorem linesL_flat : ∀ (l : List UInt8), (linesL l).flatten = l
  | [] => rfl
  | c :: cs => by
    have ih := linesL_flat cs
    unfold linesL
    split
    · simp [ih]
    · split
      · rename_i h; rw [h] at ih; simp at ih ⊢; exact ih
      · rename_i p ps h; rw [h] at ih; simp at ih ⊢; exact ih

theorem linesL_le : ∀ (l : List UInt8), (linesL l).length ≤ l.length
  | [] => Nat.le_refl _
  | c :: cs => by
    have ih := linesL_le cs
    unfold linesL
    split
    · simp; omega
    · split
      · simp
      · rename_i p ps h; rw [h] at ih; simp at ih ⊢; omega

def lnB (l : List UInt8) : ByteArray := ⟨l.toArray⟩
theorem lnB_data (s : ByteArray) : lnB s.data.toList = s := by cases s; simp [lnB]
theorem lnB_list (l : List UInt8) : (lnB l).data.toList = l := by simp [lnB]
theorem lnB_size (l : List UInt8) : (lnB l).size = l.length := by simp [lnB, ByteArray.size]
theorem lnB_inj {x y : List UInt8} (h : lnB x = lnB y) : x = y := by rw [← lnB_list x, h, lnB_list]

def linesB (s : ByteArray) : List ByteArray := (linesL s.data.toList).map lnB
theorem linesB_le (s : ByteArray) : (linesB s).length ≤ s.size := by
  have := linesL_le s.data.toList
  rw [linesB, List.length_map]
  rw [← Lib.size_eq] at this
  exact this

theorem extract_lnB (s : ByteArray) (i j : Nat) : s.extract i j = lnB ((s.data.toList.drop i).take (j - i)) := by
  rw [Lib.extract_eq]
  rfl

theorem nl_cases (s : ByteArray) : Lib.indexByte s.data.toList 10 = -1 ∨ ∃ i : Nat, Lib.indexByte s.data.toList 10 = i ∧ i + 1 ≤ s.size := by
  have h := Lib.indexB_cases s ⟨#[10]⟩
  have e : Lib.indexB s ⟨#[10]⟩ = Lib.indexByte s.data.toList 10 := Lib.index_one s.data.toList 10
  rw [e] at h
  exact h

theorem linesB_last {s : ByteArray} (h : Lib.indexByte s.data.toList 10 = -1) (hs : 0 < s.size) : linesB s = [s] := by
  have hn := Lib.indexByte_none h
  rw [linesB, linesL_none _ (fun e => by rw [Lib.size_eq, e] at hs; simp at hs) hn]
  simp [lnB_data]
theorem linesB_none : linesB ⟨#[]⟩ = [] := rfl
theorem linesB_cut {s : ByteArray} {i : Nat} (h : Lib.indexByte s.data.toList 10 = i) : linesB s = s.extract 0 (i + 1) :: linesB (s.extract (i + 1) s.size) := by
  obtain ⟨h1, h2⟩ := Lib.indexByte_some h
  have e4 : (lnB ((s.data.toList.drop (i + 1)).take (s.size - (i + 1)))).data.toList = s.data.toList.drop (i + 1) := by
    rw [lnB_list]
    exact List.take_of_length_le (by rw [List.length_drop, ← Lib.size_eq]; exact Nat.le_refl _)
  rw [linesB, linesL_at _ i h1 h2, extract_lnB, extract_lnB, linesB, e4]
  simp
theorem line_size {s x : ByteArray} (h : x ∈ linesB s) : x.size ≤ s.size := by
  obtain ⟨q, hq, rfl⟩ := List.mem_map.1 h
  rw [lnB_size, Lib.size_eq]
  have := linesL_flat s.data.toList
  have hs := List.sublist_flatten_of_mem hq
  rw [this] at hs
  exact hs.length_le
theorem sub_flat {l1 l2 : List (List UInt8)} (h : List.Sublist l1 l2) : l1.flatten.length ≤ l2.flatten.length := by
  induction h with
  | slnil => exact Nat.le_refl _
  | cons a _ ih => simp only [List.flatten_cons, List.length_append]; omega
  | cons_cons a _ ih => simp only [List.flatten_cons, List.length_append]; omega
end Go.Proofs.Ytiadabmbfpfbjaa
