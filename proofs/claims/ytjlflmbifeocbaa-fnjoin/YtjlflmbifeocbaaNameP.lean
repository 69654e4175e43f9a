/-
  Names in order: what l6Name makes of a list.
-/
import Derived.Test.YtjlflmbifeocbaaSetP
namespace Go.Proofs.Ytjlflmbifeocbaa
open Go.RowKit

def AscN (l : List ByteArray) : Prop := l.Pairwise fun a b => Op.bytesLess a.toList b.toList = true
def stepN (s : ByteArray) (r : List ByteArray × Bool) (x : ByteArray) : List ByteArray × Bool :=
  if r.2 = true then (if (x.toList != s.toList) = true then r.1 ++ [x] else r.1, true)
  else if Op.bytesLess x.toList s.toList = true then (r.1 ++ [x], false)
  else (if (x.toList != s.toList) = true then r.1 ++ [s] ++ [x] else r.1 ++ [s], true)
def foldN (s : ByteArray) (l : List ByteArray) : List ByteArray × Bool := l.foldl (stepN s) ([], false)
theorem foldN_take {s : ByteArray} {ls : List ByteArray} {k : Nat} (hk : k < ls.length) : foldN s (ls.take (k + 1)) = stepN s (foldN s (ls.take k)) ls[k] := by
  unfold foldN
  rw [List.take_succ_eq_append_getElem hk, List.foldl_append]
  rfl
def nameL (ls : List ByteArray) (s : ByteArray) : List ByteArray := if (foldN s ls).2 = true then (foldN s ls).1 else (foldN s ls).1 ++ [s]

theorem ne_toList {x s : ByteArray} : (x.toList != s.toList) = true ↔ x ≠ s := by
  rw [bne_iff_ne]
  constructor
  · intro h e; exact h (by rw [e])
  · intro h e
    rw [Lib.toList_data, Lib.toList_data] at e
    exact h (WideShapes.bytes_inj e)
theorem foldN_len (s : ByteArray) (ls : List ByteArray) : ∀ k, k ≤ ls.length → ((foldN s (ls.take k)).2 = false → (foldN s (ls.take k)).1.length ≤ k) ∧ (foldN s (ls.take k)).1.length ≤ k + 1
  | 0, _ => by simp [foldN]
  | k + 1, hk => by
    obtain ⟨h1, h2⟩ := foldN_len s ls k (by omega)
    rw [foldN_take (by omega)]
    generalize foldN s (ls.take k) = r at *
    unfold stepN
    cases hr : r.2 with
    | true =>
      simp only [if_true]
      refine ⟨fun h => by simp at h, ?_⟩
      split
      · simp; omega
      · show r.1.length ≤ _; omega
    | false =>
      have := h1 hr
      simp only [Bool.false_eq_true, if_false]
      split
      · simp; omega
      · refine ⟨fun h => (by cases h), ?_⟩
        show (if (ls[k].toList != s.toList) = true then r.1 ++ [s] ++ [ls[k]] else r.1 ++ [s]).length ≤ _
        split
        · simp; omega
        · simp; omega
theorem nameL_len (ls : List ByteArray) (s : ByteArray) : (nameL ls s).length ≤ ls.length + 1 := by
  have h := foldN_len s ls ls.length (Nat.le_refl _)
  rw [List.take_length] at h
  unfold nameL
  split
  · omega
  · rename_i h0
    have := h.1 (by simpa using h0)
    simp; omega
/-- How it stands when some are looked through. -/
theorem foldN_inv (s : ByteArray) (ls : List ByteArray) (hA : AscN ls) : ∀ k, k ≤ ls.length →
    ((foldN s (ls.take k)).2 = false → (foldN s (ls.take k)).1 = ls.take k ∧ ∀ x ∈ ls.take k, Op.bytesLess x.toList s.toList = true) ∧
    ((foldN s (ls.take k)).2 = true → AscN (foldN s (ls.take k)).1 ∧ (∀ y, y ∈ (foldN s (ls.take k)).1 ↔ y ∈ ls.take k ∨ y = s) ∧ ∃ z ∈ ls.take k, Op.bytesLess z.toList s.toList = false)
  | 0, _ => by simp [foldN]
  | k + 1, hk => by
    obtain ⟨h1, h2⟩ := foldN_inv s ls hA k (by omega)
    have hk' : k < ls.length := by omega
    have hlt : ∀ z ∈ ls.take k, Op.bytesLess z.toList ls[k].toList = true := fun z hz => by
      obtain ⟨i, hi, rfl⟩ := List.getElem_of_mem hz
      rw [List.getElem_take]
      have hi2 : i < k := by simp at hi; omega
      exact List.pairwise_iff_getElem.1 hA i k (by omega) hk' hi2
    have htk : ∀ y, y ∈ ls.take (k + 1) ↔ y ∈ ls.take k ∨ y = ls[k] := fun y => by
      rw [List.take_succ_eq_append_getElem hk', List.mem_append, List.mem_singleton]
    rw [foldN_take hk']
    generalize foldN s (ls.take k) = r at *
    unfold stepN
    cases hr : r.2 with
    | true =>
      obtain ⟨a1, a2, z, hz, hzs⟩ := h2 hr
      have hsx : Op.bytesLess s.toList ls[k].toList = true := by
        by_cases e : z = s
        · rw [← e]; exact hlt z hz
        · exact less_trans (less_of hzs e) (hlt z hz)
      have hne : (ls[k].toList != s.toList) = true := ne_toList.2 (fun e => by rw [e] at hsx; rw [less_irrefl] at hsx; cases hsx)
      simp only [if_true, hne]
      refine ⟨fun h => by simp at h, fun _ => ⟨?_, fun y => ?_, z, (htk z).2 (.inl hz), hzs⟩⟩
      · refine List.pairwise_append.2 ⟨a1, List.pairwise_singleton _ _, fun y hy x hx => ?_⟩
        rw [List.mem_singleton.1 hx]
        rcases (a2 y).1 hy with h | h
        · exact hlt y h
        · rw [h]; exact hsx
      · rw [List.mem_append, List.mem_singleton, a2, htk]
        constructor
        · rintro ((h | h) | h)
          · exact .inl (.inl h)
          · exact .inr h
          · exact .inl (.inr h)
        · rintro ((h | h) | h)
          · exact .inl (.inl h)
          · exact .inr h
          · exact .inl (.inr h)
    | false =>
      obtain ⟨a1, a2⟩ := h1 hr
      simp only [Bool.false_eq_true, if_false]
      by_cases hl : Op.bytesLess ls[k].toList s.toList = true
      · rw [if_pos hl]
        refine ⟨fun _ => ⟨?_, fun y hy => ?_⟩, fun h => by simp at h⟩
        · show r.1 ++ [ls[k]] = _
          rw [a1, List.take_succ_eq_append_getElem hk']
        · rcases (htk y).1 hy with h | h
          · exact a2 y h
          · rw [h]; exact hl
      · rw [if_neg hl]
        have hl' : Op.bytesLess ls[k].toList s.toList = false := by simpa using hl
        have hs1 : AscN (r.1 ++ [s]) := by
          rw [a1]
          refine List.pairwise_append.2 ⟨hA.sublist (List.take_sublist _ _), List.pairwise_singleton _ _, fun y hy x hx => ?_⟩
          rw [List.mem_singleton.1 hx]; exact a2 y hy
        refine ⟨fun h => by simp at h, fun _ => ?_⟩
        by_cases e : ls[k] = s
        · have hne : (ls[k].toList != s.toList) = false := by rw [e]; simp
          simp only [hne, Bool.false_eq_true, if_false]
          refine ⟨hs1, fun y => ?_, ls[k], (htk _).2 (.inr rfl), hl'⟩
          rw [List.mem_append, List.mem_singleton, a1, htk, e]
          constructor
          · rintro (h | h)
            · exact .inl (.inl h)
            · exact .inr h
          · rintro ((h | h) | h)
            · exact .inl h
            · exact .inr h
            · exact .inr h
        · have hne : (ls[k].toList != s.toList) = true := ne_toList.2 e
          simp only [hne, if_true]
          have hsx := less_of hl' e
          refine ⟨List.pairwise_append.2 ⟨hs1, List.pairwise_singleton _ _, fun y hy x hx => ?_⟩, fun y => ?_, ls[k], (htk _).2 (.inr rfl), hl'⟩
          · rw [List.mem_singleton.1 hx]
            rcases List.mem_append.1 hy with h | h
            · rw [a1] at h; exact hlt y h
            · rw [List.mem_singleton.1 h]; exact hsx
          · rw [List.mem_append, List.mem_append, List.mem_singleton, List.mem_singleton, a1, htk]
            constructor
            · rintro ((h | h) | h)
              · exact .inl (.inl h)
              · exact .inr h
              · exact .inl (.inr h)
            · rintro ((h | h) | h)
              · exact .inl (.inl h)
              · exact .inr h
              · exact .inl (.inr h)
theorem nameL_asc {ls : List ByteArray} {s : ByteArray} (hA : AscN ls) : AscN (nameL ls s) ∧ ∀ y, y ∈ nameL ls s ↔ y ∈ ls ∨ y = s := by
  have h := foldN_inv s ls hA ls.length (Nat.le_refl _)
  rw [List.take_length] at h
  unfold nameL
  split
  · rename_i h0
    exact ⟨(h.2 h0).1, (h.2 h0).2.1⟩
  · rename_i h0
    obtain ⟨a1, a2⟩ := h.1 (by simpa using h0)
    rw [a1]
    refine ⟨List.pairwise_append.2 ⟨hA, List.pairwise_singleton _ _, fun y hy x hx => ?_⟩, fun y => ?_⟩
    · rw [List.mem_singleton.1 hx]; exact a2 y hy
    · rw [List.mem_append, List.mem_singleton]
theorem ascN_unique : ∀ {l m : List ByteArray}, AscN l → AscN m → (∀ e, e ∈ l ↔ e ∈ m) → l = m
  | [], [], _, _, _ => rfl
  | [], y :: m, _, _, h => by have := (h y).2 (by simp); cases this
  | x :: l, [], _, _, h => by have := (h x).1 (by simp); cases this
  | x :: l, y :: m, hl, hm, h => by
    obtain ⟨hx, hl'⟩ := List.pairwise_cons.1 hl
    obtain ⟨hy, hm'⟩ := List.pairwise_cons.1 hm
    have hirr : ∀ z : ByteArray, Op.bytesLess z.toList z.toList ≠ true := fun z e => by rw [less_irrefl] at e; cases e
    have exy : x = y := by
      rcases List.mem_cons.1 ((h x).1 (by simp)) with e | e
      · exact e
      · rcases List.mem_cons.1 ((h y).2 (by simp)) with e' | e'
        · exact e'.symm
        · exact absurd (less_trans (hx y e') (hy x e)) (hirr x)
    subst exy
    rw [ascN_unique hl' hm' (fun e => by
      constructor
      · intro he
        rcases List.mem_cons.1 ((h e).1 (by simp [he])) with h1 | h1
        · rw [h1] at he; exact absurd (hx _ he) (hirr _)
        · exact h1
      · intro he
        rcases List.mem_cons.1 ((h e).2 (by simp [he])) with h1 | h1
        · rw [h1] at he; exact absurd (hy _ he) (hirr _)
        · exact h1)]
end Go.Proofs.Ytjlflmbifeocbaa
