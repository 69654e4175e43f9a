/-
  spec's l5Set, plain.
-/
import Derived.Test.YtockgapdfcapnaaTreeU
namespace Go.Proofs.Ytockgapdfcapnaa
open Go.RowKit

/-- A list with an entry set. -/
structure SetRel (ts : List En) (e : En) (us : List En) : Prop where
  asc : Asc us
  mem : ∀ x, x ∈ us ↔ x = e ∨ (x ∈ ts ∧ x.path ≠ e.path)
theorem SetRel.one {ts : List En} {e : En} {us us' : List En} (h : SetRel ts e us) (h' : SetRel ts e us') : us = us' :=
  asc_unique h.asc h'.asc (fun x => by rw [h.mem, h'.mem])

/-- While the list is gone over. -/
def SInv (ts : List En) (en : En) (k : Nat) (dn : Bool) (us : List En) : Prop :=
  (dn = false ∧ us = ts.take k ∧ ∀ x ∈ ts.take k, Op.bytesLess x.path.toList en.path.toList = true) ∨
  (dn = true ∧ SetRel (ts.take k) en us ∧ ∀ x ∈ ts.drop k, Op.bytesLess x.path.toList en.path.toList = false)

theorem less_ne {a b : ByteArray} (h : Op.bytesLess a.toList b.toList = true) : a ≠ b := fun e => by
  rw [e, less_irrefl] at h; cases h
theorem less_of {a b : ByteArray} (h : Op.bytesLess a.toList b.toList = false) (hne : a ≠ b) : Op.bytesLess b.toList a.toList = true := by
  have := less_total a.toList b.toList
  rw [h] at this
  simp only [Bool.not_false] at this
  have h2 := this.symm
  rw [Bool.or_eq_true, beq_iff_eq] at h2
  rcases h2 with h2 | h2
  · exact h2
  · rw [Lib.toList_data, Lib.toList_data] at h2
    exact absurd (WideShapes.bytes_inj h2).symm hne

theorem SInv.start (ts : List En) (en : En) : SInv ts en 0 false [] := .inl ⟨rfl, rfl, fun x hx => by simp at hx⟩
theorem SInv.len {ts : List En} {en : En} {k : Nat} {dn : Bool} {us : List En} (h : SInv ts en k dn us) : us.length ≤ ts.length + 1 := by
  rcases h with ⟨_, rfl, _⟩ | ⟨_, h, _⟩
  · simp; omega
  · have h1 : us.length ≤ (en :: ts.take k).length := by
      have hnd : us.Nodup := List.Pairwise.imp (fun {a b} h e => by rw [e, less_irrefl] at h; cases h) h.asc
      have : ∀ (l m : List En), l.Nodup → (∀ x ∈ l, x ∈ m) → l.length ≤ m.length := by
        intro l
        induction l with
        | nil => intro m _ _; exact Nat.zero_le _
        | cons x l ih =>
          intro m hn hs
          obtain ⟨a, b, rfl⟩ := List.append_of_mem (hs x (by simp))
          have h1 := ih (a ++ b) (List.nodup_cons.1 hn).2 (fun q hq => by
            rcases List.mem_append.1 (hs q (by simp [hq])) with h3 | h3
            · exact List.mem_append.2 (.inl h3)
            · rcases List.mem_cons.1 h3 with h4 | h4
              · subst h4; exact absurd hq (List.nodup_cons.1 hn).1
              · exact List.mem_append.2 (.inr h4))
          simp only [List.length_cons, List.length_append] at h1 ⊢
          omega
      refine this us _ hnd (fun x hx => ?_)
      rcases (h.mem x).1 hx with rfl | ⟨h1, _⟩
      · simp
      · simp [h1]
    simp at h1
    omega

theorem asc_take_drop {ts : List En} (hA : Asc ts) {k : Nat} (hk : k < ts.length) : (∀ x ∈ ts.take k, Op.bytesLess x.path.toList ts[k].path.toList = true) ∧ ∀ x ∈ ts.drop k, x = ts[k] ∨ Op.bytesLess ts[k].path.toList x.path.toList = true := by
  constructor
  · intro x hx
    obtain ⟨j, hj, rfl⟩ := List.getElem_of_mem hx
    simp at hj
    rw [List.getElem_take]
    exact List.pairwise_iff_getElem.1 hA j k (by omega) hk (by omega)
  · intro x hx
    obtain ⟨j, hj, rfl⟩ := List.getElem_of_mem hx
    simp at hj
    rw [List.getElem_drop]
    by_cases h0 : j = 0
    · subst h0; exact .inl rfl
    · exact .inr (List.pairwise_iff_getElem.1 hA k (k + j) hk (by omega) (by omega))

theorem mem_take_succ {ts : List En} {k : Nat} (hk : k < ts.length) (x : En) : x ∈ ts.take (k + 1) ↔ x ∈ ts.take k ∨ x = ts[k] := by
  rw [List.take_succ_eq_append_getElem hk, List.mem_append, List.mem_singleton]
theorem drop_sub {ts : List En} {k : Nat} {x : En} (h : x ∈ ts.drop (k + 1)) : x ∈ ts.drop k := by
  rw [← List.drop_drop] at h
  exact List.mem_of_mem_drop h

/-- The entry is put in front of what is not less. -/
theorem SInv.put {ts : List En} {en : En} {k : Nat} {us : List En} (hA : Asc ts) (hk : k < ts.length) (h : SInv ts en k false us) (hl : Op.bytesLess ts[k].path.toList en.path.toList = false) : SInv ts en k true (us ++ [en]) := by
  rcases h with ⟨_, rfl, h2⟩ | ⟨h1, _⟩
  · refine .inr ⟨rfl, ⟨?_, fun x => ?_⟩, fun x hx => ?_⟩
    · refine List.pairwise_append.2 ⟨?_, by simp, fun a ha b hb => ?_⟩
      · exact List.Pairwise.sublist (List.take_sublist _ _) hA
      · rw [List.mem_singleton.1 hb]; exact h2 a ha
    · rw [List.mem_append, List.mem_singleton]
      constructor
      · rintro (h3 | h3)
        · exact .inr ⟨h3, less_ne (h2 x h3)⟩
        · exact .inl h3
      · rintro (h3 | ⟨h3, _⟩)
        · exact .inr h3
        · exact .inl h3
    · rcases (asc_take_drop hA hk).2 x hx with rfl | h3
      · exact hl
      · cases h4 : Op.bytesLess x.path.toList en.path.toList with
        | false => rfl
        | true => rw [less_trans h3 h4] at hl; cases hl
  · cases h1
theorem SInv.app {ts : List En} {en : En} {k : Nat} {dn : Bool} {us : List En} (hA : Asc ts) (hk : k < ts.length) (h : SInv ts en k dn us) (hd : dn = false → Op.bytesLess ts[k].path.toList en.path.toList = true) (hne : ts[k].path ≠ en.path) : SInv ts en (k + 1) dn (us ++ [ts[k]]) := by
  rcases h with ⟨rfl, rfl, h2⟩ | ⟨rfl, h1, h2⟩
  · refine .inl ⟨rfl, (List.take_succ_eq_append_getElem hk).symm, fun x hx => ?_⟩
    rcases (mem_take_succ hk x).1 hx with h3 | rfl
    · exact h2 x h3
    · exact hd rfl
  · have hkd : ts[k] ∈ ts.drop k := by
      rw [List.mem_drop_iff_getElem]
      exact ⟨0, by omega, by simp⟩
    have hen := less_of (h2 _ hkd) hne
    refine .inr ⟨rfl, ⟨?_, fun x => ?_⟩, fun x hx => h2 x (drop_sub hx)⟩
    · refine List.pairwise_append.2 ⟨h1.asc, by simp, fun a ha b hb => ?_⟩
      rw [List.mem_singleton.1 hb]
      rcases (h1.mem a).1 ha with rfl | ⟨h3, _⟩
      · exact hen
      · exact (asc_take_drop hA hk).1 a h3
    · rw [List.mem_append, List.mem_singleton, h1.mem, mem_take_succ hk]
      constructor
      · rintro ((h3 | ⟨h3, h4⟩) | rfl)
        · exact .inl h3
        · exact .inr ⟨.inl h3, h4⟩
        · exact .inr ⟨.inr rfl, hne⟩
      · rintro (h3 | ⟨h3 | h3, h4⟩)
        · exact .inl (.inl h3)
        · exact .inl (.inr ⟨h3, h4⟩)
        · exact .inr h3
theorem SInv.skip {ts : List En} {en : En} {k : Nat} {us : List En} (hk : k < ts.length) (h : SInv ts en k true us) (heq : ts[k].path = en.path) : SInv ts en (k + 1) true us := by
  rcases h with ⟨h1, _⟩ | ⟨_, h1, h2⟩
  · cases h1
  · refine .inr ⟨rfl, ⟨h1.asc, fun x => ?_⟩, fun x hx => h2 x (drop_sub hx)⟩
    rw [h1.mem, mem_take_succ hk]
    constructor
    · rintro (h3 | ⟨h3, h4⟩)
      · exact .inl h3
      · exact .inr ⟨.inl h3, h4⟩
    · rintro (h3 | ⟨h3 | rfl, h4⟩)
      · exact .inl h3
      · exact .inr ⟨h3, h4⟩
      · exact absurd heq h4
theorem SInv.done {ts : List En} {en : En} {us : List En} (h : SInv ts en ts.length true us) : SetRel ts en us := by
  rcases h with ⟨h1, _⟩ | ⟨_, h1, _⟩
  · cases h1
  · rw [List.take_length] at h1; exact h1
theorem SInv.last {ts : List En} {en : En} {us : List En} (hA : Asc ts) (h : SInv ts en ts.length false us) : SetRel ts en (us ++ [en]) := by
  rcases h with ⟨_, rfl, h2⟩ | ⟨h1, _⟩
  · rw [List.take_length] at h2 ⊢
    refine ⟨List.pairwise_append.2 ⟨hA, by simp, fun a ha b hb => by rw [List.mem_singleton.1 hb]; exact h2 a ha⟩, fun x => ?_⟩
    rw [List.mem_append, List.mem_singleton]
    constructor
    · rintro (h3 | h3)
      · exact .inr ⟨h3, less_ne (h2 x h3)⟩
      · exact .inl h3
    · rintro (h3 | ⟨h3, _⟩)
      · exact .inr h3
      · exact .inl h3
  · cases h1
end Go.Proofs.Ytockgapdfcapnaa
