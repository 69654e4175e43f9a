/-
  Overlay: what it gives, plain; a tree of the one's entries and those of the other that nothing is in the way of.
-/
import Derived.Test.YtmeodgcnnjkilaaPutP
namespace Go.Proofs.Ytmeodgcnnjkilaa
open Go.RowKit

/-- Whether two paths are in the way of each other. -/
def meetB (x y : ByteArray) : Bool := x.toList == y.toList || (beginsB x y || beginsB y x)
theorem meetB_iff {x y : ByteArray} : meetB x y = true ↔ x = y ∨ Begins x y ∨ Begins y x := by
  unfold meetB
  rw [Bool.or_eq_true, Bool.or_eq_true, beginsB_iff, beginsB_iff, beq_iff_eq, Lib.toList_data, Lib.toList_data]
  refine or_congr ⟨fun h => WideShapes.bytes_inj h, fun h => by rw [h]⟩ Iff.rfl
def freeB (bs : List En) (p : ByteArray) : Bool := bs.all fun y => !meetB p y.path
theorem freeB_iff {bs : List En} {p : ByteArray} : freeB bs p = false ↔ ∃ y ∈ bs, p = y.path ∨ Begins p y.path ∨ Begins y.path p := by
  unfold freeB
  rw [Bool.eq_false_iff, ne_eq, List.all_eq_true]
  constructor
  · intro h
    by_cases hx : ∃ y ∈ bs, p = y.path ∨ Begins p y.path ∨ Begins y.path p
    · exact hx
    · refine absurd (fun y hy => ?_) h
      rw [Bool.not_eq_true', Bool.eq_false_iff]
      exact fun hm => hx ⟨y, hy, meetB_iff.1 hm⟩
  · rintro ⟨y, hy, hm⟩ h
    have := h y hy
    rw [meetB_iff.2 hm] at this
    cases this

structure OverRel (ts bs us : List En) : Prop where
  asc : Asc us
  mem : ∀ x, x ∈ us ↔ x ∈ bs ∨ (x ∈ ts ∧ freeB bs x.path = true)
theorem OverRel.one {ts bs us us' : List En} (h : OverRel ts bs us) (h' : OverRel ts bs us') : us = us' :=
  asc_unique h.asc h'.asc (fun x => by rw [h.mem, h'.mem])
theorem OverRel.start {bs : List En} (hA : Asc bs) : OverRel [] bs bs := ⟨hA, fun x => by simp⟩
theorem OverRel.skip {ts bs us : List En} {k : Nat} (hk : k < ts.length) (h : OverRel (ts.take k) bs us) (hf : freeB bs ts[k].path = false) : OverRel (ts.take (k + 1)) bs us := by
  refine ⟨h.asc, fun x => ?_⟩
  rw [h.mem, mem_take_succ hk]
  constructor
  · rintro (h1 | ⟨h1, h2⟩)
    · exact .inl h1
    · exact .inr ⟨.inl h1, h2⟩
  · rintro (h1 | ⟨h1 | rfl, h2⟩)
    · exact .inl h1
    · exact .inr ⟨h1, h2⟩
    · rw [hf] at h2; cases h2
theorem OverRel.set {ts bs us us' : List En} {k : Nat} (hA : Asc ts) (hk : k < ts.length) (h : OverRel (ts.take k) bs us) (hf : freeB bs ts[k].path = true) (hs : SetRel us ts[k] us') : OverRel (ts.take (k + 1)) bs us' := by
  refine ⟨hs.asc, fun x => ?_⟩
  rw [hs.mem, h.mem, mem_take_succ hk]
  constructor
  · rintro (rfl | ⟨h1 | ⟨h1, h2⟩, _⟩)
    · exact .inr ⟨.inr rfl, hf⟩
    · exact .inl h1
    · exact .inr ⟨.inl h1, h2⟩
  · rintro (h1 | ⟨h1 | rfl, h2⟩)
    · refine .inr ⟨.inl h1, fun e => ?_⟩
      have : freeB bs ts[k].path = false := freeB_iff.2 ⟨x, h1, .inl e.symm⟩
      rw [hf] at this; cases this
    · exact .inr ⟨.inr ⟨h1, h2⟩, less_ne ((asc_take_drop hA hk).1 x h1)⟩
    · exact .inl rfl

/-- What Overlay gives. -/
def OverR (ts bs us : List En) (c : Int) : Prop :=
  (¬ (ValidTs ts ∧ ValidTs bs) ∧ us = [] ∧ c = 1) ∨ (ValidTs ts ∧ ValidTs bs ∧ ∃ vs, OverRel ts bs vs ∧ ((100 < vs.length ∧ us = [] ∧ c = 4) ∨ (vs.length ≤ 100 ∧ us = vs ∧ c = 0)))
theorem over_one {ts bs us us' : List En} {c c' : Int} (h : OverR ts bs us c) (h' : OverR ts bs us' c') : us = us' ∧ c = c' := by
  rcases h with ⟨h1, rfl, rfl⟩ | ⟨h1, h2, vs, h4, h5⟩ <;>
    rcases h' with ⟨g1, rfl, rfl⟩ | ⟨g1, g2, vs', g4, g5⟩ <;>
    first | exact ⟨rfl, rfl⟩ | exact absurd ⟨g1, g2⟩ h1 | exact absurd ⟨h1, h2⟩ g1 | skip
  obtain rfl := h4.one g4
  rcases h5 with ⟨h5, rfl, rfl⟩ | ⟨h5, rfl, rfl⟩ <;> rcases g5 with ⟨g5, rfl, rfl⟩ | ⟨g5, rfl, rfl⟩ <;> first | exact ⟨rfl, rfl⟩ | omega
theorem over_few {ts bs us : List En} {c : Int} (h : OverR ts bs us c) : us.length ≤ 100 := by
  rcases h with ⟨_, rfl, _⟩ | ⟨_, _, vs, _, ⟨_, rfl, _⟩ | ⟨h, rfl, _⟩⟩
  · simp
  · simp
  · exact h
def OverPost (ts bs : List En) (w : World) (e : Ending) (w' : World) : Prop := ∃ us c, OverR ts bs us c ∧ TreeR us c w.heap.size e w' ∧ Below w.heap.size w w'

/-- The entries that stand in the tree once some of the other one's have been gone over. -/
def laid (ts bs : List En) (k : Nat) : List En := bs ++ (ts.take k).filter fun x => freeB bs x.path
theorem laid_zero (ts bs : List En) : laid ts bs 0 = bs := by simp [laid]
theorem laid_free {ts bs : List En} {k : Nat} (hk : k < ts.length) (hf : freeB bs ts[k].path = true) : laid ts bs (k + 1) = laid ts bs k ++ [ts[k]] := by
  unfold laid
  rw [List.take_succ_eq_append_getElem hk, List.filter_append]
  simp [hf]
theorem laid_not {ts bs : List En} {k : Nat} (hk : k < ts.length) (hf : freeB bs ts[k].path = false) : laid ts bs (k + 1) = laid ts bs k := by
  unfold laid
  rw [List.take_succ_eq_append_getElem hk, List.filter_append]
  simp [hf]
theorem blocked_meet {cs : List En} {β : Way → Option Nat} {φ : Way → Option (ByteArray × Bool)} (h : Shape cs β φ) (p : ByteArray) : Blocked β φ (partsB p) ↔ ∃ y ∈ cs, p = y.path ∨ Begins p y.path ∨ Begins y.path p := by
  constructor
  · rintro (⟨q, h1, h2, h3⟩ | h1 | ⟨x, h1⟩)
    · obtain ⟨e', he, rfl⟩ := (h.files q).1 h3
      exact ⟨e', he, .inr (.inr (begins_iff.2 ⟨h1, h2⟩))⟩
    · obtain ⟨e', he, hp⟩ := (h.files _).1 h1
      exact ⟨e', he, .inl (partsB_inj hp).symm⟩
    · rcases (h.nodes _).1 h1 with h2 | ⟨e', he, h2⟩
      · simp at h2
      · exact ⟨e', he, .inr (.inl (begins_iff.2 ⟨(List.prefix_append _ [x]).trans h2, fun e1 => by rw [← e1] at h2; have := h2.length_le; simp at this; omega⟩))⟩
  · rintro ⟨e', he, hb | hb | hb⟩
    · subst hb
      exact .inr (.inl (by rw [h.vals e' he]; simp))
    · obtain ⟨⟨t, ht⟩, h2⟩ := begins_iff.1 hb
      cases t with
      | nil => exact absurd (by rw [← ht]; simp) h2
      | cons x t => exact .inr (.inr ⟨x, (h.nodes _).2 (.inr ⟨e', he, ⟨t, by rw [← ht]; simp⟩⟩)⟩)
    · obtain ⟨h1, h2⟩ := begins_iff.1 hb
      exact .inl ⟨_, h1, h2, by rw [h.vals e' he]; simp⟩
theorem blocked_over {ts bs : List En} {k : Nat} (hv : ValidTs ts) (hk : k < ts.length) {β : Way → Option Nat} {φ : Way → Option (ByteArray × Bool)} (h : Shape (laid ts bs k) β φ) : Blocked β φ (partsB ts[k].path) ↔ freeB bs ts[k].path = false := by
  rw [blocked_meet h, freeB_iff]
  constructor
  · rintro ⟨y, hy, hm⟩
    rcases List.mem_append.1 hy with h1 | h1
    · exact ⟨y, h1, hm⟩
    · exfalso
      have h2 := (List.mem_filter.1 h1).1
      rcases hm with e | e | e
      · exact less_ne ((asc_take_drop (valid_asc hv) hk).1 y h2) e.symm
      · exact valid_free hv (List.getElem_mem hk) (List.mem_of_mem_take h2) e
      · exact valid_free hv (List.mem_of_mem_take h2) (List.getElem_mem hk) e
  · rintro ⟨y, hy, hm⟩
    exact ⟨y, List.mem_append.2 (.inl hy), hm⟩
theorem told_over {ts bs us : List En} {β : Way → Option Nat} {φ : Way → Option (ByteArray × Bool)} (hS : Shape (laid ts bs ts.length) β φ) (h : Told φ [] [] [] us) : OverRel ts bs us := by
  refine ⟨h.asc, fun e => ?_⟩
  rw [told_mem h, List.nil_append, tells_iff hS, laid, List.mem_append, List.mem_filter, List.take_length]

theorem TreeM.pre {lo N : Nat} {W : World} {β : Way → Option Nat} {μ : Way → Nat} {φ : Way → Option (ByteArray × Bool)} (h : TreeM lo N W β μ φ) : ∀ (t q : Way), β (q ++ t) ≠ none → β q ≠ none
  | [], q, hq => by simpa using hq
  | x :: t, q, hq => by
    have h1 : β ((q ++ [x]) ++ t) ≠ none := by rw [List.append_assoc]; exact hq
    exact h.up q x (h.pre t (q ++ [x]) h1)
/-- What could not be laid has changed nothing. -/
theorem same_nodes {lo N : Nat} {W : World} {β β' : Way → Option Nat} {μ : Way → Nat} {φ : Way → Option (ByteArray × Bool)} (h : TreeM lo N W β μ φ) {q : Way} (hq : β q ≠ none) (hg : ∀ r, β' r ≠ none ↔ β r ≠ none ∨ r <+: q) (r : Way) : β' r ≠ none ↔ β r ≠ none := by
  rw [hg]
  constructor
  · rintro (h1 | ⟨t, rfl⟩)
    · exact h1
    · exact h.pre t r hq
  · exact .inl
theorem Shape.same {cs : List En} {β β' : Way → Option Nat} {φ : Way → Option (ByteArray × Bool)} (h : Shape cs β φ) (hs : ∀ r, β' r ≠ none ↔ β r ≠ none) : Shape cs β' φ :=
  ⟨fun q => (hs q).trans (h.nodes q), h.files, h.vals⟩
theorem GoodT.same {K : Nat} {β β' : Way → Option Nat} {φ : Way → Option (ByteArray × Bool)} (h : GoodT K β φ) (hs : ∀ r, β' r ≠ none ↔ β r ≠ none) : GoodT K β' φ where
  name q x hq := h.name q x ((hs _).1 hq)
  deep q hq := h.deep q ((hs _).1 hq)
  up q x hq := (hs _).2 (h.up q x ((hs _).1 hq))
  leaf q x hq := by
    cases hc : β' (q ++ [x]) with
    | none => rfl
    | some b => exact absurd (h.leaf q x hq) ((hs _).1 (by rw [hc]; simp))
  node q hq := (hs _).2 (h.node q hq)
  text := h.text
  few := h.few
theorem GoodT.wide {K K' : Nat} {β : Way → Option Nat} {φ : Way → Option (ByteArray × Bool)} (h : GoodT K β φ) (hK : K ≤ K') : GoodT K' β φ :=
  ⟨h.name, h.deep, h.up, h.leaf, h.node, h.text, by obtain ⟨F, h1, h2⟩ := h.few; exact ⟨F, Nat.le_trans h1 hK, h2⟩⟩
end Go.Proofs.Ytmeodgcnnjkilaa
