/-
  Put: what it gives, plain; a tree with one more file.
-/
import Derived.Test.YtiadabmbfpfbjaaTellE
import Derived.Test.YtiadabmbfpfbjaaEntL
import Derived.Test.YtiadabmbfpfbjaaStrikeN
import Derived.Test.YtiadabmbfpfbjaaSetP
namespace Go.Proofs.Ytiadabmbfpfbjaa
open Go.RowKit

/-- What is in the way of an entry. -/
def InWay (ts : List En) (e : En) : Prop := ∃ x ∈ ts, Begins x.path e.path ∨ Begins e.path x.path

/-- What Put gives. -/
def PutR (ts : List En) (e : En) (us : List En) (c : Int) : Prop :=
  (¬ ValidTs ts ∧ us = [] ∧ c = 1) ∨ (ValidTs ts ∧ enOk e = false ∧ us = [] ∧ c = 2) ∨ (ValidTs ts ∧ enOk e = true ∧ InWay ts e ∧ us = [] ∧ c = 3) ∨
  (ValidTs ts ∧ enOk e = true ∧ ¬ InWay ts e ∧ ∃ vs, SetRel ts e vs ∧ ((100 < vs.length ∧ us = [] ∧ c = 4) ∨ (vs.length ≤ 100 ∧ us = vs ∧ c = 0)))

theorem put_one {ts : List En} {e : En} {us us' : List En} {c c' : Int} (h : PutR ts e us c) (h' : PutR ts e us' c') : us = us' ∧ c = c' := by
  rcases h with ⟨h1, rfl, rfl⟩ | ⟨h1, h2, rfl, rfl⟩ | ⟨h1, h2, h3, rfl, rfl⟩ | ⟨h1, h2, h3, vs, h4, h5⟩ <;>
    rcases h' with ⟨g1, rfl, rfl⟩ | ⟨g1, g2, rfl, rfl⟩ | ⟨g1, g2, g3, rfl, rfl⟩ | ⟨g1, g2, g3, vs', g4, g5⟩ <;>
    first | exact ⟨rfl, rfl⟩ | exact absurd g1 h1 | exact absurd h1 g1 | exact absurd (h2.symm.trans g2) (by decide) | exact absurd g3 h3 | exact absurd h3 g3 | skip
  obtain rfl := h4.one g4
  rcases h5 with ⟨h5, rfl, rfl⟩ | ⟨h5, rfl, rfl⟩ <;> rcases g5 with ⟨g5, rfl, rfl⟩ | ⟨g5, rfl, rfl⟩ <;> first | exact ⟨rfl, rfl⟩ | omega

theorem put_few {ts : List En} {e : En} {us : List En} {c : Int} (h : PutR ts e us c) : us.length ≤ 100 := by
  rcases h with ⟨_, rfl, _⟩ | ⟨_, _, rfl, _⟩ | ⟨_, _, _, rfl, _⟩ | ⟨_, _, _, vs, _, ⟨_, rfl, _⟩ | ⟨h, rfl, _⟩⟩
  · simp
  · simp
  · simp
  · simp
  · exact h

def PutPost (ts : List En) (en : En) (w : World) (e : Ending) (w' : World) : Prop := ∃ us c, PutR ts en us c ∧ TreeR us c w.heap.size e w' ∧ Below w.heap.size w w'

theorem upd_none {φ : Way → Option (ByteArray × Bool)} {p : Way} (h : φ p = none) : upd φ p none = φ := by
  funext q
  by_cases e : q = p
  · subst e; rw [upd_same, h]
  · exact upd_other _ _ e

/-- What is in the way of an entry, in the tree. -/
theorem blocked_set {ts : List En} {β : Way → Option Nat} {φ : Way → Option (ByteArray × Bool)} (h : Shape ts β φ) (e : En) :
    Blocked β (upd φ (partsB e.path) none) (partsB e.path) ↔ InWay ts e := by
  constructor
  · rintro (⟨q, h1, h2, h3⟩ | h1 | ⟨x, h1⟩)
    · rw [upd_other _ _ h2] at h3
      obtain ⟨e', he, rfl⟩ := (h.files q).1 h3
      exact ⟨e', he, .inl (begins_iff.2 ⟨h1, h2⟩)⟩
    · rw [upd_same] at h1; exact absurd rfl h1
    · rcases (h.nodes _).1 h1 with h2 | ⟨e', he, h2⟩
      · simp at h2
      · exact ⟨e', he, .inr (begins_iff.2 ⟨(List.prefix_append _ [x]).trans h2, fun e1 => by rw [← e1] at h2; have := h2.length_le; simp at this; omega⟩)⟩
  · rintro ⟨e', he, hb | hb⟩
    · obtain ⟨h1, h2⟩ := begins_iff.1 hb
      refine .inl ⟨_, h1, h2, ?_⟩
      rw [upd_other _ _ h2]
      exact (h.files _).2 ⟨e', he, rfl⟩
    · obtain ⟨⟨t, ht⟩, h2⟩ := begins_iff.1 hb
      cases t with
      | nil => exact absurd (by rw [← ht]; simp) h2
      | cons x t => exact .inr (.inr ⟨x, (h.nodes _).2 (.inr ⟨e', he, ⟨t, by rw [← ht]; simp⟩⟩)⟩)

theorem GoodT.lay {K : Nat} {β β' : Way → Option Nat} {φ : Way → Option (ByteArray × Bool)} (h : GoodT K β φ) {p : ByteArray} (hp : pathOk pathB p = true) {t : ByteArray} {r : Bool} (ht : t.size ≤ 1500) (hno : ¬ Blocked β φ (partsB p)) (hβ : ∀ q, β' q ≠ none ↔ β q ≠ none ∨ q <+: partsB p) :
    GoodT (K + 1) β' (upd φ (partsB p) (some (t, r))) := by
  obtain ⟨hl, hx⟩ := path_parts hp
  have hφ : ∀ q, upd φ (partsB p) (some (t, r)) q ≠ none → q = partsB p ∨ φ q ≠ none := fun q hq => by
    by_cases e : q = partsB p
    · exact .inl e
    · rw [upd_other _ _ e] at hq; exact .inr hq
  obtain ⟨F, hF, hm⟩ := h.few
  refine ⟨fun q x hq => ?_, fun q hq => ?_, fun q x hq => ?_, fun q x hq => ?_, fun q hq => ?_, fun q t' r' hq => ?_, partsB p :: F, by simp; omega, fun q hq => ?_⟩
  · rcases (hβ _).1 hq with h1 | h1
    · exact h.name q x h1
    · exact hx x (h1.subset (by simp))
  · rcases (hβ _).1 hq with h1 | h1
    · exact h.deep q h1
    · exact Nat.le_trans h1.length_le hl
  · rcases (hβ _).1 hq with h1 | h1
    · exact (hβ _).2 (.inl (h.up q x h1))
    · exact (hβ _).2 (.inr ((List.prefix_append q _).trans h1))
  · cases hc : β' (q ++ [x]) with
    | none => rfl
    | some b =>
      exfalso
      rcases (hβ (q ++ [x])).1 (by rw [hc]; simp) with h1 | h1
      · rcases hφ q hq with rfl | h2
        · exact hno (.inr (.inr ⟨x, h1⟩))
        · exact h1 (h.leaf q x h2)
      · rcases hφ q hq with rfl | h2
        · have := h1.length_le; simp at this; omega
        · exact hno (.inl ⟨q, (List.prefix_append q _).trans h1, fun e => by rw [e] at h1; have := h1.length_le; simp at this; omega, h2⟩)
  · rcases hφ q hq with rfl | h2
    · exact (hβ _).2 (.inr (List.prefix_refl _))
    · exact (hβ _).2 (.inl (h.node q h2))
  · by_cases e : q = partsB p
    · subst e
      rw [upd_same] at hq
      injection hq with hq
      injection hq with h1 h2
      rw [← h1]; exact ht
    · rw [upd_other _ _ e] at hq
      exact h.text q t' r' hq
  · rcases hφ q hq with rfl | h2
    · simp
    · exact List.mem_cons_of_mem _ (hm q h2)

theorem told_set {ts : List En} {β : Way → Option Nat} {φ : Way → Option (ByteArray × Bool)} (hS : Shape ts β φ) {e : En} {us : List En} (h : Told (upd (upd φ (partsB e.path) none) (partsB e.path) (some (e.text, e.runs))) [] [] [] us) : SetRel ts e us := by
  refine ⟨h.asc, fun x => ?_⟩
  rw [told_mem h, List.nil_append]
  by_cases e1 : x.path = e.path
  · rw [e1, upd_same]
    constructor
    · intro h1
      injection h1 with h1
      injection h1 with h2 h3
      left
      cases x; cases e
      simp_all
    · rintro (rfl | ⟨_, h1⟩)
      · rfl
      · exact absurd rfl h1
  · rw [upd_other _ _ (fun e2 => e1 (partsB_inj e2)), upd_other _ _ (fun e2 => e1 (partsB_inj e2)), tells_iff hS]
    constructor
    · intro h1; exact .inr ⟨h1, e1⟩
    · rintro (rfl | ⟨h1, _⟩)
      · exact absurd rfl e1
      · exact h1
end Go.Proofs.Ytiadabmbfpfbjaa
