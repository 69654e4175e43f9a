/-
  TrsP, OverP, MntP, MtsP, UndP, UndI, GetP, GetI, GotB, ImplTree, OverI, MntI, OverS, MntS: laid as one text.
-/
import Derived.Test.YtiadabmbfpfbjaaPutP
import Derived.Test.YtiadabmbfpfbjaaMtsI
import Derived.Test.YtiadabmbfpfbjaaTreeP
import Derived.Test.YtiadabmbfpfbjaaMtsD
import Derived.Test.YtiadabmbfpfbjaaSetS
import Derived.Test.YtiadabmbfpfbjaaCopyT
import Derived.Test.YtiadabmbfpfbjaaSpecTree
import Derived.Test.YtiadabmbfpfbjaaLaterQ
import Derived.Deep.RegionLaw
namespace Go.Proofs.Ytiadabmbfpfbjaa
open Go.RowKit

theorem valid_of {us : List En} (hA : Asc us) (hn : us.length ≤ 100) (hok : ∀ x ∈ us, enOk x = true) (hf : ∀ x ∈ us, ∀ y ∈ us, ¬ Begins x.path y.path) : ValidTs us :=
  ⟨hn, fun i hi => ⟨hi, hok _ (List.getElem_mem hi), fun j hj hjl => List.pairwise_iff_getElem.1 hA j i hjl hi (by omega), fun e' he' => hf e' (List.mem_of_mem_take he') _ (List.getElem_mem hi)⟩⟩
theorem begins_irrefl (x : ByteArray) : ¬ Begins x x := fun h => by
  have := begins_less h
  rw [less_irrefl] at this
  cases this
theorem put_valid {ts : List En} {e : En} {us : List En} (hv : ValidTs ts) (he : enOk e = true) (hw : ¬ InWay ts e) (hs : SetRel ts e us) (hn : us.length ≤ 100) : ValidTs us := by
  refine valid_of hs.asc hn (fun x hx => ?_) (fun x hx y hy hb => ?_)
  · rcases (hs.mem x).1 hx with rfl | ⟨h, _⟩
    · exact he
    · exact valid_en hv h
  · rcases (hs.mem x).1 hx with rfl | ⟨h, _⟩
    · rcases (hs.mem y).1 hy with rfl | ⟨h', _⟩
      · exact begins_irrefl _ hb
      · exact hw ⟨y, h', .inr hb⟩
    · rcases (hs.mem y).1 hy with rfl | ⟨h', _⟩
      · exact hw ⟨x, h, .inl hb⟩
      · exact valid_free hv h h' hb
theorem without_valid {us : List En} (hv : ValidTs us) (p : ByteArray) : ValidTs (without us p) := by
  refine valid_of ((valid_asc hv).filter _) (Nat.le_trans (List.length_filter_le _ _) hv.1) (fun x hx => ?_) (fun x hx y hy => ?_)
  · exact valid_en hv ((without_mem x).1 hx).1
  · exact valid_free hv ((without_mem x).1 hx).1 ((without_mem y).1 hy).1
/-- An entry's path tells it. -/
theorem path_tells {us : List En} (hA : Asc us) {x y : En} (hx : x ∈ us) (hy : y ∈ us) (h : x.path = y.path) : x = y := by
  obtain ⟨i, hi, rfl⟩ := List.getElem_of_mem hx
  obtain ⟨j, hj, rfl⟩ := List.getElem_of_mem hy
  rcases Nat.lt_trichotomy i j with h1 | h1 | h1
  · have := List.pairwise_iff_getElem.1 hA i j hi hj h1
    rw [h, less_irrefl] at this
    cases this
  · subst h1; rfl
  · have := List.pairwise_iff_getElem.1 hA j i hj hi h1
    rw [h, less_irrefl] at this
    cases this
/-- What was put in is taken away again: nothing lay there before. -/
theorem back_none {ts us : List En} {e : En} (hA : Asc ts) (hs : SetRel ts e us) (hno : ∀ x ∈ ts, x.path ≠ e.path) : without us e.path = ts := by
  refine asc_unique (hs.asc.filter _) hA (fun x => ?_)
  rw [without_mem, hs.mem]
  constructor
  · rintro ⟨rfl | ⟨h, _⟩, h2⟩
    · exact absurd rfl h2
    · exact h
  · intro h
    exact ⟨.inr ⟨h, hno x h⟩, hno x h⟩
/-- What lay there before is put in again. -/
theorem back_some {ts us zs : List En} {e o : En} (hA : Asc ts) (hs : SetRel ts e us) (ho : o ∈ ts) (hop : o.path = e.path) (hz : SetRel (without us e.path) o zs) : zs = ts := by
  refine asc_unique hz.asc hA (fun x => ?_)
  rw [hz.mem, without_mem, hs.mem]
  constructor
  · rintro (rfl | ⟨⟨rfl | ⟨h, _⟩, h2⟩, _⟩)
    · exact ho
    · exact absurd rfl h2
    · exact h
  · intro h
    by_cases h2 : x.path = e.path
    · exact .inl (path_tells hA h ho (h2.trans hop.symm))
    · exact .inr ⟨⟨.inr ⟨h, h2⟩, h2⟩, fun e1 => h2 (e1.trans hop)⟩
/-- Nothing is in its way. -/
theorem back_free {ts us : List En} {e o : En} (hv : ValidTs ts) (hs : SetRel ts e us) (ho : o ∈ ts) : ¬ InWay (without us e.path) o := by
  rintro ⟨x, hx, hb⟩
  rw [without_mem, hs.mem] at hx
  obtain ⟨rfl | ⟨h, _⟩, h2⟩ := hx
  · exact h2 rfl
  · rcases hb with hb | hb
    · exact valid_free hv h ho hb
    · exact valid_free hv ho h hb
end Go.Proofs.Ytiadabmbfpfbjaa

namespace Go.Proofs.Ytiadabmbfpfbjaa
open Go.RowKit

/-- Whether two paths are in the way of each other. -/
def meetB (x y : ByteArray) : Bool := x.toList == y.toList || (beginsB x y || beginsB y x)
theorem meetB_iff {x y : ByteArray} : meetB x y = true ↔ x = y ∨ Begins x y ∨ Begins y x := by
  unfold meetB
  rw [Bool.or_eq_true, Bool.or_eq_true, beginsB_iff, beginsB_iff, beq_iff_eq, Lib.toList_data, Lib.toList_data]
  refine or_congr ⟨fun h => WideShapes.bytes_inj h, fun h => by rw [h]⟩ Iff.rfl
def freeB (bs : List En) (p : ByteArray) : Bool := bs.all fun y => !meetB p y.path
theorem freeB_iff {bs : List En} {p : ByteArray} : freeB bs p = false ↔ ∃ y ∈ bs, p = y.path ∨ Begins p y.path ∨ Begins y.path p := by
  unfold freeB
  rw [Bool.eq_false_iff, ne_eq, List.all_eq_true]
  constructor
  · intro h
    by_cases hx : ∃ y ∈ bs, p = y.path ∨ Begins p y.path ∨ Begins y.path p
    · exact hx
    · refine absurd (fun y hy => ?_) h
      rw [Bool.not_eq_true', Bool.eq_false_iff]
      exact fun hm => hx ⟨y, hy, meetB_iff.1 hm⟩
  · rintro ⟨y, hy, hm⟩ h
    have := h y hy
    rw [meetB_iff.2 hm] at this
    cases this

structure OverRel (ts bs us : List En) : Prop where
  asc : Asc us
  mem : ∀ x, x ∈ us ↔ x ∈ bs ∨ (x ∈ ts ∧ freeB bs x.path = true)
theorem OverRel.one {ts bs us us' : List En} (h : OverRel ts bs us) (h' : OverRel ts bs us') : us = us' :=
  asc_unique h.asc h'.asc (fun x => by rw [h.mem, h'.mem])
theorem OverRel.start {bs : List En} (hA : Asc bs) : OverRel [] bs bs := ⟨hA, fun x => by simp⟩
theorem OverRel.skip {ts bs us : List En} {k : Nat} (hk : k < ts.length) (h : OverRel (ts.take k) bs us) (hf : freeB bs ts[k].path = false) : OverRel (ts.take (k + 1)) bs us := by
  refine ⟨h.asc, fun x => ?_⟩
  rw [h.mem, mem_take_succ hk]
  constructor
  · rintro (h1 | ⟨h1, h2⟩)
    · exact .inl h1
    · exact .inr ⟨.inl h1, h2⟩
  · rintro (h1 | ⟨h1 | rfl, h2⟩)
    · exact .inl h1
    · exact .inr ⟨h1, h2⟩
    · rw [hf] at h2; cases h2
theorem OverRel.set {ts bs us us' : List En} {k : Nat} (hA : Asc ts) (hk : k < ts.length) (h : OverRel (ts.take k) bs us) (hf : freeB bs ts[k].path = true) (hs : SetRel us ts[k] us') : OverRel (ts.take (k + 1)) bs us' := by
  refine ⟨hs.asc, fun x => ?_⟩
  rw [hs.mem, h.mem, mem_take_succ hk]
  constructor
  · rintro (rfl | ⟨h1 | ⟨h1, h2⟩, _⟩)
    · exact .inr ⟨.inr rfl, hf⟩
    · exact .inl h1
    · exact .inr ⟨.inl h1, h2⟩
  · rintro (h1 | ⟨h1 | rfl, h2⟩)
    · refine .inr ⟨.inl h1, fun e => ?_⟩
      have : freeB bs ts[k].path = false := freeB_iff.2 ⟨x, h1, .inl e.symm⟩
      rw [hf] at this; cases this
    · exact .inr ⟨.inr ⟨h1, h2⟩, less_ne ((asc_take_drop hA hk).1 x h1)⟩
    · exact .inl rfl

/-- What Overlay gives. -/
def OverR (ts bs us : List En) (c : Int) : Prop :=
  (¬ (ValidTs ts ∧ ValidTs bs) ∧ us = [] ∧ c = 1) ∨ (ValidTs ts ∧ ValidTs bs ∧ ∃ vs, OverRel ts bs vs ∧ ((100 < vs.length ∧ us = [] ∧ c = 4) ∨ (vs.length ≤ 100 ∧ us = vs ∧ c = 0)))
theorem over_one {ts bs us us' : List En} {c c' : Int} (h : OverR ts bs us c) (h' : OverR ts bs us' c') : us = us' ∧ c = c' := by
  rcases h with ⟨h1, rfl, rfl⟩ | ⟨h1, h2, vs, h4, h5⟩ <;>
    rcases h' with ⟨g1, rfl, rfl⟩ | ⟨g1, g2, vs', g4, g5⟩ <;>
    first | exact ⟨rfl, rfl⟩ | exact absurd ⟨g1, g2⟩ h1 | exact absurd ⟨h1, h2⟩ g1 | skip
  obtain rfl := h4.one g4
  rcases h5 with ⟨h5, rfl, rfl⟩ | ⟨h5, rfl, rfl⟩ <;> rcases g5 with ⟨g5, rfl, rfl⟩ | ⟨g5, rfl, rfl⟩ <;> first | exact ⟨rfl, rfl⟩ | omega
theorem over_few {ts bs us : List En} {c : Int} (h : OverR ts bs us c) : us.length ≤ 100 := by
  rcases h with ⟨_, rfl, _⟩ | ⟨_, _, vs, _, ⟨_, rfl, _⟩ | ⟨h, rfl, _⟩⟩
  · simp
  · simp
  · exact h
def OverPost (ts bs : List En) (w : World) (e : Ending) (w' : World) : Prop := ∃ us c, OverR ts bs us c ∧ TreeR us c w.heap.size e w' ∧ Below w.heap.size w w'

/-- The entries that stand in the tree once some of the other one's have been gone over. -/
def laid (ts bs : List En) (k : Nat) : List En := bs ++ (ts.take k).filter fun x => freeB bs x.path
theorem laid_zero (ts bs : List En) : laid ts bs 0 = bs := by simp [laid]
theorem laid_free {ts bs : List En} {k : Nat} (hk : k < ts.length) (hf : freeB bs ts[k].path = true) : laid ts bs (k + 1) = laid ts bs k ++ [ts[k]] := by
  unfold laid
  rw [List.take_succ_eq_append_getElem hk, List.filter_append]
  simp [hf]
theorem laid_not {ts bs : List En} {k : Nat} (hk : k < ts.length) (hf : freeB bs ts[k].path = false) : laid ts bs (k + 1) = laid ts bs k := by
  unfold laid
  rw [List.take_succ_eq_append_getElem hk, List.filter_append]
  simp [hf]
theorem blocked_meet {cs : List En} {β : Way → Option Nat} {φ : Way → Option (ByteArray × Bool)} (h : Shape cs β φ) (p : ByteArray) : Blocked β φ (partsB p) ↔ ∃ y ∈ cs, p = y.path ∨ Begins p y.path ∨ Begins y.path p := by
  constructor
  · rintro (⟨q, h1, h2, h3⟩ | h1 | ⟨x, h1⟩)
    · obtain ⟨e', he, rfl⟩ := (h.files q).1 h3
      exact ⟨e', he, .inr (.inr (begins_iff.2 ⟨h1, h2⟩))⟩
    · obtain ⟨e', he, hp⟩ := (h.files _).1 h1
      exact ⟨e', he, .inl (partsB_inj hp).symm⟩
    · rcases (h.nodes _).1 h1 with h2 | ⟨e', he, h2⟩
      · simp at h2
      · exact ⟨e', he, .inr (.inl (begins_iff.2 ⟨(List.prefix_append _ [x]).trans h2, fun e1 => by rw [← e1] at h2; have := h2.length_le; simp at this; omega⟩))⟩
  · rintro ⟨e', he, hb | hb | hb⟩
    · subst hb
      exact .inr (.inl (by rw [h.vals e' he]; simp))
    · obtain ⟨⟨t, ht⟩, h2⟩ := begins_iff.1 hb
      cases t with
      | nil => exact absurd (by rw [← ht]; simp) h2
      | cons x t => exact .inr (.inr ⟨x, (h.nodes _).2 (.inr ⟨e', he, ⟨t, by rw [← ht]; simp⟩⟩)⟩)
    · obtain ⟨h1, h2⟩ := begins_iff.1 hb
      exact .inl ⟨_, h1, h2, by rw [h.vals e' he]; simp⟩
theorem blocked_over {ts bs : List En} {k : Nat} (hv : ValidTs ts) (hk : k < ts.length) {β : Way → Option Nat} {φ : Way → Option (ByteArray × Bool)} (h : Shape (laid ts bs k) β φ) : Blocked β φ (partsB ts[k].path) ↔ freeB bs ts[k].path = false := by
  rw [blocked_meet h, freeB_iff]
  constructor
  · rintro ⟨y, hy, hm⟩
    rcases List.mem_append.1 hy with h1 | h1
    · exact ⟨y, h1, hm⟩
    · exfalso
      have h2 := (List.mem_filter.1 h1).1
      rcases hm with e | e | e
      · exact less_ne ((asc_take_drop (valid_asc hv) hk).1 y h2) e.symm
      · exact valid_free hv (List.getElem_mem hk) (List.mem_of_mem_take h2) e
      · exact valid_free hv (List.mem_of_mem_take h2) (List.getElem_mem hk) e
  · rintro ⟨y, hy, hm⟩
    exact ⟨y, List.mem_append.2 (.inl hy), hm⟩
theorem told_over {ts bs us : List En} {β : Way → Option Nat} {φ : Way → Option (ByteArray × Bool)} (hS : Shape (laid ts bs ts.length) β φ) (h : Told φ [] [] [] us) : OverRel ts bs us := by
  refine ⟨h.asc, fun e => ?_⟩
  rw [told_mem h, List.nil_append, tells_iff hS, laid, List.mem_append, List.mem_filter, List.take_length]

theorem TreeM.pre {lo N : Nat} {W : World} {β : Way → Option Nat} {μ : Way → Nat} {φ : Way → Option (ByteArray × Bool)} (h : TreeM lo N W β μ φ) : ∀ (t q : Way), β (q ++ t) ≠ none → β q ≠ none
  | [], q, hq => by simpa using hq
  | x :: t, q, hq => by
    have h1 : β ((q ++ [x]) ++ t) ≠ none := by rw [List.append_assoc]; exact hq
    exact h.up q x (h.pre t (q ++ [x]) h1)
/-- What could not be laid has changed nothing. -/
theorem same_nodes {lo N : Nat} {W : World} {β β' : Way → Option Nat} {μ : Way → Nat} {φ : Way → Option (ByteArray × Bool)} (h : TreeM lo N W β μ φ) {q : Way} (hq : β q ≠ none) (hg : ∀ r, β' r ≠ none ↔ β r ≠ none ∨ r <+: q) (r : Way) : β' r ≠ none ↔ β r ≠ none := by
  rw [hg]
  constructor
  · rintro (h1 | ⟨t, rfl⟩)
    · exact h1
    · exact h.pre t r hq
  · exact .inl
theorem Shape.same {cs : List En} {β β' : Way → Option Nat} {φ : Way → Option (ByteArray × Bool)} (h : Shape cs β φ) (hs : ∀ r, β' r ≠ none ↔ β r ≠ none) : Shape cs β' φ :=
  ⟨fun q => (hs q).trans (h.nodes q), h.files, h.vals⟩
theorem GoodT.same {K : Nat} {β β' : Way → Option Nat} {φ : Way → Option (ByteArray × Bool)} (h : GoodT K β φ) (hs : ∀ r, β' r ≠ none ↔ β r ≠ none) : GoodT K β' φ where
  name q x hq := h.name q x ((hs _).1 hq)
  deep q hq := h.deep q ((hs _).1 hq)
  up q x hq := (hs _).2 (h.up q x ((hs _).1 hq))
  leaf q x hq := by
    cases hc : β' (q ++ [x]) with
    | none => rfl
    | some b => exact absurd (h.leaf q x hq) ((hs _).1 (by rw [hc]; simp))
  node q hq := (hs _).2 (h.node q hq)
  text := h.text
  few := h.few
theorem GoodT.wide {K K' : Nat} {β : Way → Option Nat} {φ : Way → Option (ByteArray × Bool)} (h : GoodT K β φ) (hK : K ≤ K') : GoodT K' β φ :=
  ⟨h.name, h.deep, h.up, h.leaf, h.node, h.text, by obtain ⟨F, h1, h2⟩ := h.few; exact ⟨F, Nat.le_trans h1 hK, h2⟩⟩
end Go.Proofs.Ytiadabmbfpfbjaa

namespace Go.Proofs.Ytiadabmbfpfbjaa
open Go.RowKit

/-- One tree in the place of what lies below a node of another one. -/
def graft {α : Type} (p : Way) (f g : Way → α) : Way → α := fun q => if p <+: q ∧ q ≠ p then g (q.drop p.length) else f q
def graftM {α : Type} (p : Way) (f g : Way → α) : Way → α := fun q => if p <+: q then g (q.drop p.length) else f q
theorem graft_in {α : Type} (p : Way) (f g : Way → α) {r : Way} (h : r ≠ []) : graft p f g (p ++ r) = g r := by
  unfold graft
  rw [if_pos ⟨List.prefix_append p r, fun e => h (by simpa using e)⟩, List.drop_left]
theorem graft_at {α : Type} (p : Way) (f g : Way → α) : graft p f g p = f p := by
  unfold graft
  rw [if_neg (fun h => h.2 rfl)]
theorem graft_out {α : Type} {p q : Way} (f g : Way → α) (h : ¬ p <+: q) : graft p f g q = f q := by
  unfold graft
  rw [if_neg (fun e => h e.1)]
theorem graftM_in {α : Type} (p : Way) (f g : Way → α) (r : Way) : graftM p f g (p ++ r) = g r := by
  unfold graftM
  rw [if_pos (List.prefix_append p r), List.drop_left]
theorem graftM_out {α : Type} {p q : Way} (f g : Way → α) (h : ¬ p <+: q) : graftM p f g q = f q := by
  unfold graftM
  rw [if_neg h]
/-- Where a way lies. -/
theorem way_cases (p q : Way) : (∃ r, r ≠ [] ∧ q = p ++ r) ∨ q = p ∨ ¬ p <+: q := by
  by_cases h : p <+: q
  · obtain ⟨r, rfl⟩ := h
    by_cases hr : r = []
    · subst hr; exact .inr (.inl (by simp))
    · exact .inl ⟨r, hr, rfl⟩
  · exact .inr (.inr h)
theorem out_snoc {p q : Way} {x : ByteArray} (h : ¬ p <+: q) : ¬ (p <+: q ++ [x] ∧ q ++ [x] ≠ p) := by
  rintro ⟨h1, h2⟩
  rcases List.prefix_concat_iff.1 h1 with h3 | h3
  · exact h2 h3.symm
  · exact h h3
theorem graft_snoc {α : Type} {p q : Way} (f g : Way → α) (x : ByteArray) (h : ¬ p <+: q) : graft p f g (q ++ [x]) = f (q ++ [x]) := by
  unfold graft
  rw [if_neg (out_snoc h)]

theorem kids_set {W : World} {b : Nat} {u : Value} {mb N : Nat} {kid : ByteArray → Option Nat} (h : Kids W mb N kid) (hne : mb ≠ b) : Kids (W.setCell ⟨b, 3, none⟩ u) mb N kid :=
  h.block (Below.heap_setCell _ _ _ _ hne)

theorem TreeM.graft {lo lo2 N1 N2 b : Nat} {W : World} {β1 β2 : Way → Option Nat} {μ1 μ2 : Way → Nat} {φ1 φ2 : Way → Option (ByteArray × Bool)} {p : Way} (h1 : TreeM lo N1 W β1 μ1 φ1) (h2 : TreeM lo2 N2 W β2 μ2 φ2) (hp : β1 p = some b) (hφ : φ1 p = none)
    (hdis : ∀ k, TreeB β1 μ1 k → ¬ TreeB β2 μ2 k) (hlo : lo ≤ lo2) (N : Nat) (hN1 : N1 ≤ N) (hN2 : N2 ≤ N) :
    TreeM lo N (W.setCell ⟨b, 3, none⟩ (.map (some (μ2 [])))) (graft p β1 β2) (graftM p μ1 μ2) (graft p φ1 φ2) := by
  have hb1 : TreeB β1 μ1 b := .inl ⟨p, hp⟩
  have ho : ∀ k, TreeB β2 μ2 k → k ≠ b := fun k hk e => hdis b hb1 (e ▸ hk)
  obtain ⟨n1, n2, n3, n4⟩ := h1.node p b hp
  rw [hφ] at n1
  have hr2 := h2.root
  refine ⟨fun q bq hq => ?_, fun q q' bq hq hq' => ?_, fun q q' hq hq' hm => ?_, fun q x hq => ?_, ?_⟩
  · rcases way_cases p q with ⟨r, hr, rfl⟩ | rfl | hq0
    · rw [graft_in p _ _ hr] at hq
      obtain ⟨m1, m2, m3, m4⟩ := h2.node r bq hq
      have hbq : bq ≠ b := ho bq (.inl ⟨r, hq⟩)
      have hmq : μ2 r ≠ b := ho _ (.inr ⟨r, by rw [hq]; simp, rfl⟩)
      rw [graft_in p _ _ hr, graftM_in]
      refine ⟨(Below.heap_setCell _ _ _ _ hbq).trans m1, Nat.le_trans hlo m2, Nat.le_trans hlo m3, ?_⟩
      have hk : (fun x => Go.Proofs.Ytiadabmbfpfbjaa.graft p β1 β2 (p ++ r ++ [x])) = fun x => β2 (r ++ [x]) := by
        funext x
        rw [List.append_assoc, graft_in p _ _ (by simp)]
      rw [hk]
      exact (kids_set m4 hmq).mono hN2
    · rw [graft_at] at hq
      rw [hp] at hq
      cases hq
      rw [graft_at, hφ]
      cases h0 : β2 [] with
      | none => exact absurd h0 hr2
      | some r2 =>
        obtain ⟨m1, m2, m3, m4⟩ := h2.node [] r2 h0
        have hmq : μ2 [] ≠ b := ho _ (.inr ⟨[], hr2, rfl⟩)
        have hgm : graftM q μ1 μ2 q = μ2 [] := by
          have := graftM_in q μ1 μ2 []
          rwa [List.append_nil] at this
        rw [hgm]
        refine ⟨?_, n2, Nat.le_trans hlo m3, ?_⟩
        · unfold World.setCell
          simp [Array.getElem?_modify, n1, nodeObj]
        · have hk : (fun x => Go.Proofs.Ytiadabmbfpfbjaa.graft q β1 β2 (q ++ [x])) = fun x => β2 ([] ++ [x]) := by
            funext x
            rw [graft_in q _ _ (by simp)]
            rfl
          rw [hk]
          exact (kids_set m4 hmq).mono hN2
    · rw [graft_out _ _ hq0] at hq
      obtain ⟨m1, m2, m3, m4⟩ := h1.node q bq hq
      have hbq : bq ≠ b := fun e => hq0 (by
        have := h1.inj q p b (e ▸ hq) hp
        rw [this]; exact List.prefix_refl _)
      have hmq : μ1 q ≠ b := fun e => by
        obtain ⟨es, cl, h5⟩ := m4.obj
        rw [e, n1] at h5
        unfold nodeObj at h5
        cases h5
      rw [graft_out _ _ hq0, graftM_out _ _ hq0]
      refine ⟨(Below.heap_setCell _ _ _ _ hbq).trans m1, m2, m3, ?_⟩
      have hk : (fun x => Go.Proofs.Ytiadabmbfpfbjaa.graft p β1 β2 (q ++ [x])) = fun x => β1 (q ++ [x]) := by
        funext x
        exact graft_snoc _ _ x hq0
      rw [hk]
      exact (kids_set m4 hmq).mono hN1
  · have hdd : ∀ s t : Way, β1 s = some bq → β2 t = some bq → False := fun s t h h' => hdis bq (.inl ⟨s, h⟩) (.inl ⟨t, h'⟩)
    have hof : ∀ s : Way, s = p ∨ ¬ p <+: s → Go.Proofs.Ytiadabmbfpfbjaa.graft p β1 β2 s = β1 s := fun s hs => by
      rcases hs with rfl | hs
      · exact graft_at _ _ _
      · exact graft_out _ _ hs
    rcases way_cases p q with ⟨r, hr, rfl⟩ | hq0
    · rw [graft_in p _ _ hr] at hq
      rcases way_cases p q' with ⟨r', hr', rfl⟩ | hq0'
      · rw [graft_in p _ _ hr'] at hq'
        rw [h2.inj r r' bq hq hq']
      · rw [hof q' hq0'] at hq'
        exact (hdd q' r hq' hq).elim
    · rw [hof q hq0] at hq
      rcases way_cases p q' with ⟨r', hr', rfl⟩ | hq0'
      · rw [graft_in p _ _ hr'] at hq'
        exact (hdd q r' hq hq').elim
      · rw [hof q' hq0'] at hq'
        exact h1.inj q q' bq hq hq'
  · -- the maps
    have key : ∀ s : Way, Go.Proofs.Ytiadabmbfpfbjaa.graft p β1 β2 s ≠ none → (∃ r, s = p ++ r ∧ β2 r ≠ none) ∨ (¬ p <+: s ∧ β1 s ≠ none) := fun s hs => by
      rcases way_cases p s with ⟨r, hr, rfl⟩ | rfl | h0
      · rw [graft_in p _ _ hr] at hs
        exact .inl ⟨r, rfl, hs⟩
      · exact .inl ⟨[], by simp, hr2⟩
      · rw [graft_out _ _ h0] at hs
        exact .inr ⟨h0, hs⟩
    rcases key q hq with ⟨r, rfl, hr⟩ | ⟨h0, hr⟩
    · rw [graftM_in] at hm
      rcases key q' hq' with ⟨r', rfl, hr'⟩ | ⟨h0', hr'⟩
      · rw [graftM_in] at hm
        rw [h2.minj r r' hr hr' hm]
      · rw [graftM_out _ _ h0'] at hm
        exact (hdis (μ1 q') (.inr ⟨q', hr', rfl⟩) (.inr ⟨r, hr, hm⟩)).elim
    · rw [graftM_out _ _ h0] at hm
      rcases key q' hq' with ⟨r', rfl, hr'⟩ | ⟨h0', hr'⟩
      · rw [graftM_in] at hm
        exact (hdis (μ1 q) (.inr ⟨q, hr, rfl⟩) (.inr ⟨r', hr', hm.symm⟩)).elim
      · rw [graftM_out _ _ h0'] at hm
        exact h1.minj q q' hr hr' hm
  · rcases way_cases p q with ⟨r, hr, rfl⟩ | rfl | h0
    · rw [List.append_assoc, graft_in p _ _ (by simp)] at hq
      rw [graft_in p _ _ hr]
      exact h2.up r x hq
    · rw [graft_at, hp]; simp
    · rw [graft_snoc _ _ x h0] at hq
      rw [graft_out _ _ h0]
      exact h1.up q x hq
  · by_cases hp0 : p = []
    · subst hp0
      have := graft_at ([] : Way) β1 β2
      rw [this]; exact h1.root
    · rw [graft_out _ _ (fun h => hp0 (List.prefix_nil.1 h))]
      exact h1.root

/-- A tree grafted is fit to be told. -/
theorem GoodT.graft {K1 K2 : Nat} {β0 β1 β2 : Way → Option Nat} {φ1 φ2 : Way → Option (ByteArray × Bool)} {p : Way} (h1 : GoodT K1 β0 φ1) (h2 : GoodT K2 β2 φ2) (hgr : ∀ q, β1 q ≠ none ↔ β0 q ≠ none ∨ q <+: p) (hfree : ∀ q, q <+: p → φ1 q = none)
    (hparts : p.length ≤ 6 ∧ ∀ x ∈ p, x.size ≤ 20 ∧ (47 : UInt8) ∉ x.data.toList) (hdeep : ∀ r, β2 r ≠ none → (p ++ r).length ≤ 6) : GoodT (K1 + K2) (graft p β1 β2) (graft p φ1 φ2) := by
  have name1 : ∀ q x, β1 (q ++ [x]) ≠ none → x.size ≤ 20 ∧ (47 : UInt8) ∉ x.data.toList := fun q x hq => by
    rcases (hgr _).1 hq with h | h
    · exact h1.name q x h
    · exact hparts.2 x (h.subset (by simp))
  have deep1 : ∀ q, β1 q ≠ none → q.length ≤ 6 := fun q hq => by
    rcases (hgr _).1 hq with h | h
    · exact h1.deep q h
    · exact Nat.le_trans h.length_le hparts.1
  have up1 : ∀ q x, β1 (q ++ [x]) ≠ none → β1 q ≠ none := fun q x hq => by
    rcases (hgr _).1 hq with h | h
    · exact (hgr _).2 (.inl (h1.up q x h))
    · exact (hgr _).2 (.inr ((List.prefix_append q _).trans h))
  obtain ⟨F1, hF1, hm1⟩ := h1.few
  obtain ⟨F2, hF2, hm2⟩ := h2.few
  refine ⟨fun q x hq => ?_, fun q hq => ?_, fun q x hq => ?_, fun q x hq => ?_, fun q hq => ?_, fun q t r hq => ?_, F1 ++ F2.map (p ++ ·), by simp; omega, fun q hq => ?_⟩
  · rcases way_cases p q with ⟨r, hr, rfl⟩ | rfl | h0
    · rw [List.append_assoc, graft_in p _ _ (by simp)] at hq
      exact h2.name r x hq
    · rw [graft_in q _ _ (by simp)] at hq
      exact h2.name [] x hq
    · rw [graft_snoc _ _ x h0] at hq
      exact name1 q x hq
  · rcases way_cases p q with ⟨r, hr, rfl⟩ | rfl | h0
    · rw [graft_in p _ _ hr] at hq
      exact hdeep r hq
    · exact hparts.1
    · rw [graft_out _ _ h0] at hq
      exact deep1 q hq
  · rcases way_cases p q with ⟨r, hr, rfl⟩ | rfl | h0
    · rw [List.append_assoc, graft_in p _ _ (by simp)] at hq
      rw [graft_in p _ _ hr]
      exact h2.up r x hq
    · rw [graft_at]
      exact (hgr _).2 (.inr (List.prefix_refl _))
    · rw [graft_snoc _ _ x h0] at hq
      rw [graft_out _ _ h0]
      exact up1 q x hq
  · rcases way_cases p q with ⟨r, hr, rfl⟩ | rfl | h0
    · rw [graft_in p _ _ hr] at hq
      rw [List.append_assoc, graft_in p _ _ (by simp)]
      exact h2.leaf r x hq
    · rw [graft_at] at hq
      exact absurd (hfree q (List.prefix_refl _)) hq
    · rw [graft_out _ _ h0] at hq
      rw [graft_snoc _ _ x h0]
      cases hc : β1 (q ++ [x]) with
      | none => rfl
      | some c =>
        exfalso
        rcases (hgr (q ++ [x])).1 (by rw [hc]; simp) with h | h
        · exact h (h1.leaf q x hq)
        · exact hq (hfree q ((List.prefix_append q _).trans h))
  · rcases way_cases p q with ⟨r, hr, rfl⟩ | rfl | h0
    · rw [graft_in p _ _ hr] at hq ⊢
      exact h2.node r hq
    · rw [graft_at] at hq
      exact absurd (hfree q (List.prefix_refl _)) hq
    · rw [graft_out _ _ h0] at hq ⊢
      exact (hgr _).2 (.inl (h1.node q hq))
  · rcases way_cases p q with ⟨r', hr, rfl⟩ | rfl | h0
    · rw [graft_in p _ _ hr] at hq
      exact h2.text r' t r hq
    · rw [graft_at] at hq
      exact h1.text q t r hq
    · rw [graft_out _ _ h0] at hq
      exact h1.text q t r hq
  · rcases way_cases p q with ⟨r, hr, rfl⟩ | rfl | h0
    · rw [graft_in p _ _ hr] at hq
      exact List.mem_append.2 (.inr (List.mem_map.2 ⟨r, hm2 r hq, rfl⟩))
    · rw [graft_at] at hq
      exact List.mem_append.2 (.inl (hm1 q hq))
    · rw [graft_out _ _ h0] at hq
      exact List.mem_append.2 (.inl (hm1 q hq))

/-- An entry below a directory. -/
def putE (dir : ByteArray) (e : En) : En := ⟨dir ++ ⟨#[47]⟩ ++ e.path, e.text, e.runs⟩
theorem putE_data (dir : ByteArray) (e : En) : (putE dir e).path.data.toList = dir.data.toList ++ 47 :: e.path.data.toList := by
  simp [putE, ByteArray.data_append]
theorem putE_begins (dir : ByteArray) (e : En) : Begins dir (putE dir e).path := ⟨_, putE_data dir e⟩
theorem putE_parts (dir : ByteArray) (e : En) : partsB (putE dir e).path = partsB dir ++ partsB e.path := parts_app dir e.path
theorem putE_inj {dir : ByteArray} {e e' : En} (h : (putE dir e).path = (putE dir e').path) : e.path = e'.path := by
  have h2 := congrArg (fun x : ByteArray => x.data.toList) h
  simp only [putE_data] at h2
  have h3 := List.append_cancel_left h2
  injection h3 with _ h4
  exact WideShapes.bytes_inj h4

structure MntRel (ts : List En) (dir : ByteArray) (bs us : List En) : Prop where
  asc : Asc us
  mem : ∀ x, x ∈ us ↔ (x ∈ ts ∧ beginsB dir x.path = false) ∨ ∃ e ∈ bs, x = putE dir e
theorem MntRel.one {ts : List En} {dir : ByteArray} {bs us us' : List En} (h : MntRel ts dir bs us) (h' : MntRel ts dir bs us') : us = us' :=
  asc_unique h.asc h'.asc (fun x => by rw [h.mem, h'.mem])
theorem MntRel.start {ts : List En} {dir : ByteArray} (hA : Asc ts) : MntRel ts dir [] (ts.filter fun e => !beginsB dir e.path) :=
  ⟨hA.filter _, fun x => by rw [List.mem_filter]; simp⟩
theorem MntRel.set {ts : List En} {dir : ByteArray} {bs us us' : List En} {k : Nat} (hA : Asc bs) (hk : k < bs.length) (h : MntRel ts dir (bs.take k) us) (hs : SetRel us (putE dir bs[k]) us') : MntRel ts dir (bs.take (k + 1)) us' := by
  refine ⟨hs.asc, fun x => ?_⟩
  rw [hs.mem, h.mem]
  constructor
  · rintro (rfl | ⟨h1 | ⟨e, h1, rfl⟩, _⟩)
    · exact .inr ⟨bs[k], (mem_take_succ hk _).2 (.inr rfl), rfl⟩
    · exact .inl h1
    · exact .inr ⟨e, (mem_take_succ hk _).2 (.inl h1), rfl⟩
  · rintro (h1 | ⟨e, h1, rfl⟩)
    · refine .inr ⟨.inl h1, fun e => ?_⟩
      have := beginsB_iff.2 (putE_begins dir bs[k])
      rw [← e, h1.2] at this
      cases this
    · rcases (mem_take_succ hk e).1 h1 with h2 | rfl
      · exact .inr ⟨.inr ⟨e, h2, rfl⟩, fun e1 => less_ne ((asc_take_drop hA hk).1 e h2) (putE_inj e1)⟩
      · exact .inl rfl

/-- What is in the way of a directory. -/
def InWayD (ts : List En) (dir : ByteArray) : Prop := ∃ x ∈ ts, x.path = dir ∨ Begins x.path dir
def MntR (ts : List En) (dir : ByteArray) (bs us : List En) (c : Int) : Prop :=
  (¬ (ValidTs ts ∧ ValidTs bs ∧ pathOk pathB dir = true) ∧ us = [] ∧ c = 1) ∨
  ((ValidTs ts ∧ ValidTs bs ∧ pathOk pathB dir = true) ∧ (∃ e ∈ bs, pathOk pathB (putE dir e).path = false) ∧ us = [] ∧ c = 2) ∨
  ((ValidTs ts ∧ ValidTs bs ∧ pathOk pathB dir = true) ∧ (∀ e ∈ bs, pathOk pathB (putE dir e).path = true) ∧ InWayD ts dir ∧ us = [] ∧ c = 3) ∨
  ((ValidTs ts ∧ ValidTs bs ∧ pathOk pathB dir = true) ∧ (∀ e ∈ bs, pathOk pathB (putE dir e).path = true) ∧ ¬ InWayD ts dir ∧ ∃ vs, MntRel ts dir bs vs ∧ ((100 < vs.length ∧ us = [] ∧ c = 4) ∨ (vs.length ≤ 100 ∧ us = vs ∧ c = 0)))
theorem all_notM {bs : List En} {dir : ByteArray} (h : ∀ e ∈ bs, pathOk pathB (putE dir e).path = true) (h' : ∃ e ∈ bs, pathOk pathB (putE dir e).path = false) : False := by
  obtain ⟨e, he, h2⟩ := h'
  rw [h e he] at h2
  cases h2
theorem mnt_one {ts : List En} {dir : ByteArray} {bs us us' : List En} {c c' : Int} (h : MntR ts dir bs us c) (h' : MntR ts dir bs us' c') : us = us' ∧ c = c' := by
  rcases h with ⟨h1, rfl, rfl⟩ | ⟨h1, h2, rfl, rfl⟩ | ⟨h1, h2, h3, rfl, rfl⟩ | ⟨h1, h2, h3, vs, h4, h5⟩ <;>
    rcases h' with ⟨g1, rfl, rfl⟩ | ⟨g1, g2, rfl, rfl⟩ | ⟨g1, g2, g3, rfl, rfl⟩ | ⟨g1, g2, g3, vs', g4, g5⟩ <;>
    first | exact ⟨rfl, rfl⟩ | exact absurd g1 h1 | exact absurd h1 g1 | exact (all_notM g2 h2).elim | exact (all_notM h2 g2).elim | exact absurd g3 h3 | exact absurd h3 g3 | skip
  obtain rfl := h4.one g4
  rcases h5 with ⟨h5, rfl, rfl⟩ | ⟨h5, rfl, rfl⟩ <;> rcases g5 with ⟨g5, rfl, rfl⟩ | ⟨g5, rfl, rfl⟩ <;> first | exact ⟨rfl, rfl⟩ | omega
theorem mnt_few {ts : List En} {dir : ByteArray} {bs us : List En} {c : Int} (h : MntR ts dir bs us c) : us.length ≤ 100 := by
  rcases h with ⟨_, rfl, _⟩ | ⟨_, _, rfl, _⟩ | ⟨_, _, _, rfl, _⟩ | ⟨_, _, _, vs, _, ⟨_, rfl, _⟩ | ⟨h, rfl, _⟩⟩
  · simp
  · simp
  · simp
  · simp
  · exact h
def MntPost (ts : List En) (dir : ByteArray) (bs : List En) (w : World) (e : Ending) (w' : World) : Prop := ∃ us c, MntR ts dir bs us c ∧ TreeR us c w.heap.size e w' ∧ Below w.heap.size w w'

theorem inway_iff {ts : List En} {β : Way → Option Nat} {φ : Way → Option (ByteArray × Bool)} (h : Shape ts β φ) (dir : ByteArray) : InWayD ts dir ↔ ∃ q, q <+: partsB dir ∧ φ q ≠ none := by
  constructor
  · rintro ⟨x, hx, rfl | hb⟩
    · exact ⟨_, List.prefix_refl _, (h.files _).2 ⟨x, hx, rfl⟩⟩
    · exact ⟨_, (begins_iff.1 hb).1, (h.files _).2 ⟨x, hx, rfl⟩⟩
  · rintro ⟨q, hq, hf⟩
    obtain ⟨x, hx, rfl⟩ := (h.files q).1 hf
    by_cases e : partsB x.path = partsB dir
    · exact ⟨x, hx, .inl (partsB_inj e)⟩
    · exact ⟨x, hx, .inr (begins_iff.2 ⟨hq, e⟩)⟩
theorem deep_put {bs : List En} {β2 : Way → Option Nat} {φ2 : Way → Option (ByteArray × Bool)} {dir : ByteArray} (h : Shape bs β2 φ2) (hd : pathOk pathB dir = true) (hall : ∀ e ∈ bs, pathOk pathB (putE dir e).path = true) : ∀ r, β2 r ≠ none → (partsB dir ++ r).length ≤ 6 := fun r hr => by
  rcases (h.nodes r).1 hr with rfl | ⟨e, he, hp⟩
  · simpa using (path_parts hd).1
  · have h1 := (path_parts (hall e he)).1
    rw [putE_parts] at h1
    have := hp.length_le
    simp at h1 ⊢
    omega
theorem told_mnt {ts bs us : List En} {dir : ByteArray} {β β2 : Way → Option Nat} {φ φ2 : Way → Option (ByteArray × Bool)} (hS : Shape ts β φ) (hS2 : Shape bs β2 φ2) (h : Told (graft (partsB dir) φ φ2) [] [] [] us) : MntRel ts dir bs us := by
  refine ⟨h.asc, fun e => ?_⟩
  rw [told_mem h, List.nil_append]
  by_cases hb : Begins dir e.path
  · have hc := parts_cut hb
    rw [hc, graft_in _ _ _ (parts_ne _)]
    have h1 := tells_iff hS2 (cutE dir e)
    rw [show (cutE dir e).path = e.path.extract (dir.size + 1) e.path.size from rfl] at h1
    have hput : putE dir (cutE dir e) = e := by
      have : (putE dir (cutE dir e)).path = e.path := partsB_inj (by rw [putE_parts]; exact hc.symm)
      cases e
      simp only [putE, cutE] at this ⊢
      rw [this]
    constructor
    · intro h2
      exact .inr ⟨cutE dir e, h1.1 h2, hput.symm⟩
    · rintro (⟨_, h2⟩ | ⟨e', he', rfl⟩)
      · rw [beginsB_iff.2 hb] at h2; cases h2
      · refine h1.2 ?_
        have hpe : (cutE dir (putE dir e')).path = e'.path := putE_inj (by rw [hput])
        have hee : cutE dir (putE dir e') = e' := by
          cases e'
          simp only [cutE, putE] at hpe ⊢
          rw [hpe]
        rw [hee]; exact he'
  · have hbf : beginsB dir e.path = false := by
      rw [Bool.eq_false_iff]
      exact fun h => hb (beginsB_iff.1 h)
    have hg : graft (partsB dir) φ φ2 (partsB e.path) = φ (partsB e.path) := by
      unfold graft
      rw [if_neg]
      rintro ⟨h1, h2⟩
      exact hb (begins_iff.2 ⟨h1, fun e1 => h2 e1.symm⟩)
    rw [hg, tells_iff hS]
    constructor
    · intro h2; exact .inl ⟨h2, hbf⟩
    · rintro (⟨h2, _⟩ | ⟨e', _, rfl⟩)
      · exact h2
      · exact absurd (putE_begins dir e') hb
end Go.Proofs.Ytiadabmbfpfbjaa

namespace Go.Proofs.Ytiadabmbfpfbjaa
open Go.RowKit

theorem begins_trans {a b c : ByteArray} (h : Begins a b) (k : Begins b c) : Begins a c := by
  obtain ⟨r, hr⟩ := h
  obtain ⟨s, hs⟩ := k
  exact ⟨r ++ 47 :: s, by rw [hs, hr]; simp⟩
theorem cut_put (dir : ByteArray) (e : En) : cutE dir (putE dir e) = e := by
  have h := begins_cut (putE_begins dir e)
  rw [putE_data] at h
  have h2 := List.append_cancel_left h
  injection h2 with _ h3
  have h4 : (putE dir e).path.extract (dir.size + 1) (putE dir e).path.size = e.path := (WideShapes.bytes_inj h3).symm
  cases e
  simp only [cutE, putE] at h4 ⊢
  rw [h4]
theorem put_begins {dir : ByteArray} {e e' : En} (h : Begins (putE dir e).path (putE dir e').path) : Begins e.path e'.path := by
  obtain ⟨r, hr⟩ := h
  rw [putE_data, putE_data, List.append_assoc] at hr
  have h2 := List.append_cancel_left hr
  injection h2 with _ h3
  exact ⟨r, h3⟩
theorem mnt_zero {ts : List En} {dir : ByteArray} {bs us : List En} (h : MntR ts dir bs us 0) : (ValidTs ts ∧ ValidTs bs ∧ pathOk pathB dir = true) ∧ (∀ e ∈ bs, pathOk pathB (putE dir e).path = true) ∧ ¬ InWayD ts dir ∧ MntRel ts dir bs us ∧ us.length ≤ 100 := by
  rcases h with ⟨_, _, h⟩ | ⟨_, _, _, h⟩ | ⟨_, _, _, _, h⟩ | ⟨h1, h2, h3, vs, h4, ⟨_, _, h⟩ | ⟨h5, rfl, _⟩⟩
  · cases h
  · cases h
  · cases h
  · cases h
  · exact ⟨h1, h2, h3, h4, h5⟩
theorem mnt_none {ts : List En} {dir : ByteArray} {bs us : List En} {c : Int} (h : MntR ts dir bs us c) (hc : c ≠ 0) : us = [] := by
  rcases h with ⟨_, h, _⟩ | ⟨_, _, h, _⟩ | ⟨_, _, _, h, _⟩ | ⟨_, _, _, vs, _, ⟨_, h, _⟩ | ⟨_, _, h⟩⟩
  · exact h
  · exact h
  · exact h
  · exact h
  · exact absurd h hc
theorem mnt_valid {ts : List En} {dir : ByteArray} {bs us : List En} (h : MntR ts dir bs us 0) : ValidTs us := by
  obtain ⟨⟨hv, hb, hd⟩, hall, hw, hr, hn⟩ := mnt_zero h
  refine valid_of hr.asc hn (fun x hx => ?_) (fun x hx y hy hxy => ?_)
  · rcases (hr.mem x).1 hx with ⟨h1, _⟩ | ⟨e, he, rfl⟩
    · exact valid_en hv h1
    · have h1 := valid_en hb he
      unfold enOk at h1 ⊢
      rw [Bool.and_eq_true] at h1 ⊢
      exact ⟨hall e he, h1.2⟩
  · rcases (hr.mem x).1 hx with ⟨h1, h1b⟩ | ⟨e, he, rfl⟩
    · rcases (hr.mem y).1 hy with ⟨h2, h2b⟩ | ⟨e', he', rfl⟩
      · exact valid_free hv h1 h2 hxy
      · have hp := (begins_iff.1 hxy).1
        rw [putE_parts] at hp
        rcases List.prefix_or_prefix_of_prefix hp (List.prefix_append _ _) with k | k
        · by_cases e1 : partsB x.path = partsB dir
          · exact hw ⟨x, h1, .inl (partsB_inj e1)⟩
          · exact hw ⟨x, h1, .inr (begins_iff.2 ⟨k, e1⟩)⟩
        · by_cases e1 : partsB dir = partsB x.path
          · exact hw ⟨x, h1, .inl (partsB_inj e1.symm)⟩
          · rw [beginsB_iff.2 (begins_iff.2 ⟨k, e1⟩)] at h1b
            cases h1b
    · rcases (hr.mem y).1 hy with ⟨h2, h2b⟩ | ⟨e', he', rfl⟩
      · rw [beginsB_iff.2 (begins_trans (putE_begins dir e) hxy)] at h2b
        cases h2b
      · exact valid_free hb he he' (put_begins hxy)
theorem under_asc {ts : List En} (hA : Asc ts) (dir : ByteArray) : Asc (under ts dir) := by
  unfold under Asc
  rw [List.pairwise_map]
  refine List.Pairwise.imp_of_mem (fun {a b} ha hb hl => ?_) (hA.filter _)
  have h1 := beginsB_iff.1 (List.mem_filter.1 ha).2
  have h2 := beginsB_iff.1 (List.mem_filter.1 hb).2
  rw [Lib.toList_data, Lib.toList_data, begins_cut h1, begins_cut h2, less_front] at hl
  have hcons : ∀ x y : List UInt8, Op.bytesLess (47 :: x) (47 :: y) = Op.bytesLess x y := fun x y => less_front [47] x y
  rw [hcons] at hl
  rw [Lib.toList_data, Lib.toList_data]
  exact hl
theorem mnt_under {ts : List En} {dir : ByteArray} {bs us : List En} (h : MntR ts dir bs us 0) : under us dir = bs := by
  obtain ⟨⟨hv, hb, hd⟩, hall, hw, hr, hn⟩ := mnt_zero h
  refine asc_unique (under_asc hr.asc dir) (valid_asc hb) (fun x => ?_)
  rw [under, List.mem_map]
  constructor
  · rintro ⟨y, hy, rfl⟩
    obtain ⟨h1, h2⟩ := List.mem_filter.1 hy
    rcases (hr.mem y).1 h1 with ⟨_, h3⟩ | ⟨e, he, rfl⟩
    · rw [h2] at h3; cases h3
    · rw [cut_put]; exact he
  · intro hx
    exact ⟨putE dir x, List.mem_filter.2 ⟨(hr.mem _).2 (.inr ⟨x, hx, rfl⟩), beginsB_iff.2 (putE_begins dir x)⟩, cut_put dir x⟩
theorem filter_parts {α : Type} (f : α → Bool) : ∀ l : List α, (l.filter f).length + (l.filter fun x => !f x).length = l.length
  | [] => rfl
  | x :: l => by
    have := filter_parts f l
    cases h : f x <;> simp [h] <;> omega
theorem mnt_len {ts : List En} {dir : ByteArray} {bs us : List En} (h : MntR ts dir bs us 0) : us.length + (under ts dir).length = ts.length + bs.length := by
  obtain ⟨⟨hv, hb, hd⟩, hall, hw, hr, hn⟩ := mnt_zero h
  have h1 : us.filter (fun e => !beginsB dir e.path) = ts.filter fun e => !beginsB dir e.path := by
    refine asc_unique (hr.asc.filter _) ((valid_asc hv).filter _) (fun x => ?_)
    rw [List.mem_filter, List.mem_filter, hr.mem, Bool.not_eq_true']
    constructor
    · rintro ⟨⟨h1, _⟩ | ⟨e, he, rfl⟩, h2⟩
      · exact ⟨h1, h2⟩
      · rw [beginsB_iff.2 (putE_begins dir e)] at h2; cases h2
    · rintro ⟨h1, h2⟩
      exact ⟨.inl ⟨h1, h2⟩, h2⟩
  have h2 : (us.filter fun e => beginsB dir e.path).length = bs.length := by
    have := congrArg List.length (mnt_under h)
    rw [under, List.length_map] at this
    exact this
  have h3 := filter_parts (fun e : En => beginsB dir e.path) us
  have h4 := filter_parts (fun e : En => beginsB dir e.path) ts
  rw [h1] at h3
  rw [under, List.length_map]
  omega
theorem over_zero {ts bs us : List En} (h : OverR ts bs us 0) : ValidTs ts ∧ ValidTs bs ∧ OverRel ts bs us ∧ us.length ≤ 100 := by
  rcases h with ⟨_, _, h⟩ | ⟨h1, h2, vs, h4, ⟨_, _, h⟩ | ⟨h5, rfl, _⟩⟩
  · cases h
  · cases h
  · exact ⟨h1, h2, h4, h5⟩
theorem over_none {ts bs us : List En} {c : Int} (h : OverR ts bs us c) (hc : c ≠ 0) : us = [] := by
  rcases h with ⟨_, h, _⟩ | ⟨_, _, vs, _, ⟨_, h, _⟩ | ⟨_, _, h⟩⟩
  · exact h
  · exact h
  · exact absurd h hc
theorem over_valid {ts bs us : List En} (h : OverR ts bs us 0) : ValidTs us := by
  obtain ⟨hv, hb, hr, hn⟩ := over_zero h
  refine valid_of hr.asc hn (fun x hx => ?_) (fun x hx y hy hxy => ?_)
  · rcases (hr.mem x).1 hx with h1 | ⟨h1, _⟩
    · exact valid_en hb h1
    · exact valid_en hv h1
  · rcases (hr.mem x).1 hx with h1 | ⟨h1, f1⟩
    · rcases (hr.mem y).1 hy with h2 | ⟨h2, f2⟩
      · exact valid_free hb h1 h2 hxy
      · rw [freeB_iff.2 ⟨x, h1, .inr (.inr hxy)⟩] at f2; cases f2
    · rcases (hr.mem y).1 hy with h2 | ⟨h2, f2⟩
      · rw [freeB_iff.2 ⟨y, h2, .inr (.inl hxy)⟩] at f1; cases f1
      · exact valid_free hv h1 h2 hxy
end Go.Proofs.Ytiadabmbfpfbjaa

namespace Go.Proofs.Ytiadabmbfpfbjaa
open Go.RowKit

/-- What Under gives. -/
def Und (ts : List En) (dir : ByteArray) (us : List En) : Prop :=
  (¬ (ValidTs ts ∧ pathOk pathB dir = true) ∧ us = []) ∨ ((ValidTs ts ∧ pathOk pathB dir = true) ∧ us = under ts dir)
theorem und_one {ts : List En} {p : ByteArray} {us us' : List En} (h : Und ts p us) (h' : Und ts p us') : us = us' := by
  rcases h with ⟨h1, rfl⟩ | ⟨h1, rfl⟩ <;> rcases h' with ⟨g1, rfl⟩ | ⟨g1, rfl⟩
  · rfl
  · exact absurd g1 h1
  · exact absurd h1 g1
  · rfl
theorem und_few {ts : List En} {p : ByteArray} {us : List En} (h : Und ts p us) : us.length ≤ ts.length := by
  rcases h with ⟨_, rfl⟩ | ⟨_, rfl⟩
  · simp
  · unfold under
    rw [List.length_map]
    exact List.length_filter_le _ _

def UndPost (ts : List En) (p : ByteArray) (w : World) (e : Ending) (w' : World) : Prop := ∃ us, Und ts p us ∧ TreeQ us w.heap.size e w' ∧ Below w.heap.size w w'

theorem told_nothing {K : Nat} {β : Way → Option Nat} {φ : Way → Option (ByteArray × Bool)} (hG : GoodT K β φ) {p0 : Way} (h : β p0 = none) : Told φ p0 [] [] [] := by
  refine ⟨List.Pairwise.nil, fun e => ?_⟩
  simp only [List.not_mem_nil, false_or, false_iff]
  rintro ⟨h1, _⟩
  unfold Tells at h1
  exact hG.pre _ _ (hG.node _ (by rw [h1]; simp)) h
end Go.Proofs.Ytiadabmbfpfbjaa

namespace Go.Proofs.Ytiadabmbfpfbjaa
open Go.RowKit

theorem el_setU {B g : Nat} {w : World} {a : Option Addr} {ts : List En} {u : Value} (h : EL B w a ts) (hg : g < B) : EL B (w.setCell ⟨g, 0, none⟩ u) a ts :=
  h.grown (row := some g) ⟨rfl, rfl, rfl, by simp, fun k _ hk => Below.heap_setCell _ _ _ _ (fun e => hk (by rw [e]))⟩ (fun k _ hk _ e => by cases e; omega)

set_option maxRecDepth 100000 in
set_option maxHeartbeats 4000000 in
theorem implUnd_any (a : Option Addr) (cap : Nat) (ts : List En) (p : ByteArray) (w : World) (hts : ES w a ts) (hn : ts.length ≤ 1048576) (hz : ∀ e ∈ ts, e.path.size ≤ 1048576 ∧ e.text.size ≤ 1048576) (hp : p.size ≤ 1048576) :
    Calls Try.prog 9 #[.agg #[.slice a ts.length cap], .string p] w fun e w' => UndPost ts p w e w' := by
  have hal : Below w.heap.size w ((w.alloc (.cells #[.slice a ts.length cap] 25)).alloc (.cells #[.slice none 0 0] 25)) := ((Below.refl _ _).alloc (Nat.le_refl _) _).alloc (by simp) _
  have k0 : ((w.alloc (.cells #[.slice a ts.length cap] 25)).alloc (.cells #[.slice none 0 0] 25)).cell? ⟨w.heap.size + 1, 0, none⟩ = some (.slice none 0 0) := by simp
  have kf : ((w.alloc (.cells #[.slice a ts.length cap] 25)).alloc (.cells #[.slice none 0 0] 25)).frozen? ⟨w.heap.size + 1, 0, none⟩ = false := by simp
  have ks : w.heap.size + 1 < ((w.alloc (.cells #[.slice a ts.length cap] 25)).alloc (.cells #[.slice none 0 0] 25)).heap.size := by simp
  go_enter Try.func9, Try.ntmps9
  go_wp2_with fail
  refine (grow_any a cap ts _ (hts.below hal) hn (fun e he => (hz e he).1)).mono ?_
  rintro e w1 ⟨hb1, hpost⟩
  replace k0 := cell_later hb1 k0
  replace kf : w1.frozen? ⟨w.heap.size + 1, 0, none⟩ = false := (hb1.frozen (p := ⟨w.heap.size + 1, 0, none⟩) ks).trans kf
  have ks1 : w.heap.size + 1 < w1.heap.size := Nat.lt_of_lt_of_le ks hb1.size
  have hbw := hal.trans (hb1.mono hal.size)
  clear hb1 hal hts
  generalize hg : w.heap.size + 1 = g at *
  have hgw : w.heap.size ≤ g := by omega
  clear hg
  rcases hpost with ⟨hv, root, rfl, lo, N, β, μ, φ, hlo, hN, hT, hroot, hS⟩ | ⟨hv, rfl⟩
  · clear ks hlo
    have HG : Keep (GoodT 100 β φ) := ⟨good_of_shape hv hS⟩
    have HW : Keep (∀ us, Told φ (partsB p) [] [] us → us = under ts p) := ⟨fun us h => told_under hv hS h⟩
    go_wp2_with fail
    refine (implPath_any p (by omega) w1).mono ?_
    rintro e w2 ⟨rfl, hb2⟩
    replace k0 := cell_later hb2 k0
    replace kf : w2.frozen? ⟨g, 0, none⟩ = false := (hb2.frozen (p := ⟨g, 0, none⟩) ks1).trans kf
    have ks2 : g < w2.heap.size := Nat.lt_of_lt_of_le ks1 hb2.size
    have hbw2 := hbw.trans (hb2.mono hbw.size)
    have hT2 := hT.below hb2
    clear hb2 hT hbw ks1
    cases hpk : pathOk pathB p with
    | false =>
      go_wp2
      refine bodyPost_ret (v := .agg #[.slice none ([] : List En).length 0]) ?_ rfl ⟨[], .inl ⟨fun h => (by rw [hpk] at h; cases h.2), rfl⟩, ⟨none, 0, rfl, EL.nil _ _ _⟩, hbw2.setCell (p := ⟨g, 0, none⟩) hgw _⟩
      go_light
      simp [results, Try.results9, go_sem, k0]
    | true =>
      go_wp2_with fail
      refine (find_any lo N root w2 β μ φ hT2 hroot p (by omega)).mono ?_
      rintro e w3 ⟨rfl, hb3⟩
      replace k0 := cell_later hb3 k0
      replace kf : w3.frozen? ⟨g, 0, none⟩ = false := (hb3.frozen (p := ⟨g, 0, none⟩) ks2).trans kf
      have ks3 : g < w3.heap.size := Nat.lt_of_lt_of_le ks2 hb3.size
      have hbw3 := hbw2.trans (hb3.mono hbw2.size)
      have hT3 := hT2.below hb3
      clear hb3 hT2 hbw2 ks2
      cases hβ : β (partsB p) with
      | none =>
        have hu := HW.out [] (told_nothing HG.out hβ)
        unfold ptrV
        go_wp2
        refine bodyPost_ret (v := .agg #[.slice none ([] : List En).length 0]) ?_ rfl ⟨[], .inr ⟨⟨hv, hpk⟩, hu⟩, ⟨none, 0, rfl, EL.nil _ _ _⟩, hbw3.setCell (p := ⟨g, 0, none⟩) hgw _⟩
        go_light
        simp [results, Try.results9, go_sem, k0]
      | some b =>
        have hcall := tellAll_any lo N 100 (by omega) (by omega) β μ φ HG.out (partsB p) b w3 hT3 hβ
        unfold ptrV
        go_wp2_with fail
        refine hcall.mono ?_
        rintro e w4 ⟨ad, cap4, us, rfl, ht, hel, hb4⟩
        obtain rfl := HW.out us ht
        replace k0 := cell_later hb4 k0
        replace kf : w4.frozen? ⟨g, 0, none⟩ = false := (hb4.frozen (p := ⟨g, 0, none⟩) ks3).trans kf
        have hbw4 := hbw3.trans (hb4.mono hbw3.size)
        have hel4 := (el_setU (u := .slice ad (under ts p).length cap4) hel ks3).mono hbw3.size
        clear hb4 hcall ht hel hT3
        go_wp2
        refine bodyPost_ret (v := .agg #[.slice ad (under ts p).length cap4]) ?_ rfl ⟨_, .inr ⟨⟨hv, hpk⟩, rfl⟩, ⟨ad, cap4, rfl, hel4⟩, hbw4.setCell (p := ⟨g, 0, none⟩) hgw _⟩
        go_light
        simp [results, Try.results9, go_sem, k0]
  · go_wp2
    refine bodyPost_ret (v := .agg #[.slice none ([] : List En).length 0]) ?_ rfl ⟨[], .inl ⟨fun h => hv h.1, rfl⟩, ⟨none, 0, rfl, EL.nil _ _ _⟩, hbw.setCell (p := ⟨g, 0, none⟩) hgw _⟩
    go_light
    simp [results, Try.results9, go_sem, k0]
end Go.Proofs.Ytiadabmbfpfbjaa

namespace Go.Proofs.Ytiadabmbfpfbjaa
open Go.RowKit

/-- What Get gives. -/
def Got (ts : List En) (p : ByteArray) (o : Option En) : Prop :=
  (ValidTs ts ∧ ∃ e ∈ ts, e.path = p ∧ o = some e) ∨ ((¬ ValidTs ts ∨ ∀ e ∈ ts, e.path ≠ p) ∧ o = none)

def entV : Option En → Value
  | some e => .agg #[.string e.path, .string e.text, .bool e.runs]
  | none => .agg #[.string ⟨#[]⟩, .string ⟨#[]⟩, .bool false]

theorem path_once {ts : List En} (h : ValidTs ts) {e e' : En} (he : e ∈ ts) (he' : e' ∈ ts) (hp : e.path = e'.path) : e = e' := by
  obtain ⟨i, hi, rfl⟩ := List.getElem_of_mem he
  obtain ⟨j, hj, rfl⟩ := List.getElem_of_mem he'
  have key : ∀ i j (hi : i < ts.length) (hj : j < ts.length), ts[i].path = ts[j].path → ¬ j < i := fun i j hi hj hp hlt => by
    have := asc h.2 i hi j hlt hi hj
    rw [hp, less_irrefl] at this
    cases this
  have h1 := key i j hi hj hp
  have h2 := key j i hj hi hp.symm
  obtain rfl : i = j := by omega
  rfl

theorem got_one {ts : List En} {p : ByteArray} {o o' : Option En} (h : Got ts p o) (h' : Got ts p o') : o = o' := by
  rcases h with ⟨hv, e, he, hp, rfl⟩ | ⟨hn, rfl⟩ <;> rcases h' with ⟨hv', e', he', hp', rfl⟩ | ⟨hn', rfl⟩
  · rw [path_once hv he he' (hp.trans hp'.symm)]
  · rcases hn' with hn' | hn'
    · exact absurd hv hn'
    · exact absurd hp (hn' e he)
  · rcases hn with hn | hn
    · exact absurd hv' hn
    · exact absurd hp' (hn e' he')
  · rfl

def GetPost (ts : List En) (p : ByteArray) (w : World) (e : Ending) (w' : World) : Prop :=
  ∃ o, Got ts p o ∧ e = .returned (.tuple #[entV o, .bool o.isSome]) ∧ Below w.heap.size w w'

/-- Three cells of an entry that is written whole. -/
def Ent3 (W : World) (g : Nat) (e : Option En) : Prop :=
  W.cell? ⟨g, 0, none⟩ = some (.string ((e.map (·.path)).getD ⟨#[]⟩)) ∧ W.cell? ⟨g, 1, none⟩ = some (.string ((e.map (·.text)).getD ⟨#[]⟩)) ∧ W.cell? ⟨g, 2, none⟩ = some (.bool ((e.map (·.runs)).getD false)) ∧ ∀ j, W.frozen? ⟨g, j, none⟩ = false

theorem beq_str {a b : ByteArray} : (a.toList == b.toList) = true ↔ a = b := by
  rw [beq_iff_eq, Lib.toList_data, Lib.toList_data]
  exact ⟨fun h => WideShapes.bytes_inj h, fun h => by rw [h]⟩

end Go.Proofs.Ytiadabmbfpfbjaa

namespace Go.Proofs.Ytiadabmbfpfbjaa
open Go.RowKit

theorem got_find {ts : List En} {β : Way → Option Nat} {φ : Way → Option (ByteArray × Bool)} (hv : ValidTs ts) (hS : Shape ts β φ) {p t : ByteArray} {r : Bool} (h : φ (partsB p) = some (t, r)) : Got ts p (some ⟨p, t, r⟩) := by
  obtain ⟨e, he, hp⟩ := (hS.files (partsB p)).1 (by rw [h]; simp)
  have h2 := hS.vals e he
  rw [hp, h] at h2
  injection h2 with h2
  injection h2 with h3 h4
  refine .inl ⟨hv, e, he, partsB_inj hp, ?_⟩
  rw [h3, h4, ← partsB_inj hp]
theorem got_none {ts : List En} {β : Way → Option Nat} {φ : Way → Option (ByteArray × Bool)} (hS : Shape ts β φ) {p : ByteArray} (h : φ (partsB p) = none) : Got ts p none := by
  refine .inr ⟨.inr fun e he hp => ?_, rfl⟩
  have := hS.vals e he
  rw [hp, h] at this
  cases this

set_option maxRecDepth 100000 in
set_option maxHeartbeats 4000000 in
theorem implGet_any (a : Option Addr) (cap : Nat) (ts : List En) (p : ByteArray) (w : World) (hts : ES w a ts) (hn : ts.length ≤ 1048576) (hz : ∀ e ∈ ts, e.path.size ≤ 1048576 ∧ e.text.size ≤ 1048576) (hp : p.size ≤ 1048576) :
    Calls Try.prog 13 #[.agg #[.slice a ts.length cap], .string p] w fun e w' => GetPost ts p w e w' := by
  have hal : Below w.heap.size w ((w.alloc (.cells #[.slice a ts.length cap] 25)).alloc (.cells #[.string ⟨#[]⟩, .string ⟨#[]⟩, .bool false] 37)) := ((Below.refl _ _).alloc (Nat.le_refl _) _).alloc (by simp) _
  have k0 : ((w.alloc (.cells #[.slice a ts.length cap] 25)).alloc (.cells #[.string ⟨#[]⟩, .string ⟨#[]⟩, .bool false] 37)).cell? ⟨w.heap.size + 1, 0, none⟩ = some (.string ⟨#[]⟩) := by simp
  have k1 : ((w.alloc (.cells #[.slice a ts.length cap] 25)).alloc (.cells #[.string ⟨#[]⟩, .string ⟨#[]⟩, .bool false] 37)).cell? ⟨w.heap.size + 1, 1, none⟩ = some (.string ⟨#[]⟩) := by simp
  have k2 : ((w.alloc (.cells #[.slice a ts.length cap] 25)).alloc (.cells #[.string ⟨#[]⟩, .string ⟨#[]⟩, .bool false] 37)).cell? ⟨w.heap.size + 1, 2, none⟩ = some (.bool false) := by simp
  have kf : ∀ j, ((w.alloc (.cells #[.slice a ts.length cap] 25)).alloc (.cells #[.string ⟨#[]⟩, .string ⟨#[]⟩, .bool false] 37)).frozen? ⟨w.heap.size + 1, j, none⟩ = false := fun j => by simp
  have ks : w.heap.size + 1 < ((w.alloc (.cells #[.slice a ts.length cap] 25)).alloc (.cells #[.string ⟨#[]⟩, .string ⟨#[]⟩, .bool false] 37)).heap.size := by simp
  go_enter Try.func13, Try.ntmps13
  go_wp2_with fail
  refine (grow_any a cap ts _ (hts.below hal) hn (fun e he => (hz e he).1)).mono ?_
  rintro e w1 ⟨hb1, hpost⟩
  replace k0 := cell_later hb1 k0
  replace k1 := cell_later hb1 k1
  replace k2 := cell_later hb1 k2
  replace kf : ∀ j, w1.frozen? ⟨w.heap.size + 1, j, none⟩ = false := fun j => (hb1.frozen (p := ⟨w.heap.size + 1, j, none⟩) ks).trans (kf j)
  have ks1 : w.heap.size + 1 < w1.heap.size := Nat.lt_of_lt_of_le ks hb1.size
  have hbw := hal.trans (hb1.mono hal.size)
  clear hb1 hal hts
  generalize hg : w.heap.size + 1 = g at *
  have hgw : w.heap.size ≤ g := by omega
  clear hg
  rcases hpost with ⟨hv, root, rfl, lo, N, β, μ, φ, hlo, hN, hT, hroot, hS⟩ | ⟨hv, rfl⟩
  · go_wp2_with fail
    refine (find_any lo N root w1 β μ φ hT hroot p (by omega)).mono ?_
    rintro e w2 ⟨rfl, hb2⟩
    replace k0 := cell_later hb2 k0
    replace k1 := cell_later hb2 k1
    replace k2 := cell_later hb2 k2
    replace kf : ∀ j, w2.frozen? ⟨g, j, none⟩ = false := fun j => (hb2.frozen (p := ⟨g, j, none⟩) ks1).trans (kf j)
    have ks2 : g < w2.heap.size := Nat.lt_of_lt_of_le ks1 hb2.size
    have hbw2 := hbw.trans (hb2.mono hbw.size)
    have hT2 := hT.below hb2
    clear hb2 hT hbw
    cases hβ : β (partsB p) with
    | none =>
      have hφ : φ (partsB p) = none := by
        cases h : φ (partsB p) with
        | none => rfl
        | some f => exact absurd hβ (hS.files_nodes _ (by rw [h]; simp))
      unfold ptrV
      go_wp2
      refine bodyPost_ret (v := .tuple #[entV none, .bool false]) ?_ rfl ⟨none, got_none hS hφ, rfl, ?_⟩
      · go_light
        simp [results, Try.results13, go_sem, entV, k0, k1, k2]
      · exact ((hbw2.setCell (p := ⟨g, 0, none⟩) hgw _).setCell (p := ⟨g, 1, none⟩) hgw _).setCell (p := ⟨g, 2, none⟩) hgw _
    | some b =>
      obtain ⟨hob, _, _, _⟩ := hT2.node _ b hβ
      obtain ⟨c0, _, _, c1, c2⟩ := node_cells hob
      cases hφ : φ (partsB p) with
      | none =>
        rw [hφ] at c0
        unfold ptrV
        go_wp2
        refine bodyPost_ret (v := .tuple #[entV none, .bool false]) ?_ rfl ⟨none, got_none hS hφ, rfl, ?_⟩
        · go_light
          simp [results, Try.results13, go_sem, entV, k0, k1, k2]
        · exact ((hbw2.setCell (p := ⟨g, 0, none⟩) hgw _).setCell (p := ⟨g, 1, none⟩) hgw _).setCell (p := ⟨g, 2, none⟩) hgw _
      | some f =>
        obtain ⟨t, r⟩ := f
        have hgot := got_find hv hS hφ
        have htz : t.size ≤ 1048576 := by
          rcases hgot with ⟨_, e, he, _, h2⟩ | ⟨_, h2⟩
          · injection h2 with h2
            have := (hz e he).2
            rw [← h2] at this
            exact this
          · cases h2
        rw [hφ] at c0 c1 c2
        simp only [Option.map_some, Option.getD_some, Option.isSome_some] at c0 c1 c2
        unfold ptrV
        go_wp2_with fail
        refine (entry_any p t r w2 (by omega) (by omega)).mono ?_
        rintro e w3 ⟨rfl, hb3⟩
        replace k0 := cell_later hb3 k0
        replace k1 := cell_later hb3 k1
        replace k2 := cell_later hb3 k2
        replace kf : ∀ j, w3.frozen? ⟨g, j, none⟩ = false := fun j => (hb3.frozen (p := ⟨g, j, none⟩) ks2).trans (kf j)
        have hbw3 := hbw2.trans (hb3.mono hbw2.size)
        go_wp2
        refine bodyPost_ret (v := .tuple #[entV (some ⟨p, t, r⟩), .bool true]) ?_ rfl ⟨some ⟨p, t, r⟩, hgot, rfl, ?_⟩
        · go_light
          simp [results, Try.results13, go_sem, entV, k0, k1, k2]
        · exact ((hbw3.setCell (p := ⟨g, 0, none⟩) hgw _).setCell (p := ⟨g, 1, none⟩) hgw _).setCell (p := ⟨g, 2, none⟩) hgw _
  · go_wp2
    refine bodyPost_ret (v := .tuple #[entV none, .bool false]) ?_ rfl ⟨none, .inr ⟨.inl hv, rfl⟩, rfl, ?_⟩
    · go_light
      simp [results, Try.results13, go_sem, entV, k0, k1, k2]
    · exact ((hbw.setCell (p := ⟨g, 0, none⟩) hgw _).setCell (p := ⟨g, 1, none⟩) hgw _).setCell (p := ⟨g, 2, none⟩) hgw _
end Go.Proofs.Ytiadabmbfpfbjaa

namespace Go.Proofs.Ytiadabmbfpfbjaa
open Go.RowKit

theorem got_mem {us : List En} {x : En} {o : Option En} (hv : ValidTs us) (hx : x ∈ us) (h : Got us x.path o) : o = some x := by
  rcases h with ⟨_, e, he, hp, rfl⟩ | ⟨hn | hn, _⟩
  · rw [path_once hv he hx hp]
  · exact absurd hv hn
  · exact absurd rfl (hn x hx)
theorem tiny_ok {P T : Nat} {ts : List En} (h : Tiny P T ts) (hP : P ≤ 1048576) (hT : T ≤ 1048576) : ∀ e ∈ ts, e.path.size ≤ 1048576 ∧ e.text.size ≤ 1048576 := fun e he => ⟨Nat.le_trans (h e he).1 hP, Nat.le_trans (h e he).2 hT⟩

/-- A read entry: its box and whether it is there. -/
def CutG (us : List En) (p : ByteArray) (W1 : World) (pv cc : Value) (W : World) : Prop :=
  ∃ fb o, pv = .pointer (some ⟨fb, 0, none⟩) ∧ cc = .bool (Option.isSome o) ∧ Got us p o ∧ EBx fb (Option.getD o ⟨⟨#[]⟩, ⟨#[]⟩, false⟩) W ∧ Below W1.heap.size W1 W

def noEn : En := ⟨⟨#[]⟩, ⟨#[]⟩, false⟩
theorem entV_getD (o : Option En) : entV o = .agg #[.string (o.getD noEn).path, .string (o.getD noEn).text, .bool (o.getD noEn).runs] := by cases o <;> rfl
theorem newE {Y X : World} {t : TypeId} (h : Below (Y.alloc (.cells #[.string ⟨#[]⟩, .string ⟨#[]⟩, .bool false] t)).drew.heap.size (Y.alloc (.cells #[.string ⟨#[]⟩, .string ⟨#[]⟩, .bool false] t)).drew X) : EBx Y.heap.size noEn X :=
  EBx.later (W := (Y.alloc (.cells #[.string ⟨#[]⟩, .string ⟨#[]⟩, .bool false] t)).drew) ⟨by simp [noEn], by simp [noEn], by simp [noEn], fun j => by simp⟩ h
theorem cutG_mk {us : List En} {p : ByteArray} {W1 W : World} {o : Option En} {f : En} (hf : f = o.getD noEn) (hg : Got us p o) (hb : Below W1.heap.size W1 W) : CutG us p W1 (.pointer (some ⟨W.heap.size, 0, none⟩)) (.bool o.isSome) (W.alloc (.cells #[.string f.path, .string f.text, .bool f.runs] 37)) :=
  ⟨_, o, rfl, rfl, hg, by rw [show o.getD ⟨⟨#[]⟩, ⟨#[]⟩, false⟩ = f from hf.symm]; exact ⟨by simp, by simp, by simp, fun j => by simp⟩, hb.alloc hb.size _⟩
theorem cutG_mk' {us : List En} {p : ByteArray} {W1 W : World} {o : Option En} {f : En} {fb : Nat} (hf : f = o.getD noEn) (hg : Got us p o) (hb : Below W1.heap.size W1 W) (hn : EBx fb noEn W) (hl : W1.heap.size ≤ fb) : CutG us p W1 (.pointer (some ⟨fb, 0, none⟩)) (.bool o.isSome) (((W.setCell ⟨fb, 0, none⟩ (.string f.path)).setCell ⟨fb, 1, none⟩ (.string f.text)).setCell ⟨fb, 2, none⟩ (.bool f.runs)) := by
  have h1 := hn.path f.path
  have h2 := h1.txt f.text
  refine ⟨fb, o, rfl, rfl, hg, ?_, ((hb.setCell (p := ⟨fb, 0, none⟩) hl _).setCell (p := ⟨fb, 1, none⟩) hl _).setCell (p := ⟨fb, 2, none⟩) hl _⟩
  rw [show o.getD ⟨⟨#[]⟩, ⟨#[]⟩, false⟩ = f from hf.symm]
  exact ⟨(World.cell?_setCell_other _ _ _ _ (by simp)).trans h2.c0, (World.cell?_setCell_other _ _ _ _ (by simp)).trans h2.c1, World.cell?_setCell_same _ _ _ h2.c2, fun j => (World.frozen?_setCell _ _ _ _).trans (h2.fz j)⟩
end Go.Proofs.Ytiadabmbfpfbjaa

namespace Go.Proofs.Ytiadabmbfpfbjaa
open Go.RowKit

set_option maxHeartbeats 1000000 in
theorem implTree_any (a : Option Addr) (cap : Nat) (ts : List En) (w : World) (hts : ES w a ts) (hn : ts.length ≤ 1048576) (hz : ∀ e ∈ ts, e.path.size ≤ 1048576) :
    Calls Try.prog 8 #[.agg #[.slice a ts.length cap]] w fun e w' => ∃ bl : Bool, e = .returned (.bool bl) ∧ (bl = true ↔ ValidTs ts) ∧ Below w.heap.size w w' := by
  have hal : Below w.heap.size w (w.alloc (.cells #[.slice a ts.length cap] 25)) := (Below.refl _ _).alloc (Nat.le_refl _) _
  go_enter Try.func8, Try.ntmps8
  go_wp2_with fail
  refine (grow_any a cap ts _ (hts.below hal) hn hz).mono ?_
  rintro e w1 ⟨hb, ⟨hv, root, rfl, _⟩ | ⟨hv, rfl⟩⟩
  · go_wp2
    go_ret
    exact ⟨true, rfl, ⟨fun _ => hv, fun _ => rfl⟩, hal.trans (hb.mono hal.size)⟩
  · go_wp2
    go_ret
    exact ⟨false, rfl, ⟨fun h => (by cases h), fun h => absurd h hv⟩, hal.trans (hb.mono hal.size)⟩
end Go.Proofs.Ytiadabmbfpfbjaa

namespace Go.Proofs.Ytiadabmbfpfbjaa
open Go.RowKit

theorem el_setO {B g : Nat} {w : World} {a : Option Addr} {ts : List En} {u : Value} (h : EL B w a ts) (hg : g < B) : EL B (w.setCell ⟨g, 0, none⟩ u) a ts :=
  h.grown (row := some g) ⟨rfl, rfl, rfl, by simp, fun k _ hk => Below.heap_setCell _ _ _ _ (fun e => hk (by rw [e]))⟩ (fun k _ hk _ e => by cases e; omega)

set_option maxRecDepth 100000 in
set_option maxHeartbeats 4000000 in
theorem implOver_any (a b : Option Addr) (ca cb : Nat) (ts bs : List En) (w : World) (hts : ES w a ts) (hbs : ES w b bs) (hn : ts.length ≤ 1048576) (hnb : bs.length ≤ 1048576) (hz : ∀ e ∈ ts, e.path.size ≤ 1048576 ∧ e.text.size ≤ 1048576) (hzb : ∀ e ∈ bs, e.path.size ≤ 1048576 ∧ e.text.size ≤ 1048576) :
    Calls Try.prog 11 #[.agg #[.slice a ts.length ca], .agg #[.slice b bs.length cb]] w fun e w' => OverPost ts bs w e w' := by
  have hal : Below w.heap.size w (((w.alloc (.cells #[.slice a ts.length ca] 25)).alloc (.cells #[.slice b bs.length cb] 25)).alloc (.cells #[.slice none 0 0] 25)) := (((Below.refl _ _).alloc (Nat.le_refl _) _).alloc (by simp) _).alloc (by simp; omega) _
  have m0 : (((w.alloc (.cells #[.slice a ts.length ca] 25)).alloc (.cells #[.slice b bs.length cb] 25)).alloc (.cells #[.slice none 0 0] 25)).cell? ⟨w.heap.size, 0, none⟩ = some (.slice a ts.length ca) := by simp [go_sem]
  have k0 : (((w.alloc (.cells #[.slice a ts.length ca] 25)).alloc (.cells #[.slice b bs.length cb] 25)).alloc (.cells #[.slice none 0 0] 25)).cell? ⟨w.heap.size + 1 + 1, 0, none⟩ = some (.slice none 0 0) := by simp [go_sem]
  have kf : (((w.alloc (.cells #[.slice a ts.length ca] 25)).alloc (.cells #[.slice b bs.length cb] 25)).alloc (.cells #[.slice none 0 0] 25)).frozen? ⟨w.heap.size + 1 + 1, 0, none⟩ = false := by simp [go_sem]
  have ks : w.heap.size + 1 + 1 < (((w.alloc (.cells #[.slice a ts.length ca] 25)).alloc (.cells #[.slice b bs.length cb] 25)).alloc (.cells #[.slice none 0 0] 25)).heap.size := by simp [go_sem]
  go_enter Try.func11, Try.ntmps11
  go_wp2_with fail
  refine (grow_any b cb bs _ (hbs.below hal) hnb (fun e he => (hzb e he).1)).mono ?_
  rintro e w1 ⟨hb1, hpost⟩
  generalize ((w.alloc (.cells #[.slice a ts.length ca] 25)).alloc (.cells #[.slice b bs.length cb] 25)).alloc (.cells #[.slice none 0 0] 25) = w0 at *
  obtain ⟨g, hg⟩ : ∃ g, g = w.heap.size + 1 + 1 := ⟨_, rfl⟩
  obtain ⟨ta, hta⟩ : ∃ ta, ta = w.heap.size := ⟨_, rfl⟩
  rw [← hg] at k0 kf ks ⊢
  rw [← hta] at m0 ⊢
  have hgw : w.heap.size ≤ g := by omega
  have hag : ta < g := by omega
  clear hg hta
  replace k0 := cell_later hb1 k0
  replace kf : w1.frozen? ⟨g, 0, none⟩ = false := (hb1.frozen (p := ⟨g, 0, none⟩) ks).trans kf
  replace m0 := cell_later hb1 m0
  have ks1 : g < w1.heap.size := Nat.lt_of_lt_of_le ks hb1.size
  have hbw := hal.trans (hb1.mono hal.size)
  clear hb1 hal hbs
  rcases hpost with ⟨hv, root, rfl, lo, N, β, μ, φ, hlo, hN, hT, hroot, hS⟩ | ⟨hv, rfl⟩
  · have hglo : g < lo := Nat.lt_of_lt_of_le ks hlo
    have HWL : Keep (w.heap.size ≤ lo) := ⟨by omega⟩
    clear ks hlo
    have hvt := implTree_any a ca ts w1 (hts.below hbw) hn (fun e he => (hz e he).1)
    go_wp2_with fail
    refine hvt.mono ?_
    rintro e w2 ⟨bl, rfl, hbl, hb2⟩
    clear hvt
    replace k0 := cell_later hb2 k0
    replace kf : w2.frozen? ⟨g, 0, none⟩ = false := (hb2.frozen (p := ⟨g, 0, none⟩) ks1).trans kf
    replace m0 := cell_later hb2 m0
    have ks2 : g < w2.heap.size := Nat.lt_of_lt_of_le ks1 hb2.size
    have hbw2 := hbw.trans (hb2.mono hbw.size)
    have hT2 := hT.below hb2
    clear hb2 hT hbw ks1
    cases bl with
    | false =>
      have hnv : ¬ ValidTs ts := fun h => by have := hbl.2 h; cases this
      clear hbl
      go_wp2
      refine bodyPost_ret (v := TreeV none ([] : List En).length 0 1) ?_ rfl ⟨[], 1, .inl ⟨fun h => hnv h.1, rfl, rfl⟩, ⟨none, 0, rfl, EL.nil _ _ _⟩, hbw2.setCell (p := ⟨g, 0, none⟩) hgw _⟩
      go_light
      simp [results, Try.results11, go_sem, TreeV, k0]
    | true =>
      have hvT := hbl.1 rfl
      have HV : Keep (ValidTs ts ∧ ValidTs bs) := ⟨⟨hvT, hv⟩⟩
      have hn100 : ts.length ≤ 100 := hvT.1
      have hlw : lo ≤ w2.heap.size := by
        obtain ⟨h1, h2, _⟩ := hT2.node [] root hroot
        have := (Array.getElem?_eq_some_iff.1 h1).1
        omega
      have HG : Keep (GoodT 100 β φ) := ⟨good_of_shape hv hS⟩
      have HS : Keep (Shape (laid ts bs 0) β φ) := ⟨by rw [laid_zero]; exact hS⟩
      clear hbl hvT hv hS
      go_wp2
      go_loopw [26] (fun i wr => ∃ (k N' : Nat) (β' : Way → Option Nat) (μ' : Way → Nat) (φ' : Way → Option (ByteArray × Bool)), i = .int .i64 k ∧ k ≤ ts.length ∧ TreeM lo N' wr β' μ' φ' ∧ N' ≤ 1000 + 6 * k ∧ β' [] = some root ∧ Keep (Shape (laid ts bs k) β' φ') ∧ Keep (GoodT (100 + k) β' φ') ∧ Below lo w2 wr) (fun i _ => ts.length - (intOf i).toNat)
      case atStart => exact ⟨0, N, β, μ, φ, rfl, Nat.zero_le _, hT2, by omega, hroot, HS, HG, Below.refl _ _⟩
      case round =>
        clear HS HG hT2 hroot
        obtain ⟨k, N', β', μ', φ', rfl, hk, hT, hN', hr, HS, HG, hB⟩ := hrel
        have K0 := (hB.cell (p := ⟨g, 0, none⟩) hglo).trans k0
        have KF : wr.frozen? ⟨g, 0, none⟩ = false := (hB.frozen (p := ⟨g, 0, none⟩) hglo).trans kf
        have hzr : g < wr.heap.size := Nat.lt_of_lt_of_le ks2 hB.size
        have hbwr : Below w.heap.size w wr := hbw2.trans (hB.mono HWL.out)
        have hEr := hts.below hbwr
        have hlr : lo ≤ wr.heap.size := Nat.le_trans hlw hB.size
        by_cases hlt : k < ts.length
        · have hlt' : (k : Int) < ts.length := by omega
          obtain ⟨bb, off, rfl, hc⟩ := hEr.at hlt
          obtain ⟨x0, x1, x2⟩ := hc k hlt
          clear hc hEr
          have hals : Below wr.heap.size wr (wr.alloc (.cells #[.string ts[k].path, .string ts[k].text, .bool ts[k].runs] 37)) := (Below.refl _ _).alloc (Nat.le_refl _) _
          have hTa := hT.below hals
          have hBa := hB.alloc hlr (.cells #[.string ts[k].path, .string ts[k].text, .bool ts[k].runs] 37)
          have hok := valid_en HV.out.1 (List.getElem_mem hlt)
          obtain ⟨h6, h126⟩ := parts6 hok
          have hpk : pathOk pathB ts[k].path = true := by simp only [enOk, Bool.and_eq_true] at hok; exact hok.1
          have htx : ts[k].text.size ≤ 1500 := (enOk_parts hok).2.2
          have hlay := lay_any lo N' root _ β' μ' φ' hTa (fun q hq => HG.out.node q hq) hr (by omega) ts[k] (by omega) (path_pos hpk)
          have HBL : Keep (Blocked β' φ' (partsB ts[k].path) ↔ freeB bs ts[k].path = false) := ⟨blocked_over HV.out.1 hlt HS.out⟩
          have HTM : Keep (TreeM lo N' wr β' μ' φ') := ⟨hT⟩
          have hlra : lo ≤ (wr.alloc (.cells #[.string ts[k].path, .string ts[k].text, .bool ts[k].runs] 37)).heap.size := Nat.le_trans hlr hals.size
          clear hT hok hals
          go_wp2_with fail
          refine hlay.mono ?_
          clear hlay
          rintro e w3 (⟨rfl, hnb, ⟨β2, μ2, hT3, hgr, hr3⟩, hBT⟩ | ⟨rfl, hbl, ⟨β2, μ2, q, b2, hq, hβq, hT3, _, hgr, hr3⟩, hBT⟩)
          · have hB3 := hBa.trans (hBT.below hTa hlra)
            have hfr : freeB bs ts[k].path = true := by
              cases h : freeB bs ts[k].path with
              | true => rfl
              | false => exact absurd (HBL.out.2 h) hnb
            have HS3 : Keep (Shape (laid ts bs (k + 1)) β2 (upd φ' (partsB ts[k].path) (some (ts[k].text, ts[k].runs)))) := ⟨by
              rw [laid_free hlt hfr]
              refine HS.out.laid ts[k] ?_ hgr
              cases hx : φ' (partsB ts[k].path) with
              | none => rfl
              | some f => exact absurd (.inr (.inl (by rw [hx]; simp))) hnb⟩
            have HG3 : Keep (GoodT (100 + (k + 1)) β2 (upd φ' (partsB ts[k].path) (some (ts[k].text, ts[k].runs)))) := ⟨HG.out.lay hpk htx hnb hgr⟩
            have hT3' := hT3.mono (show N' + (partsB ts[k].path).length ≤ N' + 6 by omega)
            clear hnb hfr hgr hT3 HBL HS HG hTa hBT x0 x1 x2
            go_wp2
            go_roundw
            case rel => exact ⟨k + 1, N' + 6, β2, μ2, _, by congr 1, hlt, hT3', by omega, hr3.trans hr, HS3, HG3, hB3⟩
            case measure => simp only [intOf]; omega
          · have hB3 := hBa.trans (hBT.below hTa hlra)
            have hfr : freeB bs ts[k].path = false := HBL.out.1 hbl
            have hsame := same_nodes HTM.out hβq hgr
            have HS3 : Keep (Shape (laid ts bs (k + 1)) β2 φ') := ⟨by rw [laid_not hlt hfr]; exact HS.out.same hsame⟩
            have HG3 : Keep (GoodT (100 + (k + 1)) β2 φ') := ⟨(HG.out.same hsame).wide (by omega)⟩
            have hT3' := hT3.mono (show N' + q.length ≤ N' + 6 by have := hq.length_le; omega)
            clear hbl hfr hgr hT3 HBL HS HG hTa hBT hsame hq hβq x0 x1 x2
            go_wp2
            go_roundw
            case rel => exact ⟨k + 1, N' + 6, β2, μ2, _, by congr 1, hlt, hT3', by omega, hr3.trans hr, HS3, HG3, hB3⟩
            case measure => simp only [intOf]; omega
        · obtain rfl : k = ts.length := by omega
          have htc := tree_any lo N' (100 + ts.length) (by omega) (by omega) β' μ' φ' HG.out root wr hT hr
          have HTO : Keep (∀ us, Told φ' [] [] [] us → OverRel ts bs us) := ⟨fun us h => told_over HS.out h⟩
          clear HS HG hT hEr
          go_wp2_with fail
          refine htc.mono ?_
          rintro e w6 ⟨us, ht, hb6, hres⟩
          have hset := HTO.out us ht
          have hb56 := hbwr.trans (hb6.mono hbwr.size)
          replace K0 := cell_later hb6 K0
          replace KF : w6.frozen? ⟨g, 0, none⟩ = false := (hb6.frozen (p := ⟨g, 0, none⟩) hzr).trans KF
          clear htc hb6 ht
          unfold TreeR TreeV at hres
          rcases hres with ⟨h100, ad, cap6, rfl, _⟩ | ⟨h100, ad, cap6, rfl, hel⟩
          · go_wp2
            refine bodyPost_ret (v := TreeV ad ([] : List En).length cap6 4) ?_ rfl ⟨[], 4, .inr ⟨HV.out.1, HV.out.2, us, hset, .inl ⟨h100, rfl, rfl⟩⟩, ⟨ad, cap6, rfl, EL.nil _ _ _⟩, hb56.setCell (p := ⟨g, 0, none⟩) hgw _⟩
            go_light
            simp [results, Try.results11, go_sem, TreeV, K0]
          · have hel6 := (el_setO (u := .slice ad us.length cap6) hel hzr).mono hbwr.size
            clear hel
            go_wp2
            refine bodyPost_ret (v := TreeV ad us.length cap6 0) ?_ rfl ⟨us, 0, .inr ⟨HV.out.1, HV.out.2, us, hset, .inr ⟨h100, rfl, rfl⟩⟩, ⟨ad, cap6, rfl, hel6⟩, hb56.setCell (p := ⟨g, 0, none⟩) hgw _⟩
            go_light
            simp [results, Try.results11, go_sem, TreeV, K0]
  · go_wp2
    refine bodyPost_ret (v := TreeV none ([] : List En).length 0 1) ?_ rfl ⟨[], 1, .inl ⟨fun h => hv h.2, rfl, rfl⟩, ⟨none, 0, rfl, EL.nil _ _ _⟩, hbw.setCell (p := ⟨g, 0, none⟩) hgw _⟩
    go_light
    simp [results, Try.results11, go_sem, TreeV, k0]
end Go.Proofs.Ytiadabmbfpfbjaa

namespace Go.Proofs.Ytiadabmbfpfbjaa
open Go.RowKit

theorem el_setM {B g : Nat} {w : World} {a : Option Addr} {ts : List En} {u : Value} (h : EL B w a ts) (hg : g < B) : EL B (w.setCell ⟨g, 0, none⟩ u) a ts :=
  h.grown (row := some g) ⟨rfl, rfl, rfl, by simp, fun k _ hk => Below.heap_setCell _ _ _ _ (fun e => hk (by rw [e]))⟩ (fun k _ hk _ e => by cases e; omega)

set_option maxRecDepth 100000 in
set_option maxHeartbeats 4000000 in
theorem implMnt_any (a b : Option Addr) (ca cb : Nat) (ts bs : List En) (dir : ByteArray) (w : World) (hts : ES w a ts) (hbs : ES w b bs) (hn : ts.length ≤ 1048576) (hnb : bs.length ≤ 1048576) (hz : ∀ e ∈ ts, e.path.size ≤ 1048576 ∧ e.text.size ≤ 1048576) (hzb : ∀ e ∈ bs, e.path.size ≤ 1048576 ∧ e.text.size ≤ 1048576) (hdz : dir.size ≤ 1048576) :
    Calls Try.prog 5 #[.agg #[.slice a ts.length ca], .string dir, .agg #[.slice b bs.length cb]] w fun e w' => MntPost ts dir bs w e w' := by
  have hal : Below w.heap.size w (((w.alloc (.cells #[.slice a ts.length ca] 25)).alloc (.cells #[.slice b bs.length cb] 25)).alloc (.cells #[.slice none 0 0] 25)) := (((Below.refl _ _).alloc (Nat.le_refl _) _).alloc (by simp) _).alloc (by simp; omega) _
  have m0 : (((w.alloc (.cells #[.slice a ts.length ca] 25)).alloc (.cells #[.slice b bs.length cb] 25)).alloc (.cells #[.slice none 0 0] 25)).cell? ⟨w.heap.size + 1, 0, none⟩ = some (.slice b bs.length cb) := by simp [go_sem]
  have k0 : (((w.alloc (.cells #[.slice a ts.length ca] 25)).alloc (.cells #[.slice b bs.length cb] 25)).alloc (.cells #[.slice none 0 0] 25)).cell? ⟨w.heap.size + 1 + 1, 0, none⟩ = some (.slice none 0 0) := by simp [go_sem]
  have kf : (((w.alloc (.cells #[.slice a ts.length ca] 25)).alloc (.cells #[.slice b bs.length cb] 25)).alloc (.cells #[.slice none 0 0] 25)).frozen? ⟨w.heap.size + 1 + 1, 0, none⟩ = false := by simp [go_sem]
  have ks : w.heap.size + 1 + 1 < (((w.alloc (.cells #[.slice a ts.length ca] 25)).alloc (.cells #[.slice b bs.length cb] 25)).alloc (.cells #[.slice none 0 0] 25)).heap.size := by simp [go_sem]
  go_enter Try.func5, Try.ntmps5
  go_wp2_with fail
  refine (grow_any a ca ts _ (hts.below hal) hn (fun e he => (hz e he).1)).mono ?_
  rintro e w1 ⟨hb1, hpost⟩
  generalize ((w.alloc (.cells #[.slice a ts.length ca] 25)).alloc (.cells #[.slice b bs.length cb] 25)).alloc (.cells #[.slice none 0 0] 25) = w0 at *
  obtain ⟨g, hg⟩ : ∃ g, g = w.heap.size + 1 + 1 := ⟨_, rfl⟩
  obtain ⟨tb, htb⟩ : ∃ tb, tb = w.heap.size + 1 := ⟨_, rfl⟩
  rw [← hg] at k0 kf ks ⊢
  rw [← htb] at m0 ⊢
  have hgw : w.heap.size ≤ g := by omega
  have hbg : tb < g := by omega
  clear hg htb
  replace k0 := cell_later hb1 k0
  replace kf : w1.frozen? ⟨g, 0, none⟩ = false := (hb1.frozen (p := ⟨g, 0, none⟩) ks).trans kf
  replace m0 := cell_later hb1 m0
  have ks1 : g < w1.heap.size := Nat.lt_of_lt_of_le ks hb1.size
  have hbw := hal.trans (hb1.mono hal.size)
  have hgr2 := grow_any b cb bs w1 (hbs.below hbw) hnb (fun e he => (hzb e he).1)
  clear hb1 hal hts
  rcases hpost with ⟨hv, root, rfl, lo, N, β, μ, φ, hlo, hN, hT, hroot, hS⟩ | ⟨hv, rfl⟩
  · have hglo : g < lo := Nat.lt_of_lt_of_le ks hlo
    clear ks hlo
    go_wp2_with fail
    refine hgr2.mono ?_
    rintro e w2 ⟨hb2, hpost2⟩
    clear hgr2
    replace k0 := cell_later hb2 k0
    replace kf : w2.frozen? ⟨g, 0, none⟩ = false := (hb2.frozen (p := ⟨g, 0, none⟩) ks1).trans kf
    replace m0 := cell_later hb2 m0
    have ks2 : g < w2.heap.size := Nat.lt_of_lt_of_le ks1 hb2.size
    have hbw2 := hbw.trans (hb2.mono hbw.size)
    have HT1 : Keep (∀ k, TreeB β μ k → k < w1.heap.size) := ⟨fun k hk => (hT.lt hk).2⟩
    have hT2 := hT.below hb2
    have HZ12 : Keep (w1.heap.size ≤ w2.heap.size) := ⟨hb2.size⟩
    clear hb2 hT hbw ks1
    rcases hpost2 with ⟨hv2, root2, rfl, lo2, N2, β2, μ2, φ2, hlo2, hN2, hU, hroot2, hS2⟩ | ⟨hv2, rfl⟩
    · have hvp := implPath_any dir (by omega) w2
      have HT2 : Keep (∀ k, TreeB β2 μ2 k → w1.heap.size ≤ k ∧ k < w2.heap.size) := ⟨fun k hk => by have := hU.lt hk; omega⟩
      have HLO : Keep (lo ≤ w1.heap.size ∧ lo ≤ lo2) := ⟨by have := HT1.out root (.inl ⟨[], hroot⟩); have := (hT2.lt (k := root) (.inl ⟨[], hroot⟩)).1; omega⟩
      clear hlo2
      go_wp2_with fail
      refine hvp.mono ?_
      rintro e w3 ⟨rfl, hb3⟩
      clear hvp
      replace k0 := cell_later hb3 k0
      replace kf : w3.frozen? ⟨g, 0, none⟩ = false := (hb3.frozen (p := ⟨g, 0, none⟩) ks2).trans kf
      replace m0 := cell_later hb3 m0
      have ks3 : g < w3.heap.size := Nat.lt_of_lt_of_le ks2 hb3.size
      have hbw3 := hbw2.trans (hb3.mono hbw2.size)
      have hT3 := hT2.below hb3
      have hU3 := hU.below hb3
      have HZ23 : Keep (w2.heap.size ≤ w3.heap.size) := ⟨hb3.size⟩
      clear hb3 hbw2 ks2 hT2 hU
      cases hpk : pathOk pathB dir with
      | false =>
        go_wp2
        refine bodyPost_ret (v := TreeV none ([] : List En).length 0 1) ?_ rfl ⟨[], 1, .inl ⟨fun h => (by rw [hpk] at h; cases h.2.2), rfl, rfl⟩, ⟨none, 0, rfl, EL.nil _ _ _⟩, hbw3.setCell (p := ⟨g, 0, none⟩) hgw _⟩
        go_light
        simp [results, Try.results5, go_sem, TreeV, k0]
      | true =>
        have HV : Keep (ValidTs ts ∧ ValidTs bs ∧ pathOk pathB dir = true) := ⟨⟨hv, hv2, hpk⟩⟩
        have hd126 : dir.size ≤ 126 := pathOk_size hpk
        clear hv hv2 hpk
        go_wp2
        go_loopw [40] (fun i wr => ∃ k : Nat, i = .int .i64 k ∧ k ≤ bs.length ∧ Keep (∀ e ∈ bs.take k, pathOk pathB (putE dir e).path = true) ∧ Below w3.heap.size w3 wr) (fun i _ => bs.length - (intOf i).toNat)
        case atStart => exact ⟨0, rfl, Nat.zero_le _, ⟨fun e he => by simp at he⟩, Below.refl _ _⟩
        case round =>
          obtain ⟨k, rfl, hk, HA, hB⟩ := hrel
          have K0 := cell_later hB k0
          have KF : wr.frozen? ⟨g, 0, none⟩ = false := (hB.frozen (p := ⟨g, 0, none⟩) ks3).trans kf
          have hzr : g < wr.heap.size := Nat.lt_of_lt_of_le ks3 hB.size
          have hbwr := hbw3.trans (hB.mono hbw3.size)
          by_cases hlt : k < bs.length
          · have hlt' : (k : Int) < bs.length := by omega
            obtain ⟨bb, off, rfl, hc⟩ := (hbs.below hbwr).at hlt
            obtain ⟨x0, x1, x2⟩ := hc k hlt
            have hals : Below wr.heap.size wr (wr.alloc (.cells #[.string bs[k].path, .string bs[k].text, .bool bs[k].runs] 37)) := (Below.refl _ _).alloc (Nat.le_refl _) _
            have hpz : (putE dir bs[k]).path.size ≤ 1099511627776 := by
              have := (hzb bs[k] (List.getElem_mem hlt)).1
              simp only [putE, ByteArray.size_append]
              show dir.size + 1 + bs[k].path.size ≤ _
              omega
            have hep := (hzb bs[k] (List.getElem_mem hlt)).1
            have hvp := implPath_any (putE dir bs[k]).path hpz (wr.alloc (.cells #[.string bs[k].path, .string bs[k].text, .bool bs[k].runs] 37))
            clear hc hpz
            cases hpe : pathOk pathB (putE dir bs[k]).path with
            | false =>
              rw [show (putE dir bs[k]).path = dir ++ ⟨#[47]⟩ ++ bs[k].path from rfl] at hvp hpe
              go_wp2_with fail
              refine hvp.mono ?_
              rintro e w5 ⟨rfl, hb5⟩
              have hb5' := hals.trans (hb5.mono hals.size)
              replace K0 := cell_later hb5' K0
              replace KF : w5.frozen? ⟨g, 0, none⟩ = false := (hb5'.frozen (p := ⟨g, 0, none⟩) hzr).trans KF
              have hbw5 := hbwr.trans (hb5'.mono hbwr.size)
              clear hvp
              rw [hpe]
              go_wp2
              refine bodyPost_ret (v := TreeV none ([] : List En).length 0 2) ?_ rfl ⟨[], 2, .inr (.inl ⟨HV.out, ⟨bs[k], List.getElem_mem hlt, hpe⟩, rfl, rfl⟩), ⟨none, 0, rfl, EL.nil _ _ _⟩, hbw5.setCell (p := ⟨g, 0, none⟩) hgw _⟩
              go_light
              simp [results, Try.results5, go_sem, TreeV, K0]
            | true =>
              have HA2 : Keep (∀ e ∈ bs.take (k + 1), pathOk pathB (putE dir e).path = true) := ⟨fun e he => by
                rcases (mem_take_succ hlt e).1 he with h | rfl
                · exact HA.out e h
                · exact hpe⟩
              rw [show (putE dir bs[k]).path = dir ++ ⟨#[47]⟩ ++ bs[k].path from rfl] at hvp hpe
              go_wp2_with fail
              refine hvp.mono ?_
              rintro e w5 ⟨rfl, hb5⟩
              have hb5' := hals.trans (hb5.mono hals.size)
              have hB5 := hB.trans (hb5'.mono hB.size)
              clear hvp
              rw [hpe]
              clear hpe
              go_wp2
              go_roundw
              case rel => exact ⟨k + 1, by congr 1, hlt, HA2, hB5⟩
              case measure => simp only [intOf]; omega
          · obtain rfl : k = bs.length := by omega
            rw [List.take_length] at HA
            have hT4 := hT3.below hB
            have hU4 := hU3.below hB
            have HZ34 : Keep (w3.heap.size ≤ wr.heap.size) := ⟨hB.size⟩
            have hre := reach_any lo N root wr β μ φ hT4 hS.files_nodes hroot (by omega) dir (by omega)
            go_wp2_with fail
            refine hre.mono ?_
            clear hre
            rintro e w5 (⟨β', μ', bn, hA, rfl, hBT⟩ | ⟨β', μ', bn, q, hA, hq, hne, hf, rfl, hBT⟩)
            · have hB5 := hBT.below hT4 (by have := HLO.out; have := HZ12.out; have := HZ23.out; have := HZ34.out; omega)
              have hU5 : TreeM lo2 N2 w5 β2 μ2 φ2 := hU4.turn (fun k hk => hBT.block k (by have := (HT2.out k hk).2; have := HZ23.out; have := HZ34.out; omega) (fun hk1 => by have := HT1.out k hk1; have := (HT2.out k hk).1; omega))
              have K5 := (hB5.cell (p := ⟨g, 0, none⟩) hglo).trans K0
              have KF5 : w5.frozen? ⟨g, 0, none⟩ = false := (hB5.frozen (p := ⟨g, 0, none⟩) hglo).trans KF
              have hz5 : g < w5.heap.size := Nat.lt_of_lt_of_le hzr hB5.size
              have hbw5 : Below w.heap.size w w5 := hbwr.trans (hB5.mono (by omega))
              have hdis : Keep (∀ k, TreeB β' μ' k → ¬ TreeB β2 μ2 k) := ⟨fun k hk hk2 => by
                have h2 := HT2.out k hk2
                have hz : k < wr.heap.size := by have := HZ23.out; have := HZ34.out; omega
                rcases hk with ⟨s, hs⟩ | ⟨s, hs, rfl⟩
                · cases hbs0 : β s with
                  | none => have := (hA.new s k hbs0 hs).1; omega
                  | some k' =>
                    have h3 := (hA.old s (by rw [hbs0]; simp)).1
                    rw [hs, hbs0] at h3
                    cases h3
                    have := HT1.out k (.inl ⟨s, hbs0⟩)
                    omega
                · cases hbs0 : β s with
                  | none =>
                    cases hbs1 : β' s with
                    | none => exact absurd hbs1 hs
                    | some k' => have := (hA.new s k' hbs0 hbs1).2; omega
                  | some k' =>
                    have h3 := (hA.old s (by rw [hbs0]; simp)).2
                    have := HT1.out (μ s) (.inr ⟨s, by rw [hbs0]; simp, rfl⟩)
                    omega⟩
              obtain ⟨hob, hlob, _, _⟩ := hA.tree.node _ bn hA.here
              obtain ⟨c0, c3, cf, _, _⟩ := node_cells hob
              obtain ⟨hob2, _, _, _⟩ := hU5.node _ root2 hroot2
              obtain ⟨_, d3, _, _, _⟩ := node_cells hob2
              have HIW : Keep (InWayD ts dir ↔ ∃ q, q <+: partsB dir ∧ φ q ≠ none) := ⟨inway_iff hS dir⟩
              cases hf : φ (partsB dir) with
              | some f =>
                rw [hf] at c0
                have hway : InWayD ts dir := HIW.out.2 ⟨_, List.prefix_refl _, by rw [hf]; simp⟩
                clear hob hob2 hA hU5
                go_wp2
                refine bodyPost_ret (v := TreeV none ([] : List En).length 0 3) ?_ rfl ⟨[], 3, .inr (.inr (.inl ⟨HV.out, HA.out, hway, rfl, rfl⟩)), ⟨none, 0, rfl, EL.nil _ _ _⟩, hbw5.setCell (p := ⟨g, 0, none⟩) hgw _⟩
                go_light
                simp [results, Try.results5, go_sem, TreeV, K5]
              | none =>
                rw [hf] at c0
                have hfree : ∀ q, q <+: partsB dir → φ q = none := fun q hq => by
                  by_cases e : q = partsB dir
                  · rw [e]; exact hf
                  · exact hA.free q hq e
                have hno : ¬ InWayD ts dir := fun h => by
                  obtain ⟨q, hq, hq2⟩ := HIW.out.1 h
                  exact hq2 (hfree q hq)
                have HNO : Keep (¬ InWayD ts dir) := ⟨hno⟩
                have hG := GoodT.graft (good_of_shape HV.out.1 hS) (good_of_shape HV.out.2.1 hS2) hA.grown hfree (path_parts HV.out.2.2) (deep_put hS2 HV.out.2.2 HA.out)
                have hpl : (partsB dir).length ≤ 6 := (path_parts HV.out.2.2).1
                have hTG := TreeM.graft hA.tree hU5 hA.here hf hdis.out HLO.out.2 2000 (by omega) (by omega)
                have hrG : graft (partsB dir) β' β2 [] = some root := by
                  rw [graft_out _ _ (fun h => parts_ne dir (List.prefix_nil.1 h)), hA.root, hroot]
                have HTO : Keep (∀ us, Told (graft (partsB dir) φ φ2) [] [] [] us → MntRel ts dir bs us) := ⟨fun us h => told_mnt hS hS2 h⟩
                have hbn : g < bn := by omega
                have hgn : g ≠ bn := by omega
                have hbnw : bn < w5.heap.size := (Array.getElem?_eq_some_iff.1 hob).1
                have K6 : (w5.setCell ⟨bn, 3, none⟩ (.map (some (μ2 [])))).cell? ⟨g, 0, none⟩ = some (.slice none 0 0) := (World.cell?_of_block (Below.heap_setCell _ _ _ _ hgn)).trans K5
                have KF6 : (w5.setCell ⟨bn, 3, none⟩ (.map (some (μ2 [])))).frozen? ⟨g, 0, none⟩ = false := (World.frozen?_setCell _ _ _ _).trans KF5
                have hbw6 := hbw5.setCell (p := ⟨bn, 3, none⟩) (by show w.heap.size ≤ bn; omega) (.map (some (μ2 [])))
                have hz6 : g < (w5.setCell ⟨bn, 3, none⟩ (.map (some (μ2 [])))).heap.size := by simpa using hz5
                have htc := tree_any lo 2000 200 (by omega) (by omega) _ _ _ hG root _ hTG hrG
                clear hob hob2 hA hU5 hG hTG hfree hno hB5 hBT hT4 hU4 hT3 hU3 hf
                go_wp2_with fail
                refine htc.mono ?_
                clear htc
                rintro e w7 ⟨us, ht, hb7, hres⟩
                generalize w5.setCell ⟨bn, 3, none⟩ (.map (some (μ2 []))) = w6 at *
                have hset := HTO.out us ht
                have hb67 := hbw6.trans (hb7.mono hbw6.size)
                replace K6 := cell_later hb7 K6
                replace KF6 : w7.frozen? ⟨g, 0, none⟩ = false := (hb7.frozen (p := ⟨g, 0, none⟩) hz6).trans KF6
                clear hb7 ht
                unfold TreeR TreeV at hres
                rcases hres with ⟨h100, ad, cap6, rfl, _⟩ | ⟨h100, ad, cap6, rfl, hel⟩
                · go_wp2
                  refine bodyPost_ret (v := TreeV ad ([] : List En).length cap6 4) ?_ rfl ⟨[], 4, .inr (.inr (.inr ⟨HV.out, HA.out, HNO.out, us, hset, .inl ⟨h100, rfl, rfl⟩⟩)), ⟨ad, cap6, rfl, EL.nil _ _ _⟩, hb67.setCell (p := ⟨g, 0, none⟩) hgw _⟩
                  go_light
                  simp [results, Try.results5, go_sem, TreeV, K6]
                · have hel6 := (el_setM (u := .slice ad us.length cap6) hel hz6).mono hbw6.size
                  clear hel
                  go_wp2
                  refine bodyPost_ret (v := TreeV ad us.length cap6 0) ?_ rfl ⟨us, 0, .inr (.inr (.inr ⟨HV.out, HA.out, HNO.out, us, hset, .inr ⟨h100, rfl, rfl⟩⟩)), ⟨ad, cap6, rfl, hel6⟩, hb67.setCell (p := ⟨g, 0, none⟩) hgw _⟩
                  go_light
                  simp [results, Try.results5, go_sem, TreeV, K6]
            · have hB5 := hBT.below hT4 (by have := HLO.out; have := HZ12.out; have := HZ23.out; have := HZ34.out; omega)
              have K5 := (hB5.cell (p := ⟨g, 0, none⟩) hglo).trans K0
              have KF5 : w5.frozen? ⟨g, 0, none⟩ = false := (hB5.frozen (p := ⟨g, 0, none⟩) hglo).trans KF
              have hbw5 : Below w.heap.size w w5 := hbwr.trans (hB5.mono (by omega))
              have hway : InWayD ts dir := (inway_iff hS dir).2 ⟨q, hq, hf⟩
              clear hA hT4 hU4 hT3 hU3 hBT hB5
              go_wp2
              refine bodyPost_ret (v := TreeV none ([] : List En).length 0 3) ?_ rfl ⟨[], 3, .inr (.inr (.inl ⟨HV.out, HA.out, hway, rfl, rfl⟩)), ⟨none, 0, rfl, EL.nil _ _ _⟩, hbw5.setCell (p := ⟨g, 0, none⟩) hgw _⟩
              go_light
              simp [results, Try.results5, go_sem, TreeV, K5]
    · go_wp2
      refine bodyPost_ret (v := TreeV none ([] : List En).length 0 1) ?_ rfl ⟨[], 1, .inl ⟨fun h => hv2 h.2.1, rfl, rfl⟩, ⟨none, 0, rfl, EL.nil _ _ _⟩, hbw2.setCell (p := ⟨g, 0, none⟩) hgw _⟩
      go_light
      simp [results, Try.results5, go_sem, TreeV, k0]
  · go_wp2_with fail
    refine hgr2.mono ?_
    rintro e w2 ⟨hb2, hpost2⟩
    clear hgr2
    replace k0 := cell_later hb2 k0
    replace kf : w2.frozen? ⟨g, 0, none⟩ = false := (hb2.frozen (p := ⟨g, 0, none⟩) ks1).trans kf
    have hbw2 := hbw.trans (hb2.mono hbw.size)
    clear hb2
    rcases hpost2 with ⟨_, root2, rfl, _⟩ | ⟨_, rfl⟩
    · go_wp2
      refine bodyPost_ret (v := TreeV none ([] : List En).length 0 1) ?_ rfl ⟨[], 1, .inl ⟨fun h => hv h.1, rfl, rfl⟩, ⟨none, 0, rfl, EL.nil _ _ _⟩, hbw2.setCell (p := ⟨g, 0, none⟩) hgw _⟩
      go_light
      simp [results, Try.results5, go_sem, TreeV, k0]
    · go_wp2
      refine bodyPost_ret (v := TreeV none ([] : List En).length 0 1) ?_ rfl ⟨[], 1, .inl ⟨fun h => hv h.1, rfl, rfl⟩, ⟨none, 0, rfl, EL.nil _ _ _⟩, hbw2.setCell (p := ⟨g, 0, none⟩) hgw _⟩
      go_light
      simp [results, Try.results5, go_sem, TreeV, k0]
end Go.Proofs.Ytiadabmbfpfbjaa

namespace Go.Proofs.Ytiadabmbfpfbjaa
open Go.RowKit

theorem step_fn2 {ops : Array Oper} {o : Oper} {a : Act} {K : Act → World → Prop} {Q : Exit → Act → World → Prop} {E : Prop} {w : World} (hgd : o.guard = none) (f : FuncId) (x y : Operand) (tx ty : TypeId) (ho : o.op = .call { callee := .value (.func f), args := #[x, y], argTypes := #[tx, ty] })
    (u v : Value) (hx : a.eval x = u) (hy : a.eval y = v) (hf : ∀ w, (callFunc f #[u, v]).run Try.prog w = .ok (.enter f #[u, v]) w) {P2 : Ending → World → Prop} (hc : Calls Try.prog f #[u, v] w P2)
    (hK : ∀ e w', P2 e w' → ∃ u, e = .returned u ∧ K (a.put o.dst u) w') :
    if Region.wanted o (yielded ops a.tmps) = true then Oper.wp Try.prog o a w K Q else E := by
  rw [if_pos (by simp [Region.wanted, hgd])]
  have he : a.eval (.func f) = .func (.func f) #[] #[] := rfl
  have hr : (execOp a.eval o).run Try.prog w = .ok (.enter f #[u, v]) w := by
    unfold execOp
    simp only [ho, resolve, Deferred.ofValue, invoke, Sem.run_bind, Sem.run_pure, Result.andThen_ok, List.map_toArray, List.map_cons, List.map_nil, hx, hy, he]
    exact hf w
  unfold Oper.wp
  rw [hr, Oper.upon_enter]
  refine hc.mono ?_
  intro e w' h2
  obtain ⟨u, rfl, hk⟩ := hK e w' h2
  exact hk

theorem freeB_take {bs : List En} {p : ByteArray} {j : Nat} (h : j < bs.length) : freeB (bs.take (j + 1)) p = (freeB (bs.take j) p && !meetB p bs[j].path) := by
  unfold freeB
  rw [List.take_succ_eq_append_getElem h, List.all_append]
  simp

/-- The list in the making: a cell that holds its slice. -/
structure OvSt (B ob : Nat) (W0 : World) (ad : Option Addr) (cap : Nat) (us : List En) (W : World) : Prop where
  cell : W.cell? ⟨ob, 0, none⟩ = some (.slice ad us.length cap)
  fz : W.frozen? ⟨ob, 0, none⟩ = false
  lst : EL B W ad us
  apart : us = [] ∨ blk ad ≠ some ob
  grown : W0.grownBy W (some ob)
  lt : ob < W0.heap.size
theorem OvSt.later {B ob : Nat} {W0 W W' : World} {ad : Option Addr} {cap : Nat} {us : List En} (s : OvSt B ob W0 ad cap us W) (hb : Below W.heap.size W W') : OvSt B ob W0 ad cap us W' :=
  have hl : ob < W.heap.size := Nat.lt_of_lt_of_le s.lt s.grown.size
  ⟨cell_later hb s.cell, (hb.frozen (p := ⟨ob, 0, none⟩) hl).trans s.fz, s.lst.below hb, s.apart, ⟨hb.os.trans s.grown.os, hb.tape.trans s.grown.tape, hb.output.trans s.grown.output, Nat.le_trans s.grown.size hb.size, fun k hk hne => (hb.block k (Nat.lt_of_lt_of_le hk s.grown.size)).trans (s.grown.block k hk hne)⟩, s.lt⟩
theorem OvSt.keep {B ob b j : Nat} {W0 W : World} {ad : Option Addr} {cap : Nat} {us : List En} {u : Value} (s : OvSt B ob W0 ad cap us W) (hc : W0.cell? ⟨b, j, none⟩ = some u) (hb : b < W0.heap.size) (hne : b ≠ ob) : W.cell? ⟨b, j, none⟩ = some u :=
  (World.cell?_of_block (s.grown.block b hb (fun e => hne (by cases e; rfl)))).trans hc
theorem OvSt.keepF {B ob b j : Nat} {W0 W : World} {ad : Option Addr} {cap : Nat} {us : List En} (s : OvSt B ob W0 ad cap us W) (hc : W0.frozen? ⟨b, j, none⟩ = false) (hb : b < W0.heap.size) (hne : b ≠ ob) : W.frozen? ⟨b, j, none⟩ = false :=
  frozen_blk (s.grown.block b hb (fun e => hne (by cases e; rfl))) hc
theorem OvSt.below {B ob : Nat} {w W0 W : World} {ad : Option Addr} {cap : Nat} {us : List En} (s : OvSt B ob W0 ad cap us W) (hb : Below w.heap.size w W0) (hh : w.heap.size ≤ ob) : Below w.heap.size w W :=
  hb.grown s.grown hb.size (fun j e => by cases e; exact hh)
/-- Another list is put into the cell. -/
theorem OvSt.put {B ob B' : Nat} {W0 W : World} {ad ad' : Option Addr} {cap cap' : Nat} {us us' : List En} (s : OvSt B ob W0 ad cap us W) (h : EL B' W ad' us') (hB : ob < B') (hBB : B ≤ B') : OvSt B ob W0 ad' cap' us' (W.setCell ⟨ob, 0, none⟩ (.slice ad' us'.length cap')) := by
  refine ⟨World.cell?_setCell_same _ _ _ s.cell, (World.frozen?_setCell _ _ _ _).trans s.fz, ?_, ?_, ?_, s.lt⟩
  · exact (h.grown (row := some ob) (grown_set0 W ob 0 _) (fun g _ hg _ e => by cases e; omega)).mono hBB
  · rcases h with h | ⟨g, rfl, hg, _⟩
    · exact .inl h
    · exact .inr (fun e => by simp [blk] at e; omega)
  · refine ⟨s.grown.os, s.grown.tape, s.grown.output, ?_, fun k hk hne => (Below.heap_setCell _ _ _ _ (fun e => hne (by rw [e]))).trans (s.grown.block k hk hne)⟩
    have := s.grown.size
    simpa using this

set_option maxRecDepth 100000 in
set_option maxHeartbeats 8000000 in
theorem specOver_any (a b : Option Addr) (ca cb : Nat) (ts bs : List En) (w : World) (hts : ES w a ts) (hbs : ES w b bs) (hn : ts.length ≤ 1048576) (hnb : bs.length ≤ 1048576) (hb : (∃ ad, b = some ad) ∨ (b = none ∧ cb = 0)) :
    Calls Try.prog 12 #[.agg #[.slice a ts.length ca], .agg #[.slice b bs.length cb]] w fun e w' => OverPost ts bs w e w' := by
  have hal : Below w.heap.size w (((w.alloc (.cells #[.slice a ts.length ca] 25)).alloc (.cells #[.slice b bs.length cb] 25)).alloc (.cells #[.slice none 0 0] 25)) := (((Below.refl _ _).alloc (Nat.le_refl _) _).alloc (by simp) _).alloc (by simp; omega) _
  have m0 : (((w.alloc (.cells #[.slice a ts.length ca] 25)).alloc (.cells #[.slice b bs.length cb] 25)).alloc (.cells #[.slice none 0 0] 25)).cell? ⟨w.heap.size, 0, none⟩ = some (.slice a ts.length ca) := by simp [go_sem]
  have n0 : (((w.alloc (.cells #[.slice a ts.length ca] 25)).alloc (.cells #[.slice b bs.length cb] 25)).alloc (.cells #[.slice none 0 0] 25)).cell? ⟨w.heap.size + 1, 0, none⟩ = some (.slice b bs.length cb) := by simp [go_sem]
  have k0 : (((w.alloc (.cells #[.slice a ts.length ca] 25)).alloc (.cells #[.slice b bs.length cb] 25)).alloc (.cells #[.slice none 0 0] 25)).cell? ⟨w.heap.size + 1 + 1, 0, none⟩ = some (.slice none 0 0) := by simp [go_sem]
  have kf : (((w.alloc (.cells #[.slice a ts.length ca] 25)).alloc (.cells #[.slice b bs.length cb] 25)).alloc (.cells #[.slice none 0 0] 25)).frozen? ⟨w.heap.size + 1 + 1, 0, none⟩ = false := by simp [go_sem]
  have ks : w.heap.size + 1 + 1 < (((w.alloc (.cells #[.slice a ts.length ca] 25)).alloc (.cells #[.slice b bs.length cb] 25)).alloc (.cells #[.slice none 0 0] 25)).heap.size := by simp [go_sem]
  go_enter Try.func12, Try.ntmps12
  go_wp2_with fail
  refine (specTree_any a ca ts _ (hts.below hal) hn).mono ?_
  rintro e w1 ⟨vb, rfl, hvb, hb1⟩
  generalize ((w.alloc (.cells #[.slice a ts.length ca] 25)).alloc (.cells #[.slice b bs.length cb] 25)).alloc (.cells #[.slice none 0 0] 25) = w0 at *
  obtain ⟨g, hg⟩ : ∃ g, g = w.heap.size + 1 + 1 := ⟨_, rfl⟩
  obtain ⟨tb, htb⟩ : ∃ tb, tb = w.heap.size + 1 := ⟨_, rfl⟩
  obtain ⟨ta, hta⟩ : ∃ ta, ta = w.heap.size := ⟨_, rfl⟩
  rw [← hg] at k0 kf ks ⊢
  rw [← htb] at n0 ⊢
  rw [← hta] at m0 ⊢
  have hgw : w.heap.size ≤ g := by omega
  have hag : ta < g := by omega
  have hbg : tb < g := by omega
  clear hg hta htb
  replace k0 := cell_later hb1 k0
  replace kf : w1.frozen? ⟨g, 0, none⟩ = false := (hb1.frozen (p := ⟨g, 0, none⟩) ks).trans kf
  replace m0 := cell_later hb1 m0
  replace n0 := cell_later hb1 n0
  have ks1 : g < w1.heap.size := Nat.lt_of_lt_of_le ks hb1.size
  have hbw := hal.trans (hb1.mono hal.size)
  have HV : Keep (vb = true ↔ ValidTs ts) := ⟨hvb⟩
  clear hvb hb1 hal ks
  cases vb with
  | false =>
    have hnv : ¬ ValidTs ts := fun h => by have := HV.out.2 h; cases this
    go_wp2
    refine bodyPost_ret (v := TreeV none ([] : List En).length 0 1) ?_ rfl ⟨[], 1, .inl ⟨fun h => hnv h.1, rfl, rfl⟩, ⟨none, 0, rfl, EL.nil _ _ _⟩, hbw.setCell (p := ⟨g, 0, none⟩) hgw _⟩
    go_light
    simp [results, Try.results12, go_sem, TreeV, k0]
  | true =>
    have hvT := HV.out.1 rfl
    clear HV
    have hvt2 := specTree_any b cb bs w1 (hbs.below hbw) hnb
    go_wp2_with fail
    refine hvt2.mono ?_
    rintro e w2 ⟨vb2, rfl, hvb2, hb2⟩
    clear hvt2
    replace k0 := cell_later hb2 k0
    replace kf : w2.frozen? ⟨g, 0, none⟩ = false := (hb2.frozen (p := ⟨g, 0, none⟩) ks1).trans kf
    replace m0 := cell_later hb2 m0
    replace n0 := cell_later hb2 n0
    have ks2 : g < w2.heap.size := Nat.lt_of_lt_of_le ks1 hb2.size
    have hbw2 := hbw.trans (hb2.mono hbw.size)
    have HV2 : Keep (vb2 = true ↔ ValidTs bs) := ⟨hvb2⟩
    clear hvb2 hb2 hbw ks1
    cases vb2 with
    | false =>
      have hnv : ¬ ValidTs bs := fun h => by have := HV2.out.2 h; cases this
      go_wp2
      refine bodyPost_ret (v := TreeV none ([] : List En).length 0 1) ?_ rfl ⟨[], 1, .inl ⟨fun h => hnv h.2, rfl, rfl⟩, ⟨none, 0, rfl, EL.nil _ _ _⟩, hbw2.setCell (p := ⟨g, 0, none⟩) hgw _⟩
      go_light
      simp [results, Try.results12, go_sem, TreeV, k0]
    | true =>
      have HVV : Keep (ValidTs ts ∧ ValidTs bs) := ⟨⟨hvT, HV2.out.1 rfl⟩⟩
      have n1 : ts.length ≤ 100 := hvT.1
      have n2 : bs.length ≤ 100 := HVV.out.2.1
      clear hvT HV2
      have hcp := l5Copy_any b cb bs w2 (hbs.below hbw2) hnb hb
      go_wp2_with fail
      refine hcp.mono ?_
      rintro e w3 ⟨⟨ad3, cp3, rfl, hel3⟩, hb3⟩
      clear hcp
      replace k0 := cell_later hb3 k0
      replace kf : w3.frozen? ⟨g, 0, none⟩ = false := (hb3.frozen (p := ⟨g, 0, none⟩) ks2).trans kf
      replace m0 := cell_later hb3 m0
      replace n0 := cell_later hb3 n0
      have ks3 : g < w3.heap.size := Nat.lt_of_lt_of_le ks2 hb3.size
      have hbw3 := hbw2.trans (hb3.mono hbw2.size)
      have hg2 : g + 1 ≤ w2.heap.size := ks2
      clear hb3 hbw2 ks2
      have hba := (Below.refl w3.heap.size w3).alloc (Nat.le_refl _) (.cells #[.slice ad3 bs.length cp3] 25)
      have hst0 : OvSt (g + 1) w3.heap.size (w3.alloc (.cells #[.slice ad3 bs.length cp3] 25)) ad3 cp3 bs (w3.alloc (.cells #[.slice ad3 bs.length cp3] 25)) := by
        refine ⟨by simp, by simp [go_sem], (hel3.below hba).mono hg2, ?_, ⟨rfl, rfl, rfl, Nat.le_refl _, fun _ _ _ => rfl⟩, by simp⟩
        rcases hel3 with h | ⟨gg, rfl, _, hg2, _⟩
        · exact .inl h
        · exact .inr (fun e => by simp [blk] at e; omega)
      replace k0 := cell_later hba k0
      replace kf : (w3.alloc (.cells #[.slice ad3 bs.length cp3] 25)).frozen? ⟨g, 0, none⟩ = false := (hba.frozen (p := ⟨g, 0, none⟩) ks3).trans kf
      replace m0 := cell_later hba m0
      replace n0 := cell_later hba n0
      have hbwA := hbw3.trans (hba.mono hbw3.size)
      have hobg : g < w3.heap.size := ks3
      have hobw : w.heap.size ≤ w3.heap.size := hbw3.size
      have hAz : w3.heap.size < (w3.alloc (.cells #[.slice ad3 bs.length cp3] 25)).heap.size := by simp
      clear hba hbw3 ks3 hel3
      go_wp2
      generalize w3.alloc (.cells #[.slice ad3 bs.length cp3] 25) = W0 at *
      generalize w3.heap.size = ob at *
      go_loopw [7] (fun i wr => ∃ (k : Nat) (ad : Option Addr) (cap : Nat) (us : List En), i = .int .i64 k ∧ k ≤ ts.length ∧ Keep (OverRel (ts.take k) bs us) ∧ us.length ≤ bs.length + k ∧ OvSt (g + 1) ob W0 ad cap us wr) (fun i _ => ts.length - (intOf i).toNat)
      case atStart => exact ⟨0, ad3, cp3, bs, rfl, Nat.zero_le _, ⟨OverRel.start (valid_asc HVV.out.2)⟩, by omega, hst0⟩
      case round =>
        clear hst0
        obtain ⟨k, ad, cap, us, rfl, hk, HR, hul, hst⟩ := hrel
        have K0 := hst.keep k0 (by omega) (by omega)
        have KF := hst.keepF kf (by omega) (by omega)
        have M0 := hst.keep m0 (by omega) (by omega)
        have N0 := hst.keep n0 (by omega) (by omega)
        have o1 := hst.cell
        have hbr := hst.below hbwA hobw
        have hEr := hts.below hbr
        have hEb := hbs.below hbr
        have hWr := hst.grown.size
        by_cases hlt : k < ts.length
        · have hlt' : (k : Int) < ts.length := by omega
          obtain ⟨b1, off1, rfl, hc⟩ := hEr.at hlt
          obtain ⟨x0, x1, x2⟩ := hc k hlt
          clear hc hEr
          obtain ⟨xp, hxp⟩ : ∃ xp, xp = ts[k].path := ⟨_, rfl⟩
          rw [← hxp] at x0
          have HXP : Keep (xp = ts[k].path) := ⟨hxp⟩
          clear hxp
          go_wp2
          rename World => wo
          go_loopw [9, 10] (fun s9 s10 wi => ∃ j : Nat, j ≤ bs.length ∧ s9 = .bool (freeB (bs.take j) xp) ∧ s10 = .int .i64 (j : Int) ∧ Below wo.heap.size wo wi) (fun _ s10 _ => bs.length - (intOf s10).toNat)
          case atStart => exact ⟨0, Nat.zero_le _, rfl, rfl, Below.refl _ _⟩
          case round =>
            obtain ⟨j, hj, rfl, rfl, hB⟩ := hrel
            by_cases hjl : j < bs.length
            · have hjl' : (j : Int) < bs.length := by omega
              obtain ⟨b2, off2, rfl, dc⟩ := hEb.at hjl
              obtain ⟨yp, hyp⟩ : ∃ yp, yp = bs[j].path := ⟨_, rfl⟩
              have y0 := cell_later hB (dc j hjl).1
              rw [← hyp] at y0
              have yn := cell_later hB N0
              have HFT : Keep (freeB (bs.take (j + 1)) xp = (freeB (bs.take j) xp && !meetB xp yp)) := ⟨by rw [hyp]; exact freeB_take hjl⟩
              clear dc hyp
              generalize freeB (bs.take j) xp = fb at *
              cases hq : (xp.toList == yp.toList) with
              | true =>
                have HF : Keep (freeB (bs.take (j + 1)) xp = false) := ⟨by rw [HFT.out]; simp [meetB, hq]⟩
                go_wp2
                go_roundw
                case rel => exact ⟨j + 1, hjl, by rw [HF.out], by congr 1, hB⟩
                case measure => simp only [intOf]; omega
              | false =>
                cases h1 : beginsB xp yp with
                | true =>
                  have HF : Keep (freeB (bs.take (j + 1)) xp = false) := ⟨by rw [HFT.out]; simp [meetB, h1]⟩
                  have hc1 := begins_lit (d := xp) (p := yp) true (by rw [← beginsB_iff, h1]) wr
                  go_wp2_with fail
                  refine hc1.mono ?_
                  rintro e w5 ⟨rfl, hb5⟩
                  have hB5 := hB.trans (hb5.mono hB.size)
                  clear hc1
                  go_wp2
                  go_roundw
                  case rel => exact ⟨j + 1, hjl, by rw [HF.out], by congr 1, hB5⟩
                  case measure => simp only [intOf]; omega
                | false =>
                  have hc1 := begins_lit (d := xp) (p := yp) false (by rw [← beginsB_iff, h1]) wr
                  go_wp2_with fail
                  refine hc1.mono ?_
                  rintro e w5 ⟨rfl, hb5⟩
                  have hB5 := hB.trans (hb5.mono hB.size)
                  clear hc1
                  cases h2 : beginsB yp xp with
                  | true =>
                    have HF : Keep (freeB (bs.take (j + 1)) xp = false) := ⟨by rw [HFT.out]; simp [meetB, h2]⟩
                    have hc2 := begins_lit (d := yp) (p := xp) true (by rw [← beginsB_iff, h2]) w5
                    go_wp2_with fail
                    refine hc2.mono ?_
                    rintro e w6 ⟨rfl, hb6⟩
                    have hB6 := hB5.trans (hb6.mono hB5.size)
                    clear hc2
                    go_wp2
                    go_roundw
                    case rel => exact ⟨j + 1, hjl, by rw [HF.out], by congr 1, hB6⟩
                    case measure => simp only [intOf]; omega
                  | false =>
                    have HF : Keep (freeB (bs.take (j + 1)) xp = fb) := ⟨by rw [HFT.out]; simp [meetB, h1, h2, hq]⟩
                    have hc2 := begins_lit (d := yp) (p := xp) false (by rw [← beginsB_iff, h2]) w5
                    go_wp2_with fail
                    refine hc2.mono ?_
                    rintro e w6 ⟨rfl, hb6⟩
                    have hB6 := hB5.trans (hb6.mono hB5.size)
                    clear hc2
                    go_wp2
                    go_roundw
                    case rel => exact ⟨j + 1, hjl, by rw [HF.out], by congr 1, hB6⟩
                    case measure => simp only [intOf]; omega
            · obtain rfl : j = bs.length := by omega
              rw [List.take_length]
              replace hst := hst.later hB
              have yn := cell_later hB N0
              have yM := cell_later hB M0
              cases hf : freeB bs xp with
              | false =>
                have HR2 : Keep (OverRel (ts.take (k + 1)) bs us) := ⟨HR.out.skip hlt (by rw [← HXP.out]; exact hf)⟩
                clear hf
                go_wp2
                go_roundw
                case rel => exact ⟨k + 1, ad, cap, us, by congr 1, hlt, HR2, by omega, hst⟩
                case measure => simp only [intOf]; omega
              | true =>
                have HF : Keep (freeB bs ts[k].path = true) := ⟨by rw [← HXP.out]; exact hf⟩
                clear hf
                have X0 := cell_later hB x0
                have X1 := cell_later hB x1
                have X2 := cell_later hB x2
                rw [HXP.out] at X0
                replace hst := hst.later (show Below wr.heap.size wr wr.drew from (Below.refl _ _).drew)
                have o2 := hst.cell
                have f2 := hst.fz
                have hset := l5Set_any ad cap us ts[k] wr.drew hst.lst.es (by omega) HR.out.asc
                have hobr : ob < wr.drew.heap.size := Nat.lt_of_lt_of_le hst.lt hst.grown.size
                have hwr : g + 1 ≤ wr.drew.heap.size := by omega
                clear o1 x0 x1 x2
                go_wp2_with fail
                go_region_law (refine step_fn2 (by rfl) 25 _ _ _ _ (by rfl) (.agg #[.slice ad us.length cap]) (.agg #[.string ts[k].path, .string ts[k].text, .bool ts[k].runs]) (by rfl) (by rfl) (fun _ => by kernel_rfl) hset ?_; rintro e w4 ⟨ad4, cap4, us4, rfl, hrel4, hel4, hb4, hlen4⟩; refine ⟨_, rfl, ?_⟩; have o4 := cell_later hb4 o2; have f4 : w4.frozen? ⟨ob, 0, none⟩ = false := (hb4.frozen (p := ⟨ob, 0, none⟩) hobr).trans f2)
                all_goals
                  have hst4 := (hst.later hb4).put (cap' := cap4) hel4 hobr hwr
                  have HR4 : Keep (OverRel (ts.take (k + 1)) bs us4) := ⟨HR.out.set (valid_asc HVV.out.1) hlt HF.out hrel4⟩
                  clear hset hst o4 f4 o2 f2 hb4 hel4 hrel4 X0 X1 X2 yn yM
                  go_wp2
                  go_roundw
                  case rel => exact ⟨k + 1, ad4, cap4, us4, by congr 1, hlt, HR4, by omega, hst4⟩
                  case measure => simp only [intOf]; omega
        · obtain rfl : k = ts.length := by omega
          rw [List.take_length] at HR
          have hzr : g < wr.heap.size := by omega
          by_cases h100 : (100 : Int) < us.length
          · go_wp2
            refine bodyPost_ret (v := TreeV none ([] : List En).length 0 4) ?_ rfl ⟨[], 4, .inr ⟨HVV.out.1, HVV.out.2, us, HR.out, .inl ⟨by omega, rfl, rfl⟩⟩, ⟨none, 0, rfl, EL.nil _ _ _⟩, hbr.setCell (p := ⟨g, 0, none⟩) hgw _⟩
            go_light
            simp [results, Try.results12, go_sem, TreeV, K0]
          · have hel6 : EL w.heap.size (wr.setCell ⟨g, 0, none⟩ (.slice ad us.length cap)) ad us := (hst.lst.grown (row := some g) (grown_set0 wr g 0 (.slice ad us.length cap)) (fun j _ hj _ e => by cases e; omega)).mono (by omega)
            go_wp2
            refine bodyPost_ret (v := TreeV ad us.length cap 0) ?_ rfl ⟨us, 0, .inr ⟨HVV.out.1, HVV.out.2, us, HR.out, .inr ⟨by omega, rfl, rfl⟩⟩, ⟨ad, cap, rfl, hel6⟩, hbr.setCell (p := ⟨g, 0, none⟩) hgw _⟩
            go_light
            simp [results, Try.results12, go_sem, TreeV, K0]
end Go.Proofs.Ytiadabmbfpfbjaa

namespace Go.Proofs.Ytiadabmbfpfbjaa
open Go.RowKit

theorem notUnder_take {ts : List En} {dir : ByteArray} {k : Nat} (h : k < ts.length) : (ts.take (k + 1)).filter (fun e => !beginsB dir e.path) = (ts.take k).filter (fun e => !beginsB dir e.path) ++ if beginsB dir ts[k].path then [] else [ts[k]] := by
  rw [List.take_succ_eq_append_getElem h, List.filter_append]
  cases hb : beginsB dir ts[k].path <;> simp [hb]

set_option maxRecDepth 100000 in
set_option maxHeartbeats 8000000 in
theorem specMnt_any (a b : Option Addr) (ca cb : Nat) (ts bs : List En) (dir : ByteArray) (w : World) (hts : ES w a ts) (hbs : ES w b bs) (hn : ts.length ≤ 1048576) (hnb : bs.length ≤ 1048576) (hzb : ∀ e ∈ bs, e.path.size ≤ 1048576 ∧ e.text.size ≤ 1048576) (hdz : dir.size ≤ 1048576) :
    Calls Try.prog 6 #[.agg #[.slice a ts.length ca], .string dir, .agg #[.slice b bs.length cb]] w fun e w' => MntPost ts dir bs w e w' := by
  obtain ⟨i0, hi, hz0, hz1, hzi⟩ := info_parts Try.infoEntry
  have hal : Below w.heap.size w (((w.alloc (.cells #[.slice a ts.length ca] 25)).alloc (.cells #[.slice b bs.length cb] 25)).alloc (.cells #[.slice none 0 0] 25)) := (((Below.refl _ _).alloc (Nat.le_refl _) _).alloc (by simp) _).alloc (by simp; omega) _
  have m0 : (((w.alloc (.cells #[.slice a ts.length ca] 25)).alloc (.cells #[.slice b bs.length cb] 25)).alloc (.cells #[.slice none 0 0] 25)).cell? ⟨w.heap.size, 0, none⟩ = some (.slice a ts.length ca) := by simp [go_sem]
  have n0 : (((w.alloc (.cells #[.slice a ts.length ca] 25)).alloc (.cells #[.slice b bs.length cb] 25)).alloc (.cells #[.slice none 0 0] 25)).cell? ⟨w.heap.size + 1, 0, none⟩ = some (.slice b bs.length cb) := by simp [go_sem]
  have k0 : (((w.alloc (.cells #[.slice a ts.length ca] 25)).alloc (.cells #[.slice b bs.length cb] 25)).alloc (.cells #[.slice none 0 0] 25)).cell? ⟨w.heap.size + 1 + 1, 0, none⟩ = some (.slice none 0 0) := by simp [go_sem]
  have kf : (((w.alloc (.cells #[.slice a ts.length ca] 25)).alloc (.cells #[.slice b bs.length cb] 25)).alloc (.cells #[.slice none 0 0] 25)).frozen? ⟨w.heap.size + 1 + 1, 0, none⟩ = false := by simp [go_sem]
  have ks : w.heap.size + 1 + 1 < (((w.alloc (.cells #[.slice a ts.length ca] 25)).alloc (.cells #[.slice b bs.length cb] 25)).alloc (.cells #[.slice none 0 0] 25)).heap.size := by simp [go_sem]
  go_enter Try.func6, Try.ntmps6
  go_wp2_with fail
  refine (specTree_any a ca ts _ (hts.below hal) hn).mono ?_
  rintro e w1 ⟨vb, rfl, hvb, hb1⟩
  generalize ((w.alloc (.cells #[.slice a ts.length ca] 25)).alloc (.cells #[.slice b bs.length cb] 25)).alloc (.cells #[.slice none 0 0] 25) = w0 at *
  obtain ⟨g, hg⟩ : ∃ g, g = w.heap.size + 1 + 1 := ⟨_, rfl⟩
  obtain ⟨tb, htb⟩ : ∃ tb, tb = w.heap.size + 1 := ⟨_, rfl⟩
  obtain ⟨ta, hta⟩ : ∃ ta, ta = w.heap.size := ⟨_, rfl⟩
  rw [← hg] at k0 kf ks ⊢
  rw [← htb] at n0 ⊢
  rw [← hta] at m0 ⊢
  have hgw : w.heap.size ≤ g := by omega
  have hag : ta < g := by omega
  have hbg : tb < g := by omega
  clear hg hta htb
  replace k0 := cell_later hb1 k0
  replace kf : w1.frozen? ⟨g, 0, none⟩ = false := (hb1.frozen (p := ⟨g, 0, none⟩) ks).trans kf
  replace m0 := cell_later hb1 m0
  replace n0 := cell_later hb1 n0
  have ks1 : g < w1.heap.size := Nat.lt_of_lt_of_le ks hb1.size
  have hbw := hal.trans (hb1.mono hal.size)
  have HV : Keep (vb = true ↔ ValidTs ts) := ⟨hvb⟩
  clear hvb hb1 hal ks
  cases vb with
  | false =>
    have hnv : ¬ ValidTs ts := fun h => by have := HV.out.2 h; cases this
    go_wp2
    refine bodyPost_ret (v := TreeV none ([] : List En).length 0 1) ?_ rfl ⟨[], 1, .inl ⟨fun h => hnv h.1, rfl, rfl⟩, ⟨none, 0, rfl, EL.nil _ _ _⟩, hbw.setCell (p := ⟨g, 0, none⟩) hgw _⟩
    go_light
    simp [results, Try.results6, go_sem, TreeV, k0]
  | true =>
    have hvT := HV.out.1 rfl
    clear HV
    have hvt2 := specTree_any b cb bs w1 (hbs.below hbw) hnb
    go_wp2_with fail
    refine hvt2.mono ?_
    rintro e w2 ⟨vb2, rfl, hvb2, hb2⟩
    clear hvt2
    replace k0 := cell_later hb2 k0
    replace kf : w2.frozen? ⟨g, 0, none⟩ = false := (hb2.frozen (p := ⟨g, 0, none⟩) ks1).trans kf
    replace m0 := cell_later hb2 m0
    replace n0 := cell_later hb2 n0
    have ks2 : g < w2.heap.size := Nat.lt_of_lt_of_le ks1 hb2.size
    have hbw2 := hbw.trans (hb2.mono hbw.size)
    have HV2 : Keep (vb2 = true ↔ ValidTs bs) := ⟨hvb2⟩
    clear hvb2 hb2 hbw ks1
    cases vb2 with
    | false =>
      have hnv : ¬ ValidTs bs := fun h => by have := HV2.out.2 h; cases this
      go_wp2
      refine bodyPost_ret (v := TreeV none ([] : List En).length 0 1) ?_ rfl ⟨[], 1, .inl ⟨fun h => hnv h.2.1, rfl, rfl⟩, ⟨none, 0, rfl, EL.nil _ _ _⟩, hbw2.setCell (p := ⟨g, 0, none⟩) hgw _⟩
      go_light
      simp [results, Try.results6, go_sem, TreeV, k0]
    | true =>
      have hvB := HV2.out.1 rfl
      clear HV2
      have hvp := specPath_any dir w2
      go_wp2_with fail
      refine hvp.mono ?_
      rintro e w3 ⟨rfl, hb3⟩
      clear hvp
      replace k0 := cell_later hb3 k0
      replace kf : w3.frozen? ⟨g, 0, none⟩ = false := (hb3.frozen (p := ⟨g, 0, none⟩) ks2).trans kf
      replace m0 := cell_later hb3 m0
      replace n0 := cell_later hb3 n0
      have ks3 : g < w3.heap.size := Nat.lt_of_lt_of_le ks2 hb3.size
      have hbw3 := hbw2.trans (hb3.mono hbw2.size)
      clear hb3 hbw2 ks2
      cases hpk : pathOk pathB dir with
      | false =>
        go_wp2
        refine bodyPost_ret (v := TreeV none ([] : List En).length 0 1) ?_ rfl ⟨[], 1, .inl ⟨fun h => (by rw [hpk] at h; cases h.2.2), rfl, rfl⟩, ⟨none, 0, rfl, EL.nil _ _ _⟩, hbw3.setCell (p := ⟨g, 0, none⟩) hgw _⟩
        go_light
        simp [results, Try.results6, go_sem, TreeV, k0]
      | true =>
        have HVV : Keep (ValidTs ts ∧ ValidTs bs ∧ pathOk pathB dir = true) := ⟨⟨hvT, hvB, hpk⟩⟩
        have n1 : ts.length ≤ 100 := hvT.1
        have n2 : bs.length ≤ 100 := HVV.out.2.1.1
        clear hvT hvB hpk
        go_wp2
        go_loopw [8] (fun i wr => ∃ k : Nat, i = .int .i64 k ∧ k ≤ bs.length ∧ Keep (∀ e ∈ bs.take k, pathOk pathB (putE dir e).path = true) ∧ Below w3.heap.size w3 wr) (fun i _ => bs.length - (intOf i).toNat)
        case atStart => exact ⟨0, rfl, Nat.zero_le _, ⟨fun e he => by simp at he⟩, Below.refl _ _⟩
        case round =>
          obtain ⟨k, rfl, hk, HA, hB⟩ := hrel
          have K0 := cell_later hB k0
          have KF : wr.frozen? ⟨g, 0, none⟩ = false := (hB.frozen (p := ⟨g, 0, none⟩) ks3).trans kf
          have M0 := cell_later hB m0
          have N0 := cell_later hB n0
          have hzr : g < wr.heap.size := Nat.lt_of_lt_of_le ks3 hB.size
          have hbwr := hbw3.trans (hB.mono hbw3.size)
          by_cases hlt : k < bs.length
          · have hlt' : (k : Int) < bs.length := by omega
            obtain ⟨bb, off, rfl, hc⟩ := (hbs.below hbwr).at hlt
            obtain ⟨x0, _, _⟩ := hc k hlt
            have hep := (hzb bs[k] (List.getElem_mem hlt)).1
            have hvp := specPath_any (putE dir bs[k]).path wr
            clear hc
            cases hpe : pathOk pathB (putE dir bs[k]).path with
            | false =>
              rw [show (putE dir bs[k]).path = dir ++ ⟨#[47]⟩ ++ bs[k].path from rfl] at hvp hpe
              go_wp2_with fail
              refine hvp.mono ?_
              rintro e w5 ⟨rfl, hb5⟩
              replace K0 := cell_later hb5 K0
              replace KF : w5.frozen? ⟨g, 0, none⟩ = false := (hb5.frozen (p := ⟨g, 0, none⟩) hzr).trans KF
              have hbw5 := hbwr.trans (hb5.mono hbwr.size)
              clear hvp
              rw [hpe]
              go_wp2
              refine bodyPost_ret (v := TreeV none ([] : List En).length 0 2) ?_ rfl ⟨[], 2, .inr (.inl ⟨HVV.out, ⟨bs[k], List.getElem_mem hlt, hpe⟩, rfl, rfl⟩), ⟨none, 0, rfl, EL.nil _ _ _⟩, hbw5.setCell (p := ⟨g, 0, none⟩) hgw _⟩
              go_light
              simp [results, Try.results6, go_sem, TreeV, K0]
            | true =>
              have HA2 : Keep (∀ e ∈ bs.take (k + 1), pathOk pathB (putE dir e).path = true) := ⟨fun e he => by
                rcases (mem_take_succ hlt e).1 he with h | rfl
                · exact HA.out e h
                · exact hpe⟩
              rw [show (putE dir bs[k]).path = dir ++ ⟨#[47]⟩ ++ bs[k].path from rfl] at hvp hpe
              go_wp2_with fail
              refine hvp.mono ?_
              rintro e w5 ⟨rfl, hb5⟩
              have hB5 := hB.trans (hb5.mono hB.size)
              clear hvp
              rw [hpe]
              clear hpe
              go_wp2
              go_roundw
              case rel => exact ⟨k + 1, by congr 1, hlt, HA2, hB5⟩
              case measure => simp only [intOf]; omega
          · obtain rfl : k = bs.length := by omega
            rw [List.take_length] at HA
            have hba := (Below.refl wr.heap.size wr).alloc (Nat.le_refl _) (.cells #[.slice none 0 0] 25)
            have o0 : (wr.alloc (.cells #[.slice none 0 0] 25)).cell? ⟨wr.heap.size, 0, none⟩ = some (.slice none 0 0) := by simp
            have of0 : (wr.alloc (.cells #[.slice none 0 0] 25)).frozen? ⟨wr.heap.size, 0, none⟩ = false := by simp
            have hst0 := OutSt.start o0 of0 (by simp)
            have N0r := N0
            replace K0 := cell_later hba K0
            replace KF : (wr.alloc (.cells #[.slice none 0 0] 25)).frozen? ⟨g, 0, none⟩ = false := (hba.frozen (p := ⟨g, 0, none⟩) hzr).trans KF
            replace M0 := cell_later hba M0
            replace N0 := cell_later hba N0
            have hbwA := hbwr.trans (hba.mono hbwr.size)
            have hobw : w.heap.size ≤ wr.heap.size := hbwr.size
            have hAz : wr.heap.size < (wr.alloc (.cells #[.slice none 0 0] 25)).heap.size := by simp
            clear hba hB hbwr k0 kf m0 n0 o0 of0 ks3 hbw3
            go_wp2
            clear N0r
            generalize wr.alloc (.cells #[.slice none 0 0] 25) = W0 at *
            generalize wr.heap.size = ob at *
            go_loopw [10] (fun i wr => ∃ (k : Nat) (v : Value) (us : List En), i = .int .i64 k ∧ k ≤ ts.length ∧ Keep (us = (ts.take k).filter (fun e => !beginsB dir e.path)) ∧ us.length ≤ k ∧ Keep (∀ x ∈ ts.take k, ¬ (x.path = dir ∨ Begins x.path dir)) ∧ OutSt ob W0 v us wr) (fun i _ => ts.length - (intOf i).toNat)
            case atStart => exact ⟨0, _, [], rfl, Nat.zero_le _, ⟨by simp⟩, Nat.zero_le _, ⟨fun x hx => by simp at hx⟩, hst0⟩
            case round =>
              clear hst0
              obtain ⟨k, v, us, rfl, hk, HU, hul, HW, hst⟩ := hrel
              have K1 := hst.keep K0 (by omega) (by omega)
              have KF1 : wr.frozen? ⟨g, 0, none⟩ = false := frozen_blk (hst.grown.block g (by omega) (fun e => by cases e; omega)) KF
              have M1 := hst.keep M0 (by omega) (by omega)
              have hbr := hst.below hbwA hobw
              have hEr := hts.below hbr
              have hWr := hst.grown.size
              have hzr1 : g < wr.heap.size := by omega
              by_cases hlt : k < ts.length
              · have hlt' : (k : Int) < ts.length := by omega
                obtain ⟨b1, off1, rfl, hc⟩ := hEr.at hlt
                obtain ⟨x0, x1, x2⟩ := hc k hlt
                clear hc hEr
                obtain ⟨xp, hxp⟩ : ∃ xp, xp = ts[k].path := ⟨_, rfl⟩
                rw [← hxp] at x0
                have HXP : Keep (xp = ts[k].path) := ⟨hxp⟩
                clear hxp
                cases hq : (xp.toList == dir.toList) with
                | true =>
                  have hway : InWayD ts dir := ⟨ts[k], List.getElem_mem hlt, .inl (by
                    rw [← HXP.out]
                    rw [beq_iff_eq, Lib.toList_data, Lib.toList_data] at hq
                    exact WideShapes.bytes_inj hq)⟩
                  go_wp2
                  refine bodyPost_ret (v := TreeV none ([] : List En).length 0 3) ?_ rfl ⟨[], 3, .inr (.inr (.inl ⟨HVV.out, HA.out, hway, rfl, rfl⟩)), ⟨none, 0, rfl, EL.nil _ _ _⟩, hbr.setCell (p := ⟨g, 0, none⟩) hgw _⟩
                  go_light
                  simp [results, Try.results6, go_sem, TreeV, K1]
                | false =>
                  have hne : xp ≠ dir := fun e => by rw [e] at hq; simp at hq
                  cases h1 : beginsB xp dir with
                  | true =>
                    have hway : InWayD ts dir := ⟨ts[k], List.getElem_mem hlt, .inr (by rw [← HXP.out]; exact beginsB_iff.1 h1)⟩
                    have hc1 := begins_lit (d := xp) (p := dir) true (by rw [← beginsB_iff, h1]) wr
                    clear hne
                    go_wp2_with fail
                    refine hc1.mono ?_
                    rintro e w5 ⟨rfl, hb5⟩
                    replace K1 := cell_later hb5 K1
                    replace KF1 : w5.frozen? ⟨g, 0, none⟩ = false := (hb5.frozen (p := ⟨g, 0, none⟩) hzr1).trans KF1
                    have hbw5 := hbr.trans (hb5.mono hbr.size)
                    clear hc1
                    go_wp2
                    refine bodyPost_ret (v := TreeV none ([] : List En).length 0 3) ?_ rfl ⟨[], 3, .inr (.inr (.inl ⟨HVV.out, HA.out, hway, rfl, rfl⟩)), ⟨none, 0, rfl, EL.nil _ _ _⟩, hbw5.setCell (p := ⟨g, 0, none⟩) hgw _⟩
                    go_light
                    simp [results, Try.results6, go_sem, TreeV, K1]
                  | false =>
                    have HW2 : Keep (∀ x ∈ ts.take (k + 1), ¬ (x.path = dir ∨ Begins x.path dir)) := ⟨fun x hx => by
                      rcases (mem_take_succ hlt x).1 hx with h | rfl
                      · exact HW.out x h
                      · rintro (h | h)
                        · exact hne (by rw [HXP.out]; exact h)
                        · rw [← HXP.out] at h
                          rw [beginsB_iff.2 h] at h1
                          cases h1⟩
                    have hc1 := begins_lit (d := xp) (p := dir) false (by rw [← beginsB_iff, h1]) wr
                    clear hne
                    go_wp2_with fail
                    refine hc1.mono ?_
                    rintro e w5 ⟨rfl, hb5⟩
                    clear hc1
                    cases h2 : beginsB dir xp with
                    | true =>
                      have HU2 : Keep (us = (ts.take (k + 1)).filter (fun e => !beginsB dir e.path)) := ⟨by rw [notUnder_take hlt, ← HXP.out, h2, HU.out]; simp⟩
                      have hc2 := begins_lit (d := dir) (p := xp) true (by rw [← beginsB_iff, h2]) w5
                      go_wp2_with fail
                      refine hc2.mono ?_
                      rintro e w6 ⟨rfl, hb6⟩
                      have hst6 := (hst.later hb5).later hb6
                      clear hc2 hst
                      go_wp2
                      go_roundw
                      case rel => exact ⟨k + 1, v, us, by congr 1, hlt, HU2, by omega, HW2, hst6⟩
                      case measure => simp only [intOf]; omega
                    | false =>
                      have HU2 : Keep (us ++ [ts[k]] = (ts.take (k + 1)).filter (fun e => !beginsB dir e.path)) := ⟨by rw [notUnder_take hlt, ← HXP.out, h2, HU.out]; simp⟩
                      have hc2 := begins_lit (d := dir) (p := xp) false (by rw [← beginsB_iff, h2]) w5
                      go_wp2_with fail
                      refine hc2.mono ?_
                      rintro e w6 ⟨rfl, hb6⟩
                      replace hst := (hst.later hb5).later hb6
                      have hb56 := hb5.trans (hb6.mono hb5.size)
                      have X0 := cell_later hb56 x0
                      rw [HXP.out] at X0
                      have X1 := cell_later hb56 x1
                      have X2 := cell_later hb56 x2
                      have MM := cell_later hb56 M1
                      have o1 := hst.cell
                      clear hc2 hb5 hb6 hb56 x0 x1 x2 M1 K1 KF1 hbr
                      have hb1 : Below w6.heap.size w6 ((w6.alloc (.cells #[.string ts[k].path, .string ts[k].text, .bool ts[k].runs] 37)).drew) := ((Below.refl _ _).alloc (Nat.le_refl _) _).drew
                      have o1a : ∀ o, (w6.alloc o).cell? ⟨ob, 0, none⟩ = some v := fun o => cell_later ((Below.refl _ _).alloc (Nat.le_refl _) _) o1
                      go_wp2_with fail
                      go_region_law (refine step_append_lies _ rfl _ _ 23 rfl W0.heap.size 37 i0 _ 3 40 Try.underlying23 hi hz0 hz1 hzi rfl (by decide) v us.length (ecells us) rfl (by exact owns_below hst.row hb1) ⟨w6.heap.size, 0, none⟩ 1 1 (ecell ts[k]) rfl rfl (by exact news_3 _ _ _ _ (by simp)) (by exact one_3 _) (by omega) (by unfold maxLen; omega) (by omega) (by have := hst.grown.size; simp; omega) (w6.heap.size + 1) (by simp) ?_; intro g3 cap3 w7 hown3 hgrow3 hat3 hlt3; obtain ⟨hc3, hf3⟩ := hst.mid hb1 hgrow3)
                      all_goals
                        have hst3 := hst.append hb1 hgrow3 hown3
                        have HU3 : Keep (us ++ [ts[k]] = (ts.take (k + 1)).filter (fun e => !beginsB dir e.path)) := ⟨HU2.out⟩
                        have hl3 : (us ++ [ts[k]]).length ≤ k + 1 := by simp; omega
                        clear hst hb1 hgrow3 hown3 hat3 hlt3 hc3 hf3 o1 o1a MM X0 X1 X2
                        go_wp2
                        go_roundw
                        case rel => exact ⟨k + 1, _, _, by congr 1, hlt, HU3, hl3, HW2, hst3⟩
                        case measure => simp only [intOf]; omega
              · obtain rfl : k = ts.length := by omega
                rw [List.take_length] at HU HW
                have HNO : Keep (¬ InWayD ts dir) := ⟨fun ⟨x, hx, h⟩ => HW.out x hx h⟩
                obtain ⟨ad0, cap0, rfl⟩ := owns_slice hst.row
                have hel0 := el_of_row hst.row
                have hstV : OvSt (g + 1) ob W0 ad0 cap0 us wr := ⟨hst.cell, hst.fz, hel0.mono (by omega), by
                  rcases hel0 with h | ⟨gg, rfl, hg2, _⟩
                  · exact .inl h
                  · exact .inr (fun e => by simp [blk] at e; omega), hst.grown, hst.lt⟩
                have HR0 : Keep (MntRel ts dir (bs.take 0) us) := ⟨by rw [List.take_zero, HU.out]; exact MntRel.start (valid_asc HVV.out.1)⟩
                clear hst hel0 HU HW hEr K1 KF1 hbr
                go_wp2
                clear M1
                go_loopw [12] (fun i wr => ∃ (k : Nat) (ad : Option Addr) (cap : Nat) (us : List En), i = .int .i64 k ∧ k ≤ bs.length ∧ Keep (MntRel ts dir (bs.take k) us) ∧ us.length ≤ ts.length + k ∧ OvSt (g + 1) ob W0 ad cap us wr) (fun i _ => bs.length - (intOf i).toNat)
                case atStart => exact ⟨0, ad0, cap0, us, rfl, Nat.zero_le _, HR0, by omega, hstV⟩
                case round =>
                  clear hstV HR0
                  obtain ⟨k, ad, cap, us, rfl, hk, HR, hul, hst⟩ := hrel
                  have K1 := hst.keep K0 (by omega) (by omega)
                  have KF1 := hst.keepF KF (by omega) (by omega)
                  have N1 := hst.keep N0 (by omega) (by omega)
                  have o1 := hst.cell
                  have hbr := hst.below hbwA hobw
                  have hEb := hbs.below hbr
                  have hWr := hst.grown.size
                  by_cases hlt : k < bs.length
                  · have hlt' : (k : Int) < bs.length := by omega
                    obtain ⟨b1, off1, rfl, hc⟩ := hEb.at hlt
                    obtain ⟨x0, x1, x2⟩ := hc k hlt
                    have hep := (hzb bs[k] (List.getElem_mem hlt)).1
                    clear hc hEb
                    have hal4 : Below wr.heap.size wr (wr.alloc (.cells #[.string (dir ++ ⟨#[47]⟩ ++ bs[k].path), .string bs[k].text, .bool bs[k].runs] 37)) := (Below.refl _ _).alloc (Nat.le_refl _) _
                    have hst4 := hst.later hal4
                    have hset := l5Set_any ad cap us (putE dir bs[k]) _ hst4.lst.es (by omega) HR.out.asc
                    have hobr : ob < (wr.alloc (.cells #[.string (dir ++ ⟨#[47]⟩ ++ bs[k].path), .string bs[k].text, .bool bs[k].runs] 37)).heap.size := Nat.lt_of_lt_of_le hst4.lt hst4.grown.size
                    have o2 := hst4.cell
                    have f2 := hst4.fz
                    rw [show (putE dir bs[k]).path = dir ++ ⟨#[47]⟩ ++ bs[k].path from rfl, show (putE dir bs[k]).text = bs[k].text from rfl, show (putE dir bs[k]).runs = bs[k].runs from rfl] at hset
                    clear K1 KF1
                    go_wp2_with fail
                    refine hset.mono ?_
                    rintro e w5 ⟨ad5, cap5, us5, rfl, hrel5, hel5, hb5, hlen5⟩
                    have o5 := cell_later hb5 o2
                    have f5 : w5.frozen? ⟨ob, 0, none⟩ = false := (hb5.frozen (p := ⟨ob, 0, none⟩) hobr).trans f2
                    have hst5 := (hst4.later hb5).put (cap' := cap5) hel5 hobr (by omega)
                    have HR5 : Keep (MntRel ts dir (bs.take (k + 1)) us5) := ⟨HR.out.set (valid_asc HVV.out.2.1) hlt hrel5⟩
                    clear hset hst hst4 o2 f2 o1 hb5 hel5 hrel5 x0 x1 x2 N1
                    go_wp2
                    go_roundw
                    case rel => exact ⟨k + 1, ad5, cap5, us5, by congr 1, hlt, HR5, by omega, hst5⟩
                    case measure => simp only [intOf]; omega
                  · obtain rfl : k = bs.length := by omega
                    rw [List.take_length] at HR
                    have hzr2 : g < wr.heap.size := by omega
                    by_cases h100 : (100 : Int) < us.length
                    · go_wp2
                      refine bodyPost_ret (v := TreeV none ([] : List En).length 0 4) ?_ rfl ⟨[], 4, .inr (.inr (.inr ⟨HVV.out, HA.out, HNO.out, us, HR.out, .inl ⟨by omega, rfl, rfl⟩⟩)), ⟨none, 0, rfl, EL.nil _ _ _⟩, hbr.setCell (p := ⟨g, 0, none⟩) hgw _⟩
                      go_light
                      simp [results, Try.results6, go_sem, TreeV, K1]
                    · have hel6 : EL w.heap.size (wr.setCell ⟨g, 0, none⟩ (.slice ad us.length cap)) ad us := (hst.lst.grown (row := some g) (grown_set0 wr g 0 (.slice ad us.length cap)) (fun j _ hj _ e => by cases e; omega)).mono (by omega)
                      go_wp2
                      refine bodyPost_ret (v := TreeV ad us.length cap 0) ?_ rfl ⟨us, 0, .inr (.inr (.inr ⟨HVV.out, HA.out, HNO.out, us, HR.out, .inr ⟨by omega, rfl, rfl⟩⟩)), ⟨ad, cap, rfl, hel6⟩, hbr.setCell (p := ⟨g, 0, none⟩) hgw _⟩
                      go_light
                      simp [results, Try.results6, go_sem, TreeV, K1]
end Go.Proofs.Ytiadabmbfpfbjaa
