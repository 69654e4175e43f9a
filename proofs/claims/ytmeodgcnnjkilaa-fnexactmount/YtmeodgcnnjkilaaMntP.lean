/-
  Mount: what it gives, plain; a tree put in the place of a directory.
-/
import Derived.Test.YtmeodgcnnjkilaaPutP
import Derived.Test.YtmeodgcnnjkilaaOverP
namespace Go.Proofs.Ytmeodgcnnjkilaa
open Go.RowKit

/-- One tree in the place of what lies below a node of another one. -/
def graft {α : Type} (p : Way) (f g : Way → α) : Way → α := fun q => if p <+: q ∧ q ≠ p then g (q.drop p.length) else f q
def graftM {α : Type} (p : Way) (f g : Way → α) : Way → α := fun q => if p <+: q then g (q.drop p.length) else f q
theorem graft_in {α : Type} (p : Way) (f g : Way → α) {r : Way} (h : r ≠ []) : graft p f g (p ++ r) = g r := by
  unfold graft
  rw [if_pos ⟨List.prefix_append p r, fun e => h (by simpa using e)⟩, List.drop_left]
theorem graft_at {α : Type} (p : Way) (f g : Way → α) : graft p f g p = f p := by
  unfold graft
  rw [if_neg (fun h => h.2 rfl)]
theorem graft_out {α : Type} {p q : Way} (f g : Way → α) (h : ¬ p <+: q) : graft p f g q = f q := by
  unfold graft
  rw [if_neg (fun e => h e.1)]
theorem graftM_in {α : Type} (p : Way) (f g : Way → α) (r : Way) : graftM p f g (p ++ r) = g r := by
  unfold graftM
  rw [if_pos (List.prefix_append p r), List.drop_left]
theorem graftM_out {α : Type} {p q : Way} (f g : Way → α) (h : ¬ p <+: q) : graftM p f g q = f q := by
  unfold graftM
  rw [if_neg h]
/-- Where a way lies. -/
theorem way_cases (p q : Way) : (∃ r, r ≠ [] ∧ q = p ++ r) ∨ q = p ∨ ¬ p <+: q := by
  by_cases h : p <+: q
  · obtain ⟨r, rfl⟩ := h
    by_cases hr : r = []
    · subst hr; exact .inr (.inl (by simp))
    · exact .inl ⟨r, hr, rfl⟩
  · exact .inr (.inr h)
theorem out_snoc {p q : Way} {x : ByteArray} (h : ¬ p <+: q) : ¬ (p <+: q ++ [x] ∧ q ++ [x] ≠ p) := by
  rintro ⟨h1, h2⟩
  rcases List.prefix_concat_iff.1 h1 with h3 | h3
  · exact h2 h3.symm
  · exact h h3
theorem graft_snoc {α : Type} {p q : Way} (f g : Way → α) (x : ByteArray) (h : ¬ p <+: q) : graft p f g (q ++ [x]) = f (q ++ [x]) := by
  unfold graft
  rw [if_neg (out_snoc h)]

theorem kids_set {W : World} {b : Nat} {u : Value} {mb N : Nat} {kid : ByteArray → Option Nat} (h : Kids W mb N kid) (hne : mb ≠ b) : Kids (W.setCell ⟨b, 3, none⟩ u) mb N kid :=
  h.block (Below.heap_setCell _ _ _ _ hne)

theorem TreeM.graft {lo lo2 N1 N2 b : Nat} {W : World} {β1 β2 : Way → Option Nat} {μ1 μ2 : Way → Nat} {φ1 φ2 : Way → Option (ByteArray × Bool)} {p : Way} (h1 : TreeM lo N1 W β1 μ1 φ1) (h2 : TreeM lo2 N2 W β2 μ2 φ2) (hp : β1 p = some b) (hφ : φ1 p = none)
    (hdis : ∀ k, TreeB β1 μ1 k → ¬ TreeB β2 μ2 k) (hlo : lo ≤ lo2) (N : Nat) (hN1 : N1 ≤ N) (hN2 : N2 ≤ N) :
    TreeM lo N (W.setCell ⟨b, 3, none⟩ (.map (some (μ2 [])))) (graft p β1 β2) (graftM p μ1 μ2) (graft p φ1 φ2) := by
  have hb1 : TreeB β1 μ1 b := .inl ⟨p, hp⟩
  have ho : ∀ k, TreeB β2 μ2 k → k ≠ b := fun k hk e => hdis b hb1 (e ▸ hk)
  obtain ⟨n1, n2, n3, n4⟩ := h1.node p b hp
  rw [hφ] at n1
  have hr2 := h2.root
  refine ⟨fun q bq hq => ?_, fun q q' bq hq hq' => ?_, fun q q' hq hq' hm => ?_, fun q x hq => ?_, ?_⟩
  · rcases way_cases p q with ⟨r, hr, rfl⟩ | rfl | hq0
    · rw [graft_in p _ _ hr] at hq
      obtain ⟨m1, m2, m3, m4⟩ := h2.node r bq hq
      have hbq : bq ≠ b := ho bq (.inl ⟨r, hq⟩)
      have hmq : μ2 r ≠ b := ho _ (.inr ⟨r, by rw [hq]; simp, rfl⟩)
      rw [graft_in p _ _ hr, graftM_in]
      refine ⟨(Below.heap_setCell _ _ _ _ hbq).trans m1, Nat.le_trans hlo m2, Nat.le_trans hlo m3, ?_⟩
      have hk : (fun x => Go.Proofs.Ytmeodgcnnjkilaa.graft p β1 β2 (p ++ r ++ [x])) = fun x => β2 (r ++ [x]) := by
        funext x
        rw [List.append_assoc, graft_in p _ _ (by simp)]
      rw [hk]
      exact (kids_set m4 hmq).mono hN2
    · rw [graft_at] at hq
      rw [hp] at hq
      cases hq
      rw [graft_at, hφ]
      cases h0 : β2 [] with
      | none => exact absurd h0 hr2
      | some r2 =>
        obtain ⟨m1, m2, m3, m4⟩ := h2.node [] r2 h0
        have hmq : μ2 [] ≠ b := ho _ (.inr ⟨[], hr2, rfl⟩)
        have hgm : graftM q μ1 μ2 q = μ2 [] := by
          have := graftM_in q μ1 μ2 []
          rwa [List.append_nil] at this
        rw [hgm]
        refine ⟨?_, n2, Nat.le_trans hlo m3, ?_⟩
        · unfold World.setCell
          simp [Array.getElem?_modify, n1, nodeObj]
        · have hk : (fun x => Go.Proofs.Ytmeodgcnnjkilaa.graft q β1 β2 (q ++ [x])) = fun x => β2 ([] ++ [x]) := by
            funext x
            rw [graft_in q _ _ (by simp)]
            rfl
          rw [hk]
          exact (kids_set m4 hmq).mono hN2
    · rw [graft_out _ _ hq0] at hq
      obtain ⟨m1, m2, m3, m4⟩ := h1.node q bq hq
      have hbq : bq ≠ b := fun e => hq0 (by
        have := h1.inj q p b (e ▸ hq) hp
        rw [this]; exact List.prefix_refl _)
      have hmq : μ1 q ≠ b := fun e => by
        obtain ⟨es, cl, h5⟩ := m4.obj
        rw [e, n1] at h5
        unfold nodeObj at h5
        cases h5
      rw [graft_out _ _ hq0, graftM_out _ _ hq0]
      refine ⟨(Below.heap_setCell _ _ _ _ hbq).trans m1, m2, m3, ?_⟩
      have hk : (fun x => Go.Proofs.Ytmeodgcnnjkilaa.graft p β1 β2 (q ++ [x])) = fun x => β1 (q ++ [x]) := by
        funext x
        exact graft_snoc _ _ x hq0
      rw [hk]
      exact (kids_set m4 hmq).mono hN1
  · have hdd : ∀ s t : Way, β1 s = some bq → β2 t = some bq → False := fun s t h h' => hdis bq (.inl ⟨s, h⟩) (.inl ⟨t, h'⟩)
    have hof : ∀ s : Way, s = p ∨ ¬ p <+: s → Go.Proofs.Ytmeodgcnnjkilaa.graft p β1 β2 s = β1 s := fun s hs => by
      rcases hs with rfl | hs
      · exact graft_at _ _ _
      · exact graft_out _ _ hs
    rcases way_cases p q with ⟨r, hr, rfl⟩ | hq0
    · rw [graft_in p _ _ hr] at hq
      rcases way_cases p q' with ⟨r', hr', rfl⟩ | hq0'
      · rw [graft_in p _ _ hr'] at hq'
        rw [h2.inj r r' bq hq hq']
      · rw [hof q' hq0'] at hq'
        exact (hdd q' r hq' hq).elim
    · rw [hof q hq0] at hq
      rcases way_cases p q' with ⟨r', hr', rfl⟩ | hq0'
      · rw [graft_in p _ _ hr'] at hq'
        exact (hdd q r' hq hq').elim
      · rw [hof q' hq0'] at hq'
        exact h1.inj q q' bq hq hq'
  · -- the maps
    have key : ∀ s : Way, Go.Proofs.Ytmeodgcnnjkilaa.graft p β1 β2 s ≠ none → (∃ r, s = p ++ r ∧ β2 r ≠ none) ∨ (¬ p <+: s ∧ β1 s ≠ none) := fun s hs => by
      rcases way_cases p s with ⟨r, hr, rfl⟩ | rfl | h0
      · rw [graft_in p _ _ hr] at hs
        exact .inl ⟨r, rfl, hs⟩
      · exact .inl ⟨[], by simp, hr2⟩
      · rw [graft_out _ _ h0] at hs
        exact .inr ⟨h0, hs⟩
    rcases key q hq with ⟨r, rfl, hr⟩ | ⟨h0, hr⟩
    · rw [graftM_in] at hm
      rcases key q' hq' with ⟨r', rfl, hr'⟩ | ⟨h0', hr'⟩
      · rw [graftM_in] at hm
        rw [h2.minj r r' hr hr' hm]
      · rw [graftM_out _ _ h0'] at hm
        exact (hdis (μ1 q') (.inr ⟨q', hr', rfl⟩) (.inr ⟨r, hr, hm⟩)).elim
    · rw [graftM_out _ _ h0] at hm
      rcases key q' hq' with ⟨r', rfl, hr'⟩ | ⟨h0', hr'⟩
      · rw [graftM_in] at hm
        exact (hdis (μ1 q) (.inr ⟨q, hr, rfl⟩) (.inr ⟨r', hr', hm.symm⟩)).elim
      · rw [graftM_out _ _ h0'] at hm
        exact h1.minj q q' hr hr' hm
  · rcases way_cases p q with ⟨r, hr, rfl⟩ | rfl | h0
    · rw [List.append_assoc, graft_in p _ _ (by simp)] at hq
      rw [graft_in p _ _ hr]
      exact h2.up r x hq
    · rw [graft_at, hp]; simp
    · rw [graft_snoc _ _ x h0] at hq
      rw [graft_out _ _ h0]
      exact h1.up q x hq
  · by_cases hp0 : p = []
    · subst hp0
      have := graft_at ([] : Way) β1 β2
      rw [this]; exact h1.root
    · rw [graft_out _ _ (fun h => hp0 (List.prefix_nil.1 h))]
      exact h1.root

/-- A tree grafted is fit to be told. -/
theorem GoodT.graft {K1 K2 : Nat} {β0 β1 β2 : Way → Option Nat} {φ1 φ2 : Way → Option (ByteArray × Bool)} {p : Way} (h1 : GoodT K1 β0 φ1) (h2 : GoodT K2 β2 φ2) (hgr : ∀ q, β1 q ≠ none ↔ β0 q ≠ none ∨ q <+: p) (hfree : ∀ q, q <+: p → φ1 q = none)
    (hparts : p.length ≤ 6 ∧ ∀ x ∈ p, x.size ≤ 20 ∧ (47 : UInt8) ∉ x.data.toList) (hdeep : ∀ r, β2 r ≠ none → (p ++ r).length ≤ 6) : GoodT (K1 + K2) (graft p β1 β2) (graft p φ1 φ2) := by
  have name1 : ∀ q x, β1 (q ++ [x]) ≠ none → x.size ≤ 20 ∧ (47 : UInt8) ∉ x.data.toList := fun q x hq => by
    rcases (hgr _).1 hq with h | h
    · exact h1.name q x h
    · exact hparts.2 x (h.subset (by simp))
  have deep1 : ∀ q, β1 q ≠ none → q.length ≤ 6 := fun q hq => by
    rcases (hgr _).1 hq with h | h
    · exact h1.deep q h
    · exact Nat.le_trans h.length_le hparts.1
  have up1 : ∀ q x, β1 (q ++ [x]) ≠ none → β1 q ≠ none := fun q x hq => by
    rcases (hgr _).1 hq with h | h
    · exact (hgr _).2 (.inl (h1.up q x h))
    · exact (hgr _).2 (.inr ((List.prefix_append q _).trans h))
  obtain ⟨F1, hF1, hm1⟩ := h1.few
  obtain ⟨F2, hF2, hm2⟩ := h2.few
  refine ⟨fun q x hq => ?_, fun q hq => ?_, fun q x hq => ?_, fun q x hq => ?_, fun q hq => ?_, fun q t r hq => ?_, F1 ++ F2.map (p ++ ·), by simp; omega, fun q hq => ?_⟩
  · rcases way_cases p q with ⟨r, hr, rfl⟩ | rfl | h0
    · rw [List.append_assoc, graft_in p _ _ (by simp)] at hq
      exact h2.name r x hq
    · rw [graft_in q _ _ (by simp)] at hq
      exact h2.name [] x hq
    · rw [graft_snoc _ _ x h0] at hq
      exact name1 q x hq
  · rcases way_cases p q with ⟨r, hr, rfl⟩ | rfl | h0
    · rw [graft_in p _ _ hr] at hq
      exact hdeep r hq
    · exact hparts.1
    · rw [graft_out _ _ h0] at hq
      exact deep1 q hq
  · rcases way_cases p q with ⟨r, hr, rfl⟩ | rfl | h0
    · rw [List.append_assoc, graft_in p _ _ (by simp)] at hq
      rw [graft_in p _ _ hr]
      exact h2.up r x hq
    · rw [graft_at]
      exact (hgr _).2 (.inr (List.prefix_refl _))
    · rw [graft_snoc _ _ x h0] at hq
      rw [graft_out _ _ h0]
      exact up1 q x hq
  · rcases way_cases p q with ⟨r, hr, rfl⟩ | rfl | h0
    · rw [graft_in p _ _ hr] at hq
      rw [List.append_assoc, graft_in p _ _ (by simp)]
      exact h2.leaf r x hq
    · rw [graft_at] at hq
      exact absurd (hfree q (List.prefix_refl _)) hq
    · rw [graft_out _ _ h0] at hq
      rw [graft_snoc _ _ x h0]
      cases hc : β1 (q ++ [x]) with
      | none => rfl
      | some c =>
        exfalso
        rcases (hgr (q ++ [x])).1 (by rw [hc]; simp) with h | h
        · exact h (h1.leaf q x hq)
        · exact hq (hfree q ((List.prefix_append q _).trans h))
  · rcases way_cases p q with ⟨r, hr, rfl⟩ | rfl | h0
    · rw [graft_in p _ _ hr] at hq ⊢
      exact h2.node r hq
    · rw [graft_at] at hq
      exact absurd (hfree q (List.prefix_refl _)) hq
    · rw [graft_out _ _ h0] at hq ⊢
      exact (hgr _).2 (.inl (h1.node q hq))
  · rcases way_cases p q with ⟨r', hr, rfl⟩ | rfl | h0
    · rw [graft_in p _ _ hr] at hq
      exact h2.text r' t r hq
    · rw [graft_at] at hq
      exact h1.text q t r hq
    · rw [graft_out _ _ h0] at hq
      exact h1.text q t r hq
  · rcases way_cases p q with ⟨r, hr, rfl⟩ | rfl | h0
    · rw [graft_in p _ _ hr] at hq
      exact List.mem_append.2 (.inr (List.mem_map.2 ⟨r, hm2 r hq, rfl⟩))
    · rw [graft_at] at hq
      exact List.mem_append.2 (.inl (hm1 q hq))
    · rw [graft_out _ _ h0] at hq
      exact List.mem_append.2 (.inl (hm1 q hq))

/-- An entry below a directory. -/
def putE (dir : ByteArray) (e : En) : En := ⟨dir ++ ⟨#[47]⟩ ++ e.path, e.text, e.runs⟩
theorem putE_data (dir : ByteArray) (e : En) : (putE dir e).path.data.toList = dir.data.toList ++ 47 :: e.path.data.toList := by
  simp [putE, ByteArray.data_append]
theorem putE_begins (dir : ByteArray) (e : En) : Begins dir (putE dir e).path := ⟨_, putE_data dir e⟩
theorem putE_parts (dir : ByteArray) (e : En) : partsB (putE dir e).path = partsB dir ++ partsB e.path := parts_app dir e.path
theorem putE_inj {dir : ByteArray} {e e' : En} (h : (putE dir e).path = (putE dir e').path) : e.path = e'.path := by
  have h2 := congrArg (fun x : ByteArray => x.data.toList) h
  simp only [putE_data] at h2
  have h3 := List.append_cancel_left h2
  injection h3 with _ h4
  exact WideShapes.bytes_inj h4

structure MntRel (ts : List En) (dir : ByteArray) (bs us : List En) : Prop where
  asc : Asc us
  mem : ∀ x, x ∈ us ↔ (x ∈ ts ∧ beginsB dir x.path = false) ∨ ∃ e ∈ bs, x = putE dir e
theorem MntRel.one {ts : List En} {dir : ByteArray} {bs us us' : List En} (h : MntRel ts dir bs us) (h' : MntRel ts dir bs us') : us = us' :=
  asc_unique h.asc h'.asc (fun x => by rw [h.mem, h'.mem])
theorem MntRel.start {ts : List En} {dir : ByteArray} (hA : Asc ts) : MntRel ts dir [] (ts.filter fun e => !beginsB dir e.path) :=
  ⟨hA.filter _, fun x => by rw [List.mem_filter]; simp⟩
theorem MntRel.set {ts : List En} {dir : ByteArray} {bs us us' : List En} {k : Nat} (hA : Asc bs) (hk : k < bs.length) (h : MntRel ts dir (bs.take k) us) (hs : SetRel us (putE dir bs[k]) us') : MntRel ts dir (bs.take (k + 1)) us' := by
  refine ⟨hs.asc, fun x => ?_⟩
  rw [hs.mem, h.mem]
  constructor
  · rintro (rfl | ⟨h1 | ⟨e, h1, rfl⟩, _⟩)
    · exact .inr ⟨bs[k], (mem_take_succ hk _).2 (.inr rfl), rfl⟩
    · exact .inl h1
    · exact .inr ⟨e, (mem_take_succ hk _).2 (.inl h1), rfl⟩
  · rintro (h1 | ⟨e, h1, rfl⟩)
    · refine .inr ⟨.inl h1, fun e => ?_⟩
      have := beginsB_iff.2 (putE_begins dir bs[k])
      rw [← e, h1.2] at this
      cases this
    · rcases (mem_take_succ hk e).1 h1 with h2 | rfl
      · exact .inr ⟨.inr ⟨e, h2, rfl⟩, fun e1 => less_ne ((asc_take_drop hA hk).1 e h2) (putE_inj e1)⟩
      · exact .inl rfl

/-- What is in the way of a directory. -/
def InWayD (ts : List En) (dir : ByteArray) : Prop := ∃ x ∈ ts, x.path = dir ∨ Begins x.path dir
def MntR (ts : List En) (dir : ByteArray) (bs us : List En) (c : Int) : Prop :=
  (¬ (ValidTs ts ∧ ValidTs bs ∧ pathOk pathB dir = true) ∧ us = [] ∧ c = 1) ∨
  ((ValidTs ts ∧ ValidTs bs ∧ pathOk pathB dir = true) ∧ (∃ e ∈ bs, pathOk pathB (putE dir e).path = false) ∧ us = [] ∧ c = 2) ∨
  ((ValidTs ts ∧ ValidTs bs ∧ pathOk pathB dir = true) ∧ (∀ e ∈ bs, pathOk pathB (putE dir e).path = true) ∧ InWayD ts dir ∧ us = [] ∧ c = 3) ∨
  ((ValidTs ts ∧ ValidTs bs ∧ pathOk pathB dir = true) ∧ (∀ e ∈ bs, pathOk pathB (putE dir e).path = true) ∧ ¬ InWayD ts dir ∧ ∃ vs, MntRel ts dir bs vs ∧ ((100 < vs.length ∧ us = [] ∧ c = 4) ∨ (vs.length ≤ 100 ∧ us = vs ∧ c = 0)))
theorem all_notM {bs : List En} {dir : ByteArray} (h : ∀ e ∈ bs, pathOk pathB (putE dir e).path = true) (h' : ∃ e ∈ bs, pathOk pathB (putE dir e).path = false) : False := by
  obtain ⟨e, he, h2⟩ := h'
  rw [h e he] at h2
  cases h2
theorem mnt_one {ts : List En} {dir : ByteArray} {bs us us' : List En} {c c' : Int} (h : MntR ts dir bs us c) (h' : MntR ts dir bs us' c') : us = us' ∧ c = c' := by
  rcases h with ⟨h1, rfl, rfl⟩ | ⟨h1, h2, rfl, rfl⟩ | ⟨h1, h2, h3, rfl, rfl⟩ | ⟨h1, h2, h3, vs, h4, h5⟩ <;>
    rcases h' with ⟨g1, rfl, rfl⟩ | ⟨g1, g2, rfl, rfl⟩ | ⟨g1, g2, g3, rfl, rfl⟩ | ⟨g1, g2, g3, vs', g4, g5⟩ <;>
    first | exact ⟨rfl, rfl⟩ | exact absurd g1 h1 | exact absurd h1 g1 | exact (all_notM g2 h2).elim | exact (all_notM h2 g2).elim | exact absurd g3 h3 | exact absurd h3 g3 | skip
  obtain rfl := h4.one g4
  rcases h5 with ⟨h5, rfl, rfl⟩ | ⟨h5, rfl, rfl⟩ <;> rcases g5 with ⟨g5, rfl, rfl⟩ | ⟨g5, rfl, rfl⟩ <;> first | exact ⟨rfl, rfl⟩ | omega
theorem mnt_few {ts : List En} {dir : ByteArray} {bs us : List En} {c : Int} (h : MntR ts dir bs us c) : us.length ≤ 100 := by
  rcases h with ⟨_, rfl, _⟩ | ⟨_, _, rfl, _⟩ | ⟨_, _, _, rfl, _⟩ | ⟨_, _, _, vs, _, ⟨_, rfl, _⟩ | ⟨h, rfl, _⟩⟩
  · simp
  · simp
  · simp
  · simp
  · exact h
def MntPost (ts : List En) (dir : ByteArray) (bs : List En) (w : World) (e : Ending) (w' : World) : Prop := ∃ us c, MntR ts dir bs us c ∧ TreeR us c w.heap.size e w' ∧ Below w.heap.size w w'

theorem inway_iff {ts : List En} {β : Way → Option Nat} {φ : Way → Option (ByteArray × Bool)} (h : Shape ts β φ) (dir : ByteArray) : InWayD ts dir ↔ ∃ q, q <+: partsB dir ∧ φ q ≠ none := by
  constructor
  · rintro ⟨x, hx, rfl | hb⟩
    · exact ⟨_, List.prefix_refl _, (h.files _).2 ⟨x, hx, rfl⟩⟩
    · exact ⟨_, (begins_iff.1 hb).1, (h.files _).2 ⟨x, hx, rfl⟩⟩
  · rintro ⟨q, hq, hf⟩
    obtain ⟨x, hx, rfl⟩ := (h.files q).1 hf
    by_cases e : partsB x.path = partsB dir
    · exact ⟨x, hx, .inl (partsB_inj e)⟩
    · exact ⟨x, hx, .inr (begins_iff.2 ⟨hq, e⟩)⟩
theorem deep_put {bs : List En} {β2 : Way → Option Nat} {φ2 : Way → Option (ByteArray × Bool)} {dir : ByteArray} (h : Shape bs β2 φ2) (hd : pathOk pathB dir = true) (hall : ∀ e ∈ bs, pathOk pathB (putE dir e).path = true) : ∀ r, β2 r ≠ none → (partsB dir ++ r).length ≤ 6 := fun r hr => by
  rcases (h.nodes r).1 hr with rfl | ⟨e, he, hp⟩
  · simpa using (path_parts hd).1
  · have h1 := (path_parts (hall e he)).1
    rw [putE_parts] at h1
    have := hp.length_le
    simp at h1 ⊢
    omega
theorem told_mnt {ts bs us : List En} {dir : ByteArray} {β β2 : Way → Option Nat} {φ φ2 : Way → Option (ByteArray × Bool)} (hS : Shape ts β φ) (hS2 : Shape bs β2 φ2) (h : Told (graft (partsB dir) φ φ2) [] [] [] us) : MntRel ts dir bs us := by
  refine ⟨h.asc, fun e => ?_⟩
  rw [told_mem h, List.nil_append]
  by_cases hb : Begins dir e.path
  · have hc := parts_cut hb
    rw [hc, graft_in _ _ _ (parts_ne _)]
    have h1 := tells_iff hS2 (cutE dir e)
    rw [show (cutE dir e).path = e.path.extract (dir.size + 1) e.path.size from rfl] at h1
    have hput : putE dir (cutE dir e) = e := by
      have : (putE dir (cutE dir e)).path = e.path := partsB_inj (by rw [putE_parts]; exact hc.symm)
      cases e
      simp only [putE, cutE] at this ⊢
      rw [this]
    constructor
    · intro h2
      exact .inr ⟨cutE dir e, h1.1 h2, hput.symm⟩
    · rintro (⟨_, h2⟩ | ⟨e', he', rfl⟩)
      · rw [beginsB_iff.2 hb] at h2; cases h2
      · refine h1.2 ?_
        have hpe : (cutE dir (putE dir e')).path = e'.path := putE_inj (by rw [hput])
        have hee : cutE dir (putE dir e') = e' := by
          cases e'
          simp only [cutE, putE] at hpe ⊢
          rw [hpe]
        rw [hee]; exact he'
  · have hbf : beginsB dir e.path = false := by
      rw [Bool.eq_false_iff]
      exact fun h => hb (beginsB_iff.1 h)
    have hg : graft (partsB dir) φ φ2 (partsB e.path) = φ (partsB e.path) := by
      unfold graft
      rw [if_neg]
      rintro ⟨h1, h2⟩
      exact hb (begins_iff.2 ⟨h1, fun e1 => h2 e1.symm⟩)
    rw [hg, tells_iff hS]
    constructor
    · intro h2; exact .inl ⟨h2, hbf⟩
    · rintro (⟨h2, _⟩ | ⟨e', _, rfl⟩)
      · exact h2
      · exact absurd (putE_begins dir e') hb
end Go.Proofs.Ytmeodgcnnjkilaa
