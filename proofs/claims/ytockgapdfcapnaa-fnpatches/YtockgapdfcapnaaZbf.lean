/-
  TellE, StrikeN, PutP, PutS, DrawTr, DecT, DecT2, DrawMs, FrontE, SideE, DiffP, OrS, CopyF: laid as one text.
-/
import Derived.Test.YtockgapdfcapnaaZbe
import Derived.Test.YtockgapdfcapnaaTreeMem
import Derived.Test.YtockgapdfcapnaaEntL
import Derived.Test.YtockgapdfcapnaaSetP
import Derived.Test.YtockgapdfcapnaaZbc
import Derived.Test.YtockgapdfcapnaaSpecTree
import Derived.Test.YtockgapdfcapnaaLaterQ
import Derived.Test.YtockgapdfcapnaaDrawPth
import Derived.Test.YtockgapdfcapnaaZbd
import Derived.Test.YtockgapdfcapnaaSplitP
import Derived.Test.YtockgapdfcapnaaMrgP
import Derived.Test.YtockgapdfcapnaaZba
import Derived.Deep.RegionWith
import Derived.RangeFuncNested
import Derived.RangeFuncBound
import Derived.RangeFuncCalls
import Derived.RangeFuncLeaves
import Derived.Shelf.Abstract
import Derived.Shelf.RegionOpen
import Derived.WalkKit
import Derived.OwnWalkIn
import Derived.TacticsInMore
import Derived.LoopNIn
import Derived.LoopIn
import Derived.Sort.CutIn
import Derived.Test.YtockgapdfcapnaaZbb
import Derived.Test.YtockgapdfcapnaaDiffS
import Derived.WalkSpells
import Derived.WalkLawsBesides
import Derived.Deep.Light
import Derived.Test.YtockgapdfcapnaaChOut
import Derived.Deep.RegionHeld3
namespace Go.Proofs.Ytockgapdfcapnaa
open Go.RowKit

theorem part_plain {x : ByteArray} (h : partOk pathB x = true) : x.size ≤ 20 ∧ (47 : UInt8) ∉ x.data.toList := by
  refine ⟨partOk_size h, fun hm => ?_⟩
  simp only [partOk, Bool.and_eq_true, List.all_eq_true] at h
  have := h.2 47 hm
  simp [pathB, globB] at this

theorem valid_en {ts : List En} (h : ValidTs ts) {e : En} (he : e ∈ ts) : enOk e = true := by
  obtain ⟨i, hi, rfl⟩ := List.getElem_of_mem he
  exact (h.2 i hi).2.1
theorem valid_free {ts : List En} (h : ValidTs ts) {e e' : En} (he : e ∈ ts) (he' : e' ∈ ts) : ¬ Begins e.path e'.path := by
  intro hb
  obtain ⟨i, hi, rfl⟩ := List.getElem_of_mem he
  obtain ⟨j, hj, rfl⟩ := List.getElem_of_mem he'
  have hl := begins_less hb
  rcases Nat.lt_trichotomy i j with h1 | h1 | h1
  · obtain ⟨_, _, _, h2⟩ := h.2 j hj
    refine h2 ts[i] ?_ hb
    rw [List.mem_take_iff_getElem]
    exact ⟨i, by omega, rfl⟩
  · subst h1
    rw [less_irrefl] at hl
    cases hl
  · have h2 := asc h.2 i hi j h1 hi hj
    have := less_trans hl h2
    rw [less_irrefl] at this
    cases this

theorem path_parts {s : ByteArray} (h : pathOk pathB s = true) : (partsB s).length ≤ 6 ∧ ∀ x ∈ partsB s, x.size ≤ 20 ∧ (47 : UInt8) ∉ x.data.toList := by
  simp only [pathOk, Bool.and_eq_true, decide_eq_true_eq, List.all_eq_true] at h
  exact ⟨h.1, fun x hx => part_plain (h.2 x hx)⟩

theorem enOk_parts {e : En} (h : enOk e = true) : (partsB e.path).length ≤ 6 ∧ (∀ x ∈ partsB e.path, x.size ≤ 20 ∧ (47 : UInt8) ∉ x.data.toList) ∧ e.text.size ≤ 1500 := by
  simp only [enOk, Bool.and_eq_true, decide_eq_true_eq] at h
  exact ⟨(path_parts h.1).1, (path_parts h.1).2, h.2⟩

theorem good_of_shape {ts : List En} {β : Way → Option Nat} {φ : Way → Option (ByteArray × Bool)} (hv : ValidTs ts) (hS : Shape ts β φ) : GoodT 100 β φ where
  name q x h := by
    rcases (hS.nodes _).1 h with h1 | ⟨e, he, h1⟩
    · simp at h1
    · exact (enOk_parts (valid_en hv he)).2.1 x (h1.subset (by simp))
  deep q h := by
    rcases (hS.nodes _).1 h with rfl | ⟨e, he, h1⟩
    · simp
    · exact Nat.le_trans h1.length_le (enOk_parts (valid_en hv he)).1
  up q x h := by
    rcases (hS.nodes _).1 h with h1 | ⟨e, he, h1⟩
    · simp at h1
    · exact (hS.nodes _).2 (.inr ⟨e, he, (List.prefix_append q _).trans h1⟩)
  leaf q x h := by
    cases hc : β (q ++ [x]) with
    | none => rfl
    | some b =>
      exfalso
      obtain ⟨e, he, rfl⟩ := (hS.files q).1 h
      rcases (hS.nodes _).1 (by rw [hc]; simp) with h1 | ⟨e', he', h1⟩
      · simp at h1
      · refine valid_free hv he he' (begins_iff.2 ⟨(List.prefix_append _ _).trans h1, fun e1 => ?_⟩)
        rw [← e1] at h1
        have := h1.length_le
        simp at this; omega
  node := hS.files_nodes
  text q t r h := by
    obtain ⟨e, he, rfl⟩ := (hS.files q).1 (by rw [h]; simp)
    have := hS.vals e he
    rw [h] at this
    injection this with this
    injection this with h1 h2
    rw [h1]
    exact (enOk_parts (valid_en hv he)).2.2
  few := ⟨ts.map fun e => partsB e.path, by simp; exact hv.1, fun q h => by
    obtain ⟨e, he, rfl⟩ := (hS.files q).1 h
    exact List.mem_map_of_mem he⟩

theorem GoodT.strike {K : Nat} {β : Way → Option Nat} {φ : Way → Option (ByteArray × Bool)} (h : GoodT K β φ) (p : Way) : GoodT K β (upd φ p none) := by
  have hq : ∀ q, upd φ p none q ≠ none → φ q ≠ none := fun q hq => by
    by_cases e : q = p
    · subst e; rw [upd_same] at hq; exact absurd rfl hq
    · rwa [upd_other _ _ e] at hq
  obtain ⟨F, hF, hm⟩ := h.few
  refine ⟨h.name, h.deep, h.up, fun q x hx => h.leaf q x (hq q hx), fun q hx => h.node q (hq q hx), fun q t r hx => ?_, F, hF, fun q hx => hm q (hq q hx)⟩
  by_cases e : q = p
  · subst e; rw [upd_same] at hx; cases hx
  · rw [upd_other _ _ e] at hx
    exact h.text q t r hx

theorem tells_iff {ts : List En} {β : Way → Option Nat} {φ : Way → Option (ByteArray × Bool)} (hS : Shape ts β φ) (e : En) : φ (partsB e.path) = some (e.text, e.runs) ↔ e ∈ ts := by
  constructor
  · intro h
    obtain ⟨e', he, hp⟩ := (hS.files _).1 (by rw [h]; simp)
    have h2 := hS.vals e' he
    rw [hp, h] at h2
    injection h2 with h2
    injection h2 with h3 h4
    have h5 := partsB_inj hp
    cases e; cases e'
    simp_all
  · exact hS.vals e

theorem acc_nil (φ : Way → Option (ByteArray × Bool)) (p0 r : Way) : AccOk φ p0 r [] := ⟨List.Pairwise.nil, fun e he => by simp at he, fun e he => by simp at he⟩
theorem told_mem {φ : Way → Option (ByteArray × Bool)} {p0 : Way} {us : List En} (h : Told φ p0 [] [] us) (e : En) : e ∈ us ↔ φ (p0 ++ partsB e.path) = some (e.text, e.runs) := by
  rw [h.mem]
  constructor
  · rintro (h1 | ⟨h1, _⟩)
    · simp at h1
    · exact h1
  · intro h1
    exact .inr ⟨h1, List.nil_prefix, fun e1 => parts_ne _ e1.symm⟩

/-- All but one. -/
def without (ts : List En) (p : ByteArray) : List En := ts.filter fun e => !(e.path.toList == p.toList)
theorem without_mem {ts : List En} {p : ByteArray} (e : En) : e ∈ without ts p ↔ e ∈ ts ∧ e.path ≠ p := by
  unfold without
  rw [List.mem_filter, Bool.not_eq_true']
  refine and_congr Iff.rfl ?_
  rw [Bool.eq_false_iff, ne_eq, beq_iff_eq, Lib.toList_data, Lib.toList_data]
  exact ⟨fun h e => h (by rw [e]), fun h e => h (WideShapes.bytes_inj e)⟩

theorem told_without {ts : List En} {β : Way → Option Nat} {φ : Way → Option (ByteArray × Bool)} (hv : ValidTs ts) (hS : Shape ts β φ) {p : ByteArray} {us : List En} (h : Told (upd φ (partsB p) none) [] [] [] us) : us = without ts p := by
  refine asc_unique h.asc ((valid_asc hv).filter _) (fun e => ?_)
  rw [told_mem h, without_mem, List.nil_append]
  by_cases e1 : e.path = p
  · rw [e1, upd_same]; simp
  · rw [upd_other _ _ (fun e2 => e1 (partsB_inj e2)), tells_iff hS]
    simp [e1]

/-- What lies below a directory. -/
def cutE (dir : ByteArray) (e : En) : En := ⟨e.path.extract (dir.size + 1) e.path.size, e.text, e.runs⟩
theorem begins_cut {dir p : ByteArray} (h : Begins dir p) : p.data.toList = dir.data.toList ++ 47 :: (p.extract (dir.size + 1) p.size).data.toList := by
  obtain ⟨r, hr⟩ := h
  have hl : p.data.toList.length = p.size := (Lib.size_eq p).symm
  have hd : dir.data.toList.length = dir.size := (Lib.size_eq dir).symm
  rw [extract_mkB, mkB_list, hr]
  congr 1
  rw [show dir.data.toList ++ 47 :: r = (dir.data.toList ++ [47]) ++ r by simp, List.drop_left' (by simp [hd]), List.take_of_length_le]
  have := congrArg List.length hr
  simp at this
  omega
theorem parts_cut {dir p : ByteArray} (h : Begins dir p) : partsB p = partsB dir ++ partsB (p.extract (dir.size + 1) p.size) := by
  rw [partsB, begins_cut h, split_app, List.map_append]
  rfl
def beginsB (d p : ByteArray) : Bool := (d.data.toList ++ [47]).isPrefixOf p.data.toList
theorem beginsB_iff {d p : ByteArray} : beginsB d p = true ↔ Begins d p := by
  unfold beginsB Begins
  rw [List.isPrefixOf_iff_prefix]
  constructor
  · rintro ⟨r, hr⟩; exact ⟨r, by rw [← hr]; simp⟩
  · rintro ⟨r, hr⟩; exact ⟨r, by rw [hr]; simp⟩
def under (ts : List En) (dir : ByteArray) : List En := (ts.filter fun e => beginsB dir e.path).map (cutE dir)

theorem told_under {ts : List En} {β : Way → Option Nat} {φ : Way → Option (ByteArray × Bool)} (hv : ValidTs ts) (hS : Shape ts β φ) {dir : ByteArray} {us : List En} (h : Told φ (partsB dir) [] [] us) : us = under ts dir := by
  refine asc_unique h.asc ?_ (fun e => ?_)
  · unfold under Asc
    rw [List.pairwise_map]
    refine List.Pairwise.imp_of_mem (fun {a b} ha hb hl => ?_) ((valid_asc hv).filter _)
    have h1 := beginsB_iff.1 (List.mem_filter.1 ha).2
    have h2 := beginsB_iff.1 (List.mem_filter.1 hb).2
    rw [Lib.toList_data, Lib.toList_data, begins_cut h1, begins_cut h2, less_front] at hl
    have hcons : ∀ x y : List UInt8, Op.bytesLess (47 :: x) (47 :: y) = Op.bytesLess x y := fun x y => less_front [47] x y
    rw [hcons] at hl
    rw [Lib.toList_data, Lib.toList_data]
    exact hl
  · rw [told_mem h, under, List.mem_map]
    constructor
    · intro h1
      obtain ⟨e', he, hp⟩ := (hS.files _).1 (show φ (partsB dir ++ partsB e.path) ≠ none by rw [h1]; simp)
      have hb : Begins dir e'.path := begins_iff.2 ⟨⟨_, hp.symm⟩, fun e1 => by
        rw [hp] at e1
        have := congrArg List.length e1
        have h3 := parts_ne e.path
        simp at this
        exact h3 this⟩
      refine ⟨e', List.mem_filter.2 ⟨he, beginsB_iff.2 hb⟩, ?_⟩
      have h2 := hS.vals e' he
      rw [hp, h1] at h2
      injection h2 with h2
      injection h2 with h3 h4
      have h5 : e'.path.extract (dir.size + 1) e'.path.size = e.path := by
        have := parts_cut hb
        rw [hp] at this
        exact (partsB_inj (List.append_cancel_left this)).symm
      unfold cutE
      rw [h5]
      cases e
      simp_all
    · rintro ⟨e', he, rfl⟩
      obtain ⟨he1, he2⟩ := List.mem_filter.1 he
      have hb := beginsB_iff.1 he2
      show φ (partsB dir ++ partsB (e'.path.extract (dir.size + 1) e'.path.size)) = some (e'.text, e'.runs)
      rw [← parts_cut hb]
      exact hS.vals e' he1
end Go.Proofs.Ytockgapdfcapnaa

namespace Go.Proofs.Ytockgapdfcapnaa
open Go.RowKit

def setN (W : World) (b : Nat) : World := ((W.setCell ⟨b, 0, none⟩ (.bool false)).setCell ⟨b, 1, none⟩ (.string ⟨#[]⟩)).setCell ⟨b, 2, none⟩ (.bool false)
theorem setN_same {W : World} {b mb : Nat} {f : Option (ByteArray × Bool)} (h : W.heap[b]? = some (nodeObj f mb)) : (setN W b).heap[b]? = some (nodeObj none mb) := by
  have h' : ∃ x y z, W.heap[b]? = some (.cells #[x, y, z, .map (some mb)] 132) := by
    cases f with
    | none => exact ⟨_, _, _, h⟩
    | some g => obtain ⟨t', r'⟩ := g; exact ⟨_, _, _, h⟩
  obtain ⟨x, y, z, h'⟩ := h'
  unfold setN World.setCell
  simp [Array.getElem?_modify, h', nodeObj]
theorem setN_other {W : World} {b k : Nat} (h : k ≠ b) : (setN W b).heap[k]? = W.heap[k]? := by
  unfold setN
  rw [Below.heap_setCell _ _ _ _ (show k ≠ b from h), Below.heap_setCell _ _ _ _ (show k ≠ b from h), Below.heap_setCell _ _ _ _ (show k ≠ b from h)]
theorem setN_below {W w0 : World} {B b : Nat} (h : Below B w0 W) (hb : B ≤ b) : Below B w0 (setN W b) :=
  ((h.setCell (p := ⟨b, 0, none⟩) hb _).setCell (p := ⟨b, 1, none⟩) hb _).setCell (p := ⟨b, 2, none⟩) hb _

theorem TreeM.strike {lo N : Nat} {W : World} {β : Way → Option Nat} {μ : Way → Nat} {φ : Way → Option (ByteArray × Bool)} {p : Way} {b : Nat} (h : TreeM lo N W β μ φ) (hb : β p = some b) : TreeM lo N (setN W b) β μ (upd φ p none) := by
  refine ⟨fun q bq hq => ?_, h.inj, h.minj, h.up, h.root⟩
  obtain ⟨h1, h2, h3, h4⟩ := h.node q bq hq
  have hm : μ q ≠ b := fun e => by
    obtain ⟨es, cl, h5⟩ := h4.obj
    obtain ⟨h6, _⟩ := h.node p b hb
    rw [e, h6] at h5
    unfold nodeObj at h5
    split at h5 <;> cases h5
  refine ⟨?_, h2, h3, h4.block (setN_other hm)⟩
  by_cases e : q = p
  · subst e
    rw [hb] at hq
    cases hq
    rw [upd_same]
    exact setN_same h1
  · rw [upd_other _ _ e]
    exact (setN_other (fun e' => e (h.inj q p b (by rw [← e']; exact hq) hb))).trans h1
end Go.Proofs.Ytockgapdfcapnaa

namespace Go.Proofs.Ytockgapdfcapnaa
open Go.RowKit

/-- What is in the way of an entry. -/
def InWay (ts : List En) (e : En) : Prop := ∃ x ∈ ts, Begins x.path e.path ∨ Begins e.path x.path

/-- What Put gives. -/
def PutR (ts : List En) (e : En) (us : List En) (c : Int) : Prop :=
  (¬ ValidTs ts ∧ us = [] ∧ c = 1) ∨ (ValidTs ts ∧ enOk e = false ∧ us = [] ∧ c = 2) ∨ (ValidTs ts ∧ enOk e = true ∧ InWay ts e ∧ us = [] ∧ c = 3) ∨
  (ValidTs ts ∧ enOk e = true ∧ ¬ InWay ts e ∧ ∃ vs, SetRel ts e vs ∧ ((100 < vs.length ∧ us = [] ∧ c = 4) ∨ (vs.length ≤ 100 ∧ us = vs ∧ c = 0)))

theorem put_one {ts : List En} {e : En} {us us' : List En} {c c' : Int} (h : PutR ts e us c) (h' : PutR ts e us' c') : us = us' ∧ c = c' := by
  rcases h with ⟨h1, rfl, rfl⟩ | ⟨h1, h2, rfl, rfl⟩ | ⟨h1, h2, h3, rfl, rfl⟩ | ⟨h1, h2, h3, vs, h4, h5⟩ <;>
    rcases h' with ⟨g1, rfl, rfl⟩ | ⟨g1, g2, rfl, rfl⟩ | ⟨g1, g2, g3, rfl, rfl⟩ | ⟨g1, g2, g3, vs', g4, g5⟩ <;>
    first | exact ⟨rfl, rfl⟩ | exact absurd g1 h1 | exact absurd h1 g1 | exact absurd (h2.symm.trans g2) (by decide) | exact absurd g3 h3 | exact absurd h3 g3 | skip
  obtain rfl := h4.one g4
  rcases h5 with ⟨h5, rfl, rfl⟩ | ⟨h5, rfl, rfl⟩ <;> rcases g5 with ⟨g5, rfl, rfl⟩ | ⟨g5, rfl, rfl⟩ <;> first | exact ⟨rfl, rfl⟩ | omega

theorem put_few {ts : List En} {e : En} {us : List En} {c : Int} (h : PutR ts e us c) : us.length ≤ 100 := by
  rcases h with ⟨_, rfl, _⟩ | ⟨_, _, rfl, _⟩ | ⟨_, _, _, rfl, _⟩ | ⟨_, _, _, vs, _, ⟨_, rfl, _⟩ | ⟨h, rfl, _⟩⟩
  · simp
  · simp
  · simp
  · simp
  · exact h

def PutPost (ts : List En) (en : En) (w : World) (e : Ending) (w' : World) : Prop := ∃ us c, PutR ts en us c ∧ TreeR us c w.heap.size e w' ∧ Below w.heap.size w w'

theorem upd_none {φ : Way → Option (ByteArray × Bool)} {p : Way} (h : φ p = none) : upd φ p none = φ := by
  funext q
  by_cases e : q = p
  · subst e; rw [upd_same, h]
  · exact upd_other _ _ e

/-- What is in the way of an entry, in the tree. -/
theorem blocked_set {ts : List En} {β : Way → Option Nat} {φ : Way → Option (ByteArray × Bool)} (h : Shape ts β φ) (e : En) :
    Blocked β (upd φ (partsB e.path) none) (partsB e.path) ↔ InWay ts e := by
  constructor
  · rintro (⟨q, h1, h2, h3⟩ | h1 | ⟨x, h1⟩)
    · rw [upd_other _ _ h2] at h3
      obtain ⟨e', he, rfl⟩ := (h.files q).1 h3
      exact ⟨e', he, .inl (begins_iff.2 ⟨h1, h2⟩)⟩
    · rw [upd_same] at h1; exact absurd rfl h1
    · rcases (h.nodes _).1 h1 with h2 | ⟨e', he, h2⟩
      · simp at h2
      · exact ⟨e', he, .inr (begins_iff.2 ⟨(List.prefix_append _ [x]).trans h2, fun e1 => by rw [← e1] at h2; have := h2.length_le; simp at this; omega⟩)⟩
  · rintro ⟨e', he, hb | hb⟩
    · obtain ⟨h1, h2⟩ := begins_iff.1 hb
      refine .inl ⟨_, h1, h2, ?_⟩
      rw [upd_other _ _ h2]
      exact (h.files _).2 ⟨e', he, rfl⟩
    · obtain ⟨⟨t, ht⟩, h2⟩ := begins_iff.1 hb
      cases t with
      | nil => exact absurd (by rw [← ht]; simp) h2
      | cons x t => exact .inr (.inr ⟨x, (h.nodes _).2 (.inr ⟨e', he, ⟨t, by rw [← ht]; simp⟩⟩)⟩)

theorem GoodT.lay {K : Nat} {β β' : Way → Option Nat} {φ : Way → Option (ByteArray × Bool)} (h : GoodT K β φ) {p : ByteArray} (hp : pathOk pathB p = true) {t : ByteArray} {r : Bool} (ht : t.size ≤ 1500) (hno : ¬ Blocked β φ (partsB p)) (hβ : ∀ q, β' q ≠ none ↔ β q ≠ none ∨ q <+: partsB p) :
    GoodT (K + 1) β' (upd φ (partsB p) (some (t, r))) := by
  obtain ⟨hl, hx⟩ := path_parts hp
  have hφ : ∀ q, upd φ (partsB p) (some (t, r)) q ≠ none → q = partsB p ∨ φ q ≠ none := fun q hq => by
    by_cases e : q = partsB p
    · exact .inl e
    · rw [upd_other _ _ e] at hq; exact .inr hq
  obtain ⟨F, hF, hm⟩ := h.few
  refine ⟨fun q x hq => ?_, fun q hq => ?_, fun q x hq => ?_, fun q x hq => ?_, fun q hq => ?_, fun q t' r' hq => ?_, partsB p :: F, by simp; omega, fun q hq => ?_⟩
  · rcases (hβ _).1 hq with h1 | h1
    · exact h.name q x h1
    · exact hx x (h1.subset (by simp))
  · rcases (hβ _).1 hq with h1 | h1
    · exact h.deep q h1
    · exact Nat.le_trans h1.length_le hl
  · rcases (hβ _).1 hq with h1 | h1
    · exact (hβ _).2 (.inl (h.up q x h1))
    · exact (hβ _).2 (.inr ((List.prefix_append q _).trans h1))
  · cases hc : β' (q ++ [x]) with
    | none => rfl
    | some b =>
      exfalso
      rcases (hβ (q ++ [x])).1 (by rw [hc]; simp) with h1 | h1
      · rcases hφ q hq with rfl | h2
        · exact hno (.inr (.inr ⟨x, h1⟩))
        · exact h1 (h.leaf q x h2)
      · rcases hφ q hq with rfl | h2
        · have := h1.length_le; simp at this; omega
        · exact hno (.inl ⟨q, (List.prefix_append q _).trans h1, fun e => by rw [e] at h1; have := h1.length_le; simp at this; omega, h2⟩)
  · rcases hφ q hq with rfl | h2
    · exact (hβ _).2 (.inr (List.prefix_refl _))
    · exact (hβ _).2 (.inl (h.node q h2))
  · by_cases e : q = partsB p
    · subst e
      rw [upd_same] at hq
      injection hq with hq
      injection hq with h1 h2
      rw [← h1]; exact ht
    · rw [upd_other _ _ e] at hq
      exact h.text q t' r' hq
  · rcases hφ q hq with rfl | h2
    · simp
    · exact List.mem_cons_of_mem _ (hm q h2)

theorem told_set {ts : List En} {β : Way → Option Nat} {φ : Way → Option (ByteArray × Bool)} (hS : Shape ts β φ) {e : En} {us : List En} (h : Told (upd (upd φ (partsB e.path) none) (partsB e.path) (some (e.text, e.runs))) [] [] [] us) : SetRel ts e us := by
  refine ⟨h.asc, fun x => ?_⟩
  rw [told_mem h, List.nil_append]
  by_cases e1 : x.path = e.path
  · rw [e1, upd_same]
    constructor
    · intro h1
      injection h1 with h1
      injection h1 with h2 h3
      left
      cases x; cases e
      simp_all
    · rintro (rfl | ⟨_, h1⟩)
      · rfl
      · exact absurd rfl h1
  · rw [upd_other _ _ (fun e2 => e1 (partsB_inj e2)), upd_other _ _ (fun e2 => e1 (partsB_inj e2)), tells_iff hS]
    constructor
    · intro h1; exact .inr ⟨h1, e1⟩
    · rintro (rfl | ⟨h1, _⟩)
      · exact absurd rfl e1
      · exact h1
end Go.Proofs.Ytockgapdfcapnaa

namespace Go.Proofs.Ytockgapdfcapnaa
open Go.RowKit

/-- Whether one of two is in the way of the other. -/
def wayB (x e : ByteArray) : Bool := beginsB x e || beginsB e x
theorem wayB_iff {x e : ByteArray} : wayB x e = true ↔ Begins x e ∨ Begins e x := by
  unfold wayB
  rw [Bool.or_eq_true, beginsB_iff, beginsB_iff]

theorem el_setQ {B g : Nat} {w : World} {a : Option Addr} {ts : List En} {u : Value} (h : EL B w a ts) (hg : g < B) : EL B (w.setCell ⟨g, 0, none⟩ u) a ts :=
  h.grown (row := some g) ⟨rfl, rfl, rfl, by simp, fun k _ hk => Below.heap_setCell _ _ _ _ (fun e => hk (by rw [e]))⟩ (fun k _ hk _ e => by cases e; omega)

/-- What Put gives, with the room that there is. -/
def PutPostC (ts : List En) (en : En) (w : World) (e : Ending) (w' : World) : Prop := ∃ us c, PutR ts en us c ∧ (∃ ad cap, e = .returned (TreeV ad us.length cap c) ∧ EL w.heap.size w' ad us ∧ us.length ≤ cap) ∧ Below w.heap.size w w'

set_option maxRecDepth 100000 in
set_option maxHeartbeats 4000000 in
theorem specPutC_any (a : Option Addr) (cap : Nat) (ts : List En) (en : En) (w : World) (hts : ES w a ts) (hn : ts.length ≤ 1048576) :
    Calls Try.prog 35 #[.agg #[.slice a ts.length cap], .agg #[.string en.path, .string en.text, .bool en.runs]] w fun e w' => PutPostC ts en w e w' := by
  have hal : Below w.heap.size w (((w.alloc (.cells #[.slice a ts.length cap] 32)).alloc (.cells #[.string en.path, .string en.text, .bool en.runs] 72)).alloc (.cells #[.slice none 0 0] 32)) := (((Below.refl _ _).alloc (Nat.le_refl _) _).alloc (by simp) _).alloc (by simp; omega) _
  have m0 : (((w.alloc (.cells #[.slice a ts.length cap] 32)).alloc (.cells #[.string en.path, .string en.text, .bool en.runs] 72)).alloc (.cells #[.slice none 0 0] 32)).cell? ⟨w.heap.size, 0, none⟩ = some (.slice a ts.length cap) := by simp [go_sem]
  have e0 : (((w.alloc (.cells #[.slice a ts.length cap] 32)).alloc (.cells #[.string en.path, .string en.text, .bool en.runs] 72)).alloc (.cells #[.slice none 0 0] 32)).cell? ⟨w.heap.size + 1, 0, none⟩ = some (.string en.path) := by simp [go_sem]
  have e1 : (((w.alloc (.cells #[.slice a ts.length cap] 32)).alloc (.cells #[.string en.path, .string en.text, .bool en.runs] 72)).alloc (.cells #[.slice none 0 0] 32)).cell? ⟨w.heap.size + 1, 1, none⟩ = some (.string en.text) := by simp [go_sem]
  have e2 : (((w.alloc (.cells #[.slice a ts.length cap] 32)).alloc (.cells #[.string en.path, .string en.text, .bool en.runs] 72)).alloc (.cells #[.slice none 0 0] 32)).cell? ⟨w.heap.size + 1, 2, none⟩ = some (.bool en.runs) := by simp [go_sem]
  have k0 : (((w.alloc (.cells #[.slice a ts.length cap] 32)).alloc (.cells #[.string en.path, .string en.text, .bool en.runs] 72)).alloc (.cells #[.slice none 0 0] 32)).cell? ⟨w.heap.size + 1 + 1, 0, none⟩ = some (.slice none 0 0) := by simp [go_sem]
  have kf : (((w.alloc (.cells #[.slice a ts.length cap] 32)).alloc (.cells #[.string en.path, .string en.text, .bool en.runs] 72)).alloc (.cells #[.slice none 0 0] 32)).frozen? ⟨w.heap.size + 1 + 1, 0, none⟩ = false := by simp [go_sem]
  have ks : w.heap.size + 1 + 1 < (((w.alloc (.cells #[.slice a ts.length cap] 32)).alloc (.cells #[.string en.path, .string en.text, .bool en.runs] 72)).alloc (.cells #[.slice none 0 0] 32)).heap.size := by simp [go_sem]
  go_enter Try.func35, Try.ntmps35
  go_wp2_with fail
  refine (specTree_any a cap ts _ (hts.below hal) hn).mono ?_
  rintro e w1 ⟨vb, rfl, hvb, hb1⟩
  generalize ((w.alloc (.cells #[.slice a ts.length cap] 32)).alloc (.cells #[.string en.path, .string en.text, .bool en.runs] 72)).alloc (.cells #[.slice none 0 0] 32) = w0 at *
  obtain ⟨g, hg⟩ : ∃ g, g = w.heap.size + 1 + 1 := ⟨_, rfl⟩
  obtain ⟨be, hbe⟩ : ∃ be, be = w.heap.size + 1 := ⟨_, rfl⟩
  obtain ⟨tb, htb⟩ : ∃ tb, tb = w.heap.size := ⟨_, rfl⟩
  rw [← hg] at k0 kf ks ⊢
  rw [← hbe] at e0 e1 e2 ⊢
  rw [← htb] at m0 ⊢
  have hgw : w.heap.size ≤ g := by omega
  have HS : Keep (tb = w.heap.size ∧ be = tb + 1 ∧ g = tb + 2) := ⟨by omega⟩
  clear hg hbe htb
  replace k0 := cell_later hb1 k0
  replace kf : w1.frozen? ⟨g, 0, none⟩ = false := (hb1.frozen (p := ⟨g, 0, none⟩) ks).trans kf
  replace e0 := cell_later hb1 e0
  replace e1 := cell_later hb1 e1
  replace e2 := cell_later hb1 e2
  replace m0 := cell_later hb1 m0
  have ks1 : g < w1.heap.size := Nat.lt_of_lt_of_le ks hb1.size
  have hbw := hal.trans (hb1.mono hal.size)
  have HV : Keep (vb = true ↔ ValidTs ts) := ⟨hvb⟩
  clear hb1 hal hvb ks
  cases vb with
  | false =>
    have hnv : ¬ ValidTs ts := fun h => by have := HV.out.2 h; cases this
    go_wp2
    refine bodyPost_ret (v := TreeV none ([] : List En).length 0 1) ?_ rfl ⟨[], 1, .inl ⟨hnv, rfl, rfl⟩, ⟨none, 0, rfl, EL.nil _ _ _, Nat.le_refl _⟩, hbw.setCell (p := ⟨g, 0, none⟩) hgw _⟩
    go_light
    simp [results, Try.results35, go_sem, TreeV, k0]
  | true =>
    have hv := HV.out.1 rfl
    go_wp2_with fail
    refine (specPath_any en.path w1).mono ?_
    rintro e w2 ⟨rfl, hb2⟩
    replace k0 := cell_later hb2 k0
    replace kf : w2.frozen? ⟨g, 0, none⟩ = false := (hb2.frozen (p := ⟨g, 0, none⟩) ks1).trans kf
    replace e0 := cell_later hb2 e0
    replace e1 := cell_later hb2 e1
    replace e2 := cell_later hb2 e2
    replace m0 := cell_later hb2 m0
    have ks2 : g < w2.heap.size := Nat.lt_of_lt_of_le ks1 hb2.size
    have hbw2 := hbw.trans (hb2.mono hbw.size)
    clear hb2 hbw ks1
    cases hpk : pathOk pathB en.path with
    | false =>
      have hok : enOk en = false := by simp [enOk, hpk]
      go_wp2
      refine bodyPost_ret (v := TreeV none ([] : List En).length 0 2) ?_ rfl ⟨[], 2, .inr (.inl ⟨hv, hok, rfl, rfl⟩), ⟨none, 0, rfl, EL.nil _ _ _, Nat.le_refl _⟩, hbw2.setCell (p := ⟨g, 0, none⟩) hgw _⟩
      go_light
      simp [results, Try.results35, go_sem, TreeV, k0]
    | true =>
      by_cases htx : (1500 : Int) < en.text.size
      · have hok : enOk en = false := by simp [enOk, hpk]; omega
        go_wp2
        refine bodyPost_ret (v := TreeV none ([] : List En).length 0 2) ?_ rfl ⟨[], 2, .inr (.inl ⟨hv, hok, rfl, rfl⟩), ⟨none, 0, rfl, EL.nil _ _ _, Nat.le_refl _⟩, hbw2.setCell (p := ⟨g, 0, none⟩) hgw _⟩
        go_light
        simp [results, Try.results35, go_sem, TreeV, k0]
      · have hok : enOk en = true := by simp [enOk, hpk]; omega
        go_wp2
        go_loopw [6] (fun i wr => ∃ k : Nat, i = .int .i64 k ∧ k ≤ ts.length ∧ Keep (∀ x ∈ ts.take k, wayB x.path en.path = false) ∧ Below w2.heap.size w2 wr) (fun i _ => ts.length - (intOf i).toNat)
        case atStart => exact ⟨0, rfl, Nat.zero_le _, ⟨fun x hx => by simp at hx⟩, Below.refl _ _⟩
        case round =>
          obtain ⟨k, rfl, hk, hno, hbr⟩ := hrel
          have mr := cell_later hbr m0
          have E0 := cell_later hbr e0
          have E1 := cell_later hbr e1
          have E2 := cell_later hbr e2
          have K0 := cell_later hbr k0
          have KF : wr.frozen? ⟨g, 0, none⟩ = false := (hbr.frozen (p := ⟨g, 0, none⟩) ks2).trans kf
          have hbw3 := hbw2.trans (hbr.mono hbw2.size)
          have hEr := hts.below hbw3
          have hzr : g < wr.heap.size := Nat.lt_of_lt_of_le ks2 hbr.size
          by_cases hlt : k < ts.length
          · have hlt' : (k : Int) < ts.length := by omega
            obtain ⟨b, off, rfl, hc⟩ := hEr.at hlt
            obtain ⟨x0, _, _⟩ := hc k hlt
            clear hc hEr
            obtain ⟨xp, hxp⟩ : ∃ xp, ts[k].path = xp := ⟨_, rfl⟩
            obtain ⟨ep, hep⟩ : ∃ ep, en.path = ep := ⟨_, rfl⟩
            have HXP : Keep (ts[k].path = xp ∧ en.path = ep) := ⟨⟨hxp, hep⟩⟩
            have cj : ∀ x : Later wr, x.world.cell? ⟨b, off + k * 3, none⟩ = some (.string xp) := fun x => by rw [← hxp]; exact cell_later x.kept x0
            have z0 : ∀ x : Later wr, x.world.cell? ⟨be, 0, none⟩ = some (.string ep) := fun x => by rw [← hep]; exact cell_later x.kept E0
            clear hxp hep
            have zT : ∀ x : Later wr, x.world.cell? ⟨tb, 0, none⟩ = some (.slice (some ⟨b, off, none⟩) ts.length cap) := fun x => cell_later x.kept mr
            have HK : Keep (wr.cell? ⟨g, 0, none⟩ = some (.slice none 0 0) ∧ wr.frozen? ⟨g, 0, none⟩ = false ∧ g < wr.heap.size) := ⟨⟨K0, KF, hzr⟩⟩
            have HB : Keep (Below w2.heap.size w2 wr ∧ Below w.heap.size w wr) := ⟨⟨hbr, hbw3⟩⟩
            clear x0 E0 E1 E2 K0 KF hzr hbr hbw3 e0 e1 e2 k0 kf m0 ks2 hbw2 hts
            cases hq1 : beginsB ts[k].path en.path with
            | true =>
              have HWY : Keep (wayB ts[k].path en.path = true) := ⟨by simp [wayB, hq1]⟩
              have HC1 : Keep (∀ x : Later wr, Calls Try.prog 47 #[.string xp, .string ep] x.world fun e w'' => e = .returned (.bool true) ∧ ∃ y : Later wr, w'' = y.world) := ⟨fun x => Later.call x (begins_lit true (by rw [← HXP.out.1, ← HXP.out.2, ← beginsB_iff, hq1]) _)⟩
              have HC2 := HC1
              clear hq1
              go_wp2_with fail
              (haveI := later_any; refine wp_region_later (by kernel_rfl) (by kernel_rfl) ?_; (repeat (go_big_quiet_step (first | (go_at_call_of 47 ([Value.string xp, Value.string ep] : List Value); exact HC1.out _) | (go_at_call_of 47 ([Value.string ep, Value.string xp] : List Value); exact HC2.out _)))); refine wpQuiet_nil ?_; intro _ hwq; obtain ⟨xq, hwq2⟩ := hwq; subst hwq2)
              have K1 := cell_later xq.kept HK.out.1
              have KF1 : xq.world.frozen? ⟨g, 0, none⟩ = false := (xq.kept.frozen (p := ⟨g, 0, none⟩) HK.out.2.2).trans HK.out.2.1
              have hbr1 : Below w2.heap.size w2 xq.world := HB.out.1.trans (xq.kept.mono HB.out.1.size)
              have hbw1 : Below w.heap.size w xq.world := HB.out.2.trans (xq.kept.mono HB.out.2.size)
              clear cj z0 zT
              have hway : InWay ts en := ⟨ts[k], List.getElem_mem hlt, wayB_iff.1 HWY.out⟩
              go_wp2
              refine bodyPost_ret (v := TreeV none ([] : List En).length 0 3) ?_ rfl ⟨[], 3, .inr (.inr (.inl ⟨hv, hok, hway, rfl, rfl⟩)), ⟨none, 0, rfl, EL.nil _ _ _, Nat.le_refl _⟩, hbw1.setCell (p := ⟨g, 0, none⟩) hgw _⟩
              go_light
              simp [results, Try.results35, go_sem, TreeV, K1]
            | false =>
              cases hq2 : beginsB en.path ts[k].path with
              | true =>
                have HWY : Keep (wayB ts[k].path en.path = true) := ⟨by simp [wayB, hq2]⟩
                have HC1 : Keep (∀ x : Later wr, Calls Try.prog 47 #[.string xp, .string ep] x.world fun e w'' => e = .returned (.bool false) ∧ ∃ y : Later wr, w'' = y.world) := ⟨fun x => Later.call x (begins_lit false (by rw [← HXP.out.1, ← HXP.out.2, ← beginsB_iff, hq1]) _)⟩
                have HC2 : Keep (∀ x : Later wr, Calls Try.prog 47 #[.string ep, .string xp] x.world fun e w'' => e = .returned (.bool true) ∧ ∃ y : Later wr, w'' = y.world) := ⟨fun x => Later.call x (begins_lit true (by rw [← HXP.out.1, ← HXP.out.2, ← beginsB_iff, hq2]) _)⟩
                clear hq1 hq2
                go_wp2_with fail
                (haveI := later_any; refine wp_region_later (by kernel_rfl) (by kernel_rfl) ?_; (repeat (go_big_quiet_step (first | (go_at_call_of 47 ([Value.string xp, Value.string ep] : List Value); exact HC1.out _) | (go_at_call_of 47 ([Value.string ep, Value.string xp] : List Value); exact HC2.out _)))); refine wpQuiet_nil ?_; intro _ hwq; obtain ⟨xq, hwq2⟩ := hwq; subst hwq2)
                have K1 := cell_later xq.kept HK.out.1
                have KF1 : xq.world.frozen? ⟨g, 0, none⟩ = false := (xq.kept.frozen (p := ⟨g, 0, none⟩) HK.out.2.2).trans HK.out.2.1
                have hbr1 : Below w2.heap.size w2 xq.world := HB.out.1.trans (xq.kept.mono HB.out.1.size)
                have hbw1 : Below w.heap.size w xq.world := HB.out.2.trans (xq.kept.mono HB.out.2.size)
                clear cj z0 zT
                have hway : InWay ts en := ⟨ts[k], List.getElem_mem hlt, wayB_iff.1 HWY.out⟩
                go_wp2
                refine bodyPost_ret (v := TreeV none ([] : List En).length 0 3) ?_ rfl ⟨[], 3, .inr (.inr (.inl ⟨hv, hok, hway, rfl, rfl⟩)), ⟨none, 0, rfl, EL.nil _ _ _, Nat.le_refl _⟩, hbw1.setCell (p := ⟨g, 0, none⟩) hgw _⟩
                go_light
                simp [results, Try.results35, go_sem, TreeV, K1]
              | false =>
                have HNO : Keep (∀ x ∈ ts.take (k + 1), wayB x.path en.path = false) := ⟨fun x hx => by
                  rcases (mem_take_succ hlt x).1 hx with h3 | rfl
                  · exact hno.out x h3
                  · simp [wayB, hq1, hq2]⟩
                have HC1 : Keep (∀ x : Later wr, Calls Try.prog 47 #[.string xp, .string ep] x.world fun e w'' => e = .returned (.bool false) ∧ ∃ y : Later wr, w'' = y.world) := ⟨fun x => Later.call x (begins_lit false (by rw [← HXP.out.1, ← HXP.out.2, ← beginsB_iff, hq1]) _)⟩
                have HC2 : Keep (∀ x : Later wr, Calls Try.prog 47 #[.string ep, .string xp] x.world fun e w'' => e = .returned (.bool false) ∧ ∃ y : Later wr, w'' = y.world) := ⟨fun x => Later.call x (begins_lit false (by rw [← HXP.out.1, ← HXP.out.2, ← beginsB_iff, hq2]) _)⟩
                clear hq1 hq2
                go_wp2_with fail
                (haveI := later_any; refine wp_region_later (by kernel_rfl) (by kernel_rfl) ?_; (repeat (go_big_quiet_step (first | (go_at_call_of 47 ([Value.string xp, Value.string ep] : List Value); exact HC1.out _) | (go_at_call_of 47 ([Value.string ep, Value.string xp] : List Value); exact HC2.out _)))); refine wpQuiet_nil ?_; intro _ hwq; obtain ⟨xq, hwq2⟩ := hwq; subst hwq2)
                have K1 := cell_later xq.kept HK.out.1
                have KF1 : xq.world.frozen? ⟨g, 0, none⟩ = false := (xq.kept.frozen (p := ⟨g, 0, none⟩) HK.out.2.2).trans HK.out.2.1
                have hbr1 : Below w2.heap.size w2 xq.world := HB.out.1.trans (xq.kept.mono HB.out.1.size)
                have hbw1 : Below w.heap.size w xq.world := HB.out.2.trans (xq.kept.mono HB.out.2.size)
                clear cj z0 zT
                go_wp2
                go_roundw
                case rel => exact ⟨k + 1, by congr 1, hlt, HNO, hbr1⟩
                case measure => simp only [intOf]; omega
          · obtain rfl : k = ts.length := by omega
            have hfree : ¬ InWay ts en := fun ⟨x, hx, hw⟩ => by
              have := hno.out x (by rw [List.take_length]; exact hx)
              rw [wayB_iff.2 hw] at this
              cases this
            have hset := l5SetC_any a cap ts en wr hEr hn (valid_asc hv)
            clear hno hEr
            go_wp2_with fail
            refine hset.mono ?_
            rintro e w4 ⟨ad, cap4, us, rfl, hrel, hel, hb4, hlen, hroom⟩
            replace K0 := cell_later hb4 K0
            replace KF : w4.frozen? ⟨g, 0, none⟩ = false := (hb4.frozen (p := ⟨g, 0, none⟩) hzr).trans KF
            have hbw4 := hbw3.trans (hb4.mono hbw3.size)
            have hz4 : g < w4.heap.size := Nat.lt_of_lt_of_le hzr hb4.size
            have Ka : ∀ u o, ((w4.setCell ⟨g, 0, none⟩ u).alloc o).cell? ⟨g, 0, none⟩ = some u := fun u o => cell_later ((Below.refl _ _).alloc (Nat.le_refl _) _) (World.cell?_setCell_same _ _ _ K0)
            have hbw5 : ∀ u o, Below w.heap.size w ((w4.setCell ⟨g, 0, none⟩ u).alloc o) := fun u o => (hbw4.setCell (p := ⟨g, 0, none⟩) hgw u).alloc (hbw4.setCell (p := ⟨g, 0, none⟩) hgw u).size o
            have hel5 : ∀ u o, EL w.heap.size ((w4.setCell ⟨g, 0, none⟩ u).alloc o) ad us := fun u o => ((el_setQ (u := u) hel hzr).below ((Below.refl _ _).alloc (Nat.le_refl _) _)).mono hbw3.size
            clear hset hb4 mr E0 E1 E2 hel
            by_cases h100 : (100 : Int) < us.length
            · go_wp2
              refine bodyPost_ret (v := TreeV none ([] : List En).length 0 4) ?_ rfl ⟨[], 4, .inr (.inr (.inr ⟨hv, hok, hfree, us, hrel, .inl ⟨by omega, rfl, rfl⟩⟩)), ⟨none, 0, rfl, EL.nil _ _ _, Nat.le_refl _⟩, hbw5 _ _⟩
              go_light
              simp [results, Try.results35, go_sem, TreeV, Ka]
            · go_wp2
              refine bodyPost_ret (v := TreeV ad us.length cap4 0) ?_ rfl ⟨us, 0, .inr (.inr (.inr ⟨hv, hok, hfree, us, hrel, .inr ⟨by omega, rfl, rfl⟩⟩)), ⟨ad, cap4, rfl, hel5 _ _, hroom⟩, hbw5 _ _⟩
              go_light
              simp [results, Try.results35, go_sem, TreeV, Ka]

theorem specPut_any (a : Option Addr) (cap : Nat) (ts : List En) (en : En) (w : World) (hts : ES w a ts) (hn : ts.length ≤ 1048576) :
    Calls Try.prog 35 #[.agg #[.slice a ts.length cap], .agg #[.string en.path, .string en.text, .bool en.runs]] w fun e w' => PutPost ts en w e w' :=
  (specPutC_any a cap ts en w hts hn).mono (fun _ _ ⟨us, c, h1, ⟨ad, cp, h2, h3, _⟩, h4⟩ => ⟨us, c, h1, ⟨ad, cp, h2, h3⟩, h4⟩)
end Go.Proofs.Ytockgapdfcapnaa

namespace Go.Proofs.Ytockgapdfcapnaa
open Go.RowKit

def Tiny (P T : Nat) (ts : List En) : Prop := ∀ e ∈ ts, e.path.size ≤ P ∧ e.text.size ≤ T
/-- Where an address of a slice is none there is no room. -/
def NilOk (ad : Option Addr) (cp : Nat) : Prop := (∃ x, ad = some x) ∨ (ad = none ∧ cp = 0)
theorem NilOk.ne {B : Nat} {w : World} {ad : Option Addr} {cp : Nat} {ts : List En} (h : EL B w ad ts) (hne : ts ≠ []) : NilOk ad cp := by
  rcases h with h | ⟨g, h, _⟩
  · exact absurd h hne
  · exact .inl ⟨_, h⟩

/-- A tree in a box, beside a reader. -/
structure LD5 (g : Nat) (a : Option Addr) (cap : Nat) (zs : List Int) (w : World) (rs tb : Nat) (ad : Option Addr) (cp : Nat) (ts : List En) (p : Nat) (W : World) : Prop where
  rd : Rd W g a cap zs p
  gr : w.grownBy W (some g)
  rc : W.cell? ⟨rs, 0, none⟩ = some (.slice none 0 0)
  rf : W.frozen? ⟨rs, 0, none⟩ = false
  tc : W.cell? ⟨tb, 0, none⟩ = some (.slice ad ts.length cp)
  tf : W.frozen? ⟨tb, 0, none⟩ = false
  el : EL (tb + 1) W ad ts
  ord : g < rs ∧ rs < tb
theorem LD5.lt {g : Nat} {a : Option Addr} {cap : Nat} {zs : List Int} {w : World} {rs tb : Nat} {ad : Option Addr} {cp : Nat} {ts : List En} {p : Nat} {W : World} (h : LD5 g a cap zs w rs tb ad cp ts p W) : tb < W.heap.size := World.block_lt_of_cell? W ⟨tb, 0, none⟩ h.tc
theorem LD5.ltr {g : Nat} {a : Option Addr} {cap : Nat} {zs : List Int} {w : World} {rs tb : Nat} {ad : Option Addr} {cp : Nat} {ts : List En} {p : Nat} {W : World} (h : LD5 g a cap zs w rs tb ad cp ts p W) : rs < W.heap.size := World.block_lt_of_cell? W ⟨rs, 0, none⟩ h.rc
theorem fz_blk {w w' : World} {g j : Nat} (h : w'.heap[g]? = w.heap[g]?) (hf : w.frozen? ⟨g, j, none⟩ = false) : w'.frozen? ⟨g, j, none⟩ = false := by
  unfold World.frozen? at hf ⊢
  simp only at hf ⊢
  rw [h]; exact hf
theorem LD5.step {g : Nat} {a : Option Addr} {cap : Nat} {zs : List Int} {w : World} {rs tb : Nat} {ad : Option Addr} {cp : Nat} {ts : List En} {p p' : Nat} {W W' : World} (h : LD5 g a cap zs w rs tb ad cp ts p W) (hg : W.grownBy W' (some g)) (hR : Rd W' g a cap zs p') : LD5 g a cap zs w rs tb ad cp ts p' W' := by
  have o := h.ord
  have b1 := hg.block rs h.ltr (by simp; omega)
  have b2 := hg.block tb h.lt (by simp; omega)
  exact ⟨hR, gr_trans h.gr hg, (World.cell?_of_block b1).trans h.rc, fz_blk b1 h.rf, (World.cell?_of_block b2).trans h.tc, fz_blk b2 h.tf, h.el.grown hg (fun k _ hk _ e => by cases e; omega), o⟩
theorem LD5.later {g : Nat} {a : Option Addr} {cap : Nat} {zs : List Int} {w : World} {rs tb : Nat} {ad : Option Addr} {cp : Nat} {ts : List En} {p : Nat} {W W' : World} (h : LD5 g a cap zs w rs tb ad cp ts p W) (hb : Below W.heap.size W W') : LD5 g a cap zs w rs tb ad cp ts p W' := h.step (gr_below hb) (h.rd.below hb)
theorem LD5.al {g : Nat} {a : Option Addr} {cap : Nat} {zs : List Int} {w : World} {rs tb : Nat} {ad : Option Addr} {cp : Nat} {ts : List En} {p : Nat} {W : World} (h : LD5 g a cap zs w rs tb ad cp ts p W) (o : Obj) : LD5 g a cap zs w rs tb ad cp ts p (W.alloc o) := h.later (below_oneD _ _)
theorem LD5.drew {g : Nat} {a : Option Addr} {cap : Nat} {zs : List Int} {w : World} {rs tb : Nat} {ad : Option Addr} {cp : Nat} {ts : List En} {p : Nat} {W : World} (h : LD5 g a cap zs w rs tb ad cp ts p W) : LD5 g a cap zs w rs tb ad cp ts p W.drew := h.later (Below.refl _ _).drew
/-- Another tree is put into the box. -/
theorem LD5.put {g : Nat} {a : Option Addr} {cap : Nat} {zs : List Int} {w : World} {rs tb : Nat} {ad ad' : Option Addr} {cp cp' : Nat} {ts us : List En} {p : Nat} {W : World} (h : LD5 g a cap zs w rs tb ad cp ts p W) (he : EL (tb + 1) W ad' us) (hw : w.heap.size ≤ tb) : LD5 g a cap zs w rs tb ad' cp' us p (W.setCell ⟨tb, 0, none⟩ (.slice ad' us.length cp')) := by
  have o := h.ord
  have hg : W.grownBy (W.setCell ⟨tb, 0, none⟩ (.slice ad' us.length cp')) (some tb) := grown_set W tb 0 _
  refine ⟨h.rd.kept hg (fun k e => by cases e; omega), gr_own h.gr hg (fun j e => by cases e; exact hw), ?_, (World.frozen?_setCell _ _ _ _).trans h.rf, World.cell?_setCell_same _ _ _ h.tc, (World.frozen?_setCell _ _ _ _).trans h.tf, he.grown hg (fun k _ hk _ e => by cases e; omega), o⟩
  exact (World.cell?_of_block (Below.heap_setCell _ _ _ _ (by show rs ≠ tb; omega))).trans h.rc

/-- The same, behind a world of some size. -/
structure QD (lo g : Nat) (a : Option Addr) (cap : Nat) (zs : List Int) (w : World) (rs tb : Nat) (ad : Option Addr) (cp : Nat) (ts : List En) (p : Nat) (W : World) : Prop where
  ld : LD5 g a cap zs w rs tb ad cp ts p W
  sz : lo ≤ W.heap.size
theorem QD.step {lo g : Nat} {a : Option Addr} {cap : Nat} {zs : List Int} {w : World} {rs tb : Nat} {ad : Option Addr} {cp : Nat} {ts : List En} {p p' : Nat} {W W' : World} (h : QD lo g a cap zs w rs tb ad cp ts p W) (hg : W.grownBy W' (some g)) (hR : Rd W' g a cap zs p') : QD lo g a cap zs w rs tb ad cp ts p' W' := ⟨h.ld.step hg hR, Nat.le_trans h.sz hg.size⟩
theorem QD.al {lo g : Nat} {a : Option Addr} {cap : Nat} {zs : List Int} {w : World} {rs tb : Nat} {ad : Option Addr} {cp : Nat} {ts : List En} {p : Nat} {W : World} (h : QD lo g a cap zs w rs tb ad cp ts p W) (o : Obj) : QD lo g a cap zs w rs tb ad cp ts p (W.alloc o) := ⟨h.ld.al o, Nat.le_trans h.sz (by simp)⟩
theorem QD.drew {lo g : Nat} {a : Option Addr} {cap : Nat} {zs : List Int} {w : World} {rs tb : Nat} {ad : Option Addr} {cp : Nat} {ts : List En} {p : Nat} {W : World} (h : QD lo g a cap zs w rs tb ad cp ts p W) : QD lo g a cap zs w rs tb ad cp ts p W.drew := ⟨h.ld.drew, h.sz⟩

/-- A box that was made beside. -/
structure NC (lo nc : Nat) (W : World) : Prop where
  cell : W.cell? ⟨nc, 0, none⟩ = some (.slice none 0 0)
  fz : W.frozen? ⟨nc, 0, none⟩ = false
  lo : lo ≤ nc
theorem NC.lt {lo nc : Nat} {W : World} (h : NC lo nc W) : nc < W.heap.size := World.block_lt_of_cell? W ⟨nc, 0, none⟩ h.cell
theorem NC.step {g lo nc : Nat} {W W' : World} (h : NC lo nc W) (hg : W.grownBy W' (some g)) (hgt : g < lo) : NC lo nc W' := by
  have b := hg.block nc h.lt (by have := h.lo; simp; omega)
  exact ⟨(World.cell?_of_block b).trans h.cell, fz_blk b h.fz, h.lo⟩
theorem NC.newA {g lo : Nat} {Y W' : World} {t : TypeId} (hs : lo ≤ Y.heap.size) (hg : (Y.alloc (.cells #[.slice none 0 0] t)).grownBy W' (some g)) (hgt : g < lo) : NC lo Y.heap.size W' := by
  have b := hg.block Y.heap.size (by simp) (by simp; omega)
  exact ⟨(World.cell?_of_block b).trans (by simp), fz_blk b (by simp), hs⟩
theorem NC.newD {g lo : Nat} {Y W' : World} {t : TypeId} (hs : lo ≤ Y.heap.size) (hg : (Y.alloc (.cells #[.slice none 0 0] t)).drew.grownBy W' (some g)) (hgt : g < lo) : NC lo Y.heap.size W' := by
  have b := hg.block Y.heap.size (by simp) (by simp; omega)
  exact ⟨(World.cell?_of_block b).trans (by simp), fz_blk b (by simp), hs⟩

/-- Behind spec.Put in a region that draws. -/
def CutP (g : Nat) (a : Option Addr) (cap : Nat) (zs : List Int) (w : World) (rs tb : Nat) (ad : Option Addr) (cp : Nat) (ts : List En) (P T p : Nat) (pv cc : Value) (W : World) : Prop :=
  ∃ us c ad' cp' nc p2 en, pv = .pointer (some ⟨nc, 0, none⟩) ∧ cc = .int .i64 c ∧ Tiny P T [en] ∧ PutR ts en us c ∧ EL (tb + 1) W ad' us ∧ W.cell? ⟨nc, 0, none⟩ = some (.slice ad' us.length cp') ∧ LD5 g a cap zs w rs tb ad cp ts p2 W ∧ p2 ≤ p
theorem cutP_mk {g : Nat} {a : Option Addr} {cap : Nat} {zs : List Int} {w : World} {rs tb : Nat} {ad ad' : Option Addr} {cp cp' : Nat} {ts us : List En} {P T p p2 : Nat} {c : Int} {en : En} {B : Nat} {W : World} (he : Tiny P T [en]) (hR : PutR ts en us c) (hel : EL B W ad' us) (hB : tb < B) (hl : LD5 g a cap zs w rs tb ad cp ts p2 W) (hp : p2 ≤ p) :
    CutP g a cap zs w rs tb ad cp ts P T p (.pointer (some ⟨W.heap.size, 0, none⟩)) (.int .i64 c) (W.alloc (.cells #[.slice ad' us.length cp'] 32)) :=
  ⟨us, c, ad', cp', W.heap.size, p2, en, rfl, rfl, he, hR, (hel.below (below_oneD _ _)).mono hB, by simp, hl.al _, hp⟩
theorem cutP_mk' {g : Nat} {a : Option Addr} {cap : Nat} {zs : List Int} {w : World} {rs tb : Nat} {ad ad' : Option Addr} {cp cp' : Nat} {ts us : List En} {P T p p2 : Nat} {c : Int} {en : En} {B nc : Nat} {W : World} (he : Tiny P T [en]) (hR : PutR ts en us c) (hel : EL B W ad' us) (hB : tb < B) (hl : LD5 g a cap zs w rs tb ad cp ts p2 W) (hp : p2 ≤ p) {lo : Nat} (N : NC lo nc W) (hn : nc < B) (hlo : tb < lo) (hw : w.heap.size ≤ tb) (hap : ts = [] ∨ ∃ k, blk ad = some k ∧ k < lo) :
    CutP g a cap zs w rs tb ad cp ts P T p (.pointer (some ⟨nc, 0, none⟩)) (.int .i64 c) (W.setCell ⟨nc, 0, none⟩ (.slice ad' us.length cp')) := by
  have hg : W.grownBy (W.setCell ⟨nc, 0, none⟩ (.slice ad' us.length cp')) (some nc) := grown_set W nc 0 _
  have o := hl.ord
  have lo := N.lo
  refine ⟨us, c, ad', cp', nc, p2, en, rfl, rfl, he, hR, (hel.grown hg (fun k _ hk _ e => by cases e; omega)).mono hB, World.cell?_setCell_same _ _ _ N.cell, ?_, hp⟩
  refine ⟨hl.rd.kept hg (fun k e => by cases e; omega), gr_own hl.gr hg (fun j e => by cases e; omega), ?_, (World.frozen?_setCell _ _ _ _).trans hl.rf, ?_, (World.frozen?_setCell _ _ _ _).trans hl.tf, ?_, o⟩
  · exact (World.cell?_of_block (Below.heap_setCell _ _ _ _ (by show rs ≠ nc; omega))).trans hl.rc
  · exact (World.cell?_of_block (Below.heap_setCell _ _ _ _ (by show tb ≠ nc; omega))).trans hl.tc
  · rcases hap with h | h
    · subst h; exact EL.nil _ _ _
    · obtain ⟨k0, h1, h2⟩ := h
      exact hl.el.grown hg (fun k hk _ _ e => by rw [h1] at hk; cases hk; cases e; omega)
end Go.Proofs.Ytockgapdfcapnaa

namespace Go.Proofs.Ytockgapdfcapnaa
open Go.RowKit

theorem conv_oneM (x : Int) (w : World) : (convert 22 9 (.slice (some ⟨w.heap.size, 0, none⟩) 1 1)).run Try.prog (w.alloc (.cells #[.int .u8 x] 5)) = .ok (.string (strOfNums [x])) (w.alloc (.cells #[.int .u8 x] 5)) := by
  refine run_convert_bytes_arg _ 22 5 Try.underlying22 Try.underlying5 _ 0 1 1 [x] rfl ?_ 9 Try.underlying9
  intro i hi
  obtain rfl : i = 0 := by omega
  simp

set_option maxHeartbeats 1000000 in
theorem dec_any (n : Nat) (w : World) (hn : n < 10) :
    Calls Try.prog 37 #[.int .i64 (n : Int)] w fun e w' => ∃ s : ByteArray, e = .returned (.string s) ∧ s.size = 1 ∧ Below w.heap.size w w' := by
  have hcv := conv_oneM (48 + (n : Int)) w
  have hn' : (n : Int) < 10 := by omega
  go_enter Try.func37, Try.ntmps37
  go_wp2
  go_ret
  exact ⟨_, rfl, by rw [strOfNums_size]; rfl, (Below.refl _ _).alloc (Nat.le_refl _) _⟩
end Go.Proofs.Ytockgapdfcapnaa

namespace Go.Proofs.Ytockgapdfcapnaa
open Go.RowKit

def tTab (n q r : Nat) : Nat → Option Value
  | 0 => some (.int .i64 n)
  | 1 => some (.int .i64 (q : Int))
  | 3 => some (.int .i64 n)
  | 4 => some (.int .i64 (r : Int))
  | 5 => some (.int .i64 (48 + (r : Int)))
  | 6 => some (.int .u8 (48 + (r : Int)))
  | 8 => some (.string (strOfNums [48 + (r : Int)]))
  | _ => none
def tEx (r : Nat) : Nat → Value → World → Prop
  | 2 => fun v _ => ∃ s : ByteArray, v = .string s ∧ s.size = 1
  | 7 => fun v w => ∃ b, v = .slice (some ⟨b, 0, none⟩) 1 1 ∧ w.cell? ⟨b, 0, none⟩ = some (.int .u8 (48 + (r : Int)))
  | 9 => fun v _ => ∃ s : ByteArray, v = .string s ∧ s.size ≤ 2
  | 10 => fun v _ => ∃ s : ByteArray, v = .string s ∧ s.size ≤ 2
  | _ => fun _ _ => True
theorem tSt (r : Nat) : ∀ i v w w', Below w.heap.size w w' → tEx r i v w → tEx r i v w' := fun i v w w' hb h => by
  match i, h with
  | 2, h => exact h
  | 7, ⟨b, h1, h2⟩ => exact ⟨b, h1, cell_later hb h2⟩
  | 9, h => exact h
  | 10, h => exact h
  | 0, h | 1, h | 3, h | 4, h | 5, h | 6, h | 8, h => exact h
  | (_ + 11), h => exact h
def tDs : List Nat := [10, 11, 12, 13, 14, 15, 16, 17, 18, 19, 2]
theorem tNd : tDs.Nodup := by decide
theorem conv_at (x : Int) (w : World) (b : Nat) (h : w.cell? ⟨b, 0, none⟩ = some (.int .u8 x)) : (convert 22 9 (.slice (some ⟨b, 0, none⟩) 1 1)).run Try.prog w = .ok (.string (strOfNums [x])) w := by
  refine run_convert_bytes_arg _ 22 5 Try.underlying22 Try.underlying5 _ 0 1 1 [x] rfl ?_ 9 Try.underlying9
  intro i hi
  obtain rfl : i = 0 := by omega
  simpa using h

set_option maxRecDepth 100000 in
set_option maxHeartbeats 4000000 in
theorem dec2_any (n : Nat) (w : World) (hn : n < 100) :
    Calls Try.prog 37 #[.int .i64 (n : Int)] w fun e w' => ∃ s : ByteArray, e = .returned (.string s) ∧ s.size ≤ 2 ∧ Below w.heap.size w w' := by
  by_cases h10 : n < 10
  · refine (dec_any n w h10).mono ?_
    rintro e w' ⟨s, h1, h2, h3⟩
    exact ⟨s, h1, by omega, h3⟩
  · have hn' : ¬ (n : Int) < 10 := by omega
    obtain ⟨q, hq⟩ : ∃ q : Nat, (n : Int) / 10 = q := ⟨n / 10, by omega⟩
    obtain ⟨r, hr⟩ : ∃ r : Nat, (n : Int) % 10 = r := ⟨n % 10, by omega⟩
    have hq9 : q < 10 := by omega
    have hr9 : r < 10 := by omega
    have hd := fun W => dec_any q W hq9
    have w1 : IntKind.i64.wrap (q : Int) = q := by rw [IntKind.wrap_i64] <;> omega
    have w2 : IntKind.i64.wrap (48 + (r : Int)) = 48 + r := by rw [IntKind.wrap_i64] <;> omega
    have w3 : IntKind.u8.wrap (48 + (r : Int)) = 48 + r := by first | (rw [IntKind.wrap_u8] <;> omega) | (simp [IntKind.wrap]; omega) | (unfold IntKind.wrap; simp; omega)
    have hr2 : (n : Int).tmod 10 = r := by rw [← hr]; exact Int.tmod_eq_emod_of_nonneg (by omega)
    have hq2 : (n : Int).tdiv 10 = q := by rw [← hq]; exact Int.tdiv_eq_ediv_of_nonneg (by omega)
    go_enter Try.func37, Try.ntmps37
    go_upto_region 3 with fail
    refine (wpIn_wide (n := 0)).1 ?_
    refine wpIn_region_inv0 (by kernel_rfl) (by kernel_rfl) (fun T0 => EV0 T0 tDs (tTab n q r) (tEx r) w) ?_ ?_ ?_
    · exact ⟨Sl2.start _, (Below.refl _ _).drew, fun i _ hL => by rw [getD_repl] at hL; cases hL⟩
    · intro L a2 w9 hinv hall
      obtain ⟨s, hs1, hs2⟩ : ∃ s : ByteArray, a2.eval (.tmp 2) = .string s ∧ s.size ≤ 2 := hinv.ex 10 (by decide) (hall 10 (by decide))
      have e2 : a2.tmps.getD 2 undef = .string s := hs1
      have HXX : Keep _ := ⟨hinv.sl.act⟩
      have hb9 := hinv.wd
      clear hinv hall
      rw [HXX.out]
      simp only [updL, tDs, List.contains_cons, List.contains_nil, Nat.reduceAdd, Nat.reduceBEq, Bool.or_false, cond_false, cond_true, Bool.or_true, e2]
      go_wp2
      go_ret
      exact ⟨s, rfl, hs2, hb9⟩
    · intro L a2 w9 i o hinv hcl hL ho hdep
      have hi11 : i < 11 := (Array.getElem?_eq_some_iff.1 ho).1
      unfold wpOpIn
      rw [ho]
      clear hcl
      match i, hi11, hL, ho, hdep with
      | 0, _, hL, ho, hdep =>
        injection ho with ho; subst ho
        dsimp only
        rw [if_pos (by rfl)]
        refine ⟨fun f _ => trivial, ?_⟩
        have e0 : a2.tmps[0]?.getD undef = .int .i64 (n : Int) := hinv.sl.old (by decide)
        go_simp
        exact hinv.step tNd (tSt r) (i := 0) (by decide) (by show 10 < 20; decide) (fun u hu => by cases hu; rfl) trivial (Below.refl _ _)
      | 1, _, hL, ho, hdep =>
        injection ho with ho; subst ho
        dsimp only
        rw [if_pos (by rfl)]
        refine ⟨fun f _ => trivial, ?_⟩
        have e10 : a2.tmps[10]?.getD undef = .int .i64 (n : Int) := hinv.sl.new (i := 0) (by decide) rfl (hdep ⟨0, .data⟩ (by simp) rfl)
        go_simp
        exact hinv.step tNd (tSt r) (i := 1) (by decide) (by show 11 < 20; decide) (fun u hu => by cases hu; rfl) trivial (Below.refl _ _)
      | 2, _, hL, ho, hdep =>
        injection ho with ho; subst ho
        dsimp only
        rw [if_pos (by rfl)]
        refine ⟨fun f _ => trivial, ?_⟩
        have e11 : a2.tmps[11]?.getD undef = .int .i64 (q : Int) := hinv.sl.new (i := 1) (by decide) rfl (hdep ⟨1, .data⟩ (by simp) rfl)
        go_simp
        refine ⟨rfl, CallsIn.mono (callsIn_wide.2 (hd _)) ?_⟩
        rintro e' w' ⟨s, rfl, hs, hb'⟩
        exact hinv.step tNd (tSt r) (i := 2) (by decide) (by show 12 < 20; decide) (fun u hu => by cases hu) ⟨s, rfl, hs⟩ hb'
      | 3, _, hL, ho, hdep =>
        injection ho with ho; subst ho
        dsimp only
        rw [if_pos (by rfl)]
        refine ⟨fun f _ => trivial, ?_⟩
        have e0 : a2.tmps[0]?.getD undef = .int .i64 (n : Int) := hinv.sl.old (by decide)
        go_simp
        exact hinv.step tNd (tSt r) (i := 3) (by decide) (by show 13 < 20; decide) (fun u hu => by cases hu; rfl) trivial (Below.refl _ _)
      | 4, _, hL, ho, hdep =>
        injection ho with ho; subst ho
        dsimp only
        rw [if_pos (by rfl)]
        refine ⟨fun f _ => trivial, ?_⟩
        have e13 : a2.tmps[13]?.getD undef = .int .i64 (n : Int) := hinv.sl.new (i := 3) (by decide) rfl (hdep ⟨3, .data⟩ (by simp) rfl)
        go_simp
        exact hinv.step tNd (tSt r) (i := 4) (by decide) (by show 14 < 20; decide) (fun u hu => by cases hu; rfl) trivial (Below.refl _ _)
      | 5, _, hL, ho, hdep =>
        injection ho with ho; subst ho
        dsimp only
        rw [if_pos (by rfl)]
        refine ⟨fun f _ => trivial, ?_⟩
        have e14 : a2.tmps[14]?.getD undef = .int .i64 (r : Int) := hinv.sl.new (i := 4) (by decide) rfl (hdep ⟨4, .data⟩ (by simp) rfl)
        go_simp
        exact hinv.step tNd (tSt r) (i := 5) (by decide) (by show 15 < 20; decide) (fun u hu => by cases hu; rfl) trivial (Below.refl _ _)
      | 6, _, hL, ho, hdep =>
        injection ho with ho; subst ho
        dsimp only
        rw [if_pos (by rfl)]
        refine ⟨fun f _ => trivial, ?_⟩
        have e15 : a2.tmps[15]?.getD undef = .int .i64 (48 + (r : Int)) := hinv.sl.new (i := 5) (by decide) rfl (hdep ⟨5, .data⟩ (by simp) rfl)
        go_simp
        exact hinv.step tNd (tSt r) (i := 6) (by decide) (by show 16 < 20; decide) (fun u hu => by cases hu; rfl) trivial (Below.refl _ _)
      | 7, _, hL, ho, hdep =>
        injection ho with ho; subst ho
        dsimp only
        rw [if_pos (by rfl)]
        refine ⟨fun f _ => trivial, ?_⟩
        have e16 : a2.tmps[16]?.getD undef = .int .u8 (48 + (r : Int)) := hinv.sl.new (i := 6) (by decide) rfl (hdep ⟨6, .data⟩ (by simp) rfl)
        go_simp
        exact hinv.step tNd (tSt r) (i := 7) (by decide) (by show 17 < 20; decide) (fun u hu => by cases hu) ⟨w9.heap.size, rfl, by simp⟩ ((Below.refl _ _).alloc (Nat.le_refl _) _)
      | 8, _, hL, ho, hdep =>
        injection ho with ho; subst ho
        dsimp only
        rw [if_pos (by rfl)]
        refine ⟨fun f _ => trivial, ?_⟩
        obtain ⟨b7, h71, h72⟩ := hinv.ex 7 (by decide) (hdep ⟨7, .data⟩ (by simp) rfl)
        have e17 : a2.tmps[17]?.getD undef = .slice (some ⟨b7, 0, none⟩) 1 1 := evalD2 h71
        have hcv := conv_at _ w9 b7 h72
        go_simp
        exact hinv.step tNd (tSt r) (i := 8) (by decide) (by show 18 < 20; decide) (fun u hu => by cases hu; rfl) trivial (Below.refl _ _)
      | 9, _, hL, ho, hdep =>
        injection ho with ho; subst ho
        dsimp only
        rw [if_pos (by rfl)]
        refine ⟨fun f _ => trivial, ?_⟩
        obtain ⟨s, h21, h22⟩ := hinv.ex 2 (by decide) (hdep ⟨2, .data⟩ (by simp) rfl)
        have e12 : a2.tmps[12]?.getD undef = .string s := evalD2 h21
        have e18 : a2.tmps[18]?.getD undef = .string (strOfNums [48 + (r : Int)]) := hinv.sl.new (i := 8) (by decide) rfl (hdep ⟨8, .data⟩ (by simp) rfl)
        have hc3 : ¬ 9223372036854775807 < s.size + (strOfNums [48 + (r : Int)]).size := by rw [h22, strOfNums_size]; simp
        go_simp
        exact hinv.step tNd (tSt r) (i := 9) (by decide) (by show 19 < 20; decide) (fun u hu => by cases hu) ⟨_, rfl, by rw [ByteArray.size_append, h22]; first | omega | (rw [strOfNums_size]; simp)⟩ (Below.refl _ _)
      | 10, _, hL, ho, hdep =>
        injection ho with ho; subst ho
        dsimp only
        rw [if_pos (by rfl)]
        refine ⟨fun f _ => trivial, ?_⟩
        obtain ⟨s, h91, h92⟩ := hinv.ex 9 (by decide) (hdep ⟨9, .data⟩ (by simp) rfl)
        have e19 : a2.tmps[19]?.getD undef = .string s := evalD2 h91
        go_simp
        exact hinv.step tNd (tSt r) (i := 10) (by decide) (by show 2 < 20; decide) (fun u hu => by cases hu) ⟨s, rfl, h92⟩ (Below.refl _ _)
end Go.Proofs.Ytockgapdfcapnaa

namespace Go.Proofs.Ytockgapdfcapnaa
open Go.RowKit

/-- A tree: where its entries lie, their room. -/
structure Tr where
  ad : Option Addr
  cp : Nat
  ts : List En
def Tr.v (t : Tr) : Value := .slice t.ad t.ts.length t.cp
/-- A tree in a box b; its entries lie in no block of F. -/
structure TX (F : List Nat) (b : Nat) (t : Tr) (W : World) : Prop where
  c : W.cell? ⟨b, 0, none⟩ = some (.slice t.ad t.ts.length t.cp)
  f : W.frozen? ⟨b, 0, none⟩ = false
  el : EL 0 W t.ad t.ts
  ne : t.ts = [] ∨ ∀ k ∈ F, blk t.ad ≠ some k
  rm : t.ts.length ≤ t.cp
section
variable {F : List Nat} {b k : Nat} {t u : Tr} {W W' : World}
theorem TX.lt (h : TX F b t W) : b < W.heap.size := World.block_lt_of_cell? W ⟨b, 0, none⟩ h.c
theorem TX.later (h : TX F b t W) (hb : Below W.heap.size W W') : TX F b t W' :=
  ⟨cell_later hb h.c, (hb.frozen (p := ⟨b, 0, none⟩) h.lt).trans h.f, h.el.below hb, h.ne, h.rm⟩
theorem TX.grown (h : TX F b t W) (hg : W.grownBy W' (some k)) (hk : k ∈ F) (hb : b ≠ k) : TX F b t W' := by
  have hh := hg.block b h.lt (fun e => hb (by cases e; rfl))
  refine ⟨(World.cell?_of_block hh).trans h.c, frozen_of hh h.f, ?_, h.ne, h.rm⟩
  rcases h.ne with h0 | h0
  · rw [h0]; exact EL.nil _ _ _
  · exact h.el.grown hg (fun j hj _ _ e => by cases e; exact h0 k hk hj)
theorem TX.put (h : TX F b t W) (hb : b ∈ F) (he : EL 0 W u.ad u.ts) (hn : u.ts = [] ∨ ∀ k ∈ F, blk u.ad ≠ some k) (hr : u.ts.length ≤ u.cp) : TX F b u (W.setCell ⟨b, 0, none⟩ (.slice u.ad u.ts.length u.cp)) := by
  refine ⟨World.cell?_setCell_same _ _ _ h.c, (World.frozen?_setCell _ _ _ _).trans h.f, ?_, hn, hr⟩
  rcases hn with h0 | h0
  · rw [h0]; exact EL.nil _ _ _
  · exact he.grown (grown_set0 W b 0 _) (fun j hj _ _ e => by cases e; exact h0 b hb hj)
end
theorem EL.off {B : Nat} {W : World} {ad : Option Addr} {us : List En} {F : List Nat} (h : EL B W ad us) (hF : ∀ k ∈ F, k < B) : us = [] ∨ ∀ k ∈ F, blk ad ≠ some k := by
  rcases h with h | ⟨g, e, h1, _⟩
  · exact .inl h
  · refine .inr fun k hk e' => ?_
    rw [e] at e'
    have e2 : g = k := by simpa [blk] using e'
    have := hF k hk
    omega

theorem EL.btw {B : Nat} {W : World} {ad : Option Addr} {us : List En} (h : EL B W ad us) : us = [] ∨ ∃ k, blk ad = some k ∧ B ≤ k ∧ k < W.heap.size := by
  rcases h with h | ⟨g, e, h1, h2, _⟩
  · exact .inl h
  · exact .inr ⟨g, by rw [e]; rfl, h1, h2⟩
theorem TX.wide {F F' : List Nat} {b : Nat} {t : Tr} {W : World} (h : TX F b t W) {lo hi : Nat} (hn : t.ts = [] ∨ ∃ k, blk t.ad = some k ∧ lo ≤ k ∧ k < hi) (hF : ∀ k ∈ F', k < lo ∨ hi ≤ k) : TX F' b t W := ⟨h.c, h.f, h.el, by
  rcases hn with h0 | ⟨j, h1, h2, h3⟩
  · exact .inl h0
  · refine .inr fun k hk e => ?_
    rw [h1] at e
    cases e
    have := hF j hk
    omega, h.rm⟩
theorem TX.new {g : Nat} {t : Tr} {B : Nat} {W : World} (h : EL B W t.ad t.ts) (hB : g < B) (hr : t.ts.length ≤ t.cp) : TX [g] W.heap.size t (W.alloc (.cells #[.slice t.ad t.ts.length t.cp] 32)) := by
  have hba := below_oneD W (.cells #[.slice t.ad t.ts.length t.cp] 32)
  exact ⟨by simp, by simp, (h.mono (Nat.zero_le _)).below hba, h.off (fun k hk => by rw [List.mem_singleton.1 hk]; exact hB), hr⟩

def mF (r2 r3 r4 g b6 b7 b8 : Nat) : List Nat := [r2, r3, r4, g, b6, b7, b8]
structure M3 (w : World) (g r2 r3 r4 b6 b7 b8 : Nat) (a : Option Addr) (cap : Nat) (zs : List Int) (p : Nat) (t6 t7 t8 : Tr) (W : World) : Prop where
  rd : Rd W g a cap zs p
  bw : Below w.heap.size w W
  x6 : TX (mF r2 r3 r4 g b6 b7 b8) b6 t6 W
  x7 : TX (mF r2 r3 r4 g b6 b7 b8) b7 t7 W
  x8 : TX (mF r2 r3 r4 g b6 b7 b8) b8 t8 W
  c2 : W.cell? ⟨r2, 0, none⟩ = some (.slice none 0 0)
  f2 : W.frozen? ⟨r2, 0, none⟩ = false
  c3 : W.cell? ⟨r3, 0, none⟩ = some (.slice none 0 0)
  f3 : W.frozen? ⟨r3, 0, none⟩ = false
  c4 : W.cell? ⟨r4, 0, none⟩ = some (.slice none 0 0)
  f4 : W.frozen? ⟨r4, 0, none⟩ = false
  ord : w.heap.size ≤ r2 ∧ r2 < r3 ∧ r3 < r4 ∧ r4 < g ∧ g < b6 ∧ b6 < b7 ∧ b7 < b8
section
variable {w : World} {g r2 r3 r4 b6 b7 b8 : Nat} {a : Option Addr} {cap : Nat} {zs : List Int} {p p' : Nat} {t6 t7 t8 u : Tr} {W W' : World}
theorem M3.step (h : M3 w g r2 r3 r4 b6 b7 b8 a cap zs p t6 t7 t8 W) (hg : W.grownBy W' (some g)) (hR : Rd W' g a cap zs p') : M3 w g r2 r3 r4 b6 b7 b8 a cap zs p' t6 t7 t8 W' := by
  have o := h.ord
  have k2 := hg.block r2 (World.block_lt_of_cell? W ⟨r2, 0, none⟩ h.c2) (by simp; omega)
  have k3 := hg.block r3 (World.block_lt_of_cell? W ⟨r3, 0, none⟩ h.c3) (by simp; omega)
  have k4 := hg.block r4 (World.block_lt_of_cell? W ⟨r4, 0, none⟩ h.c4) (by simp; omega)
  exact ⟨hR, h.bw.grown hg h.bw.size (fun j e => by cases e; omega), h.x6.grown hg (by simp [mF]) (by omega), h.x7.grown hg (by simp [mF]) (by omega), h.x8.grown hg (by simp [mF]) (by omega), (World.cell?_of_block k2).trans h.c2, frozen_of k2 h.f2, (World.cell?_of_block k3).trans h.c3, frozen_of k3 h.f3, (World.cell?_of_block k4).trans h.c4, frozen_of k4 h.f4, o⟩
theorem M3.later (h : M3 w g r2 r3 r4 b6 b7 b8 a cap zs p t6 t7 t8 W) (hb : Below W.heap.size W W') : M3 w g r2 r3 r4 b6 b7 b8 a cap zs p t6 t7 t8 W' := h.step (gr_below hb) (h.rd.below hb)
theorem M3.rest (h : M3 w g r2 r3 r4 b6 b7 b8 a cap zs p t6 t7 t8 W) {k : Nat} (v : Value) (hk : k = b6 ∨ k = b7 ∨ k = b8) : Rd (W.setCell ⟨k, 0, none⟩ v) g a cap zs p ∧ Below w.heap.size w (W.setCell ⟨k, 0, none⟩ v) ∧ ((W.setCell ⟨k, 0, none⟩ v).cell? ⟨r2, 0, none⟩ = some (.slice none 0 0) ∧ (W.setCell ⟨k, 0, none⟩ v).frozen? ⟨r2, 0, none⟩ = false) ∧ ((W.setCell ⟨k, 0, none⟩ v).cell? ⟨r3, 0, none⟩ = some (.slice none 0 0) ∧ (W.setCell ⟨k, 0, none⟩ v).frozen? ⟨r3, 0, none⟩ = false) ∧ (W.setCell ⟨k, 0, none⟩ v).cell? ⟨r4, 0, none⟩ = some (.slice none 0 0) ∧ (W.setCell ⟨k, 0, none⟩ v).frozen? ⟨r4, 0, none⟩ = false := by
  have o := h.ord
  have hg : W.grownBy (W.setCell ⟨k, 0, none⟩ v) (some k) := grown_set0 W k 0 v
  have k2 := hg.block r2 (World.block_lt_of_cell? W ⟨r2, 0, none⟩ h.c2) (by simp; omega)
  have k3 := hg.block r3 (World.block_lt_of_cell? W ⟨r3, 0, none⟩ h.c3) (by simp; omega)
  have k4 := hg.block r4 (World.block_lt_of_cell? W ⟨r4, 0, none⟩ h.c4) (by simp; omega)
  exact ⟨h.rd.kept hg (fun j e => by cases e; omega), h.bw.setCell (p := ⟨k, 0, none⟩) (by show _ ≤ k; omega) _, ⟨(World.cell?_of_block k2).trans h.c2, frozen_of k2 h.f2⟩, ⟨(World.cell?_of_block k3).trans h.c3, frozen_of k3 h.f3⟩, (World.cell?_of_block k4).trans h.c4, frozen_of k4 h.f4⟩
theorem M3.all (h : M3 w g r2 r3 r4 b6 b7 b8 a cap zs p t6 t7 t8 W) : ∀ k ∈ mF r2 r3 r4 g b6 b7 b8, k < b8 + 1 := fun k hk => by
  have o := h.ord
  simp only [mF, List.mem_cons, List.not_mem_nil, or_false] at hk
  omega
theorem M3.put6 (h : M3 w g r2 r3 r4 b6 b7 b8 a cap zs p t6 t7 t8 W) (he : EL (b8 + 1) W u.ad u.ts) (hr : u.ts.length ≤ u.cp) : M3 w g r2 r3 r4 b6 b7 b8 a cap zs p u t7 t8 (W.setCell ⟨b6, 0, none⟩ (.slice u.ad u.ts.length u.cp)) := by
  obtain ⟨h1, h2, ⟨h3, h4⟩, ⟨h5, h6⟩, h7, h8⟩ := h.rest (.slice u.ad u.ts.length u.cp) (.inl rfl)
  have o := h.ord
  exact ⟨h1, h2, h.x6.put (by simp [mF]) (he.mono (Nat.zero_le _)) (he.off h.all) hr, h.x7.grown (grown_set0 _ _ _ _) (by simp [mF]) (by omega), h.x8.grown (grown_set0 _ _ _ _) (by simp [mF]) (by omega), h3, h4, h5, h6, h7, h8, o⟩
theorem M3.put7 (h : M3 w g r2 r3 r4 b6 b7 b8 a cap zs p t6 t7 t8 W) (he : EL (b8 + 1) W u.ad u.ts) (hr : u.ts.length ≤ u.cp) : M3 w g r2 r3 r4 b6 b7 b8 a cap zs p t6 u t8 (W.setCell ⟨b7, 0, none⟩ (.slice u.ad u.ts.length u.cp)) := by
  obtain ⟨h1, h2, ⟨h3, h4⟩, ⟨h5, h6⟩, h7, h8⟩ := h.rest (.slice u.ad u.ts.length u.cp) (.inr (.inl rfl))
  have o := h.ord
  exact ⟨h1, h2, h.x6.grown (grown_set0 _ _ _ _) (by simp [mF]) (by omega), h.x7.put (by simp [mF]) (he.mono (Nat.zero_le _)) (he.off h.all) hr, h.x8.grown (grown_set0 _ _ _ _) (by simp [mF]) (by omega), h3, h4, h5, h6, h7, h8, o⟩
theorem M3.put8 (h : M3 w g r2 r3 r4 b6 b7 b8 a cap zs p t6 t7 t8 W) (he : EL (b8 + 1) W u.ad u.ts) (hr : u.ts.length ≤ u.cp) : M3 w g r2 r3 r4 b6 b7 b8 a cap zs p t6 t7 u (W.setCell ⟨b8, 0, none⟩ (.slice u.ad u.ts.length u.cp)) := by
  obtain ⟨h1, h2, ⟨h3, h4⟩, ⟨h5, h6⟩, h7, h8⟩ := h.rest (.slice u.ad u.ts.length u.cp) (.inr (.inr rfl))
  have o := h.ord
  exact ⟨h1, h2, h.x6.grown (grown_set0 _ _ _ _) (by simp [mF]) (by omega), h.x7.grown (grown_set0 _ _ _ _) (by simp [mF]) (by omega), h.x8.put (by simp [mF]) (he.mono (Nat.zero_le _)) (he.off h.all) hr, h3, h4, h5, h6, h7, h8, o⟩
end
/-- What is handed back, or nothing yet. -/
def rcV (b : Bool) (t : Tr) : Value := bif b then .slice t.ad t.ts.length t.cp else .slice none 0 0
def zTab (t6 t7 t8 : Tr) : Nat → Option Value
  | 0 => some (.agg #[.slice t6.ad t6.ts.length t6.cp])
  | 1 => some (.agg #[.slice t7.ad t7.ts.length t7.cp])
  | 2 => some (.agg #[.slice t8.ad t8.ts.length t8.cp])
  | _ => none
def zDs : List Nat := [87, 88, 89, 1000, 1001, 1002]
theorem zNd : zDs.Nodup := by decide
structure RV3 (w : World) (g r2 r3 r4 b6 b7 b8 : Nat) (t6 t7 t8 : Tr) (T0 : Array Value) (L : Array Bool) (a : Act) (W : World) : Prop where
  sl : Sl2 T0 zDs (zTab t6 t7 t8) L a
  bw : Below w.heap.size w W
  x6 : TX (mF r2 r3 r4 g b6 b7 b8) b6 t6 W
  x7 : TX (mF r2 r3 r4 g b6 b7 b8) b7 t7 W
  x8 : TX (mF r2 r3 r4 g b6 b7 b8) b8 t8 W
  c2 : W.cell? ⟨r2, 0, none⟩ = some (rcV (L.getD 3 false) t6)
  f2 : W.frozen? ⟨r2, 0, none⟩ = false
  c3 : W.cell? ⟨r3, 0, none⟩ = some (rcV (L.getD 4 false) t7)
  f3 : W.frozen? ⟨r3, 0, none⟩ = false
  c4 : W.cell? ⟨r4, 0, none⟩ = some (rcV (L.getD 5 false) t8)
  f4 : W.frozen? ⟨r4, 0, none⟩ = false
section
variable {w : World} {g r2 r3 r4 b6 b7 b8 : Nat} {t6 t7 t8 : Tr} {T0 : Array Value} {L : Array Bool} {a : Act} {W : World}
theorem RV3.step (h : RV3 w g r2 r3 r4 b6 b7 b8 t6 t7 t8 T0 L a W) {i : Nat} {v : Value} (hi : i < 3) (hd : 87 + i < T0.size) (ht : zTab t6 t7 t8 i = some v) : RV3 w g r2 r3 r4 b6 b7 b8 t6 t7 t8 T0 (L.setIfInBounds i true) (a.put (some (87 + i)) v) W := by
  have hlen : i < zDs.length := by show i < 6; omega
  have hds : zDs[i] = 87 + i := by
    match i, hi with
    | 0, _ | 1, _ | 2, _ => rfl
  have hsl := h.sl.put zNd hlen (by rw [hds]; exact hd) (v := v) (fun u' hu => by rw [ht] at hu; cases hu; rfl)
  rw [hds] at hsl
  refine ⟨hsl, h.bw, h.x6, h.x7, h.x8, ?_, h.f2, ?_, h.f3, ?_, h.f4⟩
  · rw [getD_set_ne false (by omega)]; exact h.c2
  · rw [getD_set_ne false (by omega)]; exact h.c3
  · rw [getD_set_ne false (by omega)]; exact h.c4
theorem RV3.st2 (h : RV3 w g r2 r3 r4 b6 b7 b8 t6 t7 t8 T0 L a W) (o : r2 < r3 ∧ r3 < r4 ∧ r4 < g ∧ g < b6 ∧ b6 < b7 ∧ b7 < b8 ∧ w.heap.size ≤ r2) (hL : L.getD 3 true = false) : RV3 w g r2 r3 r4 b6 b7 b8 t6 t7 t8 T0 (L.setIfInBounds 3 true) a (W.setCell ⟨r2, 0, none⟩ (.slice t6.ad t6.ts.length t6.cp)) := by
  have hg : W.grownBy (W.setCell ⟨r2, 0, none⟩ (.slice t6.ad t6.ts.length t6.cp)) (some r2) := grown_set0 W r2 0 _
  have gi : (L.setIfInBounds 3 true).getD 3 false = true := by
    have h1 := getD_false hL
    have h2 : 3 < L.size := by simpa using (List.getElem?_eq_some_iff.1 h1).1
    rw [Array.getD_eq_getD_getElem?, Array.getElem?_setIfInBounds_self_of_lt h2]
    rfl
  refine ⟨h.sl.skip rfl, h.bw.setCell (p := ⟨r2, 0, none⟩) (by show _ ≤ r2; omega) _, h.x6.grown hg (by simp [mF]) (by omega), h.x7.grown hg (by simp [mF]) (by omega), h.x8.grown hg (by simp [mF]) (by omega), ?_, (World.frozen?_setCell _ _ _ _).trans h.f2, ?_, (World.frozen?_setCell _ _ _ _).trans h.f3, ?_, (World.frozen?_setCell _ _ _ _).trans h.f4⟩
  · rw [gi]
    exact World.cell?_setCell_same _ _ _ h.c2
  · rw [getD_set_ne false (by omega)]
    exact (World.cell?_setCell_other _ _ _ _ (by intro e; have e2 := congrArg Addr.block e; have e3 : r2 = r3 := e2; omega)).trans h.c3
  · rw [getD_set_ne false (by omega)]
    exact (World.cell?_setCell_other _ _ _ _ (by intro e; have e2 := congrArg Addr.block e; have e3 : r2 = r4 := e2; omega)).trans h.c4
theorem RV3.st3 (h : RV3 w g r2 r3 r4 b6 b7 b8 t6 t7 t8 T0 L a W) (o : r2 < r3 ∧ r3 < r4 ∧ r4 < g ∧ g < b6 ∧ b6 < b7 ∧ b7 < b8 ∧ w.heap.size ≤ r2) (hL : L.getD 4 true = false) : RV3 w g r2 r3 r4 b6 b7 b8 t6 t7 t8 T0 (L.setIfInBounds 4 true) a (W.setCell ⟨r3, 0, none⟩ (.slice t7.ad t7.ts.length t7.cp)) := by
  have hg : W.grownBy (W.setCell ⟨r3, 0, none⟩ (.slice t7.ad t7.ts.length t7.cp)) (some r3) := grown_set0 W r3 0 _
  have gi : (L.setIfInBounds 4 true).getD 4 false = true := by
    have h1 := getD_false hL
    have h2 : 4 < L.size := by simpa using (List.getElem?_eq_some_iff.1 h1).1
    rw [Array.getD_eq_getD_getElem?, Array.getElem?_setIfInBounds_self_of_lt h2]
    rfl
  refine ⟨h.sl.skip rfl, h.bw.setCell (p := ⟨r3, 0, none⟩) (by show _ ≤ r3; omega) _, h.x6.grown hg (by simp [mF]) (by omega), h.x7.grown hg (by simp [mF]) (by omega), h.x8.grown hg (by simp [mF]) (by omega), ?_, (World.frozen?_setCell _ _ _ _).trans h.f2, ?_, (World.frozen?_setCell _ _ _ _).trans h.f3, ?_, (World.frozen?_setCell _ _ _ _).trans h.f4⟩
  · rw [getD_set_ne false (by omega)]
    exact (World.cell?_setCell_other _ _ _ _ (by intro e; have e2 := congrArg Addr.block e; have e3 : r3 = r2 := e2; omega)).trans h.c2
  · rw [gi]
    exact World.cell?_setCell_same _ _ _ h.c3
  · rw [getD_set_ne false (by omega)]
    exact (World.cell?_setCell_other _ _ _ _ (by intro e; have e2 := congrArg Addr.block e; have e3 : r3 = r4 := e2; omega)).trans h.c4
theorem RV3.st4 (h : RV3 w g r2 r3 r4 b6 b7 b8 t6 t7 t8 T0 L a W) (o : r2 < r3 ∧ r3 < r4 ∧ r4 < g ∧ g < b6 ∧ b6 < b7 ∧ b7 < b8 ∧ w.heap.size ≤ r2) (hL : L.getD 5 true = false) : RV3 w g r2 r3 r4 b6 b7 b8 t6 t7 t8 T0 (L.setIfInBounds 5 true) a (W.setCell ⟨r4, 0, none⟩ (.slice t8.ad t8.ts.length t8.cp)) := by
  have hg : W.grownBy (W.setCell ⟨r4, 0, none⟩ (.slice t8.ad t8.ts.length t8.cp)) (some r4) := grown_set0 W r4 0 _
  have gi : (L.setIfInBounds 5 true).getD 5 false = true := by
    have h1 := getD_false hL
    have h2 : 5 < L.size := by simpa using (List.getElem?_eq_some_iff.1 h1).1
    rw [Array.getD_eq_getD_getElem?, Array.getElem?_setIfInBounds_self_of_lt h2]
    rfl
  refine ⟨h.sl.skip rfl, h.bw.setCell (p := ⟨r4, 0, none⟩) (by show _ ≤ r4; omega) _, h.x6.grown hg (by simp [mF]) (by omega), h.x7.grown hg (by simp [mF]) (by omega), h.x8.grown hg (by simp [mF]) (by omega), ?_, (World.frozen?_setCell _ _ _ _).trans h.f2, ?_, (World.frozen?_setCell _ _ _ _).trans h.f3, ?_, (World.frozen?_setCell _ _ _ _).trans h.f4⟩
  · rw [getD_set_ne false (by omega)]
    exact (World.cell?_setCell_other _ _ _ _ (by intro e; have e2 := congrArg Addr.block e; have e3 : r4 = r2 := e2; omega)).trans h.c2
  · rw [getD_set_ne false (by omega)]
    exact (World.cell?_setCell_other _ _ _ _ (by intro e; have e2 := congrArg Addr.block e; have e3 : r4 = r3 := e2; omega)).trans h.c3
  · rw [gi]
    exact World.cell?_setCell_same _ _ _ h.c4
end
/-- What is known of a drawn tree. -/
def TQ (t : Tr) : Prop := t.ts.length ≤ 300 ∧ Tiny 1000 20000 t.ts
def DrawnM (w : World) (e : Ending) (w' : World) : Prop :=
  ∃ t6 t7 t8 : Tr, e = .returned (.tuple #[.agg #[.slice t6.ad t6.ts.length t6.cp], .agg #[.slice t7.ad t7.ts.length t7.cp], .agg #[.slice t8.ad t8.ts.length t8.cp]]) ∧ ES w' t6.ad t6.ts ∧ ES w' t7.ad t7.ts ∧ ES w' t8.ad t8.ts ∧ TQ t6 ∧ TQ t7 ∧ TQ t8 ∧ t6.ts.length ≤ t6.cp ∧ t7.ts.length ≤ t7.cp ∧ t8.ts.length ≤ t8.cp ∧ Below w.heap.size w w'
theorem Tiny.layRel {P T : Nat} {ts us : List En} {p : ByteArray} {f : Fl} (h : Tiny P T ts) (he : p.size ≤ P ∧ f.text.size ≤ T) (hs : LayRel ts p f us) : Tiny P T us := fun x hx => by
  rcases (hs.mem x).1 hx with ⟨_, rfl⟩ | ⟨h1, _⟩
  · exact he
  · exact h x h1
end Go.Proofs.Ytockgapdfcapnaa

namespace Go.Proofs.Ytockgapdfcapnaa
open Go.RowKit

set_option maxRecDepth 100000 in
set_option maxHeartbeats 4000000 in
theorem frontsE_any (a b : Option Addr) (ca cb : Nat) (ts : List En) (us : List En) (w : World) (hts : ES w a ts) (hus : ES w b us) :
    Calls Try.prog 69 #[.slice a ts.length ca, .slice b us.length cb] w fun e w' => e = .returned (.int .i64 (frontG En.path En.path ts us)) ∧ Below w.heap.size w w' := by
  cases ts with
  | nil =>
    go_enter Try.func69, Try.ntmps69
    go_wp2
    go_ret
    exact ⟨rfl, Below.refl _ _⟩
  | cons x ts =>
    obtain ⟨b1, o1, rfl, hc1⟩ := hts.at (k := 0) (by simp)
    obtain ⟨x0, x1, x2⟩ := hc1 0 (by simp)
    simp only [List.getElem_cons_zero, Nat.zero_mul, Nat.add_zero] at x0 x1 x2
    have hl1 : (((x :: ts).length : Int) == 0) = false := by simp; omega
    have hl1' : (0 : Int) < (x :: ts).length := by rw [List.length_cons]; omega
    clear hc1 hts
    cases us with
    | nil =>
      generalize (x :: ts).length = n1 at *
      go_enter Try.func69, Try.ntmps69
      go_wp2
      go_ret
      exact ⟨rfl, Below.refl _ _⟩
    | cons y us =>
      obtain ⟨b2, o2, rfl, hc2⟩ := hus.at (k := 0) (by simp)
      obtain ⟨y0, y1, y2⟩ := hc2 0 (by simp)
      simp only [List.getElem_cons_zero, Nat.zero_mul, Nat.add_zero] at y0 y1 y2
      have hl2 : (((y :: us).length : Int) == 0) = false := by simp; omega
      have hl2' : (0 : Int) < (y :: us).length := by rw [List.length_cons]; omega
      clear hc2 hus
      generalize (x :: ts).length = n1 at *
      generalize (y :: us).length = n2 at *
      have cx0 : ∀ z : Later w, z.world.cell? ⟨b1, o1, none⟩ = some (.string x.path) := fun z => cell_later z.kept x0
      have cx1 : ∀ z : Later w, z.world.cell? ⟨b1, o1 + 1, none⟩ = some (.string x.text) := fun z => cell_later z.kept x1
      have cx2 : ∀ z : Later w, z.world.cell? ⟨b1, o1 + 2, none⟩ = some (.bool x.runs) := fun z => cell_later z.kept x2
      have cy0 : ∀ z : Later w, z.world.cell? ⟨b2, o2, none⟩ = some (.string y.path) := fun z => cell_later z.kept y0
      have cy1 : ∀ z : Later w, z.world.cell? ⟨b2, o2 + 1, none⟩ = some (.string y.text) := fun z => cell_later z.kept y1
      have cy2 : ∀ z : Later w, z.world.cell? ⟨b2, o2 + 2, none⟩ = some (.bool y.runs) := fun z => cell_later z.kept y2
      have HC1 : Keep (∀ z : Later w, Calls Try.prog 118 #[.agg #[.string x.path, .string x.text, .bool x.runs]] z.world fun e w'' => e = .returned (.string x.path) ∧ ∃ q : Later w, w'' = q.world) := ⟨fun z => Later.call z (pathE_any x _)⟩
      have HC2 : Keep (∀ z : Later w, Calls Try.prog 118 #[.agg #[.string y.path, .string y.text, .bool y.runs]] z.world fun e w'' => e = .returned (.string y.path) ∧ ∃ q : Later w, w'' = q.world) := ⟨fun z => Later.call z (pathE_any y _)⟩
      have HC3 : Keep (∀ z : Later w, Calls Try.prog 82 #[.string x.path, .string y.path] z.world fun e w'' => e = .returned (.int .i64 (Lib.compareBytes x.path.data.toList y.path.data.toList)) ∧ ∃ q : Later w, w'' = q.world) := ⟨fun z => Later.call z ((compare_any x.path y.path z.world).mono (fun e w' h => ⟨h.1, by rw [h.2]; exact Below.refl _ _⟩))⟩
      have HCM : Keep (frontG En.path En.path (x :: ts) (y :: us) = Lib.compareBytes x.path.data.toList y.path.data.toList) := ⟨rfl⟩
      clear x0 x1 x2 y0 y1 y2
      have hmp := mp_e
      have hcp := cp_e
      go_enter Try.func69, Try.ntmps69
      go_upto_region 5 with fail
      (haveI := later_any; refine wp_region_later (by kernel_rfl) (by kernel_rfl) ?_; (repeat (go_big_quiet_step (first | (go_at_call_of 118 ([Value.agg #[.string x.path, .string x.text, .bool x.runs]] : List Value); exact HC1.out _) | (go_at_call_of 118 ([Value.agg #[.string y.path, .string y.text, .bool y.runs]] : List Value); exact HC2.out _) | (go_at_call 82; exact HC3.out _)))); refine wpQuiet_nil ?_; intro _ hwq; obtain ⟨xq, hwq2⟩ := hwq; subst hwq2)
      go_wp2
      go_ret
      exact ⟨by rw [HCM.out]; rfl, xq.kept⟩
end Go.Proofs.Ytockgapdfcapnaa

namespace Go.Proofs.Ytockgapdfcapnaa
open Go.RowKit Go.Shelf

attribute [local go_sem] Oper.semAt_some

abbrev PE : Type := ByteArray × Option En × Option En
def yE (x : PE) : Array Value := #[cutEV (x.2.1.getD zeroE), cutEV (x.2.2.getD zeroE)]

theorem two_boxesE {w A X : World} {t t2 : TypeId} (hA : A = (w.alloc (.cells #[.string ⟨#[]⟩, .string ⟨#[]⟩, .bool false] t)).alloc (.cells #[.string ⟨#[]⟩, .string ⟨#[]⟩, .bool false] t2)) (hb : Below A.heap.size A X) :
    (X.cell? ⟨w.heap.size, 0, none⟩ = some (.string ⟨#[]⟩) ∧ X.cell? ⟨w.heap.size, 1, none⟩ = some (.string ⟨#[]⟩) ∧ X.cell? ⟨w.heap.size, 2, none⟩ = some (.bool false)) ∧ (X.cell? ⟨w.heap.size + 1, 0, none⟩ = some (.string ⟨#[]⟩) ∧ X.cell? ⟨w.heap.size + 1, 1, none⟩ = some (.string ⟨#[]⟩) ∧ X.cell? ⟨w.heap.size + 1, 2, none⟩ = some (.bool false)) ∧ (∀ j, X.frozen? ⟨w.heap.size, j, none⟩ = false) ∧ ∀ j, X.frozen? ⟨w.heap.size + 1, j, none⟩ = false := by
  have hl : w.heap.size + 1 < A.heap.size := by rw [hA]; simp
  refine ⟨⟨cell_later hb (by rw [hA]; simp [go_sem]), cell_later hb (by rw [hA]; simp [go_sem]), cell_later hb (by rw [hA]; simp [go_sem])⟩, ⟨cell_later hb (by rw [hA]; simp [go_sem]), cell_later hb (by rw [hA]; simp [go_sem]), cell_later hb (by rw [hA]; simp [go_sem])⟩, fun j => ?_, fun j => ?_⟩
  · exact (hb.frozen (p := ⟨w.heap.size, j, none⟩) (by show w.heap.size < _; omega)).trans (by rw [hA]; simp [go_sem])
  · exact (hb.frozen (p := ⟨w.heap.size + 1, j, none⟩) (by show w.heap.size + 1 < _; omega)).trans (by rw [hA]; simp [go_sem])

def sideMemE (Ba Bb : Nat) (a b : Option Addr) (ca cb : Nat) (ts : List En) (us : List En) (W : World) : Prop :=
  W.cell? ⟨Ba, 0, none⟩ = some (.slice a ts.length ca) ∧ W.cell? ⟨Bb, 0, none⟩ = some (.slice b us.length cb) ∧ ES W a ts ∧ ES W b us

def mrgE (ts : List En) (us : List En) : List PE := mrg En.path En.path (ts.length + us.length) ts us

set_option maxRecDepth 100000 in
set_option maxHeartbeats 8000000 in
theorem sideE1_in (n l Ba Bb : Nat) (a b : Option Addr) (ca cb : Nat) (ts : List En) (us : List En) (hca : ts.length ≤ ca) (hcb : us.length ≤ cb) (hnt : ts.length ≤ 1048576) (hnu : us.length ≤ 1048576)
    (J Jx : List PE → World → Prop) (W : World)
    (hM : ∀ pre W1, J pre W1 → sideMemE Ba Bb a b ca cb ts us W1)
    (hJ : ∀ pre W1 W2, J pre W1 → Below W1.heap.size W1 W2 → J pre W2)
    (hY : ∀ pre x W1, J pre W1 → (∃ r, mrgE ts us = (pre ++ [x]) ++ r) → YieldAt Fence.wide (n - 1) Try.prog l (yE x) W1 fun e W' =>
      (e = .returned (.bool true) ∧ J (pre ++ [x]) W') ∨ (e = .returned (.bool false) ∧ Jx (pre ++ [x]) W'))
    (h0 : J [] W) :
    CallsIn Fence.wide n Try.prog 68 #[.func (.yield l) #[] #[], .pointer (some ⟨Ba, 0, none⟩), .pointer (some ⟨Bb, 0, none⟩)] W fun e W' => (∃ v, e = .returned v) ∧
      (J (mrgE ts us) W' ∨ (∃ pre, pre <+: mrgE ts us ∧ Jx pre W')) := by
  refine callsIn_of_wp Try.func68 rfl trivial ?_ rfl
  simp only [Try.ntmps68, List.size_toArray, List.length_cons, List.length_nil, Nat.reduceAdd, Nat.reduceSub, Array.replicate_succ, Array.replicate_zero, List.push_toArray, List.append_toArray, List.nil_append, List.cons_append]
  gi_wp2
  gi_loopw [4, 5] (fun i j wr => ∃ (p q f : Nat) (pre : List PE), i = .int .i64 p ∧ j = .int .i64 q ∧ p ≤ ts.length ∧ q ≤ us.length ∧ (ts.length - p) + (us.length - q) ≤ f ∧ mrgE ts us = pre ++ mrg En.path En.path f (ts.drop p) (us.drop q) ∧ J pre wr)
    (fun i j _ => (ts.length - (intOf i).toNat) + (us.length - (intOf j).toNat))
  case atStart => exact ⟨0, 0, ts.length + us.length, [], rfl, rfl, Nat.zero_le _, Nat.zero_le _, by omega, by simp [mrgE], h0⟩
  case round =>
    obtain ⟨p, q, f, pre, rfl, rfl, hp, hq, hf, hm, hJs⟩ := hrel
    obtain ⟨m1, m2, e1, e2⟩ := hM pre wr hJs
    by_cases hend : p = ts.length ∧ q = us.length
    · obtain ⟨rfl, rfl⟩ := hend
      have hE : mrgE ts us = pre := by
        rw [hm]
        cases f with
        | zero => simp [mrg]
        | succ f => simp [mrg]
      gi_wp2
      go_end0
      exact ⟨⟨_, rfl⟩, .inl (by rw [hE]; exact hJs)⟩
    · obtain ⟨ad1, c1, hs1, hes1⟩ := cutEn a ca ts p hp hca
      obtain ⟨ad2, c2, hs2, hes2⟩ := cutEn b cb us q hq hcb
      have hal : Below wr.heap.size wr ((wr.alloc (.cells #[.string ⟨#[]⟩, .string ⟨#[]⟩, .bool false] 72)).alloc (.cells #[.string ⟨#[]⟩, .string ⟨#[]⟩, .bool false] 72)) := ((Below.refl _ _).alloc (Nat.le_refl _) _).alloc (by simp) _
      obtain ⟨A, hA⟩ : ∃ A, A = (wr.alloc (.cells #[.string ⟨#[]⟩, .string ⟨#[]⟩, .bool false] 72)).alloc (.cells #[.string ⟨#[]⟩, .string ⟨#[]⟩, .bool false] 72) := ⟨_, rfl⟩
      rw [← hA] at hal
      have cm1 : ∀ z : Later A, z.world.cell? ⟨Ba, 0, none⟩ = some (.slice a ts.length ca) := fun z => cell_later z.kept (cell_later hal m1)
      have cm2 : ∀ z : Later A, z.world.cell? ⟨Bb, 0, none⟩ = some (.slice b us.length cb) := fun z => cell_later z.kept (cell_later hal m2)
      have HF : Keep (∀ z : Later A, Calls Try.prog 69 #[.slice ad1 (ts.drop p).length c1, .slice ad2 (us.drop q).length c2] z.world fun e w'' => e = .returned (.int .i64 (frontG En.path En.path (ts.drop p) (us.drop q))) ∧ ∃ y : Later A, w'' = y.world) := ⟨fun z => Later.call z (frontsE_any ad1 ad2 c1 c2 (ts.drop p) (us.drop q) z.world (hes1 _ ((e1.below hal).below z.kept)) (hes2 _ ((e2.below hal).below z.kept)))⟩
      generalize hda : (ts.drop p).length = na at hs1 HF
      generalize hdb : (us.drop q).length = nb at hs2 HF
      obtain ⟨f, rfl⟩ : ∃ f', f = f' + 1 := ⟨f - 1, by omega⟩
      have hnn : ¬ (ts.drop p = [] ∧ us.drop q = []) := fun h => hend ⟨by have := congrArg List.length h.1; simp at this; omega, by have := congrArg List.length h.2; simp at this; omega⟩
      generalize ho : frontG En.path En.path (ts.drop p) (us.drop q) = o at HF
      rcases Int.lt_trichotomy o 0 with hlt | heq | hgt
      · obtain ⟨x, tr, hd, hmr⟩ := frontG_lt (f := f) (by rw [ho]; exact hlt)
        obtain ⟨hpl, rfl, rfl⟩ := drop_cons hd
        rw [hmr] at hm
        rw [List.append_cons] at hm
        obtain ⟨b1, o1, rfl, hc1⟩ := e1.at hpl
        have hpl' : (p : Int) < ts.length := by omega
        have ho1 : o ≤ 0 := by omega
        have ho2 : ¬ 0 ≤ o := by omega
        clear hc1 hd hmr hnn ho hend hlt
        gi_wp2
        rw [← hA]
        refine wpIn_wide.2 ?_
        (haveI := later_any; refine wp_region_later (by kernel_rfl) (by kernel_rfl) ?_; (repeat (go_big_quiet_step (first | (go_at_call 69; exact HF.out _)))); refine wpQuiet_nil ?_; intro _ hwq; obtain ⟨xq, hwq2⟩ := hwq; subst hwq2)
        have hX := hal.trans (xq.kept.mono hal.size)
        obtain ⟨⟨b60, b61, b62⟩, ⟨b70, b71, b72⟩, f6, f7⟩ := two_boxesE hA xq.kept
        have HE1 : Keep (ES wr (some ⟨b1, o1, none⟩) ts) := ⟨e1⟩
        have HE2 : Keep (ES wr b us) := ⟨e2⟩
        have HM1 : Keep (wr.cell? ⟨Ba, 0, none⟩ = some (.slice (some ⟨b1, o1, none⟩) ts.length ca)) := ⟨m1⟩
        have HM2 : Keep (wr.cell? ⟨Bb, 0, none⟩ = some (.slice b us.length cb)) := ⟨m2⟩
        clear hs1 hs2 hes1 hes2 HF cm1 cm2 e1 e2 m1 m2 hA hal
        generalize xq.world = X at *
        clear xq
        obtain ⟨g6, hg6⟩ : ∃ g, g = wr.heap.size := ⟨_, rfl⟩
        obtain ⟨g7, hg7⟩ : ∃ g, g = wr.heap.size + 1 := ⟨_, rfl⟩
        rw [← hg7] at b70 b71 b72 f7 ⊢
        rw [← hg6] at b60 b61 b62 f6 ⊢
        have hn67 : ¬ g6 = g7 := by omega
        have HG : Keep (wr.heap.size ≤ g6 ∧ wr.heap.size ≤ g7) := ⟨by omega⟩
        clear hg6 hg7
        have q1 := cell_later hX HM1.out
        obtain ⟨x0, x1, x2⟩ := (HE1.out.below hX).cells hpl
        gi_upto_region 8 with fail
        replace hX := box3_below (.string ts[p].path) (.string ts[p].text) (.bool ts[p].runs) hX HG.out.1
        obtain ⟨z0, z1, z2⟩ := box3_set (.string ts[p].path) (.string ts[p].text) (.bool ts[p].runs) b60 b61 b62
        replace b70 := (box3_other (.string ts[p].path) (.string ts[p].text) (.bool ts[p].runs) hn67).trans b70
        replace b71 := (box3_other (.string ts[p].path) (.string ts[p].text) (.bool ts[p].runs) hn67).trans b71
        replace b72 := (box3_other (.string ts[p].path) (.string ts[p].text) (.bool ts[p].runs) hn67).trans b72
        replace f7 : ∀ j, (((X.setCell ⟨g6, 0, none⟩ (.string ts[p].path)).setCell ⟨g6, 1, none⟩ (.string ts[p].text)).setCell ⟨g6, 2, none⟩ (.bool ts[p].runs)).frozen? ⟨g7, j, none⟩ = false := fun j => (box3_fz (.string ts[p].path) (.string ts[p].text) (.bool ts[p].runs)).trans (f7 j)
        clear b60 b61 b62 x0 x1 x2 q1 f6
        generalize (((X.setCell ⟨g6, 0, none⟩ (.string ts[p].path)).setCell ⟨g6, 1, none⟩ (.string ts[p].text)).setCell ⟨g6, 2, none⟩ (.bool ts[p].runs)) = X2 at *
        clear X
        have hY3 : YieldAt Fence.wide (n - 1) Try.prog l #[.agg #[.string ts[p].path, .string ts[p].text, .bool ts[p].runs], .agg #[.string ⟨#[]⟩, .string ⟨#[]⟩, .bool false]] X2 (fun e W' => (e = .returned (.bool true) ∧ J (pre ++ [(ts[p].path, some ts[p], none)]) W') ∨ (e = .returned (.bool false) ∧ Jx (pre ++ [(ts[p].path, some ts[p], none)]) W')) := hY pre (ts[p].path, some ts[p], none) _ (hJ pre wr _ hJs hX) ⟨_, hm⟩
        obtain ⟨fn, tmps, assign, body, hy, hR⟩ := hY3
        have HM : Keep (mrgE ts us = pre ++ [(ts[p].path, some ts[p], none)] ++ mrg En.path En.path f (ts.drop (p + 1)) (us.drop (q))) := ⟨hm⟩
        clear hY hJ hM hm hJs hX
        gi_wp2
        refine ⟨fun h => Bool.noConfusion h, hR.mono ?_⟩
        rintro e W3 (⟨rfl, hJ3⟩ | ⟨rfl, hJx3⟩)
        · gi_wp2
          go_roundw
          case rel => exact ⟨p + 1, q, f, pre ++ [(ts[p].path, some ts[p], none)], by congr 1, by congr 1, by omega, by omega, by omega, HM.out, hJ3⟩
          case measure => simp only [intOf]; omega
        · gi_wp2
          refine bodyPost_ret (results_none rfl _ _ _) rfl ?_
          exact ⟨⟨_, rfl⟩, .inr ⟨pre ++ [(ts[p].path, some ts[p], none)], ⟨_, HM.out.symm⟩, hJx3⟩⟩
      · obtain ⟨x, tr, y, ur, hd, hd2, hmr⟩ := frontG_eq (f := f) (by rw [ho]; exact heq)
        obtain ⟨hpl, rfl, rfl⟩ := drop_cons hd
        obtain ⟨hql, rfl, rfl⟩ := drop_cons hd2
        rw [hmr] at hm
        rw [List.append_cons] at hm
        obtain ⟨b1, o1, rfl, hc1⟩ := e1.at hpl
        obtain ⟨b2, o2, rfl, hc2⟩ := e2.at hql
        have hpl' : (p : Int) < ts.length := by omega
        have hql' : (q : Int) < us.length := by omega
        subst heq
        clear hc1 hc2 hd hd2 hmr hnn ho hend
        gi_wp2
        rw [← hA]
        refine wpIn_wide.2 ?_
        (haveI := later_any; refine wp_region_later (by kernel_rfl) (by kernel_rfl) ?_; (repeat (go_big_quiet_step (first | (go_at_call 69; exact HF.out _)))); refine wpQuiet_nil ?_; intro _ hwq; obtain ⟨xq, hwq2⟩ := hwq; subst hwq2)
        have hX := hal.trans (xq.kept.mono hal.size)
        obtain ⟨⟨b60, b61, b62⟩, ⟨b70, b71, b72⟩, f6, f7⟩ := two_boxesE hA xq.kept
        have HE1 : Keep (ES wr (some ⟨b1, o1, none⟩) ts) := ⟨e1⟩
        have HE2 : Keep (ES wr (some ⟨b2, o2, none⟩) us) := ⟨e2⟩
        have HM1 : Keep (wr.cell? ⟨Ba, 0, none⟩ = some (.slice (some ⟨b1, o1, none⟩) ts.length ca)) := ⟨m1⟩
        have HM2 : Keep (wr.cell? ⟨Bb, 0, none⟩ = some (.slice (some ⟨b2, o2, none⟩) us.length cb)) := ⟨m2⟩
        clear hs1 hs2 hes1 hes2 HF cm1 cm2 e1 e2 m1 m2 hA hal
        generalize xq.world = X at *
        clear xq
        obtain ⟨g6, hg6⟩ : ∃ g, g = wr.heap.size := ⟨_, rfl⟩
        obtain ⟨g7, hg7⟩ : ∃ g, g = wr.heap.size + 1 := ⟨_, rfl⟩
        rw [← hg7] at b70 b71 b72 f7 ⊢
        rw [← hg6] at b60 b61 b62 f6 ⊢
        have hn67 : ¬ g6 = g7 := by omega
        have HG : Keep (wr.heap.size ≤ g6 ∧ wr.heap.size ≤ g7) := ⟨by omega⟩
        clear hg6 hg7
        have q1 := cell_later hX HM1.out
        obtain ⟨x0, x1, x2⟩ := (HE1.out.below hX).cells hpl
        gi_upto_region 8 with fail
        replace hX := box3_below (.string ts[p].path) (.string ts[p].text) (.bool ts[p].runs) hX HG.out.1
        obtain ⟨z0, z1, z2⟩ := box3_set (.string ts[p].path) (.string ts[p].text) (.bool ts[p].runs) b60 b61 b62
        replace b70 := (box3_other (.string ts[p].path) (.string ts[p].text) (.bool ts[p].runs) hn67).trans b70
        replace b71 := (box3_other (.string ts[p].path) (.string ts[p].text) (.bool ts[p].runs) hn67).trans b71
        replace b72 := (box3_other (.string ts[p].path) (.string ts[p].text) (.bool ts[p].runs) hn67).trans b72
        replace f7 : ∀ j, (((X.setCell ⟨g6, 0, none⟩ (.string ts[p].path)).setCell ⟨g6, 1, none⟩ (.string ts[p].text)).setCell ⟨g6, 2, none⟩ (.bool ts[p].runs)).frozen? ⟨g7, j, none⟩ = false := fun j => (box3_fz (.string ts[p].path) (.string ts[p].text) (.bool ts[p].runs)).trans (f7 j)
        clear b60 b61 b62 x0 x1 x2 q1 f6
        generalize (((X.setCell ⟨g6, 0, none⟩ (.string ts[p].path)).setCell ⟨g6, 1, none⟩ (.string ts[p].text)).setCell ⟨g6, 2, none⟩ (.bool ts[p].runs)) = X2 at *
        clear X
        have q2 := cell_later hX HM2.out
        obtain ⟨y0, y1, y2⟩ := (HE2.out.below hX).cells hql
        gi_upto_region 11 with fail
        replace hX := box3_below (.string us[q].path) (.string us[q].text) (.bool us[q].runs) hX HG.out.2
        obtain ⟨v0, v1, v2⟩ := box3_set (.string us[q].path) (.string us[q].text) (.bool us[q].runs) b70 b71 b72
        have hn76 : ¬ g7 = g6 := fun e => hn67 e.symm
        replace z0 := (box3_other (.string us[q].path) (.string us[q].text) (.bool us[q].runs) hn76).trans z0
        replace z1 := (box3_other (.string us[q].path) (.string us[q].text) (.bool us[q].runs) hn76).trans z1
        replace z2 := (box3_other (.string us[q].path) (.string us[q].text) (.bool us[q].runs) hn76).trans z2
        clear b70 b71 b72 y0 y1 y2 q2 f7
        generalize (((X2.setCell ⟨g7, 0, none⟩ (.string us[q].path)).setCell ⟨g7, 1, none⟩ (.string us[q].text)).setCell ⟨g7, 2, none⟩ (.bool us[q].runs)) = X3 at *
        have hY3 : YieldAt Fence.wide (n - 1) Try.prog l #[.agg #[.string ts[p].path, .string ts[p].text, .bool ts[p].runs], .agg #[.string us[q].path, .string us[q].text, .bool us[q].runs]] X3 (fun e W' => (e = .returned (.bool true) ∧ J (pre ++ [(ts[p].path, some ts[p], some us[q])]) W') ∨ (e = .returned (.bool false) ∧ Jx (pre ++ [(ts[p].path, some ts[p], some us[q])]) W')) := hY pre (ts[p].path, some ts[p], some us[q]) _ (hJ pre wr _ hJs hX) ⟨_, hm⟩
        obtain ⟨fn, tmps, assign, body, hy, hR⟩ := hY3
        have HM : Keep (mrgE ts us = pre ++ [(ts[p].path, some ts[p], some us[q])] ++ mrg En.path En.path f (ts.drop (p + 1)) (us.drop (q + 1))) := ⟨hm⟩
        clear hY hJ hM hm hJs hX
        gi_wp2
        refine ⟨fun h => Bool.noConfusion h, hR.mono ?_⟩
        rintro e W3 (⟨rfl, hJ3⟩ | ⟨rfl, hJx3⟩)
        · gi_wp2
          go_roundw
          case rel => exact ⟨p + 1, q + 1, f, pre ++ [(ts[p].path, some ts[p], some us[q])], by congr 1, by congr 1, by omega, by omega, by omega, HM.out, hJ3⟩
          case measure => simp only [intOf]; omega
        · gi_wp2
          refine bodyPost_ret (results_none rfl _ _ _) rfl ?_
          exact ⟨⟨_, rfl⟩, .inr ⟨pre ++ [(ts[p].path, some ts[p], some us[q])], ⟨_, HM.out.symm⟩, hJx3⟩⟩
      · obtain ⟨y, ur, hd, hmr⟩ := frontG_gt (f := f) (by rw [ho]; exact hgt) hnn
        obtain ⟨hql, rfl, rfl⟩ := drop_cons hd
        rw [hmr] at hm
        rw [List.append_cons] at hm
        obtain ⟨b2, o2, rfl, hc2⟩ := e2.at hql
        have hql' : (q : Int) < us.length := by omega
        have ho1 : ¬ o ≤ 0 := by omega
        have ho2 : 0 ≤ o := by omega
        clear hc2 hd hmr hnn ho hend hgt
        by_cases hpl : p < ts.length
        · have hpl' : (p : Int) < ts.length := by omega
          gi_wp2
          rw [← hA]
          refine wpIn_wide.2 ?_
          (haveI := later_any; refine wp_region_later (by kernel_rfl) (by kernel_rfl) ?_; (repeat (go_big_quiet_step (first | (go_at_call 69; exact HF.out _)))); refine wpQuiet_nil ?_; intro _ hwq; obtain ⟨xq, hwq2⟩ := hwq; subst hwq2)
          have hX := hal.trans (xq.kept.mono hal.size)
          obtain ⟨⟨b60, b61, b62⟩, ⟨b70, b71, b72⟩, f6, f7⟩ := two_boxesE hA xq.kept
          have HE1 : Keep (ES wr a ts) := ⟨e1⟩
          have HE2 : Keep (ES wr (some ⟨b2, o2, none⟩) us) := ⟨e2⟩
          have HM1 : Keep (wr.cell? ⟨Ba, 0, none⟩ = some (.slice a ts.length ca)) := ⟨m1⟩
          have HM2 : Keep (wr.cell? ⟨Bb, 0, none⟩ = some (.slice (some ⟨b2, o2, none⟩) us.length cb)) := ⟨m2⟩
          clear hs1 hs2 hes1 hes2 HF cm1 cm2 e1 e2 m1 m2 hA hal
          generalize xq.world = X at *
          clear xq
          obtain ⟨g6, hg6⟩ : ∃ g, g = wr.heap.size := ⟨_, rfl⟩
          obtain ⟨g7, hg7⟩ : ∃ g, g = wr.heap.size + 1 := ⟨_, rfl⟩
          rw [← hg7] at b70 b71 b72 f7 ⊢
          rw [← hg6] at b60 b61 b62 f6 ⊢
          have hn67 : ¬ g6 = g7 := by omega
          have HG : Keep (wr.heap.size ≤ g6 ∧ wr.heap.size ≤ g7) := ⟨by omega⟩
          clear hg6 hg7
          have q2 := cell_later hX HM2.out
          obtain ⟨y0, y1, y2⟩ := (HE2.out.below hX).cells hql
          gi_upto_region 11 with fail
          replace hX := box3_below (.string us[q].path) (.string us[q].text) (.bool us[q].runs) hX HG.out.2
          obtain ⟨v0, v1, v2⟩ := box3_set (.string us[q].path) (.string us[q].text) (.bool us[q].runs) b70 b71 b72
          have hn76 : ¬ g7 = g6 := fun e => hn67 e.symm
          replace b60 := (box3_other (.string us[q].path) (.string us[q].text) (.bool us[q].runs) hn76).trans b60
          replace b61 := (box3_other (.string us[q].path) (.string us[q].text) (.bool us[q].runs) hn76).trans b61
          replace b62 := (box3_other (.string us[q].path) (.string us[q].text) (.bool us[q].runs) hn76).trans b62
          clear b70 b71 b72 y0 y1 y2 q2 f7
          generalize (((X.setCell ⟨g7, 0, none⟩ (.string us[q].path)).setCell ⟨g7, 1, none⟩ (.string us[q].text)).setCell ⟨g7, 2, none⟩ (.bool us[q].runs)) = X3 at *
          have hY3 : YieldAt Fence.wide (n - 1) Try.prog l #[.agg #[.string ⟨#[]⟩, .string ⟨#[]⟩, .bool false], .agg #[.string us[q].path, .string us[q].text, .bool us[q].runs]] X3 (fun e W' => (e = .returned (.bool true) ∧ J (pre ++ [(us[q].path, none, some us[q])]) W') ∨ (e = .returned (.bool false) ∧ Jx (pre ++ [(us[q].path, none, some us[q])]) W')) := hY pre (us[q].path, none, some us[q]) _ (hJ pre wr _ hJs hX) ⟨_, hm⟩
          obtain ⟨fn, tmps, assign, body, hy, hR⟩ := hY3
          have HM : Keep (mrgE ts us = pre ++ [(us[q].path, none, some us[q])] ++ mrg En.path En.path f (ts.drop (p)) (us.drop (q + 1))) := ⟨hm⟩
          clear hY hJ hM hm hJs hX
          gi_wp2
          refine ⟨fun h => Bool.noConfusion h, hR.mono ?_⟩
          rintro e W3 (⟨rfl, hJ3⟩ | ⟨rfl, hJx3⟩)
          · gi_wp2
            go_roundw
            case rel => exact ⟨p, q + 1, f, pre ++ [(us[q].path, none, some us[q])], by congr 1, by congr 1, by omega, by omega, by omega, HM.out, hJ3⟩
            case measure => simp only [intOf]; omega
          · gi_wp2
            refine bodyPost_ret (results_none rfl _ _ _) rfl ?_
            exact ⟨⟨_, rfl⟩, .inr ⟨pre ++ [(us[q].path, none, some us[q])], ⟨_, HM.out.symm⟩, hJx3⟩⟩
        · have hpl' : ¬ (p : Int) < ts.length := by omega
          gi_wp2
          rw [← hA]
          refine wpIn_wide.2 ?_
          (haveI := later_any; refine wp_region_later (by kernel_rfl) (by kernel_rfl) ?_; (repeat (go_big_quiet_step (first | (go_at_call 69; exact HF.out _)))); refine wpQuiet_nil ?_; intro _ hwq; obtain ⟨xq, hwq2⟩ := hwq; subst hwq2)
          have hX := hal.trans (xq.kept.mono hal.size)
          obtain ⟨⟨b60, b61, b62⟩, ⟨b70, b71, b72⟩, f6, f7⟩ := two_boxesE hA xq.kept
          have HE1 : Keep (ES wr a ts) := ⟨e1⟩
          have HE2 : Keep (ES wr (some ⟨b2, o2, none⟩) us) := ⟨e2⟩
          have HM1 : Keep (wr.cell? ⟨Ba, 0, none⟩ = some (.slice a ts.length ca)) := ⟨m1⟩
          have HM2 : Keep (wr.cell? ⟨Bb, 0, none⟩ = some (.slice (some ⟨b2, o2, none⟩) us.length cb)) := ⟨m2⟩
          clear hs1 hs2 hes1 hes2 HF cm1 cm2 e1 e2 m1 m2 hA hal
          generalize xq.world = X at *
          clear xq
          obtain ⟨g6, hg6⟩ : ∃ g, g = wr.heap.size := ⟨_, rfl⟩
          obtain ⟨g7, hg7⟩ : ∃ g, g = wr.heap.size + 1 := ⟨_, rfl⟩
          rw [← hg7] at b70 b71 b72 f7 ⊢
          rw [← hg6] at b60 b61 b62 f6 ⊢
          have hn67 : ¬ g6 = g7 := by omega
          have HG : Keep (wr.heap.size ≤ g6 ∧ wr.heap.size ≤ g7) := ⟨by omega⟩
          clear hg6 hg7
          have q2 := cell_later hX HM2.out
          obtain ⟨y0, y1, y2⟩ := (HE2.out.below hX).cells hql
          gi_upto_region 11 with fail
          replace hX := box3_below (.string us[q].path) (.string us[q].text) (.bool us[q].runs) hX HG.out.2
          obtain ⟨v0, v1, v2⟩ := box3_set (.string us[q].path) (.string us[q].text) (.bool us[q].runs) b70 b71 b72
          have hn76 : ¬ g7 = g6 := fun e => hn67 e.symm
          replace b60 := (box3_other (.string us[q].path) (.string us[q].text) (.bool us[q].runs) hn76).trans b60
          replace b61 := (box3_other (.string us[q].path) (.string us[q].text) (.bool us[q].runs) hn76).trans b61
          replace b62 := (box3_other (.string us[q].path) (.string us[q].text) (.bool us[q].runs) hn76).trans b62
          clear b70 b71 b72 y0 y1 y2 q2 f7
          generalize (((X.setCell ⟨g7, 0, none⟩ (.string us[q].path)).setCell ⟨g7, 1, none⟩ (.string us[q].text)).setCell ⟨g7, 2, none⟩ (.bool us[q].runs)) = X3 at *
          have hY3 : YieldAt Fence.wide (n - 1) Try.prog l #[.agg #[.string ⟨#[]⟩, .string ⟨#[]⟩, .bool false], .agg #[.string us[q].path, .string us[q].text, .bool us[q].runs]] X3 (fun e W' => (e = .returned (.bool true) ∧ J (pre ++ [(us[q].path, none, some us[q])]) W') ∨ (e = .returned (.bool false) ∧ Jx (pre ++ [(us[q].path, none, some us[q])]) W')) := hY pre (us[q].path, none, some us[q]) _ (hJ pre wr _ hJs hX) ⟨_, hm⟩
          obtain ⟨fn, tmps, assign, body, hy, hR⟩ := hY3
          have HM : Keep (mrgE ts us = pre ++ [(us[q].path, none, some us[q])] ++ mrg En.path En.path f (ts.drop (p)) (us.drop (q + 1))) := ⟨hm⟩
          clear hY hJ hM hm hJs hX
          gi_wp2
          refine ⟨fun h => Bool.noConfusion h, hR.mono ?_⟩
          rintro e W3 (⟨rfl, hJ3⟩ | ⟨rfl, hJx3⟩)
          · gi_wp2
            go_roundw
            case rel => exact ⟨p, q + 1, f, pre ++ [(us[q].path, none, some us[q])], by congr 1, by congr 1, by omega, by omega, by omega, HM.out, hJ3⟩
            case measure => simp only [intOf]; omega
          · gi_wp2
            refine bodyPost_ret (results_none rfl _ _ _) rfl ?_
            exact ⟨⟨_, rfl⟩, .inr ⟨pre ++ [(us[q].path, none, some us[q])], ⟨_, HM.out.symm⟩, hJx3⟩⟩

set_option maxHeartbeats 400000 in
theorem sideE_any (a b : Option Addr) (n m ca cb : Nat) (w : World) :
    Calls Try.prog 40 #[.slice a n ca, .slice b m cb] w fun e w' => e = .returned (.func (.func 68) #[] #[.pointer (some ⟨w.heap.size, 0, none⟩), .pointer (some ⟨w.heap.size + 1, 0, none⟩)]) ∧ w' = (w.alloc (.cells #[.slice a n ca] 30)).alloc (.cells #[.slice b m cb] 30) := by
  go_enter Try.func40, Try.ntmps40
  go_wp2
  go_ret
  exact ⟨by simp, rfl⟩
end Go.Proofs.Ytockgapdfcapnaa

namespace Go.Proofs.Ytockgapdfcapnaa
open Go.RowKit

/-- What one round of the loop puts behind. -/
def orP (x y : En) : ByteArray := if (x.path.toList == ([] : List UInt8)) = true then y.path else x.path
def outC (x y : En) : List Ch := if sameF (fileE x) (fileE y) = true then [] else [⟨orP x y, fileE x, fileE y⟩]
def outsE (pre : List PE) : List Ch := pre.flatMap fun x => outC (x.2.1.getD zeroE) (x.2.2.getD zeroE)
theorem outsE_snoc (pre : List PE) (x : PE) : outsE (pre ++ [x]) = outsE pre ++ outC (x.2.1.getD zeroE) (x.2.2.getD zeroE) := by simp [outsE]

theorem orP_at {ts us : List En} (h : ValidTs ts) {p : ByteArray} (hp : (∃ x ∈ ts, En.path x = p) ∨ ∃ y ∈ us, En.path y = p) : orP ((fnd En.path ts p).getD zeroE) ((fnd En.path us p).getD zeroE) = p := by
  unfold orP
  cases hf : fnd En.path ts p with
  | some e =>
    obtain ⟨h1, h2⟩ := fnd_some hf
    show (if (e.path.toList == ([] : List UInt8)) = true then _ else e.path) = p
    rw [valid_path h h1]
    exact h2
  | none =>
    have hz : (zeroE.path.toList == ([] : List UInt8)) = true := by simp [zeroE]
    show (if (zeroE.path.toList == ([] : List UInt8)) = true then ((fnd En.path us p).getD zeroE).path else _) = p
    rw [if_pos hz]
    cases hg : fnd En.path us p with
    | some e => exact (fnd_some hg).2
    | none =>
      exfalso
      rcases hp with ⟨x, hx, hxp⟩ | ⟨x, hx, hxp⟩
      · unfold fnd at hf
        rw [List.find?_eq_none] at hf
        exact hf x hx (eqb_iff.2 hxp)
      · unfold fnd at hg
        rw [List.find?_eq_none] at hg
        exact hg x hx (eqb_iff.2 hxp)

theorem outs_diff {ts us : List En} (ht : ValidTs ts) (hu : ValidTs us) : outsE (mrgE ts us) = diffL ts us := by
  have h1 := addP_asc (l := []) List.Pairwise.nil ts
  have h2 := addP_asc h1.1 us
  have hmem : ∀ p, p ∈ pathsL [ts, us] ↔ (∃ x ∈ ts, En.path x = p) ∨ ∃ y ∈ us, En.path y = p := fun p => by
    show p ∈ addP (addP [] ts) us ↔ _
    rw [h2.2, h1.2]
    simp
  have hM := mrg_eq En.path En.path (ts.length + us.length) ts us (pathsL [ts, us]) (Nat.le_refl _) (valid_asc ht) (valid_asc hu) h2.1 hmem
  unfold mrgE
  rw [hM]
  unfold outsE diffL diffN
  rw [List.flatMap_map, List.flatMap_def, List.flatMap_def]
  congr 1
  refine List.map_congr_left fun p hp => ?_
  show outC ((fnd En.path ts p).getD zeroE) ((fnd En.path us p).getD zeroE) = _
  unfold outC diffC
  rw [fileE_at ht, fileE_at hu, orP_at ht ((hmem p).1 hp)]
end Go.Proofs.Ytockgapdfcapnaa

namespace Go.Proofs.Ytockgapdfcapnaa
open Go.RowKit

set_option maxRecDepth 100000 in
set_option maxHeartbeats 4000000 in
theorem orS_any (b o : Nat) (x y : ByteArray) (w : World) (hx : w.cell? ⟨b, o, none⟩ = some (.string x)) (hy : w.cell? ⟨b, o + 1, none⟩ = some (.string y)) :
    Calls Try.prog 42 #[.slice (some ⟨b, o, none⟩) 2 2] w fun e w' => e = .returned (.string (if (x.toList == ([] : List UInt8)) = true then y else x)) ∧ w' = w := by
  cases h1 : (x.toList == ([] : List UInt8)) with
  | false =>
    have hne : (x.toList != ([] : List UInt8)) = true := by simpa using h1
    go_enter Try.func42, Try.ntmps42
    go_wp2
    go_loopw [8] (fun i wr => i = .int .i64 0 ∧ wr = w) (fun i _ => 2 - (intOf i).toNat)
    case atStart => exact ⟨rfl, rfl⟩
    case round =>
      obtain ⟨rfl, rfl⟩ := hrel
      go_wp2
      go_ret
      exact ⟨rfl, rfl⟩
  | true =>
    have hne : (x.toList != ([] : List UInt8)) = false := by simpa using h1
    go_enter Try.func42, Try.ntmps42
    go_wp2
    go_loopw [8] (fun i wr => ∃ k : Nat, i = .int .i64 k ∧ k ≤ 2 ∧ Keep (k = 2 → y = ⟨#[]⟩) ∧ w = wr) (fun i _ => 2 - (intOf i).toNat)
    case atStart => exact ⟨0, rfl, by omega, ⟨fun h => by omega⟩, rfl⟩
    case round =>
      obtain ⟨k, rfl, hk, HK, rfl⟩ := hrel
      by_cases h2 : k = 2
      · have hy2 := HK.out h2
        subst h2 hy2
        clear HK
        go_wp2
        go_ret
        exact ⟨rfl, rfl⟩
      · by_cases h0 : k = 0
        · subst h0
          go_wp2
          go_roundw
          case rel => exact ⟨1, rfl, by omega, ⟨fun h => by omega⟩, trivial⟩
          case measure => simp only [intOf]; omega
        · obtain rfl : k = 1 := by omega
          cases h3 : (y.toList == ([] : List UInt8)) with
          | false =>
            have hne3 : (y.toList != ([] : List UInt8)) = true := by simpa using h3
            go_wp2
            go_ret
            exact ⟨rfl, rfl⟩
          | true =>
            have hne3 : (y.toList != ([] : List UInt8)) = false := by simpa using h3
            have HY : Keep (y = ⟨#[]⟩) := ⟨WideShapes.bytes_inj (by rw [← Lib.toList_data, (by simpa using h3 : y.toList = [])])⟩
            go_wp2
            go_roundw
            case rel => exact ⟨2, rfl, by omega, ⟨fun _ => HY.out⟩, trivial⟩
            case measure => simp only [intOf]; omega
end Go.Proofs.Ytockgapdfcapnaa

namespace Go.Proofs.Ytockgapdfcapnaa
open Go.RowKit

set_option maxRecDepth 100000 in
set_option maxHeartbeats 2000000 in
theorem copied_any (f : Fl) (w : World) (ht : f.text.size ≤ 281474976710656) :
    Calls Try.prog 70 #[flV f] w fun e w' => e = .returned (flV f) ∧ Below w.heap.size w w' := by
  unfold flV
  have hal : Below w.heap.size w ((w.alloc (.cells #[.bool f.there, .string f.text, .bool f.runs] 69)).alloc (.cells #[.bool false, .string ⟨#[]⟩, .bool false] 69)) := ((Below.refl _ _).alloc (Nat.le_refl _) _).alloc (by simp) _
  have d0 : ((w.alloc (.cells #[.bool f.there, .string f.text, .bool f.runs] 69)).alloc (.cells #[.bool false, .string ⟨#[]⟩, .bool false] 69)).cell? ⟨w.heap.size, 0, none⟩ = some (.bool f.there) := by simp
  have d1 : ((w.alloc (.cells #[.bool f.there, .string f.text, .bool f.runs] 69)).alloc (.cells #[.bool false, .string ⟨#[]⟩, .bool false] 69)).cell? ⟨w.heap.size, 1, none⟩ = some (.string f.text) := by simp
  have d2 : ((w.alloc (.cells #[.bool f.there, .string f.text, .bool f.runs] 69)).alloc (.cells #[.bool false, .string ⟨#[]⟩, .bool false] 69)).cell? ⟨w.heap.size, 2, none⟩ = some (.bool f.runs) := by simp
  have g0 : ((w.alloc (.cells #[.bool f.there, .string f.text, .bool f.runs] 69)).alloc (.cells #[.bool false, .string ⟨#[]⟩, .bool false] 69)).cell? ⟨w.heap.size + 1, 0, none⟩ = some (.bool false) := by simp
  have g1 : ((w.alloc (.cells #[.bool f.there, .string f.text, .bool f.runs] 69)).alloc (.cells #[.bool false, .string ⟨#[]⟩, .bool false] 69)).cell? ⟨w.heap.size + 1, 1, none⟩ = some (.string ⟨#[]⟩) := by simp
  have g2 : ((w.alloc (.cells #[.bool f.there, .string f.text, .bool f.runs] 69)).alloc (.cells #[.bool false, .string ⟨#[]⟩, .bool false] 69)).cell? ⟨w.heap.size + 1, 2, none⟩ = some (.bool false) := by simp
  have hsz : w.heap.size + 1 < ((w.alloc (.cells #[.bool f.there, .string f.text, .bool f.runs] 69)).alloc (.cells #[.bool false, .string ⟨#[]⟩, .bool false] 69)).heap.size := by simp
  have f0 : ∀ j, ((w.alloc (.cells #[.bool f.there, .string f.text, .bool f.runs] 69)).alloc (.cells #[.bool false, .string ⟨#[]⟩, .bool false] 69)).frozen? ⟨w.heap.size + 1, j, none⟩ = false := fun j => by simp
  go_enter Try.func70, Try.ntmps70
  go_wp2_with fail
  generalize hw2 : (w.alloc (.cells #[.bool f.there, .string f.text, .bool f.runs] 69)).alloc (.cells #[.bool false, .string ⟨#[]⟩, .bool false] 69) = w2 at *
  clear hw2
  obtain ⟨g, hg⟩ : ∃ g, g = w.heap.size + 1 := ⟨_, rfl⟩
  obtain ⟨g', hg'⟩ : ∃ g', g' = w.heap.size := ⟨_, rfl⟩
  have hgw : w.heap.size ≤ g := by omega
  rw [← hg] at g0 g1 g2 hsz f0 ⊢
  rw [← hg'] at d0 d1 d2 ⊢
  have HGW : Keep (w.heap.size ≤ g) := ⟨hgw⟩
  have hal2 : Below w.heap.size w w2 := hal
  clear hal hg hg' hgw
  have q0 : Below w2.heap.size w2 w2.drew := (Below.refl _ _).drew
  have kq : ∀ {W W' : World}, Below w2.heap.size w2 W → Below W.heap.size W W' → Below w2.heap.size w2 W' := fun h h' => h.trans (h'.mono h.size)
  have kF : ∀ {W : World}, Below w2.heap.size w2 W → ∀ j, W.frozen? ⟨g, j, none⟩ = false := fun h j => (h.frozen (p := ⟨g, j, none⟩) hsz).trans (f0 j)
  go_region_with (first | (go_at_call_of 28 f.text; refine (clone_any f.text _ ht).mono ?_; rintro e w3 ⟨rfl, hb3⟩; have q : Below w2.heap.size w2 w3 := (by first | exact kq q hb3 | exact kq q0 hb3); have p0 := cell_later q d0; have p1 := cell_later q d1; have p2 := cell_later q d2; have p3 := cell_later q g0; have p4 := cell_later q g1; have p5 := cell_later q g2; have pf := kF q))
  all_goals
    have hbl : Below w.heap.size w w3 := hal2.trans (q.mono hal2.size)
    go_wp2
    refine bodyPost_ret (v := .agg #[.bool f.there, .string f.text, .bool f.runs]) ?_ rfl ⟨rfl, ?_⟩
    · go_light
      simp [results, Try.results70, go_sem, p3, p4, p5]
    · have hgw := HGW.out
      exact ((hbl.setCell (p := ⟨g, 0, none⟩) hgw _).setCell (p := ⟨g, 1, none⟩) hgw _).setCell (p := ⟨g, 2, none⟩) hgw _
end Go.Proofs.Ytockgapdfcapnaa
