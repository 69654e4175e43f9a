/-
  A tree that stands for entries is told as these: plain.
-/
import Derived.Test.YtiadabmbfpfbjaaTellP
namespace Go.Proofs.Ytiadabmbfpfbjaa
open Go.RowKit

theorem part_plain {x : ByteArray} (h : partOk pathB x = true) : x.size ≤ 20 ∧ (47 : UInt8) ∉ x.data.toList := by
  refine ⟨partOk_size h, fun hm => ?_⟩
  simp only [partOk, Bool.and_eq_true, List.all_eq_true] at h
  have := h.2 47 hm
  simp [pathB, globB] at this

theorem valid_en {ts : List En} (h : ValidTs ts) {e : En} (he : e ∈ ts) : enOk e = true := by
  obtain ⟨i, hi, rfl⟩ := List.getElem_of_mem he
  exact (h.2 i hi).2.1
theorem valid_free {ts : List En} (h : ValidTs ts) {e e' : En} (he : e ∈ ts) (he' : e' ∈ ts) : ¬ Begins e.path e'.path := by
  intro hb
  obtain ⟨i, hi, rfl⟩ := List.getElem_of_mem he
  obtain ⟨j, hj, rfl⟩ := List.getElem_of_mem he'
  have hl := begins_less hb
  rcases Nat.lt_trichotomy i j with h1 | h1 | h1
  · obtain ⟨_, _, _, h2⟩ := h.2 j hj
    refine h2 ts[i] ?_ hb
    rw [List.mem_take_iff_getElem]
    exact ⟨i, by omega, rfl⟩
  · subst h1
    rw [less_irrefl] at hl
    cases hl
  · have h2 := asc h.2 i hi j h1 hi hj
    have := less_trans hl h2
    rw [less_irrefl] at this
    cases this

theorem path_parts {s : ByteArray} (h : pathOk pathB s = true) : (partsB s).length ≤ 6 ∧ ∀ x ∈ partsB s, x.size ≤ 20 ∧ (47 : UInt8) ∉ x.data.toList := by
  simp only [pathOk, Bool.and_eq_true, decide_eq_true_eq, List.all_eq_true] at h
  exact ⟨h.1, fun x hx => part_plain (h.2 x hx)⟩

theorem enOk_parts {e : En} (h : enOk e = true) : (partsB e.path).length ≤ 6 ∧ (∀ x ∈ partsB e.path, x.size ≤ 20 ∧ (47 : UInt8) ∉ x.data.toList) ∧ e.text.size ≤ 1500 := by
  simp only [enOk, Bool.and_eq_true, decide_eq_true_eq] at h
  exact ⟨(path_parts h.1).1, (path_parts h.1).2, h.2⟩

theorem good_of_shape {ts : List En} {β : Way → Option Nat} {φ : Way → Option (ByteArray × Bool)} (hv : ValidTs ts) (hS : Shape ts β φ) : GoodT 100 β φ where
  name q x h := by
    rcases (hS.nodes _).1 h with h1 | ⟨e, he, h1⟩
    · simp at h1
    · exact (enOk_parts (valid_en hv he)).2.1 x (h1.subset (by simp))
  deep q h := by
    rcases (hS.nodes _).1 h with rfl | ⟨e, he, h1⟩
    · simp
    · exact Nat.le_trans h1.length_le (enOk_parts (valid_en hv he)).1
  up q x h := by
    rcases (hS.nodes _).1 h with h1 | ⟨e, he, h1⟩
    · simp at h1
    · exact (hS.nodes _).2 (.inr ⟨e, he, (List.prefix_append q _).trans h1⟩)
  leaf q x h := by
    cases hc : β (q ++ [x]) with
    | none => rfl
    | some b =>
      exfalso
      obtain ⟨e, he, rfl⟩ := (hS.files q).1 h
      rcases (hS.nodes _).1 (by rw [hc]; simp) with h1 | ⟨e', he', h1⟩
      · simp at h1
      · refine valid_free hv he he' (begins_iff.2 ⟨(List.prefix_append _ _).trans h1, fun e1 => ?_⟩)
        rw [← e1] at h1
        have := h1.length_le
        simp at this; omega
  node := hS.files_nodes
  text q t r h := by
    obtain ⟨e, he, rfl⟩ := (hS.files q).1 (by rw [h]; simp)
    have := hS.vals e he
    rw [h] at this
    injection this with this
    injection this with h1 h2
    rw [h1]
    exact (enOk_parts (valid_en hv he)).2.2
  few := ⟨ts.map fun e => partsB e.path, by simp; exact hv.1, fun q h => by
    obtain ⟨e, he, rfl⟩ := (hS.files q).1 h
    exact List.mem_map_of_mem he⟩

theorem GoodT.strike {K : Nat} {β : Way → Option Nat} {φ : Way → Option (ByteArray × Bool)} (h : GoodT K β φ) (p : Way) : GoodT K β (upd φ p none) := by
  have hq : ∀ q, upd φ p none q ≠ none → φ q ≠ none := fun q hq => by
    by_cases e : q = p
    · subst e; rw [upd_same] at hq; exact absurd rfl hq
    · rwa [upd_other _ _ e] at hq
  obtain ⟨F, hF, hm⟩ := h.few
  refine ⟨h.name, h.deep, h.up, fun q x hx => h.leaf q x (hq q hx), fun q hx => h.node q (hq q hx), fun q t r hx => ?_, F, hF, fun q hx => hm q (hq q hx)⟩
  by_cases e : q = p
  · subst e; rw [upd_same] at hx; cases hx
  · rw [upd_other _ _ e] at hx
    exact h.text q t r hx

theorem tells_iff {ts : List En} {β : Way → Option Nat} {φ : Way → Option (ByteArray × Bool)} (hS : Shape ts β φ) (e : En) : φ (partsB e.path) = some (e.text, e.runs) ↔ e ∈ ts := by
  constructor
  · intro h
    obtain ⟨e', he, hp⟩ := (hS.files _).1 (by rw [h]; simp)
    have h2 := hS.vals e' he
    rw [hp, h] at h2
    injection h2 with h2
    injection h2 with h3 h4
    have h5 := partsB_inj hp
    cases e; cases e'
    simp_all
  · exact hS.vals e

theorem acc_nil (φ : Way → Option (ByteArray × Bool)) (p0 r : Way) : AccOk φ p0 r [] := ⟨List.Pairwise.nil, fun e he => by simp at he, fun e he => by simp at he⟩
theorem told_mem {φ : Way → Option (ByteArray × Bool)} {p0 : Way} {us : List En} (h : Told φ p0 [] [] us) (e : En) : e ∈ us ↔ φ (p0 ++ partsB e.path) = some (e.text, e.runs) := by
  rw [h.mem]
  constructor
  · rintro (h1 | ⟨h1, _⟩)
    · simp at h1
    · exact h1
  · intro h1
    exact .inr ⟨h1, List.nil_prefix, fun e1 => parts_ne _ e1.symm⟩

/-- All but one. -/
def without (ts : List En) (p : ByteArray) : List En := ts.filter fun e => !(e.path.toList == p.toList)
theorem without_mem {ts : List En} {p : ByteArray} (e : En) : e ∈ without ts p ↔ e ∈ ts ∧ e.path ≠ p := by
  unfold without
  rw [List.mem_filter, Bool.not_eq_true']
  refine and_congr Iff.rfl ?_
  rw [Bool.eq_false_iff, ne_eq, beq_iff_eq, Lib.toList_data, Lib.toList_data]
  exact ⟨fun h e => h (by rw [e]), fun h e => h (WideShapes.bytes_inj e)⟩

theorem told_without {ts : List En} {β : Way → Option Nat} {φ : Way → Option (ByteArray × Bool)} (hv : ValidTs ts) (hS : Shape ts β φ) {p : ByteArray} {us : List En} (h : Told (upd φ (partsB p) none) [] [] [] us) : us = without ts p := by
  refine asc_unique h.asc ((valid_asc hv).filter _) (fun e => ?_)
  rw [told_mem h, without_mem, List.nil_append]
  by_cases e1 : e.path = p
  · rw [e1, upd_same]; simp
  · rw [upd_other _ _ (fun e2 => e1 (partsB_inj e2)), tells_iff hS]
    simp [e1]

/-- What lies below a directory. -/
def cutE (dir : ByteArray) (e : En) : En := ⟨e.path.extract (dir.size + 1) e.path.size, e.text, e.runs⟩
theorem begins_cut {dir p : ByteArray} (h : Begins dir p) : p.data.toList = dir.data.toList ++ 47 :: (p.extract (dir.size + 1) p.size).data.toList := by
  obtain ⟨r, hr⟩ := h
  have hl : p.data.toList.length = p.size := (Lib.size_eq p).symm
  have hd : dir.data.toList.length = dir.size := (Lib.size_eq dir).symm
  rw [extract_mkB, mkB_list, hr]
  congr 1
  rw [show dir.data.toList ++ 47 :: r = (dir.data.toList ++ [47]) ++ r by simp, List.drop_left' (by simp [hd]), List.take_of_length_le]
  have := congrArg List.length hr
  simp at this
  omega
theorem parts_cut {dir p : ByteArray} (h : Begins dir p) : partsB p = partsB dir ++ partsB (p.extract (dir.size + 1) p.size) := by
  rw [partsB, begins_cut h, split_app, List.map_append]
  rfl
def beginsB (d p : ByteArray) : Bool := (d.data.toList ++ [47]).isPrefixOf p.data.toList
theorem beginsB_iff {d p : ByteArray} : beginsB d p = true ↔ Begins d p := by
  unfold beginsB Begins
  rw [List.isPrefixOf_iff_prefix]
  constructor
  · rintro ⟨r, hr⟩; exact ⟨r, by rw [← hr]; simp⟩
  · rintro ⟨r, hr⟩; exact ⟨r, by rw [hr]; simp⟩
def under (ts : List En) (dir : ByteArray) : List En := (ts.filter fun e => beginsB dir e.path).map (cutE dir)

theorem told_under {ts : List En} {β : Way → Option Nat} {φ : Way → Option (ByteArray × Bool)} (hv : ValidTs ts) (hS : Shape ts β φ) {dir : ByteArray} {us : List En} (h : Told φ (partsB dir) [] [] us) : us = under ts dir := by
  refine asc_unique h.asc ?_ (fun e => ?_)
  · unfold under Asc
    rw [List.pairwise_map]
    refine List.Pairwise.imp_of_mem (fun {a b} ha hb hl => ?_) ((valid_asc hv).filter _)
    have h1 := beginsB_iff.1 (List.mem_filter.1 ha).2
    have h2 := beginsB_iff.1 (List.mem_filter.1 hb).2
    rw [Lib.toList_data, Lib.toList_data, begins_cut h1, begins_cut h2, less_front] at hl
    have hcons : ∀ x y : List UInt8, Op.bytesLess (47 :: x) (47 :: y) = Op.bytesLess x y := fun x y => less_front [47] x y
    rw [hcons] at hl
    rw [Lib.toList_data, Lib.toList_data]
    exact hl
  · rw [told_mem h, under, List.mem_map]
    constructor
    · intro h1
      obtain ⟨e', he, hp⟩ := (hS.files _).1 (show φ (partsB dir ++ partsB e.path) ≠ none by rw [h1]; simp)
      have hb : Begins dir e'.path := begins_iff.2 ⟨⟨_, hp.symm⟩, fun e1 => by
        rw [hp] at e1
        have := congrArg List.length e1
        have h3 := parts_ne e.path
        simp at this
        exact h3 this⟩
      refine ⟨e', List.mem_filter.2 ⟨he, beginsB_iff.2 hb⟩, ?_⟩
      have h2 := hS.vals e' he
      rw [hp, h1] at h2
      injection h2 with h2
      injection h2 with h3 h4
      have h5 : e'.path.extract (dir.size + 1) e'.path.size = e.path := by
        have := parts_cut hb
        rw [hp] at this
        exact (partsB_inj (List.append_cancel_left this)).symm
      unfold cutE
      rw [h5]
      cases e
      simp_all
    · rintro ⟨e', he, rfl⟩
      obtain ⟨he1, he2⟩ := List.mem_filter.1 he
      have hb := beginsB_iff.1 he2
      show φ (partsB dir ++ partsB (e'.path.extract (dir.size + 1) e'.path.size)) = some (e'.text, e'.runs)
      rw [← parts_cut hb]
      exact hS.vals e' he1
end Go.Proofs.Ytiadabmbfpfbjaa
