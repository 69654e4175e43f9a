/-
  TellP, TellE, MgP, TabP, NumI, MeasI, MeasW: laid as one text.
-/
import Derived.Test.YtjiafjdjocmodaaGreatOrderP
import Derived.Test.YtjiafjdjocmodaaGreatAtP
import Derived.Test.YtjiafjdjocmodaaGreatPathS
import Derived.WalkKit
import Derived.Test.YtjiafjdjocmodaaGreatStrsB
import Derived.Test.YtjiafjdjocmodaaGreatBase
import Derived.Maps.OwnSet
import Derived.Maps.OwnIn
import Derived.Maps.Views
import Derived.Maps.AppendAt
import Derived.Test.YtjiafjdjocmodaaGreatLaterQ
import Derived.Deep.RegionWith
namespace Go.Proofs.YtjiafjdjocmodaaGreat
open Go.RowKit

/-- A tree as it is when it is told. -/
structure GoodT (K : Nat) (β : Way → Option Nat) (φ : Way → Option (ByteArray × Bool)) : Prop where
  name : ∀ q x, β (q ++ [x]) ≠ none → x.size ≤ 20 ∧ (47 : UInt8) ∉ x.data.toList
  deep : ∀ q, β q ≠ none → q.length ≤ 6
  up : ∀ q x, β (q ++ [x]) ≠ none → β q ≠ none
  leaf : ∀ q x, φ q ≠ none → β (q ++ [x]) = none
  node : ∀ q, φ q ≠ none → β q ≠ none
  text : ∀ q t r, φ q = some (t, r) → t.size ≤ 1500
  few : ∃ F : List Way, F.length ≤ K ∧ ∀ q, φ q ≠ none → q ∈ F

theorem GoodT.pre {K : Nat} {β : Way → Option Nat} {φ : Way → Option (ByteArray × Bool)} (h : GoodT K β φ) : ∀ (t q : Way), β (q ++ t) ≠ none → β q ≠ none
  | [], q, hq => by simpa using hq
  | x :: t, q, hq => by
    have h1 : β ((q ++ [x]) ++ t) ≠ none := by rw [List.append_assoc]; exact hq
    exact h.up q x (h.pre t (q ++ [x]) h1)

def Tells (φ : Way → Option (ByteArray × Bool)) (p0 : Way) (e : En) : Prop := φ (p0 ++ partsB e.path) = some (e.text, e.runs)
/-- What stands in front of a path's parts. -/
def Front (f : ByteArray) (r : Way) : Prop := ∀ s : ByteArray, partsB (f ++ s) = r ++ partsB s

theorem parts_plain {x : ByteArray} (h : (47 : UInt8) ∉ x.data.toList) : partsB x = [x] := by
  rw [partsB, splitS_none _ (fun k hk => h (List.mem_of_getElem? hk))]
  simp [mkB_data]
theorem parts_app (x s : ByteArray) : partsB (x ++ ⟨#[47]⟩ ++ s) = partsB x ++ partsB s := by
  rw [partsB, show (x ++ ⟨#[47]⟩ ++ s).data.toList = x.data.toList ++ 47 :: s.data.toList by simp [ByteArray.data_append], split_app, List.map_append]
  rfl
theorem app_assoc (a b c : ByteArray) : a ++ b ++ c = a ++ (b ++ c) := by
  apply WideShapes.bytes_inj
  simp [ByteArray.data_append]
theorem front_nil : Front ⟨#[]⟩ [] := fun s => by
  have : (⟨#[]⟩ : ByteArray) ++ s = s := by apply WideShapes.bytes_inj; simp [ByteArray.data_append]
  rw [this]; rfl
theorem front_file {f x : ByteArray} {r : Way} (h : Front f r) (hx : (47 : UInt8) ∉ x.data.toList) : partsB (f ++ x) = r ++ [x] := by
  rw [h x, parts_plain hx]
theorem front_step {f x : ByteArray} {r : Way} (h : Front f r) (hx : (47 : UInt8) ∉ x.data.toList) : Front (f ++ x ++ ⟨#[47]⟩) (r ++ [x]) := fun s => by
  rw [show f ++ x ++ ⟨#[47]⟩ ++ s = f ++ (x ++ ⟨#[47]⟩ ++ s) by rw [app_assoc, app_assoc, app_assoc], h, parts_app, parts_plain hx]
  simp

theorem parts_ne (s : ByteArray) : partsB s ≠ [] := by
  unfold partsB
  intro h
  exact splitS_ne _ (by simpa using h)

/-- A path's bytes, by its parts. -/
theorem path_bytes {s : ByteArray} {r : Way} {x : ByteArray} {t : Way} (h : partsB s = r ++ x :: t) :
    s.data.toList = (if r = [] then [] else joinS (r.map fun y => y.data.toList) ++ [47]) ++ (if t = [] then x.data.toList else x.data.toList ++ 47 :: joinS (t.map fun y => y.data.toList)) := by
  have h1 : splitS s.data.toList = (r ++ x :: t).map fun y => y.data.toList := by
    rw [← h, partsB, List.map_map]
    rw [show ((fun y : ByteArray => y.data.toList) ∘ mkB) = id by funext l; simp [mkB_list]]
    simp
  have h2 := join_split s.data.toList
  rw [h1] at h2
  rw [← h2, List.map_append, List.map_cons]
  have hj : joinS (x.data.toList :: t.map fun y => y.data.toList) = if t = [] then x.data.toList else x.data.toList ++ 47 :: joinS (t.map fun y => y.data.toList) := by
    by_cases ht : t = []
    · subst ht; rfl
    · rw [if_neg ht, joinS_cons _ (by simpa using ht)]
  by_cases hr : r = []
  · subst hr
    rw [if_pos rfl]
    simpa using hj
  · rw [if_neg hr, joinS_append _ (by simpa using hr) (by simp), hj]
    simp

theorem told_begin {K : Nat} {β : Way → Option Nat} {φ : Way → Option (ByteArray × Bool)} (h : GoodT K β φ) {p0 r t : Way} {x : ByteArray} {e : En} (he : Tells φ p0 e) (hp : partsB e.path = r ++ x :: t) :
    ∃ rest, e.path.data.toList = (if r = [] then [] else joinS (r.map fun y => y.data.toList) ++ [47]) ++ (beginL (φ (p0 ++ r ++ [x])).isSome x.data.toList ++ rest) ∧ ((φ (p0 ++ r ++ [x])).isSome = true → rest = []) := by
  have hb := path_bytes hp
  have hw : φ (p0 ++ r ++ [x] ++ t) ≠ none := by
    unfold Tells at he
    rw [hp] at he
    rw [show p0 ++ r ++ [x] ++ t = p0 ++ (r ++ x :: t) by simp, he]
    simp
  cases ht : t with
  | nil =>
    rw [ht] at hb hw
    rw [List.append_nil] at hw
    have hs : (φ (p0 ++ r ++ [x])).isSome = true := by
      cases hc : φ (p0 ++ r ++ [x]) with
      | none => exact absurd hc hw
      | some _ => rfl
    refine ⟨[], ?_, fun _ => rfl⟩
    rw [hs, hb]
    simp [beginL]
  | cons y t' =>
    rw [ht] at hb hw
    have hn : φ (p0 ++ r ++ [x]) = none := by
      cases hc : φ (p0 ++ r ++ [x]) with
      | none => rfl
      | some f =>
        have h1 := h.leaf (p0 ++ r ++ [x]) y (by rw [hc]; simp)
        have h2 := h.node _ hw
        have h3 := h.pre t' (p0 ++ r ++ [x] ++ [y]) (by rw [List.append_assoc]; exact h2)
        exact absurd h1 h3
    refine ⟨joinS ((y :: t').map fun y => y.data.toList), ?_, fun hs => by rw [hn] at hs; cases hs⟩
    rw [hn, hb]
    simp [beginL]

theorem told_less {K : Nat} {β : Way → Option Nat} {φ : Way → Option (ByteArray × Bool)} (h : GoodT K β φ) {p0 r : Way} {x y : ByteArray} {e e' : En} (he : Tells φ p0 e) (he' : Tells φ p0 e') (hp : r ++ [x] <+: partsB e.path) (hp' : r ++ [y] <+: partsB e'.path)
    (hx : (47 : UInt8) ∉ x.data.toList) (hy : (47 : UInt8) ∉ y.data.toList) (hne : x ≠ y) (hl : Op.bytesLess (beginL (φ (p0 ++ r ++ [x])).isSome x.data.toList) (beginL (φ (p0 ++ r ++ [y])).isSome y.data.toList) = true) : Op.bytesLess e.path.toList e'.path.toList = true := by
  obtain ⟨t, ht⟩ := hp
  obtain ⟨t', ht'⟩ := hp'
  obtain ⟨rest, h1, h2⟩ := told_begin h he (t := t) (x := x) (r := r) (by rw [← ht]; simp)
  obtain ⟨rest', h1', _⟩ := told_begin h he' (t := t') (x := y) (r := r) (by rw [← ht']; simp)
  rw [Lib.toList_data, Lib.toList_data, h1, h1']
  exact kids_less _ _ _ hx hy (fun e => hne (WideShapes.bytes_inj e)) hl h2

/-- The names of a node's kids, in order. -/
structure NamesOf (β : Way → Option Nat) (φ : Way → Option (ByteArray × Bool)) (q : Way) (ns : List ByteArray) : Prop where
  mem : ∀ x, x ∈ ns ↔ β (q ++ [x]) ≠ none
  ord : ns.Pairwise fun x y => x ≠ y ∧ Op.bytesLess (beginL (φ (q ++ [x])).isSome x.data.toList) (beginL (φ (q ++ [y])).isSome y.data.toList) = true

/-- What was told before. -/
structure AccOk (φ : Way → Option (ByteArray × Bool)) (p0 r : Way) (acc : List En) : Prop where
  asc : Asc acc
  tells : ∀ e ∈ acc, Tells φ p0 e
  less : ∀ e ∈ acc, ∀ e', Tells φ p0 e' → r <+: partsB e'.path → r ≠ partsB e'.path → Op.bytesLess e.path.toList e'.path.toList = true

structure Told (φ : Way → Option (ByteArray × Bool)) (p0 r : Way) (acc us : List En) : Prop where
  asc : Asc us
  mem : ∀ e, e ∈ us ↔ e ∈ acc ∨ (Tells φ p0 e ∧ r <+: partsB e.path ∧ r ≠ partsB e.path)

structure Mid (φ : Way → Option (ByteArray × Bool)) (p0 r : Way) (acc : List En) (xs : List ByteArray) (us : List En) : Prop where
  asc : Asc us
  mem : ∀ e, e ∈ us ↔ e ∈ acc ∨ (Tells φ p0 e ∧ ∃ x ∈ xs, r ++ [x] <+: partsB e.path)

theorem Mid.start {φ : Way → Option (ByteArray × Bool)} {p0 r : Way} {acc : List En} (h : AccOk φ p0 r acc) : Mid φ p0 r acc [] acc := ⟨h.asc, fun e => by simp⟩
theorem Mid.tells {φ : Way → Option (ByteArray × Bool)} {p0 r : Way} {acc us : List En} {xs : List ByteArray} (h : AccOk φ p0 r acc) (m : Mid φ p0 r acc xs us) : ∀ e ∈ us, Tells φ p0 e := fun e he => by
  rcases (m.mem e).1 he with h1 | h1
  · exact h.tells e h1
  · exact h1.1

theorem ord_before {β : Way → Option Nat} {φ : Way → Option (ByteArray × Bool)} {q : Way} {ns : List ByteArray} (h : NamesOf β φ q ns) {k : Nat} (hk : k < ns.length) : ∀ x ∈ ns.take k, x ≠ ns[k] ∧ Op.bytesLess (beginL (φ (q ++ [x])).isSome x.data.toList) (beginL (φ (q ++ [ns[k]])).isSome ns[k].data.toList) = true := by
  intro x hx
  obtain ⟨j, hj, rfl⟩ := List.getElem_of_mem hx
  simp at hj
  rw [List.getElem_take]
  exact List.pairwise_iff_getElem.1 h.ord j k (by omega) hk (by omega)

theorem Mid.less {K : Nat} {β : Way → Option Nat} {φ : Way → Option (ByteArray × Bool)} (hG : GoodT K β φ) {p0 r : Way} {acc us : List En} {ns : List ByteArray} (hA : AccOk φ p0 r acc) (hN : NamesOf β φ (p0 ++ r) ns) {k : Nat} (hk : k < ns.length) (m : Mid φ p0 r acc (ns.take k) us) :
    ∀ e ∈ us, ∀ e', Tells φ p0 e' → r ++ [ns[k]] <+: partsB e'.path → Op.bytesLess e.path.toList e'.path.toList = true := by
  intro e he e' he' hp
  rcases (m.mem e).1 he with h1 | ⟨h1, x, hx, h2⟩
  · refine hA.less e h1 e' he' ((List.prefix_append r _).trans hp) (fun h3 => ?_)
    rw [← h3] at hp
    have := hp.length_le
    simp at this; omega
  · obtain ⟨h3, h4⟩ := ord_before hN hk x hx
    exact told_less hG h1 he' h2 hp (hG.name _ _ ((hN.mem x).1 (List.mem_of_mem_take hx))).2 (hG.name _ _ ((hN.mem _).1 (List.getElem_mem hk))).2 h3 h4

theorem take_succ_mem {α : Type} {ns : List α} {k : Nat} (hk : k < ns.length) (x : α) : x ∈ ns.take (k + 1) ↔ x ∈ ns.take k ∨ x = ns[k] := by
  rw [List.take_succ_eq_append_getElem hk, List.mem_append, List.mem_singleton]

theorem Mid.file {K : Nat} {β : Way → Option Nat} {φ : Way → Option (ByteArray × Bool)} (hG : GoodT K β φ) {p0 r : Way} {acc us : List En} {ns : List ByteArray} (hA : AccOk φ p0 r acc) (hN : NamesOf β φ (p0 ++ r) ns) {k : Nat} (hk : k < ns.length) (m : Mid φ p0 r acc (ns.take k) us)
    {f t : ByteArray} {rn : Bool} (hf : Front f r) (hφ : φ (p0 ++ r ++ [ns[k]]) = some (t, rn)) : Mid φ p0 r acc (ns.take (k + 1)) (us ++ [⟨f ++ ns[k], t, rn⟩]) := by
  have hx := (hG.name _ _ ((hN.mem _).1 (List.getElem_mem hk))).2
  have hpp := front_file hf hx
  have ht : Tells φ p0 ⟨f ++ ns[k], t, rn⟩ := by
    show φ (p0 ++ partsB (f ++ ns[k])) = _
    rw [hpp, ← List.append_assoc]
    exact hφ
  refine ⟨?_, fun e => ?_⟩
  · refine List.pairwise_append.2 ⟨m.asc, by simp, fun a ha b hb => ?_⟩
    rw [List.mem_singleton.1 hb]
    exact m.less hG hA hN hk a ha _ ht (by rw [hpp]; exact List.prefix_refl _)
  · rw [List.mem_append, List.mem_singleton, m.mem]
    constructor
    · rintro ((h | ⟨h, x, hx, h2⟩) | rfl)
      · exact .inl h
      · exact .inr ⟨h, x, (take_succ_mem hk x).2 (.inl hx), h2⟩
      · exact .inr ⟨ht, ns[k], (take_succ_mem hk _).2 (.inr rfl), by rw [hpp]; exact List.prefix_refl _⟩
    · rintro (h | ⟨h, x, hx, h2⟩)
      · exact .inl (.inl h)
      · rcases (take_succ_mem hk x).1 hx with h3 | rfl
        · exact .inl (.inr ⟨h, x, h3, h2⟩)
        · right
          obtain ⟨s, hs⟩ := h2
          have hs0 : s = [] := by
            cases s with
            | nil => rfl
            | cons y s' =>
              exfalso
              have h4 := hG.leaf (p0 ++ r ++ [ns[k]]) y (by rw [hφ]; simp)
              have h5 : φ (p0 ++ r ++ [ns[k]] ++ [y] ++ s') ≠ none := by
                unfold Tells at h
                rw [← hs] at h
                rw [show p0 ++ r ++ [ns[k]] ++ [y] ++ s' = p0 ++ (r ++ [ns[k]] ++ y :: s') by simp, h]
                simp
              exact absurd h4 (hG.pre s' _ (hG.node _ h5))
          subst hs0
          rw [List.append_nil] at hs
          have h6 : e.path = f ++ ns[k] := partsB_inj (hs.symm.trans hpp.symm)
          unfold Tells at h
          rw [← hs, ← List.append_assoc, hφ] at h
          injection h with h
          injection h with h7 h8
          cases e
          simp_all

theorem Mid.acc {K : Nat} {β : Way → Option Nat} {φ : Way → Option (ByteArray × Bool)} (hG : GoodT K β φ) {p0 r : Way} {acc us : List En} {ns : List ByteArray} (hA : AccOk φ p0 r acc) (hN : NamesOf β φ (p0 ++ r) ns) {k : Nat} (hk : k < ns.length) (m : Mid φ p0 r acc (ns.take k) us) : AccOk φ p0 (r ++ [ns[k]]) us :=
  ⟨m.asc, m.tells hA, fun e he e' he' hp _ => m.less hG hA hN hk e he e' he' hp⟩

theorem Mid.dir {φ : Way → Option (ByteArray × Bool)} {p0 r : Way} {acc us us' : List En} {ns : List ByteArray} {k : Nat} (hk : k < ns.length) (m : Mid φ p0 r acc (ns.take k) us) (hφ : φ (p0 ++ r ++ [ns[k]]) = none) (h : Told φ p0 (r ++ [ns[k]]) us us') : Mid φ p0 r acc (ns.take (k + 1)) us' := by
  refine ⟨h.asc, fun e => ?_⟩
  rw [h.mem, m.mem]
  constructor
  · rintro ((h1 | ⟨h1, x, hx, h2⟩) | ⟨h1, h2, _⟩)
    · exact .inl h1
    · exact .inr ⟨h1, x, (take_succ_mem hk x).2 (.inl hx), h2⟩
    · exact .inr ⟨h1, ns[k], (take_succ_mem hk _).2 (.inr rfl), h2⟩
  · rintro (h1 | ⟨h1, x, hx, h2⟩)
    · exact .inl (.inl h1)
    · rcases (take_succ_mem hk x).1 hx with h3 | rfl
      · exact .inl (.inr ⟨h1, x, h3, h2⟩)
      · refine .inr ⟨h1, h2, fun h3 => ?_⟩
        unfold Tells at h1
        rw [← h3, ← List.append_assoc, hφ] at h1
        cases h1

theorem Mid.done {K : Nat} {β : Way → Option Nat} {φ : Way → Option (ByteArray × Bool)} (hG : GoodT K β φ) {p0 r : Way} {acc us : List En} {ns : List ByteArray} (hN : NamesOf β φ (p0 ++ r) ns) (m : Mid φ p0 r acc ns us) : Told φ p0 r acc us := by
  refine ⟨m.asc, fun e => ?_⟩
  rw [m.mem]
  constructor
  · rintro (h1 | ⟨h1, x, _, h2⟩)
    · exact .inl h1
    · refine .inr ⟨h1, (List.prefix_append r _).trans h2, fun h3 => ?_⟩
      rw [← h3] at h2
      have := h2.length_le
      simp at this; omega
  · rintro (h1 | ⟨h1, ⟨t, ht⟩, h3⟩)
    · exact .inl h1
    · cases t with
      | nil => exact absurd (by rw [← ht]; simp) h3
      | cons x t =>
        refine .inr ⟨h1, x, (hN.mem x).2 ?_, ⟨t, by rw [← ht]; simp⟩⟩
        have h4 : φ (p0 ++ r ++ [x] ++ t) ≠ none := by
          unfold Tells at h1
          rw [← ht] at h1
          rw [show p0 ++ r ++ [x] ++ t = p0 ++ (r ++ x :: t) by simp, h1]
          simp
        exact hG.pre t _ (hG.node _ h4)

/-! How many. -/
theorem nodup_le : ∀ {l F : List Way}, l.Nodup → (∀ q ∈ l, q ∈ F) → l.length ≤ F.length
  | [], _, _, _ => Nat.zero_le _
  | x :: l, F, hn, hs => by
    obtain ⟨a, b, rfl⟩ := List.append_of_mem (hs x (by simp))
    have h1 := nodup_le (l := l) (F := a ++ b) (List.nodup_cons.1 hn).2 (fun q hq => by
      have h2 := hs q (by simp [hq])
      rcases List.mem_append.1 h2 with h3 | h3
      · exact List.mem_append.2 (.inl h3)
      · rcases List.mem_cons.1 h3 with h4 | h4
        · subst h4; exact absurd hq (List.nodup_cons.1 hn).1
        · exact List.mem_append.2 (.inr h4))
    simp only [List.length_cons, List.length_append] at h1 ⊢
    omega

theorem tells_few {K : Nat} {β : Way → Option Nat} {φ : Way → Option (ByteArray × Bool)} (hG : GoodT K β φ) {p0 : Way} {us : List En} (hA : Asc us) (hT : ∀ e ∈ us, Tells φ p0 e) : us.length ≤ K := by
  obtain ⟨F, hF, hm⟩ := hG.few
  have h1 := nodup_le (l := us.map fun e => p0 ++ partsB e.path) (F := F) (by
    unfold List.Nodup
    rw [List.pairwise_map]
    refine List.Pairwise.imp (fun {a b} h e => ?_) hA
    have := partsB_inj (List.append_cancel_left e)
    rw [this, less_irrefl] at h
    cases h) (fun q hq => by
      obtain ⟨e, he, rfl⟩ := List.mem_map.1 hq
      exact hm _ (by rw [hT e he]; simp))
  simp at h1
  omega
end Go.Proofs.YtjiafjdjocmodaaGreat

namespace Go.Proofs.YtjiafjdjocmodaaGreat
open Go.RowKit

theorem part_plain {x : ByteArray} (h : partOk pathB x = true) : x.size ≤ 20 ∧ (47 : UInt8) ∉ x.data.toList := by
  refine ⟨partOk_size h, fun hm => ?_⟩
  simp only [partOk, Bool.and_eq_true, List.all_eq_true] at h
  have := h.2 47 hm
  simp [pathB, globB] at this

theorem valid_en {ts : List En} (h : ValidTs ts) {e : En} (he : e ∈ ts) : enOk e = true := by
  obtain ⟨i, hi, rfl⟩ := List.getElem_of_mem he
  exact (h.2 i hi).2.1
theorem valid_free {ts : List En} (h : ValidTs ts) {e e' : En} (he : e ∈ ts) (he' : e' ∈ ts) : ¬ Begins e.path e'.path := by
  intro hb
  obtain ⟨i, hi, rfl⟩ := List.getElem_of_mem he
  obtain ⟨j, hj, rfl⟩ := List.getElem_of_mem he'
  have hl := begins_less hb
  rcases Nat.lt_trichotomy i j with h1 | h1 | h1
  · obtain ⟨_, _, _, h2⟩ := h.2 j hj
    refine h2 ts[i] ?_ hb
    rw [List.mem_take_iff_getElem]
    exact ⟨i, by omega, rfl⟩
  · subst h1
    rw [less_irrefl] at hl
    cases hl
  · have h2 := asc h.2 i hi j h1 hi hj
    have := less_trans hl h2
    rw [less_irrefl] at this
    cases this

theorem path_parts {s : ByteArray} (h : pathOk pathB s = true) : (partsB s).length ≤ 6 ∧ ∀ x ∈ partsB s, x.size ≤ 20 ∧ (47 : UInt8) ∉ x.data.toList := by
  simp only [pathOk, Bool.and_eq_true, decide_eq_true_eq, List.all_eq_true] at h
  exact ⟨h.1, fun x hx => part_plain (h.2 x hx)⟩

theorem enOk_parts {e : En} (h : enOk e = true) : (partsB e.path).length ≤ 6 ∧ (∀ x ∈ partsB e.path, x.size ≤ 20 ∧ (47 : UInt8) ∉ x.data.toList) ∧ e.text.size ≤ 1500 := by
  simp only [enOk, Bool.and_eq_true, decide_eq_true_eq] at h
  exact ⟨(path_parts h.1).1, (path_parts h.1).2, h.2⟩

theorem good_of_shape {ts : List En} {β : Way → Option Nat} {φ : Way → Option (ByteArray × Bool)} (hv : ValidTs ts) (hS : Shape ts β φ) : GoodT 100 β φ where
  name q x h := by
    rcases (hS.nodes _).1 h with h1 | ⟨e, he, h1⟩
    · simp at h1
    · exact (enOk_parts (valid_en hv he)).2.1 x (h1.subset (by simp))
  deep q h := by
    rcases (hS.nodes _).1 h with rfl | ⟨e, he, h1⟩
    · simp
    · exact Nat.le_trans h1.length_le (enOk_parts (valid_en hv he)).1
  up q x h := by
    rcases (hS.nodes _).1 h with h1 | ⟨e, he, h1⟩
    · simp at h1
    · exact (hS.nodes _).2 (.inr ⟨e, he, (List.prefix_append q _).trans h1⟩)
  leaf q x h := by
    cases hc : β (q ++ [x]) with
    | none => rfl
    | some b =>
      exfalso
      obtain ⟨e, he, rfl⟩ := (hS.files q).1 h
      rcases (hS.nodes _).1 (by rw [hc]; simp) with h1 | ⟨e', he', h1⟩
      · simp at h1
      · refine valid_free hv he he' (begins_iff.2 ⟨(List.prefix_append _ _).trans h1, fun e1 => ?_⟩)
        rw [← e1] at h1
        have := h1.length_le
        simp at this; omega
  node := hS.files_nodes
  text q t r h := by
    obtain ⟨e, he, rfl⟩ := (hS.files q).1 (by rw [h]; simp)
    have := hS.vals e he
    rw [h] at this
    injection this with this
    injection this with h1 h2
    rw [h1]
    exact (enOk_parts (valid_en hv he)).2.2
  few := ⟨ts.map fun e => partsB e.path, by simp; exact hv.1, fun q h => by
    obtain ⟨e, he, rfl⟩ := (hS.files q).1 h
    exact List.mem_map_of_mem he⟩

theorem GoodT.strike {K : Nat} {β : Way → Option Nat} {φ : Way → Option (ByteArray × Bool)} (h : GoodT K β φ) (p : Way) : GoodT K β (upd φ p none) := by
  have hq : ∀ q, upd φ p none q ≠ none → φ q ≠ none := fun q hq => by
    by_cases e : q = p
    · subst e; rw [upd_same] at hq; exact absurd rfl hq
    · rwa [upd_other _ _ e] at hq
  obtain ⟨F, hF, hm⟩ := h.few
  refine ⟨h.name, h.deep, h.up, fun q x hx => h.leaf q x (hq q hx), fun q hx => h.node q (hq q hx), fun q t r hx => ?_, F, hF, fun q hx => hm q (hq q hx)⟩
  by_cases e : q = p
  · subst e; rw [upd_same] at hx; cases hx
  · rw [upd_other _ _ e] at hx
    exact h.text q t r hx

theorem tells_iff {ts : List En} {β : Way → Option Nat} {φ : Way → Option (ByteArray × Bool)} (hS : Shape ts β φ) (e : En) : φ (partsB e.path) = some (e.text, e.runs) ↔ e ∈ ts := by
  constructor
  · intro h
    obtain ⟨e', he, hp⟩ := (hS.files _).1 (by rw [h]; simp)
    have h2 := hS.vals e' he
    rw [hp, h] at h2
    injection h2 with h2
    injection h2 with h3 h4
    have h5 := partsB_inj hp
    cases e; cases e'
    simp_all
  · exact hS.vals e

theorem acc_nil (φ : Way → Option (ByteArray × Bool)) (p0 r : Way) : AccOk φ p0 r [] := ⟨List.Pairwise.nil, fun e he => by simp at he, fun e he => by simp at he⟩
theorem told_mem {φ : Way → Option (ByteArray × Bool)} {p0 : Way} {us : List En} (h : Told φ p0 [] [] us) (e : En) : e ∈ us ↔ φ (p0 ++ partsB e.path) = some (e.text, e.runs) := by
  rw [h.mem]
  constructor
  · rintro (h1 | ⟨h1, _⟩)
    · simp at h1
    · exact h1
  · intro h1
    exact .inr ⟨h1, List.nil_prefix, fun e1 => parts_ne _ e1.symm⟩

/-- All but one. -/
def without (ts : List En) (p : ByteArray) : List En := ts.filter fun e => !(e.path.toList == p.toList)
theorem without_mem {ts : List En} {p : ByteArray} (e : En) : e ∈ without ts p ↔ e ∈ ts ∧ e.path ≠ p := by
  unfold without
  rw [List.mem_filter, Bool.not_eq_true']
  refine and_congr Iff.rfl ?_
  rw [Bool.eq_false_iff, ne_eq, beq_iff_eq, Lib.toList_data, Lib.toList_data]
  exact ⟨fun h e => h (by rw [e]), fun h e => h (WideShapes.bytes_inj e)⟩

theorem told_without {ts : List En} {β : Way → Option Nat} {φ : Way → Option (ByteArray × Bool)} (hv : ValidTs ts) (hS : Shape ts β φ) {p : ByteArray} {us : List En} (h : Told (upd φ (partsB p) none) [] [] [] us) : us = without ts p := by
  refine asc_unique h.asc ((valid_asc hv).filter _) (fun e => ?_)
  rw [told_mem h, without_mem, List.nil_append]
  by_cases e1 : e.path = p
  · rw [e1, upd_same]; simp
  · rw [upd_other _ _ (fun e2 => e1 (partsB_inj e2)), tells_iff hS]
    simp [e1]

/-- What lies below a directory. -/
def cutE (dir : ByteArray) (e : En) : En := ⟨e.path.extract (dir.size + 1) e.path.size, e.text, e.runs⟩
theorem begins_cut {dir p : ByteArray} (h : Begins dir p) : p.data.toList = dir.data.toList ++ 47 :: (p.extract (dir.size + 1) p.size).data.toList := by
  obtain ⟨r, hr⟩ := h
  have hl : p.data.toList.length = p.size := (Lib.size_eq p).symm
  have hd : dir.data.toList.length = dir.size := (Lib.size_eq dir).symm
  rw [extract_mkB, mkB_list, hr]
  congr 1
  rw [show dir.data.toList ++ 47 :: r = (dir.data.toList ++ [47]) ++ r by simp, List.drop_left' (by simp [hd]), List.take_of_length_le]
  have := congrArg List.length hr
  simp at this
  omega
theorem parts_cut {dir p : ByteArray} (h : Begins dir p) : partsB p = partsB dir ++ partsB (p.extract (dir.size + 1) p.size) := by
  rw [partsB, begins_cut h, split_app, List.map_append]
  rfl
def beginsB (d p : ByteArray) : Bool := (d.data.toList ++ [47]).isPrefixOf p.data.toList
theorem beginsB_iff {d p : ByteArray} : beginsB d p = true ↔ Begins d p := by
  unfold beginsB Begins
  rw [List.isPrefixOf_iff_prefix]
  constructor
  · rintro ⟨r, hr⟩; exact ⟨r, by rw [← hr]; simp⟩
  · rintro ⟨r, hr⟩; exact ⟨r, by rw [hr]; simp⟩
def under (ts : List En) (dir : ByteArray) : List En := (ts.filter fun e => beginsB dir e.path).map (cutE dir)

theorem told_under {ts : List En} {β : Way → Option Nat} {φ : Way → Option (ByteArray × Bool)} (hv : ValidTs ts) (hS : Shape ts β φ) {dir : ByteArray} {us : List En} (h : Told φ (partsB dir) [] [] us) : us = under ts dir := by
  refine asc_unique h.asc ?_ (fun e => ?_)
  · unfold under Asc
    rw [List.pairwise_map]
    refine List.Pairwise.imp_of_mem (fun {a b} ha hb hl => ?_) ((valid_asc hv).filter _)
    have h1 := beginsB_iff.1 (List.mem_filter.1 ha).2
    have h2 := beginsB_iff.1 (List.mem_filter.1 hb).2
    rw [Lib.toList_data, Lib.toList_data, begins_cut h1, begins_cut h2, less_front] at hl
    have hcons : ∀ x y : List UInt8, Op.bytesLess (47 :: x) (47 :: y) = Op.bytesLess x y := fun x y => less_front [47] x y
    rw [hcons] at hl
    rw [Lib.toList_data, Lib.toList_data]
    exact hl
  · rw [told_mem h, under, List.mem_map]
    constructor
    · intro h1
      obtain ⟨e', he, hp⟩ := (hS.files _).1 (show φ (partsB dir ++ partsB e.path) ≠ none by rw [h1]; simp)
      have hb : Begins dir e'.path := begins_iff.2 ⟨⟨_, hp.symm⟩, fun e1 => by
        rw [hp] at e1
        have := congrArg List.length e1
        have h3 := parts_ne e.path
        simp at this
        exact h3 this⟩
      refine ⟨e', List.mem_filter.2 ⟨he, beginsB_iff.2 hb⟩, ?_⟩
      have h2 := hS.vals e' he
      rw [hp, h1] at h2
      injection h2 with h2
      injection h2 with h3 h4
      have h5 : e'.path.extract (dir.size + 1) e'.path.size = e.path := by
        have := parts_cut hb
        rw [hp] at this
        exact (partsB_inj (List.append_cancel_left this)).symm
      unfold cutE
      rw [h5]
      cases e
      simp_all
    · rintro ⟨e', he, rfl⟩
      obtain ⟨he1, he2⟩ := List.mem_filter.1 he
      have hb := beginsB_iff.1 he2
      show φ (partsB dir ++ partsB (e'.path.extract (dir.size + 1) e'.path.size)) = some (e'.text, e'.runs)
      rw [← parts_cut hb]
      exact hS.vals e' he1
end Go.Proofs.YtjiafjdjocmodaaGreat

namespace Go.Proofs.YtjiafjdjocmodaaGreat
open Go.RowKit

abbrev MrgF := ByteArray → ByteArray → ByteArray → Option (List UInt8)
def chs (f a b : Fl) : Option Fl := if sameF a f = true then some b else if (sameF b f || sameF b a) = true then some a else none
def runsM (x y z : Bool) : Bool := if (y == x) = true then z else y
/-- What comes out under a path; none: a clash. -/
def pathM (F : MrgF) (f a b : Fl) : Option Fl :=
  match chs f a b with
  | some g => some g
  | none => if (f.there && a.there && b.there) = true then
      match F f.text a.text b.text with
      | some s => if s.length ≤ 1500 then some ⟨true, ⟨s.toArray⟩, runsM f.runs a.runs b.runs⟩ else none
      | none => none
    else none
section
variable (F : MrgF) (bs xs ys : List En)
def atM (n : ByteArray) : Option Fl := pathM F (atL bs n) (atL xs n) (atL ys n)
def clM (n : ByteArray) : List ByteArray := match atM F bs xs ys n with
  | some _ => []
  | none => [n]
def enM (n : ByteArray) : List En := match atM F bs xs ys n with
  | some f => if f.there = true then [⟨n, f.text, f.runs⟩] else []
  | none => []
def clsM (ns : List ByteArray) : List ByteArray := ns.flatMap (clM F bs xs ys)
def outM (ns : List ByteArray) : List En := ns.flatMap (enM F bs xs ys)
end
/-- The paths under which a directory would lie, too. -/
def kidsM (us : List En) : List ByteArray := (us.filter fun e => us.any fun x => beginsB e.path x.path).map En.path
theorem runs_impl (x y z : Bool) : (if (y == x) = true then z else if (z == x || z == y) = true then y else false) = runsM x y z := by
  cases x <;> cases y <;> cases z <;> rfl
theorem runs_spec (x y z : Bool) : (if (y != x || z != x) = true then !x else x) = runsM x y z := by
  cases x <;> cases y <;> cases z <;> rfl
theorem runs_sym (x y z : Bool) : runsM x y z = runsM x z y := by
  cases x <;> cases y <;> cases z <;> rfl
section
variable {F : MrgF} {bs xs ys : List En} {ns : List ByteArray} {k : Nat}
theorem clsM_take (hk : k < ns.length) : clsM F bs xs ys (ns.take (k + 1)) = clsM F bs xs ys (ns.take k) ++ clM F bs xs ys ns[k] := by
  unfold clsM
  rw [List.take_succ_eq_append_getElem hk, List.flatMap_append]
  simp
theorem outM_take (hk : k < ns.length) : outM F bs xs ys (ns.take (k + 1)) = outM F bs xs ys (ns.take k) ++ enM F bs xs ys ns[k] := by
  unfold outM
  rw [List.take_succ_eq_append_getElem hk, List.flatMap_append]
  simp
theorem clM_len (n : ByteArray) : (clM F bs xs ys n).length ≤ 1 := by
  unfold clM
  split <;> simp
theorem enM_len (n : ByteArray) : (enM F bs xs ys n).length ≤ 1 := by
  unfold enM
  split
  · split <;> simp
  · simp
theorem flat_len {α β : Type} (f : α → List β) (h : ∀ a, (f a).length ≤ 1) : ∀ l : List α, (l.flatMap f).length ≤ l.length
  | [] => Nat.le_refl _
  | a :: l => by
    have h1 := h a
    have h2 := flat_len f h l
    rw [List.flatMap_cons, List.length_append, List.length_cons]
    omega
theorem clsM_len (ns : List ByteArray) : (clsM F bs xs ys ns).length ≤ ns.length := flat_len _ clM_len ns
theorem outM_len (ns : List ByteArray) : (outM F bs xs ys ns).length ≤ ns.length := flat_len _ enM_len ns
theorem enM_path {n : ByteArray} {e : En} (h : e ∈ enM F bs xs ys n) : e.path = n := by
  unfold enM at h
  split at h
  · split at h
    · rw [List.mem_singleton.1 h]
    · cases h
  · cases h
theorem outM_asc (h : AscN ns) : Asc (outM F bs xs ys ns) := by
  unfold outM Asc
  rw [List.pairwise_flatMap]
  refine ⟨fun n _ => ?_, h.imp fun {a b} hab x hx y hy => by rw [enM_path hx, enM_path hy]; exact hab⟩
  unfold enM
  split
  · split <;> simp
  · simp
end
theorem paths3 (bs xs ys : List En) : AscN (pathsL [bs, xs, ys]) ∧ ∀ p, p ∈ pathsL [bs, xs, ys] ↔ (∃ e ∈ bs, e.path = p) ∨ (∃ e ∈ xs, e.path = p) ∨ ∃ e ∈ ys, e.path = p := by
  have h1 := addP_asc (l := []) List.Pairwise.nil bs
  have h2 := addP_asc h1.1 xs
  have h3 := addP_asc h2.1 ys
  refine ⟨h3.1, fun p => ?_⟩
  show p ∈ addP (addP (addP [] bs) xs) ys ↔ _
  rw [h3.2, h2.2, h1.2]
  simp [or_assoc]
theorem paths3_len (bs xs ys : List En) (h1 : bs.length ≤ 100) (h2 : xs.length ≤ 100) (h3 : ys.length ≤ 100) : (pathsL [bs, xs, ys]).length ≤ 300 := by
  have a1 := addP_len [] bs bs.length (Nat.le_refl _)
  have a2 := addP_len (addP [] bs) xs xs.length (Nat.le_refl _)
  have a3 := addP_len (addP (addP [] bs) xs) ys ys.length (Nat.le_refl _)
  rw [List.take_length] at a1 a2 a3
  show (addP (addP (addP [] bs) xs) ys).length ≤ 300
  simp only [List.length_nil] at a1
  omega
/-- What merging gives: a code, a tree, paths. -/
def MgRel (F : MrgF) (bs xs ys : List En) (c : Int) (us : List En) (ks : List ByteArray) : Prop :=
  (¬ (ValidTs bs ∧ ValidTs xs ∧ ValidTs ys) ∧ c = 1 ∧ us = [] ∧ ks = []) ∨ (ValidTs bs ∧ ValidTs xs ∧ ValidTs ys ∧
    ((clsM F bs xs ys (pathsL [bs, xs, ys]) ≠ [] ∧ c = 2 ∧ us = [] ∧ ks = clsM F bs xs ys (pathsL [bs, xs, ys])) ∨
     (clsM F bs xs ys (pathsL [bs, xs, ys]) = [] ∧
       ((ValidTs (outM F bs xs ys (pathsL [bs, xs, ys])) ∧ c = 0 ∧ us = outM F bs xs ys (pathsL [bs, xs, ys]) ∧ ks = []) ∨
        (¬ ValidTs (outM F bs xs ys (pathsL [bs, xs, ys])) ∧ c = 3 ∧ us = [] ∧ ks = if (outM F bs xs ys (pathsL [bs, xs, ys])).length ≤ 100 then kidsM (outM F bs xs ys (pathsL [bs, xs, ys])) else [])))))
theorem mg_one {F : MrgF} {bs xs ys us us' : List En} {c c' : Int} {ks ks' : List ByteArray} (h : MgRel F bs xs ys c us ks) (h' : MgRel F bs xs ys c' us' ks') : c = c' ∧ us = us' ∧ ks = ks' := by
  unfold MgRel at h h'
  generalize clsM F bs xs ys (pathsL [bs, xs, ys]) = C at *
  generalize outM F bs xs ys (pathsL [bs, xs, ys]) = O at *
  rcases h with ⟨h1, rfl, rfl, rfl⟩ | ⟨v1, v2, v3, ⟨h2, rfl, rfl, rfl⟩ | ⟨h2, ⟨h3, rfl, rfl, rfl⟩ | ⟨h3, rfl, rfl, rfl⟩⟩⟩ <;>
  rcases h' with ⟨g1, rfl, rfl, rfl⟩ | ⟨u1, u2, u3, ⟨g2, rfl, rfl, rfl⟩ | ⟨g2, ⟨g3, rfl, rfl, rfl⟩ | ⟨g3, rfl, rfl, rfl⟩⟩⟩ <;>
  first
    | exact ⟨rfl, rfl, rfl⟩
    | exact absurd ⟨u1, u2, u3⟩ h1
    | exact absurd ⟨v1, v2, v3⟩ g1
    | exact absurd g2 h2
    | exact absurd h2 g2
    | exact absurd g3 h3
    | exact absurd h3 g3
theorem chs_sym (f a b : Fl) : chs f a b = chs f b a := by
  unfold chs
  by_cases h1 : a = f
  · subst h1
    rw [if_pos (sameF_iff.2 rfl)]
    by_cases h2 : b = a
    · subst h2; rw [if_pos (sameF_iff.2 rfl)]
    · rw [if_neg (by rw [sameF_iff]; exact h2), if_pos (by rw [sameF_iff.2 rfl]; rfl)]
  · rw [if_neg (by rw [sameF_iff]; exact h1)]
    by_cases h2 : b = f
    · subst h2
      rw [if_pos (by rw [sameF_iff.2 rfl]; rfl), if_pos (sameF_iff.2 rfl)]
    · rw [if_neg (by rw [sameF_iff]; exact h2) (c := sameF b f = true)]
      by_cases h3 : a = b
      · subst h3; rfl
      · have e1 : (sameF b f || sameF b a) = false := by rw [sameF_not.2 h2, sameF_not.2 (fun e => h3 e.symm)]; rfl
        have e2 : (sameF a f || sameF a b) = false := by rw [sameF_not.2 h1, sameF_not.2 h3]; rfl
        rw [e1, e2]
        rfl
theorem pathM_sym (F : MrgF) (f a b : Fl) : pathM F f a b = pathM (fun x y z => F x z y) f b a := by
  unfold pathM
  rw [chs_sym f a b, runs_sym, Bool.and_right_comm]
theorem mg_sym {F : MrgF} {bs xs ys us : List En} {c : Int} {ks : List ByteArray} (h : MgRel F bs xs ys c us ks) : MgRel (fun x y z => F x z y) bs ys xs c us ks := by
  have hp : pathsL [bs, ys, xs] = pathsL [bs, xs, ys] := ascN_unique (paths3 bs ys xs).1 (paths3 bs xs ys).1 (fun n => by
    rw [(paths3 bs ys xs).2, (paths3 bs xs ys).2]
    exact ⟨fun h => h.elim .inl (fun h => .inr h.symm), fun h => h.elim .inl (fun h => .inr h.symm)⟩)
  have ha : ∀ n, atM (fun x y z => F x z y) bs ys xs n = atM F bs xs ys n := fun n => (pathM_sym F (atL bs n) (atL xs n) (atL ys n)).symm
  have hc : clM (fun x y z => F x z y) bs ys xs = clM F bs xs ys := by funext n; unfold clM; rw [ha]
  have he : enM (fun x y z => F x z y) bs ys xs = enM F bs xs ys := by funext n; unfold enM; rw [ha]
  unfold MgRel clsM outM at h ⊢
  rw [hp, hc, he]
  rcases h with ⟨h1, h2⟩ | ⟨v1, v2, v3, h2⟩
  · exact .inl ⟨fun ⟨a, b, c⟩ => h1 ⟨a, c, b⟩, h2⟩
  · exact .inr ⟨v1, v3, v2, h2⟩
theorem mg_to {F : MrgF} {bs xs ys ts : List En} (v1 : ValidTs bs) (v2 : ValidTs xs) (v3 : ValidTs ys) (vt : ValidTs ts) (hall : ∀ e ∈ ts, e.path ∈ pathsL [bs, xs, ys]) (h : ∀ n, atM F bs xs ys n = some (atL ts n)) : MgRel F bs xs ys 0 ts [] := by
  have hc : clsM F bs xs ys (pathsL [bs, xs, ys]) = [] := by
    unfold clsM
    rw [List.flatMap_eq_nil_iff]
    intro n _
    unfold clM
    rw [h]
  have ho : outM F bs xs ys (pathsL [bs, xs, ys]) = ts := by
    refine asc_unique (outM_asc (paths3 bs xs ys).1) (valid_asc vt) fun e => ?_
    unfold outM
    rw [List.mem_flatMap]
    constructor
    · rintro ⟨n, _, hn⟩
      unfold enM at hn
      rw [h] at hn
      dsimp only at hn
      split at hn
      · rename_i ht
        rw [List.mem_singleton.1 hn]
        exact at_there ht
      · cases hn
    · intro he
      refine ⟨e.path, hall e he, ?_⟩
      unfold enM
      rw [h, at_mem (valid_asc vt) he]
      simp
  refine .inr ⟨v1, v2, v3, .inr ⟨hc, .inl ⟨?_, rfl, ?_, rfl⟩⟩⟩
  · rw [ho]; exact vt
  · rw [ho]
theorem mg_left {F : MrgF} {bs ys : List En} (v1 : ValidTs bs) (v2 : ValidTs ys) : MgRel F bs bs ys 0 ys [] :=
  mg_to v1 v1 v2 v2 (fun e he => ((paths3 bs bs ys).2 _).2 (.inr (.inr ⟨e, he, rfl⟩))) (fun n => by unfold atM pathM chs; rw [if_pos (sameF_iff.2 rfl)])
theorem mg_right {F : MrgF} {bs xs : List En} (v1 : ValidTs bs) (v2 : ValidTs xs) : MgRel F bs xs bs 0 xs [] :=
  mg_to v1 v2 v1 v2 (fun e he => ((paths3 bs xs bs).2 _).2 (.inr (.inl ⟨e, he, rfl⟩))) (fun n => by
    unfold atM pathM
    rw [chs_sym]
    unfold chs
    rw [if_pos (sameF_iff.2 rfl)])
theorem mg_same {F : MrgF} {bs xs : List En} (v1 : ValidTs bs) (v2 : ValidTs xs) : MgRel F bs xs xs 0 xs [] :=
  mg_to v1 v2 v2 v2 (fun e he => ((paths3 bs xs xs).2 _).2 (.inr (.inl ⟨e, he, rfl⟩))) (fun n => by
    unfold atM pathM chs
    by_cases h : sameF (atL xs n) (atL bs n) = true
    · rw [if_pos h]
    · rw [if_neg h, if_pos (by rw [sameF_iff.2 rfl]; simp)])
end Go.Proofs.YtjiafjdjocmodaaGreat

namespace Go.Proofs.YtjiafjdjocmodaaGreat

/-- Of the last q places, with one place more on the other side; f is the row below. -/
def tabIn (f : Nat → Nat) (e : Nat → Bool) : Nat → Nat
  | 0 => 0
  | q + 1 => if e q = true then f q + 1 else max (f (q + 1)) (tabIn f e q)
def tab (E : Nat → Nat → Bool) : Nat → Nat → Nat
  | 0 => fun _ => 0
  | p + 1 => tabIn (tab E p) (E p)
theorem tab_step (E : Nat → Nat → Bool) (p q : Nat) : tab E (p + 1) (q + 1) = if E p q = true then tab E p q + 1 else max (tab E p (q + 1)) (tab E (p + 1) q) := rfl
theorem tab_z (E : Nat → Nat → Bool) (p : Nat) : tab E p 0 = 0 := by cases p <;> rfl

theorem tab_up1 {E : Nat → Nat → Bool} {p : Nat} (h : ∀ q, tab E p q ≤ tab E p (q + 1)) : ∀ q, tab E (p + 1) q ≤ tab E p q + 1
  | 0 => by simp [tab_z]
  | q + 1 => by
    have h1 := tab_up1 h q
    have h2 := h q
    rw [tab_step]
    split <;> omega
theorem tab_up2 {E : Nat → Nat → Bool} {p : Nat} (h : ∀ q, tab E p (q + 1) ≤ tab E p q + 1) : ∀ q, tab E p q ≤ tab E (p + 1) q
  | 0 => by simp [tab_z]
  | q + 1 => by
    have h2 := h q
    rw [tab_step]
    split <;> omega
theorem tab_facts (E : Nat → Nat → Bool) : ∀ p, (∀ q, tab E p (q + 1) ≤ tab E p q + 1) ∧ (∀ q, tab E p q ≤ tab E p (q + 1))
  | 0 => ⟨fun q => Nat.zero_le _, fun q => Nat.le_refl _⟩
  | p + 1 => by
    obtain ⟨h1, h2⟩ := tab_facts E p
    refine ⟨fun q => ?_, fun q => ?_⟩
    · have a1 := tab_up2 h1 q
      have a2 := h1 q
      rw [tab_step]
      split <;> omega
    · have a1 := tab_up1 h2 q
      rw [tab_step]
      split <;> omega
theorem tab_le2 (E : Nat → Nat → Bool) (p : Nat) : ∀ q, tab E p q ≤ q
  | 0 => by rw [tab_z]; exact Nat.le_refl _
  | q + 1 => by have := (tab_facts E p).1 q; have := tab_le2 E p q; omega
theorem tab_le1 (E : Nat → Nat → Bool) : ∀ p q, tab E p q ≤ p
  | 0, q => Nat.le_refl _
  | p + 1, q => by have := tab_up1 (tab_facts E p).2 q; have := tab_le1 E p q; omega

/-- The length of a longest list from two places on. -/
def lcs (m n : Nat) (E : Nat → Nat → Bool) (i j : Nat) : Nat := tab (fun p q => E (m - 1 - p) (n - 1 - q)) (m - i) (n - j)
theorem lcs_m (m n : Nat) (E : Nat → Nat → Bool) (j : Nat) : lcs m n E m j = 0 := by rw [lcs, Nat.sub_self]; rfl
theorem lcs_n (m n : Nat) (E : Nat → Nat → Bool) (i : Nat) : lcs m n E i n = 0 := by rw [lcs, Nat.sub_self, tab_z]
theorem lcs_step {m n : Nat} (E : Nat → Nat → Bool) {i j : Nat} (hi : i < m) (hj : j < n) :
    lcs m n E i j = if E i j = true then lcs m n E (i + 1) (j + 1) + 1 else max (lcs m n E (i + 1) j) (lcs m n E i (j + 1)) := by
  unfold lcs
  rw [show m - i = (m - (i + 1)) + 1 by omega, show n - j = (n - (j + 1)) + 1 by omega, tab_step]
  rw [show m - 1 - (m - (i + 1)) = i by omega, show n - 1 - (n - (j + 1)) = j by omega]
theorem lcs_le1 (m n : Nat) (E : Nat → Nat → Bool) (i j : Nat) : lcs m n E i j ≤ m - i := tab_le1 _ _ _
theorem lcs_le2 (m n : Nat) (E : Nat → Nat → Bool) (i j : Nat) : lcs m n E i j ≤ n - j := tab_le2 _ _ _
theorem lcs_dn {m n : Nat} (E : Nat → Nat → Bool) {i : Nat} (j : Nat) (hi : i < m) : lcs m n E (i + 1) j ≤ lcs m n E i j := by
  unfold lcs
  rw [show m - i = (m - (i + 1)) + 1 by omega]
  exact tab_up2 (tab_facts _ _).1 _
theorem lcs_rt {m n : Nat} (E : Nat → Nat → Bool) (i : Nat) {j : Nat} (hj : j < n) : lcs m n E i (j + 1) ≤ lcs m n E i j := by
  unfold lcs
  rw [show n - j = (n - (j + 1)) + 1 by omega]
  exact (tab_facts _ _).2 _
theorem lcs_dn1 {m n : Nat} (E : Nat → Nat → Bool) {i : Nat} (j : Nat) (hi : i < m) : lcs m n E i j ≤ lcs m n E (i + 1) j + 1 := by
  unfold lcs
  rw [show m - i = (m - (i + 1)) + 1 by omega]
  exact tab_up1 (tab_facts _ _).2 _
theorem lcs_rt1 {m n : Nat} (E : Nat → Nat → Bool) (i : Nat) {j : Nat} (hj : j < n) : lcs m n E i j ≤ lcs m n E i (j + 1) + 1 := by
  unfold lcs
  rw [show n - j = (n - (j + 1)) + 1 by omega]
  exact (tab_facts _ _).1 _
/-- As the specification fills its table. -/
theorem lcs_max {m n : Nat} (E : Nat → Nat → Bool) {i j : Nat} (hi : i < m) (hj : j < n) (h : E i j = true) :
    lcs m n E i j = lcs m n E (i + 1) (j + 1) + 1 ∧ lcs m n E (i + 1) j ≤ lcs m n E (i + 1) (j + 1) + 1 ∧ lcs m n E i (j + 1) ≤ lcs m n E (i + 1) (j + 1) + 1 := by
  refine ⟨?_, lcs_rt1 E (i + 1) hj, lcs_dn1 E (j + 1) hi⟩
  rw [lcs_step E hi hj, if_pos h]

/-- A pair with which a longest list begins. -/
def Fits (m n : Nat) (E : Nat → Nat → Bool) (k x y : Nat) : Prop := E x y = true ∧ lcs m n E (x + 1) (y + 1) + 1 = k
/-- The first pair. -/
structure Fst (m n : Nat) (E : Nat → Nat → Bool) (i j x y : Nat) : Prop where
  ix : i ≤ x
  xm : x < m
  jy : j ≤ y
  yn : y < n
  fits : Fits m n E (lcs m n E i j) x y
  row : ∀ x' y', i ≤ x' → x' < x → j ≤ y' → y' < n → ¬ Fits m n E (lcs m n E i j) x' y'
  col : ∀ y', j ≤ y' → y' < y → ¬ Fits m n E (lcs m n E i j) x y'

theorem least (P : Nat → Prop) : ∀ n, P n → ∃ k, P k ∧ ∀ j, j < k → ¬ P j := by
  intro n
  induction n using Nat.strongRecOn with
  | ind n ih =>
    intro h
    by_cases hx : ∃ j, j < n ∧ P j
    · obtain ⟨j, hj, hp⟩ := hx
      exact ih j hj hp
    · exact ⟨n, h, fun j hj hp => hx ⟨j, hj, hp⟩⟩

theorem some_fits {m n : Nat} (E : Nat → Nat → Bool) : ∀ (s i j : Nat), (m - i) + (n - j) ≤ s → i ≤ m → j ≤ n → 0 < lcs m n E i j → ∃ x y, i ≤ x ∧ x < m ∧ j ≤ y ∧ y < n ∧ Fits m n E (lcs m n E i j) x y := by
  intro s
  induction s with
  | zero =>
    intro i j hs hi hj h
    obtain rfl : i = m := by omega
    rw [lcs_m] at h; omega
  | succ s ih =>
    intro i j hs hi hj h
    have him : i < m := by
      rcases Nat.lt_or_ge i m with h' | h'
      · exact h'
      · obtain rfl : i = m := by omega
        rw [lcs_m] at h; omega
    have hjn : j < n := by
      rcases Nat.lt_or_ge j n with h' | h'
      · exact h'
      · obtain rfl : j = n := by omega
        rw [lcs_n] at h; omega
    by_cases he : E i j = true
    · exact ⟨i, j, Nat.le_refl _, him, Nat.le_refl _, hjn, he, (lcs_max E him hjn he).1.symm⟩
    · have hst := lcs_step E him hjn
      rw [if_neg he] at hst
      rcases Nat.le_total (lcs m n E (i + 1) j) (lcs m n E i (j + 1)) with hle | hle
      · have e : lcs m n E i j = lcs m n E i (j + 1) := by omega
        obtain ⟨x, y, h1, h2, h3, h4, h5⟩ := ih i (j + 1) (by omega) hi (by omega) (by omega)
        exact ⟨x, y, h1, h2, by omega, h4, by rw [e]; exact h5⟩
      · have e : lcs m n E i j = lcs m n E (i + 1) j := by omega
        obtain ⟨x, y, h1, h2, h3, h4, h5⟩ := ih (i + 1) j (by omega) (by omega) hj (by omega)
        exact ⟨x, y, by omega, h2, h3, h4, by rw [e]; exact h5⟩

theorem exists_fst {m n : Nat} (E : Nat → Nat → Bool) {i j : Nat} (hi : i ≤ m) (hj : j ≤ n) (h : 0 < lcs m n E i j) : ∃ x y, Fst m n E i j x y := by
  obtain ⟨x0, y0, a1, a2, a3, a4, a5⟩ := some_fits E _ i j (Nat.le_refl _) hi hj h
  obtain ⟨x, ⟨b1, b2, y1, b3, b4, b5⟩, bl⟩ := least (fun x => i ≤ x ∧ x < m ∧ ∃ y, j ≤ y ∧ y < n ∧ Fits m n E (lcs m n E i j) x y) x0 ⟨a1, a2, y0, a3, a4, a5⟩
  obtain ⟨y, ⟨c1, c2, c3⟩, cl⟩ := least (fun y => j ≤ y ∧ y < n ∧ Fits m n E (lcs m n E i j) x y) y1 ⟨b3, b4, b5⟩
  exact ⟨x, y, b1, b2, c1, c2, c3, fun x' y' h1 h2 h3 h4 h5 => bl x' h2 ⟨h1, by omega, y', h3, h4, h5⟩, fun y' h1 h2 h5 => cl y' h2 ⟨h1, by omega, h5⟩⟩

/-- The least of the longest lists from two places on. -/
def Comm (m n : Nat) (E : Nat → Nat → Bool) : Nat → Nat → List (Nat × Nat) → Prop
  | i, j, [] => i ≤ m ∧ j ≤ n ∧ lcs m n E i j = 0
  | i, j, p :: ps => i ≤ m ∧ j ≤ n ∧ 0 < lcs m n E i j ∧ Fst m n E i j p.1 p.2 ∧ Comm m n E (p.1 + 1) (p.2 + 1) ps

theorem exists_comm {m n : Nat} (E : Nat → Nat → Bool) : ∀ (k i j : Nat), lcs m n E i j = k → i ≤ m → j ≤ n → ∃ ps, Comm m n E i j ps
  | 0, i, j, h, hi, hj => ⟨[], hi, hj, h⟩
  | k + 1, i, j, h, hi, hj => by
    obtain ⟨x, y, hf⟩ := exists_fst E hi hj (by omega)
    have hx := hf.fits.2
    obtain ⟨ps, hp⟩ := exists_comm (m := m) (n := n) E k (x + 1) (y + 1) (by omega) (by have := hf.xm; omega) (by have := hf.yn; omega)
    exact ⟨(x, y) :: ps, hi, hj, by omega, hf, hp⟩
theorem Comm.im {m n : Nat} {E : Nat → Nat → Bool} {i j : Nat} {ps : List (Nat × Nat)} (h : Comm m n E i j ps) : i ≤ m ∧ j ≤ n := by
  cases ps with
  | nil => exact ⟨h.1, h.2.1⟩
  | cons p ps => exact ⟨h.1, h.2.1⟩
theorem Comm.zero {m n : Nat} {E : Nat → Nat → Bool} {i j : Nat} {ps : List (Nat × Nat)} (h : Comm m n E i j ps) (h0 : lcs m n E i j = 0) : ps = [] := by
  cases ps with
  | nil => rfl
  | cons p ps => have := h.2.2.1; omega
theorem Comm.pos {m n : Nat} {E : Nat → Nat → Bool} {i j : Nat} {ps : List (Nat × Nat)} (h : Comm m n E i j ps) (h0 : 0 < lcs m n E i j) : ∃ x y r, ps = (x, y) :: r ∧ Fst m n E i j x y ∧ Comm m n E (x + 1) (y + 1) r := by
  cases ps with
  | nil => have := h.2.2; omega
  | cons p ps => exact ⟨p.1, p.2, ps, rfl, h.2.2.2.1, h.2.2.2.2⟩
theorem Comm.len {m n : Nat} {E : Nat → Nat → Bool} : ∀ {ps : List (Nat × Nat)} {i j : Nat}, Comm m n E i j ps → ps.length = lcs m n E i j
  | [], _, _, h => h.2.2.symm
  | p :: ps, i, j, h => by
    have h1 := Comm.len h.2.2.2.2
    have h2 := h.2.2.2.1.fits.2
    simp only [List.length_cons]
    omega
end Go.Proofs.YtjiafjdjocmodaaGreat

namespace Go.Proofs.YtjiafjdjocmodaaGreat
open Go.RowKit

structure NKeep (p : Prop) : Prop where
  out : p

theorem nkey_str (x : ByteArray) (h : x.size ≤ 1099511627776) : keyOf Tryz.prog 9 (.string x) = some (.string x.data.toList) := by
  have hm : x.size ≤ maxLen := by unfold maxLen; omega
  simp [keyOf, mapKey, Tryz.underlying9, hm]
theorem nKeyed : Maps.Keyed Tryz.prog 9 := Maps.string_keyed Tryz.underlying9
theorem nzeroInt (w : World) : (zeroValue 3).run Tryz.prog w = .ok (.int .i64 0) w := by kernel_rfl
theorem Tryz.infoInt : (Tryz.prog.info? 3).map (fun i => (i.zero, i.size, i.bytes)) = some (some (.int .i64 0), 1, 8) := by kernel_rfl

def kl (l : ByteArray) : Lit := .string l.data.toList
theorem kl_inj {x y : ByteArray} (h : kl x = kl y) : x = y := by
  unfold kl at h
  cases x with
  | mk dx => cases y with
    | mk dy => simp at h; simp [h]
theorem kl_is (l : ByteArray) : WideAt.IsKeyLit (kl l) := by unfold kl; trivial

/-- The lines that have a number, in the order of their numbers; D: the map as it reads. -/
structure KeyD (ks : List ByteArray) (D : DataW Unit) : Prop where
  yes : ∀ l, Maps.has D (kl l) = true → ∃ i : Nat, ks[i]? = some l ∧ D.atKey (kl l) (.lit (.int .i64 0)) = .lit (.int .i64 i)
  no : ∀ l, Maps.has D (kl l) = false → l ∉ ks
  size : Maps.size D = ks.length
  nodup : ks.Nodup

theorem keyD_nil : KeyD [] (.map []) := ⟨fun l h => by simp [Maps.has] at h, fun l _ => by simp, by simp [Maps.size], by simp⟩
theorem KeyD.add {ks : List ByteArray} {D : DataW Unit} (h : KeyD ks D) (ht : Maps.Tidy D) (hm : Maps.IsMap D) {l : ByteArray} (hn : Maps.has D (kl l) = false) : KeyD (ks ++ [l]) (D.put (kl l) (.lit (.int .i64 ks.length))) := by
  refine ⟨fun x hx => ?_, fun x hx => ?_, ?_, ?_⟩
  · by_cases e : kl x = kl l
    · have := kl_inj e
      subst this
      exact ⟨ks.length, by simp, Maps.atKey_put_same hm (kl_is _) _ _⟩
    · rw [Maps.has_put_other e] at hx
      obtain ⟨i, h1, h2⟩ := h.yes x hx
      exact ⟨i, by rw [List.getElem?_append_left (List.getElem?_eq_some_iff.1 h1).1]; exact h1, by rw [Maps.atKey_put_other e]; exact h2⟩
  · by_cases e : kl x = kl l
    · have := kl_inj e
      subst this
      rw [Maps.has_put_same hm (kl_is _)] at hx
      cases hx
    · rw [Maps.has_put_other e] at hx
      have := h.no x hx
      simp only [List.mem_append, List.mem_singleton]
      rintro (h1 | rfl)
      · exact this h1
      · exact e rfl
  · rw [Maps.size_put ht, hn, List.length_append, h.size]; rfl
  · rw [List.nodup_append]
    refine ⟨h.nodup, by simp, fun a ha b hb => ?_⟩
    simp at hb
    subst hb
    exact fun e => h.no _ hn (e ▸ ha)

/-- Numbers of lines. -/
def Numbered (ks ss : List ByteArray) (xs : List Nat) : Prop := xs.length = ss.length ∧ ∀ (i : Nat) (h : i < ss.length), ∃ x, xs[i]? = some x ∧ ks[x]? = some ss[i]
theorem Numbered.mono {ks ks' ss : List ByteArray} {xs : List Nat} (h : Numbered ks ss xs) (hp : ks <+: ks') : Numbered ks' ss xs := by
  obtain ⟨r, rfl⟩ := hp
  refine ⟨h.1, fun i hi => ?_⟩
  obtain ⟨x, h1, h2⟩ := h.2 i hi
  exact ⟨x, h1, by rw [List.getElem?_append_left (List.getElem?_eq_some_iff.1 h2).1]; exact h2⟩
theorem Numbered.snoc {ks ss : List ByteArray} {xs : List Nat} {k x : Nat} (hk : k < ss.length) (h : Numbered ks (ss.take k) xs) (hx : ks[x]? = some ss[k]) : Numbered ks (ss.take (k + 1)) (xs ++ [x]) := by
  have hl : (ss.take k).length = k := by simp; omega
  have hxl : xs.length = k := by rw [h.1, hl]
  refine ⟨by simp [hxl]; omega, fun i hi => ?_⟩
  simp at hi
  by_cases e : i = k
  · subst e
    exact ⟨x, by rw [← hxl]; simp, by simpa using hx⟩
  · obtain ⟨y, h1, h2⟩ := h.2 i (by simp; omega)
    exact ⟨y, by rw [List.getElem?_append_left (by omega)]; exact h1, by simpa using h2⟩
/-- Equal numbers are equal lines. -/
theorem Numbered.same {ks ss tt : List ByteArray} {xs ys : List Nat} (hn : ks.Nodup) (h : Numbered ks ss xs) (h' : Numbered ks tt ys) {i j : Nat} (hi : i < ss.length) (hj : j < tt.length) (hi' : i < xs.length) (hj' : j < ys.length) : (xs[i] = ys[j]) ↔ ss[i] = tt[j] := by
  obtain ⟨x, h1, h2⟩ := h.2 i hi
  obtain ⟨y, h3, h4⟩ := h'.2 j hj
  rw [List.getElem?_eq_getElem hi'] at h1
  rw [List.getElem?_eq_getElem hj'] at h3
  cases h1
  cases h3
  constructor
  · intro e
    rw [e, h4] at h2
    exact (Option.some.inj h2).symm
  · intro e
    obtain ⟨l1, e1⟩ := List.getElem?_eq_some_iff.1 h2
    obtain ⟨l2, e2⟩ := List.getElem?_eq_some_iff.1 h4
    have hpw := List.pairwise_iff_getElem.1 hn
    rcases Nat.lt_trichotomy xs[i] ys[j] with h | h | h
    · exact absurd (by rw [e1, e2, e]) (hpw _ _ l1 l2 h)
    · exact h
    · exact absurd (by rw [e1, e2, e]) (hpw _ _ l2 l1 h)

def intC (xs : List Nat) : List Value := xs.map fun (x : Nat) => Value.int .i64 (x : Int)

def NumPost (w : World) (b : Nat) (ks ss : List ByteArray) (e : Ending) (w' : World) : Prop :=
  ∃ ks' D xs ad cp, e = .returned (.slice ad ss.length cp) ∧ ks <+: ks' ∧ ks'.length ≤ ks.length + ss.length ∧ Numbered ks' ss xs ∧ w'.ownsMap Tryz.prog 9 (plainElem Tryz.prog 3) b ks'.length D ∧ KeyD ks' D ∧
    w'.ownsRow w.heap.size 3 1 (.slice ad ss.length cp) ss.length (intC xs) ∧ w.grownBy w' (some b)

theorem grown_then {w w1 w2 : World} {row : Option Nat} {r2 : Option Nat} (h : w.grownBy w1 row) (k : w1.grownBy w2 r2) (hr : ∀ g, r2 = some g → row = some g ∨ w.heap.size ≤ g) : w.grownBy w2 row := by
  refine ⟨k.os.trans h.os, k.tape.trans h.tape, k.output.trans h.output, Nat.le_trans h.size k.size, fun i hi hne => (k.block i (Nat.lt_of_lt_of_le hi h.size) (fun e => ?_)).trans (h.block i hi hne)⟩
  rcases hr i e.symm with h' | h'
  · exact hne h'.symm
  · omega

set_option maxRecDepth 20000 in
set_option maxHeartbeats 4000000 in
theorem numberLines_any (b : Nat) (ks : List ByteArray) (D0 : DataW Unit) (a : Option Addr) (cap : Nat) (ss : List ByteArray) (w : World) (hb : b < w.heap.size) (hss : SS w a ss) (hna : ∀ ad, a = some ad → 0 < ss.length → ad.block ≠ b ∧ ad.block < w.heap.size)
    (hn : ss.length ≤ 1500) (hks : ks.length ≤ 1500) (hm : ∀ s ∈ ss, s.size ≤ 1099511627776) (hM : w.ownsMap Tryz.prog 9 (plainElem Tryz.prog 3) b ks.length D0) (hK : KeyD ks D0) :
    Calls Tryz.prog 108 #[.map (some b), .slice a ss.length cap] w fun e w' => NumPost w b ks ss e w' := by
  obtain ⟨i0, hi, hz0, hz1, hz2⟩ := info_parts Tryz.infoInt
  go_enter Tryz.func108, Tryz.ntmps108
  go_wp2
  go_loopw [5, 12] (fun v i wr => ∃ (k : Nat) (kr : List ByteArray) (D : DataW Unit) (xs : List Nat), k ≤ ss.length ∧ i = .int .i64 k ∧ NKeep (ks <+: kr) ∧ kr.length ≤ ks.length + k ∧ NKeep (Numbered kr (ss.take k) xs) ∧ wr.ownsMap Tryz.prog 9 (plainElem Tryz.prog 3) b kr.length D ∧ NKeep (KeyD kr D) ∧ wr.ownsRow w.heap.size 3 1 v k (intC xs) ∧ w.grownBy wr (some b)) (fun _ i _ => ss.length - (intOf i).toNat)
  case atStart => exact ⟨0, ks, D0, [], Nat.zero_le _, rfl, ⟨List.prefix_refl _⟩, Nat.le_refl _, ⟨⟨rfl, fun i h => by simp at h⟩⟩, hM, ⟨hK⟩, World.ownsRow_nil _ _ _ _, ⟨rfl, rfl, rfl, Nat.le_refl _, fun _ _ _ => rfl⟩⟩
  case round =>
    obtain ⟨k, kr, D, xs, hk, rfl, HP, hkl, HN, hown, HKD, hrow, hg⟩ := hrel
    by_cases hlt : k < ss.length
    · obtain ⟨b', off, rfl, hc⟩ := hss.at hlt
      obtain ⟨hbb, hbl⟩ := hna _ rfl (by omega)
      have hck : wr.cell? ⟨b', off + k, none⟩ = some (.string ss[k]) := (hg.cell_far ⟨b', off + k, none⟩ hbl (by simpa using hbb)).trans (hc k hlt)
      have hsz := hm ss[k] (List.getElem_mem hlt)
      have hgs := hg.size
      have hrb := owns_base hrow
      clear hc
      have hxl : xs.length = k := by have := HN.out.1; simp at this; omega
      have hap : ∀ (x : Nat) (wz : World) (vz : Value), wz.ownsRow w.heap.size 3 1 vz (k + 1) (intC xs ++ [.int .i64 (x : Int)]) → wz.ownsRow w.heap.size 3 1 vz (k + 1) (intC (xs ++ [x])) := fun x wz vz h => by
        rw [show intC (xs ++ [x]) = intC xs ++ [.int .i64 (x : Int)] by simp [intC]]; exact h
      by_cases hh : Maps.has D (kl ss[k]) = true
      · obtain ⟨x, hx1, hx2⟩ := HKD.out.yes _ hh
        have HX : NKeep (kr[x]? = some ss[k]) := ⟨hx1⟩
        have hhb : Maps.has D (.string ss[k].data.toList) = true := hh
        have hcx : ∀ c : Int, D.atKey (.string ss[k].data.toList) (.lit (.int .i64 0)) = .lit (.int .i64 c) → c = (x : Int) := fun c hc => by
          have := hx2.symm.trans hc
          simpa using this.symm
        clear hx1 hh hx2
        go_wp2_with (first | (at_lookup; refine wpList_lookup_own_ok_int _ rfl _ _ 147 rfl 9 3 .i64 nKeyed Tryz.underlying147 Tryz.underlying3 (nzeroInt _) b kr.length D rfl hown _ _ rfl (nkey_str ss[k] hsz) ?_; intro c hat hwc; obtain rfl := hcx c hat; rw [hhb])
                               | (at_builtin; refine wpList_append_own _ rfl _ _ 148 rfl w.heap.size 3 i0 _ 1 8 Tryz.underlying148 hi hz0 hz1 hz2 rfl (by decide) _ _ _ rfl (hrow.alloc _) ⟨wr.heap.size, 0, none⟩ 1 1 [.int .i64 (x : Int)] rfl rfl (cell_one_new _ _ _) (by simp [Value.oneCell']) (by unfold maxLen; omega) (by omega) (by simp; omega) ?_; intro v4 w4 ho4 hg4 _))
        go_roundw
        case rel =>
          refine ⟨k + 1, kr, D, xs ++ [x], by omega, by go_num, HP, by omega, ⟨HN.out.snoc hlt HX.out⟩, ?_, HKD, hap x _ _ ho4, ?_⟩
          · exact (hown.alloc _).kept hg4 (fun e => by have := hrb _ e.symm; omega)
          · exact grown_then (grown_then hg (World.grownBy_alloc wr _ none) (fun g e => by cases e)) hg4 (fun g e => .inr (hrb g e))
        case measure => simp [intOf]; omega
      · have hh : Maps.has D (kl ss[k]) = false := by simpa using hh
        have hhb : Maps.has D (.string ss[k].data.toList) = false := hh
        have hsize := HKD.out.size
        have HD : NKeep (KeyD (kr ++ [ss[k]]) (D.put (kl ss[k]) (.lit (.int .i64 kr.length)))) := ⟨HKD.out.add (hown.tidy nKeyed) hown.isMap hh⟩
        go_wp2_with (first | (at_lookup; refine wpList_lookup_own_ok_int _ rfl _ _ 147 rfl 9 3 .i64 nKeyed Tryz.underlying147 Tryz.underlying3 (nzeroInt _) b kr.length D rfl hown _ _ rfl (nkey_str ss[k] hsz) ?_; intro c hat hwc; rw [hhb])
                               | (at_len; refine wpList_len_own _ rfl _ 147 rfl 9 3 Tryz.underlying147 _ b kr.length D rfl hown ?_; rw [hsize])
                               | (at_mapUpdate; refine wpList_mapUpdate_own _ rfl _ _ _ 147 rfl 9 3 nKeyed Tryz.underlying147 _ b kr.length D rfl hown (by unfold maxLen; omega) _ _ _ rfl rfl (nkey_str ss[k] hsz) _ [] (plainElem_int Tryz.underlying3 (WalkArith.wf_i64 (by omega))) ?_; intro w2 hown2 hgrow2; have hrow2 := hrow.kept hgrow2 (.inr (fun e => by have := hrb _ e; omega)); have hs2 := hgrow2.size)
                               | (at_builtin; refine wpList_append_own _ rfl _ _ 148 rfl w.heap.size 3 i0 _ 1 8 Tryz.underlying148 hi hz0 hz1 hz2 rfl (by decide) _ _ _ rfl (hrow2.alloc _) ⟨w2.heap.size, 0, none⟩ 1 1 [.int .i64 (kr.length : Int)] rfl rfl (cell_one_new _ _ _) (by simp [Value.oneCell']) (by unfold maxLen; omega) (by omega) (by simp; omega) ?_; intro v4 w4 ho4 hg4 _))
        go_roundw
        case rel =>
          refine ⟨k + 1, kr ++ [ss[k]], _, xs ++ [kr.length], by omega, by go_num, ⟨HP.out.trans (List.prefix_append _ _)⟩, by simp; omega, ⟨(HN.out.mono (List.prefix_append _ _)).snoc hlt (by simp)⟩, ?_, HD, hap _ _ _ ho4, ?_⟩
          · rw [List.length_append]
            exact (hown2.alloc _).kept hg4 (fun e => by have := hrb _ e.symm; omega)
          · exact grown_then (grown_then (grown_then hg hgrow2 (fun g e => .inl e)) (World.grownBy_alloc w2 _ none) (fun g e => by cases e)) hg4 (fun g e => .inr (hrb g e))
        case measure => simp [intOf]; omega
    · obtain rfl : k = ss.length := by omega
      obtain ⟨ad, cp, rfl⟩ := owns_slice hrow
      go_wp2
      go_ret
      refine ⟨kr, D, xs, ad, cp, rfl, HP.out, hkl, ?_, hown, HKD.out, hrow, hg⟩
      have := HN.out
      rwa [List.take_length] at this
end Go.Proofs.YtjiafjdjocmodaaGreat

namespace Go.Proofs.YtjiafjdjocmodaaGreat
open Go.RowKit

def lenV (c g N : Nat) : Value := .agg #[.int .i64 (c : Int), .slice (some ⟨g, 0, none⟩) N N]

set_option maxRecDepth 20000 in
set_option maxHeartbeats 1000000 in
theorem row_any (c g N i : Nat) (w : World) (hc : 0 < c) (h : (i + 1) * c ≤ N) (hN : N ≤ 4000000) :
    Calls Tryz.prog 127 #[lenV c g N, .int .i64 (i : Int)] w fun e w' => e = .returned (.slice (some ⟨g, i * c, none⟩) c (N - i * c)) ∧ Below w.heap.size w w' := by
  have hq : (i + 1) * c = i * c + c := by rw [Nat.add_mul, Nat.one_mul]
  obtain ⟨P, hP⟩ : ∃ P, P = i * c := ⟨_, rfl⟩
  have e1 : (i : Int) * (c : Int) = (P : Int) := by rw [hP]; push_cast; rfl
  have e2 : ((i : Int) + 1) * (c : Int) = (P : Int) + (c : Int) := by rw [Int.add_mul, e1, Int.one_mul]
  rw [hq, ← hP] at h
  rw [← hP]
  have HP : NKeep (P = i * c) := ⟨hP⟩
  clear hP hq
  have hi : i ≤ 4000000 := by
    have : i * 1 ≤ i * c := Nat.mul_le_mul_left i hc
    have := HP.out
    omega
  unfold lenV
  go_enter Tryz.func127, Tryz.ntmps127
  go_wp2
  go_ret
  refine ⟨?_, (Below.refl _ _).alloc (Nat.le_refl _) _⟩
  simp
end Go.Proofs.YtjiafjdjocmodaaGreat

namespace Go.Proofs.YtjiafjdjocmodaaGreat
open Go.RowKit

/-- A slice of ints that is read. -/
def IS (w : World) (a : Option Addr) (xs : List Nat) : Prop :=
  xs = [] ∨ ∃ b off, a = some ⟨b, off, none⟩ ∧ ∀ i (h : i < xs.length), w.cell? ⟨b, off + i, none⟩ = some (.int .i64 (xs[i] : Nat))
theorem IS.below {w w' : World} {a : Option Addr} {xs : List Nat} (h : IS w a xs) (hb : Below w.heap.size w w') : IS w' a xs := by
  rcases h with h | ⟨b, off, ha, hc⟩
  · exact .inl h
  · exact .inr ⟨b, off, ha, fun i hi => cell_later hb (hc i hi)⟩
theorem IS.at {w : World} {a : Option Addr} {xs : List Nat} (h : IS w a xs) {k : Nat} (hk : k < xs.length) :
    ∃ b off, a = some ⟨b, off, none⟩ ∧ ∀ i (h : i < xs.length), w.cell? ⟨b, off + i, none⟩ = some (.int .i64 (xs[i] : Nat)) := by
  rcases h with h | h
  · subst h; simp at hk
  · exact h
theorem is_of_row {w : World} {base : Nat} {ad : Option Addr} {n cp : Nat} {xs : List Nat} (hn : xs.length = n) (h : w.ownsRow base 3 1 (.slice ad n cp) n (intC xs)) : IS w ad xs := by
  subst hn
  rcases h.2 with ⟨_, h0⟩ | ⟨g, c, cur, hv, _⟩
  · exact .inl (List.eq_nil_of_length_eq_zero h0)
  · cases hv
    refine .inr ⟨g, 0, rfl, fun i hi => ?_⟩
    rw [Nat.zero_add, h.cellAt i (by omega)]
    simp [intC, hi]

/-- A table's cells, those from K on filled. -/
def cellsF (fl : Nat → Nat) (N K : Nat) : List Value := (List.range N).map fun k => Value.int .u16 ((if K ≤ k then fl k else 0 : Nat) : Int)
theorem cellsF_len (fl : Nat → Nat) (N K : Nat) : (cellsF fl N K).length = N := by simp [cellsF]
theorem cellsF_get (fl : Nat → Nat) {N K k : Nat} (h : k < N) : (cellsF fl N K)[k]? = some (.int .u16 ((if K ≤ k then fl k else 0 : Nat) : Int)) := by simp [cellsF, h]
theorem cellsF_set (fl : Nat → Nat) (N k : Nat) : (cellsF fl N (k + 1)).set k (.int .u16 ((fl k : Nat) : Int)) = cellsF fl N k := by
  apply List.ext_getElem?
  intro i
  by_cases hi : i < N
  · rw [List.getElem?_set, cellsF_get fl hi, cellsF_get fl hi, cellsF_len]
    by_cases e : k = i
    · subst e; simp [hi]
    · rw [if_neg e]
      by_cases h2 : k + 1 ≤ i
      · rw [if_pos h2, if_pos (by omega)]
      · rw [if_neg h2, if_neg (by omega)]
  · rw [List.getElem?_eq_none (by simp [cellsF]; omega), List.getElem?_eq_none (by simp [cellsF]; omega)]
theorem cellsF_skip (fl : Nat → Nat) (N k : Nat) (h : fl k = 0) : cellsF fl N (k + 1) = cellsF fl N k := by
  apply List.ext_getElem?
  intro i
  by_cases hi : i < N
  · rw [cellsF_get fl hi, cellsF_get fl hi]
    by_cases e : k = i
    · subst e; simp [h]
    · by_cases h2 : k + 1 ≤ i
      · rw [if_pos h2, if_pos (by omega)]
      · rw [if_neg h2, if_neg (by omega)]
  · rw [List.getElem?_eq_none (by simp [cellsF]; omega), List.getElem?_eq_none (by simp [cellsF]; omega)]
/-- Nothing filled but zeros. -/
theorem cellsF_zero (fl : Nat → Nat) (N K : Nat) (h : ∀ k, K ≤ k → k < N → fl k = 0) : List.replicate N (Value.int .u16 0) = cellsF fl N K := by
  apply List.ext_getElem?
  intro i
  by_cases hi : i < N
  · rw [cellsF_get fl hi, List.getElem?_replicate, if_pos hi]
    by_cases h2 : K ≤ i
    · rw [if_pos h2, h i h2 hi]; rfl
    · rw [if_neg h2]; rfl
  · rw [List.getElem?_eq_none (by simp; omega), List.getElem?_eq_none (by simp [cellsF]; omega)]

/-- The table, flat. -/
def flat (m n : Nat) (E : Nat → Nat → Bool) (k : Nat) : Nat := lcs m n E (k / (n + 1)) (k % (n + 1))
theorem flat_at (m n : Nat) (E : Nat → Nat → Bool) (i j : Nat) (h : j ≤ n) : flat m n E (i * (n + 1) + j) = lcs m n E i j := by
  unfold flat
  rw [Nat.mul_comm i, Nat.mul_add_div (by omega), Nat.mul_add_mod, Nat.div_eq_of_lt (by omega), Nat.mod_eq_of_lt (by omega), Nat.add_zero]

theorem Tryz.infoU16 : (Tryz.prog.info? 169).map (fun i => (i.zero, i.size, i.bytes)) = some (some (.int .u16 0), 1, 2) := by kernel_rfl

/-- The table in memory. -/
def TabM (m n : Nat) (E : Nat → Nat → Bool) (g K : Nat) (w : World) : Prop :=
  w.ownsRow g 169 1 (.slice (some ⟨g, 0, none⟩) ((m + 1) * (n + 1)) ((m + 1) * (n + 1))) ((m + 1) * (n + 1)) (cellsF (flat m n E) ((m + 1) * (n + 1)) K)

theorem TabM.cell {m n : Nat} {E : Nat → Nat → Bool} {g K : Nat} {w : World} (h : TabM m n E g K w) {i j : Nat} (hi : i ≤ m) (hj : j ≤ n) (hK : K ≤ i * (n + 1) + j) :
    w.cell? ⟨g, i * (n + 1) + j, none⟩ = some (.int .u16 ((lcs m n E i j : Nat) : Int)) := by
  have hlt : i * (n + 1) + j < (m + 1) * (n + 1) := by
    have : (i + 1) * (n + 1) ≤ (m + 1) * (n + 1) := Nat.mul_le_mul_right _ (by omega)
    rw [Nat.add_mul, Nat.one_mul] at this
    omega
  rw [World.ownsRow.cellAt h _ (by omega), cellsF_get _ hlt, if_pos hK, flat_at m n E i j hj]

theorem _root_.Go.World.grownBy.draw {w w' : World} {row : Option Nat} (h : w.grownBy w' row) : w.grownBy w'.drew row := ⟨h.os, h.tape, h.output, h.size, h.block⟩
theorem row_else {w : World} {base : Nat} {e : TypeId} {size : Nat} {v : Value} {n : Nat} {xs : List Value} {b i : Nat} (h : w.ownsRow base e size v n xs) (hb : b < base) (u : Value) : (w.setCell ⟨b, i, none⟩ u).ownsRow base e size v n xs := by
  refine ⟨h.1, ?_⟩
  rcases h.2 with h' | ⟨g, cap, cur, hv, k1, k2, k3⟩
  · exact .inl h'
  · exact .inr ⟨g, cap, cur, hv, k1, (Below.heap_setCell w ⟨b, i, none⟩ u g (by simp; omega)).trans k2, k3⟩
/-- A row of the table, as impl's row gives it. -/
def rowV (g N c : Nat) (z : Int) : Value := .slice (some ⟨g, z.toNat * c, none⟩) c (N - z.toNat * c)

def MeasPost (m n : Nat) (E : Nat → Nat → Bool) (w : World) (e : Ending) (w' : World) : Prop :=
  ∃ g, w.heap.size ≤ g ∧ e = .returned (lenV (n + 1) g ((m + 1) * (n + 1))) ∧ TabM m n E g 0 w' ∧ Below w.heap.size w w'

set_option maxRecDepth 20000 in
set_option maxHeartbeats 8000000 in
theorem measure_any (a1 a2 : Option Addr) (c1 c2 : Nat) (A B : List Nat) (E : Nat → Nat → Bool) (w : World) (hA : IS w a1 A) (hB : IS w a2 B) (hm : A.length ≤ 1500) (hn : B.length ≤ 1500)
    (hE : ∀ i j (hi : i < A.length) (hj : j < B.length), E i j = true ↔ A[i] = B[j]) :
    Calls Tryz.prog 110 #[.slice a1 A.length c1, .slice a2 B.length c2] w fun e w' => MeasPost A.length B.length E w e w' := by
  obtain ⟨i0, hi, hz0, hz1, hz2⟩ := info_parts Tryz.infoU16
  obtain ⟨N, hN⟩ : ∃ N, N = (A.length + 1) * (B.length + 1) := ⟨_, rfl⟩
  have hNl : N ≤ 2253001 := by
    rw [hN]
    exact Nat.le_trans (Nat.mul_le_mul (show A.length + 1 ≤ 1501 by omega) (show B.length + 1 ≤ 1501 by omega)) (by decide)
  have hNI : ((A.length : Int) + 1) * ((B.length : Int) + 1) = (N : Int) := by rw [hN]; push_cast; rfl
  have HN : NKeep (N = (A.length + 1) * (B.length + 1)) := ⟨hN⟩
  clear hN
  go_enter Tryz.func110, Tryz.ntmps110
  go_wp2_with (at_make; refine wpList_make_full _ rfl _ _ 151 rfl (w.heap.size + 1) 169 i0 _ 1 Tryz.underlying151 hi hz0 hz1 .i64 .i64 _ _ N rfl rfl rfl rfl (by rw [hz2]; omega) (by unfold maxLen; omega) (by simp) ?_; intro w1 hown1 hgrow1)
  rw [World.size_alloc] at hown1
  have hs1 : w.heap.size + 1 + 1 ≤ w1.heap.size := by have := own_lt hown1 (g := w.heap.size + 1) rfl; omega
  obtain ⟨tb, htb⟩ : ∃ tb, w1.heap.size = tb := ⟨_, rfl⟩
  have hB0 : Below w.heap.size w w1 := ((Below.refl _ _).alloc (Nat.le_refl _) _).grown hgrow1 (by simp) (fun k e => by cases e)
  have hRo : w1.heap[w.heap.size]? = some (.cells #[.int .i64 0, .slice none 0 0] 153) := (hgrow1.block w.heap.size (by simp) (by simp)).trans (heap_alloc_new w _)
  obtain ⟨W0, hW0⟩ : ∃ W0, w1.alloc (.cells #[.int .i64 ((B.length : Int) + 1), .slice (some ⟨w.heap.size + 1, 0, none⟩) N N] 153) = W0 := ⟨_, rfl⟩
  have hWt : W0.heap[tb]? = some (.cells #[.int .i64 ((B.length : Int) + 1), .slice (some ⟨w.heap.size + 1, 0, none⟩) N N] 153) := by rw [← hW0, ← htb]; exact heap_alloc_new w1 _
  have hWr : W0.heap[w.heap.size]? = some (.cells #[.int .i64 0, .slice none 0 0] 153) := by rw [← hW0]; exact (Below.heap_alloc _ _ _ (by omega)).trans hRo
  have hBW : Below w.heap.size w W0 := by rw [← hW0]; exact hB0.alloc hB0.size _
  have hT0 : TabM A.length B.length E (w.heap.size + 1) (A.length * (B.length + 1)) W0 := by
    unfold TabM
    rw [← HN.out, ← cellsF_zero (flat A.length B.length E) N _ (fun k h1 h2 => by
      have hk : k / (B.length + 1) = A.length := by
        rw [HN.out] at h2
        rw [Nat.div_eq_iff (by omega)]
        rw [Nat.add_mul] at h2
        omega
      unfold flat
      rw [hk, lcs_m])]
    have e : (madeCells (Value.int .u16 0).cells (N * 1)).toList = List.replicate N (Value.int .u16 0) := by
      rw [Nat.mul_one]
      exact toList_madeCells_one _ _
    rw [e] at hown1
    rw [← hW0]
    exact hown1.alloc _
  rw [htb]
  rw [hW0]
  have hg0 : W0.grownBy W0 (some (w.heap.size + 1)) := ⟨rfl, rfl, rfl, Nat.le_refl _, fun _ _ _ => rfl⟩
  have htb2 : w.heap.size + 1 < tb := by omega
  have htW : tb < W0.heap.size := (Array.getElem?_eq_some_iff.1 hWt).1
  clear hown1 hgrow1 hB0 hRo hW0 hs1 htb
  go_loopw [6] (fun i wr => ∃ q : Nat, q ≤ A.length ∧ i = .int .i64 ((q : Int) - 1) ∧ NKeep (TabM A.length B.length E (w.heap.size + 1) (q * (B.length + 1)) wr) ∧ NKeep (W0.grownBy wr (some (w.heap.size + 1)))) (fun i _ => (intOf i + 1).toNat)
  case atStart => exact ⟨A.length, Nat.le_refl _, rfl, ⟨hT0⟩, ⟨hg0⟩⟩
  case round =>
    obtain ⟨q, hq, rfl, HT, HG⟩ := hrel
    have hcell : ∀ (W : World), W0.grownBy W (some (w.heap.size + 1)) → (W.cell? ⟨tb, 0, none⟩ = some (.int .i64 ((B.length : Int) + 1)) ∧ W.cell? ⟨tb, 1, none⟩ = some (.slice (some ⟨w.heap.size + 1, 0, none⟩) N N) ∧ W.cell? ⟨w.heap.size, 0, none⟩ = some (.int .i64 0) ∧ W.cell? ⟨w.heap.size, 1, none⟩ = some (.slice none 0 0) ∧ W.frozen? ⟨w.heap.size, 0, none⟩ = false ∧ W.frozen? ⟨w.heap.size, 1, none⟩ = false) := fun W hg => by
      have e1 := (hg.block tb htW (by simp; omega)).trans hWt
      have e2 := (hg.block w.heap.size (by omega) (by simp)).trans hWr
      simp [World.cell?, World.frozen?, e1, e2]
    have hbel : ∀ (W : World), W0.grownBy W (some (w.heap.size + 1)) → Below w.heap.size w W := fun W hg => hBW.grown hg hBW.size (fun k e => by cases e; omega)
    rcases Nat.eq_zero_or_pos q with h0 | h0
    · subst h0
      obtain ⟨x0, x1, x2, x3, x4, x5⟩ := hcell wr HG.out
      go_wp2
      refine bodyPost_ret (v := lenV (B.length + 1) (w.heap.size + 1) N) ?_ rfl ?_
      · have z0 : (wr.setCell ⟨w.heap.size, 0, none⟩ (.int .i64 ((B.length : Int) + 1))).cell? ⟨w.heap.size, 0, none⟩ = some (.int .i64 ((B.length : Int) + 1)) := World.cell?_setCell_same' _ _ _ (by rw [x2]; rfl)
        obtain ⟨v1, hv1⟩ := cell?_setCell_some (p := ⟨w.heap.size, 0, none⟩) (x := .int .i64 ((B.length : Int) + 1)) x3
        have z1 : ((wr.setCell ⟨w.heap.size, 0, none⟩ (.int .i64 ((B.length : Int) + 1))).setCell ⟨w.heap.size, 1, none⟩ (.slice (some ⟨w.heap.size + 1, 0, none⟩) N N)).cell? ⟨w.heap.size, 1, none⟩ = some (.slice (some ⟨w.heap.size + 1, 0, none⟩) N N) := World.cell?_setCell_same' _ _ _ (by rw [hv1]; rfl)
        simp [results, Tryz.f110, go_sem, lenV, z0, z1, Result.andThen]
      · refine ⟨w.heap.size + 1, by omega, by rw [HN.out], ?_, ?_⟩
        · have h := HT.out
          rw [Nat.zero_mul] at h
          exact row_else (row_else h (by omega) _) (by omega) _
        · exact ((hbel wr HG.out).setCell (p := ⟨w.heap.size, 0, none⟩) (Nat.le_refl _) _).setCell (p := ⟨w.heap.size, 1, none⟩) (Nat.le_refl _) _
    · obtain ⟨p, rfl⟩ : ∃ p, q = p + 1 := ⟨q - 1, by omega⟩
      obtain ⟨x0, x1, x2, x3, x4, x5⟩ := hcell wr HG.out
      have hrw : ∀ (i : Nat) (W : World), i ≤ A.length → Calls Tryz.prog 127 #[.agg #[.int .i64 ((B.length : Int) + 1), .slice (some ⟨w.heap.size + 1, 0, none⟩) N N], .int .i64 (i : Int)] W fun e w' => e = .returned (.slice (some ⟨w.heap.size + 1, i * (B.length + 1), none⟩) (B.length + 1) (N - i * (B.length + 1))) ∧ Below W.heap.size W w' := fun i W hi => by
        have := row_any (B.length + 1) (w.heap.size + 1) N i W (by omega) (by rw [HN.out]; exact Nat.mul_le_mul_right _ (by omega)) (by omega)
        exact this
      rw [show (((p + 1 : Nat) : Int) - 1) = (p : Int) by omega]
      have HX : ∀ x : Later wr, x.world.cell? ⟨tb, 0, none⟩ = some (.int .i64 ((B.length : Int) + 1)) ∧ x.world.cell? ⟨tb, 1, none⟩ = some (.slice (some ⟨w.heap.size + 1, 0, none⟩) N N) := fun x => ⟨cell_later x.kept x0, cell_later x.kept x1⟩
      have hx0 := fun x => (HX x).1
      have hx1 := fun x => (HX x).2
      have HC : NKeep (∀ (x : Later wr) (z : Int), 0 ≤ z → z ≤ A.length → Calls Tryz.prog 127 #[.agg #[.int .i64 ((B.length : Int) + 1), .slice (some ⟨w.heap.size + 1, 0, none⟩) N N], .int .i64 z] x.world fun e w'' => e = .returned (rowV (w.heap.size + 1) N (B.length + 1) z) ∧ ∃ y : Later wr, w'' = y.world) := ⟨fun x z h1 h2 => by
        obtain ⟨k, rfl⟩ := Int.eq_ofNat_of_zero_le h1
        exact x.call (hrw k x.world (by omega))⟩
      clear HX hrw x0 x1 x2 x3 x4 x5
      go_wp2
      (haveI := later_any; refine wp_region_later (by kernel_rfl) (by kernel_rfl) ?_; (repeat (go_big_quiet_step ((go_at_call 127; exact HC.out _ _ (by omega) (by omega))))); refine wpQuiet_nil ?_; intro _ hwq; obtain ⟨xq, hwq2⟩ := hwq; subst hwq2)
      obtain ⟨P1, hP1⟩ : ∃ P1, P1 = p * (B.length + 1) := ⟨_, rfl⟩
      have hP2 : (p + 1) * (B.length + 1) = P1 + (B.length + 1) := by rw [Nat.add_mul, Nat.one_mul, hP1]
      have hPN : P1 + (B.length + 1) + (B.length + 1) ≤ N := by
        rw [HN.out, hP1]
        have : (p + 1 + 1) * (B.length + 1) ≤ (A.length + 1) * (B.length + 1) := Nat.mul_le_mul_right _ (by omega)
        rw [Nat.add_mul, Nat.add_mul, Nat.one_mul] at this
        omega
      have hv1 : rowV (w.heap.size + 1) N (B.length + 1) (p : Int) = .slice (some ⟨w.heap.size + 1, P1, none⟩) (B.length + 1) (N - P1) := by unfold rowV; rw [Int.toNat_natCast, hP1]
      have hv2 : rowV (w.heap.size + 1) N (B.length + 1) ((p : Int) + 1) = .slice (some ⟨w.heap.size + 1, P1 + (B.length + 1), none⟩) (B.length + 1) (N - (P1 + (B.length + 1))) := by
        unfold rowV
        rw [show ((p : Int) + 1).toNat = p + 1 by omega, hP2]
      rw [hv1, hv2]
      have HPP : NKeep (P1 = p * (B.length + 1) ∧ (p + 1) * (B.length + 1) = P1 + (B.length + 1)) := ⟨hP1, hP2⟩
      have HT1 : NKeep (TabM A.length B.length E (w.heap.size + 1) (P1 + B.length) xq.world) := ⟨by
        have h := HT.out
        unfold TabM at h ⊢
        rw [hP2, ← Nat.add_assoc, cellsF_skip _ _ _ (by rw [hP1, flat_at _ _ _ _ _ (Nat.le_refl _), lcs_n])] at h
        exact owns_below h xq.kept⟩
      have HG1 : NKeep (W0.grownBy xq.world (some (w.heap.size + 1))) := ⟨grown_then HG.out (⟨xq.kept.os, xq.kept.tape, xq.kept.output, xq.kept.size, fun k hk _ => xq.kept.block k hk⟩ : wr.grownBy xq.world none) (fun g e => by cases e)⟩
      clear hv1 hv2 HC hx0 hx1 hP1 hP2
      generalize xq.world = wq at *
      go_wp2
      go_loopw [9] (fun j wi => ∃ r : Nat, r ≤ B.length ∧ j = .int .i64 ((r : Int) - 1) ∧ NKeep (TabM A.length B.length E (w.heap.size + 1) (P1 + r) wi) ∧ NKeep (W0.grownBy wi (some (w.heap.size + 1)))) (fun j _ => (intOf j + 1).toNat)
      case atStart => exact ⟨B.length, Nat.le_refl _, rfl, HT1, HG1⟩
      case round =>
        obtain ⟨r, hr, rfl, HTi, HGi⟩ := hrel
        rcases Nat.eq_zero_or_pos r with h0 | h0
        · subst h0
          go_wp2
          go_roundw
          case rel => exact ⟨p, by omega, by go_num, ⟨by have := HTi.out; rw [HPP.out.1] at this; exact this⟩, HGi⟩
          case measure => simp [intOf]
        · obtain ⟨s, rfl⟩ : ∃ s, r = s + 1 := ⟨r - 1, by omega⟩
          rw [show (((s + 1 : Nat) : Int) - 1) = (s : Int) by omega]
          have hbl := hbel wr HGi.out
          obtain ⟨b1, o1, rfl, d1⟩ := hA.at (k := p) (by omega)
          obtain ⟨b2, o2, rfl, d2⟩ := hB.at (k := s) (by omega)
          have y1 := cell_later hbl (d1 p (by omega))
          have y2 := cell_later hbl (d2 s (by omega))
          have t1 : wr.cell? ⟨w.heap.size + 1, P1 + (B.length + 1) + (s + 1), none⟩ = some (.int .u16 ((lcs A.length B.length E (p + 1) (s + 1) : Nat) : Int)) := by
            have := HTi.out.cell (i := p + 1) (j := s + 1) (by omega) (by omega) (by rw [HPP.out.2]; omega)
            rwa [HPP.out.2] at this
          have t2 : wr.cell? ⟨w.heap.size + 1, P1 + (B.length + 1) + s, none⟩ = some (.int .u16 ((lcs A.length B.length E (p + 1) s : Nat) : Int)) := by
            have := HTi.out.cell (i := p + 1) (j := s) (by omega) (by omega) (by rw [HPP.out.2]; omega)
            rwa [HPP.out.2] at this
          have t3 : wr.cell? ⟨w.heap.size + 1, P1 + (s + 1), none⟩ = some (.int .u16 ((lcs A.length B.length E p (s + 1) : Nat) : Int)) := by
            have := HTi.out.cell (i := p) (j := s + 1) (by omega) (by omega) (by rw [← HPP.out.1]; exact Nat.le_refl _)
            rwa [← HPP.out.1] at this
          have f0 : wr.frozen? ⟨w.heap.size + 1, P1 + s, none⟩ = false := World.ownsRow.frozenAt HTi.out (P1 + s)
          obtain ⟨u0, t0⟩ : ∃ u, wr.cell? ⟨w.heap.size + 1, P1 + s, none⟩ = some u := by
            refine ⟨_, (World.ownsRow.cellAt HTi.out (P1 + s) (by rw [← HN.out]; omega)).trans (cellsF_get _ (by rw [← HN.out]; omega))⟩
          have hst : TabM A.length B.length E (w.heap.size + 1) (P1 + s) (wr.setCell ⟨w.heap.size + 1, P1 + s, none⟩ (.int .u16 ((lcs A.length B.length E p s : Nat) : Int))) := by
            have := (World.ownsRow.stored HTi.out (P1 + s) (.int .u16 ((lcs A.length B.length E p s : Nat) : Int))).1
            rw [show P1 + (s + 1) = P1 + s + 1 by omega, show lcs A.length B.length E p s = flat A.length B.length E (P1 + s) by rw [HPP.out.1, flat_at _ _ _ _ _ (by omega)], cellsF_set] at this
            rw [show lcs A.length B.length E p s = flat A.length B.length E (P1 + s) by rw [HPP.out.1, flat_at _ _ _ _ _ (by omega)]]
            exact this
          have HST : NKeep (∀ v, v = Value.int .u16 ((lcs A.length B.length E p s : Nat) : Int) → TabM A.length B.length E (w.heap.size + 1) (P1 + s) (wr.setCell ⟨w.heap.size + 1, P1 + s, none⟩ v)) := ⟨fun v hv => by rw [hv]; exact hst⟩
          have HGs : NKeep (∀ v, W0.grownBy (wr.setCell ⟨w.heap.size + 1, P1 + s, none⟩ v) (some (w.heap.size + 1))) := ⟨fun v => grown_then HGi.out (⟨rfl, rfl, rfl, by simp, fun k _ hne => Below.heap_setCell wr _ v k fun e => hne (by rw [e])⟩ : wr.grownBy (wr.setCell ⟨w.heap.size + 1, P1 + s, none⟩ v) (some (w.heap.size + 1))) (fun g e => .inl e)⟩
          have l1 := lcs_le1 A.length B.length E (p + 1) (s + 1)
          have HE := hE p s (by omega) (by omega)
          have HLS := lcs_step E (show p < A.length by omega) (show s < B.length by omega)
          clear hst d1 d2
          by_cases he : E p s = true
          · rw [if_pos he] at HLS
            have hab := HE.1 he
            have habI : ((A[p] : Nat) : Int) = ((B[s] : Nat) : Int) := by rw [hab]
            have HL : NKeep (lcs A.length B.length E p s = lcs A.length B.length E (p + 1) (s + 1) + 1) := ⟨HLS⟩
            clear HE HLS he hab hE
            generalize lcs A.length B.length E (p + 1) (s + 1) = L1 at *
            have hw1 : IntKind.u16.wrap ((L1 : Int) + 1) = (L1 : Int) + 1 := by rw [show ∀ z, IntKind.u16.wrap z = z % 65536 from fun _ => rfl]; omega
            go_wp2
            go_region
            all_goals (try go_wp2)
            go_roundw
            case rel => exact ⟨s, by omega, by go_num, ⟨HST.out _ (by rw [HL.out]; rfl)⟩, ⟨(HGs.out _).draw⟩⟩
            case measure => simp [intOf]
          · rw [if_neg he] at HLS
            have hab : ¬ ((A[p] : Nat) : Int) = ((B[s] : Nat) : Int) := fun h => he (HE.2 (by omega))
            have hab' : (((A[p] : Nat) : Int) == ((B[s] : Nat) : Int)) = false := by simpa using hab
            have HL : NKeep (lcs A.length B.length E p s = max (lcs A.length B.length E (p + 1) s) (lcs A.length B.length E p (s + 1))) := ⟨HLS⟩
            clear HE HLS he hE t1
            generalize lcs A.length B.length E (p + 1) s = L2 at *
            generalize lcs A.length B.length E p (s + 1) = L3 at *
            go_wp2
            go_region
            all_goals (try go_wp2)
            go_region
            all_goals (try go_wp2)
            go_roundw
            case rel => exact ⟨s, by omega, by go_num, ⟨HST.out _ (by rw [HL.out]; split <;> (congr 1; omega))⟩, ⟨(HGs.out _).draw.draw⟩⟩
            case measure => simp [intOf]
end Go.Proofs.YtjiafjdjocmodaaGreat
